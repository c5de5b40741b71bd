/- Definitions that a function builds one by one, by append; bodies and kids in rows of their own kind. -/
import Derived.Test.YtiobjkmpeiohdaaAwake
import Derived.Deep.AppendLies
namespace Go.Proofs.Ytiobjkmpeiohdaa
open Go.RowKit
set_option linter.unusedVariables false

theorem Try.info36 : (Try.prog.info? 36).map (fun i => (i.zero, i.size, i.bytes)) = some (some (.agg #[.int .i64 0, .slice none 0 0]), 2, 32) := by kernel_rfl
/-- Numbers in a row of numbers. -/
def NumsT (w : World) (g : Option Addr) (ks : List Int) : Prop :=
  ks = [] ∨ ∃ b cs, g = some ⟨b, 0, none⟩ ∧ w.heap[b]? = some (.cells cs 3 (0, 0)) ∧ ∀ (j : Nat) x, ks[j]? = some x → cs[j]? = some (.int .i64 x)
/-- The part at this place of a row. -/
def ExT (w : World) (cs : Array Value) (j : Nat) (x : Ex) : Prop :=
  ∃ gk ck, cs[j * 4]? = some (.int .i64 x.kind) ∧ cs[j * 4 + 1]? = some (.int .i64 x.num) ∧ cs[j * 4 + 2]? = some (.int .i64 x.bind) ∧ cs[j * 4 + 3]? = some (.slice gk x.kids.length ck) ∧ NumsT w gk x.kids
/-- Parts in a row of parts. -/
def ExsT (w : World) (g : Option Addr) (xs : List Ex) : Prop :=
  xs = [] ∨ ∃ b cs, g = some ⟨b, 0, none⟩ ∧ Rw w b cs ∧ ∀ (j : Nat) x, xs[j]? = some x → ExT w cs j x
theorem NumsT.nums {w : World} {g : Option Addr} {ks : List Int} (h : NumsT w g ks) : Nums w g ks := by
  rcases h with h | ⟨b, cs, h1, h2, h3⟩
  · exact Or.inl h
  · refine Or.inr ⟨b, 0, h1, (Array.getElem?_eq_some_iff.1 h2).1, fun j x hx => ?_⟩
    unfold World.cell?
    simp only [h2, Nat.zero_add]
    exact h3 j x hx
theorem ExsT.exs {w : World} {g : Option Addr} {xs : List Ex} (h : ExsT w g xs) : Exs w g xs := by
  rcases h with h | ⟨b, cs, h1, h2, h3⟩
  · exact Or.inl h
  · refine Or.inr ⟨b, 0, h1, h2.lt, fun j x hx => ?_⟩
    obtain ⟨gk, ck, a0, a1, a2, a3, a4⟩ := h3 j x hx
    rw [Nat.zero_add]
    exact ⟨gk, ck, h2.cell _ _ a0, h2.cell _ _ a1, h2.cell _ _ a2, h2.cell _ _ a3, a4.nums⟩
/-- Only a row of definitions has been turned, if any. -/
def Only36 (w : World) (row : Option Nat) : Prop := ∀ b, row = some b → b < w.heap.size → ∃ cs fr, w.heap[b]? = some (.cells cs 36 fr)
theorem only_none (w : World) : Only36 w none := fun b h => by cases h
theorem only_own {w : World} {base n : Nat} {v : Value} {xs : List Value} (h : w.ownsRow base 36 2 v n xs) : Only36 w v.ownBlock := by
  intro b hb _
  rcases h.2 with ⟨rfl, _⟩ | ⟨g, cap, cur, rfl, _, hg, _⟩
  · cases hb
  · cases hb; exact ⟨cur, (0, 0), hg⟩
theorem only_ne {w : World} {row : Option Nat} (h : Only36 w row) {b : Nat} {cs : Array Value} {t : TypeId} (hb : w.heap[b]? = some (.cells cs t (0, 0))) (ht : t ≠ 36) : some b ≠ row := by
  intro e
  obtain ⟨cs', fr, h'⟩ := h b e.symm (Array.getElem?_eq_some_iff.1 hb).1
  rw [hb] at h'
  cases h'
  exact ht rfl
theorem NumsT.kept {w w' : World} {g : Option Addr} {ks : List Int} {row : Option Nat} (h : NumsT w g ks) (hg : w.grownBy w' row) (hr : Only36 w row) : NumsT w' g ks := by
  rcases h with h | ⟨b, cs, h1, h2, h3⟩
  · exact Or.inl h
  · exact Or.inr ⟨b, cs, h1, (hg.block b (Array.getElem?_eq_some_iff.1 h2).1 (only_ne hr h2 (by decide))).trans h2, h3⟩
theorem ExT.kept {w w' : World} {cs : Array Value} {j : Nat} {x : Ex} {row : Option Nat} (h : ExT w cs j x) (hg : w.grownBy w' row) (hr : Only36 w row) : ExT w' cs j x := by
  obtain ⟨gk, ck, a0, a1, a2, a3, a4⟩ := h
  exact ⟨gk, ck, a0, a1, a2, a3, a4.kept hg hr⟩
theorem ExsT.kept {w w' : World} {g : Option Addr} {xs : List Ex} {row : Option Nat} (h : ExsT w g xs) (hg : w.grownBy w' row) (hr : Only36 w row) : ExsT w' g xs := by
  rcases h with h | ⟨b, cs, h1, h2, h3⟩
  · exact Or.inl h
  · exact Or.inr ⟨b, cs, h1, (hg.block b h2.lt (only_ne hr h2 (by decide))).trans h2, fun j x hx => (h3 j x hx).kept hg hr⟩
theorem ExsT.on {w w' : World} {g : Option Addr} {xs : List Ex} (h : ExsT w g xs) (hb : Below w.heap.size w w') : ExsT w' g xs := h.kept (grown_of_below hb none) (only_none w)
theorem ExsT.alloc {w : World} {g : Option Addr} {xs : List Ex} (h : ExsT w g xs) (o : Obj) : ExsT (w.alloc o) g xs := h.on ((Below.refl _ w).alloc (Nat.le_refl _) o)
theorem Lv.numsT {w : World} {b : Nat} {L : List Int} (h : Lv w b L) : NumsT w (some ⟨b, 0, none⟩) L :=
  Or.inr ⟨b, _, rfl, h, fun j x hx => by simp [hx]⟩
theorem numsT_nil (w : World) (g : Option Addr) : NumsT w g [] := Or.inl rfl
/-- These cells are these parts. -/
def RowT (w : World) : List Value → List Ex → Prop
  | [], [] => True
  | v0 :: v1 :: v2 :: v3 :: vs, x :: xs => v0 = .int .i64 x.kind ∧ v1 = .int .i64 x.num ∧ v2 = .int .i64 x.bind ∧ (∃ g c, v3 = .slice g x.kids.length c ∧ NumsT w g x.kids) ∧ RowT w vs xs
  | _, _ => False
theorem RowT.at {w : World} : ∀ {cs : List Value} {xs : List Ex}, RowT w cs xs → ∀ (j : Nat) x, xs[j]? = some x →
    ∃ gk ck, cs[j * 4]? = some (.int .i64 x.kind) ∧ cs[j * 4 + 1]? = some (.int .i64 x.num) ∧ cs[j * 4 + 2]? = some (.int .i64 x.bind) ∧ cs[j * 4 + 3]? = some (.slice gk x.kids.length ck) ∧ NumsT w gk x.kids
  | [], [], _, j, x, hx => by simp at hx
  | v0 :: v1 :: v2 :: v3 :: vs, y :: xs, ⟨h0, h1, h2, ⟨g, c, h3, hn⟩, hr⟩, 0, x, hx => by
    have : y = x := by simpa using hx
    subst this
    exact ⟨g, c, by rw [h0]; rfl, by rw [h1]; rfl, by rw [h2]; rfl, by rw [h3]; rfl, hn⟩
  | v0 :: v1 :: v2 :: v3 :: vs, y :: xs, ⟨_, _, _, _, hr⟩, j + 1, x, hx => by
    obtain ⟨gk, ck, a0, a1, a2, a3, a4⟩ := hr.at j x (by simpa using hx)
    have e : ∀ i, (v0 :: v1 :: v2 :: v3 :: vs)[(j + 1) * 4 + i]? = vs[j * 4 + i]? := fun i => by
      rw [show (j + 1) * 4 + i = (j * 4 + i) + 1 + 1 + 1 + 1 by omega]; simp
    exact ⟨gk, ck, by rw [← Nat.add_zero ((j + 1) * 4), e]; exact a0, by rw [e]; exact a1, by rw [e]; exact a2, by rw [e]; exact a3, a4⟩
theorem exsT_of_row {w : World} {b : Nat} {cs : Array Value} {xs : List Ex} (h : Rw w b cs) (hr : RowT w (cs.toList.take (xs.length * 4)) xs) : ExsT w (some ⟨b, 0, none⟩) xs := by
  refine Or.inr ⟨b, cs, rfl, h, fun j x hx => ?_⟩
  have key : ∀ i v, (cs.toList.take (xs.length * 4))[i]? = some v → cs[i]? = some v := fun i v hv => by
    rw [List.getElem?_take] at hv
    split at hv
    · simpa using hv
    · cases hv
  obtain ⟨gk, ck, a0, a1, a2, a3, a4⟩ := hr.at j x hx
  exact ⟨gk, ck, key _ _ a0, key _ _ a1, key _ _ a2, key _ _ a3, a4⟩
theorem AddsAt.exsT {w : World} {B : Nat} (h : AddsAt w B) : ExsT w (some ⟨B + 4, 0, none⟩) addsL :=
  exsT_of_row h.body ⟨rfl, rfl, rfl, ⟨_, _, rfl, numsT_nil _ _⟩, rfl, rfl, rfl, ⟨_, _, rfl, numsT_nil _ _⟩, rfl, rfl, rfl, ⟨_, _, rfl, numsT_nil _ _⟩, rfl, rfl, rfl, ⟨_, _, rfl, h.k1.numsT⟩, rfl, rfl, rfl, ⟨_, _, rfl, numsT_nil _ _⟩, rfl, rfl, rfl, ⟨_, _, rfl, numsT_nil _ _⟩, rfl, rfl, rfl, ⟨_, _, rfl, h.k2.numsT⟩, rfl, rfl, rfl, ⟨_, _, rfl, h.k3.numsT⟩, trivial⟩
theorem SmallAt.mainT {w : World} {B : Nat} (h : SmallAt w B) : ExsT w (some ⟨B + 3, 0, none⟩) mainL :=
  exsT_of_row h.main ⟨rfl, rfl, rfl, ⟨_, _, rfl, numsT_nil _ _⟩, rfl, rfl, rfl, ⟨_, _, rfl, numsT_nil _ _⟩, rfl, rfl, rfl, ⟨_, _, rfl, h.k1.numsT⟩, rfl, rfl, rfl, ⟨_, _, rfl, numsT_nil _ _⟩, rfl, rfl, rfl, ⟨_, _, rfl, h.k2.numsT⟩, trivial⟩

/-- A definition with where its body lies. -/
abbrev Dt := Df × Option Addr × Nat
def c2 (q : Dt) : List Value := [.int .i64 q.1.params, .slice q.2.1 q.1.body.length q.2.2]
theorem len_c2 : ∀ (qs : List Dt), (qs.flatMap c2).length = qs.length * 2
  | [] => rfl
  | q :: qs => by rw [List.flatMap_cons, List.length_append, len_c2 qs, List.length_cons]; simp [c2]; omega
theorem one_c2 (qs : List Dt) : ∀ u ∈ qs.flatMap c2, u.oneCell' = true := by
  intro u hu
  obtain ⟨p, _, hp⟩ := List.mem_flatMap.1 hu
  simp only [c2, List.mem_cons, List.not_mem_nil, or_false] at hp
  rcases hp with rfl | rfl <;> rfl
theorem at_c2 : ∀ (qs : List Dt) (j : Nat) (q : Dt), qs[j]? = some q → (qs.flatMap c2)[j * 2]? = some (.int .i64 q.1.params) ∧ (qs.flatMap c2)[j * 2 + 1]? = some (.slice q.2.1 q.1.body.length q.2.2)
  | [], j, q, h => by simp at h
  | p :: qs, 0, q, h => by
    have : p = q := by simpa using h
    subst this
    exact ⟨rfl, rfl⟩
  | p :: qs, j + 1, q, h => by
    obtain ⟨h0, h1⟩ := at_c2 qs j q (by simpa using h)
    have e : ∀ i, ((p :: qs).flatMap c2)[(j + 1) * 2 + i]? = (qs.flatMap c2)[j * 2 + i]? := fun i => by
      rw [List.flatMap_cons, show (j + 1) * 2 + i = (j * 2 + i) + 1 + 1 by omega]; simp [c2]
    exact ⟨by rw [← Nat.add_zero ((j + 1) * 2), e]; exact h0, by rw [e]; exact h1⟩
/-- Definitions that are being built. -/
structure Pd (W : World) (base : Nat) (v : Value) (qs : List Dt) : Prop where
  own : W.ownsRow base 36 2 v qs.length (qs.flatMap c2)
  bodies : ∀ q ∈ qs, ExsT W q.2.1 q.1.body
theorem Pd.nil (W : World) (base : Nat) : Pd W base (.slice none 0 0) [] := ⟨World.ownsRow_nil _ _ _ _, fun p hp => by cases hp⟩
theorem Pd.kept {W W' : World} {base : Nat} {v : Value} {qs : List Dt} {row : Option Nat} (h : Pd W base v qs) (hg : W.grownBy W' row) (hr : Only36 W row) (hv : v.ownBlock = none ∨ v.ownBlock ≠ row) : Pd W' base v qs :=
  ⟨h.own.kept hg hv, fun q hq => (h.bodies q hq).kept hg hr⟩
theorem Pd.on {W W' : World} {base : Nat} {v : Value} {qs : List Dt} (h : Pd W base v qs) (hb : Below W.heap.size W W') : Pd W' base v qs := by
  refine h.kept (grown_of_below hb none) (only_none W) ?_
  cases v.ownBlock with
  | none => exact .inl rfl
  | some k => exact .inr (by simp)
theorem Pd.alloc {W : World} {base : Nat} {v : Value} {qs : List Dt} (h : Pd W base v qs) (o : Obj) : Pd (W.alloc o) base v qs := h.on ((Below.refl _ W).alloc (Nat.le_refl _) o)
theorem Pd.val {W : World} {base : Nat} {v : Value} {qs : List Dt} (h : Pd W base v qs) : ∃ g c, v = .slice g qs.length c := by
  rcases h.own.2 with ⟨h2, h3⟩ | ⟨g, cap, cur, hv, _⟩
  · exact ⟨_, _, by rw [h3]; exact h2⟩
  · exact ⟨_, _, hv⟩
theorem Pd.not_box {W : World} {base z : Nat} {v u : Value} {qs : List Dt} (h : Pd W base v qs) (hx : Bx1 W z u) : some z ≠ v.ownBlock := only_ne (only_own h.own) hx (by decide)
/-- Something is done in a program's box. -/
theorem Pd.far {W : World} {base : Nat} {v : Value} {qs : List Dt} (h : Pd W base v qs) {z : Nat} {u0 : Value} (hx : Bx1 W z u0) (j : Nat) (u : Value) : Pd (W.setCell ⟨z, j, none⟩ u) base v qs := by
  have hne : ∀ {b : Nat} {cs : Array Value} {t : TypeId}, W.heap[b]? = some (.cells cs t (0, 0)) → t ≠ 24 → b ≠ z := fun {b cs t} hb ht e => by
    subst e
    have := hb.symm.trans hx
    cases this
    exact ht rfl
  have kt : ∀ {g : Option Addr} {ks : List Int}, NumsT W g ks → NumsT (W.setCell ⟨z, j, none⟩ u) g ks := fun {g ks} hk => by
    rcases hk with hk | ⟨b, cs, h1, h2, h3⟩
    · exact Or.inl hk
    · exact Or.inr ⟨b, cs, h1, (Below.heap_setCell W _ _ b (hne h2 (by decide))).trans h2, h3⟩
  refine ⟨h.own.kept (grown_set W z j u) ?_, fun q hq => ?_⟩
  · exact .inr fun e => h.not_box hx e.symm
  · rcases h.bodies q hq with hk | ⟨b, cs, h1, h2, h3⟩
    · exact Or.inl hk
    · refine Or.inr ⟨b, cs, h1, h2.other j u (hne h2 (by decide)), fun i x hx => ?_⟩
      obtain ⟨gk, ck, a0, a1, a2, a3, a4⟩ := h3 i x hx
      exact ⟨gk, ck, a0, a1, a2, a3, kt a4⟩
theorem Pd.defs {W : World} {base : Nat} {g : Option Addr} {c : Nat} {qs : List Dt} (h : Pd W base (.slice g qs.length c) qs) : Defs Exs W g (qs.map (·.1)) := by
  rcases h.own.2 with ⟨_, h3⟩ | ⟨b, cap, cur, hv, _, hh, _⟩
  · exact Or.inl (by rw [List.length_eq_zero_iff.1 h3]; rfl)
  · simp at hv
    obtain ⟨rfl, _⟩ := hv
    refine Or.inr ⟨b, 0, rfl, (Array.getElem?_eq_some_iff.1 hh).1, fun j d hd => ?_⟩
    rw [List.getElem?_map] at hd
    cases hq : qs[j]? with
    | none => rw [hq] at hd; cases hd
    | some q =>
      rw [hq] at hd
      cases hd
      obtain ⟨k0, k1⟩ := at_c2 qs j q hq
      have h0 := h.own.cells (g := b) rfl _ _ k0
      have h1 := h.own.cells (g := b) rfl _ _ k1
      rw [Addr.add_lit] at h0 h1
      refine ⟨q.2.1, q.2.2, h0, ?_, (h.bodies q (List.mem_of_getElem? hq)).exs⟩
      rw [Nat.add_assoc]; exact h1
/-- Behind an append of one. -/
theorem Pd.next {W w' : World} {base : Nat} {v v' : Value} {qs : List Dt} {q : Dt} (h : Pd W base v qs) (hq : ExsT W q.2.1 q.1.body) (hown : w'.ownsRow base 36 2 v' (qs.length + 1) (qs.flatMap c2 ++ c2 q)) (hg : W.grownBy w' v.ownBlock) : Pd w' base v' (qs ++ [q]) := by
  refine ⟨by rw [List.length_append, List.flatMap_append]; simpa using hown, fun p hp => ?_⟩
  rcases List.mem_append.1 hp with hp | hp
  · exact (h.bodies p hp).kept hg (only_own h.own)
  · rw [List.mem_singleton] at hp; subst hp; exact hq.kept hg (only_own h.own)
/-- A definition is put behind the others. -/
theorem app_df {W : World} {ops : Array Oper} {rest : List Oper} {o : Oper} {a : Act} {Q : Exit → Act → World → Prop} (hgd : o.guard = none) (s x : Operand)
    (ho : o.op = .call { callee := .builtin .append, args := #[s, x], argTypes := #[22, 22] }) (base : Nat) (v : Value) (qs : List Dt) (q : Dt) (cs : Array Value) (hcs : cs.toList = c2 q) (hs : a.eval s = v) (z : Nat) (hz : W.heap.size = z) (hx : a.eval x = .slice (some ⟨z, 0, none⟩) 1 1)
    (hpd : Pd W base v qs) (hq : ExsT W q.2.1 q.1.body) (hb : base ≤ W.heap.size) (hlen : (qs.length + 1) * 32 ≤ 140737488355328)
    (h : ∀ v' w', Pd w' base v' (qs ++ [q]) → (W.alloc (.cells cs 36)).grownBy w' v.ownBlock → wpList Try.prog ops Q rest (a.put o.dst v') w') : wpList Try.prog ops Q (o :: rest) a (W.alloc (.cells cs 36)) := by
  subst hz
  obtain ⟨i0, hi, hz0, hz1, hz2⟩ := info_parts Try.info36
  refine wpList_append_own _ hgd s x 22 ho base 36 i0 _ 2 32 Try.underlying22 hi hz0 hz1 hz2 rfl (by decide) v _ _ hs (hpd.own.alloc _) ⟨W.heap.size, 0, none⟩ 1 1 (c2 q) hx rfl ?_ (fun u hu => one_c2 [q] u (by simpa using hu)) (by unfold maxLen; omega) hlen (by rw [World.size_alloc]; omega) ?_
  · intro j u hj
    rw [Addr.add_lit, Nat.zero_add]
    refine cell_new W cs 36 j u ?_
    rw [← hcs] at hj
    simpa using hj
  · intro v' w' h1 h2 _
    exact h v' w' ((hpd.alloc _).next (hq.alloc _) (by simpa using h1) h2) h2
/-- The same within a region that draws its order. -/
theorem step_df {W : World} {ops : Array Oper} {o : Oper} {a : Act} {K : Act → World → Prop} {Q : Exit → Act → World → Prop} {E : Prop} (hgd : o.guard = none) (s x : Operand)
    (ho : o.op = .call { callee := .builtin .append, args := #[s, x], argTypes := #[22, 22] }) (base : Nat) (v : Value) (qs : List Dt) (q : Dt) (cs : Array Value) (hcs : cs.toList = c2 q) (hs : a.eval s = v) (z : Nat) (hz : W.heap.size = z) (hx : a.eval x = .slice (some ⟨z, 0, none⟩) 1 1)
    (hpd : Pd W base v qs) (hq : ExsT W q.2.1 q.1.body) (hb : base ≤ W.heap.size) (hlen : (qs.length + 1) * 32 ≤ 140737488355328)
    (h : ∀ v' w', Pd w' base v' (qs ++ [q]) → (W.alloc (.cells cs 36)).grownBy w' v.ownBlock → K (a.put o.dst v') w') : if Region.wanted o (yielded ops a.tmps) = true then Oper.wp Try.prog o a (W.alloc (.cells cs 36)) K Q else E := by
  subst hz
  obtain ⟨i0, hi, hz0, hz1, hz2⟩ := info_parts Try.info36
  refine step_append_lies _ hgd s x 22 ho base 36 i0 _ 2 32 Try.underlying22 hi hz0 hz1 hz2 rfl (by decide) v _ _ hs (hpd.own.alloc _) ⟨W.heap.size, 0, none⟩ 1 1 (c2 q) hx rfl ?_ (fun u hu => one_c2 [q] u (by simpa using hu)) (by decide) (by unfold maxLen; omega) hlen (by rw [World.size_alloc]; omega) _ rfl ?_
  · intro j u hj
    rw [Addr.add_lit, Nat.zero_add]
    refine cell_new W cs 36 j u ?_
    rw [← hcs] at hj
    simpa using hj
  · intro g cap w' h1 h2 _ _
    exact h _ w' ((hpd.alloc _).next (hq.alloc _) (by simpa using h1) h2) h2
/-- What small lays down, as definitions that are being built. -/
theorem SmallAt.pd {w : World} {B base : Nat} (h : SmallAt w B) (hb : base ≤ B) : Pd w base (.slice (some ⟨B + 10, 0, none⟩) 2 2) [(⟨0, mainL⟩, some ⟨B + 3, 0, none⟩, 5), (⟨2, addsL⟩, some ⟨B + 9, 0, none⟩, 8)] := by
  refine ⟨⟨rfl, Or.inr ⟨B + 10, 2, smallC B, rfl, by omega, h.row, Nat.le_refl _, by decide, rfl, rfl⟩⟩, fun q hq => ?_⟩
  rcases List.mem_cons.1 hq with rfl | hq
  · exact h.mainT
  · rw [List.mem_singleton] at hq; subst hq; exact h.adds.exsT
end Go.Proofs.Ytiobjkmpeiohdaa
