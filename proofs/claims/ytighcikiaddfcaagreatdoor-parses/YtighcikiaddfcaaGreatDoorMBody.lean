/- Parts that a function lays down by itself; the contract of the laws' adds. · Rows of parts' cells. · Bodies that a function builds part by part, by append, in the box of a definition. · A definition that comes in: its parts as plain data, with the bounds that the sized condition gives. · The contract of the laws' CopyDef. · Definitions in memory; the contracts of hasTaker, of the function that May hands on, of slices.IndexFunc and slices.ContainsFunc with it. · The contracts of the function that May hands on, and of slices.IndexFunc and slices.ContainsFunc with it. · The contract of program.May. -/
import Derived.Test.YtighcikiaddfcaaGreatDoorMExpr
import Derived.Laws.AppendOwnNone
import Derived.SizedLaws
import Derived.Carry
import Derived.Test.YtighcikiaddfcaaGreatDoorMPlain
import Derived.BigQuiet

namespace Go.Proofs.YtighcikiaddfcaaGreatDoor
open Go.RowKit
set_option linter.unusedVariables false

/-- These cells are these parts. -/
def Row (w : World) : List Value → List Ex → Prop
  | [], [] => True
  | v0 :: v1 :: v2 :: v3 :: vs, x :: xs => v0 = .int .i64 x.kind ∧ v1 = .int .i64 x.num ∧ v2 = .int .i64 x.bind ∧ (∃ g c, v3 = .slice g x.kids.length c ∧ Nums w g x.kids) ∧ Row w vs xs
  | _, _ => False
theorem Row.at {w : World} : ∀ {cs : List Value} {xs : List Ex}, Row w cs xs → ∀ (j : Nat) x, xs[j]? = some x →
    ∃ gk ck, cs[j * 4]? = some (.int .i64 x.kind) ∧ cs[j * 4 + 1]? = some (.int .i64 x.num) ∧ cs[j * 4 + 2]? = some (.int .i64 x.bind) ∧ cs[j * 4 + 3]? = some (.slice gk x.kids.length ck) ∧ Nums w gk x.kids
  | [], [], _, j, x, hx => by simp at hx
  | v0 :: v1 :: v2 :: v3 :: vs, y :: xs, ⟨h0, h1, h2, ⟨g, c, h3, hn⟩, hr⟩, 0, x, hx => by
    have : y = x := by simpa using hx
    subst this
    exact ⟨g, c, by rw [h0]; rfl, by rw [h1]; rfl, by rw [h2]; rfl, by rw [h3]; rfl, hn⟩
  | v0 :: v1 :: v2 :: v3 :: vs, y :: xs, ⟨_, _, _, _, hr⟩, j + 1, x, hx => by
    obtain ⟨gk, ck, a0, a1, a2, a3, a4⟩ := hr.at j x (by simpa using hx)
    have e : ∀ i, (v0 :: v1 :: v2 :: v3 :: vs)[(j + 1) * 4 + i]? = vs[j * 4 + i]? := fun i => by
      rw [show (j + 1) * 4 + i = (j * 4 + i) + 1 + 1 + 1 + 1 by omega]; simp
    exact ⟨gk, ck, by rw [← Nat.add_zero ((j + 1) * 4), e]; exact a0, by rw [e]; exact a1, by rw [e]; exact a2, by rw [e]; exact a3, a4⟩
theorem exs_of_row {w : World} {b : Nat} {cs : Array Value} {xs : List Ex} (h : w.heap[b]? = some (.cells cs 41 (0, 0))) (hr : Row w cs.toList xs) : Exs w (some ⟨b, 0, none⟩) xs := by
  have key : ∀ j v, cs.toList[j]? = some v → w.cell? ⟨b, j, none⟩ = some v := fun j v hv => by
    unfold World.cell?
    simp only [h]
    simpa using hv
  refine Or.inr ⟨b, 0, rfl, (Array.getElem?_eq_some_iff.1 h).1, fun j x hx => ?_⟩
  obtain ⟨gk, ck, a0, a1, a2, a3, a4⟩ := hr.at j x hx
  refine ⟨gk, ck, ?_⟩
  rw [Nat.zero_add]
  exact ⟨key _ _ a0, key _ _ a1, key _ _ a2, key _ _ a3, a4⟩
theorem Lv.nums {w : World} {b : Nat} {L : List Int} (h : Lv w b L) : Nums w (some ⟨b, 0, none⟩) L :=
  Or.inr ⟨b, 0, rfl, h.lt, fun j x hx => by rw [Nat.zero_add]; exact h.cell hx⟩
theorem nums_nil (w : World) (g : Option Addr) : Nums w g [] := Or.inl rfl

def addsL : List Ex := [⟨1, 0, 0, []⟩, ⟨1, 3, 0, []⟩, ⟨1, 1, 0, []⟩, ⟨4, 0, 0, [1, 2]⟩, ⟨1, 0, 0, []⟩, ⟨1, 1, 0, []⟩, ⟨4, 0, 0, [4, 5]⟩, ⟨5, 7, 2, [0, 3, 6]⟩]
abbrev I (x : Int) : Value := .int .i64 x
abbrev nilS : Value := .slice none 0 0
def addsC (B : Nat) : Array Value := #[I 1, I 0, I 0, nilS, I 1, I 3, I 0, nilS, I 1, I 1, I 0, nilS, I 4, I 0, I 0, .slice (some ⟨B + 1, 0, none⟩) 2 2, I 1, I 0, I 0, nilS, I 1, I 1, I 0, nilS, I 4, I 0, I 0, .slice (some ⟨B + 2, 0, none⟩) 2 2, I 5, I 7, I 2, .slice (some ⟨B + 3, 0, none⟩) 3 3]
/-- What adds lays down. -/
structure AddsAt (w : World) (B : Nat) : Prop where
  body : w.heap[B + 4]? = some (.cells (addsC B) 41 (0, 0))
  k1 : Lv w (B + 1) [1, 2]
  k2 : Lv w (B + 2) [4, 5]
  k3 : Lv w (B + 3) [0, 3, 6]
theorem AddsAt.on {w w' : World} {B : Nat} (h : AddsAt w B) (hb : Below w.heap.size w w') : AddsAt w' B :=
  ⟨(hb.block _ (Array.getElem?_eq_some_iff.1 h.body).1).trans h.body, h.k1.on hb h.k1.lt, h.k2.on hb h.k2.lt, h.k3.on hb h.k3.lt⟩
theorem AddsAt.exs {w : World} {B : Nat} (h : AddsAt w B) : Exs w (some ⟨B + 4, 0, none⟩) addsL :=
  exs_of_row h.body ⟨rfl, rfl, rfl, ⟨_, _, rfl, nums_nil _ _⟩, rfl, rfl, rfl, ⟨_, _, rfl, nums_nil _ _⟩, rfl, rfl, rfl, ⟨_, _, rfl, nums_nil _ _⟩, rfl, rfl, rfl, ⟨_, _, rfl, h.k1.nums⟩, rfl, rfl, rfl, ⟨_, _, rfl, nums_nil _ _⟩, rfl, rfl, rfl, ⟨_, _, rfl, nums_nil _ _⟩, rfl, rfl, rfl, ⟨_, _, rfl, h.k2.nums⟩, rfl, rfl, rfl, ⟨_, _, rfl, h.k3.nums⟩, trivial⟩
set_option maxHeartbeats 800000 in
set_option maxRecDepth 100000 in
theorem adds_any (w : World) :
    Calls Tryz.prog 29 #[] w fun e w' => e = .returned (.agg #[.int .i64 2, .slice (some ⟨w.heap.size + 4, 0, none⟩) 8 8]) ∧ AddsAt w' w.heap.size ∧ Below w.heap.size w w' ∧ w'.heap.size = w.heap.size + 5 := by
  go_enter Tryz.func29, Tryz.ntmps29
  go_wp2
  refine bodyPost_ret (v := .agg #[.int .i64 2, .slice (some ⟨w.heap.size + 4, 0, none⟩) 8 8]) (by simp [results, Tryz.results29, go_sem]) rfl ⟨rfl, ?_, ?_, by simp⟩
  · refine ⟨?_, ?_, ?_, ?_⟩
    · have h := World.alloc_heap_new ((((w.alloc (.cells #[I 2, .slice (some ⟨w.heap.size + 1 + 1 + 1 + 1, 0, none⟩) 8 8] 43)).alloc (.cells #[I 1, I 2] 3)).alloc (.cells #[I 4, I 5] 3)).alloc (.cells #[I 0, I 3, I 6] 3)) (.cells (addsC w.heap.size) 41)
      simp only [World.size_alloc] at h
      exact h
    · have h := (((Lv.new (w.alloc (.cells #[I 2, .slice (some ⟨w.heap.size + 1 + 1 + 1 + 1, 0, none⟩) 8 8] 43)) [1, 2]).alloc (.cells #[I 4, I 5] 3)).alloc (.cells #[I 0, I 3, I 6] 3)).alloc (.cells (addsC w.heap.size) 41)
      simp only [World.size_alloc] at h
      exact h
    · have h := ((Lv.new ((w.alloc (.cells #[I 2, .slice (some ⟨w.heap.size + 1 + 1 + 1 + 1, 0, none⟩) 8 8] 43)).alloc (.cells #[I 1, I 2] 3)) [4, 5]).alloc (.cells #[I 0, I 3, I 6] 3)).alloc (.cells (addsC w.heap.size) 41)
      simp only [World.size_alloc] at h
      exact h
    · have h := (Lv.new (((w.alloc (.cells #[I 2, .slice (some ⟨w.heap.size + 1 + 1 + 1 + 1, 0, none⟩) 8 8] 43)).alloc (.cells #[I 1, I 2] 3)).alloc (.cells #[I 4, I 5] 3)) [0, 3, 6]).alloc (.cells (addsC w.heap.size) 41)
      simp only [World.size_alloc] at h
      exact h
  · exact (((((Below.refl _ w).alloc (Nat.le_refl _) _).alloc (by simp) _).alloc (by simp; omega) _).alloc (by simp; omega) _).alloc (by simp; omega) _
theorem may_adds : may 2 addsL = true := by decide +kernel
end Go.Proofs.YtighcikiaddfcaaGreatDoor

namespace Go.Proofs.YtighcikiaddfcaaGreatDoor
open Go.RowKit
set_option linter.unusedVariables false

theorem AddsAt.cell {w : World} {B : Nat} (h : AddsAt w B) (j : Nat) (v : Value) (hv : (addsC B)[j]? = some v) : w.cell? ⟨B + 4, j, none⟩ = some v := by
  unfold World.cell?
  simp only [h.body]
  exact hv
theorem AddsAt.frozen {w : World} {B : Nat} (h : AddsAt w B) (j : Nat) : w.frozen? ⟨B + 4, j, none⟩ = false := by
  simp [World.frozen?, h.body]
theorem AddsAt.lt {w : World} {B : Nat} (h : AddsAt w B) : B + 4 < w.heap.size := (Array.getElem?_eq_some_iff.1 h.body).1

/-- A row of parts' cells. -/
def Rw (w : World) (b : Nat) (cs : Array Value) : Prop := w.heap[b]? = some (.cells cs 41 (0, 0))
theorem Rw.lt {w : World} {b : Nat} {cs : Array Value} (h : Rw w b cs) : b < w.heap.size := (Array.getElem?_eq_some_iff.1 h).1
theorem Rw.set {w : World} {b : Nat} {cs : Array Value} (h : Rw w b cs) (j : Nat) (v : Value) : Rw (w.setCell ⟨b, j, none⟩ v) b (cs.setIfInBounds j v) := by
  obtain ⟨hlt, hk⟩ := Array.getElem?_eq_some_iff.1 h
  show (w.heap.modify b _)[b]? = _
  rw [Array.getElem?_eq_getElem (by rw [Array.size_modify]; exact hlt), Array.getElem_modify_self, hk]
  rfl
theorem Rw.other {w : World} {b : Nat} {cs : Array Value} (h : Rw w b cs) {b' : Nat} (j : Nat) (v : Value) (hne : b ≠ b') : Rw (w.setCell ⟨b', j, none⟩ v) b cs := (Below.heap_setCell w _ _ b hne).trans h
theorem Rw.alloc {w : World} {b : Nat} {cs : Array Value} (h : Rw w b cs) (o : Obj) : Rw (w.alloc o) b cs := (Below.heap_alloc w o b h.lt).trans h
theorem Rw.on {w w' : World} {b : Nat} {cs : Array Value} (h : Rw w b cs) (hb : Below w.heap.size w w') : Rw w' b cs := (hb.block b h.lt).trans h
theorem Lv.other {w : World} {b : Nat} {L : List Int} (h : Lv w b L) {b' : Nat} (j : Nat) (v : Value) (hne : b ≠ b') : Lv (w.setCell ⟨b', j, none⟩ v) b L := h.kept (grown_set w b' j v) (by intro e; exact hne (Option.some.inj e))
/-- Adds with something turned: the three kids' lists as they were. -/
theorem Rw.cell {w : World} {b : Nat} {cs : Array Value} (h : Rw w b cs) (j : Nat) (v : Value) (hv : cs[j]? = some v) : w.cell? ⟨b, j, none⟩ = some v := by
  unfold World.cell?
  simp only [show w.heap[b]? = _ from h]
  exact hv
theorem Rw.frozen {w : World} {b : Nat} {cs : Array Value} (h : Rw w b cs) (j : Nat) : w.frozen? ⟨b, j, none⟩ = false := by
  simp [World.frozen?, show w.heap[b]? = _ from h]

end Go.Proofs.YtighcikiaddfcaaGreatDoor

namespace Go.Proofs.YtighcikiaddfcaaGreatDoor
open Go.RowKit
set_option linter.unusedVariables false

theorem Tryz.info41 : (Tryz.prog.info? 41).map (fun i => (i.zero, i.size, i.bytes)) = some (some (.agg #[.int .i64 0, .int .i64 0, .int .i64 0, .slice none 0 0]), 4, 48) := by kernel_rfl
/-- A part with where its kids lie. -/
abbrev Pt := Ex × Option Addr × Nat
def c4 (p : Pt) : List Value := [.int .i64 p.1.kind, .int .i64 p.1.num, .int .i64 p.1.bind, .slice p.2.1 p.1.kids.length p.2.2]
/-- Its kids lie in a block of their own, from base on. -/
def Kd (W : World) (base : Nat) (p : Pt) : Prop := p.1.kids = [] ∨ ∃ b, p.2.1 = some ⟨b, 0, none⟩ ∧ base ≤ b ∧ Lv W b p.1.kids
theorem Kd.nums {W : World} {base : Nat} {p : Pt} (h : Kd W base p) : Nums W p.2.1 p.1.kids := by
  rcases h with h | ⟨b, h1, _, h2⟩
  · rw [h]; exact Or.inl rfl
  · rw [h1]; exact h2.nums
theorem row_c4 {W : World} : ∀ {ps : List Pt}, (∀ p ∈ ps, Nums W p.2.1 p.1.kids) → Row W (ps.flatMap c4) (ps.map (·.1))
  | [], _ => trivial
  | p :: ps, h => ⟨rfl, rfl, rfl, ⟨_, _, rfl, h p (by simp)⟩, row_c4 (fun q hq => h q (by simp [hq]))⟩
theorem exs_of_cells {w : World} {b : Nat} {cs : List Value} {xs : List Ex} (hb : b < w.heap.size) (key : ∀ j v, cs[j]? = some v → w.cell? ⟨b, j, none⟩ = some v) (hr : Row w cs xs) : Exs w (some ⟨b, 0, none⟩) xs := by
  refine Or.inr ⟨b, 0, rfl, hb, fun j x hx => ?_⟩
  obtain ⟨gk, ck, a0, a1, a2, a3, a4⟩ := hr.at j x hx
  refine ⟨gk, ck, ?_⟩
  rw [Nat.zero_add]
  exact ⟨key _ _ a0, key _ _ a1, key _ _ a2, key _ _ a3, a4⟩
/-- A body that is being built. -/
structure Bd (W : World) (base : Nat) (v : Value) (ps : List Pt) : Prop where
  own : W.ownsRow base 41 4 v ps.length (ps.flatMap c4)
  kids : ∀ p ∈ ps, Kd W base p
theorem lv_not_row {W : World} {b base n : Nat} {L : List Int} {v : Value} {xs : List Value} (h : Lv W b L) (hr : W.ownsRow base 41 4 v n xs) : some b ≠ v.ownBlock := by
  rcases hr.2 with ⟨rfl, _⟩ | ⟨g, cap, cur, rfl, _, hgb, _⟩
  · simp [Value.ownBlock]
  · intro e'
    obtain rfl : b = g := by simpa [Value.ownBlock] using e'
    have := (show W.heap[b]? = _ from h).symm.trans hgb
    simp at this
theorem Kd.kept {W W' : World} {base : Nat} {p : Pt} {row : Option Nat} (h : Kd W base p) (hg : W.grownBy W' row) (hr : ∀ b L, base ≤ b → Lv W b L → some b ≠ row) : Kd W' base p := by
  rcases h with h | ⟨b, h1, h2, h3⟩
  · exact Or.inl h
  · exact Or.inr ⟨b, h1, h2, h3.kept hg (hr b _ h2 h3)⟩
theorem Bd.nil (W : World) (base : Nat) : Bd W base (.slice none 0 0) [] := ⟨World.ownsRow_nil _ _ _ _, fun p hp => by cases hp⟩
theorem Bd.alloc {W : World} {base : Nat} {v : Value} {ps : List Pt} (h : Bd W base v ps) (o : Obj) : Bd (W.alloc o) base v ps :=
  ⟨h.own.alloc o, fun p hp => (h.kids p hp).kept (World.grownBy_alloc W o none) (fun _ _ _ _ => by simp)⟩
theorem Bd.far {W : World} {base : Nat} {v : Value} {ps : List Pt} (h : Bd W base v ps) {z : Nat} (hz : z < base) (j : Nat) (u : Value) : Bd (W.setCell ⟨z, j, none⟩ u) base v ps := by
  refine ⟨h.own.kept (grown_set W z j u) ?_, fun p hp => (h.kids p hp).kept (grown_set W z j u) (fun b L hb _ e => by have := Option.some.inj e; omega)⟩
  cases e : v.ownBlock with
  | none => exact .inl rfl
  | some k =>
    refine .inr fun e' => ?_
    have h1 := (h.own.lt k e).1
    have := Option.some.inj e'
    omega
theorem Bd.val {W : World} {base : Nat} {v : Value} {ps : List Pt} (h : Bd W base v ps) : ∃ g c, v = .slice g ps.length c := by
  rcases h.own.2 with ⟨h2, h3⟩ | ⟨g, cap, cur, hv, _⟩
  · exact ⟨_, _, by rw [h3]; exact h2⟩
  · exact ⟨_, _, hv⟩
theorem Bd.exs {W : World} {base : Nat} {g : Option Addr} {c : Nat} {ps : List Pt} (h : Bd W base (.slice g ps.length c) ps) : Exs W g (ps.map (·.1)) := by
  rcases h.own.2 with ⟨_, h3⟩ | ⟨b, cap, cur, hv, _, hh, _⟩
  · exact Or.inl (by rw [List.length_eq_zero_iff.1 h3]; rfl)
  · simp at hv
    obtain ⟨rfl, _⟩ := hv
    refine exs_of_cells (Array.getElem?_eq_some_iff.1 hh).1 (fun j v hv => ?_) (row_c4 (fun p hp => (h.kids p hp).nums))
    have h1 := h.own.cells (g := b) rfl j v hv
    rwa [Addr.add_lit, Nat.zero_add] at h1
/-- Behind an append of these parts. -/
theorem Bd.next {W w' : World} {base : Nat} {v v' : Value} {ps qs : List Pt} (h : Bd W base v ps) (hq : ∀ p ∈ qs, Kd W base p) (hown : w'.ownsRow base 41 4 v' (ps.length + qs.length) (ps.flatMap c4 ++ qs.flatMap c4)) (hg : W.grownBy w' v.ownBlock) : Bd w' base v' (ps ++ qs) := by
  refine ⟨by rw [List.length_append, List.flatMap_append]; exact hown, fun p hp => ?_⟩
  have hk : Kd W base p := by
    rcases List.mem_append.1 hp with hp | hp
    · exact h.kids p hp
    · exact hq p hp
  exact hk.kept hg (fun b L _ hL => lv_not_row hL h.own)

theorem one_c4 (qs : List Pt) : ∀ u ∈ qs.flatMap c4, u.oneCell' = true := by
  intro u hu
  obtain ⟨p, _, hp⟩ := List.mem_flatMap.1 hu
  simp only [c4, List.mem_cons, List.not_mem_nil, or_false] at hp
  rcases hp with rfl | rfl | rfl | rfl <;> rfl
theorem len_c4 : ∀ (qs : List Pt), (qs.flatMap c4).length = qs.length * 4
  | [] => rfl
  | q :: qs => by rw [List.flatMap_cons, List.length_append, len_c4 qs, List.length_cons]; simp [c4]; omega
theorem app_ex {W : World} {ops : Array Oper} {rest : List Oper} {o : Oper} {a : Act} {Q : Exit → Act → World → Prop} (hgd : o.guard = none) (s x : Operand)
    (ho : o.op = .call { callee := .builtin .append, args := #[s, x], argTypes := #[38, 38] }) (base : Nat) (v : Value) (ps qs : List Pt) (cs : Array Value) (hcs : cs.toList = qs.flatMap c4) (hs : a.eval s = v) (z : Nat) (hz : W.heap.size = z) (hx : a.eval x = .slice (some ⟨z, 0, none⟩) qs.length qs.length)
    (hbd : Bd W base v ps) (hq : ∀ p ∈ qs, Kd W base p) (hb : base ≤ W.heap.size) (hlen : (ps.length + qs.length) * 48 ≤ 140737488355328)
    (h : ∀ v' w', Bd w' base v' (ps ++ qs) → (W.alloc (.cells cs 41)).grownBy w' v.ownBlock → wpList Tryz.prog ops Q rest (a.put o.dst v') w') : wpList Tryz.prog ops Q (o :: rest) a (W.alloc (.cells cs 41)) := by
  subst hz
  obtain ⟨i0, hi, hz0, hz1, hz2⟩ := info_parts Tryz.info41
  refine wpList_append_own _ hgd s x 38 ho base 41 i0 _ 4 48 Tryz.underlying38 hi hz0 hz1 hz2 rfl (by decide) v _ _ hs (hbd.own.alloc _) ⟨W.heap.size, 0, none⟩ qs.length qs.length (qs.flatMap c4) hx (len_c4 qs) ?_ (one_c4 qs) (by unfold maxLen; omega) hlen (by rw [World.size_alloc]; omega) ?_
  · intro j u hj
    rw [Addr.add_lit, Nat.zero_add]
    refine cell_new W cs 41 j u ?_
    rw [← hcs] at hj
    simpa using hj
  · intro v' w' h1 h2 _
    exact h v' w' ((hbd.alloc _).next (fun p hp => (hq p hp).kept (World.grownBy_alloc W _ none) (fun _ _ _ _ => by simp)) h1 h2) h2

/-- A definition's box. -/
def Bx2 (w : World) (z : Nat) (p : Int) (v : Value) : Prop := w.heap[z]? = some (.cells #[.int .i64 p, v] 43 (0, 0))
theorem Bx2.lt {w : World} {z : Nat} {p : Int} {v : Value} (h : Bx2 w z p v) : z < w.heap.size := (Array.getElem?_eq_some_iff.1 h).1
theorem Bx2.c0 {w : World} {z : Nat} {p : Int} {v : Value} (h : Bx2 w z p v) : w.cell? ⟨z, 0, none⟩ = some (.int .i64 p) := by
  unfold World.cell?; simp only [show w.heap[z]? = _ from h]; rfl
theorem Bx2.c1 {w : World} {z : Nat} {p : Int} {v : Value} (h : Bx2 w z p v) : w.cell? ⟨z, 1, none⟩ = some v := by
  unfold World.cell?; simp only [show w.heap[z]? = _ from h]; rfl
theorem Bx2.frozen {w : World} {z : Nat} {p : Int} {v : Value} (h : Bx2 w z p v) (j : Nat) : w.frozen? ⟨z, j, none⟩ = false := by
  simp [World.frozen?, show w.heap[z]? = _ from h]
theorem Bx2.kept {w w' : World} {row : Option Nat} {z : Nat} {p : Int} {v : Value} (h : Bx2 w z p v) (hg : w.grownBy w' row) (hne : some z ≠ row) : Bx2 w' z p v := (hg.block z h.lt hne).trans h
theorem Bx2.on {w w' : World} {z : Nat} {p : Int} {v : Value} (h : Bx2 w z p v) (hb : Below w.heap.size w w') : Bx2 w' z p v := (hb.block z h.lt).trans h
theorem Bx2.alloc {w : World} {z : Nat} {p : Int} {v : Value} (h : Bx2 w z p v) (o : Obj) : Bx2 (w.alloc o) z p v := (Below.heap_alloc w o z h.lt).trans h
theorem Bx2.new (w : World) (p : Int) (v : Value) : Bx2 (w.alloc (.cells #[.int .i64 p, v] 43)) w.heap.size p v := World.alloc_heap_new w _
theorem Bx2.set1 {w : World} {z : Nat} {p : Int} {v : Value} (h : Bx2 w z p v) (u : Value) : Bx2 (w.setCell ⟨z, 1, none⟩ u) z p u := by
  obtain ⟨hlt, hk⟩ := Array.getElem?_eq_some_iff.1 h
  show (w.heap.modify z _)[z]? = _
  rw [Array.getElem?_eq_getElem (by rw [Array.size_modify]; exact hlt), Array.getElem_modify_self, hk]
  rfl
theorem Bd.not_box {W : World} {base z : Nat} {v : Value} {ps : List Pt} (h : Bd W base v ps) (hz : z < base) : some z ≠ v.ownBlock := by
  intro e
  have := (h.own.lt z e.symm).1
  omega
theorem and_15 (x : Int) : ∃ m : Nat, bits .and .i64 x 15 = (m : Int) ∧ m < 16 := by
  refine ⟨(x % 16).toNat, ?_, by omega⟩
  have hb : (BitVec.ofInt 64 15).toNat = 15 := by decide
  have h : bits .and .i64 x 15 = IntKind.i64.wrap (((BitVec.ofInt 64 x &&& BitVec.ofInt 64 15).toNat : Nat) : Int) := rfl
  rw [h, BitVec.toNat_and, hb, BitVec.toNat_ofInt, show (15 : Nat) = 2 ^ 4 - 1 from rfl, Nat.and_two_pow_sub_one_eq_mod, IntKind.wrap_i64]
  simp only [show ((2 : Nat) ^ 64) = 18446744073709551616 from rfl, show ((2 : Nat) ^ 4) = 16 from rfl]
  omega
theorem and_3 (x : Int) : ∃ m : Nat, bits .and .i64 x 3 = (m : Int) ∧ m < 4 := by
  refine ⟨(x % 4).toNat, ?_, by omega⟩
  have hb : (BitVec.ofInt 64 3).toNat = 3 := by decide
  have h : bits .and .i64 x 3 = IntKind.i64.wrap (((BitVec.ofInt 64 x &&& BitVec.ofInt 64 3).toNat : Nat) : Int) := rfl
  rw [h, BitVec.toNat_and, hb, BitVec.toNat_ofInt, show (3 : Nat) = 2 ^ 2 - 1 from rfl, Nat.and_two_pow_sub_one_eq_mod, IntKind.wrap_i64]
  simp only [show ((2 : Nat) ^ 64) = 18446744073709551616 from rfl, show ((2 : Nat) ^ 2) = 4 from rfl]
  omega
theorem and_1023 (x : Int) : ∃ m : Nat, bits .and .i64 x 1023 = (m : Int) ∧ m < 1024 := by
  refine ⟨(x % 1024).toNat, ?_, by omega⟩
  have hb : (BitVec.ofInt 64 1023).toNat = 1023 := by decide
  have h : bits .and .i64 x 1023 = IntKind.i64.wrap (((BitVec.ofInt 64 x &&& BitVec.ofInt 64 1023).toNat : Nat) : Int) := rfl
  rw [h, BitVec.toNat_and, hb, BitVec.toNat_ofInt, show (1023 : Nat) = 2 ^ 10 - 1 from rfl, Nat.and_two_pow_sub_one_eq_mod, IntKind.wrap_i64]
  simp only [show ((2 : Nat) ^ 64) = 18446744073709551616 from rfl, show ((2 : Nat) ^ 10) = 1024 from rfl]
  omega
end Go.Proofs.YtighcikiaddfcaaGreatDoor

namespace Go.Proofs.YtighcikiaddfcaaGreatDoor
open Go.RowKit Go.ChangeShapes Go.WideShapes Go.Deep
set_option linter.unusedVariables false

theorem laidOut : laidOutB Tryz.prog = true := by kernel_rfl
theorem cells3 : Tryz.prog.cellsOf 3 = 1 := by kernel_rfl
theorem cells39 : Tryz.prog.cellsOf 39 = 1 := by kernel_rfl
theorem cells38 : Tryz.prog.cellsOf 38 = 1 := by kernel_rfl
theorem cells41 : Tryz.prog.cellsOf 41 = 4 := by kernel_rfl
theorem cells43 : Tryz.prog.cellsOf 43 = 2 := by kernel_rfl
theorem bytes3 : Tryz.prog.bytesOf 3 = 8 := by kernel_rfl
theorem bytes41 : Tryz.prog.bytesOf 41 = 48 := by kernel_rfl
theorem list4 {α : Type} {l : List α} (h : l.length = 4) : ∃ a b c d, l = [a, b, c, d] := by
  match l, h with
  | [a, b, c, d], _ => exact ⟨a, b, c, d, rfl⟩
theorem list2 {α : Type} {l : List α} (h : l.length = 2) : ∃ a b, l = [a, b] := by
  match l, h with
  | [a, b], _ => exact ⟨a, b, rfl⟩
theorem mem_weightsAll {H : Type} {P : Program} {e : TypeId} {d : DataW H} {n : Nat} (hn : n ∈ d.weights P e) : ∀ {l : List (DataW H)}, d ∈ l → n ∈ DataW.weightsAll P e l
  | [], h => by cases h
  | x :: l, h => by
    rw [DataW.weightsAll]
    rcases List.mem_cons.1 h with h | h
    · subst h; exact List.mem_append_left _ hn
    · exact List.mem_append_right _ (mem_weightsAll hn h)

/-- Parts in a slice, wherever it lies; a nil list of kids has no room. -/
def ExsN (w : World) (g : Option Addr) (xs : List Ex) : Prop :=
  xs = [] ∨ ∃ bk o, g = some ⟨bk, o, none⟩ ∧ bk < w.heap.size ∧ ∀ (j : Nat) x, xs[j]? = some x → ∃ gk ck, ExAt w bk (o + j * 4) x gk ck ∧ (gk = none → ck = 0)
theorem ExsN.exs {w : World} {g : Option Addr} {xs : List Ex} (h : ExsN w g xs) : Exs w g xs := by
  rcases h with h | ⟨bk, o, h1, h2, h3⟩
  · exact Or.inl h
  · exact Or.inr ⟨bk, o, h1, h2, fun j x hx => by obtain ⟨gk, ck, h, _⟩ := h3 j x hx; exact ⟨gk, ck, h⟩⟩
theorem ExsN.at {w : World} {g : Option Addr} {xs : List Ex} (h : ExsN w g xs) {j : Nat} (hj : j < xs.length) : ∃ bk o, g = some ⟨bk, o, none⟩ ∧ bk < w.heap.size ∧ ∃ gk ck, ExAt w bk (o + j * 4) xs[j] gk ck ∧ (gk = none → ck = 0) := by
  rcases h with h | ⟨bk, o, h1, h2, h3⟩
  · subst h; simp at hj
  · exact ⟨bk, o, h1, h2, h3 j _ (List.getElem?_eq_getElem hj)⟩
theorem ExsN.on {w w' : World} {g : Option Addr} {xs : List Ex} (h : ExsN w g xs) (hb : Below w.heap.size w w') : ExsN w' g xs := by
  rcases h with h | ⟨bk, o, h1, h2, h3⟩
  · exact Or.inl h
  · exact Or.inr ⟨bk, o, h1, Nat.lt_of_lt_of_le h2 hb.size, fun j x hx => by obtain ⟨gk, ck, h, hn⟩ := h3 j x hx; exact ⟨gk, ck, h.on h2 hb, hn⟩⟩

theorem open_nums {H : Type} {enc : TypeId × Value → H} {W : World} {cs : List Value} {fuel : Nat} {y : DataW H × List MemPlace}
    (hf : DataW.trod enc Tryz.prog W 0 (fun _ => true) true fuel 39 cs = some y) (hw : ∀ n ∈ DataW.weights Tryz.prog 39 y.1, n ≤ reachBytes) :
    ∃ (g : Option Addr) (xs : List Int) (c : Nat), cs = [.slice g xs.length c] ∧ Nums W g xs ∧ (g = none → c = 0) ∧ xs.length * 8 ≤ reachBytes := by
  rcases open_ints Tryz.underlying39 Tryz.underlying3 cells3 hf with ⟨hcs, _⟩ | ⟨a, len, cap, zs, hcs, _, hl, _, hz, hx, hcell, _⟩
  · exact ⟨none, [], 0, hcs, Or.inl rfl, fun _ => rfl, by simp⟩
  · simp only [if_true] at hz
    subst hx
    have e : (zs.take len).length = len := by rw [List.length_take]; omega
    have h1 := hw (((lits .i64 (zs.take len) : List (DataW H)).length + (lits .i64 (zs.drop len) : List (DataW H)).length) * Tryz.prog.bytesOf 3) (by rw [DataW.weights, Tryz.underlying39]; exact List.mem_cons_self)
    rw [bytes3] at h1
    simp only [lits, List.length_map, e] at h1
    refine ⟨some a, zs.take len, cap, by rw [hcs, e], ?_, (fun h => by cases h), by rw [e]; omega⟩
    by_cases h0 : len = 0
    · subst h0; exact Or.inl (by simp)
    · obtain ⟨b, off, spot⟩ := a
      have h00 := hcell 0 (by omega)
      have hspot : spot = none := by simpa [Addr.add] using World.cell?_spot h00
      subst hspot
      refine Or.inr ⟨b, off, rfl, ?_, fun j x hx => ?_⟩
      · rw [Addr.add_lit] at h00
        exact World.block_lt_of_cell? _ _ h00
      · rw [List.getElem?_take] at hx
        split at hx
        · have h2 := hcell j (by omega)
          rw [Addr.add_lit, List.getD, hx] at h2
          exact h2
        · cases hx

theorem open_part {H : Type} {enc : TypeId × Value → H} {W : World} {cs : List Value} {fuel : Nat} {y : DataW H × List MemPlace}
    (hf : DataW.trod enc Tryz.prog W 0 (fun _ => true) true fuel 41 cs = some y) (hw : ∀ n ∈ DataW.weights Tryz.prog 41 y.1, n ≤ reachBytes) :
    ∃ (e : Ex) (g : Option Addr) (c : Nat), cs = [.int .i64 e.kind, .int .i64 e.num, .int .i64 e.bind, .slice g e.kids.length c] ∧ Nums W g e.kids ∧ (g = none → c = 0) ∧ e.kids.length * 8 ≤ reachBytes := by
  obtain ⟨ys, n, _, rfl, hl, hlen, hfs⟩ := DataW.trod_struct Tryz.underlying41 hf
  obtain ⟨c0, c1, c2, c3, rfl⟩ := list4 (hl.trans cells41)
  obtain ⟨y0, y1, y2, y3, rfl⟩ := list4 (show ys.length = 4 from hlen)
  have h0 := hfs 0 _ rfl
  have h1 := hfs 1 _ rfl
  have h2 := hfs 2 _ rfl
  have h3 := hfs 3 _ rfl
  simp [cells3, cells39] at h0 h1 h2 h3
  obtain ⟨n0, e0, _, _⟩ := DataW.trod_int Tryz.underlying3 h0
  obtain ⟨n1, e1, _, _⟩ := DataW.trod_int Tryz.underlying3 h1
  obtain ⟨n2, e2, _, _⟩ := DataW.trod_int Tryz.underlying3 h2
  obtain ⟨g, xs, c, e3, hn, hg0, hb⟩ := open_nums h3 (fun m hm => hw m (by
    rw [List.map_cons, List.map_cons, List.map_cons, List.map_cons, List.map_nil, DataW.weights, Tryz.underlying41]
    exact DataW.weights_mem_each (j := 3) rfl rfl m hm))
  simp at e0 e1 e2 e3
  subst e0 e1 e2 e3
  exact ⟨⟨n0, n1, n2, xs⟩, g, c, rfl, hn, hg0, hb⟩

theorem open_body {H : Type} {enc : TypeId × Value → H} {W : World} {cs : List Value} {fuel : Nat} {y : DataW H × List MemPlace}
    (hf : DataW.trod enc Tryz.prog W 0 (fun _ => true) true fuel 38 cs = some y) (hw : ∀ n ∈ DataW.weights Tryz.prog 38 y.1, n ≤ reachBytes) :
    ∃ (g : Option Addr) (xs : List Ex) (c : Nat), cs = [.slice g xs.length c] ∧ ExsN W g xs ∧ xs.length * 48 ≤ reachBytes ∧ ∀ x ∈ xs, x.kids.length * 8 ≤ reachBytes := by
  rcases open_slice Tryz.underlying38 hf with ⟨hcs, _⟩ | ⟨a, len, cap, m, n, D, Pl, hcs, _, hl, hm, hmm, hx, hel⟩
  · exact ⟨none, [], 0, hcs, Or.inl rfl, by simp, by simp⟩
  · simp only [if_true] at hmm
    subst hx
    simp only [cells41] at hel
    have hwl := hw ((((List.range len).map D).length + ((List.range (m - len)).map fun j => D (len + j)).length) * Tryz.prog.bytesOf 41) (by rw [DataW.weights, Tryz.underlying38]; exact List.mem_cons_self)
    rw [bytes41] at hwl
    simp only [List.length_map, List.length_range] at hwl
    have each : ∀ i, i < len → ∃ e : Ex, (∃ gk ck, W.cell? (a.add (i * 4)) = some (.int .i64 e.kind) ∧ W.cell? (a.add (i * 4 + 1)) = some (.int .i64 e.num) ∧ W.cell? (a.add (i * 4 + 2)) = some (.int .i64 e.bind) ∧ W.cell? (a.add (i * 4 + 3)) = some (.slice gk e.kids.length ck) ∧ Nums W gk e.kids ∧ (gk = none → ck = 0)) ∧ e.kids.length * 8 ≤ reachBytes := by
      intro i hi
      obtain ⟨cs', h1, h2⟩ := hel i (by omega)
      obtain ⟨e, gk, ck, rfl, hn, hg0, hb⟩ := open_part h2 (fun q hq => hw q (by
        rw [DataW.weights, Tryz.underlying38]
        exact List.mem_cons_of_mem _ (List.mem_append_left _ (mem_weightsAll hq (List.mem_map.2 ⟨i, List.mem_range.2 hi, rfl⟩)))))
      have hc := (World.cells?_some h1).2.2
      have k0 := hc 0 (by omega)
      have k1 := hc 1 (by omega)
      have k2 := hc 2 (by omega)
      have k3 := hc 3 (by omega)
      rw [add_add] at k0 k1 k2 k3
      exact ⟨e, ⟨gk, ck, k0, k1, k2, k3, hn, hg0⟩, hb⟩
    obtain ⟨E, hE⟩ := @choose_lt Ex ⟨⟨0, 0, 0, []⟩⟩ _ _ each
    refine ⟨some a, (List.range len).map E, cap, by rw [hcs]; simp, ?_, by simp; omega, ?_⟩
    · by_cases h0 : len = 0
      · subst h0; exact Or.inl rfl
      · obtain ⟨b, off, spot⟩ := a
        obtain ⟨⟨gk, ck, k0, k1, _⟩, _⟩ := hE 0 (by omega)
        have hspot : spot = none := by simpa [Addr.add] using World.cell?_spot k0
        subst hspot
        refine Or.inr ⟨b, off, rfl, ?_, fun j x hx => ?_⟩
        · rw [Addr.add_lit] at k0
          exact World.block_lt_of_cell? _ _ k0
        · have hj : j < len := by
            have := (List.getElem?_eq_some_iff.1 hx).1
            simpa using this
          have e : x = E j := by
            rw [List.getElem?_map, List.getElem?_range hj] at hx
            exact (Option.some.inj hx).symm
          subst e
          obtain ⟨⟨gk, ck, q0, q1, q2, q3, q4, q5⟩, _⟩ := hE j hj
          rw [Addr.add_lit] at q0 q1 q2 q3
          exact ⟨gk, ck, ⟨q0, q1, q2, q3, q4⟩, q5⟩
    · intro x hx
      obtain ⟨i, hi, rfl⟩ := List.mem_map.1 hx
      exact (hE i (List.mem_range.1 hi)).2

end Go.Proofs.YtighcikiaddfcaaGreatDoor

namespace Go.Proofs.YtighcikiaddfcaaGreatDoor
open Go.RowKit
set_option linter.unusedVariables false

theorem Tryz.info3p : (Tryz.prog.info? 3).map (fun i => (i.zero, i.size, i.bytes)) = some (some (.int .i64 0), 1, 8) := by kernel_rfl
/-- A part whose kids lie in a row of the call's own. -/
def KdO (W : World) (base : Nat) (p : Pt) : Prop := W.ownsRow base 3 1 (.slice p.2.1 p.1.kids.length p.2.2) p.1.kids.length (p.1.kids.map (Value.int .i64))
theorem KdO.nums {W : World} {base : Nat} {p : Pt} (h : KdO W base p) : Nums W p.2.1 p.1.kids := by
  rcases h.2 with ⟨_, h3⟩ | ⟨b, cap, cur, hv, _, hh, _⟩
  · exact Or.inl (List.length_eq_zero_iff.1 h3)
  · simp at hv
    refine Or.inr ⟨b, 0, hv.1, (Array.getElem?_eq_some_iff.1 hh).1, fun j x hx => ?_⟩
    have h1 := h.cells (g := b) (by rw [hv.1]; rfl) j (.int .i64 x) (by rw [List.getElem?_map, hx]; rfl)
    rwa [Addr.add_lit] at h1
theorem rows_apart {W : World} {base base' n n' : Nat} {v v' : Value} {xs xs' : List Value} (h : W.ownsRow base 3 1 v n xs) (h' : W.ownsRow base' 41 4 v' n' xs') : v.ownBlock = none ∨ v.ownBlock ≠ v'.ownBlock := by
  rcases h.2 with ⟨rfl, _⟩ | ⟨b, cap, cur, rfl, _, hb, _⟩
  · exact .inl rfl
  · refine .inr fun e => ?_
    rcases h'.2 with ⟨rfl, _⟩ | ⟨b', cap', cur', rfl, _, hb', _⟩
    · cases e
    · obtain rfl : b = b' := by simpa [Value.ownBlock] using e
      have := hb.symm.trans hb'
      simp at this
/-- A body that is being copied. -/
structure BdO (W : World) (base : Nat) (v : Value) (ps : List Pt) : Prop where
  own : W.ownsRow base 41 4 v ps.length (ps.flatMap c4)
  kids : ∀ p ∈ ps, KdO W base p
theorem BdO.nil (W : World) (base : Nat) : BdO W base (.slice none 0 0) [] := ⟨World.ownsRow_nil _ _ _ _, fun p hp => by cases hp⟩
theorem BdO.alloc {W : World} {base : Nat} {v : Value} {ps : List Pt} (h : BdO W base v ps) (o : Obj) : BdO (W.alloc o) base v ps :=
  ⟨h.own.alloc o, fun p hp => World.ownsRow.alloc (h.kids p hp) o⟩
/-- Something is done in a block that is none of these. -/
theorem own_far {W : World} {base e size n : Nat} {v : Value} {xs : List Value} (h : W.ownsRow base e size v n xs) {z : Nat} (hz : v.ownBlock ≠ some z) (j : Nat) (u : Value) : (W.setCell ⟨z, j, none⟩ u).ownsRow base e size v n xs :=
  h.kept (grown_set W z j u) (.inr hz)
theorem BdO.val {W : World} {base : Nat} {v : Value} {ps : List Pt} (h : BdO W base v ps) : ∃ g c, v = .slice g ps.length c := by
  rcases h.own.2 with ⟨h2, h3⟩ | ⟨g, cap, cur, hv, _⟩
  · exact ⟨_, _, by rw [h3]; exact h2⟩
  · exact ⟨_, _, hv⟩
theorem BdO.exs {W : World} {base : Nat} {g : Option Addr} {c : Nat} {ps : List Pt} (h : BdO W base (.slice g ps.length c) ps) : Exs W g (ps.map (·.1)) := by
  rcases h.own.2 with ⟨_, h3⟩ | ⟨b, cap, cur, hv, _, hh, _⟩
  · exact Or.inl (by rw [List.length_eq_zero_iff.1 h3]; rfl)
  · simp at hv
    obtain ⟨rfl, _⟩ := hv
    refine exs_of_cells (Array.getElem?_eq_some_iff.1 hh).1 (fun j v hv => ?_) (row_c4 (fun p hp => (h.kids p hp).nums))
    have h1 := h.own.cells (g := b) rfl j v hv
    rwa [Addr.add_lit, Nat.zero_add] at h1
/-- All that lay in rows is as it lay where only another block, or none, has been turned. -/
theorem BdO.kept {W W' : World} {base : Nat} {v : Value} {ps : List Pt} {row : Option Nat} (h : BdO W base v ps) (hg : W.grownBy W' row) (hr : ∀ k, row = some k → W.heap.size ≤ k) : BdO W' base v ps := by
  have key : ∀ {e size n : Nat} {u : Value} {xs : List Value}, W.ownsRow base e size u n xs → W'.ownsRow base e size u n xs := fun {e size n u xs} ho => by
    refine ho.kept hg ?_
    cases hu : u.ownBlock with
    | none => exact .inl rfl
    | some k =>
      refine .inr fun e' => ?_
      have h1 := (ho.lt k hu).2
      have h2 := hr k e'.symm
      omega
  exact ⟨key h.own, fun p hp => key (h.kids p hp)⟩

/-- A row of numbers, copied onto an empty literal. -/
theorem app_kids {W : World} {ops : Array Oper} {rest : List Oper} {o : Oper} {a : Act} {Q : Exit → Act → World → Prop} (hgd : o.guard = none) (s x : Operand)
    (ho : o.op = .call { callee := .builtin .append, args := #[s, x], argTypes := #[39, 39] }) (base : Nat) (gk : Option Addr) (ck : Nat) (ks : List Int) (z : Nat) (hz : W.heap.size = z) (hs : a.eval s = .slice (some ⟨z, 0, none⟩) 0 0) (hx : a.eval x = .slice gk ks.length ck)
    (hn : Nums W gk ks) (h0 : gk = none → ck = 0) (hb : base ≤ W.heap.size) (hlen : ks.length * 8 ≤ 140737488351232)
    (h : ∀ v' w', w'.ownsRow base 3 1 v' ks.length (ks.map (Value.int .i64)) → W.grownBy w' none → wpList Tryz.prog ops Q rest (a.put o.dst v') w') : wpList Tryz.prog ops Q (o :: rest) a (W.alloc (.cells #[] 3)) := by
  subst hz
  obtain ⟨i0, hi, hz0, hz1, hz2⟩ := info_parts Tryz.info3p
  have hown : (W.alloc (.cells #[] 3)).ownsRow base 3 1 (.slice (some ⟨W.heap.size, 0, none⟩) 0 0) 0 [] := World.ownsRow_lit W #[] 0 hb (Nat.zero_le _) rfl
  have hga : W.grownBy (W.alloc (.cells #[] 3)) none := World.grownBy_alloc W _ none
  cases gk with
  | none =>
    have hks : ks = [] := by
      rcases hn with h | ⟨bk, o, h1, _⟩
      · exact h
      · cases h1
    subst hks
    obtain rfl : ck = 0 := h0 rfl
    exact wpList_append_own_none hgd s x 39 ho base 3 i0 1 Tryz.underlying39 hi _ 0 _ hs hown hx (h _ _ hown hga)
  | some ad =>
    refine wpList_append_own _ hgd s x 39 ho base 3 i0 _ 1 8 Tryz.underlying39 hi hz0 hz1 hz2 rfl (by decide) _ 0 [] hs hown ad ks.length ck (ks.map (Value.int .i64)) hx (by simp) ?_ ?_ (by unfold maxLen; omega) (by omega) (by rw [World.size_alloc]; omega) ?_
    · intro j u hj
      rcases hn with h | ⟨bk, o, h1, h2, h3⟩
      · subst h; simp at hj
      · cases h1
        rw [Addr.add_lit, World.cell?_alloc_lt _ _ _ h2]
        rw [List.getElem?_map] at hj
        cases hx : ks[j]? with
        | none => rw [hx] at hj; cases hj
        | some x => rw [hx] at hj; cases hj; exact h3 j x hx
    · intro u hu
      obtain ⟨b, _, rfl⟩ := List.mem_map.1 hu
      rfl
    · intro v' w' h1 h2 _
      refine h v' w' (by simpa using h1) ⟨h2.os, h2.tape, h2.output, ?_, ?_⟩
      · exact Nat.le_trans (by rw [World.size_alloc]; omega) h2.size
      · intro k hk _
        rw [h2.block k (by rw [World.size_alloc]; omega) (by intro e; have := Option.some.inj e; simp at this; omega)]
        exact Below.heap_alloc W _ k hk
/-- A part is put behind a body that is being copied. -/
theorem app_exO {W : World} {ops : Array Oper} {rest : List Oper} {o : Oper} {a : Act} {Q : Exit → Act → World → Prop} (hgd : o.guard = none) (s x : Operand)
    (ho : o.op = .call { callee := .builtin .append, args := #[s, x], argTypes := #[38, 38] }) (base : Nat) (v : Value) (ps : List Pt) (q : Pt) (cs : Array Value) (hcs : cs.toList = c4 q) (hs : a.eval s = v) (z : Nat) (hz : W.heap.size = z) (hx : a.eval x = .slice (some ⟨z, 0, none⟩) 1 1)
    (hbd : BdO W base v ps) (hq : KdO W base q) (hb : base ≤ W.heap.size) (hlen : (ps.length + 1) * 48 ≤ 140737488355328)
    (h : ∀ v' w', BdO w' base v' (ps ++ [q]) → (W.alloc (.cells cs 41)).grownBy w' v.ownBlock → wpList Tryz.prog ops Q rest (a.put o.dst v') w') : wpList Tryz.prog ops Q (o :: rest) a (W.alloc (.cells cs 41)) := by
  subst hz
  obtain ⟨i0, hi, hz0, hz1, hz2⟩ := info_parts Tryz.info41
  refine wpList_append_own _ hgd s x 38 ho base 41 i0 _ 4 48 Tryz.underlying38 hi hz0 hz1 hz2 rfl (by decide) v _ _ hs (hbd.own.alloc _) ⟨W.heap.size, 0, none⟩ 1 1 (c4 q) hx rfl ?_ (fun u hu => one_c4 [q] u (by simpa using hu)) (by unfold maxLen; omega) hlen (by rw [World.size_alloc]; omega) ?_
  · intro j u hj
    rw [Addr.add_lit, Nat.zero_add]
    refine cell_new W cs 41 j u ?_
    rw [← hcs] at hj
    simpa using hj
  · intro v' w' h1 h2 _
    refine h v' w' ⟨by rw [List.length_append, List.flatMap_append]; simpa using h1, fun p hp => ?_⟩ h2
    have hk : KdO (W.alloc (.cells cs 41)) base p := by
      rcases List.mem_append.1 hp with hp | hp
      · exact World.ownsRow.alloc (hbd.kids p hp) _
      · rw [List.mem_singleton] at hp; subst hp; exact World.ownsRow.alloc hq _
    exact World.ownsRow.kept hk h2 (rows_apart hk (hbd.own.alloc _))

theorem BdO.far {W : World} {base : Nat} {v : Value} {ps : List Pt} (h : BdO W base v ps) {z : Nat} (hz : z < base) (j : Nat) (u : Value) : BdO (W.setCell ⟨z, j, none⟩ u) base v ps := by
  have key : ∀ {e size n : Nat} {x : Value} {xs : List Value}, W.ownsRow base e size x n xs → (W.setCell ⟨z, j, none⟩ u).ownsRow base e size x n xs := fun {e size n x xs} ho =>
    own_far ho (fun e' => by have := (ho.lt z e').1; omega) j u
  exact ⟨key h.own, fun p hp => key (h.kids p hp)⟩
theorem BdO.not_box {W : World} {base z : Nat} {v : Value} {ps : List Pt} (h : BdO W base v ps) (hz : z < base) : some z ≠ v.ownBlock := by
  intro e
  have := (h.own.lt z e.symm).1
  omega
theorem Bx2.set0 {w : World} {z : Nat} {p : Int} {v : Value} (h : Bx2 w z p v) (q : Int) : Bx2 (w.setCell ⟨z, 0, none⟩ (.int .i64 q)) z q v := by
  obtain ⟨hlt, hk⟩ := Array.getElem?_eq_some_iff.1 h
  show (w.heap.modify z _)[z]? = _
  rw [Array.getElem?_eq_getElem (by rw [Array.size_modify]; exact hlt), Array.getElem_modify_self, hk]
  rfl
theorem grown_box {wr w1 : World} {o : Obj} (hg1 : (wr.alloc o).grownBy w1 none) (j : Nat) (v : Value) : wr.grownBy (w1.setCell ⟨wr.heap.size, j, none⟩ v) (some wr.heap.size) := by
  have hgs := grown_set w1 wr.heap.size j v
  refine ⟨hgs.os.trans hg1.os, hgs.tape.trans hg1.tape, hgs.output.trans hg1.output, ?_, fun k hk hne => ?_⟩
  · have h1 := hg1.size
    have h2 := hgs.size
    rw [World.size_alloc] at h1
    omega
  · have h1 := hg1.size
    rw [World.size_alloc] at h1
    rw [hgs.block k (by omega) hne, hg1.block k (by rw [World.size_alloc]; omega) (by simp)]
    exact Below.heap_alloc wr o k hk
theorem own3_not_box {W : World} {base n b : Nat} {v : Value} {xs : List Value} {cs : Array Value} (h : W.ownsRow base 3 1 v n xs) (hr : Rw W b cs) : v.ownBlock ≠ some b := by
  rcases h.2 with ⟨rfl, _⟩ | ⟨b', cap, cur, rfl, _, hb, _⟩
  · simp [Value.ownBlock]
  · intro e
    obtain rfl : b' = b := by simpa [Value.ownBlock] using e
    have := hb.symm.trans (show W.heap[b']? = _ from hr)
    simp at this
theorem own_val {W : World} {base e size n : Nat} {v : Value} {xs : List Value} (h : W.ownsRow base e size v n xs) : ∃ g c, v = .slice g n c := by
  rcases h.2 with ⟨h2, h3⟩ | ⟨g, cap, cur, hv, _⟩
  · exact ⟨_, _, by rw [h3]; exact h2⟩
  · exact ⟨_, _, hv⟩

set_option maxHeartbeats 1600000 in
set_option maxRecDepth 100000 in
theorem copydef_any (p : Int) (g : Option Addr) (c : Nat) (xs : List Ex) (w : World) (hx : ExsN w g xs) (hb : xs.length * 48 ≤ 140737488351232) (hk : ∀ x ∈ xs, x.kids.length * 8 ≤ 140737488351232) :
    Calls Tryz.prog 34 #[.agg #[.int .i64 p, .slice g xs.length c]] w fun e w' => ∃ g' c', e = .returned (.agg #[.int .i64 p, .slice g' xs.length c']) ∧ (∃ ps : List Pt, ps.map (·.1) = xs ∧ ps.length = xs.length ∧ BdO w' (w.heap.size + 2) (.slice g' xs.length c') ps) ∧ Below w.heap.size w w' := by
  go_enter Tryz.func34, Tryz.ntmps34
  go_wp2_with fail
  have HX0 : Hid (Bx2 ((w.alloc (.cells #[.int .i64 p, .slice g xs.length c] 43)).alloc (.cells #[.int .i64 0, .slice none 0 0] 43)) w.heap.size p (.slice g xs.length c)) := (Bx2.new w p _).alloc _
  have HY0 : Hid (Bx2 ((w.alloc (.cells #[.int .i64 p, .slice g xs.length c] 43)).alloc (.cells #[.int .i64 0, .slice none 0 0] 43)) (w.heap.size + 1) 0 (.slice none 0 0)) := by
    have h := Bx2.new (w.alloc (.cells #[.int .i64 p, .slice g xs.length c] 43)) 0 (.slice none 0 0)
    rw [World.size_alloc] at h
    exact h
  have HL0 : Hid (Below w.heap.size w ((w.alloc (.cells #[.int .i64 p, .slice g xs.length c] 43)).alloc (.cells #[.int .i64 0, .slice none 0 0] 43))) := ((Below.refl _ w).alloc (Nat.le_refl _) _).alloc (by simp) _
  have HXS : Hid (ExsN w g xs) := hx
  have HK : Hid (∀ x ∈ xs, x.kids.length * 8 ≤ 140737488351232) := hk
  clear hx hk
  go_loopw [3, 4, 5] (fun s3 s4 _ wr => ∃ (j : Nat) (ps : List Pt) (g' : Option Addr) (c' : Nat), j ≤ xs.length ∧ s3 = .slice g' j c' ∧ s4 = .int .i64 (j : Int) ∧ Hid (BdO wr (w.heap.size + 2) (.slice g' j c') ps) ∧ Hid (ps.map (·.1) = xs.take j ∧ ps.length = j) ∧ Hid (Bx2 wr w.heap.size p (.slice g xs.length c)) ∧ Hid (Bx2 wr (w.heap.size + 1) 0 (.slice none 0 0)) ∧ Hid (Below w.heap.size w wr))
    (fun _ s4 _ _ => xs.length - (intOf s4).toNat)
  case atStart => exact ⟨0, [], none, 0, Nat.zero_le _, rfl, rfl, BdO.nil _ _, ⟨by simp, rfl⟩, HX0, HY0, HL0⟩
  case round =>
    obtain ⟨j, ps, g', c', hj, rfl, rfl, HB, HP, HX, HY, HL⟩ := hrel
    have x0 := HX.out.c0
    have x1 := HX.out.c1
    have zy := HY.out.lt
    by_cases hlt : j < xs.length
    · have hlt' : (j : Int) < (xs.length : Int) := by omega
      obtain ⟨bk, o, rfl, hbk, gk, ck, hE, hg0⟩ := (HXS.out.on HL.out).at hlt
      have hkj := HK.out xs[j] (List.getElem_mem hlt)
      have HTJ : Hid (xs.take (j + 1) = xs.take j ++ [xs[j]]) := List.take_succ_eq_append_getElem hlt
      obtain ⟨e, he⟩ : ∃ e, xs[j] = e := ⟨_, rfl⟩
      rw [he] at hE hkj HTJ
      clear he
      obtain ⟨kd, nm, bd, ks⟩ := e
      obtain ⟨a0, a1, a2, a3, an⟩ := hE
      dsimp only at a0 a1 a2 a3 an hkj
      have HN : Hid (Nums (wr.alloc (.cells #[.int .i64 kd, .int .i64 nm, .int .i64 bd, .slice gk ks.length ck] 41)) gk ks) := an.on ((Below.refl _ wr).alloc (Nat.le_refl _) _)
      clear an
      have hkk : bk ≠ wr.heap.size := by omega
      go_wp2_with (at_builtin; refine app_kids rfl _ _ rfl (w.heap.size + 2) gk ck ks (wr.heap.size + 1) (by simp) rfl rfl HN.out hg0 (by rw [World.size_alloc]; omega) hkj ?_)
      intro v1 w1 ho1 hg1
      obtain ⟨g1, c1, rfl⟩ := own_val ho1
      have hR1 : Rw w1 wr.heap.size #[.int .i64 kd, .int .i64 nm, .int .i64 bd, .slice gk ks.length ck] := (hg1.block wr.heap.size (by rw [World.size_alloc]; omega) (by simp)).trans (World.alloc_heap_new wr _)
      have r0 := hR1.cell 0 _ rfl
      have r1 := hR1.cell 1 _ rfl
      have r2 := hR1.cell 2 _ rfl
      have r3 := hR1.cell 3 _ rfl
      have f3 := hR1.frozen 3
      have l3 := hR1.lt
      have hz1 : w.heap.size + 2 ≤ w1.heap.size := by omega
      have hbx := grown_box hg1 3 (.slice g1 ks.length c1)
      have hsz := HL.out.size
      have HKQ : Hid (KdO (w1.setCell ⟨wr.heap.size, 3, none⟩ (.slice g1 ks.length c1)) (w.heap.size + 2) (⟨kd, nm, bd, ks⟩, g1, c1)) := own_far ho1 (own3_not_box ho1 hR1) 3 _
      have HB1 : Hid (BdO (w1.setCell ⟨wr.heap.size, 3, none⟩ (.slice g1 ks.length c1)) (w.heap.size + 2) (.slice g' j c') ps) := HB.out.kept hbx (fun k e => by cases e; exact Nat.le_refl _)
      have HX1 : Hid (Bx2 (w1.setCell ⟨wr.heap.size, 3, none⟩ (.slice g1 ks.length c1)) w.heap.size p (.slice (some ⟨bk, o, none⟩) xs.length c)) := HX.out.kept hbx (fun e => by have := Option.some.inj e; omega)
      have HY1 : Hid (Bx2 (w1.setCell ⟨wr.heap.size, 3, none⟩ (.slice g1 ks.length c1)) (w.heap.size + 1) 0 (.slice none 0 0)) := HY.out.kept hbx (fun e => by have := Option.some.inj e; omega)
      have HL1 : Hid (Below w.heap.size w (w1.setCell ⟨wr.heap.size, 3, none⟩ (.slice g1 ks.length c1))) := HL.out.grown hbx hsz (fun k e => by cases e; exact hsz)
      have hpl : (ps.length + 1) * 48 ≤ 140737488355328 := by have := HP.out.2; omega
      clear HB HX HY HL HN x0 x1 a0 a1 a2 a3 hg1 ho1 hR1 hbx
      go_wp2_with (at_builtin; refine app_exO rfl _ _ rfl (w.heap.size + 2) (.slice g' j c') ps (⟨kd, nm, bd, ks⟩, g1, c1) _ rfl rfl w1.heap.size (by simp) rfl HB1.out HKQ.out (by simp; omega) hpl ?_)
      intro v2 w2 hB2 hg2
      obtain ⟨g2, k2, rfl⟩ := hB2.val
      have hl2 : (ps ++ [((⟨kd, nm, bd, ks⟩, g1, c1) : Pt)]).length = j + 1 := by
        rw [List.length_append, HP.out.2]; rfl
      have HP2 : Hid ((ps ++ [((⟨kd, nm, bd, ks⟩, g1, c1) : Pt)]).map (·.1) = xs.take (j + 1) ∧ (ps ++ [((⟨kd, nm, bd, ks⟩, g1, c1) : Pt)]).length = j + 1) := by
        refine ⟨?_, hl2⟩
        rw [List.map_append, HP.out.1, HTJ.out]; rfl
      rw [hl2] at hB2 ⊢
      clear hl2
      obtain ⟨p2, hp2⟩ : ∃ p2, ps ++ [((⟨kd, nm, bd, ks⟩, g1, c1) : Pt)] = p2 := ⟨_, rfl⟩
      rw [hp2] at hB2 HP2
      have HX2 : Hid (Bx2 w2 w.heap.size p (.slice (some ⟨bk, o, none⟩) xs.length c)) := (HX1.out.alloc _).kept hg2 (HB1.out.not_box (by omega))
      have HY2 : Hid (Bx2 w2 (w.heap.size + 1) 0 (.slice none 0 0)) := (HY1.out.alloc _).kept hg2 (HB1.out.not_box (by omega))
      have HL2 : Hid (Below w.heap.size w w2) := (HL1.out.alloc HL1.out.size _).grown hg2 (by rw [World.size_alloc]; have := HL1.out.size; omega) (fun k e => by have := (HB1.out.own.lt k e).1; omega)
      have HB2 : Hid (BdO w2 (w.heap.size + 2) (.slice g2 (j + 1) k2) p2) := hB2
      clear hB2 hg2 hp2 HKQ HB1 HX1 HY1 HL1 HP r0 r1 r2 r3 f3
      go_wp2_with fail
      go_roundw
      case rel => exact ⟨j + 1, p2, g2, k2, by omega, rfl, by go_num, HB2, HP2, HX2, HY2, HL2⟩
      case measure => simp [intOf]; omega
    · have hlt' : ¬ (j : Int) < (xs.length : Int) := by omega
      obtain rfl : j = xs.length := by omega
      have fx := HX.out.frozen
      have fy := HY.out.frozen
      have y0 := HY.out.c0
      have y1 := HY.out.c1
      have hzz : w.heap.size < w.heap.size + 2 := by omega
      have hzz1 : w.heap.size + 1 < w.heap.size + 2 := by omega
      go_wp2_with fail
      have hY : Bx2 (((wr.setCell ⟨w.heap.size, 1, none⟩ (.slice g' xs.length c')).setCell ⟨w.heap.size + 1, 0, none⟩ (.int .i64 p)).setCell ⟨w.heap.size + 1, 1, none⟩ (.slice g' xs.length c')) (w.heap.size + 1) p (.slice g' xs.length c') := ((HY.out.kept (grown_set wr w.heap.size 1 (.slice g' xs.length c')) (fun e => by have := Option.some.inj e; omega)).set0 _).set1 _
      have hB := ((HB.out.far hzz 1 (.slice g' xs.length c')).far hzz1 0 (.int .i64 p)).far hzz1 1 (.slice g' xs.length c')
      have hL := ((HL.out.setCell (p := ⟨w.heap.size, 1, none⟩) (Nat.le_refl _) (.slice g' xs.length c')).setCell (p := ⟨w.heap.size + 1, 0, none⟩) (Nat.le_succ _) (.int .i64 p)).setCell (p := ⟨w.heap.size + 1, 1, none⟩) (Nat.le_succ _) (.slice g' xs.length c')
      obtain ⟨W3, hW3⟩ : ∃ W3, ((wr.setCell ⟨w.heap.size, 1, none⟩ (.slice g' xs.length c')).setCell ⟨w.heap.size + 1, 0, none⟩ (.int .i64 p)).setCell ⟨w.heap.size + 1, 1, none⟩ (.slice g' xs.length c') = W3 := ⟨_, rfl⟩
      rw [hW3] at hY hB hL ⊢
      have q0 := hY.c0
      have q1 := hY.c1
      have hpe := HP.out
      rw [List.take_length] at hpe
      have hE : ∃ qs : List Pt, qs.map (·.1) = xs ∧ qs.length = xs.length ∧ BdO W3 (w.heap.size + 2) (.slice g' xs.length c') qs := ⟨ps, hpe.1, hpe.2, hB⟩
      clear hW3 hB hpe hY
      refine bodyPost_ret (v := .agg #[.int .i64 p, .slice g' xs.length c']) (by simp [results, Tryz.results34, go_sem, q0, q1]) rfl ⟨g', c', rfl, hE, hL⟩
end Go.Proofs.YtighcikiaddfcaaGreatDoor

namespace Go.Proofs.YtighcikiaddfcaaGreatDoor
open Go.RowKit
set_option linter.unusedVariables false

/-- A definition's two cells; its body lies as E says. -/
def DfAt (E : World → Option Addr → List Ex → Prop) (w : World) (bk o : Nat) (d : Df) (g : Option Addr) (c : Nat) : Prop :=
  w.cell? ⟨bk, o, none⟩ = some (.int .i64 d.params) ∧ w.cell? ⟨bk, o + 1, none⟩ = some (.slice g d.body.length c) ∧ E w g d.body
/-- Definitions in a slice, wherever it lies. -/
def Defs (E : World → Option Addr → List Ex → Prop) (w : World) (g : Option Addr) (ds : List Df) : Prop :=
  ds = [] ∨ ∃ bk o, g = some ⟨bk, o, none⟩ ∧ bk < w.heap.size ∧ ∀ (j : Nat) d, ds[j]? = some d → ∃ gk ck, DfAt E w bk (o + j * 2) d gk ck
theorem Defs.at {E : World → Option Addr → List Ex → Prop} {w : World} {g : Option Addr} {ds : List Df} (h : Defs E w g ds) {j : Nat} (hj : j < ds.length) : ∃ bk o, g = some ⟨bk, o, none⟩ ∧ bk < w.heap.size ∧ ∃ gk ck, DfAt E w bk (o + j * 2) ds[j] gk ck := by
  rcases h with h | ⟨bk, o, h1, h2, h3⟩
  · subst h; simp at hj
  · exact ⟨bk, o, h1, h2, h3 j _ (List.getElem?_eq_getElem hj)⟩
theorem Defs.onE {E E' : World → Option Addr → List Ex → Prop} {w w' : World} {g : Option Addr} {ds : List Df} (h : Defs E w g ds) (hb : Below w.heap.size w w') (hE : ∀ g xs, E w g xs → E' w' g xs) : Defs E' w' g ds := by
  rcases h with h | ⟨bk, o, h1, h2, h3⟩
  · exact Or.inl h
  · refine Or.inr ⟨bk, o, h1, Nat.lt_of_lt_of_le h2 hb.size, fun j d hd => ?_⟩
    obtain ⟨gk, ck, k0, k1, k2⟩ := h3 j d hd
    exact ⟨gk, ck, (hb.cell (p := ⟨bk, o + j * 2, none⟩) h2).trans k0, (hb.cell (p := ⟨bk, o + j * 2 + 1, none⟩) h2).trans k1, hE _ _ k2⟩
theorem Defs.on {w w' : World} {g : Option Addr} {ds : List Df} (h : Defs Exs w g ds) (hb : Below w.heap.size w w') : Defs Exs w' g ds := h.onE hb (fun _ _ k => k.on hb)

theorem takes_lo {ds : List Df} {e : Ex} (h : ¬ 0 ≤ e.num) : takes ds e = false := by unfold takes; rw [decide_eq_false h]; rfl
theorem takes_hi {ds : List Df} {e : Ex} (h0 : 0 ≤ e.num) (h : ¬ e.num < (ds.length : Int)) : takes ds e = false := by
  unfold takes; rw [List.getElem?_eq_none (by omega)]; simp
theorem takes_at {ds : List Df} {e : Ex} (h0 : 0 ≤ e.num) (h : e.num.toNat < ds.length) : takes ds e = ((e.kids.length : Int) == ds[e.num.toNat].params) := by
  unfold takes; rw [List.getElem?_eq_getElem h, decide_eq_true h0]; simp only [Bool.true_and]; rw [Bool.eq_iff_iff]; simp

set_option maxHeartbeats 800000 in
set_option maxRecDepth 100000 in
theorem taker_any (e : Ex) (gk : Option Addr) (ck : Nat) (g : Option Addr) (c : Nat) (ds : List Df) (w : World) (hd : Defs Exs w g ds) :
    Calls Tryz.prog 41 #[eV e gk ck, .slice g ds.length c] w fun r w' => r = .returned (.bool (takes ds e)) ∧ Below w.heap.size w w' := by
  have hd' := hd.on ((Below.refl _ w).alloc (Nat.le_refl _) (.cells #[.int .i64 e.kind, .int .i64 e.num, .int .i64 e.bind, .slice gk e.kids.length ck] 41))
  have hR := World.alloc_heap_new w (.cells #[.int .i64 e.kind, .int .i64 e.num, .int .i64 e.bind, .slice gk e.kids.length ck] 41)
  by_cases h0 : 0 ≤ e.num
  · by_cases h1 : e.num < (ds.length : Int)
    · have hn : e.num.toNat < ds.length := by omega
      obtain ⟨bk, o, rfl, hbk, gb, cb, q0, q1, q2⟩ := hd'.at hn
      rw [takes_at h0 hn]
      obtain ⟨P, hP⟩ : ∃ P, ds[e.num.toNat].params = P := ⟨_, rfl⟩
      rw [hP] at q0 ⊢
      obtain ⟨m, hm⟩ : ∃ m : Nat, e.num = (m : Int) := ⟨e.num.toNat, by omega⟩
      rw [hm] at h1 h0 q0
      simp only [Int.toNat_natCast] at q0
      obtain ⟨kd, nm, bd, ks⟩ := e
      dsimp only at hm ⊢
      subst hm
      clear hP q1 q2 hd hd' hR hn
      go_enter Tryz.func41, Tryz.ntmps41
      go_wp2_with fail
      go_quiet (fail)
      go_wp2_with fail
      go_ret
      exact ⟨rfl, ((Below.refl _ w).alloc (Nat.le_refl _) _).trans (below_drewN _ _ _)⟩
    · rw [takes_hi h0 h1]
      have e1 : decide (e.num < (ds.length : Int)) = false := decide_eq_false h1
      have e0 : decide (0 ≤ e.num) = true := decide_eq_true h0
      clear hd hd' hR
      go_enter Tryz.func41, Tryz.ntmps41
      go_wp2_with fail
      go_quiet (fail)
      go_wp2_with fail
      go_ret
      exact ⟨rfl, ((Below.refl _ w).alloc (Nat.le_refl _) _).trans (below_drewN _ _ _)⟩
  · rw [takes_lo h0]
    have e0 : decide (0 ≤ e.num) = false := decide_eq_false h0
    clear hd hd' hR
    go_enter Tryz.func41, Tryz.ntmps41
    go_wp2_with fail
    go_quiet (fail)
    go_wp2_with fail
    go_ret
    exact ⟨rfl, ((Below.refl _ w).alloc (Nat.le_refl _) _).trans (below_drewN _ _ _)⟩
end Go.Proofs.YtighcikiaddfcaaGreatDoor

namespace Go.Proofs.YtighcikiaddfcaaGreatDoor
open Go.RowKit
set_option linter.unusedVariables false

theorem wrong_call {ds : List Df} {e : Ex} (h : e.kind = 2) : wrong ds e = !takes ds e := by unfold wrong; rw [decide_eq_true h]; rfl
theorem wrong_other {ds : List Df} {e : Ex} (h : ¬ e.kind = 2) : wrong ds e = false := by unfold wrong; rw [decide_eq_false h]; rfl

set_option maxHeartbeats 800000 in
set_option maxRecDepth 100000 in
/-- A call that nobody takes? The program lies in the box z. -/
theorem wrong_any (e : Ex) (gk : Option Addr) (ck : Nat) (g : Option Addr) (c z : Nat) (ds : List Df) (w : World) (hz : w.cell? ⟨z, 0, none⟩ = some (.slice g ds.length c)) (hd : Defs Exs w g ds) :
    Calls Tryz.prog 40 #[eV e gk ck, .pointer (some ⟨z, 0, none⟩)] w fun r w' => r = .returned (.bool (wrong ds e)) ∧ Below w.heap.size w w' := by
  have hb : Below w.heap.size w (w.alloc (.cells #[.int .i64 e.kind, .int .i64 e.num, .int .i64 e.bind, .slice gk e.kids.length ck] 41)) := (Below.refl _ w).alloc (Nat.le_refl _) _
  have hlz : z < w.heap.size := World.block_lt_of_cell? w _ hz
  have hz1 := (hb.cell (p := ⟨z, 0, none⟩) hlz).trans hz
  have hd1 := hd.on hb
  by_cases hk : e.kind = 2
  · rw [wrong_call hk]
    obtain ⟨kd, nm, bd, ks⟩ := e
    dsimp only at hk hb hz1 hd1 ⊢
    subst hk
    have e1 : ((2 : Int) == 2) = true := rfl
    generalize hT : takes ds ⟨2, nm, bd, ks⟩ = T
    have HT := taker_any ⟨2, nm, bd, ks⟩ gk ck g c ds _ hd1
    rw [hT] at HT
    clear hT
    clear hd hd1 hz
    go_enter Tryz.func40, Tryz.ntmps40
    go_wp2_with fail
    refine HT.mono ?_
    rintro r w1 ⟨rfl, hb1⟩
    have h2 := below_next hb hb1
    cases T
    · go_wp2_with fail
      go_ret
      exact ⟨rfl, h2⟩
    · go_wp2_with fail
      go_ret
      exact ⟨rfl, h2⟩
  · rw [wrong_other hk]
    have e1 : (e.kind == 2) = false := by simpa using hk
    clear hd hd1 hz
    go_enter Tryz.func40, Tryz.ntmps40
    go_wp2_with fail
    go_ret
    exact ⟨rfl, hb⟩

set_option maxHeartbeats 800000 in
set_option maxRecDepth 100000 in
theorem ixf_any (gb : Option Addr) (cb : Nat) (xs : List Ex) (g : Option Addr) (c z : Nat) (ds : List Df) (w : World) (hn : xs.length ≤ 24) (hx : Exs w gb xs) (hz : w.cell? ⟨z, 0, none⟩ = some (.slice g ds.length c)) (hd : Defs Exs w g ds) :
    Calls Tryz.prog 69 #[.slice gb xs.length cb, .func (.func 40) #[] #[.pointer (some ⟨z, 0, none⟩)]] w fun r w' => (∃ i : Int, r = .returned (.int .i64 i) ∧ decide (0 ≤ i) = xs.any (wrong ds)) ∧ Below w.heap.size w w' := by
  have HZ : Hid (z < w.heap.size ∧ w.cell? ⟨z, 0, none⟩ = some (.slice g ds.length c) ∧ Defs Exs w g ds ∧ Exs w gb xs) := ⟨World.block_lt_of_cell? w _ hz, hz, hd, hx⟩
  clear hz hd hx
  go_enter Tryz.func69, Tryz.ntmps69
  go_wp2_with fail
  go_loopw [5, 8] (fun _ s8 wr => ∃ k : Nat, k ≤ xs.length ∧ s8 = .int .i64 (k : Int) ∧ Hid (Below w.heap.size w wr) ∧ Hid ((xs.take k).any (wrong ds) = false))
    (fun _ s8 _ => xs.length - (intOf s8).toNat)
  case atStart => exact ⟨0, Nat.zero_le _, rfl, Below.refl _ _, by show ([] : List Ex).any (wrong ds) = false; rfl⟩
  case round =>
    obtain ⟨k, hk, rfl, HB, H⟩ := hrel
    by_cases hlt : k < xs.length
    · have hlt' : (k : Int) < (xs.length : Int) := by omega
      obtain ⟨bk, o, rfl, hbk, gk, ck, hE⟩ := (HZ.out.2.2.2.on HB.out).at hlt
      have hcall := wrong_any xs[k] gk ck g c z ds wr ((HB.out.cell (p := ⟨z, 0, none⟩) HZ.out.1).trans HZ.out.2.1) (HZ.out.2.2.1.on HB.out)
      obtain ⟨e, he⟩ : ∃ e, e = xs[k] := ⟨_, rfl⟩
      rw [← he] at hE hcall
      have HE : Hid (e = xs[k]) := he
      clear he
      obtain ⟨a0, a1, a2, a3, an⟩ := hE
      clear an
      cases hq : wrong ds e with
      | false =>
        rw [hq] at hcall
        go_wp2_with (go_at_call 40; refine hcall.mono ?_; rintro r w' ⟨rfl, hb'⟩)
        have hb2 := below_next HB.out hb'
        go_roundw
        case rel =>
          refine ⟨k + 1, by omega, by go_num, hb2, ?_⟩
          show (xs.take (k + 1)).any (wrong ds) = false
          rw [List.take_add_one, List.getElem?_eq_getElem hlt, List.any_append, H.out, ← HE.out]
          simp [hq]
        case measure => simp [intOf]; omega
      | true =>
        rw [hq] at hcall
        go_wp2_with (go_at_call 40; refine hcall.mono ?_; rintro r w' ⟨rfl, hb'⟩)
        have hb2 := below_next HB.out hb'
        go_ret
        refine ⟨⟨_, rfl, ?_⟩, hb2⟩
        have hf : xs.any (wrong ds) = true := by
          rw [List.any_eq_true]
          exact ⟨e, by rw [HE.out]; exact List.getElem_mem hlt, hq⟩
        rw [hf]
        simp
    · have hlt' : ¬ (k : Int) < (xs.length : Int) := by omega
      go_wp2_with fail
      go_ret
      refine ⟨⟨_, rfl, ?_⟩, HB.out⟩
      have e : k = xs.length := by omega
      have := H.out
      rw [e, List.take_length] at this
      rw [this]
      rfl

set_option maxHeartbeats 400000 in
theorem cf_any (gb : Option Addr) (cb : Nat) (xs : List Ex) (g : Option Addr) (c z : Nat) (ds : List Df) (w : World) (hn : xs.length ≤ 24) (hx : Exs w gb xs) (hz : w.cell? ⟨z, 0, none⟩ = some (.slice g ds.length c)) (hd : Defs Exs w g ds) :
    Calls Tryz.prog 43 #[.slice gb xs.length cb, .func (.func 40) #[] #[.pointer (some ⟨z, 0, none⟩)]] w fun r w' => r = .returned (.bool (xs.any (wrong ds))) ∧ Below w.heap.size w w' := by
  have h := ixf_any gb cb xs g c z ds w hn hx hz hd
  clear hx hz hd
  go_enter Tryz.func43, Tryz.ntmps43
  go_wp2_with fail
  refine h.mono ?_
  rintro r w1 ⟨⟨i, rfl, hi⟩, hb⟩
  go_wp2_with fail
  go_ret
  exact ⟨by rw [← hi]; rfl, hb⟩
end Go.Proofs.YtighcikiaddfcaaGreatDoor

namespace Go.Proofs.YtighcikiaddfcaaGreatDoor
open Go.RowKit
set_option linter.unusedVariables false

/-- A program's box. -/
def Bx1 (w : World) (z : Nat) (v : Value) : Prop := w.heap[z]? = some (.cells #[v] 24 (0, 0))
theorem Bx1.lt {w : World} {z : Nat} {v : Value} (h : Bx1 w z v) : z < w.heap.size := (Array.getElem?_eq_some_iff.1 h).1
theorem Bx1.c0 {w : World} {z : Nat} {v : Value} (h : Bx1 w z v) : w.cell? ⟨z, 0, none⟩ = some v := by
  unfold World.cell?; simp only [show w.heap[z]? = _ from h]; rfl
theorem Bx1.frozen {w : World} {z : Nat} {v : Value} (h : Bx1 w z v) (j : Nat) : w.frozen? ⟨z, j, none⟩ = false := by
  simp [World.frozen?, show w.heap[z]? = _ from h]
theorem Bx1.kept {w w' : World} {row : Option Nat} {z : Nat} {v : Value} (h : Bx1 w z v) (hg : w.grownBy w' row) (hne : some z ≠ row) : Bx1 w' z v := (hg.block z h.lt hne).trans h
theorem Bx1.on {w w' : World} {z : Nat} {v : Value} (h : Bx1 w z v) (hb : Below w.heap.size w w') : Bx1 w' z v := (hb.block z h.lt).trans h
theorem Bx1.alloc {w : World} {z : Nat} {v : Value} (h : Bx1 w z v) (o : Obj) : Bx1 (w.alloc o) z v := (Below.heap_alloc w o z h.lt).trans h
theorem Bx1.new (w : World) (v : Value) : Bx1 (w.alloc (.cells #[v] 24)) w.heap.size v := World.alloc_heap_new w _
theorem Bx1.set0 {w : World} {z : Nat} {v : Value} (h : Bx1 w z v) (u : Value) : Bx1 (w.setCell ⟨z, 0, none⟩ u) z u := by
  obtain ⟨hlt, hk⟩ := Array.getElem?_eq_some_iff.1 h
  show (w.heap.modify z _)[z]? = _
  rw [Array.getElem?_eq_getElem (by rw [Array.size_modify]; exact hlt), Array.getElem_modify_self, hk]
  rfl

theorem pmay_few {ds : List Df} (h : (ds.length : Int) < 1) : pmay ds = false := by
  unfold pmay; rw [decide_eq_false (by omega)]; rfl
theorem pmay_many {ds : List Df} (h : (8 : Int) < (ds.length : Int)) : pmay ds = false := by
  unfold pmay; rw [decide_eq_false (by omega)]; rfl
theorem pmay_main {ds : List Df} (h : 0 < ds.length) (h0 : ¬ ds[0].params = 0) : pmay ds = false := by
  unfold pmay; rw [List.getElem?_eq_getElem h]; simp [h0]
theorem pmay_all {ds : List Df} (h : 0 < ds.length) (h8 : ds.length ≤ 8) (h0 : ds[0].params = 0) : pmay ds = ds.all (dOk ds) := by
  unfold pmay; rw [List.getElem?_eq_getElem h, decide_eq_true ⟨h, h8⟩]; simp [h0]

set_option maxHeartbeats 1600000 in
set_option maxRecDepth 100000 in
theorem pmay_any (g : Option Addr) (c : Nat) (ds : List Df) (w : World) (hd : Defs Exs w g ds) :
    Calls Tryz.prog 23 #[.agg #[.slice g ds.length c]] w fun r w' => r = .returned (.bool (pmay ds)) ∧ Below w.heap.size w w' := by
  have hb0 : Below w.heap.size w (w.alloc (.cells #[.slice g ds.length c] 24)) := (Below.refl _ w).alloc (Nat.le_refl _) _
  have hX0 := Bx1.new w (.slice g ds.length c)
  have hd0 := hd.on hb0
  by_cases h1 : (ds.length : Int) < 1
  · have e1 : decide ((ds.length : Int) < 1) = true := decide_eq_true h1
    rw [pmay_few h1]
    clear hd hd0 hX0
    go_enter Tryz.func23, Tryz.ntmps23
    go_wp2_with fail
    go_ret
    exact ⟨rfl, hb0⟩
  · have e1 : decide ((ds.length : Int) < 1) = false := decide_eq_false h1
    by_cases h2 : (8 : Int) < (ds.length : Int)
    · have e2 : decide ((8 : Int) < (ds.length : Int)) = true := decide_eq_true h2
      rw [pmay_many h2]
      clear hd hd0 hX0
      go_enter Tryz.func23, Tryz.ntmps23
      go_wp2_with fail
      go_ret
      exact ⟨rfl, hb0⟩
    · have e2 : decide ((8 : Int) < (ds.length : Int)) = false := decide_eq_false h2
      have hl : 0 < ds.length := by omega
      obtain ⟨bk, o, rfl, hbk, gk, ck, q0, q1, q2⟩ := hd0.at hl
      simp only [Nat.zero_mul, Nat.add_zero] at q0 q1
      clear q1 q2
      by_cases h3 : ds[0].params = 0
      · have e3 : (ds[0].params != 0) = false := by simpa using h3
        have HP : Hid (pmay ds = ds.all (dOk ds)) := pmay_all hl (by omega) h3
        rw [h3] at q0 e3
        have HD : Hid (Defs Exs (w.alloc (.cells #[.slice (some ⟨bk, o, none⟩) ds.length c] 24)) (some ⟨bk, o, none⟩) ds) := hd0
        have HX : Hid (Bx1 (w.alloc (.cells #[.slice (some ⟨bk, o, none⟩) ds.length c] 24)) w.heap.size (.slice (some ⟨bk, o, none⟩) ds.length c)) := hX0
        have HB0 : Hid (Below w.heap.size w (w.alloc (.cells #[.slice (some ⟨bk, o, none⟩) ds.length c] 24))) := hb0
        clear hd hd0 hX0 h3 hb0
        go_enter Tryz.func23, Tryz.ntmps23
        go_wp2_with fail
        clear q0 e3 e1 e2
        obtain ⟨W0, hW0⟩ : ∃ W0, w.alloc (.cells #[.slice (some ⟨bk, o, none⟩) ds.length c] 24) = W0 := ⟨_, rfl⟩
        rw [hW0] at HD HX HB0 hbk ⊢
        clear hW0
        go_loopw [5, 28] (fun _ s wr => ∃ k : Nat, k ≤ ds.length ∧ s = .int .i64 (k : Int) ∧ Hid (Below W0.heap.size W0 wr) ∧ Hid ((ds.take k).all (dOk ds) = true))
          (fun _ s _ => ds.length - (intOf s).toNat)
        case atStart => exact ⟨0, Nat.zero_le _, rfl, Below.refl _ _, by show ([] : List Df).all (dOk ds) = true; rfl⟩
        case round =>
          obtain ⟨k, hk, rfl, HB, H⟩ := hrel
          by_cases hlt : k < ds.length
          · have hlt' : (k : Int) < (ds.length : Int) := by omega
            obtain ⟨bk2, o2, hge, hbk2, gk, ck, q0, q1, q2⟩ := (HD.out.on HB.out).at hlt
            cases hge
            obtain ⟨d, he⟩ : ∃ d, d = ds[k] := ⟨_, rfl⟩
            rw [← he] at q0 q1 q2
            have HE : Hid (d = ds[k]) := he
            clear he
            obtain ⟨pp, xs⟩ := d
            dsimp only at q0 q1 q2
            have hb1 : Below wr.heap.size wr (wr.alloc (.cells #[.int .i64 pp, .slice gk xs.length ck] 43)) := (Below.refl _ wr).alloc (Nat.le_refl _) _
            have hb2 := below_next HB.out hb1
            have hm := may_any pp gk ck xs _ (q2.on hb1)
            have hx3 := cell_new wr #[.int .i64 pp, .slice gk xs.length ck] 43 1 _ rfl
            have HQ : Hid (Exs wr gk xs) := q2
            have HB1 : Hid (Below W0.heap.size W0 (wr.alloc (.cells #[.int .i64 pp, .slice gk xs.length ck] 43))) := hb2
            have HC1 : Hid (wr.heap.size < (wr.alloc (.cells #[.int .i64 pp, .slice gk xs.length ck] 43)).heap.size ∧ (wr.alloc (.cells #[.int .i64 pp, .slice gk xs.length ck] 43)).cell? ⟨wr.heap.size, 1, none⟩ = some (.slice gk xs.length ck) ∧ Below wr.heap.size wr (wr.alloc (.cells #[.int .i64 pp, .slice gk xs.length ck] 43))) := ⟨by simp, hx3, hb1⟩
            clear q2 hb1 hb2 hx3
            cases hq : may pp xs with
            | false =>
              rw [hq] at hm
              go_wp2_with (go_at_call 42; refine hm.mono ?_; rintro r w3 ⟨rfl, hb3⟩)
              have hb4 := below_next HB0.out (below_next HB1.out hb3)
              have hr : pmay ds = false := by
                rw [HP.out, List.all_eq_false]
                exact ⟨⟨pp, xs⟩, by rw [HE.out]; exact List.getElem_mem hlt, by simp [dOk, hq]⟩
              go_ret
              exact ⟨by first | rfl | (rw [hr]; rfl), hb4⟩
            | true =>
              rw [hq] at hm
              have hx24 := may_len hq
              go_wp2_with (go_at_call 42; refine hm.mono ?_; rintro r w3 ⟨rfl, hb3⟩; have hc3 := (hb3.cell (p := ⟨wr.heap.size, 1, none⟩) HC1.out.1).trans HC1.out.2.1; have hb5 := below_next HB1.out hb3; have hcf := cf_any gk ck xs _ c w.heap.size ds w3 hx24 (HQ.out.on (below_next HC1.out.2.2 hb3)) (HX.out.on hb5).c0 (HD.out.on hb5))
              cases hw : xs.any (wrong ds) with
              | true =>
                rw [hw] at hcf
                refine hcf.mono ?_
                rintro r w4 ⟨rfl, hb6⟩
                have hb7 := below_next HB0.out (below_next hb5 hb6)
                have hr : pmay ds = false := by
                  rw [HP.out, List.all_eq_false]
                  exact ⟨⟨pp, xs⟩, by rw [HE.out]; exact List.getElem_mem hlt, by simp only [dOk, hq, hw]; decide⟩
                go_wp2_with fail
                go_ret
                exact ⟨by first | rfl | (rw [hr]; rfl), hb7⟩
              | false =>
                rw [hw] at hcf
                refine hcf.mono ?_
                rintro r w4 ⟨rfl, hb6⟩
                have hb7 := below_next hb5 hb6
                go_wp2_with fail
                go_roundw
                case rel =>
                  refine ⟨k + 1, by omega, by go_num, hb7, ?_⟩
                  show (ds.take (k + 1)).all (dOk ds) = true
                  rw [List.take_add_one, List.getElem?_eq_getElem hlt, List.all_append, H.out, ← HE.out]
                  simp only [Option.toList, List.all_cons, List.all_nil, dOk, hq, hw]
                  decide
                case measure => simp [intOf]; omega
          · have hlt' : ¬ (k : Int) < (ds.length : Int) := by omega
            have hb7 := below_next HB0.out HB.out
            have hr : pmay ds = true := by
              have h := H.out
              rw [show k = ds.length by omega, List.take_length] at h
              rw [HP.out, h]
            go_wp2_with fail
            go_ret
            exact ⟨by first | rfl | (rw [hr]; rfl), hb7⟩
      · have e3 : (ds[0].params != 0) = true := by simpa using h3
        rw [pmay_main hl h3]
        clear hd hd0 hX0 h3
        generalize ds[0].params = P at *
        go_enter Tryz.func23, Tryz.ntmps23
        go_wp2_with fail
        go_ret
        exact ⟨rfl, hb0⟩
end Go.Proofs.YtighcikiaddfcaaGreatDoor
