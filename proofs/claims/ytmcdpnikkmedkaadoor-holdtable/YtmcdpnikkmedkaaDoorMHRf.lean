/- The document's meets: a term held against a thing. · Nodes in memory; CopyNodes and SameNode of the laws. · A node that comes in, and a list of nodes: plain data, with the bounds that the sized condition gives. -/
import Derived.Test.YtmcdpnikkmedkaaDoorMNTop
import Derived.Test.YtmcdpnikkmedkaaDoorMNPure
import Derived.Test.YtmcdpnikkmedkaaDoorMTerm
import Derived.Deep.AppendLies
import Derived.Test.YtmcdpnikkmedkaaDoorMCopy
import Derived.SizedLaws
import Derived.ChangeMaps5
import Derived.Carry
import Derived.OpenShut
import Derived.Deep.Strs

namespace Go.Proofs.YtmcdpnikkmedkaaDoor
open Go.RowKit
set_option linter.unusedVariables false
attribute [local go_sem ↓] Go.wp_at_zero Go.wp_at_succ

/-- Texts in a row, in none of A's blocks. -/
def TxA (A : Nat → Prop) (W : World) (g : Option Addr) (xs : List ByteArray) : Prop := xs = [] ∨ ∃ bk o, g = some ⟨bk, o, none⟩ ∧ bk < W.heap.size ∧ ¬ A bk ∧ ∀ (j : Nat) x, xs[j]? = some x → W.cell? ⟨bk, o + j, none⟩ = some (.string x)
theorem TxA.kp {A : Nat → Prop} {W W' : World} {g : Option Addr} {xs : List ByteArray} (h : TxA A W g xs) (hk : Ka A W W') : TxA A W' g xs := by
  rcases h with h | ⟨bk, o, e, h1, h2, h3⟩
  · exact Or.inl h
  · exact Or.inr ⟨bk, o, e, Nat.lt_of_lt_of_le h1 hk.size, h2, fun j x hx => (hk.cell h1 h2).trans (h3 j x hx)⟩
theorem TxA.sub {A B : Nat → Prop} {W : World} {g : Option Addr} {xs : List ByteArray} (h : TxA A W g xs) (hab : ∀ k, B k → A k) : TxA B W g xs := by
  rcases h with h | ⟨bk, o, e, h1, h2, h3⟩
  · exact Or.inl h
  · exact Or.inr ⟨bk, o, e, h1, fun hb => h2 (hab bk hb), h3⟩
theorem TxA.at {A : Nat → Prop} {W : World} {g : Option Addr} {xs : List ByteArray} (h : TxA A W g xs) {j : Nat} {x : ByteArray} (hj : xs[j]? = some x) : ∃ bk o, g = some ⟨bk, o, none⟩ ∧ bk < W.heap.size ∧ ¬ A bk ∧ W.cell? ⟨bk, o + j, none⟩ = some (.string x) := by
  rcases h with h | ⟨bk, o, h1, h2, ha, h3⟩
  · subst h; simp at hj
  · exact ⟨bk, o, h1, h2, ha, h3 j x hj⟩
theorem ka_set {z : Nat} (U : World) (j : Nat) (v : Value) : Ka (Zz z) U (U.setCell ⟨z, j, none⟩ v) := Ka.of_grown (grown_set U z j v) (fun k e => (Option.some.inj e).symm)
def mcode : Mo → Int
  | .out => 901
  | _ => 0
theorem erO_told {o : Oc} (h : told o) : erO o = 0 := by
  cases o with
  | fuel => exact absurd rfl h.1
  | hole => exact absurd rfl h.2
  | _ => rfl
theorem mts_yes {R : Nat → Wdn → Th → Mo × Nat} {f f1 j : Nat} {ks : List Wdn} {ps : List Th} {k : Wdn} {p : Th} (hk : ks[j]? = some k) (hp : ps[j]? = some p) (hq : R f k p = (.yes, f1)) : mts R f (ks.drop j) (ps.drop j) = mts R f1 (ks.drop (j + 1)) (ps.drop (j + 1)) := by
  obtain ⟨h1, e1⟩ := List.getElem?_eq_some_iff.1 hk
  obtain ⟨h2, e2⟩ := List.getElem?_eq_some_iff.1 hp
  rw [List.drop_eq_getElem_cons h1, List.drop_eq_getElem_cons h2, e1, e2, mts, hq]
theorem mts_stop {R : Nat → Wdn → Th → Mo × Nat} {f f1 j : Nat} {ks : List Wdn} {ps : List Th} {k : Wdn} {p : Th} {o : Mo} (hk : ks[j]? = some k) (hp : ps[j]? = some p) (hq : R f k p = (o, f1)) (ho : moB o = false) : mts R f (ks.drop j) (ps.drop j) = (o, f1) := by
  obtain ⟨h1, e1⟩ := List.getElem?_eq_some_iff.1 hk
  obtain ⟨h2, e2⟩ := List.getElem?_eq_some_iff.1 hp
  rw [List.drop_eq_getElem_cons h1, List.drop_eq_getElem_cons h2, e1, e2, mts, hq]
  cases o with
  | yes => cases ho
  | no => rfl
  | out => rfl
/-- Cells that stay. -/
def Lk (L : List (Nat × Nat × Value)) (V : World) : Prop := ∀ q ∈ L, q.1 < V.heap.size ∧ V.cell? ⟨q.1, q.2.1, none⟩ = some q.2.2
theorem Lk.below {L : List (Nat × Nat × Value)} {V V' : World} (h : Lk L V) (hb : Below V.heap.size V V') : Lk L V' := fun q hq =>
  ⟨Nat.lt_of_lt_of_le (h q hq).1 hb.size, (hb.cell (p := ⟨q.1, q.2.1, none⟩) (h q hq).1).trans (h q hq).2⟩
theorem Lk.drew {L : List (Nat × Nat × Value)} {V : World} (h : Lk L V) : Lk L V.drew := h.below (Below.refl _ V).drew
theorem Lk.ka {A : Nat → Prop} {L : List (Nat × Nat × Value)} {V V' : World} (h : Lk L V) (hk : Ka A V V') (hn : ∀ q ∈ L, ¬ A q.1) : Lk L V' := fun q hq =>
  ⟨Nat.lt_of_lt_of_le (h q hq).1 hk.size, (hk.cell (h q hq).1 (hn q hq)).trans (h q hq).2⟩
theorem Lk.all {b1 b2 b3 b4 b5 b6 b7 j1 j2 j3 j4 j5 j6 j7 : Nat} {v1 v2 v3 v4 v5 v6 v7 : Value} {V : World} (h : Lk [(b1, j1, v1), (b2, j2, v2), (b3, j3, v3), (b4, j4, v4), (b5, j5, v5), (b6, j6, v6), (b7, j7, v7)] V) : Lk [(b1, j1, v1), (b2, j2, v2), (b3, j3, v3), (b4, j4, v4), (b5, j5, v5), (b6, j6, v6), (b7, j7, v7)] V ∧ V.cell? ⟨b1, j1, none⟩ = some v1 ∧ V.cell? ⟨b2, j2, none⟩ = some v2 ∧ V.cell? ⟨b3, j3, none⟩ = some v3 ∧ V.cell? ⟨b4, j4, none⟩ = some v4 ∧ V.cell? ⟨b5, j5, none⟩ = some v5 ∧ V.cell? ⟨b6, j6, none⟩ = some v6 ∧ V.cell? ⟨b7, j7, none⟩ = some v7 :=
  ⟨h, (h (b1, j1, v1) (by simp)).2, (h (b2, j2, v2) (by simp)).2, (h (b3, j3, v3) (by simp)).2, (h (b4, j4, v4) (by simp)).2, (h (b5, j5, v5) (by simp)).2, (h (b6, j6, v6) (by simp)).2, (h (b7, j7, v7) (by simp)).2⟩
end Go.Proofs.YtmcdpnikkmedkaaDoor

namespace Go.Proofs.YtmcdpnikkmedkaaDoor
open Go.RowKit
set_option linter.unusedVariables false
attribute [local go_sem ↓] Go.wp_at_zero Go.wp_at_succ

/-- A node, in plain words. -/
structure Nd where
  fn : Int
  par : Int
  args : List ByteArray
  res : ByteArray
theorem Tryd.infoNn : (Tryd.prog.info? 29).map (fun i => (i.zero, i.size, i.bytes)) = some (some (.agg #[.int .i64 0, .int .i64 0, .slice none 0 0, .string ⟨#[]⟩]), 4, 56) := by kernel_rfl
theorem Tryd.info9n : (Tryd.prog.info? 9).map (fun i => (i.zero, i.size, i.bytes)) = some (some (.string ⟨#[]⟩), 1, 16) := by kernel_rfl
/-- A list of texts that comes in. -/
def StI (w : World) (g : Option Addr) (xs : List ByteArray) (c : Nat) : Prop :=
  (g = none ∧ xs = [] ∧ c = 0) ∨ (xs = [] ∧ ∃ a, g = some a) ∨ ∃ bk o, g = some ⟨bk, o, none⟩ ∧ bk < w.heap.size ∧ ∀ (j : Nat) x, xs[j]? = some x → w.cell? ⟨bk, o + j, none⟩ = some (.string x)
theorem StI.on {w w' : World} {g : Option Addr} {xs : List ByteArray} {c : Nat} (h : StI w g xs c) (hb : Below w.heap.size w w') : StI w' g xs c := by
  rcases h with h | h | ⟨bk, o, e, h1, h2⟩
  · exact Or.inl h
  · exact Or.inr (Or.inl h)
  · exact Or.inr (Or.inr ⟨bk, o, e, Nat.lt_of_lt_of_le h1 hb.size, fun j x hx => (hb.cell (p := ⟨bk, o + j, none⟩) h1).trans (h2 j x hx)⟩)
theorem StI.txts {w : World} {g : Option Addr} {xs : List ByteArray} {c : Nat} (h : StI w g xs c) : Tm.Txts w g xs := by
  rcases h with ⟨_, e, _⟩ | ⟨e, _⟩ | h
  · exact Or.inl e
  · exact Or.inl e
  · exact Or.inr h
theorem TxA.txts {A : Nat → Prop} {W : World} {g : Option Addr} {xs : List ByteArray} (h : TxA A W g xs) : Tm.Txts W g xs := by
  rcases h with h | ⟨bk, o, h1, h2, _, h3⟩
  · exact Or.inl h
  · exact Or.inr ⟨bk, o, h1, h2, h3⟩
/-- A node's four cells. -/
def NdA (A : Nat → Prop) (W : World) (us : List Value) (n : Nd) : Prop := ∃ ga ca, us = [.int .i64 n.fn, .int .i64 n.par, .slice ga n.args.length ca, .string n.res] ∧ TxA A W ga n.args
theorem NdA.kp {A : Nat → Prop} {W W' : World} {us : List Value} {n : Nd} (h : NdA A W us n) (hk : Ka A W W') : NdA A W' us n := by
  obtain ⟨ga, ca, e, h⟩ := h
  exact ⟨ga, ca, e, h.kp hk⟩
theorem NdA.avoid {A B : Nat → Prop} {W : World} {us : List Value} {n : Nd} (h : NdA A W us n) (hab : ∀ k, B k → A k ∨ W.heap.size ≤ k) : NdA B W us n := by
  obtain ⟨ga, ca, e, h⟩ := h
  refine ⟨ga, ca, e, ?_⟩
  rcases h with h | ⟨bk, o, h1, h2, h3, h4⟩
  · exact Or.inl h
  · exact Or.inr ⟨bk, o, h1, h2, fun hb => by rcases hab bk hb with h | h; exact h3 h; omega, h4⟩
theorem NdA.four {A : Nat → Prop} {W : World} {us : List Value} {n : Nd} (h : NdA A W us n) : us.length = 4 := by obtain ⟨_, _, rfl, _⟩ := h; rfl
theorem NdA.ones {A : Nat → Prop} {W : World} {us : List Value} {n : Nd} (h : NdA A W us n) : ∀ u ∈ us, u.oneCell' = true := by
  obtain ⟨ga, ca, rfl, _⟩ := h
  intro u hu
  simp only [List.mem_cons, List.not_mem_nil, or_false] at hu
  rcases hu with rfl | rfl | rfl | rfl <;> rfl
/-- Nodes told in an own row, while it grows. -/
def NGr (B : Nat) (W : World) (v : Value) (ns : List Nd) : Prop :=
  ∃ us : List (List Value), W.ownsRow B 29 4 v us.length us.flatten ∧ us.length = ns.length ∧ ∀ (j : Nat) u n, us[j]? = some u → ns[j]? = some n → NdA (fun k => v.ownBlock = some k ∨ k < B) W u n
theorem NGr.nil (B : Nat) (W : World) : NGr B W (.slice none 0 0) [] := ⟨[], World.ownsRow_nil _ _ _ _, rfl, fun j u n hu => by simp at hu⟩
theorem NGr.next {B : Nat} {W W' : World} {v : Value} {ns : List Nd} (h : NGr B W v ns) (hb : Below W.heap.size W W') : NGr B W' v ns := by
  obtain ⟨us, h1, h2, h3⟩ := h
  exact ⟨us, Lx.own_below h1 hb, h2, fun j u n hu hn => (h3 j u n hu hn).kp (Ka.of_below hb)⟩
theorem NGr.val {B : Nat} {W : World} {v : Value} {ns : List Nd} (h : NGr B W v ns) : ∃ g c, v = .slice g ns.length c := by
  obtain ⟨us, h1, h2, _⟩ := h
  obtain ⟨g, c, e, _⟩ := Lx.own_len h1
  rw [h2] at e
  exact ⟨g, c, e⟩
theorem flat4_at : ∀ {us : List (List Value)}, (∀ u ∈ us, u.length = 4) → ∀ {j : Nat} {u : List Value}, us[j]? = some u → ∀ {i : Nat} {x : Value}, u[i]? = some x → us.flatten[j * 4 + i]? = some x
  | [], _, j, u, h, i, x, _ => by simp at h
  | v :: us, h4, 0, u, h, i, x, hx => by
    have e : v = u := by simpa using h
    subst e
    rw [List.flatten_cons, Nat.zero_mul, Nat.zero_add, List.getElem?_append_left (List.getElem?_eq_some_iff.1 hx).1]
    exact hx
  | v :: us, h4, j + 1, u, h, i, x, hx => by
    have hv : v.length = 4 := h4 v (by simp)
    rw [List.flatten_cons, List.getElem?_append_right (by omega), hv, show (j + 1) * 4 + i - 4 = j * 4 + i by omega]
    exact flat4_at (fun y hy => h4 y (by simp [hy])) (by simpa using h) hx
/-- A node of an own row: its cells. -/
theorem NGr.at {B : Nat} {W : World} {v : Value} {ns : List Nd} (h : NGr B W v ns) {j : Nat} {n : Nd} (hj : ns[j]? = some n) :
    ∃ bk c ga ca, v = .slice (some ⟨bk, 0, none⟩) ns.length c ∧ bk < W.heap.size ∧ (W.cell? ⟨bk, j * 4, none⟩ = some (.int .i64 n.fn) ∧ W.cell? ⟨bk, j * 4 + 1, none⟩ = some (.int .i64 n.par) ∧ W.cell? ⟨bk, j * 4 + 2, none⟩ = some (.slice ga n.args.length ca) ∧ W.cell? ⟨bk, j * 4 + 3, none⟩ = some (.string n.res)) ∧ Tm.Txts W ga n.args := by
  obtain ⟨us, h1, h2, h3⟩ := h
  have hlt : j < us.length := by rw [h2]; exact (List.getElem?_eq_some_iff.1 hj).1
  have hu : us[j]? = some us[j] := List.getElem?_eq_getElem hlt
  have h4 : ∀ u ∈ us, u.length = 4 := by
    intro u hu
    obtain ⟨i, hi⟩ := List.getElem?_of_mem hu
    have hl : i < ns.length := by rw [← h2]; exact (List.getElem?_eq_some_iff.1 hi).1
    exact (h3 i u _ hi (List.getElem?_eq_getElem hl)).four
  obtain ⟨ga, ca, e, ht⟩ := h3 j _ n hu hj
  rw [e] at hu
  have hc := h1
  rcases h1.2 with ⟨_, hm⟩ | ⟨b, cap, cur, ev, hb, hh, _⟩
  · have hl := flat4_at h4 hu (i := 0) rfl
    have : us.flatten.length = 0 := by
      have := congrArg List.length (List.length_eq_zero_iff.1 (show us.length = 0 by first | exact hm | (have := List.length_eq_zero_iff.2 hm; omega)))
      omega
    omega
  · subst ev
    have hk : ∀ i x, ([.int .i64 n.fn, .int .i64 n.par, .slice ga n.args.length ca, .string n.res] : List Value)[i]? = some x → W.cell? ⟨b, j * 4 + i, none⟩ = some x := fun i x hx => by
      have := hc.cells (g := b) rfl _ _ (flat4_at h4 hu hx)
      rw [Lib.add_plain, Nat.zero_add] at this
      exact this
    refine ⟨b, cap, ga, ca, by rw [h2], (Array.getElem?_eq_some_iff.1 hh).1, ⟨hk 0 _ rfl, hk 1 _ rfl, hk 2 _ rfl, hk 3 _ rfl⟩, ht.txts⟩
theorem NGr.put {B : Nat} {W W' : World} {v v' : Value} {u : List Value} {us : List (List Value)} {ns : List Nd} {n : Nd} (h2 : us.length = ns.length) (h3 : ∀ (j : Nat) u n, us[j]? = some u → ns[j]? = some n → NdA (fun k => v.ownBlock = some k ∨ k < B) W u n)
    (hu : NdA (fun k => v.ownBlock = some k ∨ k < B) W u n) (h4 : W'.ownsRow B 29 4 v' (us ++ [u]).length (us ++ [u]).flatten) (hg : W.grownBy W' v.ownBlock) (hv : v'.ownBlock = v.ownBlock ∨ v'.ownBlock = some W.heap.size) : NGr B W' v' (ns ++ [n]) := by
  have hk : ∀ {x : List Value} {l : Nd}, NdA (fun k => v.ownBlock = some k ∨ k < B) W x l → NdA (fun k => v'.ownBlock = some k ∨ k < B) W' x l := by
    intro x l hx
    refine ((hx.avoid (B := fun k => (v.ownBlock = some k ∨ k < B) ∨ v'.ownBlock = some k) ?_).kp (Ka.of_grown hg (fun k hk => Or.inl (Or.inl hk)))).avoid (fun k hk => hk.elim (fun h => Or.inl (Or.inr h)) (fun h => Or.inl (Or.inl (Or.inr h))))
    rintro k (hk | hk)
    · exact Or.inl hk
    · rcases hv with e | e
      · exact Or.inl (Or.inl (by rw [← e]; exact hk))
      · rw [e] at hk; have := Option.some.inj hk; right; omega
  refine ⟨us ++ [u], h4, by simp [h2], fun j x l hx hl => ?_⟩
  by_cases hj : j < us.length
  · rw [List.getElem?_append_left hj] at hx
    rw [List.getElem?_append_left (by omega)] at hl
    exact hk (h3 j x l hx hl)
  · rw [List.getElem?_append_right (by omega)] at hx
    rw [List.getElem?_append_right (by omega), ← h2] at hl
    cases hm : j - us.length with
    | zero => rw [hm] at hx hl; simp at hx hl; subst hx; subst hl; exact hk hu
    | succ m => rw [hm] at hx; simp at hx
/-- A list of texts put behind an own one. -/
theorem wp_cat9 {W : World} {o : Oper} {a : Act} {K : Act → World → Prop} {Q : Exit → Act → World → Prop} (s x : Operand)
    (ho : o.op = .call { callee := .builtin .append, args := #[s, x], argTypes := #[27, 27] }) (B : Nat) (v : Value) (ga : Option Addr) (ca : Nat) (ys : List ByteArray) (hs : a.eval s = v) (hx : a.eval x = .slice ga ys.length ca) (hG : W.ownsRow B 9 1 v 0 []) (hi' : StI W ga ys ca) (hB : B ≤ W.heap.size) (hlen : ys.length * 16 ≤ 140737488351232)
    (h : ∀ g c w', w'.ownsRow B 9 1 (.slice g ys.length c) ys.length (ys.map Value.string) → Below B W w' → K (a.put o.dst (.slice g ys.length c)) w') : Oper.wp Tryd.prog o a W K Q := by
  obtain ⟨i0, hi, hz0, hz1, hz2⟩ := info_parts Tryd.info9n
  rcases hi' with ⟨rfl, rfl, rfl⟩ | h2
  · have hrun := run_append_owned_none (P := Tryd.prog) (w := W) B 27 o.type 9 i0 1 Tryd.underlying27 hi v 0 [] hG
    obtain ⟨g, c, e, _⟩ := Lx.own_len hG
    have hx' : a.eval x = .slice none 0 0 := hx
    unfold Oper.wp
    simp [execOp, ho, resolve, invoke, builtin, hs, hx', hrun, Result.andThen]
    subst e
    exact h g c W hG (Below.refl _ _)
  · have hcells : ∃ ad : Addr, ga = some ad ∧ ∀ j u, (ys.map Value.string)[j]? = some u → W.cell? (ad.add j) = some u := by
      rcases h2 with ⟨rfl, ad, rfl⟩ | ⟨bk, of, rfl, k1, k2⟩
      · exact ⟨ad, rfl, fun j u hu => by simp at hu⟩
      · refine ⟨⟨bk, of, none⟩, rfl, fun j u hu => ?_⟩
        rw [List.getElem?_map] at hu
        cases hy : ys[j]? with
        | none => rw [hy] at hu; cases hu
        | some y => rw [hy] at hu; cases hu; rw [Lib.add_plain]; exact k2 j y hy
    obtain ⟨ad, rfl, hc⟩ := hcells
    obtain ⟨v', w', hr, q1, q2, q3, q4⟩ := run_append_own_at (P := Tryd.prog) W B 27 o.type 9 i0 _ 1 16 Tryd.underlying27 hi hz0 hz1 hz2 rfl (by decide) v 0 [] hG ad ys.length ca (ys.map Value.string) (by simp) hc (fun u hu => by obtain ⟨y, _, rfl⟩ := List.mem_map.1 hu; rfl) (by unfold maxLen; omega) (by omega) hB
    unfold Oper.wp execOp
    simp only [ho, resolve, invoke, builtin, Sem.run_bind, Sem.run_pure, Result.andThen_ok, List.map_toArray, List.map_cons, List.map_nil, hs, hx, hr]
    obtain ⟨g, c', e, _⟩ := Lx.own_len q1
    subst e
    have hbel : Below B W w' := (Below.refl B W).grown q2 hB (fun k hk => (World.ownsRow.lt hG k hk).1)
    rw [Nat.zero_add, List.nil_append] at q1
    have := h g c' w' q1 hbel
    rw [Nat.zero_add]
    exact this
theorem step_cat9 {W : World} {ops : Array Oper} {o : Oper} {a : Act} {K : Act → World → Prop} {Q : Exit → Act → World → Prop} {E : Prop} (hgd : o.guard = none) (s x : Operand)
    (ho : o.op = .call { callee := .builtin .append, args := #[s, x], argTypes := #[27, 27] }) (B : Nat) (v : Value) (ga : Option Addr) (ca : Nat) (ys : List ByteArray) (hs : a.eval s = v) (hx : a.eval x = .slice ga ys.length ca) (hG : W.ownsRow B 9 1 v 0 []) (hi' : StI W ga ys ca) (hB : B ≤ W.heap.size) (hlen : ys.length * 16 ≤ 140737488351232)
    (h : ∀ g c w', w'.ownsRow B 9 1 (.slice g ys.length c) ys.length (ys.map Value.string) → Below B W w' → K (a.put o.dst (.slice g ys.length c)) w') : if Region.wanted o (yielded ops a.tmps) = true then Oper.wp Tryd.prog o a W K Q else E := by
  rw [if_pos (by simp [Region.wanted, hgd])]
  exact wp_cat9 s x ho B v ga ca ys hs hx hG hi' hB hlen h
theorem wpList_cat9 {W : World} {ops : Array Oper} {rest : List Oper} {o : Oper} {a : Act} {Q : Exit → Act → World → Prop} (hgd : o.guard = none) (s x : Operand)
    (ho : o.op = .call { callee := .builtin .append, args := #[s, x], argTypes := #[27, 27] }) (B : Nat) (v : Value) (ga : Option Addr) (ca : Nat) (ys : List ByteArray) (hs : a.eval s = v) (hx : a.eval x = .slice ga ys.length ca) (hG : W.ownsRow B 9 1 v 0 []) (hi' : StI W ga ys ca) (hB : B ≤ W.heap.size) (hlen : ys.length * 16 ≤ 140737488351232)
    (h : ∀ g c w', w'.ownsRow B 9 1 (.slice g ys.length c) ys.length (ys.map Value.string) → Below B W w' → wpList Tryd.prog ops Q rest (a.put o.dst (.slice g ys.length c)) w') : wpList Tryd.prog ops Q (o :: rest) a W :=
  wpList_plain hgd fun K hK => wp_cat9 s x ho B v ga ca ys hs hx hG hi' hB hlen (fun g c w' h1 h2 => hK _ _ (h g c w' h1 h2))
/-- Nodes in a slice, wherever it lies. -/
def Nds (W : World) (g : Option Addr) (ns : List Nd) : Prop := ns = [] ∨ ∃ bk o, g = some ⟨bk, o, none⟩ ∧ bk < W.heap.size ∧ ∀ (j : Nat) n, ns[j]? = some n → ∃ ga ca, W.cell? ⟨bk, o + j * 4, none⟩ = some (.int .i64 n.fn) ∧ W.cell? ⟨bk, o + j * 4 + 1, none⟩ = some (.int .i64 n.par) ∧ W.cell? ⟨bk, o + j * 4 + 2, none⟩ = some (.slice ga n.args.length ca) ∧ W.cell? ⟨bk, o + j * 4 + 3, none⟩ = some (.string n.res) ∧ StI W ga n.args ca
theorem Nds.on {W W' : World} {g : Option Addr} {ns : List Nd} (h : Nds W g ns) (hb : Below W.heap.size W W') : Nds W' g ns := by
  rcases h with h | ⟨bk, o, e, h1, h2⟩
  · exact Or.inl h
  · refine Or.inr ⟨bk, o, e, Nat.lt_of_lt_of_le h1 hb.size, fun j n hj => ?_⟩
    obtain ⟨ga, ca, k0, k1, k2, k3, k4⟩ := h2 j n hj
    exact ⟨ga, ca, (hb.cell (p := ⟨bk, o + j * 4, none⟩) h1).trans k0, (hb.cell (p := ⟨bk, o + j * 4 + 1, none⟩) h1).trans k1, (hb.cell (p := ⟨bk, o + j * 4 + 2, none⟩) h1).trans k2, (hb.cell (p := ⟨bk, o + j * 4 + 3, none⟩) h1).trans k3, k4.on hb⟩
theorem own_txB {A : Nat → Prop} {W : World} {B n c : Nat} {g : Option Addr} {ys : List ByteArray} (h : W.ownsRow B 9 1 (.slice g n c) ys.length (ys.map Value.string)) (hA : ∀ k, A k → k < B) : TxA A W g ys := by
  rcases h.2 with ⟨e1, e2⟩ | ⟨b, cap, cur, e1, hb, hh, _⟩
  · left
    cases ys with
    | nil => rfl
    | cons k ks => simp at e2
  · cases e1
    refine Or.inr ⟨b, 0, rfl, (Array.getElem?_eq_some_iff.1 hh).1, fun ha => by have := hA b ha; omega, fun j x hx => ?_⟩
    have hc := h.cells (g := b) rfl j (.string x) (by rw [List.getElem?_map, hx]; rfl)
    rw [Lib.add_plain] at hc
    exact hc
/-- A store in an elder block leaves a growing row of nodes. -/
theorem NGr.far {B : Nat} {W : World} {v : Value} {ns : List Nd} (h : NGr B W v ns) {z : Nat} (hz : z < B) (j : Nat) (u : Value) : NGr B (W.setCell ⟨z, j, none⟩ u) v ns := by
  obtain ⟨us, h1, h2, h3⟩ := h
  refine ⟨us, h1.kept (grown_set W z j u) ?_, h2, fun i x n hx hn => (h3 i x n hx hn).kp (Ka.of_grown (grown_set W z j u) (fun k e => Or.inr (by have := Option.some.inj e; omega)))⟩
  cases hv : v.ownBlock with
  | none => exact Or.inl rfl
  | some k => right; intro e; have := (World.ownsRow.lt h1 k hv).1; have := Option.some.inj e; omega
/-- A node's four cells at the front of a block. -/
def ArrC (W : World) (b : Nat) (fn par : Int) (ga : Option Addr) (na ca : Nat) (res : ByteArray) : Prop :=
  b < W.heap.size ∧ W.cell? ⟨b, 0, none⟩ = some (.int .i64 fn) ∧ W.cell? ⟨b, 1, none⟩ = some (.int .i64 par) ∧ W.cell? ⟨b, 2, none⟩ = some (.slice ga na ca) ∧ W.cell? ⟨b, 3, none⟩ = some (.string res)
theorem ArrC.new (W : World) (fn par : Int) (ga : Option Addr) (na ca : Nat) (res : ByteArray) : ArrC (W.alloc (.cells #[.int .i64 fn, .int .i64 par, .slice ga na ca, .string res] 29)) W.heap.size fn par ga na ca res := by
  have h := Bx.new 29 W #[.int .i64 fn, .int .i64 par, .slice ga na ca, .string res]
  exact ⟨h.lt, h.cell 0 _ rfl, h.cell 1 _ rfl, h.cell 2 _ rfl, h.cell 3 _ rfl⟩
theorem ArrC.on {W W' : World} {b : Nat} {fn par : Int} {ga : Option Addr} {na ca : Nat} {res : ByteArray} (h : ArrC W b fn par ga na ca res) (hb : Below W.heap.size W W') : ArrC W' b fn par ga na ca res :=
  ⟨Nat.lt_of_lt_of_le h.1 hb.size, (hb.cell (p := ⟨b, 0, none⟩) h.1).trans h.2.1, (hb.cell (p := ⟨b, 1, none⟩) h.1).trans h.2.2.1, (hb.cell (p := ⟨b, 2, none⟩) h.1).trans h.2.2.2.1, (hb.cell (p := ⟨b, 3, none⟩) h.1).trans h.2.2.2.2⟩
theorem ArrC.alloc {W : World} {b : Nat} {fn par : Int} {ga : Option Addr} {na ca : Nat} {res : ByteArray} (h : ArrC W b fn par ga na ca res) (o : Obj) : ArrC (W.alloc o) b fn par ga na ca res := h.on ((Below.refl _ W).alloc (Nat.le_refl _) o)
theorem ArrC.drew {W : World} {b : Nat} {fn par : Int} {ga : Option Addr} {na ca : Nat} {res : ByteArray} (h : ArrC W b fn par ga na ca res) : ArrC W.drew b fn par ga na ca res := h.on (Below.refl _ W).drew
theorem ArrC.set {W : World} {b z : Nat} {fn par : Int} {ga : Option Addr} {na ca : Nat} {res : ByteArray} (h : ArrC W b fn par ga na ca res) (hz : z ≠ b) (j : Nat) (u : Value) : ArrC (W.setCell ⟨z, j, none⟩ u) b fn par ga na ca res := by
  have hs : (W.setCell ⟨z, j, none⟩ u).heap.size = W.heap.size := by simp
  have hk : ∀ i, (W.setCell ⟨z, j, none⟩ u).cell? ⟨b, i, none⟩ = W.cell? ⟨b, i, none⟩ := fun i => Ka.cell (A := fun k => k = z) (Ka.of_grown (grown_set W z j u) (fun k e => (Option.some.inj e).symm)) h.1 (fun e => hz e.symm)
  refine ⟨by rw [hs]; exact h.1, ?_, ?_, ?_, ?_⟩
  · rw [hk]; exact h.2.1
  · rw [hk]; exact h.2.2.1
  · rw [hk]; exact h.2.2.2.1
  · rw [hk]; exact h.2.2.2.2
theorem ArrC.nds {W : World} {b : Nat} {fn par : Int} {ga : Option Addr} {ca : Nat} {xs : List ByteArray} {res : ByteArray} (h : ArrC W b fn par ga xs.length ca res) (hs : StI W ga xs ca) : Nds W (some ⟨b, 0, none⟩) [⟨fn, par, xs, res⟩] := by
  refine Or.inr ⟨b, 0, rfl, h.1, fun j n hj => ?_⟩
  cases j with
  | zero =>
    have e : n = ⟨fn, par, xs, res⟩ := by simpa using hj.symm
    subst e
    exact ⟨ga, ca, h.2.1, h.2.2.1, h.2.2.2.1, h.2.2.2.2, hs⟩
  | succ j => simp at hj
end Go.Proofs.YtmcdpnikkmedkaaDoor

namespace Go.Proofs.YtmcdpnikkmedkaaDoor
open Go.RowKit Go.ChangeShapes Go.WideShapes Go.ChangeAt Go.ChangeMaps Go.Deep
set_option linter.unusedVariables false

theorem bytes9n : Tryd.prog.bytesOf 9 = 16 := by kernel_rfl
theorem cells9n : Tryd.prog.cellsOf 9 = 1 := by kernel_rfl
theorem cells25n : Tryd.prog.cellsOf 27 = 1 := by kernel_rfl
theorem cells27n : Tryd.prog.cellsOf 29 = 4 := by kernel_rfl
theorem bytes27n : Tryd.prog.bytesOf 29 = 56 := by kernel_rfl
theorem open_texts {H : Type} {enc : TypeId × Value → H} {W : World} {cs : List Value} {fuel : Nat} {y : DataW H × List MemPlace}
    (hf : DataW.trod enc Tryd.prog W 0 (fun _ => true) true fuel 27 cs = some y) (hw : ∀ n ∈ DataW.weights Tryd.prog 27 y.1, n ≤ reachBytes) :
    ∃ (g : Option Addr) (xs : List ByteArray) (c : Nat), cs = [.slice g xs.length c] ∧ StI W g xs c ∧ xs.length * 16 ≤ reachBytes ∧ ∀ x ∈ xs, x.size ≤ reachBytes := by
  rcases open_strs Tryd.underlying27 Tryd.underlying9 cells9n hf with ⟨hcs, hx⟩ | ⟨a, len', cap', m, Sx, hcs, _, hl, hm, hmm, hx, hcell⟩
  · exact ⟨none, [], 0, hcs, Or.inl ⟨rfl, rfl, rfl⟩, by simp, by simp⟩
  · simp only [if_true] at hmm
    subst hx
    have hwl := hw _ (by rw [DataW.weights, Tryd.underlying27]; exact List.mem_cons_self)
    rw [bytes9n] at hwl
    simp only [List.length_map, List.length_range] at hwl
    refine ⟨some a, (List.range len').map Sx, cap', by rw [hcs]; simp, ?_, by simp; omega, ?_⟩
    · by_cases h0 : len' = 0
      · subst h0; exact Or.inr (Or.inl ⟨rfl, a, rfl⟩)
      · obtain ⟨b, off, spot⟩ := a
        have hspot : spot = none := by simpa [Addr.add] using World.cell?_spot (hcell 0 (by omega)).1
        subst hspot
        refine Or.inr (Or.inr ⟨b, off, rfl, ?_, fun j x hx => ?_⟩)
        · have := (hcell 0 (by omega)).1
          rw [Lib.add_plain] at this
          exact World.block_lt_of_cell? _ _ this
        · have hj : j < len' := by
            have := (List.getElem?_eq_some_iff.1 hx).1
            simpa using this
          have e : x = Sx j := by
            rw [List.getElem?_map, List.getElem?_range hj] at hx
            exact (Option.some.inj hx).symm
          subst e
          rw [← Lib.add_plain]; exact (hcell j (by omega)).1
    · intro x hx
      obtain ⟨i, hi, rfl⟩ := List.mem_map.1 hx
      have h := hw (Sx i).data.toList.length (by
        rw [DataW.weights, Tryd.underlying27]
        refine List.mem_cons_of_mem _ (List.mem_append_left _ (mem_weightsAll (d := .lit (.string (Sx i).data.toList)) (by simp [DataW.weights]) ?_))
        exact List.mem_map.2 ⟨i, hi, rfl⟩)
      have e : (Sx i).data.toList.length = (Sx i).size := by simp
      rw [e] at h; exact h
/-- The bounds of a node. -/
def NBd (n : Nd) : Prop := n.args.length * 16 ≤ reachBytes ∧ (∀ x ∈ n.args, x.size ≤ reachBytes) ∧ n.res.size ≤ reachBytes
theorem open_nodeC {H : Type} {enc : TypeId × Value → H} {W : World} {cs : List Value} {fuel : Nat} {y : DataW H × List MemPlace}
    (hf : DataW.trod enc Tryd.prog W 0 (fun _ => true) true fuel 29 cs = some y) (hw : ∀ n ∈ DataW.weights Tryd.prog 29 y.1, n ≤ reachBytes) :
    ∃ (n : Nd) (g : Option Addr) (c : Nat), cs = [.int .i64 n.fn, .int .i64 n.par, .slice g n.args.length c, .string n.res] ∧ StI W g n.args c ∧ NBd n := by
  obtain ⟨ys, n, _, rfl, hl, hlen, hfs⟩ := DataW.trod_struct Tryd.underlying29 hf
  obtain ⟨c0, c1, c2, c3, rfl⟩ := list4 (hl.trans cells27n)
  obtain ⟨y0, y1, y2, y3, rfl⟩ := list4 (show ys.length = 4 from hlen)
  have h0 := hfs 0 _ rfl
  have h1 := hfs 1 _ rfl
  have h2 := hfs 2 _ rfl
  have h3 := hfs 3 _ rfl
  simp [cells3, cells25n, cells9n] at h0 h1 h2 h3
  obtain ⟨n0, e0, _, _⟩ := DataW.trod_int Tryd.underlying3 h0
  obtain ⟨n1, e1, _, _⟩ := DataW.trod_int Tryd.underlying3 h1
  obtain ⟨g, xs, c, e2, hi, hb, hk⟩ := open_texts h2 (fun m hm => hw m (by
    rw [List.map_cons, List.map_cons, List.map_cons, List.map_cons, List.map_nil, DataW.weights, Tryd.underlying29]
    exact DataW.weights_mem_each (j := 2) rfl rfl m hm))
  obtain ⟨s, e3, ex, _⟩ := DataW.trod_string Tryd.underlying9 h3
  have hs := hw s.data.toList.length (by
    rw [List.map_cons, List.map_cons, List.map_cons, List.map_cons, List.map_nil, DataW.weights, Tryd.underlying29]
    refine DataW.weights_mem_each (j := 3) rfl rfl _ ?_
    rw [ex]; simp [DataW.weights])
  simp at e0 e1 e2 e3
  subst e0 e1 e2 e3
  refine ⟨⟨n0, n1, xs, s⟩, g, c, rfl, hi, hb, hk, ?_⟩
  have e : s.data.toList.length = s.size := by simp
  rw [e] at hs; exact hs
set_option maxRecDepth 100000 in
theorem open_node {H : Type} {enc : TypeId × Value → H} {W : World} {r : Reach} {b0 : Nat} {v : Value} {d : DataW H} {ps : List MemPlace} {ts : List TypeId} {ds : List (DataW H)} {j : Nat}
    (hval : Value.okWide Tryd.prog W r b0 29 v) (h : DataW.Trod enc Tryd.prog W 0 (fun _ => true) true 29 v d ps)
    (hsz : (DataW.weightsEach Tryd.prog ts ds).all (· ≤ reachBytes) = true) (ht : ts[j]? = some 29) (hd : ds[j]? = some d) :
    ∃ (n : Nd) (g : Option Addr) (c : Nat), v = .agg #[.int .i64 n.fn, .int .i64 n.par, .slice g n.args.length c, .string n.res] ∧ StI W g n.args c ∧ NBd n := by
  have hw : ∀ n ∈ DataW.weights Tryd.prog 29 d, n ≤ reachBytes := fun n hn => by
    have := List.all_eq_true.1 hsz n (DataW.weights_mem_each ht hd n hn)
    simpa using this
  obtain ⟨⟨l⟩, rfl, hs⟩ := okWide_struct Tryd.underlying29 hval
  obtain ⟨fuel, hf⟩ := h
  obtain ⟨n, g, c, e, h1, h2⟩ := open_nodeC hf hw
  have e' : l = [.int .i64 n.fn, .int .i64 n.par, .slice g n.args.length c, .string n.res] := by simpa [Value.cells] using e
  subst e'
  exact ⟨n, g, c, rfl, h1, h2⟩
end Go.Proofs.YtmcdpnikkmedkaaDoor
