/- A copied program that is turned in place: two definitions change places, calls get other numbers. -/
import Derived.Test.YtiobjkmpeiohdaaCopyP
namespace Go.Proofs.Ytiobjkmpeiohdaa
open Go.RowKit
set_option linter.unusedVariables false

/-! One definition is put in the place of another one. -/
theorem flat_set : ∀ (qs : List Dt) (j : Nat) (q : Dt), j < qs.length →
    (qs.set j q).flatMap c2 = ((qs.flatMap c2).set (j * 2) (.int .i64 q.1.params)).set (j * 2 + 1) (.slice q.2.1 q.1.body.length q.2.2)
  | [], j, q, h => by simp at h
  | p :: qs, 0, q, h => by simp [c2]
  | p :: qs, j + 1, q, h => by
    have ih := flat_set qs j q (by simpa using h)
    rw [List.set_cons_succ, List.flatMap_cons, List.flatMap_cons, ih]
    show [_, _] ++ _ = (([_, _] ++ _).set _ _).set _ _
    rw [show (j + 1) * 2 = j * 2 + 1 + 1 by omega]
    rfl
theorem only_row {W : World} {base n : Nat} {r c : Nat} {xs : List Value} (h : W.ownsRow base 36 2 (.slice (some ⟨r, 0, none⟩) n c) n xs) : Only36 W (some r) := only_own h
theorem only_set {W : World} {r j : Nat} {v : Value} (h : Only36 W (some r)) : Only36 (W.setCell ⟨r, j, none⟩ v) (some r) := by
  intro b hb hl
  cases hb
  have hs : (W.setCell ⟨r, j, none⟩ v).heap.size = W.heap.size := by simp
  rw [hs] at hl
  obtain ⟨cs, fr, hr⟩ := h r rfl hl
  obtain ⟨hlt, hk⟩ := Array.getElem?_eq_some_iff.1 hr
  refine ⟨cs.setIfInBounds j v, fr, ?_⟩
  show (W.heap.modify r _)[r]? = _
  rw [Array.getElem?_eq_getElem (by rw [Array.size_modify]; exact hlt), Array.getElem_modify_self, hk]
  rfl
theorem Pd.put {W : World} {base r n c : Nat} {qs : List Dt} (h : Pd W base (.slice (some ⟨r, 0, none⟩) n c) qs) {j : Nat} (hj : j < qs.length) {q : Dt} (hq : ExsT W q.2.1 q.1.body) :
    Pd ((W.setCell ⟨r, j * 2, none⟩ (.int .i64 q.1.params)).setCell ⟨r, j * 2 + 1, none⟩ (.slice q.2.1 q.1.body.length q.2.2)) base (.slice (some ⟨r, 0, none⟩) n c) (qs.set j q) := by
  have ho : Only36 W (some r) := only_own h.own
  have hE : ∀ {g : Option Addr} {xs : List Ex}, ExsT W g xs → ExsT ((W.setCell ⟨r, j * 2, none⟩ (.int .i64 q.1.params)).setCell ⟨r, j * 2 + 1, none⟩ (.slice q.2.1 q.1.body.length q.2.2)) g xs := fun k =>
    (k.kept (grown_set W r (j * 2) _) ho).kept (grown_set _ r (j * 2 + 1) _) (only_set ho)
  refine ⟨⟨by rw [len_c2], ?_⟩, fun p hp => ?_⟩
  · rcases h.own.2 with ⟨h1, _⟩ | ⟨g, cap, cur, hv, hb, hg, hcap, hmx, hsz, ht⟩
    · cases h1
    · cases hv
      have hr : Rd W r cur := hg
      refine Or.inr ⟨r, c, _, by rw [List.length_set], hb, (hr.set (j * 2) _).set (j * 2 + 1) _, by rw [List.length_set]; exact hcap, hmx, by simp only [Array.size_setIfInBounds]; exact hsz, ?_⟩
      rw [List.length_set, flat_set _ _ _ hj, ← ht]
      simp only [Array.toList_setIfInBounds, List.take_set]
  · rcases List.mem_or_eq_of_mem_set hp with hp | rfl
    · exact hE (h.bodies p hp)
    · exact hE hq
/-- The row's two cells of a definition. -/
theorem Pd.at {W : World} {base r n c : Nat} {qs : List Dt} (h : Pd W base (.slice (some ⟨r, 0, none⟩) n c) qs) {j : Nat} {q : Dt} (hq : qs[j]? = some q) :
    W.cell? ⟨r, j * 2, none⟩ = some (.int .i64 q.1.params) ∧ W.cell? ⟨r, j * 2 + 1, none⟩ = some (.slice q.2.1 q.1.body.length q.2.2) := by
  obtain ⟨k0, k1⟩ := at_c2 qs j q hq
  have h0 := h.own.cells (g := r) rfl _ _ k0
  have h1 := h.own.cells (g := r) rfl _ _ k1
  rw [Addr.add_lit, Nat.zero_add] at h0 h1
  exact ⟨h0, h1⟩
theorem Pd.row {W : World} {base r n c : Nat} {qs : List Dt} (h : Pd W base (.slice (some ⟨r, 0, none⟩) n c) qs) : r < W.heap.size ∧ base ≤ r ∧ ∀ j, W.frozen? ⟨r, j, none⟩ = false := by
  rcases h.own.2 with ⟨h1, _⟩ | ⟨g, cap, cur, hv, hb, hg, _⟩
  · cases h1
  · cases hv
    have hr : Rd W r cur := hg
    exact ⟨hr.lt, hb, hr.frozen⟩

/-! A part gets another number. -/
theorem NumsT.far {W : World} {g : Option Addr} {ks : List Int} {b : Nat} {cs0 : Array Value} (h : NumsT W g ks) (hb : Rw W b cs0) (j : Nat) (u : Value) : NumsT (W.setCell ⟨b, j, none⟩ u) g ks := by
  rcases h with h | ⟨b', cs, h1, h2, h3⟩
  · exact Or.inl h
  · refine Or.inr ⟨b', cs, h1, (Below.heap_setCell W _ _ b' (fun e => ?_)).trans h2, h3⟩
    subst e
    have := h2.symm.trans hb
    cases this
theorem ExT.far {W : World} {cs : Array Value} {i : Nat} {x : Ex} {b : Nat} {cs0 : Array Value} (h : ExT W cs i x) (hb : Rw W b cs0) (j : Nat) (u : Value) : ExT (W.setCell ⟨b, j, none⟩ u) cs i x := by
  obtain ⟨gk, ck, a0, a1, a2, a3, a4⟩ := h
  exact ⟨gk, ck, a0, a1, a2, a3, a4.far hb j u⟩
theorem ExsT.far {W : World} {g : Option Addr} {xs : List Ex} {b : Nat} {cs0 : Array Value} (h : ExsT W g xs) (hne : ∀ a, g = some a → a.block ≠ b) (hb : Rw W b cs0) (j : Nat) (u : Value) : ExsT (W.setCell ⟨b, j, none⟩ u) g xs := by
  rcases h with h | ⟨b', cs, h1, h2, h3⟩
  · exact Or.inl h
  · exact Or.inr ⟨b', cs, h1, h2.other j u (hne _ h1), fun i x hx => (h3 i x hx).far hb j u⟩
/-- A part of a body, its cells and its row. -/
theorem ExsT.at {W : World} {g : Option Addr} {xs : List Ex} (h : ExsT W g xs) {m : Nat} {e : Ex} (hm : xs[m]? = some e) : ∃ b cs, g = some ⟨b, 0, none⟩ ∧ Rw W b cs ∧ W.cell? ⟨b, m * 4, none⟩ = some (.int .i64 e.kind) ∧ W.cell? ⟨b, m * 4 + 1, none⟩ = some (.int .i64 e.num) := by
  rcases h with h | ⟨b, cs, h1, h2, h3⟩
  · subst h; simp at hm
  · obtain ⟨gk, ck, a0, a1, a2, a3, a4⟩ := h3 m e hm
    exact ⟨b, cs, h1, h2, h2.cell _ _ a0, h2.cell _ _ a1⟩
theorem ExsT.turn {W : World} {b : Nat} {xs : List Ex} (h : ExsT W (some ⟨b, 0, none⟩) xs) {m : Nat} {e : Ex} (hm : xs[m]? = some e) (y : Int) : ExsT (W.setCell ⟨b, m * 4 + 1, none⟩ (.int .i64 y)) (some ⟨b, 0, none⟩) (xs.set m { e with num := y }) := by
  rcases h with h | ⟨b', cs, h1, h2, h3⟩
  · subst h; simp at hm
  · cases h1
    have hml : m < xs.length := (List.getElem?_eq_some_iff.1 hm).1
    refine Or.inr ⟨b, cs.setIfInBounds (m * 4 + 1) (.int .i64 y), rfl, h2.set _ _, fun i x hx => ?_⟩
    rw [List.getElem?_set] at hx
    by_cases hi : m = i
    · subst hi
      rw [if_pos rfl, if_pos hml] at hx
      cases hx
      obtain ⟨gk, ck, a0, a1, a2, a3, a4⟩ := h3 m e hm
      have hlt : m * 4 + 1 < cs.size := (Array.getElem?_eq_some_iff.1 a1).1
      refine ⟨gk, ck, ?_, ?_, ?_, ?_, a4.far h2 _ _⟩
      · rw [Array.getElem?_setIfInBounds_ne (by omega)]; exact a0
      · rw [Array.getElem?_setIfInBounds_self_of_lt hlt]
      · rw [Array.getElem?_setIfInBounds_ne (by omega)]; exact a2
      · rw [Array.getElem?_setIfInBounds_ne (by omega)]; exact a3
    · rw [if_neg hi] at hx
      obtain ⟨gk, ck, a0, a1, a2, a3, a4⟩ := h3 i x hx
      refine ⟨gk, ck, ?_, ?_, ?_, ?_, a4.far h2 _ _⟩
      · rw [Array.getElem?_setIfInBounds_ne (by omega)]; exact a0
      · rw [Array.getElem?_setIfInBounds_ne (by omega)]; exact a1
      · rw [Array.getElem?_setIfInBounds_ne (by omega)]; exact a2
      · rw [Array.getElem?_setIfInBounds_ne (by omega)]; exact a3
theorem flat_same {qs : List Dt} {i : Nat} {q q' : Dt} (hq : qs[i]? = some q) (hc : c2 q' = c2 q) : (qs.set i q').flatMap c2 = qs.flatMap c2 := by
  have hl := (List.getElem?_eq_some_iff.1 hq).1
  have he : qs[i] = q := (List.getElem?_eq_some_iff.1 hq).2
  rw [List.flatMap_def, List.flatMap_def, List.map_set, hc, ← he]
  congr 1
  rw [show c2 qs[i] = (qs.map c2)[i]'(by simpa using hl) by simp, List.set_getElem_self]
theorem Pd.turn {W : World} {base : Nat} {v : Value} {qs : List Dt} (h : Pd W base v qs) (hA : Apart qs) {i : Nat} {q : Dt} (hi : qs[i]? = some q) {b : Nat} (hg : q.2.1 = some ⟨b, 0, none⟩) {m : Nat} {e : Ex} (hm : q.1.body[m]? = some e) (y : Int) :
    Pd (W.setCell ⟨b, m * 4 + 1, none⟩ (.int .i64 y)) base v (qs.set i (⟨q.1.params, q.1.body.set m { e with num := y }⟩, q.2)) := by
  have hE := h.bodies q (List.mem_of_getElem? hi)
  rw [hg] at hE
  obtain ⟨b', cs, hb1, hb2, _, _⟩ := hE.at hm
  cases hb1
  have hl := (List.getElem?_eq_some_iff.1 hi).1
  refine ⟨?_, fun p hp => ?_⟩
  · rw [List.length_set, flat_same hi (by simp [c2])]
    exact h.own.kept (grown_set W b _ _) (.inr fun e => only_ne (only_own h.own) hb2 (by decide) e.symm)
  · obtain ⟨k, hk⟩ := List.mem_iff_getElem?.1 hp
    rw [List.getElem?_set] at hk
    by_cases hik : i = k
    · subst hik
      rw [if_pos rfl, if_pos hl] at hk
      cases hk
      show ExsT _ q.2.1 _
      rw [hg]
      exact hE.turn hm y
    · rw [if_neg hik] at hk
      refine (h.bodies p (List.mem_of_getElem? hk)).far (fun a ha => ?_) hb2 _ _
      exact (hA i k q p hi hk hik _ a hg ha).symm

/-! How far it has been turned. -/
def tn (x y : Int) (k : Nat) (xs : List Ex) : List Ex := (xs.take k).map (Ex.sw x y) ++ xs.drop k
theorem tn_len (x y : Int) (k : Nat) (xs : List Ex) : (tn x y k xs).length = xs.length := by
  unfold tn; rw [List.length_append, List.length_map, List.length_take, List.length_drop]; omega
theorem tn_zero (x y : Int) (xs : List Ex) : tn x y 0 xs = xs := by simp [tn]
theorem tn_all (x y : Int) (xs : List Ex) : tn x y xs.length xs = xs.map (Ex.sw x y) := by simp [tn]
theorem tn_at {x y : Int} {k : Nat} {xs : List Ex} (hk : k < xs.length) : (tn x y k xs)[k]? = some xs[k] := by
  unfold tn
  rw [List.getElem?_append_right (by simp; omega), List.length_map, List.length_take, List.getElem?_drop, List.getElem?_eq_getElem (by omega)]
  congr 1
  congr 1
  omega
theorem tn_succ {x y : Int} {k : Nat} {xs : List Ex} (hk : k < xs.length) : tn x y (k + 1) xs = (tn x y k xs).set k (xs[k].sw x y) := by
  apply List.ext_getElem?
  intro j
  rw [List.getElem?_set]
  have hl := tn_len x y k xs
  unfold tn at hl ⊢
  by_cases h1 : k = j
  · subst h1
    rw [if_pos rfl, if_pos (by omega), List.getElem?_append_left (by simp; omega), List.getElem?_map, List.getElem?_take, if_pos (by omega), List.getElem?_eq_getElem hk]
    rfl
  · rw [if_neg h1]
    by_cases h2 : j < k
    · rw [List.getElem?_append_left (by simp; omega), List.getElem?_append_left (by simp; omega), List.getElem?_map, List.getElem?_map, List.getElem?_take, List.getElem?_take, if_pos (by omega), if_pos (by omega)]
    · rw [List.getElem?_append_right (by simp; omega), List.getElem?_append_right (by simp; omega)]
      simp only [List.length_map, List.length_take, List.getElem?_drop]
      congr 1
      omega
/-- The definitions ahead of i wholly, the one at i as far as m. -/
def stt (x y : Int) (i m : Nat) (rs : List Dt) : List Dt :=
  rs.mapIdx fun j q => (⟨q.1.params, tn x y (if j < i then q.1.body.length else if j = i then m else 0) q.1.body⟩, q.2)
theorem stt_at (x y : Int) (i m : Nat) (rs : List Dt) (j : Nat) : (stt x y i m rs)[j]? = (rs[j]?).map fun q => (⟨q.1.params, tn x y (if j < i then q.1.body.length else if j = i then m else 0) q.1.body⟩, q.2) := by
  unfold stt; rw [List.getElem?_mapIdx]
theorem stt_len (x y : Int) (i m : Nat) (rs : List Dt) : (stt x y i m rs).length = rs.length := by simp [stt]
theorem stt_zero (x y : Int) (rs : List Dt) : stt x y 0 0 rs = rs := by
  apply List.ext_getElem?
  intro j
  rw [stt_at]
  cases rs[j]? with
  | none => rfl
  | some q =>
    simp only [Option.map_some]
    rw [if_neg (by omega), ite_self, tn_zero]
theorem stt_next {x y : Int} {i : Nat} {rs : List Dt} {q : Dt} (hq : rs[i]? = some q) : stt x y i q.1.body.length rs = stt x y (i + 1) 0 rs := by
  apply List.ext_getElem?
  intro j
  rw [stt_at, stt_at]
  by_cases h : j = i
  · subst h
    rw [hq]
    simp
  · cases rs[j]? with
    | none => rfl
    | some p =>
      simp only [Option.map_some]
      by_cases h2 : j < i
      · rw [if_pos h2, if_pos (by omega)]
      · rw [if_neg h2, if_neg h, if_neg (by omega), ite_self]
theorem stt_here {x y : Int} {i m : Nat} {rs : List Dt} {q : Dt} (hq : rs[i]? = some q) : (stt x y i m rs)[i]? = some (⟨q.1.params, tn x y m q.1.body⟩, q.2) := by
  rw [stt_at, hq]
  simp
theorem stt_succ {x y : Int} {i m : Nat} {rs : List Dt} {q : Dt} (hq : rs[i]? = some q) (hm : m < q.1.body.length) :
    stt x y i (m + 1) rs = (stt x y i m rs).set i (⟨q.1.params, (tn x y m q.1.body).set m (q.1.body[m].sw x y)⟩, q.2) := by
  apply List.ext_getElem?
  intro j
  rw [List.getElem?_set, stt_at]
  have hl := (List.getElem?_eq_some_iff.1 hq).1
  by_cases h : i = j
  · subst h
    have e1 : i < (stt x y i m rs).length := by rw [stt_len]; exact hl
    rw [hq]
    simp only [Option.map_some, Nat.lt_irrefl, if_false, if_true, e1]
    rw [tn_succ hm]
  · rw [if_neg h, stt_at]
    cases rs[j]? with
    | none => rfl
    | some p =>
      simp only [Option.map_some]
      by_cases h2 : j < i
      · rw [if_pos h2, if_pos h2]
      · rw [if_neg h2, if_neg h2, if_neg (fun e => h e.symm), if_neg (fun e => h e.symm)]
theorem stt_all (x y : Int) (rs : List Dt) : (stt x y rs.length 0 rs).map (·.1) = (rs.map (·.1)).map (Df.sw x y) := by
  apply List.ext_getElem?
  intro j
  rw [List.getElem?_map, stt_at, List.getElem?_map, List.getElem?_map]
  cases h : rs[j]? with
  | none => rfl
  | some q =>
    have hl := (List.getElem?_eq_some_iff.1 h).1
    simp only [Option.map_some]
    rw [if_pos hl, tn_all]
    rfl
theorem stt_apart {x y : Int} {i m : Nat} {rs : List Dt} (h : Apart rs) : Apart (stt x y i m rs) := by
  intro k l p q hp hq hkl a b ha hb
  rw [stt_at] at hp hq
  cases h1 : rs[k]? with
  | none => rw [h1] at hp; cases hp
  | some p' =>
    cases h2 : rs[l]? with
    | none => rw [h2] at hq; cases hq
    | some q' =>
      rw [h1] at hp
      rw [h2] at hq
      cases hp
      cases hq
      exact h k l p' q' h1 h2 hkl a b ha hb
theorem swl_apart {x y : Nat} {qs : List Dt} (hx : x < qs.length) (hy : y < qs.length) (h : Apart qs) : Apart (swl x y qs) := by
  intro k l p q hp hq hkl a b ha hb
  have hf : ∀ (j : Nat) (p : Dt), (swl x y qs)[j]? = some p → qs[(if j = x then y else if j = y then x else j)]? = some p := fun j p hj => by
    rw [swl_at hx hy] at hj
    by_cases h1 : j = x
    · rw [if_pos h1] at hj ⊢; exact hj
    · rw [if_neg h1] at hj ⊢
      by_cases h2 : j = y
      · rw [if_pos h2] at hj ⊢; exact hj
      · rw [if_neg h2] at hj ⊢; exact hj
  refine h _ _ p q (hf k p hp) (hf l q hq) ?_ a b ha hb
  intro e
  (repeat' split at e) <;> omega
theorem swl_map {α β : Type} (f : α → β) (x y : Nat) (l : List α) : (swl x y l).map f = swl x y (l.map f) := by
  unfold swl
  rw [List.getElem?_map, List.getElem?_map]
  cases l[x]? with
  | none => rfl
  | some a =>
    cases l[y]? with
    | none => rfl
    | some b => simp [List.map_set]
end Go.Proofs.Ytiobjkmpeiohdaa
