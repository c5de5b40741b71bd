/- What the reference's reader hands back, said for each depth; what its digits mean there; its smallest contracts. -/
import Derived.Test.YtcjpepbajcdenaaDoorLink
namespace Go.Proofs.YtcjpepbajcdenaaDoor
open Go.RowKit
set_option linter.unusedVariables false

/-- A digit or a sign stands there. -/
def NcAt (s : ByteArray) (n : Nat) : Prop := ∃ c, s.data.toList[n]? = some c ∧ isNC c = true

/-- What the reference's reader hands back. -/
def GotR (s : ByteArray) (a B : Nat) (w : World) (o : Option Rd) (k x : Int) (v : Value) (to : Int) : Prop :=
  match o with
  | none => to = -1 ∨ ∃ n : Nat, to = (n : Int) ∧ a ≤ n ∧ NcAt s n
  | some (k', x', ks, n) => k = k' ∧ x = x' ∧ to = (a : Int) + (n : Int) ∧ w.ownsRow B 9 1 v ks.length (ks.map S)
def GotRP (s : ByteArray) (a B : Nat) (w : World) (o : Option (List (List UInt8) × Nat)) (k0 x0 k x : Int) (v : Value) (to : Int) : Prop :=
  match o with
  | none => to = -1
  | some (ks, n) => k = k0 ∧ x = x0 ∧ to = (a : Int) + (n : Int) ∧ w.ownsRow B 9 1 v ks.length (ks.map S)

def RTermSaid (f : Nat) : Prop := ∀ (s : ByteArray) (i : Int) (a : Nat) (w : World), i = (a : Int) → a ≤ s.size → s.size ≤ 1024 → s.size - a < f →
  Calls Tryd.prog 25 #[.string s, .int .i64 i] w fun e w' => ∃ k x v to, e = .returned (.agg #[.int .i64 k, .int .i64 x, v, .int .i64 to]) ∧
    Below w.heap.size w w' ∧ (∃ g n c, v = .slice g n c) ∧ GotR s a w.heap.size w' (T f (fr s a)) k x v to
def RPartsSaid (f : Nat) : Prop := ∀ (s : ByteArray) (i : Int) (a : Nat) (k0 x0 t0 : Int) (w : World), i = (a : Int) → a ≤ s.size → s.size ≤ 1024 → s.size - a < f →
  Calls Tryd.prog 29 #[.string s, .agg #[.int .i64 k0, .int .i64 x0, .slice none 0 0, .int .i64 t0], .int .i64 i] w fun e w' => ∃ k x v to, e = .returned (.agg #[.int .i64 k, .int .i64 x, v, .int .i64 to]) ∧
    Below w.heap.size w w' ∧ (∃ g n c, v = .slice g n c) ∧ GotRP s a w.heap.size w' (Tp (T f) 3 (fr s a)) k0 x0 k x v to

theorem fr_run (s : ByteArray) (a : Nat) : numPart (fr s a) = run s a := rfl
theorem tag_of {x : Nat} (h : x ≤ 99) : tagB (x : Int) = true := by unfold tagB; simp only [Bool.and_eq_true, decide_eq_true_eq]; omega
theorem tag_not {v : Int} (h : v < 0 ∨ 99 < v) : tagB v = false := by unfold tagB; simp only [Bool.and_eq_false_iff, decide_eq_false_iff_not]; omega
theorem may_range {v : Int} (h : mayB v = true) : -32768 ≤ v ∧ v ≤ 32767 := by unfold mayB at h; simpa using h
theorem may_out {v : Int} (h : mayB v = false) : v < -32768 ∨ 32767 < v := by unfold mayB at h; simp only [Bool.and_eq_false_iff, decide_eq_false_iff_not] at h; omega
theorem may_not {v : Int} (h : v < -32768 ∨ 32767 < v) : mayB v = false := by unfold mayB; simp only [Bool.and_eq_false_iff, decide_eq_false_iff_not]; omega

theorem r_con_bad {f : Nat} {s : ByteArray} {a x k : Nat} (h : DigQ (fr s (a + 1)) x k) (hb : k = 0 ∨ 99 < x) : conT (T f) (fr s (a + 1)) = none := by
  refine con_eq_none f s a (fun v hv => ?_)
  rw [← fr_run] at hv
  by_cases hk : k = 0
  · subst hk; exact tag_not (Or.inl (dig_none h v hv))
  · have := dig_least h hk v hv
    exact tag_not (Or.inr (by omega))
theorem r_con_ok {f : Nat} {s : ByteArray} {a x k : Nat} (h : DigQ (fr s (a + 1)) x k) (hk : k ≠ 0) (hx : x ≤ 99) :
    ((run s (a + 1)).length = k ∧ canon (run s (a + 1)) = some (x : Int)) ∨ (conT (T f) (fr s (a + 1)) = none ∧ NcAt s (a + 1 + k)) := by
  rcases dig_small h hk (by omega) with ⟨h1, h2⟩ | ⟨h1, c, h2, h3⟩
  · exact Or.inl ⟨h1, h2⟩
  · refine Or.inr ⟨con_eq_none f s a (fun v hv => ?_), c, by rw [← fr_at]; exact h2, h3⟩
    rw [← fr_run, h1] at hv; cases hv

theorem num_none_of {s : ByteArray} {a : Nat} (h : ∀ v, canon (run s a) = some v → mayB v = false) : numT (fr s a) = none := num_is_none s a h

theorem fr_minus {s : ByteArray} {a : Nat} (h : s.data.toList[a]? = some 45) : fr s a = 45 :: fr s (a + 1) := by
  unfold fr
  have hlt := lt_of_at h
  rw [List.drop_eq_getElem_cons hlt]
  congr 1
  rw [List.getElem?_eq_getElem hlt] at h
  exact Option.some.inj h

theorem r_minus_bad {s : ByteArray} {a x k : Nat} (h0 : s.data.toList[a]? = some 45) (h : DigQ (fr s (a + 1)) x k) (hb : k = 0 ∨ x = 0 ∨ mayB (-(x : Int)) = false) : numT (fr s a) = none := by
  refine num_none_of (fun v hv => ?_)
  rw [← fr_run, fr_minus h0] at hv
  by_cases hk : k = 0
  · subst hk; rw [minus_none h] at hv; cases hv
  · obtain ⟨m1, m2⟩ := minus_some h hk
    by_cases hx : x = 0
    · rw [m1 hx] at hv; cases hv
    · rcases hb with e | e | e
      · exact absurd e hk
      · exact absurd e hx
      · rw [m2 hx] at hv
        cases hc : canon (numPart (fr s (a + 1))) with
        | none => rw [hc] at hv; cases hv
        | some u =>
          rw [hc] at hv
          have e2 : -u = v := Option.some.inj hv
          have := dig_least h hk u hc
          have := may_out e
          exact may_not (by omega)
theorem r_minus_ok {s : ByteArray} {a x k : Nat} (h0 : s.data.toList[a]? = some 45) (h : DigQ (fr s (a + 1)) x k) (hk : k ≠ 0) (hx : x ≠ 0) (hm : mayB (-(x : Int)) = true) :
    numT (fr s a) = some (1, -(x : Int), [], 1 + k) ∨ (numT (fr s a) = none ∧ NcAt s (a + 1 + k)) := by
  have hr := may_range hm
  have hcs := (minus_some h hk).2 hx
  rcases dig_small h hk (by omega) with ⟨h1, h2⟩ | ⟨h1, c, h2, h3⟩
  · left
    rw [h2] at hcs
    unfold numT
    rw [fr_minus h0, hcs]
    simp only [Option.map_some]
    rw [if_pos hm, minus_part, List.length_cons, h1, Nat.add_comm]
  · right
    rw [h1] at hcs
    refine ⟨?_, c, by rw [← fr_at]; exact h2, h3⟩
    unfold numT; rw [fr_minus h0, hcs]; rfl

theorem r_num_bad {s : ByteArray} {a x k : Nat} (h0 : s.data.toList[a]? ≠ some 45) (h : DigQ (fr s a) x k) (hb : k = 0 ∨ mayB (x : Int) = false) : numT (fr s a) = none := by
  refine num_none_of (fun v hv => ?_)
  rw [← fr_run] at hv
  by_cases hk : k = 0
  · subst hk
    have hneg := dig_none h v hv
    exfalso
    cases hl : fr s a with
    | nil => rw [hl] at hv; cases hv
    | cons c l' =>
      have hc : c ≠ 45 := by
        intro e
        refine h0 ?_
        rw [← fr_zero, hl, e]; rfl
      rw [hl] at hv
      by_cases hn : isNC c = true
      · have hdg : isDg c = true := by
          unfold isNC at hn; unfold isDg
          simp only [Bool.or_eq_true, beq_iff_eq] at hn
          rcases hn with e | e
          · exact absurd e hc
          · exact e
        unfold numPart at hv
        rw [List.takeWhile_cons, if_pos hn] at hv
        obtain ⟨m, rfl, _⟩ := canon_dg hdg hv
        omega
      · unfold numPart at hv
        rw [List.takeWhile_cons, if_neg hn] at hv; cases hv
  · rcases hb with e | e
    · exact absurd e hk
    · have := dig_least h hk v hv
      have := may_out e
      exact may_not (by omega)
theorem r_num_ok {s : ByteArray} {a x k : Nat} (h : DigQ (fr s a) x k) (hk : k ≠ 0) (hm : mayB (x : Int) = true) :
    numT (fr s a) = some (1, (x : Int), [], k) ∨ (numT (fr s a) = none ∧ NcAt s (a + k)) := by
  have hr := may_range hm
  rcases dig_small h hk (by omega) with ⟨h1, h2⟩ | ⟨h1, c, h2, h3⟩
  · left
    unfold numT; rw [h2]; simp only; rw [if_pos hm, h1]
  · right
    refine ⟨?_, c, by rw [← fr_at]; exact h2, h3⟩
    unfold numT; rw [h1]

/-- From a least to a most? -/
def uptoB (x l m : Int) : Bool := decide (l ≤ x) && decide (x ≤ m)
set_option maxHeartbeats 400000 in
theorem upto_any (x l m : Int) (w : World) :
    Calls Tryd.prog 19 #[.int .i64 x, .int .i64 l, .int .i64 m] w fun e w' => e = .returned (.bool (uptoB x l m)) ∧ w = w' := by
  by_cases h1 : l ≤ x
  · have e : uptoB x l m = decide (x ≤ m) := by unfold uptoB; simp [h1]
    rw [e]; clear e
    go_enter Tryd.func19, Tryd.ntmps19
    go_wp2
    go_ret
    exact ⟨rfl, rfl⟩
  · have e : uptoB x l m = false := by unfold uptoB; simp [h1]
    rw [e]; clear e
    go_enter Tryd.func19, Tryd.ntmps19
    go_wp2
    go_ret
    exact ⟨rfl, rfl⟩
theorem upto_may (x : Int) : uptoB x (-32768) 32767 = mayB x := rfl
set_option maxHeartbeats 400000 in
theorem nummay_any (x : Int) (w : World) :
    Calls Tryd.prog 30 #[.int .i64 x] w fun e w' => e = .returned (.bool (mayB x)) ∧ w = w' := by
  rw [← upto_may x]
  go_enter Tryd.func30, Tryd.ntmps30
  go_wp2_with (go_at_call 19; refine (upto_any _ _ _ _).mono ?_; rintro e w' ⟨rfl, rfl⟩)
  go_ret
  exact ⟨rfl, rfl⟩
set_option maxHeartbeats 400000 in
theorem bad_any (w : World) :
    Calls Tryd.prog 27 #[] w fun e w' => e = .returned (.agg #[.int .i64 0, .int .i64 0, .slice none 0 0, .int .i64 (-1)]) ∧ Below w.heap.size w w' := by
  go_enter Tryd.func27, Tryd.ntmps27
  go_wp2_with fail
  exact bodyPost_ret (v := .agg #[.int .i64 0, .int .i64 0, .slice none 0 0, .int .i64 (-1)]) (by simp [results, Tryd.results27, go_sem]) rfl ⟨rfl, (Below.refl _ _).alloc (Nat.le_refl _) _⟩
theorem digits_at (s : ByteArray) (a : Nat) (w : World) (hs : s.size ≤ 1024) :
    Calls Tryd.prog 28 #[.string (s.extract a s.size)] w fun e w' => ∃ x k : Nat, e = .returned (.tuple #[.int .i64 (x : Int), .int .i64 (k : Int)]) ∧ w = w' ∧ DigQ (fr s a) x k := by
  refine (digits_any (s.extract a s.size) w ?_).mono ?_
  · rw [ByteArray.size_extract]; omega
  rintro e w' ⟨x, k, rfl, hw, hq⟩
  refine ⟨x, k, rfl, hw, ?_⟩
  rw [Lib.extract_data, List.take_of_length_le (by rw [List.length_drop]; simp)] at hq
  exact hq
end Go.Proofs.YtcjpepbajcdenaaDoor
