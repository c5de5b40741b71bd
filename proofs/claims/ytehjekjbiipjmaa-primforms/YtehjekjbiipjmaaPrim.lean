/- Contracts of package prim's functions and of the document's own answers: what each returns, at every number. -/
import Derived.Test.YtehjekjbiipjmaaRows
import Derived.WalkKit
import Derived.ProofKit
import Derived.OpenShut
namespace Go.Proofs.Ytehjekjbiipjmaa
open Go.RowKit
set_option linter.unusedVariables false

/-- May a number be? -/
def mayB (x : Int) : Bool := decide (-32768 ≤ x ∧ x ≤ 32767)
/-- Brought into range. -/
def into (x : Int) : Int := (x + 32768) % 65536 - 32768
/-- A yes as a number. -/
def oneB (b : Bool) : Int := if b then 1 else 0

theorem may_of {x : Int} (h : mayB x = true) : -32768 ≤ x ∧ x ≤ 32767 := by
  unfold mayB at h; simpa using h
theorem may_mk {x : Int} (h1 : -32768 ≤ x) (h2 : x ≤ 32767) : mayB x = true := by
  unfold mayB; simp; omega
theorem may_not {x : Int} (h : x < -32768 ∨ 32767 < x) : mayB x = false := by
  unfold mayB; simp; omega
theorem into_may (x : Int) : mayB (into x) = true := by
  unfold mayB into; simp; omega
theorem into_rng (x : Int) : -32768 ≤ into x ∧ into x ≤ 32767 := may_of (into_may x)
theorem into_same {x : Int} (h1 : -32768 ≤ x) (h2 : x ≤ 32767) : into x = x := by
  unfold into; omega
theorem wrap_into (x : Int) : wrap64 (IntKind.i16.wrap x) = into x := by
  simp only [IntKind.wrap, IntKind.signed, IntKind.bits, wrap64, into]; simp; omega
theorem ret_int {k : IntKind} {a b : Int} (h : a = b) : Ending.returned (.int k a) = .returned (.int k b) := by rw [h]

set_option maxHeartbeats 400000 in
theorem into_any (x : Int) (w : World) :
    Calls Try.prog 15 #[.int .i64 x] w fun e w' => e = .returned (.int .i64 (into x)) ∧ w' = w := by
  go_enter Try.func15, Try.ntmps15
  go_wp2
  go_ret
  exact ⟨ret_int (wrap_into x), rfl⟩

set_option maxHeartbeats 400000 in
theorem oneif_any (b : Bool) (w : World) :
    Calls Try.prog 16 #[.bool b] w fun e w' => e = .returned (.int .i64 (oneB b)) ∧ w' = w := by
  cases b
  all_goals
    go_enter Try.func16, Try.ntmps16
    go_wp2
    go_ret
    exact ⟨rfl, rfl⟩

set_option maxHeartbeats 400000 in
theorem may_any (x : Int) (w : World) :
    Calls Try.prog 12 #[.int .i64 x] w fun e w' => e = .returned (.bool (mayB x)) ∧ w' = w := by
  by_cases h1 : -32768 ≤ x
  · have e : mayB x = decide (x ≤ 32767) := by unfold mayB; simp [h1]
    rw [e]; clear e
    go_enter Try.func12, Try.ntmps12
    go_wp2
    go_ret
    exact ⟨rfl, rfl⟩
  · have e : mayB x = false := may_not (by omega)
    rw [e]; clear e
    go_enter Try.func12, Try.ntmps12
    go_wp2
    go_ret
    exact ⟨rfl, rfl⟩

set_option maxHeartbeats 400000 in
theorem num_any (x : Int) (w : World) :
    Calls Try.prog 11 #[.int .i64 x] w fun e w' => e = .returned (.int .i64 x) ∧ w' = w := by
  go_enter Try.func11, Try.ntmps11
  go_wp2
  go_ret
  exact ⟨rfl, rfl⟩

/-- From a least to a most? -/
def uptoB (x l m : Int) : Bool := decide (l ≤ x) && decide (x ≤ m)

set_option maxHeartbeats 400000 in
theorem upto_any (x l m : Int) (w : World) :
    Calls Try.prog 17 #[.int .i64 x, .int .i64 l, .int .i64 m] w fun e w' => e = .returned (.bool (uptoB x l m)) ∧ w' = w := by
  by_cases h1 : l ≤ x
  · have e : uptoB x l m = decide (x ≤ m) := by unfold uptoB; simp [h1]
    rw [e]; clear e
    go_enter Try.func17, Try.ntmps17
    go_wp2
    go_ret
    exact ⟨rfl, rfl⟩
  · have e : uptoB x l m = false := by unfold uptoB; simp [h1]
    rw [e]; clear e
    go_enter Try.func17, Try.ntmps17
    go_wp2
    go_ret
    exact ⟨rfl, rfl⟩

theorem upto_may (x : Int) : uptoB x (-32768) 32767 = mayB x := by
  unfold uptoB mayB; simp

set_option maxHeartbeats 400000 in
theorem nummay_any (x : Int) (w : World) :
    Calls Try.prog 13 #[.int .i64 x] w fun e w' => e = .returned (.bool (mayB x)) ∧ w' = w := by
  rw [← upto_may x]
  go_enter Try.func13, Try.ntmps13
  go_wp2_with (go_at_call 17; refine (upto_any _ _ _ _).mono ?_; rintro e w' ⟨rfl, rfl⟩)
  go_ret
  exact ⟨rfl, rfl⟩

set_option maxHeartbeats 400000 in
theorem truth_any (b : Bool) (w : World) :
    Calls Try.prog 18 #[.bool b] w fun e w' => e = .returned (.int .i64 (oneB b)) ∧ w' = w := by
  cases b
  all_goals
    go_enter Try.func18, Try.ntmps18
    go_wp2
    go_ret
    exact ⟨rfl, rfl⟩

set_option maxHeartbeats 400000 in
theorem do_badA (op a b : Int) (w : World) (ha : mayB a = false) :
    Calls Try.prog 9 #[.int .i64 op, .int .i64 a, .int .i64 b] w fun e w' => e = .returned (.tuple #[.int .i64 0, .int .i64 100]) ∧ w' = w := by
  go_enter Try.func9, Try.ntmps9
  go_wp2_with (go_at_call 12; refine (may_any _ _).mono ?_; rintro e w' ⟨rfl, rfl⟩)
  go_ret2
  exact ⟨rfl, rfl⟩

set_option maxHeartbeats 400000 in
theorem do_badB (op a b : Int) (w : World) (ha : mayB a = true) (hb : mayB b = false) :
    Calls Try.prog 9 #[.int .i64 op, .int .i64 a, .int .i64 b] w fun e w' => e = .returned (.tuple #[.int .i64 0, .int .i64 100]) ∧ w' = w := by
  go_enter Try.func9, Try.ntmps9
  go_wp2_with (go_at_call 12; refine (may_any _ _).mono ?_; rintro e w' ⟨rfl, rfl⟩)
  go_ret2
  exact ⟨rfl, rfl⟩

set_option maxHeartbeats 400000 in
theorem do_other (op a b : Int) (w : World) (ha : mayB a = true) (hb : mayB b = true) (ho : op < 0 ∨ 4 < op) :
    Calls Try.prog 9 #[.int .i64 op, .int .i64 a, .int .i64 b] w fun e w' => e = .returned (.tuple #[.int .i64 0, .int .i64 100]) ∧ w' = w := by
  have h0 : (op == 0) = false := by simp; omega
  have h1 : (op == 1) = false := by simp; omega
  have h2 : (op == 2) = false := by simp; omega
  have h3 : (op == 3) = false := by simp; omega
  have h4 : (op == 4) = false := by simp; omega
  clear ho
  go_enter Try.func9, Try.ntmps9
  go_wp2_with (go_at_call 12; refine (may_any _ _).mono ?_; rintro e w' ⟨rfl, rfl⟩)
  go_ret2
  exact ⟨rfl, rfl⟩

set_option maxHeartbeats 400000 in
theorem do_add (a b : Int) (w : World) (ha : mayB a = true) (hb : mayB b = true) :
    Calls Try.prog 9 #[.int .i64 0, .int .i64 a, .int .i64 b] w fun e w' => e = .returned (.tuple #[.int .i64 (into (a + b)), .int .i64 0]) ∧ w' = w := by
  obtain ⟨a1, a2⟩ := may_of ha
  obtain ⟨b1, b2⟩ := may_of hb
  go_enter Try.func9, Try.ntmps9
  go_wp2_with (first | (go_at_call 12; refine (may_any _ _).mono ?_; rintro e w' ⟨rfl, rfl⟩) | (go_at_call 15; refine (into_any _ _).mono ?_; rintro e w' ⟨rfl, rfl⟩))
  go_ret2
  exact ⟨rfl, rfl⟩

set_option maxHeartbeats 400000 in
theorem do_sub (a b : Int) (w : World) (ha : mayB a = true) (hb : mayB b = true) :
    Calls Try.prog 9 #[.int .i64 1, .int .i64 a, .int .i64 b] w fun e w' => e = .returned (.tuple #[.int .i64 (into (a - b)), .int .i64 0]) ∧ w' = w := by
  obtain ⟨a1, a2⟩ := may_of ha
  obtain ⟨b1, b2⟩ := may_of hb
  go_enter Try.func9, Try.ntmps9
  go_wp2_with (first | (go_at_call 12; refine (may_any _ _).mono ?_; rintro e w' ⟨rfl, rfl⟩) | (go_at_call 15; refine (into_any _ _).mono ?_; rintro e w' ⟨rfl, rfl⟩))
  go_ret2
  exact ⟨rfl, rfl⟩

/-- A product of two that may be. -/
theorem mul_rng {a b : Int} (ha : mayB a = true) (hb : mayB b = true) : -1073741824 ≤ a * b ∧ a * b ≤ 1073741824 := by
  obtain ⟨a1, a2⟩ := may_of ha
  obtain ⟨b1, b2⟩ := may_of hb
  have h : (a * b).natAbs ≤ 32768 * 32768 := by
    rw [Int.natAbs_mul]; exact Nat.mul_le_mul (by omega) (by omega)
  omega

set_option maxHeartbeats 400000 in
theorem do_mul (a b : Int) (w : World) (ha : mayB a = true) (hb : mayB b = true) :
    Calls Try.prog 9 #[.int .i64 2, .int .i64 a, .int .i64 b] w fun e w' => e = .returned (.tuple #[.int .i64 (into (a * b)), .int .i64 0]) ∧ w' = w := by
  obtain ⟨c1, c2⟩ := mul_rng ha hb
  have hw : wrap64 (a * b) = a * b := by unfold wrap64; omega
  go_enter Try.func9, Try.ntmps9
  go_wp2_with (first | (go_at_call 12; refine (may_any _ _).mono ?_; rintro e w' ⟨rfl, rfl⟩) | (go_at_call 15; refine (into_any _ _).mono ?_; rintro e w' ⟨rfl, rfl⟩))
  go_ret2
  exact ⟨rfl, rfl⟩

set_option maxHeartbeats 400000 in
theorem do_eq (a b : Int) (w : World) (ha : mayB a = true) (hb : mayB b = true) :
    Calls Try.prog 9 #[.int .i64 3, .int .i64 a, .int .i64 b] w fun e w' => e = .returned (.tuple #[.int .i64 (oneB (a == b)), .int .i64 0]) ∧ w' = w := by
  go_enter Try.func9, Try.ntmps9
  go_wp2_with (first | (go_at_call 12; refine (may_any _ _).mono ?_; rintro e w' ⟨rfl, rfl⟩) | (go_at_call 16; refine (oneif_any _ _).mono ?_; rintro e w' ⟨rfl, rfl⟩))
  go_ret2
  exact ⟨rfl, rfl⟩

set_option maxHeartbeats 400000 in
theorem do_less (a b : Int) (w : World) (ha : mayB a = true) (hb : mayB b = true) :
    Calls Try.prog 9 #[.int .i64 4, .int .i64 a, .int .i64 b] w fun e w' => e = .returned (.tuple #[.int .i64 (oneB (decide (a < b))), .int .i64 0]) ∧ w' = w := by
  go_enter Try.func9, Try.ntmps9
  go_wp2_with (first | (go_at_call 12; refine (may_any _ _).mono ?_; rintro e w' ⟨rfl, rfl⟩) | (go_at_call 16; refine (oneif_any _ _).mono ?_; rintro e w' ⟨rfl, rfl⟩))
  go_ret2
  exact ⟨rfl, rfl⟩

end Go.Proofs.Ytehjekjbiipjmaa
