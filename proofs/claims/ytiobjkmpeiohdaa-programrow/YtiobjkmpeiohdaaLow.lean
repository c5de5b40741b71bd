/- Contracts of the small functions: within, upTo, the numbers that may be, the levels that a kid has more, and which parts may be such. -/
import Derived.Test.YtiobjkmpeiohdaaRows
import Derived.Test.YtiobjkmpeiohdaaPure
import Derived.WalkKit
import Derived.ProofKit
import Derived.OpenShut
namespace Go.Proofs.Ytiobjkmpeiohdaa
open Go.RowKit
set_option linter.unusedVariables false

/-- From low to high? -/
def withB (x lo hi : Int) : Bool := decide (lo ≤ x ∧ x ≤ hi)
theorem withB_iff {x lo hi : Int} : withB x lo hi = true ↔ lo ≤ x ∧ x ≤ hi := by unfold withB; simp
theorem withB_not {x lo hi : Int} : withB x lo hi = false ↔ ¬ (lo ≤ x ∧ x ≤ hi) := by unfold withB; simp
theorem ret_bool {a b : Bool} (h : a = b) : Ending.returned (.bool a) = .returned (.bool b) := by rw [h]
theorem ret_int {k : IntKind} {a b : Int} (h : a = b) : Ending.returned (.int k a) = .returned (.int k b) := by rw [h]

set_option maxHeartbeats 400000 in
theorem within_any (x lo hi : Int) (w : World) :
    Calls Try.prog 23 #[.int .i64 x, .int .i64 lo, .int .i64 hi] w fun e w' => e = .returned (.bool (withB x lo hi)) ∧ w = w' := by
  by_cases h1 : lo ≤ x
  · have d1 : decide (lo ≤ x) = true := decide_eq_true h1
    go_enter Try.func23, Try.ntmps23
    go_wp2
    go_ret
    exact ⟨ret_bool (by unfold withB; simp [h1]; try omega), rfl⟩
  · have d1 : decide (lo ≤ x) = false := decide_eq_false h1
    go_enter Try.func23, Try.ntmps23
    go_wp2
    go_ret
    exact ⟨ret_bool (by unfold withB; simp; try omega), rfl⟩
set_option maxHeartbeats 400000 in
theorem upto_any (x lo hi : Int) (w : World) :
    Calls Try.prog 20 #[.int .i64 x, .int .i64 lo, .int .i64 hi] w fun e w' => e = .returned (.bool (withB x lo hi)) ∧ w = w' := by
  by_cases h1 : lo ≤ x
  · have d1 : decide (lo ≤ x) = true := decide_eq_true h1
    go_enter Try.func20, Try.ntmps20
    go_wp2
    go_ret
    exact ⟨ret_bool (by unfold withB; simp [h1]; try omega), rfl⟩
  · have d1 : decide (lo ≤ x) = false := decide_eq_false h1
    go_enter Try.func20, Try.ntmps20
    go_wp2
    go_ret
    exact ⟨ret_bool (by unfold withB; simp; try omega), rfl⟩
set_option maxHeartbeats 400000 in
theorem prim_any (x : Int) (w : World) :
    Calls Try.prog 34 #[.int .i64 x] w fun e w' => e = .returned (.bool (withB x (-32768) 32767)) ∧ w = w' := by
  by_cases h1 : -32768 ≤ x
  · have d1 : decide (-32768 ≤ x) = true := decide_eq_true h1
    go_enter Try.func34, Try.ntmps34
    go_wp2
    go_ret
    exact ⟨ret_bool (by unfold withB; simp [h1]; try omega), rfl⟩
  · have d1 : decide (-32768 ≤ x) = false := decide_eq_false h1
    go_enter Try.func34, Try.ntmps34
    go_wp2
    go_ret
    exact ⟨ret_bool (by unfold withB; simp; try omega), rfl⟩
set_option maxHeartbeats 400000 in
theorem nummay_any (x : Int) (w : World) :
    Calls Try.prog 36 #[.int .i64 x] w fun e w' => e = .returned (.bool (withB x (-32768) 32767)) ∧ w = w' := by
  go_enter Try.func36, Try.ntmps36
  go_wp2_with fail
  refine (upto_any _ _ _ _).mono ?_
  rintro e w' ⟨rfl, rfl⟩
  go_wp2_with fail
  go_ret
  exact ⟨rfl, rfl⟩
set_option maxHeartbeats 400000 in
theorem num_any (x : Int) (w : World) :
    Calls Try.prog 13 #[.int .i64 x] w fun e w' => e = .returned (.int .i64 x) ∧ w = w' := by
  go_enter Try.func13, Try.ntmps13
  go_wp2
  go_ret
  exact ⟨rfl, rfl⟩

set_option maxHeartbeats 800000 in
theorem bound_any (k m b i : Int) (g : Option Addr) (n c : Nat) (w : World) :
    Calls Try.prog 35 #[.agg #[.int .i64 k, .int .i64 m, .int .i64 b, .slice g n c], .int .i64 i] w fun e w' => e = .returned (.int .i64 (bnd k b i)) ∧ Below w.heap.size w w' := by
  by_cases h1 : i = 1
  · subst h1
    by_cases h5 : k = 5
    · subst h5
      go_enter Try.func35, Try.ntmps35
      go_wp2
      go_ret
      exact ⟨ret_int (by simp [bnd]), (Below.refl _ _).alloc (Nat.le_refl _) _⟩
    · have e5 : (k == 5) = false := by simpa using h5
      by_cases h6 : k = 6
      · subst h6
        go_enter Try.func35, Try.ntmps35
        go_wp2
        go_ret
        exact ⟨ret_int (by simp [bnd]), (Below.refl _ _).alloc (Nat.le_refl _) _⟩
      · have e6 : (k == 6) = false := by simpa using h6
        go_enter Try.func35, Try.ntmps35
        go_wp2
        go_ret
        exact ⟨ret_int (by simp [bnd, h5, h6]), (Below.refl _ _).alloc (Nat.le_refl _) _⟩
  · have e1 : (i == 1) = false := by simpa using h1
    have e2 : (i != 1) = true := by simpa using h1
    go_enter Try.func35, Try.ntmps35
    go_wp2
    go_ret
    exact ⟨ret_int (by simp [bnd, h1]), (Below.refl _ _).alloc (Nat.le_refl _) _⟩

set_option maxHeartbeats 800000 in
theorem deeper_any (k m b i : Int) (g : Option Addr) (n c : Nat) (w : World) :
    Calls Try.prog 30 #[.agg #[.int .i64 k, .int .i64 m, .int .i64 b, .slice g n c], .int .i64 i] w fun e w' => e = .returned (.int .i64 (bnd k b i)) ∧ Below w.heap.size w w' := by
  by_cases h1 : i = 1
  · subst h1
    by_cases h5 : k = 5
    · subst h5
      go_enter Try.func30, Try.ntmps30
      go_wp2
      go_ret
      exact ⟨ret_int (by simp [bnd]), (Below.refl _ _).alloc (Nat.le_refl _) _⟩
    · have e5 : (k == 5) = false := by simpa using h5
      by_cases h6 : k = 6
      · subst h6
        go_enter Try.func30, Try.ntmps30
        go_wp2
        go_ret
        exact ⟨ret_int (by simp [bnd]), (Below.refl _ _).alloc (Nat.le_refl _) _⟩
      · have e6 : (k == 6) = false := by simpa using h6
        go_enter Try.func30, Try.ntmps30
        go_wp2
        go_ret
        exact ⟨ret_int (by simp [bnd, h5, h6]), (Below.refl _ _).alloc (Nat.le_refl _) _⟩
  · have e1 : (i == 1) = false := by simpa using h1
    have e2 : (i != 1) = true := by simpa using h1
    go_enter Try.func30, Try.ntmps30
    go_wp2
    go_ret
    exact ⟨ret_int (by simp [bnd, h1]), (Below.refl _ _).alloc (Nat.le_refl _) _⟩
end Go.Proofs.Ytiobjkmpeiohdaa
