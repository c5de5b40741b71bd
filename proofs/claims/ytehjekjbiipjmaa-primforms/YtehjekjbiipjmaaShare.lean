/- Lemmas that several of the laws share: sixteen bits of an int; what comes of two numbers, by cases. -/
import Derived.Test.YtehjekjbiipjmaaAwake
namespace Go.Proofs.Ytehjekjbiipjmaa
open Go.RowKit
set_option linter.unusedVariables false

/-- Sixteen bits of an int, taken down: a number that may be. -/
theorem low16 (a : Int) : ∃ m : Int, bits .and .i64 a 65535 = m ∧ 0 ≤ m ∧ m ≤ 65535 := ⟨a % 65536, and_65535 a, by omega, by omega⟩

theorem addX (x y : Int) (hx : mayB x = true) (hy : mayB y = true) : ∃ p : Int, mayB p = true ∧ -32768 ≤ p ∧ p ≤ 32767 ∧ (p - x - y).tmod 65536 = 0 ∧
    Hid (∀ w, Calls Try.prog 9 #[.int .i64 0, .int .i64 x, .int .i64 y] w fun e w' => e = .returned (.tuple #[.int .i64 p, .int .i64 0]) ∧ w' = w) :=
  ⟨into (x + y), into_may _, (into_rng _).1, (into_rng _).2, Int.tmod_eq_zero_of_dvd (by unfold into; omega), fun w => do_add x y w hx hy⟩
theorem subX (x y : Int) (hx : mayB x = true) (hy : mayB y = true) : ∃ p : Int, mayB p = true ∧ -32768 ≤ p ∧ p ≤ 32767 ∧ (p - x + y).tmod 65536 = 0 ∧
    Hid (∀ w, Calls Try.prog 9 #[.int .i64 1, .int .i64 x, .int .i64 y] w fun e w' => e = .returned (.tuple #[.int .i64 p, .int .i64 0]) ∧ w' = w) :=
  ⟨into (x - y), into_may _, (into_rng _).1, (into_rng _).2, Int.tmod_eq_zero_of_dvd (by unfold into; omega), fun w => do_sub x y w hx hy⟩
theorem mulX (x y : Int) (hx : mayB x = true) (hy : mayB y = true) : ∃ p : Int, mayB p = true ∧ -32768 ≤ p ∧ p ≤ 32767 ∧ (p - x * y).tmod 65536 = 0 ∧
    Hid (∀ w, Calls Try.prog 9 #[.int .i64 2, .int .i64 x, .int .i64 y] w fun e w' => e = .returned (.tuple #[.int .i64 p, .int .i64 0]) ∧ w' = w) :=
  ⟨into (x * y), into_may _, (into_rng _).1, (into_rng _).2, Int.tmod_eq_zero_of_dvd (by unfold into; omega), fun w => do_mul x y w hx hy⟩

theorem eq1 (x y : Int) (w : World) (hx : mayB x = true) (hy : mayB y = true) (h : x = y) :
    Calls Try.prog 9 #[.int .i64 3, .int .i64 x, .int .i64 y] w fun e w' => e = .returned (.tuple #[.int .i64 1, .int .i64 0]) ∧ w' = w := by
  have e : oneB (x == y) = 1 := by simp [h, oneB]
  have c := do_eq x y w hx hy
  rw [e] at c; exact c
theorem eq0 (x y : Int) (w : World) (hx : mayB x = true) (hy : mayB y = true) (h : x ≠ y) :
    Calls Try.prog 9 #[.int .i64 3, .int .i64 x, .int .i64 y] w fun e w' => e = .returned (.tuple #[.int .i64 0, .int .i64 0]) ∧ w' = w := by
  have e : oneB (x == y) = 0 := by simp [h, oneB]
  have c := do_eq x y w hx hy
  rw [e] at c; exact c
theorem less1 (x y : Int) (w : World) (hx : mayB x = true) (hy : mayB y = true) (h : x < y) :
    Calls Try.prog 9 #[.int .i64 4, .int .i64 x, .int .i64 y] w fun e w' => e = .returned (.tuple #[.int .i64 1, .int .i64 0]) ∧ w' = w := by
  have e : oneB (decide (x < y)) = 1 := by simp [h, oneB]
  have c := do_less x y w hx hy
  rw [e] at c; exact c
theorem less0 (x y : Int) (w : World) (hx : mayB x = true) (hy : mayB y = true) (h : y ≤ x) :
    Calls Try.prog 9 #[.int .i64 4, .int .i64 x, .int .i64 y] w fun e w' => e = .returned (.tuple #[.int .i64 0, .int .i64 0]) ∧ w' = w := by
  have e : oneB (decide (x < y)) = 0 := by simp [oneB]; omega
  have c := do_less x y w hx hy
  rw [e] at c; exact c

end Go.Proofs.Ytehjekjbiipjmaa
