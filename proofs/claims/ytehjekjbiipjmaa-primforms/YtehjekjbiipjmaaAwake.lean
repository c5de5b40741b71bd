/- What every law of the seat asks first: the five calls by hand answer as the document says. -/
import Derived.Test.YtehjekjbiipjmaaPrim
namespace Go.Proofs.Ytehjekjbiipjmaa
open Go.RowKit
set_option linter.unusedVariables false

set_option maxHeartbeats 400000 in
theorem awake_any (w : World) :
    Calls Try.prog 14 #[] w fun e w' => e = .returned (.bool true) ∧ w' = w := by
  go_enter Try.func14, Try.ntmps14
  go_wp2_with fail
  refine (do_add 32767 1 _ (by decide) (by decide)).mono ?_
  rintro e w' ⟨rfl, rfl⟩
  rw [show into (32767 + 1) = -32768 from by decide]
  go_wp2_with fail
  refine (do_mul 256 256 _ (by decide) (by decide)).mono ?_
  rintro e w' ⟨rfl, rfl⟩
  rw [show into (256 * 256) = 0 from by decide]
  go_wp2_with fail
  refine (do_less (-1) 0 _ (by decide) (by decide)).mono ?_
  rintro e w' ⟨rfl, rfl⟩
  rw [show oneB (decide ((-1 : Int) < 0)) = 1 from by decide]
  go_wp2_with fail
  refine (do_other 5 0 0 _ (by decide) (by decide) (by decide)).mono ?_
  rintro e w' ⟨rfl, rfl⟩
  go_wp2_with fail
  refine (do_badA 0 32768 0 _ (by decide)).mono ?_
  rintro e w' ⟨rfl, rfl⟩
  have hm : mayB (-32768) = true := by decide
  go_wp2_with (first | (go_at_call 11; refine (num_any _ _).mono ?_; rintro e w' ⟨rfl, rfl⟩) | (go_at_call 12; refine (may_any _ _).mono ?_; rintro e w' ⟨rfl, rfl⟩))
  go_ret
  exact ⟨rfl, rfl⟩

set_option maxHeartbeats 400000 in
theorem ref_badO (op a b : Int) (w : World) (ho : uptoB op 0 4 = false) :
    Calls Try.prog 10 #[.int .i64 op, .int .i64 a, .int .i64 b] w fun e w' => e = .returned (.tuple #[.int .i64 0, .int .i64 100]) ∧ w' = w := by
  go_enter Try.func10, Try.ntmps10
  go_wp2_with (first | (go_at_call 17; refine (upto_any _ _ _ _).mono ?_; rintro e w' ⟨rfl, rfl⟩) | (go_at_call 13; refine (nummay_any _ _).mono ?_; rintro e w' ⟨rfl, rfl⟩))
  go_ret2
  exact ⟨rfl, rfl⟩

set_option maxHeartbeats 400000 in
theorem ref_badA (op a b : Int) (w : World) (ho : uptoB op 0 4 = true) (ha : mayB a = false) :
    Calls Try.prog 10 #[.int .i64 op, .int .i64 a, .int .i64 b] w fun e w' => e = .returned (.tuple #[.int .i64 0, .int .i64 100]) ∧ w' = w := by
  go_enter Try.func10, Try.ntmps10
  go_wp2_with (first | (go_at_call 17; refine (upto_any _ _ _ _).mono ?_; rintro e w' ⟨rfl, rfl⟩) | (go_at_call 13; refine (nummay_any _ _).mono ?_; rintro e w' ⟨rfl, rfl⟩))
  go_ret2
  exact ⟨rfl, rfl⟩

set_option maxHeartbeats 400000 in
theorem ref_badB (op a b : Int) (w : World) (ho : uptoB op 0 4 = true) (ha : mayB a = true) (hb : mayB b = false) :
    Calls Try.prog 10 #[.int .i64 op, .int .i64 a, .int .i64 b] w fun e w' => e = .returned (.tuple #[.int .i64 0, .int .i64 100]) ∧ w' = w := by
  go_enter Try.func10, Try.ntmps10
  go_wp2_with (first | (go_at_call 17; refine (upto_any _ _ _ _).mono ?_; rintro e w' ⟨rfl, rfl⟩) | (go_at_call 13; refine (nummay_any _ _).mono ?_; rintro e w' ⟨rfl, rfl⟩))
  go_ret2
  exact ⟨rfl, rfl⟩

/-- The last sixteen bits of an int. -/
theorem and_65535 (x : Int) : bits .and .i64 x 65535 = x % 65536 := by
  have hb : (BitVec.ofInt 64 65535).toNat = 65535 := by decide
  have h : bits .and .i64 x 65535 = IntKind.i64.wrap (((BitVec.ofInt 64 x &&& BitVec.ofInt 64 65535).toNat : Nat) : Int) := rfl
  rw [h, BitVec.toNat_and, hb, BitVec.toNat_ofInt, show (65535 : Nat) = 2 ^ 16 - 1 from rfl, Nat.and_two_pow_sub_one_eq_mod, IntKind.wrap_i64]
  simp only [show ((2 : Nat) ^ 64) = 18446744073709551616 from rfl, show ((2 : Nat) ^ 16) = 65536 from rfl]
  omega

theorem ref_into (x : Int) : wrap64 (IntKind.i16.wrap (IntKind.u16.wrap (bits .and .i64 x 65535))) = into x := by
  rw [and_65535]
  simp only [IntKind.wrap, IntKind.signed, IntKind.bits, wrap64, into]; simp; omega

theorem into_one (b : Bool) : into (oneB b) = oneB b := by cases b <;> decide

theorem ret_two {a b c : Int} (h : a = b) : Ending.returned (.tuple #[.int .i64 a, .int .i64 c]) = .returned (.tuple #[.int .i64 b, .int .i64 c]) := by rw [h]

set_option maxHeartbeats 400000 in
theorem ref_add (a b : Int) (w : World) (ha : mayB a = true) (hb : mayB b = true) :
    Calls Try.prog 10 #[.int .i64 0, .int .i64 a, .int .i64 b] w fun e w' => e = .returned (.tuple #[.int .i64 (into (a + b)), .int .i64 0]) ∧ w' = w := by
  obtain ⟨a1, a2⟩ := may_of ha
  obtain ⟨b1, b2⟩ := may_of hb
  have ho : uptoB 0 0 4 = true := by decide
  go_enter Try.func10, Try.ntmps10
  go_wp2_with (first | (go_at_call 17; refine (upto_any _ _ _ _).mono ?_; rintro e w' ⟨rfl, rfl⟩) | (go_at_call 13; refine (nummay_any _ _).mono ?_; rintro e w' ⟨rfl, rfl⟩) | (go_at_call 18; refine (truth_any _ _).mono ?_; rintro e w' ⟨rfl, rfl⟩))
  go_ret2
  exact ⟨ret_two (ref_into _), rfl⟩

set_option maxHeartbeats 400000 in
theorem ref_sub (a b : Int) (w : World) (ha : mayB a = true) (hb : mayB b = true) :
    Calls Try.prog 10 #[.int .i64 1, .int .i64 a, .int .i64 b] w fun e w' => e = .returned (.tuple #[.int .i64 (into (a - b)), .int .i64 0]) ∧ w' = w := by
  obtain ⟨a1, a2⟩ := may_of ha
  obtain ⟨b1, b2⟩ := may_of hb
  have ho : uptoB 1 0 4 = true := by decide
  go_enter Try.func10, Try.ntmps10
  go_wp2_with (first | (go_at_call 17; refine (upto_any _ _ _ _).mono ?_; rintro e w' ⟨rfl, rfl⟩) | (go_at_call 13; refine (nummay_any _ _).mono ?_; rintro e w' ⟨rfl, rfl⟩) | (go_at_call 18; refine (truth_any _ _).mono ?_; rintro e w' ⟨rfl, rfl⟩))
  go_ret2
  exact ⟨ret_two (ref_into _), rfl⟩

set_option maxHeartbeats 400000 in
theorem ref_mul (a b : Int) (w : World) (ha : mayB a = true) (hb : mayB b = true) :
    Calls Try.prog 10 #[.int .i64 2, .int .i64 a, .int .i64 b] w fun e w' => e = .returned (.tuple #[.int .i64 (into (a * b)), .int .i64 0]) ∧ w' = w := by
  obtain ⟨c1, c2⟩ := mul_rng ha hb
  have hw : wrap64 (a * b) = a * b := by unfold wrap64; omega
  have ho : uptoB 2 0 4 = true := by decide
  go_enter Try.func10, Try.ntmps10
  go_wp2_with (first | (go_at_call 17; refine (upto_any _ _ _ _).mono ?_; rintro e w' ⟨rfl, rfl⟩) | (go_at_call 13; refine (nummay_any _ _).mono ?_; rintro e w' ⟨rfl, rfl⟩) | (go_at_call 18; refine (truth_any _ _).mono ?_; rintro e w' ⟨rfl, rfl⟩))
  go_ret2
  exact ⟨ret_two (ref_into _), rfl⟩

set_option maxHeartbeats 400000 in
theorem ref_eq (a b : Int) (w : World) (ha : mayB a = true) (hb : mayB b = true) :
    Calls Try.prog 10 #[.int .i64 3, .int .i64 a, .int .i64 b] w fun e w' => e = .returned (.tuple #[.int .i64 (oneB (a == b)), .int .i64 0]) ∧ w' = w := by
  have ho : uptoB 3 0 4 = true := by decide
  go_enter Try.func10, Try.ntmps10
  go_wp2_with (first | (go_at_call 17; refine (upto_any _ _ _ _).mono ?_; rintro e w' ⟨rfl, rfl⟩) | (go_at_call 13; refine (nummay_any _ _).mono ?_; rintro e w' ⟨rfl, rfl⟩) | (go_at_call 18; refine (truth_any _ _).mono ?_; rintro e w' ⟨rfl, rfl⟩))
  go_ret2
  exact ⟨ret_two ((ref_into _).trans (into_one _)), rfl⟩

set_option maxHeartbeats 400000 in
theorem ref_less (a b : Int) (w : World) (ha : mayB a = true) (hb : mayB b = true) :
    Calls Try.prog 10 #[.int .i64 4, .int .i64 a, .int .i64 b] w fun e w' => e = .returned (.tuple #[.int .i64 (oneB (decide (a < b))), .int .i64 0]) ∧ w' = w := by
  have ho : uptoB 4 0 4 = true := by decide
  go_enter Try.func10, Try.ntmps10
  go_wp2_with (first | (go_at_call 17; refine (upto_any _ _ _ _).mono ?_; rintro e w' ⟨rfl, rfl⟩) | (go_at_call 13; refine (nummay_any _ _).mono ?_; rintro e w' ⟨rfl, rfl⟩) | (go_at_call 18; refine (truth_any _ _).mono ?_; rintro e w' ⟨rfl, rfl⟩))
  go_ret2
  exact ⟨ret_two ((ref_into _).trans (into_one _)), rfl⟩

end Go.Proofs.Ytehjekjbiipjmaa
