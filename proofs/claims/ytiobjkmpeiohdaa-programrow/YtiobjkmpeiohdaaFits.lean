/- The contracts of expr.fits and of the document's kinds: which parts may be such. -/
import Derived.Test.YtiobjkmpeiohdaaLow
namespace Go.Proofs.Ytiobjkmpeiohdaa
open Go.RowKit
set_option linter.unusedVariables false

theorem okE_0 (m b n t : Int) : (okE 0 m b n t = true) ↔ (b = 0 ∧ (-32768 ≤ m ∧ m ≤ 32767) ∧ n = 0) := by simp [okE]
theorem okE_1 (m b n t : Int) : (okE 1 m b n t = true) ↔ (b = 0 ∧ (0 ≤ m ∧ m ≤ t - 1) ∧ n = 0) := by simp [okE]
theorem okE_2 (m b n t : Int) : (okE 2 m b n t = true) ↔ (b = 0 ∧ (0 ≤ m ∧ m ≤ 7) ∧ n ≤ 3) := by simp [okE]
theorem okE_3 (m b n t : Int) : (okE 3 m b n t = true) ↔ (b = 0 ∧ (0 ≤ m ∧ m ≤ 99) ∧ n ≤ 3) := by simp [okE]
theorem okE_4 (m b n t : Int) : (okE 4 m b n t = true) ↔ (b = 0 ∧ (0 ≤ m ∧ m ≤ 4) ∧ n = 2) := by simp [okE]
theorem okE_5 (m b n t : Int) : (okE 5 m b n t = true) ↔ ((0 ≤ m ∧ m ≤ 99) ∧ (0 ≤ b ∧ b ≤ 3) ∧ n = 3) := by simp [okE]
theorem okE_6 (m b n t : Int) : (okE 6 m b n t = true) ↔ (b = 0 ∧ m = 0 ∧ n = 2) := by simp [okE]
theorem okE_7 (m b n t : Int) : (okE 7 m b n t = true) ↔ (b = 0 ∧ m = 0 ∧ n = 0) := by simp [okE]
theorem okE_else (k m b n t : Int) (h : ¬ (0 ≤ k ∧ k ≤ 7)) : okE k m b n t = false := by
  unfold okE
  rw [if_neg (by omega), if_neg (by omega), if_neg (by omega), if_neg (by omega), if_neg (by omega), if_neg (by omega), if_neg (by omega), if_neg (by omega)]
theorem eq_of_iff {a b : Bool} (h : (a = true) ↔ (b = true)) : a = b := Bool.eq_iff_iff.2 h
set_option maxHeartbeats 800000 in
theorem fits_0 (m b t : Int) (g : Option Addr) (n c : Nat) (w : World) (ht0 : -1 ≤ t) (ht8 : t ≤ 8) :
    Calls Try.prog 26 #[.agg #[.int .i64 0, .int .i64 m, .int .i64 b, .slice g n c], .int .i64 t] w fun e w' => e = .returned (.bool (okE 0 m b n t)) ∧ Below w.heap.size w w' := by
  by_cases hb : b = 0
  · subst hb
    cases hw : withB m (-32768) 32767 with
    | false =>
      go_enter Try.func26, Try.ntmps26
      go_wp2_with (first | (go_at_call 23; refine (within_any _ _ _ _).mono ?_; rintro e w1 ⟨rfl, rfl⟩) | (go_at_call 34; refine (prim_any _ _).mono ?_; rintro e w1 ⟨rfl, rfl⟩))
      go_ret
      refine ⟨ret_bool (eq_of_iff ?_), (Below.refl _ _).alloc (Nat.le_refl _) _⟩
      have q := withB_not.1 hw
      rw [okE_0]
      refine ⟨fun hq => ?_, fun hq => ?_⟩ <;> (try simp only [Bool.false_eq_true, true_and] at hq ⊢) <;> omega
    | true =>
      go_enter Try.func26, Try.ntmps26
      go_wp2_with (first | (go_at_call 23; refine (within_any _ _ _ _).mono ?_; rintro e w1 ⟨rfl, rfl⟩) | (go_at_call 34; refine (prim_any _ _).mono ?_; rintro e w1 ⟨rfl, rfl⟩))
      go_ret
      refine ⟨ret_bool (eq_of_iff ?_), (Below.refl _ _).alloc (Nat.le_refl _) _⟩
      have q := withB_iff.1 hw
      rw [okE_0]
      refine ⟨fun hq => ?_, fun hq => ?_⟩ <;> (try simp only [beq_iff_eq, true_and] at hq ⊢) <;> omega
  · have eb : (b == 0) = false := by simpa using hb
    have eb2 : (b != 0) = true := by simpa using hb
    go_enter Try.func26, Try.ntmps26
    go_wp2_with (first | (go_at_call 23; refine (within_any _ _ _ _).mono ?_; rintro e w1 ⟨rfl, rfl⟩) | (go_at_call 34; refine (prim_any _ _).mono ?_; rintro e w1 ⟨rfl, rfl⟩))
    go_ret
    refine ⟨ret_bool (eq_of_iff ?_), (Below.refl _ _).alloc (Nat.le_refl _) _⟩
    rw [okE_0]
    refine ⟨fun hq => ?_, fun hq => ?_⟩ <;> (try simp only [Bool.false_eq_true] at hq ⊢) <;> omega
set_option maxHeartbeats 800000 in
theorem kinds_0 (m b t : Int) (g : Option Addr) (n c : Nat) (w : World) (ht0 : -1 ≤ t) (ht8 : t ≤ 8) :
    Calls Try.prog 29 #[.agg #[.int .i64 0, .int .i64 m, .int .i64 b, .slice g n c], .int .i64 t] w fun e w' => e = .returned (.bool (okE 0 m b n t)) ∧ Below w.heap.size w w' := by
  by_cases hb : b = 0
  · subst hb
    by_cases hn : (n : Int) = 0
    · have en : ((n : Int) == 0) = true := by rw [hn]; rfl
      go_enter Try.func29, Try.ntmps29
      go_wp2_with (first | (go_at_call 20; refine (upto_any _ _ _ _).mono ?_; rintro e w1 ⟨rfl, rfl⟩) | (go_at_call 36; refine (nummay_any _ _).mono ?_; rintro e w1 ⟨rfl, rfl⟩))
      go_ret
      refine ⟨ret_bool (eq_of_iff ?_), (Below.refl _ _).alloc (Nat.le_refl _) _⟩
      rw [okE_0]
      refine ⟨fun hq => ?_, fun hq => ?_⟩ <;> (try simp only [withB_iff, true_and] at hq ⊢) <;> omega
    · have en : ((n : Int) == 0) = false := by rw [beq_eq_false_iff_ne]; exact hn
      go_enter Try.func29, Try.ntmps29
      go_wp2_with (first | (go_at_call 20; refine (upto_any _ _ _ _).mono ?_; rintro e w1 ⟨rfl, rfl⟩) | (go_at_call 36; refine (nummay_any _ _).mono ?_; rintro e w1 ⟨rfl, rfl⟩))
      go_ret
      refine ⟨ret_bool (eq_of_iff ?_), (Below.refl _ _).alloc (Nat.le_refl _) _⟩
      rw [okE_0]
      refine ⟨fun hq => ?_, fun hq => ?_⟩ <;> (try simp only [Bool.false_eq_true, true_and] at hq ⊢) <;> omega
  · have eb : (b == 0) = false := by simpa using hb
    have eb2 : (b != 0) = true := by simpa using hb
    go_enter Try.func29, Try.ntmps29
    go_wp2_with (first | (go_at_call 20; refine (upto_any _ _ _ _).mono ?_; rintro e w1 ⟨rfl, rfl⟩) | (go_at_call 36; refine (nummay_any _ _).mono ?_; rintro e w1 ⟨rfl, rfl⟩))
    go_ret
    refine ⟨ret_bool (eq_of_iff ?_), (Below.refl _ _).alloc (Nat.le_refl _) _⟩
    rw [okE_0]
    refine ⟨fun hq => ?_, fun hq => ?_⟩ <;> (try simp only [Bool.false_eq_true] at hq ⊢) <;> omega
set_option maxHeartbeats 800000 in
theorem fits_1 (m b t : Int) (g : Option Addr) (n c : Nat) (w : World) (ht0 : -1 ≤ t) (ht8 : t ≤ 8) :
    Calls Try.prog 26 #[.agg #[.int .i64 1, .int .i64 m, .int .i64 b, .slice g n c], .int .i64 t] w fun e w' => e = .returned (.bool (okE 1 m b n t)) ∧ Below w.heap.size w w' := by
  by_cases hb : b = 0
  · subst hb
    cases hw : withB m 0 (t - 1) with
    | false =>
      go_enter Try.func26, Try.ntmps26
      go_wp2_with (first | (go_at_call 23; refine (within_any _ _ _ _).mono ?_; rintro e w1 ⟨rfl, rfl⟩) | (go_at_call 34; refine (prim_any _ _).mono ?_; rintro e w1 ⟨rfl, rfl⟩))
      go_ret
      refine ⟨ret_bool (eq_of_iff ?_), (Below.refl _ _).alloc (Nat.le_refl _) _⟩
      have q := withB_not.1 hw
      rw [okE_1]
      refine ⟨fun hq => ?_, fun hq => ?_⟩ <;> (try simp only [Bool.false_eq_true, true_and] at hq ⊢) <;> omega
    | true =>
      go_enter Try.func26, Try.ntmps26
      go_wp2_with (first | (go_at_call 23; refine (within_any _ _ _ _).mono ?_; rintro e w1 ⟨rfl, rfl⟩) | (go_at_call 34; refine (prim_any _ _).mono ?_; rintro e w1 ⟨rfl, rfl⟩))
      go_ret
      refine ⟨ret_bool (eq_of_iff ?_), (Below.refl _ _).alloc (Nat.le_refl _) _⟩
      have q := withB_iff.1 hw
      rw [okE_1]
      refine ⟨fun hq => ?_, fun hq => ?_⟩ <;> (try simp only [beq_iff_eq, true_and] at hq ⊢) <;> omega
  · have eb : (b == 0) = false := by simpa using hb
    have eb2 : (b != 0) = true := by simpa using hb
    go_enter Try.func26, Try.ntmps26
    go_wp2_with (first | (go_at_call 23; refine (within_any _ _ _ _).mono ?_; rintro e w1 ⟨rfl, rfl⟩) | (go_at_call 34; refine (prim_any _ _).mono ?_; rintro e w1 ⟨rfl, rfl⟩))
    go_ret
    refine ⟨ret_bool (eq_of_iff ?_), (Below.refl _ _).alloc (Nat.le_refl _) _⟩
    rw [okE_1]
    refine ⟨fun hq => ?_, fun hq => ?_⟩ <;> (try simp only [Bool.false_eq_true] at hq ⊢) <;> omega
set_option maxHeartbeats 800000 in
theorem kinds_1 (m b t : Int) (g : Option Addr) (n c : Nat) (w : World) (ht0 : -1 ≤ t) (ht8 : t ≤ 8) :
    Calls Try.prog 29 #[.agg #[.int .i64 1, .int .i64 m, .int .i64 b, .slice g n c], .int .i64 t] w fun e w' => e = .returned (.bool (okE 1 m b n t)) ∧ Below w.heap.size w w' := by
  by_cases hb : b = 0
  · subst hb
    by_cases hn : (n : Int) = 0
    · have en : ((n : Int) == 0) = true := by rw [hn]; rfl
      go_enter Try.func29, Try.ntmps29
      go_wp2_with (first | (go_at_call 20; refine (upto_any _ _ _ _).mono ?_; rintro e w1 ⟨rfl, rfl⟩) | (go_at_call 36; refine (nummay_any _ _).mono ?_; rintro e w1 ⟨rfl, rfl⟩))
      go_ret
      refine ⟨ret_bool (eq_of_iff ?_), (Below.refl _ _).alloc (Nat.le_refl _) _⟩
      rw [okE_1]
      refine ⟨fun hq => ?_, fun hq => ?_⟩ <;> (try simp only [withB_iff, true_and] at hq ⊢) <;> omega
    · have en : ((n : Int) == 0) = false := by rw [beq_eq_false_iff_ne]; exact hn
      go_enter Try.func29, Try.ntmps29
      go_wp2_with (first | (go_at_call 20; refine (upto_any _ _ _ _).mono ?_; rintro e w1 ⟨rfl, rfl⟩) | (go_at_call 36; refine (nummay_any _ _).mono ?_; rintro e w1 ⟨rfl, rfl⟩))
      go_ret
      refine ⟨ret_bool (eq_of_iff ?_), (Below.refl _ _).alloc (Nat.le_refl _) _⟩
      rw [okE_1]
      refine ⟨fun hq => ?_, fun hq => ?_⟩ <;> (try simp only [Bool.false_eq_true, true_and] at hq ⊢) <;> omega
  · have eb : (b == 0) = false := by simpa using hb
    have eb2 : (b != 0) = true := by simpa using hb
    go_enter Try.func29, Try.ntmps29
    go_wp2_with (first | (go_at_call 20; refine (upto_any _ _ _ _).mono ?_; rintro e w1 ⟨rfl, rfl⟩) | (go_at_call 36; refine (nummay_any _ _).mono ?_; rintro e w1 ⟨rfl, rfl⟩))
    go_ret
    refine ⟨ret_bool (eq_of_iff ?_), (Below.refl _ _).alloc (Nat.le_refl _) _⟩
    rw [okE_1]
    refine ⟨fun hq => ?_, fun hq => ?_⟩ <;> (try simp only [Bool.false_eq_true] at hq ⊢) <;> omega
set_option maxHeartbeats 800000 in
theorem fits_2 (m b t : Int) (g : Option Addr) (n c : Nat) (w : World) (ht0 : -1 ≤ t) (ht8 : t ≤ 8) :
    Calls Try.prog 26 #[.agg #[.int .i64 2, .int .i64 m, .int .i64 b, .slice g n c], .int .i64 t] w fun e w' => e = .returned (.bool (okE 2 m b n t)) ∧ Below w.heap.size w w' := by
  by_cases hb : b = 0
  · subst hb
    cases hw : withB m 0 7 with
    | false =>
      go_enter Try.func26, Try.ntmps26
      go_wp2_with (first | (go_at_call 23; refine (within_any _ _ _ _).mono ?_; rintro e w1 ⟨rfl, rfl⟩) | (go_at_call 34; refine (prim_any _ _).mono ?_; rintro e w1 ⟨rfl, rfl⟩))
      go_ret
      refine ⟨ret_bool (eq_of_iff ?_), (Below.refl _ _).alloc (Nat.le_refl _) _⟩
      have q := withB_not.1 hw
      rw [okE_2]
      refine ⟨fun hq => ?_, fun hq => ?_⟩ <;> (try simp only [Bool.false_eq_true, true_and] at hq ⊢) <;> omega
    | true =>
      go_enter Try.func26, Try.ntmps26
      go_wp2_with (first | (go_at_call 23; refine (within_any _ _ _ _).mono ?_; rintro e w1 ⟨rfl, rfl⟩) | (go_at_call 34; refine (prim_any _ _).mono ?_; rintro e w1 ⟨rfl, rfl⟩))
      go_ret
      refine ⟨ret_bool (eq_of_iff ?_), (Below.refl _ _).alloc (Nat.le_refl _) _⟩
      have q := withB_iff.1 hw
      rw [okE_2]
      refine ⟨fun hq => ?_, fun hq => ?_⟩ <;> (try simp only [decide_eq_true_eq, true_and] at hq ⊢) <;> omega
  · have eb : (b == 0) = false := by simpa using hb
    have eb2 : (b != 0) = true := by simpa using hb
    go_enter Try.func26, Try.ntmps26
    go_wp2_with (first | (go_at_call 23; refine (within_any _ _ _ _).mono ?_; rintro e w1 ⟨rfl, rfl⟩) | (go_at_call 34; refine (prim_any _ _).mono ?_; rintro e w1 ⟨rfl, rfl⟩))
    go_ret
    refine ⟨ret_bool (eq_of_iff ?_), (Below.refl _ _).alloc (Nat.le_refl _) _⟩
    rw [okE_2]
    refine ⟨fun hq => ?_, fun hq => ?_⟩ <;> (try simp only [Bool.false_eq_true] at hq ⊢) <;> omega
set_option maxHeartbeats 800000 in
theorem kinds_2 (m b t : Int) (g : Option Addr) (n c : Nat) (w : World) (ht0 : -1 ≤ t) (ht8 : t ≤ 8) :
    Calls Try.prog 29 #[.agg #[.int .i64 2, .int .i64 m, .int .i64 b, .slice g n c], .int .i64 t] w fun e w' => e = .returned (.bool (okE 2 m b n t)) ∧ Below w.heap.size w w' := by
  by_cases hb : b = 0
  · subst hb
    by_cases hn : (n : Int) ≤ 3
    · have en : decide ((n : Int) ≤ 3) = true := decide_eq_true hn
      go_enter Try.func29, Try.ntmps29
      go_wp2_with (first | (go_at_call 20; refine (upto_any _ _ _ _).mono ?_; rintro e w1 ⟨rfl, rfl⟩) | (go_at_call 36; refine (nummay_any _ _).mono ?_; rintro e w1 ⟨rfl, rfl⟩))
      go_ret
      refine ⟨ret_bool (eq_of_iff ?_), (Below.refl _ _).alloc (Nat.le_refl _) _⟩
      rw [okE_2]
      refine ⟨fun hq => ?_, fun hq => ?_⟩ <;> (try simp only [withB_iff, true_and] at hq ⊢) <;> omega
    · have en : decide ((n : Int) ≤ 3) = false := decide_eq_false hn
      go_enter Try.func29, Try.ntmps29
      go_wp2_with (first | (go_at_call 20; refine (upto_any _ _ _ _).mono ?_; rintro e w1 ⟨rfl, rfl⟩) | (go_at_call 36; refine (nummay_any _ _).mono ?_; rintro e w1 ⟨rfl, rfl⟩))
      go_ret
      refine ⟨ret_bool (eq_of_iff ?_), (Below.refl _ _).alloc (Nat.le_refl _) _⟩
      rw [okE_2]
      refine ⟨fun hq => ?_, fun hq => ?_⟩ <;> (try simp only [Bool.false_eq_true, true_and] at hq ⊢) <;> omega
  · have eb : (b == 0) = false := by simpa using hb
    have eb2 : (b != 0) = true := by simpa using hb
    go_enter Try.func29, Try.ntmps29
    go_wp2_with (first | (go_at_call 20; refine (upto_any _ _ _ _).mono ?_; rintro e w1 ⟨rfl, rfl⟩) | (go_at_call 36; refine (nummay_any _ _).mono ?_; rintro e w1 ⟨rfl, rfl⟩))
    go_ret
    refine ⟨ret_bool (eq_of_iff ?_), (Below.refl _ _).alloc (Nat.le_refl _) _⟩
    rw [okE_2]
    refine ⟨fun hq => ?_, fun hq => ?_⟩ <;> (try simp only [Bool.false_eq_true] at hq ⊢) <;> omega
set_option maxHeartbeats 800000 in
theorem fits_3 (m b t : Int) (g : Option Addr) (n c : Nat) (w : World) (ht0 : -1 ≤ t) (ht8 : t ≤ 8) :
    Calls Try.prog 26 #[.agg #[.int .i64 3, .int .i64 m, .int .i64 b, .slice g n c], .int .i64 t] w fun e w' => e = .returned (.bool (okE 3 m b n t)) ∧ Below w.heap.size w w' := by
  by_cases hb : b = 0
  · subst hb
    cases hw : withB m 0 99 with
    | false =>
      go_enter Try.func26, Try.ntmps26
      go_wp2_with (first | (go_at_call 23; refine (within_any _ _ _ _).mono ?_; rintro e w1 ⟨rfl, rfl⟩) | (go_at_call 34; refine (prim_any _ _).mono ?_; rintro e w1 ⟨rfl, rfl⟩))
      go_ret
      refine ⟨ret_bool (eq_of_iff ?_), (Below.refl _ _).alloc (Nat.le_refl _) _⟩
      have q := withB_not.1 hw
      rw [okE_3]
      refine ⟨fun hq => ?_, fun hq => ?_⟩ <;> (try simp only [Bool.false_eq_true, true_and] at hq ⊢) <;> omega
    | true =>
      go_enter Try.func26, Try.ntmps26
      go_wp2_with (first | (go_at_call 23; refine (within_any _ _ _ _).mono ?_; rintro e w1 ⟨rfl, rfl⟩) | (go_at_call 34; refine (prim_any _ _).mono ?_; rintro e w1 ⟨rfl, rfl⟩))
      go_ret
      refine ⟨ret_bool (eq_of_iff ?_), (Below.refl _ _).alloc (Nat.le_refl _) _⟩
      have q := withB_iff.1 hw
      rw [okE_3]
      refine ⟨fun hq => ?_, fun hq => ?_⟩ <;> (try simp only [decide_eq_true_eq, true_and] at hq ⊢) <;> omega
  · have eb : (b == 0) = false := by simpa using hb
    have eb2 : (b != 0) = true := by simpa using hb
    go_enter Try.func26, Try.ntmps26
    go_wp2_with (first | (go_at_call 23; refine (within_any _ _ _ _).mono ?_; rintro e w1 ⟨rfl, rfl⟩) | (go_at_call 34; refine (prim_any _ _).mono ?_; rintro e w1 ⟨rfl, rfl⟩))
    go_ret
    refine ⟨ret_bool (eq_of_iff ?_), (Below.refl _ _).alloc (Nat.le_refl _) _⟩
    rw [okE_3]
    refine ⟨fun hq => ?_, fun hq => ?_⟩ <;> (try simp only [Bool.false_eq_true] at hq ⊢) <;> omega
set_option maxHeartbeats 800000 in
theorem kinds_3 (m b t : Int) (g : Option Addr) (n c : Nat) (w : World) (ht0 : -1 ≤ t) (ht8 : t ≤ 8) :
    Calls Try.prog 29 #[.agg #[.int .i64 3, .int .i64 m, .int .i64 b, .slice g n c], .int .i64 t] w fun e w' => e = .returned (.bool (okE 3 m b n t)) ∧ Below w.heap.size w w' := by
  by_cases hb : b = 0
  · subst hb
    by_cases hn : (n : Int) ≤ 3
    · have en : decide ((n : Int) ≤ 3) = true := decide_eq_true hn
      go_enter Try.func29, Try.ntmps29
      go_wp2_with (first | (go_at_call 20; refine (upto_any _ _ _ _).mono ?_; rintro e w1 ⟨rfl, rfl⟩) | (go_at_call 36; refine (nummay_any _ _).mono ?_; rintro e w1 ⟨rfl, rfl⟩))
      go_ret
      refine ⟨ret_bool (eq_of_iff ?_), (Below.refl _ _).alloc (Nat.le_refl _) _⟩
      rw [okE_3]
      refine ⟨fun hq => ?_, fun hq => ?_⟩ <;> (try simp only [withB_iff, true_and] at hq ⊢) <;> omega
    · have en : decide ((n : Int) ≤ 3) = false := decide_eq_false hn
      go_enter Try.func29, Try.ntmps29
      go_wp2_with (first | (go_at_call 20; refine (upto_any _ _ _ _).mono ?_; rintro e w1 ⟨rfl, rfl⟩) | (go_at_call 36; refine (nummay_any _ _).mono ?_; rintro e w1 ⟨rfl, rfl⟩))
      go_ret
      refine ⟨ret_bool (eq_of_iff ?_), (Below.refl _ _).alloc (Nat.le_refl _) _⟩
      rw [okE_3]
      refine ⟨fun hq => ?_, fun hq => ?_⟩ <;> (try simp only [Bool.false_eq_true, true_and] at hq ⊢) <;> omega
  · have eb : (b == 0) = false := by simpa using hb
    have eb2 : (b != 0) = true := by simpa using hb
    go_enter Try.func29, Try.ntmps29
    go_wp2_with (first | (go_at_call 20; refine (upto_any _ _ _ _).mono ?_; rintro e w1 ⟨rfl, rfl⟩) | (go_at_call 36; refine (nummay_any _ _).mono ?_; rintro e w1 ⟨rfl, rfl⟩))
    go_ret
    refine ⟨ret_bool (eq_of_iff ?_), (Below.refl _ _).alloc (Nat.le_refl _) _⟩
    rw [okE_3]
    refine ⟨fun hq => ?_, fun hq => ?_⟩ <;> (try simp only [Bool.false_eq_true] at hq ⊢) <;> omega
set_option maxHeartbeats 800000 in
theorem fits_4 (m b t : Int) (g : Option Addr) (n c : Nat) (w : World) (ht0 : -1 ≤ t) (ht8 : t ≤ 8) :
    Calls Try.prog 26 #[.agg #[.int .i64 4, .int .i64 m, .int .i64 b, .slice g n c], .int .i64 t] w fun e w' => e = .returned (.bool (okE 4 m b n t)) ∧ Below w.heap.size w w' := by
  by_cases hb : b = 0
  · subst hb
    cases hw : withB m 0 4 with
    | false =>
      go_enter Try.func26, Try.ntmps26
      go_wp2_with (first | (go_at_call 23; refine (within_any _ _ _ _).mono ?_; rintro e w1 ⟨rfl, rfl⟩) | (go_at_call 34; refine (prim_any _ _).mono ?_; rintro e w1 ⟨rfl, rfl⟩))
      go_ret
      refine ⟨ret_bool (eq_of_iff ?_), (Below.refl _ _).alloc (Nat.le_refl _) _⟩
      have q := withB_not.1 hw
      rw [okE_4]
      refine ⟨fun hq => ?_, fun hq => ?_⟩ <;> (try simp only [Bool.false_eq_true, true_and] at hq ⊢) <;> omega
    | true =>
      go_enter Try.func26, Try.ntmps26
      go_wp2_with (first | (go_at_call 23; refine (within_any _ _ _ _).mono ?_; rintro e w1 ⟨rfl, rfl⟩) | (go_at_call 34; refine (prim_any _ _).mono ?_; rintro e w1 ⟨rfl, rfl⟩))
      go_ret
      refine ⟨ret_bool (eq_of_iff ?_), (Below.refl _ _).alloc (Nat.le_refl _) _⟩
      have q := withB_iff.1 hw
      rw [okE_4]
      refine ⟨fun hq => ?_, fun hq => ?_⟩ <;> (try simp only [beq_iff_eq, true_and] at hq ⊢) <;> omega
  · have eb : (b == 0) = false := by simpa using hb
    have eb2 : (b != 0) = true := by simpa using hb
    go_enter Try.func26, Try.ntmps26
    go_wp2_with (first | (go_at_call 23; refine (within_any _ _ _ _).mono ?_; rintro e w1 ⟨rfl, rfl⟩) | (go_at_call 34; refine (prim_any _ _).mono ?_; rintro e w1 ⟨rfl, rfl⟩))
    go_ret
    refine ⟨ret_bool (eq_of_iff ?_), (Below.refl _ _).alloc (Nat.le_refl _) _⟩
    rw [okE_4]
    refine ⟨fun hq => ?_, fun hq => ?_⟩ <;> (try simp only [Bool.false_eq_true] at hq ⊢) <;> omega
set_option maxHeartbeats 800000 in
theorem kinds_4 (m b t : Int) (g : Option Addr) (n c : Nat) (w : World) (ht0 : -1 ≤ t) (ht8 : t ≤ 8) :
    Calls Try.prog 29 #[.agg #[.int .i64 4, .int .i64 m, .int .i64 b, .slice g n c], .int .i64 t] w fun e w' => e = .returned (.bool (okE 4 m b n t)) ∧ Below w.heap.size w w' := by
  by_cases hb : b = 0
  · subst hb
    by_cases hn : (n : Int) = 2
    · have en : ((n : Int) == 2) = true := by rw [hn]; rfl
      go_enter Try.func29, Try.ntmps29
      go_wp2_with (first | (go_at_call 20; refine (upto_any _ _ _ _).mono ?_; rintro e w1 ⟨rfl, rfl⟩) | (go_at_call 36; refine (nummay_any _ _).mono ?_; rintro e w1 ⟨rfl, rfl⟩))
      go_ret
      refine ⟨ret_bool (eq_of_iff ?_), (Below.refl _ _).alloc (Nat.le_refl _) _⟩
      rw [okE_4]
      refine ⟨fun hq => ?_, fun hq => ?_⟩ <;> (try simp only [withB_iff, true_and] at hq ⊢) <;> omega
    · have en : ((n : Int) == 2) = false := by rw [beq_eq_false_iff_ne]; exact hn
      go_enter Try.func29, Try.ntmps29
      go_wp2_with (first | (go_at_call 20; refine (upto_any _ _ _ _).mono ?_; rintro e w1 ⟨rfl, rfl⟩) | (go_at_call 36; refine (nummay_any _ _).mono ?_; rintro e w1 ⟨rfl, rfl⟩))
      go_ret
      refine ⟨ret_bool (eq_of_iff ?_), (Below.refl _ _).alloc (Nat.le_refl _) _⟩
      rw [okE_4]
      refine ⟨fun hq => ?_, fun hq => ?_⟩ <;> (try simp only [Bool.false_eq_true, true_and] at hq ⊢) <;> omega
  · have eb : (b == 0) = false := by simpa using hb
    have eb2 : (b != 0) = true := by simpa using hb
    go_enter Try.func29, Try.ntmps29
    go_wp2_with (first | (go_at_call 20; refine (upto_any _ _ _ _).mono ?_; rintro e w1 ⟨rfl, rfl⟩) | (go_at_call 36; refine (nummay_any _ _).mono ?_; rintro e w1 ⟨rfl, rfl⟩))
    go_ret
    refine ⟨ret_bool (eq_of_iff ?_), (Below.refl _ _).alloc (Nat.le_refl _) _⟩
    rw [okE_4]
    refine ⟨fun hq => ?_, fun hq => ?_⟩ <;> (try simp only [Bool.false_eq_true] at hq ⊢) <;> omega
set_option maxHeartbeats 800000 in
theorem fits_5 (m b t : Int) (g : Option Addr) (n c : Nat) (w : World) (ht0 : -1 ≤ t) (ht8 : t ≤ 8) :
    Calls Try.prog 26 #[.agg #[.int .i64 5, .int .i64 m, .int .i64 b, .slice g n c], .int .i64 t] w fun e w' => e = .returned (.bool (okE 5 m b n t)) ∧ Below w.heap.size w w' := by
  cases hw : withB m 0 99 with
  | false =>
    go_enter Try.func26, Try.ntmps26
    go_wp2_with (first | (go_at_call 23; refine (within_any _ _ _ _).mono ?_; rintro e w1 ⟨rfl, rfl⟩) | (go_at_call 34; refine (prim_any _ _).mono ?_; rintro e w1 ⟨rfl, rfl⟩))
    go_ret
    refine ⟨ret_bool (eq_of_iff ?_), (Below.refl _ _).alloc (Nat.le_refl _) _⟩
    have q := withB_not.1 hw
    rw [okE_5]
    refine ⟨fun hq => ?_, fun hq => ?_⟩ <;> (try simp only [Bool.false_eq_true] at hq ⊢) <;> omega
  | true =>
    cases hv : withB b 0 3 with
    | false =>
      go_enter Try.func26, Try.ntmps26
      go_wp2_with (first | (go_at_call 23; refine (within_any _ _ _ _).mono ?_; rintro e w1 ⟨rfl, rfl⟩) | (go_at_call 34; refine (prim_any _ _).mono ?_; rintro e w1 ⟨rfl, rfl⟩))
      go_ret
      refine ⟨ret_bool (eq_of_iff ?_), (Below.refl _ _).alloc (Nat.le_refl _) _⟩
      have q := withB_not.1 hv
      rw [okE_5]
      refine ⟨fun hq => ?_, fun hq => ?_⟩ <;> (try simp only [Bool.false_eq_true] at hq ⊢) <;> omega
    | true =>
      go_enter Try.func26, Try.ntmps26
      go_wp2_with (first | (go_at_call 23; refine (within_any _ _ _ _).mono ?_; rintro e w1 ⟨rfl, rfl⟩) | (go_at_call 34; refine (prim_any _ _).mono ?_; rintro e w1 ⟨rfl, rfl⟩))
      go_ret
      refine ⟨ret_bool (eq_of_iff ?_), (Below.refl _ _).alloc (Nat.le_refl _) _⟩
      have q := withB_iff.1 hw
      have q2 := withB_iff.1 hv
      rw [okE_5]
      refine ⟨fun hq => ?_, fun hq => ?_⟩ <;> (try simp only [beq_iff_eq] at hq ⊢) <;> omega
set_option maxHeartbeats 800000 in
theorem kinds_5 (m b t : Int) (g : Option Addr) (n c : Nat) (w : World) (ht0 : -1 ≤ t) (ht8 : t ≤ 8) :
    Calls Try.prog 29 #[.agg #[.int .i64 5, .int .i64 m, .int .i64 b, .slice g n c], .int .i64 t] w fun e w' => e = .returned (.bool (okE 5 m b n t)) ∧ Below w.heap.size w w' := by
  by_cases hn : (n : Int) = 3
  · have en : ((n : Int) == 3) = true := by rw [hn]; rfl
    cases hw : withB m 0 99 with
    | false =>
      go_enter Try.func29, Try.ntmps29
      go_wp2_with (first | (go_at_call 20; refine (upto_any _ _ _ _).mono ?_; rintro e w1 ⟨rfl, rfl⟩) | (go_at_call 36; refine (nummay_any _ _).mono ?_; rintro e w1 ⟨rfl, rfl⟩))
      go_ret
      refine ⟨ret_bool (eq_of_iff ?_), (Below.refl _ _).alloc (Nat.le_refl _) _⟩
      have q := withB_not.1 hw
      rw [okE_5]
      refine ⟨fun hq => ?_, fun hq => ?_⟩ <;> (try simp only [Bool.false_eq_true] at hq ⊢) <;> omega
    | true =>
      go_enter Try.func29, Try.ntmps29
      go_wp2_with (first | (go_at_call 20; refine (upto_any _ _ _ _).mono ?_; rintro e w1 ⟨rfl, rfl⟩) | (go_at_call 36; refine (nummay_any _ _).mono ?_; rintro e w1 ⟨rfl, rfl⟩))
      go_ret
      refine ⟨ret_bool (eq_of_iff ?_), (Below.refl _ _).alloc (Nat.le_refl _) _⟩
      have q := withB_iff.1 hw
      rw [okE_5]
      refine ⟨fun hq => ?_, fun hq => ?_⟩ <;> (try simp only [withB_iff] at hq ⊢) <;> omega
  · have en : ((n : Int) == 3) = false := by rw [beq_eq_false_iff_ne]; exact hn
    go_enter Try.func29, Try.ntmps29
    go_wp2_with (first | (go_at_call 20; refine (upto_any _ _ _ _).mono ?_; rintro e w1 ⟨rfl, rfl⟩) | (go_at_call 36; refine (nummay_any _ _).mono ?_; rintro e w1 ⟨rfl, rfl⟩))
    go_ret
    refine ⟨ret_bool (eq_of_iff ?_), (Below.refl _ _).alloc (Nat.le_refl _) _⟩
    rw [okE_5]
    refine ⟨fun hq => ?_, fun hq => ?_⟩ <;> (try simp only [Bool.false_eq_true] at hq ⊢) <;> omega
set_option maxHeartbeats 800000 in
theorem fits_6 (m b t : Int) (g : Option Addr) (n c : Nat) (w : World) (ht0 : -1 ≤ t) (ht8 : t ≤ 8) :
    Calls Try.prog 26 #[.agg #[.int .i64 6, .int .i64 m, .int .i64 b, .slice g n c], .int .i64 t] w fun e w' => e = .returned (.bool (okE 6 m b n t)) ∧ Below w.heap.size w w' := by
  by_cases hb : b = 0
  · subst hb
    by_cases hm : m = 0
    · subst hm
      go_enter Try.func26, Try.ntmps26
      go_wp2
      go_ret
      refine ⟨ret_bool (eq_of_iff ?_), (Below.refl _ _).alloc (Nat.le_refl _) _⟩
      rw [okE_6]
      refine ⟨fun hq => ?_, fun hq => ?_⟩ <;> (try simp only [beq_iff_eq, true_and] at hq ⊢) <;> omega
    · have em : (m == 0) = false := by simpa using hm
      go_enter Try.func26, Try.ntmps26
      go_wp2
      go_ret
      refine ⟨ret_bool (eq_of_iff ?_), (Below.refl _ _).alloc (Nat.le_refl _) _⟩
      rw [okE_6]
      refine ⟨fun hq => ?_, fun hq => ?_⟩ <;> (try simp only [Bool.false_eq_true, true_and] at hq ⊢) <;> omega
  · have eb : (b == 0) = false := by simpa using hb
    have eb2 : (b != 0) = true := by simpa using hb
    go_enter Try.func26, Try.ntmps26
    go_wp2_with (first | (go_at_call 23; refine (within_any _ _ _ _).mono ?_; rintro e w1 ⟨rfl, rfl⟩) | (go_at_call 34; refine (prim_any _ _).mono ?_; rintro e w1 ⟨rfl, rfl⟩))
    go_ret
    refine ⟨ret_bool (eq_of_iff ?_), (Below.refl _ _).alloc (Nat.le_refl _) _⟩
    rw [okE_6]
    refine ⟨fun hq => ?_, fun hq => ?_⟩ <;> (try simp only [Bool.false_eq_true] at hq ⊢) <;> omega
set_option maxHeartbeats 800000 in
theorem kinds_6 (m b t : Int) (g : Option Addr) (n c : Nat) (w : World) (ht0 : -1 ≤ t) (ht8 : t ≤ 8) :
    Calls Try.prog 29 #[.agg #[.int .i64 6, .int .i64 m, .int .i64 b, .slice g n c], .int .i64 t] w fun e w' => e = .returned (.bool (okE 6 m b n t)) ∧ Below w.heap.size w w' := by
  by_cases hb : b = 0
  · subst hb
    by_cases hn : (n : Int) = 2
    · have en : ((n : Int) == 2) = true := by rw [hn]; rfl
      go_enter Try.func29, Try.ntmps29
      go_wp2
      go_ret
      refine ⟨ret_bool (eq_of_iff ?_), (Below.refl _ _).alloc (Nat.le_refl _) _⟩
      rw [okE_6]
      refine ⟨fun hq => ?_, fun hq => ?_⟩ <;> (try simp only [beq_iff_eq, true_and] at hq ⊢) <;> omega
    · have en : ((n : Int) == 2) = false := by rw [beq_eq_false_iff_ne]; exact hn
      go_enter Try.func29, Try.ntmps29
      go_wp2
      go_ret
      refine ⟨ret_bool (eq_of_iff ?_), (Below.refl _ _).alloc (Nat.le_refl _) _⟩
      rw [okE_6]
      refine ⟨fun hq => ?_, fun hq => ?_⟩ <;> (try simp only [Bool.false_eq_true, true_and] at hq ⊢) <;> omega
  · have eb : (b == 0) = false := by simpa using hb
    have eb2 : (b != 0) = true := by simpa using hb
    go_enter Try.func29, Try.ntmps29
    go_wp2
    go_ret
    refine ⟨ret_bool (eq_of_iff ?_), (Below.refl _ _).alloc (Nat.le_refl _) _⟩
    rw [okE_6]
    refine ⟨fun hq => ?_, fun hq => ?_⟩ <;> (try simp only [Bool.false_eq_true] at hq ⊢) <;> omega
set_option maxHeartbeats 800000 in
theorem fits_7 (m b t : Int) (g : Option Addr) (n c : Nat) (w : World) (ht0 : -1 ≤ t) (ht8 : t ≤ 8) :
    Calls Try.prog 26 #[.agg #[.int .i64 7, .int .i64 m, .int .i64 b, .slice g n c], .int .i64 t] w fun e w' => e = .returned (.bool (okE 7 m b n t)) ∧ Below w.heap.size w w' := by
  by_cases hb : b = 0
  · subst hb
    by_cases hm : m = 0
    · subst hm
      go_enter Try.func26, Try.ntmps26
      go_wp2
      go_ret
      refine ⟨ret_bool (eq_of_iff ?_), (Below.refl _ _).alloc (Nat.le_refl _) _⟩
      rw [okE_7]
      refine ⟨fun hq => ?_, fun hq => ?_⟩ <;> (try simp only [beq_iff_eq, true_and] at hq ⊢) <;> omega
    · have em : (m == 0) = false := by simpa using hm
      go_enter Try.func26, Try.ntmps26
      go_wp2
      go_ret
      refine ⟨ret_bool (eq_of_iff ?_), (Below.refl _ _).alloc (Nat.le_refl _) _⟩
      rw [okE_7]
      refine ⟨fun hq => ?_, fun hq => ?_⟩ <;> (try simp only [Bool.false_eq_true, true_and] at hq ⊢) <;> omega
  · have eb : (b == 0) = false := by simpa using hb
    have eb2 : (b != 0) = true := by simpa using hb
    go_enter Try.func26, Try.ntmps26
    go_wp2_with (first | (go_at_call 23; refine (within_any _ _ _ _).mono ?_; rintro e w1 ⟨rfl, rfl⟩) | (go_at_call 34; refine (prim_any _ _).mono ?_; rintro e w1 ⟨rfl, rfl⟩))
    go_ret
    refine ⟨ret_bool (eq_of_iff ?_), (Below.refl _ _).alloc (Nat.le_refl _) _⟩
    rw [okE_7]
    refine ⟨fun hq => ?_, fun hq => ?_⟩ <;> (try simp only [Bool.false_eq_true] at hq ⊢) <;> omega
set_option maxHeartbeats 800000 in
theorem kinds_7 (m b t : Int) (g : Option Addr) (n c : Nat) (w : World) (ht0 : -1 ≤ t) (ht8 : t ≤ 8) :
    Calls Try.prog 29 #[.agg #[.int .i64 7, .int .i64 m, .int .i64 b, .slice g n c], .int .i64 t] w fun e w' => e = .returned (.bool (okE 7 m b n t)) ∧ Below w.heap.size w w' := by
  by_cases hb : b = 0
  · subst hb
    by_cases hn : (n : Int) = 0
    · have en : ((n : Int) == 0) = true := by rw [hn]; rfl
      go_enter Try.func29, Try.ntmps29
      go_wp2
      go_ret
      refine ⟨ret_bool (eq_of_iff ?_), (Below.refl _ _).alloc (Nat.le_refl _) _⟩
      rw [okE_7]
      refine ⟨fun hq => ?_, fun hq => ?_⟩ <;> (try simp only [beq_iff_eq, true_and] at hq ⊢) <;> omega
    · have en : ((n : Int) == 0) = false := by rw [beq_eq_false_iff_ne]; exact hn
      go_enter Try.func29, Try.ntmps29
      go_wp2
      go_ret
      refine ⟨ret_bool (eq_of_iff ?_), (Below.refl _ _).alloc (Nat.le_refl _) _⟩
      rw [okE_7]
      refine ⟨fun hq => ?_, fun hq => ?_⟩ <;> (try simp only [Bool.false_eq_true, true_and] at hq ⊢) <;> omega
  · have eb : (b == 0) = false := by simpa using hb
    have eb2 : (b != 0) = true := by simpa using hb
    go_enter Try.func29, Try.ntmps29
    go_wp2
    go_ret
    refine ⟨ret_bool (eq_of_iff ?_), (Below.refl _ _).alloc (Nat.le_refl _) _⟩
    rw [okE_7]
    refine ⟨fun hq => ?_, fun hq => ?_⟩ <;> (try simp only [Bool.false_eq_true] at hq ⊢) <;> omega
set_option maxHeartbeats 1600000 in
theorem fits_else (k m b t : Int) (g : Option Addr) (n c : Nat) (w : World) (h : ¬ (0 ≤ k ∧ k ≤ 7)) :
    Calls Try.prog 26 #[.agg #[.int .i64 k, .int .i64 m, .int .i64 b, .slice g n c], .int .i64 t] w fun e w' => e = .returned (.bool (okE k m b n t)) ∧ Below w.heap.size w w' := by
  have ho := okE_else k m b n t h
  rw [ho]
  clear ho
  have e0 : (k == 0) = false := by rw [beq_eq_false_iff_ne]; omega
  have e1 : (k == 1) = false := by rw [beq_eq_false_iff_ne]; omega
  have e2 : (k == 2) = false := by rw [beq_eq_false_iff_ne]; omega
  have e3 : (k == 3) = false := by rw [beq_eq_false_iff_ne]; omega
  have e4 : (k == 4) = false := by rw [beq_eq_false_iff_ne]; omega
  have e5 : (k == 5) = false := by rw [beq_eq_false_iff_ne]; omega
  have e6 : (k == 6) = false := by rw [beq_eq_false_iff_ne]; omega
  have e7 : (k == 7) = false := by rw [beq_eq_false_iff_ne]; omega
  have e9 : (k != 5) = true := by rw [bne_iff_ne]; omega
  clear h
  by_cases hb : b = 0
  · subst hb
    go_enter Try.func26, Try.ntmps26
    go_wp2
    go_ret
    exact ⟨rfl, (Below.refl _ _).alloc (Nat.le_refl _) _⟩
  · have eb : (b == 0) = false := by simpa using hb
    have eb2 : (b != 0) = true := by simpa using hb
    go_enter Try.func26, Try.ntmps26
    go_wp2
    go_ret
    exact ⟨rfl, (Below.refl _ _).alloc (Nat.le_refl _) _⟩
theorem fits_any (k m b t : Int) (g : Option Addr) (n c : Nat) (w : World) (ht0 : -1 ≤ t) (ht8 : t ≤ 8) :
    Calls Try.prog 26 #[.agg #[.int .i64 k, .int .i64 m, .int .i64 b, .slice g n c], .int .i64 t] w fun e w' => e = .returned (.bool (okE k m b n t)) ∧ Below w.heap.size w w' := by
  by_cases h : 0 ≤ k ∧ k ≤ 7
  · have hk : k = 0 ∨ k = 1 ∨ k = 2 ∨ k = 3 ∨ k = 4 ∨ k = 5 ∨ k = 6 ∨ k = 7 := by omega
    rcases hk with rfl | rfl | rfl | rfl | rfl | rfl | rfl | rfl
    · exact fits_0 m b t g n c w ht0 ht8
    · exact fits_1 m b t g n c w ht0 ht8
    · exact fits_2 m b t g n c w ht0 ht8
    · exact fits_3 m b t g n c w ht0 ht8
    · exact fits_4 m b t g n c w ht0 ht8
    · exact fits_5 m b t g n c w ht0 ht8
    · exact fits_6 m b t g n c w ht0 ht8
    · exact fits_7 m b t g n c w ht0 ht8
  · exact fits_else k m b t g n c w h
set_option maxHeartbeats 1600000 in
theorem kinds_else (k m b t : Int) (g : Option Addr) (n c : Nat) (w : World) (h : ¬ (0 ≤ k ∧ k ≤ 7)) :
    Calls Try.prog 29 #[.agg #[.int .i64 k, .int .i64 m, .int .i64 b, .slice g n c], .int .i64 t] w fun e w' => e = .returned (.bool (okE k m b n t)) ∧ Below w.heap.size w w' := by
  have ho := okE_else k m b n t h
  rw [ho]
  clear ho
  have e0 : (k == 0) = false := by rw [beq_eq_false_iff_ne]; omega
  have e1 : (k == 1) = false := by rw [beq_eq_false_iff_ne]; omega
  have e2 : (k == 2) = false := by rw [beq_eq_false_iff_ne]; omega
  have e3 : (k == 3) = false := by rw [beq_eq_false_iff_ne]; omega
  have e4 : (k == 4) = false := by rw [beq_eq_false_iff_ne]; omega
  have e5 : (k == 5) = false := by rw [beq_eq_false_iff_ne]; omega
  have e6 : (k == 6) = false := by rw [beq_eq_false_iff_ne]; omega
  have e7 : (k == 7) = false := by rw [beq_eq_false_iff_ne]; omega
  have e9 : (k != 5) = true := by rw [bne_iff_ne]; omega
  clear h
  by_cases hb : b = 0
  · subst hb
    go_enter Try.func29, Try.ntmps29
    go_wp2
    go_ret
    exact ⟨rfl, (Below.refl _ _).alloc (Nat.le_refl _) _⟩
  · have eb : (b == 0) = false := by simpa using hb
    have eb2 : (b != 0) = true := by simpa using hb
    go_enter Try.func29, Try.ntmps29
    go_wp2
    go_ret
    exact ⟨rfl, (Below.refl _ _).alloc (Nat.le_refl _) _⟩
theorem kinds_any (k m b t : Int) (g : Option Addr) (n c : Nat) (w : World) (ht0 : -1 ≤ t) (ht8 : t ≤ 8) :
    Calls Try.prog 29 #[.agg #[.int .i64 k, .int .i64 m, .int .i64 b, .slice g n c], .int .i64 t] w fun e w' => e = .returned (.bool (okE k m b n t)) ∧ Below w.heap.size w w' := by
  by_cases h : 0 ≤ k ∧ k ≤ 7
  · have hk : k = 0 ∨ k = 1 ∨ k = 2 ∨ k = 3 ∨ k = 4 ∨ k = 5 ∨ k = 6 ∨ k = 7 := by omega
    rcases hk with rfl | rfl | rfl | rfl | rfl | rfl | rfl | rfl
    · exact kinds_0 m b t g n c w ht0 ht8
    · exact kinds_1 m b t g n c w ht0 ht8
    · exact kinds_2 m b t g n c w ht0 ht8
    · exact kinds_3 m b t g n c w ht0 ht8
    · exact kinds_4 m b t g n c w ht0 ht8
    · exact kinds_5 m b t g n c w ht0 ht8
    · exact kinds_6 m b t g n c w ht0 ht8
    · exact kinds_7 m b t g n c w ht0 ht8
  · exact kinds_else k m b t g n c w h
end Go.Proofs.Ytiobjkmpeiohdaa
