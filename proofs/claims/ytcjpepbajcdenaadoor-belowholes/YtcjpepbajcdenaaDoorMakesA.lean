/- Kinds, numbers and parts of which no term is made: Make refuses them; what the walks of the statement share. -/
import Derived.Test.YtcjpepbajcdenaaDoorLaid
namespace Go.Proofs.YtcjpepbajcdenaaDoor.termMakes
open Go.ChangeShapes Go.WideShapes Go.ChangeAt Go.RowKit
set_option linter.unusedVariables false
theorem txts_one {W : World} {bk : Nat} {x : ByteArray} (h : bk < W.heap.size) (hc : W.cell? ⟨bk, 0, none⟩ = some (.string x)) : Txts W (some ⟨bk, 0, none⟩) [x] := by
  refine Or.inr ⟨bk, 0, rfl, h, fun j y hj => ?_⟩
  match j, hj with
  | 0, hj => have e : x = y := by simpa using hj
             subst e; exact hc
theorem txts_four {W : World} {bk : Nat} {x0 x1 x2 x3 : ByteArray} (h : bk < W.heap.size) (h0 : W.cell? ⟨bk, 0, none⟩ = some (.string x0)) (h1 : W.cell? ⟨bk, 1, none⟩ = some (.string x1))
    (h2 : W.cell? ⟨bk, 2, none⟩ = some (.string x2)) (h3 : W.cell? ⟨bk, 3, none⟩ = some (.string x3)) : Txts W (some ⟨bk, 0, none⟩) [x0, x1, x2, x3] := by
  refine Or.inr ⟨bk, 0, rfl, h, fun j y hj => ?_⟩
  match j, hj with
  | 0, hj => have e : x0 = y := by simpa using hj
             subst e; exact h0
  | 1, hj => have e : x1 = y := by simpa using hj
             subst e; exact h1
  | 2, hj => have e : x2 = y := by simpa using hj
             subst e; exact h2
  | 3, hj => have e : x3 = y := by simpa using hj
             subst e; exact h3

theorem may_no {x : Int} (h : x < -32768 ∨ 32767 < x) : mayB x = false := by
  unfold mayB; simp only [Bool.and_eq_false_iff, decide_eq_false_iff_not]; omega
theorem tag_no {x : Int} (h : x < 0 ∨ 99 < x) : tagB x = false := by
  unfold tagB; simp only [Bool.and_eq_false_iff, decide_eq_false_iff_not]; omega
theorem none_other {kd nm : Int} (kids : List (List UInt8)) (h : kd < 0 ∨ 3 < kd) : mk kd nm kids = none := mk_head_none kids (head_other nm (by omega) (by omega) (by omega) (by omega))
theorem none_hole {nm : Int} (kids : List (List UInt8)) (h : nm ≠ 0) : mk 0 nm kids = none := mk_head_none kids (by rw [head_zero, if_neg h])
theorem none_fail {nm : Int} (kids : List (List UInt8)) (h : nm ≠ 0) : mk 3 nm kids = none := mk_head_none kids (by rw [head_three, if_neg h])
theorem none_num {nm : Int} (kids : List (List UInt8)) (h : nm < -32768 ∨ 32767 < nm) : mk 1 nm kids = none := mk_head_none kids (by rw [head_one, may_no h]; rfl)
theorem none_con {nm : Int} (kids : List (List UInt8)) (h : nm < 0 ∨ 99 < nm) : mk 2 nm kids = none := mk_head_none kids (by rw [head_two, tag_no h]; rfl)
theorem none_kids {kd nm : Int} {kids : List (List UInt8)} (h : behind kd kids = false) : mk kd nm kids = none := by
  cases hh : head kd nm with
  | none => exact mk_head_none kids hh
  | some t => exact mk_behind_no hh h

/-- The last ten bits of an int. -/
theorem and_1023 (x : Int) : ∃ m : Int, bits .and .i64 x 1023 = m ∧ 0 ≤ m ∧ m ≤ 1023 := by
  refine ⟨x % 1024, ?_, by omega, by omega⟩
  have hb : (BitVec.ofInt 64 1023).toNat = 1023 := by decide
  have h : bits .and .i64 x 1023 = IntKind.i64.wrap (((BitVec.ofInt 64 x &&& BitVec.ofInt 64 1023).toNat : Nat) : Int) := rfl
  rw [h, BitVec.toNat_and, hb, BitVec.toNat_ofInt, show (1023 : Nat) = 2 ^ 10 - 1 from rfl, Nat.and_two_pow_sub_one_eq_mod, IntKind.wrap_i64]
  simp only [show ((2 : Nat) ^ 64) = 18446744073709551616 from rfl, show ((2 : Nat) ^ 10) = 1024 from rfl]
  omega
/-- The last four bits. -/
theorem and_15 (x : Int) : ∃ m : Nat, bits .and .i64 x 15 = (m : Int) ∧ m < 16 := by
  refine ⟨(x % 16).toNat, ?_, by omega⟩
  have hb : (BitVec.ofInt 64 15).toNat = 15 := by decide
  have h : bits .and .i64 x 15 = IntKind.i64.wrap (((BitVec.ofInt 64 x &&& BitVec.ofInt 64 15).toNat : Nat) : Int) := rfl
  rw [h, BitVec.toNat_and, hb, BitVec.toNat_ofInt, show (15 : Nat) = 2 ^ 4 - 1 from rfl, Nat.and_two_pow_sub_one_eq_mod, IntKind.wrap_i64]
  simp only [show ((2 : Nat) ^ 64) = 18446744073709551616 from rfl, show ((2 : Nat) ^ 4) = 16 from rfl]
  omega
end Go.Proofs.YtcjpepbajcdenaaDoor.termMakes
