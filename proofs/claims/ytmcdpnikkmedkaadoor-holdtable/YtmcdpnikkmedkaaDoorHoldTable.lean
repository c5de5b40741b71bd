/- sleuthlaw10.HoldTable returns true at every number: what is met and what is not, by hand. The condition is the card's own: the five listed tables and variables of Go's library read as the program's text lays them. -/
import Derived.Test.YtmcdpnikkmedkaaDoorMLaid
import Derived.Laws.OwnMore
import Derived.Laws.IdiomStrings
import Derived.Deep.OwnRows
import Derived.SizedLaws
import Derived.ChangeMaps5
import Derived.WalkKit
import Derived.ProofKit
import Derived.OpenShut
import Derived.Test.YtmcdpnikkmedkaaDoorHdTabA
import Derived.Test.YtmcdpnikkmedkaaDoorHdTabB
import Derived.Test.YtmcdpnikkmedkaaDoorHdTabC
import Derived.Test.YtmcdpnikkmedkaaDoorHdTabD
namespace Go.Proofs.YtmcdpnikkmedkaaDoor.holdTable
open Go.RowKit
set_option linter.unusedVariables false
theorem and_15H (x : Int) : ∃ m : Nat, bits .and .i64 x 15 = (m : Int) ∧ m < 16 := by
  obtain ⟨m, h1, h2, h3⟩ : ∃ m : Int, bits .and .i64 x 15 = m ∧ 0 ≤ m ∧ m ≤ 15 := by
    refine ⟨x % 16, ?_, by omega, by omega⟩
    have hb : (BitVec.ofInt 64 15).toNat = 15 := by decide
    have h : bits .and .i64 x 15 = IntKind.i64.wrap (((BitVec.ofInt 64 x &&& BitVec.ofInt 64 15).toNat : Nat) : Int) := rfl
    rw [h, BitVec.toNat_and, hb, BitVec.toNat_ofInt, show (15 : Nat) = 2 ^ 4 - 1 from rfl, Nat.and_two_pow_sub_one_eq_mod, IntKind.wrap_i64]
    simp only [show ((2 : Nat) ^ 64) = 18446744073709551616 from rfl, show ((2 : Nat) ^ 4) = 16 from rfl]
    omega
  exact ⟨m.toNat, by rw [h1]; omega, by omega⟩
theorem walk (a0 : Int) (w : World) (hw : Tm.Lw w) :
    Calls Tryd.prog 5 #[.int .i64 a0] w fun e w' => e = .returned (.bool true) ∧ Below w.heap.size w w' := by
  obtain ⟨m, hm, hlt⟩ := and_15H a0
  match m, hm, hlt with
  | 0, hm, _ => exact tab_0 a0 w hm hw
  | 1, hm, _ => exact tab_1 a0 w hm hw
  | 2, hm, _ => exact tab_2 a0 w hm hw
  | 3, hm, _ => exact tab_3 a0 w hm hw
  | 4, hm, _ => exact tab_4 a0 w hm hw
  | 5, hm, _ => exact tab_5 a0 w hm hw
  | 6, hm, _ => exact tab_6 a0 w hm hw
  | 7, hm, _ => exact tab_7 a0 w hm hw
  | 8, hm, _ => exact tab_8 a0 w hm hw
  | 9, hm, _ => exact tab_9 a0 w hm hw
  | 10, hm, _ => exact tab_10 a0 w hm hw
  | 11, hm, _ => exact tab_11 a0 w hm hw
  | 12, hm, _ => exact tab_12 a0 w hm hw
  | 13, hm, _ => exact tab_13 a0 w hm hw
  | 14, hm, _ => exact tab_14 a0 w hm hw
  | 15, hm, _ => exact tab_15 a0 w hm hw
  | m + 16, _, h => omega
open Go.ChangeShapes Go.WideShapes Go.ChangeAt 
set_option maxRecDepth 100000 in
/-- What the walk gives, for every argument and every world that holds the list. -/
theorem contract (H : Type) (enc : TypeId × Value → H) (W : World) (base : Nat) (args : Array Value) (ds gs : List (DataW H)) (before : List MemPlace)
    (hval : ∀ (j : Nat) t v, Tryd.f5.params[j]? = some t → args[j]? = some v → Value.okWide Tryd.prog W .any base t v)
    (hW : DataW.Whole enc Tryd.prog Tryd.f5.params.toList Rows.holdTableSpec.vars false W args.toList ds gs before)
    (hL : laidMetH Tryd.prog Rows.holdTableRow.laid W) :
    Calls Tryd.prog 5 args W fun e W' => ∃ v, e = .returned v ∧ Rows.holdTableSpec.post enc Tryd.prog Tryd.f5 false true false false W args v W' := by
  have hW' := hW
  obtain ⟨p, q, hA0, hV, rfl, hfz, hnd⟩ := hW
  have hA : DataW.TrodAll enc Tryd.prog W 0 (fun _ => true) true Tryd.f5.params.toList args.toList ds p := hA0
  rw [Tryd.params5] at hA hval
  obtain ⟨v0, vs0, d0, ds0, p0, q0, hargs, rfl, rfl, h0, r0⟩ := trodAll_cons hA
  obtain ⟨rfl, rfl, rfl⟩ := trodAll_nil r0
  obtain rfl : args = #[v0] := by cases args; simp_all
  obtain ⟨rfl, rfl⟩ := trodVars_none hV
  obtain ⟨a0, rfl, rfl, rfl, w0⟩ := open_int Tryd.underlying3 (hval 0 3 v0 rfl rfl) h0
  clear hA0
  simp only [List.append_nil] at hW'
  refine (walk a0 W (lw_of hL)).mono fun e W' ⟨he, hg⟩ => ?_
  subst he
  exact ⟨_, rfl, _, _, _, [], [], [], hW', trodAll_cons_mk (shut_bool Tryd.underlying4 _) trodAll_mk0, trodAll_cons_mk (shut_int Tryd.underlying3 w0) trodAll_mk0, rfl, hg.frame _, fun h => by cases h⟩

theorem reads (os : Os) {H : Type} (enc : TypeId × Value → H) : ∃ places, DataW.whole enc Tryd.prog ((World.doorLaid Tryd.prog 62 os).forCall (fun _ _ => 0) ⟨#[], #[.int .i64 0], []⟩).memory Tryd.f5.params.toList Rows.holdTableSpec.vars false #[Value.int .i64 0].toList 8 = some ([.lit (.int .i64 0)], [], places) :=
  ⟨[], by kernel_rfl⟩

set_option maxRecDepth 100000 in
theorem lifted (os : Os) (started : os.Started) (H : Type) (enc : TypeId × Value → H) (F : Stop.Interp) :
    ReturnsInHanded {} Tryd.checked os 5 .any ((OpenSpec.ofChange Rows.holdTableSpec).preRow enc Tryd.prog Tryd.f5 Rows.holdTableRow.domain false Rows.holdTableRow.laid) (((OpenSpec.ofChange Rows.holdTableSpec).at F).post enc Tryd.prog Tryd.f5 false true false false) := by
  obtain ⟨places, hx⟩ := reads os enc
  refine returnsInHanded_of_row (C := Tryd.checked) (s := OpenSpec.ofChange Rows.holdTableSpec) own started (by kernel_rfl) Tryd.func5
    (witness_row_atRef (enc := enc) (C := Tryd.checked) false (World.doorLaid Tryd.prog 62 os) #[.int .i64 0] rfl (by kernel_rfl) (by kernel_rfl) (by kernel_rfl)
      (OpenSpec.preRow_of_cond 8 hx (by kernel_rfl) (fun k hk => by cases hk) (by kernel_rfl) (door_met os _))) ?_
  intro W base args ds gs before hval hW _ _ _ hL _ _
  exact contract H enc W base args ds gs before hval hW hL

theorem said : Rows.HoldTableSaid :=
  OpenClaim.holds_of_cond 5 Tryd.f5 rfl rfl rfl rfl rfl rfl rfl ⟨rfl, rfl, rfl, rfl, rfl⟩ rfl rfl rfl rfl rfl (by kernel_rfl) Tryd.func5 (by kernel_rfl)
    (of_decide_eq_true (by kernel_rfl)) (by unfold Func.isWrapper; first | (rw [if_pos (by decide +kernel)]; kernel_rfl) | (rw [if_neg (by decide +kernel)]; exact ⟨rfl, rfl⟩))
    (fun os started H enc _ F => by rw [OpenClaim.pre_eq_preRow]; exact lifted os started H enc F)

theorem plain (f : FuncId) (fn : Func) (hf : Tryd.pinned.checked.prog.funcNamed "sleuth/sleuthlaw10.HoldTable" = some f) (hfn : Tryd.pinned.checked.prog.funcs[f]? = some fn) :
    true = Tryd.pinned.checked.prog.looks [] ∧ ∀ (j : Nat) t, fn.params[j]? = some t → Tryd.pinned.checked.prog.wantsStandIn t = false := by
  obtain rfl : f = 5 := Option.some.inj ((show Tryd.prog.funcNamed "sleuth/sleuthlaw10.HoldTable" = some 5 by kernel_rfl).symm.trans hf) |>.symm
  obtain rfl : fn = Tryd.f5 := (Option.some.inj (Tryd.func5.symm.trans hfn)).symm
  refine ⟨by kernel_rfl, fun j t ht => ?_⟩
  rw [Tryd.params5] at ht
  have hm : t ∈ [3] := by simpa using Array.mem_of_getElem? ht
  have hall : ([3].all fun u => !Tryd.prog.wantsStandIn u) = true := by kernel_rfl
  exact (show Tryd.prog.wantsStandIn t = false by simpa using List.all_eq_true.1 hall t hm)

/-- The given statement. -/
theorem card : Rows.HoldTableCardSaid :=
  Claim7.holds_tied_plain_at .later [] _ _ _ _ said (fun _ h => by cases h) (by kernel_rfl) (fun _ h => by cases h) holdTable_row_tie rfl ⟨rfl, rfl⟩ (by kernel_rfl) rfl plain (by kernel_rfl)
end Go.Proofs.YtmcdpnikkmedkaaDoor.holdTable
namespace Go.Proofs.YtmcdpnikkmedkaaDoor
theorem holdTable_holds : Rows.HoldTableCardSaid := holdTable.card
end Go.Proofs.YtmcdpnikkmedkaaDoor
