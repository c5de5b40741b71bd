/- sleuthlaw9.NameTable returns true at every input: what a main is meant to be, by hand; the input is as it was. The condition is the card's own: the five listed tables and variables of Go's library read as the program's text lays them. -/
import Derived.Test.YtjamknejllbmkaaGreatDoorMLaid
import Derived.Laws.OwnMore
import Derived.Laws.IdiomStrings
import Derived.Deep.OwnRows
import Derived.SizedLaws
import Derived.ChangeMaps5
import Derived.WalkKit
import Derived.ProofKit
import Derived.OpenShut
import Derived.Test.YtjamknejllbmkaaGreatDoorNmTabA
import Derived.Test.YtjamknejllbmkaaGreatDoorNmTabB
import Derived.Test.YtjamknejllbmkaaGreatDoorNmTabC
import Derived.Test.YtjamknejllbmkaaGreatDoorNmTabD
namespace Go.Proofs.YtjamknejllbmkaaGreatDoor.nameTable
open Go.RowKit
set_option linter.unusedVariables false

theorem walk (a0 : Int) (w : World) (hw : Tm.Lw w) :
    Calls Tryz.prog 3 #[.int .i64 a0] w fun e w' => e = .returned (.bool true) ∧ Below w.heap.size w w' := by
  obtain ⟨m, hm, hlt⟩ := umod9 a0 24 (by decide)
  match m, hm, hlt with
  | 0, hm, _ => exact tab_0 a0 w hm hw
  | 1, hm, _ => exact tab_1 a0 w hm hw
  | 2, hm, _ => exact tab_2 a0 w hm hw
  | 3, hm, _ => exact tab_3 a0 w hm hw
  | 4, hm, _ => exact tab_4 a0 w hm hw
  | 5, hm, _ => exact tab_5 a0 w hm hw
  | 6, hm, _ => exact tab_6 a0 w hm hw
  | 7, hm, _ => exact tab_7 a0 w hm hw
  | 8, hm, _ => exact tab_8 a0 w hm hw
  | 9, hm, _ => exact tab_9 a0 w hm hw
  | 10, hm, _ => exact tab_10 a0 w hm hw
  | 11, hm, _ => exact tab_11 a0 w hm hw
  | 12, hm, _ => exact tab_12 a0 w hm hw
  | 13, hm, _ => exact tab_13 a0 w hm hw
  | 14, hm, _ => exact tab_14 a0 w hm hw
  | 15, hm, _ => exact tab_15 a0 w hm hw
  | 16, hm, _ => exact tab_16 a0 w hm hw
  | 17, hm, _ => exact tab_17 a0 w hm hw
  | 18, hm, _ => exact tab_18 a0 w hm hw
  | 19, hm, _ => exact tab_19 a0 w hm hw
  | 20, hm, _ => exact tab_20 a0 w hm hw
  | 21, hm, _ => exact tab_21 a0 w hm hw
  | 22, hm, _ => exact tab_22 a0 w hm hw
  | 23, hm, _ => exact tab_23 a0 w hm hw
  | m + 24, _, h => omega
open Go.ChangeShapes Go.WideShapes Go.ChangeAt 
set_option maxRecDepth 100000 in
/-- What the walk gives, for every argument and every world that holds the list. -/
theorem contract (H : Type) (enc : TypeId × Value → H) (W : World) (base : Nat) (args : Array Value) (ds gs : List (DataW H)) (before : List MemPlace)
    (hval : ∀ (j : Nat) t v, Tryz.f3.params[j]? = some t → args[j]? = some v → Value.okWide Tryz.prog W .any base t v)
    (hW : DataW.Whole enc Tryz.prog Tryz.f3.params.toList Rows.nameTableSpec.vars false W args.toList ds gs before)
    (hL : laidMetH Tryz.prog Rows.nameTableRow.laid W) :
    Calls Tryz.prog 3 args W fun e W' => ∃ v, e = .returned v ∧ Rows.nameTableSpec.post enc Tryz.prog Tryz.f3 false true false false W args v W' := by
  have hW' := hW
  obtain ⟨p, q, hA0, hV, rfl, hfz, hnd⟩ := hW
  have hA : DataW.TrodAll enc Tryz.prog W 0 (fun _ => true) true Tryz.f3.params.toList args.toList ds p := hA0
  rw [Tryz.params3] at hA hval
  obtain ⟨v0, vs0, d0, ds0, p0, q0, hargs, rfl, rfl, h0, r0⟩ := trodAll_cons hA
  obtain ⟨rfl, rfl, rfl⟩ := trodAll_nil r0
  obtain rfl : args = #[v0] := by cases args; simp_all
  obtain ⟨rfl, rfl⟩ := trodVars_none hV
  obtain ⟨a0, rfl, rfl, rfl, w0⟩ := open_int Tryz.underlying3 (hval 0 3 v0 rfl rfl) h0
  clear hA0
  simp only [List.append_nil] at hW'
  refine (walk a0 W (lw_of hL)).mono fun e W' ⟨he, hg⟩ => ?_
  subst he
  exact ⟨_, rfl, _, _, _, [], [], [], hW', trodAll_cons_mk (shut_bool Tryz.underlying4 _) trodAll_mk0, trodAll_cons_mk (shut_int Tryz.underlying3 w0) trodAll_mk0, rfl, hg.frame _, fun h => by cases h⟩

theorem reads (os : Os) {H : Type} (enc : TypeId × Value → H) : ∃ places, DataW.whole enc Tryz.prog ((World.doorLaid Tryz.prog 62 os).forCall (fun _ _ => 0) ⟨#[], #[.int .i64 0], []⟩).memory Tryz.f3.params.toList Rows.nameTableSpec.vars false #[Value.int .i64 0].toList 8 = some ([.lit (.int .i64 0)], [], places) :=
  ⟨[], by kernel_rfl⟩

set_option maxRecDepth 100000 in
theorem lifted (os : Os) (started : os.Started) (H : Type) (enc : TypeId × Value → H) (F : Stop.Interp) :
    ReturnsInHanded {} Tryz.checked os 3 .any ((OpenSpec.ofChange Rows.nameTableSpec).preRow enc Tryz.prog Tryz.f3 Rows.nameTableRow.domain false Rows.nameTableRow.laid) (((OpenSpec.ofChange Rows.nameTableSpec).at F).post enc Tryz.prog Tryz.f3 false true false false) := by
  obtain ⟨places, hx⟩ := reads os enc
  refine returnsInHanded_of_row (C := Tryz.checked) (s := OpenSpec.ofChange Rows.nameTableSpec) own started (by kernel_rfl) Tryz.func3
    (witness_row_atRef (enc := enc) (C := Tryz.checked) false (World.doorLaid Tryz.prog 62 os) #[.int .i64 0] rfl (by kernel_rfl) (by kernel_rfl) (by kernel_rfl)
      (OpenSpec.preRow_of_cond 8 hx (by kernel_rfl) (fun k hk => by cases hk) (by kernel_rfl) (door_met os _))) ?_
  intro W base args ds gs before hval hW _ _ _ hL _ _
  exact contract H enc W base args ds gs before hval hW hL

theorem said : Rows.NameTableSaid :=
  OpenClaim.holds_of_cond 3 Tryz.f3 rfl rfl rfl rfl rfl rfl rfl ⟨rfl, rfl, rfl, rfl, rfl⟩ rfl rfl rfl rfl rfl (by kernel_rfl) Tryz.func3 (by kernel_rfl)
    (of_decide_eq_true (by kernel_rfl)) (by unfold Func.isWrapper; first | (rw [if_pos (by decide +kernel)]; kernel_rfl) | (rw [if_neg (by decide +kernel)]; exact ⟨rfl, rfl⟩))
    (fun os started H enc _ F => by rw [OpenClaim.pre_eq_preRow]; exact lifted os started H enc F)

theorem plain (f : FuncId) (fn : Func) (hf : Tryz.pinned.checked.prog.funcNamed "sleuth/sleuthlaw9.NameTable" = some f) (hfn : Tryz.pinned.checked.prog.funcs[f]? = some fn) :
    true = Tryz.pinned.checked.prog.looks [] ∧ ∀ (j : Nat) t, fn.params[j]? = some t → Tryz.pinned.checked.prog.wantsStandIn t = false := by
  obtain rfl : f = 3 := Option.some.inj ((show Tryz.prog.funcNamed "sleuth/sleuthlaw9.NameTable" = some 3 by kernel_rfl).symm.trans hf) |>.symm
  obtain rfl : fn = Tryz.f3 := (Option.some.inj (Tryz.func3.symm.trans hfn)).symm
  refine ⟨by kernel_rfl, fun j t ht => ?_⟩
  rw [Tryz.params3] at ht
  have hm : t ∈ [3] := by simpa using Array.mem_of_getElem? ht
  have hall : ([3].all fun u => !Tryz.prog.wantsStandIn u) = true := by kernel_rfl
  exact (show Tryz.prog.wantsStandIn t = false by simpa using List.all_eq_true.1 hall t hm)

/-- The given statement. -/
theorem card : Rows.NameTableCardSaid :=
  Claim7.holds_tied_plain_at .later [] _ _ _ _ said (fun _ h => by cases h) (by kernel_rfl) (fun _ h => by cases h) nameTable_row_tie rfl ⟨rfl, rfl⟩ (by kernel_rfl) rfl plain (by kernel_rfl)
end Go.Proofs.YtjamknejllbmkaaGreatDoor.nameTable
namespace Go.Proofs.YtjamknejllbmkaaGreatDoor
theorem nameTable_holds : Rows.NameTableCardSaid := nameTable.card
end Go.Proofs.YtjamknejllbmkaaGreatDoor
