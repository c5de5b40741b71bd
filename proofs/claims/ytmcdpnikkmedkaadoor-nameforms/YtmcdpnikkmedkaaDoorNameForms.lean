/- sleuthlaw9.NameForms returns true at every input: a program, a definition, arguments or fuel that may not be are told so; the input is as it was. The condition is the card's own: the five listed tables and variables of Go's library read as the program's text lays them. -/
import Derived.Test.YtmcdpnikkmedkaaDoorMLaid
import Derived.Laws.OwnMore
import Derived.Laws.IdiomStrings
import Derived.Deep.OwnRows
import Derived.SizedLaws
import Derived.ChangeMaps5
import Derived.WalkKit
import Derived.ProofKit
import Derived.OpenShut
import Derived.Test.YtmcdpnikkmedkaaDoorNmForms
namespace Go.Proofs.YtmcdpnikkmedkaaDoor.nameForms
open Go.RowKit
set_option linter.unusedVariables false

theorem walk (a0 a1 : Int) (w : World) (hw : Tm.Lw w) :
    Calls Tryd.prog 7 #[.int .i64 a0, .int .i64 a1] w fun e w' => e = .returned (.bool true) ∧ Below w.heap.size w w' := by
  obtain ⟨m, hm, hlt⟩ := umod8 a0
  obtain ⟨dm, hdm, hd⟩ := and_mask a1 10 (by decide)
  have hd1 : (dm : Int) ≤ 1023 := by have h : (2 : Nat) ^ 10 = 1024 := (by decide); omega
  have hd0 : (0 : Int) ≤ (dm : Int) := by omega
  match m, hm, hlt with
  | 0, hm, _ => exact way_0 a0 a1 dm w hm hdm hd1 hd0 hw
  | 1, hm, _ => exact way_1 a0 a1 dm w hm hdm hd1 hd0 hw
  | 2, hm, _ => exact way_2 a0 a1 dm w hm hdm hd1 hd0 hw
  | 3, hm, _ => exact way_3 a0 a1 dm w hm hdm hd1 hd0 hw
  | 4, hm, _ => exact way_4 a0 a1 dm w hm hdm hd1 hd0 hw
  | 5, hm, _ =>
    obtain ⟨b, hb, hbl⟩ := and_mask a1 1 (by decide)
    obtain ⟨c, hc, hcl⟩ := and_mask (a1 / 2) 2 (by decide)
    match b, hb, hbl, c, hc, hcl with
    | 0, hb, _, 0, hc, _ => exact way_500 a0 a1 dm w hm hdm hd1 hd0 hb hc hw
    | 0, hb, _, 1, hc, _ => exact way_501 a0 a1 dm w hm hdm hd1 hd0 hb hc hw
    | 0, hb, _, 2, hc, _ => exact way_502 a0 a1 dm w hm hdm hd1 hd0 hb hc hw
    | 0, hb, _, 3, hc, _ => exact way_503 a0 a1 dm w hm hdm hd1 hd0 hb hc hw
    | 1, hb, _, 0, hc, _ => exact way_510 a0 a1 dm w hm hdm hd1 hd0 hb hc hw
    | 1, hb, _, 1, hc, _ => exact way_511 a0 a1 dm w hm hdm hd1 hd0 hb hc hw
    | 1, hb, _, 2, hc, _ => exact way_512 a0 a1 dm w hm hdm hd1 hd0 hb hc hw
    | 1, hb, _, 3, hc, _ => exact way_513 a0 a1 dm w hm hdm hd1 hd0 hb hc hw
    | b + 2, _, h, _, _, _ => have h2 : (2 : Nat) ^ 1 = 2 := (by decide); omega
    | _, _, _, c + 4, _, h => have h2 : (2 : Nat) ^ 2 = 4 := (by decide); omega
  | 6, hm, _ => exact way_6 a0 a1 dm w hm hdm hd1 hd0 hw
  | 7, hm, _ => exact way_7 a0 a1 dm w hm hdm hd1 hd0 hw
  | m + 8, _, h => omega
open Go.ChangeShapes Go.WideShapes Go.ChangeAt 
set_option maxRecDepth 100000 in
/-- What the walk gives, for every argument and every world that holds the list. -/
theorem contract (H : Type) (enc : TypeId × Value → H) (W : World) (base : Nat) (args : Array Value) (ds gs : List (DataW H)) (before : List MemPlace)
    (hval : ∀ (j : Nat) t v, Tryd.f7.params[j]? = some t → args[j]? = some v → Value.okWide Tryd.prog W .any base t v)
    (hW : DataW.Whole enc Tryd.prog Tryd.f7.params.toList Rows.nameFormsSpec.vars false W args.toList ds gs before)
    (hL : laidMetH Tryd.prog Rows.nameFormsRow.laid W) :
    Calls Tryd.prog 7 args W fun e W' => ∃ v, e = .returned v ∧ Rows.nameFormsSpec.post enc Tryd.prog Tryd.f7 false true false false W args v W' := by
  have hW' := hW
  obtain ⟨p, q, hA0, hV, rfl, hfz, hnd⟩ := hW
  have hA : DataW.TrodAll enc Tryd.prog W 0 (fun _ => true) true Tryd.f7.params.toList args.toList ds p := hA0
  rw [Tryd.params7] at hA hval
  obtain ⟨v0, vs0, d0, ds0, p0, q0, hargs, rfl, rfl, h0, r0⟩ := trodAll_cons hA
  obtain ⟨v1, vs1, d1, ds1, p1, q1, rfl, rfl, rfl, h1, r1⟩ := trodAll_cons r0
  obtain ⟨rfl, rfl, rfl⟩ := trodAll_nil r1
  obtain rfl : args = #[v0, v1] := by cases args; simp_all
  obtain ⟨rfl, rfl⟩ := trodVars_none hV
  obtain ⟨a0, rfl, rfl, rfl, w0⟩ := open_int Tryd.underlying3 (hval 0 3 v0 rfl rfl) h0
  obtain ⟨a1, rfl, rfl, rfl, w1⟩ := open_int Tryd.underlying3 (hval 1 3 v1 rfl rfl) h1
  clear hA0
  simp only [List.append_nil] at hW'
  refine (walk a0 a1 W (lw_of hL)).mono fun e W' ⟨he, hg⟩ => ?_
  subst he
  exact ⟨_, rfl, _, _, _, [], [], [], hW', trodAll_cons_mk (shut_bool Tryd.underlying4 _) trodAll_mk0, trodAll_cons_mk (shut_int Tryd.underlying3 w0) (trodAll_cons_mk (shut_int Tryd.underlying3 w1) trodAll_mk0), rfl, hg.frame _, fun h => by cases h⟩

theorem reads (os : Os) {H : Type} (enc : TypeId × Value → H) : ∃ places, DataW.whole enc Tryd.prog ((World.doorLaid Tryd.prog 62 os).forCall (fun _ _ => 0) ⟨#[], #[.int .i64 0, .int .i64 0], []⟩).memory Tryd.f7.params.toList Rows.nameFormsSpec.vars false #[Value.int .i64 0, .int .i64 0].toList 8 = some ([.lit (.int .i64 0), .lit (.int .i64 0)], [], places) :=
  ⟨[], by kernel_rfl⟩

set_option maxRecDepth 100000 in
theorem lifted (os : Os) (started : os.Started) (H : Type) (enc : TypeId × Value → H) (F : Stop.Interp) :
    ReturnsInHanded {} Tryd.checked os 7 .any ((OpenSpec.ofChange Rows.nameFormsSpec).preRow enc Tryd.prog Tryd.f7 Rows.nameFormsRow.domain false Rows.nameFormsRow.laid) (((OpenSpec.ofChange Rows.nameFormsSpec).at F).post enc Tryd.prog Tryd.f7 false true false false) := by
  obtain ⟨places, hx⟩ := reads os enc
  refine returnsInHanded_of_row (C := Tryd.checked) (s := OpenSpec.ofChange Rows.nameFormsSpec) own started (by kernel_rfl) Tryd.func7
    (witness_row_atRef (enc := enc) (C := Tryd.checked) false (World.doorLaid Tryd.prog 62 os) #[.int .i64 0, .int .i64 0] rfl (by kernel_rfl) (by kernel_rfl) (by kernel_rfl)
      (OpenSpec.preRow_of_cond 8 hx (by kernel_rfl) (fun k hk => by cases hk) (by kernel_rfl) (door_met os _))) ?_
  intro W base args ds gs before hval hW _ _ _ hL _ _
  exact contract H enc W base args ds gs before hval hW hL

theorem said : Rows.NameFormsSaid :=
  OpenClaim.holds_of_cond 7 Tryd.f7 rfl rfl rfl rfl rfl rfl rfl ⟨rfl, rfl, rfl, rfl, rfl⟩ rfl rfl rfl rfl rfl (by kernel_rfl) Tryd.func7 (by kernel_rfl)
    (of_decide_eq_true (by kernel_rfl)) (by unfold Func.isWrapper; first | (rw [if_pos (by decide +kernel)]; kernel_rfl) | (rw [if_neg (by decide +kernel)]; exact ⟨rfl, rfl⟩))
    (fun os started H enc _ F => by rw [OpenClaim.pre_eq_preRow]; exact lifted os started H enc F)

theorem plain (f : FuncId) (fn : Func) (hf : Tryd.pinned.checked.prog.funcNamed "sleuth/sleuthlaw9.NameForms" = some f) (hfn : Tryd.pinned.checked.prog.funcs[f]? = some fn) :
    true = Tryd.pinned.checked.prog.looks [] ∧ ∀ (j : Nat) t, fn.params[j]? = some t → Tryd.pinned.checked.prog.wantsStandIn t = false := by
  obtain rfl : f = 7 := Option.some.inj ((show Tryd.prog.funcNamed "sleuth/sleuthlaw9.NameForms" = some 7 by kernel_rfl).symm.trans hf) |>.symm
  obtain rfl : fn = Tryd.f7 := (Option.some.inj (Tryd.func7.symm.trans hfn)).symm
  refine ⟨by kernel_rfl, fun j t ht => ?_⟩
  rw [Tryd.params7] at ht
  have hm : t ∈ [3, 3] := by simpa using Array.mem_of_getElem? ht
  have hall : ([3, 3].all fun u => !Tryd.prog.wantsStandIn u) = true := by kernel_rfl
  exact (show Tryd.prog.wantsStandIn t = false by simpa using List.all_eq_true.1 hall t hm)

/-- The given statement. -/
theorem card : Rows.NameFormsCardSaid :=
  Claim7.holds_tied_plain_at .later [] _ _ _ _ said (fun _ h => by cases h) (by kernel_rfl) (fun _ h => by cases h) nameForms_row_tie rfl ⟨rfl, rfl⟩ (by kernel_rfl) rfl plain (by kernel_rfl)
end Go.Proofs.YtmcdpnikkmedkaaDoor.nameForms
namespace Go.Proofs.YtmcdpnikkmedkaaDoor
theorem nameForms_holds : Rows.NameFormsCardSaid := nameForms.card
end Go.Proofs.YtmcdpnikkmedkaaDoor
