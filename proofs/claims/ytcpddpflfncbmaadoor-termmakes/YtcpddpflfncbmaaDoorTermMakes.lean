/- Whatever the ints which and x are, Make refuses the kind, the number and the parts that they pick (a kind beyond the four, a number or a tag beyond its range, a number beside a hole or a failure, parts behind no constructor, four parts, parts that are no terms) with the document's error and an empty text; the condition is the card's own: the listed variables of the library read as their initialisers lay them. -/
import Derived.Test.YtcpddpflfncbmaaDoorMakesB
import Derived.Test.YtcpddpflfncbmaaDoorMakesC
import Derived.Test.YtcpddpflfncbmaaDoorMakesD
namespace Go.Proofs.YtcpddpflfncbmaaDoor.termMakes
open Go.ChangeShapes Go.WideShapes Go.ChangeAt Go.RowKit
set_option linter.unusedVariables false

/- The walk: the law's Go text returns true. -/
theorem walk (a0 a1 : Int) (w : World) (hw : Lw w) :
    Calls Tryd.prog 5 #[.int .i64 a0, .int .i64 a1] w fun e w' => e = .returned (.bool true) ∧ Below w.heap.size w w' := by
  obtain ⟨m, hm, hm0, hm1⟩ := and_1023 a1
  obtain ⟨k, hk, hlt⟩ := and_15 a0
  match k, hk, hlt with
  | 0, hk, _ => exact walk_0 a0 a1 w hw m hm hm0 hm1 hk
  | 1, hk, _ => exact walk_1 a0 a1 w hw m hm hm0 hm1 hk
  | 2, hk, _ => exact walk_2 a0 a1 w hw m hm hm0 hm1 hk
  | 3, hk, _ => exact walk_3 a0 a1 w hw m hm hm0 hm1 hk
  | 4, hk, _ => exact walk_4 a0 a1 w hw m hm hm0 hm1 hk
  | 5, hk, _ => exact walk_5 a0 a1 w hw m hm hm0 hm1 hk
  | 6, hk, _ => exact walk_6 a0 a1 w hw m hm hm0 hm1 hk
  | 7, hk, _ => exact walk_7 a0 a1 w hw m hm hm0 hm1 hk
  | 8, hk, _ => exact walk_8 a0 a1 w hw m hm hm0 hm1 hk
  | 9, hk, _ => exact walk_9 a0 a1 w hw m hm hm0 hm1 hk
  | 10, hk, _ => exact walk_10 a0 a1 w hw m hm hm0 hm1 hk
  | 11, hk, _ => exact walk_11 a0 a1 w hw m hm hm0 hm1 hk
  | 12, hk, _ => exact walk_12 a0 a1 w hw m hm hm0 hm1 hk
  | 13, hk, _ => exact walk_13 a0 a1 w hw m hm hm0 hm1 hk
  | 14, hk, _ => exact walk_14 a0 a1 w hw m hm hm0 hm1 hk
  | 15, hk, _ => exact walk_15 a0 a1 w hw m hm hm0 hm1 hk
  | k + 16, _, h => omega

set_option maxRecDepth 100000 in
/-- What the walk gives, for every argument and every world that holds the list. -/
theorem contract (H : Type) (enc : TypeId × Value → H) (W : World) (base : Nat) (args : Array Value) (ds gs : List (DataW H)) (before : List MemPlace)
    (hval : ∀ (j : Nat) t v, Tryd.f5.params[j]? = some t → args[j]? = some v → Value.okWide Tryd.prog W .any base t v)
    (hW : DataW.Whole enc Tryd.prog Tryd.f5.params.toList Rows.termMakesSpec.vars false W args.toList ds gs before) (hL : laidMetH Tryd.prog Rows.termMakesRow.laid W) :
    Calls Tryd.prog 5 args W fun e W' => ∃ v, e = .returned v ∧ Rows.termMakesSpec.post enc Tryd.prog Tryd.f5 false true false false W args v W' := by
  have hW' := hW
  obtain ⟨p, q, hA0, hV, rfl, hfz, hnd⟩ := hW
  have hA : DataW.TrodAll enc Tryd.prog W 0 (fun _ => true) true Tryd.f5.params.toList args.toList ds p := hA0
  rw [Tryd.params5] at hA hval
  obtain ⟨v0, vs0, d0, ds0, p0, q0, hargs, rfl, rfl, h0, r0⟩ := trodAll_cons hA
  obtain ⟨v1, vs1, d1, ds1, p1, q1, rfl, rfl, rfl, h1, r1⟩ := trodAll_cons r0
  obtain ⟨rfl, rfl, rfl⟩ := trodAll_nil r1
  obtain rfl : args = #[v0, v1] := by cases args; simp_all
  obtain ⟨rfl, rfl⟩ := trodVars_none hV
  obtain ⟨a0, rfl, rfl, rfl, w0⟩ := open_int Tryd.underlying3 (hval 0 3 v0 rfl rfl) h0
  obtain ⟨a1, rfl, rfl, rfl, w1⟩ := open_int Tryd.underlying3 (hval 1 3 v1 rfl rfl) h1
  clear hA0
  simp only [List.append_nil] at hW'
  refine (walk a0 a1 W (lw_of hL)).mono fun e W' ⟨he, hg⟩ => ?_
  subst he
  exact ⟨_, rfl, _, _, _, [], [], [], hW', trodAll_cons_mk (shut_bool Tryd.underlying4 _) trodAll_mk0, trodAll_cons_mk (shut_int Tryd.underlying3 w0) (trodAll_cons_mk (shut_int Tryd.underlying3 w1) trodAll_mk0), rfl, hg.frame _, fun h => by cases h⟩

theorem reads (os : Os) {H : Type} (enc : TypeId × Value → H) : ∃ places, DataW.whole enc Tryd.prog ((World.doorLaid Tryd.prog 62 os).forCall (fun _ _ => 0) ⟨#[], #[.int .i64 0, .int .i64 0], []⟩).memory Tryd.f5.params.toList Rows.termMakesSpec.vars false #[Value.int .i64 0, .int .i64 0].toList 8 = some ([.lit (.int .i64 0), .lit (.int .i64 0)], [], places) :=
  ⟨[], by kernel_rfl⟩

set_option maxRecDepth 100000 in
theorem lifted (os : Os) (started : os.Started) (H : Type) (enc : TypeId × Value → H) (F : Stop.Interp) :
    ReturnsInHanded {} Tryd.checked os 5 .any ((OpenSpec.ofChange Rows.termMakesSpec).preRow enc Tryd.prog Tryd.f5 Rows.termMakesRow.domain false Rows.termMakesRow.laid) (((OpenSpec.ofChange Rows.termMakesSpec).at F).post enc Tryd.prog Tryd.f5 false true false false) := by
  obtain ⟨places, hx⟩ := reads os enc
  refine returnsInHanded_of_row (C := Tryd.checked) (s := OpenSpec.ofChange Rows.termMakesSpec) own started (by kernel_rfl) Tryd.func5
    (witness_row_atRef (enc := enc) (C := Tryd.checked) false (World.doorLaid Tryd.prog 62 os) #[.int .i64 0, .int .i64 0] rfl (by kernel_rfl) (by kernel_rfl) (by kernel_rfl)
      (OpenSpec.preRow_of_cond 8 hx (by kernel_rfl) (fun k hk => by cases hk) (by kernel_rfl) (door_met os _))) ?_
  intro W base args ds gs before hval hW _ _ _ hL _ _
  exact contract H enc W base args ds gs before hval hW hL

theorem said : Rows.TermMakesSaid :=
  OpenClaim.holds_of_cond 5 Tryd.f5 rfl rfl rfl rfl rfl rfl rfl ⟨rfl, rfl, rfl, rfl, rfl⟩ rfl rfl rfl rfl rfl (by kernel_rfl) Tryd.func5 (by kernel_rfl)
    (of_decide_eq_true (by kernel_rfl)) (by unfold Func.isWrapper; first | (rw [if_pos (by decide +kernel)]; kernel_rfl) | (rw [if_neg (by decide +kernel)]; exact ⟨rfl, rfl⟩))
    (fun os started H enc _ F => by rw [OpenClaim.pre_eq_preRow]; exact lifted os started H enc F)

theorem plain (f : FuncId) (fn : Func) (hf : Tryd.pinned.checked.prog.funcNamed "sleuth/sleuthlaw2.TermMakes" = some f) (hfn : Tryd.pinned.checked.prog.funcs[f]? = some fn) :
    true = Tryd.pinned.checked.prog.looks [] ∧ ∀ (j : Nat) t, fn.params[j]? = some t → Tryd.pinned.checked.prog.wantsStandIn t = false := by
  obtain rfl : f = 5 := Option.some.inj ((show Tryd.prog.funcNamed "sleuth/sleuthlaw2.TermMakes" = some 5 by kernel_rfl).symm.trans hf) |>.symm
  obtain rfl : fn = Tryd.f5 := (Option.some.inj (Tryd.func5.symm.trans hfn)).symm
  refine ⟨by kernel_rfl, fun j t ht => ?_⟩
  rw [Tryd.params5] at ht
  have hm : t ∈ [3, 3] := by simpa using Array.mem_of_getElem? ht
  have hall : ([3, 3].all fun u => !Tryd.prog.wantsStandIn u) = true := by kernel_rfl
  exact (show Tryd.prog.wantsStandIn t = false by simpa using List.all_eq_true.1 hall t hm)

/-- The given statement. -/
theorem card : Rows.TermMakesCardSaid :=
  Claim7.holds_tied_plain_at .later [] _ _ _ _ said (fun _ h => by cases h) (by kernel_rfl) (fun _ h => by cases h) termMakes_row_tie rfl ⟨rfl, rfl⟩ (by kernel_rfl) rfl plain (by kernel_rfl)
end Go.Proofs.YtcpddpflfncbmaaDoor.termMakes
namespace Go.Proofs.YtcpddpflfncbmaaDoor
theorem termMakes_holds : Rows.TermMakesCardSaid := termMakes.card
end Go.Proofs.YtcpddpflfncbmaaDoor
