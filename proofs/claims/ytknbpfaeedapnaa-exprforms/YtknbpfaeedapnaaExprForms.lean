/- sleuthlaw5.ExprForms returns true at every input: definitions that may not be, one thing at a time, are refused; the input is as it was. No condition. -/
import Derived.Test.YtknbpfaeedapnaaFormsA
import Derived.Test.YtknbpfaeedapnaaFormsB
import Derived.WalkKit
import Derived.ProofKit
import Derived.OpenShut
namespace Go.Proofs.Ytknbpfaeedapnaa.exprForms
open Go.ChangeShapes Go.WideShapes Go.ChangeAt Go.RowKit
set_option linter.unusedVariables false

theorem own : ownKnob Try.prog.godebug = none := by kernel_rfl

theorem umod24 (x : Int) : ∃ m : Nat, (IntKind.u64.wrap x).tmod 24 = (m : Int) ∧ m < 24 := by
  have h0 : 0 ≤ IntKind.u64.wrap x := by rw [IntKind.wrap_u64]; omega
  rw [Int.tmod_eq_emod_of_nonneg h0]
  exact ⟨(IntKind.u64.wrap x % 24).toNat, by omega, by omega⟩
/-- The walk: the law's Go text returns true. -/
theorem walk (a0 a1 : Int) (w : World) :
    Calls Try.prog 4 #[.int .i64 a0, .int .i64 a1] w fun e w' => e = .returned (.bool true) ∧ Below w.heap.size w w' := by
  obtain ⟨d, hd, hd1⟩ := and_1023 a1
  obtain ⟨m, hr, hm⟩ := umod24 a0
  have hc : m = 0 ∨ m = 1 ∨ m = 2 ∨ m = 3 ∨ m = 4 ∨ m = 5 ∨ m = 6 ∨ m = 7 ∨ m = 8 ∨ m = 9 ∨ m = 10 ∨ m = 11 ∨ m = 12 ∨ m = 13 ∨ m = 14 ∨ m = 15 ∨ m = 16 ∨ m = 17 ∨ m = 18 ∨ m = 19 ∨ m = 20 ∨ m = 21 ∨ m = 22 ∨ m = 23 := by omega
  rcases hc with rfl | rfl | rfl | rfl | rfl | rfl | rfl | rfl | rfl | rfl | rfl | rfl | rfl | rfl | rfl | rfl | rfl | rfl | rfl | rfl | rfl | rfl | rfl | rfl
  · exact form_0 a0 a1 d hd hd1 hr w
  · exact form_1 a0 a1 d hd hd1 hr w
  · exact form_2 a0 a1 d hd hd1 hr w
  · exact form_3 a0 a1 d hd hd1 hr w
  · exact form_4 a0 a1 d hd hd1 hr w
  · exact form_5 a0 a1 d hd hd1 hr w
  · exact form_6 a0 a1 d hd hd1 hr w
  · exact form_7 a0 a1 d hd hd1 hr w
  · exact form_8 a0 a1 d hd hd1 hr w
  · exact form_9 a0 a1 d hd hd1 hr w
  · exact form_10 a0 a1 d hd hd1 hr w
  · exact form_11 a0 a1 d hd hd1 hr w
  · exact form_12 a0 a1 d hd hd1 hr w
  · exact form_13 a0 a1 d hd hd1 hr w
  · exact form_14 a0 a1 d hd hd1 hr w
  · exact form_15 a0 a1 d hd hd1 hr w
  · exact form_16 a0 a1 d hd hd1 hr w
  · exact form_17 a0 a1 d hd hd1 hr w
  · exact form_18 a0 a1 d hd hd1 hr w
  · exact form_19 a0 a1 d hd hd1 hr w
  · exact form_20 a0 a1 d hd hd1 hr w
  · exact form_21 a0 a1 d hd hd1 hr w
  · exact form_22 a0 a1 d hd hd1 hr w
  · exact form_23 a0 a1 d hd hd1 hr w

/- The row's step. -/
set_option maxRecDepth 100000 in
theorem lifted (os : Os) (started : os.Started) (H : Type) (enc : TypeId × Value → H) :
    ReturnsInHanded {} Try.checked os 4 .any (Rows.exprFormsSpec.pre6 enc Try.prog Try.f4 Rows.exprFormsRow.domain false) (Rows.exprFormsSpec.post enc Try.prog Try.f4 false true false false) := by
  refine returnsInHanded_of_change (C := Try.checked) own started (by kernel_rfl) Try.func4
    (ChangeSpec.witness6 (enc := enc) (C := Try.checked) false ⟨#[], #[.int .i64 0, .int .i64 0], []⟩ 8 (by kernel_rfl) (by kernel_rfl) (by kernel_rfl) (by kernel_rfl)) ?_
  intro W base args ds gs before hval0 hW hcnd _
  have hval : ∀ (j : Nat) t v, Try.f4.params[j]? = some t → args[j]? = some v → Value.okWide Try.prog W .any base t v := hval0
  have hW' := hW
  obtain ⟨p, q, hA0, hV, rfl, hfz, hnd⟩ := hW
  have hA : DataW.TrodAll enc Try.prog W 0 (fun _ => true) true Try.f4.params.toList args.toList ds p := hA0
  rw [Try.params4] at hA hval
  obtain ⟨v0, vs0, d0, ds0, p0, q0, hargs, rfl, rfl, h0, r0⟩ := trodAll_cons hA
  obtain ⟨v1, vs1, d1, ds1, p1, q1, rfl, rfl, rfl, h1, r1⟩ := trodAll_cons r0
  obtain ⟨rfl, rfl, rfl⟩ := trodAll_nil r1
  obtain rfl : args = #[v0, v1] := by cases args; simp_all
  obtain ⟨rfl, rfl⟩ := trodVars_none hV
  obtain ⟨a0, rfl, rfl, rfl, w0⟩ := open_int Try.underlying3 (hval 0 3 v0 rfl rfl) h0
  obtain ⟨a1, rfl, rfl, rfl, w1⟩ := open_int Try.underlying3 (hval 1 3 v1 rfl rfl) h1
  clear hA0 hval0
  simp only [List.append_nil] at hW'
  refine (walk a0 a1 W).mono fun e W' ⟨he, hg⟩ => ?_
  subst he
  exact ⟨_, rfl, _, _, _, [], [], [], hW', trodAll_cons_mk (shut_bool Try.underlying4 _) trodAll_mk0, (trodAll_cons_mk (shut_int Try.underlying3 w0) (trodAll_cons_mk (shut_int Try.underlying3 w1) trodAll_mk0)), rfl, hg.frame _, fun h => by cases h⟩

theorem over : Rows.exprFormsRow.holds Try.pinned (OpenSpec.ofChange Rows.exprFormsSpec) :=
  OpenClaim.holds_of_wide 4 Try.f4 rfl rfl rfl rfl rfl rfl rfl ⟨rfl, rfl, rfl, rfl, rfl⟩ rfl rfl rfl rfl rfl (by kernel_rfl) Try.func4 (by kernel_rfl)
    (of_decide_eq_true (by kernel_rfl)) (by unfold Func.isWrapper; first | (rw [if_pos (by decide +kernel)]; kernel_rfl) | (rw [if_neg (by decide +kernel)]; exact ⟨rfl, rfl⟩))
    (fun os started H enc _ => lifted os started H enc)

/-- The given statement. -/
theorem proved : Rows.ExprFormsSaid :=
  over
end Go.Proofs.Ytknbpfaeedapnaa.exprForms
namespace Go.Proofs.Ytknbpfaeedapnaa
theorem exprForms_holds : Rows.ExprFormsSaid := exprForms.proved
end Go.Proofs.Ytknbpfaeedapnaa
