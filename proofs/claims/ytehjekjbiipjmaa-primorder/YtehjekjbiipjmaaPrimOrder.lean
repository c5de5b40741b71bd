/- Whatever the ints a and b are, of the two numbers taken from them just one thing is told to hold: the first is less, the second is less, or they are the same; there is no condition. -/
import Derived.Test.YtehjekjbiipjmaaShare
import Derived.WalkKit
import Derived.ProofKit
import Derived.OpenShut
namespace Go.Proofs.Ytehjekjbiipjmaa.primOrder
open Go.ChangeShapes Go.WideShapes Go.ChangeAt Go.RowKit
set_option linter.unusedVariables false

theorem own : ownKnob Try.prog.godebug = none := by kernel_rfl

/-- Of two numbers one is less, or they are the same: just one of the three answers is 1. -/
theorem orders (x y : Int) (hx : mayB x = true) (hy : mayB y = true) : ∃ p q r : Int,
    Hid (∀ w, Calls Try.prog 9 #[.int .i64 4, .int .i64 x, .int .i64 y] w fun e w' => e = .returned (.tuple #[.int .i64 p, .int .i64 0]) ∧ w' = w) ∧
    Hid (∀ w, Calls Try.prog 9 #[.int .i64 4, .int .i64 y, .int .i64 x] w fun e w' => e = .returned (.tuple #[.int .i64 q, .int .i64 0]) ∧ w' = w) ∧
    Hid (∀ w, Calls Try.prog 9 #[.int .i64 3, .int .i64 x, .int .i64 y] w fun e w' => e = .returned (.tuple #[.int .i64 r, .int .i64 0]) ∧ w' = w) ∧
    0 ≤ p ∧ p ≤ 1 ∧ 0 ≤ q ∧ q ≤ 1 ∧ decide (0 ≤ r) = true ∧ 0 ≤ r ∧ r ≤ 1 ∧ (p + q + r == 1) = true := by
  rcases Int.lt_trichotomy x y with h | h | h
  · exact ⟨1, 0, 0, fun w => less1 _ _ w hx hy h, fun w => less0 _ _ w hy hx (by omega), fun w => eq0 _ _ w hx hy (by omega), by decide, by decide, by decide, by decide, by decide, by decide, by decide, by decide⟩
  · exact ⟨0, 0, 1, fun w => less0 _ _ w hx hy (by omega), fun w => less0 _ _ w hy hx (by omega), fun w => eq1 _ _ w hx hy h, by decide, by decide, by decide, by decide, by decide, by decide, by decide, by decide⟩
  · exact ⟨0, 1, 0, fun w => less0 _ _ w hx hy (by omega), fun w => less1 _ _ w hy hx h, fun w => eq0 _ _ w hx hy (by omega), by decide, by decide, by decide, by decide, by decide, by decide, by decide, by decide⟩


/- The walk: the law's Go text returns true. -/
theorem walk (a0 : Int) (a1 : Int) (w0 : (Lit.int .i64 a0).wf = true) (w1 : (Lit.int .i64 a1).wf = true) (w : World) :
    Calls Try.prog 7 #[.int .i64 a0, .int .i64 a1] w fun e w' => e = .returned (.bool true) ∧ Grown w w' := by
  obtain ⟨m, hm, m0, m1⟩ := low16 a0
  obtain ⟨k, hk, k0, k1⟩ := low16 a1
  have hx : mayB (m - 32768) = true := may_mk (by omega) (by omega)
  have hy : mayB (k - 32768) = true := may_mk (by omega) (by omega)
  obtain ⟨p, q, r, hp, hq, hr, p0, p1, q0, q1, rd, r0, r1, hs⟩ := orders (m - 32768) (k - 32768) hx hy
  go_enter Try.func7, Try.ntmps7
  go_wp2_with fail
  refine (awake_any _).mono ?_
  rintro e w' ⟨rfl, rfl⟩
  go_wp2_with fail
  refine (hp.out _).mono ?_
  rintro e w' ⟨rfl, rfl⟩
  go_wp2_with fail
  refine (hq.out _).mono ?_
  rintro e w' ⟨rfl, rfl⟩
  go_wp2_with fail
  refine (hr.out _).mono ?_
  rintro e w' ⟨rfl, rfl⟩
  go_wp2_with (go_at_call 11; refine (num_any _ _).mono ?_; rintro e w' ⟨rfl, rfl⟩)
  go_ret
  exact ⟨rfl, Grown.refl _⟩

/- The row's step. -/
set_option maxRecDepth 100000 in
theorem lifted (os : Os) (started : os.Started) (H : Type) (enc : TypeId × Value → H) :
    ReturnsInHanded {} Try.checked os 7 .any (Rows.primOrderSpec.pre6 enc Try.prog Try.f7 Rows.primOrderRow.domain false) (Rows.primOrderSpec.post enc Try.prog Try.f7 false true false false) := by
  refine returnsInHanded_of_change (C := Try.checked) own started (by kernel_rfl) Try.func7
    (ChangeSpec.witness6 (enc := enc) (C := Try.checked) false ⟨#[], #[.int .i64 0, .int .i64 0], []⟩ 8 (by kernel_rfl) (by kernel_rfl) (by kernel_rfl) (by kernel_rfl)) ?_
  intro W base args ds gs before hval0 hW hcnd _
  have hval : ∀ (j : Nat) t v, Try.f7.params[j]? = some t → args[j]? = some v → Value.okWide Try.prog W .any base t v := hval0
  have hW' := hW
  obtain ⟨p, q, hA0, hV, rfl, hfz, hnd⟩ := hW
  have hA : DataW.TrodAll enc Try.prog W 0 (fun _ => true) true Try.f7.params.toList args.toList ds p := hA0
  rw [Try.params7] at hA hval
  obtain ⟨v0, vs0, d0, ds0, p0, q0, hargs, rfl, rfl, h0, r0⟩ := trodAll_cons hA
  obtain ⟨v1, vs1, d1, ds1, p1, q1, rfl, rfl, rfl, h1, r1⟩ := trodAll_cons r0
  obtain ⟨rfl, rfl, rfl⟩ := trodAll_nil r1
  obtain rfl : args = #[v0, v1] := by cases args; simp_all
  obtain ⟨rfl, rfl⟩ := trodVars_none hV
  obtain ⟨a0, rfl, rfl, rfl, w0⟩ := open_int Try.underlying3 (hval 0 3 v0 rfl rfl) h0
  obtain ⟨a1, rfl, rfl, rfl, w1⟩ := open_int Try.underlying3 (hval 1 3 v1 rfl rfl) h1
  clear hA0 hval0
  simp only [List.append_nil] at hW'
  refine (walk a0 a1 w0 w1 W).mono fun e W' ⟨he, hg⟩ => ?_
  subst he
  exact ⟨_, rfl, post_of_same (pa := []) (pv := []) hW' (fun _ _ _ => (trodAll_cons_mk (shut_bool Try.underlying4 _) trodAll_mk0)) (fun sp _ => (trodAll_cons_mk (shut_int Try.underlying3 w0) (trodAll_cons_mk (shut_int Try.underlying3 w1) trodAll_mk0))) (fun _ _ => rfl) rfl
    (hg.frame _) hg.2.1 (ok_one (by kernel_rfl) rfl (okWide_bool_mk Try.underlying4 _))⟩

theorem over : Rows.primOrderRow.holds Try.pinned (OpenSpec.ofChange Rows.primOrderSpec) :=
  OpenClaim.holds_of_wide 7 Try.f7 rfl rfl rfl rfl rfl rfl rfl ⟨rfl, rfl, rfl, rfl, rfl⟩ rfl rfl rfl rfl rfl (by kernel_rfl) Try.func7 (by kernel_rfl)
    (of_decide_eq_true (by kernel_rfl)) (by unfold Func.isWrapper; first | (rw [if_pos (by decide +kernel)]; kernel_rfl) | (rw [if_neg (by decide +kernel)]; exact ⟨rfl, rfl⟩))
    (fun os started H enc _ => lifted os started H enc)

/-- The given statement. -/
theorem proved : Rows.PrimOrderSaid :=
  over
end Go.Proofs.Ytehjekjbiipjmaa.primOrder
namespace Go.Proofs.Ytehjekjbiipjmaa
theorem primOrder_holds : Rows.PrimOrderSaid := primOrder.proved
end Go.Proofs.Ytehjekjbiipjmaa
