/- Whatever the ints a and b are, what comes of the two numbers taken from them by adding, taking away and multiplying may be and differs from the true one by a multiple of 65536, and what comes of comparing them is 1 just where it holds and else 0; there is no condition. -/
import Derived.Test.YtehjekjbiipjmaaShare
import Derived.WalkKit
import Derived.ProofKit
import Derived.OpenShut
namespace Go.Proofs.Ytehjekjbiipjmaa.primWraps
open Go.ChangeShapes Go.WideShapes Go.ChangeAt Go.RowKit
set_option linter.unusedVariables false

theorem own : ownKnob Try.prog.godebug = none := by kernel_rfl

/- The walk: the law's Go text returns true. -/
theorem walk (a0 : Int) (a1 : Int) (w0 : (Lit.int .i64 a0).wf = true) (w1 : (Lit.int .i64 a1).wf = true) (w : World) :
    Calls Try.prog 4 #[.int .i64 a0, .int .i64 a1] w fun e w' => e = .returned (.bool true) ∧ Grown w w' := by
  obtain ⟨m, hm, m0, m1⟩ := low16 a0
  obtain ⟨k, hk, k0, k1⟩ := low16 a1
  have hx : mayB (m - 32768) = true := may_mk (by omega) (by omega)
  have hy : mayB (k - 32768) = true := may_mk (by omega) (by omega)
  obtain ⟨p, pm, p1, p2, pd, hp⟩ := addX _ _ hx hy
  obtain ⟨q, qm, q1, q2, qd, hq⟩ := subX _ _ hx hy
  obtain ⟨r, rm, r1, r2, rd, hr⟩ := mulX _ _ hx hy
  obtain ⟨c1, c2⟩ := mul_rng hx hy
  have hw : wrap64 ((m - 32768) * (k - 32768)) = (m - 32768) * (k - 32768) := by unfold wrap64; omega
  obtain ⟨s, t, hs, ht, ds, dt, bs, bt, s0, s1, t0, t1⟩ : ∃ s t : Int,
      Hid (∀ w, Calls Try.prog 9 #[.int .i64 3, .int .i64 (m - 32768), .int .i64 (k - 32768)] w fun e w' => e = .returned (.tuple #[.int .i64 s, .int .i64 0]) ∧ w' = w) ∧
      Hid (∀ w, Calls Try.prog 9 #[.int .i64 4, .int .i64 (m - 32768), .int .i64 (k - 32768)] w fun e w' => e = .returned (.tuple #[.int .i64 t, .int .i64 0]) ∧ w' = w) ∧
      (s == 1) = (m - 32768 == k - 32768) ∧ (t == 1) = decide (m < k) ∧ decide (s ≤ 1) = true ∧ decide (t ≤ 1) = true ∧ 0 ≤ s ∧ s ≤ 1 ∧ 0 ≤ t ∧ t ≤ 1 := by
    rcases Int.lt_trichotomy m k with h | h | h
    · exact ⟨0, 1, fun w => eq0 _ _ w hx hy (by omega), fun w => less1 _ _ w hx hy (by omega), by simp; omega, by simp; omega, by decide, by decide, by decide, by decide, by decide, by decide⟩
    · exact ⟨1, 0, fun w => eq1 _ _ w hx hy (by omega), fun w => less0 _ _ w hx hy (by omega), by simp; omega, by simp; omega, by decide, by decide, by decide, by decide, by decide, by decide⟩
    · exact ⟨0, 0, fun w => eq0 _ _ w hx hy (by omega), fun w => less0 _ _ w hx hy (by omega), by simp; omega, by simp; omega, by decide, by decide, by decide, by decide, by decide, by decide⟩
  go_enter Try.func4, Try.ntmps4
  go_wp2_with fail
  refine (awake_any _).mono ?_
  rintro e w' ⟨rfl, rfl⟩
  go_wp2_with fail
  refine (hp.out _).mono ?_
  rintro e w' ⟨rfl, rfl⟩
  go_wp2_with fail
  refine (hq.out _).mono ?_
  rintro e w' ⟨rfl, rfl⟩
  go_wp2_with fail
  refine (hr.out _).mono ?_
  rintro e w' ⟨rfl, rfl⟩
  go_wp2_with fail
  refine (hs.out _).mono ?_
  rintro e w' ⟨rfl, rfl⟩
  go_wp2_with fail
  refine (ht.out _).mono ?_
  rintro e w' ⟨rfl, rfl⟩
  go_wp2_with (first | (go_at_call 11; refine (num_any _ _).mono ?_; rintro e w' ⟨rfl, rfl⟩) | (go_at_call 12; refine (may_any _ _).mono ?_; rintro e w' ⟨rfl, rfl⟩))
  go_ret
  exact ⟨rfl, Grown.refl _⟩

/- The row's step. -/
set_option maxRecDepth 100000 in
theorem lifted (os : Os) (started : os.Started) (H : Type) (enc : TypeId × Value → H) :
    ReturnsInHanded {} Try.checked os 4 .any (Rows.primWrapsSpec.pre6 enc Try.prog Try.f4 Rows.primWrapsRow.domain false) (Rows.primWrapsSpec.post enc Try.prog Try.f4 false true false false) := by
  refine returnsInHanded_of_change (C := Try.checked) own started (by kernel_rfl) Try.func4
    (ChangeSpec.witness6 (enc := enc) (C := Try.checked) false ⟨#[], #[.int .i64 0, .int .i64 0], []⟩ 8 (by kernel_rfl) (by kernel_rfl) (by kernel_rfl) (by kernel_rfl)) ?_
  intro W base args ds gs before hval0 hW hcnd _
  have hval : ∀ (j : Nat) t v, Try.f4.params[j]? = some t → args[j]? = some v → Value.okWide Try.prog W .any base t v := hval0
  have hW' := hW
  obtain ⟨p, q, hA0, hV, rfl, hfz, hnd⟩ := hW
  have hA : DataW.TrodAll enc Try.prog W 0 (fun _ => true) true Try.f4.params.toList args.toList ds p := hA0
  rw [Try.params4] at hA hval
  obtain ⟨v0, vs0, d0, ds0, p0, q0, hargs, rfl, rfl, h0, r0⟩ := trodAll_cons hA
  obtain ⟨v1, vs1, d1, ds1, p1, q1, rfl, rfl, rfl, h1, r1⟩ := trodAll_cons r0
  obtain ⟨rfl, rfl, rfl⟩ := trodAll_nil r1
  obtain rfl : args = #[v0, v1] := by cases args; simp_all
  obtain ⟨rfl, rfl⟩ := trodVars_none hV
  obtain ⟨a0, rfl, rfl, rfl, w0⟩ := open_int Try.underlying3 (hval 0 3 v0 rfl rfl) h0
  obtain ⟨a1, rfl, rfl, rfl, w1⟩ := open_int Try.underlying3 (hval 1 3 v1 rfl rfl) h1
  clear hA0 hval0
  simp only [List.append_nil] at hW'
  refine (walk a0 a1 w0 w1 W).mono fun e W' ⟨he, hg⟩ => ?_
  subst he
  exact ⟨_, rfl, post_of_same (pa := []) (pv := []) hW' (fun _ _ _ => (trodAll_cons_mk (shut_bool Try.underlying4 _) trodAll_mk0)) (fun sp _ => (trodAll_cons_mk (shut_int Try.underlying3 w0) (trodAll_cons_mk (shut_int Try.underlying3 w1) trodAll_mk0))) (fun _ _ => rfl) rfl
    (hg.frame _) hg.2.1 (ok_one (by kernel_rfl) rfl (okWide_bool_mk Try.underlying4 _))⟩

theorem over : Rows.primWrapsRow.holds Try.pinned (OpenSpec.ofChange Rows.primWrapsSpec) :=
  OpenClaim.holds_of_wide 4 Try.f4 rfl rfl rfl rfl rfl rfl rfl ⟨rfl, rfl, rfl, rfl, rfl⟩ rfl rfl rfl rfl rfl (by kernel_rfl) Try.func4 (by kernel_rfl)
    (of_decide_eq_true (by kernel_rfl)) (by unfold Func.isWrapper; first | (rw [if_pos (by decide +kernel)]; kernel_rfl) | (rw [if_neg (by decide +kernel)]; exact ⟨rfl, rfl⟩))
    (fun os started H enc _ => lifted os started H enc)

/-- The given statement. -/
theorem proved : Rows.PrimWrapsSaid :=
  over
end Go.Proofs.Ytehjekjbiipjmaa.primWraps
namespace Go.Proofs.Ytehjekjbiipjmaa
theorem primWraps_holds : Rows.PrimWrapsSaid := primWraps.proved
end Go.Proofs.Ytehjekjbiipjmaa
