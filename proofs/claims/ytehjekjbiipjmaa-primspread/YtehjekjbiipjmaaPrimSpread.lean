/- Whatever the ints a, b and c are, of the three numbers taken from them: the first's product with the sum of the others is the sum of its products with each, in range; there is no condition. -/
import Derived.Test.YtehjekjbiipjmaaShare
import Derived.WalkKit
import Derived.ProofKit
import Derived.OpenShut
namespace Go.Proofs.Ytehjekjbiipjmaa.primSpread
open Go.ChangeShapes Go.WideShapes Go.ChangeAt Go.RowKit
set_option linter.unusedVariables false

theorem own : ownKnob Try.prog.godebug = none := by kernel_rfl

/-- Two numbers that differ by a multiple of 65536 are brought to one. -/
theorem into_congr {x y : Int} (h : ∃ k, x = y + 65536 * k) : into x = into y := by
  obtain ⟨k, rfl⟩ := h
  unfold into; omega

/-- What is brought into range differs by a multiple of 65536. -/
theorem into_off (x : Int) : ∃ k, into x = x + 65536 * k := ⟨-((x + 32768) / 65536), by unfold into; omega⟩

/-- A product with a sum is the products' sum, in range. -/
theorem spread_into (x y z : Int) : into (into (x * y) + into (x * z)) = into (x * into (y + z)) := by
  obtain ⟨a, ha⟩ := into_off (x * y)
  obtain ⟨b, hb⟩ := into_off (x * z)
  obtain ⟨c, hc⟩ := into_off (y + z)
  rw [ha, hb, hc]
  refine into_congr ⟨a + b - x * c, ?_⟩
  have e : x * (y + z + 65536 * c) = x * y + x * z + 65536 * (x * c) := by
    rw [Int.mul_add, Int.mul_add, Int.mul_left_comm]
  rw [e, Int.mul_sub, Int.mul_add]; omega

/-- The five calls. -/
theorem spreads (x y z : Int) (hx : mayB x = true) (hy : mayB y = true) (hz : mayB z = true) : ∃ s p q r : Int,
    Hid (∀ w, Calls Try.prog 9 #[.int .i64 0, .int .i64 y, .int .i64 z] w fun e w' => e = .returned (.tuple #[.int .i64 s, .int .i64 0]) ∧ w' = w) ∧
    Hid (∀ w, Calls Try.prog 9 #[.int .i64 2, .int .i64 x, .int .i64 s] w fun e w' => e = .returned (.tuple #[.int .i64 p, .int .i64 0]) ∧ w' = w) ∧
    Hid (∀ w, Calls Try.prog 9 #[.int .i64 2, .int .i64 x, .int .i64 y] w fun e w' => e = .returned (.tuple #[.int .i64 q, .int .i64 0]) ∧ w' = w) ∧
    Hid (∀ w, Calls Try.prog 9 #[.int .i64 2, .int .i64 x, .int .i64 z] w fun e w' => e = .returned (.tuple #[.int .i64 r, .int .i64 0]) ∧ w' = w) ∧
    Hid (∀ w, Calls Try.prog 9 #[.int .i64 0, .int .i64 q, .int .i64 r] w fun e w' => e = .returned (.tuple #[.int .i64 p, .int .i64 0]) ∧ w' = w) := by
  refine ⟨into (y + z), into (x * into (y + z)), into (x * y), into (x * z), fun w => do_add y z w hy hz, fun w => do_mul x _ w hx (into_may _), fun w => do_mul x y w hx hy, fun w => do_mul x z w hx hz, fun w => ?_⟩
  have c := do_add (into (x * y)) (into (x * z)) w (into_may _) (into_may _)
  rw [spread_into] at c; exact c


/- The walk: the law's Go text returns true. -/
theorem walk (a0 : Int) (a1 : Int) (a2 : Int) (w0 : (Lit.int .i64 a0).wf = true) (w1 : (Lit.int .i64 a1).wf = true) (w2 : (Lit.int .i64 a2).wf = true) (w : World) :
    Calls Try.prog 8 #[.int .i64 a0, .int .i64 a1, .int .i64 a2] w fun e w' => e = .returned (.bool true) ∧ Grown w w' := by
  obtain ⟨m, hm, m0, m1⟩ := low16 a0
  obtain ⟨k, hk, k0, k1⟩ := low16 a1
  obtain ⟨j, hj, j0, j1⟩ := low16 a2
  have hx : mayB (m - 32768) = true := may_mk (by omega) (by omega)
  have hy : mayB (k - 32768) = true := may_mk (by omega) (by omega)
  have hz : mayB (j - 32768) = true := may_mk (by omega) (by omega)
  obtain ⟨s, p, q, r, hs, hp, hq, hr, ht⟩ := spreads (m - 32768) (k - 32768) (j - 32768) hx hy hz
  go_enter Try.func8, Try.ntmps8
  go_wp2_with fail
  refine (awake_any _).mono ?_
  rintro e w' ⟨rfl, rfl⟩
  go_wp2_with fail
  refine (hs.out _).mono ?_
  rintro e w' ⟨rfl, rfl⟩
  go_wp2_with fail
  refine (hp.out _).mono ?_
  rintro e w' ⟨rfl, rfl⟩
  go_wp2_with fail
  refine (hq.out _).mono ?_
  rintro e w' ⟨rfl, rfl⟩
  go_wp2_with fail
  refine (hr.out _).mono ?_
  rintro e w' ⟨rfl, rfl⟩
  go_wp2_with fail
  refine (ht.out _).mono ?_
  rintro e w' ⟨rfl, rfl⟩
  go_wp2_with (go_at_call 11; refine (num_any _ _).mono ?_; rintro e w' ⟨rfl, rfl⟩)
  go_ret
  exact ⟨rfl, Grown.refl _⟩

/- The row's step. -/
set_option maxRecDepth 100000 in
theorem lifted (os : Os) (started : os.Started) (H : Type) (enc : TypeId × Value → H) :
    ReturnsInHanded {} Try.checked os 8 .any (Rows.primSpreadSpec.pre6 enc Try.prog Try.f8 Rows.primSpreadRow.domain false) (Rows.primSpreadSpec.post enc Try.prog Try.f8 false true false false) := by
  refine returnsInHanded_of_change (C := Try.checked) own started (by kernel_rfl) Try.func8
    (ChangeSpec.witness6 (enc := enc) (C := Try.checked) false ⟨#[], #[.int .i64 0, .int .i64 0, .int .i64 0], []⟩ 8 (by kernel_rfl) (by kernel_rfl) (by kernel_rfl) (by kernel_rfl)) ?_
  intro W base args ds gs before hval0 hW hcnd _
  have hval : ∀ (j : Nat) t v, Try.f8.params[j]? = some t → args[j]? = some v → Value.okWide Try.prog W .any base t v := hval0
  have hW' := hW
  obtain ⟨p, q, hA0, hV, rfl, hfz, hnd⟩ := hW
  have hA : DataW.TrodAll enc Try.prog W 0 (fun _ => true) true Try.f8.params.toList args.toList ds p := hA0
  rw [Try.params8] at hA hval
  obtain ⟨v0, vs0, d0, ds0, p0, q0, hargs, rfl, rfl, h0, r0⟩ := trodAll_cons hA
  obtain ⟨v1, vs1, d1, ds1, p1, q1, rfl, rfl, rfl, h1, r1⟩ := trodAll_cons r0
  obtain ⟨v2, vs2, d2, ds2, p2, q2, rfl, rfl, rfl, h2, r2⟩ := trodAll_cons r1
  obtain ⟨rfl, rfl, rfl⟩ := trodAll_nil r2
  obtain rfl : args = #[v0, v1, v2] := by cases args; simp_all
  obtain ⟨rfl, rfl⟩ := trodVars_none hV
  obtain ⟨a0, rfl, rfl, rfl, w0⟩ := open_int Try.underlying3 (hval 0 3 v0 rfl rfl) h0
  obtain ⟨a1, rfl, rfl, rfl, w1⟩ := open_int Try.underlying3 (hval 1 3 v1 rfl rfl) h1
  obtain ⟨a2, rfl, rfl, rfl, w2⟩ := open_int Try.underlying3 (hval 2 3 v2 rfl rfl) h2
  clear hA0 hval0
  simp only [List.append_nil] at hW'
  refine (walk a0 a1 a2 w0 w1 w2 W).mono fun e W' ⟨he, hg⟩ => ?_
  subst he
  exact ⟨_, rfl, post_of_same (pa := []) (pv := []) hW' (fun _ _ _ => (trodAll_cons_mk (shut_bool Try.underlying4 _) trodAll_mk0)) (fun sp _ => (trodAll_cons_mk (shut_int Try.underlying3 w0) (trodAll_cons_mk (shut_int Try.underlying3 w1) (trodAll_cons_mk (shut_int Try.underlying3 w2) trodAll_mk0)))) (fun _ _ => rfl) rfl
    (hg.frame _) hg.2.1 (ok_one (by kernel_rfl) rfl (okWide_bool_mk Try.underlying4 _))⟩

theorem over : Rows.primSpreadRow.holds Try.pinned (OpenSpec.ofChange Rows.primSpreadSpec) :=
  OpenClaim.holds_of_wide 8 Try.f8 rfl rfl rfl rfl rfl rfl rfl ⟨rfl, rfl, rfl, rfl, rfl⟩ rfl rfl rfl rfl rfl (by kernel_rfl) Try.func8 (by kernel_rfl)
    (of_decide_eq_true (by kernel_rfl)) (by unfold Func.isWrapper; first | (rw [if_pos (by decide +kernel)]; kernel_rfl) | (rw [if_neg (by decide +kernel)]; exact ⟨rfl, rfl⟩))
    (fun os started H enc _ => lifted os started H enc)

/-- The given statement. -/
theorem proved : Rows.PrimSpreadSaid :=
  over
end Go.Proofs.Ytehjekjbiipjmaa.primSpread
namespace Go.Proofs.Ytehjekjbiipjmaa
theorem primSpread_holds : Rows.PrimSpreadSaid := primSpread.proved
end Go.Proofs.Ytehjekjbiipjmaa
