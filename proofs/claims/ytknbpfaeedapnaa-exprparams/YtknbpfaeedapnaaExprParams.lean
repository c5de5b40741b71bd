/- sleuthlaw5.ExprParams returns true at every input: with a parameter more both answers are the same, as long as there are levels; the input is as it was. No condition. -/
import Derived.Test.YtknbpfaeedapnaaBody
import Derived.Test.YtknbpfaeedapnaaRDef
import Derived.Test.YtknbpfaeedapnaaOpen
import Derived.Deep.RegionHeld3
import Derived.WalkKit
import Derived.ProofKit
import Derived.OpenShut
namespace Go.Proofs.Ytknbpfaeedapnaa.exprParams
open Go.ChangeShapes Go.WideShapes Go.ChangeAt Go.RowKit
set_option linter.unusedVariables false

theorem own : ownKnob Try.prog.godebug = none := by kernel_rfl

theorem keep2_drew {w0 wc : World} {p q : Addr} {x y : Value} (h : Below w0.heap.size w0 wc ∧ wc.cell? p = some x ∧ wc.cell? q = some y) : Below w0.heap.size w0 wc.drew ∧ wc.drew.cell? p = some x ∧ wc.drew.cell? q = some y :=
  ⟨h.1.drew, h.2.1, h.2.2⟩
theorem keep2_next {w0 wc w' : World} {p q : Addr} {x y : Value} (h : Below w0.heap.size w0 wc ∧ wc.cell? p = some x ∧ wc.cell? q = some y) (hb : Below wc.heap.size wc w') : Below w0.heap.size w0 w' ∧ w'.cell? p = some x ∧ w'.cell? q = some y :=
  ⟨below_next h.1 hb, by rw [hb.cell (World.block_lt_of_cell? wc p h.2.1)]; exact h.2.1, by rw [hb.cell (World.block_lt_of_cell? wc q h.2.2)]; exact h.2.2⟩
/-- Both answers for one definition, wherever it has been carried to. -/
theorem both {p : Int} {g : Option Addr} {c : Nat} {xs : List Ex} {w : World} (hx : Exs w g xs) : ∃ M : Bool, may p xs = M ∧
    (∀ W, Below w.heap.size w W → Calls Try.prog 9 #[.agg #[.int .i64 p, .slice g xs.length c]] W fun e w' => e = .returned (.bool M) ∧ Below W.heap.size W w') ∧
    (∀ W, Below w.heap.size w W → Calls Try.prog 10 #[.agg #[.int .i64 p, .slice g xs.length c]] W fun e w' => e = .returned (.bool M) ∧ Below W.heap.size W w') :=
  ⟨may p xs, rfl, fun W h => may_any p g c xs W (hx.on h), fun W h => by rw [may_rmay]; exact defmay_any p g c xs W (hx.on h)⟩

set_option maxRecDepth 100000 in
set_option maxHeartbeats 1600000 in
/-- The walk: the law's Go text returns true. -/
theorem walk (p : Int) (g : Option Addr) (c : Nat) (xs : List Ex) (w : World) (hx : Exs w g xs) :
    Calls Try.prog 7 #[.agg #[.int .i64 p, .slice g xs.length c]] w fun e w' => e = .returned (.bool true) ∧ Below w.heap.size w w' := by
  go_enter Try.func7, Try.ntmps7
  go_wp2_with fail
  refine (awake_any _).mono ?_
  rintro e w1 ⟨rfl, hb1⟩
  have hX1 := (Bx2.new w p (.slice g xs.length c)).on hb1
  have h01 : Below w.heap.size w w1 := ((Below.refl _ w).alloc (Nat.le_refl _) _).trans (hb1.mono (by simp))
  have c0 := hX1.c0
  have c1 := hX1.c1
  have hz := hX1.lt
  have HX : Hid (Bx2 w1 w.heap.size p (.slice g xs.length c)) := hX1
  have H01 : Hid (Below w.heap.size w w1) := h01
  clear hX1 h01 hb1
  go_wp2_with fail
  obtain ⟨q, hq⟩ : ∃ q, wrap64 (p + 1) = q := ⟨_, rfl⟩
  rw [hq]
  have hXa := HX.out.alloc (.cells #[.int .i64 q, .slice g xs.length c] 24)
  have hXb := Bx2.new w1 q (.slice g xs.length c)
  have h02 : Below w.heap.size w (w1.alloc (.cells #[.int .i64 q, .slice g xs.length c] 24)) := H01.out.alloc H01.out.size _
  obtain ⟨w2, hw2⟩ : ∃ w2, w1.alloc (.cells #[.int .i64 q, .slice g xs.length c] 24) = w2 := ⟨_, rfl⟩
  rw [hw2] at hXa hXb h02 ⊢
  clear hw2 hq c0 c1 HX H01
  have hx2 := hx.on h02
  obtain ⟨M, HM, mM, dM⟩ := both (p := p) (c := c) hx2
  obtain ⟨N, HN, mN, dN⟩ := both (p := q) (c := c) hx2
  clear HM HN
  refine (mM w2 (Below.refl _ _)).mono ?_
  rintro e w3 ⟨rfl, hb3⟩
  have hXa3 := hXa.on hb3
  have hXb3 := hXb.on hb3
  have h03 := below_next h02 hb3
  have a0 := hXa3.c0
  have a1 := hXa3.c1
  have b0 := hXb3.c0
  have b1 := hXb3.c1
  have H03 : Hid (Below w.heap.size w w3) := h03
  have HB3 : Hid (Below w2.heap.size w2 w3) := hb3
  clear hXa hXb hXa3 hXb3 h02 h03 hb3 hx hx2 hz
  cases M with
  | false =>
    go_wp2_with fail
    go_region_held3 (fun w' => Below w3.heap.size w3 w' ∧ w'.cell? ⟨w.heap.size, 0, none⟩ = some (.int .i64 p) ∧ w'.cell? ⟨w.heap.size, 1, none⟩ = some (.slice g xs.length c)) (first | assumption | (exact keep2_drew (by first | assumption | exact ⟨Below.refl _ _, by assumption, by assumption⟩)) | (exact keep2_next (by assumption) (by assumption)))
      (first | (go_at_call 9; refine (mM _ (below_next HB3.out (And.left (by assumption)))).mono ?_; rintro e w4 ⟨rfl, hb4⟩) | (go_at_call 10; refine (dM _ (below_next HB3.out (And.left (by assumption)))).mono ?_; rintro e w5 ⟨rfl, hb5⟩))
    all_goals
      have h05 : Below w.heap.size w w5 := below_next H03.out (And.left (by assumption))
      go_wp2_with fail
      go_ret
      exact ⟨rfl, h05⟩
  | true =>
    by_cases h3 : 3 ≤ p
    · have d3 : decide (3 ≤ p) = true := decide_eq_true h3
      go_wp2_with fail
      go_region_held3 (fun w' => Below w3.heap.size w3 w' ∧ w'.cell? ⟨w.heap.size, 0, none⟩ = some (.int .i64 p) ∧ w'.cell? ⟨w.heap.size, 1, none⟩ = some (.slice g xs.length c)) (first | assumption | (exact keep2_drew (by first | assumption | exact ⟨Below.refl _ _, by assumption, by assumption⟩)) | (exact keep2_next (by assumption) (by assumption)))
        (first | (go_at_call 9; refine (mM _ (below_next HB3.out (And.left (by assumption)))).mono ?_; rintro e w4 ⟨rfl, hb4⟩) | (go_at_call 10; refine (dM _ (below_next HB3.out (And.left (by assumption)))).mono ?_; rintro e w5 ⟨rfl, hb5⟩))
      all_goals
        have h05 : Below w.heap.size w w5 := below_next H03.out (And.left (by assumption))
        go_wp2_with fail
        go_ret
        exact ⟨rfl, h05⟩
    · have d3 : decide (3 ≤ p) = false := decide_eq_false h3
      have hNN : (N == N) = true := by simp
      have hfd : ∀ (b : Nat) (W : World), (Instr.field 24 (.agg #[.int .i64 2, .slice (some ⟨b, 0, none⟩) 8 8]) 1).run Try.prog W = .ok (.slice (some ⟨b, 0, none⟩) 8 8) W := fun _ _ => by kernel_rfl
      go_wp2_with fail
      go_region_held3 (fun w' => Below w3.heap.size w3 w' ∧ w'.cell? ⟨w1.heap.size, 0, none⟩ = some (.int .i64 q) ∧ w'.cell? ⟨w1.heap.size, 1, none⟩ = some (.slice g xs.length c)) (first | assumption | (exact keep2_drew (by first | assumption | exact ⟨Below.refl _ _, by assumption, by assumption⟩)) | (exact keep2_next (by assumption) (by assumption)))
        (first | (go_at_call 9; refine (mN _ (below_next HB3.out (And.left (by assumption)))).mono ?_; rintro e w4 ⟨rfl, hb4⟩) | (go_at_call 10; refine (dN _ (below_next HB3.out (And.left (by assumption)))).mono ?_; rintro e w5 ⟨rfl, hb5⟩) | (go_at_call 14; refine (num_any _ _).mono ?_; rintro e w6 ⟨rfl, rfl⟩) | (go_at_call 13; refine (adds_any _).mono ?_; rintro e w7 ⟨rfl, _, hb7, _⟩))
      all_goals
        have h05 : Below w.heap.size w w7 := below_next H03.out (And.left (by assumption))
        go_wp2_with fail
        go_ret
        exact ⟨rfl, h05⟩

/- The row's step. -/
set_option maxRecDepth 100000 in
theorem lifted (os : Os) (started : os.Started) (H : Type) (enc : TypeId × Value → H) :
    ReturnsInHanded {} Try.checked os 7 .any (Rows.exprParamsSpec.pre6 enc Try.prog Try.f7 Rows.exprParamsRow.domain false) (Rows.exprParamsSpec.post enc Try.prog Try.f7 false true false false) := by
  refine returnsInHanded_of_change_sized (C := Try.checked) own started (by kernel_rfl) Try.func7
    (ChangeSpec.witness6 (enc := enc) (C := Try.checked) false ⟨#[], #[.agg #[.int .i64 0, .slice none 0 0]], []⟩ 8 (by kernel_rfl) (by kernel_rfl) (by kernel_rfl) (by kernel_rfl)) ?_
  intro W base args ds gs before hval0 hW hcnd hsz _
  have hval : ∀ (j : Nat) t v, Try.f7.params[j]? = some t → args[j]? = some v → Value.okWide Try.prog W .any base t v := hval0
  have hW' := hW
  obtain ⟨p, q, hA0, hV, rfl, hfz, hnd⟩ := hW
  have hA : DataW.TrodAll enc Try.prog W 0 (fun _ => true) true Try.f7.params.toList args.toList ds p := hA0
  rw [Try.params7] at hA hval
  obtain ⟨v0, vs0, d0, ds0, p0, q0, hargs, rfl, rfl, h0, r0⟩ := trodAll_cons hA
  obtain ⟨rfl, rfl, rfl⟩ := trodAll_nil r0
  obtain rfl : args = #[v0] := by cases args; simp_all
  obtain ⟨rfl, rfl⟩ := trodVars_none hV
  obtain ⟨pp, g, xs, c, rfl, hx, hb, hk⟩ := open_def (j := 0) (hval 0 24 v0 rfl rfl) h0 hsz rfl rfl
  clear hA0 hval0
  simp only [List.append_nil] at hW'
  have hlt0 : ∀ x ∈ p0, x.block < W.heap.size := fun x hx => by simpa using hW'.lt x hx
  refine (walk pp g c xs W hx.exs).mono fun e W' ⟨he, hg⟩ => ?_
  subst he
  exact ⟨_, rfl, _, _, _, [], (p0 ++ []), [], hW', trodAll_cons_mk (shut_bool Try.underlying4 _) trodAll_mk0, trodAll_cons_mk (Below.trod laidOut (by kernel_rfl) (of_decide_eq_true (by kernel_rfl)) h0 hg hlt0) trodAll_mk0, rfl, hg.frame _, fun h => by cases h⟩

theorem over : Rows.exprParamsRow.holds Try.pinned (OpenSpec.ofChange Rows.exprParamsSpec) :=
  OpenClaim.holds_of_wide 7 Try.f7 rfl rfl rfl rfl rfl rfl rfl ⟨rfl, rfl, rfl, rfl, rfl⟩ rfl rfl rfl rfl rfl (by kernel_rfl) Try.func7 (by kernel_rfl)
    (of_decide_eq_true (by kernel_rfl)) (by unfold Func.isWrapper; first | (rw [if_pos (by decide +kernel)]; kernel_rfl) | (rw [if_neg (by decide +kernel)]; exact ⟨rfl, rfl⟩))
    (fun os started H enc _ => lifted os started H enc)

/-- The given statement. -/
theorem proved : Rows.ExprParamsSaid :=
  over
end Go.Proofs.Ytknbpfaeedapnaa.exprParams
namespace Go.Proofs.Ytknbpfaeedapnaa
theorem exprParams_holds : Rows.ExprParamsSaid := exprParams.proved
end Go.Proofs.Ytknbpfaeedapnaa
