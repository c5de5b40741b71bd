/- sleuthlaw6.Programs returns true at every input: May answers for a copy what the document asks of the program, and the copy stays as it is; the input is as it was. No condition but the row's own: no list that comes in takes more than 2^47 - 4096 bytes. -/
import Derived.Test.YtiobjkmpeiohdaaCopyP
import Derived.Test.YtiobjkmpeiohdaaRProg
import Derived.Test.YtiobjkmpeiohdaaSameP
import Derived.WalkKit
import Derived.ProofKit
import Derived.OpenShut
namespace Go.Proofs.Ytiobjkmpeiohdaa.programs
open Go.ChangeShapes Go.WideShapes Go.ChangeAt Go.RowKit
set_option linter.unusedVariables false

theorem own : ownKnob Try.prog.godebug = none := by kernel_rfl

theorem keep2_drew {w0 wc : World} {p0 q0 : Addr} {x0 y0 : Value} (h : Below w0.heap.size w0 wc ∧ wc.cell? p0 = some x0 ∧ wc.cell? q0 = some y0) :
    Below w0.heap.size w0 wc.drew ∧ wc.drew.cell? p0 = some x0 ∧ wc.drew.cell? q0 = some y0 := ⟨h.1.drew, h.2⟩
theorem keep2_next {w0 wc w' : World} {p0 q0 : Addr} {x0 y0 : Value} (h : Below w0.heap.size w0 wc ∧ wc.cell? p0 = some x0 ∧ wc.cell? q0 = some y0) (hb : Below wc.heap.size wc w') :
    Below w0.heap.size w0 w' ∧ w'.cell? p0 = some x0 ∧ w'.cell? q0 = some y0 := by
  obtain ⟨h0, h1, h2⟩ := h
  exact ⟨below_next h0 hb, cell_next h1 hb, cell_next h2 hb⟩

set_option maxRecDepth 100000 in
set_option maxHeartbeats 1600000 in
/-- The walk: the law's Go text returns true. -/
theorem walk (g : Option Addr) (c : Nat) (ds : List Df) (w : World) (hd : Defs ExsN w g ds) (hb : ds.length * 32 ≤ 140737488351232) (hk : ∀ d ∈ ds, DBd d) :
    Calls Try.prog 3 #[.agg #[.slice g ds.length c]] w fun e w' => e = .returned (.bool true) ∧ Below w.heap.size w w' := by
  have HN : Hid (ds.length ≤ 4611686018427387904 ∧ ∀ d ∈ ds, d.body.length ≤ 4611686018427387904 ∧ ∀ x ∈ d.body, x.kids.length ≤ 4611686018427387904) := by
    refine ⟨by omega, fun d h => ?_⟩
    have h1 : d.body.length * 48 ≤ 140737488351232 := (hk d h).1
    refine ⟨by omega, fun x hx => ?_⟩
    have h2 : x.kids.length * 8 ≤ 140737488351232 := (hk d h).2 x hx
    omega
  have ha : Below w.heap.size w (w.alloc (.cells #[.slice g ds.length c] 24)) := (Below.refl _ w).alloc (Nat.le_refl _) _
  have hcp := copyprog_any g c ds _ (hd.onE (E' := ExsN) ha (fun _ _ k => k.on ha)) hb hk
  have hdx : Defs Exs (w.alloc (.cells #[.slice g ds.length c] 24)) g ds := hd.onE ha (fun _ _ k => k.exs.on ha)
  go_enter Try.func3, Try.ntmps3
  go_wp2_with fail
  refine hcp.mono ?_
  rintro e w1 ⟨g1, c1, rfl, ⟨qs, hqs, hql, hP1, _, _⟩, hb1⟩
  have hX1 := (Bx1.new w (.slice g ds.length c)).on hb1
  have h01 := below_next ha hb1
  have hx1 := hdx.on hb1
  have hE1 : Defs Exs w1 g1 ds := by
    have h := hP1
    rw [← hql] at h
    have h := h.defs
    rwa [hqs] at h
  have x0 := hX1.c0
  have hz := hX1.lt
  clear hb1 ha hd hdx hb hk hcp hP1 hqs hql
  go_wp2_with fail
  have hXa := hX1.alloc (.cells #[.slice g1 ds.length c1] 24)
  have hXb := Bx1.new w1 (.slice g1 ds.length c1)
  have h12 : Below w1.heap.size w1 (w1.alloc (.cells #[.slice g1 ds.length c1] 24)) := (Below.refl _ w1).alloc (Nat.le_refl _) _
  have h02 := below_next h01 h12
  have hx2 := hx1.on h12
  have hE2 := hE1.on h12
  obtain ⟨w2, hw2⟩ : ∃ w2, w1.alloc (.cells #[.slice g1 ds.length c1] 24) = w2 := ⟨_, rfl⟩
  rw [hw2] at hXa hXb h12 h02 hx2 hE2 ⊢
  have a0 := hXa.c0
  have b0 := hXb.c0
  clear hw2 h12 h01 hx1 hE1 hXa hXb x0 hX1 hz
  obtain ⟨M, hM⟩ : ∃ M, pmay ds = M := ⟨_, rfl⟩
  have mM : ∀ W, Below w2.heap.size w2 W → Calls Try.prog 8 #[.agg #[.slice g1 ds.length c1]] W fun e w' => e = .returned (.bool M) ∧ Below W.heap.size W w' := fun W h => by
    rw [← hM]; exact pmay_any g1 c1 ds W (hE2.on h)
  have dM : ∀ W, Below w2.heap.size w2 W → Calls Try.prog 9 #[.agg #[.slice g ds.length c]] W fun e w' => e = .returned (.bool M) ∧ Below W.heap.size W w' := fun W h => by
    rw [← hM]; exact rprog_any g c ds W (hx2.on h)
  have sM : ∀ W, Below w2.heap.size w2 W → Calls Try.prog 10 #[.agg #[.slice g1 ds.length c1], .agg #[.slice g ds.length c]] W fun e w' => e = .returned (.bool true) ∧ Below W.heap.size W w' := fun W h =>
    program_same g1 g ds c1 c W (hE2.on h) (hx2.on h) HN.out.1 HN.out.2
  have hMM : (M == M) = true := by simp
  have H02 : Hid (Below w.heap.size w w2) := h02
  clear hM hx2 hE2 h02 HN
  go_wp2_with fail
  go_region_held3 (fun w' => Below w2.heap.size w2 w' ∧ w'.cell? ⟨w.heap.size, 0, none⟩ = some (.slice g ds.length c) ∧ w'.cell? ⟨w1.heap.size, 0, none⟩ = some (.slice g1 ds.length c1))
    (first | assumption | (exact keep2_drew (by first | assumption | exact ⟨Below.refl _ _, a0, b0⟩)) | (exact keep2_next (by assumption) (by assumption)))
    (first | (go_at_call 8; refine (mM _ (And.left (by assumption))).mono ?_; rintro e w4 ⟨rfl, hb4⟩) | (go_at_call 9; refine (dM _ (And.left (by assumption))).mono ?_; rintro e w5 ⟨rfl, hb5⟩) | (go_at_call 10; refine (sM _ (And.left (by assumption))).mono ?_; rintro e w6 ⟨rfl, hb6⟩) | (go_at_call 11; refine (awake_any _).mono ?_; rintro e w7 ⟨rfl, hb7⟩))
  all_goals
    have h07 : Below w.heap.size w w7 := below_next H02.out (And.left (by assumption))
    go_wp2_with fail
    go_ret
    exact ⟨rfl, h07⟩

/- The row's step. -/
set_option maxRecDepth 100000 in
theorem lifted (os : Os) (started : os.Started) (H : Type) (enc : TypeId × Value → H) :
    ReturnsInHanded {} Try.checked os 3 .any (Rows.programsSpec.pre6 enc Try.prog Try.f3 Rows.programsRow.domain false) (Rows.programsSpec.post enc Try.prog Try.f3 false true false false) := by
  refine returnsInHanded_of_change_sized (C := Try.checked) own started (by kernel_rfl) Try.func3
    (ChangeSpec.witness6 (enc := enc) (C := Try.checked) false ⟨#[], #[.agg #[.slice none 0 0]], []⟩ 8 (by kernel_rfl) (by kernel_rfl) (by kernel_rfl) (by kernel_rfl)) ?_
  intro W base args ds gs before hval0 hW hcnd hsz _
  have hval : ∀ (j : Nat) t v, Try.f3.params[j]? = some t → args[j]? = some v → Value.okWide Try.prog W .any base t v := hval0
  have hW' := hW
  obtain ⟨p, q, hA0, hV, rfl, hfz, hnd⟩ := hW
  have hA : DataW.TrodAll enc Try.prog W 0 (fun _ => true) true Try.f3.params.toList args.toList ds p := hA0
  rw [Try.params3] at hA hval
  obtain ⟨v0, vs0, d0, ds0, p0, q0, hargs, rfl, rfl, h0, r0⟩ := trodAll_cons hA
  obtain ⟨rfl, rfl, rfl⟩ := trodAll_nil r0
  obtain rfl : args = #[v0] := by cases args; simp_all
  obtain ⟨rfl, rfl⟩ := trodVars_none hV
  obtain ⟨g, fs, c, rfl, hx, hb, hk⟩ := open_program (j := 0) (hval 0 24 v0 rfl rfl) h0 hsz rfl rfl
  clear hA0 hval0
  simp only [List.append_nil] at hW'
  have hlt0 : ∀ x ∈ p0, x.block < W.heap.size := fun x hx => by simpa using hW'.lt x hx
  refine (walk g c fs W hx hb hk).mono fun e W' ⟨he, hg⟩ => ?_
  subst he
  exact ⟨_, rfl, _, _, _, [], (p0 ++ []), [], hW', trodAll_cons_mk (shut_bool Try.underlying4 _) trodAll_mk0, trodAll_cons_mk (Below.trod laidOut (by kernel_rfl) (of_decide_eq_true (by kernel_rfl)) h0 hg hlt0) trodAll_mk0, rfl, hg.frame _, fun h => by cases h⟩

theorem over : Rows.programsRow.holds Try.pinned (OpenSpec.ofChange Rows.programsSpec) :=
  OpenClaim.holds_of_wide 3 Try.f3 rfl rfl rfl rfl rfl rfl rfl ⟨rfl, rfl, rfl, rfl, rfl⟩ rfl rfl rfl rfl rfl (by kernel_rfl) Try.func3 (by kernel_rfl)
    (of_decide_eq_true (by kernel_rfl)) (by unfold Func.isWrapper; first | (rw [if_pos (by decide +kernel)]; kernel_rfl) | (rw [if_neg (by decide +kernel)]; exact ⟨rfl, rfl⟩))
    (fun os started H enc _ => lifted os started H enc)

/-- The given statement. -/
theorem proved : Rows.ProgramsSaid :=
  over
end Go.Proofs.Ytiobjkmpeiohdaa.programs
namespace Go.Proofs.Ytiobjkmpeiohdaa
theorem programs_holds : Rows.ProgramsSaid := programs.proved
end Go.Proofs.Ytiobjkmpeiohdaa
