/- sleuthlaw8.Shows returns true at every input: Text answers for a copy what the document's Show answers for the program; what has a text has the same one when it is read again; the copy stays as it is; the input is as it was. Conditions: the three listed variables of Go's library read as their texts lay them; the row's own bound on the lists that come in. -/
import Derived.Test.YtgjhpmkahicnkaaDoorMLaid
import Derived.Laws.OwnMore
import Derived.Laws.IdiomStrings
import Derived.Deep.OwnRows
import Derived.SizedLaws
import Derived.ChangeMaps5
import Derived.WalkKit
import Derived.ProofKit
import Derived.OpenShut
import Derived.Test.YtgjhpmkahicnkaaDoorMShown
import Derived.Test.YtgjhpmkahicnkaaDoorMRead
import Derived.Test.YtgjhpmkahicnkaaDoorMCopy
namespace Go.Proofs.YtgjhpmkahicnkaaDoor.shows
open Go.RowKit
set_option linter.unusedVariables false

theorem k2_drew {w0 wc : World} {p0 q0 : Addr} {x0 y0 : Value} (h : Below w0.heap.size w0 wc ∧ wc.cell? p0 = some x0 ∧ wc.cell? q0 = some y0) :
    Below w0.heap.size w0 wc.drew ∧ wc.drew.cell? p0 = some x0 ∧ wc.drew.cell? q0 = some y0 := ⟨h.1.drew, h.2⟩
theorem k2_next {w0 wc w' : World} {p0 q0 : Addr} {x0 y0 : Value} (h : Below w0.heap.size w0 wc ∧ wc.cell? p0 = some x0 ∧ wc.cell? q0 = some y0) (hb : Below wc.heap.size wc w') :
    Below w0.heap.size w0 w' ∧ w'.cell? p0 = some x0 ∧ w'.cell? q0 = some y0 := ⟨Lx.below_next h.1 hb, cell_keep h.2.1 hb, cell_keep h.2.2 hb⟩
set_option maxRecDepth 100000 in
set_option maxHeartbeats 1600000 in
/-- The walk: the law's Go text returns true. -/
theorem walk (g : Option Addr) (ds : List Df) (c : Nat) (w : World) (hd : Defs ExsN w g ds) (hb : ds.length * 32 ≤ 140737488351232) (hk : ∀ d ∈ ds, DBd d) (hw : Tm.Lw w) :
    Calls Tryd.prog 3 #[.agg #[.slice g ds.length c]] w fun e w' => e = .returned (.bool true) ∧ Below w.heap.size w w' := by
  have HN : Hid (ds.length ≤ 4611686018427387904 ∧ ∀ d ∈ ds, d.body.length ≤ 4611686018427387904 ∧ ∀ x ∈ d.body, x.kids.length ≤ 4611686018427387904) := by
    refine ⟨by omega, fun d h => ?_⟩
    have h1 : d.body.length * 48 ≤ 140737488351232 := (hk d h).1
    refine ⟨by omega, fun x hx => ?_⟩
    have h2 : x.kids.length * 8 ≤ 140737488351232 := (hk d h).2 x hx
    omega
  have ha : Below w.heap.size w (w.alloc (.cells #[.slice g ds.length c] 24)) := (Below.refl _ w).alloc (Nat.le_refl _) _
  have hcp := copyprog_any g c ds _ (hd.onE (E' := ExsN) ha (fun _ _ k => k.on ha)) hb hk
  have hdx : Defs Exs (w.alloc (.cells #[.slice g ds.length c] 24)) g ds := hd.onE ha (fun _ _ k => k.exs.on ha)
  have HW := hid hw
  obtain ⟨A, hA⟩ : ∃ A, Lx.ba (txS ds) = A := ⟨_, rfl⟩
  obtain ⟨E, hE⟩ : ∃ E, erS ds = E := ⟨_, rfl⟩
  have HAE : Hid (Lx.ba (txS ds) = A ∧ erS ds = E) := ⟨hA, hE⟩
  clear hA hE hw
  go_enter Tryd.func3, Tryd.ntmps3
  go_wp2_with fail
  refine hcp.mono ?_
  rintro e w1 ⟨g1, c1, rfl, ⟨qs, hqs, hql, hP1, _, _⟩, hb1⟩
  have hX1 := (Bx1.new w (.slice g ds.length c)).on hb1
  have h01 := Lx.below_next ha hb1
  have hx1 := hdx.on hb1
  have hE1 : Defs Exs w1 g1 ds := by
    have h := hP1
    rw [← hql] at h
    have h := h.defs
    rwa [hqs] at h
  have x0 := hX1.c0
  have hz := hX1.lt
  clear hb1 ha hd hdx hb hk hcp hP1 hqs hql
  go_wp2_with fail
  have hXa := hX1.alloc (.cells #[.slice g1 ds.length c1] 24)
  have hXb := Bx1.new w1 (.slice g1 ds.length c1)
  have h12 : Below w1.heap.size w1 (w1.alloc (.cells #[.slice g1 ds.length c1] 24)) := (Below.refl _ w1).alloc (Nat.le_refl _) _
  have h02 := Lx.below_next h01 h12
  have hx2 := hx1.on h12
  have hE2 := hE1.on h12
  obtain ⟨w2, hw2⟩ : ∃ w2, w1.alloc (.cells #[.slice g1 ds.length c1] 24) = w2 := ⟨_, rfl⟩
  rw [hw2] at hXa hXb h12 h02 hx2 hE2 ⊢
  have a0 := hXa.c0
  have b0 := hXb.c0
  clear hw2 h12 h01 hx1 hE1 hXa hXb x0 hX1 hz
  have HLW : Hid (Tm.Lw w2) := Tm.Lw.on HW.out h02
  have mM : Hid (∀ W, Below w2.heap.size w2 W → Calls Tryd.prog 8 #[.agg #[.slice g1 ds.length c1]] W fun e w' => e = .returned (.tuple #[.string A, .int .i64 E]) ∧ Below W.heap.size W w') := fun W h => by
    have := text_any g1 c1 ds W (hE2.on h) (Tm.Lw.on HLW.out h)
    rw [HAE.out.1, HAE.out.2] at this
    exact this
  have dM : Hid (∀ W, Below w2.heap.size w2 W → Calls Tryd.prog 9 #[.agg #[.slice g ds.length c]] W fun e w' => e = .returned (.tuple #[.string A, .int .i64 E]) ∧ Below W.heap.size W w') := fun W h => by
    have := rshow_any g c ds W (hx2.on h)
    rw [HAE.out.1, HAE.out.2] at this
    exact this
  have sM : Hid (∀ W, Below w2.heap.size w2 W → Calls Tryd.prog 11 #[.agg #[.slice g1 ds.length c1], .agg #[.slice g ds.length c]] W fun e w' => e = .returned (.bool true) ∧ Below W.heap.size W w') := fun W h =>
    program_same g1 g ds c1 c W (hE2.on h) (hx2.on h) HN.out.1 HN.out.2
  have H02 : Hid (Below w.heap.size w w2) := h02
  have HAB := hid (And.intro a0 b0)
  clear hx2 hE2 h02 HN
  go_wp2_with (go_at_call 8; refine (mM.out w2 (Below.refl _ _)).mono ?_)
  rintro e w3 ⟨rfl, hb3⟩
  have HB3 := hid hb3
  have a3 := cell_keep a0 hb3
  have b3 := cell_keep b0 hb3
  clear a0 b0 hb3
  go_wp2_with (go_at_call 9; refine (dM.out w3 HB3.out).mono ?_)
  rintro e w4 ⟨rfl, hb4⟩
  have HB4 := hid (Lx.below_next HB3.out hb4)
  have a4 := cell_keep a3 hb4
  have b4 := cell_keep b3 hb4
  clear a3 b3 hb4
  have hAA : (A.toList == A.toList) = true := beq_self_eq_true _
  have hEE : (E == E) = true := beq_self_eq_true _
  have HT : Hid (Tm.Lw w4) := Tm.Lw.on HLW.out HB4.out
  go_wp2_with (go_at_call 10; refine (Lx.num_any E w4).mono ?_)
  rintro e w5 ⟨rfl, rfl⟩
  go_wp2_with (go_at_call 11; refine (sM.out w4 HB4.out).mono ?_)
  rintro e w5 ⟨rfl, hb5⟩
  have HB5 := hid (Lx.below_next HB4.out hb5)
  clear hb5 a4 b4
  go_wp2_with (go_at_call 10; refine (Lx.num_any E w5).mono ?_)
  rintro e w6 ⟨rfl, rfl⟩
  by_cases hok : okS ds = true
  · have e1 : E = 0 := by rw [← HAE.out.2]; unfold erS; rw [hok]; rfl
    have htx : txS ds = showS ds := by unfold txS; rw [hok, if_pos rfl]
    have hpm : pmay ds = true ∧ (showS ds).length ≤ 2048 := by
      unfold okS at hok
      rw [Bool.and_eq_true] at hok
      exact ⟨hok.1, of_decide_eq_true hok.2⟩
    obtain ⟨ds', r1, r2, r3⟩ := show_read hpm.1 hpm.2
    have hAl : A.data.toList = showS ds := by rw [← HAE.out.1, htx]; rfl
    have HP : Hid (pp A.data.toList = some ds') := by show _ = _; rw [hAl]; exact r1
    have HT2 : Hid (Lx.ba (txS ds') = A ∧ erS ds' = 0) := by
      have e3 : okS ds' = true := by unfold okS; rw [r2, r3]; exact decide_eq_true hpm.2
      refine ⟨?_, ?_⟩
      · rw [← HAE.out.1, htx]; unfold txS; rw [e3, if_pos rfl, r3]
      · unfold erS; rw [e3]; rfl
    clear hok htx hpm r1 r2 r3 hAl
    subst e1
    go_wp2_with (go_at_call 13; refine (rparse_any A w5).mono ?_)
    intro e w6 hq
    rw [HP.out] at hq
    obtain ⟨hb6, g3, c3, q3, rfl, hq3, hP3⟩ := hq
    have hl3 : q3.length = ds'.length := by rw [← hq3, List.length_map]
    have hD3 : Defs Exs w6 g3 ds' := by
      have h := hP3
      rw [← hl3] at h
      have h := h.defs
      rwa [hq3] at h
    have HB6 := hid (Lx.below_next HB5.out hb6)
    have HD6 := hid hD3
    have HLW6 : Hid (Tm.Lw w6) := Tm.Lw.on HLW.out HB6.out
    clear hb6 hq3 hP3 hl3 hD3
    have HA6 : Hid (Below w6.heap.size w6 (w6.alloc (.cells #[.slice g3 ds'.length c3] 24))) := (Below.refl _ w6).alloc (Nat.le_refl _) _
    go_wp2_with (go_at_call 8; refine (text_any g3 c3 ds' _ (HD6.out.on HA6.out) (Tm.Lw.on HLW6.out HA6.out)).mono ?_)
    rintro e w7 ⟨rfl, hb7⟩
    rw [HT2.out.1, HT2.out.2]
    have HB7 := hid (Lx.below_next HB6.out (Lx.below_next HA6.out hb7))
    clear hb7
    go_wp2_with (go_at_call 10; refine (Lx.num_any 0 w7).mono ?_)
    rintro e w8 ⟨rfl, rfl⟩
    go_wp2_with (go_at_call 12; refine (awake_any w7 (Tm.Lw.on HLW.out HB7.out)).mono ?_)
    rintro e w8 ⟨rfl, hb8⟩
    have HB8 := hid (Lx.below_next H02.out (Lx.below_next HB7.out hb8))
    clear hb8
    go_wp2
    go_ret
    exact ⟨rfl, HB8.out⟩
  · have hok' : okS ds = false := by simpa using hok
    have e1 : E = 800 := by rw [← HAE.out.2]; unfold erS; rw [hok']; rfl
    subst e1
    clear hok hok'
    go_wp2_with (go_at_call 12; refine (awake_any w5 (Tm.Lw.on HLW.out HB5.out)).mono ?_)
    rintro e w6 ⟨rfl, hb6⟩
    have HB6 := hid (Lx.below_next H02.out (Lx.below_next HB5.out hb6))
    clear hb6
    go_wp2
    go_ret
    exact ⟨rfl, HB6.out⟩
open Go.ChangeShapes Go.WideShapes Go.ChangeAt
set_option maxRecDepth 100000 in
/-- What the walk gives, for every argument and every world that holds the list. -/
theorem contract (H : Type) (enc : TypeId × Value → H) (W : World) (base : Nat) (args : Array Value) (ds gs : List (DataW H)) (before : List MemPlace)
    (hval : ∀ (j : Nat) t v, Tryd.f3.params[j]? = some t → args[j]? = some v → Value.okWide Tryd.prog W .any base t v)
    (hW : DataW.Whole enc Tryd.prog Tryd.f3.params.toList Rows.showsSpec.vars false W args.toList ds gs before)
    (hsz0 : (DataW.weightsEach Tryd.prog (Tryd.f3.params.toList ++ (OpenSpec.ofChange Rows.showsSpec).bare.plain.varTypes Tryd.prog) (ds ++ gs)).all (· ≤ reachBytes) = true) (hL : laidMetH Tryd.prog Rows.showsRow.laid W) :
    Calls Tryd.prog 3 args W fun e W' => ∃ v, e = .returned v ∧ Rows.showsSpec.post enc Tryd.prog Tryd.f3 false true false false W args v W' := by
  have hW' := hW
  obtain ⟨p, q, hA0, hV, rfl, hfz, hnd⟩ := hW
  have hA : DataW.TrodAll enc Tryd.prog W 0 (fun _ => true) true Tryd.f3.params.toList args.toList ds p := hA0
  rw [Tryd.params3] at hA hval hsz0
  obtain ⟨v0, vs0, d0, ds0, p0, q0, hargs, rfl, rfl, h0, r0⟩ := trodAll_cons hA
  obtain ⟨rfl, rfl, rfl⟩ := trodAll_nil r0
  obtain rfl : args = #[v0] := by cases args; simp_all
  obtain ⟨rfl, rfl⟩ := trodVars_none hV
  have k0 := h0
  obtain ⟨g0, xs0, c0, rfl, hin0, hbd0, hkd0⟩ := open_program (j := 0) (hval 0 24 v0 rfl rfl) h0 hsz0 rfl rfl
  clear hA0
  simp only [List.append_nil] at hW'
  have hlt0 : ∀ x ∈ p0, x.block < W.heap.size := fun x hx => by simpa using hW'.lt x hx
  refine (walk g0 xs0 c0 W hin0 hbd0 hkd0 (lw_of hL)).mono fun e W' ⟨he, hg⟩ => ?_
  subst he
  exact ⟨_, rfl, _, _, _, [], (p0 ++ []), [], hW', trodAll_cons_mk (shut_bool Tryd.underlying4 _) trodAll_mk0, trodAll_cons_mk (Below.trod laidOut (by kernel_rfl) (of_decide_eq_true (by kernel_rfl)) k0 hg hlt0) trodAll_mk0, rfl, hg.frame _, fun h => by cases h⟩

theorem reads (os : Os) {H : Type} (enc : TypeId × Value → H) : ∃ places, DataW.whole enc Tryd.prog ((World.laidAll Tryd.prog os Rows.showsRow.laid).forCall (fun _ _ => 0) ⟨#[], #[.agg #[.slice none 0 0]], []⟩).memory Tryd.f3.params.toList Rows.showsSpec.vars false #[Value.agg #[.slice none 0 0]].toList 8 = some ([.agg [.nil]], [], places) :=
  ⟨[], by kernel_rfl⟩

set_option maxRecDepth 100000 in
theorem lifted (os : Os) (started : os.Started) (H : Type) (enc : TypeId × Value → H) (F : Stop.Interp) :
    ReturnsInHanded {} Tryd.checked os 3 .any ((OpenSpec.ofChange Rows.showsSpec).preRow enc Tryd.prog Tryd.f3 Rows.showsRow.domain false Rows.showsRow.laid) (((OpenSpec.ofChange Rows.showsSpec).at F).post enc Tryd.prog Tryd.f3 false true false false) := by
  obtain ⟨places, hx⟩ := reads os enc
  refine returnsInHanded_of_row (C := Tryd.checked) (s := OpenSpec.ofChange Rows.showsSpec) own started (by kernel_rfl) Tryd.func3
    (witness_row_atRef (enc := enc) (C := Tryd.checked) false (World.laidAll Tryd.prog os Rows.showsRow.laid) #[.agg #[.slice none 0 0]] (World.laidAll_os _ _ _) (by kernel_rfl) (by kernel_rfl) (by kernel_rfl)
      (OpenSpec.preRow_of_cond 8 hx (by kernel_rfl) (fun k hk => by cases hk) (by kernel_rfl) (door_met os _))) ?_
  intro W base args ds gs before hval hW _ _ hsz hL _ _
  exact contract H enc W base args ds gs before hval hW hsz hL

theorem said : Rows.ShowsSaid :=
  OpenClaim.holds_of_cond 3 Tryd.f3 rfl rfl rfl rfl rfl rfl rfl ⟨rfl, rfl, rfl, rfl, rfl⟩ rfl rfl rfl rfl rfl (by kernel_rfl) Tryd.func3 (by kernel_rfl)
    (of_decide_eq_true (by kernel_rfl)) (by unfold Func.isWrapper; first | (rw [if_pos (by decide +kernel)]; kernel_rfl) | (rw [if_neg (by decide +kernel)]; exact ⟨rfl, rfl⟩))
    (fun os started H enc _ F => by rw [OpenClaim.pre_eq_preRow]; exact lifted os started H enc F)

theorem plain (f : FuncId) (fn : Func) (hf : Tryd.pinned.checked.prog.funcNamed "sleuth/sleuthlaw8.Shows" = some f) (hfn : Tryd.pinned.checked.prog.funcs[f]? = some fn) :
    false = Tryd.pinned.checked.prog.looks [] ∧ ∀ (j : Nat) t, fn.params[j]? = some t → Tryd.pinned.checked.prog.wantsStandIn t = false := by
  obtain rfl : f = 3 := Option.some.inj ((show Tryd.prog.funcNamed "sleuth/sleuthlaw8.Shows" = some 3 by kernel_rfl).symm.trans hf) |>.symm
  obtain rfl : fn = Tryd.f3 := (Option.some.inj (Tryd.func3.symm.trans hfn)).symm
  refine ⟨by kernel_rfl, fun j t ht => ?_⟩
  rw [Tryd.params3] at ht
  have hm : t ∈ [24] := by simpa using Array.mem_of_getElem? ht
  have hall : ([24].all fun u => !Tryd.prog.wantsStandIn u) = true := by kernel_rfl
  exact (show Tryd.prog.wantsStandIn t = false by simpa using List.all_eq_true.1 hall t hm)

/-- The given statement. -/
theorem card : Rows.ShowsCardSaid :=
  Claim7.holds_tied_plain_at .later [] _ _ _ _ said (fun _ h => by cases h) (by kernel_rfl) (fun _ h => by cases h) shows_row_tie rfl ⟨rfl, rfl⟩ (by kernel_rfl) rfl plain (by kernel_rfl)
end Go.Proofs.YtgjhpmkahicnkaaDoor.shows
namespace Go.Proofs.YtgjhpmkahicnkaaDoor
theorem shows_holds : Rows.ShowsCardSaid := shows.card
end Go.Proofs.YtgjhpmkahicnkaaDoor
