/- sleuthlaw7.ParseMay returns true at every input: what is parsed may be a program, and parsed again from the document's text of it it is the same program; the input is as it was. Condition: the listed variables of Go's library read as their texts lay them. -/
import Derived.Test.YtgjhpmkahicnkaaGreatDoorMLaid
import Derived.Laws.OwnMore
import Derived.Laws.IdiomStrings
import Derived.Deep.OwnRows
import Derived.SizedLaws
import Derived.ChangeMaps5
import Derived.WalkKit
import Derived.ProofKit
import Derived.OpenShut
import Derived.Test.YtgjhpmkahicnkaaGreatDoorMShown
import Derived.Test.YtgjhpmkahicnkaaGreatDoorMCopy
namespace Go.Proofs.YtgjhpmkahicnkaaGreatDoor.parseMay
open Go.RowKit
set_option linter.unusedVariables false

set_option maxRecDepth 100000 in
set_option maxHeartbeats 1600000 in
/-- The walk: the law's Go text returns true. -/
theorem walk (s : ByteArray) (w : World) (hw : Lw w) :
    Calls Tryz.prog 3 #[.string s] w fun e w' => e = .returned (.bool true) ∧ Below w.heap.size w w' := by
  have HW := hid hw
  obtain ⟨o, ho⟩ : ∃ o, pp s.data.toList = o := ⟨_, rfl⟩
  have HO := hid ho
  clear ho hw
  go_enter Tryz.func3, Tryz.ntmps3
  go_wp2_with (go_at_call 4; refine (awake_any w HW.out).mono ?_)
  rintro e w1 ⟨rfl, hb1⟩
  have HB1 := hid hb1
  clear hb1
  go_wp2_with (go_at_call 5; refine (parse_any s w1 (Tm.Lw.on HW.out HB1.out)).mono ?_)
  intro e w2 hq
  rw [HO.out] at hq
  cases o with
  | none =>
    obtain ⟨hb2, rfl⟩ := hq
    have HB2 := hid ((Lx.below_next HB1.out hb2).alloc (Lx.below_next HB1.out hb2).size (.cells #[.slice none 0 0] 25))
    clear hb2
    go_wp2_with (go_at_call 6; refine (Lx.num_any 700 _).mono ?_)
    rintro e w3 ⟨rfl, rfl⟩
    have xb := (Bx1.new w2 (.slice none 0 0)).c0
    go_wp2
    go_ret
    exact ⟨rfl, HB2.out⟩
  | some ds =>
    obtain ⟨hb2, g, c, qs, rfl, hqs, hP⟩ := hq
    have hD := hP.defs' hqs
    have HB2 := hid ((Lx.below_next HB1.out hb2).alloc (Lx.below_next HB1.out hb2).size (.cells #[.slice g ds.length c] 25))
    have HX2 := hid (Bx1.new w2 (.slice g ds.length c))
    have HD2 : Hid (Defs Exs (w2.alloc (.cells #[.slice g ds.length c] 25)) g ds) := hD.on ((Below.refl _ w2).alloc (Nat.le_refl _) _)
    have HPM := hid (pp_pm HO.out)
    obtain ⟨A, hA⟩ : ∃ A, Lx.ba (txS ds) = A := ⟨_, rfl⟩
    obtain ⟨E, hE⟩ : ∃ E, erS ds = E := ⟨_, rfl⟩
    have HAE : Hid (Lx.ba (txS ds) = A ∧ erS ds = E) := ⟨hA, hE⟩
    clear hb2 hqs hP hD hA hE
    go_wp2_with fail
    obtain ⟨W2, hW2⟩ : ∃ W2, w2.alloc (.cells #[.slice g ds.length c] 25) = W2 := ⟨_, rfl⟩
    rw [hW2] at HB2 HX2 HD2 ⊢
    have hz : w2.heap.size < W2.heap.size := HX2.out.lt
    have xb := HX2.out.c0
    clear hW2
    refine (Lx.num_any 0 W2).mono ?_
    rintro e w3 ⟨rfl, rfl⟩
    go_wp2_with (go_at_call 7; refine (rshow_any g c ds W2 HD2.out).mono ?_)
    rintro e w3 ⟨rfl, hb3⟩
    rw [HAE.out.1, HAE.out.2]
    have HB3 := hid (Lx.below_next HB2.out hb3)
    have HD3 := hid (HD2.out.on hb3)
    have HX3 : Hid (Bx1 w3 w2.heap.size (.slice g ds.length c)) := HX2.out.on hb3
    have xc := HX3.out.c0
    clear hb3 HD2 HX2 xb hz
    go_wp2_with (go_at_call 8; refine (rprog_any g c ds w3 HD3.out).mono ?_)
    rintro e w4 ⟨rfl, hb4⟩
    rw [HPM.out]
    have HB4 := hid (Lx.below_next HB3.out hb4)
    have HD4 := hid (HD3.out.on hb4)
    have HX4 : Hid (Bx1 w4 w2.heap.size (.slice g ds.length c)) := HX3.out.on hb4
    have xd := HX4.out.c0
    have lz := HX4.out.lt
    clear hb4 HD3 HX3 xc
    by_cases hl : (showS ds).length ≤ 2048
    · have hok : okS ds = true := by unfold okS; rw [HPM.out]; exact decide_eq_true hl
      have e1 : E = 0 := by rw [← HAE.out.2]; unfold erS; rw [hok]; rfl
      have htx : txS ds = showS ds := by unfold txS; rw [hok, if_pos rfl]
      have hAl : A.data.toList = showS ds := by rw [← HAE.out.1, htx]; rfl
      have HP2 : Hid (pp A.data.toList = some ds) := by show _ = _; rw [hAl]; exact pp_show HO.out hl
      clear hl hok htx hAl
      subst e1
      go_wp2_with (go_at_call 5; refine (parse_any A w4 (Tm.Lw.on HW.out HB4.out)).mono ?_)
      intro e w5 hq
      rw [HP2.out] at hq
      obtain ⟨hb5, g5, c5, q5, rfl, hq5, hP5⟩ := hq
      have HA5 : Hid (Below w4.heap.size w4 (w5.alloc (.cells #[.slice g5 ds.length c5] 25))) := hb5.alloc hb5.size _
      have HD5 : Hid (Defs Exs (w5.alloc (.cells #[.slice g5 ds.length c5] 25)) g5 ds) := (hP5.defs' hq5).on ((Below.refl _ w5).alloc (Nat.le_refl _) _)
      have HY5 := hid (Bx1.new w5 (.slice g5 ds.length c5))
      have HX5 : Hid (Bx1 (w5.alloc (.cells #[.slice g5 ds.length c5] 25)) w2.heap.size (.slice g ds.length c)) := HX4.out.on HA5.out
      clear hb5 hq5 hP5 xd
      go_wp2_with fail
      obtain ⟨W5, hW5⟩ : ∃ W5, w5.alloc (.cells #[.slice g5 ds.length c5] 25) = W5 := ⟨_, rfl⟩
      rw [hW5] at HA5 HD5 HY5 HX5 ⊢
      have xe := HX5.out.c0
      have xf := HY5.out.c0
      clear hW5
      refine (Lx.num_any 0 W5).mono ?_
      rintro e w6 ⟨rfl, rfl⟩
      go_wp2_with (go_at_call 9; refine (same_may g g5 ds c c5 W5 (HD4.out.on HA5.out) HD5.out HPM.out).mono ?_)
      rintro e w6 ⟨rfl, hb6⟩
      have HB6 := hid (Lx.below_next HB4.out (Lx.below_next HA5.out hb6))
      clear hb6
      go_wp2
      go_ret
      exact ⟨rfl, HB6.out⟩
    · have hok : okS ds = false := by unfold okS; rw [HPM.out, decide_eq_false hl]; rfl
      have e1 : E = 800 := by rw [← HAE.out.2]; unfold erS; rw [hok]; rfl
      clear hl hok
      subst e1
      go_wp2_with (go_at_call 8; refine (rprog_any g c ds w4 HD4.out).mono ?_)
      rintro e w5 ⟨rfl, hb5⟩
      rw [HPM.out]
      have HB5 := hid (Lx.below_next HB4.out hb5)
      clear hb5
      go_wp2
      go_ret
      exact ⟨rfl, HB5.out⟩
open Go.ChangeShapes Go.WideShapes Go.ChangeAt Go.ChangeMaps
set_option maxRecDepth 100000 in
/-- What the walk gives, for every argument and every world that holds the list. -/
theorem contract (H : Type) (enc : TypeId × Value → H) (W : World) (base : Nat) (args : Array Value) (ds gs : List (DataW H)) (before : List MemPlace)
    (hval : ∀ (j : Nat) t v, Tryz.f3.params[j]? = some t → args[j]? = some v → Value.okWide Tryz.prog W .any base t v)
    (hW : DataW.Whole enc Tryz.prog Tryz.f3.params.toList Rows.parseMaySpec.vars false W args.toList ds gs before)
    (hL : laidMetH Tryz.prog Rows.parseMayRow.laid W) :
    Calls Tryz.prog 3 args W fun e W' => ∃ v, e = .returned v ∧ Rows.parseMaySpec.post enc Tryz.prog Tryz.f3 false true false false W args v W' := by
  have hW' := hW
  obtain ⟨p, q, hA0, hV, rfl, hfz, hnd⟩ := hW
  have hA : DataW.TrodAll enc Tryz.prog W 0 (fun _ => true) true Tryz.f3.params.toList args.toList ds p := hA0
  rw [Tryz.params3] at hA hval
  obtain ⟨v0, vs0, d0, ds0, p0, q0, hargs, rfl, rfl, h0, r0⟩ := trodAll_cons hA
  obtain ⟨rfl, rfl, rfl⟩ := trodAll_nil r0
  obtain rfl : args = #[v0] := by cases args; simp_all
  obtain ⟨rfl, rfl⟩ := trodVars_none hV
  obtain ⟨a0, rfl, rfl, rfl, w0⟩ := open_string Tryz.underlying9 (hval 0 9 v0 rfl rfl) h0
  clear hA0
  simp only [List.append_nil] at hW'
  refine (walk a0 W (lw_of hL)).mono fun e W' ⟨he, hg⟩ => ?_
  subst he
  exact ⟨_, rfl, _, _, _, [], [], [], hW', trodAll_cons_mk (shut_bool Tryz.underlying4 _) trodAll_mk0, trodAll_cons_mk (shut_string Tryz.underlying9 w0) trodAll_mk0, rfl, hg.frame _, fun h => by cases h⟩

theorem reads (os : Os) {H : Type} (enc : TypeId × Value → H) : ∃ places, DataW.whole enc Tryz.prog ((World.laidAll Tryz.prog os Rows.parseMayRow.laid).forCall (fun _ _ => 0) ⟨#[], #[.string ⟨#[]⟩], []⟩).memory Tryz.f3.params.toList Rows.parseMaySpec.vars false #[Value.string ⟨#[]⟩].toList 8 = some ([.lit (.string [])], [], places) :=
  ⟨[], by kernel_rfl⟩

set_option maxRecDepth 100000 in
theorem lifted (os : Os) (started : os.Started) (H : Type) (enc : TypeId × Value → H) (F : Stop.Interp) :
    ReturnsInHanded {} Tryz.checked os 3 .any ((OpenSpec.ofChange Rows.parseMaySpec).preRow enc Tryz.prog Tryz.f3 Rows.parseMayRow.domain false Rows.parseMayRow.laid) (((OpenSpec.ofChange Rows.parseMaySpec).at F).post enc Tryz.prog Tryz.f3 false true false false) := by
  obtain ⟨places, hx⟩ := reads os enc
  refine returnsInHanded_of_row (C := Tryz.checked) (s := OpenSpec.ofChange Rows.parseMaySpec) own started (by kernel_rfl) Tryz.func3
    (witness_row_atRef (enc := enc) (C := Tryz.checked) false (World.laidAll Tryz.prog os Rows.parseMayRow.laid) #[.string ⟨#[]⟩] (World.laidAll_os _ _ _) (by kernel_rfl) (by kernel_rfl) (by kernel_rfl)
      (OpenSpec.preRow_of_cond 8 hx (by kernel_rfl) (fun k hk => by cases hk) (by kernel_rfl) (door_met os _))) ?_
  intro W base args ds gs before hval hW _ _ _ hL _ _
  exact contract H enc W base args ds gs before hval hW hL

theorem said : Rows.ParseMaySaid :=
  OpenClaim.holds_of_cond 3 Tryz.f3 rfl rfl rfl rfl rfl rfl rfl ⟨rfl, rfl, rfl, rfl, rfl⟩ rfl rfl rfl rfl rfl (by kernel_rfl) Tryz.func3 (by kernel_rfl)
    (of_decide_eq_true (by kernel_rfl)) (by unfold Func.isWrapper; first | (rw [if_pos (by decide +kernel)]; kernel_rfl) | (rw [if_neg (by decide +kernel)]; exact ⟨rfl, rfl⟩))
    (fun os started H enc _ F => by rw [OpenClaim.pre_eq_preRow]; exact lifted os started H enc F)

theorem plain (f : FuncId) (fn : Func) (hf : Tryz.pinned.checked.prog.funcNamed "sleuth/sleuthlaw7.ParseMay" = some f) (hfn : Tryz.pinned.checked.prog.funcs[f]? = some fn) :
    true = Tryz.pinned.checked.prog.looks [] ∧ ∀ (j : Nat) t, fn.params[j]? = some t → Tryz.pinned.checked.prog.wantsStandIn t = false := by
  obtain rfl : f = 3 := Option.some.inj ((show Tryz.prog.funcNamed "sleuth/sleuthlaw7.ParseMay" = some 3 by kernel_rfl).symm.trans hf) |>.symm
  obtain rfl : fn = Tryz.f3 := (Option.some.inj (Tryz.func3.symm.trans hfn)).symm
  refine ⟨by kernel_rfl, fun j t ht => ?_⟩
  rw [Tryz.params3] at ht
  have hm : t ∈ [9] := by simpa using Array.mem_of_getElem? ht
  have hall : ([9].all fun u => !Tryz.prog.wantsStandIn u) = true := by kernel_rfl
  exact (show Tryz.prog.wantsStandIn t = false by simpa using List.all_eq_true.1 hall t hm)

/-- The given statement. -/
theorem card : Rows.ParseMayCardSaid :=
  Claim7.holds_tied_plain_at .later [] _ _ _ _ said (fun _ h => by cases h) (by kernel_rfl) (fun _ h => by cases h) parseMay_row_tie rfl ⟨rfl, rfl⟩ (by kernel_rfl) rfl plain (by kernel_rfl)
end Go.Proofs.YtgjhpmkahicnkaaGreatDoor.parseMay
namespace Go.Proofs.YtgjhpmkahicnkaaGreatDoor
theorem parseMay_holds : Rows.ParseMayCardSaid := parseMay.card
end Go.Proofs.YtgjhpmkahicnkaaGreatDoor
