/- Whatever the texts a, b and c are: if all three may be, Is says that each is below itself and a hole below it, that of three it goes on, and that two are below each other just if they are one; if one of them may not be, the document's own answer says so too; the condition is the card's own: the listed variables of the library read as their initialisers lay them. -/
import Derived.Test.YtcjpepbajcdenaaDoorWake
import Derived.Test.YtcjpepbajcdenaaDoorRCut
import Derived.SizedLaws
import Derived.ChangeMaps5
namespace Go.Proofs.YtcjpepbajcdenaaDoor.belowRow
open Go.ChangeShapes Go.WideShapes Go.ChangeAt Go.RowKit Go.ChangeMaps
set_option linter.unusedVariables false

theorem isE_ok {a b : List UInt8} (ha : (whole a).isSome = true) (hb : (whole b).isSome = true) : isE a b = 0 := by unfold isE; rw [ha, hb]; rfl
theorem isE_left {a b : List UInt8} (ha : (whole a).isSome = false) : isE a b = 300 := by unfold isE; rw [ha]; rfl
theorem isE_right {a b : List UInt8} (hb : (whole b).isSome = false) : isE a b = 300 := by unfold isE; rw [hb]; simp
theorem isB_ok {a b : List UInt8} (ha : (whole a).isSome = true) (hb : (whole b).isSome = true) : isB a b = fl a b := by unfold isB; rw [ha, hb]; rfl
theorem same_bytes {a b : ByteArray} {x v : Bool} (ha : (whole a.data.toList).isSome = true) (hb : (whole b.data.toList).isSome = true) (hx : fl a.data.toList b.data.toList = x) (hv : fl b.data.toList a.data.toList = v) : (a.toList == b.toList) = (x && v) := by
  by_cases e : a = b
  · subst e
    have := fl_refl _ a.data.toList (Nat.lt_succ_self _) ha
    rw [this] at hx hv
    subst hx hv; simp
  · have hne : (a.toList == b.toList) = false := by
      rw [beq_eq_false_iff_ne]
      intro h
      rw [Lib.toList_data, Lib.toList_data] at h
      exact e (ByteArray.ext (Array.ext' h))
    rw [hne]
    cases x with
    | false => rfl
    | true =>
      cases v with
      | false => rfl
      | true => exact absurd (ByteArray.ext (Array.ext' (fl_anti _ _ _ (Nat.lt_succ_self _) ha hb hx hv))) e

set_option maxHeartbeats 1600000 in
set_option maxRecDepth 100000 in
/- The walk where one of the three may not be. -/
theorem walk_no (a b c : ByteArray) (w : World) (ha : a.size ≤ 140737488355328) (hb : b.size ≤ 140737488355328) (hc : c.size ≤ 140737488355328) (hw : Lw w) (e1 e2 : Int) (p1 p2 p3 x1 x2 : Bool)
    (hp1 : (whole a.data.toList).isSome = p1) (hp2 : (whole b.data.toList).isSome = p2) (hp3 : (whole c.data.toList).isSome = p3)
    (hx1 : isB a.data.toList b.data.toList = x1) (hx2 : isB b.data.toList c.data.toList = x2) (he1 : isE a.data.toList b.data.toList = e1) (he2 : isE b.data.toList c.data.toList = e2)
    (hd : (e1 = 300 ∧ (p1 = false ∨ (p1 = true ∧ p2 = false))) ∨ (e1 = 0 ∧ e2 = 300 ∧ p1 = true ∧ p2 = true ∧ p3 = false)) :
    Calls Tryd.prog 4 #[.string a, .string b, .string c] w fun e w' => e = .returned (.bool true) ∧ Below w.heap.size w w' := by
  have H1 : Hid (isB a.data.toList b.data.toList = x1 ∧ isE a.data.toList b.data.toList = e1) := ⟨hx1, he1⟩
  have H2 : Hid (isB b.data.toList c.data.toList = x2 ∧ isE b.data.toList c.data.toList = e2) := ⟨hx2, he2⟩
  have P1 : Hid ((whole a.data.toList).isSome = p1) := hp1
  have P2 : Hid ((whole b.data.toList).isSome = p2) := hp2
  have P3 : Hid ((whole c.data.toList).isSome = p3) := hp3
  clear he1 he2 hp1 hp2 hp3 hx1 hx2
  go_enter Tryd.func4, Tryd.ntmps4
  go_wp2_with fail
  refine (awake_any _ hw).mono ?_
  rintro e w0 ⟨rfl, h00⟩
  go_wp2_with fail
  refine (is_at a b _ _ _ H1.out ha hb (hw.on h00)).mono ?_
  rintro e w1 ⟨rfl, h⟩
  have h01 := below_next h00 h
  clear h00 h
  go_wp2_with fail
  refine (is_at b c _ _ _ H2.out hb hc (hw.on h01)).mono ?_
  rintro e w2 ⟨rfl, h⟩
  have h02 := below_next h01 h
  clear h01 h
  go_wp2_with fail
  refine (is_any a c _ ha hc (hw.on h02)).mono ?_
  rintro e w3 ⟨rfl, h⟩
  have h03 := below_next h02 h
  clear h02 h
  go_wp2_with fail
  refine (is_any b a _ hb ha (hw.on h03)).mono ?_
  rintro e w4 ⟨rfl, h⟩
  have h04 := below_next h03 h
  clear h03 h
  rcases hd with ⟨rfl, rfl | ⟨rfl, rfl⟩⟩ | ⟨rfl, rfl, rfl, rfl, rfl⟩
  · go_wp2_with (go_at_call 11; refine (num_any _ _).mono ?_; rintro e w' ⟨rfl, rfl⟩)
    refine (rmay_any a _ ha).mono ?_
    rintro e w5 ⟨rfl, h⟩
    have h05 := below_next h04 h
    clear h04 h
    rw [P1.out]
    go_wp2_with fail
    go_ret
    exact ⟨rfl, h05⟩
  · go_wp2_with (go_at_call 11; refine (num_any _ _).mono ?_; rintro e w' ⟨rfl, rfl⟩)
    refine (rmay_any a _ ha).mono ?_
    rintro e w5 ⟨rfl, h⟩
    have h05 := below_next h04 h
    clear h04 h
    rw [P1.out]
    go_wp2_with fail
    refine (rmay_any b _ hb).mono ?_
    rintro e w6 ⟨rfl, h⟩
    have h06 := below_next h05 h
    clear h05 h
    rw [P2.out]
    go_wp2_with fail
    go_ret
    exact ⟨rfl, h06⟩
  · go_wp2_with (go_at_call 11; refine (num_any _ _).mono ?_; rintro e w' ⟨rfl, rfl⟩)
    refine (rmay_any a _ ha).mono ?_
    rintro e w5 ⟨rfl, h⟩
    have h05 := below_next h04 h
    clear h04 h
    rw [P1.out]
    go_wp2_with fail
    refine (rmay_any b _ hb).mono ?_
    rintro e w6 ⟨rfl, h⟩
    have h06 := below_next h05 h
    clear h05 h
    rw [P2.out]
    go_wp2_with fail
    refine (rmay_any c _ hc).mono ?_
    rintro e w7 ⟨rfl, h⟩
    have h07 := below_next h06 h
    clear h06 h
    rw [P3.out]
    go_wp2_with fail
    go_ret
    exact ⟨rfl, h07⟩

set_option maxHeartbeats 1600000 in
set_option maxRecDepth 100000 in
/- The walk where all three may be. -/
theorem walk_ok (a b c : ByteArray) (w : World) (ha : a.size ≤ 140737488355328) (hb : b.size ≤ 140737488355328) (hc : c.size ≤ 140737488355328) (hw : Lw w) (x y z v : Bool)
    (h1 : isB a.data.toList b.data.toList = x ∧ isE a.data.toList b.data.toList = 0) (h2 : isB b.data.toList c.data.toList = y ∧ isE b.data.toList c.data.toList = 0)
    (h3 : isB a.data.toList c.data.toList = z ∧ isE a.data.toList c.data.toList = 0) (h4 : isB b.data.toList a.data.toList = v ∧ isE b.data.toList a.data.toList = 0)
    (h5 : isB a.data.toList a.data.toList = true ∧ isE a.data.toList a.data.toList = 0) (h6 : isB [95] a.data.toList = true ∧ isE [95] a.data.toList = 0)
    (hz : x = true → y = true → z = true) (hq : (a.toList == b.toList) = (x && v)) :
    Calls Tryd.prog 4 #[.string a, .string b, .string c] w fun e w' => e = .returned (.bool true) ∧ Below w.heap.size w w' := by
  have H1 : Hid _ := h1
  have H2 : Hid _ := h2
  have H3 : Hid _ := h3
  have H4 : Hid _ := h4
  have H5 : Hid _ := h5
  have H6 : Hid _ := h6
  clear h1 h2 h3 h4 h5 h6
  go_enter Tryd.func4, Tryd.ntmps4
  go_wp2_with fail
  refine (awake_any _ hw).mono ?_
  rintro e w0 ⟨rfl, h00⟩
  go_wp2_with fail
  refine (is_at a b _ _ _ H1.out ha hb (hw.on h00)).mono ?_
  rintro e w1 ⟨rfl, h⟩
  have h01 := below_next h00 h
  clear h00 h
  go_wp2_with fail
  refine (is_at b c _ _ _ H2.out hb hc (hw.on h01)).mono ?_
  rintro e w2 ⟨rfl, h⟩
  have h02 := below_next h01 h
  clear h01 h
  go_wp2_with fail
  refine (is_at a c _ _ _ H3.out ha hc (hw.on h02)).mono ?_
  rintro e w3 ⟨rfl, h⟩
  have h03 := below_next h02 h
  clear h02 h
  go_wp2_with fail
  refine (is_at b a _ _ _ H4.out hb ha (hw.on h03)).mono ?_
  rintro e w4 ⟨rfl, h⟩
  have h04 := below_next h03 h
  clear h03 h
  go_wp2_with (go_at_call 11; refine (num_any _ _).mono ?_; rintro e w' ⟨rfl, rfl⟩)
  refine (is_at a a _ _ _ H5.out ha ha (hw.on h04)).mono ?_
  rintro e w5 ⟨rfl, h⟩
  have h05 := below_next h04 h
  clear h04 h
  go_wp2_with fail
  refine (is_at ⟨#[95]⟩ a _ _ _ H6.out (by decide) ha (hw.on h05)).mono ?_
  rintro e w6 ⟨rfl, h⟩
  have h06 := below_next h05 h
  clear h05 h H1 H2 H3 H4 H5 H6
  cases x <;> cases y <;> cases v <;> (try (have hz' := hz rfl rfl; subst hz')) <;> clear hz <;> simp only [Bool.and_true, Bool.and_false, Bool.and_self] at hq
  all_goals
    go_wp2_with (go_at_call 11; refine (num_any _ _).mono ?_; rintro e w' ⟨rfl, rfl⟩)
    go_ret
    first
      | exact ⟨rfl, h06⟩
      | (rw [hq]; exact ⟨rfl, h06⟩)

/- The walk: the law's Go text returns true. -/
theorem walk (a b c : ByteArray) (w : World) (ha : a.size ≤ 140737488355328) (hb : b.size ≤ 140737488355328) (hc : c.size ≤ 140737488355328) (hw : Lw w) :
    Calls Tryd.prog 4 #[.string a, .string b, .string c] w fun e w' => e = .returned (.bool true) ∧ Below w.heap.size w w' := by
  cases p1 : (whole a.data.toList).isSome with
  | false => exact walk_no a b c w ha hb hc hw 300 _ false _ _ _ _ p1 rfl rfl rfl rfl (isE_left p1) rfl (Or.inl ⟨rfl, Or.inl rfl⟩)
  | true =>
    cases p2 : (whole b.data.toList).isSome with
    | false => exact walk_no a b c w ha hb hc hw 300 _ true false _ _ _ p1 p2 rfl rfl rfl (isE_right p2) rfl (Or.inl ⟨rfl, Or.inr ⟨rfl, rfl⟩⟩)
    | true =>
      cases p3 : (whole c.data.toList).isSome with
      | false => exact walk_no a b c w ha hb hc hw 0 300 true true false _ _ p1 p2 p3 rfl rfl (isE_ok p1 p2) (isE_right p3) (Or.inr ⟨rfl, rfl, rfl, rfl, rfl⟩)
      | true =>
        have ph : (whole [95]).isSome = true := by rw [whole_of_hole]; rfl
        refine walk_ok a b c w ha hb hc hw _ _ _ _ ⟨isB_ok p1 p2, isE_ok p1 p2⟩ ⟨isB_ok p2 p3, isE_ok p2 p3⟩ ⟨isB_ok p1 p3, isE_ok p1 p3⟩ ⟨isB_ok p2 p1, isE_ok p2 p1⟩ ⟨?_, isE_ok p1 p1⟩ ⟨?_, isE_ok ph p1⟩ ?_ ?_
        · rw [isB_ok p1 p1]; exact fl_refl _ _ (Nat.lt_succ_self _) p1
        · rw [isB_ok ph p1]; exact fl_of_hole _ p1
        · exact fun h1 h2 => fl_trans _ _ _ _ (Nat.lt_succ_self _) p1 p2 p3 h1 h2
        · exact same_bytes p1 p2 rfl rfl

set_option maxRecDepth 100000 in
/-- What the walk gives, for every argument and every world that holds the list. -/
theorem contract (H : Type) (enc : TypeId × Value → H) (W : World) (base : Nat) (args : Array Value) (ds gs : List (DataW H)) (before : List MemPlace)
    (hval : ∀ (j : Nat) t v, Tryd.f4.params[j]? = some t → args[j]? = some v → Value.okWide Tryd.prog W .any base t v)
    (hW : DataW.Whole enc Tryd.prog Tryd.f4.params.toList Rows.belowRowSpec.vars false W args.toList ds gs before)
    (hsz0 : (DataW.weightsEach Tryd.prog (Tryd.f4.params.toList ++ (OpenSpec.ofChange Rows.belowRowSpec).bare.plain.varTypes Tryd.prog) (ds ++ gs)).all (· ≤ reachBytes) = true) (hL : laidMetH Tryd.prog Rows.belowRowRow.laid W) :
    Calls Tryd.prog 4 args W fun e W' => ∃ v, e = .returned v ∧ Rows.belowRowSpec.post enc Tryd.prog Tryd.f4 false true false false W args v W' := by
  have hW' := hW
  obtain ⟨p, q, hA0, hV, rfl, hfz, hnd⟩ := hW
  have hA : DataW.TrodAll enc Tryd.prog W 0 (fun _ => true) true Tryd.f4.params.toList args.toList ds p := hA0
  rw [Tryd.params4] at hA hval hsz0
  obtain ⟨v0, vs0, d0, ds0, p0, q0, hargs, rfl, rfl, h0, r0⟩ := trodAll_cons hA
  obtain ⟨v1, vs1, d1, ds1, p1, q1, rfl, rfl, rfl, h1, r1⟩ := trodAll_cons r0
  obtain ⟨v2, vs2, d2, ds2, p2, q2, rfl, rfl, rfl, h2, r2⟩ := trodAll_cons r1
  obtain ⟨rfl, rfl, rfl⟩ := trodAll_nil r2
  obtain rfl : args = #[v0, v1, v2] := by cases args; simp_all
  obtain ⟨rfl, rfl⟩ := trodVars_none hV
  obtain ⟨a0, rfl, rfl, rfl, w0⟩ := open_string Tryd.underlying9 (hval 0 9 v0 rfl rfl) h0
  have hbd0 : a0.size ≤ 140737488355328 := by
    have hb := sized_string hsz0 (j := 0) (t := 9) rfl rfl
    have e : a0.data.toList.length = a0.size := by simp
    have := reachBytes_lt
    omega
  obtain ⟨a1, rfl, rfl, rfl, w1⟩ := open_string Tryd.underlying9 (hval 1 9 v1 rfl rfl) h1
  have hbd1 : a1.size ≤ 140737488355328 := by
    have hb := sized_string hsz0 (j := 1) (t := 9) rfl rfl
    have e : a1.data.toList.length = a1.size := by simp
    have := reachBytes_lt
    omega
  obtain ⟨a2, rfl, rfl, rfl, w2⟩ := open_string Tryd.underlying9 (hval 2 9 v2 rfl rfl) h2
  have hbd2 : a2.size ≤ 140737488355328 := by
    have hb := sized_string hsz0 (j := 2) (t := 9) rfl rfl
    have e : a2.data.toList.length = a2.size := by simp
    have := reachBytes_lt
    omega
  clear hA0
  simp only [List.append_nil] at hW'
  refine (walk a0 a1 a2 W hbd0 hbd1 hbd2 (lw_of hL)).mono fun e W' ⟨he, hg⟩ => ?_
  subst he
  exact ⟨_, rfl, _, _, _, [], [], [], hW', trodAll_cons_mk (shut_bool Tryd.underlying4 _) trodAll_mk0, trodAll_cons_mk (shut_string Tryd.underlying9 w0) (trodAll_cons_mk (shut_string Tryd.underlying9 w1) (trodAll_cons_mk (shut_string Tryd.underlying9 w2) trodAll_mk0)), rfl, hg.frame _, fun h => by cases h⟩

theorem reads (os : Os) {H : Type} (enc : TypeId × Value → H) : ∃ places, DataW.whole enc Tryd.prog ((World.doorLaid Tryd.prog 62 os).forCall (fun _ _ => 0) ⟨#[], #[.string ⟨#[]⟩, .string ⟨#[]⟩, .string ⟨#[]⟩], []⟩).memory Tryd.f4.params.toList Rows.belowRowSpec.vars false #[Value.string ⟨#[]⟩, .string ⟨#[]⟩, .string ⟨#[]⟩].toList 8 = some ([.lit (.string []), .lit (.string []), .lit (.string [])], [], places) :=
  ⟨[], by kernel_rfl⟩

set_option maxRecDepth 100000 in
theorem lifted (os : Os) (started : os.Started) (H : Type) (enc : TypeId × Value → H) (F : Stop.Interp) :
    ReturnsInHanded {} Tryd.checked os 4 .any ((OpenSpec.ofChange Rows.belowRowSpec).preRow enc Tryd.prog Tryd.f4 Rows.belowRowRow.domain false Rows.belowRowRow.laid) (((OpenSpec.ofChange Rows.belowRowSpec).at F).post enc Tryd.prog Tryd.f4 false true false false) := by
  obtain ⟨places, hx⟩ := reads os enc
  refine returnsInHanded_of_row (C := Tryd.checked) (s := OpenSpec.ofChange Rows.belowRowSpec) own started (by kernel_rfl) Tryd.func4
    (witness_row_atRef (enc := enc) (C := Tryd.checked) false (World.doorLaid Tryd.prog 62 os) #[.string ⟨#[]⟩, .string ⟨#[]⟩, .string ⟨#[]⟩] rfl (by kernel_rfl) (by kernel_rfl) (by kernel_rfl)
      (OpenSpec.preRow_of_cond 8 hx (by kernel_rfl) (fun k hk => by cases hk) (by kernel_rfl) (door_met os _))) ?_
  intro W base args ds gs before hval hW _ _ hsz hL _ _
  exact contract H enc W base args ds gs before hval hW hsz hL

theorem said : Rows.BelowRowSaid :=
  OpenClaim.holds_of_cond 4 Tryd.f4 rfl rfl rfl rfl rfl rfl rfl ⟨rfl, rfl, rfl, rfl, rfl⟩ rfl rfl rfl rfl rfl (by kernel_rfl) Tryd.func4 (by kernel_rfl)
    (of_decide_eq_true (by kernel_rfl)) (by unfold Func.isWrapper; first | (rw [if_pos (by decide +kernel)]; kernel_rfl) | (rw [if_neg (by decide +kernel)]; exact ⟨rfl, rfl⟩))
    (fun os started H enc _ F => by rw [OpenClaim.pre_eq_preRow]; exact lifted os started H enc F)

theorem plain (f : FuncId) (fn : Func) (hf : Tryd.pinned.checked.prog.funcNamed "sleuth/sleuthlaw3.BelowRow" = some f) (hfn : Tryd.pinned.checked.prog.funcs[f]? = some fn) :
    true = Tryd.pinned.checked.prog.looks [] ∧ ∀ (j : Nat) t, fn.params[j]? = some t → Tryd.pinned.checked.prog.wantsStandIn t = false := by
  obtain rfl : f = 4 := Option.some.inj ((show Tryd.prog.funcNamed "sleuth/sleuthlaw3.BelowRow" = some 4 by kernel_rfl).symm.trans hf) |>.symm
  obtain rfl : fn = Tryd.f4 := (Option.some.inj (Tryd.func4.symm.trans hfn)).symm
  refine ⟨by kernel_rfl, fun j t ht => ?_⟩
  rw [Tryd.params4] at ht
  have hm : t ∈ [9, 9, 9] := by simpa using Array.mem_of_getElem? ht
  have hall : ([9, 9, 9].all fun u => !Tryd.prog.wantsStandIn u) = true := by kernel_rfl
  exact (show Tryd.prog.wantsStandIn t = false by simpa using List.all_eq_true.1 hall t hm)

/-- The given statement. -/
theorem card : Rows.BelowRowCardSaid :=
  Claim7.holds_tied_plain_at .later [] _ _ _ _ said (fun _ h => by cases h) (by kernel_rfl) (fun _ h => by cases h) belowRow_row_tie rfl ⟨rfl, rfl⟩ (by kernel_rfl) rfl plain (by kernel_rfl)
end Go.Proofs.YtcjpepbajcdenaaDoor.belowRow
namespace Go.Proofs.YtcjpepbajcdenaaDoor
theorem belowRow_holds : Rows.BelowRowCardSaid := belowRow.card
end Go.Proofs.YtcjpepbajcdenaaDoor
