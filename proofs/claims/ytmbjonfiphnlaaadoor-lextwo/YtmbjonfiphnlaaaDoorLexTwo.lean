/- sleuthlaw4.LexTwo returns true at every input: two texts with a line end between have both's words, or the whole is refused; the inputs are as they were. The condition is the card's own: the two listed tables of unicode/utf8 read as their texts lay them. -/
import Derived.Test.YtmbjonfiphnlaaaDoorLaid
import Derived.Test.YtmbjonfiphnlaaaDoorApp
import Derived.SizedLaws
import Derived.ChangeMaps5
namespace Go.Proofs.YtmbjonfiphnlaaaDoor.lexTwo
open Go.ChangeShapes Go.WideShapes Go.ChangeAt Go.RowKit Go.ChangeMaps
set_option linter.unusedVariables false

theorem good_two {a b : List UInt8} (h : good (a ++ 10 :: b) = true) : good a = true ∧ good b = true := by
  unfold good at h ⊢
  simp only [Bool.and_eq_true, decide_eq_true_eq, List.all_append, List.all_cons, List.length_append, List.length_cons] at h ⊢
  obtain ⟨h1, h2, _, h3⟩ := h
  exact ⟨⟨by omega, h2⟩, ⟨by omega, h3⟩⟩
theorem good_len {a : List UInt8} (h : good a = true) : a.length ≤ 2048 := by
  unfold good at h
  simpa using (Bool.and_eq_true_iff.1 h).1
theorem add_list (a b : ByteArray) : (a ++ b).data.toList = a.data.toList ++ b.data.toList := by
  rw [ByteArray.data_append]; simp

theorem own_low {W W' : World} {B m n : Nat} {v : Value} {xs : List Value} (h : W.ownsRow B 9 1 v n xs) (hb : Below m W W') (hm : ∀ a, v.ownBlock = some a → a < m) : W'.ownsRow B 9 1 v n xs := by
  refine ⟨h.1, ?_⟩
  rcases h.2 with hn | ⟨g, cap, cur, rfl, h1, h2, h3⟩
  · exact .inl hn
  · exact .inr ⟨g, cap, cur, rfl, h1, (hb.block g (hm g rfl)).trans h2, h3⟩

set_option maxHeartbeats 1600000 in
set_option maxRecDepth 100000 in
theorem walk (s t : ByteArray) (w : World) (hs : s.size ≤ 140737488355328) (ht : t.size ≤ 140737488355328) :
    Calls Tryd.prog 6 #[.string s, .string t] w fun e w' => e = .returned (.bool true) ∧ Below w.heap.size w w' := by
  have hL : (s ++ ⟨#[10]⟩ ++ t).data.toList = s.data.toList ++ 10 :: t.data.toList := by rw [add_list, add_list]; simp
  obtain ⟨u, hu⟩ : ∃ u, s ++ ⟨#[10]⟩ ++ t = u := ⟨_, rfl⟩
  rw [hu] at hL
  go_enter Tryd.func6, Tryd.ntmps6
  go_wp2_with fail
  refine (awake_any w).mono ?_
  rintro e w1 ⟨rfl, hb1⟩
  go_wp2_with fail
  cases hg : good u.data.toList with
  | false =>
    refine (words_any s w1).mono ?_
    rintro e w2 ⟨g1, n1, c1, er1, rfl, hb2, hq1⟩
    have h1 : er1 = 0 ∨ er1 = 400 := hq1.imp (fun h => h.2.1) (fun h => h.2.1)
    have h02 := below_next hb1 hb2
    clear hb1 hb2 hq1
    go_wp2_with fail
    refine (words_any t w2).mono ?_
    rintro e w3 ⟨g2, n2, c2, er2, rfl, hb3, hq2⟩
    have h2 : er2 = 0 ∨ er2 = 400 := hq2.imp (fun h => h.2.1) (fun h => h.2.1)
    have h03 := below_next h02 hb3
    clear h02 hb3 hq2 hL
    go_wp2_with fail
    refine (words_bad u w3 hg).mono ?_
    rintro e w4 ⟨rfl, hb4⟩
    have h04 := below_next h03 hb4
    clear h03 hb4 hg
    rcases h1 with rfl | rfl <;> rcases h2 with rfl | rfl <;> (
      go_wp2_with (go_at_call 11; refine (num_any _ _).mono ?_; rintro e w' ⟨rfl, rfl⟩)
      go_ret
      exact ⟨rfl, h04⟩)
  | true =>
    have hg2 := hg
    rw [hL] at hg2
    obtain ⟨hgs, hgt⟩ := good_two hg2
    have hls := good_len hgs
    have hlt := good_len hgt
    have HW : Hid (wd false [] u.data.toList = wd false [] s.data.toList ++ wd false [] t.data.toList) := by
      show wd false [] u.data.toList = _
      rw [hL, wd_line]
    have hlu := good_len hg
    clear hg2 hL
    refine (words_good s w1 hgs).mono ?_
    rintro e w2 ⟨g1, c1, rfl, ho1, hb2⟩
    have h02 := below_next hb1 hb2
    have hk1 := wd_short s.data.toList
    obtain ⟨ks, hks⟩ : ∃ ks, wd false [] s.data.toList = ks := ⟨_, rfl⟩
    rw [hks] at ho1 hk1 HW ⊢
    clear hb1 hb2 hks
    go_wp2_with fail
    refine (words_good t w2 hgt).mono ?_
    rintro e w3 ⟨g2, c2, rfl, ho2, hb3⟩
    have h03 := below_next h02 hb3
    have hk2 := wd_short t.data.toList
    obtain ⟨ms, hms⟩ : ∃ ms, wd false [] t.data.toList = ms := ⟨_, rfl⟩
    rw [hms] at ho2 hk2 HW ⊢
    replace ho1 := own_below ho1 hb3
    clear h02 hb3 hms
    go_wp2_with fail
    refine (words_good u w3 hg).mono ?_
    rintro e w4 ⟨g3, c3, rfl, ho3, hb4⟩
    have h04 := below_next h03 hb4
    replace ho1 := own_below ho1 hb4
    replace ho2 := own_below ho2 hb4
    rw [HW.out] at ho3 ⊢
    obtain ⟨al, has⟩ : ∃ al, al = ks ++ ms := ⟨_, rfl⟩
    rw [← has] at ho3 ⊢
    have hla : al.length ≤ 4096 := by rw [has, List.length_append]; omega
    have HA : Hid (al = ks ++ ms) := has
    have HC3 : Hid (∀ a, (Value.slice g3 al.length c3).ownBlock = some a → a < w4.heap.size) := fun a e => by
      obtain ⟨_, _, _, h⟩ := own_len ho3
      exact (h a e).2
    have H04 : Hid (Below w.heap.size w w4) := h04
    clear h03 hb4 has HW
    go_wp2_with (first | (go_at_call 11; refine (num_any _ _).mono ?_; rintro e w' ⟨rfl, rfl⟩) | (at_builtin; refine app_two rfl _ _ rfl w4.heap.size w1.heap.size _ _ [] ks rfl rfl (own_none w4 w4.heap.size (Nat.le_refl _)) (ho1.alloc _) (by simp) (by simp; omega) ?_))
    intro v1 w5 h5 hgr5
    have hb5 : Below w4.heap.size w4 w5 := ((Below.refl _ _).alloc (Nat.le_refl _) _).grown hgr5 (by rw [World.size_alloc]; omega) (fun k e => by cases e; exact Nat.le_refl _)
    replace ho2 := own_below ho2 hb5
    replace ho3 := own_below ho3 hb5
    have h05 := below_next h04 hb5
    have hz5 := hb5.size
    obtain ⟨gv, cv, rfl, hblk⟩ := own_len h5
    have HBL : Hid _ := hblk
    have HB5 : Hid (Below w4.heap.size w4 w5) := hb5
    clear hgr5 ho1 h04 hblk hb5
    go_wp2_with (at_builtin; refine app_two rfl _ _ rfl w4.heap.size w2.heap.size _ _ ks ms rfl rfl h5 ho2 hz5 (by omega) ?_)
    intro v2 w6 h6 hgr6
    replace h6 : w6.ownsRow w4.heap.size 9 1 v2 al.length (al.map S) := by rw [HA.out]; simpa using h6
    have hb6 : Below w4.heap.size w5 w6 := (Below.refl _ _).grown hgr6 hz5 (fun k e => (HBL.out k e).1)
    have ho6 : w6.ownsRow w3.heap.size 9 1 (.slice g3 al.length c3) al.length (al.map S) := own_low ho3 hb6 HC3.out
    have h06 : Below w.heap.size w w6 := below_next H04.out (HB5.out.trans hb6)
    obtain ⟨gx, cx, rfl, _⟩ := own_len h6
    have ht1 := (own_ba ho6).2
    have ht2 := (own_ba h6).2
    clear h6 ho6 hgr6 h5 ho2 ho3 hb6
    go_wp2_with fail
    refine (same_at _ _ _ _ (al.map ba) (al.map ba) _ _ _ (by simp) (by simp) ht1 ht2 (by simp; omega) (by simp; omega)).mono ?_
    rintro e w7 ⟨rfl, hb7⟩
    rw [show sameB (al.map ba) (al.map ba) = true from decide_eq_true rfl]
    go_wp2_with fail
    go_ret
    exact ⟨rfl, below_next h06 hb7⟩

set_option maxRecDepth 100000 in
/-- What the walk gives, for every argument and every world that holds the list. -/
theorem contract (H : Type) (enc : TypeId × Value → H) (W : World) (base : Nat) (args : Array Value) (ds gs : List (DataW H)) (before : List MemPlace)
    (hval : ∀ (j : Nat) t v, Tryd.f6.params[j]? = some t → args[j]? = some v → Value.okWide Tryd.prog W .any base t v)
    (hW : DataW.Whole enc Tryd.prog Tryd.f6.params.toList Rows.lexTwoSpec.vars false W args.toList ds gs before)
    (hsz0 : (DataW.weightsEach Tryd.prog (Tryd.f6.params.toList ++ (OpenSpec.ofChange Rows.lexTwoSpec).bare.plain.varTypes Tryd.prog) (ds ++ gs)).all (· ≤ reachBytes) = true) (hL : laidMetH Tryd.prog Rows.lexTwoRow.laid W) :
    Calls Tryd.prog 6 args W fun e W' => ∃ v, e = .returned v ∧ Rows.lexTwoSpec.post enc Tryd.prog Tryd.f6 false true false false W args v W' := by
  have hW' := hW
  obtain ⟨p, q, hA0, hV, rfl, hfz, hnd⟩ := hW
  have hA : DataW.TrodAll enc Tryd.prog W 0 (fun _ => true) true Tryd.f6.params.toList args.toList ds p := hA0
  rw [Tryd.params6] at hA hval hsz0
  obtain ⟨v0, vs0, d0, ds0, p0, q0, hargs, rfl, rfl, h0, r0⟩ := trodAll_cons hA
  obtain ⟨v1, vs1, d1, ds1, p1, q1, rfl, rfl, rfl, h1, r1⟩ := trodAll_cons r0
  obtain ⟨rfl, rfl, rfl⟩ := trodAll_nil r1
  obtain rfl : args = #[v0, v1] := by cases args; simp_all
  obtain ⟨rfl, rfl⟩ := trodVars_none hV
  obtain ⟨a0, rfl, rfl, rfl, w0⟩ := open_string Tryd.underlying9 (hval 0 9 v0 rfl rfl) h0
  have hbd0 : a0.size ≤ 140737488355328 := by
    have hb := sized_string hsz0 (j := 0) (t := 9) rfl rfl
    have e : a0.data.toList.length = a0.size := by simp
    have := reachBytes_lt
    omega
  obtain ⟨a1, rfl, rfl, rfl, w1⟩ := open_string Tryd.underlying9 (hval 1 9 v1 rfl rfl) h1
  have hbd1 : a1.size ≤ 140737488355328 := by
    have hb := sized_string hsz0 (j := 1) (t := 9) rfl rfl
    have e : a1.data.toList.length = a1.size := by simp
    have := reachBytes_lt
    omega
  clear hA0
  simp only [List.append_nil] at hW'
  refine (walk a0 a1 W hbd0 hbd1 ).mono fun e W' ⟨he, hg⟩ => ?_
  subst he
  exact ⟨_, rfl, _, _, _, [], [], [], hW', trodAll_cons_mk (shut_bool Tryd.underlying4 _) trodAll_mk0, trodAll_cons_mk (shut_string Tryd.underlying9 w0) (trodAll_cons_mk (shut_string Tryd.underlying9 w1) trodAll_mk0), rfl, hg.frame _, fun h => by cases h⟩

theorem reads (os : Os) {H : Type} (enc : TypeId × Value → H) : ∃ places, DataW.whole enc Tryd.prog ((World.laidAll Tryd.prog os Rows.lexTwoRow.laid).forCall (fun _ _ => 0) ⟨#[], #[.string ⟨#[]⟩, .string ⟨#[]⟩], []⟩).memory Tryd.f6.params.toList Rows.lexTwoSpec.vars false #[Value.string ⟨#[]⟩, .string ⟨#[]⟩].toList 8 = some ([.lit (.string []), .lit (.string [])], [], places) :=
  ⟨[], by kernel_rfl⟩

set_option maxRecDepth 100000 in
theorem lifted (os : Os) (started : os.Started) (H : Type) (enc : TypeId × Value → H) (F : Stop.Interp) :
    ReturnsInHanded {} Tryd.checked os 6 .any ((OpenSpec.ofChange Rows.lexTwoSpec).preRow enc Tryd.prog Tryd.f6 Rows.lexTwoRow.domain false Rows.lexTwoRow.laid) (((OpenSpec.ofChange Rows.lexTwoSpec).at F).post enc Tryd.prog Tryd.f6 false true false false) := by
  obtain ⟨places, hx⟩ := reads os enc
  refine returnsInHanded_of_row (C := Tryd.checked) (s := OpenSpec.ofChange Rows.lexTwoSpec) own started (by kernel_rfl) Tryd.func6
    (witness_row_atRef (enc := enc) (C := Tryd.checked) false (World.laidAll Tryd.prog os Rows.lexTwoRow.laid) #[.string ⟨#[]⟩, .string ⟨#[]⟩] (World.laidAll_os _ _ _) (by kernel_rfl) (by kernel_rfl) (by kernel_rfl)
      (OpenSpec.preRow_of_cond 8 hx (by kernel_rfl) (fun k hk => by cases hk) (by kernel_rfl) (door_met os _))) ?_
  intro W base args ds gs before hval hW _ _ hsz hL _ _
  exact contract H enc W base args ds gs before hval hW hsz hL

theorem said : Rows.LexTwoSaid :=
  OpenClaim.holds_of_cond 6 Tryd.f6 rfl rfl rfl rfl rfl rfl rfl ⟨rfl, rfl, rfl, rfl, rfl⟩ rfl rfl rfl rfl rfl (by kernel_rfl) Tryd.func6 (by kernel_rfl)
    (of_decide_eq_true (by kernel_rfl)) (by unfold Func.isWrapper; first | (rw [if_pos (by decide +kernel)]; kernel_rfl) | (rw [if_neg (by decide +kernel)]; exact ⟨rfl, rfl⟩))
    (fun os started H enc _ F => by rw [OpenClaim.pre_eq_preRow]; exact lifted os started H enc F)

theorem plain (f : FuncId) (fn : Func) (hf : Tryd.pinned.checked.prog.funcNamed "sleuth/sleuthlaw4.LexTwo" = some f) (hfn : Tryd.pinned.checked.prog.funcs[f]? = some fn) :
    false = Tryd.pinned.checked.prog.looks [] ∧ ∀ (j : Nat) t, fn.params[j]? = some t → Tryd.pinned.checked.prog.wantsStandIn t = false := by
  obtain rfl : f = 6 := Option.some.inj ((show Tryd.prog.funcNamed "sleuth/sleuthlaw4.LexTwo" = some 6 by kernel_rfl).symm.trans hf) |>.symm
  obtain rfl : fn = Tryd.f6 := (Option.some.inj (Tryd.func6.symm.trans hfn)).symm
  refine ⟨by kernel_rfl, fun j t ht => ?_⟩
  rw [Tryd.params6] at ht
  have hm : t ∈ [9, 9] := by simpa using Array.mem_of_getElem? ht
  have hall : ([9, 9].all fun u => !Tryd.prog.wantsStandIn u) = true := by kernel_rfl
  exact (show Tryd.prog.wantsStandIn t = false by simpa using List.all_eq_true.1 hall t hm)

/-- The given statement. -/
theorem card : Rows.LexTwoCardSaid :=
  Claim7.holds_tied_plain_at .later [] _ _ _ _ said (fun _ h => by cases h) (by kernel_rfl) (fun _ h => by cases h) lexTwo_row_tie rfl ⟨rfl, rfl⟩ (by kernel_rfl) rfl plain (by kernel_rfl)
end Go.Proofs.YtmbjonfiphnlaaaDoor.lexTwo
namespace Go.Proofs.YtmbjonfiphnlaaaDoor
theorem lexTwo_holds : Rows.LexTwoCardSaid := lexTwo.card
end Go.Proofs.YtmbjonfiphnlaaaDoor
