/- sleuthlaw4.Lexes returns true at every input: Words answers what the document's own answer is, and what is written over in one answer is not met in another; the input is as it was. The condition is the card's own: the two listed tables of unicode/utf8 read as their texts lay them. -/
import Derived.Test.YtmbjonfiphnlaaaDoorLaid
import Derived.Test.YtmbjonfiphnlaaaDoorRWords
import Derived.Test.YtmbjonfiphnlaaaDoorSpoil
import Derived.SizedLaws
import Derived.ChangeMaps5
namespace Go.Proofs.YtmbjonfiphnlaaaDoor.lexes
open Go.ChangeShapes Go.WideShapes Go.ChangeAt Go.RowKit Go.ChangeMaps
set_option linter.unusedVariables false

theorem rwords_good (s : ByteArray) (w : World) (h : good s.data.toList = true) :
    Calls Tryd.prog 9 #[.string s] w fun e w' => ∃ g c, e = .returned (.tuple #[.slice g (wd false [] s.data.toList).length c, .int .i64 0]) ∧
      w'.ownsRow w.heap.size 9 1 (.slice g (wd false [] s.data.toList).length c) (wd false [] s.data.toList).length ((wd false [] s.data.toList).map S) ∧ Below w.heap.size w w' := by
  refine (rwords_any s w).mono ?_
  rintro e w' ⟨g, n, c, er, rfl, hb, ⟨_, rfl, ho⟩ | ⟨h', _⟩⟩
  · obtain ⟨g', c', e, _⟩ := own_len ho
    cases e
    exact ⟨_, _, rfl, ho, hb⟩
  · rw [h] at h'; cases h'
theorem rwords_bad (s : ByteArray) (w : World) (h : good s.data.toList = false) :
    Calls Tryd.prog 9 #[.string s] w fun e w' => e = .returned (.tuple #[.slice none 0 0, .int .i64 400]) ∧ Below w.heap.size w w' := by
  refine (rwords_any s w).mono ?_
  rintro e w' ⟨g, n, c, er, rfl, hb, ⟨h', _⟩ | ⟨_, rfl, rfl, rfl, rfl⟩⟩
  · rw [h] at h'; cases h'
  · exact ⟨rfl, hb⟩

set_option maxHeartbeats 1600000 in
set_option maxRecDepth 100000 in
theorem walk (s : ByteArray) (w : World) :
    Calls Tryd.prog 3 #[.string s] w fun e w' => e = .returned (.bool true) ∧ Below w.heap.size w w' := by
  go_enter Tryd.func3, Tryd.ntmps3
  go_wp2_with fail
  cases hg : good s.data.toList with
  | false =>
    refine (words_bad s w hg).mono ?_
    rintro e w1 ⟨rfl, hb1⟩
    go_wp2_with fail
    refine (rwords_bad s w1 hg).mono ?_
    rintro e w2 ⟨rfl, hb2⟩
    have h02 := below_next hb1 hb2
    clear hb1 hb2 hg
    go_wp2_with fail
    refine (same_at none none 0 0 [] [] 0 0 w2 rfl rfl (Or.inl rfl) (Or.inl rfl) (by decide) (by decide)).mono ?_
    rintro e w3 ⟨rfl, hb3⟩
    rw [show sameB [] [] = true from decide_eq_true rfl]
    have h03 := below_next h02 hb3
    clear h02 hb3
    go_wp2_with (go_at_call 11; refine (num_any _ _).mono ?_; rintro e w' ⟨rfl, rfl⟩)
    refine (spoil_any (.slice none 0 0) [] w.heap.size w3 ⟨_, _, _, rfl⟩ (World.ownsRow_nil _ _ _ _) (by decide) (by simp)).mono ?_
    rintro e w4 ⟨rfl, hb4⟩
    have h04 := h03.trans hb4
    clear h03 hb4
    go_wp2_with fail
    refine (awake_any w4).mono ?_
    rintro e w5 ⟨rfl, hb5⟩
    go_wp2_with fail
    go_ret
    exact ⟨rfl, below_next h04 hb5⟩
  | true =>
    have hL : s.data.toList.length ≤ 2048 := by
      have h := hg
      unfold good at h
      simpa using (Bool.and_eq_true_iff.1 h).1
    have hks := wd_short s.data.toList
    have hkt : ∀ t ∈ wd false [] s.data.toList, t.length ≤ 2048 := fun t ht => by
      have := (wd_shape s.data.toList false [] (by simp) t ht).2.1
      rw [List.length_nil, Nat.zero_add] at this; omega
    refine (words_good s w hg).mono ?_
    rintro e w1 ⟨g1, c1, rfl, ho1, hb1⟩
    have hr := rwords_good s w1 hg
    obtain ⟨ks, hk⟩ : ∃ ks, wd false [] s.data.toList = ks := ⟨_, rfl⟩
    rw [hk] at hks hkt ho1 hr ⊢
    have HT : Hid (∀ t ∈ ks, t.length ≤ 2048) := hkt
    clear hkt hk hg
    go_wp2_with fail
    refine hr.mono ?_
    rintro e w2 ⟨g2, c2, rfl, ho2, hb2⟩
    have h02 := below_next hb1 hb2
    have ho1' := own_below ho1 hb2
    clear hb1 hb2 ho1 hr
    have ht1 := (own_ba ho1').2
    have ht2 := (own_ba ho2).2
    have HO : Hid _ := ho1'
    clear ho1' ho2
    go_wp2_with fail
    refine (same_at _ _ _ _ (ks.map ba) (ks.map ba) _ _ w2 (by simp) (by simp) ht1 ht2 (by simp; omega) (by simp; omega)).mono ?_
    rintro e w3 ⟨rfl, hb3⟩
    rw [show sameB (ks.map ba) (ks.map ba) = true from decide_eq_true rfl]
    have h03 := below_next h02 hb3
    have HO3 : Hid _ := own_below HO.out hb3
    clear h02 hb3 ht1 ht2 HO
    go_wp2_with (go_at_call 11; refine (num_any _ _).mono ?_; rintro e w' ⟨rfl, rfl⟩)
    refine (spoil_any _ ks w.heap.size w3 ⟨_, _, _, rfl⟩ HO3.out (by omega) HT.out).mono ?_
    rintro e w4 ⟨rfl, hb4⟩
    have h04 := h03.trans hb4
    clear h03 hb4 HO3
    go_wp2_with fail
    refine (awake_any w4).mono ?_
    rintro e w5 ⟨rfl, hb5⟩
    go_wp2_with fail
    go_ret
    exact ⟨rfl, below_next h04 hb5⟩

set_option maxRecDepth 100000 in
/-- What the walk gives, for every argument and every world that holds the list. -/
theorem contract (H : Type) (enc : TypeId × Value → H) (W : World) (base : Nat) (args : Array Value) (ds gs : List (DataW H)) (before : List MemPlace)
    (hval : ∀ (j : Nat) t v, Tryd.f3.params[j]? = some t → args[j]? = some v → Value.okWide Tryd.prog W .any base t v)
    (hW : DataW.Whole enc Tryd.prog Tryd.f3.params.toList Rows.lexesSpec.vars false W args.toList ds gs before)
    (hL : laidMetH Tryd.prog Rows.lexesRow.laid W) :
    Calls Tryd.prog 3 args W fun e W' => ∃ v, e = .returned v ∧ Rows.lexesSpec.post enc Tryd.prog Tryd.f3 false true false false W args v W' := by
  have hW' := hW
  obtain ⟨p, q, hA0, hV, rfl, hfz, hnd⟩ := hW
  have hA : DataW.TrodAll enc Tryd.prog W 0 (fun _ => true) true Tryd.f3.params.toList args.toList ds p := hA0
  rw [Tryd.params3] at hA hval
  obtain ⟨v0, vs0, d0, ds0, p0, q0, hargs, rfl, rfl, h0, r0⟩ := trodAll_cons hA
  obtain ⟨rfl, rfl, rfl⟩ := trodAll_nil r0
  obtain rfl : args = #[v0] := by cases args; simp_all
  obtain ⟨rfl, rfl⟩ := trodVars_none hV
  obtain ⟨a0, rfl, rfl, rfl, w0⟩ := open_string Tryd.underlying9 (hval 0 9 v0 rfl rfl) h0
  clear hA0
  simp only [List.append_nil] at hW'
  refine (walk a0 W ).mono fun e W' ⟨he, hg⟩ => ?_
  subst he
  exact ⟨_, rfl, _, _, _, [], [], [], hW', trodAll_cons_mk (shut_bool Tryd.underlying4 _) trodAll_mk0, trodAll_cons_mk (shut_string Tryd.underlying9 w0) trodAll_mk0, rfl, hg.frame _, fun h => by cases h⟩

theorem reads (os : Os) {H : Type} (enc : TypeId × Value → H) : ∃ places, DataW.whole enc Tryd.prog ((World.laidAll Tryd.prog os Rows.lexesRow.laid).forCall (fun _ _ => 0) ⟨#[], #[.string ⟨#[]⟩], []⟩).memory Tryd.f3.params.toList Rows.lexesSpec.vars false #[Value.string ⟨#[]⟩].toList 8 = some ([.lit (.string [])], [], places) :=
  ⟨[], by kernel_rfl⟩

set_option maxRecDepth 100000 in
theorem lifted (os : Os) (started : os.Started) (H : Type) (enc : TypeId × Value → H) (F : Stop.Interp) :
    ReturnsInHanded {} Tryd.checked os 3 .any ((OpenSpec.ofChange Rows.lexesSpec).preRow enc Tryd.prog Tryd.f3 Rows.lexesRow.domain false Rows.lexesRow.laid) (((OpenSpec.ofChange Rows.lexesSpec).at F).post enc Tryd.prog Tryd.f3 false true false false) := by
  obtain ⟨places, hx⟩ := reads os enc
  refine returnsInHanded_of_row (C := Tryd.checked) (s := OpenSpec.ofChange Rows.lexesSpec) own started (by kernel_rfl) Tryd.func3
    (witness_row_atRef (enc := enc) (C := Tryd.checked) false (World.laidAll Tryd.prog os Rows.lexesRow.laid) #[.string ⟨#[]⟩] (World.laidAll_os _ _ _) (by kernel_rfl) (by kernel_rfl) (by kernel_rfl)
      (OpenSpec.preRow_of_cond 8 hx (by kernel_rfl) (fun k hk => by cases hk) (by kernel_rfl) (door_met os _))) ?_
  intro W base args ds gs before hval hW _ _ _ hL _ _
  exact contract H enc W base args ds gs before hval hW hL

theorem said : Rows.LexesSaid :=
  OpenClaim.holds_of_cond 3 Tryd.f3 rfl rfl rfl rfl rfl rfl rfl ⟨rfl, rfl, rfl, rfl, rfl⟩ rfl rfl rfl rfl rfl (by kernel_rfl) Tryd.func3 (by kernel_rfl)
    (of_decide_eq_true (by kernel_rfl)) (by unfold Func.isWrapper; first | (rw [if_pos (by decide +kernel)]; kernel_rfl) | (rw [if_neg (by decide +kernel)]; exact ⟨rfl, rfl⟩))
    (fun os started H enc _ F => by rw [OpenClaim.pre_eq_preRow]; exact lifted os started H enc F)

theorem plain (f : FuncId) (fn : Func) (hf : Tryd.pinned.checked.prog.funcNamed "sleuth/sleuthlaw4.Lexes" = some f) (hfn : Tryd.pinned.checked.prog.funcs[f]? = some fn) :
    false = Tryd.pinned.checked.prog.looks [] ∧ ∀ (j : Nat) t, fn.params[j]? = some t → Tryd.pinned.checked.prog.wantsStandIn t = false := by
  obtain rfl : f = 3 := Option.some.inj ((show Tryd.prog.funcNamed "sleuth/sleuthlaw4.Lexes" = some 3 by kernel_rfl).symm.trans hf) |>.symm
  obtain rfl : fn = Tryd.f3 := (Option.some.inj (Tryd.func3.symm.trans hfn)).symm
  refine ⟨by kernel_rfl, fun j t ht => ?_⟩
  rw [Tryd.params3] at ht
  have hm : t ∈ [9] := by simpa using Array.mem_of_getElem? ht
  have hall : ([9].all fun u => !Tryd.prog.wantsStandIn u) = true := by kernel_rfl
  exact (show Tryd.prog.wantsStandIn t = false by simpa using List.all_eq_true.1 hall t hm)

/-- The given statement. -/
theorem card : Rows.LexesCardSaid :=
  Claim7.holds_tied_plain_at .later [] _ _ _ _ said (fun _ h => by cases h) (by kernel_rfl) (fun _ h => by cases h) lexes_row_tie rfl ⟨rfl, rfl⟩ (by kernel_rfl) rfl plain (by kernel_rfl)
end Go.Proofs.YtmbjonfiphnlaaaDoor.lexes
namespace Go.Proofs.YtmbjonfiphnlaaaDoor
theorem lexes_holds : Rows.LexesCardSaid := lexes.card
end Go.Proofs.YtmbjonfiphnlaaaDoor
