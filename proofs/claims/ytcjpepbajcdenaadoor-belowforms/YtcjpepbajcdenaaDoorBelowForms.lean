/- Whatever the int which is, the text that it picks out of four that are no terms is refused by Is with the document's error, at either place and at both; the condition is the card's own: the listed variables of the library read as their initialisers lay them. -/
import Derived.Test.YtcjpepbajcdenaaDoorWake
namespace Go.Proofs.YtcjpepbajcdenaaDoor.belowForms
open Go.ChangeShapes Go.WideShapes Go.ChangeAt Go.RowKit
set_option linter.unusedVariables false

/-- The last two bits of an int. -/
theorem and_3 (x : Int) : ∃ m : Nat, bits .and .i64 x 3 = (m : Int) ∧ m < 4 := by
  refine ⟨(x % 4).toNat, ?_, by omega⟩
  have hb : (BitVec.ofInt 64 3).toNat = 3 := by decide
  have h : bits .and .i64 x 3 = IntKind.i64.wrap (((BitVec.ofInt 64 x &&& BitVec.ofInt 64 3).toNat : Nat) : Int) := rfl
  rw [h, BitVec.toNat_and, hb, BitVec.toNat_ofInt, show (3 : Nat) = 2 ^ 2 - 1 from rfl, Nat.and_two_pow_sub_one_eq_mod, IntKind.wrap_i64]
  simp only [show ((2 : Nat) ^ 64) = 18446744073709551616 from rfl, show ((2 : Nat) ^ 2) = 4 from rfl]
  omega

/-- Texts that are no terms. -/
def forms : List (List UInt8) := [[], [48, 49], [64, 49, 40], [120]]
theorem forms_none : forms.all (fun s => (whole s).isNone && decide (s.length ≤ 20)) = true := by decide +kernel
theorem forms_at (m : Nat) (h : m < 4) : ∃ s : ByteArray, ((forms.map S).toArray)[m]? = some (.string s) ∧ whole s.data.toList = none ∧ s.size ≤ 20 := by
  have hl : forms.length = 4 := rfl
  obtain ⟨l, hf⟩ : ∃ l, forms[m]? = some l := ⟨_, List.getElem?_eq_getElem (by omega)⟩
  have hm := List.all_eq_true.1 forms_none _ (List.mem_of_getElem? hf)
  simp only [Bool.and_eq_true, decide_eq_true_eq, Option.isNone_iff_eq_none] at hm
  refine ⟨⟨l.toArray⟩, ?_, hm.1, ?_⟩
  · simp [hf]
  · exact hm.2
theorem bad_left {a : List UInt8} (b : List UInt8) (h : whole a = none) : isB a b = false ∧ isE a b = 300 := by unfold isB isE; rw [h]; exact ⟨rfl, rfl⟩
theorem bad_right (a : List UInt8) {b : List UInt8} (h : whole b = none) : isB a b = false ∧ isE a b = 300 := by
  unfold isB isE; rw [h]; simp

set_option maxHeartbeats 1600000 in
set_option maxRecDepth 100000 in
/- The walk: the law's Go text returns true. -/
theorem walk (a0 : Int) (w : World) (hw : Lw w) :
    Calls Tryd.prog 5 #[.int .i64 a0] w fun e w' => e = .returned (.bool true) ∧ Below w.heap.size w w' := by
  obtain ⟨m, hm, hlt⟩ := and_3 a0
  obtain ⟨s, hs0, hsw, hsz⟩ := forms_at m hlt
  have hs : ∀ h : m < 4, ([.string ⟨#[]⟩, .string ⟨#[48, 49]⟩, .string ⟨#[64, 49, 40]⟩, .string ⟨#[120]⟩] : List Value)[m]'h = .string s := fun h => by
    have e : ([.string ⟨#[]⟩, .string ⟨#[48, 49]⟩, .string ⟨#[64, 49, 40]⟩, .string ⟨#[120]⟩] : List Value)[m]? = some (.string s) := by rw [← hs0]; exact (List.getElem?_toArray).symm
    rw [List.getElem?_eq_getElem h] at e
    exact Option.some.inj e
  clear hs0
  have HW : Hid (whole s.data.toList = none) := hsw
  clear hsw
  go_enter Tryd.func5, Tryd.ntmps5
  go_wp2_with fail
  refine (awake_any _ hw).mono ?_
  rintro e w1 ⟨rfl, hb1⟩
  have hw1 := hw.on hb1
  go_wp2_with fail
  clear hs
  refine (is_at s ⟨#[95]⟩ _ _ _ (bad_left _ HW.out) (by omega) (by decide) ?_).mono ?_
  · exact hw1.on ((Below.refl _ _).alloc (Nat.le_refl _) _)
  rintro e w2 ⟨rfl, hb2⟩
  have h02 : Below w.heap.size w w2 := (hb1.alloc hb1.size _).trans (hb2.mono (by have := hb1.size; simp; omega))
  have hw2 := hw.on h02
  clear hb1 hb2 hw1
  go_wp2_with fail
  refine (is_at ⟨#[95]⟩ s _ _ _ (bad_right _ HW.out) (by decide) (by omega) hw2).mono ?_
  rintro e w3 ⟨rfl, hb3⟩
  have h03 := below_next h02 hb3
  have hw3 := hw.on h03
  clear hb3 hw2 h02
  go_wp2_with fail
  refine (is_at s s _ _ _ (bad_left _ HW.out) (by omega) (by omega) hw3).mono ?_
  rintro e w4 ⟨rfl, hb4⟩
  have h04 := below_next h03 hb4
  clear hb4 hw3 h03
  go_wp2_with (go_at_call 11; refine (num_any _ _).mono ?_; rintro e w' ⟨rfl, rfl⟩)
  go_ret
  exact ⟨rfl, h04⟩

set_option maxRecDepth 100000 in
/-- What the walk gives, for every argument and every world that holds the list. -/
theorem contract (H : Type) (enc : TypeId × Value → H) (W : World) (base : Nat) (args : Array Value) (ds gs : List (DataW H)) (before : List MemPlace)
    (hval : ∀ (j : Nat) t v, Tryd.f5.params[j]? = some t → args[j]? = some v → Value.okWide Tryd.prog W .any base t v)
    (hW : DataW.Whole enc Tryd.prog Tryd.f5.params.toList Rows.belowFormsSpec.vars false W args.toList ds gs before) (hL : laidMetH Tryd.prog Rows.belowFormsRow.laid W) :
    Calls Tryd.prog 5 args W fun e W' => ∃ v, e = .returned v ∧ Rows.belowFormsSpec.post enc Tryd.prog Tryd.f5 false true false false W args v W' := by
  have hW' := hW
  obtain ⟨p, q, hA0, hV, rfl, hfz, hnd⟩ := hW
  have hA : DataW.TrodAll enc Tryd.prog W 0 (fun _ => true) true Tryd.f5.params.toList args.toList ds p := hA0
  rw [Tryd.params5] at hA hval
  obtain ⟨v0, vs0, d0, ds0, p0, q0, hargs, rfl, rfl, h0, r0⟩ := trodAll_cons hA
  obtain ⟨rfl, rfl, rfl⟩ := trodAll_nil r0
  obtain rfl : args = #[v0] := by cases args; simp_all
  obtain ⟨rfl, rfl⟩ := trodVars_none hV
  obtain ⟨a0, rfl, rfl, rfl, w0⟩ := open_int Tryd.underlying3 (hval 0 3 v0 rfl rfl) h0
  clear hA0
  simp only [List.append_nil] at hW'
  refine (walk a0 W (lw_of hL)).mono fun e W' ⟨he, hg⟩ => ?_
  subst he
  exact ⟨_, rfl, _, _, _, [], [], [], hW', trodAll_cons_mk (shut_bool Tryd.underlying4 _) trodAll_mk0, trodAll_cons_mk (shut_int Tryd.underlying3 w0) trodAll_mk0, rfl, hg.frame _, fun h => by cases h⟩

theorem reads (os : Os) {H : Type} (enc : TypeId × Value → H) : ∃ places, DataW.whole enc Tryd.prog ((World.doorLaid Tryd.prog 62 os).forCall (fun _ _ => 0) ⟨#[], #[.int .i64 0], []⟩).memory Tryd.f5.params.toList Rows.belowFormsSpec.vars false #[Value.int .i64 0].toList 8 = some ([.lit (.int .i64 0)], [], places) :=
  ⟨[], by kernel_rfl⟩

set_option maxRecDepth 100000 in
theorem lifted (os : Os) (started : os.Started) (H : Type) (enc : TypeId × Value → H) (F : Stop.Interp) :
    ReturnsInHanded {} Tryd.checked os 5 .any ((OpenSpec.ofChange Rows.belowFormsSpec).preRow enc Tryd.prog Tryd.f5 Rows.belowFormsRow.domain false Rows.belowFormsRow.laid) (((OpenSpec.ofChange Rows.belowFormsSpec).at F).post enc Tryd.prog Tryd.f5 false true false false) := by
  obtain ⟨places, hx⟩ := reads os enc
  refine returnsInHanded_of_row (C := Tryd.checked) (s := OpenSpec.ofChange Rows.belowFormsSpec) own started (by kernel_rfl) Tryd.func5
    (witness_row_atRef (enc := enc) (C := Tryd.checked) false (World.doorLaid Tryd.prog 62 os) #[.int .i64 0] rfl (by kernel_rfl) (by kernel_rfl) (by kernel_rfl)
      (OpenSpec.preRow_of_cond 8 hx (by kernel_rfl) (fun k hk => by cases hk) (by kernel_rfl) (door_met os _))) ?_
  intro W base args ds gs before hval hW _ _ _ hL _ _
  exact contract H enc W base args ds gs before hval hW hL

theorem said : Rows.BelowFormsSaid :=
  OpenClaim.holds_of_cond 5 Tryd.f5 rfl rfl rfl rfl rfl rfl rfl ⟨rfl, rfl, rfl, rfl, rfl⟩ rfl rfl rfl rfl rfl (by kernel_rfl) Tryd.func5 (by kernel_rfl)
    (of_decide_eq_true (by kernel_rfl)) (by unfold Func.isWrapper; first | (rw [if_pos (by decide +kernel)]; kernel_rfl) | (rw [if_neg (by decide +kernel)]; exact ⟨rfl, rfl⟩))
    (fun os started H enc _ F => by rw [OpenClaim.pre_eq_preRow]; exact lifted os started H enc F)

theorem plain (f : FuncId) (fn : Func) (hf : Tryd.pinned.checked.prog.funcNamed "sleuth/sleuthlaw3.BelowForms" = some f) (hfn : Tryd.pinned.checked.prog.funcs[f]? = some fn) :
    true = Tryd.pinned.checked.prog.looks [] ∧ ∀ (j : Nat) t, fn.params[j]? = some t → Tryd.pinned.checked.prog.wantsStandIn t = false := by
  obtain rfl : f = 5 := Option.some.inj ((show Tryd.prog.funcNamed "sleuth/sleuthlaw3.BelowForms" = some 5 by kernel_rfl).symm.trans hf) |>.symm
  obtain rfl : fn = Tryd.f5 := (Option.some.inj (Tryd.func5.symm.trans hfn)).symm
  refine ⟨by kernel_rfl, fun j t ht => ?_⟩
  rw [Tryd.params5] at ht
  have hm : t ∈ [3] := by simpa using Array.mem_of_getElem? ht
  have hall : ([3].all fun u => !Tryd.prog.wantsStandIn u) = true := by kernel_rfl
  exact (show Tryd.prog.wantsStandIn t = false by simpa using List.all_eq_true.1 hall t hm)

/-- The given statement. -/
theorem card : Rows.BelowFormsCardSaid :=
  Claim7.holds_tied_plain_at .later [] _ _ _ _ said (fun _ h => by cases h) (by kernel_rfl) (fun _ h => by cases h) belowForms_row_tie rfl ⟨rfl, rfl⟩ (by kernel_rfl) rfl plain (by kernel_rfl)
end Go.Proofs.YtcjpepbajcdenaaDoor.belowForms
namespace Go.Proofs.YtcjpepbajcdenaaDoor
theorem belowForms_holds : Rows.BelowFormsCardSaid := belowForms.card
end Go.Proofs.YtcjpepbajcdenaaDoor
