/- Whatever the ints x and y are, of the nine texts of unlike numbers, failures and constructors that they pick Is says that one is below the other just if both are the same one, and that none is below a hole; the condition is the card's own: the listed variables of the library read as their initialisers lay them. -/
import Derived.Test.YtcjpepbajcdenaaDoorKeep
namespace Go.Proofs.YtcjpepbajcdenaaDoor.belowOthers
open Go.ChangeShapes Go.WideShapes Go.ChangeAt Go.RowKit
set_option linter.unusedVariables false

/-- The nine texts. -/
def nine : List (List UInt8) := [[33], [48], [55], [64, 48], [64, 55], [64, 55, 40, 48, 41], [64, 55, 40, 48, 32, 48, 41], [64, 56, 40, 48, 41], [45, 55]]
theorem nine_all : ((List.range 9).all fun i => (List.range 9).all fun j => (isB (nine.getD i []) (nine.getD j []) == decide (i = j)) && decide (isE (nine.getD i []) (nine.getD j []) = 0)) = true := by decide +kernel
theorem nine_no : ((List.range 9).all fun i => (isB (nine.getD i []) [95] == false) && decide (isE (nine.getD i []) [95] = 0) && decide ((nine.getD i []).length ≤ 20)) = true := by decide +kernel
theorem nine_is {i j : Nat} (hi : i < 9) (hj : j < 9) : isB (nine.getD i []) (nine.getD j []) = ((i : Int) == (j : Int)) ∧ isE (nine.getD i []) (nine.getD j []) = 0 := by
  have h := List.all_eq_true.1 (List.all_eq_true.1 nine_all i (List.mem_range.2 hi)) j (List.mem_range.2 hj)
  simp only [Bool.and_eq_true, beq_iff_eq, decide_eq_true_eq] at h
  refine ⟨?_, h.2⟩
  rw [h.1]
  by_cases e : i = j
  · subst e; simp
  · rw [decide_eq_false e]; symm; rw [beq_eq_false_iff_ne]; omega
theorem nine_hole {i : Nat} (hi : i < 9) : (isB (nine.getD i []) [95] = false ∧ isE (nine.getD i []) [95] = 0) ∧ (nine.getD i []).length ≤ 20 := by
  have h := List.all_eq_true.1 nine_no i (List.mem_range.2 hi)
  simp only [Bool.and_eq_true, beq_iff_eq, decide_eq_true_eq] at h
  exact h
theorem nine_cell (w : World) {i : Nat} (hi : i < 9) : (w.alloc (Obj.cells #[.string ⟨#[33]⟩, .string ⟨#[48]⟩, .string ⟨#[55]⟩, .string ⟨#[64, 48]⟩, .string ⟨#[64, 55]⟩, .string ⟨#[64, 55, 40, 48, 41]⟩, .string ⟨#[64, 55, 40, 48, 32, 48, 41]⟩, .string ⟨#[64, 56, 40, 48, 41]⟩, .string ⟨#[45, 55]⟩] 9)).cell? ⟨w.heap.size, i, none⟩ = some (.string (ba (nine.getD i []))) := by
  rw [World.cell?_alloc_new]
  match i, hi with
  | 0, _ => rfl
  | 1, _ => rfl
  | 2, _ => rfl
  | 3, _ => rfl
  | 4, _ => rfl
  | 5, _ => rfl
  | 6, _ => rfl
  | 7, _ => rfl
  | 8, _ => rfl

set_option maxHeartbeats 1600000 in
set_option maxRecDepth 100000 in
/- The walk: the law's Go text returns true. -/
theorem walk (a0 a1 : Int) (w : World) (hw : Lw w) :
    Calls Tryd.prog 7 #[.int .i64 a0, .int .i64 a1] w fun e w' => e = .returned (.bool true) ∧ Below w.heap.size w w' := by
  obtain ⟨m, hm, hml⟩ : ∃ m : Nat, wrap64 ((IntKind.u64.wrap a0).tmod 9) = (m : Int) ∧ m < 9 := umod a0 9 (by decide) (by decide)
  obtain ⟨n, hn, hnl⟩ : ∃ m : Nat, wrap64 ((IntKind.u64.wrap a1).tmod 9) = (m : Int) ∧ m < 9 := umod a1 9 (by decide) (by decide)
  have hml' : (m : Int) < 9 := by omega
  have hnl' : (n : Int) < 9 := by omega
  obtain ⟨x, hx⟩ : ∃ x, ((m : Int) == (n : Int)) = x := ⟨_, rfl⟩
  have h1 := nine_is hml hnl
  rw [hx] at h1
  have H1 : Hid _ := h1
  have H2 : Hid _ := (nine_hole hml).1
  have hs0 := (nine_hole hml).2
  have hs1 := (nine_hole hnl).2
  clear h1
  have HC0 : Hid (∀ w : World, (w.alloc (Obj.cells #[.string ⟨#[33]⟩, .string ⟨#[48]⟩, .string ⟨#[55]⟩, .string ⟨#[64, 48]⟩, .string ⟨#[64, 55]⟩, .string ⟨#[64, 55, 40, 48, 41]⟩, .string ⟨#[64, 55, 40, 48, 32, 48, 41]⟩, .string ⟨#[64, 56, 40, 48, 41]⟩, .string ⟨#[45, 55]⟩] 9)).cell? ⟨w.heap.size, m, none⟩ = some (.string (ba (nine.getD m [])))) := fun w => nine_cell w hml
  have HC1 : Hid (∀ w : World, (w.alloc (Obj.cells #[.string ⟨#[33]⟩, .string ⟨#[48]⟩, .string ⟨#[55]⟩, .string ⟨#[64, 48]⟩, .string ⟨#[64, 55]⟩, .string ⟨#[64, 55, 40, 48, 41]⟩, .string ⟨#[64, 55, 40, 48, 32, 48, 41]⟩, .string ⟨#[64, 56, 40, 48, 41]⟩, .string ⟨#[45, 55]⟩] 9)).cell? ⟨w.heap.size, n, none⟩ = some (.string (ba (nine.getD n [])))) := fun w => nine_cell w hnl
  generalize nine.getD m [] = s0 at *
  generalize nine.getD n [] = s1 at *
  go_enter Tryd.func7, Tryd.ntmps7
  go_wp2_with fail
  refine (awake_any _ hw).mono ?_
  rintro e w1 ⟨rfl, hb1⟩
  have hw1 := hw.on hb1
  go_wp2_with fail
  have hc0 := HC0.out w1
  have hc1 := HC1.out w1
  clear HC0 HC1
  have hbW := (Below.refl w1.heap.size w1).alloc (Nat.le_refl _) (Obj.cells #[.string ⟨#[33]⟩, .string ⟨#[48]⟩, .string ⟨#[55]⟩, .string ⟨#[64, 48]⟩, .string ⟨#[64, 55]⟩, .string ⟨#[64, 55, 40, 48, 41]⟩, .string ⟨#[64, 55, 40, 48, 32, 48, 41]⟩, .string ⟨#[64, 56, 40, 48, 41]⟩, .string ⟨#[45, 55]⟩] 9)
  generalize w1.alloc (Obj.cells #[.string ⟨#[33]⟩, .string ⟨#[48]⟩, .string ⟨#[55]⟩, .string ⟨#[64, 48]⟩, .string ⟨#[64, 55]⟩, .string ⟨#[64, 55, 40, 48, 41]⟩, .string ⟨#[64, 55, 40, 48, 32, 48, 41]⟩, .string ⟨#[64, 56, 40, 48, 41]⟩, .string ⟨#[45, 55]⟩] 9) = W at *
  have hwW := hw1.on hbW
  have h0W := below_next hb1 hbW
  clear hb1 hbW hw1
  generalize w1.heap.size = B at *
  have hS : Below W.heap.size W W ∧ W.cell? ⟨B, m, none⟩ = some (.string (ba s0)) ∧ W.cell? ⟨B, n, none⟩ = some (.string (ba s1)) := ⟨Below.refl _ _, hc0, hc1⟩
  have z0 : (ba s0).size ≤ 140737488355328 := Nat.le_trans hs0 (by decide)
  have z1 : (ba s1).size ≤ 140737488355328 := Nat.le_trans hs1 (by decide)
  have H1' : Hid (isB (ba s0).data.toList (ba s1).data.toList = x ∧ isE (ba s0).data.toList (ba s1).data.toList = 0) := H1.out
  have H2' : Hid (isB (ba s0).data.toList (⟨#[95]⟩ : ByteArray).data.toList = false ∧ isE (ba s0).data.toList (⟨#[95]⟩ : ByteArray).data.toList = 0) := H2.out
  clear H1 H2
  generalize ba s0 = p0 at *
  generalize ba s1 = p1 at *
  go_region_held3 (fun w' => Below W.heap.size W w' ∧ w'.cell? ⟨B, m, none⟩ = some (.string p0) ∧ w'.cell? ⟨B, n, none⟩ = some (.string p1)) (first | assumption | (exact keep_drew (by assumption)) | (exact keep_next (by assumption) (by assumption)))
    (first | (go_at_call 9; refine (is_at p0 p1 _ _ _ H1'.out z0 z1 (hwW.on (And.left (by assumption)))).mono ?_; rintro e w3 ⟨rfl, hb3⟩))
  all_goals
    go_wp2_with fail
    have hSn : Below W.heap.size W w3 ∧ w3.cell? ⟨B, m, none⟩ = some (.string p0) ∧ w3.cell? ⟨B, n, none⟩ = some (.string p1) := by first | assumption | exact keep_next (by assumption) (by assumption)
    have hwn := hwW.on hSn.1
    have h0n := below_next h0W hSn.1
    refine (is_at p0 ⟨#[95]⟩ _ _ _ H2'.out z0 (by decide) hwn).mono ?_
    rintro e w4 ⟨rfl, hb4⟩
    have h04 := below_next h0n hb4
    have hq : (x == x) = true := by simp
    go_wp2_with (go_at_call 11; refine (num_any _ _).mono ?_; rintro e w' ⟨rfl, rfl⟩)
    go_ret
    first
      | exact ⟨rfl, h04⟩
      | (rw [hx, hq]; exact ⟨rfl, h04⟩)

set_option maxRecDepth 100000 in
/-- What the walk gives, for every argument and every world that holds the list. -/
theorem contract (H : Type) (enc : TypeId × Value → H) (W : World) (base : Nat) (args : Array Value) (ds gs : List (DataW H)) (before : List MemPlace)
    (hval : ∀ (j : Nat) t v, Tryd.f7.params[j]? = some t → args[j]? = some v → Value.okWide Tryd.prog W .any base t v)
    (hW : DataW.Whole enc Tryd.prog Tryd.f7.params.toList Rows.belowOthersSpec.vars false W args.toList ds gs before)
    (hL : laidMetH Tryd.prog Rows.belowOthersRow.laid W) :
    Calls Tryd.prog 7 args W fun e W' => ∃ v, e = .returned v ∧ Rows.belowOthersSpec.post enc Tryd.prog Tryd.f7 false true false false W args v W' := by
  have hW' := hW
  obtain ⟨p, q, hA0, hV, rfl, hfz, hnd⟩ := hW
  have hA : DataW.TrodAll enc Tryd.prog W 0 (fun _ => true) true Tryd.f7.params.toList args.toList ds p := hA0
  rw [Tryd.params7] at hA hval
  obtain ⟨v0, vs0, d0, ds0, p0, q0, hargs, rfl, rfl, h0, r0⟩ := trodAll_cons hA
  obtain ⟨v1, vs1, d1, ds1, p1, q1, rfl, rfl, rfl, h1, r1⟩ := trodAll_cons r0
  obtain ⟨rfl, rfl, rfl⟩ := trodAll_nil r1
  obtain rfl : args = #[v0, v1] := by cases args; simp_all
  obtain ⟨rfl, rfl⟩ := trodVars_none hV
  obtain ⟨a0, rfl, rfl, rfl, w0⟩ := open_int Tryd.underlying3 (hval 0 3 v0 rfl rfl) h0
  obtain ⟨a1, rfl, rfl, rfl, w1⟩ := open_int Tryd.underlying3 (hval 1 3 v1 rfl rfl) h1
  clear hA0
  simp only [List.append_nil] at hW'
  refine (walk a0 a1 W (lw_of hL)).mono fun e W' ⟨he, hg⟩ => ?_
  subst he
  exact ⟨_, rfl, _, _, _, [], [], [], hW', trodAll_cons_mk (shut_bool Tryd.underlying4 _) trodAll_mk0, trodAll_cons_mk (shut_int Tryd.underlying3 w0) (trodAll_cons_mk (shut_int Tryd.underlying3 w1) trodAll_mk0), rfl, hg.frame _, fun h => by cases h⟩

theorem reads (os : Os) {H : Type} (enc : TypeId × Value → H) : ∃ places, DataW.whole enc Tryd.prog ((World.doorLaid Tryd.prog 62 os).forCall (fun _ _ => 0) ⟨#[], #[.int .i64 0, .int .i64 0], []⟩).memory Tryd.f7.params.toList Rows.belowOthersSpec.vars false #[Value.int .i64 0, .int .i64 0].toList 8 = some ([.lit (.int .i64 0), .lit (.int .i64 0)], [], places) :=
  ⟨[], by kernel_rfl⟩

set_option maxRecDepth 100000 in
theorem lifted (os : Os) (started : os.Started) (H : Type) (enc : TypeId × Value → H) (F : Stop.Interp) :
    ReturnsInHanded {} Tryd.checked os 7 .any ((OpenSpec.ofChange Rows.belowOthersSpec).preRow enc Tryd.prog Tryd.f7 Rows.belowOthersRow.domain false Rows.belowOthersRow.laid) (((OpenSpec.ofChange Rows.belowOthersSpec).at F).post enc Tryd.prog Tryd.f7 false true false false) := by
  obtain ⟨places, hx⟩ := reads os enc
  refine returnsInHanded_of_row (C := Tryd.checked) (s := OpenSpec.ofChange Rows.belowOthersSpec) own started (by kernel_rfl) Tryd.func7
    (witness_row_atRef (enc := enc) (C := Tryd.checked) false (World.doorLaid Tryd.prog 62 os) #[.int .i64 0, .int .i64 0] rfl (by kernel_rfl) (by kernel_rfl) (by kernel_rfl)
      (OpenSpec.preRow_of_cond 8 hx (by kernel_rfl) (fun k hk => by cases hk) (by kernel_rfl) (door_met os _))) ?_
  intro W base args ds gs before hval hW _ _ _ hL _ _
  exact contract H enc W base args ds gs before hval hW hL

theorem said : Rows.BelowOthersSaid :=
  OpenClaim.holds_of_cond 7 Tryd.f7 rfl rfl rfl rfl rfl rfl rfl ⟨rfl, rfl, rfl, rfl, rfl⟩ rfl rfl rfl rfl rfl (by kernel_rfl) Tryd.func7 (by kernel_rfl)
    (of_decide_eq_true (by kernel_rfl)) (by unfold Func.isWrapper; first | (rw [if_pos (by decide +kernel)]; kernel_rfl) | (rw [if_neg (by decide +kernel)]; exact ⟨rfl, rfl⟩))
    (fun os started H enc _ F => by rw [OpenClaim.pre_eq_preRow]; exact lifted os started H enc F)

theorem plain (f : FuncId) (fn : Func) (hf : Tryd.pinned.checked.prog.funcNamed "sleuth/sleuthlaw3.BelowOthers" = some f) (hfn : Tryd.pinned.checked.prog.funcs[f]? = some fn) :
    true = Tryd.pinned.checked.prog.looks [] ∧ ∀ (j : Nat) t, fn.params[j]? = some t → Tryd.pinned.checked.prog.wantsStandIn t = false := by
  obtain rfl : f = 7 := Option.some.inj ((show Tryd.prog.funcNamed "sleuth/sleuthlaw3.BelowOthers" = some 7 by kernel_rfl).symm.trans hf) |>.symm
  obtain rfl : fn = Tryd.f7 := (Option.some.inj (Tryd.func7.symm.trans hfn)).symm
  refine ⟨by kernel_rfl, fun j t ht => ?_⟩
  rw [Tryd.params7] at ht
  have hm : t ∈ [3, 3] := by simpa using Array.mem_of_getElem? ht
  have hall : ([3, 3].all fun u => !Tryd.prog.wantsStandIn u) = true := by kernel_rfl
  exact (show Tryd.prog.wantsStandIn t = false by simpa using List.all_eq_true.1 hall t hm)

/-- The given statement. -/
theorem card : Rows.BelowOthersCardSaid :=
  Claim7.holds_tied_plain_at .later [] _ _ _ _ said (fun _ h => by cases h) (by kernel_rfl) (fun _ h => by cases h) belowOthers_row_tie rfl ⟨rfl, rfl⟩ (by kernel_rfl) rfl plain (by kernel_rfl)
end Go.Proofs.YtcjpepbajcdenaaDoor.belowOthers
namespace Go.Proofs.YtcjpepbajcdenaaDoor
theorem belowOthers_holds : Rows.BelowOthersCardSaid := belowOthers.card
end Go.Proofs.YtcjpepbajcdenaaDoor
