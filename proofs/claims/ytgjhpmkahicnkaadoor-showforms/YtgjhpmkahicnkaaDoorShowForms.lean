/- sleuthlaw8.ShowForms returns true at every input: programs with one thing wrong, each of four kinds, have no text and the error; the input is as it was. Condition: the three listed variables of Go's library read as their texts lay them. -/
import Derived.Test.YtgjhpmkahicnkaaDoorMLaid
import Derived.Laws.OwnMore
import Derived.Laws.IdiomStrings
import Derived.Deep.OwnRows
import Derived.SizedLaws
import Derived.ChangeMaps5
import Derived.WalkKit
import Derived.ProofKit
import Derived.OpenShut
import Derived.Test.YtgjhpmkahicnkaaDoorMSmall
namespace Go.Proofs.YtgjhpmkahicnkaaDoor.showForms
open Go.RowKit
set_option linter.unusedVariables false

def addsN : List Ex := [⟨1, 0, 0, []⟩, ⟨1, 4, 0, []⟩, ⟨1, 1, 0, []⟩, ⟨4, 0, 0, [1, 2]⟩, ⟨1, 0, 0, []⟩, ⟨1, 1, 0, []⟩, ⟨4, 0, 0, [4, 5]⟩, ⟨5, 7, 2, [0, 3, 6]⟩]
theorem may1 : pmay [⟨0, mainL⟩, ⟨2, addsN⟩] = false := by decide +kernel
theorem may3 : pmay [⟨1, mainL⟩, ⟨2, addsL⟩] = false := by decide +kernel
theorem tx_no {ds : List Df} (h : pmay ds = false) : txS ds = [] ∧ erS ds = 800 := by
  have e : okS ds = false := by unfold okS; rw [h]; rfl
  unfold txS erS; rw [e]; exact ⟨rfl, rfl⟩
/-- The body of adds is turned at one cell, all else is as it was. -/
theorem small_adds5 {w : World} {B : Nat} (h : SmallAt w B) : Defs Exs (w.setCell ⟨B + 9, 5, none⟩ (I 4)) (some ⟨B + 10, 0, none⟩) [⟨0, mainL⟩, ⟨2, addsN⟩] := by
  have hr := h.row.other 5 (I 4) (b' := B + 9) (by omega)
  have hm := h.main.other 5 (I 4) (b' := B + 9) (by omega)
  have hk1 := h.k1.other 5 (I 4) (b' := B + 9) (by omega)
  have hk2 := h.k2.other 5 (I 4) (b' := B + 9) (by omega)
  have hb : Rw w (B + 9) (addsC (B + 5)) := h.adds.body
  have ha := hb.set 5 (I 4)
  have a1 := h.adds.k1.other 5 (I 4) (b' := B + 9) (by omega)
  have a2 := h.adds.k2.other 5 (I 4) (b' := B + 9) (by omega)
  have a3 := h.adds.k3.other 5 (I 4) (b' := B + 9) (by omega)
  refine hr.defs ⟨rfl, ⟨_, _, rfl, ?_⟩, rfl, ⟨_, _, rfl, ?_⟩, trivial⟩
  · exact exs_of_row hm ⟨rfl, rfl, rfl, ⟨_, _, rfl, nums_nil _ _⟩, rfl, rfl, rfl, ⟨_, _, rfl, nums_nil _ _⟩, rfl, rfl, rfl, ⟨_, _, rfl, hk1.nums⟩, rfl, rfl, rfl, ⟨_, _, rfl, nums_nil _ _⟩, rfl, rfl, rfl, ⟨_, _, rfl, hk2.nums⟩, trivial⟩
  · exact exs_of_row ha ⟨rfl, rfl, rfl, ⟨_, _, rfl, nums_nil _ _⟩, rfl, rfl, rfl, ⟨_, _, rfl, nums_nil _ _⟩, rfl, rfl, rfl, ⟨_, _, rfl, nums_nil _ _⟩, rfl, rfl, rfl, ⟨_, _, rfl, a1.nums⟩, rfl, rfl, rfl, ⟨_, _, rfl, nums_nil _ _⟩, rfl, rfl, rfl, ⟨_, _, rfl, nums_nil _ _⟩, rfl, rfl, rfl, ⟨_, _, rfl, a2.nums⟩, rfl, rfl, rfl, ⟨_, _, rfl, a3.nums⟩, trivial⟩
/-- What stands ahead of the end: a program that may not be, in its box. -/
structure Ready (w W : World) (z : Nat) (v : Value) : Prop where
  box : Bx1 W z v
  no : Tm.Lw W → Calls Tryd.prog 8 #[.agg #[v]] W fun r w' => r = .returned (.tuple #[.string ⟨#[]⟩, .int .i64 800]) ∧ Below W.heap.size W w'
  below : Below w.heap.size w W
theorem grab {f : Nat} {args : Array Value} {W : World} {Q : Ending → World → Prop} (P : World → Prop) (h : P W) (k : ∀ W', P W' → Calls Tryd.prog f args W' Q) : Calls Tryd.prog f args W Q := k W h
/-- The program lies in a new box. -/
theorem ready_of {w w3 : World} {g : Option Addr} {n c z : Nat} {ds : List Df} (hz : w3.heap.size = z) (hd : Defs Exs w3 g ds) (hm : pmay ds = false) (hs : w.heap.size ≤ w3.heap.size) (hb : Below w.heap.size w w3) (hn : n = ds.length := by rfl) : Ready w (w3.alloc (.cells #[.slice g n c] 24)) z (.slice g n c) := by
  subst hz hn
  have hb0 : Below w3.heap.size w3 (w3.alloc (.cells #[.slice g ds.length c] 24)) := (Below.refl _ w3).alloc (Nat.le_refl _) _
  refine ⟨Bx1.new w3 _, fun hl => ?_, hb.alloc hs _⟩
  have h1 := text_any g c ds _ (hd.on hb0) hl
  obtain ⟨e1, e2⟩ := tx_no hm
  rw [e1, e2] at h1
  exact h1
set_option maxRecDepth 100000 in
set_option maxHeartbeats 1600000 in
theorem form_0 (a0 : Int) (hr : bits .and .i64 a0 3 = 0) (w : World) (hw : Tm.Lw w) :
    Calls Tryd.prog 4 #[.int .i64 a0] w fun e w' => e = .returned (.bool true) ∧ Below w.heap.size w w' := by
  have HW := hid hw
  go_enter Tryd.func4, Tryd.ntmps4
  go_wp2_with fail
  refine (awake_any _ HW.out).mono ?_
  rintro e w1 ⟨rfl, hb1⟩
  go_wp2_with fail
  refine (small_any _).mono ?_
  rintro e w2 ⟨rfl, a2, hb2, s2⟩
  have hs1 := hb1.size
  have HB : Hid (Below w.heap.size w w2) := Lx.below_next hb1 hb2
  obtain ⟨B, hB⟩ : ∃ B, w1.heap.size = B := ⟨_, rfl⟩
  rw [hB] at a2 s2 hs1 ⊢
  have HA : Hid (SmallAt w2 B) := a2
  have HZ : Hid (w.heap.size ≤ B ∧ w2.heap.size = B + 11) := ⟨hs1, s2⟩
  clear hb1 hb2 hB s2 hs1 a2 hw
  go_wp2_with fail
  refine grab (fun W => Ready w W w2.heap.size (.slice (some ⟨B + 10, 0, none⟩) 1 2)) ?_ (fun W hR => ?_)
  · exact ready_of (ds := smallA) rfl (HA.out.row.defs (ds := smallA) ⟨rfl, ⟨_, _, rfl, HA.out.mainX⟩, trivial⟩) pmay_smallA HB.out.size HB.out
  · skip
    clear HA HB HZ
    have hb3 := hR.below
    refine (hR.no (Tm.Lw.on HW.out hb3)).mono ?_
    rintro e w7 ⟨rfl, hb7⟩
    have h07 := Lx.below_next hb3 hb7
    clear hb3 hb7 hR
    go_wp2_with fail
    refine (Lx.num_any _ _).mono ?_
    rintro e w8 ⟨rfl, rfl⟩
    go_wp2_with fail
    go_ret
    exact ⟨rfl, h07⟩
set_option maxRecDepth 100000 in
set_option maxHeartbeats 1600000 in
theorem form_1 (a0 : Int) (hr : bits .and .i64 a0 3 = 1) (w : World) (hw : Tm.Lw w) :
    Calls Tryd.prog 4 #[.int .i64 a0] w fun e w' => e = .returned (.bool true) ∧ Below w.heap.size w w' := by
  have HW := hid hw
  go_enter Tryd.func4, Tryd.ntmps4
  go_wp2_with fail
  refine (awake_any _ HW.out).mono ?_
  rintro e w1 ⟨rfl, hb1⟩
  go_wp2_with fail
  refine (small_any _).mono ?_
  rintro e w2 ⟨rfl, a2, hb2, s2⟩
  have hs1 := hb1.size
  have HB : Hid (Below w.heap.size w w2) := Lx.below_next hb1 hb2
  obtain ⟨B, hB⟩ : ∃ B, w1.heap.size = B := ⟨_, rfl⟩
  rw [hB] at a2 s2 hs1 ⊢
  have HA : Hid (SmallAt w2 B) := a2
  have HZ : Hid (w.heap.size ≤ B ∧ w2.heap.size = B + 11) := ⟨hs1, s2⟩
  have l10 : B + 10 < w2.heap.size := by omega
  have l11 : B + 10 < w2.heap.size + 1 := by omega
  have r0 := a2.row.cell 0 (I 0) rfl
  have r1 := a2.row.cell 1 (.slice (some ⟨B + 3, 0, none⟩) 5 5) rfl
  have r2 := a2.row.cell 2 (I 2) rfl
  have r3 := a2.row.cell 3 (.slice (some ⟨B + 9, 0, none⟩) 8 8) rfl
  have rf := a2.row.frozen
  have l9 : B + 9 < w2.heap.size := by omega
  have l12 : B + 9 < w2.heap.size + 1 := by omega
  have hbd : Rw w2 (B + 9) (addsC (B + 5)) := a2.adds.body
  have m5 := hbd.cell 5 (I 3) rfl
  have mf := hbd.frozen 5
  clear hbd
  clear hb1 hb2 hB s2 hs1 a2 hw
  go_wp2_with fail
  refine grab (fun W => Ready w W w2.heap.size (.slice (some ⟨B + 10, 0, none⟩) 2 2)) ?_ (fun W hR => ?_)
  · have hz := HZ.out
    exact ready_of (ds := [⟨0, mainL⟩, ⟨2, addsN⟩]) (by simp) (small_adds5 HA.out) may1 ((HB.out.setCell (p := ⟨B + 9, 5, none⟩) (by show w.heap.size ≤ B + 9; omega) (I 4)).size) (HB.out.setCell (p := ⟨B + 9, 5, none⟩) (by show w.heap.size ≤ B + 9; omega) (I 4))
  · skip
    clear HA HB HZ
    have hb3 := hR.below
    refine (hR.no (Tm.Lw.on HW.out hb3)).mono ?_
    rintro e w7 ⟨rfl, hb7⟩
    have h07 := Lx.below_next hb3 hb7
    clear hb3 hb7 hR
    go_wp2_with fail
    refine (Lx.num_any _ _).mono ?_
    rintro e w8 ⟨rfl, rfl⟩
    go_wp2_with fail
    go_ret
    exact ⟨rfl, h07⟩
set_option maxRecDepth 100000 in
set_option maxHeartbeats 1600000 in
theorem form_2 (a0 : Int) (hr : bits .and .i64 a0 3 = 2) (w : World) (hw : Tm.Lw w) :
    Calls Tryd.prog 4 #[.int .i64 a0] w fun e w' => e = .returned (.bool true) ∧ Below w.heap.size w w' := by
  have HW := hid hw
  go_enter Tryd.func4, Tryd.ntmps4
  go_wp2_with fail
  refine (awake_any _ HW.out).mono ?_
  rintro e w1 ⟨rfl, hb1⟩
  go_wp2_with fail
  refine (small_any _).mono ?_
  rintro e w2 ⟨rfl, a2, hb2, s2⟩
  have hs1 := hb1.size
  have HB : Hid (Below w.heap.size w w2) := Lx.below_next hb1 hb2
  obtain ⟨B, hB⟩ : ∃ B, w1.heap.size = B := ⟨_, rfl⟩
  rw [hB] at a2 s2 hs1 ⊢
  have HA : Hid (SmallAt w2 B) := a2
  have HZ : Hid (w.heap.size ≤ B ∧ w2.heap.size = B + 11) := ⟨hs1, s2⟩
  clear hb1 hb2 hB s2 hs1 a2 hw
  go_wp2_with fail
  refine grab (fun W => Ready w W w2.heap.size (.slice none 0 0)) ?_ (fun W hR => ?_)
  · exact ready_of (ds := []) rfl (Or.inl rfl) pmay_none HB.out.size HB.out
  · skip
    clear HA HB HZ
    have hb3 := hR.below
    refine (hR.no (Tm.Lw.on HW.out hb3)).mono ?_
    rintro e w7 ⟨rfl, hb7⟩
    have h07 := Lx.below_next hb3 hb7
    clear hb3 hb7 hR
    go_wp2_with fail
    refine (Lx.num_any _ _).mono ?_
    rintro e w8 ⟨rfl, rfl⟩
    go_wp2_with fail
    go_ret
    exact ⟨rfl, h07⟩
set_option maxRecDepth 100000 in
set_option maxHeartbeats 1600000 in
theorem form_3 (a0 : Int) (hr : bits .and .i64 a0 3 = 3) (w : World) (hw : Tm.Lw w) :
    Calls Tryd.prog 4 #[.int .i64 a0] w fun e w' => e = .returned (.bool true) ∧ Below w.heap.size w w' := by
  have HW := hid hw
  go_enter Tryd.func4, Tryd.ntmps4
  go_wp2_with fail
  refine (awake_any _ HW.out).mono ?_
  rintro e w1 ⟨rfl, hb1⟩
  go_wp2_with fail
  refine (small_any _).mono ?_
  rintro e w2 ⟨rfl, a2, hb2, s2⟩
  have hs1 := hb1.size
  have HB : Hid (Below w.heap.size w w2) := Lx.below_next hb1 hb2
  obtain ⟨B, hB⟩ : ∃ B, w1.heap.size = B := ⟨_, rfl⟩
  rw [hB] at a2 s2 hs1 ⊢
  have HA : Hid (SmallAt w2 B) := a2
  have HZ : Hid (w.heap.size ≤ B ∧ w2.heap.size = B + 11) := ⟨hs1, s2⟩
  have l10 : B + 10 < w2.heap.size := by omega
  have l11 : B + 10 < w2.heap.size + 1 := by omega
  have r0 := a2.row.cell 0 (I 0) rfl
  have r1 := a2.row.cell 1 (.slice (some ⟨B + 3, 0, none⟩) 5 5) rfl
  have r2 := a2.row.cell 2 (I 2) rfl
  have r3 := a2.row.cell 3 (.slice (some ⟨B + 9, 0, none⟩) 8 8) rfl
  have rf := a2.row.frozen
  clear hb1 hb2 hB s2 hs1 a2 hw
  go_wp2_with fail
  refine grab (fun W => Ready w W w2.heap.size (.slice (some ⟨B + 10, 0, none⟩) 2 2)) ?_ (fun W hR => ?_)
  · obtain ⟨t1, t2, t3⟩ := HA.out.turned 0 (I 1)
    have hz := HZ.out
    refine ready_of (ds := [⟨1, mainL⟩, ⟨2, addsL⟩]) (by simp) (hd := ?_) may3 ((HB.out.setCell (p := ⟨B + 10, 0, none⟩) (by show w.heap.size ≤ B + 10; omega) (I 1)).size) (HB.out.setCell (p := ⟨B + 10, 0, none⟩) (by show w.heap.size ≤ B + 10; omega) (I 1))
    exact t1.defs ⟨rfl, ⟨_, _, rfl, t2⟩, rfl, ⟨_, _, rfl, t3.exs⟩, trivial⟩
  · skip
    clear HA HB HZ
    have hb3 := hR.below
    refine (hR.no (Tm.Lw.on HW.out hb3)).mono ?_
    rintro e w7 ⟨rfl, hb7⟩
    have h07 := Lx.below_next hb3 hb7
    clear hb3 hb7 hR
    go_wp2_with fail
    refine (Lx.num_any _ _).mono ?_
    rintro e w8 ⟨rfl, rfl⟩
    go_wp2_with fail
    go_ret
    exact ⟨rfl, h07⟩
theorem walk (a0 : Int) (w : World) (hw : Tm.Lw w) :
    Calls Tryd.prog 4 #[.int .i64 a0] w fun e w' => e = .returned (.bool true) ∧ Below w.heap.size w w' := by
  obtain ⟨m, hm, hlt⟩ := and_3 a0
  have h : m = 0 ∨ m = 1 ∨ m = 2 ∨ m = 3 := by omega
  rcases h with rfl | rfl | rfl | rfl
  · exact form_0 a0 hm w hw
  · exact form_1 a0 hm w hw
  · exact form_2 a0 hm w hw
  · exact form_3 a0 hm w hw
open Go.ChangeShapes Go.WideShapes Go.ChangeAt
set_option maxRecDepth 100000 in
/-- What the walk gives, for every argument and every world that holds the list. -/
theorem contract (H : Type) (enc : TypeId × Value → H) (W : World) (base : Nat) (args : Array Value) (ds gs : List (DataW H)) (before : List MemPlace)
    (hval : ∀ (j : Nat) t v, Tryd.f4.params[j]? = some t → args[j]? = some v → Value.okWide Tryd.prog W .any base t v)
    (hW : DataW.Whole enc Tryd.prog Tryd.f4.params.toList Rows.showFormsSpec.vars false W args.toList ds gs before)
    (hL : laidMetH Tryd.prog Rows.showFormsRow.laid W) :
    Calls Tryd.prog 4 args W fun e W' => ∃ v, e = .returned v ∧ Rows.showFormsSpec.post enc Tryd.prog Tryd.f4 false true false false W args v W' := by
  have hW' := hW
  obtain ⟨p, q, hA0, hV, rfl, hfz, hnd⟩ := hW
  have hA : DataW.TrodAll enc Tryd.prog W 0 (fun _ => true) true Tryd.f4.params.toList args.toList ds p := hA0
  rw [Tryd.params4] at hA hval
  obtain ⟨v0, vs0, d0, ds0, p0, q0, hargs, rfl, rfl, h0, r0⟩ := trodAll_cons hA
  obtain ⟨rfl, rfl, rfl⟩ := trodAll_nil r0
  obtain rfl : args = #[v0] := by cases args; simp_all
  obtain ⟨rfl, rfl⟩ := trodVars_none hV
  obtain ⟨a0, rfl, rfl, rfl, w0⟩ := open_int Tryd.underlying3 (hval 0 3 v0 rfl rfl) h0
  clear hA0
  simp only [List.append_nil] at hW'
  refine (walk a0 W (lw_of hL)).mono fun e W' ⟨he, hg⟩ => ?_
  subst he
  exact ⟨_, rfl, _, _, _, [], [], [], hW', trodAll_cons_mk (shut_bool Tryd.underlying4 _) trodAll_mk0, trodAll_cons_mk (shut_int Tryd.underlying3 w0) trodAll_mk0, rfl, hg.frame _, fun h => by cases h⟩

theorem reads (os : Os) {H : Type} (enc : TypeId × Value → H) : ∃ places, DataW.whole enc Tryd.prog ((World.laidAll Tryd.prog os Rows.showFormsRow.laid).forCall (fun _ _ => 0) ⟨#[], #[.int .i64 0], []⟩).memory Tryd.f4.params.toList Rows.showFormsSpec.vars false #[Value.int .i64 0].toList 8 = some ([.lit (.int .i64 0)], [], places) :=
  ⟨[], by kernel_rfl⟩

set_option maxRecDepth 100000 in
theorem lifted (os : Os) (started : os.Started) (H : Type) (enc : TypeId × Value → H) (F : Stop.Interp) :
    ReturnsInHanded {} Tryd.checked os 4 .any ((OpenSpec.ofChange Rows.showFormsSpec).preRow enc Tryd.prog Tryd.f4 Rows.showFormsRow.domain false Rows.showFormsRow.laid) (((OpenSpec.ofChange Rows.showFormsSpec).at F).post enc Tryd.prog Tryd.f4 false true false false) := by
  obtain ⟨places, hx⟩ := reads os enc
  refine returnsInHanded_of_row (C := Tryd.checked) (s := OpenSpec.ofChange Rows.showFormsSpec) own started (by kernel_rfl) Tryd.func4
    (witness_row_atRef (enc := enc) (C := Tryd.checked) false (World.laidAll Tryd.prog os Rows.showFormsRow.laid) #[.int .i64 0] (World.laidAll_os _ _ _) (by kernel_rfl) (by kernel_rfl) (by kernel_rfl)
      (OpenSpec.preRow_of_cond 8 hx (by kernel_rfl) (fun k hk => by cases hk) (by kernel_rfl) (door_met os _))) ?_
  intro W base args ds gs before hval hW _ _ _ hL _ _
  exact contract H enc W base args ds gs before hval hW hL

theorem said : Rows.ShowFormsSaid :=
  OpenClaim.holds_of_cond 4 Tryd.f4 rfl rfl rfl rfl rfl rfl rfl ⟨rfl, rfl, rfl, rfl, rfl⟩ rfl rfl rfl rfl rfl (by kernel_rfl) Tryd.func4 (by kernel_rfl)
    (of_decide_eq_true (by kernel_rfl)) (by unfold Func.isWrapper; first | (rw [if_pos (by decide +kernel)]; kernel_rfl) | (rw [if_neg (by decide +kernel)]; exact ⟨rfl, rfl⟩))
    (fun os started H enc _ F => by rw [OpenClaim.pre_eq_preRow]; exact lifted os started H enc F)

theorem plain (f : FuncId) (fn : Func) (hf : Tryd.pinned.checked.prog.funcNamed "sleuth/sleuthlaw8.ShowForms" = some f) (hfn : Tryd.pinned.checked.prog.funcs[f]? = some fn) :
    false = Tryd.pinned.checked.prog.looks [] ∧ ∀ (j : Nat) t, fn.params[j]? = some t → Tryd.pinned.checked.prog.wantsStandIn t = false := by
  obtain rfl : f = 4 := Option.some.inj ((show Tryd.prog.funcNamed "sleuth/sleuthlaw8.ShowForms" = some 4 by kernel_rfl).symm.trans hf) |>.symm
  obtain rfl : fn = Tryd.f4 := (Option.some.inj (Tryd.func4.symm.trans hfn)).symm
  refine ⟨by kernel_rfl, fun j t ht => ?_⟩
  rw [Tryd.params4] at ht
  have hm : t ∈ [3] := by simpa using Array.mem_of_getElem? ht
  have hall : ([3].all fun u => !Tryd.prog.wantsStandIn u) = true := by kernel_rfl
  exact (show Tryd.prog.wantsStandIn t = false by simpa using List.all_eq_true.1 hall t hm)

/-- The given statement. -/
theorem card : Rows.ShowFormsCardSaid :=
  Claim7.holds_tied_plain_at .later [] _ _ _ _ said (fun _ h => by cases h) (by kernel_rfl) (fun _ h => by cases h) showForms_row_tie rfl ⟨rfl, rfl⟩ (by kernel_rfl) rfl plain (by kernel_rfl)
end Go.Proofs.YtgjhpmkahicnkaaDoor.showForms
namespace Go.Proofs.YtgjhpmkahicnkaaDoor
theorem showForms_holds : Rows.ShowFormsCardSaid := showForms.card
end Go.Proofs.YtgjhpmkahicnkaaDoor
