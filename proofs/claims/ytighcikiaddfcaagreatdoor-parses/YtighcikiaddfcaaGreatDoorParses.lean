/- sleuthlaw7.Parses returns true at every input: every text is read as the document's own reading tells it, and what was answered, written over, is not met in another answer; the input is as it was. The condition is the card's own: the seven listed tables and variables of Go's library read as their texts lay them. -/
import Derived.Test.YtighcikiaddfcaaGreatDoorNLaid
import Derived.Test.YtighcikiaddfcaaGreatDoorMRParse
import Derived.Laws.OwnMore
import Derived.Laws.IdiomStrings
import Derived.Deep.OwnRows
import Derived.SizedLaws
import Derived.ChangeMaps5
namespace Go.Proofs.YtighcikiaddfcaaGreatDoor.parses
open Go.ChangeShapes Go.WideShapes Go.ChangeAt Go.RowKit Go.ChangeMaps
set_option linter.unusedVariables false

theorem kept_of {B : Nat} {W W' : World} (h : Below W.heap.size W W') (hB : B ≤ W.heap.size) : Kept B W W' :=
  ⟨h.mono hB, fun k cs t hk => ⟨cs, (h.block k (Array.getElem?_eq_some_iff.1 hk).1).trans hk, rfl, fun _ _ _ _ h => h, fun j x h => ⟨x, h⟩⟩⟩

set_option maxHeartbeats 2000000 in
set_option maxRecDepth 100000 in
theorem walk (s : ByteArray) (w : World) (hL : Lw w) :
    Calls Tryz.prog 3 #[.string s] w fun e w' => e = .returned (.bool true) ∧ Below w.heap.size w w' := by
  have HL : Hid (Lw w) := hL
  have hcall := parse_anyB s w hL
  clear hL
  go_enter Tryz.func3, Tryz.ntmps3
  go_wp2_with fail
  refine hcall.mono ?_
  clear hcall
  rintro e w1 ⟨⟨hb1, hQ1⟩, hX1⟩
  cases hp : pp s.data.toList with
  | none =>
    rw [hp] at hQ1
    subst hQ1
    have hc2 : Calls Tryz.prog 10 #[.string s] (w1.alloc (.cells #[.slice none 0 0] 24)) fun e w' => e = .returned (.tuple #[pV none 0 0, .int .i64 700]) ∧ Below (w1.alloc (.cells #[.slice none 0 0] 24)).heap.size (w1.alloc (.cells #[.slice none 0 0] 24)) w' := by
      refine (rparse_any s _).mono ?_
      intro e w' hq
      rw [hp] at hq
      exact ⟨hq.2, hq.1⟩
    have HB1 : Hid (Below w.heap.size w (w1.alloc (.cells #[.slice none 0 0] 24))) := hb1.alloc hb1.size _
    have HXA : Hid (Bx1 (w1.alloc (.cells #[.slice none 0 0] 24)) w1.heap.size (.slice none 0 0)) := Bx1.new w1 _
    clear hp hX1 hb1
    go_wp2_with fail
    obtain ⟨W1, hW1⟩ : ∃ W1, w1.alloc (.cells #[.slice none 0 0] 24) = W1 := ⟨_, rfl⟩
    rw [hW1] at hc2 HB1 HXA ⊢
    clear hW1
    refine hc2.mono ?_
    clear hc2
    rintro e w2 ⟨rfl, hb2⟩
    have HXA2 : Hid (Bx1 (w2.alloc (.cells #[.slice none 0 0] 24)) w1.heap.size (.slice none 0 0)) := (HXA.out.on hb2).alloc _
    have HXB2 : Hid (Bx1 (w2.alloc (.cells #[.slice none 0 0] 24)) w2.heap.size (.slice none 0 0)) := Bx1.new w2 _
    have HB2 : Hid (Below w.heap.size w (w2.alloc (.cells #[.slice none 0 0] 24))) := (below_next HB1.out hb2).alloc (below_next HB1.out hb2).size _
    have hsm := program_same none none [] 0 0 (w2.alloc (.cells #[.slice none 0 0] 24)) (Or.inl rfl) (Or.inl rfl) (by simp) (fun d hd => by cases hd)
    rw [List.length_nil] at hsm
    have xa := HXA2.out.c0
    have xb := HXB2.out.c0
    have la := HXA2.out.lt
    clear hb2 HB1 HXA
    go_wp2_with fail
    obtain ⟨W2, hW2⟩ : ∃ W2, w2.alloc (.cells #[.slice none 0 0] 24) = W2 := ⟨_, rfl⟩
    rw [hW2] at hsm HXA2 HXB2 HB2 xa xb la ⊢
    clear hW2
    refine hsm.mono ?_
    clear hsm
    rintro e w3 ⟨rfl, hb3⟩
    have y1 := (HXA2.out.on hb3).c0
    have HB3 : Hid (Below w.heap.size w w3) := below_next HB2.out hb3
    clear hb3 xa xb la
    go_wp2_with fail
    refine (num_any _ _).mono ?_
    rintro e w4 ⟨rfl, rfl⟩
    have hsp := spoil_prog w.heap.size none 0 0 w3 (Or.inl rfl) (by omega) HB3.out.size
    go_wp2_with fail
    refine hsp.mono ?_
    clear hsp
    rintro e w5 ⟨rfl, hk5⟩
    have HB5 : Hid (Below w.heap.size w w5) := HB3.out.trans hk5.low
    clear hk5 y1
    go_wp2_with fail
    refine (awake_any w5 (HL.out.on HB5.out)).mono ?_
    rintro e w6 ⟨rfl, hb6⟩
    go_wp2_with fail
    go_ret
    exact ⟨rfl, below_next HB5.out hb6⟩
  | some ds =>
    rw [hp] at hQ1
    obtain ⟨g1, c1, qs1, rfl, hq1, hP1⟩ := hQ1
    obtain ⟨qs, ds', hn, hqs, hpm, hPd, hKB⟩ := hX1 g1 ds.length c1 rfl
    have HDB : Hid (DefsB w.heap.size w1 g1 ds.length) := defsB_of hn hqs hpm hPd hKB
    have HD1 : Hid (Defs Exs w1 g1 ds) := hP1.defs' hq1
    have HPM : Hid (pmay ds = true) := pp_pm hp
    have HN8 : Hid (ds.length ≤ 8) := (pm_small (pp_pm hp)).1
    have hc2 : Calls Tryz.prog 10 #[.string s] (w1.alloc (.cells #[.slice g1 ds.length c1] 24)) fun e w' => ParseQ (some ds) (w1.alloc (.cells #[.slice g1 ds.length c1] 24)) e w' := by
      refine (rparse_any s _).mono ?_
      intro e w' hq
      rw [hp] at hq
      exact hq
    have HB1 : Hid (Below w.heap.size w w1) := hb1
    have HXA : Hid (Bx1 (w1.alloc (.cells #[.slice g1 ds.length c1] 24)) w1.heap.size (.slice g1 ds.length c1)) := Bx1.new w1 _
    have HA1 : Hid (Below w1.heap.size w1 (w1.alloc (.cells #[.slice g1 ds.length c1] 24))) := (Below.refl _ w1).alloc (Nat.le_refl _) _
    clear hp hX1 hb1 hn hqs hpm hPd hKB hq1 hP1
    go_wp2_with fail
    obtain ⟨W1, hW1⟩ : ∃ W1, w1.alloc (.cells #[.slice g1 ds.length c1] 24) = W1 := ⟨_, rfl⟩
    rw [hW1] at hc2 HXA HA1 ⊢
    clear hW1
    refine hc2.mono ?_
    clear hc2
    rintro e w2 ⟨hb2, g2, c2, qs2, rfl, hq2, hP2⟩
    have HA2 : Hid (Below w1.heap.size w1 (w2.alloc (.cells #[.slice g2 ds.length c2] 24))) := below_next (below_next HA1.out hb2) ((Below.refl _ w2).alloc (Nat.le_refl _) _)
    have HXA2 : Hid (Bx1 (w2.alloc (.cells #[.slice g2 ds.length c2] 24)) w1.heap.size (.slice g1 ds.length c1)) := (HXA.out.on hb2).alloc _
    have HXB2 : Hid (Bx1 (w2.alloc (.cells #[.slice g2 ds.length c2] 24)) w2.heap.size (.slice g2 ds.length c2)) := Bx1.new w2 _
    have hsm := same_may g1 g2 ds c1 c2 (w2.alloc (.cells #[.slice g2 ds.length c2] 24)) (HD1.out.on HA2.out) ((hP2.defs' hq2).on ((Below.refl _ w2).alloc (Nat.le_refl _) _)) HPM.out
    have xa := HXA2.out.c0
    have xb := HXB2.out.c0
    have la := HXA2.out.lt
    clear hb2 HXA HA1 hq2 hP2
    go_wp2_with fail
    obtain ⟨W2, hW2⟩ : ∃ W2, w2.alloc (.cells #[.slice g2 ds.length c2] 24) = W2 := ⟨_, rfl⟩
    rw [hW2] at hsm HXA2 HXB2 HA2 xa xb la ⊢
    clear hW2
    refine hsm.mono ?_
    clear hsm
    rintro e w3 ⟨rfl, hb3⟩
    have y1 := (HXA2.out.on hb3).c0
    have HA3 : Hid (Below w1.heap.size w1 w3) := below_next HA2.out hb3
    clear hb3 xa xb la HXA2 HXB2
    go_wp2_with fail
    refine (num_any _ _).mono ?_
    rintro e w4 ⟨rfl, rfl⟩
    have HB3 : Hid (Below w.heap.size w w3) := below_next HB1.out HA3.out
    have hsp := spoil_prog w.heap.size g1 ds.length c1 w3 (HDB.out.on (kept_of HA3.out HB1.out.size)) (by have := HN8.out; omega) HB3.out.size
    go_wp2_with fail
    refine hsp.mono ?_
    clear hsp
    rintro e w5 ⟨rfl, hk5⟩
    have HB5 : Hid (Below w.heap.size w w5) := HB3.out.trans hk5.low
    clear hk5 y1
    go_wp2_with fail
    refine (awake_any w5 (HL.out.on HB5.out)).mono ?_
    rintro e w6 ⟨rfl, hb6⟩
    go_wp2_with fail
    go_ret
    exact ⟨rfl, below_next HB5.out hb6⟩

set_option maxRecDepth 100000 in
/-- What the walk gives, for every argument and every world that holds the list. -/
theorem contract (H : Type) (enc : TypeId × Value → H) (W : World) (base : Nat) (args : Array Value) (ds gs : List (DataW H)) (before : List MemPlace)
    (hval : ∀ (j : Nat) t v, Tryz.f3.params[j]? = some t → args[j]? = some v → Value.okWide Tryz.prog W .any base t v)
    (hW : DataW.Whole enc Tryz.prog Tryz.f3.params.toList Rows.parsesSpec.vars false W args.toList ds gs before)
    (hL : laidMetH Tryz.prog Rows.parsesRow.laid W) :
    Calls Tryz.prog 3 args W fun e W' => ∃ v, e = .returned v ∧ Rows.parsesSpec.post enc Tryz.prog Tryz.f3 false true false false W args v W' := by
  have hW' := hW
  obtain ⟨p, q, hA0, hV, rfl, hfz, hnd⟩ := hW
  have hA : DataW.TrodAll enc Tryz.prog W 0 (fun _ => true) true Tryz.f3.params.toList args.toList ds p := hA0
  rw [Tryz.params3] at hA hval
  obtain ⟨v0, vs0, d0, ds0, p0, q0, hargs, rfl, rfl, h0, r0⟩ := trodAll_cons hA
  obtain ⟨rfl, rfl, rfl⟩ := trodAll_nil r0
  obtain rfl : args = #[v0] := by cases args; simp_all
  obtain ⟨rfl, rfl⟩ := trodVars_none hV
  obtain ⟨a0, rfl, rfl, rfl, w0⟩ := open_string Tryz.underlying9 (hval 0 9 v0 rfl rfl) h0
  clear hA0
  simp only [List.append_nil] at hW'
  refine (walk a0 W (lw_of hL)).mono fun e W' ⟨he, hg⟩ => ?_
  subst he
  exact ⟨_, rfl, _, _, _, [], [], [], hW', trodAll_cons_mk (shut_bool Tryz.underlying4 _) trodAll_mk0, trodAll_cons_mk (shut_string Tryz.underlying9 w0) trodAll_mk0, rfl, hg.frame _, fun h => by cases h⟩

theorem reads (os : Os) {H : Type} (enc : TypeId × Value → H) : ∃ places, DataW.whole enc Tryz.prog ((World.laidAll Tryz.prog os Rows.parsesRow.laid).forCall (fun _ _ => 0) ⟨#[], #[.string ⟨#[]⟩], []⟩).memory Tryz.f3.params.toList Rows.parsesSpec.vars false #[Value.string ⟨#[]⟩].toList 8 = some ([.lit (.string [])], [], places) :=
  ⟨[], by kernel_rfl⟩

set_option maxRecDepth 100000 in
theorem lifted (os : Os) (started : os.Started) (H : Type) (enc : TypeId × Value → H) (F : Stop.Interp) :
    ReturnsInHanded {} Tryz.checked os 3 .any ((OpenSpec.ofChange Rows.parsesSpec).preRow enc Tryz.prog Tryz.f3 Rows.parsesRow.domain false Rows.parsesRow.laid) (((OpenSpec.ofChange Rows.parsesSpec).at F).post enc Tryz.prog Tryz.f3 false true false false) := by
  obtain ⟨places, hx⟩ := reads os enc
  refine returnsInHanded_of_row (C := Tryz.checked) (s := OpenSpec.ofChange Rows.parsesSpec) own started (by kernel_rfl) Tryz.func3
    (witness_row_atRef (enc := enc) (C := Tryz.checked) false (World.laidAll Tryz.prog os Rows.parsesRow.laid) #[.string ⟨#[]⟩] (World.laidAll_os _ _ _) (by kernel_rfl) (by kernel_rfl) (by kernel_rfl)
      (OpenSpec.preRow_of_cond 8 hx (by kernel_rfl) (fun k hk => by cases hk) (by kernel_rfl) (door_met os _))) ?_
  intro W base args ds gs before hval hW _ _ _ hL _ _
  exact contract H enc W base args ds gs before hval hW hL

theorem said : Rows.ParsesSaid :=
  OpenClaim.holds_of_cond 3 Tryz.f3 rfl rfl rfl rfl rfl rfl rfl ⟨rfl, rfl, rfl, rfl, rfl⟩ rfl rfl rfl rfl rfl (by kernel_rfl) Tryz.func3 (by kernel_rfl)
    (of_decide_eq_true (by kernel_rfl)) (by unfold Func.isWrapper; first | (rw [if_pos (by decide +kernel)]; kernel_rfl) | (rw [if_neg (by decide +kernel)]; exact ⟨rfl, rfl⟩))
    (fun os started H enc _ F => by rw [OpenClaim.pre_eq_preRow]; exact lifted os started H enc F)

theorem plain (f : FuncId) (fn : Func) (hf : Tryz.pinned.checked.prog.funcNamed "sleuth/sleuthlaw7.Parses" = some f) (hfn : Tryz.pinned.checked.prog.funcs[f]? = some fn) :
    true = Tryz.pinned.checked.prog.looks [] ∧ ∀ (j : Nat) t, fn.params[j]? = some t → Tryz.pinned.checked.prog.wantsStandIn t = false := by
  obtain rfl : f = 3 := Option.some.inj ((show Tryz.prog.funcNamed "sleuth/sleuthlaw7.Parses" = some 3 by kernel_rfl).symm.trans hf) |>.symm
  obtain rfl : fn = Tryz.f3 := (Option.some.inj (Tryz.func3.symm.trans hfn)).symm
  refine ⟨by kernel_rfl, fun j t ht => ?_⟩
  rw [Tryz.params3] at ht
  have hm : t ∈ [9] := by simpa using Array.mem_of_getElem? ht
  have hall : ([9].all fun u => !Tryz.prog.wantsStandIn u) = true := by kernel_rfl
  exact (show Tryz.prog.wantsStandIn t = false by simpa using List.all_eq_true.1 hall t hm)

/-- The given statement. -/
theorem card : Rows.ParsesCardSaid :=
  Claim7.holds_tied_plain_at .later [] _ _ _ _ said (fun _ h => by cases h) (by kernel_rfl) (fun _ h => by cases h) parses_row_tie rfl ⟨rfl, rfl⟩ (by kernel_rfl) rfl plain (by kernel_rfl)
end Go.Proofs.YtighcikiaddfcaaGreatDoor.parses
namespace Go.Proofs.YtighcikiaddfcaaGreatDoor
theorem parses_holds : Rows.ParsesCardSaid := parses.card
end Go.Proofs.YtighcikiaddfcaaGreatDoor
