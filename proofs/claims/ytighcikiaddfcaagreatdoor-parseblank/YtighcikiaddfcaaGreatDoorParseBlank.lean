/- sleuthlaw7.ParseBlank returns true at every input: blanks, line ends and remarks between the words turn nothing; the inputs are as they were. The condition is the card's own: the seven listed tables and variables of Go's library read as their texts lay them. -/
import Derived.Test.YtighcikiaddfcaaGreatDoorMLaid
import Derived.Test.YtighcikiaddfcaaGreatDoorMBlank
import Derived.Laws.OwnMore
import Derived.Laws.IdiomStrings
import Derived.Deep.OwnRows
import Derived.Deep.CutBlock
import Derived.SizedLaws
import Derived.ChangeMaps5
namespace Go.Proofs.YtighcikiaddfcaaGreatDoor.parseBlank
open Go.ChangeShapes Go.WideShapes Go.ChangeAt Go.RowKit Go.ChangeMaps
set_option linter.unusedVariables false

set_option maxHeartbeats 800000 in
set_option maxRecDepth 100000 in
theorem walk (a0 a1 : Int) (w : World) (hL : Lw w) :
    Calls Tryz.prog 6 #[.int .i64 a0, .int .i64 a1] w fun e w' => e = .returned (.bool true) ∧ Below w.heap.size w w' := by
  obtain ⟨m, hm, hlt⟩ := umod a0 33 (by decide) (by decide)
  obtain ⟨j, hj, hj4⟩ := and_3 a1
  obtain ⟨sp, hsp, hsd, hsv⟩ := seps_at j hj4
  have HP : Hid (pp (blp m j 33) = some smallL) := pp_blank m j hlt hj4
  have hm' : wrap64 ((IntKind.u64.wrap a0).tmod 33) = (m : Int) := hm
  have hu33 : IntKind.u64.wrap 33 = 33 := by decide
  have HL : Hid (Lw w) := hL
  have HSP : Hid (seps.getD j [] = sp ∧ sp.length ≤ 8) := ⟨hsd, by rw [← hsd]; exact getD_short seps_short j⟩
  clear hm hsp hsd
  obtain ⟨s0, hs0⟩ : ∃ s : ByteArray, s = Lx.ba srcL := ⟨_, rfl⟩
  have hsrc : ∀ W, Calls Tryz.prog 17 #[] W fun e w' => e = .returned (.string s0) ∧ W = w' := fun W => by rw [hs0]; exact source_any W
  have hwds : ∀ W, Calls Tryz.prog 16 #[.string s0] W fun e w' => ∃ g c, e = .returned (.tuple #[.slice g 33 c, .int .i64 0]) ∧ Lx.Txts w' g (srcW.map Lx.ba) ∧ Below W.heap.size W w' := fun W => by rw [hs0]; exact rwords_src W
  clear hs0
  go_enter Tryz.func6, Tryz.ntmps6
  go_wp2_with fail
  refine (awake_any w hL).mono ?_
  rintro e w1 ⟨rfl, hb1⟩
  have HB1 : Hid (Below w.heap.size w w1) := hb1
  clear hb1 hL
  go_wp2_with fail
  refine (hsrc w1).mono ?_
  rintro e w1' ⟨rfl, rfl⟩
  go_wp2_with fail
  refine (hwds w1).mono ?_
  rintro e w2 ⟨g, c, rfl, hT, hb2⟩
  have HB2 : Hid (Below w.heap.size w w2) := below_next HB1.out hb2
  have HT : Hid (Lx.Txts w2 g (srcW.map Lx.ba)) := hT
  clear hsrc hwds hT hb2 HB1
  go_wp2_with fail
  rw [hm']
  go_loopw [8, 9] (fun s8 s9 wr => ∃ i : Nat, i ≤ 33 ∧ s8 = .string (Lx.ba (blp m j i)) ∧ s9 = .int .i64 (i : Int) ∧ Hid (Below w2.heap.size w2 wr))
    (fun _ s9 _ => 33 - (intOf s9).toNat)
  case atStart => exact ⟨0, by omega, rfl, rfl, Below.refl _ _⟩
  case round =>
    obtain ⟨i, hi, rfl, rfl, HR⟩ := hrel
    clear hm' hu33
    by_cases hlt : i < 33
    · have hlt' : (i : Int) < 33 := by omega
      obtain ⟨p, hp⟩ : ∃ p, srcW[i]? = some p := ⟨_, List.getElem?_eq_getElem (by show i < 33; exact hlt)⟩
      obtain ⟨bk, o, hg, hbk, hcs⟩ : ∃ bk o, g = some ⟨bk, o, none⟩ ∧ bk < w2.heap.size ∧ wr.cell? ⟨bk, o + i, none⟩ = some (.string (Lx.ba p)) := by
        rcases HT.out with h | ⟨bk, o, h1, h2, h3⟩
        · cases h
        · refine ⟨bk, o, h1, h2, ?_⟩
          rw [HR.out.cell (p := ⟨bk, o + i, none⟩) h2]
          exact h3 i (Lx.ba p) (by rw [List.getElem?_map, hp]; rfl)
      subst hg
      have hpd : srcW.getD i [] = p := by rw [List.getD_eq_getElem?_getD, hp]; rfl
      have hpl : p.length ≤ 5 := by rw [← hpd]; exact getD_short words_short i
      have HN : Hid (blp m j (i + 1) = blp m j i ++ p ++ (if i = m then sp else []) ++ [32]) := by show _ = _; rw [blp, hpd, HSP.out.1]
      have hbl := blp_len m j i
      obtain ⟨A, hA⟩ : ∃ A, blp m j i = A := ⟨_, rfl⟩
      rw [hA] at HN hbl ⊢
      have z1 : (Lx.ba A).size ≤ 600 := by show A.length ≤ 600; omega
      have z2 : (Lx.ba p).size ≤ 5 := hpl
      obtain ⟨B, hB⟩ : ∃ B, A ++ p = B := ⟨_, rfl⟩
      have e1 : Lx.ba A ++ Lx.ba p = Lx.ba B := by rw [← hB]; exact ba_add A p
      have z3 : (Lx.ba B).size ≤ 605 := by show B.length ≤ 605; rw [← hB, List.length_append]; omega
      have hbkr : bk < wr.heap.size := Nat.lt_of_lt_of_le hbk HR.out.size
      rw [hB] at HN
      clear hp hpd hpl hbl hA hB
      by_cases him : i = m
      · have him' : ((i : Int) == (m : Int)) = true := by rw [him]; simp
        have z4 : (Lx.ba sp).size ≤ 8 := HSP.out.2
        obtain ⟨C, hC⟩ : ∃ C, B ++ sp = C := ⟨_, rfl⟩
        obtain ⟨D, hD⟩ : ∃ D, C ++ [32] = D := ⟨_, rfl⟩
        have HN2 : Hid (blp m j (i + 1) = D) := by show _ = _; rw [HN.out, if_pos him, hC, hD]
        have e2 : Lx.ba B ++ Lx.ba sp = Lx.ba C := by rw [← hC]; exact ba_add B sp
        have e3 : Lx.ba C ++ ⟨#[32]⟩ = Lx.ba D := by rw [← hD]; exact ba_add C [32]
        have z5 : (Lx.ba C).size ≤ 613 := by
          show C.length ≤ 613
          have h1 : B.length ≤ 605 := z3
          have h2 : sp.length ≤ 8 := z4
          rw [← hC, List.length_append]; omega
        have z6 : (Lx.ba D).size ≤ 614 := by
          show D.length ≤ 614
          have h1 : C.length ≤ 613 := z5
          rw [← hD, List.length_append, List.length_singleton]; omega
        have hj4' : (j : Int) < 4 := by omega
        clear him HN hC hD
        go_upto_region 13 with fail
        clear hcs z1 z2 e1 hbkr hbk him' hlt' hi
        go_upto_region 14 with fail
        clear hj hj4' e2 z3 z4 hsv
        go_wp2_with fail
        go_roundw
        case rel => exact ⟨i + 1, by omega, by rw [HN2.out], by go_num, HR.out.alloc HR.out.size _⟩
        case measure => simp [intOf]; omega
      · have him' : ((i : Int) == (m : Int)) = false := by simp; omega
        obtain ⟨D, hD⟩ : ∃ D, B ++ [32] = D := ⟨_, rfl⟩
        have HN2 : Hid (blp m j (i + 1) = D) := by show _ = _; rw [HN.out, if_neg him, List.append_nil, hD]
        have e3 : Lx.ba B ++ ⟨#[32]⟩ = Lx.ba D := by rw [← hD]; exact ba_add B [32]
        have z6 : (Lx.ba D).size ≤ 606 := by
          show D.length ≤ 606
          have h1 : B.length ≤ 605 := z3
          rw [← hD, List.length_append, List.length_singleton]; omega
        clear him HN hj hsv hD
        go_upto_region 12 with fail
        clear hcs z1 z2 e1 hbkr hbk hlt' hi
        go_wp2_with fail
        go_roundw
        case rel => exact ⟨i + 1, by omega, by rw [HN2.out], by go_num, HR⟩
        case measure => simp [intOf]; omega
    · have hlt' : ¬ (i : Int) < 33 := by omega
      obtain rfl : i = 33 := by omega
      have HB3 : Hid (Below w.heap.size w wr) := below_next HB2.out HR.out
      obtain ⟨A, hA⟩ : ∃ A, blp m j 33 = A := ⟨_, rfl⟩
      rw [hA] at HP ⊢
      clear hA hj hsv HR HB2 HT
      have hc : ∀ W, Lw W → Calls Tryz.prog 9 #[.string (Lx.ba A)] W fun e w' => ParseQ (some smallL) W e w' := fun W h => by
        refine (parse_any (Lx.ba A) W h).mono ?_
        intro e w' hq
        rw [show (Lx.ba A).data.toList = A from rfl, HP.out] at hq
        exact hq
      go_wp2_with fail
      refine (hc wr (HL.out.on HB3.out)).mono ?_
      clear hc
      rintro e w4 ⟨hb4, g4, c4, qs, rfl, hq4, hP4⟩
      have HD4 : Hid (Defs Exs w4 g4 smallL) := hP4.defs' hq4
      have HB4 : Hid (Below w.heap.size w w4) := below_next HB3.out hb4
      clear hb4 hq4 hP4 HB3
      go_wp2_with fail
      obtain ⟨W, hW⟩ : ∃ W, w4.alloc (.cells #[.slice g4 smallL.length c4] 24) = W := ⟨_, rfl⟩
      have HB : Hid (Below w.heap.size w W) := by rw [← hW]; exact HB4.out.alloc HB4.out.size _
      have HD : Hid (Defs Exs W g4 smallL) := by rw [← hW]; exact HD4.out.on ((Below.refl _ w4).alloc (Nat.le_refl _) _)
      have x1 : W.cell? ⟨w4.heap.size, 0, none⟩ = some (.slice g4 smallL.length c4) := by rw [← hW]; exact (Bx1.new w4 _).c0
      rw [hW]
      clear hW HB4 HD4
      go_region_with (first
        | (go_at_call 15; refine (small_any _).mono ?_; rintro e w5 ⟨rfl, a5, hb5, s5⟩; have hb6 : Below W.heap.size W w5 := ⟨hb5.os, hb5.tape, hb5.output, hb5.size, hb5.block⟩; have x5 := cell_nx x1 hb6; have HD5 : Hid (Defs Exs w5 g4 smallL ∧ Defs Exs w5 (some ⟨W.heap.size + 10, 0, none⟩) smallL ∧ Below w.heap.size w w5) := ⟨HD.out.on hb6, a5.defs, below_next HB.out hb6⟩; clear a5 hb5 s5 hb6)
        | (go_at_call 11; refine (same_may g4 (some ⟨W.heap.size + 10, 0, none⟩) smallL c4 2 w5 HD5.out.1 HD5.out.2.1 pmay_small).mono ?_; rintro e w6 ⟨rfl, hb6⟩; have HB6 : Hid (Below w.heap.size w w6) := below_next HD5.out.2.2 hb6; clear hb6)
        | (go_at_call 12; refine (num_any _ _).mono ?_; rintro e w7 ⟨rfl, rfl⟩))
      all_goals
        go_wp2_with fail
        go_ret
        exact ⟨rfl, HB6.out⟩

set_option maxRecDepth 100000 in
/-- What the walk gives, for every argument and every world that holds the list. -/
theorem contract (H : Type) (enc : TypeId × Value → H) (W : World) (base : Nat) (args : Array Value) (ds gs : List (DataW H)) (before : List MemPlace)
    (hval : ∀ (j : Nat) t v, Tryz.f6.params[j]? = some t → args[j]? = some v → Value.okWide Tryz.prog W .any base t v)
    (hW : DataW.Whole enc Tryz.prog Tryz.f6.params.toList Rows.parseBlankSpec.vars false W args.toList ds gs before)
    (hL : laidMetH Tryz.prog Rows.parseBlankRow.laid W) :
    Calls Tryz.prog 6 args W fun e W' => ∃ v, e = .returned v ∧ Rows.parseBlankSpec.post enc Tryz.prog Tryz.f6 false true false false W args v W' := by
  have hW' := hW
  obtain ⟨p, q, hA0, hV, rfl, hfz, hnd⟩ := hW
  have hA : DataW.TrodAll enc Tryz.prog W 0 (fun _ => true) true Tryz.f6.params.toList args.toList ds p := hA0
  rw [Tryz.params6] at hA hval
  obtain ⟨v0, vs0, d0, ds0, p0, q0, hargs, rfl, rfl, h0, r0⟩ := trodAll_cons hA
  obtain ⟨v1, vs1, d1, ds1, p1, q1, rfl, rfl, rfl, h1, r1⟩ := trodAll_cons r0
  obtain ⟨rfl, rfl, rfl⟩ := trodAll_nil r1
  obtain rfl : args = #[v0, v1] := by cases args; simp_all
  obtain ⟨rfl, rfl⟩ := trodVars_none hV
  obtain ⟨a0, rfl, rfl, rfl, w0⟩ := open_int Tryz.underlying3 (hval 0 3 v0 rfl rfl) h0
  obtain ⟨a1, rfl, rfl, rfl, w1⟩ := open_int Tryz.underlying3 (hval 1 3 v1 rfl rfl) h1
  clear hA0
  simp only [List.append_nil] at hW'
  refine (walk a0 a1 W (lw_of hL)).mono fun e W' ⟨he, hg⟩ => ?_
  subst he
  exact ⟨_, rfl, _, _, _, [], [], [], hW', trodAll_cons_mk (shut_bool Tryz.underlying4 _) trodAll_mk0, trodAll_cons_mk (shut_int Tryz.underlying3 w0) (trodAll_cons_mk (shut_int Tryz.underlying3 w1) trodAll_mk0), rfl, hg.frame _, fun h => by cases h⟩

theorem reads (os : Os) {H : Type} (enc : TypeId × Value → H) : ∃ places, DataW.whole enc Tryz.prog ((World.laidAll Tryz.prog os Rows.parseBlankRow.laid).forCall (fun _ _ => 0) ⟨#[], #[.int .i64 0, .int .i64 0], []⟩).memory Tryz.f6.params.toList Rows.parseBlankSpec.vars false #[Value.int .i64 0, .int .i64 0].toList 8 = some ([.lit (.int .i64 0), .lit (.int .i64 0)], [], places) :=
  ⟨[], by kernel_rfl⟩

set_option maxRecDepth 100000 in
theorem lifted (os : Os) (started : os.Started) (H : Type) (enc : TypeId × Value → H) (F : Stop.Interp) :
    ReturnsInHanded {} Tryz.checked os 6 .any ((OpenSpec.ofChange Rows.parseBlankSpec).preRow enc Tryz.prog Tryz.f6 Rows.parseBlankRow.domain false Rows.parseBlankRow.laid) (((OpenSpec.ofChange Rows.parseBlankSpec).at F).post enc Tryz.prog Tryz.f6 false true false false) := by
  obtain ⟨places, hx⟩ := reads os enc
  refine returnsInHanded_of_row (C := Tryz.checked) (s := OpenSpec.ofChange Rows.parseBlankSpec) own started (by kernel_rfl) Tryz.func6
    (witness_row_atRef (enc := enc) (C := Tryz.checked) false (World.laidAll Tryz.prog os Rows.parseBlankRow.laid) #[.int .i64 0, .int .i64 0] (World.laidAll_os _ _ _) (by kernel_rfl) (by kernel_rfl) (by kernel_rfl)
      (OpenSpec.preRow_of_cond 8 hx (by kernel_rfl) (fun k hk => by cases hk) (by kernel_rfl) (door_met os _))) ?_
  intro W base args ds gs before hval hW _ _ _ hL _ _
  exact contract H enc W base args ds gs before hval hW hL

theorem said : Rows.ParseBlankSaid :=
  OpenClaim.holds_of_cond 6 Tryz.f6 rfl rfl rfl rfl rfl rfl rfl ⟨rfl, rfl, rfl, rfl, rfl⟩ rfl rfl rfl rfl rfl (by kernel_rfl) Tryz.func6 (by kernel_rfl)
    (of_decide_eq_true (by kernel_rfl)) (by unfold Func.isWrapper; first | (rw [if_pos (by decide +kernel)]; kernel_rfl) | (rw [if_neg (by decide +kernel)]; exact ⟨rfl, rfl⟩))
    (fun os started H enc _ F => by rw [OpenClaim.pre_eq_preRow]; exact lifted os started H enc F)

theorem plain (f : FuncId) (fn : Func) (hf : Tryz.pinned.checked.prog.funcNamed "sleuth/sleuthlaw7.ParseBlank" = some f) (hfn : Tryz.pinned.checked.prog.funcs[f]? = some fn) :
    true = Tryz.pinned.checked.prog.looks [] ∧ ∀ (j : Nat) t, fn.params[j]? = some t → Tryz.pinned.checked.prog.wantsStandIn t = false := by
  obtain rfl : f = 6 := Option.some.inj ((show Tryz.prog.funcNamed "sleuth/sleuthlaw7.ParseBlank" = some 6 by kernel_rfl).symm.trans hf) |>.symm
  obtain rfl : fn = Tryz.f6 := (Option.some.inj (Tryz.func6.symm.trans hfn)).symm
  refine ⟨by kernel_rfl, fun j t ht => ?_⟩
  rw [Tryz.params6] at ht
  have hm : t ∈ [3, 3] := by simpa using Array.mem_of_getElem? ht
  have hall : ([3, 3].all fun u => !Tryz.prog.wantsStandIn u) = true := by kernel_rfl
  exact (show Tryz.prog.wantsStandIn t = false by simpa using List.all_eq_true.1 hall t hm)

/-- The given statement. -/
theorem card : Rows.ParseBlankCardSaid :=
  Claim7.holds_tied_plain_at .later [] _ _ _ _ said (fun _ h => by cases h) (by kernel_rfl) (fun _ h => by cases h) parseBlank_row_tie rfl ⟨rfl, rfl⟩ (by kernel_rfl) rfl plain (by kernel_rfl)
end Go.Proofs.YtighcikiaddfcaaGreatDoor.parseBlank
namespace Go.Proofs.YtighcikiaddfcaaGreatDoor
theorem parseBlank_holds : Rows.ParseBlankCardSaid := parseBlank.card
end Go.Proofs.YtighcikiaddfcaaGreatDoor
