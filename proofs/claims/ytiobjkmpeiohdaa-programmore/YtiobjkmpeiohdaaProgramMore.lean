/- sleuthlaw6.ProgramMore returns true at every input: a definition more, that is well, turns nothing, up to MaxDefs; one that is not makes the whole not be; the input is as it was. No condition. -/
import Derived.Test.YtiobjkmpeiohdaaTyped
import Derived.WalkKit
import Derived.ProofKit
import Derived.OpenShut
namespace Go.Proofs.Ytiobjkmpeiohdaa.programMore
open Go.ChangeShapes Go.WideShapes Go.ChangeAt Go.RowKit
set_option linter.unusedVariables false

theorem own : ownKnob Try.prog.godebug = none := by kernel_rfl

def moreL (j : Nat) : List Df := smallL ++ List.replicate j ⟨2, addsL⟩
theorem more_succ (j : Nat) : moreL (j + 1) = moreL j ++ [⟨2, addsL⟩] := by
  unfold moreL
  rw [List.append_assoc, List.replicate_succ']
theorem more_all : (List.range 8).all (fun k => (pmay (moreL k) == decide (2 + (k : Int) ≤ 8)) && (pmay (moreL k ++ [⟨0, []⟩]) == false)) = true := by decide +kernel
theorem more_may {k : Nat} (h : k < 8) : pmay (moreL k) = decide (2 + (k : Int) ≤ 8) ∧ pmay (moreL k ++ [⟨0, []⟩]) = false := by
  have h1 := List.all_eq_true.1 more_all k (List.mem_range.2 h)
  rw [Bool.and_eq_true] at h1
  exact ⟨eq_of_beq h1.1, eq_of_beq h1.2⟩
theorem and_7 (x : Int) : ∃ m : Nat, bits .and .i64 x 7 = (m : Int) ∧ m < 8 := by
  refine ⟨(x % 8).toNat, ?_, by omega⟩
  have hb : (BitVec.ofInt 64 7).toNat = 7 := by decide
  have h : bits .and .i64 x 7 = IntKind.i64.wrap (((BitVec.ofInt 64 x &&& BitVec.ofInt 64 7).toNat : Nat) : Int) := rfl
  rw [h, BitVec.toNat_and, hb, BitVec.toNat_ofInt, show (7 : Nat) = 2 ^ 3 - 1 from rfl, Nat.and_two_pow_sub_one_eq_mod, IntKind.wrap_i64]
  simp only [show ((2 : Nat) ^ 64) = 18446744073709551616 from rfl, show ((2 : Nat) ^ 3) = 8 from rfl]
  omega

theorem more_step {w wr w6 w7 : World} {s1 z j : Nat} {g : Option Addr} {c : Nat} {qs : List Dt}
    (HA : AddsAt w6 wr.heap.size ∧ Pd w6 s1 (.slice g (2 + j) c) qs ∧ Bx1 w6 z (.slice g (2 + j) c) ∧ s1 ≤ w6.heap.size ∧ Below wr.heap.size wr w6)
    (HQ : qs.map (·.1) = moreL j ∧ qs.length = 2 + j) (HL : Below w.heap.size w wr) (HZ : w.heap.size ≤ s1 ∧ s1 ≤ z)
    (hg : (w6.alloc (.cells #[.int .i64 2, .slice (some ⟨wr.heap.size + 4, 0, none⟩) 8 8] 36)).grownBy w7 (Value.slice g (2 + j) c).ownBlock) :
    (qs ++ [((⟨2, addsL⟩, some ⟨wr.heap.size + 4, 0, none⟩, 8) : Dt)]).length = 2 + (j + 1) ∧ Bx1 w7 z (.slice g (2 + j) c) ∧ Below w.heap.size w w7 ∧ s1 ≤ w7.heap.size := by
  obtain ⟨h1, h2, h3, h4, h5⟩ := HA
  have h6 := below_next HL h5
  have hs := hg.size
  rw [World.size_alloc] at hs
  refine ⟨by rw [List.length_append, HQ.2]; rfl, (h3.alloc _).kept hg (h2.not_box h3), (h6.alloc h6.size _).grown hg (by rw [World.size_alloc]; have := h6.size; omega) (fun k e => by have := (h2.own.lt k e).1; omega), by omega⟩

set_option maxRecDepth 100000 in
set_option maxHeartbeats 1600000 in
/-- The walk: the law's Go text returns true. -/
theorem walk (a0 : Int) (bad : Bool) (w : World) :
    Calls Try.prog 5 #[.int .i64 a0, .bool bad] w fun e w' => e = .returned (.bool true) ∧ Below w.heap.size w w' := by
  obtain ⟨m, hm, hm8⟩ := and_7 a0
  have HMAY : Hid _ := more_may hm8
  go_enter Try.func5, Try.ntmps5
  go_wp2_with fail
  refine (awake_any _).mono ?_
  rintro e w1 ⟨rfl, hb1⟩
  go_wp2_with fail
  refine (small_any _).mono ?_
  rintro e w2 ⟨rfl, a2, hb2, s2⟩
  have hb12 := below_next hb1 hb2
  have hz1 := hb1.size
  have hP := (a2.pd (Nat.le_refl _)).alloc (.cells #[.slice (some ⟨w1.heap.size + 10, 0, none⟩) 2 2] 24)
  have hX := Bx1.new w2 (.slice (some ⟨w1.heap.size + 10, 0, none⟩) 2 2)
  have HP : Hid (Pd (w2.alloc (.cells #[.slice (some ⟨w1.heap.size + 10, 0, none⟩) 2 2] 24)) w1.heap.size (.slice (some ⟨w1.heap.size + 10, 0, none⟩) 2 2) [(⟨0, mainL⟩, some ⟨w1.heap.size + 3, 0, none⟩, 5), (⟨2, addsL⟩, some ⟨w1.heap.size + 9, 0, none⟩, 8)]) := hP
  have HX : Hid (Bx1 (w2.alloc (.cells #[.slice (some ⟨w1.heap.size + 10, 0, none⟩) 2 2] 24)) w2.heap.size (.slice (some ⟨w1.heap.size + 10, 0, none⟩) 2 2)) := hX
  have HL : Hid (Below w.heap.size w (w2.alloc (.cells #[.slice (some ⟨w1.heap.size + 10, 0, none⟩) 2 2] 24))) := hb12.alloc hb12.size _
  have HZ : Hid (w.heap.size ≤ w1.heap.size ∧ w1.heap.size ≤ w2.heap.size) := ⟨hz1, hb2.size⟩
  clear hP hX a2 hb1 hb2 hb12 s2 hz1
  go_wp2_with fail
  go_loopw [6] (fun s6 wr => ∃ (j : Nat) (qs : List Dt) (g : Option Addr) (c : Nat), j ≤ m ∧ s6 = .int .i64 (j : Int) ∧ Hid (Bx1 wr w2.heap.size (.slice g (2 + j) c)) ∧ Hid (Pd wr w1.heap.size (.slice g (2 + j) c) qs) ∧ Hid (qs.map (·.1) = moreL j ∧ qs.length = 2 + j) ∧ Hid (Below w.heap.size w wr) ∧ Hid (w1.heap.size ≤ wr.heap.size))
    (fun s6 _ => m - (intOf s6).toNat)
  case atStart => exact ⟨0, _, _, _, Nat.zero_le _, rfl, HX, HP, ⟨rfl, rfl⟩, HL, by have := HZ.out; show _ ≤ _; simp; omega⟩
  case round =>
    obtain ⟨j, qs, g, c, hj, rfl, HX, HP, HQ, HL, HS⟩ := hrel
    have x0 := HX.out.c0
    have x1 := HX.out.frozen 0
    have xl := HX.out.lt
    by_cases hlt : j < m
    · have hlt' : (j : Int) < (m : Int) := by omega
      have hlen : (qs.length + 1) * 32 ≤ 140737488355328 := by have := HQ.out.2; omega
      go_wp2_with fail
      go_region_law
        (first
          | (refine step_df rfl _ _ rfl w1.heap.size (.slice g (2 + j) c) qs (⟨2, addsL⟩, some ⟨wr.heap.size + 4, 0, none⟩, 8) _ rfl rfl w6.heap.size rfl rfl HA7.out.2.1 HA7.out.1.exsT HA7.out.2.2.2.1 hlen ?_; intro v' w7 hP7 hg7; obtain ⟨g7, k7, rfl⟩ := hP7.val; obtain ⟨hl7, hX7, hb7, hs7⟩ := more_step HA7.out HQ.out HL.out HZ.out hg7; rw [hl7] at hP7 ⊢; have y0 := hX7.c0; have y1 := hX7.frozen 0; have HH : Hid (Pd w7 w1.heap.size (.slice g7 (2 + (j + 1)) k7) (qs ++ [((⟨2, addsL⟩, some ⟨wr.heap.size + 4, 0, none⟩, 8) : Dt)]) ∧ Bx1 w7 w2.heap.size (.slice g (2 + j) c) ∧ Below w.heap.size w w7 ∧ w1.heap.size ≤ w7.heap.size ∧ (qs ++ [((⟨2, addsL⟩, some ⟨wr.heap.size + 4, 0, none⟩, 8) : Dt)]).length = 2 + (j + 1)) := ⟨hP7, hX7, hb7, hs7, hl7⟩; clear hP7 hX7 hb7 hs7 hl7 hg7)
          | (go_simp; go_at_call 14; refine (adds_any _).mono ?_; rintro e w6 ⟨rfl, ha6, hb6, hs6⟩; have hb7 : Below wr.heap.size wr w6 := ⟨hb6.os, hb6.tape, hb6.output, hb6.size, hb6.block⟩; have n0 := cell_nx x0 hb7; have n1 := (HX.out.on hb7).frozen 0; have nl := (HX.out.on hb7).lt; have HA7 : Hid (AddsAt w6 wr.heap.size ∧ Pd w6 w1.heap.size (.slice g (2 + j) c) qs ∧ Bx1 w6 w2.heap.size (.slice g (2 + j) c) ∧ w1.heap.size ≤ w6.heap.size ∧ Below wr.heap.size wr w6) := ⟨ha6, HP.out.on hb7, HX.out.on hb7, Nat.le_trans HS.out hb7.size, hb7⟩; clear ha6 hs6 hb6 hb7))
      all_goals
        have hX8 := HH.out.2.1.set0 (.slice g7 (2 + (j + 1)) k7)
        have hP8 := HH.out.1.far HH.out.2.1 0 (.slice g7 (2 + (j + 1)) k7)
        have hb8 : Below w.heap.size w (w7.setCell ⟨w2.heap.size, 0, none⟩ (.slice g7 (2 + (j + 1)) k7)) := HH.out.2.2.1.setCell (p := ⟨w2.heap.size, 0, none⟩) (Nat.le_trans HZ.out.1 HZ.out.2) _
        have hq8 : (qs ++ [((⟨2, addsL⟩, some ⟨wr.heap.size + 4, 0, none⟩, 8) : Dt)]).map (·.1) = moreL (j + 1) ∧ (qs ++ [((⟨2, addsL⟩, some ⟨wr.heap.size + 4, 0, none⟩, 8) : Dt)]).length = 2 + (j + 1) := ⟨by rw [List.map_append, HQ.out.1, more_succ]; rfl, HH.out.2.2.2.2⟩
        have hs8 : w1.heap.size ≤ (w7.setCell ⟨w2.heap.size, 0, none⟩ (.slice g7 (2 + (j + 1)) k7)).heap.size := by simp; exact HH.out.2.2.2.1
        have HH8 : Hid (Bx1 (w7.setCell ⟨w2.heap.size, 0, none⟩ (.slice g7 (2 + (j + 1)) k7)) w2.heap.size (.slice g7 (2 + (j + 1)) k7) ∧ Pd (w7.setCell ⟨w2.heap.size, 0, none⟩ (.slice g7 (2 + (j + 1)) k7)) w1.heap.size (.slice g7 (2 + (j + 1)) k7) (qs ++ [((⟨2, addsL⟩, some ⟨wr.heap.size + 4, 0, none⟩, 8) : Dt)]) ∧ ((qs ++ [((⟨2, addsL⟩, some ⟨wr.heap.size + 4, 0, none⟩, 8) : Dt)]).map (·.1) = moreL (j + 1) ∧ (qs ++ [((⟨2, addsL⟩, some ⟨wr.heap.size + 4, 0, none⟩, 8) : Dt)]).length = 2 + (j + 1)) ∧ Below w.heap.size w (w7.setCell ⟨w2.heap.size, 0, none⟩ (.slice g7 (2 + (j + 1)) k7)) ∧ w1.heap.size ≤ (w7.setCell ⟨w2.heap.size, 0, none⟩ (.slice g7 (2 + (j + 1)) k7)).heap.size) := ⟨hX8, hP8, hq8, hb8, hs8⟩
        clear hX8 hP8 hb8 hq8 hs8 HH HA7 HX HP HQ HL HS
        go_wp2_with fail
        go_roundw
        case rel => exact ⟨j + 1, _, g7, k7, by omega, by go_num, HH8.out.1, HH8.out.2.1, HH8.out.2.2.1, HH8.out.2.2.2.1, HH8.out.2.2.2.2⟩
        case measure => simp [intOf]; omega
    · have hlt' : ¬ (j : Int) < (m : Int) := by omega
      obtain rfl : j = m := by omega
      cases bad with
      | false =>
        have hbd := HP.out
        rw [← HQ.out.2] at hbd
        have hmm := pmay_any g c (qs.map (·.1)) wr hbd.defs
        rw [HQ.out.1, HMAY.out.1] at hmm
        have e9 : (moreL j).length = 2 + j := by rw [← HQ.out.1, List.length_map, HQ.out.2]
        rw [e9] at hmm
        clear hbd e9
        by_cases hle : 2 + (j : Int) ≤ 8
        · rw [decide_eq_true hle] at hmm
          have dle : decide (2 + (j : Int) ≤ 8) = true := decide_eq_true hle
          go_wp2_with (go_at_call 13; refine (num_any _ _).mono ?_; rintro e w' ⟨rfl, rfl⟩)
          refine hmm.mono ?_
          rintro e w4 ⟨rfl, hb4⟩
          go_wp2_with fail
          go_ret
          exact ⟨rfl, below_next HL.out hb4⟩
        · rw [decide_eq_false hle] at hmm
          have dle : decide (2 + (j : Int) ≤ 8) = false := decide_eq_false hle
          go_wp2_with (go_at_call 13; refine (num_any _ _).mono ?_; rintro e w' ⟨rfl, rfl⟩)
          refine hmm.mono ?_
          rintro e w4 ⟨rfl, hb4⟩
          go_wp2_with fail
          go_ret
          exact ⟨rfl, below_next HL.out hb4⟩
      | true =>
        have hlen : (qs.length + 1) * 32 ≤ 140737488355328 := by have := HQ.out.2; omega
        go_wp2_with (at_builtin; refine app_df rfl _ _ rfl w1.heap.size (.slice g (2 + j) c) qs (⟨0, []⟩, none, 0) _ rfl rfl wr.heap.size rfl rfl HP.out (Or.inl rfl) HS.out hlen ?_)
        intro v' w7 hP7 hg7
        obtain ⟨g7, k7, rfl⟩ := hP7.val
        have hX7 := (HX.out.alloc (.cells #[.int .i64 0, .slice none 0 0] 36)).kept hg7 (HP.out.not_box HX.out)
        have hb7 : Below w.heap.size w w7 := (HL.out.alloc HL.out.size _).grown hg7 (by rw [World.size_alloc]; have := HL.out.size; omega) (fun k e => by have := (HP.out.own.lt k e).1; have := HZ.out.1; omega)
        have y0 := hX7.c0
        have y1 := hX7.frozen 0
        have hd8 := (hP7.far hX7 0 (.slice g7 (qs ++ [((⟨0, []⟩, none, 0) : Dt)]).length k7)).defs
        have hmm := pmay_any g7 k7 _ _ hd8
        have e9 : (qs ++ [((⟨0, []⟩, none, 0) : Dt)]).map (·.1) = moreL j ++ [⟨0, []⟩] := by rw [List.map_append, HQ.out.1]; rfl
        rw [List.length_map, e9, HMAY.out.2] at hmm
        have hb8 : Below w.heap.size w (w7.setCell ⟨w2.heap.size, 0, none⟩ (.slice g7 (qs ++ [((⟨0, []⟩, none, 0) : Dt)]).length k7)) := hb7.setCell (p := ⟨w2.heap.size, 0, none⟩) (Nat.le_trans HZ.out.1 HZ.out.2) _
        have HL8 : Hid (Below w.heap.size w (w7.setCell ⟨w2.heap.size, 0, none⟩ (.slice g7 (qs ++ [((⟨0, []⟩, none, 0) : Dt)]).length k7))) := hb8
        clear hd8 e9 hb7 hb8 hX7 hP7 hg7 HL HX HP
        generalize (qs ++ [((⟨0, []⟩, none, 0) : Dt)]).length = L8 at *
        go_wp2_with (go_at_call 13; refine (num_any _ _).mono ?_; rintro e w' ⟨rfl, rfl⟩)
        refine hmm.mono ?_
        rintro e w4 ⟨rfl, hb4⟩
        go_wp2_with fail
        go_ret
        exact ⟨rfl, below_next HL8.out hb4⟩

/- The row's step. -/
set_option maxRecDepth 100000 in
theorem lifted (os : Os) (started : os.Started) (H : Type) (enc : TypeId × Value → H) :
    ReturnsInHanded {} Try.checked os 5 .any (Rows.programMoreSpec.pre6 enc Try.prog Try.f5 Rows.programMoreRow.domain false) (Rows.programMoreSpec.post enc Try.prog Try.f5 false true false false) := by
  refine returnsInHanded_of_change (C := Try.checked) own started (by kernel_rfl) Try.func5
    (ChangeSpec.witness6 (enc := enc) (C := Try.checked) false ⟨#[], #[.int .i64 0, .bool false], []⟩ 8 (by kernel_rfl) (by kernel_rfl) (by kernel_rfl) (by kernel_rfl)) ?_
  intro W base args ds gs before hval0 hW hcnd _
  have hval : ∀ (j : Nat) t v, Try.f5.params[j]? = some t → args[j]? = some v → Value.okWide Try.prog W .any base t v := hval0
  have hW' := hW
  obtain ⟨p, q, hA0, hV, rfl, hfz, hnd⟩ := hW
  have hA : DataW.TrodAll enc Try.prog W 0 (fun _ => true) true Try.f5.params.toList args.toList ds p := hA0
  rw [Try.params5] at hA hval
  obtain ⟨v0, vs0, d0, ds0, p0, q0, hargs, rfl, rfl, h0, r0⟩ := trodAll_cons hA
  obtain ⟨v1, vs1, d1, ds1, p1, q1, rfl, rfl, rfl, h1, r1⟩ := trodAll_cons r0
  obtain ⟨rfl, rfl, rfl⟩ := trodAll_nil r1
  obtain rfl : args = #[v0, v1] := by cases args; simp_all
  obtain ⟨rfl, rfl⟩ := trodVars_none hV
  obtain ⟨a0, rfl, rfl, rfl, w0⟩ := open_int Try.underlying3 (hval 0 3 v0 rfl rfl) h0
  obtain ⟨a1, rfl, rfl, rfl⟩ := open_bool Try.underlying4 (hval 1 4 v1 rfl rfl) h1
  clear hA0 hval0
  simp only [List.append_nil] at hW'
  refine (walk a0 a1 W).mono fun e W' ⟨he, hg⟩ => ?_
  subst he
  exact ⟨_, rfl, _, _, _, [], [], [], hW', trodAll_cons_mk (shut_bool Try.underlying4 _) trodAll_mk0, (trodAll_cons_mk (shut_int Try.underlying3 w0) (trodAll_cons_mk (shut_bool Try.underlying4 _) trodAll_mk0)), rfl, hg.frame _, fun h => by cases h⟩

theorem over : Rows.programMoreRow.holds Try.pinned (OpenSpec.ofChange Rows.programMoreSpec) :=
  OpenClaim.holds_of_wide 5 Try.f5 rfl rfl rfl rfl rfl rfl rfl ⟨rfl, rfl, rfl, rfl, rfl⟩ rfl rfl rfl rfl rfl (by kernel_rfl) Try.func5 (by kernel_rfl)
    (of_decide_eq_true (by kernel_rfl)) (by unfold Func.isWrapper; first | (rw [if_pos (by decide +kernel)]; kernel_rfl) | (rw [if_neg (by decide +kernel)]; exact ⟨rfl, rfl⟩))
    (fun os started H enc _ => lifted os started H enc)

/-- The given statement. -/
theorem proved : Rows.ProgramMoreSaid :=
  over
end Go.Proofs.Ytiobjkmpeiohdaa.programMore
namespace Go.Proofs.Ytiobjkmpeiohdaa
theorem programMore_holds : Rows.ProgramMoreSaid := programMore.proved
end Go.Proofs.Ytiobjkmpeiohdaa
