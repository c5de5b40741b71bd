/- What every program answers that is one: awake returns true. -/
import Derived.Test.YtcpddpflfncbmaaDoorSame
namespace Go.Proofs.YtcpddpflfncbmaaDoor
open Go.RowKit
set_option linter.unusedVariables false

theorem w_one : whole [64, 49, 50, 40, 45, 55, 32, 64, 48, 32, 95, 41] = some (2, 12, [[45, 55], [64, 48], [95]]) := by decide +kernel
theorem w_two : whole [64, 49, 40, 41] = none := by decide +kernel
theorem w_three : (whole [33]).isSome = true := by decide +kernel
theorem w_four : (whole [48, 49]).isSome = false := by decide +kernel
theorem w_five : mk 2 12 [[45, 55], [64, 48], [95]] = some [64, 49, 50, 40, 45, 55, 32, 64, 48, 32, 95, 41] := whole_mkd w_one
theorem w_six : mk 1 32768 [] = none := by
  refine mk_head_none [] ?_
  rw [head_one]; rfl

set_option maxHeartbeats 1600000 in
set_option maxRecDepth 100000 in
theorem awake_any (w : World) (hw : Lw w) :
    Calls Tryd.prog 20 #[] w fun e w' => e = .returned (.bool true) ∧ Below w.heap.size w w' := by
  go_enter Tryd.func20, Tryd.ntmps20
  go_wp2_with fail
  refine (cut_any atoi_said itoa_said clone_said ⟨#[64, 49, 50, 40, 45, 55, 32, 64, 48, 32, 95, 41]⟩ _ (by decide) hw).mono ?_
  rintro e w1 ⟨k, x, v, er, rfl, _, hb1, hgot⟩
  rw [show whole (⟨#[64, 49, 50, 40, 45, 55, 32, 64, 48, 32, 95, 41]⟩ : ByteArray).data.toList = _ from w_one] at hgot
  obtain ⟨rfl, rfl, rfl, hown⟩ := hgot
  obtain ⟨g, c, rfl, htx, _⟩ := own_txts hown
  clear hown
  have hw1 := hw.on hb1
  go_wp2_with fail
  refine (make_at 2 12 _ 3 ([[45, 55], [64, 48], [95]].map ba) 3 _ rfl (by decide) (by decide) ?_ ?_ (by decide) (by decide) ?_).mono ?_
  · exact new_txts w1 ([[45, 55], [64, 48], [95]].map ba)
  · decide
  · exact hw1.on ((Below.refl _ _).alloc (Nat.le_refl _) _)
  rintro e w2 ⟨rfl, hb2⟩
  rw [lst_ba, w_five]
  have h12 : Below w1.heap.size w1 w2 := ((Below.refl _ _).alloc (Nat.le_refl _) _).trans (hb2.mono (by simp))
  have htx2 := htx.on h12
  have hw2 := hw1.on h12
  have h02 := below_next hb1 h12
  clear hb1 hb2 htx hw1 h12
  simp only [mkT, mkE]
  go_wp2_with fail
  refine (cut_any atoi_said itoa_said clone_said ⟨#[64, 49, 40, 41]⟩ _ (by decide) hw2).mono ?_
  rintro e w3 ⟨k, x, v, er, rfl, _, hb3, hgot⟩
  rw [show whole (⟨#[64, 49, 40, 41]⟩ : ByteArray).data.toList = _ from w_two] at hgot
  obtain ⟨rfl, rfl, rfl, rfl⟩ := hgot
  have htx3 := htx2.on hb3
  have hw3 := hw2.on hb3
  have h03 := below_next h02 hb3
  clear hb3 htx2 hw2 h02
  go_wp2_with fail
  refine (make_at 1 32768 _ 0 [] 0 _ rfl (by decide) (by decide) (Or.inl rfl) (by decide) (by decide) (by decide) hw3).mono ?_
  rintro e w4 ⟨rfl, hb4⟩
  rw [show lst [] = [] from rfl, w_six]
  have htx4 := htx3.on hb4
  have hw4 := hw3.on hb4
  have h04 := below_next h03 hb4
  clear hb4 htx3 hw3 h03
  simp only [mkT, mkE]
  go_wp2_with fail
  refine (same_at _ _ 3 3 ([[45, 55], [64, 48], [95]].map ba) ([[45, 55], [64, 48], [95]].map ba) _ _ _ rfl rfl ?_ ?_ (by decide) (by decide)).mono ?_
  · exact htx4.on ((Below.refl _ _).alloc (Nat.le_refl _) _)
  · exact new_txts w4 ([[45, 55], [64, 48], [95]].map ba)
  rintro e w5 ⟨rfl, hb5⟩
  have h45 : Below w4.heap.size w4 w5 := ((Below.refl _ _).alloc (Nat.le_refl _) _).trans (hb5.mono (by simp))
  have hw5 := hw4.on h45
  have h05 := below_next h04 h45
  clear hb5 htx4 hw4 h04 h45
  rw [show sameB ([[45, 55], [64, 48], [95]].map ba) ([[45, 55], [64, 48], [95]].map ba) = true from decide_eq_true rfl]
  go_wp2_with (go_at_call 15; refine (num_any _ _).mono ?_; rintro e w' ⟨rfl, rfl⟩)
  refine (tmay_any atoi_said itoa_said ⟨#[33]⟩ _ (by decide) hw5).mono ?_
  rintro e w6 ⟨rfl, hb6⟩
  rw [show (whole (⟨#[33]⟩ : ByteArray).data.toList).isSome = true from w_three]
  have hw6 := hw5.on hb6
  have h06 := below_next h05 hb6
  clear hb6 hw5 h05
  go_wp2_with fail
  refine (tmay_any atoi_said itoa_said ⟨#[48, 49]⟩ _ (by decide) hw6).mono ?_
  rintro e w7 ⟨rfl, hb7⟩
  rw [show (whole (⟨#[48, 49]⟩ : ByteArray).data.toList).isSome = false from w_four]
  have h07 := below_next h06 hb7
  clear hb7 hw6 h06
  go_wp2_with fail
  go_ret
  exact ⟨rfl, h07⟩
end Go.Proofs.YtcpddpflfncbmaaDoor
