/- What every program answers that is one: awake returns true. -/
import Derived.Test.YtcjpepbajcdenaaDoorTells
namespace Go.Proofs.YtcjpepbajcdenaaDoor
open Go.RowKit
set_option linter.unusedVariables false

theorem is_one : isB [64, 49, 40, 95, 32, 53, 41] [64, 49, 40, 64, 50, 32, 53, 41] = true ∧ isE [64, 49, 40, 95, 32, 53, 41] [64, 49, 40, 64, 50, 32, 53, 41] = 0 := by decide +kernel
theorem is_two : isB [64, 49, 40, 54, 32, 53, 41] [64, 49, 40, 95, 32, 53, 41] = false ∧ isE [64, 49, 40, 54, 32, 53, 41] [64, 49, 40, 95, 32, 53, 41] = 0 := by decide +kernel
theorem is_three : isB [33] [95] = false ∧ isE [33] [95] = 0 := by decide +kernel
theorem is_four : isB [63] [95] = false ∧ isE [63] [95] = 300 := by decide +kernel

/-- Is at two texts of which it is known what it tells. -/
theorem is_at (a b : ByteArray) (x : Bool) (e0 : Int) (w : World) (h : isB a.data.toList b.data.toList = x ∧ isE a.data.toList b.data.toList = e0) (ha : a.size ≤ 140737488355328) (hb : b.size ≤ 140737488355328) (hw : Lw w) :
    Calls Tryd.prog 9 #[.string a, .string b] w fun e w' => e = .returned (.tuple #[.bool x, .int .i64 e0]) ∧ Below w.heap.size w w' := by
  obtain ⟨rfl, rfl⟩ := h
  exact is_any a b w ha hb hw

set_option maxHeartbeats 1600000 in
set_option maxRecDepth 100000 in
theorem awake_any (w : World) (hw : Lw w) :
    Calls Tryd.prog 12 #[] w fun e w' => e = .returned (.bool true) ∧ Below w.heap.size w w' := by
  go_enter Tryd.func12, Tryd.ntmps12
  go_wp2_with fail
  refine (is_at ⟨#[64, 49, 40, 95, 32, 53, 41]⟩ ⟨#[64, 49, 40, 64, 50, 32, 53, 41]⟩ _ _ _ is_one (by decide) (by decide) hw).mono ?_
  rintro e w1 ⟨rfl, hb1⟩
  have hw1 := hw.on hb1
  go_wp2_with fail
  refine (is_at ⟨#[64, 49, 40, 54, 32, 53, 41]⟩ ⟨#[64, 49, 40, 95, 32, 53, 41]⟩ _ _ _ is_two (by decide) (by decide) hw1).mono ?_
  rintro e w2 ⟨rfl, hb2⟩
  have hb02 := below_next hb1 hb2
  have hw2 := hw.on hb02
  clear hb1 hb2 hw1
  go_wp2_with fail
  refine (is_at ⟨#[33]⟩ ⟨#[95]⟩ _ _ _ is_three (by decide) (by decide) hw2).mono ?_
  rintro e w3 ⟨rfl, hb3⟩
  have hb03 := below_next hb02 hb3
  have hw3 := hw.on hb03
  clear hb02 hb3 hw2
  go_wp2_with fail
  refine (is_at ⟨#[63]⟩ ⟨#[95]⟩ _ _ _ is_four (by decide) (by decide) hw3).mono ?_
  rintro e w4 ⟨rfl, hb4⟩
  have hb04 := below_next hb03 hb4
  clear hb03 hb4 hw3
  go_wp2_with (go_at_call 11; refine (num_any _ _).mono ?_; rintro e w' ⟨rfl, rfl⟩)
  go_ret
  exact ⟨rfl, hb04⟩
end Go.Proofs.YtcjpepbajcdenaaDoor
