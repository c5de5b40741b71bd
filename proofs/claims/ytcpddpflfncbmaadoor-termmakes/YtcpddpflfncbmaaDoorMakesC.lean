/- Walks of the statement on kinds, numbers and parts of which no term is made. -/
import Derived.Test.YtcpddpflfncbmaaDoorMakesA
namespace Go.Proofs.YtcpddpflfncbmaaDoor.termMakes
open Go.ChangeShapes Go.WideShapes Go.ChangeAt Go.RowKit
set_option linter.unusedVariables false

set_option maxHeartbeats 1600000 in
set_option maxRecDepth 100000 in
theorem walk_6 (a0 a1 : Int) (w : World) (hw : Lw w) (m : Int) (hm : bits .and .i64 a1 1023 = m) (hm0 : 0 ≤ m) (hm1 : m ≤ 1023) (hk : bits .and .i64 a0 15 = 6) :
    Calls Tryd.prog 5 #[.int .i64 a0, .int .i64 a1] w fun e w' => e = .returned (.bool true) ∧ Below w.heap.size w w' := by
  go_enter Tryd.func5, Tryd.ntmps5
  go_wp2_with fail
  refine (awake_any _ hw).mono ?_
  rintro e w1 ⟨rfl, hb1⟩
  have hw1 := hw.on hb1
  go_wp2_with fail
  refine (make_none _ _ _ 1 [ba [49]] 1 _ rfl ?hmk ?h0 ?h1 ?htx (by decide) (by decide) (by decide) ?hlw).mono ?_
  case hmk => exact none_kids (by decide +kernel)
  case h0 => omega
  case h1 => omega
  case htx => exact txts_one (by simp; try omega) (by simp [ba, go_sem])
  case hlw => exact hw1.on (grown_nine _ _ _ _ _ _ _ _ _ _)
  rintro e w2 ⟨rfl, hb2⟩
  have h02 : Below w.heap.size w w2 := below_next hb1 (below_next (grown_nine _ _ _ _ _ _ _ _ _ _) hb2)
  clear hb2 hw1 hb1
  go_wp2_with (go_at_call 15; refine (num_any _ _).mono ?_; rintro e w' ⟨rfl, rfl⟩)
  go_ret
  exact ⟨rfl, h02⟩

set_option maxHeartbeats 1600000 in
set_option maxRecDepth 100000 in
theorem walk_7 (a0 a1 : Int) (w : World) (hw : Lw w) (m : Int) (hm : bits .and .i64 a1 1023 = m) (hm0 : 0 ≤ m) (hm1 : m ≤ 1023) (hk : bits .and .i64 a0 15 = 7) :
    Calls Tryd.prog 5 #[.int .i64 a0, .int .i64 a1] w fun e w' => e = .returned (.bool true) ∧ Below w.heap.size w w' := by
  go_enter Tryd.func5, Tryd.ntmps5
  go_wp2_with fail
  refine (awake_any _ hw).mono ?_
  rintro e w1 ⟨rfl, hb1⟩
  have hw1 := hw.on hb1
  go_wp2_with fail
  refine (make_none _ _ _ 1 [ba [49]] 1 _ rfl ?hmk ?h0 ?h1 ?htx (by decide) (by decide) (by decide) ?hlw).mono ?_
  case hmk => exact none_kids (by decide +kernel)
  case h0 => omega
  case h1 => omega
  case htx => exact txts_one (by simp; try omega) (by simp [ba, go_sem])
  case hlw => exact hw1.on (grown_nine _ _ _ _ _ _ _ _ _ _)
  rintro e w2 ⟨rfl, hb2⟩
  have h02 : Below w.heap.size w w2 := below_next hb1 (below_next (grown_nine _ _ _ _ _ _ _ _ _ _) hb2)
  clear hb2 hw1 hb1
  go_wp2_with (go_at_call 15; refine (num_any _ _).mono ?_; rintro e w' ⟨rfl, rfl⟩)
  go_ret
  exact ⟨rfl, h02⟩

set_option maxHeartbeats 1600000 in
set_option maxRecDepth 100000 in
theorem walk_8 (a0 a1 : Int) (w : World) (hw : Lw w) (m : Int) (hm : bits .and .i64 a1 1023 = m) (hm0 : 0 ≤ m) (hm1 : m ≤ 1023) (hk : bits .and .i64 a0 15 = 8) :
    Calls Tryd.prog 5 #[.int .i64 a0, .int .i64 a1] w fun e w' => e = .returned (.bool true) ∧ Below w.heap.size w w' := by
  go_enter Tryd.func5, Tryd.ntmps5
  go_wp2_with fail
  refine (awake_any _ hw).mono ?_
  rintro e w1 ⟨rfl, hb1⟩
  have hw1 := hw.on hb1
  go_wp2_with fail
  refine (make_none _ _ _ 0 [] 0 _ rfl ?hmk ?h0 ?h1 ?htx (by decide) (by decide) (by decide) ?hlw).mono ?_
  case hmk => exact none_con _ (by omega)
  case h0 => omega
  case h1 => omega
  case htx => exact Or.inl rfl
  case hlw => exact hw1.on (grown_nine _ _ _ _ _ _ _ _ _ _)
  rintro e w2 ⟨rfl, hb2⟩
  have h02 : Below w.heap.size w w2 := below_next hb1 (below_next (grown_nine _ _ _ _ _ _ _ _ _ _) hb2)
  clear hb2 hw1 hb1
  go_wp2_with (go_at_call 15; refine (num_any _ _).mono ?_; rintro e w' ⟨rfl, rfl⟩)
  go_ret
  exact ⟨rfl, h02⟩

set_option maxHeartbeats 1600000 in
set_option maxRecDepth 100000 in
theorem walk_9 (a0 a1 : Int) (w : World) (hw : Lw w) (m : Int) (hm : bits .and .i64 a1 1023 = m) (hm0 : 0 ≤ m) (hm1 : m ≤ 1023) (hk : bits .and .i64 a0 15 = 9) :
    Calls Tryd.prog 5 #[.int .i64 a0, .int .i64 a1] w fun e w' => e = .returned (.bool true) ∧ Below w.heap.size w w' := by
  go_enter Tryd.func5, Tryd.ntmps5
  go_wp2_with fail
  refine (awake_any _ hw).mono ?_
  rintro e w1 ⟨rfl, hb1⟩
  have hw1 := hw.on hb1
  go_wp2_with fail
  refine (make_none _ _ _ 0 [] 0 _ rfl ?hmk ?h0 ?h1 ?htx (by decide) (by decide) (by decide) ?hlw).mono ?_
  case hmk => exact none_con _ (by omega)
  case h0 => omega
  case h1 => omega
  case htx => exact Or.inl rfl
  case hlw => exact hw1.on (grown_nine _ _ _ _ _ _ _ _ _ _)
  rintro e w2 ⟨rfl, hb2⟩
  have h02 : Below w.heap.size w w2 := below_next hb1 (below_next (grown_nine _ _ _ _ _ _ _ _ _ _) hb2)
  clear hb2 hw1 hb1
  go_wp2_with (go_at_call 15; refine (num_any _ _).mono ?_; rintro e w' ⟨rfl, rfl⟩)
  go_ret
  exact ⟨rfl, h02⟩

set_option maxHeartbeats 1600000 in
set_option maxRecDepth 100000 in
theorem walk_10 (a0 a1 : Int) (w : World) (hw : Lw w) (m : Int) (hm : bits .and .i64 a1 1023 = m) (hm0 : 0 ≤ m) (hm1 : m ≤ 1023) (hk : bits .and .i64 a0 15 = 10) :
    Calls Tryd.prog 5 #[.int .i64 a0, .int .i64 a1] w fun e w' => e = .returned (.bool true) ∧ Below w.heap.size w w' := by
  go_enter Tryd.func5, Tryd.ntmps5
  go_wp2_with fail
  refine (awake_any _ hw).mono ?_
  rintro e w1 ⟨rfl, hb1⟩
  have hw1 := hw.on hb1
  go_wp2_with fail
  refine (make_none _ _ _ 1 [ba []] 1 _ rfl ?hmk ?h0 ?h1 ?htx (by decide) (by decide) (by decide) ?hlw).mono ?_
  case hmk => exact none_kids (by decide +kernel)
  case h0 => omega
  case h1 => omega
  case htx => exact txts_one (by simp; try omega) (by simp [ba, go_sem])
  case hlw => exact hw1.on (grown_nine _ _ _ _ _ _ _ _ _ _)
  rintro e w2 ⟨rfl, hb2⟩
  have h02 : Below w.heap.size w w2 := below_next hb1 (below_next (grown_nine _ _ _ _ _ _ _ _ _ _) hb2)
  clear hb2 hw1 hb1
  go_wp2_with (go_at_call 15; refine (num_any _ _).mono ?_; rintro e w' ⟨rfl, rfl⟩)
  go_ret
  exact ⟨rfl, h02⟩

end Go.Proofs.YtcpddpflfncbmaaDoor.termMakes
