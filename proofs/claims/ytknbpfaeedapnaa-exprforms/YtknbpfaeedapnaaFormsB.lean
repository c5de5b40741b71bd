/- ExprForms, the ways 12 to 23 of its switch. -/
import Derived.Test.YtknbpfaeedapnaaFormsS
namespace Go.Proofs.Ytknbpfaeedapnaa.exprForms
open Go.RowKit
set_option linter.unusedVariables false

theorem no_12 : may 2 [⟨1, 0, 0, []⟩, ⟨1, 3, 0, []⟩, ⟨1, 1, 0, []⟩, ⟨4, 0, 0, [1, 2, 0]⟩, ⟨1, 0, 0, []⟩, ⟨1, 1, 0, []⟩, ⟨4, 0, 0, [4, 5]⟩, ⟨5, 7, 2, [0, 3, 6]⟩] = false := by decide +kernel
theorem no_13 : may 2 [⟨1, 0, 0, []⟩, ⟨1, 3, 0, []⟩, ⟨1, 1, 0, []⟩, ⟨4, 0, 1, [1, 2]⟩, ⟨1, 0, 0, []⟩, ⟨1, 1, 0, []⟩, ⟨4, 0, 0, [4, 5]⟩, ⟨5, 7, 2, [0, 3, 6]⟩] = false := by decide +kernel
theorem no_14 (d : Nat) : may 2 [⟨1, 0, 0, []⟩, ⟨1, 3, 0, []⟩, ⟨1, 1, 0, []⟩, ⟨4, 0, 0, [1, 2]⟩, ⟨1, 0, 0, []⟩, ⟨1, 1, 0, []⟩, ⟨4, 0, 0, [4, 5]⟩, ⟨5, (99 + (1 + (d : Int))), 2, [0, 3, 6]⟩] = false := may_bad (pre := []) (x := (7, ⟨5, (99 + (1 + (d : Int))), 2, [0, 3, 6]⟩)) (suf := backw [⟨1, 0, 0, []⟩, ⟨1, 3, 0, []⟩, ⟨1, 1, 0, []⟩, ⟨4, 0, 0, [1, 2]⟩, ⟨1, 0, 0, []⟩, ⟨1, 1, 0, []⟩, ⟨4, 0, 0, [4, 5]⟩]) rfl (fun t => show okE 5 (99 + (1 + (d : Int))) 2 ((3 : Nat) : Int) t = false from by rw [Bool.eq_false_iff]; intro h; have h := (okE_5 _ _ _ _).1 h; omega)
theorem no_15 (d : Nat) : may 2 [⟨1, 0, 0, []⟩, ⟨1, 3, 0, []⟩, ⟨1, 1, 0, []⟩, ⟨4, 0, 0, [1, 2]⟩, ⟨1, 0, 0, []⟩, ⟨1, 1, 0, []⟩, ⟨4, 0, 0, [4, 5]⟩, ⟨5, 7, (3 + (1 + (d : Int))), [0, 3, 6]⟩] = false := may_bad (pre := []) (x := (7, ⟨5, 7, (3 + (1 + (d : Int))), [0, 3, 6]⟩)) (suf := backw [⟨1, 0, 0, []⟩, ⟨1, 3, 0, []⟩, ⟨1, 1, 0, []⟩, ⟨4, 0, 0, [1, 2]⟩, ⟨1, 0, 0, []⟩, ⟨1, 1, 0, []⟩, ⟨4, 0, 0, [4, 5]⟩]) rfl (fun t => show okE 5 7 (3 + (1 + (d : Int))) ((3 : Nat) : Int) t = false from by rw [Bool.eq_false_iff]; intro h; have h := (okE_5 _ _ _ _).1 h; omega)
theorem no_16 : may 2 [⟨1, 0, 0, []⟩, ⟨1, 3, 0, []⟩, ⟨1, 1, 0, []⟩, ⟨4, 0, 0, [1, 2]⟩, ⟨1, 0, 0, []⟩, ⟨1, 1, 0, []⟩, ⟨4, 0, 0, [4, 5]⟩, ⟨5, 7, 2, [0, 3, 7]⟩] = false := by decide +kernel
theorem no_17 (d : Nat) : may 2 [⟨1, 0, 0, []⟩, ⟨1, 3, 0, []⟩, ⟨1, 1, 0, []⟩, ⟨4, 0, 0, [1, 2]⟩, ⟨1, 0, 0, []⟩, ⟨1, 1, 0, []⟩, ⟨4, 0, 0, [4, 5]⟩, ⟨5, 7, 2, [0, 3, (-(1 + (d : Int)))]⟩] = false := may_kid d
theorem no_18 : may 2 [⟨1, 0, 0, []⟩, ⟨1, 3, 0, []⟩, ⟨1, 1, 0, []⟩, ⟨4, 0, 0, [1, 2]⟩, ⟨1, 0, 0, []⟩, ⟨1, 1, 0, []⟩, ⟨4, 0, 0, [4, 5]⟩, ⟨5, 7, 2, [0, 6, 3]⟩] = false := by decide +kernel
theorem no_19 (d : Nat) : may 2 [⟨0, (32767 + (1 + (d : Int))), 0, []⟩, ⟨1, 3, 0, []⟩, ⟨1, 1, 0, []⟩, ⟨4, 0, 0, [1, 2]⟩, ⟨1, 0, 0, []⟩, ⟨1, 1, 0, []⟩, ⟨4, 0, 0, [4, 5]⟩, ⟨5, 7, 2, [0, 3, 6]⟩] = false := may_bad (pre := [(7, ⟨5, 7, 2, [0, 3, 6]⟩), (6, ⟨4, 0, 0, [4, 5]⟩), (5, ⟨1, 1, 0, []⟩), (4, ⟨1, 0, 0, []⟩), (3, ⟨4, 0, 0, [1, 2]⟩), (2, ⟨1, 1, 0, []⟩), (1, ⟨1, 3, 0, []⟩)]) (x := (0, ⟨0, (32767 + (1 + (d : Int))), 0, []⟩)) (suf := backw []) rfl (fun t => show okE 0 (32767 + (1 + (d : Int))) 0 ((0 : Nat) : Int) t = false from by rw [Bool.eq_false_iff]; intro h; have h := (okE_0 _ _ _ _).1 h; omega)
theorem no_20 (d : Nat) : may 2 [⟨7, (1 + (d : Int)), 0, []⟩, ⟨1, 3, 0, []⟩, ⟨1, 1, 0, []⟩, ⟨4, 0, 0, [1, 2]⟩, ⟨1, 0, 0, []⟩, ⟨1, 1, 0, []⟩, ⟨4, 0, 0, [4, 5]⟩, ⟨5, 7, 2, [0, 3, 6]⟩] = false := may_bad (pre := [(7, ⟨5, 7, 2, [0, 3, 6]⟩), (6, ⟨4, 0, 0, [4, 5]⟩), (5, ⟨1, 1, 0, []⟩), (4, ⟨1, 0, 0, []⟩), (3, ⟨4, 0, 0, [1, 2]⟩), (2, ⟨1, 1, 0, []⟩), (1, ⟨1, 3, 0, []⟩)]) (x := (0, ⟨7, (1 + (d : Int)), 0, []⟩)) (suf := backw []) rfl (fun t => show okE 7 (1 + (d : Int)) 0 ((0 : Nat) : Int) t = false from by rw [Bool.eq_false_iff]; intro h; have h := (okE_7 _ _ _ _).1 h; omega)
theorem no_21 (d : Nat) : may 2 [⟨3, (99 + (1 + (d : Int))), 0, []⟩, ⟨1, 3, 0, []⟩, ⟨1, 1, 0, []⟩, ⟨4, 0, 0, [1, 2]⟩, ⟨1, 0, 0, []⟩, ⟨1, 1, 0, []⟩, ⟨4, 0, 0, [4, 5]⟩, ⟨5, 7, 2, [0, 3, 6]⟩] = false := may_bad (pre := [(7, ⟨5, 7, 2, [0, 3, 6]⟩), (6, ⟨4, 0, 0, [4, 5]⟩), (5, ⟨1, 1, 0, []⟩), (4, ⟨1, 0, 0, []⟩), (3, ⟨4, 0, 0, [1, 2]⟩), (2, ⟨1, 1, 0, []⟩), (1, ⟨1, 3, 0, []⟩)]) (x := (0, ⟨3, (99 + (1 + (d : Int))), 0, []⟩)) (suf := backw []) rfl (fun t => show okE 3 (99 + (1 + (d : Int))) 0 ((0 : Nat) : Int) t = false from by rw [Bool.eq_false_iff]; intro h; have h := (okE_3 _ _ _ _).1 h; omega)
theorem no_22 (d : Nat) : may 2 [⟨2, (7 + (1 + (d : Int))), 0, []⟩, ⟨1, 3, 0, []⟩, ⟨1, 1, 0, []⟩, ⟨4, 0, 0, [1, 2]⟩, ⟨1, 0, 0, []⟩, ⟨1, 1, 0, []⟩, ⟨4, 0, 0, [4, 5]⟩, ⟨5, 7, 2, [0, 3, 6]⟩] = false := may_bad (pre := [(7, ⟨5, 7, 2, [0, 3, 6]⟩), (6, ⟨4, 0, 0, [4, 5]⟩), (5, ⟨1, 1, 0, []⟩), (4, ⟨1, 0, 0, []⟩), (3, ⟨4, 0, 0, [1, 2]⟩), (2, ⟨1, 1, 0, []⟩), (1, ⟨1, 3, 0, []⟩)]) (x := (0, ⟨2, (7 + (1 + (d : Int))), 0, []⟩)) (suf := backw []) rfl (fun t => show okE 2 (7 + (1 + (d : Int))) 0 ((0 : Nat) : Int) t = false from by rw [Bool.eq_false_iff]; intro h; have h := (okE_2 _ _ _ _).1 h; omega)
theorem no_23 (d : Nat) : may 2 [⟨1, 0, 0, []⟩, ⟨1, 3, 0, []⟩, ⟨1, 1, 0, []⟩, ⟨4, 0, 0, [1, 2]⟩, ⟨1, 0, 0, []⟩, ⟨1, 1, 0, []⟩, ⟨6, (1 + (d : Int)), 0, [4, 5]⟩, ⟨5, 7, 2, [0, 3, 6]⟩] = false := may_bad (pre := [(7, ⟨5, 7, 2, [0, 3, 6]⟩)]) (x := (6, ⟨6, (1 + (d : Int)), 0, [4, 5]⟩)) (suf := backw [⟨1, 0, 0, []⟩, ⟨1, 3, 0, []⟩, ⟨1, 1, 0, []⟩, ⟨4, 0, 0, [1, 2]⟩, ⟨1, 0, 0, []⟩, ⟨1, 1, 0, []⟩]) rfl (fun t => show okE 6 (1 + (d : Int)) 0 ((2 : Nat) : Int) t = false from by rw [Bool.eq_false_iff]; intro h; have h := (okE_6 _ _ _ _).1 h; omega)
set_option maxRecDepth 100000 in
set_option maxHeartbeats 1600000 in
theorem form_12 (a0 a1 : Int) (d : Nat) (hd : bits .and .i64 a1 1023 = (d : Int)) (hd1 : d < 1024) (hr : (IntKind.u64.wrap a0).tmod 24 = 12) (w : World) :
    Calls Try.prog 4 #[.int .i64 a0, .int .i64 a1] w fun e w' => e = .returned (.bool true) ∧ Below w.heap.size w w' := by
  go_enter Try.func4, Try.ntmps4
  go_wp2_with fail
  refine (awake_any _).mono ?_
  rintro e w1 ⟨rfl, hb1⟩
  go_wp2_with fail
  refine (adds_any _).mono ?_
  rintro e w2 ⟨rfl, a2, hb2, s2⟩
  obtain ⟨B, hB⟩ : ∃ B, w1.heap.size = B := ⟨_, rfl⟩
  have hBz := a2.lt
  rw [hB] at hBz
  have hBz' : B + 4 < w2.heap.size + 1 := by omega
  have hwB : w.heap.size ≤ B := by rw [← hB]; exact hb1.size
  have HA : Hid (AddsAt w2 B) := by rw [← hB]; exact a2
  have HB : Hid (Below w.heap.size w w2) := below_next hb1 hb2
  rw [hB]
  clear a2 hb2 hb1 s2 hB
  have c15 := HA.out.cell 15 (.slice (some ⟨B + 1, 0, none⟩) 2 2) rfl
  have f15 := HA.out.frozen 15
  go_wp2_with fail
  have hkl := Lv.new ((w2.setCell ⟨B + 4, 15, none⟩ (.slice (some ⟨w2.heap.size + 1, 0, none⟩) 3 3)).alloc (.cells #[.int .i64 2, .slice (some ⟨B + 4, 0, none⟩) 8 8] 24)) [1, 2, 0]
  simp only [World.size_alloc, World.size_setCell] at hkl
  have hW : Exs (((w2.setCell ⟨B + 4, 15, none⟩ (.slice (some ⟨w2.heap.size + 1, 0, none⟩) 3 3)).alloc (.cells #[.int .i64 2, .slice (some ⟨B + 4, 0, none⟩) 8 8] 24)).alloc (.cells #[.int .i64 1, .int .i64 2, .int .i64 0] 3)) (some ⟨B + 4, 0, none⟩) [⟨1, 0, 0, []⟩, ⟨1, 3, 0, []⟩, ⟨1, 1, 0, []⟩, ⟨4, 0, 0, [1, 2, 0]⟩, ⟨1, 0, 0, []⟩, ⟨1, 1, 0, []⟩, ⟨4, 0, 0, [4, 5]⟩, ⟨5, 7, 2, [0, 3, 6]⟩] := exs_of_row ((((show Rw w2 (B + 4) (addsC B) from HA.out.body).set 15 (.slice (some ⟨w2.heap.size + 1, 0, none⟩) 3 3)).alloc _).alloc _) ⟨rfl, rfl, rfl, ⟨_, _, rfl, nums_nil _ _⟩, rfl, rfl, rfl, ⟨_, _, rfl, nums_nil _ _⟩, rfl, rfl, rfl, ⟨_, _, rfl, nums_nil _ _⟩, rfl, rfl, rfl, ⟨_, _, rfl, hkl.nums⟩, rfl, rfl, rfl, ⟨_, _, rfl, nums_nil _ _⟩, rfl, rfl, rfl, ⟨_, _, rfl, nums_nil _ _⟩, rfl, rfl, rfl, ⟨_, _, rfl, (((HA.out.k2.other 15 (.slice (some ⟨w2.heap.size + 1, 0, none⟩) 3 3) (by omega)).alloc _).alloc _).nums⟩, rfl, rfl, rfl, ⟨_, _, rfl, (((HA.out.k3.other 15 (.slice (some ⟨w2.heap.size + 1, 0, none⟩) 3 3) (by omega)).alloc _).alloc _).nums⟩, trivial⟩
  have hbW : Below w.heap.size w (((w2.setCell ⟨B + 4, 15, none⟩ (.slice (some ⟨w2.heap.size + 1, 0, none⟩) 3 3)).alloc (.cells #[.int .i64 2, .slice (some ⟨B + 4, 0, none⟩) 8 8] 24)).alloc (.cells #[.int .i64 1, .int .i64 2, .int .i64 0] 3)) := (((HB.out.setCell (p := ⟨B + 4, 15, none⟩) (by show w.heap.size ≤ B + 4; omega) (.slice (some ⟨w2.heap.size + 1, 0, none⟩) 3 3)).alloc (by first | omega | (simp; omega)) _).alloc (by first | omega | (simp; omega)) _)
  have q0 := cell_old (.cells #[.int .i64 1, .int .i64 2, .int .i64 0] 3) (cell_new (w2.setCell ⟨B + 4, 15, none⟩ (.slice (some ⟨w2.heap.size + 1, 0, none⟩) 3 3)) #[.int .i64 2, .slice (some ⟨B + 4, 0, none⟩) 8 8] 24 0 _ rfl)
  have q1 := cell_old (.cells #[.int .i64 1, .int .i64 2, .int .i64 0] 3) (cell_new (w2.setCell ⟨B + 4, 15, none⟩ (.slice (some ⟨w2.heap.size + 1, 0, none⟩) 3 3)) #[.int .i64 2, .slice (some ⟨B + 4, 0, none⟩) 8 8] 24 1 _ rfl)
  simp only [World.size_setCell] at q0 q1
  have hlz : w2.heap.size < (((w2.setCell ⟨B + 4, 15, none⟩ (.slice (some ⟨w2.heap.size + 1, 0, none⟩) 3 3)).alloc (.cells #[.int .i64 2, .slice (some ⟨B + 4, 0, none⟩) 8 8] 24)).alloc (.cells #[.int .i64 1, .int .i64 2, .int .i64 0] 3)).heap.size := by simp only [World.size_alloc, World.size_setCell]; omega
  obtain ⟨W, hWe⟩ : ∃ W, (((w2.setCell ⟨B + 4, 15, none⟩ (.slice (some ⟨w2.heap.size + 1, 0, none⟩) 3 3)).alloc (.cells #[.int .i64 2, .slice (some ⟨B + 4, 0, none⟩) 8 8] 24)).alloc (.cells #[.int .i64 1, .int .i64 2, .int .i64 0] 3)) = W := ⟨_, rfl⟩
  rw [hWe] at hW hbW q0 q1 hlz ⊢
  clear hWe HA HB c15 f15 hkl
  refine (adds_any _).mono ?_
  rintro e w7 ⟨rfl, a7, hb7, s7⟩
  have h7 := below_next hbW hb7
  have hW7 := hW.on hb7
  have q2 := (hb7.cell (p := ⟨w2.heap.size, 0, none⟩) hlz).trans q0
  have q3 := (hb7.cell (p := ⟨w2.heap.size, 1, none⟩) hlz).trans q1
  have hlz7 := Nat.lt_of_lt_of_le hlz hb7.size
  clear hb7 hbW q0 q1 hW s7
  go_wp2_with fail
  refine (may_any 2 _ 8 addsL w7 a7.exs).mono ?_
  rintro e w8 ⟨rfl, hb8⟩
  rw [may_adds]
  have h8 := below_next h7 hb8
  have hW8 := hW7.on hb8
  have q4 := (hb8.cell (p := ⟨w2.heap.size, 0, none⟩) hlz7).trans q2
  have q5 := (hb8.cell (p := ⟨w2.heap.size, 1, none⟩) hlz7).trans q3
  clear hb8 h7 q2 q3 hW7 a7
  go_wp2_with fail
  refine (may_any 2 (some ⟨B + 4, 0, none⟩) 8 [⟨1, 0, 0, []⟩, ⟨1, 3, 0, []⟩, ⟨1, 1, 0, []⟩, ⟨4, 0, 0, [1, 2, 0]⟩, ⟨1, 0, 0, []⟩, ⟨1, 1, 0, []⟩, ⟨4, 0, 0, [4, 5]⟩, ⟨5, 7, 2, [0, 3, 6]⟩] w8 hW8).mono ?_
  rintro e w9 ⟨rfl, hb9⟩
  rw [no_12]
  have h9 := below_next h8 hb9
  clear hb9 h8 q4 q5 hW8
  go_wp2_with (go_at_call 14; refine (num_any _ _).mono ?_; rintro e w' ⟨rfl, rfl⟩)
  go_ret
  exact ⟨rfl, h9⟩
set_option maxRecDepth 100000 in
set_option maxHeartbeats 1600000 in
theorem form_13 (a0 a1 : Int) (d : Nat) (hd : bits .and .i64 a1 1023 = (d : Int)) (hd1 : d < 1024) (hr : (IntKind.u64.wrap a0).tmod 24 = 13) (w : World) :
    Calls Try.prog 4 #[.int .i64 a0, .int .i64 a1] w fun e w' => e = .returned (.bool true) ∧ Below w.heap.size w w' := by
  go_enter Try.func4, Try.ntmps4
  go_wp2_with fail
  refine (awake_any _).mono ?_
  rintro e w1 ⟨rfl, hb1⟩
  go_wp2_with fail
  refine (adds_any _).mono ?_
  rintro e w2 ⟨rfl, a2, hb2, s2⟩
  obtain ⟨B, hB⟩ : ∃ B, w1.heap.size = B := ⟨_, rfl⟩
  have hBz := a2.lt
  rw [hB] at hBz
  have hBz' : B + 4 < w2.heap.size + 1 := by omega
  have hwB : w.heap.size ≤ B := by rw [← hB]; exact hb1.size
  have HA : Hid (AddsAt w2 B) := by rw [← hB]; exact a2
  have HB : Hid (Below w.heap.size w w2) := below_next hb1 hb2
  rw [hB]
  clear a2 hb2 hb1 s2 hB
  have c14 := HA.out.cell 14 (.int .i64 0) rfl
  have f14 := HA.out.frozen 14
  go_wp2_with fail
  have hW : Exs ((w2.setCell ⟨B + 4, 14, none⟩ (.int .i64 1)).alloc (.cells #[.int .i64 2, .slice (some ⟨B + 4, 0, none⟩) 8 8] 24)) (some ⟨B + 4, 0, none⟩) [⟨1, 0, 0, []⟩, ⟨1, 3, 0, []⟩, ⟨1, 1, 0, []⟩, ⟨4, 0, 1, [1, 2]⟩, ⟨1, 0, 0, []⟩, ⟨1, 1, 0, []⟩, ⟨4, 0, 0, [4, 5]⟩, ⟨5, 7, 2, [0, 3, 6]⟩] := exs_of_row (((show Rw w2 (B + 4) (addsC B) from HA.out.body).set 14 (.int .i64 1)).alloc _) ⟨rfl, rfl, rfl, ⟨_, _, rfl, nums_nil _ _⟩, rfl, rfl, rfl, ⟨_, _, rfl, nums_nil _ _⟩, rfl, rfl, rfl, ⟨_, _, rfl, nums_nil _ _⟩, rfl, rfl, rfl, ⟨_, _, rfl, ((HA.out.k1.other 14 (.int .i64 1) (by omega)).alloc _).nums⟩, rfl, rfl, rfl, ⟨_, _, rfl, nums_nil _ _⟩, rfl, rfl, rfl, ⟨_, _, rfl, nums_nil _ _⟩, rfl, rfl, rfl, ⟨_, _, rfl, ((HA.out.k2.other 14 (.int .i64 1) (by omega)).alloc _).nums⟩, rfl, rfl, rfl, ⟨_, _, rfl, ((HA.out.k3.other 14 (.int .i64 1) (by omega)).alloc _).nums⟩, trivial⟩
  have hbW : Below w.heap.size w ((w2.setCell ⟨B + 4, 14, none⟩ (.int .i64 1)).alloc (.cells #[.int .i64 2, .slice (some ⟨B + 4, 0, none⟩) 8 8] 24)) := ((HB.out.setCell (p := ⟨B + 4, 14, none⟩) (by show w.heap.size ≤ B + 4; omega) (.int .i64 1)).alloc (by first | omega | (simp; omega)) _)
  have q0 := cell_new (w2.setCell ⟨B + 4, 14, none⟩ (.int .i64 1)) #[.int .i64 2, .slice (some ⟨B + 4, 0, none⟩) 8 8] 24 0 _ rfl
  have q1 := cell_new (w2.setCell ⟨B + 4, 14, none⟩ (.int .i64 1)) #[.int .i64 2, .slice (some ⟨B + 4, 0, none⟩) 8 8] 24 1 _ rfl
  simp only [World.size_setCell] at q0 q1
  have hlz : w2.heap.size < ((w2.setCell ⟨B + 4, 14, none⟩ (.int .i64 1)).alloc (.cells #[.int .i64 2, .slice (some ⟨B + 4, 0, none⟩) 8 8] 24)).heap.size := by simp only [World.size_alloc, World.size_setCell]; omega
  obtain ⟨W, hWe⟩ : ∃ W, ((w2.setCell ⟨B + 4, 14, none⟩ (.int .i64 1)).alloc (.cells #[.int .i64 2, .slice (some ⟨B + 4, 0, none⟩) 8 8] 24)) = W := ⟨_, rfl⟩
  rw [hWe] at hW hbW q0 q1 hlz ⊢
  clear hWe HA HB c14 f14
  refine (adds_any _).mono ?_
  rintro e w7 ⟨rfl, a7, hb7, s7⟩
  have h7 := below_next hbW hb7
  have hW7 := hW.on hb7
  have q2 := (hb7.cell (p := ⟨w2.heap.size, 0, none⟩) hlz).trans q0
  have q3 := (hb7.cell (p := ⟨w2.heap.size, 1, none⟩) hlz).trans q1
  have hlz7 := Nat.lt_of_lt_of_le hlz hb7.size
  clear hb7 hbW q0 q1 hW s7
  go_wp2_with fail
  refine (may_any 2 _ 8 addsL w7 a7.exs).mono ?_
  rintro e w8 ⟨rfl, hb8⟩
  rw [may_adds]
  have h8 := below_next h7 hb8
  have hW8 := hW7.on hb8
  have q4 := (hb8.cell (p := ⟨w2.heap.size, 0, none⟩) hlz7).trans q2
  have q5 := (hb8.cell (p := ⟨w2.heap.size, 1, none⟩) hlz7).trans q3
  clear hb8 h7 q2 q3 hW7 a7
  go_wp2_with fail
  refine (may_any 2 (some ⟨B + 4, 0, none⟩) 8 [⟨1, 0, 0, []⟩, ⟨1, 3, 0, []⟩, ⟨1, 1, 0, []⟩, ⟨4, 0, 1, [1, 2]⟩, ⟨1, 0, 0, []⟩, ⟨1, 1, 0, []⟩, ⟨4, 0, 0, [4, 5]⟩, ⟨5, 7, 2, [0, 3, 6]⟩] w8 hW8).mono ?_
  rintro e w9 ⟨rfl, hb9⟩
  rw [no_13]
  have h9 := below_next h8 hb9
  clear hb9 h8 q4 q5 hW8
  go_wp2_with (go_at_call 14; refine (num_any _ _).mono ?_; rintro e w' ⟨rfl, rfl⟩)
  go_ret
  exact ⟨rfl, h9⟩
set_option maxRecDepth 100000 in
set_option maxHeartbeats 1600000 in
theorem form_14 (a0 a1 : Int) (d : Nat) (hd : bits .and .i64 a1 1023 = (d : Int)) (hd1 : d < 1024) (hr : (IntKind.u64.wrap a0).tmod 24 = 14) (w : World) :
    Calls Try.prog 4 #[.int .i64 a0, .int .i64 a1] w fun e w' => e = .returned (.bool true) ∧ Below w.heap.size w w' := by
  go_enter Try.func4, Try.ntmps4
  go_wp2_with fail
  refine (awake_any _).mono ?_
  rintro e w1 ⟨rfl, hb1⟩
  go_wp2_with fail
  refine (adds_any _).mono ?_
  rintro e w2 ⟨rfl, a2, hb2, s2⟩
  obtain ⟨B, hB⟩ : ∃ B, w1.heap.size = B := ⟨_, rfl⟩
  have hBz := a2.lt
  rw [hB] at hBz
  have hBz' : B + 4 < w2.heap.size + 1 := by omega
  have hwB : w.heap.size ≤ B := by rw [← hB]; exact hb1.size
  have HA : Hid (AddsAt w2 B) := by rw [← hB]; exact a2
  have HB : Hid (Below w.heap.size w w2) := below_next hb1 hb2
  rw [hB]
  clear a2 hb2 hb1 s2 hB
  have c29 := HA.out.cell 29 (.int .i64 7) rfl
  have f29 := HA.out.frozen 29
  go_wp2_with fail
  have hW : Exs ((w2.setCell ⟨B + 4, 29, none⟩ (.int .i64 (99 + (1 + (d : Int))))).alloc (.cells #[.int .i64 2, .slice (some ⟨B + 4, 0, none⟩) 8 8] 24)) (some ⟨B + 4, 0, none⟩) [⟨1, 0, 0, []⟩, ⟨1, 3, 0, []⟩, ⟨1, 1, 0, []⟩, ⟨4, 0, 0, [1, 2]⟩, ⟨1, 0, 0, []⟩, ⟨1, 1, 0, []⟩, ⟨4, 0, 0, [4, 5]⟩, ⟨5, (99 + (1 + (d : Int))), 2, [0, 3, 6]⟩] := exs_of_row (((show Rw w2 (B + 4) (addsC B) from HA.out.body).set 29 (.int .i64 (99 + (1 + (d : Int))))).alloc _) ⟨rfl, rfl, rfl, ⟨_, _, rfl, nums_nil _ _⟩, rfl, rfl, rfl, ⟨_, _, rfl, nums_nil _ _⟩, rfl, rfl, rfl, ⟨_, _, rfl, nums_nil _ _⟩, rfl, rfl, rfl, ⟨_, _, rfl, ((HA.out.k1.other 29 (.int .i64 (99 + (1 + (d : Int)))) (by omega)).alloc _).nums⟩, rfl, rfl, rfl, ⟨_, _, rfl, nums_nil _ _⟩, rfl, rfl, rfl, ⟨_, _, rfl, nums_nil _ _⟩, rfl, rfl, rfl, ⟨_, _, rfl, ((HA.out.k2.other 29 (.int .i64 (99 + (1 + (d : Int)))) (by omega)).alloc _).nums⟩, rfl, rfl, rfl, ⟨_, _, rfl, ((HA.out.k3.other 29 (.int .i64 (99 + (1 + (d : Int)))) (by omega)).alloc _).nums⟩, trivial⟩
  have hbW : Below w.heap.size w ((w2.setCell ⟨B + 4, 29, none⟩ (.int .i64 (99 + (1 + (d : Int))))).alloc (.cells #[.int .i64 2, .slice (some ⟨B + 4, 0, none⟩) 8 8] 24)) := ((HB.out.setCell (p := ⟨B + 4, 29, none⟩) (by show w.heap.size ≤ B + 4; omega) (.int .i64 (99 + (1 + (d : Int))))).alloc (by first | omega | (simp; omega)) _)
  have q0 := cell_new (w2.setCell ⟨B + 4, 29, none⟩ (.int .i64 (99 + (1 + (d : Int))))) #[.int .i64 2, .slice (some ⟨B + 4, 0, none⟩) 8 8] 24 0 _ rfl
  have q1 := cell_new (w2.setCell ⟨B + 4, 29, none⟩ (.int .i64 (99 + (1 + (d : Int))))) #[.int .i64 2, .slice (some ⟨B + 4, 0, none⟩) 8 8] 24 1 _ rfl
  simp only [World.size_setCell] at q0 q1
  have hlz : w2.heap.size < ((w2.setCell ⟨B + 4, 29, none⟩ (.int .i64 (99 + (1 + (d : Int))))).alloc (.cells #[.int .i64 2, .slice (some ⟨B + 4, 0, none⟩) 8 8] 24)).heap.size := by simp only [World.size_alloc, World.size_setCell]; omega
  obtain ⟨W, hWe⟩ : ∃ W, ((w2.setCell ⟨B + 4, 29, none⟩ (.int .i64 (99 + (1 + (d : Int))))).alloc (.cells #[.int .i64 2, .slice (some ⟨B + 4, 0, none⟩) 8 8] 24)) = W := ⟨_, rfl⟩
  rw [hWe] at hW hbW q0 q1 hlz ⊢
  clear hWe HA HB c29 f29
  refine (adds_any _).mono ?_
  rintro e w7 ⟨rfl, a7, hb7, s7⟩
  have h7 := below_next hbW hb7
  have hW7 := hW.on hb7
  have q2 := (hb7.cell (p := ⟨w2.heap.size, 0, none⟩) hlz).trans q0
  have q3 := (hb7.cell (p := ⟨w2.heap.size, 1, none⟩) hlz).trans q1
  have hlz7 := Nat.lt_of_lt_of_le hlz hb7.size
  clear hb7 hbW q0 q1 hW s7
  go_wp2_with fail
  refine (may_any 2 _ 8 addsL w7 a7.exs).mono ?_
  rintro e w8 ⟨rfl, hb8⟩
  rw [may_adds]
  have h8 := below_next h7 hb8
  have hW8 := hW7.on hb8
  have q4 := (hb8.cell (p := ⟨w2.heap.size, 0, none⟩) hlz7).trans q2
  have q5 := (hb8.cell (p := ⟨w2.heap.size, 1, none⟩) hlz7).trans q3
  clear hb8 h7 q2 q3 hW7 a7
  go_wp2_with fail
  refine (may_any 2 (some ⟨B + 4, 0, none⟩) 8 [⟨1, 0, 0, []⟩, ⟨1, 3, 0, []⟩, ⟨1, 1, 0, []⟩, ⟨4, 0, 0, [1, 2]⟩, ⟨1, 0, 0, []⟩, ⟨1, 1, 0, []⟩, ⟨4, 0, 0, [4, 5]⟩, ⟨5, (99 + (1 + (d : Int))), 2, [0, 3, 6]⟩] w8 hW8).mono ?_
  rintro e w9 ⟨rfl, hb9⟩
  rw [no_14 d]
  have h9 := below_next h8 hb9
  clear hb9 h8 q4 q5 hW8
  go_wp2_with (go_at_call 14; refine (num_any _ _).mono ?_; rintro e w' ⟨rfl, rfl⟩)
  go_ret
  exact ⟨rfl, h9⟩
set_option maxRecDepth 100000 in
set_option maxHeartbeats 1600000 in
theorem form_15 (a0 a1 : Int) (d : Nat) (hd : bits .and .i64 a1 1023 = (d : Int)) (hd1 : d < 1024) (hr : (IntKind.u64.wrap a0).tmod 24 = 15) (w : World) :
    Calls Try.prog 4 #[.int .i64 a0, .int .i64 a1] w fun e w' => e = .returned (.bool true) ∧ Below w.heap.size w w' := by
  go_enter Try.func4, Try.ntmps4
  go_wp2_with fail
  refine (awake_any _).mono ?_
  rintro e w1 ⟨rfl, hb1⟩
  go_wp2_with fail
  refine (adds_any _).mono ?_
  rintro e w2 ⟨rfl, a2, hb2, s2⟩
  obtain ⟨B, hB⟩ : ∃ B, w1.heap.size = B := ⟨_, rfl⟩
  have hBz := a2.lt
  rw [hB] at hBz
  have hBz' : B + 4 < w2.heap.size + 1 := by omega
  have hwB : w.heap.size ≤ B := by rw [← hB]; exact hb1.size
  have HA : Hid (AddsAt w2 B) := by rw [← hB]; exact a2
  have HB : Hid (Below w.heap.size w w2) := below_next hb1 hb2
  rw [hB]
  clear a2 hb2 hb1 s2 hB
  have c30 := HA.out.cell 30 (.int .i64 2) rfl
  have f30 := HA.out.frozen 30
  go_wp2_with fail
  have hW : Exs ((w2.setCell ⟨B + 4, 30, none⟩ (.int .i64 (3 + (1 + (d : Int))))).alloc (.cells #[.int .i64 2, .slice (some ⟨B + 4, 0, none⟩) 8 8] 24)) (some ⟨B + 4, 0, none⟩) [⟨1, 0, 0, []⟩, ⟨1, 3, 0, []⟩, ⟨1, 1, 0, []⟩, ⟨4, 0, 0, [1, 2]⟩, ⟨1, 0, 0, []⟩, ⟨1, 1, 0, []⟩, ⟨4, 0, 0, [4, 5]⟩, ⟨5, 7, (3 + (1 + (d : Int))), [0, 3, 6]⟩] := exs_of_row (((show Rw w2 (B + 4) (addsC B) from HA.out.body).set 30 (.int .i64 (3 + (1 + (d : Int))))).alloc _) ⟨rfl, rfl, rfl, ⟨_, _, rfl, nums_nil _ _⟩, rfl, rfl, rfl, ⟨_, _, rfl, nums_nil _ _⟩, rfl, rfl, rfl, ⟨_, _, rfl, nums_nil _ _⟩, rfl, rfl, rfl, ⟨_, _, rfl, ((HA.out.k1.other 30 (.int .i64 (3 + (1 + (d : Int)))) (by omega)).alloc _).nums⟩, rfl, rfl, rfl, ⟨_, _, rfl, nums_nil _ _⟩, rfl, rfl, rfl, ⟨_, _, rfl, nums_nil _ _⟩, rfl, rfl, rfl, ⟨_, _, rfl, ((HA.out.k2.other 30 (.int .i64 (3 + (1 + (d : Int)))) (by omega)).alloc _).nums⟩, rfl, rfl, rfl, ⟨_, _, rfl, ((HA.out.k3.other 30 (.int .i64 (3 + (1 + (d : Int)))) (by omega)).alloc _).nums⟩, trivial⟩
  have hbW : Below w.heap.size w ((w2.setCell ⟨B + 4, 30, none⟩ (.int .i64 (3 + (1 + (d : Int))))).alloc (.cells #[.int .i64 2, .slice (some ⟨B + 4, 0, none⟩) 8 8] 24)) := ((HB.out.setCell (p := ⟨B + 4, 30, none⟩) (by show w.heap.size ≤ B + 4; omega) (.int .i64 (3 + (1 + (d : Int))))).alloc (by first | omega | (simp; omega)) _)
  have q0 := cell_new (w2.setCell ⟨B + 4, 30, none⟩ (.int .i64 (3 + (1 + (d : Int))))) #[.int .i64 2, .slice (some ⟨B + 4, 0, none⟩) 8 8] 24 0 _ rfl
  have q1 := cell_new (w2.setCell ⟨B + 4, 30, none⟩ (.int .i64 (3 + (1 + (d : Int))))) #[.int .i64 2, .slice (some ⟨B + 4, 0, none⟩) 8 8] 24 1 _ rfl
  simp only [World.size_setCell] at q0 q1
  have hlz : w2.heap.size < ((w2.setCell ⟨B + 4, 30, none⟩ (.int .i64 (3 + (1 + (d : Int))))).alloc (.cells #[.int .i64 2, .slice (some ⟨B + 4, 0, none⟩) 8 8] 24)).heap.size := by simp only [World.size_alloc, World.size_setCell]; omega
  obtain ⟨W, hWe⟩ : ∃ W, ((w2.setCell ⟨B + 4, 30, none⟩ (.int .i64 (3 + (1 + (d : Int))))).alloc (.cells #[.int .i64 2, .slice (some ⟨B + 4, 0, none⟩) 8 8] 24)) = W := ⟨_, rfl⟩
  rw [hWe] at hW hbW q0 q1 hlz ⊢
  clear hWe HA HB c30 f30
  refine (adds_any _).mono ?_
  rintro e w7 ⟨rfl, a7, hb7, s7⟩
  have h7 := below_next hbW hb7
  have hW7 := hW.on hb7
  have q2 := (hb7.cell (p := ⟨w2.heap.size, 0, none⟩) hlz).trans q0
  have q3 := (hb7.cell (p := ⟨w2.heap.size, 1, none⟩) hlz).trans q1
  have hlz7 := Nat.lt_of_lt_of_le hlz hb7.size
  clear hb7 hbW q0 q1 hW s7
  go_wp2_with fail
  refine (may_any 2 _ 8 addsL w7 a7.exs).mono ?_
  rintro e w8 ⟨rfl, hb8⟩
  rw [may_adds]
  have h8 := below_next h7 hb8
  have hW8 := hW7.on hb8
  have q4 := (hb8.cell (p := ⟨w2.heap.size, 0, none⟩) hlz7).trans q2
  have q5 := (hb8.cell (p := ⟨w2.heap.size, 1, none⟩) hlz7).trans q3
  clear hb8 h7 q2 q3 hW7 a7
  go_wp2_with fail
  refine (may_any 2 (some ⟨B + 4, 0, none⟩) 8 [⟨1, 0, 0, []⟩, ⟨1, 3, 0, []⟩, ⟨1, 1, 0, []⟩, ⟨4, 0, 0, [1, 2]⟩, ⟨1, 0, 0, []⟩, ⟨1, 1, 0, []⟩, ⟨4, 0, 0, [4, 5]⟩, ⟨5, 7, (3 + (1 + (d : Int))), [0, 3, 6]⟩] w8 hW8).mono ?_
  rintro e w9 ⟨rfl, hb9⟩
  rw [no_15 d]
  have h9 := below_next h8 hb9
  clear hb9 h8 q4 q5 hW8
  go_wp2_with (go_at_call 14; refine (num_any _ _).mono ?_; rintro e w' ⟨rfl, rfl⟩)
  go_ret
  exact ⟨rfl, h9⟩
set_option maxRecDepth 100000 in
set_option maxHeartbeats 1600000 in
theorem form_16 (a0 a1 : Int) (d : Nat) (hd : bits .and .i64 a1 1023 = (d : Int)) (hd1 : d < 1024) (hr : (IntKind.u64.wrap a0).tmod 24 = 16) (w : World) :
    Calls Try.prog 4 #[.int .i64 a0, .int .i64 a1] w fun e w' => e = .returned (.bool true) ∧ Below w.heap.size w w' := by
  go_enter Try.func4, Try.ntmps4
  go_wp2_with fail
  refine (awake_any _).mono ?_
  rintro e w1 ⟨rfl, hb1⟩
  go_wp2_with fail
  refine (adds_any _).mono ?_
  rintro e w2 ⟨rfl, a2, hb2, s2⟩
  obtain ⟨B, hB⟩ : ∃ B, w1.heap.size = B := ⟨_, rfl⟩
  have hBz := a2.lt
  rw [hB] at hBz
  have hBz' : B + 4 < w2.heap.size + 1 := by omega
  have hwB : w.heap.size ≤ B := by rw [← hB]; exact hb1.size
  have HA : Hid (AddsAt w2 B) := by rw [← hB]; exact a2
  have HB : Hid (Below w.heap.size w w2) := below_next hb1 hb2
  rw [hB]
  clear a2 hb2 hb1 s2 hB
  have c31 := HA.out.cell 31 (.slice (some ⟨B + 3, 0, none⟩) 3 3) rfl
  have f31 := HA.out.frozen 31
  go_wp2_with fail
  have hkl := Lv.new ((w2.setCell ⟨B + 4, 31, none⟩ (.slice (some ⟨w2.heap.size + 1, 0, none⟩) 3 3)).alloc (.cells #[.int .i64 2, .slice (some ⟨B + 4, 0, none⟩) 8 8] 24)) [0, 3, 7]
  simp only [World.size_alloc, World.size_setCell] at hkl
  have hW : Exs (((w2.setCell ⟨B + 4, 31, none⟩ (.slice (some ⟨w2.heap.size + 1, 0, none⟩) 3 3)).alloc (.cells #[.int .i64 2, .slice (some ⟨B + 4, 0, none⟩) 8 8] 24)).alloc (.cells #[.int .i64 0, .int .i64 3, .int .i64 7] 3)) (some ⟨B + 4, 0, none⟩) [⟨1, 0, 0, []⟩, ⟨1, 3, 0, []⟩, ⟨1, 1, 0, []⟩, ⟨4, 0, 0, [1, 2]⟩, ⟨1, 0, 0, []⟩, ⟨1, 1, 0, []⟩, ⟨4, 0, 0, [4, 5]⟩, ⟨5, 7, 2, [0, 3, 7]⟩] := exs_of_row ((((show Rw w2 (B + 4) (addsC B) from HA.out.body).set 31 (.slice (some ⟨w2.heap.size + 1, 0, none⟩) 3 3)).alloc _).alloc _) ⟨rfl, rfl, rfl, ⟨_, _, rfl, nums_nil _ _⟩, rfl, rfl, rfl, ⟨_, _, rfl, nums_nil _ _⟩, rfl, rfl, rfl, ⟨_, _, rfl, nums_nil _ _⟩, rfl, rfl, rfl, ⟨_, _, rfl, (((HA.out.k1.other 31 (.slice (some ⟨w2.heap.size + 1, 0, none⟩) 3 3) (by omega)).alloc _).alloc _).nums⟩, rfl, rfl, rfl, ⟨_, _, rfl, nums_nil _ _⟩, rfl, rfl, rfl, ⟨_, _, rfl, nums_nil _ _⟩, rfl, rfl, rfl, ⟨_, _, rfl, (((HA.out.k2.other 31 (.slice (some ⟨w2.heap.size + 1, 0, none⟩) 3 3) (by omega)).alloc _).alloc _).nums⟩, rfl, rfl, rfl, ⟨_, _, rfl, hkl.nums⟩, trivial⟩
  have hbW : Below w.heap.size w (((w2.setCell ⟨B + 4, 31, none⟩ (.slice (some ⟨w2.heap.size + 1, 0, none⟩) 3 3)).alloc (.cells #[.int .i64 2, .slice (some ⟨B + 4, 0, none⟩) 8 8] 24)).alloc (.cells #[.int .i64 0, .int .i64 3, .int .i64 7] 3)) := (((HB.out.setCell (p := ⟨B + 4, 31, none⟩) (by show w.heap.size ≤ B + 4; omega) (.slice (some ⟨w2.heap.size + 1, 0, none⟩) 3 3)).alloc (by first | omega | (simp; omega)) _).alloc (by first | omega | (simp; omega)) _)
  have q0 := cell_old (.cells #[.int .i64 0, .int .i64 3, .int .i64 7] 3) (cell_new (w2.setCell ⟨B + 4, 31, none⟩ (.slice (some ⟨w2.heap.size + 1, 0, none⟩) 3 3)) #[.int .i64 2, .slice (some ⟨B + 4, 0, none⟩) 8 8] 24 0 _ rfl)
  have q1 := cell_old (.cells #[.int .i64 0, .int .i64 3, .int .i64 7] 3) (cell_new (w2.setCell ⟨B + 4, 31, none⟩ (.slice (some ⟨w2.heap.size + 1, 0, none⟩) 3 3)) #[.int .i64 2, .slice (some ⟨B + 4, 0, none⟩) 8 8] 24 1 _ rfl)
  simp only [World.size_setCell] at q0 q1
  have hlz : w2.heap.size < (((w2.setCell ⟨B + 4, 31, none⟩ (.slice (some ⟨w2.heap.size + 1, 0, none⟩) 3 3)).alloc (.cells #[.int .i64 2, .slice (some ⟨B + 4, 0, none⟩) 8 8] 24)).alloc (.cells #[.int .i64 0, .int .i64 3, .int .i64 7] 3)).heap.size := by simp only [World.size_alloc, World.size_setCell]; omega
  obtain ⟨W, hWe⟩ : ∃ W, (((w2.setCell ⟨B + 4, 31, none⟩ (.slice (some ⟨w2.heap.size + 1, 0, none⟩) 3 3)).alloc (.cells #[.int .i64 2, .slice (some ⟨B + 4, 0, none⟩) 8 8] 24)).alloc (.cells #[.int .i64 0, .int .i64 3, .int .i64 7] 3)) = W := ⟨_, rfl⟩
  rw [hWe] at hW hbW q0 q1 hlz ⊢
  clear hWe HA HB c31 f31 hkl
  refine (adds_any _).mono ?_
  rintro e w7 ⟨rfl, a7, hb7, s7⟩
  have h7 := below_next hbW hb7
  have hW7 := hW.on hb7
  have q2 := (hb7.cell (p := ⟨w2.heap.size, 0, none⟩) hlz).trans q0
  have q3 := (hb7.cell (p := ⟨w2.heap.size, 1, none⟩) hlz).trans q1
  have hlz7 := Nat.lt_of_lt_of_le hlz hb7.size
  clear hb7 hbW q0 q1 hW s7
  go_wp2_with fail
  refine (may_any 2 _ 8 addsL w7 a7.exs).mono ?_
  rintro e w8 ⟨rfl, hb8⟩
  rw [may_adds]
  have h8 := below_next h7 hb8
  have hW8 := hW7.on hb8
  have q4 := (hb8.cell (p := ⟨w2.heap.size, 0, none⟩) hlz7).trans q2
  have q5 := (hb8.cell (p := ⟨w2.heap.size, 1, none⟩) hlz7).trans q3
  clear hb8 h7 q2 q3 hW7 a7
  go_wp2_with fail
  refine (may_any 2 (some ⟨B + 4, 0, none⟩) 8 [⟨1, 0, 0, []⟩, ⟨1, 3, 0, []⟩, ⟨1, 1, 0, []⟩, ⟨4, 0, 0, [1, 2]⟩, ⟨1, 0, 0, []⟩, ⟨1, 1, 0, []⟩, ⟨4, 0, 0, [4, 5]⟩, ⟨5, 7, 2, [0, 3, 7]⟩] w8 hW8).mono ?_
  rintro e w9 ⟨rfl, hb9⟩
  rw [no_16]
  have h9 := below_next h8 hb9
  clear hb9 h8 q4 q5 hW8
  go_wp2_with (go_at_call 14; refine (num_any _ _).mono ?_; rintro e w' ⟨rfl, rfl⟩)
  go_ret
  exact ⟨rfl, h9⟩
set_option maxRecDepth 100000 in
set_option maxHeartbeats 1600000 in
theorem form_17 (a0 a1 : Int) (d : Nat) (hd : bits .and .i64 a1 1023 = (d : Int)) (hd1 : d < 1024) (hr : (IntKind.u64.wrap a0).tmod 24 = 17) (w : World) :
    Calls Try.prog 4 #[.int .i64 a0, .int .i64 a1] w fun e w' => e = .returned (.bool true) ∧ Below w.heap.size w w' := by
  go_enter Try.func4, Try.ntmps4
  go_wp2_with fail
  refine (awake_any _).mono ?_
  rintro e w1 ⟨rfl, hb1⟩
  go_wp2_with fail
  refine (adds_any _).mono ?_
  rintro e w2 ⟨rfl, a2, hb2, s2⟩
  obtain ⟨B, hB⟩ : ∃ B, w1.heap.size = B := ⟨_, rfl⟩
  have hBz := a2.lt
  rw [hB] at hBz
  have hBz' : B + 4 < w2.heap.size + 1 := by omega
  have hwB : w.heap.size ≤ B := by rw [← hB]; exact hb1.size
  have HA : Hid (AddsAt w2 B) := by rw [← hB]; exact a2
  have HB : Hid (Below w.heap.size w w2) := below_next hb1 hb2
  rw [hB]
  clear a2 hb2 hb1 s2 hB
  have c31 := HA.out.cell 31 (.slice (some ⟨B + 3, 0, none⟩) 3 3) rfl
  have f31 := HA.out.frozen 31
  go_wp2_with fail
  have hkl := Lv.new ((w2.setCell ⟨B + 4, 31, none⟩ (.slice (some ⟨w2.heap.size + 1, 0, none⟩) 3 3)).alloc (.cells #[.int .i64 2, .slice (some ⟨B + 4, 0, none⟩) 8 8] 24)) [0, 3, (-(1 + (d : Int)))]
  simp only [World.size_alloc, World.size_setCell] at hkl
  have hW : Exs (((w2.setCell ⟨B + 4, 31, none⟩ (.slice (some ⟨w2.heap.size + 1, 0, none⟩) 3 3)).alloc (.cells #[.int .i64 2, .slice (some ⟨B + 4, 0, none⟩) 8 8] 24)).alloc (.cells #[.int .i64 0, .int .i64 3, .int .i64 (-(1 + (d : Int)))] 3)) (some ⟨B + 4, 0, none⟩) [⟨1, 0, 0, []⟩, ⟨1, 3, 0, []⟩, ⟨1, 1, 0, []⟩, ⟨4, 0, 0, [1, 2]⟩, ⟨1, 0, 0, []⟩, ⟨1, 1, 0, []⟩, ⟨4, 0, 0, [4, 5]⟩, ⟨5, 7, 2, [0, 3, (-(1 + (d : Int)))]⟩] := exs_of_row ((((show Rw w2 (B + 4) (addsC B) from HA.out.body).set 31 (.slice (some ⟨w2.heap.size + 1, 0, none⟩) 3 3)).alloc _).alloc _) ⟨rfl, rfl, rfl, ⟨_, _, rfl, nums_nil _ _⟩, rfl, rfl, rfl, ⟨_, _, rfl, nums_nil _ _⟩, rfl, rfl, rfl, ⟨_, _, rfl, nums_nil _ _⟩, rfl, rfl, rfl, ⟨_, _, rfl, (((HA.out.k1.other 31 (.slice (some ⟨w2.heap.size + 1, 0, none⟩) 3 3) (by omega)).alloc _).alloc _).nums⟩, rfl, rfl, rfl, ⟨_, _, rfl, nums_nil _ _⟩, rfl, rfl, rfl, ⟨_, _, rfl, nums_nil _ _⟩, rfl, rfl, rfl, ⟨_, _, rfl, (((HA.out.k2.other 31 (.slice (some ⟨w2.heap.size + 1, 0, none⟩) 3 3) (by omega)).alloc _).alloc _).nums⟩, rfl, rfl, rfl, ⟨_, _, rfl, hkl.nums⟩, trivial⟩
  have hbW : Below w.heap.size w (((w2.setCell ⟨B + 4, 31, none⟩ (.slice (some ⟨w2.heap.size + 1, 0, none⟩) 3 3)).alloc (.cells #[.int .i64 2, .slice (some ⟨B + 4, 0, none⟩) 8 8] 24)).alloc (.cells #[.int .i64 0, .int .i64 3, .int .i64 (-(1 + (d : Int)))] 3)) := (((HB.out.setCell (p := ⟨B + 4, 31, none⟩) (by show w.heap.size ≤ B + 4; omega) (.slice (some ⟨w2.heap.size + 1, 0, none⟩) 3 3)).alloc (by first | omega | (simp; omega)) _).alloc (by first | omega | (simp; omega)) _)
  have q0 := cell_old (.cells #[.int .i64 0, .int .i64 3, .int .i64 (-(1 + (d : Int)))] 3) (cell_new (w2.setCell ⟨B + 4, 31, none⟩ (.slice (some ⟨w2.heap.size + 1, 0, none⟩) 3 3)) #[.int .i64 2, .slice (some ⟨B + 4, 0, none⟩) 8 8] 24 0 _ rfl)
  have q1 := cell_old (.cells #[.int .i64 0, .int .i64 3, .int .i64 (-(1 + (d : Int)))] 3) (cell_new (w2.setCell ⟨B + 4, 31, none⟩ (.slice (some ⟨w2.heap.size + 1, 0, none⟩) 3 3)) #[.int .i64 2, .slice (some ⟨B + 4, 0, none⟩) 8 8] 24 1 _ rfl)
  simp only [World.size_setCell] at q0 q1
  have hlz : w2.heap.size < (((w2.setCell ⟨B + 4, 31, none⟩ (.slice (some ⟨w2.heap.size + 1, 0, none⟩) 3 3)).alloc (.cells #[.int .i64 2, .slice (some ⟨B + 4, 0, none⟩) 8 8] 24)).alloc (.cells #[.int .i64 0, .int .i64 3, .int .i64 (-(1 + (d : Int)))] 3)).heap.size := by simp only [World.size_alloc, World.size_setCell]; omega
  obtain ⟨W, hWe⟩ : ∃ W, (((w2.setCell ⟨B + 4, 31, none⟩ (.slice (some ⟨w2.heap.size + 1, 0, none⟩) 3 3)).alloc (.cells #[.int .i64 2, .slice (some ⟨B + 4, 0, none⟩) 8 8] 24)).alloc (.cells #[.int .i64 0, .int .i64 3, .int .i64 (-(1 + (d : Int)))] 3)) = W := ⟨_, rfl⟩
  rw [hWe] at hW hbW q0 q1 hlz ⊢
  clear hWe HA HB c31 f31 hkl
  refine (adds_any _).mono ?_
  rintro e w7 ⟨rfl, a7, hb7, s7⟩
  have h7 := below_next hbW hb7
  have hW7 := hW.on hb7
  have q2 := (hb7.cell (p := ⟨w2.heap.size, 0, none⟩) hlz).trans q0
  have q3 := (hb7.cell (p := ⟨w2.heap.size, 1, none⟩) hlz).trans q1
  have hlz7 := Nat.lt_of_lt_of_le hlz hb7.size
  clear hb7 hbW q0 q1 hW s7
  go_wp2_with fail
  refine (may_any 2 _ 8 addsL w7 a7.exs).mono ?_
  rintro e w8 ⟨rfl, hb8⟩
  rw [may_adds]
  have h8 := below_next h7 hb8
  have hW8 := hW7.on hb8
  have q4 := (hb8.cell (p := ⟨w2.heap.size, 0, none⟩) hlz7).trans q2
  have q5 := (hb8.cell (p := ⟨w2.heap.size, 1, none⟩) hlz7).trans q3
  clear hb8 h7 q2 q3 hW7 a7
  go_wp2_with fail
  refine (may_any 2 (some ⟨B + 4, 0, none⟩) 8 [⟨1, 0, 0, []⟩, ⟨1, 3, 0, []⟩, ⟨1, 1, 0, []⟩, ⟨4, 0, 0, [1, 2]⟩, ⟨1, 0, 0, []⟩, ⟨1, 1, 0, []⟩, ⟨4, 0, 0, [4, 5]⟩, ⟨5, 7, 2, [0, 3, (-(1 + (d : Int)))]⟩] w8 hW8).mono ?_
  rintro e w9 ⟨rfl, hb9⟩
  rw [no_17 d]
  have h9 := below_next h8 hb9
  clear hb9 h8 q4 q5 hW8
  go_wp2_with (go_at_call 14; refine (num_any _ _).mono ?_; rintro e w' ⟨rfl, rfl⟩)
  go_ret
  exact ⟨rfl, h9⟩
set_option maxRecDepth 100000 in
set_option maxHeartbeats 1600000 in
theorem form_18 (a0 a1 : Int) (d : Nat) (hd : bits .and .i64 a1 1023 = (d : Int)) (hd1 : d < 1024) (hr : (IntKind.u64.wrap a0).tmod 24 = 18) (w : World) :
    Calls Try.prog 4 #[.int .i64 a0, .int .i64 a1] w fun e w' => e = .returned (.bool true) ∧ Below w.heap.size w w' := by
  go_enter Try.func4, Try.ntmps4
  go_wp2_with fail
  refine (awake_any _).mono ?_
  rintro e w1 ⟨rfl, hb1⟩
  go_wp2_with fail
  refine (adds_any _).mono ?_
  rintro e w2 ⟨rfl, a2, hb2, s2⟩
  obtain ⟨B, hB⟩ : ∃ B, w1.heap.size = B := ⟨_, rfl⟩
  have hBz := a2.lt
  rw [hB] at hBz
  have hBz' : B + 4 < w2.heap.size + 1 := by omega
  have hwB : w.heap.size ≤ B := by rw [← hB]; exact hb1.size
  have HA : Hid (AddsAt w2 B) := by rw [← hB]; exact a2
  have HB : Hid (Below w.heap.size w w2) := below_next hb1 hb2
  rw [hB]
  clear a2 hb2 hb1 s2 hB
  have c31 := HA.out.cell 31 (.slice (some ⟨B + 3, 0, none⟩) 3 3) rfl
  have f31 := HA.out.frozen 31
  go_wp2_with fail
  have hkl := Lv.new ((w2.setCell ⟨B + 4, 31, none⟩ (.slice (some ⟨w2.heap.size + 1, 0, none⟩) 3 3)).alloc (.cells #[.int .i64 2, .slice (some ⟨B + 4, 0, none⟩) 8 8] 24)) [0, 6, 3]
  simp only [World.size_alloc, World.size_setCell] at hkl
  have hW : Exs (((w2.setCell ⟨B + 4, 31, none⟩ (.slice (some ⟨w2.heap.size + 1, 0, none⟩) 3 3)).alloc (.cells #[.int .i64 2, .slice (some ⟨B + 4, 0, none⟩) 8 8] 24)).alloc (.cells #[.int .i64 0, .int .i64 6, .int .i64 3] 3)) (some ⟨B + 4, 0, none⟩) [⟨1, 0, 0, []⟩, ⟨1, 3, 0, []⟩, ⟨1, 1, 0, []⟩, ⟨4, 0, 0, [1, 2]⟩, ⟨1, 0, 0, []⟩, ⟨1, 1, 0, []⟩, ⟨4, 0, 0, [4, 5]⟩, ⟨5, 7, 2, [0, 6, 3]⟩] := exs_of_row ((((show Rw w2 (B + 4) (addsC B) from HA.out.body).set 31 (.slice (some ⟨w2.heap.size + 1, 0, none⟩) 3 3)).alloc _).alloc _) ⟨rfl, rfl, rfl, ⟨_, _, rfl, nums_nil _ _⟩, rfl, rfl, rfl, ⟨_, _, rfl, nums_nil _ _⟩, rfl, rfl, rfl, ⟨_, _, rfl, nums_nil _ _⟩, rfl, rfl, rfl, ⟨_, _, rfl, (((HA.out.k1.other 31 (.slice (some ⟨w2.heap.size + 1, 0, none⟩) 3 3) (by omega)).alloc _).alloc _).nums⟩, rfl, rfl, rfl, ⟨_, _, rfl, nums_nil _ _⟩, rfl, rfl, rfl, ⟨_, _, rfl, nums_nil _ _⟩, rfl, rfl, rfl, ⟨_, _, rfl, (((HA.out.k2.other 31 (.slice (some ⟨w2.heap.size + 1, 0, none⟩) 3 3) (by omega)).alloc _).alloc _).nums⟩, rfl, rfl, rfl, ⟨_, _, rfl, hkl.nums⟩, trivial⟩
  have hbW : Below w.heap.size w (((w2.setCell ⟨B + 4, 31, none⟩ (.slice (some ⟨w2.heap.size + 1, 0, none⟩) 3 3)).alloc (.cells #[.int .i64 2, .slice (some ⟨B + 4, 0, none⟩) 8 8] 24)).alloc (.cells #[.int .i64 0, .int .i64 6, .int .i64 3] 3)) := (((HB.out.setCell (p := ⟨B + 4, 31, none⟩) (by show w.heap.size ≤ B + 4; omega) (.slice (some ⟨w2.heap.size + 1, 0, none⟩) 3 3)).alloc (by first | omega | (simp; omega)) _).alloc (by first | omega | (simp; omega)) _)
  have q0 := cell_old (.cells #[.int .i64 0, .int .i64 6, .int .i64 3] 3) (cell_new (w2.setCell ⟨B + 4, 31, none⟩ (.slice (some ⟨w2.heap.size + 1, 0, none⟩) 3 3)) #[.int .i64 2, .slice (some ⟨B + 4, 0, none⟩) 8 8] 24 0 _ rfl)
  have q1 := cell_old (.cells #[.int .i64 0, .int .i64 6, .int .i64 3] 3) (cell_new (w2.setCell ⟨B + 4, 31, none⟩ (.slice (some ⟨w2.heap.size + 1, 0, none⟩) 3 3)) #[.int .i64 2, .slice (some ⟨B + 4, 0, none⟩) 8 8] 24 1 _ rfl)
  simp only [World.size_setCell] at q0 q1
  have hlz : w2.heap.size < (((w2.setCell ⟨B + 4, 31, none⟩ (.slice (some ⟨w2.heap.size + 1, 0, none⟩) 3 3)).alloc (.cells #[.int .i64 2, .slice (some ⟨B + 4, 0, none⟩) 8 8] 24)).alloc (.cells #[.int .i64 0, .int .i64 6, .int .i64 3] 3)).heap.size := by simp only [World.size_alloc, World.size_setCell]; omega
  obtain ⟨W, hWe⟩ : ∃ W, (((w2.setCell ⟨B + 4, 31, none⟩ (.slice (some ⟨w2.heap.size + 1, 0, none⟩) 3 3)).alloc (.cells #[.int .i64 2, .slice (some ⟨B + 4, 0, none⟩) 8 8] 24)).alloc (.cells #[.int .i64 0, .int .i64 6, .int .i64 3] 3)) = W := ⟨_, rfl⟩
  rw [hWe] at hW hbW q0 q1 hlz ⊢
  clear hWe HA HB c31 f31 hkl
  refine (adds_any _).mono ?_
  rintro e w7 ⟨rfl, a7, hb7, s7⟩
  have h7 := below_next hbW hb7
  have hW7 := hW.on hb7
  have q2 := (hb7.cell (p := ⟨w2.heap.size, 0, none⟩) hlz).trans q0
  have q3 := (hb7.cell (p := ⟨w2.heap.size, 1, none⟩) hlz).trans q1
  have hlz7 := Nat.lt_of_lt_of_le hlz hb7.size
  clear hb7 hbW q0 q1 hW s7
  go_wp2_with fail
  refine (may_any 2 _ 8 addsL w7 a7.exs).mono ?_
  rintro e w8 ⟨rfl, hb8⟩
  rw [may_adds]
  have h8 := below_next h7 hb8
  have hW8 := hW7.on hb8
  have q4 := (hb8.cell (p := ⟨w2.heap.size, 0, none⟩) hlz7).trans q2
  have q5 := (hb8.cell (p := ⟨w2.heap.size, 1, none⟩) hlz7).trans q3
  clear hb8 h7 q2 q3 hW7 a7
  go_wp2_with fail
  refine (may_any 2 (some ⟨B + 4, 0, none⟩) 8 [⟨1, 0, 0, []⟩, ⟨1, 3, 0, []⟩, ⟨1, 1, 0, []⟩, ⟨4, 0, 0, [1, 2]⟩, ⟨1, 0, 0, []⟩, ⟨1, 1, 0, []⟩, ⟨4, 0, 0, [4, 5]⟩, ⟨5, 7, 2, [0, 6, 3]⟩] w8 hW8).mono ?_
  rintro e w9 ⟨rfl, hb9⟩
  rw [no_18]
  have h9 := below_next h8 hb9
  clear hb9 h8 q4 q5 hW8
  go_wp2_with (go_at_call 14; refine (num_any _ _).mono ?_; rintro e w' ⟨rfl, rfl⟩)
  go_ret
  exact ⟨rfl, h9⟩
set_option maxRecDepth 100000 in
set_option maxHeartbeats 1600000 in
theorem form_19 (a0 a1 : Int) (d : Nat) (hd : bits .and .i64 a1 1023 = (d : Int)) (hd1 : d < 1024) (hr : (IntKind.u64.wrap a0).tmod 24 = 19) (w : World) :
    Calls Try.prog 4 #[.int .i64 a0, .int .i64 a1] w fun e w' => e = .returned (.bool true) ∧ Below w.heap.size w w' := by
  go_enter Try.func4, Try.ntmps4
  go_wp2_with fail
  refine (awake_any _).mono ?_
  rintro e w1 ⟨rfl, hb1⟩
  go_wp2_with fail
  refine (adds_any _).mono ?_
  rintro e w2 ⟨rfl, a2, hb2, s2⟩
  obtain ⟨B, hB⟩ : ∃ B, w1.heap.size = B := ⟨_, rfl⟩
  have hBz := a2.lt
  rw [hB] at hBz
  have hBz' : B + 4 < w2.heap.size + 1 := by omega
  have hwB : w.heap.size ≤ B := by rw [← hB]; exact hb1.size
  have HA : Hid (AddsAt w2 B) := by rw [← hB]; exact a2
  have HB : Hid (Below w.heap.size w w2) := below_next hb1 hb2
  rw [hB]
  clear a2 hb2 hb1 s2 hB
  have c0 := HA.out.cell 0 (.int .i64 1) rfl
  have f0 := HA.out.frozen 0
  have c1 := HA.out.cell 1 (.int .i64 0) rfl
  have f1 := HA.out.frozen 1
  have c2 := HA.out.cell 2 (.int .i64 0) rfl
  have f2 := HA.out.frozen 2
  have c3 := HA.out.cell 3 (.slice none 0 0) rfl
  have f3 := HA.out.frozen 3
  go_wp2_with fail
  have hW : Exs (((((w2.setCell ⟨B + 4, 0, none⟩ (.int .i64 0)).setCell ⟨B + 4, 1, none⟩ (.int .i64 (32767 + (1 + (d : Int))))).setCell ⟨B + 4, 2, none⟩ (.int .i64 0)).setCell ⟨B + 4, 3, none⟩ (.slice none 0 0)).alloc (.cells #[.int .i64 2, .slice (some ⟨B + 4, 0, none⟩) 8 8] 24)) (some ⟨B + 4, 0, none⟩) [⟨0, (32767 + (1 + (d : Int))), 0, []⟩, ⟨1, 3, 0, []⟩, ⟨1, 1, 0, []⟩, ⟨4, 0, 0, [1, 2]⟩, ⟨1, 0, 0, []⟩, ⟨1, 1, 0, []⟩, ⟨4, 0, 0, [4, 5]⟩, ⟨5, 7, 2, [0, 3, 6]⟩] := exs_of_row ((((((show Rw w2 (B + 4) (addsC B) from HA.out.body).set 0 (.int .i64 0)).set 1 (.int .i64 (32767 + (1 + (d : Int))))).set 2 (.int .i64 0)).set 3 (.slice none 0 0)).alloc _) ⟨rfl, rfl, rfl, ⟨_, _, rfl, nums_nil _ _⟩, rfl, rfl, rfl, ⟨_, _, rfl, nums_nil _ _⟩, rfl, rfl, rfl, ⟨_, _, rfl, nums_nil _ _⟩, rfl, rfl, rfl, ⟨_, _, rfl, (((((HA.out.k1.other 0 (.int .i64 0) (by omega)).other 1 (.int .i64 (32767 + (1 + (d : Int)))) (by omega)).other 2 (.int .i64 0) (by omega)).other 3 (.slice none 0 0) (by omega)).alloc _).nums⟩, rfl, rfl, rfl, ⟨_, _, rfl, nums_nil _ _⟩, rfl, rfl, rfl, ⟨_, _, rfl, nums_nil _ _⟩, rfl, rfl, rfl, ⟨_, _, rfl, (((((HA.out.k2.other 0 (.int .i64 0) (by omega)).other 1 (.int .i64 (32767 + (1 + (d : Int)))) (by omega)).other 2 (.int .i64 0) (by omega)).other 3 (.slice none 0 0) (by omega)).alloc _).nums⟩, rfl, rfl, rfl, ⟨_, _, rfl, (((((HA.out.k3.other 0 (.int .i64 0) (by omega)).other 1 (.int .i64 (32767 + (1 + (d : Int)))) (by omega)).other 2 (.int .i64 0) (by omega)).other 3 (.slice none 0 0) (by omega)).alloc _).nums⟩, trivial⟩
  have hbW : Below w.heap.size w (((((w2.setCell ⟨B + 4, 0, none⟩ (.int .i64 0)).setCell ⟨B + 4, 1, none⟩ (.int .i64 (32767 + (1 + (d : Int))))).setCell ⟨B + 4, 2, none⟩ (.int .i64 0)).setCell ⟨B + 4, 3, none⟩ (.slice none 0 0)).alloc (.cells #[.int .i64 2, .slice (some ⟨B + 4, 0, none⟩) 8 8] 24)) := (((((HB.out.setCell (p := ⟨B + 4, 0, none⟩) (by show w.heap.size ≤ B + 4; omega) (.int .i64 0)).setCell (p := ⟨B + 4, 1, none⟩) (by show w.heap.size ≤ B + 4; omega) (.int .i64 (32767 + (1 + (d : Int))))).setCell (p := ⟨B + 4, 2, none⟩) (by show w.heap.size ≤ B + 4; omega) (.int .i64 0)).setCell (p := ⟨B + 4, 3, none⟩) (by show w.heap.size ≤ B + 4; omega) (.slice none 0 0)).alloc (by first | omega | (simp; omega)) _)
  have q0 := cell_new ((((w2.setCell ⟨B + 4, 0, none⟩ (.int .i64 0)).setCell ⟨B + 4, 1, none⟩ (.int .i64 (32767 + (1 + (d : Int))))).setCell ⟨B + 4, 2, none⟩ (.int .i64 0)).setCell ⟨B + 4, 3, none⟩ (.slice none 0 0)) #[.int .i64 2, .slice (some ⟨B + 4, 0, none⟩) 8 8] 24 0 _ rfl
  have q1 := cell_new ((((w2.setCell ⟨B + 4, 0, none⟩ (.int .i64 0)).setCell ⟨B + 4, 1, none⟩ (.int .i64 (32767 + (1 + (d : Int))))).setCell ⟨B + 4, 2, none⟩ (.int .i64 0)).setCell ⟨B + 4, 3, none⟩ (.slice none 0 0)) #[.int .i64 2, .slice (some ⟨B + 4, 0, none⟩) 8 8] 24 1 _ rfl
  simp only [World.size_setCell] at q0 q1
  have hlz : w2.heap.size < (((((w2.setCell ⟨B + 4, 0, none⟩ (.int .i64 0)).setCell ⟨B + 4, 1, none⟩ (.int .i64 (32767 + (1 + (d : Int))))).setCell ⟨B + 4, 2, none⟩ (.int .i64 0)).setCell ⟨B + 4, 3, none⟩ (.slice none 0 0)).alloc (.cells #[.int .i64 2, .slice (some ⟨B + 4, 0, none⟩) 8 8] 24)).heap.size := by simp only [World.size_alloc, World.size_setCell]; omega
  obtain ⟨W, hWe⟩ : ∃ W, (((((w2.setCell ⟨B + 4, 0, none⟩ (.int .i64 0)).setCell ⟨B + 4, 1, none⟩ (.int .i64 (32767 + (1 + (d : Int))))).setCell ⟨B + 4, 2, none⟩ (.int .i64 0)).setCell ⟨B + 4, 3, none⟩ (.slice none 0 0)).alloc (.cells #[.int .i64 2, .slice (some ⟨B + 4, 0, none⟩) 8 8] 24)) = W := ⟨_, rfl⟩
  rw [hWe] at hW hbW q0 q1 hlz ⊢
  clear hWe HA HB c0 f0 c1 f1 c2 f2 c3 f3
  refine (adds_any _).mono ?_
  rintro e w7 ⟨rfl, a7, hb7, s7⟩
  have h7 := below_next hbW hb7
  have hW7 := hW.on hb7
  have q2 := (hb7.cell (p := ⟨w2.heap.size, 0, none⟩) hlz).trans q0
  have q3 := (hb7.cell (p := ⟨w2.heap.size, 1, none⟩) hlz).trans q1
  have hlz7 := Nat.lt_of_lt_of_le hlz hb7.size
  clear hb7 hbW q0 q1 hW s7
  go_wp2_with fail
  refine (may_any 2 _ 8 addsL w7 a7.exs).mono ?_
  rintro e w8 ⟨rfl, hb8⟩
  rw [may_adds]
  have h8 := below_next h7 hb8
  have hW8 := hW7.on hb8
  have q4 := (hb8.cell (p := ⟨w2.heap.size, 0, none⟩) hlz7).trans q2
  have q5 := (hb8.cell (p := ⟨w2.heap.size, 1, none⟩) hlz7).trans q3
  clear hb8 h7 q2 q3 hW7 a7
  go_wp2_with fail
  refine (may_any 2 (some ⟨B + 4, 0, none⟩) 8 [⟨0, (32767 + (1 + (d : Int))), 0, []⟩, ⟨1, 3, 0, []⟩, ⟨1, 1, 0, []⟩, ⟨4, 0, 0, [1, 2]⟩, ⟨1, 0, 0, []⟩, ⟨1, 1, 0, []⟩, ⟨4, 0, 0, [4, 5]⟩, ⟨5, 7, 2, [0, 3, 6]⟩] w8 hW8).mono ?_
  rintro e w9 ⟨rfl, hb9⟩
  rw [no_19 d]
  have h9 := below_next h8 hb9
  clear hb9 h8 q4 q5 hW8
  go_wp2_with (go_at_call 14; refine (num_any _ _).mono ?_; rintro e w' ⟨rfl, rfl⟩)
  go_ret
  exact ⟨rfl, h9⟩
set_option maxRecDepth 100000 in
set_option maxHeartbeats 1600000 in
theorem form_20 (a0 a1 : Int) (d : Nat) (hd : bits .and .i64 a1 1023 = (d : Int)) (hd1 : d < 1024) (hr : (IntKind.u64.wrap a0).tmod 24 = 20) (w : World) :
    Calls Try.prog 4 #[.int .i64 a0, .int .i64 a1] w fun e w' => e = .returned (.bool true) ∧ Below w.heap.size w w' := by
  go_enter Try.func4, Try.ntmps4
  go_wp2_with fail
  refine (awake_any _).mono ?_
  rintro e w1 ⟨rfl, hb1⟩
  go_wp2_with fail
  refine (adds_any _).mono ?_
  rintro e w2 ⟨rfl, a2, hb2, s2⟩
  obtain ⟨B, hB⟩ : ∃ B, w1.heap.size = B := ⟨_, rfl⟩
  have hBz := a2.lt
  rw [hB] at hBz
  have hBz' : B + 4 < w2.heap.size + 1 := by omega
  have hwB : w.heap.size ≤ B := by rw [← hB]; exact hb1.size
  have HA : Hid (AddsAt w2 B) := by rw [← hB]; exact a2
  have HB : Hid (Below w.heap.size w w2) := below_next hb1 hb2
  rw [hB]
  clear a2 hb2 hb1 s2 hB
  have c0 := HA.out.cell 0 (.int .i64 1) rfl
  have f0 := HA.out.frozen 0
  have c1 := HA.out.cell 1 (.int .i64 0) rfl
  have f1 := HA.out.frozen 1
  have c2 := HA.out.cell 2 (.int .i64 0) rfl
  have f2 := HA.out.frozen 2
  have c3 := HA.out.cell 3 (.slice none 0 0) rfl
  have f3 := HA.out.frozen 3
  go_wp2_with fail
  have hW : Exs (((((w2.setCell ⟨B + 4, 0, none⟩ (.int .i64 7)).setCell ⟨B + 4, 1, none⟩ (.int .i64 (1 + (d : Int)))).setCell ⟨B + 4, 2, none⟩ (.int .i64 0)).setCell ⟨B + 4, 3, none⟩ (.slice none 0 0)).alloc (.cells #[.int .i64 2, .slice (some ⟨B + 4, 0, none⟩) 8 8] 24)) (some ⟨B + 4, 0, none⟩) [⟨7, (1 + (d : Int)), 0, []⟩, ⟨1, 3, 0, []⟩, ⟨1, 1, 0, []⟩, ⟨4, 0, 0, [1, 2]⟩, ⟨1, 0, 0, []⟩, ⟨1, 1, 0, []⟩, ⟨4, 0, 0, [4, 5]⟩, ⟨5, 7, 2, [0, 3, 6]⟩] := exs_of_row ((((((show Rw w2 (B + 4) (addsC B) from HA.out.body).set 0 (.int .i64 7)).set 1 (.int .i64 (1 + (d : Int)))).set 2 (.int .i64 0)).set 3 (.slice none 0 0)).alloc _) ⟨rfl, rfl, rfl, ⟨_, _, rfl, nums_nil _ _⟩, rfl, rfl, rfl, ⟨_, _, rfl, nums_nil _ _⟩, rfl, rfl, rfl, ⟨_, _, rfl, nums_nil _ _⟩, rfl, rfl, rfl, ⟨_, _, rfl, (((((HA.out.k1.other 0 (.int .i64 7) (by omega)).other 1 (.int .i64 (1 + (d : Int))) (by omega)).other 2 (.int .i64 0) (by omega)).other 3 (.slice none 0 0) (by omega)).alloc _).nums⟩, rfl, rfl, rfl, ⟨_, _, rfl, nums_nil _ _⟩, rfl, rfl, rfl, ⟨_, _, rfl, nums_nil _ _⟩, rfl, rfl, rfl, ⟨_, _, rfl, (((((HA.out.k2.other 0 (.int .i64 7) (by omega)).other 1 (.int .i64 (1 + (d : Int))) (by omega)).other 2 (.int .i64 0) (by omega)).other 3 (.slice none 0 0) (by omega)).alloc _).nums⟩, rfl, rfl, rfl, ⟨_, _, rfl, (((((HA.out.k3.other 0 (.int .i64 7) (by omega)).other 1 (.int .i64 (1 + (d : Int))) (by omega)).other 2 (.int .i64 0) (by omega)).other 3 (.slice none 0 0) (by omega)).alloc _).nums⟩, trivial⟩
  have hbW : Below w.heap.size w (((((w2.setCell ⟨B + 4, 0, none⟩ (.int .i64 7)).setCell ⟨B + 4, 1, none⟩ (.int .i64 (1 + (d : Int)))).setCell ⟨B + 4, 2, none⟩ (.int .i64 0)).setCell ⟨B + 4, 3, none⟩ (.slice none 0 0)).alloc (.cells #[.int .i64 2, .slice (some ⟨B + 4, 0, none⟩) 8 8] 24)) := (((((HB.out.setCell (p := ⟨B + 4, 0, none⟩) (by show w.heap.size ≤ B + 4; omega) (.int .i64 7)).setCell (p := ⟨B + 4, 1, none⟩) (by show w.heap.size ≤ B + 4; omega) (.int .i64 (1 + (d : Int)))).setCell (p := ⟨B + 4, 2, none⟩) (by show w.heap.size ≤ B + 4; omega) (.int .i64 0)).setCell (p := ⟨B + 4, 3, none⟩) (by show w.heap.size ≤ B + 4; omega) (.slice none 0 0)).alloc (by first | omega | (simp; omega)) _)
  have q0 := cell_new ((((w2.setCell ⟨B + 4, 0, none⟩ (.int .i64 7)).setCell ⟨B + 4, 1, none⟩ (.int .i64 (1 + (d : Int)))).setCell ⟨B + 4, 2, none⟩ (.int .i64 0)).setCell ⟨B + 4, 3, none⟩ (.slice none 0 0)) #[.int .i64 2, .slice (some ⟨B + 4, 0, none⟩) 8 8] 24 0 _ rfl
  have q1 := cell_new ((((w2.setCell ⟨B + 4, 0, none⟩ (.int .i64 7)).setCell ⟨B + 4, 1, none⟩ (.int .i64 (1 + (d : Int)))).setCell ⟨B + 4, 2, none⟩ (.int .i64 0)).setCell ⟨B + 4, 3, none⟩ (.slice none 0 0)) #[.int .i64 2, .slice (some ⟨B + 4, 0, none⟩) 8 8] 24 1 _ rfl
  simp only [World.size_setCell] at q0 q1
  have hlz : w2.heap.size < (((((w2.setCell ⟨B + 4, 0, none⟩ (.int .i64 7)).setCell ⟨B + 4, 1, none⟩ (.int .i64 (1 + (d : Int)))).setCell ⟨B + 4, 2, none⟩ (.int .i64 0)).setCell ⟨B + 4, 3, none⟩ (.slice none 0 0)).alloc (.cells #[.int .i64 2, .slice (some ⟨B + 4, 0, none⟩) 8 8] 24)).heap.size := by simp only [World.size_alloc, World.size_setCell]; omega
  obtain ⟨W, hWe⟩ : ∃ W, (((((w2.setCell ⟨B + 4, 0, none⟩ (.int .i64 7)).setCell ⟨B + 4, 1, none⟩ (.int .i64 (1 + (d : Int)))).setCell ⟨B + 4, 2, none⟩ (.int .i64 0)).setCell ⟨B + 4, 3, none⟩ (.slice none 0 0)).alloc (.cells #[.int .i64 2, .slice (some ⟨B + 4, 0, none⟩) 8 8] 24)) = W := ⟨_, rfl⟩
  rw [hWe] at hW hbW q0 q1 hlz ⊢
  clear hWe HA HB c0 f0 c1 f1 c2 f2 c3 f3
  refine (adds_any _).mono ?_
  rintro e w7 ⟨rfl, a7, hb7, s7⟩
  have h7 := below_next hbW hb7
  have hW7 := hW.on hb7
  have q2 := (hb7.cell (p := ⟨w2.heap.size, 0, none⟩) hlz).trans q0
  have q3 := (hb7.cell (p := ⟨w2.heap.size, 1, none⟩) hlz).trans q1
  have hlz7 := Nat.lt_of_lt_of_le hlz hb7.size
  clear hb7 hbW q0 q1 hW s7
  go_wp2_with fail
  refine (may_any 2 _ 8 addsL w7 a7.exs).mono ?_
  rintro e w8 ⟨rfl, hb8⟩
  rw [may_adds]
  have h8 := below_next h7 hb8
  have hW8 := hW7.on hb8
  have q4 := (hb8.cell (p := ⟨w2.heap.size, 0, none⟩) hlz7).trans q2
  have q5 := (hb8.cell (p := ⟨w2.heap.size, 1, none⟩) hlz7).trans q3
  clear hb8 h7 q2 q3 hW7 a7
  go_wp2_with fail
  refine (may_any 2 (some ⟨B + 4, 0, none⟩) 8 [⟨7, (1 + (d : Int)), 0, []⟩, ⟨1, 3, 0, []⟩, ⟨1, 1, 0, []⟩, ⟨4, 0, 0, [1, 2]⟩, ⟨1, 0, 0, []⟩, ⟨1, 1, 0, []⟩, ⟨4, 0, 0, [4, 5]⟩, ⟨5, 7, 2, [0, 3, 6]⟩] w8 hW8).mono ?_
  rintro e w9 ⟨rfl, hb9⟩
  rw [no_20 d]
  have h9 := below_next h8 hb9
  clear hb9 h8 q4 q5 hW8
  go_wp2_with (go_at_call 14; refine (num_any _ _).mono ?_; rintro e w' ⟨rfl, rfl⟩)
  go_ret
  exact ⟨rfl, h9⟩
set_option maxRecDepth 100000 in
set_option maxHeartbeats 1600000 in
theorem form_21 (a0 a1 : Int) (d : Nat) (hd : bits .and .i64 a1 1023 = (d : Int)) (hd1 : d < 1024) (hr : (IntKind.u64.wrap a0).tmod 24 = 21) (w : World) :
    Calls Try.prog 4 #[.int .i64 a0, .int .i64 a1] w fun e w' => e = .returned (.bool true) ∧ Below w.heap.size w w' := by
  go_enter Try.func4, Try.ntmps4
  go_wp2_with fail
  refine (awake_any _).mono ?_
  rintro e w1 ⟨rfl, hb1⟩
  go_wp2_with fail
  refine (adds_any _).mono ?_
  rintro e w2 ⟨rfl, a2, hb2, s2⟩
  obtain ⟨B, hB⟩ : ∃ B, w1.heap.size = B := ⟨_, rfl⟩
  have hBz := a2.lt
  rw [hB] at hBz
  have hBz' : B + 4 < w2.heap.size + 1 := by omega
  have hwB : w.heap.size ≤ B := by rw [← hB]; exact hb1.size
  have HA : Hid (AddsAt w2 B) := by rw [← hB]; exact a2
  have HB : Hid (Below w.heap.size w w2) := below_next hb1 hb2
  rw [hB]
  clear a2 hb2 hb1 s2 hB
  have c0 := HA.out.cell 0 (.int .i64 1) rfl
  have f0 := HA.out.frozen 0
  have c1 := HA.out.cell 1 (.int .i64 0) rfl
  have f1 := HA.out.frozen 1
  have c2 := HA.out.cell 2 (.int .i64 0) rfl
  have f2 := HA.out.frozen 2
  have c3 := HA.out.cell 3 (.slice none 0 0) rfl
  have f3 := HA.out.frozen 3
  go_wp2_with fail
  have hW : Exs (((((w2.setCell ⟨B + 4, 0, none⟩ (.int .i64 3)).setCell ⟨B + 4, 1, none⟩ (.int .i64 (99 + (1 + (d : Int))))).setCell ⟨B + 4, 2, none⟩ (.int .i64 0)).setCell ⟨B + 4, 3, none⟩ (.slice none 0 0)).alloc (.cells #[.int .i64 2, .slice (some ⟨B + 4, 0, none⟩) 8 8] 24)) (some ⟨B + 4, 0, none⟩) [⟨3, (99 + (1 + (d : Int))), 0, []⟩, ⟨1, 3, 0, []⟩, ⟨1, 1, 0, []⟩, ⟨4, 0, 0, [1, 2]⟩, ⟨1, 0, 0, []⟩, ⟨1, 1, 0, []⟩, ⟨4, 0, 0, [4, 5]⟩, ⟨5, 7, 2, [0, 3, 6]⟩] := exs_of_row ((((((show Rw w2 (B + 4) (addsC B) from HA.out.body).set 0 (.int .i64 3)).set 1 (.int .i64 (99 + (1 + (d : Int))))).set 2 (.int .i64 0)).set 3 (.slice none 0 0)).alloc _) ⟨rfl, rfl, rfl, ⟨_, _, rfl, nums_nil _ _⟩, rfl, rfl, rfl, ⟨_, _, rfl, nums_nil _ _⟩, rfl, rfl, rfl, ⟨_, _, rfl, nums_nil _ _⟩, rfl, rfl, rfl, ⟨_, _, rfl, (((((HA.out.k1.other 0 (.int .i64 3) (by omega)).other 1 (.int .i64 (99 + (1 + (d : Int)))) (by omega)).other 2 (.int .i64 0) (by omega)).other 3 (.slice none 0 0) (by omega)).alloc _).nums⟩, rfl, rfl, rfl, ⟨_, _, rfl, nums_nil _ _⟩, rfl, rfl, rfl, ⟨_, _, rfl, nums_nil _ _⟩, rfl, rfl, rfl, ⟨_, _, rfl, (((((HA.out.k2.other 0 (.int .i64 3) (by omega)).other 1 (.int .i64 (99 + (1 + (d : Int)))) (by omega)).other 2 (.int .i64 0) (by omega)).other 3 (.slice none 0 0) (by omega)).alloc _).nums⟩, rfl, rfl, rfl, ⟨_, _, rfl, (((((HA.out.k3.other 0 (.int .i64 3) (by omega)).other 1 (.int .i64 (99 + (1 + (d : Int)))) (by omega)).other 2 (.int .i64 0) (by omega)).other 3 (.slice none 0 0) (by omega)).alloc _).nums⟩, trivial⟩
  have hbW : Below w.heap.size w (((((w2.setCell ⟨B + 4, 0, none⟩ (.int .i64 3)).setCell ⟨B + 4, 1, none⟩ (.int .i64 (99 + (1 + (d : Int))))).setCell ⟨B + 4, 2, none⟩ (.int .i64 0)).setCell ⟨B + 4, 3, none⟩ (.slice none 0 0)).alloc (.cells #[.int .i64 2, .slice (some ⟨B + 4, 0, none⟩) 8 8] 24)) := (((((HB.out.setCell (p := ⟨B + 4, 0, none⟩) (by show w.heap.size ≤ B + 4; omega) (.int .i64 3)).setCell (p := ⟨B + 4, 1, none⟩) (by show w.heap.size ≤ B + 4; omega) (.int .i64 (99 + (1 + (d : Int))))).setCell (p := ⟨B + 4, 2, none⟩) (by show w.heap.size ≤ B + 4; omega) (.int .i64 0)).setCell (p := ⟨B + 4, 3, none⟩) (by show w.heap.size ≤ B + 4; omega) (.slice none 0 0)).alloc (by first | omega | (simp; omega)) _)
  have q0 := cell_new ((((w2.setCell ⟨B + 4, 0, none⟩ (.int .i64 3)).setCell ⟨B + 4, 1, none⟩ (.int .i64 (99 + (1 + (d : Int))))).setCell ⟨B + 4, 2, none⟩ (.int .i64 0)).setCell ⟨B + 4, 3, none⟩ (.slice none 0 0)) #[.int .i64 2, .slice (some ⟨B + 4, 0, none⟩) 8 8] 24 0 _ rfl
  have q1 := cell_new ((((w2.setCell ⟨B + 4, 0, none⟩ (.int .i64 3)).setCell ⟨B + 4, 1, none⟩ (.int .i64 (99 + (1 + (d : Int))))).setCell ⟨B + 4, 2, none⟩ (.int .i64 0)).setCell ⟨B + 4, 3, none⟩ (.slice none 0 0)) #[.int .i64 2, .slice (some ⟨B + 4, 0, none⟩) 8 8] 24 1 _ rfl
  simp only [World.size_setCell] at q0 q1
  have hlz : w2.heap.size < (((((w2.setCell ⟨B + 4, 0, none⟩ (.int .i64 3)).setCell ⟨B + 4, 1, none⟩ (.int .i64 (99 + (1 + (d : Int))))).setCell ⟨B + 4, 2, none⟩ (.int .i64 0)).setCell ⟨B + 4, 3, none⟩ (.slice none 0 0)).alloc (.cells #[.int .i64 2, .slice (some ⟨B + 4, 0, none⟩) 8 8] 24)).heap.size := by simp only [World.size_alloc, World.size_setCell]; omega
  obtain ⟨W, hWe⟩ : ∃ W, (((((w2.setCell ⟨B + 4, 0, none⟩ (.int .i64 3)).setCell ⟨B + 4, 1, none⟩ (.int .i64 (99 + (1 + (d : Int))))).setCell ⟨B + 4, 2, none⟩ (.int .i64 0)).setCell ⟨B + 4, 3, none⟩ (.slice none 0 0)).alloc (.cells #[.int .i64 2, .slice (some ⟨B + 4, 0, none⟩) 8 8] 24)) = W := ⟨_, rfl⟩
  rw [hWe] at hW hbW q0 q1 hlz ⊢
  clear hWe HA HB c0 f0 c1 f1 c2 f2 c3 f3
  refine (adds_any _).mono ?_
  rintro e w7 ⟨rfl, a7, hb7, s7⟩
  have h7 := below_next hbW hb7
  have hW7 := hW.on hb7
  have q2 := (hb7.cell (p := ⟨w2.heap.size, 0, none⟩) hlz).trans q0
  have q3 := (hb7.cell (p := ⟨w2.heap.size, 1, none⟩) hlz).trans q1
  have hlz7 := Nat.lt_of_lt_of_le hlz hb7.size
  clear hb7 hbW q0 q1 hW s7
  go_wp2_with fail
  refine (may_any 2 _ 8 addsL w7 a7.exs).mono ?_
  rintro e w8 ⟨rfl, hb8⟩
  rw [may_adds]
  have h8 := below_next h7 hb8
  have hW8 := hW7.on hb8
  have q4 := (hb8.cell (p := ⟨w2.heap.size, 0, none⟩) hlz7).trans q2
  have q5 := (hb8.cell (p := ⟨w2.heap.size, 1, none⟩) hlz7).trans q3
  clear hb8 h7 q2 q3 hW7 a7
  go_wp2_with fail
  refine (may_any 2 (some ⟨B + 4, 0, none⟩) 8 [⟨3, (99 + (1 + (d : Int))), 0, []⟩, ⟨1, 3, 0, []⟩, ⟨1, 1, 0, []⟩, ⟨4, 0, 0, [1, 2]⟩, ⟨1, 0, 0, []⟩, ⟨1, 1, 0, []⟩, ⟨4, 0, 0, [4, 5]⟩, ⟨5, 7, 2, [0, 3, 6]⟩] w8 hW8).mono ?_
  rintro e w9 ⟨rfl, hb9⟩
  rw [no_21 d]
  have h9 := below_next h8 hb9
  clear hb9 h8 q4 q5 hW8
  go_wp2_with (go_at_call 14; refine (num_any _ _).mono ?_; rintro e w' ⟨rfl, rfl⟩)
  go_ret
  exact ⟨rfl, h9⟩
set_option maxRecDepth 100000 in
set_option maxHeartbeats 1600000 in
theorem form_22 (a0 a1 : Int) (d : Nat) (hd : bits .and .i64 a1 1023 = (d : Int)) (hd1 : d < 1024) (hr : (IntKind.u64.wrap a0).tmod 24 = 22) (w : World) :
    Calls Try.prog 4 #[.int .i64 a0, .int .i64 a1] w fun e w' => e = .returned (.bool true) ∧ Below w.heap.size w w' := by
  go_enter Try.func4, Try.ntmps4
  go_wp2_with fail
  refine (awake_any _).mono ?_
  rintro e w1 ⟨rfl, hb1⟩
  go_wp2_with fail
  refine (adds_any _).mono ?_
  rintro e w2 ⟨rfl, a2, hb2, s2⟩
  obtain ⟨B, hB⟩ : ∃ B, w1.heap.size = B := ⟨_, rfl⟩
  have hBz := a2.lt
  rw [hB] at hBz
  have hBz' : B + 4 < w2.heap.size + 1 := by omega
  have hwB : w.heap.size ≤ B := by rw [← hB]; exact hb1.size
  have HA : Hid (AddsAt w2 B) := by rw [← hB]; exact a2
  have HB : Hid (Below w.heap.size w w2) := below_next hb1 hb2
  rw [hB]
  clear a2 hb2 hb1 s2 hB
  have c0 := HA.out.cell 0 (.int .i64 1) rfl
  have f0 := HA.out.frozen 0
  have c1 := HA.out.cell 1 (.int .i64 0) rfl
  have f1 := HA.out.frozen 1
  have c2 := HA.out.cell 2 (.int .i64 0) rfl
  have f2 := HA.out.frozen 2
  have c3 := HA.out.cell 3 (.slice none 0 0) rfl
  have f3 := HA.out.frozen 3
  go_wp2_with fail
  have hW : Exs (((((w2.setCell ⟨B + 4, 0, none⟩ (.int .i64 2)).setCell ⟨B + 4, 1, none⟩ (.int .i64 (7 + (1 + (d : Int))))).setCell ⟨B + 4, 2, none⟩ (.int .i64 0)).setCell ⟨B + 4, 3, none⟩ (.slice none 0 0)).alloc (.cells #[.int .i64 2, .slice (some ⟨B + 4, 0, none⟩) 8 8] 24)) (some ⟨B + 4, 0, none⟩) [⟨2, (7 + (1 + (d : Int))), 0, []⟩, ⟨1, 3, 0, []⟩, ⟨1, 1, 0, []⟩, ⟨4, 0, 0, [1, 2]⟩, ⟨1, 0, 0, []⟩, ⟨1, 1, 0, []⟩, ⟨4, 0, 0, [4, 5]⟩, ⟨5, 7, 2, [0, 3, 6]⟩] := exs_of_row ((((((show Rw w2 (B + 4) (addsC B) from HA.out.body).set 0 (.int .i64 2)).set 1 (.int .i64 (7 + (1 + (d : Int))))).set 2 (.int .i64 0)).set 3 (.slice none 0 0)).alloc _) ⟨rfl, rfl, rfl, ⟨_, _, rfl, nums_nil _ _⟩, rfl, rfl, rfl, ⟨_, _, rfl, nums_nil _ _⟩, rfl, rfl, rfl, ⟨_, _, rfl, nums_nil _ _⟩, rfl, rfl, rfl, ⟨_, _, rfl, (((((HA.out.k1.other 0 (.int .i64 2) (by omega)).other 1 (.int .i64 (7 + (1 + (d : Int)))) (by omega)).other 2 (.int .i64 0) (by omega)).other 3 (.slice none 0 0) (by omega)).alloc _).nums⟩, rfl, rfl, rfl, ⟨_, _, rfl, nums_nil _ _⟩, rfl, rfl, rfl, ⟨_, _, rfl, nums_nil _ _⟩, rfl, rfl, rfl, ⟨_, _, rfl, (((((HA.out.k2.other 0 (.int .i64 2) (by omega)).other 1 (.int .i64 (7 + (1 + (d : Int)))) (by omega)).other 2 (.int .i64 0) (by omega)).other 3 (.slice none 0 0) (by omega)).alloc _).nums⟩, rfl, rfl, rfl, ⟨_, _, rfl, (((((HA.out.k3.other 0 (.int .i64 2) (by omega)).other 1 (.int .i64 (7 + (1 + (d : Int)))) (by omega)).other 2 (.int .i64 0) (by omega)).other 3 (.slice none 0 0) (by omega)).alloc _).nums⟩, trivial⟩
  have hbW : Below w.heap.size w (((((w2.setCell ⟨B + 4, 0, none⟩ (.int .i64 2)).setCell ⟨B + 4, 1, none⟩ (.int .i64 (7 + (1 + (d : Int))))).setCell ⟨B + 4, 2, none⟩ (.int .i64 0)).setCell ⟨B + 4, 3, none⟩ (.slice none 0 0)).alloc (.cells #[.int .i64 2, .slice (some ⟨B + 4, 0, none⟩) 8 8] 24)) := (((((HB.out.setCell (p := ⟨B + 4, 0, none⟩) (by show w.heap.size ≤ B + 4; omega) (.int .i64 2)).setCell (p := ⟨B + 4, 1, none⟩) (by show w.heap.size ≤ B + 4; omega) (.int .i64 (7 + (1 + (d : Int))))).setCell (p := ⟨B + 4, 2, none⟩) (by show w.heap.size ≤ B + 4; omega) (.int .i64 0)).setCell (p := ⟨B + 4, 3, none⟩) (by show w.heap.size ≤ B + 4; omega) (.slice none 0 0)).alloc (by first | omega | (simp; omega)) _)
  have q0 := cell_new ((((w2.setCell ⟨B + 4, 0, none⟩ (.int .i64 2)).setCell ⟨B + 4, 1, none⟩ (.int .i64 (7 + (1 + (d : Int))))).setCell ⟨B + 4, 2, none⟩ (.int .i64 0)).setCell ⟨B + 4, 3, none⟩ (.slice none 0 0)) #[.int .i64 2, .slice (some ⟨B + 4, 0, none⟩) 8 8] 24 0 _ rfl
  have q1 := cell_new ((((w2.setCell ⟨B + 4, 0, none⟩ (.int .i64 2)).setCell ⟨B + 4, 1, none⟩ (.int .i64 (7 + (1 + (d : Int))))).setCell ⟨B + 4, 2, none⟩ (.int .i64 0)).setCell ⟨B + 4, 3, none⟩ (.slice none 0 0)) #[.int .i64 2, .slice (some ⟨B + 4, 0, none⟩) 8 8] 24 1 _ rfl
  simp only [World.size_setCell] at q0 q1
  have hlz : w2.heap.size < (((((w2.setCell ⟨B + 4, 0, none⟩ (.int .i64 2)).setCell ⟨B + 4, 1, none⟩ (.int .i64 (7 + (1 + (d : Int))))).setCell ⟨B + 4, 2, none⟩ (.int .i64 0)).setCell ⟨B + 4, 3, none⟩ (.slice none 0 0)).alloc (.cells #[.int .i64 2, .slice (some ⟨B + 4, 0, none⟩) 8 8] 24)).heap.size := by simp only [World.size_alloc, World.size_setCell]; omega
  obtain ⟨W, hWe⟩ : ∃ W, (((((w2.setCell ⟨B + 4, 0, none⟩ (.int .i64 2)).setCell ⟨B + 4, 1, none⟩ (.int .i64 (7 + (1 + (d : Int))))).setCell ⟨B + 4, 2, none⟩ (.int .i64 0)).setCell ⟨B + 4, 3, none⟩ (.slice none 0 0)).alloc (.cells #[.int .i64 2, .slice (some ⟨B + 4, 0, none⟩) 8 8] 24)) = W := ⟨_, rfl⟩
  rw [hWe] at hW hbW q0 q1 hlz ⊢
  clear hWe HA HB c0 f0 c1 f1 c2 f2 c3 f3
  refine (adds_any _).mono ?_
  rintro e w7 ⟨rfl, a7, hb7, s7⟩
  have h7 := below_next hbW hb7
  have hW7 := hW.on hb7
  have q2 := (hb7.cell (p := ⟨w2.heap.size, 0, none⟩) hlz).trans q0
  have q3 := (hb7.cell (p := ⟨w2.heap.size, 1, none⟩) hlz).trans q1
  have hlz7 := Nat.lt_of_lt_of_le hlz hb7.size
  clear hb7 hbW q0 q1 hW s7
  go_wp2_with fail
  refine (may_any 2 _ 8 addsL w7 a7.exs).mono ?_
  rintro e w8 ⟨rfl, hb8⟩
  rw [may_adds]
  have h8 := below_next h7 hb8
  have hW8 := hW7.on hb8
  have q4 := (hb8.cell (p := ⟨w2.heap.size, 0, none⟩) hlz7).trans q2
  have q5 := (hb8.cell (p := ⟨w2.heap.size, 1, none⟩) hlz7).trans q3
  clear hb8 h7 q2 q3 hW7 a7
  go_wp2_with fail
  refine (may_any 2 (some ⟨B + 4, 0, none⟩) 8 [⟨2, (7 + (1 + (d : Int))), 0, []⟩, ⟨1, 3, 0, []⟩, ⟨1, 1, 0, []⟩, ⟨4, 0, 0, [1, 2]⟩, ⟨1, 0, 0, []⟩, ⟨1, 1, 0, []⟩, ⟨4, 0, 0, [4, 5]⟩, ⟨5, 7, 2, [0, 3, 6]⟩] w8 hW8).mono ?_
  rintro e w9 ⟨rfl, hb9⟩
  rw [no_22 d]
  have h9 := below_next h8 hb9
  clear hb9 h8 q4 q5 hW8
  go_wp2_with (go_at_call 14; refine (num_any _ _).mono ?_; rintro e w' ⟨rfl, rfl⟩)
  go_ret
  exact ⟨rfl, h9⟩
set_option maxRecDepth 100000 in
set_option maxHeartbeats 1600000 in
theorem form_23 (a0 a1 : Int) (d : Nat) (hd : bits .and .i64 a1 1023 = (d : Int)) (hd1 : d < 1024) (hr : (IntKind.u64.wrap a0).tmod 24 = 23) (w : World) :
    Calls Try.prog 4 #[.int .i64 a0, .int .i64 a1] w fun e w' => e = .returned (.bool true) ∧ Below w.heap.size w w' := by
  go_enter Try.func4, Try.ntmps4
  go_wp2_with fail
  refine (awake_any _).mono ?_
  rintro e w1 ⟨rfl, hb1⟩
  go_wp2_with fail
  refine (adds_any _).mono ?_
  rintro e w2 ⟨rfl, a2, hb2, s2⟩
  obtain ⟨B, hB⟩ : ∃ B, w1.heap.size = B := ⟨_, rfl⟩
  have hBz := a2.lt
  rw [hB] at hBz
  have hBz' : B + 4 < w2.heap.size + 1 := by omega
  have hwB : w.heap.size ≤ B := by rw [← hB]; exact hb1.size
  have HA : Hid (AddsAt w2 B) := by rw [← hB]; exact a2
  have HB : Hid (Below w.heap.size w w2) := below_next hb1 hb2
  rw [hB]
  clear a2 hb2 hb1 s2 hB
  have c24 := HA.out.cell 24 (.int .i64 4) rfl
  have f24 := HA.out.frozen 24
  have c25 := HA.out.cell 25 (.int .i64 0) rfl
  have f25 := HA.out.frozen 25
  have c26 := HA.out.cell 26 (.int .i64 0) rfl
  have f26 := HA.out.frozen 26
  have c27 := HA.out.cell 27 (.slice (some ⟨B + 2, 0, none⟩) 2 2) rfl
  have f27 := HA.out.frozen 27
  go_wp2_with fail
  have hkl := Lv.new (((((w2.setCell ⟨B + 4, 24, none⟩ (.int .i64 6)).setCell ⟨B + 4, 25, none⟩ (.int .i64 (1 + (d : Int)))).setCell ⟨B + 4, 26, none⟩ (.int .i64 0)).setCell ⟨B + 4, 27, none⟩ (.slice (some ⟨w2.heap.size + 1, 0, none⟩) 2 2)).alloc (.cells #[.int .i64 2, .slice (some ⟨B + 4, 0, none⟩) 8 8] 24)) [4, 5]
  simp only [World.size_alloc, World.size_setCell] at hkl
  have hW : Exs ((((((w2.setCell ⟨B + 4, 24, none⟩ (.int .i64 6)).setCell ⟨B + 4, 25, none⟩ (.int .i64 (1 + (d : Int)))).setCell ⟨B + 4, 26, none⟩ (.int .i64 0)).setCell ⟨B + 4, 27, none⟩ (.slice (some ⟨w2.heap.size + 1, 0, none⟩) 2 2)).alloc (.cells #[.int .i64 2, .slice (some ⟨B + 4, 0, none⟩) 8 8] 24)).alloc (.cells #[.int .i64 4, .int .i64 5] 3)) (some ⟨B + 4, 0, none⟩) [⟨1, 0, 0, []⟩, ⟨1, 3, 0, []⟩, ⟨1, 1, 0, []⟩, ⟨4, 0, 0, [1, 2]⟩, ⟨1, 0, 0, []⟩, ⟨1, 1, 0, []⟩, ⟨6, (1 + (d : Int)), 0, [4, 5]⟩, ⟨5, 7, 2, [0, 3, 6]⟩] := exs_of_row (((((((show Rw w2 (B + 4) (addsC B) from HA.out.body).set 24 (.int .i64 6)).set 25 (.int .i64 (1 + (d : Int)))).set 26 (.int .i64 0)).set 27 (.slice (some ⟨w2.heap.size + 1, 0, none⟩) 2 2)).alloc _).alloc _) ⟨rfl, rfl, rfl, ⟨_, _, rfl, nums_nil _ _⟩, rfl, rfl, rfl, ⟨_, _, rfl, nums_nil _ _⟩, rfl, rfl, rfl, ⟨_, _, rfl, nums_nil _ _⟩, rfl, rfl, rfl, ⟨_, _, rfl, ((((((HA.out.k1.other 24 (.int .i64 6) (by omega)).other 25 (.int .i64 (1 + (d : Int))) (by omega)).other 26 (.int .i64 0) (by omega)).other 27 (.slice (some ⟨w2.heap.size + 1, 0, none⟩) 2 2) (by omega)).alloc _).alloc _).nums⟩, rfl, rfl, rfl, ⟨_, _, rfl, nums_nil _ _⟩, rfl, rfl, rfl, ⟨_, _, rfl, nums_nil _ _⟩, rfl, rfl, rfl, ⟨_, _, rfl, hkl.nums⟩, rfl, rfl, rfl, ⟨_, _, rfl, ((((((HA.out.k3.other 24 (.int .i64 6) (by omega)).other 25 (.int .i64 (1 + (d : Int))) (by omega)).other 26 (.int .i64 0) (by omega)).other 27 (.slice (some ⟨w2.heap.size + 1, 0, none⟩) 2 2) (by omega)).alloc _).alloc _).nums⟩, trivial⟩
  have hbW : Below w.heap.size w ((((((w2.setCell ⟨B + 4, 24, none⟩ (.int .i64 6)).setCell ⟨B + 4, 25, none⟩ (.int .i64 (1 + (d : Int)))).setCell ⟨B + 4, 26, none⟩ (.int .i64 0)).setCell ⟨B + 4, 27, none⟩ (.slice (some ⟨w2.heap.size + 1, 0, none⟩) 2 2)).alloc (.cells #[.int .i64 2, .slice (some ⟨B + 4, 0, none⟩) 8 8] 24)).alloc (.cells #[.int .i64 4, .int .i64 5] 3)) := ((((((HB.out.setCell (p := ⟨B + 4, 24, none⟩) (by show w.heap.size ≤ B + 4; omega) (.int .i64 6)).setCell (p := ⟨B + 4, 25, none⟩) (by show w.heap.size ≤ B + 4; omega) (.int .i64 (1 + (d : Int)))).setCell (p := ⟨B + 4, 26, none⟩) (by show w.heap.size ≤ B + 4; omega) (.int .i64 0)).setCell (p := ⟨B + 4, 27, none⟩) (by show w.heap.size ≤ B + 4; omega) (.slice (some ⟨w2.heap.size + 1, 0, none⟩) 2 2)).alloc (by first | omega | (simp; omega)) _).alloc (by first | omega | (simp; omega)) _)
  have q0 := cell_old (.cells #[.int .i64 4, .int .i64 5] 3) (cell_new ((((w2.setCell ⟨B + 4, 24, none⟩ (.int .i64 6)).setCell ⟨B + 4, 25, none⟩ (.int .i64 (1 + (d : Int)))).setCell ⟨B + 4, 26, none⟩ (.int .i64 0)).setCell ⟨B + 4, 27, none⟩ (.slice (some ⟨w2.heap.size + 1, 0, none⟩) 2 2)) #[.int .i64 2, .slice (some ⟨B + 4, 0, none⟩) 8 8] 24 0 _ rfl)
  have q1 := cell_old (.cells #[.int .i64 4, .int .i64 5] 3) (cell_new ((((w2.setCell ⟨B + 4, 24, none⟩ (.int .i64 6)).setCell ⟨B + 4, 25, none⟩ (.int .i64 (1 + (d : Int)))).setCell ⟨B + 4, 26, none⟩ (.int .i64 0)).setCell ⟨B + 4, 27, none⟩ (.slice (some ⟨w2.heap.size + 1, 0, none⟩) 2 2)) #[.int .i64 2, .slice (some ⟨B + 4, 0, none⟩) 8 8] 24 1 _ rfl)
  simp only [World.size_setCell] at q0 q1
  have hlz : w2.heap.size < ((((((w2.setCell ⟨B + 4, 24, none⟩ (.int .i64 6)).setCell ⟨B + 4, 25, none⟩ (.int .i64 (1 + (d : Int)))).setCell ⟨B + 4, 26, none⟩ (.int .i64 0)).setCell ⟨B + 4, 27, none⟩ (.slice (some ⟨w2.heap.size + 1, 0, none⟩) 2 2)).alloc (.cells #[.int .i64 2, .slice (some ⟨B + 4, 0, none⟩) 8 8] 24)).alloc (.cells #[.int .i64 4, .int .i64 5] 3)).heap.size := by simp only [World.size_alloc, World.size_setCell]; omega
  obtain ⟨W, hWe⟩ : ∃ W, ((((((w2.setCell ⟨B + 4, 24, none⟩ (.int .i64 6)).setCell ⟨B + 4, 25, none⟩ (.int .i64 (1 + (d : Int)))).setCell ⟨B + 4, 26, none⟩ (.int .i64 0)).setCell ⟨B + 4, 27, none⟩ (.slice (some ⟨w2.heap.size + 1, 0, none⟩) 2 2)).alloc (.cells #[.int .i64 2, .slice (some ⟨B + 4, 0, none⟩) 8 8] 24)).alloc (.cells #[.int .i64 4, .int .i64 5] 3)) = W := ⟨_, rfl⟩
  rw [hWe] at hW hbW q0 q1 hlz ⊢
  clear hWe HA HB c24 f24 c25 f25 c26 f26 c27 f27 hkl
  refine (adds_any _).mono ?_
  rintro e w7 ⟨rfl, a7, hb7, s7⟩
  have h7 := below_next hbW hb7
  have hW7 := hW.on hb7
  have q2 := (hb7.cell (p := ⟨w2.heap.size, 0, none⟩) hlz).trans q0
  have q3 := (hb7.cell (p := ⟨w2.heap.size, 1, none⟩) hlz).trans q1
  have hlz7 := Nat.lt_of_lt_of_le hlz hb7.size
  clear hb7 hbW q0 q1 hW s7
  go_wp2_with fail
  refine (may_any 2 _ 8 addsL w7 a7.exs).mono ?_
  rintro e w8 ⟨rfl, hb8⟩
  rw [may_adds]
  have h8 := below_next h7 hb8
  have hW8 := hW7.on hb8
  have q4 := (hb8.cell (p := ⟨w2.heap.size, 0, none⟩) hlz7).trans q2
  have q5 := (hb8.cell (p := ⟨w2.heap.size, 1, none⟩) hlz7).trans q3
  clear hb8 h7 q2 q3 hW7 a7
  go_wp2_with fail
  refine (may_any 2 (some ⟨B + 4, 0, none⟩) 8 [⟨1, 0, 0, []⟩, ⟨1, 3, 0, []⟩, ⟨1, 1, 0, []⟩, ⟨4, 0, 0, [1, 2]⟩, ⟨1, 0, 0, []⟩, ⟨1, 1, 0, []⟩, ⟨6, (1 + (d : Int)), 0, [4, 5]⟩, ⟨5, 7, 2, [0, 3, 6]⟩] w8 hW8).mono ?_
  rintro e w9 ⟨rfl, hb9⟩
  rw [no_23 d]
  have h9 := below_next h8 hb9
  clear hb9 h8 q4 q5 hW8
  go_wp2_with (go_at_call 14; refine (num_any _ _).mono ?_; rintro e w' ⟨rfl, rfl⟩)
  go_ret
  exact ⟨rfl, h9⟩
end Go.Proofs.Ytknbpfaeedapnaa.exprForms
