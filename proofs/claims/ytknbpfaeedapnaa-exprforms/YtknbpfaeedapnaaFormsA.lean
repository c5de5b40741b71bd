/- ExprForms, the ways 0 to 11 of its switch. -/
import Derived.Test.YtknbpfaeedapnaaFormsS
namespace Go.Proofs.Ytknbpfaeedapnaa.exprForms
open Go.RowKit
set_option linter.unusedVariables false

theorem no_0 (d : Nat) : may (-(1 + (d : Int))) [⟨1, 0, 0, []⟩, ⟨1, 3, 0, []⟩, ⟨1, 1, 0, []⟩, ⟨4, 0, 0, [1, 2]⟩, ⟨1, 0, 0, []⟩, ⟨1, 1, 0, []⟩, ⟨4, 0, 0, [4, 5]⟩, ⟨5, 7, 2, [0, 3, 6]⟩] = false := may_no (.inl (withB_not.2 (by omega)))
theorem no_1 (d : Nat) : may (3 + (1 + (d : Int))) [⟨1, 0, 0, []⟩, ⟨1, 3, 0, []⟩, ⟨1, 1, 0, []⟩, ⟨4, 0, 0, [1, 2]⟩, ⟨1, 0, 0, []⟩, ⟨1, 1, 0, []⟩, ⟨4, 0, 0, [4, 5]⟩, ⟨5, 7, 2, [0, 3, 6]⟩] = false := may_no (.inl (withB_not.2 (by omega)))
theorem no_2 : may 2 [] = false := by decide +kernel
theorem no_3 : may 2 [⟨1, 0, 0, []⟩, ⟨1, 3, 0, []⟩, ⟨1, 1, 0, []⟩, ⟨4, 0, 0, [1, 2]⟩, ⟨1, 0, 0, []⟩, ⟨1, 1, 0, []⟩, ⟨4, 0, 0, [4, 5]⟩] = false := by decide +kernel
theorem no_4 (d : Nat) : may 2 [⟨(-(1 + (d : Int))), 0, 0, []⟩, ⟨1, 3, 0, []⟩, ⟨1, 1, 0, []⟩, ⟨4, 0, 0, [1, 2]⟩, ⟨1, 0, 0, []⟩, ⟨1, 1, 0, []⟩, ⟨4, 0, 0, [4, 5]⟩, ⟨5, 7, 2, [0, 3, 6]⟩] = false := may_bad (pre := [(7, ⟨5, 7, 2, [0, 3, 6]⟩), (6, ⟨4, 0, 0, [4, 5]⟩), (5, ⟨1, 1, 0, []⟩), (4, ⟨1, 0, 0, []⟩), (3, ⟨4, 0, 0, [1, 2]⟩), (2, ⟨1, 1, 0, []⟩), (1, ⟨1, 3, 0, []⟩)]) (x := (0, ⟨(-(1 + (d : Int))), 0, 0, []⟩)) (suf := backw []) rfl (fun t => show okE (-(1 + (d : Int))) 0 0 ((0 : Nat) : Int) t = false from okE_else _ _ _ _ _ (by omega))
theorem no_5 (d : Nat) : may 2 [⟨(7 + (1 + (d : Int))), 0, 0, []⟩, ⟨1, 3, 0, []⟩, ⟨1, 1, 0, []⟩, ⟨4, 0, 0, [1, 2]⟩, ⟨1, 0, 0, []⟩, ⟨1, 1, 0, []⟩, ⟨4, 0, 0, [4, 5]⟩, ⟨5, 7, 2, [0, 3, 6]⟩] = false := may_bad (pre := [(7, ⟨5, 7, 2, [0, 3, 6]⟩), (6, ⟨4, 0, 0, [4, 5]⟩), (5, ⟨1, 1, 0, []⟩), (4, ⟨1, 0, 0, []⟩), (3, ⟨4, 0, 0, [1, 2]⟩), (2, ⟨1, 1, 0, []⟩), (1, ⟨1, 3, 0, []⟩)]) (x := (0, ⟨(7 + (1 + (d : Int))), 0, 0, []⟩)) (suf := backw []) rfl (fun t => show okE (7 + (1 + (d : Int))) 0 0 ((0 : Nat) : Int) t = false from okE_else _ _ _ _ _ (by omega))
theorem no_6 : may 2 [⟨1, 2, 0, []⟩, ⟨1, 3, 0, []⟩, ⟨1, 1, 0, []⟩, ⟨4, 0, 0, [1, 2]⟩, ⟨1, 0, 0, []⟩, ⟨1, 1, 0, []⟩, ⟨4, 0, 0, [4, 5]⟩, ⟨5, 7, 2, [0, 3, 6]⟩] = false := by decide +kernel
theorem no_7 (d : Nat) : may 2 [⟨1, (-(1 + (d : Int))), 0, []⟩, ⟨1, 3, 0, []⟩, ⟨1, 1, 0, []⟩, ⟨4, 0, 0, [1, 2]⟩, ⟨1, 0, 0, []⟩, ⟨1, 1, 0, []⟩, ⟨4, 0, 0, [4, 5]⟩, ⟨5, 7, 2, [0, 3, 6]⟩] = false := may_bad (pre := [(7, ⟨5, 7, 2, [0, 3, 6]⟩), (6, ⟨4, 0, 0, [4, 5]⟩), (5, ⟨1, 1, 0, []⟩), (4, ⟨1, 0, 0, []⟩), (3, ⟨4, 0, 0, [1, 2]⟩), (2, ⟨1, 1, 0, []⟩), (1, ⟨1, 3, 0, []⟩)]) (x := (0, ⟨1, (-(1 + (d : Int))), 0, []⟩)) (suf := backw []) rfl (fun t => show okE 1 (-(1 + (d : Int))) 0 ((0 : Nat) : Int) t = false from by rw [Bool.eq_false_iff]; intro h; have h := (okE_1 _ _ _ _).1 h; omega)
theorem no_8 (d : Nat) : may 2 [⟨1, 0, (1 + (d : Int)), []⟩, ⟨1, 3, 0, []⟩, ⟨1, 1, 0, []⟩, ⟨4, 0, 0, [1, 2]⟩, ⟨1, 0, 0, []⟩, ⟨1, 1, 0, []⟩, ⟨4, 0, 0, [4, 5]⟩, ⟨5, 7, 2, [0, 3, 6]⟩] = false := may_bad (pre := [(7, ⟨5, 7, 2, [0, 3, 6]⟩), (6, ⟨4, 0, 0, [4, 5]⟩), (5, ⟨1, 1, 0, []⟩), (4, ⟨1, 0, 0, []⟩), (3, ⟨4, 0, 0, [1, 2]⟩), (2, ⟨1, 1, 0, []⟩), (1, ⟨1, 3, 0, []⟩)]) (x := (0, ⟨1, 0, (1 + (d : Int)), []⟩)) (suf := backw []) rfl (fun t => show okE 1 0 (1 + (d : Int)) ((0 : Nat) : Int) t = false from by rw [Bool.eq_false_iff]; intro h; have h := (okE_1 _ _ _ _).1 h; omega)
theorem no_9 : may 2 [⟨1, 0, 0, [0]⟩, ⟨1, 3, 0, []⟩, ⟨1, 1, 0, []⟩, ⟨4, 0, 0, [1, 2]⟩, ⟨1, 0, 0, []⟩, ⟨1, 1, 0, []⟩, ⟨4, 0, 0, [4, 5]⟩, ⟨5, 7, 2, [0, 3, 6]⟩] = false := by decide +kernel
theorem no_10 (d : Nat) : may 2 [⟨1, 0, 0, []⟩, ⟨1, 3, 0, []⟩, ⟨1, 1, 0, []⟩, ⟨4, (4 + (1 + (d : Int))), 0, [1, 2]⟩, ⟨1, 0, 0, []⟩, ⟨1, 1, 0, []⟩, ⟨4, 0, 0, [4, 5]⟩, ⟨5, 7, 2, [0, 3, 6]⟩] = false := may_bad (pre := [(7, ⟨5, 7, 2, [0, 3, 6]⟩), (6, ⟨4, 0, 0, [4, 5]⟩), (5, ⟨1, 1, 0, []⟩), (4, ⟨1, 0, 0, []⟩)]) (x := (3, ⟨4, (4 + (1 + (d : Int))), 0, [1, 2]⟩)) (suf := backw [⟨1, 0, 0, []⟩, ⟨1, 3, 0, []⟩, ⟨1, 1, 0, []⟩]) rfl (fun t => show okE 4 (4 + (1 + (d : Int))) 0 ((2 : Nat) : Int) t = false from by rw [Bool.eq_false_iff]; intro h; have h := (okE_4 _ _ _ _).1 h; omega)
theorem no_11 : may 2 [⟨1, 0, 0, []⟩, ⟨1, 3, 0, []⟩, ⟨1, 1, 0, []⟩, ⟨4, 0, 0, [1]⟩, ⟨1, 0, 0, []⟩, ⟨1, 1, 0, []⟩, ⟨4, 0, 0, [4, 5]⟩, ⟨5, 7, 2, [0, 3, 6]⟩] = false := by decide +kernel
set_option maxRecDepth 100000 in
set_option maxHeartbeats 1600000 in
theorem form_0 (a0 a1 : Int) (d : Nat) (hd : bits .and .i64 a1 1023 = (d : Int)) (hd1 : d < 1024) (hr : (IntKind.u64.wrap a0).tmod 24 = 0) (w : World) :
    Calls Try.prog 4 #[.int .i64 a0, .int .i64 a1] w fun e w' => e = .returned (.bool true) ∧ Below w.heap.size w w' := by
  go_enter Try.func4, Try.ntmps4
  go_wp2_with fail
  refine (awake_any _).mono ?_
  rintro e w1 ⟨rfl, hb1⟩
  go_wp2_with fail
  refine (adds_any _).mono ?_
  rintro e w2 ⟨rfl, a2, hb2, s2⟩
  obtain ⟨B, hB⟩ : ∃ B, w1.heap.size = B := ⟨_, rfl⟩
  have hBz := a2.lt
  rw [hB] at hBz
  have hBz' : B + 4 < w2.heap.size + 1 := by omega
  have hwB : w.heap.size ≤ B := by rw [← hB]; exact hb1.size
  have HA : Hid (AddsAt w2 B) := by rw [← hB]; exact a2
  have HB : Hid (Below w.heap.size w w2) := below_next hb1 hb2
  rw [hB]
  clear a2 hb2 hb1 s2 hB
  go_wp2_with fail
  have hW : Exs (w2.alloc (.cells #[.int .i64 (-(1 + (d : Int))), .slice (some ⟨B + 4, 0, none⟩) 8 8] 24)) (some ⟨B + 4, 0, none⟩) [⟨1, 0, 0, []⟩, ⟨1, 3, 0, []⟩, ⟨1, 1, 0, []⟩, ⟨4, 0, 0, [1, 2]⟩, ⟨1, 0, 0, []⟩, ⟨1, 1, 0, []⟩, ⟨4, 0, 0, [4, 5]⟩, ⟨5, 7, 2, [0, 3, 6]⟩] := exs_of_row ((show Rw w2 (B + 4) (addsC B) from HA.out.body).alloc _) ⟨rfl, rfl, rfl, ⟨_, _, rfl, nums_nil _ _⟩, rfl, rfl, rfl, ⟨_, _, rfl, nums_nil _ _⟩, rfl, rfl, rfl, ⟨_, _, rfl, nums_nil _ _⟩, rfl, rfl, rfl, ⟨_, _, rfl, (HA.out.k1.alloc _).nums⟩, rfl, rfl, rfl, ⟨_, _, rfl, nums_nil _ _⟩, rfl, rfl, rfl, ⟨_, _, rfl, nums_nil _ _⟩, rfl, rfl, rfl, ⟨_, _, rfl, (HA.out.k2.alloc _).nums⟩, rfl, rfl, rfl, ⟨_, _, rfl, (HA.out.k3.alloc _).nums⟩, trivial⟩
  have hbW : Below w.heap.size w (w2.alloc (.cells #[.int .i64 (-(1 + (d : Int))), .slice (some ⟨B + 4, 0, none⟩) 8 8] 24)) := (HB.out.alloc (by first | omega | (simp; omega)) _)
  have q0 := cell_new w2 #[.int .i64 (-(1 + (d : Int))), .slice (some ⟨B + 4, 0, none⟩) 8 8] 24 0 _ rfl
  have q1 := cell_new w2 #[.int .i64 (-(1 + (d : Int))), .slice (some ⟨B + 4, 0, none⟩) 8 8] 24 1 _ rfl
  have hlz : w2.heap.size < (w2.alloc (.cells #[.int .i64 (-(1 + (d : Int))), .slice (some ⟨B + 4, 0, none⟩) 8 8] 24)).heap.size := by simp only [World.size_alloc]; omega
  obtain ⟨W, hWe⟩ : ∃ W, (w2.alloc (.cells #[.int .i64 (-(1 + (d : Int))), .slice (some ⟨B + 4, 0, none⟩) 8 8] 24)) = W := ⟨_, rfl⟩
  rw [hWe] at hW hbW q0 q1 hlz ⊢
  clear hWe HA HB
  refine (adds_any _).mono ?_
  rintro e w7 ⟨rfl, a7, hb7, s7⟩
  have h7 := below_next hbW hb7
  have hW7 := hW.on hb7
  have q2 := (hb7.cell (p := ⟨w2.heap.size, 0, none⟩) hlz).trans q0
  have q3 := (hb7.cell (p := ⟨w2.heap.size, 1, none⟩) hlz).trans q1
  have hlz7 := Nat.lt_of_lt_of_le hlz hb7.size
  clear hb7 hbW q0 q1 hW s7
  go_wp2_with fail
  refine (may_any 2 _ 8 addsL w7 a7.exs).mono ?_
  rintro e w8 ⟨rfl, hb8⟩
  rw [may_adds]
  have h8 := below_next h7 hb8
  have hW8 := hW7.on hb8
  have q4 := (hb8.cell (p := ⟨w2.heap.size, 0, none⟩) hlz7).trans q2
  have q5 := (hb8.cell (p := ⟨w2.heap.size, 1, none⟩) hlz7).trans q3
  clear hb8 h7 q2 q3 hW7 a7
  go_wp2_with fail
  refine (may_any (-(1 + (d : Int))) (some ⟨B + 4, 0, none⟩) 8 [⟨1, 0, 0, []⟩, ⟨1, 3, 0, []⟩, ⟨1, 1, 0, []⟩, ⟨4, 0, 0, [1, 2]⟩, ⟨1, 0, 0, []⟩, ⟨1, 1, 0, []⟩, ⟨4, 0, 0, [4, 5]⟩, ⟨5, 7, 2, [0, 3, 6]⟩] w8 hW8).mono ?_
  rintro e w9 ⟨rfl, hb9⟩
  rw [no_0 d]
  have h9 := below_next h8 hb9
  clear hb9 h8 q4 q5 hW8
  go_wp2_with (go_at_call 14; refine (num_any _ _).mono ?_; rintro e w' ⟨rfl, rfl⟩)
  go_ret
  exact ⟨rfl, h9⟩
set_option maxRecDepth 100000 in
set_option maxHeartbeats 1600000 in
theorem form_1 (a0 a1 : Int) (d : Nat) (hd : bits .and .i64 a1 1023 = (d : Int)) (hd1 : d < 1024) (hr : (IntKind.u64.wrap a0).tmod 24 = 1) (w : World) :
    Calls Try.prog 4 #[.int .i64 a0, .int .i64 a1] w fun e w' => e = .returned (.bool true) ∧ Below w.heap.size w w' := by
  go_enter Try.func4, Try.ntmps4
  go_wp2_with fail
  refine (awake_any _).mono ?_
  rintro e w1 ⟨rfl, hb1⟩
  go_wp2_with fail
  refine (adds_any _).mono ?_
  rintro e w2 ⟨rfl, a2, hb2, s2⟩
  obtain ⟨B, hB⟩ : ∃ B, w1.heap.size = B := ⟨_, rfl⟩
  have hBz := a2.lt
  rw [hB] at hBz
  have hBz' : B + 4 < w2.heap.size + 1 := by omega
  have hwB : w.heap.size ≤ B := by rw [← hB]; exact hb1.size
  have HA : Hid (AddsAt w2 B) := by rw [← hB]; exact a2
  have HB : Hid (Below w.heap.size w w2) := below_next hb1 hb2
  rw [hB]
  clear a2 hb2 hb1 s2 hB
  go_wp2_with fail
  have hW : Exs (w2.alloc (.cells #[.int .i64 (3 + (1 + (d : Int))), .slice (some ⟨B + 4, 0, none⟩) 8 8] 24)) (some ⟨B + 4, 0, none⟩) [⟨1, 0, 0, []⟩, ⟨1, 3, 0, []⟩, ⟨1, 1, 0, []⟩, ⟨4, 0, 0, [1, 2]⟩, ⟨1, 0, 0, []⟩, ⟨1, 1, 0, []⟩, ⟨4, 0, 0, [4, 5]⟩, ⟨5, 7, 2, [0, 3, 6]⟩] := exs_of_row ((show Rw w2 (B + 4) (addsC B) from HA.out.body).alloc _) ⟨rfl, rfl, rfl, ⟨_, _, rfl, nums_nil _ _⟩, rfl, rfl, rfl, ⟨_, _, rfl, nums_nil _ _⟩, rfl, rfl, rfl, ⟨_, _, rfl, nums_nil _ _⟩, rfl, rfl, rfl, ⟨_, _, rfl, (HA.out.k1.alloc _).nums⟩, rfl, rfl, rfl, ⟨_, _, rfl, nums_nil _ _⟩, rfl, rfl, rfl, ⟨_, _, rfl, nums_nil _ _⟩, rfl, rfl, rfl, ⟨_, _, rfl, (HA.out.k2.alloc _).nums⟩, rfl, rfl, rfl, ⟨_, _, rfl, (HA.out.k3.alloc _).nums⟩, trivial⟩
  have hbW : Below w.heap.size w (w2.alloc (.cells #[.int .i64 (3 + (1 + (d : Int))), .slice (some ⟨B + 4, 0, none⟩) 8 8] 24)) := (HB.out.alloc (by first | omega | (simp; omega)) _)
  have q0 := cell_new w2 #[.int .i64 (3 + (1 + (d : Int))), .slice (some ⟨B + 4, 0, none⟩) 8 8] 24 0 _ rfl
  have q1 := cell_new w2 #[.int .i64 (3 + (1 + (d : Int))), .slice (some ⟨B + 4, 0, none⟩) 8 8] 24 1 _ rfl
  have hlz : w2.heap.size < (w2.alloc (.cells #[.int .i64 (3 + (1 + (d : Int))), .slice (some ⟨B + 4, 0, none⟩) 8 8] 24)).heap.size := by simp only [World.size_alloc]; omega
  obtain ⟨W, hWe⟩ : ∃ W, (w2.alloc (.cells #[.int .i64 (3 + (1 + (d : Int))), .slice (some ⟨B + 4, 0, none⟩) 8 8] 24)) = W := ⟨_, rfl⟩
  rw [hWe] at hW hbW q0 q1 hlz ⊢
  clear hWe HA HB
  refine (adds_any _).mono ?_
  rintro e w7 ⟨rfl, a7, hb7, s7⟩
  have h7 := below_next hbW hb7
  have hW7 := hW.on hb7
  have q2 := (hb7.cell (p := ⟨w2.heap.size, 0, none⟩) hlz).trans q0
  have q3 := (hb7.cell (p := ⟨w2.heap.size, 1, none⟩) hlz).trans q1
  have hlz7 := Nat.lt_of_lt_of_le hlz hb7.size
  clear hb7 hbW q0 q1 hW s7
  go_wp2_with fail
  refine (may_any 2 _ 8 addsL w7 a7.exs).mono ?_
  rintro e w8 ⟨rfl, hb8⟩
  rw [may_adds]
  have h8 := below_next h7 hb8
  have hW8 := hW7.on hb8
  have q4 := (hb8.cell (p := ⟨w2.heap.size, 0, none⟩) hlz7).trans q2
  have q5 := (hb8.cell (p := ⟨w2.heap.size, 1, none⟩) hlz7).trans q3
  clear hb8 h7 q2 q3 hW7 a7
  go_wp2_with fail
  refine (may_any (3 + (1 + (d : Int))) (some ⟨B + 4, 0, none⟩) 8 [⟨1, 0, 0, []⟩, ⟨1, 3, 0, []⟩, ⟨1, 1, 0, []⟩, ⟨4, 0, 0, [1, 2]⟩, ⟨1, 0, 0, []⟩, ⟨1, 1, 0, []⟩, ⟨4, 0, 0, [4, 5]⟩, ⟨5, 7, 2, [0, 3, 6]⟩] w8 hW8).mono ?_
  rintro e w9 ⟨rfl, hb9⟩
  rw [no_1 d]
  have h9 := below_next h8 hb9
  clear hb9 h8 q4 q5 hW8
  go_wp2_with (go_at_call 14; refine (num_any _ _).mono ?_; rintro e w' ⟨rfl, rfl⟩)
  go_ret
  exact ⟨rfl, h9⟩
set_option maxRecDepth 100000 in
set_option maxHeartbeats 1600000 in
theorem form_2 (a0 a1 : Int) (d : Nat) (hd : bits .and .i64 a1 1023 = (d : Int)) (hd1 : d < 1024) (hr : (IntKind.u64.wrap a0).tmod 24 = 2) (w : World) :
    Calls Try.prog 4 #[.int .i64 a0, .int .i64 a1] w fun e w' => e = .returned (.bool true) ∧ Below w.heap.size w w' := by
  go_enter Try.func4, Try.ntmps4
  go_wp2_with fail
  refine (awake_any _).mono ?_
  rintro e w1 ⟨rfl, hb1⟩
  go_wp2_with fail
  refine (adds_any _).mono ?_
  rintro e w2 ⟨rfl, a2, hb2, s2⟩
  obtain ⟨B, hB⟩ : ∃ B, w1.heap.size = B := ⟨_, rfl⟩
  have hBz := a2.lt
  rw [hB] at hBz
  have hBz' : B + 4 < w2.heap.size + 1 := by omega
  have hwB : w.heap.size ≤ B := by rw [← hB]; exact hb1.size
  have HA : Hid (AddsAt w2 B) := by rw [← hB]; exact a2
  have HB : Hid (Below w.heap.size w w2) := below_next hb1 hb2
  rw [hB]
  clear a2 hb2 hb1 s2 hB
  go_wp2_with fail
  have hW : Exs (w2.alloc (.cells #[.int .i64 2, .slice none 0 0] 24)) none [] := Or.inl rfl
  have hbW : Below w.heap.size w (w2.alloc (.cells #[.int .i64 2, .slice none 0 0] 24)) := (HB.out.alloc (by first | omega | (simp; omega)) _)
  have q0 := cell_new w2 #[.int .i64 2, .slice none 0 0] 24 0 _ rfl
  have q1 := cell_new w2 #[.int .i64 2, .slice none 0 0] 24 1 _ rfl
  have hlz : w2.heap.size < (w2.alloc (.cells #[.int .i64 2, .slice none 0 0] 24)).heap.size := by simp only [World.size_alloc]; omega
  obtain ⟨W, hWe⟩ : ∃ W, (w2.alloc (.cells #[.int .i64 2, .slice none 0 0] 24)) = W := ⟨_, rfl⟩
  rw [hWe] at hW hbW q0 q1 hlz ⊢
  clear hWe HA HB
  refine (adds_any _).mono ?_
  rintro e w7 ⟨rfl, a7, hb7, s7⟩
  have h7 := below_next hbW hb7
  have hW7 := hW.on hb7
  have q2 := (hb7.cell (p := ⟨w2.heap.size, 0, none⟩) hlz).trans q0
  have q3 := (hb7.cell (p := ⟨w2.heap.size, 1, none⟩) hlz).trans q1
  have hlz7 := Nat.lt_of_lt_of_le hlz hb7.size
  clear hb7 hbW q0 q1 hW s7
  go_wp2_with fail
  refine (may_any 2 _ 8 addsL w7 a7.exs).mono ?_
  rintro e w8 ⟨rfl, hb8⟩
  rw [may_adds]
  have h8 := below_next h7 hb8
  have hW8 := hW7.on hb8
  have q4 := (hb8.cell (p := ⟨w2.heap.size, 0, none⟩) hlz7).trans q2
  have q5 := (hb8.cell (p := ⟨w2.heap.size, 1, none⟩) hlz7).trans q3
  clear hb8 h7 q2 q3 hW7 a7
  go_wp2_with fail
  refine (may_any 2 none 0 [] w8 hW8).mono ?_
  rintro e w9 ⟨rfl, hb9⟩
  rw [no_2]
  have h9 := below_next h8 hb9
  clear hb9 h8 q4 q5 hW8
  go_wp2_with (go_at_call 14; refine (num_any _ _).mono ?_; rintro e w' ⟨rfl, rfl⟩)
  go_ret
  exact ⟨rfl, h9⟩
set_option maxRecDepth 100000 in
set_option maxHeartbeats 1600000 in
theorem form_3 (a0 a1 : Int) (d : Nat) (hd : bits .and .i64 a1 1023 = (d : Int)) (hd1 : d < 1024) (hr : (IntKind.u64.wrap a0).tmod 24 = 3) (w : World) :
    Calls Try.prog 4 #[.int .i64 a0, .int .i64 a1] w fun e w' => e = .returned (.bool true) ∧ Below w.heap.size w w' := by
  go_enter Try.func4, Try.ntmps4
  go_wp2_with fail
  refine (awake_any _).mono ?_
  rintro e w1 ⟨rfl, hb1⟩
  go_wp2_with fail
  refine (adds_any _).mono ?_
  rintro e w2 ⟨rfl, a2, hb2, s2⟩
  obtain ⟨B, hB⟩ : ∃ B, w1.heap.size = B := ⟨_, rfl⟩
  have hBz := a2.lt
  rw [hB] at hBz
  have hBz' : B + 4 < w2.heap.size + 1 := by omega
  have hwB : w.heap.size ≤ B := by rw [← hB]; exact hb1.size
  have HA : Hid (AddsAt w2 B) := by rw [← hB]; exact a2
  have HB : Hid (Below w.heap.size w w2) := below_next hb1 hb2
  rw [hB]
  clear a2 hb2 hb1 s2 hB
  go_wp2_with fail
  have hW : Exs (w2.alloc (.cells #[.int .i64 2, .slice (some ⟨B + 4, 0, none⟩) 7 8] 24)) (some ⟨B + 4, 0, none⟩) [⟨1, 0, 0, []⟩, ⟨1, 3, 0, []⟩, ⟨1, 1, 0, []⟩, ⟨4, 0, 0, [1, 2]⟩, ⟨1, 0, 0, []⟩, ⟨1, 1, 0, []⟩, ⟨4, 0, 0, [4, 5]⟩] := (exs_of_row (xs := addsL) ((show Rw w2 (B + 4) (addsC B) from HA.out.body).alloc _) ⟨rfl, rfl, rfl, ⟨_, _, rfl, nums_nil _ _⟩, rfl, rfl, rfl, ⟨_, _, rfl, nums_nil _ _⟩, rfl, rfl, rfl, ⟨_, _, rfl, nums_nil _ _⟩, rfl, rfl, rfl, ⟨_, _, rfl, (HA.out.k1.alloc _).nums⟩, rfl, rfl, rfl, ⟨_, _, rfl, nums_nil _ _⟩, rfl, rfl, rfl, ⟨_, _, rfl, nums_nil _ _⟩, rfl, rfl, rfl, ⟨_, _, rfl, (HA.out.k2.alloc _).nums⟩, rfl, rfl, rfl, ⟨_, _, rfl, (HA.out.k3.alloc _).nums⟩, trivial⟩).take 7
  have hbW : Below w.heap.size w (w2.alloc (.cells #[.int .i64 2, .slice (some ⟨B + 4, 0, none⟩) 7 8] 24)) := (HB.out.alloc (by first | omega | (simp; omega)) _)
  have q0 := cell_new w2 #[.int .i64 2, .slice (some ⟨B + 4, 0, none⟩) 7 8] 24 0 _ rfl
  have q1 := cell_new w2 #[.int .i64 2, .slice (some ⟨B + 4, 0, none⟩) 7 8] 24 1 _ rfl
  have hlz : w2.heap.size < (w2.alloc (.cells #[.int .i64 2, .slice (some ⟨B + 4, 0, none⟩) 7 8] 24)).heap.size := by simp only [World.size_alloc]; omega
  obtain ⟨W, hWe⟩ : ∃ W, (w2.alloc (.cells #[.int .i64 2, .slice (some ⟨B + 4, 0, none⟩) 7 8] 24)) = W := ⟨_, rfl⟩
  rw [hWe] at hW hbW q0 q1 hlz ⊢
  clear hWe HA HB
  refine (adds_any _).mono ?_
  rintro e w7 ⟨rfl, a7, hb7, s7⟩
  have h7 := below_next hbW hb7
  have hW7 := hW.on hb7
  have q2 := (hb7.cell (p := ⟨w2.heap.size, 0, none⟩) hlz).trans q0
  have q3 := (hb7.cell (p := ⟨w2.heap.size, 1, none⟩) hlz).trans q1
  have hlz7 := Nat.lt_of_lt_of_le hlz hb7.size
  clear hb7 hbW q0 q1 hW s7
  go_wp2_with fail
  refine (may_any 2 _ 8 addsL w7 a7.exs).mono ?_
  rintro e w8 ⟨rfl, hb8⟩
  rw [may_adds]
  have h8 := below_next h7 hb8
  have hW8 := hW7.on hb8
  have q4 := (hb8.cell (p := ⟨w2.heap.size, 0, none⟩) hlz7).trans q2
  have q5 := (hb8.cell (p := ⟨w2.heap.size, 1, none⟩) hlz7).trans q3
  clear hb8 h7 q2 q3 hW7 a7
  go_wp2_with fail
  refine (may_any 2 (some ⟨B + 4, 0, none⟩) 8 [⟨1, 0, 0, []⟩, ⟨1, 3, 0, []⟩, ⟨1, 1, 0, []⟩, ⟨4, 0, 0, [1, 2]⟩, ⟨1, 0, 0, []⟩, ⟨1, 1, 0, []⟩, ⟨4, 0, 0, [4, 5]⟩] w8 hW8).mono ?_
  rintro e w9 ⟨rfl, hb9⟩
  rw [no_3]
  have h9 := below_next h8 hb9
  clear hb9 h8 q4 q5 hW8
  go_wp2_with (go_at_call 14; refine (num_any _ _).mono ?_; rintro e w' ⟨rfl, rfl⟩)
  go_ret
  exact ⟨rfl, h9⟩
set_option maxRecDepth 100000 in
set_option maxHeartbeats 1600000 in
theorem form_4 (a0 a1 : Int) (d : Nat) (hd : bits .and .i64 a1 1023 = (d : Int)) (hd1 : d < 1024) (hr : (IntKind.u64.wrap a0).tmod 24 = 4) (w : World) :
    Calls Try.prog 4 #[.int .i64 a0, .int .i64 a1] w fun e w' => e = .returned (.bool true) ∧ Below w.heap.size w w' := by
  go_enter Try.func4, Try.ntmps4
  go_wp2_with fail
  refine (awake_any _).mono ?_
  rintro e w1 ⟨rfl, hb1⟩
  go_wp2_with fail
  refine (adds_any _).mono ?_
  rintro e w2 ⟨rfl, a2, hb2, s2⟩
  obtain ⟨B, hB⟩ : ∃ B, w1.heap.size = B := ⟨_, rfl⟩
  have hBz := a2.lt
  rw [hB] at hBz
  have hBz' : B + 4 < w2.heap.size + 1 := by omega
  have hwB : w.heap.size ≤ B := by rw [← hB]; exact hb1.size
  have HA : Hid (AddsAt w2 B) := by rw [← hB]; exact a2
  have HB : Hid (Below w.heap.size w w2) := below_next hb1 hb2
  rw [hB]
  clear a2 hb2 hb1 s2 hB
  have c0 := HA.out.cell 0 (.int .i64 1) rfl
  have f0 := HA.out.frozen 0
  go_wp2_with fail
  have hW : Exs ((w2.setCell ⟨B + 4, 0, none⟩ (.int .i64 (-(1 + (d : Int))))).alloc (.cells #[.int .i64 2, .slice (some ⟨B + 4, 0, none⟩) 8 8] 24)) (some ⟨B + 4, 0, none⟩) [⟨(-(1 + (d : Int))), 0, 0, []⟩, ⟨1, 3, 0, []⟩, ⟨1, 1, 0, []⟩, ⟨4, 0, 0, [1, 2]⟩, ⟨1, 0, 0, []⟩, ⟨1, 1, 0, []⟩, ⟨4, 0, 0, [4, 5]⟩, ⟨5, 7, 2, [0, 3, 6]⟩] := exs_of_row (((show Rw w2 (B + 4) (addsC B) from HA.out.body).set 0 (.int .i64 (-(1 + (d : Int))))).alloc _) ⟨rfl, rfl, rfl, ⟨_, _, rfl, nums_nil _ _⟩, rfl, rfl, rfl, ⟨_, _, rfl, nums_nil _ _⟩, rfl, rfl, rfl, ⟨_, _, rfl, nums_nil _ _⟩, rfl, rfl, rfl, ⟨_, _, rfl, ((HA.out.k1.other 0 (.int .i64 (-(1 + (d : Int)))) (by omega)).alloc _).nums⟩, rfl, rfl, rfl, ⟨_, _, rfl, nums_nil _ _⟩, rfl, rfl, rfl, ⟨_, _, rfl, nums_nil _ _⟩, rfl, rfl, rfl, ⟨_, _, rfl, ((HA.out.k2.other 0 (.int .i64 (-(1 + (d : Int)))) (by omega)).alloc _).nums⟩, rfl, rfl, rfl, ⟨_, _, rfl, ((HA.out.k3.other 0 (.int .i64 (-(1 + (d : Int)))) (by omega)).alloc _).nums⟩, trivial⟩
  have hbW : Below w.heap.size w ((w2.setCell ⟨B + 4, 0, none⟩ (.int .i64 (-(1 + (d : Int))))).alloc (.cells #[.int .i64 2, .slice (some ⟨B + 4, 0, none⟩) 8 8] 24)) := ((HB.out.setCell (p := ⟨B + 4, 0, none⟩) (by show w.heap.size ≤ B + 4; omega) (.int .i64 (-(1 + (d : Int))))).alloc (by first | omega | (simp; omega)) _)
  have q0 := cell_new (w2.setCell ⟨B + 4, 0, none⟩ (.int .i64 (-(1 + (d : Int))))) #[.int .i64 2, .slice (some ⟨B + 4, 0, none⟩) 8 8] 24 0 _ rfl
  have q1 := cell_new (w2.setCell ⟨B + 4, 0, none⟩ (.int .i64 (-(1 + (d : Int))))) #[.int .i64 2, .slice (some ⟨B + 4, 0, none⟩) 8 8] 24 1 _ rfl
  simp only [World.size_setCell] at q0 q1
  have hlz : w2.heap.size < ((w2.setCell ⟨B + 4, 0, none⟩ (.int .i64 (-(1 + (d : Int))))).alloc (.cells #[.int .i64 2, .slice (some ⟨B + 4, 0, none⟩) 8 8] 24)).heap.size := by simp only [World.size_alloc, World.size_setCell]; omega
  obtain ⟨W, hWe⟩ : ∃ W, ((w2.setCell ⟨B + 4, 0, none⟩ (.int .i64 (-(1 + (d : Int))))).alloc (.cells #[.int .i64 2, .slice (some ⟨B + 4, 0, none⟩) 8 8] 24)) = W := ⟨_, rfl⟩
  rw [hWe] at hW hbW q0 q1 hlz ⊢
  clear hWe HA HB c0 f0
  refine (adds_any _).mono ?_
  rintro e w7 ⟨rfl, a7, hb7, s7⟩
  have h7 := below_next hbW hb7
  have hW7 := hW.on hb7
  have q2 := (hb7.cell (p := ⟨w2.heap.size, 0, none⟩) hlz).trans q0
  have q3 := (hb7.cell (p := ⟨w2.heap.size, 1, none⟩) hlz).trans q1
  have hlz7 := Nat.lt_of_lt_of_le hlz hb7.size
  clear hb7 hbW q0 q1 hW s7
  go_wp2_with fail
  refine (may_any 2 _ 8 addsL w7 a7.exs).mono ?_
  rintro e w8 ⟨rfl, hb8⟩
  rw [may_adds]
  have h8 := below_next h7 hb8
  have hW8 := hW7.on hb8
  have q4 := (hb8.cell (p := ⟨w2.heap.size, 0, none⟩) hlz7).trans q2
  have q5 := (hb8.cell (p := ⟨w2.heap.size, 1, none⟩) hlz7).trans q3
  clear hb8 h7 q2 q3 hW7 a7
  go_wp2_with fail
  refine (may_any 2 (some ⟨B + 4, 0, none⟩) 8 [⟨(-(1 + (d : Int))), 0, 0, []⟩, ⟨1, 3, 0, []⟩, ⟨1, 1, 0, []⟩, ⟨4, 0, 0, [1, 2]⟩, ⟨1, 0, 0, []⟩, ⟨1, 1, 0, []⟩, ⟨4, 0, 0, [4, 5]⟩, ⟨5, 7, 2, [0, 3, 6]⟩] w8 hW8).mono ?_
  rintro e w9 ⟨rfl, hb9⟩
  rw [no_4 d]
  have h9 := below_next h8 hb9
  clear hb9 h8 q4 q5 hW8
  go_wp2_with (go_at_call 14; refine (num_any _ _).mono ?_; rintro e w' ⟨rfl, rfl⟩)
  go_ret
  exact ⟨rfl, h9⟩
set_option maxRecDepth 100000 in
set_option maxHeartbeats 1600000 in
theorem form_5 (a0 a1 : Int) (d : Nat) (hd : bits .and .i64 a1 1023 = (d : Int)) (hd1 : d < 1024) (hr : (IntKind.u64.wrap a0).tmod 24 = 5) (w : World) :
    Calls Try.prog 4 #[.int .i64 a0, .int .i64 a1] w fun e w' => e = .returned (.bool true) ∧ Below w.heap.size w w' := by
  go_enter Try.func4, Try.ntmps4
  go_wp2_with fail
  refine (awake_any _).mono ?_
  rintro e w1 ⟨rfl, hb1⟩
  go_wp2_with fail
  refine (adds_any _).mono ?_
  rintro e w2 ⟨rfl, a2, hb2, s2⟩
  obtain ⟨B, hB⟩ : ∃ B, w1.heap.size = B := ⟨_, rfl⟩
  have hBz := a2.lt
  rw [hB] at hBz
  have hBz' : B + 4 < w2.heap.size + 1 := by omega
  have hwB : w.heap.size ≤ B := by rw [← hB]; exact hb1.size
  have HA : Hid (AddsAt w2 B) := by rw [← hB]; exact a2
  have HB : Hid (Below w.heap.size w w2) := below_next hb1 hb2
  rw [hB]
  clear a2 hb2 hb1 s2 hB
  have c0 := HA.out.cell 0 (.int .i64 1) rfl
  have f0 := HA.out.frozen 0
  go_wp2_with fail
  have hW : Exs ((w2.setCell ⟨B + 4, 0, none⟩ (.int .i64 (7 + (1 + (d : Int))))).alloc (.cells #[.int .i64 2, .slice (some ⟨B + 4, 0, none⟩) 8 8] 24)) (some ⟨B + 4, 0, none⟩) [⟨(7 + (1 + (d : Int))), 0, 0, []⟩, ⟨1, 3, 0, []⟩, ⟨1, 1, 0, []⟩, ⟨4, 0, 0, [1, 2]⟩, ⟨1, 0, 0, []⟩, ⟨1, 1, 0, []⟩, ⟨4, 0, 0, [4, 5]⟩, ⟨5, 7, 2, [0, 3, 6]⟩] := exs_of_row (((show Rw w2 (B + 4) (addsC B) from HA.out.body).set 0 (.int .i64 (7 + (1 + (d : Int))))).alloc _) ⟨rfl, rfl, rfl, ⟨_, _, rfl, nums_nil _ _⟩, rfl, rfl, rfl, ⟨_, _, rfl, nums_nil _ _⟩, rfl, rfl, rfl, ⟨_, _, rfl, nums_nil _ _⟩, rfl, rfl, rfl, ⟨_, _, rfl, ((HA.out.k1.other 0 (.int .i64 (7 + (1 + (d : Int)))) (by omega)).alloc _).nums⟩, rfl, rfl, rfl, ⟨_, _, rfl, nums_nil _ _⟩, rfl, rfl, rfl, ⟨_, _, rfl, nums_nil _ _⟩, rfl, rfl, rfl, ⟨_, _, rfl, ((HA.out.k2.other 0 (.int .i64 (7 + (1 + (d : Int)))) (by omega)).alloc _).nums⟩, rfl, rfl, rfl, ⟨_, _, rfl, ((HA.out.k3.other 0 (.int .i64 (7 + (1 + (d : Int)))) (by omega)).alloc _).nums⟩, trivial⟩
  have hbW : Below w.heap.size w ((w2.setCell ⟨B + 4, 0, none⟩ (.int .i64 (7 + (1 + (d : Int))))).alloc (.cells #[.int .i64 2, .slice (some ⟨B + 4, 0, none⟩) 8 8] 24)) := ((HB.out.setCell (p := ⟨B + 4, 0, none⟩) (by show w.heap.size ≤ B + 4; omega) (.int .i64 (7 + (1 + (d : Int))))).alloc (by first | omega | (simp; omega)) _)
  have q0 := cell_new (w2.setCell ⟨B + 4, 0, none⟩ (.int .i64 (7 + (1 + (d : Int))))) #[.int .i64 2, .slice (some ⟨B + 4, 0, none⟩) 8 8] 24 0 _ rfl
  have q1 := cell_new (w2.setCell ⟨B + 4, 0, none⟩ (.int .i64 (7 + (1 + (d : Int))))) #[.int .i64 2, .slice (some ⟨B + 4, 0, none⟩) 8 8] 24 1 _ rfl
  simp only [World.size_setCell] at q0 q1
  have hlz : w2.heap.size < ((w2.setCell ⟨B + 4, 0, none⟩ (.int .i64 (7 + (1 + (d : Int))))).alloc (.cells #[.int .i64 2, .slice (some ⟨B + 4, 0, none⟩) 8 8] 24)).heap.size := by simp only [World.size_alloc, World.size_setCell]; omega
  obtain ⟨W, hWe⟩ : ∃ W, ((w2.setCell ⟨B + 4, 0, none⟩ (.int .i64 (7 + (1 + (d : Int))))).alloc (.cells #[.int .i64 2, .slice (some ⟨B + 4, 0, none⟩) 8 8] 24)) = W := ⟨_, rfl⟩
  rw [hWe] at hW hbW q0 q1 hlz ⊢
  clear hWe HA HB c0 f0
  refine (adds_any _).mono ?_
  rintro e w7 ⟨rfl, a7, hb7, s7⟩
  have h7 := below_next hbW hb7
  have hW7 := hW.on hb7
  have q2 := (hb7.cell (p := ⟨w2.heap.size, 0, none⟩) hlz).trans q0
  have q3 := (hb7.cell (p := ⟨w2.heap.size, 1, none⟩) hlz).trans q1
  have hlz7 := Nat.lt_of_lt_of_le hlz hb7.size
  clear hb7 hbW q0 q1 hW s7
  go_wp2_with fail
  refine (may_any 2 _ 8 addsL w7 a7.exs).mono ?_
  rintro e w8 ⟨rfl, hb8⟩
  rw [may_adds]
  have h8 := below_next h7 hb8
  have hW8 := hW7.on hb8
  have q4 := (hb8.cell (p := ⟨w2.heap.size, 0, none⟩) hlz7).trans q2
  have q5 := (hb8.cell (p := ⟨w2.heap.size, 1, none⟩) hlz7).trans q3
  clear hb8 h7 q2 q3 hW7 a7
  go_wp2_with fail
  refine (may_any 2 (some ⟨B + 4, 0, none⟩) 8 [⟨(7 + (1 + (d : Int))), 0, 0, []⟩, ⟨1, 3, 0, []⟩, ⟨1, 1, 0, []⟩, ⟨4, 0, 0, [1, 2]⟩, ⟨1, 0, 0, []⟩, ⟨1, 1, 0, []⟩, ⟨4, 0, 0, [4, 5]⟩, ⟨5, 7, 2, [0, 3, 6]⟩] w8 hW8).mono ?_
  rintro e w9 ⟨rfl, hb9⟩
  rw [no_5 d]
  have h9 := below_next h8 hb9
  clear hb9 h8 q4 q5 hW8
  go_wp2_with (go_at_call 14; refine (num_any _ _).mono ?_; rintro e w' ⟨rfl, rfl⟩)
  go_ret
  exact ⟨rfl, h9⟩
set_option maxRecDepth 100000 in
set_option maxHeartbeats 1600000 in
theorem form_6 (a0 a1 : Int) (d : Nat) (hd : bits .and .i64 a1 1023 = (d : Int)) (hd1 : d < 1024) (hr : (IntKind.u64.wrap a0).tmod 24 = 6) (w : World) :
    Calls Try.prog 4 #[.int .i64 a0, .int .i64 a1] w fun e w' => e = .returned (.bool true) ∧ Below w.heap.size w w' := by
  go_enter Try.func4, Try.ntmps4
  go_wp2_with fail
  refine (awake_any _).mono ?_
  rintro e w1 ⟨rfl, hb1⟩
  go_wp2_with fail
  refine (adds_any _).mono ?_
  rintro e w2 ⟨rfl, a2, hb2, s2⟩
  obtain ⟨B, hB⟩ : ∃ B, w1.heap.size = B := ⟨_, rfl⟩
  have hBz := a2.lt
  rw [hB] at hBz
  have hBz' : B + 4 < w2.heap.size + 1 := by omega
  have hwB : w.heap.size ≤ B := by rw [← hB]; exact hb1.size
  have HA : Hid (AddsAt w2 B) := by rw [← hB]; exact a2
  have HB : Hid (Below w.heap.size w w2) := below_next hb1 hb2
  rw [hB]
  clear a2 hb2 hb1 s2 hB
  have c1 := HA.out.cell 1 (.int .i64 0) rfl
  have f1 := HA.out.frozen 1
  go_wp2_with fail
  have hW : Exs ((w2.setCell ⟨B + 4, 1, none⟩ (.int .i64 2)).alloc (.cells #[.int .i64 2, .slice (some ⟨B + 4, 0, none⟩) 8 8] 24)) (some ⟨B + 4, 0, none⟩) [⟨1, 2, 0, []⟩, ⟨1, 3, 0, []⟩, ⟨1, 1, 0, []⟩, ⟨4, 0, 0, [1, 2]⟩, ⟨1, 0, 0, []⟩, ⟨1, 1, 0, []⟩, ⟨4, 0, 0, [4, 5]⟩, ⟨5, 7, 2, [0, 3, 6]⟩] := exs_of_row (((show Rw w2 (B + 4) (addsC B) from HA.out.body).set 1 (.int .i64 2)).alloc _) ⟨rfl, rfl, rfl, ⟨_, _, rfl, nums_nil _ _⟩, rfl, rfl, rfl, ⟨_, _, rfl, nums_nil _ _⟩, rfl, rfl, rfl, ⟨_, _, rfl, nums_nil _ _⟩, rfl, rfl, rfl, ⟨_, _, rfl, ((HA.out.k1.other 1 (.int .i64 2) (by omega)).alloc _).nums⟩, rfl, rfl, rfl, ⟨_, _, rfl, nums_nil _ _⟩, rfl, rfl, rfl, ⟨_, _, rfl, nums_nil _ _⟩, rfl, rfl, rfl, ⟨_, _, rfl, ((HA.out.k2.other 1 (.int .i64 2) (by omega)).alloc _).nums⟩, rfl, rfl, rfl, ⟨_, _, rfl, ((HA.out.k3.other 1 (.int .i64 2) (by omega)).alloc _).nums⟩, trivial⟩
  have hbW : Below w.heap.size w ((w2.setCell ⟨B + 4, 1, none⟩ (.int .i64 2)).alloc (.cells #[.int .i64 2, .slice (some ⟨B + 4, 0, none⟩) 8 8] 24)) := ((HB.out.setCell (p := ⟨B + 4, 1, none⟩) (by show w.heap.size ≤ B + 4; omega) (.int .i64 2)).alloc (by first | omega | (simp; omega)) _)
  have q0 := cell_new (w2.setCell ⟨B + 4, 1, none⟩ (.int .i64 2)) #[.int .i64 2, .slice (some ⟨B + 4, 0, none⟩) 8 8] 24 0 _ rfl
  have q1 := cell_new (w2.setCell ⟨B + 4, 1, none⟩ (.int .i64 2)) #[.int .i64 2, .slice (some ⟨B + 4, 0, none⟩) 8 8] 24 1 _ rfl
  simp only [World.size_setCell] at q0 q1
  have hlz : w2.heap.size < ((w2.setCell ⟨B + 4, 1, none⟩ (.int .i64 2)).alloc (.cells #[.int .i64 2, .slice (some ⟨B + 4, 0, none⟩) 8 8] 24)).heap.size := by simp only [World.size_alloc, World.size_setCell]; omega
  obtain ⟨W, hWe⟩ : ∃ W, ((w2.setCell ⟨B + 4, 1, none⟩ (.int .i64 2)).alloc (.cells #[.int .i64 2, .slice (some ⟨B + 4, 0, none⟩) 8 8] 24)) = W := ⟨_, rfl⟩
  rw [hWe] at hW hbW q0 q1 hlz ⊢
  clear hWe HA HB c1 f1
  refine (adds_any _).mono ?_
  rintro e w7 ⟨rfl, a7, hb7, s7⟩
  have h7 := below_next hbW hb7
  have hW7 := hW.on hb7
  have q2 := (hb7.cell (p := ⟨w2.heap.size, 0, none⟩) hlz).trans q0
  have q3 := (hb7.cell (p := ⟨w2.heap.size, 1, none⟩) hlz).trans q1
  have hlz7 := Nat.lt_of_lt_of_le hlz hb7.size
  clear hb7 hbW q0 q1 hW s7
  go_wp2_with fail
  refine (may_any 2 _ 8 addsL w7 a7.exs).mono ?_
  rintro e w8 ⟨rfl, hb8⟩
  rw [may_adds]
  have h8 := below_next h7 hb8
  have hW8 := hW7.on hb8
  have q4 := (hb8.cell (p := ⟨w2.heap.size, 0, none⟩) hlz7).trans q2
  have q5 := (hb8.cell (p := ⟨w2.heap.size, 1, none⟩) hlz7).trans q3
  clear hb8 h7 q2 q3 hW7 a7
  go_wp2_with fail
  refine (may_any 2 (some ⟨B + 4, 0, none⟩) 8 [⟨1, 2, 0, []⟩, ⟨1, 3, 0, []⟩, ⟨1, 1, 0, []⟩, ⟨4, 0, 0, [1, 2]⟩, ⟨1, 0, 0, []⟩, ⟨1, 1, 0, []⟩, ⟨4, 0, 0, [4, 5]⟩, ⟨5, 7, 2, [0, 3, 6]⟩] w8 hW8).mono ?_
  rintro e w9 ⟨rfl, hb9⟩
  rw [no_6]
  have h9 := below_next h8 hb9
  clear hb9 h8 q4 q5 hW8
  go_wp2_with (go_at_call 14; refine (num_any _ _).mono ?_; rintro e w' ⟨rfl, rfl⟩)
  go_ret
  exact ⟨rfl, h9⟩
set_option maxRecDepth 100000 in
set_option maxHeartbeats 1600000 in
theorem form_7 (a0 a1 : Int) (d : Nat) (hd : bits .and .i64 a1 1023 = (d : Int)) (hd1 : d < 1024) (hr : (IntKind.u64.wrap a0).tmod 24 = 7) (w : World) :
    Calls Try.prog 4 #[.int .i64 a0, .int .i64 a1] w fun e w' => e = .returned (.bool true) ∧ Below w.heap.size w w' := by
  go_enter Try.func4, Try.ntmps4
  go_wp2_with fail
  refine (awake_any _).mono ?_
  rintro e w1 ⟨rfl, hb1⟩
  go_wp2_with fail
  refine (adds_any _).mono ?_
  rintro e w2 ⟨rfl, a2, hb2, s2⟩
  obtain ⟨B, hB⟩ : ∃ B, w1.heap.size = B := ⟨_, rfl⟩
  have hBz := a2.lt
  rw [hB] at hBz
  have hBz' : B + 4 < w2.heap.size + 1 := by omega
  have hwB : w.heap.size ≤ B := by rw [← hB]; exact hb1.size
  have HA : Hid (AddsAt w2 B) := by rw [← hB]; exact a2
  have HB : Hid (Below w.heap.size w w2) := below_next hb1 hb2
  rw [hB]
  clear a2 hb2 hb1 s2 hB
  have c1 := HA.out.cell 1 (.int .i64 0) rfl
  have f1 := HA.out.frozen 1
  go_wp2_with fail
  have hW : Exs ((w2.setCell ⟨B + 4, 1, none⟩ (.int .i64 (-(1 + (d : Int))))).alloc (.cells #[.int .i64 2, .slice (some ⟨B + 4, 0, none⟩) 8 8] 24)) (some ⟨B + 4, 0, none⟩) [⟨1, (-(1 + (d : Int))), 0, []⟩, ⟨1, 3, 0, []⟩, ⟨1, 1, 0, []⟩, ⟨4, 0, 0, [1, 2]⟩, ⟨1, 0, 0, []⟩, ⟨1, 1, 0, []⟩, ⟨4, 0, 0, [4, 5]⟩, ⟨5, 7, 2, [0, 3, 6]⟩] := exs_of_row (((show Rw w2 (B + 4) (addsC B) from HA.out.body).set 1 (.int .i64 (-(1 + (d : Int))))).alloc _) ⟨rfl, rfl, rfl, ⟨_, _, rfl, nums_nil _ _⟩, rfl, rfl, rfl, ⟨_, _, rfl, nums_nil _ _⟩, rfl, rfl, rfl, ⟨_, _, rfl, nums_nil _ _⟩, rfl, rfl, rfl, ⟨_, _, rfl, ((HA.out.k1.other 1 (.int .i64 (-(1 + (d : Int)))) (by omega)).alloc _).nums⟩, rfl, rfl, rfl, ⟨_, _, rfl, nums_nil _ _⟩, rfl, rfl, rfl, ⟨_, _, rfl, nums_nil _ _⟩, rfl, rfl, rfl, ⟨_, _, rfl, ((HA.out.k2.other 1 (.int .i64 (-(1 + (d : Int)))) (by omega)).alloc _).nums⟩, rfl, rfl, rfl, ⟨_, _, rfl, ((HA.out.k3.other 1 (.int .i64 (-(1 + (d : Int)))) (by omega)).alloc _).nums⟩, trivial⟩
  have hbW : Below w.heap.size w ((w2.setCell ⟨B + 4, 1, none⟩ (.int .i64 (-(1 + (d : Int))))).alloc (.cells #[.int .i64 2, .slice (some ⟨B + 4, 0, none⟩) 8 8] 24)) := ((HB.out.setCell (p := ⟨B + 4, 1, none⟩) (by show w.heap.size ≤ B + 4; omega) (.int .i64 (-(1 + (d : Int))))).alloc (by first | omega | (simp; omega)) _)
  have q0 := cell_new (w2.setCell ⟨B + 4, 1, none⟩ (.int .i64 (-(1 + (d : Int))))) #[.int .i64 2, .slice (some ⟨B + 4, 0, none⟩) 8 8] 24 0 _ rfl
  have q1 := cell_new (w2.setCell ⟨B + 4, 1, none⟩ (.int .i64 (-(1 + (d : Int))))) #[.int .i64 2, .slice (some ⟨B + 4, 0, none⟩) 8 8] 24 1 _ rfl
  simp only [World.size_setCell] at q0 q1
  have hlz : w2.heap.size < ((w2.setCell ⟨B + 4, 1, none⟩ (.int .i64 (-(1 + (d : Int))))).alloc (.cells #[.int .i64 2, .slice (some ⟨B + 4, 0, none⟩) 8 8] 24)).heap.size := by simp only [World.size_alloc, World.size_setCell]; omega
  obtain ⟨W, hWe⟩ : ∃ W, ((w2.setCell ⟨B + 4, 1, none⟩ (.int .i64 (-(1 + (d : Int))))).alloc (.cells #[.int .i64 2, .slice (some ⟨B + 4, 0, none⟩) 8 8] 24)) = W := ⟨_, rfl⟩
  rw [hWe] at hW hbW q0 q1 hlz ⊢
  clear hWe HA HB c1 f1
  refine (adds_any _).mono ?_
  rintro e w7 ⟨rfl, a7, hb7, s7⟩
  have h7 := below_next hbW hb7
  have hW7 := hW.on hb7
  have q2 := (hb7.cell (p := ⟨w2.heap.size, 0, none⟩) hlz).trans q0
  have q3 := (hb7.cell (p := ⟨w2.heap.size, 1, none⟩) hlz).trans q1
  have hlz7 := Nat.lt_of_lt_of_le hlz hb7.size
  clear hb7 hbW q0 q1 hW s7
  go_wp2_with fail
  refine (may_any 2 _ 8 addsL w7 a7.exs).mono ?_
  rintro e w8 ⟨rfl, hb8⟩
  rw [may_adds]
  have h8 := below_next h7 hb8
  have hW8 := hW7.on hb8
  have q4 := (hb8.cell (p := ⟨w2.heap.size, 0, none⟩) hlz7).trans q2
  have q5 := (hb8.cell (p := ⟨w2.heap.size, 1, none⟩) hlz7).trans q3
  clear hb8 h7 q2 q3 hW7 a7
  go_wp2_with fail
  refine (may_any 2 (some ⟨B + 4, 0, none⟩) 8 [⟨1, (-(1 + (d : Int))), 0, []⟩, ⟨1, 3, 0, []⟩, ⟨1, 1, 0, []⟩, ⟨4, 0, 0, [1, 2]⟩, ⟨1, 0, 0, []⟩, ⟨1, 1, 0, []⟩, ⟨4, 0, 0, [4, 5]⟩, ⟨5, 7, 2, [0, 3, 6]⟩] w8 hW8).mono ?_
  rintro e w9 ⟨rfl, hb9⟩
  rw [no_7 d]
  have h9 := below_next h8 hb9
  clear hb9 h8 q4 q5 hW8
  go_wp2_with (go_at_call 14; refine (num_any _ _).mono ?_; rintro e w' ⟨rfl, rfl⟩)
  go_ret
  exact ⟨rfl, h9⟩
set_option maxRecDepth 100000 in
set_option maxHeartbeats 1600000 in
theorem form_8 (a0 a1 : Int) (d : Nat) (hd : bits .and .i64 a1 1023 = (d : Int)) (hd1 : d < 1024) (hr : (IntKind.u64.wrap a0).tmod 24 = 8) (w : World) :
    Calls Try.prog 4 #[.int .i64 a0, .int .i64 a1] w fun e w' => e = .returned (.bool true) ∧ Below w.heap.size w w' := by
  go_enter Try.func4, Try.ntmps4
  go_wp2_with fail
  refine (awake_any _).mono ?_
  rintro e w1 ⟨rfl, hb1⟩
  go_wp2_with fail
  refine (adds_any _).mono ?_
  rintro e w2 ⟨rfl, a2, hb2, s2⟩
  obtain ⟨B, hB⟩ : ∃ B, w1.heap.size = B := ⟨_, rfl⟩
  have hBz := a2.lt
  rw [hB] at hBz
  have hBz' : B + 4 < w2.heap.size + 1 := by omega
  have hwB : w.heap.size ≤ B := by rw [← hB]; exact hb1.size
  have HA : Hid (AddsAt w2 B) := by rw [← hB]; exact a2
  have HB : Hid (Below w.heap.size w w2) := below_next hb1 hb2
  rw [hB]
  clear a2 hb2 hb1 s2 hB
  have c2 := HA.out.cell 2 (.int .i64 0) rfl
  have f2 := HA.out.frozen 2
  go_wp2_with fail
  have hW : Exs ((w2.setCell ⟨B + 4, 2, none⟩ (.int .i64 (1 + (d : Int)))).alloc (.cells #[.int .i64 2, .slice (some ⟨B + 4, 0, none⟩) 8 8] 24)) (some ⟨B + 4, 0, none⟩) [⟨1, 0, (1 + (d : Int)), []⟩, ⟨1, 3, 0, []⟩, ⟨1, 1, 0, []⟩, ⟨4, 0, 0, [1, 2]⟩, ⟨1, 0, 0, []⟩, ⟨1, 1, 0, []⟩, ⟨4, 0, 0, [4, 5]⟩, ⟨5, 7, 2, [0, 3, 6]⟩] := exs_of_row (((show Rw w2 (B + 4) (addsC B) from HA.out.body).set 2 (.int .i64 (1 + (d : Int)))).alloc _) ⟨rfl, rfl, rfl, ⟨_, _, rfl, nums_nil _ _⟩, rfl, rfl, rfl, ⟨_, _, rfl, nums_nil _ _⟩, rfl, rfl, rfl, ⟨_, _, rfl, nums_nil _ _⟩, rfl, rfl, rfl, ⟨_, _, rfl, ((HA.out.k1.other 2 (.int .i64 (1 + (d : Int))) (by omega)).alloc _).nums⟩, rfl, rfl, rfl, ⟨_, _, rfl, nums_nil _ _⟩, rfl, rfl, rfl, ⟨_, _, rfl, nums_nil _ _⟩, rfl, rfl, rfl, ⟨_, _, rfl, ((HA.out.k2.other 2 (.int .i64 (1 + (d : Int))) (by omega)).alloc _).nums⟩, rfl, rfl, rfl, ⟨_, _, rfl, ((HA.out.k3.other 2 (.int .i64 (1 + (d : Int))) (by omega)).alloc _).nums⟩, trivial⟩
  have hbW : Below w.heap.size w ((w2.setCell ⟨B + 4, 2, none⟩ (.int .i64 (1 + (d : Int)))).alloc (.cells #[.int .i64 2, .slice (some ⟨B + 4, 0, none⟩) 8 8] 24)) := ((HB.out.setCell (p := ⟨B + 4, 2, none⟩) (by show w.heap.size ≤ B + 4; omega) (.int .i64 (1 + (d : Int)))).alloc (by first | omega | (simp; omega)) _)
  have q0 := cell_new (w2.setCell ⟨B + 4, 2, none⟩ (.int .i64 (1 + (d : Int)))) #[.int .i64 2, .slice (some ⟨B + 4, 0, none⟩) 8 8] 24 0 _ rfl
  have q1 := cell_new (w2.setCell ⟨B + 4, 2, none⟩ (.int .i64 (1 + (d : Int)))) #[.int .i64 2, .slice (some ⟨B + 4, 0, none⟩) 8 8] 24 1 _ rfl
  simp only [World.size_setCell] at q0 q1
  have hlz : w2.heap.size < ((w2.setCell ⟨B + 4, 2, none⟩ (.int .i64 (1 + (d : Int)))).alloc (.cells #[.int .i64 2, .slice (some ⟨B + 4, 0, none⟩) 8 8] 24)).heap.size := by simp only [World.size_alloc, World.size_setCell]; omega
  obtain ⟨W, hWe⟩ : ∃ W, ((w2.setCell ⟨B + 4, 2, none⟩ (.int .i64 (1 + (d : Int)))).alloc (.cells #[.int .i64 2, .slice (some ⟨B + 4, 0, none⟩) 8 8] 24)) = W := ⟨_, rfl⟩
  rw [hWe] at hW hbW q0 q1 hlz ⊢
  clear hWe HA HB c2 f2
  refine (adds_any _).mono ?_
  rintro e w7 ⟨rfl, a7, hb7, s7⟩
  have h7 := below_next hbW hb7
  have hW7 := hW.on hb7
  have q2 := (hb7.cell (p := ⟨w2.heap.size, 0, none⟩) hlz).trans q0
  have q3 := (hb7.cell (p := ⟨w2.heap.size, 1, none⟩) hlz).trans q1
  have hlz7 := Nat.lt_of_lt_of_le hlz hb7.size
  clear hb7 hbW q0 q1 hW s7
  go_wp2_with fail
  refine (may_any 2 _ 8 addsL w7 a7.exs).mono ?_
  rintro e w8 ⟨rfl, hb8⟩
  rw [may_adds]
  have h8 := below_next h7 hb8
  have hW8 := hW7.on hb8
  have q4 := (hb8.cell (p := ⟨w2.heap.size, 0, none⟩) hlz7).trans q2
  have q5 := (hb8.cell (p := ⟨w2.heap.size, 1, none⟩) hlz7).trans q3
  clear hb8 h7 q2 q3 hW7 a7
  go_wp2_with fail
  refine (may_any 2 (some ⟨B + 4, 0, none⟩) 8 [⟨1, 0, (1 + (d : Int)), []⟩, ⟨1, 3, 0, []⟩, ⟨1, 1, 0, []⟩, ⟨4, 0, 0, [1, 2]⟩, ⟨1, 0, 0, []⟩, ⟨1, 1, 0, []⟩, ⟨4, 0, 0, [4, 5]⟩, ⟨5, 7, 2, [0, 3, 6]⟩] w8 hW8).mono ?_
  rintro e w9 ⟨rfl, hb9⟩
  rw [no_8 d]
  have h9 := below_next h8 hb9
  clear hb9 h8 q4 q5 hW8
  go_wp2_with (go_at_call 14; refine (num_any _ _).mono ?_; rintro e w' ⟨rfl, rfl⟩)
  go_ret
  exact ⟨rfl, h9⟩
set_option maxRecDepth 100000 in
set_option maxHeartbeats 1600000 in
theorem form_9 (a0 a1 : Int) (d : Nat) (hd : bits .and .i64 a1 1023 = (d : Int)) (hd1 : d < 1024) (hr : (IntKind.u64.wrap a0).tmod 24 = 9) (w : World) :
    Calls Try.prog 4 #[.int .i64 a0, .int .i64 a1] w fun e w' => e = .returned (.bool true) ∧ Below w.heap.size w w' := by
  go_enter Try.func4, Try.ntmps4
  go_wp2_with fail
  refine (awake_any _).mono ?_
  rintro e w1 ⟨rfl, hb1⟩
  go_wp2_with fail
  refine (adds_any _).mono ?_
  rintro e w2 ⟨rfl, a2, hb2, s2⟩
  obtain ⟨B, hB⟩ : ∃ B, w1.heap.size = B := ⟨_, rfl⟩
  have hBz := a2.lt
  rw [hB] at hBz
  have hBz' : B + 4 < w2.heap.size + 1 := by omega
  have hwB : w.heap.size ≤ B := by rw [← hB]; exact hb1.size
  have HA : Hid (AddsAt w2 B) := by rw [← hB]; exact a2
  have HB : Hid (Below w.heap.size w w2) := below_next hb1 hb2
  rw [hB]
  clear a2 hb2 hb1 s2 hB
  have c3 := HA.out.cell 3 (.slice none 0 0) rfl
  have f3 := HA.out.frozen 3
  go_wp2_with fail
  have hkl := Lv.new ((w2.setCell ⟨B + 4, 3, none⟩ (.slice (some ⟨w2.heap.size + 1, 0, none⟩) 1 1)).alloc (.cells #[.int .i64 2, .slice (some ⟨B + 4, 0, none⟩) 8 8] 24)) [0]
  simp only [World.size_alloc, World.size_setCell] at hkl
  have hW : Exs (((w2.setCell ⟨B + 4, 3, none⟩ (.slice (some ⟨w2.heap.size + 1, 0, none⟩) 1 1)).alloc (.cells #[.int .i64 2, .slice (some ⟨B + 4, 0, none⟩) 8 8] 24)).alloc (.cells #[.int .i64 0] 3)) (some ⟨B + 4, 0, none⟩) [⟨1, 0, 0, [0]⟩, ⟨1, 3, 0, []⟩, ⟨1, 1, 0, []⟩, ⟨4, 0, 0, [1, 2]⟩, ⟨1, 0, 0, []⟩, ⟨1, 1, 0, []⟩, ⟨4, 0, 0, [4, 5]⟩, ⟨5, 7, 2, [0, 3, 6]⟩] := exs_of_row ((((show Rw w2 (B + 4) (addsC B) from HA.out.body).set 3 (.slice (some ⟨w2.heap.size + 1, 0, none⟩) 1 1)).alloc _).alloc _) ⟨rfl, rfl, rfl, ⟨_, _, rfl, hkl.nums⟩, rfl, rfl, rfl, ⟨_, _, rfl, nums_nil _ _⟩, rfl, rfl, rfl, ⟨_, _, rfl, nums_nil _ _⟩, rfl, rfl, rfl, ⟨_, _, rfl, (((HA.out.k1.other 3 (.slice (some ⟨w2.heap.size + 1, 0, none⟩) 1 1) (by omega)).alloc _).alloc _).nums⟩, rfl, rfl, rfl, ⟨_, _, rfl, nums_nil _ _⟩, rfl, rfl, rfl, ⟨_, _, rfl, nums_nil _ _⟩, rfl, rfl, rfl, ⟨_, _, rfl, (((HA.out.k2.other 3 (.slice (some ⟨w2.heap.size + 1, 0, none⟩) 1 1) (by omega)).alloc _).alloc _).nums⟩, rfl, rfl, rfl, ⟨_, _, rfl, (((HA.out.k3.other 3 (.slice (some ⟨w2.heap.size + 1, 0, none⟩) 1 1) (by omega)).alloc _).alloc _).nums⟩, trivial⟩
  have hbW : Below w.heap.size w (((w2.setCell ⟨B + 4, 3, none⟩ (.slice (some ⟨w2.heap.size + 1, 0, none⟩) 1 1)).alloc (.cells #[.int .i64 2, .slice (some ⟨B + 4, 0, none⟩) 8 8] 24)).alloc (.cells #[.int .i64 0] 3)) := (((HB.out.setCell (p := ⟨B + 4, 3, none⟩) (by show w.heap.size ≤ B + 4; omega) (.slice (some ⟨w2.heap.size + 1, 0, none⟩) 1 1)).alloc (by first | omega | (simp; omega)) _).alloc (by first | omega | (simp; omega)) _)
  have q0 := cell_old (.cells #[.int .i64 0] 3) (cell_new (w2.setCell ⟨B + 4, 3, none⟩ (.slice (some ⟨w2.heap.size + 1, 0, none⟩) 1 1)) #[.int .i64 2, .slice (some ⟨B + 4, 0, none⟩) 8 8] 24 0 _ rfl)
  have q1 := cell_old (.cells #[.int .i64 0] 3) (cell_new (w2.setCell ⟨B + 4, 3, none⟩ (.slice (some ⟨w2.heap.size + 1, 0, none⟩) 1 1)) #[.int .i64 2, .slice (some ⟨B + 4, 0, none⟩) 8 8] 24 1 _ rfl)
  simp only [World.size_setCell] at q0 q1
  have hlz : w2.heap.size < (((w2.setCell ⟨B + 4, 3, none⟩ (.slice (some ⟨w2.heap.size + 1, 0, none⟩) 1 1)).alloc (.cells #[.int .i64 2, .slice (some ⟨B + 4, 0, none⟩) 8 8] 24)).alloc (.cells #[.int .i64 0] 3)).heap.size := by simp only [World.size_alloc, World.size_setCell]; omega
  obtain ⟨W, hWe⟩ : ∃ W, (((w2.setCell ⟨B + 4, 3, none⟩ (.slice (some ⟨w2.heap.size + 1, 0, none⟩) 1 1)).alloc (.cells #[.int .i64 2, .slice (some ⟨B + 4, 0, none⟩) 8 8] 24)).alloc (.cells #[.int .i64 0] 3)) = W := ⟨_, rfl⟩
  rw [hWe] at hW hbW q0 q1 hlz ⊢
  clear hWe HA HB c3 f3 hkl
  refine (adds_any _).mono ?_
  rintro e w7 ⟨rfl, a7, hb7, s7⟩
  have h7 := below_next hbW hb7
  have hW7 := hW.on hb7
  have q2 := (hb7.cell (p := ⟨w2.heap.size, 0, none⟩) hlz).trans q0
  have q3 := (hb7.cell (p := ⟨w2.heap.size, 1, none⟩) hlz).trans q1
  have hlz7 := Nat.lt_of_lt_of_le hlz hb7.size
  clear hb7 hbW q0 q1 hW s7
  go_wp2_with fail
  refine (may_any 2 _ 8 addsL w7 a7.exs).mono ?_
  rintro e w8 ⟨rfl, hb8⟩
  rw [may_adds]
  have h8 := below_next h7 hb8
  have hW8 := hW7.on hb8
  have q4 := (hb8.cell (p := ⟨w2.heap.size, 0, none⟩) hlz7).trans q2
  have q5 := (hb8.cell (p := ⟨w2.heap.size, 1, none⟩) hlz7).trans q3
  clear hb8 h7 q2 q3 hW7 a7
  go_wp2_with fail
  refine (may_any 2 (some ⟨B + 4, 0, none⟩) 8 [⟨1, 0, 0, [0]⟩, ⟨1, 3, 0, []⟩, ⟨1, 1, 0, []⟩, ⟨4, 0, 0, [1, 2]⟩, ⟨1, 0, 0, []⟩, ⟨1, 1, 0, []⟩, ⟨4, 0, 0, [4, 5]⟩, ⟨5, 7, 2, [0, 3, 6]⟩] w8 hW8).mono ?_
  rintro e w9 ⟨rfl, hb9⟩
  rw [no_9]
  have h9 := below_next h8 hb9
  clear hb9 h8 q4 q5 hW8
  go_wp2_with (go_at_call 14; refine (num_any _ _).mono ?_; rintro e w' ⟨rfl, rfl⟩)
  go_ret
  exact ⟨rfl, h9⟩
set_option maxRecDepth 100000 in
set_option maxHeartbeats 1600000 in
theorem form_10 (a0 a1 : Int) (d : Nat) (hd : bits .and .i64 a1 1023 = (d : Int)) (hd1 : d < 1024) (hr : (IntKind.u64.wrap a0).tmod 24 = 10) (w : World) :
    Calls Try.prog 4 #[.int .i64 a0, .int .i64 a1] w fun e w' => e = .returned (.bool true) ∧ Below w.heap.size w w' := by
  go_enter Try.func4, Try.ntmps4
  go_wp2_with fail
  refine (awake_any _).mono ?_
  rintro e w1 ⟨rfl, hb1⟩
  go_wp2_with fail
  refine (adds_any _).mono ?_
  rintro e w2 ⟨rfl, a2, hb2, s2⟩
  obtain ⟨B, hB⟩ : ∃ B, w1.heap.size = B := ⟨_, rfl⟩
  have hBz := a2.lt
  rw [hB] at hBz
  have hBz' : B + 4 < w2.heap.size + 1 := by omega
  have hwB : w.heap.size ≤ B := by rw [← hB]; exact hb1.size
  have HA : Hid (AddsAt w2 B) := by rw [← hB]; exact a2
  have HB : Hid (Below w.heap.size w w2) := below_next hb1 hb2
  rw [hB]
  clear a2 hb2 hb1 s2 hB
  have c13 := HA.out.cell 13 (.int .i64 0) rfl
  have f13 := HA.out.frozen 13
  go_wp2_with fail
  have hW : Exs ((w2.setCell ⟨B + 4, 13, none⟩ (.int .i64 (4 + (1 + (d : Int))))).alloc (.cells #[.int .i64 2, .slice (some ⟨B + 4, 0, none⟩) 8 8] 24)) (some ⟨B + 4, 0, none⟩) [⟨1, 0, 0, []⟩, ⟨1, 3, 0, []⟩, ⟨1, 1, 0, []⟩, ⟨4, (4 + (1 + (d : Int))), 0, [1, 2]⟩, ⟨1, 0, 0, []⟩, ⟨1, 1, 0, []⟩, ⟨4, 0, 0, [4, 5]⟩, ⟨5, 7, 2, [0, 3, 6]⟩] := exs_of_row (((show Rw w2 (B + 4) (addsC B) from HA.out.body).set 13 (.int .i64 (4 + (1 + (d : Int))))).alloc _) ⟨rfl, rfl, rfl, ⟨_, _, rfl, nums_nil _ _⟩, rfl, rfl, rfl, ⟨_, _, rfl, nums_nil _ _⟩, rfl, rfl, rfl, ⟨_, _, rfl, nums_nil _ _⟩, rfl, rfl, rfl, ⟨_, _, rfl, ((HA.out.k1.other 13 (.int .i64 (4 + (1 + (d : Int)))) (by omega)).alloc _).nums⟩, rfl, rfl, rfl, ⟨_, _, rfl, nums_nil _ _⟩, rfl, rfl, rfl, ⟨_, _, rfl, nums_nil _ _⟩, rfl, rfl, rfl, ⟨_, _, rfl, ((HA.out.k2.other 13 (.int .i64 (4 + (1 + (d : Int)))) (by omega)).alloc _).nums⟩, rfl, rfl, rfl, ⟨_, _, rfl, ((HA.out.k3.other 13 (.int .i64 (4 + (1 + (d : Int)))) (by omega)).alloc _).nums⟩, trivial⟩
  have hbW : Below w.heap.size w ((w2.setCell ⟨B + 4, 13, none⟩ (.int .i64 (4 + (1 + (d : Int))))).alloc (.cells #[.int .i64 2, .slice (some ⟨B + 4, 0, none⟩) 8 8] 24)) := ((HB.out.setCell (p := ⟨B + 4, 13, none⟩) (by show w.heap.size ≤ B + 4; omega) (.int .i64 (4 + (1 + (d : Int))))).alloc (by first | omega | (simp; omega)) _)
  have q0 := cell_new (w2.setCell ⟨B + 4, 13, none⟩ (.int .i64 (4 + (1 + (d : Int))))) #[.int .i64 2, .slice (some ⟨B + 4, 0, none⟩) 8 8] 24 0 _ rfl
  have q1 := cell_new (w2.setCell ⟨B + 4, 13, none⟩ (.int .i64 (4 + (1 + (d : Int))))) #[.int .i64 2, .slice (some ⟨B + 4, 0, none⟩) 8 8] 24 1 _ rfl
  simp only [World.size_setCell] at q0 q1
  have hlz : w2.heap.size < ((w2.setCell ⟨B + 4, 13, none⟩ (.int .i64 (4 + (1 + (d : Int))))).alloc (.cells #[.int .i64 2, .slice (some ⟨B + 4, 0, none⟩) 8 8] 24)).heap.size := by simp only [World.size_alloc, World.size_setCell]; omega
  obtain ⟨W, hWe⟩ : ∃ W, ((w2.setCell ⟨B + 4, 13, none⟩ (.int .i64 (4 + (1 + (d : Int))))).alloc (.cells #[.int .i64 2, .slice (some ⟨B + 4, 0, none⟩) 8 8] 24)) = W := ⟨_, rfl⟩
  rw [hWe] at hW hbW q0 q1 hlz ⊢
  clear hWe HA HB c13 f13
  refine (adds_any _).mono ?_
  rintro e w7 ⟨rfl, a7, hb7, s7⟩
  have h7 := below_next hbW hb7
  have hW7 := hW.on hb7
  have q2 := (hb7.cell (p := ⟨w2.heap.size, 0, none⟩) hlz).trans q0
  have q3 := (hb7.cell (p := ⟨w2.heap.size, 1, none⟩) hlz).trans q1
  have hlz7 := Nat.lt_of_lt_of_le hlz hb7.size
  clear hb7 hbW q0 q1 hW s7
  go_wp2_with fail
  refine (may_any 2 _ 8 addsL w7 a7.exs).mono ?_
  rintro e w8 ⟨rfl, hb8⟩
  rw [may_adds]
  have h8 := below_next h7 hb8
  have hW8 := hW7.on hb8
  have q4 := (hb8.cell (p := ⟨w2.heap.size, 0, none⟩) hlz7).trans q2
  have q5 := (hb8.cell (p := ⟨w2.heap.size, 1, none⟩) hlz7).trans q3
  clear hb8 h7 q2 q3 hW7 a7
  go_wp2_with fail
  refine (may_any 2 (some ⟨B + 4, 0, none⟩) 8 [⟨1, 0, 0, []⟩, ⟨1, 3, 0, []⟩, ⟨1, 1, 0, []⟩, ⟨4, (4 + (1 + (d : Int))), 0, [1, 2]⟩, ⟨1, 0, 0, []⟩, ⟨1, 1, 0, []⟩, ⟨4, 0, 0, [4, 5]⟩, ⟨5, 7, 2, [0, 3, 6]⟩] w8 hW8).mono ?_
  rintro e w9 ⟨rfl, hb9⟩
  rw [no_10 d]
  have h9 := below_next h8 hb9
  clear hb9 h8 q4 q5 hW8
  go_wp2_with (go_at_call 14; refine (num_any _ _).mono ?_; rintro e w' ⟨rfl, rfl⟩)
  go_ret
  exact ⟨rfl, h9⟩
set_option maxRecDepth 100000 in
set_option maxHeartbeats 1600000 in
theorem form_11 (a0 a1 : Int) (d : Nat) (hd : bits .and .i64 a1 1023 = (d : Int)) (hd1 : d < 1024) (hr : (IntKind.u64.wrap a0).tmod 24 = 11) (w : World) :
    Calls Try.prog 4 #[.int .i64 a0, .int .i64 a1] w fun e w' => e = .returned (.bool true) ∧ Below w.heap.size w w' := by
  go_enter Try.func4, Try.ntmps4
  go_wp2_with fail
  refine (awake_any _).mono ?_
  rintro e w1 ⟨rfl, hb1⟩
  go_wp2_with fail
  refine (adds_any _).mono ?_
  rintro e w2 ⟨rfl, a2, hb2, s2⟩
  obtain ⟨B, hB⟩ : ∃ B, w1.heap.size = B := ⟨_, rfl⟩
  have hBz := a2.lt
  rw [hB] at hBz
  have hBz' : B + 4 < w2.heap.size + 1 := by omega
  have hwB : w.heap.size ≤ B := by rw [← hB]; exact hb1.size
  have HA : Hid (AddsAt w2 B) := by rw [← hB]; exact a2
  have HB : Hid (Below w.heap.size w w2) := below_next hb1 hb2
  rw [hB]
  clear a2 hb2 hb1 s2 hB
  have c15 := HA.out.cell 15 (.slice (some ⟨B + 1, 0, none⟩) 2 2) rfl
  have f15 := HA.out.frozen 15
  go_wp2_with fail
  have hkl := Lv.new ((w2.setCell ⟨B + 4, 15, none⟩ (.slice (some ⟨w2.heap.size + 1, 0, none⟩) 1 1)).alloc (.cells #[.int .i64 2, .slice (some ⟨B + 4, 0, none⟩) 8 8] 24)) [1]
  simp only [World.size_alloc, World.size_setCell] at hkl
  have hW : Exs (((w2.setCell ⟨B + 4, 15, none⟩ (.slice (some ⟨w2.heap.size + 1, 0, none⟩) 1 1)).alloc (.cells #[.int .i64 2, .slice (some ⟨B + 4, 0, none⟩) 8 8] 24)).alloc (.cells #[.int .i64 1] 3)) (some ⟨B + 4, 0, none⟩) [⟨1, 0, 0, []⟩, ⟨1, 3, 0, []⟩, ⟨1, 1, 0, []⟩, ⟨4, 0, 0, [1]⟩, ⟨1, 0, 0, []⟩, ⟨1, 1, 0, []⟩, ⟨4, 0, 0, [4, 5]⟩, ⟨5, 7, 2, [0, 3, 6]⟩] := exs_of_row ((((show Rw w2 (B + 4) (addsC B) from HA.out.body).set 15 (.slice (some ⟨w2.heap.size + 1, 0, none⟩) 1 1)).alloc _).alloc _) ⟨rfl, rfl, rfl, ⟨_, _, rfl, nums_nil _ _⟩, rfl, rfl, rfl, ⟨_, _, rfl, nums_nil _ _⟩, rfl, rfl, rfl, ⟨_, _, rfl, nums_nil _ _⟩, rfl, rfl, rfl, ⟨_, _, rfl, hkl.nums⟩, rfl, rfl, rfl, ⟨_, _, rfl, nums_nil _ _⟩, rfl, rfl, rfl, ⟨_, _, rfl, nums_nil _ _⟩, rfl, rfl, rfl, ⟨_, _, rfl, (((HA.out.k2.other 15 (.slice (some ⟨w2.heap.size + 1, 0, none⟩) 1 1) (by omega)).alloc _).alloc _).nums⟩, rfl, rfl, rfl, ⟨_, _, rfl, (((HA.out.k3.other 15 (.slice (some ⟨w2.heap.size + 1, 0, none⟩) 1 1) (by omega)).alloc _).alloc _).nums⟩, trivial⟩
  have hbW : Below w.heap.size w (((w2.setCell ⟨B + 4, 15, none⟩ (.slice (some ⟨w2.heap.size + 1, 0, none⟩) 1 1)).alloc (.cells #[.int .i64 2, .slice (some ⟨B + 4, 0, none⟩) 8 8] 24)).alloc (.cells #[.int .i64 1] 3)) := (((HB.out.setCell (p := ⟨B + 4, 15, none⟩) (by show w.heap.size ≤ B + 4; omega) (.slice (some ⟨w2.heap.size + 1, 0, none⟩) 1 1)).alloc (by first | omega | (simp; omega)) _).alloc (by first | omega | (simp; omega)) _)
  have q0 := cell_old (.cells #[.int .i64 1] 3) (cell_new (w2.setCell ⟨B + 4, 15, none⟩ (.slice (some ⟨w2.heap.size + 1, 0, none⟩) 1 1)) #[.int .i64 2, .slice (some ⟨B + 4, 0, none⟩) 8 8] 24 0 _ rfl)
  have q1 := cell_old (.cells #[.int .i64 1] 3) (cell_new (w2.setCell ⟨B + 4, 15, none⟩ (.slice (some ⟨w2.heap.size + 1, 0, none⟩) 1 1)) #[.int .i64 2, .slice (some ⟨B + 4, 0, none⟩) 8 8] 24 1 _ rfl)
  simp only [World.size_setCell] at q0 q1
  have hlz : w2.heap.size < (((w2.setCell ⟨B + 4, 15, none⟩ (.slice (some ⟨w2.heap.size + 1, 0, none⟩) 1 1)).alloc (.cells #[.int .i64 2, .slice (some ⟨B + 4, 0, none⟩) 8 8] 24)).alloc (.cells #[.int .i64 1] 3)).heap.size := by simp only [World.size_alloc, World.size_setCell]; omega
  obtain ⟨W, hWe⟩ : ∃ W, (((w2.setCell ⟨B + 4, 15, none⟩ (.slice (some ⟨w2.heap.size + 1, 0, none⟩) 1 1)).alloc (.cells #[.int .i64 2, .slice (some ⟨B + 4, 0, none⟩) 8 8] 24)).alloc (.cells #[.int .i64 1] 3)) = W := ⟨_, rfl⟩
  rw [hWe] at hW hbW q0 q1 hlz ⊢
  clear hWe HA HB c15 f15 hkl
  refine (adds_any _).mono ?_
  rintro e w7 ⟨rfl, a7, hb7, s7⟩
  have h7 := below_next hbW hb7
  have hW7 := hW.on hb7
  have q2 := (hb7.cell (p := ⟨w2.heap.size, 0, none⟩) hlz).trans q0
  have q3 := (hb7.cell (p := ⟨w2.heap.size, 1, none⟩) hlz).trans q1
  have hlz7 := Nat.lt_of_lt_of_le hlz hb7.size
  clear hb7 hbW q0 q1 hW s7
  go_wp2_with fail
  refine (may_any 2 _ 8 addsL w7 a7.exs).mono ?_
  rintro e w8 ⟨rfl, hb8⟩
  rw [may_adds]
  have h8 := below_next h7 hb8
  have hW8 := hW7.on hb8
  have q4 := (hb8.cell (p := ⟨w2.heap.size, 0, none⟩) hlz7).trans q2
  have q5 := (hb8.cell (p := ⟨w2.heap.size, 1, none⟩) hlz7).trans q3
  clear hb8 h7 q2 q3 hW7 a7
  go_wp2_with fail
  refine (may_any 2 (some ⟨B + 4, 0, none⟩) 8 [⟨1, 0, 0, []⟩, ⟨1, 3, 0, []⟩, ⟨1, 1, 0, []⟩, ⟨4, 0, 0, [1]⟩, ⟨1, 0, 0, []⟩, ⟨1, 1, 0, []⟩, ⟨4, 0, 0, [4, 5]⟩, ⟨5, 7, 2, [0, 3, 6]⟩] w8 hW8).mono ?_
  rintro e w9 ⟨rfl, hb9⟩
  rw [no_11]
  have h9 := below_next h8 hb9
  clear hb9 h8 q4 q5 hW8
  go_wp2_with (go_at_call 14; refine (num_any _ _).mono ?_; rintro e w' ⟨rfl, rfl⟩)
  go_ret
  exact ⟨rfl, h9⟩
end Go.Proofs.Ytknbpfaeedapnaa.exprForms
