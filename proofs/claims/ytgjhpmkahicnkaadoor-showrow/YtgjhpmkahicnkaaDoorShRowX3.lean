/- ShowRow: way 3. -/
import Derived.Test.YtgjhpmkahicnkaaDoorShRowN
import Derived.Deep.DrawnRows
import Derived.Deep.RegionHeld3
namespace Go.Proofs.YtgjhpmkahicnkaaDoor.showRow
open Go.RowKit
set_option linter.unusedVariables false
attribute [local go_sem ↓] Go.wp_at_zero Go.wp_at_succ

set_option maxRecDepth 100000 in
set_option maxHeartbeats 12800000 in
theorem form_3 (a0 : Int) (h1 : (bits .and .i64 a0 1 == 1) = true) (h2 : (bits .and .i64 a0 2 == 2) = true) (w : World) (hw : Tm.Lw w) :
    Calls Tryd.prog 5 #[.int .i64 a0] w fun e w' => e = .returned (.bool true) ∧ Below w.heap.size w w' := by
  have HW := hid hw
  have g1 : bits .and .i64 a0 1 = 1 := eq_of_beq h1
  clear h1
  have H2 := hid h2
  clear h2
  go_enter Tryd.func5, Tryd.ntmps5
  go_wp2_with fail
  refine (awake_any _ HW.out).mono ?_
  rintro e w1 ⟨rfl, hb1⟩
  go_wp2_with fail
  refine (small_any _).mono ?_
  rintro e w2 ⟨rfl, a2, hb2, s2⟩
  have hs1 := hb1.size
  have HB : Hid (Below w.heap.size w w2) := Lx.below_next hb1 hb2
  obtain ⟨B, hB⟩ : ∃ B, w1.heap.size = B := ⟨_, rfl⟩
  rw [hB] at a2 s2 hs1 ⊢
  have HA : Hid (SmallAt w2 B) := a2
  have HZ : Hid (w.heap.size ≤ B ∧ w2.heap.size = B + 11) := ⟨hs1, s2⟩
  have l10 : B + 10 < w2.heap.size := by omega
  have l11 : B + 10 < w2.heap.size + 1 := by omega
  have r1 := a2.row.cell 1 (.slice (some ⟨B + 3, 0, none⟩) 5 5) rfl
  have r3 := a2.row.cell 3 (.slice (some ⟨B + 9, 0, none⟩) 8 8) rfl
  have rf := a2.row.frozen
  clear hb1 hb2 hB s2 hs1 a2 hw
  go_wp2_with fail
  have hP : Pre w B w2.heap.size (w2.alloc (Obj.cells #[Value.slice (some { block := B + 10, off := 0 }) 2 2] 24)) :=
    ⟨HA.out.alloc _, Bx1.new _ _, HB.out.alloc HB.out.size _, by simp, HZ.out.2, HZ.out.1⟩
  obtain ⟨Z, hZ⟩ : ∃ Z, w2.heap.size = Z := ⟨_, rfl⟩
  rw [hZ] at hP ⊢
  clear l10 l11 r1 r3 rf HA HB HZ hZ
  refine grabW (fun W => Pre w B Z W) hP (fun W hP => ?_)
  have HP := hid hP
  have HZ : Hid (Z = B + 11) := hP.z
  have HK : Hid (Kp B Z W) := hP.kp
  clear hP
  obtain ⟨e0, e1, e2, e3, e4, e5, e6, e7, e8, e9, e10, e11, e12, e13, e14, e15, e16, e17, e18, e19, e20, e21, e22, e23⟩ := HK.out.all
  go_region_held3 (fun w' => Kp B Z w' ∧ w'.cell? ⟨Z, 0, none⟩ = some (.slice (some ⟨B + 10, 0, none⟩) 2 2) ∧ w'.cell? ⟨B + 10, 3, none⟩ = some (cel w' ⟨B + 10, 3, none⟩) ∧ w'.frozen? ⟨B + 10, 3, none⟩ = false ∧ w'.cell? ⟨B + 9, 0, none⟩ = some (.int .i64 1) ∧ w'.cell? ⟨B + 9, 1, none⟩ = some (.int .i64 0) ∧ w'.cell? ⟨B + 9, 2, none⟩ = some (.int .i64 0) ∧ w'.cell? ⟨B + 9, 3, none⟩ = some (.slice none 0 0) ∧ w'.cell? ⟨B + 9, 4, none⟩ = some (.int .i64 1) ∧ w'.cell? ⟨B + 9, 5, none⟩ = some (.int .i64 3) ∧ w'.cell? ⟨B + 9, 6, none⟩ = some (.int .i64 0) ∧ w'.cell? ⟨B + 9, 7, none⟩ = some (.slice none 0 0) ∧ w'.cell? ⟨B + 9, 8, none⟩ = some (.int .i64 1) ∧ w'.cell? ⟨B + 9, 9, none⟩ = some (.int .i64 1) ∧ w'.cell? ⟨B + 9, 10, none⟩ = some (.int .i64 0) ∧ w'.cell? ⟨B + 9, 11, none⟩ = some (.slice none 0 0) ∧ w'.cell? ⟨B + 9, 16, none⟩ = some (.int .i64 1) ∧ w'.cell? ⟨B + 9, 17, none⟩ = some (.int .i64 0) ∧ w'.cell? ⟨B + 9, 18, none⟩ = some (.int .i64 0) ∧ w'.cell? ⟨B + 9, 19, none⟩ = some (.slice none 0 0) ∧ w'.cell? ⟨B + 9, 20, none⟩ = some (.int .i64 1) ∧ w'.cell? ⟨B + 9, 21, none⟩ = some (.int .i64 1) ∧ w'.cell? ⟨B + 9, 22, none⟩ = some (.int .i64 0) ∧ w'.cell? ⟨B + 9, 23, none⟩ = some (.slice none 0 0))
    (exact Kp.all (by repeat (first | exact HK.out | (with_reducible refine Kp.set ?_ HZ.out _) | (with_reducible refine Kp.alloc ?_ _) | (with_reducible refine Kp.drew ?_))))
    (fail)
  all_goals
    refine grabX (fun W' => ∃ g, P1 w B Z g addsR W') (by first | exact ⟨_, (mk1 HP.out (ia := 0) (ib := 1) (ic := 2) (by rfl) (by rfl) (by rfl)).drew⟩ | exact ⟨_, (mk1 HP.out (ia := 0) (ib := 2) (ic := 1) (by rfl) (by rfl) (by rfl)).drew⟩ | exact ⟨_, (mk1 HP.out (ia := 1) (ib := 0) (ic := 2) (by rfl) (by rfl) (by rfl)).drew⟩ | exact ⟨_, (mk1 HP.out (ia := 1) (ib := 2) (ic := 0) (by rfl) (by rfl) (by rfl)).drew⟩ | exact ⟨_, (mk1 HP.out (ia := 2) (ib := 0) (ic := 1) (by rfl) (by rfl) (by rfl)).drew⟩ | exact ⟨_, (mk1 HP.out (ia := 2) (ib := 1) (ic := 0) (by rfl) (by rfl) (by rfl)).drew⟩) (fun W8 hq => ?_)
    clear HP HK e0 e1 e2 e3 e4 e5 e6 e7 e8 e9 e10 e11 e12 e13 e14 e15 e16 e17 e18 e19 e20 e21 e22 e23
    obtain ⟨g, hq⟩ := hq
    have g2 : bits .and .i64 a0 2 = 2 := eq_of_beq H2.out
    have HQ := hid hq
    have HK2 : Hid (Km B Z W8) := hq.km
    have x0 := hq.box.c0
    have r1 := hq.row.cell 1 (.slice (some ⟨B + 3, 0, none⟩) 5 5) rfl
    clear hq
    go_wp2_with fail
    clear x0 r1
    obtain ⟨f0, f1, f2, f3, f4, f5, f6, f7, f8, f9, f10, f11, f12, f13, f14, f15⟩ := HK2.out.all
    go_region_held3 (fun w' => Km B Z w' ∧ w'.cell? ⟨Z, 0, none⟩ = some (.slice (some ⟨B + 10, 0, none⟩) 2 2) ∧ w'.cell? ⟨B + 10, 1, none⟩ = some (cel w' ⟨B + 10, 1, none⟩) ∧ w'.frozen? ⟨B + 10, 1, none⟩ = false ∧ w'.cell? ⟨B + 3, 0, none⟩ = some (.int .i64 7) ∧ w'.cell? ⟨B + 3, 1, none⟩ = some (.int .i64 0) ∧ w'.cell? ⟨B + 3, 2, none⟩ = some (.int .i64 0) ∧ w'.cell? ⟨B + 3, 3, none⟩ = some (.slice none 0 0) ∧ w'.cell? ⟨B + 3, 4, none⟩ = some (.int .i64 0) ∧ w'.cell? ⟨B + 3, 5, none⟩ = some (.int .i64 4) ∧ w'.cell? ⟨B + 3, 6, none⟩ = some (.int .i64 0) ∧ w'.cell? ⟨B + 3, 7, none⟩ = some (.slice none 0 0) ∧ w'.cell? ⟨B + 3, 12, none⟩ = some (.int .i64 0) ∧ w'.cell? ⟨B + 3, 13, none⟩ = some (.int .i64 5) ∧ w'.cell? ⟨B + 3, 14, none⟩ = some (.int .i64 0) ∧ w'.cell? ⟨B + 3, 15, none⟩ = some (.slice none 0 0))
      (exact Km.all (by repeat (first | exact HK2.out | (with_reducible refine Km.set ?_ HZ.out _) | (with_reducible refine Km.alloc ?_ _) | (with_reducible refine Km.drew ?_))))
      (fail)
    all_goals
      refine grabX (fun W' => Rdy w B Z W') (by first | exact (mk2 HQ.out rfl may_m1 same_m1 (ia := 0) (ib := 1) (by rfl) (by rfl)).drew | exact (mk2 HQ.out rfl may_m1 same_m1 (ia := 1) (ib := 0) (by rfl) (by rfl)).drew) (fun W9 hR => ?_)
      clear HK2 f0 f1 f2 f3 f4 f5 f6 f7 f8 f9 f10 f11 f12 f13 f14 f15
      obtain ⟨A, hA, ht, hp⟩ := hR.said HW.out
      have HT := hid ht
      have HPR := hid hp
      have HAE := hid hA
      have HBX : Hid (Bx1 W9 Z (.slice (some ⟨B + 10, 0, none⟩) 2 2)) := hR.box
      have HB0 : Hid (Below w.heap.size w W9) := hR.below
      have x0 := hR.box.c0
      have hAA : (A.toList == A.toList) = true := beq_self_eq_true _
      clear hA ht hp hR
      go_wp2_with (go_at_call 8; refine HT.out.mono ?_)
      rintro e w3 ⟨rfl, hb3⟩
      have x1 := (HBX.out.on hb3).c0
      have HB3 := hid hb3
      clear x0 hb3
      go_wp2_with (go_at_call 15; refine (HPR.out w3 HB3.out).mono ?_)
      rintro e w4 ⟨rfl, hb4⟩
      have HB4 : Hid (Below w.heap.size w w4) := Lx.below_next (Lx.below_next HB0.out HB3.out) hb4
      clear hb4 x1
      go_wp2_with (go_at_call 10; refine (Lx.num_any _ _).mono ?_)
      rintro e w5 ⟨rfl, rfl⟩
      go_wp2_with (go_at_call 16; refine (source_any _).mono ?_)
      rintro e w6 ⟨rfl, rfl⟩
      rw [HAE.out]
      go_wp2
      go_ret
      exact ⟨rfl, HB4.out⟩
end Go.Proofs.YtgjhpmkahicnkaaDoor.showRow
