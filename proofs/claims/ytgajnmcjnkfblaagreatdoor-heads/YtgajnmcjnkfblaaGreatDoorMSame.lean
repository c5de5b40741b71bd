/- The contracts of the laws' SameInts, SameExprs and SameDef, at two that hold the same. · The contract of the laws' SameProgram, at two that hold the same. -/
import Derived.Test.YtgajnmcjnkfblaaGreatDoorMSmall
import Derived.BigQuiet
import Derived.Deep.RegionHeld3
import Derived.Test.YtgajnmcjnkfblaaGreatDoorMProg

namespace Go.Proofs.YtgajnmcjnkfblaaGreatDoor
open Go.RowKit
set_option linter.unusedVariables false

set_option maxHeartbeats 800000 in
set_option maxRecDepth 100000 in
theorem ints_same (ga gb : Option Addr) (xs : List Int) (ca cb : Nat) (w : World) (ha : Nums w ga xs) (hb : Nums w gb xs) (hn : xs.length ≤ 4611686018427387904) :
    Calls Tryz.prog 75 #[.slice ga xs.length ca, .slice gb xs.length cb] w fun e w' => e = .returned (.bool true) ∧ Below w.heap.size w w' := by
  have hne : ((xs.length : Int) != (xs.length : Int)) = false := by simp
  go_enter Tryz.func75, Tryz.ntmps75
  go_wp2_with fail
  go_loopw [5] (fun i wr => ∃ j : Nat, j ≤ xs.length ∧ i = .int .i64 (j : Int) ∧ Below w.heap.size w wr)
    (fun i _ => xs.length - (intOf i).toNat)
  case atStart => exact ⟨0, Nat.zero_le _, rfl, Below.refl _ _⟩
  case round =>
    obtain ⟨j, hj, rfl, hbr⟩ := hrel
    by_cases hlt : j < xs.length
    · have hlt' : (j : Int) < (xs.length : Int) := by omega
      obtain ⟨b1, o1, rfl, _, hc1⟩ := (ha.on hbr).at hlt
      obtain ⟨b2, o2, rfl, _, hc2⟩ := (hb.on hbr).at hlt
      obtain ⟨x, hx⟩ : ∃ x, xs[j] = x := ⟨_, rfl⟩
      rw [hx] at hc1 hc2
      clear hx
      go_wp2_with fail
      go_quiet (fail)
      go_wp2_with fail
      go_roundw
      case rel => exact ⟨j + 1, by omega, by go_num, hbr.trans (below_drewN _ _ _)⟩
      case measure => simp [intOf]; omega
    · have hlt' : ¬ (j : Int) < (xs.length : Int) := by omega
      go_wp2_with fail
      go_ret
      exact ⟨rfl, hbr⟩

theorem keep8_drew {w0 wc : World} {p0 p1 p2 p3 q0 q1 q2 q3 : Addr} {x0 x1 x2 x3 y0 y1 y2 y3 : Value} (h : Below w0.heap.size w0 wc ∧ wc.cell? p0 = some x0 ∧ wc.cell? p1 = some x1 ∧ wc.cell? p2 = some x2 ∧ wc.cell? p3 = some x3 ∧ wc.cell? q0 = some y0 ∧ wc.cell? q1 = some y1 ∧ wc.cell? q2 = some y2 ∧ wc.cell? q3 = some y3) :
    Below w0.heap.size w0 wc.drew ∧ wc.drew.cell? p0 = some x0 ∧ wc.drew.cell? p1 = some x1 ∧ wc.drew.cell? p2 = some x2 ∧ wc.drew.cell? p3 = some x3 ∧ wc.drew.cell? q0 = some y0 ∧ wc.drew.cell? q1 = some y1 ∧ wc.drew.cell? q2 = some y2 ∧ wc.drew.cell? q3 = some y3 :=
  ⟨h.1.drew, h.2⟩
theorem cell_next {wc w' : World} {p : Addr} {x : Value} (h : wc.cell? p = some x) (hb : Below wc.heap.size wc w') : w'.cell? p = some x := by
  rw [hb.cell (World.block_lt_of_cell? wc p h)]; exact h
theorem keep8_next {w0 wc w' : World} {p0 p1 p2 p3 q0 q1 q2 q3 : Addr} {x0 x1 x2 x3 y0 y1 y2 y3 : Value} (h : Below w0.heap.size w0 wc ∧ wc.cell? p0 = some x0 ∧ wc.cell? p1 = some x1 ∧ wc.cell? p2 = some x2 ∧ wc.cell? p3 = some x3 ∧ wc.cell? q0 = some y0 ∧ wc.cell? q1 = some y1 ∧ wc.cell? q2 = some y2 ∧ wc.cell? q3 = some y3) (hb : Below wc.heap.size wc w') :
    Below w0.heap.size w0 w' ∧ w'.cell? p0 = some x0 ∧ w'.cell? p1 = some x1 ∧ w'.cell? p2 = some x2 ∧ w'.cell? p3 = some x3 ∧ w'.cell? q0 = some y0 ∧ w'.cell? q1 = some y1 ∧ w'.cell? q2 = some y2 ∧ w'.cell? q3 = some y3 := by
  obtain ⟨h0, h1, h2, h3, h4, h5, h6, h7, h8⟩ := h
  exact ⟨below_next h0 hb, cell_next h1 hb, cell_next h2 hb, cell_next h3 hb, cell_next h4 hb, cell_next h5 hb, cell_next h6 hb, cell_next h7 hb, cell_next h8 hb⟩

set_option maxHeartbeats 1600000 in
set_option maxRecDepth 100000 in
theorem exprs_same (ga gb : Option Addr) (xs : List Ex) (ca cb : Nat) (w : World) (ha : Exs w ga xs) (hb : Exs w gb xs) (hn : xs.length ≤ 4611686018427387904) (hk : ∀ x ∈ xs, x.kids.length ≤ 4611686018427387904) :
    Calls Tryz.prog 56 #[.slice ga xs.length ca, .slice gb xs.length cb] w fun e w' => e = .returned (.bool true) ∧ Below w.heap.size w w' := by
  have hne : ((xs.length : Int) != (xs.length : Int)) = false := by simp
  go_enter Tryz.func56, Tryz.ntmps56
  go_wp2_with fail
  go_loopw [5] (fun i wr => ∃ j : Nat, j ≤ xs.length ∧ i = .int .i64 (j : Int) ∧ Hid (Below w.heap.size w wr))
    (fun i _ => xs.length - (intOf i).toNat)
  case atStart => exact ⟨0, Nat.zero_le _, rfl, Below.refl _ _⟩
  case round =>
    obtain ⟨j, hj, rfl, hbr⟩ := hrel
    by_cases hlt : j < xs.length
    · have hlt' : (j : Int) < (xs.length : Int) := by omega
      obtain ⟨b1, o1, rfl, _, g1, k1, hE1⟩ := (ha.on hbr.out).at hlt
      obtain ⟨b2, o2, rfl, _, g2, k2, hE2⟩ := (hb.on hbr.out).at hlt
      have hkj := hk xs[j] (List.getElem_mem hlt)
      obtain ⟨e, he⟩ : ∃ e, xs[j] = e := ⟨_, rfl⟩
      rw [he] at hE1 hE2 hkj
      clear he ha hb hk
      obtain ⟨kd, nm, bd, ks⟩ := e
      obtain ⟨a0, a1, a2, a3, an⟩ := hE1
      obtain ⟨e0, e1, e2, e3, en⟩ := hE2
      dsimp only at a0 a1 a2 a3 an e0 e1 e2 e3 en hkj
      have HA : Hid (Nums wr g1 ks) := an
      have HE : Hid (Nums wr g2 ks) := en
      clear an en
      go_wp2_with fail
      go_region_held3 (fun w' => Below wr.heap.size wr w' ∧ w'.cell? ⟨b1, o1 + j * 4, none⟩ = some (.int .i64 kd) ∧ w'.cell? ⟨b1, o1 + j * 4 + 1, none⟩ = some (.int .i64 nm) ∧ w'.cell? ⟨b1, o1 + j * 4 + 2, none⟩ = some (.int .i64 bd) ∧ w'.cell? ⟨b1, o1 + j * 4 + 3, none⟩ = some (.slice g1 ks.length k1) ∧ w'.cell? ⟨b2, o2 + j * 4, none⟩ = some (.int .i64 kd) ∧ w'.cell? ⟨b2, o2 + j * 4 + 1, none⟩ = some (.int .i64 nm) ∧ w'.cell? ⟨b2, o2 + j * 4 + 2, none⟩ = some (.int .i64 bd) ∧ w'.cell? ⟨b2, o2 + j * 4 + 3, none⟩ = some (.slice g2 ks.length k2))
        (first | assumption | (exact keep8_drew (by first | assumption | exact ⟨Below.refl _ _, a0, a1, a2, a3, e0, e1, e2, e3⟩)) | (exact keep8_next (by assumption) (by assumption)))
        (first | (go_at_call 75; refine (ints_same g1 g2 ks k1 k2 _ (HA.out.on (And.left (by assumption))) (HE.out.on (And.left (by assumption))) hkj).mono ?_; rintro e w3 ⟨rfl, hb3⟩))
      all_goals
        have hb4 : Below w.heap.size w w3 := below_next hbr.out (And.left (by assumption))
        go_wp2_with fail
        go_roundw
        case rel => exact ⟨j + 1, by omega, by go_num, hb4⟩
        case measure => simp [intOf]; omega
    · have hlt' : ¬ (j : Int) < (xs.length : Int) := by omega
      go_wp2_with fail
      go_ret
      exact ⟨rfl, hbr.out⟩

set_option maxHeartbeats 800000 in
set_option maxRecDepth 100000 in
theorem def_same (p : Int) (ga gb : Option Addr) (xs : List Ex) (ca cb : Nat) (w : World) (ha : Exs w ga xs) (hb : Exs w gb xs) (hn : xs.length ≤ 4611686018427387904) (hk : ∀ x ∈ xs, x.kids.length ≤ 4611686018427387904) :
    Calls Tryz.prog 33 #[.agg #[.int .i64 p, .slice ga xs.length ca], .agg #[.int .i64 p, .slice gb xs.length cb]] w fun e w' => e = .returned (.bool true) ∧ Below w.heap.size w w' := by
  go_enter Tryz.func33, Tryz.ntmps33
  go_wp2_with fail
  have h2 : Below w.heap.size w ((w.alloc (.cells #[.int .i64 p, .slice ga xs.length ca] 48)).alloc (.cells #[.int .i64 p, .slice gb xs.length cb] 48)) := ((Below.refl _ w).alloc (Nat.le_refl _) _).alloc (by simp) _
  refine (exprs_same ga gb xs ca cb _ (ha.on h2) (hb.on h2) hn hk).mono ?_
  rintro e w3 ⟨rfl, hb3⟩
  have h3 := below_next h2 hb3
  go_wp2_with fail
  go_ret
  exact ⟨rfl, h3⟩
end Go.Proofs.YtgajnmcjnkfblaaGreatDoor

namespace Go.Proofs.YtgajnmcjnkfblaaGreatDoor
open Go.RowKit
set_option linter.unusedVariables false

theorem keep6_drew {w0 wc : World} {p0 p1 p2 p3 p4 p5 : Addr} {x0 x1 x2 x3 x4 x5 : Value} (h : Below w0.heap.size w0 wc ∧ wc.cell? p0 = some x0 ∧ wc.cell? p1 = some x1 ∧ wc.cell? p2 = some x2 ∧ wc.cell? p3 = some x3 ∧ wc.cell? p4 = some x4 ∧ wc.cell? p5 = some x5) :
    Below w0.heap.size w0 wc.drew ∧ wc.drew.cell? p0 = some x0 ∧ wc.drew.cell? p1 = some x1 ∧ wc.drew.cell? p2 = some x2 ∧ wc.drew.cell? p3 = some x3 ∧ wc.drew.cell? p4 = some x4 ∧ wc.drew.cell? p5 = some x5 :=
  ⟨h.1.drew, h.2⟩
theorem keep6_next {w0 wc w' : World} {p0 p1 p2 p3 p4 p5 : Addr} {x0 x1 x2 x3 x4 x5 : Value} (h : Below w0.heap.size w0 wc ∧ wc.cell? p0 = some x0 ∧ wc.cell? p1 = some x1 ∧ wc.cell? p2 = some x2 ∧ wc.cell? p3 = some x3 ∧ wc.cell? p4 = some x4 ∧ wc.cell? p5 = some x5) (hb : Below wc.heap.size wc w') :
    Below w0.heap.size w0 w' ∧ w'.cell? p0 = some x0 ∧ w'.cell? p1 = some x1 ∧ w'.cell? p2 = some x2 ∧ w'.cell? p3 = some x3 ∧ w'.cell? p4 = some x4 ∧ w'.cell? p5 = some x5 := by
  obtain ⟨h0, h1, h2, h3, h4, h5, h6⟩ := h
  exact ⟨below_next h0 hb, cell_next h1 hb, cell_next h2 hb, cell_next h3 hb, cell_next h4 hb, cell_next h5 hb, cell_next h6 hb⟩

set_option maxHeartbeats 1600000 in
set_option maxRecDepth 100000 in
theorem program_same (ga gb : Option Addr) (ds : List Df) (ca cb : Nat) (w : World) (ha : Defs Exs w ga ds) (hb : Defs Exs w gb ds) (hn : ds.length ≤ 4611686018427387904) (hk : ∀ d ∈ ds, d.body.length ≤ 4611686018427387904 ∧ ∀ x ∈ d.body, x.kids.length ≤ 4611686018427387904) :
    Calls Tryz.prog 14 #[.agg #[.slice ga ds.length ca], .agg #[.slice gb ds.length cb]] w fun e w' => e = .returned (.bool true) ∧ Below w.heap.size w w' := by
  have hne : ((ds.length : Int) != (ds.length : Int)) = false := by simp
  have hb0 : Below w.heap.size w ((w.alloc (.cells #[.slice ga ds.length ca] 24)).alloc (.cells #[.slice gb ds.length cb] 24)) := ((Below.refl _ w).alloc (Nat.le_refl _) _).alloc (by simp) _
  have hXa := (Bx1.new w (.slice ga ds.length ca)).alloc (.cells #[.slice gb ds.length cb] 24)
  have hXb := Bx1.new (w.alloc (.cells #[.slice ga ds.length ca] 24)) (.slice gb ds.length cb)
  rw [World.size_alloc] at hXb
  have ha0 := ha.on hb0
  have hbb0 := hb.on hb0
  go_enter Tryz.func14, Tryz.ntmps14
  go_wp2_with fail
  obtain ⟨W0, hW0⟩ : ∃ W0, (w.alloc (.cells #[.slice ga ds.length ca] 24)).alloc (.cells #[.slice gb ds.length cb] 24) = W0 := ⟨_, rfl⟩
  rw [hW0] at hb0 hXa hXb ha0 hbb0 ⊢
  have H0 : Hid (Below w.heap.size w W0 ∧ Bx1 W0 w.heap.size (.slice ga ds.length ca) ∧ Bx1 W0 (w.heap.size + 1) (.slice gb ds.length cb) ∧ Defs Exs W0 ga ds ∧ Defs Exs W0 gb ds) := ⟨hb0, hXa, hXb, ha0, hbb0⟩
  clear hW0 hb0 hXa hXb ha0 hbb0 ha hb
  go_loopw [5] (fun i wr => ∃ j : Nat, j ≤ ds.length ∧ i = .int .i64 (j : Int) ∧ Hid (Below W0.heap.size W0 wr))
    (fun i _ => ds.length - (intOf i).toNat)
  case atStart => exact ⟨0, Nat.zero_le _, rfl, Below.refl _ _⟩
  case round =>
    obtain ⟨j, hj, rfl, hbr⟩ := hrel
    have xa := (H0.out.2.1.on hbr.out).c0
    have xb := (H0.out.2.2.1.on hbr.out).c0
    by_cases hlt : j < ds.length
    · have hlt' : (j : Int) < (ds.length : Int) := by omega
      obtain ⟨b1, o1, rfl, _, g1, k1, a0, a1, an⟩ := (H0.out.2.2.2.1.on hbr.out).at hlt
      obtain ⟨b2, o2, rfl, _, g2, k2, e0, e1, en⟩ := (H0.out.2.2.2.2.on hbr.out).at hlt
      have hkj := hk ds[j] (List.getElem_mem hlt)
      obtain ⟨d, he⟩ : ∃ d, ds[j] = d := ⟨_, rfl⟩
      rw [he] at a0 a1 an e0 e1 en hkj
      clear he hk
      obtain ⟨pp, xs⟩ := d
      dsimp only at a0 a1 an e0 e1 en hkj
      have HA : Hid (Exs wr g1 xs) := an
      have HE : Hid (Exs wr g2 xs) := en
      have HK : Hid (xs.length ≤ 4611686018427387904 ∧ ∀ x ∈ xs, x.kids.length ≤ 4611686018427387904) := hkj
      clear an en hkj
      go_wp2_with fail
      go_region_held3 (fun w' => Below wr.heap.size wr w' ∧ w'.cell? ⟨w.heap.size, 0, none⟩ = some (.slice (some ⟨b1, o1, none⟩) ds.length ca) ∧ w'.cell? ⟨w.heap.size + 1, 0, none⟩ = some (.slice (some ⟨b2, o2, none⟩) ds.length cb) ∧ w'.cell? ⟨b1, o1 + j * 2, none⟩ = some (.int .i64 pp) ∧ w'.cell? ⟨b1, o1 + j * 2 + 1, none⟩ = some (.slice g1 xs.length k1) ∧ w'.cell? ⟨b2, o2 + j * 2, none⟩ = some (.int .i64 pp) ∧ w'.cell? ⟨b2, o2 + j * 2 + 1, none⟩ = some (.slice g2 xs.length k2))
        (first | assumption | (exact keep6_drew (by first | assumption | exact ⟨Below.refl _ _, xa, xb, a0, a1, e0, e1⟩)) | (exact keep6_next (by assumption) (by assumption)))
        (first | (go_at_call 33; refine (def_same pp g1 g2 xs k1 k2 _ (HA.out.on (And.left (by assumption))) (HE.out.on (And.left (by assumption))) HK.out.1 HK.out.2).mono ?_; rintro e w3 ⟨rfl, hb3⟩))
      all_goals
        have hb4 : Below W0.heap.size W0 w3 := below_next hbr.out (And.left (by assumption))
        go_wp2_with fail
        go_roundw
        case rel => exact ⟨j + 1, by omega, by go_num, hb4⟩
        case measure => simp [intOf]; omega
    · have hlt' : ¬ (j : Int) < (ds.length : Int) := by omega
      have hb4 := below_next H0.out.1 hbr.out
      go_wp2_with fail
      go_ret
      exact ⟨rfl, hb4⟩
end Go.Proofs.YtgajnmcjnkfblaaGreatDoor
