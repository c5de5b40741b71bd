/- What every program answers that is one: awake. -/
import Derived.Test.YtnomdhnomggbfabGreatDoorMNTop
import Derived.Test.YtnomdhnomggbfabGreatDoorMSmall
import Derived.Test.YtnomdhnomggbfabGreatDoorMLex

namespace Go.Proofs.YtnomdhnomggbfabGreatDoor
open Go.RowKit
set_option linter.unusedVariables false

/-- Head at the small program. -/
theorem head_small (B : Nat) (fn : Int) (ga : Option Addr) (na ca : Nat) (xs : List ByteArray) (fuel : Int) (T : Wdn) (E : Int) (w : World) (hB : SmallAt w B) (hna : xs.length = na) (hx : Tm.Txts w ga xs) (hs : ∀ x ∈ xs, x.size ≤ 1000) (hl : xs.length ≤ 3) (hw : Tm.Lw w) (hT : hdT smallL fn (Tm.lst xs) fuel = T) (hE : hdE smallL fn (Tm.lst xs) fuel = E) :
    Calls Tryz.prog 6 #[.agg #[.slice (some ⟨B + 10, 0, none⟩) 2 2], .int .i64 fn, .slice ga na ca, .int .i64 fuel] w fun e w' => e = .returned (.tuple #[.string ⟨T.toArray⟩, .int .i64 E]) ∧ Below w.heap.size w w' := by
  subst hna
  have h := head_any (some ⟨B + 10, 0, none⟩) 2 smallL fn ga ca xs fuel w hB.defs hx (fun x h => Nat.le_trans (hs x h) (by decide)) hw (by omega)
  rw [hT, hE] at h
  exact h
theorem wk0 : hdT smallL 0 (Tm.lst []) 50 = [57] ∧ hdE smallL 0 (Tm.lst []) 50 = 0 := by decide +kernel
theorem wk1 : hdT smallL 1 (Tm.lst [⟨#[64, 55, 40, 95, 32, 52, 41]⟩, ⟨#[53]⟩]) 50 = [57] ∧ hdE smallL 1 (Tm.lst [⟨#[64, 55, 40, 95, 32, 52, 41]⟩, ⟨#[53]⟩]) 50 = 0 := by decide +kernel
theorem wk2 : hdT smallL 1 (Tm.lst [⟨#[64, 55, 40, 49, 32, 33, 41]⟩, ⟨#[53]⟩]) 50 = [33] ∧ hdE smallL 1 (Tm.lst [⟨#[64, 55, 40, 49, 32, 33, 41]⟩, ⟨#[53]⟩]) 50 = 0 := by decide +kernel
theorem wk3 : hdT smallL 1 (Tm.lst [⟨#[95]⟩, ⟨#[53]⟩]) 50 = [] ∧ hdE smallL 1 (Tm.lst [⟨#[95]⟩, ⟨#[53]⟩]) 50 = 902 := by decide +kernel
theorem wk4 : hdT smallL 0 (Tm.lst []) 3 = [] ∧ hdE smallL 0 (Tm.lst []) 3 = 901 := by decide +kernel
theorem wk5 : hdT smallL 1 (Tm.lst [⟨#[53]⟩]) 50 = [] ∧ hdE smallL 1 (Tm.lst [⟨#[53]⟩]) 50 = 900 := by decide +kernel

set_option maxHeartbeats 4000000 in
set_option maxRecDepth 100000 in
theorem awake9 (w : World) (hw : Tm.Lw w) : Calls Tryz.prog 5 #[] w fun e w' => e = .returned (.bool true) ∧ Below w.heap.size w w' := by
  have HB0 : Hid (Below w.heap.size w w) := Below.refl _ _
  have HW := hid hw
  clear hw
  go_enter Tryz.func5, Tryz.ntmps5
  go_wp2_with fail
  refine (small_any _).mono ?_
  rintro e u0 ⟨rfl, hs0, hb0, hz0⟩
  have HS0 := hid hs0
  have HU0 : Hid (Below w.heap.size w u0) := HB0.out.trans (hb0.mono HB0.out.size)
  clear hs0 hb0 hz0
  go_wp2_with fail
  refine (head_small _ 0 none 0 0 [] 50 _ _ u0 HS0.out rfl (Or.inl rfl) (fun x h => by cases h) (by decide) (Tm.Lw.on HW.out HU0.out) wk0.1 wk0.2).mono ?_
  rintro e v0 ⟨rfl, hb0⟩
  have HB1 : Hid (Below w.heap.size w v0) := HU0.out.trans (hb0.mono HU0.out.size)
  clear hb0
  go_wp2_with fail
  refine (small_any _).mono ?_
  rintro e u1 ⟨rfl, hs1, hb1, hz1⟩
  have HS1 := hid hs1
  have HU1 : Hid (Below w.heap.size w u1) := HB1.out.trans (hb1.mono HB1.out.size)
  clear hs1 hb1 hz1
  go_wp2_with fail
  have HT1 : Hid (Below w.heap.size w (u1.alloc (Obj.cells #[.string ⟨#[64, 55, 40, 95, 32, 52, 41]⟩, .string ⟨#[53]⟩] 9))) := HU1.out.alloc HU1.out.size _
  refine (head_small _ 1 (some ⟨u1.heap.size, 0, none⟩) 2 2 [⟨#[64, 55, 40, 95, 32, 52, 41]⟩, ⟨#[53]⟩] 50 _ _ (u1.alloc (Obj.cells #[.string ⟨#[64, 55, 40, 95, 32, 52, 41]⟩, .string ⟨#[53]⟩] 9)) (HS1.out.on ((Below.refl _ _).alloc (Nat.le_refl _) _)) rfl (Tm.new_txts u1 [⟨#[64, 55, 40, 95, 32, 52, 41]⟩, ⟨#[53]⟩]) (by decide) (by decide) (Tm.Lw.on HW.out HT1.out) wk1.1 wk1.2).mono ?_
  rintro e v1 ⟨rfl, hb1⟩
  have HB2 : Hid (Below w.heap.size w v1) := HT1.out.trans (hb1.mono HT1.out.size)
  clear hb1
  go_wp2_with fail
  refine (small_any _).mono ?_
  rintro e u2 ⟨rfl, hs2, hb2, hz2⟩
  have HS2 := hid hs2
  have HU2 : Hid (Below w.heap.size w u2) := HB2.out.trans (hb2.mono HB2.out.size)
  clear hs2 hb2 hz2
  go_wp2_with fail
  have HT2 : Hid (Below w.heap.size w (u2.alloc (Obj.cells #[.string ⟨#[64, 55, 40, 49, 32, 33, 41]⟩, .string ⟨#[53]⟩] 9))) := HU2.out.alloc HU2.out.size _
  refine (head_small _ 1 (some ⟨u2.heap.size, 0, none⟩) 2 2 [⟨#[64, 55, 40, 49, 32, 33, 41]⟩, ⟨#[53]⟩] 50 _ _ (u2.alloc (Obj.cells #[.string ⟨#[64, 55, 40, 49, 32, 33, 41]⟩, .string ⟨#[53]⟩] 9)) (HS2.out.on ((Below.refl _ _).alloc (Nat.le_refl _) _)) rfl (Tm.new_txts u2 [⟨#[64, 55, 40, 49, 32, 33, 41]⟩, ⟨#[53]⟩]) (by decide) (by decide) (Tm.Lw.on HW.out HT2.out) wk2.1 wk2.2).mono ?_
  rintro e v2 ⟨rfl, hb2⟩
  have HB3 : Hid (Below w.heap.size w v2) := HT2.out.trans (hb2.mono HT2.out.size)
  clear hb2
  go_wp2_with fail
  refine (small_any _).mono ?_
  rintro e u3 ⟨rfl, hs3, hb3, hz3⟩
  have HS3 := hid hs3
  have HU3 : Hid (Below w.heap.size w u3) := HB3.out.trans (hb3.mono HB3.out.size)
  clear hs3 hb3 hz3
  go_wp2_with fail
  have HT3 : Hid (Below w.heap.size w (u3.alloc (Obj.cells #[.string ⟨#[95]⟩, .string ⟨#[53]⟩] 9))) := HU3.out.alloc HU3.out.size _
  refine (head_small _ 1 (some ⟨u3.heap.size, 0, none⟩) 2 2 [⟨#[95]⟩, ⟨#[53]⟩] 50 _ _ (u3.alloc (Obj.cells #[.string ⟨#[95]⟩, .string ⟨#[53]⟩] 9)) (HS3.out.on ((Below.refl _ _).alloc (Nat.le_refl _) _)) rfl (Tm.new_txts u3 [⟨#[95]⟩, ⟨#[53]⟩]) (by decide) (by decide) (Tm.Lw.on HW.out HT3.out) wk3.1 wk3.2).mono ?_
  rintro e v3 ⟨rfl, hb3⟩
  have HB4 : Hid (Below w.heap.size w v3) := HT3.out.trans (hb3.mono HT3.out.size)
  clear hb3
  go_wp2_with fail
  refine (small_any _).mono ?_
  rintro e u4 ⟨rfl, hs4, hb4, hz4⟩
  have HS4 := hid hs4
  have HU4 : Hid (Below w.heap.size w u4) := HB4.out.trans (hb4.mono HB4.out.size)
  clear hs4 hb4 hz4
  go_wp2_with fail
  refine (head_small _ 0 none 0 0 [] 3 _ _ u4 HS4.out rfl (Or.inl rfl) (fun x h => by cases h) (by decide) (Tm.Lw.on HW.out HU4.out) wk4.1 wk4.2).mono ?_
  rintro e v4 ⟨rfl, hb4⟩
  have HB5 : Hid (Below w.heap.size w v4) := HU4.out.trans (hb4.mono HU4.out.size)
  clear hb4
  go_wp2_with fail
  refine (small_any _).mono ?_
  rintro e u5 ⟨rfl, hs5, hb5, hz5⟩
  have HS5 := hid hs5
  have HU5 : Hid (Below w.heap.size w u5) := HB5.out.trans (hb5.mono HB5.out.size)
  clear hs5 hb5 hz5
  go_wp2_with fail
  have HT5 : Hid (Below w.heap.size w (u5.alloc (Obj.cells #[.string ⟨#[53]⟩] 9))) := HU5.out.alloc HU5.out.size _
  refine (head_small _ 1 (some ⟨u5.heap.size, 0, none⟩) 1 1 [⟨#[53]⟩] 50 _ _ (u5.alloc (Obj.cells #[.string ⟨#[53]⟩] 9)) (HS5.out.on ((Below.refl _ _).alloc (Nat.le_refl _) _)) rfl (Tm.new_txts u5 [⟨#[53]⟩]) (by decide) (by decide) (Tm.Lw.on HW.out HT5.out) wk5.1 wk5.2).mono ?_
  rintro e v5 ⟨rfl, hb5⟩
  have HB6 : Hid (Below w.heap.size w v5) := HT5.out.trans (hb5.mono HT5.out.size)
  clear hb5
  go_wp2_with (go_at_call 7; refine (Lx.num_any _ _).mono ?_; rintro e w5 ⟨rfl, rfl⟩)
  go_ret
  exact ⟨rfl, HB6.out⟩
end Go.Proofs.YtnomdhnomggbfabGreatDoor
