/- What every program answers that is one: awake of the laws over package holds. · What the laws over package holds hand around: the program's and the node's boxes. -/
import Derived.Test.YtgajnmcjnkfblaaGreatDoorMHTop
import Derived.Test.YtgajnmcjnkfblaaGreatDoorMSmall
import Derived.Test.YtgajnmcjnkfblaaGreatDoorMLex
import Derived.Test.YtgajnmcjnkfblaaGreatDoorMHRf

namespace Go.Proofs.YtgajnmcjnkfblaaGreatDoor
open Go.RowKit
set_option linter.unusedVariables false

/-- Is at the small program. -/
theorem holds_small (B : Nat) (fn par : Int) (ga : Option Addr) (na ca : Nat) (xs : List ByteArray) (res : ByteArray) (fuel : Int) (q : Bool) (E : Int) (w : World) (hB : SmallAt w B) (hna : xs.length = na) (hx : Tm.Txts w ga xs) (hs : ∀ x ∈ xs, x.size ≤ 1000) (hl : xs.length ≤ 3) (hr : res.size ≤ 1000) (hw : Tm.Lw w) (h1 : hdsB smallL fn (Tm.lst xs) res.data.toList fuel = q) (h2 : hdsE smallL fn (Tm.lst xs) res.data.toList fuel = E) :
    Calls Tryz.prog 21 #[.agg #[.slice (some ⟨B + 10, 0, none⟩) 2 2], .agg #[.int .i64 fn, .int .i64 par, .slice ga na ca, .string res], .int .i64 fuel] w fun e w' => e = .returned (.tuple #[.bool q, .int .i64 E]) ∧ Below w.heap.size w w' := by
  subst hna
  have h := holds_any (some ⟨B + 10, 0, none⟩) 2 smallL fn par ga ca xs res fuel w hB.defs hx (fun x h => Nat.le_trans (hs x h) (by decide)) (by omega) (by omega) hw
  rw [h1, h2] at h
  exact h
theorem wh0 : hdsB smallL 1 (Tm.lst [⟨#[64, 55, 40, 95, 32, 52, 41]⟩, ⟨#[53]⟩]) (⟨#[57]⟩ : ByteArray).data.toList 50 = true ∧ hdsE smallL 1 (Tm.lst [⟨#[64, 55, 40, 95, 32, 52, 41]⟩, ⟨#[53]⟩]) (⟨#[57]⟩ : ByteArray).data.toList 50 = 0 := by decide +kernel
theorem wh1 : hdsB smallL 1 (Tm.lst [⟨#[64, 55, 40, 95, 32, 95, 41]⟩, ⟨#[53]⟩]) (⟨#[57]⟩ : ByteArray).data.toList 50 = false ∧ hdsE smallL 1 (Tm.lst [⟨#[64, 55, 40, 95, 32, 95, 41]⟩, ⟨#[53]⟩]) (⟨#[57]⟩ : ByteArray).data.toList 50 = 0 := by decide +kernel
theorem wh2 : hdsB smallL 1 (Tm.lst [⟨#[33]⟩, ⟨#[53]⟩]) (⟨#[33]⟩ : ByteArray).data.toList 50 = true ∧ hdsE smallL 1 (Tm.lst [⟨#[33]⟩, ⟨#[53]⟩]) (⟨#[33]⟩ : ByteArray).data.toList 50 = 0 := by decide +kernel
theorem wh3 : hdsB smallL 1 (Tm.lst [⟨#[51]⟩, ⟨#[53]⟩]) (⟨#[56]⟩ : ByteArray).data.toList 2 = false ∧ hdsE smallL 1 (Tm.lst [⟨#[51]⟩, ⟨#[53]⟩]) (⟨#[56]⟩ : ByteArray).data.toList 2 = 1001 := by decide +kernel
theorem wh4 : hdsB smallL 2 (Tm.lst []) (⟨#[]⟩ : ByteArray).data.toList 50 = false ∧ hdsE smallL 2 (Tm.lst []) (⟨#[]⟩ : ByteArray).data.toList 50 = 1000 := by decide +kernel

set_option maxHeartbeats 4000000 in
set_option maxRecDepth 100000 in
theorem awake10 (w : World) (hw : Tm.Lw w) : Calls Tryz.prog 24 #[] w fun e w' => e = .returned (.bool true) ∧ Below w.heap.size w w' := by
  have HB0 : Hid (Below w.heap.size w w) := Below.refl _ _
  have HW := hid hw
  clear hw
  go_enter Tryz.func24, Tryz.ntmps24
  go_wp2_with fail
  refine (small10_any _).mono ?_
  rintro e u0 ⟨rfl, hs0, hb0, hz0⟩
  have HS0 := hid hs0
  have HU0 : Hid (Below w.heap.size w u0) := HB0.out.trans (hb0.mono HB0.out.size)
  clear hs0 hb0 hz0
  go_wp2_with fail
  have HT0 : Hid (Below w.heap.size w (u0.alloc (Obj.cells #[.string ⟨#[64, 55, 40, 95, 32, 52, 41]⟩, .string ⟨#[53]⟩] 9))) := HU0.out.alloc HU0.out.size _
  refine (holds_small _ 1 0 (some ⟨u0.heap.size, 0, none⟩) 2 2 [⟨#[64, 55, 40, 95, 32, 52, 41]⟩, ⟨#[53]⟩] ⟨#[57]⟩ 50 _ _ (u0.alloc (Obj.cells #[.string ⟨#[64, 55, 40, 95, 32, 52, 41]⟩, .string ⟨#[53]⟩] 9)) (HS0.out.on ((Below.refl _ _).alloc (Nat.le_refl _) _)) rfl (Tm.new_txts u0 [⟨#[64, 55, 40, 95, 32, 52, 41]⟩, ⟨#[53]⟩]) (by decide) (by decide) (by decide) (Tm.Lw.on HW.out HT0.out) wh0.1 wh0.2).mono ?_
  rintro e v0 ⟨rfl, hb0⟩
  have HB1 : Hid (Below w.heap.size w v0) := HT0.out.trans (hb0.mono HT0.out.size)
  clear hb0
  go_wp2_with fail
  refine (small10_any _).mono ?_
  rintro e u1 ⟨rfl, hs1, hb1, hz1⟩
  have HS1 := hid hs1
  have HU1 : Hid (Below w.heap.size w u1) := HB1.out.trans (hb1.mono HB1.out.size)
  clear hs1 hb1 hz1
  go_wp2_with fail
  have HT1 : Hid (Below w.heap.size w (u1.alloc (Obj.cells #[.string ⟨#[64, 55, 40, 95, 32, 95, 41]⟩, .string ⟨#[53]⟩] 9))) := HU1.out.alloc HU1.out.size _
  refine (holds_small _ 1 0 (some ⟨u1.heap.size, 0, none⟩) 2 2 [⟨#[64, 55, 40, 95, 32, 95, 41]⟩, ⟨#[53]⟩] ⟨#[57]⟩ 50 _ _ (u1.alloc (Obj.cells #[.string ⟨#[64, 55, 40, 95, 32, 95, 41]⟩, .string ⟨#[53]⟩] 9)) (HS1.out.on ((Below.refl _ _).alloc (Nat.le_refl _) _)) rfl (Tm.new_txts u1 [⟨#[64, 55, 40, 95, 32, 95, 41]⟩, ⟨#[53]⟩]) (by decide) (by decide) (by decide) (Tm.Lw.on HW.out HT1.out) wh1.1 wh1.2).mono ?_
  rintro e v1 ⟨rfl, hb1⟩
  have HB2 : Hid (Below w.heap.size w v1) := HT1.out.trans (hb1.mono HT1.out.size)
  clear hb1
  go_wp2_with fail
  refine (small10_any _).mono ?_
  rintro e u2 ⟨rfl, hs2, hb2, hz2⟩
  have HS2 := hid hs2
  have HU2 : Hid (Below w.heap.size w u2) := HB2.out.trans (hb2.mono HB2.out.size)
  clear hs2 hb2 hz2
  go_wp2_with fail
  have HT2 : Hid (Below w.heap.size w (u2.alloc (Obj.cells #[.string ⟨#[33]⟩, .string ⟨#[53]⟩] 9))) := HU2.out.alloc HU2.out.size _
  refine (holds_small _ 1 0 (some ⟨u2.heap.size, 0, none⟩) 2 2 [⟨#[33]⟩, ⟨#[53]⟩] ⟨#[33]⟩ 50 _ _ (u2.alloc (Obj.cells #[.string ⟨#[33]⟩, .string ⟨#[53]⟩] 9)) (HS2.out.on ((Below.refl _ _).alloc (Nat.le_refl _) _)) rfl (Tm.new_txts u2 [⟨#[33]⟩, ⟨#[53]⟩]) (by decide) (by decide) (by decide) (Tm.Lw.on HW.out HT2.out) wh2.1 wh2.2).mono ?_
  rintro e v2 ⟨rfl, hb2⟩
  have HB3 : Hid (Below w.heap.size w v2) := HT2.out.trans (hb2.mono HT2.out.size)
  clear hb2
  go_wp2_with fail
  refine (small10_any _).mono ?_
  rintro e u3 ⟨rfl, hs3, hb3, hz3⟩
  have HS3 := hid hs3
  have HU3 : Hid (Below w.heap.size w u3) := HB3.out.trans (hb3.mono HB3.out.size)
  clear hs3 hb3 hz3
  go_wp2_with fail
  have HT3 : Hid (Below w.heap.size w (u3.alloc (Obj.cells #[.string ⟨#[51]⟩, .string ⟨#[53]⟩] 9))) := HU3.out.alloc HU3.out.size _
  refine (holds_small _ 1 0 (some ⟨u3.heap.size, 0, none⟩) 2 2 [⟨#[51]⟩, ⟨#[53]⟩] ⟨#[56]⟩ 2 _ _ (u3.alloc (Obj.cells #[.string ⟨#[51]⟩, .string ⟨#[53]⟩] 9)) (HS3.out.on ((Below.refl _ _).alloc (Nat.le_refl _) _)) rfl (Tm.new_txts u3 [⟨#[51]⟩, ⟨#[53]⟩]) (by decide) (by decide) (by decide) (Tm.Lw.on HW.out HT3.out) wh3.1 wh3.2).mono ?_
  rintro e v3 ⟨rfl, hb3⟩
  have HB4 : Hid (Below w.heap.size w v3) := HT3.out.trans (hb3.mono HT3.out.size)
  clear hb3
  go_wp2_with fail
  refine (small10_any _).mono ?_
  rintro e u4 ⟨rfl, hs4, hb4, hz4⟩
  have HS4 := hid hs4
  have HU4 : Hid (Below w.heap.size w u4) := HB4.out.trans (hb4.mono HB4.out.size)
  clear hs4 hb4 hz4
  go_wp2_with fail
  refine (holds_small _ 2 0 none 0 0 [] ⟨#[]⟩ 50 _ _ u4 HS4.out rfl (Or.inl rfl) (fun x h => by cases h) (by decide) (by decide) (Tm.Lw.on HW.out HU4.out) wh4.1 wh4.2).mono ?_
  rintro e v4 ⟨rfl, hb4⟩
  have HB5 : Hid (Below w.heap.size w v4) := HU4.out.trans (hb4.mono HU4.out.size)
  clear hb4
  go_wp2_with (go_at_call 13; refine (Lx.num_any _ _).mono ?_; rintro e w5 ⟨rfl, rfl⟩)
  go_ret
  exact ⟨rfl, HB5.out⟩
end Go.Proofs.YtgajnmcjnkfblaaGreatDoor

namespace Go.Proofs.YtgajnmcjnkfblaaGreatDoor
open Go.RowKit
set_option linter.unusedVariables false
/-- A program and a node in two boxes, z and z + 1. -/
structure PX (z : Nat) (U : World) (g : Option Addr) (n c : Nat) (fn par : Int) (ga : Option Addr) (m ca : Nat) (res : ByteArray) : Prop where
  p : Bx 24 U z #[.slice g n c]
  x : Bx 52 U (z + 1) #[.int .i64 fn, .int .i64 par, .slice ga m ca, .string res]
theorem PX.new (w : World) (g : Option Addr) (n c : Nat) (fn par : Int) (ga : Option Addr) (m ca : Nat) (res : ByteArray) :
    PX w.heap.size ((w.alloc (.cells #[.slice g n c] 24)).alloc (.cells #[.int .i64 fn, .int .i64 par, .slice ga m ca, .string res] 52)) g n c fn par ga m ca res := by
  have h := Bx.new 52 (w.alloc (.cells #[.slice g n c] 24)) #[.int .i64 fn, .int .i64 par, .slice ga m ca, .string res]
  rw [World.size_alloc] at h
  exact ⟨(Bx.new 24 w _).alloc _, h⟩
theorem PX.next {z : Nat} {U V : World} {g : Option Addr} {n c : Nat} {fn par : Int} {ga : Option Addr} {m ca : Nat} {res : ByteArray} (h : PX z U g n c fn par ga m ca res) (hb : Below U.heap.size U V) : PX z V g n c fn par ga m ca res := ⟨h.p.next hb, h.x.next hb⟩
theorem PX.cells {z : Nat} {U : World} {g : Option Addr} {n c : Nat} {fn par : Int} {ga : Option Addr} {m ca : Nat} {res : ByteArray} (h : PX z U g n c fn par ga m ca res) :
    U.cell? ⟨z, 0, none⟩ = some (.slice g n c) ∧ U.cell? ⟨z + 1, 0, none⟩ = some (.int .i64 fn) ∧ U.cell? ⟨z + 1, 1, none⟩ = some (.int .i64 par) ∧ U.cell? ⟨z + 1, 2, none⟩ = some (.slice ga m ca) ∧ U.cell? ⟨z + 1, 3, none⟩ = some (.string res) ∧ z < U.heap.size ∧ z + 1 < U.heap.size :=
  ⟨h.p.cell 0 _ rfl, h.x.cell 0 _ rfl, h.x.cell 1 _ rfl, h.x.cell 2 _ rfl, h.x.cell 3 _ rfl, h.p.lt, h.x.lt⟩
theorem bu_next {U V W : World} (h : Below U.heap.size U V) (h1 : Below V.heap.size V W) : Below U.heap.size U W := Lx.below_next h h1
theorem umod10 (x : Int) (n : Nat) (h : 0 < n) : ∃ m : Nat, (IntKind.u64.wrap x).tmod (n : Int) = (m : Int) ∧ m < n := by
  have h0 : 0 ≤ IntKind.u64.wrap x := by rw [IntKind.wrap_u64]; omega
  rw [Int.tmod_eq_emod_of_nonneg h0]
  have h1 := Int.emod_nonneg (IntKind.u64.wrap x) (show (n : Int) ≠ 0 by omega)
  have h2 := Int.emod_lt_of_pos (IntKind.u64.wrap x) (show (0 : Int) < n by omega)
  exact ⟨(IntKind.u64.wrap x % (n : Int)).toNat, by omega, by omega⟩
end Go.Proofs.YtgajnmcjnkfblaaGreatDoor
