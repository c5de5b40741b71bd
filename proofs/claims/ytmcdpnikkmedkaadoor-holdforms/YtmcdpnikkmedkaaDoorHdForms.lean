/- sleuthlaw10.HoldForms returns true at every input: its ways, one by one. -/
import Derived.Test.YtmcdpnikkmedkaaDoorMHLaw
namespace Go.Proofs.YtmcdpnikkmedkaaDoor.holdForms
open Go.RowKit
set_option linter.unusedVariables false

theorem hds_noask {P : List Df} {fn : Int} {args : List Wdn} {res : Wdn} {fuel : Int} (h : hdsA P fn args res fuel = false) : hdsB P fn args res fuel = false ∧ hdsE P fn args res fuel = 1000 := by
  unfold hdsB hdsE; rw [h]; exact ⟨rfl, rfl⟩
theorem hds_ask {P : List Df} {fn : Int} {args : List Wdn} {res : Wdn} {fuel : Int} (h : askB P fn args fuel = false) : hdsA P fn args res fuel = false := by unfold hdsA; rw [h]; rfl
theorem hds_res {P : List Df} {fn : Int} {args : List Wdn} {res : Wdn} {fuel : Int} (h : (Tm.whole res).isSome = false) : hdsA P fn args res fuel = false := by unfold hdsA; rw [h]; simp
theorem no_neg (P : List Df) (fn : Int) (args : List Wdn) (fuel : Int) (h : fn < 0) : askB P fn args fuel = false := by
  unfold askB
  rw [show decide (0 ≤ fn) = false from decide_eq_false (by omega)]
  simp
theorem no_def (fn : Int) (args : List Wdn) (fuel : Int) (h : 2 ≤ fn) : askB smallL fn args fuel = false := by
  unfold askB
  rw [show smallL[fn.toNat]? = none from List.getElem?_eq_none (by show 2 ≤ _; omega)]
  simp
theorem no_fuel (P : List Df) (fn : Int) (args : List Wdn) (fuel : Int) (h : fuel < 0 ∨ 400 < fuel) : askB P fn args fuel = false := by
  unfold askB
  rw [show decide (0 ≤ fuel ∧ fuel ≤ 400) = false from decide_eq_false (by omega)]
  simp
theorem umod8 (x : Int) : ∃ m : Nat, (IntKind.u64.wrap x).tmod 8 = (m : Int) ∧ m < 8 := by
  have h0 : 0 ≤ IntKind.u64.wrap x := by rw [IntKind.wrap_u64]; omega
  rw [Int.tmod_eq_emod_of_nonneg h0]
  exact ⟨(IntKind.u64.wrap x % 8).toNat, by omega, by omega⟩
theorem and_mask (x : Int) (k : Nat) (hk : k < 62) : ∃ m : Nat, bits .and .i64 x ((2 ^ k - 1 : Nat) : Int) = (m : Int) ∧ m < 2 ^ k := by
  have hb : (BitVec.ofInt 64 ((2 ^ k - 1 : Nat) : Int)).toNat = 2 ^ k - 1 := by
    rw [BitVec.toNat_ofInt]
    have h1 : 2 ^ k < 2 ^ 62 := Nat.pow_lt_pow_right (by decide) hk
    have h2 : (2 : Nat) ^ 62 = 4611686018427387904 := by decide
    omega
  have h : bits .and .i64 x ((2 ^ k - 1 : Nat) : Int) = IntKind.i64.wrap (((BitVec.ofInt 64 x &&& BitVec.ofInt 64 ((2 ^ k - 1 : Nat) : Int)).toNat : Nat) : Int) := rfl
  rw [BitVec.toNat_and, hb, Nat.and_two_pow_sub_one_eq_mod] at h
  have hlt : (BitVec.ofInt 64 x).toNat % 2 ^ k < 2 ^ k := Nat.mod_lt _ (Nat.pow_pos (by decide))
  have h1 : 2 ^ k < 2 ^ 62 := Nat.pow_lt_pow_right (by decide) hk
  have h2 : (2 : Nat) ^ 62 = 4611686018427387904 := by decide
  refine ⟨_, h.trans ?_, hlt⟩
  rw [IntKind.wrap_i64]
  omega
theorem ab5_at {w u0 : World} {B : Nat} (hs : SmallAt u0 B) (hu : Below w.heap.size w u0) (hz : u0.heap.size = B + 11) (o o2 : Obj) (x y : ByteArray) :
    SmallAt (((u0.alloc o).alloc (Obj.cells #[.string x, .string y] 9)).alloc o2) B ∧ Tm.Txts (((u0.alloc o).alloc (Obj.cells #[.string x, .string y] 9)).alloc o2) (some ⟨B + 11 + 1, 0, none⟩) [x, y] ∧ Below w.heap.size w (((u0.alloc o).alloc (Obj.cells #[.string x, .string y] 9)).alloc o2) := by
  have h1 : (u0.alloc o).heap.size = B + 11 + 1 := by simp [hz]
  have ht := (Tm.new_txts (u0.alloc o) [x, y]).on ((Below.refl _ _).alloc (Nat.le_refl _) o2)
  rw [h1] at ht
  have hb := ((hu.alloc hu.size o).alloc (by have := hu.size; rw [h1]; omega) (Obj.cells #[.string x, .string y] 9))
  exact ⟨((hs.alloc o).alloc _).alloc _, ht, hb.alloc hb.size _⟩
def smallZ : List Df := [⟨1, mainL⟩, ⟨2, addsL⟩]
theorem no_z : askB smallZ 1 (Tm.lst [⟨#[49]⟩, ⟨#[50]⟩]) 50 = false := by decide +kernel
theorem no_n : askB smallL 1 (Tm.lst []) 50 = false := by decide +kernel
theorem no_t : askB smallL 1 (Tm.lst [⟨#[49]⟩, ⟨#[48, 50]⟩]) 50 = false := by decide +kernel
theorem no_r0 : (Tm.whole (⟨#[]⟩ : ByteArray).data.toList).isSome = false := by decide +kernel
theorem no_r1 : (Tm.whole (⟨#[48, 49]⟩ : ByteArray).data.toList).isSome = false := by decide +kernel
theorem no_r2 : (Tm.whole (⟨#[64]⟩ : ByteArray).data.toList).isSome = false := by decide +kernel
theorem no_r3 : (Tm.whole (⟨#[51, 32]⟩ : ByteArray).data.toList).isSome = false := by decide +kernel
theorem ab0_at {w u0 : World} {B : Nat} (hs : SmallAt u0 B) (hu : Below w.heap.size w u0) (hz : u0.heap.size = B + 11) (hB : w.heap.size ≤ B) (o o2 : Obj) :
    Defs Exs ((((u0.setCell ⟨B + 10, 0, none⟩ (.int .i64 1)).alloc o).alloc (Obj.cells #[.string ⟨#[49]⟩, .string ⟨#[50]⟩] 9)).alloc o2) (some ⟨B + 10, 0, none⟩) smallZ ∧ Tm.Txts ((((u0.setCell ⟨B + 10, 0, none⟩ (.int .i64 1)).alloc o).alloc (Obj.cells #[.string ⟨#[49]⟩, .string ⟨#[50]⟩] 9)).alloc o2) (some ⟨B + 11 + 1, 0, none⟩) [⟨#[49]⟩, ⟨#[50]⟩] ∧
      Below w.heap.size w ((((u0.setCell ⟨B + 10, 0, none⟩ (.int .i64 1)).alloc o).alloc (Obj.cells #[.string ⟨#[49]⟩, .string ⟨#[50]⟩] 9)).alloc o2) := by
  obtain ⟨t1, t2, t3⟩ := hs.turned 0 (.int .i64 1)
  have hsz : (u0.setCell ⟨B + 10, 0, none⟩ (.int .i64 1)).heap.size = B + 11 := by simp [hz]
  have hbw := hu.setCell (p := ⟨B + 10, 0, none⟩) (Nat.le_trans hB (Nat.le_add_right _ _)) (.int .i64 1)
  generalize u0.setCell ⟨B + 10, 0, none⟩ (.int .i64 1) = u1 at *
  have h1 : (u1.alloc o).heap.size = B + 11 + 1 := by simp [hsz]
  have ht := (Tm.new_txts (u1.alloc o) [⟨#[49]⟩, ⟨#[50]⟩]).on ((Below.refl _ _).alloc (Nat.le_refl _) o2)
  rw [h1] at ht
  have hb0 : Below u1.heap.size u1 ((u1.alloc o).alloc (Obj.cells #[.string ⟨#[49]⟩, .string ⟨#[50]⟩] 9)) := ((Below.refl _ u1).alloc (Nat.le_refl _) _).alloc (by rw [h1]; omega) _
  have hb := hb0.alloc hb0.size o2
  exact ⟨Defs.on (t1.defs (ds := smallZ) ⟨rfl, ⟨_, _, rfl, t2⟩, rfl, ⟨_, _, rfl, t3.exs⟩, trivial⟩) hb, ht, hbw.trans (hb.mono hbw.size)⟩
theorem ab6_at {w u0 : World} {B : Nat} (hs : SmallAt u0 B) (hu : Below w.heap.size w u0) (hz : u0.heap.size = B + 11) (o o2 o3 : Obj) (x y : ByteArray) :
    SmallAt ((((u0.alloc o).alloc (Obj.cells #[.string x, .string y] 9)).alloc o2).alloc o3) B ∧ Tm.Txts ((((u0.alloc o).alloc (Obj.cells #[.string x, .string y] 9)).alloc o2).alloc o3) (some ⟨B + 11 + 1, 0, none⟩) [x, y] ∧ Below w.heap.size w ((((u0.alloc o).alloc (Obj.cells #[.string x, .string y] 9)).alloc o2).alloc o3) := by
  obtain ⟨h1, h2, h3⟩ := ab5_at hs hu hz o o2 x y
  exact ⟨h1.alloc _, h2.on ((Below.refl _ _).alloc (Nat.le_refl _) o3), h3.alloc h3.size _⟩

set_option maxHeartbeats 4000000 in
set_option maxRecDepth 100000 in
theorem way_0 (a0 a1 : Int) (dm : Nat) (w : World) (hm : (IntKind.u64.wrap a0).tmod 8 = 0) (hdm : bits .and .i64 a1 1023 = (dm : Int)) (hd1 : (dm : Int) ≤ 1023) (hd0 : 0 ≤ (dm : Int)) (hw : Tm.Lw w) :
    Calls Tryd.prog 3 #[.int .i64 a0, .int .i64 a1] w fun e w' => e = .returned (.bool true) ∧ Below w.heap.size w w' := by
  have HW := hid hw
  have hcall := awake10 w hw
  clear hw
  go_enter Tryd.func3, Tryd.ntmps3
  go_wp2_with fail
  refine hcall.mono ?_
  clear hcall
  rintro e w1 ⟨rfl, hb1⟩
  have HB1 := hid hb1
  clear hb1
  go_wp2_with fail
  refine (small10_any _).mono ?_
  rintro e u0 ⟨rfl, hs0, hb0, hz0⟩
  have HS := hid hs0
  have HU : Hid (Below w.heap.size w u0) := HB1.out.trans (hb0.mono HB1.out.size)
  obtain ⟨B, hB⟩ : ∃ B, w1.heap.size = B := ⟨_, rfl⟩
  rw [hB] at HS hz0
  have HBW : Hid (w.heap.size ≤ B) := by show _ ≤ _; rw [← hB]; exact HB1.out.size
  simp only [hB]
  clear hs0 hb0
  have hc2 := HS.out.row.cell 0 (.int .i64 0) rfl
  have hf2 := HS.out.row.frozen 0
  go_wp2_with fail
  refine grabK (fun W => Defs Exs W (some ⟨B + 10, 0, none⟩) smallZ ∧ Tm.Txts W (some ⟨B + 11 + 1, 0, none⟩) [⟨#[49]⟩, ⟨#[50]⟩] ∧ Below w.heap.size w W) (ab0_at HS.out HU.out hz0 HBW.out _ _) (fun W hW => ?_)
  have HX : Hid (Below w.heap.size w W) := hW.2.2
  have hcall := holds_any (some ⟨B + 10, 0, none⟩) 2 smallZ 1 a1 (some ⟨B + 11 + 1, 0, none⟩) 2 [⟨#[49]⟩, ⟨#[50]⟩] ⟨#[51]⟩ 50 W hW.1 hW.2.1 (by decide) (by decide) (by decide) (Tm.Lw.on HW.out HX.out)
  rw [(hds_noask (hds_ask no_z)).1, (hds_noask (hds_ask no_z)).2] at hcall
  clear hW hc2 hf2
  refine hcall.mono ?_
  clear hcall
  rintro e v0 ⟨rfl, hv0⟩
  have HV : Hid (Below w.heap.size w v0) := HX.out.trans (hv0.mono HX.out.size)
  clear hv0
  go_wp2_with (first | (go_at_call 11; refine (Lx.num_any _ _).mono ?_; rintro e w5 ⟨rfl, rfl⟩))
  go_ret
  exact ⟨rfl, HV.out⟩

set_option maxHeartbeats 4000000 in
set_option maxRecDepth 100000 in
theorem way_1 (a0 a1 : Int) (dm : Nat) (w : World) (hm : (IntKind.u64.wrap a0).tmod 8 = 1) (hdm : bits .and .i64 a1 1023 = (dm : Int)) (hd1 : (dm : Int) ≤ 1023) (hd0 : 0 ≤ (dm : Int)) (hw : Tm.Lw w) :
    Calls Tryd.prog 3 #[.int .i64 a0, .int .i64 a1] w fun e w' => e = .returned (.bool true) ∧ Below w.heap.size w w' := by
  have HW := hid hw
  have hcall := awake10 w hw
  clear hw
  go_enter Tryd.func3, Tryd.ntmps3
  go_wp2_with fail
  refine hcall.mono ?_
  clear hcall
  rintro e w1 ⟨rfl, hb1⟩
  have HB1 := hid hb1
  clear hb1
  go_wp2_with fail
  refine (small10_any _).mono ?_
  rintro e u0 ⟨rfl, hs0, hb0, hz0⟩
  have HS := hid hs0
  have HU : Hid (Below w.heap.size w u0) := HB1.out.trans (hb0.mono HB1.out.size)
  obtain ⟨B, hB⟩ : ∃ B, w1.heap.size = B := ⟨_, rfl⟩
  rw [hB] at HS hz0
  have HBW : Hid (w.heap.size ≤ B) := by show _ ≤ _; rw [← hB]; exact HB1.out.size
  simp only [hB]
  clear hs0 hb0
  go_wp2_with fail
  refine grabK (fun W => SmallAt W B ∧ Tm.Txts W (some ⟨B + 11 + 1, 0, none⟩) [⟨#[49]⟩, ⟨#[50]⟩] ∧ Below w.heap.size w W) (ab5_at HS.out HU.out hz0 _ _ _ _) (fun W hW => ?_)
  have HX : Hid (Below w.heap.size w W) := hW.2.2
  refine (holds_small B (-(1 + (dm : Int))) _ (some ⟨B + 11 + 1, 0, none⟩) 2 2 [⟨#[49]⟩, ⟨#[50]⟩] ⟨#[51]⟩ (50) _ _ W hW.1 rfl hW.2.1 (by decide) (by decide) (by decide) (Tm.Lw.on HW.out HX.out) (hds_noask (hds_ask (no_neg _ _ _ _ (by omega)))).1 (hds_noask (hds_ask (no_neg _ _ _ _ (by omega)))).2).mono ?_
  clear hW
  rintro e v0 ⟨rfl, hv0⟩
  have HV : Hid (Below w.heap.size w v0) := HX.out.trans (hv0.mono HX.out.size)
  clear hv0
  go_wp2_with (first | (go_at_call 11; refine (Lx.num_any _ _).mono ?_; rintro e w5 ⟨rfl, rfl⟩))
  go_ret
  exact ⟨rfl, HV.out⟩

set_option maxHeartbeats 4000000 in
set_option maxRecDepth 100000 in
theorem way_2 (a0 a1 : Int) (dm : Nat) (w : World) (hm : (IntKind.u64.wrap a0).tmod 8 = 2) (hdm : bits .and .i64 a1 1023 = (dm : Int)) (hd1 : (dm : Int) ≤ 1023) (hd0 : 0 ≤ (dm : Int)) (hw : Tm.Lw w) :
    Calls Tryd.prog 3 #[.int .i64 a0, .int .i64 a1] w fun e w' => e = .returned (.bool true) ∧ Below w.heap.size w w' := by
  have HW := hid hw
  have hcall := awake10 w hw
  clear hw
  go_enter Tryd.func3, Tryd.ntmps3
  go_wp2_with fail
  refine hcall.mono ?_
  clear hcall
  rintro e w1 ⟨rfl, hb1⟩
  have HB1 := hid hb1
  clear hb1
  go_wp2_with fail
  refine (small10_any _).mono ?_
  rintro e u0 ⟨rfl, hs0, hb0, hz0⟩
  have HS := hid hs0
  have HU : Hid (Below w.heap.size w u0) := HB1.out.trans (hb0.mono HB1.out.size)
  obtain ⟨B, hB⟩ : ∃ B, w1.heap.size = B := ⟨_, rfl⟩
  rw [hB] at HS hz0
  have HBW : Hid (w.heap.size ≤ B) := by show _ ≤ _; rw [← hB]; exact HB1.out.size
  simp only [hB]
  clear hs0 hb0
  go_wp2_with fail
  refine grabK (fun W => SmallAt W B ∧ Tm.Txts W (some ⟨B + 11 + 1, 0, none⟩) [⟨#[49]⟩, ⟨#[50]⟩] ∧ Below w.heap.size w W) (ab5_at HS.out HU.out hz0 _ _ _ _) (fun W hW => ?_)
  have HX : Hid (Below w.heap.size w W) := hW.2.2
  refine (holds_small B (1 + (1 + (dm : Int))) _ (some ⟨B + 11 + 1, 0, none⟩) 2 2 [⟨#[49]⟩, ⟨#[50]⟩] ⟨#[51]⟩ (50) _ _ W hW.1 rfl hW.2.1 (by decide) (by decide) (by decide) (Tm.Lw.on HW.out HX.out) (hds_noask (hds_ask (no_def _ _ _ (by omega)))).1 (hds_noask (hds_ask (no_def _ _ _ (by omega)))).2).mono ?_
  clear hW
  rintro e v0 ⟨rfl, hv0⟩
  have HV : Hid (Below w.heap.size w v0) := HX.out.trans (hv0.mono HX.out.size)
  clear hv0
  go_wp2_with (first | (go_at_call 11; refine (Lx.num_any _ _).mono ?_; rintro e w5 ⟨rfl, rfl⟩))
  go_ret
  exact ⟨rfl, HV.out⟩

set_option maxHeartbeats 4000000 in
set_option maxRecDepth 100000 in
theorem way_3 (a0 a1 : Int) (dm : Nat) (w : World) (hm : (IntKind.u64.wrap a0).tmod 8 = 3) (hdm : bits .and .i64 a1 1023 = (dm : Int)) (hd1 : (dm : Int) ≤ 1023) (hd0 : 0 ≤ (dm : Int)) (hw : Tm.Lw w) :
    Calls Tryd.prog 3 #[.int .i64 a0, .int .i64 a1] w fun e w' => e = .returned (.bool true) ∧ Below w.heap.size w w' := by
  have HW := hid hw
  have hcall := awake10 w hw
  clear hw
  go_enter Tryd.func3, Tryd.ntmps3
  go_wp2_with fail
  refine hcall.mono ?_
  clear hcall
  rintro e w1 ⟨rfl, hb1⟩
  have HB1 := hid hb1
  clear hb1
  go_wp2_with fail
  refine (small10_any _).mono ?_
  rintro e u0 ⟨rfl, hs0, hb0, hz0⟩
  have HS := hid hs0
  have HU : Hid (Below w.heap.size w u0) := HB1.out.trans (hb0.mono HB1.out.size)
  obtain ⟨B, hB⟩ : ∃ B, w1.heap.size = B := ⟨_, rfl⟩
  rw [hB] at HS hz0
  have HBW : Hid (w.heap.size ≤ B) := by show _ ≤ _; rw [← hB]; exact HB1.out.size
  simp only [hB]
  clear hs0 hb0
  go_wp2_with fail
  refine grabK (fun W => SmallAt W B ∧ Tm.Txts W (some ⟨B + 11 + 1, 0, none⟩) [⟨#[49]⟩, ⟨#[50]⟩] ∧ Below w.heap.size w W) (ab5_at HS.out HU.out hz0 _ _ _ _) (fun W hW => ?_)
  have HX : Hid (Below w.heap.size w W) := hW.2.2
  refine (holds_small B 1 _ none 0 0 [] ⟨#[51]⟩ 50 _ _ W hW.1 rfl (Or.inl rfl) (fun x h => by cases h) (by decide) (by decide) (Tm.Lw.on HW.out HX.out) (hds_noask (hds_ask no_n)).1 (hds_noask (hds_ask no_n)).2).mono ?_
  clear hW
  rintro e v0 ⟨rfl, hv0⟩
  have HV : Hid (Below w.heap.size w v0) := HX.out.trans (hv0.mono HX.out.size)
  clear hv0
  go_wp2_with (first | (go_at_call 11; refine (Lx.num_any _ _).mono ?_; rintro e w5 ⟨rfl, rfl⟩))
  go_ret
  exact ⟨rfl, HV.out⟩

set_option maxHeartbeats 4000000 in
set_option maxRecDepth 100000 in
theorem way_4 (a0 a1 : Int) (dm : Nat) (w : World) (hm : (IntKind.u64.wrap a0).tmod 8 = 4) (hdm : bits .and .i64 a1 1023 = (dm : Int)) (hd1 : (dm : Int) ≤ 1023) (hd0 : 0 ≤ (dm : Int)) (hw : Tm.Lw w) :
    Calls Tryd.prog 3 #[.int .i64 a0, .int .i64 a1] w fun e w' => e = .returned (.bool true) ∧ Below w.heap.size w w' := by
  have HW := hid hw
  have hcall := awake10 w hw
  clear hw
  go_enter Tryd.func3, Tryd.ntmps3
  go_wp2_with fail
  refine hcall.mono ?_
  clear hcall
  rintro e w1 ⟨rfl, hb1⟩
  have HB1 := hid hb1
  clear hb1
  go_wp2_with fail
  refine (small10_any _).mono ?_
  rintro e u0 ⟨rfl, hs0, hb0, hz0⟩
  have HS := hid hs0
  have HU : Hid (Below w.heap.size w u0) := HB1.out.trans (hb0.mono HB1.out.size)
  obtain ⟨B, hB⟩ : ∃ B, w1.heap.size = B := ⟨_, rfl⟩
  rw [hB] at HS hz0
  have HBW : Hid (w.heap.size ≤ B) := by show _ ≤ _; rw [← hB]; exact HB1.out.size
  simp only [hB]
  clear hs0 hb0
  go_wp2_with fail
  refine grabK (fun W => SmallAt W B ∧ Tm.Txts W (some ⟨B + 11 + 1, 0, none⟩) [⟨#[49]⟩, ⟨#[48, 50]⟩] ∧ Below w.heap.size w W) (ab5_at HS.out HU.out hz0 _ _ _ _) (fun W hW => ?_)
  have HX : Hid (Below w.heap.size w W) := hW.2.2
  refine (holds_small B (1) _ (some ⟨B + 11 + 1, 0, none⟩) 2 2 [⟨#[49]⟩, ⟨#[48, 50]⟩] ⟨#[51]⟩ (50) _ _ W hW.1 rfl hW.2.1 (by decide) (by decide) (by decide) (Tm.Lw.on HW.out HX.out) (hds_noask (hds_ask (no_t))).1 (hds_noask (hds_ask (no_t))).2).mono ?_
  clear hW
  rintro e v0 ⟨rfl, hv0⟩
  have HV : Hid (Below w.heap.size w v0) := HX.out.trans (hv0.mono HX.out.size)
  clear hv0
  go_wp2_with (first | (go_at_call 11; refine (Lx.num_any _ _).mono ?_; rintro e w5 ⟨rfl, rfl⟩))
  go_ret
  exact ⟨rfl, HV.out⟩

set_option maxHeartbeats 4000000 in
set_option maxRecDepth 100000 in
theorem way_50 (a0 a1 : Int) (dm : Nat) (w : World) (hm : (IntKind.u64.wrap a0).tmod 8 = 5) (hdm : bits .and .i64 a1 1023 = (dm : Int)) (hd1 : (dm : Int) ≤ 1023) (hd0 : 0 ≤ (dm : Int)) (hc : bits .and .i64 a1 3 = 0) (hw : Tm.Lw w) :
    Calls Tryd.prog 3 #[.int .i64 a0, .int .i64 a1] w fun e w' => e = .returned (.bool true) ∧ Below w.heap.size w w' := by
  have HW := hid hw
  have hcall := awake10 w hw
  clear hw
  go_enter Tryd.func3, Tryd.ntmps3
  go_wp2_with fail
  refine hcall.mono ?_
  clear hcall
  rintro e w1 ⟨rfl, hb1⟩
  have HB1 := hid hb1
  clear hb1
  go_wp2_with fail
  refine (small10_any _).mono ?_
  rintro e u0 ⟨rfl, hs0, hb0, hz0⟩
  have HS := hid hs0
  have HU : Hid (Below w.heap.size w u0) := HB1.out.trans (hb0.mono HB1.out.size)
  obtain ⟨B, hB⟩ : ∃ B, w1.heap.size = B := ⟨_, rfl⟩
  rw [hB] at HS hz0
  have HBW : Hid (w.heap.size ≤ B) := by show _ ≤ _; rw [← hB]; exact HB1.out.size
  simp only [hB]
  clear hs0 hb0
  go_wp2_with fail
  refine grabK (fun W => SmallAt W B ∧ Tm.Txts W (some ⟨B + 11 + 1, 0, none⟩) [⟨#[49]⟩, ⟨#[50]⟩] ∧ Below w.heap.size w W) (ab6_at HS.out HU.out hz0 _ _ _ _ _) (fun W hW => ?_)
  have HX : Hid (Below w.heap.size w W) := hW.2.2
  refine (holds_small B (1) _ (some ⟨B + 11 + 1, 0, none⟩) 2 2 [⟨#[49]⟩, ⟨#[50]⟩] ⟨#[]⟩ (50) _ _ W hW.1 rfl hW.2.1 (by decide) (by decide) (by decide) (Tm.Lw.on HW.out HX.out) (hds_noask (hds_res no_r0)).1 (hds_noask (hds_res no_r0)).2).mono ?_
  clear hW
  rintro e v0 ⟨rfl, hv0⟩
  have HV : Hid (Below w.heap.size w v0) := HX.out.trans (hv0.mono HX.out.size)
  clear hv0
  go_wp2_with (first | (go_at_call 11; refine (Lx.num_any _ _).mono ?_; rintro e w5 ⟨rfl, rfl⟩))
  go_ret
  exact ⟨rfl, HV.out⟩

set_option maxHeartbeats 4000000 in
set_option maxRecDepth 100000 in
theorem way_51 (a0 a1 : Int) (dm : Nat) (w : World) (hm : (IntKind.u64.wrap a0).tmod 8 = 5) (hdm : bits .and .i64 a1 1023 = (dm : Int)) (hd1 : (dm : Int) ≤ 1023) (hd0 : 0 ≤ (dm : Int)) (hc : bits .and .i64 a1 3 = 1) (hw : Tm.Lw w) :
    Calls Tryd.prog 3 #[.int .i64 a0, .int .i64 a1] w fun e w' => e = .returned (.bool true) ∧ Below w.heap.size w w' := by
  have HW := hid hw
  have hcall := awake10 w hw
  clear hw
  go_enter Tryd.func3, Tryd.ntmps3
  go_wp2_with fail
  refine hcall.mono ?_
  clear hcall
  rintro e w1 ⟨rfl, hb1⟩
  have HB1 := hid hb1
  clear hb1
  go_wp2_with fail
  refine (small10_any _).mono ?_
  rintro e u0 ⟨rfl, hs0, hb0, hz0⟩
  have HS := hid hs0
  have HU : Hid (Below w.heap.size w u0) := HB1.out.trans (hb0.mono HB1.out.size)
  obtain ⟨B, hB⟩ : ∃ B, w1.heap.size = B := ⟨_, rfl⟩
  rw [hB] at HS hz0
  have HBW : Hid (w.heap.size ≤ B) := by show _ ≤ _; rw [← hB]; exact HB1.out.size
  simp only [hB]
  clear hs0 hb0
  go_wp2_with fail
  refine grabK (fun W => SmallAt W B ∧ Tm.Txts W (some ⟨B + 11 + 1, 0, none⟩) [⟨#[49]⟩, ⟨#[50]⟩] ∧ Below w.heap.size w W) (ab6_at HS.out HU.out hz0 _ _ _ _ _) (fun W hW => ?_)
  have HX : Hid (Below w.heap.size w W) := hW.2.2
  refine (holds_small B (1) _ (some ⟨B + 11 + 1, 0, none⟩) 2 2 [⟨#[49]⟩, ⟨#[50]⟩] ⟨#[48, 49]⟩ (50) _ _ W hW.1 rfl hW.2.1 (by decide) (by decide) (by decide) (Tm.Lw.on HW.out HX.out) (hds_noask (hds_res no_r1)).1 (hds_noask (hds_res no_r1)).2).mono ?_
  clear hW
  rintro e v0 ⟨rfl, hv0⟩
  have HV : Hid (Below w.heap.size w v0) := HX.out.trans (hv0.mono HX.out.size)
  clear hv0
  go_wp2_with (first | (go_at_call 11; refine (Lx.num_any _ _).mono ?_; rintro e w5 ⟨rfl, rfl⟩))
  go_ret
  exact ⟨rfl, HV.out⟩

set_option maxHeartbeats 4000000 in
set_option maxRecDepth 100000 in
theorem way_52 (a0 a1 : Int) (dm : Nat) (w : World) (hm : (IntKind.u64.wrap a0).tmod 8 = 5) (hdm : bits .and .i64 a1 1023 = (dm : Int)) (hd1 : (dm : Int) ≤ 1023) (hd0 : 0 ≤ (dm : Int)) (hc : bits .and .i64 a1 3 = 2) (hw : Tm.Lw w) :
    Calls Tryd.prog 3 #[.int .i64 a0, .int .i64 a1] w fun e w' => e = .returned (.bool true) ∧ Below w.heap.size w w' := by
  have HW := hid hw
  have hcall := awake10 w hw
  clear hw
  go_enter Tryd.func3, Tryd.ntmps3
  go_wp2_with fail
  refine hcall.mono ?_
  clear hcall
  rintro e w1 ⟨rfl, hb1⟩
  have HB1 := hid hb1
  clear hb1
  go_wp2_with fail
  refine (small10_any _).mono ?_
  rintro e u0 ⟨rfl, hs0, hb0, hz0⟩
  have HS := hid hs0
  have HU : Hid (Below w.heap.size w u0) := HB1.out.trans (hb0.mono HB1.out.size)
  obtain ⟨B, hB⟩ : ∃ B, w1.heap.size = B := ⟨_, rfl⟩
  rw [hB] at HS hz0
  have HBW : Hid (w.heap.size ≤ B) := by show _ ≤ _; rw [← hB]; exact HB1.out.size
  simp only [hB]
  clear hs0 hb0
  go_wp2_with fail
  refine grabK (fun W => SmallAt W B ∧ Tm.Txts W (some ⟨B + 11 + 1, 0, none⟩) [⟨#[49]⟩, ⟨#[50]⟩] ∧ Below w.heap.size w W) (ab6_at HS.out HU.out hz0 _ _ _ _ _) (fun W hW => ?_)
  have HX : Hid (Below w.heap.size w W) := hW.2.2
  refine (holds_small B (1) _ (some ⟨B + 11 + 1, 0, none⟩) 2 2 [⟨#[49]⟩, ⟨#[50]⟩] ⟨#[64]⟩ (50) _ _ W hW.1 rfl hW.2.1 (by decide) (by decide) (by decide) (Tm.Lw.on HW.out HX.out) (hds_noask (hds_res no_r2)).1 (hds_noask (hds_res no_r2)).2).mono ?_
  clear hW
  rintro e v0 ⟨rfl, hv0⟩
  have HV : Hid (Below w.heap.size w v0) := HX.out.trans (hv0.mono HX.out.size)
  clear hv0
  go_wp2_with (first | (go_at_call 11; refine (Lx.num_any _ _).mono ?_; rintro e w5 ⟨rfl, rfl⟩))
  go_ret
  exact ⟨rfl, HV.out⟩

set_option maxHeartbeats 4000000 in
set_option maxRecDepth 100000 in
theorem way_53 (a0 a1 : Int) (dm : Nat) (w : World) (hm : (IntKind.u64.wrap a0).tmod 8 = 5) (hdm : bits .and .i64 a1 1023 = (dm : Int)) (hd1 : (dm : Int) ≤ 1023) (hd0 : 0 ≤ (dm : Int)) (hc : bits .and .i64 a1 3 = 3) (hw : Tm.Lw w) :
    Calls Tryd.prog 3 #[.int .i64 a0, .int .i64 a1] w fun e w' => e = .returned (.bool true) ∧ Below w.heap.size w w' := by
  have HW := hid hw
  have hcall := awake10 w hw
  clear hw
  go_enter Tryd.func3, Tryd.ntmps3
  go_wp2_with fail
  refine hcall.mono ?_
  clear hcall
  rintro e w1 ⟨rfl, hb1⟩
  have HB1 := hid hb1
  clear hb1
  go_wp2_with fail
  refine (small10_any _).mono ?_
  rintro e u0 ⟨rfl, hs0, hb0, hz0⟩
  have HS := hid hs0
  have HU : Hid (Below w.heap.size w u0) := HB1.out.trans (hb0.mono HB1.out.size)
  obtain ⟨B, hB⟩ : ∃ B, w1.heap.size = B := ⟨_, rfl⟩
  rw [hB] at HS hz0
  have HBW : Hid (w.heap.size ≤ B) := by show _ ≤ _; rw [← hB]; exact HB1.out.size
  simp only [hB]
  clear hs0 hb0
  go_wp2_with fail
  refine grabK (fun W => SmallAt W B ∧ Tm.Txts W (some ⟨B + 11 + 1, 0, none⟩) [⟨#[49]⟩, ⟨#[50]⟩] ∧ Below w.heap.size w W) (ab6_at HS.out HU.out hz0 _ _ _ _ _) (fun W hW => ?_)
  have HX : Hid (Below w.heap.size w W) := hW.2.2
  refine (holds_small B (1) _ (some ⟨B + 11 + 1, 0, none⟩) 2 2 [⟨#[49]⟩, ⟨#[50]⟩] ⟨#[51, 32]⟩ (50) _ _ W hW.1 rfl hW.2.1 (by decide) (by decide) (by decide) (Tm.Lw.on HW.out HX.out) (hds_noask (hds_res no_r3)).1 (hds_noask (hds_res no_r3)).2).mono ?_
  clear hW
  rintro e v0 ⟨rfl, hv0⟩
  have HV : Hid (Below w.heap.size w v0) := HX.out.trans (hv0.mono HX.out.size)
  clear hv0
  go_wp2_with (first | (go_at_call 11; refine (Lx.num_any _ _).mono ?_; rintro e w5 ⟨rfl, rfl⟩))
  go_ret
  exact ⟨rfl, HV.out⟩

set_option maxHeartbeats 4000000 in
set_option maxRecDepth 100000 in
theorem way_6 (a0 a1 : Int) (dm : Nat) (w : World) (hm : (IntKind.u64.wrap a0).tmod 8 = 6) (hdm : bits .and .i64 a1 1023 = (dm : Int)) (hd1 : (dm : Int) ≤ 1023) (hd0 : 0 ≤ (dm : Int)) (hw : Tm.Lw w) :
    Calls Tryd.prog 3 #[.int .i64 a0, .int .i64 a1] w fun e w' => e = .returned (.bool true) ∧ Below w.heap.size w w' := by
  have HW := hid hw
  have hcall := awake10 w hw
  clear hw
  go_enter Tryd.func3, Tryd.ntmps3
  go_wp2_with fail
  refine hcall.mono ?_
  clear hcall
  rintro e w1 ⟨rfl, hb1⟩
  have HB1 := hid hb1
  clear hb1
  go_wp2_with fail
  refine (small10_any _).mono ?_
  rintro e u0 ⟨rfl, hs0, hb0, hz0⟩
  have HS := hid hs0
  have HU : Hid (Below w.heap.size w u0) := HB1.out.trans (hb0.mono HB1.out.size)
  obtain ⟨B, hB⟩ : ∃ B, w1.heap.size = B := ⟨_, rfl⟩
  rw [hB] at HS hz0
  have HBW : Hid (w.heap.size ≤ B) := by show _ ≤ _; rw [← hB]; exact HB1.out.size
  simp only [hB]
  clear hs0 hb0
  go_wp2_with fail
  refine grabK (fun W => SmallAt W B ∧ Tm.Txts W (some ⟨B + 11 + 1, 0, none⟩) [⟨#[49]⟩, ⟨#[50]⟩] ∧ Below w.heap.size w W) (ab5_at HS.out HU.out hz0 _ _ _ _) (fun W hW => ?_)
  have HX : Hid (Below w.heap.size w W) := hW.2.2
  refine (holds_small B (1) _ (some ⟨B + 11 + 1, 0, none⟩) 2 2 [⟨#[49]⟩, ⟨#[50]⟩] ⟨#[51]⟩ (-(1 + (dm : Int))) _ _ W hW.1 rfl hW.2.1 (by decide) (by decide) (by decide) (Tm.Lw.on HW.out HX.out) (hds_noask (hds_ask (no_fuel _ _ _ _ (by omega)))).1 (hds_noask (hds_ask (no_fuel _ _ _ _ (by omega)))).2).mono ?_
  clear hW
  rintro e v0 ⟨rfl, hv0⟩
  have HV : Hid (Below w.heap.size w v0) := HX.out.trans (hv0.mono HX.out.size)
  clear hv0
  go_wp2_with (first | (go_at_call 11; refine (Lx.num_any _ _).mono ?_; rintro e w5 ⟨rfl, rfl⟩))
  go_ret
  exact ⟨rfl, HV.out⟩

set_option maxHeartbeats 4000000 in
set_option maxRecDepth 100000 in
theorem way_7 (a0 a1 : Int) (dm : Nat) (w : World) (hm : (IntKind.u64.wrap a0).tmod 8 = 7) (hdm : bits .and .i64 a1 1023 = (dm : Int)) (hd1 : (dm : Int) ≤ 1023) (hd0 : 0 ≤ (dm : Int)) (hw : Tm.Lw w) :
    Calls Tryd.prog 3 #[.int .i64 a0, .int .i64 a1] w fun e w' => e = .returned (.bool true) ∧ Below w.heap.size w w' := by
  have HW := hid hw
  have hcall := awake10 w hw
  clear hw
  go_enter Tryd.func3, Tryd.ntmps3
  go_wp2_with fail
  refine hcall.mono ?_
  clear hcall
  rintro e w1 ⟨rfl, hb1⟩
  have HB1 := hid hb1
  clear hb1
  go_wp2_with fail
  refine (small10_any _).mono ?_
  rintro e u0 ⟨rfl, hs0, hb0, hz0⟩
  have HS := hid hs0
  have HU : Hid (Below w.heap.size w u0) := HB1.out.trans (hb0.mono HB1.out.size)
  obtain ⟨B, hB⟩ : ∃ B, w1.heap.size = B := ⟨_, rfl⟩
  rw [hB] at HS hz0
  have HBW : Hid (w.heap.size ≤ B) := by show _ ≤ _; rw [← hB]; exact HB1.out.size
  simp only [hB]
  clear hs0 hb0
  go_wp2_with fail
  refine grabK (fun W => SmallAt W B ∧ Tm.Txts W (some ⟨B + 11 + 1, 0, none⟩) [⟨#[49]⟩, ⟨#[50]⟩] ∧ Below w.heap.size w W) (ab5_at HS.out HU.out hz0 _ _ _ _) (fun W hW => ?_)
  have HX : Hid (Below w.heap.size w W) := hW.2.2
  refine (holds_small B (1) _ (some ⟨B + 11 + 1, 0, none⟩) 2 2 [⟨#[49]⟩, ⟨#[50]⟩] ⟨#[51]⟩ (400 + (1 + (dm : Int))) _ _ W hW.1 rfl hW.2.1 (by decide) (by decide) (by decide) (Tm.Lw.on HW.out HX.out) (hds_noask (hds_ask (no_fuel _ _ _ _ (by omega)))).1 (hds_noask (hds_ask (no_fuel _ _ _ _ (by omega)))).2).mono ?_
  clear hW
  rintro e v0 ⟨rfl, hv0⟩
  have HV : Hid (Below w.heap.size w v0) := HX.out.trans (hv0.mono HX.out.size)
  clear hv0
  go_wp2_with (first | (go_at_call 11; refine (Lx.num_any _ _).mono ?_; rintro e w5 ⟨rfl, rfl⟩))
  go_ret
  exact ⟨rfl, HV.out⟩
end Go.Proofs.YtmcdpnikkmedkaaDoor.holdForms
