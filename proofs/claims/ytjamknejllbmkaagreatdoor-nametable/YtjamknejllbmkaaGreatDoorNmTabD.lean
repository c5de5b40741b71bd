/- NameTable: six of its ways. -/
import Derived.Test.YtjamknejllbmkaaGreatDoorMNOne
namespace Go.Proofs.YtjamknejllbmkaaGreatDoor.nameTable
open Go.RowKit
set_option linter.unusedVariables false

def tD18 : List Df := (pp (oneT [40, 99, 97, 115, 101, 32, 40, 64, 49, 32, 50, 32, 51, 41, 32, 64, 49, 32, 50, 32, 40, 45, 32, 36, 48, 32, 36, 49, 41, 32, 57, 41])).getD []
theorem tP18 : pp (oneT (⟨#[40, 99, 97, 115, 101, 32, 40, 64, 49, 32, 50, 32, 51, 41, 32, 64, 49, 32, 50, 32, 40, 45, 32, 36, 48, 32, 36, 49, 41, 32, 57, 41]⟩ : ByteArray).data.toList) = some tD18 := by decide +kernel
theorem tH18 : hdT tD18 0 [] 60 = [45, 49] ∧ hdE tD18 0 [] 60 = 0 := by decide +kernel

set_option maxHeartbeats 4000000 in
set_option maxRecDepth 100000 in
theorem tab_18 (a0 : Int) (w : World) (hm : (IntKind.u64.wrap a0).tmod 24 = 18) (hw : Tm.Lw w) :
    Calls Tryz.prog 3 #[.int .i64 a0] w fun e w' => e = .returned (.bool true) ∧ Below w.heap.size w w' := by
  have HW := hid hw
  have hcall := awake9 w hw
  clear hw
  go_enter Tryz.func3, Tryz.ntmps3
  go_wp2_with fail
  refine hcall.mono ?_
  clear hcall
  rintro e w1 ⟨rfl, hb1⟩
  have HB1 := hid hb1
  clear hb1
  go_wp2_with fail
  refine grabK (fun W => Below w.heap.size w W) ((HB1.out.alloc HB1.out.size _).alloc (by have := HB1.out.size; simp; omega) _) (fun W hW => ?_)
  have HB2 := hid hW
  clear hW HB1 hm
  refine (one_any ⟨#[40, 99, 97, 115, 101, 32, 40, 64, 49, 32, 50, 32, 51, 41, 32, 64, 49, 32, 50, 32, 40, 45, 32, 36, 48, 32, 36, 49, 41, 32, 57, 41]⟩ tD18 W (by decide) tP18).mono ?_
  rintro e w2 ⟨g, c, rfl, hd, hb2⟩
  have HB3 : Hid (Below w.heap.size w w2) := HB2.out.trans (hb2.mono HB2.out.size)
  obtain ⟨n, hn⟩ : ∃ n, tD18.length = n := ⟨_, rfl⟩
  rw [hn]
  have hcall := head_one tD18 g n c 60 _ _ w2 hn hd (Tm.Lw.on HW.out HB3.out) tH18.1 tH18.2
  clear hd hb2 hn
  go_wp2_with fail
  refine hcall.mono ?_
  clear hcall
  rintro e w3 ⟨rfl, hb3⟩
  have HB4 : Hid (Below w.heap.size w w3) := HB3.out.trans (hb3.mono HB3.out.size)
  clear hb3
  go_wp2_with (first | (go_at_call 10; refine (Lx.num_any _ _).mono ?_; rintro e w5 ⟨rfl, rfl⟩) | (go_at_call 11; refine (small_two _).mono ?_; rintro e w4 ⟨⟨gs4, rfl⟩, hb4⟩; have HB5 : Hid (Below w.heap.size w w4) := HB4.out.trans (hb4.mono HB4.out.size); clear hb4))
  rw [field24]
  go_wp2_with fail
  go_ret
  exact ⟨rfl, HB5.out⟩
def tD19 : List Df := (pp (oneT [40, 99, 97, 115, 101, 32, 49, 32, 64, 49, 32, 48, 32, 56, 32, 57, 41])).getD []
theorem tP19 : pp (oneT (⟨#[40, 99, 97, 115, 101, 32, 49, 32, 64, 49, 32, 48, 32, 56, 32, 57, 41]⟩ : ByteArray).data.toList) = some tD19 := by decide +kernel
theorem tH19 : hdT tD19 0 [] 60 = [57] ∧ hdE tD19 0 [] 60 = 0 := by decide +kernel

set_option maxHeartbeats 4000000 in
set_option maxRecDepth 100000 in
theorem tab_19 (a0 : Int) (w : World) (hm : (IntKind.u64.wrap a0).tmod 24 = 19) (hw : Tm.Lw w) :
    Calls Tryz.prog 3 #[.int .i64 a0] w fun e w' => e = .returned (.bool true) ∧ Below w.heap.size w w' := by
  have HW := hid hw
  have hcall := awake9 w hw
  clear hw
  go_enter Tryz.func3, Tryz.ntmps3
  go_wp2_with fail
  refine hcall.mono ?_
  clear hcall
  rintro e w1 ⟨rfl, hb1⟩
  have HB1 := hid hb1
  clear hb1
  go_wp2_with fail
  refine grabK (fun W => Below w.heap.size w W) ((HB1.out.alloc HB1.out.size _).alloc (by have := HB1.out.size; simp; omega) _) (fun W hW => ?_)
  have HB2 := hid hW
  clear hW HB1 hm
  refine (one_any ⟨#[40, 99, 97, 115, 101, 32, 49, 32, 64, 49, 32, 48, 32, 56, 32, 57, 41]⟩ tD19 W (by decide) tP19).mono ?_
  rintro e w2 ⟨g, c, rfl, hd, hb2⟩
  have HB3 : Hid (Below w.heap.size w w2) := HB2.out.trans (hb2.mono HB2.out.size)
  obtain ⟨n, hn⟩ : ∃ n, tD19.length = n := ⟨_, rfl⟩
  rw [hn]
  have hcall := head_one tD19 g n c 60 _ _ w2 hn hd (Tm.Lw.on HW.out HB3.out) tH19.1 tH19.2
  clear hd hb2 hn
  go_wp2_with fail
  refine hcall.mono ?_
  clear hcall
  rintro e w3 ⟨rfl, hb3⟩
  have HB4 : Hid (Below w.heap.size w w3) := HB3.out.trans (hb3.mono HB3.out.size)
  clear hb3
  go_wp2_with (first | (go_at_call 10; refine (Lx.num_any _ _).mono ?_; rintro e w5 ⟨rfl, rfl⟩) | (go_at_call 11; refine (small_two _).mono ?_; rintro e w4 ⟨⟨gs4, rfl⟩, hb4⟩; have HB5 : Hid (Below w.heap.size w w4) := HB4.out.trans (hb4.mono HB4.out.size); clear hb4))
  rw [field24]
  go_wp2_with fail
  go_ret
  exact ⟨rfl, HB5.out⟩
def tD20 : List Df := (pp (oneT [40, 99, 97, 115, 101, 32, 101, 114, 114, 111, 114, 32, 64, 49, 32, 48, 32, 56, 32, 57, 41])).getD []
theorem tP20 : pp (oneT (⟨#[40, 99, 97, 115, 101, 32, 101, 114, 114, 111, 114, 32, 64, 49, 32, 48, 32, 56, 32, 57, 41]⟩ : ByteArray).data.toList) = some tD20 := by decide +kernel
theorem tH20 : hdT tD20 0 [] 60 = [33] ∧ hdE tD20 0 [] 60 = 0 := by decide +kernel

set_option maxHeartbeats 4000000 in
set_option maxRecDepth 100000 in
theorem tab_20 (a0 : Int) (w : World) (hm : (IntKind.u64.wrap a0).tmod 24 = 20) (hw : Tm.Lw w) :
    Calls Tryz.prog 3 #[.int .i64 a0] w fun e w' => e = .returned (.bool true) ∧ Below w.heap.size w w' := by
  have HW := hid hw
  have hcall := awake9 w hw
  clear hw
  go_enter Tryz.func3, Tryz.ntmps3
  go_wp2_with fail
  refine hcall.mono ?_
  clear hcall
  rintro e w1 ⟨rfl, hb1⟩
  have HB1 := hid hb1
  clear hb1
  go_wp2_with fail
  refine grabK (fun W => Below w.heap.size w W) ((HB1.out.alloc HB1.out.size _).alloc (by have := HB1.out.size; simp; omega) _) (fun W hW => ?_)
  have HB2 := hid hW
  clear hW HB1 hm
  refine (one_any ⟨#[40, 99, 97, 115, 101, 32, 101, 114, 114, 111, 114, 32, 64, 49, 32, 48, 32, 56, 32, 57, 41]⟩ tD20 W (by decide) tP20).mono ?_
  rintro e w2 ⟨g, c, rfl, hd, hb2⟩
  have HB3 : Hid (Below w.heap.size w w2) := HB2.out.trans (hb2.mono HB2.out.size)
  obtain ⟨n, hn⟩ : ∃ n, tD20.length = n := ⟨_, rfl⟩
  rw [hn]
  have hcall := head_one tD20 g n c 60 _ _ w2 hn hd (Tm.Lw.on HW.out HB3.out) tH20.1 tH20.2
  clear hd hb2 hn
  go_wp2_with fail
  refine hcall.mono ?_
  clear hcall
  rintro e w3 ⟨rfl, hb3⟩
  have HB4 : Hid (Below w.heap.size w w3) := HB3.out.trans (hb3.mono HB3.out.size)
  clear hb3
  go_wp2_with (first | (go_at_call 10; refine (Lx.num_any _ _).mono ?_; rintro e w5 ⟨rfl, rfl⟩) | (go_at_call 11; refine (small_two _).mono ?_; rintro e w4 ⟨⟨gs4, rfl⟩, hb4⟩; have HB5 : Hid (Below w.heap.size w w4) := HB4.out.trans (hb4.mono HB4.out.size); clear hb4))
  rw [field24]
  go_wp2_with fail
  go_ret
  exact ⟨rfl, HB5.out⟩
def tD21 : List Df := (pp (oneT [40, 102, 51, 32, 101, 114, 114, 111, 114, 32, 54, 41])).getD []
theorem tP21 : pp (oneT (⟨#[40, 102, 51, 32, 101, 114, 114, 111, 114, 32, 54, 41]⟩ : ByteArray).data.toList) = some tD21 := by decide +kernel
theorem tH21 : hdT tD21 0 [] 60 = [54] ∧ hdE tD21 0 [] 60 = 0 := by decide +kernel

set_option maxHeartbeats 4000000 in
set_option maxRecDepth 100000 in
theorem tab_21 (a0 : Int) (w : World) (hm : (IntKind.u64.wrap a0).tmod 24 = 21) (hw : Tm.Lw w) :
    Calls Tryz.prog 3 #[.int .i64 a0] w fun e w' => e = .returned (.bool true) ∧ Below w.heap.size w w' := by
  have HW := hid hw
  have hcall := awake9 w hw
  clear hw
  go_enter Tryz.func3, Tryz.ntmps3
  go_wp2_with fail
  refine hcall.mono ?_
  clear hcall
  rintro e w1 ⟨rfl, hb1⟩
  have HB1 := hid hb1
  clear hb1
  go_wp2_with fail
  refine grabK (fun W => Below w.heap.size w W) ((HB1.out.alloc HB1.out.size _).alloc (by have := HB1.out.size; simp; omega) _) (fun W hW => ?_)
  have HB2 := hid hW
  clear hW HB1 hm
  refine (one_any ⟨#[40, 102, 51, 32, 101, 114, 114, 111, 114, 32, 54, 41]⟩ tD21 W (by decide) tP21).mono ?_
  rintro e w2 ⟨g, c, rfl, hd, hb2⟩
  have HB3 : Hid (Below w.heap.size w w2) := HB2.out.trans (hb2.mono HB2.out.size)
  obtain ⟨n, hn⟩ : ∃ n, tD21.length = n := ⟨_, rfl⟩
  rw [hn]
  have hcall := head_one tD21 g n c 60 _ _ w2 hn hd (Tm.Lw.on HW.out HB3.out) tH21.1 tH21.2
  clear hd hb2 hn
  go_wp2_with fail
  refine hcall.mono ?_
  clear hcall
  rintro e w3 ⟨rfl, hb3⟩
  have HB4 : Hid (Below w.heap.size w w3) := HB3.out.trans (hb3.mono HB3.out.size)
  clear hb3
  go_wp2_with (first | (go_at_call 10; refine (Lx.num_any _ _).mono ?_; rintro e w5 ⟨rfl, rfl⟩) | (go_at_call 11; refine (small_two _).mono ?_; rintro e w4 ⟨⟨gs4, rfl⟩, hb4⟩; have HB5 : Hid (Below w.heap.size w w4) := HB4.out.trans (hb4.mono HB4.out.size); clear hb4))
  rw [field24]
  go_wp2_with fail
  go_ret
  exact ⟨rfl, HB5.out⟩
def tD22 : List Df := (pp (oneT [40, 102, 49, 32, 40, 64, 55, 32, 101, 114, 114, 111, 114, 32, 52, 41, 32, 53, 41])).getD []
theorem tP22 : pp (oneT (⟨#[40, 102, 49, 32, 40, 64, 55, 32, 101, 114, 114, 111, 114, 32, 52, 41, 32, 53, 41]⟩ : ByteArray).data.toList) = some tD22 := by decide +kernel
theorem tH22 : hdT tD22 0 [] 60 = [57] ∧ hdE tD22 0 [] 60 = 0 := by decide +kernel

set_option maxHeartbeats 4000000 in
set_option maxRecDepth 100000 in
theorem tab_22 (a0 : Int) (w : World) (hm : (IntKind.u64.wrap a0).tmod 24 = 22) (hw : Tm.Lw w) :
    Calls Tryz.prog 3 #[.int .i64 a0] w fun e w' => e = .returned (.bool true) ∧ Below w.heap.size w w' := by
  have HW := hid hw
  have hcall := awake9 w hw
  clear hw
  go_enter Tryz.func3, Tryz.ntmps3
  go_wp2_with fail
  refine hcall.mono ?_
  clear hcall
  rintro e w1 ⟨rfl, hb1⟩
  have HB1 := hid hb1
  clear hb1
  go_wp2_with fail
  refine grabK (fun W => Below w.heap.size w W) ((HB1.out.alloc HB1.out.size _).alloc (by have := HB1.out.size; simp; omega) _) (fun W hW => ?_)
  have HB2 := hid hW
  clear hW HB1 hm
  refine (one_any ⟨#[40, 102, 49, 32, 40, 64, 55, 32, 101, 114, 114, 111, 114, 32, 52, 41, 32, 53, 41]⟩ tD22 W (by decide) tP22).mono ?_
  rintro e w2 ⟨g, c, rfl, hd, hb2⟩
  have HB3 : Hid (Below w.heap.size w w2) := HB2.out.trans (hb2.mono HB2.out.size)
  obtain ⟨n, hn⟩ : ∃ n, tD22.length = n := ⟨_, rfl⟩
  rw [hn]
  have hcall := head_one tD22 g n c 60 _ _ w2 hn hd (Tm.Lw.on HW.out HB3.out) tH22.1 tH22.2
  clear hd hb2 hn
  go_wp2_with fail
  refine hcall.mono ?_
  clear hcall
  rintro e w3 ⟨rfl, hb3⟩
  have HB4 : Hid (Below w.heap.size w w3) := HB3.out.trans (hb3.mono HB3.out.size)
  clear hb3
  go_wp2_with (first | (go_at_call 10; refine (Lx.num_any _ _).mono ?_; rintro e w5 ⟨rfl, rfl⟩) | (go_at_call 11; refine (small_two _).mono ?_; rintro e w4 ⟨⟨gs4, rfl⟩, hb4⟩; have HB5 : Hid (Below w.heap.size w w4) := HB4.out.trans (hb4.mono HB4.out.size); clear hb4))
  rw [field24]
  go_wp2_with fail
  go_ret
  exact ⟨rfl, HB5.out⟩
def tD23 : List Df := (pp (oneT [40, 99, 97, 115, 101, 32, 40, 64, 49, 32, 101, 114, 114, 111, 114, 41, 32, 64, 49, 32, 49, 32, 55, 32, 57, 41])).getD []
theorem tP23 : pp (oneT (⟨#[40, 99, 97, 115, 101, 32, 40, 64, 49, 32, 101, 114, 114, 111, 114, 41, 32, 64, 49, 32, 49, 32, 55, 32, 57, 41]⟩ : ByteArray).data.toList) = some tD23 := by decide +kernel
theorem tH23 : hdT tD23 0 [] 60 = [55] ∧ hdE tD23 0 [] 60 = 0 := by decide +kernel

set_option maxHeartbeats 4000000 in
set_option maxRecDepth 100000 in
theorem tab_23 (a0 : Int) (w : World) (hm : (IntKind.u64.wrap a0).tmod 24 = 23) (hw : Tm.Lw w) :
    Calls Tryz.prog 3 #[.int .i64 a0] w fun e w' => e = .returned (.bool true) ∧ Below w.heap.size w w' := by
  have HW := hid hw
  have hcall := awake9 w hw
  clear hw
  go_enter Tryz.func3, Tryz.ntmps3
  go_wp2_with fail
  refine hcall.mono ?_
  clear hcall
  rintro e w1 ⟨rfl, hb1⟩
  have HB1 := hid hb1
  clear hb1
  go_wp2_with fail
  refine grabK (fun W => Below w.heap.size w W) ((HB1.out.alloc HB1.out.size _).alloc (by have := HB1.out.size; simp; omega) _) (fun W hW => ?_)
  have HB2 := hid hW
  clear hW HB1 hm
  refine (one_any ⟨#[40, 99, 97, 115, 101, 32, 40, 64, 49, 32, 101, 114, 114, 111, 114, 41, 32, 64, 49, 32, 49, 32, 55, 32, 57, 41]⟩ tD23 W (by decide) tP23).mono ?_
  rintro e w2 ⟨g, c, rfl, hd, hb2⟩
  have HB3 : Hid (Below w.heap.size w w2) := HB2.out.trans (hb2.mono HB2.out.size)
  obtain ⟨n, hn⟩ : ∃ n, tD23.length = n := ⟨_, rfl⟩
  rw [hn]
  have hcall := head_one tD23 g n c 60 _ _ w2 hn hd (Tm.Lw.on HW.out HB3.out) tH23.1 tH23.2
  clear hd hb2 hn
  go_wp2_with fail
  refine hcall.mono ?_
  clear hcall
  rintro e w3 ⟨rfl, hb3⟩
  have HB4 : Hid (Below w.heap.size w w3) := HB3.out.trans (hb3.mono HB3.out.size)
  clear hb3
  go_wp2_with (first | (go_at_call 10; refine (Lx.num_any _ _).mono ?_; rintro e w5 ⟨rfl, rfl⟩) | (go_at_call 11; refine (small_two _).mono ?_; rintro e w4 ⟨⟨gs4, rfl⟩, hb4⟩; have HB5 : Hid (Below w.heap.size w w4) := HB4.out.trans (hb4.mono HB4.out.size); clear hb4))
  rw [field24]
  go_wp2_with fail
  go_ret
  exact ⟨rfl, HB5.out⟩
end Go.Proofs.YtjamknejllbmkaaGreatDoor.nameTable
