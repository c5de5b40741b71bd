/- NameTable: six of its ways. -/
import Derived.Test.YtjamknejllbmkaaGreatDoorMNOne
namespace Go.Proofs.YtjamknejllbmkaaGreatDoor.nameTable
open Go.RowKit
set_option linter.unusedVariables false

def tD12 : List Df := (pp (oneT [40, 108, 101, 116, 32, 101, 114, 114, 111, 114, 32, 52, 41])).getD []
theorem tP12 : pp (oneT (⟨#[40, 108, 101, 116, 32, 101, 114, 114, 111, 114, 32, 52, 41]⟩ : ByteArray).data.toList) = some tD12 := by decide +kernel
theorem tH12 : hdT tD12 0 [] 60 = [52] ∧ hdE tD12 0 [] 60 = 0 := by decide +kernel

set_option maxHeartbeats 4000000 in
set_option maxRecDepth 100000 in
theorem tab_12 (a0 : Int) (w : World) (hm : (IntKind.u64.wrap a0).tmod 24 = 12) (hw : Tm.Lw w) :
    Calls Tryz.prog 3 #[.int .i64 a0] w fun e w' => e = .returned (.bool true) ∧ Below w.heap.size w w' := by
  have HW := hid hw
  have hcall := awake9 w hw
  clear hw
  go_enter Tryz.func3, Tryz.ntmps3
  go_wp2_with fail
  refine hcall.mono ?_
  clear hcall
  rintro e w1 ⟨rfl, hb1⟩
  have HB1 := hid hb1
  clear hb1
  go_wp2_with fail
  refine grabK (fun W => Below w.heap.size w W) ((HB1.out.alloc HB1.out.size _).alloc (by have := HB1.out.size; simp; omega) _) (fun W hW => ?_)
  have HB2 := hid hW
  clear hW HB1 hm
  refine (one_any ⟨#[40, 108, 101, 116, 32, 101, 114, 114, 111, 114, 32, 52, 41]⟩ tD12 W (by decide) tP12).mono ?_
  rintro e w2 ⟨g, c, rfl, hd, hb2⟩
  have HB3 : Hid (Below w.heap.size w w2) := HB2.out.trans (hb2.mono HB2.out.size)
  obtain ⟨n, hn⟩ : ∃ n, tD12.length = n := ⟨_, rfl⟩
  rw [hn]
  have hcall := head_one tD12 g n c 60 _ _ w2 hn hd (Tm.Lw.on HW.out HB3.out) tH12.1 tH12.2
  clear hd hb2 hn
  go_wp2_with fail
  refine hcall.mono ?_
  clear hcall
  rintro e w3 ⟨rfl, hb3⟩
  have HB4 : Hid (Below w.heap.size w w3) := HB3.out.trans (hb3.mono HB3.out.size)
  clear hb3
  go_wp2_with (first | (go_at_call 10; refine (Lx.num_any _ _).mono ?_; rintro e w5 ⟨rfl, rfl⟩) | (go_at_call 11; refine (small_two _).mono ?_; rintro e w4 ⟨⟨gs4, rfl⟩, hb4⟩; have HB5 : Hid (Below w.heap.size w w4) := HB4.out.trans (hb4.mono HB4.out.size); clear hb4))
  rw [field24]
  go_wp2_with fail
  go_ret
  exact ⟨rfl, HB5.out⟩
def tD13 : List Df := (pp (oneT [40, 108, 101, 116, 32, 52, 32, 40, 43, 32, 36, 48, 32, 36, 48, 41, 41])).getD []
theorem tP13 : pp (oneT (⟨#[40, 108, 101, 116, 32, 52, 32, 40, 43, 32, 36, 48, 32, 36, 48, 41, 41]⟩ : ByteArray).data.toList) = some tD13 := by decide +kernel
theorem tH13 : hdT tD13 0 [] 60 = [56] ∧ hdE tD13 0 [] 60 = 0 := by decide +kernel

set_option maxHeartbeats 4000000 in
set_option maxRecDepth 100000 in
theorem tab_13 (a0 : Int) (w : World) (hm : (IntKind.u64.wrap a0).tmod 24 = 13) (hw : Tm.Lw w) :
    Calls Tryz.prog 3 #[.int .i64 a0] w fun e w' => e = .returned (.bool true) ∧ Below w.heap.size w w' := by
  have HW := hid hw
  have hcall := awake9 w hw
  clear hw
  go_enter Tryz.func3, Tryz.ntmps3
  go_wp2_with fail
  refine hcall.mono ?_
  clear hcall
  rintro e w1 ⟨rfl, hb1⟩
  have HB1 := hid hb1
  clear hb1
  go_wp2_with fail
  refine grabK (fun W => Below w.heap.size w W) ((HB1.out.alloc HB1.out.size _).alloc (by have := HB1.out.size; simp; omega) _) (fun W hW => ?_)
  have HB2 := hid hW
  clear hW HB1 hm
  refine (one_any ⟨#[40, 108, 101, 116, 32, 52, 32, 40, 43, 32, 36, 48, 32, 36, 48, 41, 41]⟩ tD13 W (by decide) tP13).mono ?_
  rintro e w2 ⟨g, c, rfl, hd, hb2⟩
  have HB3 : Hid (Below w.heap.size w w2) := HB2.out.trans (hb2.mono HB2.out.size)
  obtain ⟨n, hn⟩ : ∃ n, tD13.length = n := ⟨_, rfl⟩
  rw [hn]
  have hcall := head_one tD13 g n c 60 _ _ w2 hn hd (Tm.Lw.on HW.out HB3.out) tH13.1 tH13.2
  clear hd hb2 hn
  go_wp2_with fail
  refine hcall.mono ?_
  clear hcall
  rintro e w3 ⟨rfl, hb3⟩
  have HB4 : Hid (Below w.heap.size w w3) := HB3.out.trans (hb3.mono HB3.out.size)
  clear hb3
  go_wp2_with (first | (go_at_call 10; refine (Lx.num_any _ _).mono ?_; rintro e w5 ⟨rfl, rfl⟩) | (go_at_call 11; refine (small_two _).mono ?_; rintro e w4 ⟨⟨gs4, rfl⟩, hb4⟩; have HB5 : Hid (Below w.heap.size w w4) := HB4.out.trans (hb4.mono HB4.out.size); clear hb4))
  rw [field24]
  go_wp2_with fail
  go_ret
  exact ⟨rfl, HB5.out⟩
def tD14 : List Df := (pp (oneT [40, 108, 101, 116, 32, 52, 32, 40, 108, 101, 116, 32, 53, 32, 40, 45, 32, 36, 49, 32, 36, 48, 41, 41, 41])).getD []
theorem tP14 : pp (oneT (⟨#[40, 108, 101, 116, 32, 52, 32, 40, 108, 101, 116, 32, 53, 32, 40, 45, 32, 36, 49, 32, 36, 48, 41, 41, 41]⟩ : ByteArray).data.toList) = some tD14 := by decide +kernel
theorem tH14 : hdT tD14 0 [] 60 = [49] ∧ hdE tD14 0 [] 60 = 0 := by decide +kernel

set_option maxHeartbeats 4000000 in
set_option maxRecDepth 100000 in
theorem tab_14 (a0 : Int) (w : World) (hm : (IntKind.u64.wrap a0).tmod 24 = 14) (hw : Tm.Lw w) :
    Calls Tryz.prog 3 #[.int .i64 a0] w fun e w' => e = .returned (.bool true) ∧ Below w.heap.size w w' := by
  have HW := hid hw
  have hcall := awake9 w hw
  clear hw
  go_enter Tryz.func3, Tryz.ntmps3
  go_wp2_with fail
  refine hcall.mono ?_
  clear hcall
  rintro e w1 ⟨rfl, hb1⟩
  have HB1 := hid hb1
  clear hb1
  go_wp2_with fail
  refine grabK (fun W => Below w.heap.size w W) ((HB1.out.alloc HB1.out.size _).alloc (by have := HB1.out.size; simp; omega) _) (fun W hW => ?_)
  have HB2 := hid hW
  clear hW HB1 hm
  refine (one_any ⟨#[40, 108, 101, 116, 32, 52, 32, 40, 108, 101, 116, 32, 53, 32, 40, 45, 32, 36, 49, 32, 36, 48, 41, 41, 41]⟩ tD14 W (by decide) tP14).mono ?_
  rintro e w2 ⟨g, c, rfl, hd, hb2⟩
  have HB3 : Hid (Below w.heap.size w w2) := HB2.out.trans (hb2.mono HB2.out.size)
  obtain ⟨n, hn⟩ : ∃ n, tD14.length = n := ⟨_, rfl⟩
  rw [hn]
  have hcall := head_one tD14 g n c 60 _ _ w2 hn hd (Tm.Lw.on HW.out HB3.out) tH14.1 tH14.2
  clear hd hb2 hn
  go_wp2_with fail
  refine hcall.mono ?_
  clear hcall
  rintro e w3 ⟨rfl, hb3⟩
  have HB4 : Hid (Below w.heap.size w w3) := HB3.out.trans (hb3.mono HB3.out.size)
  clear hb3
  go_wp2_with (first | (go_at_call 10; refine (Lx.num_any _ _).mono ?_; rintro e w5 ⟨rfl, rfl⟩) | (go_at_call 11; refine (small_two _).mono ?_; rintro e w4 ⟨⟨gs4, rfl⟩, hb4⟩; have HB5 : Hid (Below w.heap.size w w4) := HB4.out.trans (hb4.mono HB4.out.size); clear hb4))
  rw [field24]
  go_wp2_with fail
  go_ret
  exact ⟨rfl, HB5.out⟩
def tD15 : List Df := (pp (oneT [40, 99, 97, 115, 101, 32, 64, 49, 32, 64, 49, 32, 48, 32, 56, 32, 57, 41])).getD []
theorem tP15 : pp (oneT (⟨#[40, 99, 97, 115, 101, 32, 64, 49, 32, 64, 49, 32, 48, 32, 56, 32, 57, 41]⟩ : ByteArray).data.toList) = some tD15 := by decide +kernel
theorem tH15 : hdT tD15 0 [] 60 = [56] ∧ hdE tD15 0 [] 60 = 0 := by decide +kernel

set_option maxHeartbeats 4000000 in
set_option maxRecDepth 100000 in
theorem tab_15 (a0 : Int) (w : World) (hm : (IntKind.u64.wrap a0).tmod 24 = 15) (hw : Tm.Lw w) :
    Calls Tryz.prog 3 #[.int .i64 a0] w fun e w' => e = .returned (.bool true) ∧ Below w.heap.size w w' := by
  have HW := hid hw
  have hcall := awake9 w hw
  clear hw
  go_enter Tryz.func3, Tryz.ntmps3
  go_wp2_with fail
  refine hcall.mono ?_
  clear hcall
  rintro e w1 ⟨rfl, hb1⟩
  have HB1 := hid hb1
  clear hb1
  go_wp2_with fail
  refine grabK (fun W => Below w.heap.size w W) ((HB1.out.alloc HB1.out.size _).alloc (by have := HB1.out.size; simp; omega) _) (fun W hW => ?_)
  have HB2 := hid hW
  clear hW HB1 hm
  refine (one_any ⟨#[40, 99, 97, 115, 101, 32, 64, 49, 32, 64, 49, 32, 48, 32, 56, 32, 57, 41]⟩ tD15 W (by decide) tP15).mono ?_
  rintro e w2 ⟨g, c, rfl, hd, hb2⟩
  have HB3 : Hid (Below w.heap.size w w2) := HB2.out.trans (hb2.mono HB2.out.size)
  obtain ⟨n, hn⟩ : ∃ n, tD15.length = n := ⟨_, rfl⟩
  rw [hn]
  have hcall := head_one tD15 g n c 60 _ _ w2 hn hd (Tm.Lw.on HW.out HB3.out) tH15.1 tH15.2
  clear hd hb2 hn
  go_wp2_with fail
  refine hcall.mono ?_
  clear hcall
  rintro e w3 ⟨rfl, hb3⟩
  have HB4 : Hid (Below w.heap.size w w3) := HB3.out.trans (hb3.mono HB3.out.size)
  clear hb3
  go_wp2_with (first | (go_at_call 10; refine (Lx.num_any _ _).mono ?_; rintro e w5 ⟨rfl, rfl⟩) | (go_at_call 11; refine (small_two _).mono ?_; rintro e w4 ⟨⟨gs4, rfl⟩, hb4⟩; have HB5 : Hid (Below w.heap.size w w4) := HB4.out.trans (hb4.mono HB4.out.size); clear hb4))
  rw [field24]
  go_wp2_with fail
  go_ret
  exact ⟨rfl, HB5.out⟩
def tD16 : List Df := (pp (oneT [40, 99, 97, 115, 101, 32, 64, 49, 32, 64, 50, 32, 48, 32, 56, 32, 57, 41])).getD []
theorem tP16 : pp (oneT (⟨#[40, 99, 97, 115, 101, 32, 64, 49, 32, 64, 50, 32, 48, 32, 56, 32, 57, 41]⟩ : ByteArray).data.toList) = some tD16 := by decide +kernel
theorem tH16 : hdT tD16 0 [] 60 = [57] ∧ hdE tD16 0 [] 60 = 0 := by decide +kernel

set_option maxHeartbeats 4000000 in
set_option maxRecDepth 100000 in
theorem tab_16 (a0 : Int) (w : World) (hm : (IntKind.u64.wrap a0).tmod 24 = 16) (hw : Tm.Lw w) :
    Calls Tryz.prog 3 #[.int .i64 a0] w fun e w' => e = .returned (.bool true) ∧ Below w.heap.size w w' := by
  have HW := hid hw
  have hcall := awake9 w hw
  clear hw
  go_enter Tryz.func3, Tryz.ntmps3
  go_wp2_with fail
  refine hcall.mono ?_
  clear hcall
  rintro e w1 ⟨rfl, hb1⟩
  have HB1 := hid hb1
  clear hb1
  go_wp2_with fail
  refine grabK (fun W => Below w.heap.size w W) ((HB1.out.alloc HB1.out.size _).alloc (by have := HB1.out.size; simp; omega) _) (fun W hW => ?_)
  have HB2 := hid hW
  clear hW HB1 hm
  refine (one_any ⟨#[40, 99, 97, 115, 101, 32, 64, 49, 32, 64, 50, 32, 48, 32, 56, 32, 57, 41]⟩ tD16 W (by decide) tP16).mono ?_
  rintro e w2 ⟨g, c, rfl, hd, hb2⟩
  have HB3 : Hid (Below w.heap.size w w2) := HB2.out.trans (hb2.mono HB2.out.size)
  obtain ⟨n, hn⟩ : ∃ n, tD16.length = n := ⟨_, rfl⟩
  rw [hn]
  have hcall := head_one tD16 g n c 60 _ _ w2 hn hd (Tm.Lw.on HW.out HB3.out) tH16.1 tH16.2
  clear hd hb2 hn
  go_wp2_with fail
  refine hcall.mono ?_
  clear hcall
  rintro e w3 ⟨rfl, hb3⟩
  have HB4 : Hid (Below w.heap.size w w3) := HB3.out.trans (hb3.mono HB3.out.size)
  clear hb3
  go_wp2_with (first | (go_at_call 10; refine (Lx.num_any _ _).mono ?_; rintro e w5 ⟨rfl, rfl⟩) | (go_at_call 11; refine (small_two _).mono ?_; rintro e w4 ⟨⟨gs4, rfl⟩, hb4⟩; have HB5 : Hid (Below w.heap.size w w4) := HB4.out.trans (hb4.mono HB4.out.size); clear hb4))
  rw [field24]
  go_wp2_with fail
  go_ret
  exact ⟨rfl, HB5.out⟩
def tD17 : List Df := (pp (oneT [40, 99, 97, 115, 101, 32, 40, 64, 49, 32, 50, 41, 32, 64, 49, 32, 48, 32, 56, 32, 57, 41])).getD []
theorem tP17 : pp (oneT (⟨#[40, 99, 97, 115, 101, 32, 40, 64, 49, 32, 50, 41, 32, 64, 49, 32, 48, 32, 56, 32, 57, 41]⟩ : ByteArray).data.toList) = some tD17 := by decide +kernel
theorem tH17 : hdT tD17 0 [] 60 = [57] ∧ hdE tD17 0 [] 60 = 0 := by decide +kernel

set_option maxHeartbeats 4000000 in
set_option maxRecDepth 100000 in
theorem tab_17 (a0 : Int) (w : World) (hm : (IntKind.u64.wrap a0).tmod 24 = 17) (hw : Tm.Lw w) :
    Calls Tryz.prog 3 #[.int .i64 a0] w fun e w' => e = .returned (.bool true) ∧ Below w.heap.size w w' := by
  have HW := hid hw
  have hcall := awake9 w hw
  clear hw
  go_enter Tryz.func3, Tryz.ntmps3
  go_wp2_with fail
  refine hcall.mono ?_
  clear hcall
  rintro e w1 ⟨rfl, hb1⟩
  have HB1 := hid hb1
  clear hb1
  go_wp2_with fail
  refine grabK (fun W => Below w.heap.size w W) ((HB1.out.alloc HB1.out.size _).alloc (by have := HB1.out.size; simp; omega) _) (fun W hW => ?_)
  have HB2 := hid hW
  clear hW HB1 hm
  refine (one_any ⟨#[40, 99, 97, 115, 101, 32, 40, 64, 49, 32, 50, 41, 32, 64, 49, 32, 48, 32, 56, 32, 57, 41]⟩ tD17 W (by decide) tP17).mono ?_
  rintro e w2 ⟨g, c, rfl, hd, hb2⟩
  have HB3 : Hid (Below w.heap.size w w2) := HB2.out.trans (hb2.mono HB2.out.size)
  obtain ⟨n, hn⟩ : ∃ n, tD17.length = n := ⟨_, rfl⟩
  rw [hn]
  have hcall := head_one tD17 g n c 60 _ _ w2 hn hd (Tm.Lw.on HW.out HB3.out) tH17.1 tH17.2
  clear hd hb2 hn
  go_wp2_with fail
  refine hcall.mono ?_
  clear hcall
  rintro e w3 ⟨rfl, hb3⟩
  have HB4 : Hid (Below w.heap.size w w3) := HB3.out.trans (hb3.mono HB3.out.size)
  clear hb3
  go_wp2_with (first | (go_at_call 10; refine (Lx.num_any _ _).mono ?_; rintro e w5 ⟨rfl, rfl⟩) | (go_at_call 11; refine (small_two _).mono ?_; rintro e w4 ⟨⟨gs4, rfl⟩, hb4⟩; have HB5 : Hid (Below w.heap.size w w4) := HB4.out.trans (hb4.mono HB4.out.size); clear hb4))
  rw [field24]
  go_wp2_with fail
  go_ret
  exact ⟨rfl, HB5.out⟩
end Go.Proofs.YtjamknejllbmkaaGreatDoor.nameTable
