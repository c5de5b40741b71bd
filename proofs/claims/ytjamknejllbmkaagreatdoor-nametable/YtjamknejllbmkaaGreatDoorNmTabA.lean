/- NameTable: six of its ways. -/
import Derived.Test.YtjamknejllbmkaaGreatDoorMNOne
namespace Go.Proofs.YtjamknejllbmkaaGreatDoor.nameTable
open Go.RowKit
set_option linter.unusedVariables false

def tD0 : List Df := (pp (oneT [51])).getD []
theorem tP0 : pp (oneT (⟨#[51]⟩ : ByteArray).data.toList) = some tD0 := by decide +kernel
theorem tH0 : hdT tD0 0 [] 60 = [51] ∧ hdE tD0 0 [] 60 = 0 := by decide +kernel

set_option maxHeartbeats 4000000 in
set_option maxRecDepth 100000 in
theorem tab_0 (a0 : Int) (w : World) (hm : (IntKind.u64.wrap a0).tmod 24 = 0) (hw : Tm.Lw w) :
    Calls Tryz.prog 3 #[.int .i64 a0] w fun e w' => e = .returned (.bool true) ∧ Below w.heap.size w w' := by
  have HW := hid hw
  have hcall := awake9 w hw
  clear hw
  go_enter Tryz.func3, Tryz.ntmps3
  go_wp2_with fail
  refine hcall.mono ?_
  clear hcall
  rintro e w1 ⟨rfl, hb1⟩
  have HB1 := hid hb1
  clear hb1
  go_wp2_with fail
  refine grabK (fun W => Below w.heap.size w W) ((HB1.out.alloc HB1.out.size _).alloc (by have := HB1.out.size; simp; omega) _) (fun W hW => ?_)
  have HB2 := hid hW
  clear hW HB1 hm
  refine (one_any ⟨#[51]⟩ tD0 W (by decide) tP0).mono ?_
  rintro e w2 ⟨g, c, rfl, hd, hb2⟩
  have HB3 : Hid (Below w.heap.size w w2) := HB2.out.trans (hb2.mono HB2.out.size)
  obtain ⟨n, hn⟩ : ∃ n, tD0.length = n := ⟨_, rfl⟩
  rw [hn]
  have hcall := head_one tD0 g n c 60 _ _ w2 hn hd (Tm.Lw.on HW.out HB3.out) tH0.1 tH0.2
  clear hd hb2 hn
  go_wp2_with fail
  refine hcall.mono ?_
  clear hcall
  rintro e w3 ⟨rfl, hb3⟩
  have HB4 : Hid (Below w.heap.size w w3) := HB3.out.trans (hb3.mono HB3.out.size)
  clear hb3
  go_wp2_with (first | (go_at_call 10; refine (Lx.num_any _ _).mono ?_; rintro e w5 ⟨rfl, rfl⟩) | (go_at_call 11; refine (small_two _).mono ?_; rintro e w4 ⟨⟨gs4, rfl⟩, hb4⟩; have HB5 : Hid (Below w.heap.size w w4) := HB4.out.trans (hb4.mono HB4.out.size); clear hb4))
  rw [field24]
  go_wp2_with fail
  go_ret
  exact ⟨rfl, HB5.out⟩
def tD1 : List Df := (pp (oneT [40, 43, 32, 49, 32, 50, 41])).getD []
theorem tP1 : pp (oneT (⟨#[40, 43, 32, 49, 32, 50, 41]⟩ : ByteArray).data.toList) = some tD1 := by decide +kernel
theorem tH1 : hdT tD1 0 [] 60 = [51] ∧ hdE tD1 0 [] 60 = 0 := by decide +kernel

set_option maxHeartbeats 4000000 in
set_option maxRecDepth 100000 in
theorem tab_1 (a0 : Int) (w : World) (hm : (IntKind.u64.wrap a0).tmod 24 = 1) (hw : Tm.Lw w) :
    Calls Tryz.prog 3 #[.int .i64 a0] w fun e w' => e = .returned (.bool true) ∧ Below w.heap.size w w' := by
  have HW := hid hw
  have hcall := awake9 w hw
  clear hw
  go_enter Tryz.func3, Tryz.ntmps3
  go_wp2_with fail
  refine hcall.mono ?_
  clear hcall
  rintro e w1 ⟨rfl, hb1⟩
  have HB1 := hid hb1
  clear hb1
  go_wp2_with fail
  refine grabK (fun W => Below w.heap.size w W) ((HB1.out.alloc HB1.out.size _).alloc (by have := HB1.out.size; simp; omega) _) (fun W hW => ?_)
  have HB2 := hid hW
  clear hW HB1 hm
  refine (one_any ⟨#[40, 43, 32, 49, 32, 50, 41]⟩ tD1 W (by decide) tP1).mono ?_
  rintro e w2 ⟨g, c, rfl, hd, hb2⟩
  have HB3 : Hid (Below w.heap.size w w2) := HB2.out.trans (hb2.mono HB2.out.size)
  obtain ⟨n, hn⟩ : ∃ n, tD1.length = n := ⟨_, rfl⟩
  rw [hn]
  have hcall := head_one tD1 g n c 60 _ _ w2 hn hd (Tm.Lw.on HW.out HB3.out) tH1.1 tH1.2
  clear hd hb2 hn
  go_wp2_with fail
  refine hcall.mono ?_
  clear hcall
  rintro e w3 ⟨rfl, hb3⟩
  have HB4 : Hid (Below w.heap.size w w3) := HB3.out.trans (hb3.mono HB3.out.size)
  clear hb3
  go_wp2_with (first | (go_at_call 10; refine (Lx.num_any _ _).mono ?_; rintro e w5 ⟨rfl, rfl⟩) | (go_at_call 11; refine (small_two _).mono ?_; rintro e w4 ⟨⟨gs4, rfl⟩, hb4⟩; have HB5 : Hid (Below w.heap.size w w4) := HB4.out.trans (hb4.mono HB4.out.size); clear hb4))
  rw [field24]
  go_wp2_with fail
  go_ret
  exact ⟨rfl, HB5.out⟩
def tD2 : List Df := (pp (oneT [40, 45, 32, 49, 32, 50, 41])).getD []
theorem tP2 : pp (oneT (⟨#[40, 45, 32, 49, 32, 50, 41]⟩ : ByteArray).data.toList) = some tD2 := by decide +kernel
theorem tH2 : hdT tD2 0 [] 60 = [45, 49] ∧ hdE tD2 0 [] 60 = 0 := by decide +kernel

set_option maxHeartbeats 4000000 in
set_option maxRecDepth 100000 in
theorem tab_2 (a0 : Int) (w : World) (hm : (IntKind.u64.wrap a0).tmod 24 = 2) (hw : Tm.Lw w) :
    Calls Tryz.prog 3 #[.int .i64 a0] w fun e w' => e = .returned (.bool true) ∧ Below w.heap.size w w' := by
  have HW := hid hw
  have hcall := awake9 w hw
  clear hw
  go_enter Tryz.func3, Tryz.ntmps3
  go_wp2_with fail
  refine hcall.mono ?_
  clear hcall
  rintro e w1 ⟨rfl, hb1⟩
  have HB1 := hid hb1
  clear hb1
  go_wp2_with fail
  refine grabK (fun W => Below w.heap.size w W) ((HB1.out.alloc HB1.out.size _).alloc (by have := HB1.out.size; simp; omega) _) (fun W hW => ?_)
  have HB2 := hid hW
  clear hW HB1 hm
  refine (one_any ⟨#[40, 45, 32, 49, 32, 50, 41]⟩ tD2 W (by decide) tP2).mono ?_
  rintro e w2 ⟨g, c, rfl, hd, hb2⟩
  have HB3 : Hid (Below w.heap.size w w2) := HB2.out.trans (hb2.mono HB2.out.size)
  obtain ⟨n, hn⟩ : ∃ n, tD2.length = n := ⟨_, rfl⟩
  rw [hn]
  have hcall := head_one tD2 g n c 60 _ _ w2 hn hd (Tm.Lw.on HW.out HB3.out) tH2.1 tH2.2
  clear hd hb2 hn
  go_wp2_with fail
  refine hcall.mono ?_
  clear hcall
  rintro e w3 ⟨rfl, hb3⟩
  have HB4 : Hid (Below w.heap.size w w3) := HB3.out.trans (hb3.mono HB3.out.size)
  clear hb3
  go_wp2_with (first | (go_at_call 10; refine (Lx.num_any _ _).mono ?_; rintro e w5 ⟨rfl, rfl⟩) | (go_at_call 11; refine (small_two _).mono ?_; rintro e w4 ⟨⟨gs4, rfl⟩, hb4⟩; have HB5 : Hid (Below w.heap.size w w4) := HB4.out.trans (hb4.mono HB4.out.size); clear hb4))
  rw [field24]
  go_wp2_with fail
  go_ret
  exact ⟨rfl, HB5.out⟩
def tD3 : List Df := (pp (oneT [40, 42, 32, 50, 48, 48, 32, 50, 48, 48, 41])).getD []
theorem tP3 : pp (oneT (⟨#[40, 42, 32, 50, 48, 48, 32, 50, 48, 48, 41]⟩ : ByteArray).data.toList) = some tD3 := by decide +kernel
theorem tH3 : hdT tD3 0 [] 60 = [45, 50, 53, 53, 51, 54] ∧ hdE tD3 0 [] 60 = 0 := by decide +kernel

set_option maxHeartbeats 4000000 in
set_option maxRecDepth 100000 in
theorem tab_3 (a0 : Int) (w : World) (hm : (IntKind.u64.wrap a0).tmod 24 = 3) (hw : Tm.Lw w) :
    Calls Tryz.prog 3 #[.int .i64 a0] w fun e w' => e = .returned (.bool true) ∧ Below w.heap.size w w' := by
  have HW := hid hw
  have hcall := awake9 w hw
  clear hw
  go_enter Tryz.func3, Tryz.ntmps3
  go_wp2_with fail
  refine hcall.mono ?_
  clear hcall
  rintro e w1 ⟨rfl, hb1⟩
  have HB1 := hid hb1
  clear hb1
  go_wp2_with fail
  refine grabK (fun W => Below w.heap.size w W) ((HB1.out.alloc HB1.out.size _).alloc (by have := HB1.out.size; simp; omega) _) (fun W hW => ?_)
  have HB2 := hid hW
  clear hW HB1 hm
  refine (one_any ⟨#[40, 42, 32, 50, 48, 48, 32, 50, 48, 48, 41]⟩ tD3 W (by decide) tP3).mono ?_
  rintro e w2 ⟨g, c, rfl, hd, hb2⟩
  have HB3 : Hid (Below w.heap.size w w2) := HB2.out.trans (hb2.mono HB2.out.size)
  obtain ⟨n, hn⟩ : ∃ n, tD3.length = n := ⟨_, rfl⟩
  rw [hn]
  have hcall := head_one tD3 g n c 60 _ _ w2 hn hd (Tm.Lw.on HW.out HB3.out) tH3.1 tH3.2
  clear hd hb2 hn
  go_wp2_with fail
  refine hcall.mono ?_
  clear hcall
  rintro e w3 ⟨rfl, hb3⟩
  have HB4 : Hid (Below w.heap.size w w3) := HB3.out.trans (hb3.mono HB3.out.size)
  clear hb3
  go_wp2_with (first | (go_at_call 10; refine (Lx.num_any _ _).mono ?_; rintro e w5 ⟨rfl, rfl⟩) | (go_at_call 11; refine (small_two _).mono ?_; rintro e w4 ⟨⟨gs4, rfl⟩, hb4⟩; have HB5 : Hid (Below w.heap.size w w4) := HB4.out.trans (hb4.mono HB4.out.size); clear hb4))
  rw [field24]
  go_wp2_with fail
  go_ret
  exact ⟨rfl, HB5.out⟩
def tD4 : List Df := (pp (oneT [40, 61, 32, 50, 32, 50, 41])).getD []
theorem tP4 : pp (oneT (⟨#[40, 61, 32, 50, 32, 50, 41]⟩ : ByteArray).data.toList) = some tD4 := by decide +kernel
theorem tH4 : hdT tD4 0 [] 60 = [49] ∧ hdE tD4 0 [] 60 = 0 := by decide +kernel

set_option maxHeartbeats 4000000 in
set_option maxRecDepth 100000 in
theorem tab_4 (a0 : Int) (w : World) (hm : (IntKind.u64.wrap a0).tmod 24 = 4) (hw : Tm.Lw w) :
    Calls Tryz.prog 3 #[.int .i64 a0] w fun e w' => e = .returned (.bool true) ∧ Below w.heap.size w w' := by
  have HW := hid hw
  have hcall := awake9 w hw
  clear hw
  go_enter Tryz.func3, Tryz.ntmps3
  go_wp2_with fail
  refine hcall.mono ?_
  clear hcall
  rintro e w1 ⟨rfl, hb1⟩
  have HB1 := hid hb1
  clear hb1
  go_wp2_with fail
  refine grabK (fun W => Below w.heap.size w W) ((HB1.out.alloc HB1.out.size _).alloc (by have := HB1.out.size; simp; omega) _) (fun W hW => ?_)
  have HB2 := hid hW
  clear hW HB1 hm
  refine (one_any ⟨#[40, 61, 32, 50, 32, 50, 41]⟩ tD4 W (by decide) tP4).mono ?_
  rintro e w2 ⟨g, c, rfl, hd, hb2⟩
  have HB3 : Hid (Below w.heap.size w w2) := HB2.out.trans (hb2.mono HB2.out.size)
  obtain ⟨n, hn⟩ : ∃ n, tD4.length = n := ⟨_, rfl⟩
  rw [hn]
  have hcall := head_one tD4 g n c 60 _ _ w2 hn hd (Tm.Lw.on HW.out HB3.out) tH4.1 tH4.2
  clear hd hb2 hn
  go_wp2_with fail
  refine hcall.mono ?_
  clear hcall
  rintro e w3 ⟨rfl, hb3⟩
  have HB4 : Hid (Below w.heap.size w w3) := HB3.out.trans (hb3.mono HB3.out.size)
  clear hb3
  go_wp2_with (first | (go_at_call 10; refine (Lx.num_any _ _).mono ?_; rintro e w5 ⟨rfl, rfl⟩) | (go_at_call 11; refine (small_two _).mono ?_; rintro e w4 ⟨⟨gs4, rfl⟩, hb4⟩; have HB5 : Hid (Below w.heap.size w w4) := HB4.out.trans (hb4.mono HB4.out.size); clear hb4))
  rw [field24]
  go_wp2_with fail
  go_ret
  exact ⟨rfl, HB5.out⟩
def tD5 : List Df := (pp (oneT [40, 60, 32, 50, 32, 49, 41])).getD []
theorem tP5 : pp (oneT (⟨#[40, 60, 32, 50, 32, 49, 41]⟩ : ByteArray).data.toList) = some tD5 := by decide +kernel
theorem tH5 : hdT tD5 0 [] 60 = [48] ∧ hdE tD5 0 [] 60 = 0 := by decide +kernel

set_option maxHeartbeats 4000000 in
set_option maxRecDepth 100000 in
theorem tab_5 (a0 : Int) (w : World) (hm : (IntKind.u64.wrap a0).tmod 24 = 5) (hw : Tm.Lw w) :
    Calls Tryz.prog 3 #[.int .i64 a0] w fun e w' => e = .returned (.bool true) ∧ Below w.heap.size w w' := by
  have HW := hid hw
  have hcall := awake9 w hw
  clear hw
  go_enter Tryz.func3, Tryz.ntmps3
  go_wp2_with fail
  refine hcall.mono ?_
  clear hcall
  rintro e w1 ⟨rfl, hb1⟩
  have HB1 := hid hb1
  clear hb1
  go_wp2_with fail
  refine grabK (fun W => Below w.heap.size w W) ((HB1.out.alloc HB1.out.size _).alloc (by have := HB1.out.size; simp; omega) _) (fun W hW => ?_)
  have HB2 := hid hW
  clear hW HB1 hm
  refine (one_any ⟨#[40, 60, 32, 50, 32, 49, 41]⟩ tD5 W (by decide) tP5).mono ?_
  rintro e w2 ⟨g, c, rfl, hd, hb2⟩
  have HB3 : Hid (Below w.heap.size w w2) := HB2.out.trans (hb2.mono HB2.out.size)
  obtain ⟨n, hn⟩ : ∃ n, tD5.length = n := ⟨_, rfl⟩
  rw [hn]
  have hcall := head_one tD5 g n c 60 _ _ w2 hn hd (Tm.Lw.on HW.out HB3.out) tH5.1 tH5.2
  clear hd hb2 hn
  go_wp2_with fail
  refine hcall.mono ?_
  clear hcall
  rintro e w3 ⟨rfl, hb3⟩
  have HB4 : Hid (Below w.heap.size w w3) := HB3.out.trans (hb3.mono HB3.out.size)
  clear hb3
  go_wp2_with (first | (go_at_call 10; refine (Lx.num_any _ _).mono ?_; rintro e w5 ⟨rfl, rfl⟩) | (go_at_call 11; refine (small_two _).mono ?_; rintro e w4 ⟨⟨gs4, rfl⟩, hb4⟩; have HB5 : Hid (Below w.heap.size w w4) := HB4.out.trans (hb4.mono HB4.out.size); clear hb4))
  rw [field24]
  go_wp2_with fail
  go_ret
  exact ⟨rfl, HB5.out⟩
end Go.Proofs.YtjamknejllbmkaaGreatDoor.nameTable
