/- NameTable: six of its ways. -/
import Derived.Test.YtjamknejllbmkaaGreatDoorMNOne
namespace Go.Proofs.YtjamknejllbmkaaGreatDoor.nameTable
open Go.RowKit
set_option linter.unusedVariables false

def tD6 : List Df := (pp (oneT [101, 114, 114, 111, 114])).getD []
theorem tP6 : pp (oneT (⟨#[101, 114, 114, 111, 114]⟩ : ByteArray).data.toList) = some tD6 := by decide +kernel
theorem tH6 : hdT tD6 0 [] 60 = [33] ∧ hdE tD6 0 [] 60 = 0 := by decide +kernel

set_option maxHeartbeats 4000000 in
set_option maxRecDepth 100000 in
theorem tab_6 (a0 : Int) (w : World) (hm : (IntKind.u64.wrap a0).tmod 24 = 6) (hw : Tm.Lw w) :
    Calls Tryz.prog 3 #[.int .i64 a0] w fun e w' => e = .returned (.bool true) ∧ Below w.heap.size w w' := by
  have HW := hid hw
  have hcall := awake9 w hw
  clear hw
  go_enter Tryz.func3, Tryz.ntmps3
  go_wp2_with fail
  refine hcall.mono ?_
  clear hcall
  rintro e w1 ⟨rfl, hb1⟩
  have HB1 := hid hb1
  clear hb1
  go_wp2_with fail
  refine grabK (fun W => Below w.heap.size w W) ((HB1.out.alloc HB1.out.size _).alloc (by have := HB1.out.size; simp; omega) _) (fun W hW => ?_)
  have HB2 := hid hW
  clear hW HB1 hm
  refine (one_any ⟨#[101, 114, 114, 111, 114]⟩ tD6 W (by decide) tP6).mono ?_
  rintro e w2 ⟨g, c, rfl, hd, hb2⟩
  have HB3 : Hid (Below w.heap.size w w2) := HB2.out.trans (hb2.mono HB2.out.size)
  obtain ⟨n, hn⟩ : ∃ n, tD6.length = n := ⟨_, rfl⟩
  rw [hn]
  have hcall := head_one tD6 g n c 60 _ _ w2 hn hd (Tm.Lw.on HW.out HB3.out) tH6.1 tH6.2
  clear hd hb2 hn
  go_wp2_with fail
  refine hcall.mono ?_
  clear hcall
  rintro e w3 ⟨rfl, hb3⟩
  have HB4 : Hid (Below w.heap.size w w3) := HB3.out.trans (hb3.mono HB3.out.size)
  clear hb3
  go_wp2_with (first | (go_at_call 10; refine (Lx.num_any _ _).mono ?_; rintro e w5 ⟨rfl, rfl⟩) | (go_at_call 11; refine (small_two _).mono ?_; rintro e w4 ⟨⟨gs4, rfl⟩, hb4⟩; have HB5 : Hid (Below w.heap.size w w4) := HB4.out.trans (hb4.mono HB4.out.size); clear hb4))
  rw [field24]
  go_wp2_with fail
  go_ret
  exact ⟨rfl, HB5.out⟩
def tD7 : List Df := (pp (oneT [40, 43, 32, 101, 114, 114, 111, 114, 32, 49, 41])).getD []
theorem tP7 : pp (oneT (⟨#[40, 43, 32, 101, 114, 114, 111, 114, 32, 49, 41]⟩ : ByteArray).data.toList) = some tD7 := by decide +kernel
theorem tH7 : hdT tD7 0 [] 60 = [33] ∧ hdE tD7 0 [] 60 = 0 := by decide +kernel

set_option maxHeartbeats 4000000 in
set_option maxRecDepth 100000 in
theorem tab_7 (a0 : Int) (w : World) (hm : (IntKind.u64.wrap a0).tmod 24 = 7) (hw : Tm.Lw w) :
    Calls Tryz.prog 3 #[.int .i64 a0] w fun e w' => e = .returned (.bool true) ∧ Below w.heap.size w w' := by
  have HW := hid hw
  have hcall := awake9 w hw
  clear hw
  go_enter Tryz.func3, Tryz.ntmps3
  go_wp2_with fail
  refine hcall.mono ?_
  clear hcall
  rintro e w1 ⟨rfl, hb1⟩
  have HB1 := hid hb1
  clear hb1
  go_wp2_with fail
  refine grabK (fun W => Below w.heap.size w W) ((HB1.out.alloc HB1.out.size _).alloc (by have := HB1.out.size; simp; omega) _) (fun W hW => ?_)
  have HB2 := hid hW
  clear hW HB1 hm
  refine (one_any ⟨#[40, 43, 32, 101, 114, 114, 111, 114, 32, 49, 41]⟩ tD7 W (by decide) tP7).mono ?_
  rintro e w2 ⟨g, c, rfl, hd, hb2⟩
  have HB3 : Hid (Below w.heap.size w w2) := HB2.out.trans (hb2.mono HB2.out.size)
  obtain ⟨n, hn⟩ : ∃ n, tD7.length = n := ⟨_, rfl⟩
  rw [hn]
  have hcall := head_one tD7 g n c 60 _ _ w2 hn hd (Tm.Lw.on HW.out HB3.out) tH7.1 tH7.2
  clear hd hb2 hn
  go_wp2_with fail
  refine hcall.mono ?_
  clear hcall
  rintro e w3 ⟨rfl, hb3⟩
  have HB4 : Hid (Below w.heap.size w w3) := HB3.out.trans (hb3.mono HB3.out.size)
  clear hb3
  go_wp2_with (first | (go_at_call 10; refine (Lx.num_any _ _).mono ?_; rintro e w5 ⟨rfl, rfl⟩) | (go_at_call 11; refine (small_two _).mono ?_; rintro e w4 ⟨⟨gs4, rfl⟩, hb4⟩; have HB5 : Hid (Below w.heap.size w w4) := HB4.out.trans (hb4.mono HB4.out.size); clear hb4))
  rw [field24]
  go_wp2_with fail
  go_ret
  exact ⟨rfl, HB5.out⟩
def tD8 : List Df := (pp (oneT [40, 43, 32, 64, 49, 32, 101, 114, 114, 111, 114, 41])).getD []
theorem tP8 : pp (oneT (⟨#[40, 43, 32, 64, 49, 32, 101, 114, 114, 111, 114, 41]⟩ : ByteArray).data.toList) = some tD8 := by decide +kernel
theorem tH8 : hdT tD8 0 [] 60 = [33] ∧ hdE tD8 0 [] 60 = 0 := by decide +kernel

set_option maxHeartbeats 4000000 in
set_option maxRecDepth 100000 in
theorem tab_8 (a0 : Int) (w : World) (hm : (IntKind.u64.wrap a0).tmod 24 = 8) (hw : Tm.Lw w) :
    Calls Tryz.prog 3 #[.int .i64 a0] w fun e w' => e = .returned (.bool true) ∧ Below w.heap.size w w' := by
  have HW := hid hw
  have hcall := awake9 w hw
  clear hw
  go_enter Tryz.func3, Tryz.ntmps3
  go_wp2_with fail
  refine hcall.mono ?_
  clear hcall
  rintro e w1 ⟨rfl, hb1⟩
  have HB1 := hid hb1
  clear hb1
  go_wp2_with fail
  refine grabK (fun W => Below w.heap.size w W) ((HB1.out.alloc HB1.out.size _).alloc (by have := HB1.out.size; simp; omega) _) (fun W hW => ?_)
  have HB2 := hid hW
  clear hW HB1 hm
  refine (one_any ⟨#[40, 43, 32, 64, 49, 32, 101, 114, 114, 111, 114, 41]⟩ tD8 W (by decide) tP8).mono ?_
  rintro e w2 ⟨g, c, rfl, hd, hb2⟩
  have HB3 : Hid (Below w.heap.size w w2) := HB2.out.trans (hb2.mono HB2.out.size)
  obtain ⟨n, hn⟩ : ∃ n, tD8.length = n := ⟨_, rfl⟩
  rw [hn]
  have hcall := head_one tD8 g n c 60 _ _ w2 hn hd (Tm.Lw.on HW.out HB3.out) tH8.1 tH8.2
  clear hd hb2 hn
  go_wp2_with fail
  refine hcall.mono ?_
  clear hcall
  rintro e w3 ⟨rfl, hb3⟩
  have HB4 : Hid (Below w.heap.size w w3) := HB3.out.trans (hb3.mono HB3.out.size)
  clear hb3
  go_wp2_with (first | (go_at_call 10; refine (Lx.num_any _ _).mono ?_; rintro e w5 ⟨rfl, rfl⟩) | (go_at_call 11; refine (small_two _).mono ?_; rintro e w4 ⟨⟨gs4, rfl⟩, hb4⟩; have HB5 : Hid (Below w.heap.size w w4) := HB4.out.trans (hb4.mono HB4.out.size); clear hb4))
  rw [field24]
  go_wp2_with fail
  go_ret
  exact ⟨rfl, HB5.out⟩
def tD9 : List Df := (pp (oneT [40, 43, 32, 49, 32, 64, 49, 41])).getD []
theorem tP9 : pp (oneT (⟨#[40, 43, 32, 49, 32, 64, 49, 41]⟩ : ByteArray).data.toList) = some tD9 := by decide +kernel
theorem tH9 : hdT tD9 0 [] 60 = [33] ∧ hdE tD9 0 [] 60 = 0 := by decide +kernel

set_option maxHeartbeats 4000000 in
set_option maxRecDepth 100000 in
theorem tab_9 (a0 : Int) (w : World) (hm : (IntKind.u64.wrap a0).tmod 24 = 9) (hw : Tm.Lw w) :
    Calls Tryz.prog 3 #[.int .i64 a0] w fun e w' => e = .returned (.bool true) ∧ Below w.heap.size w w' := by
  have HW := hid hw
  have hcall := awake9 w hw
  clear hw
  go_enter Tryz.func3, Tryz.ntmps3
  go_wp2_with fail
  refine hcall.mono ?_
  clear hcall
  rintro e w1 ⟨rfl, hb1⟩
  have HB1 := hid hb1
  clear hb1
  go_wp2_with fail
  refine grabK (fun W => Below w.heap.size w W) ((HB1.out.alloc HB1.out.size _).alloc (by have := HB1.out.size; simp; omega) _) (fun W hW => ?_)
  have HB2 := hid hW
  clear hW HB1 hm
  refine (one_any ⟨#[40, 43, 32, 49, 32, 64, 49, 41]⟩ tD9 W (by decide) tP9).mono ?_
  rintro e w2 ⟨g, c, rfl, hd, hb2⟩
  have HB3 : Hid (Below w.heap.size w w2) := HB2.out.trans (hb2.mono HB2.out.size)
  obtain ⟨n, hn⟩ : ∃ n, tD9.length = n := ⟨_, rfl⟩
  rw [hn]
  have hcall := head_one tD9 g n c 60 _ _ w2 hn hd (Tm.Lw.on HW.out HB3.out) tH9.1 tH9.2
  clear hd hb2 hn
  go_wp2_with fail
  refine hcall.mono ?_
  clear hcall
  rintro e w3 ⟨rfl, hb3⟩
  have HB4 : Hid (Below w.heap.size w w3) := HB3.out.trans (hb3.mono HB3.out.size)
  clear hb3
  go_wp2_with (first | (go_at_call 10; refine (Lx.num_any _ _).mono ?_; rintro e w5 ⟨rfl, rfl⟩) | (go_at_call 11; refine (small_two _).mono ?_; rintro e w4 ⟨⟨gs4, rfl⟩, hb4⟩; have HB5 : Hid (Below w.heap.size w w4) := HB4.out.trans (hb4.mono HB4.out.size); clear hb4))
  rw [field24]
  go_wp2_with fail
  go_ret
  exact ⟨rfl, HB5.out⟩
def tD10 : List Df := (pp (oneT [64, 53])).getD []
theorem tP10 : pp (oneT (⟨#[64, 53]⟩ : ByteArray).data.toList) = some tD10 := by decide +kernel
theorem tH10 : hdT tD10 0 [] 60 = [64, 53] ∧ hdE tD10 0 [] 60 = 0 := by decide +kernel

set_option maxHeartbeats 4000000 in
set_option maxRecDepth 100000 in
theorem tab_10 (a0 : Int) (w : World) (hm : (IntKind.u64.wrap a0).tmod 24 = 10) (hw : Tm.Lw w) :
    Calls Tryz.prog 3 #[.int .i64 a0] w fun e w' => e = .returned (.bool true) ∧ Below w.heap.size w w' := by
  have HW := hid hw
  have hcall := awake9 w hw
  clear hw
  go_enter Tryz.func3, Tryz.ntmps3
  go_wp2_with fail
  refine hcall.mono ?_
  clear hcall
  rintro e w1 ⟨rfl, hb1⟩
  have HB1 := hid hb1
  clear hb1
  go_wp2_with fail
  refine grabK (fun W => Below w.heap.size w W) ((HB1.out.alloc HB1.out.size _).alloc (by have := HB1.out.size; simp; omega) _) (fun W hW => ?_)
  have HB2 := hid hW
  clear hW HB1 hm
  refine (one_any ⟨#[64, 53]⟩ tD10 W (by decide) tP10).mono ?_
  rintro e w2 ⟨g, c, rfl, hd, hb2⟩
  have HB3 : Hid (Below w.heap.size w w2) := HB2.out.trans (hb2.mono HB2.out.size)
  obtain ⟨n, hn⟩ : ∃ n, tD10.length = n := ⟨_, rfl⟩
  rw [hn]
  have hcall := head_one tD10 g n c 60 _ _ w2 hn hd (Tm.Lw.on HW.out HB3.out) tH10.1 tH10.2
  clear hd hb2 hn
  go_wp2_with fail
  refine hcall.mono ?_
  clear hcall
  rintro e w3 ⟨rfl, hb3⟩
  have HB4 : Hid (Below w.heap.size w w3) := HB3.out.trans (hb3.mono HB3.out.size)
  clear hb3
  go_wp2_with (first | (go_at_call 10; refine (Lx.num_any _ _).mono ?_; rintro e w5 ⟨rfl, rfl⟩) | (go_at_call 11; refine (small_two _).mono ?_; rintro e w4 ⟨⟨gs4, rfl⟩, hb4⟩; have HB5 : Hid (Below w.heap.size w w4) := HB4.out.trans (hb4.mono HB4.out.size); clear hb4))
  rw [field24]
  go_wp2_with fail
  go_ret
  exact ⟨rfl, HB5.out⟩
def tD11 : List Df := (pp (oneT [40, 64, 53, 32, 101, 114, 114, 111, 114, 32, 40, 43, 32, 49, 32, 49, 41, 41])).getD []
theorem tP11 : pp (oneT (⟨#[40, 64, 53, 32, 101, 114, 114, 111, 114, 32, 40, 43, 32, 49, 32, 49, 41, 41]⟩ : ByteArray).data.toList) = some tD11 := by decide +kernel
theorem tH11 : hdT tD11 0 [] 60 = [64, 53, 40, 95, 32, 95, 41] ∧ hdE tD11 0 [] 60 = 0 := by decide +kernel

set_option maxHeartbeats 4000000 in
set_option maxRecDepth 100000 in
theorem tab_11 (a0 : Int) (w : World) (hm : (IntKind.u64.wrap a0).tmod 24 = 11) (hw : Tm.Lw w) :
    Calls Tryz.prog 3 #[.int .i64 a0] w fun e w' => e = .returned (.bool true) ∧ Below w.heap.size w w' := by
  have HW := hid hw
  have hcall := awake9 w hw
  clear hw
  go_enter Tryz.func3, Tryz.ntmps3
  go_wp2_with fail
  refine hcall.mono ?_
  clear hcall
  rintro e w1 ⟨rfl, hb1⟩
  have HB1 := hid hb1
  clear hb1
  go_wp2_with fail
  refine grabK (fun W => Below w.heap.size w W) ((HB1.out.alloc HB1.out.size _).alloc (by have := HB1.out.size; simp; omega) _) (fun W hW => ?_)
  have HB2 := hid hW
  clear hW HB1 hm
  refine (one_any ⟨#[40, 64, 53, 32, 101, 114, 114, 111, 114, 32, 40, 43, 32, 49, 32, 49, 41, 41]⟩ tD11 W (by decide) tP11).mono ?_
  rintro e w2 ⟨g, c, rfl, hd, hb2⟩
  have HB3 : Hid (Below w.heap.size w w2) := HB2.out.trans (hb2.mono HB2.out.size)
  obtain ⟨n, hn⟩ : ∃ n, tD11.length = n := ⟨_, rfl⟩
  rw [hn]
  have hcall := head_one tD11 g n c 60 _ _ w2 hn hd (Tm.Lw.on HW.out HB3.out) tH11.1 tH11.2
  clear hd hb2 hn
  go_wp2_with fail
  refine hcall.mono ?_
  clear hcall
  rintro e w3 ⟨rfl, hb3⟩
  have HB4 : Hid (Below w.heap.size w w3) := HB3.out.trans (hb3.mono HB3.out.size)
  clear hb3
  go_wp2_with (first | (go_at_call 10; refine (Lx.num_any _ _).mono ?_; rintro e w5 ⟨rfl, rfl⟩) | (go_at_call 11; refine (small_two _).mono ?_; rintro e w4 ⟨⟨gs4, rfl⟩, hb4⟩; have HB5 : Hid (Below w.heap.size w w4) := HB4.out.trans (hb4.mono HB4.out.size); clear hb4))
  rw [field24]
  go_wp2_with fail
  go_ret
  exact ⟨rfl, HB5.out⟩
end Go.Proofs.YtjamknejllbmkaaGreatDoor.nameTable
