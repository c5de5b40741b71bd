/- NameEndless: four of its ways. -/
import Derived.Test.YtjamknejllbmkaaGreatDoorMNOne
namespace Go.Proofs.YtjamknejllbmkaaGreatDoor.nameEndless
open Go.RowKit
set_option linter.unusedVariables false

def eD4 : List Df := (pp (oneT [40, 102, 50, 32, 49, 41])).getD []
theorem eP4 : pp (oneT (⟨#[40, 102, 50, 32, 49, 41]⟩ : ByteArray).data.toList) = some eD4 := by decide +kernel
theorem eH4 : hdE eD4 0 [] 400 = 901 := by decide +kernel

set_option maxHeartbeats 4000000 in
set_option maxRecDepth 100000 in
theorem end_4 (a0 a1 : Int) (f : Nat) (w : World) (hm : (IntKind.u64.wrap a0).tmod 401 = (f : Int)) (hf : f ≤ 400) (hk : bits .and .i64 a1 7 = 4) (hw : Tm.Lw w) :
    Calls Tryz.prog 4 #[.int .i64 a0, .int .i64 a1] w fun e w' => e = .returned (.bool true) ∧ Below w.heap.size w w' := by
  have HW := hid hw
  have HF := hid hf
  have hcall := awake9 w hw
  have hf' : (f : Int) ≤ 400 := by omega
  clear hw hf
  go_enter Tryz.func4, Tryz.ntmps4
  go_wp2_with fail
  refine hcall.mono ?_
  clear hcall
  rintro e w1 ⟨rfl, hb1⟩
  have HB1 := hid hb1
  clear hb1
  go_wp2_with fail
  refine grabK (fun W => Below w.heap.size w W) (by first | exact HB1.out.alloc HB1.out.size _ | exact (HB1.out.alloc HB1.out.size _).drew) (fun W hW => ?_)
  have HB2 := hid hW
  clear hW HB1 hm hk
  refine (one_any ⟨#[40, 102, 50, 32, 49, 41]⟩ eD4 W (by decide) eP4).mono ?_
  rintro e w2 ⟨g, c, rfl, hd, hb2⟩
  have HB3 : Hid (Below w.heap.size w w2) := HB2.out.trans (hb2.mono HB2.out.size)
  obtain ⟨n, hn⟩ : ∃ n, eD4.length = n := ⟨_, rfl⟩
  rw [hn]
  have hcall := head_one eD4 g n c (f : Int) _ _ w2 hn hd (Tm.Lw.on HW.out HB3.out) (endless eH4 f HF.out).1 (endless eH4 f HF.out).2
  clear hd hb2 hn hf'
  go_wp2_with fail
  refine hcall.mono ?_
  clear hcall
  rintro e w3 ⟨rfl, hb3⟩
  have HB4 : Hid (Below w.heap.size w w3) := HB3.out.trans (hb3.mono HB3.out.size)
  clear hb3
  go_wp2_with (first | (go_at_call 10; refine (Lx.num_any _ _).mono ?_; rintro e w5 ⟨rfl, rfl⟩))
  go_ret
  exact ⟨rfl, HB4.out⟩
def eD5 : List Df := (pp (oneT [40, 102, 49, 32, 40, 102, 50, 32, 49, 41, 32, 49, 41])).getD []
theorem eP5 : pp (oneT (⟨#[40, 102, 49, 32, 40, 102, 50, 32, 49, 41, 32, 49, 41]⟩ : ByteArray).data.toList) = some eD5 := by decide +kernel
theorem eH5 : hdE eD5 0 [] 400 = 901 := by decide +kernel

set_option maxHeartbeats 4000000 in
set_option maxRecDepth 100000 in
theorem end_5 (a0 a1 : Int) (f : Nat) (w : World) (hm : (IntKind.u64.wrap a0).tmod 401 = (f : Int)) (hf : f ≤ 400) (hk : bits .and .i64 a1 7 = 5) (hw : Tm.Lw w) :
    Calls Tryz.prog 4 #[.int .i64 a0, .int .i64 a1] w fun e w' => e = .returned (.bool true) ∧ Below w.heap.size w w' := by
  have HW := hid hw
  have HF := hid hf
  have hcall := awake9 w hw
  have hf' : (f : Int) ≤ 400 := by omega
  clear hw hf
  go_enter Tryz.func4, Tryz.ntmps4
  go_wp2_with fail
  refine hcall.mono ?_
  clear hcall
  rintro e w1 ⟨rfl, hb1⟩
  have HB1 := hid hb1
  clear hb1
  go_wp2_with fail
  refine grabK (fun W => Below w.heap.size w W) (by first | exact HB1.out.alloc HB1.out.size _ | exact (HB1.out.alloc HB1.out.size _).drew) (fun W hW => ?_)
  have HB2 := hid hW
  clear hW HB1 hm hk
  refine (one_any ⟨#[40, 102, 49, 32, 40, 102, 50, 32, 49, 41, 32, 49, 41]⟩ eD5 W (by decide) eP5).mono ?_
  rintro e w2 ⟨g, c, rfl, hd, hb2⟩
  have HB3 : Hid (Below w.heap.size w w2) := HB2.out.trans (hb2.mono HB2.out.size)
  obtain ⟨n, hn⟩ : ∃ n, eD5.length = n := ⟨_, rfl⟩
  rw [hn]
  have hcall := head_one eD5 g n c (f : Int) _ _ w2 hn hd (Tm.Lw.on HW.out HB3.out) (endless eH5 f HF.out).1 (endless eH5 f HF.out).2
  clear hd hb2 hn hf'
  go_wp2_with fail
  refine hcall.mono ?_
  clear hcall
  rintro e w3 ⟨rfl, hb3⟩
  have HB4 : Hid (Below w.heap.size w w3) := HB3.out.trans (hb3.mono HB3.out.size)
  clear hb3
  go_wp2_with (first | (go_at_call 10; refine (Lx.num_any _ _).mono ?_; rintro e w5 ⟨rfl, rfl⟩))
  go_ret
  exact ⟨rfl, HB4.out⟩
def eD6 : List Df := (pp (oneT [40, 43, 32, 40, 102, 48, 41, 32, 101, 114, 114, 111, 114, 41])).getD []
theorem eP6 : pp (oneT (⟨#[40, 43, 32, 40, 102, 48, 41, 32, 101, 114, 114, 111, 114, 41]⟩ : ByteArray).data.toList) = some eD6 := by decide +kernel
theorem eH6 : hdE eD6 0 [] 400 = 901 := by decide +kernel

set_option maxHeartbeats 4000000 in
set_option maxRecDepth 100000 in
theorem end_6 (a0 a1 : Int) (f : Nat) (w : World) (hm : (IntKind.u64.wrap a0).tmod 401 = (f : Int)) (hf : f ≤ 400) (hk : bits .and .i64 a1 7 = 6) (hw : Tm.Lw w) :
    Calls Tryz.prog 4 #[.int .i64 a0, .int .i64 a1] w fun e w' => e = .returned (.bool true) ∧ Below w.heap.size w w' := by
  have HW := hid hw
  have HF := hid hf
  have hcall := awake9 w hw
  have hf' : (f : Int) ≤ 400 := by omega
  clear hw hf
  go_enter Tryz.func4, Tryz.ntmps4
  go_wp2_with fail
  refine hcall.mono ?_
  clear hcall
  rintro e w1 ⟨rfl, hb1⟩
  have HB1 := hid hb1
  clear hb1
  go_wp2_with fail
  refine grabK (fun W => Below w.heap.size w W) (by first | exact HB1.out.alloc HB1.out.size _ | exact (HB1.out.alloc HB1.out.size _).drew) (fun W hW => ?_)
  have HB2 := hid hW
  clear hW HB1 hm hk
  refine (one_any ⟨#[40, 43, 32, 40, 102, 48, 41, 32, 101, 114, 114, 111, 114, 41]⟩ eD6 W (by decide) eP6).mono ?_
  rintro e w2 ⟨g, c, rfl, hd, hb2⟩
  have HB3 : Hid (Below w.heap.size w w2) := HB2.out.trans (hb2.mono HB2.out.size)
  obtain ⟨n, hn⟩ : ∃ n, eD6.length = n := ⟨_, rfl⟩
  rw [hn]
  have hcall := head_one eD6 g n c (f : Int) _ _ w2 hn hd (Tm.Lw.on HW.out HB3.out) (endless eH6 f HF.out).1 (endless eH6 f HF.out).2
  clear hd hb2 hn hf'
  go_wp2_with fail
  refine hcall.mono ?_
  clear hcall
  rintro e w3 ⟨rfl, hb3⟩
  have HB4 : Hid (Below w.heap.size w w3) := HB3.out.trans (hb3.mono HB3.out.size)
  clear hb3
  go_wp2_with (first | (go_at_call 10; refine (Lx.num_any _ _).mono ?_; rintro e w5 ⟨rfl, rfl⟩))
  go_ret
  exact ⟨rfl, HB4.out⟩
def eD7 : List Df := (pp (oneT [40, 99, 97, 115, 101, 32, 49, 32, 64, 49, 32, 48, 32, 49, 32, 40, 102, 48, 41, 41])).getD []
theorem eP7 : pp (oneT (⟨#[40, 99, 97, 115, 101, 32, 49, 32, 64, 49, 32, 48, 32, 49, 32, 40, 102, 48, 41, 41]⟩ : ByteArray).data.toList) = some eD7 := by decide +kernel
theorem eH7 : hdE eD7 0 [] 400 = 901 := by decide +kernel

set_option maxHeartbeats 4000000 in
set_option maxRecDepth 100000 in
theorem end_7 (a0 a1 : Int) (f : Nat) (w : World) (hm : (IntKind.u64.wrap a0).tmod 401 = (f : Int)) (hf : f ≤ 400) (hk : bits .and .i64 a1 7 = 7) (hw : Tm.Lw w) :
    Calls Tryz.prog 4 #[.int .i64 a0, .int .i64 a1] w fun e w' => e = .returned (.bool true) ∧ Below w.heap.size w w' := by
  have HW := hid hw
  have HF := hid hf
  have hcall := awake9 w hw
  have hf' : (f : Int) ≤ 400 := by omega
  clear hw hf
  go_enter Tryz.func4, Tryz.ntmps4
  go_wp2_with fail
  refine hcall.mono ?_
  clear hcall
  rintro e w1 ⟨rfl, hb1⟩
  have HB1 := hid hb1
  clear hb1
  go_wp2_with fail
  refine grabK (fun W => Below w.heap.size w W) (by first | exact HB1.out.alloc HB1.out.size _ | exact (HB1.out.alloc HB1.out.size _).drew) (fun W hW => ?_)
  have HB2 := hid hW
  clear hW HB1 hm hk
  refine (one_any ⟨#[40, 99, 97, 115, 101, 32, 49, 32, 64, 49, 32, 48, 32, 49, 32, 40, 102, 48, 41, 41]⟩ eD7 W (by decide) eP7).mono ?_
  rintro e w2 ⟨g, c, rfl, hd, hb2⟩
  have HB3 : Hid (Below w.heap.size w w2) := HB2.out.trans (hb2.mono HB2.out.size)
  obtain ⟨n, hn⟩ : ∃ n, eD7.length = n := ⟨_, rfl⟩
  rw [hn]
  have hcall := head_one eD7 g n c (f : Int) _ _ w2 hn hd (Tm.Lw.on HW.out HB3.out) (endless eH7 f HF.out).1 (endless eH7 f HF.out).2
  clear hd hb2 hn hf'
  go_wp2_with fail
  refine hcall.mono ?_
  clear hcall
  rintro e w3 ⟨rfl, hb3⟩
  have HB4 : Hid (Below w.heap.size w w3) := HB3.out.trans (hb3.mono HB3.out.size)
  clear hb3
  go_wp2_with (first | (go_at_call 10; refine (Lx.num_any _ _).mono ?_; rintro e w5 ⟨rfl, rfl⟩))
  go_ret
  exact ⟨rfl, HB4.out⟩
end Go.Proofs.YtjamknejllbmkaaGreatDoor.nameEndless
