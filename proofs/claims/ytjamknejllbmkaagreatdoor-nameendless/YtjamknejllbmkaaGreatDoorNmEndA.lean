/- NameEndless: four of its ways. -/
import Derived.Test.YtjamknejllbmkaaGreatDoorMNOne
namespace Go.Proofs.YtjamknejllbmkaaGreatDoor.nameEndless
open Go.RowKit
set_option linter.unusedVariables false

def eD0 : List Df := (pp (oneT [40, 102, 48, 41])).getD []
theorem eP0 : pp (oneT (⟨#[40, 102, 48, 41]⟩ : ByteArray).data.toList) = some eD0 := by decide +kernel
theorem eH0 : hdE eD0 0 [] 400 = 901 := by decide +kernel

set_option maxHeartbeats 4000000 in
set_option maxRecDepth 100000 in
theorem end_0 (a0 a1 : Int) (f : Nat) (w : World) (hm : (IntKind.u64.wrap a0).tmod 401 = (f : Int)) (hf : f ≤ 400) (hk : bits .and .i64 a1 7 = 0) (hw : Tm.Lw w) :
    Calls Tryz.prog 4 #[.int .i64 a0, .int .i64 a1] w fun e w' => e = .returned (.bool true) ∧ Below w.heap.size w w' := by
  have HW := hid hw
  have HF := hid hf
  have hcall := awake9 w hw
  have hf' : (f : Int) ≤ 400 := by omega
  clear hw hf
  go_enter Tryz.func4, Tryz.ntmps4
  go_wp2_with fail
  refine hcall.mono ?_
  clear hcall
  rintro e w1 ⟨rfl, hb1⟩
  have HB1 := hid hb1
  clear hb1
  go_wp2_with fail
  refine grabK (fun W => Below w.heap.size w W) (by first | exact HB1.out.alloc HB1.out.size _ | exact (HB1.out.alloc HB1.out.size _).drew) (fun W hW => ?_)
  have HB2 := hid hW
  clear hW HB1 hm hk
  refine (one_any ⟨#[40, 102, 48, 41]⟩ eD0 W (by decide) eP0).mono ?_
  rintro e w2 ⟨g, c, rfl, hd, hb2⟩
  have HB3 : Hid (Below w.heap.size w w2) := HB2.out.trans (hb2.mono HB2.out.size)
  obtain ⟨n, hn⟩ : ∃ n, eD0.length = n := ⟨_, rfl⟩
  rw [hn]
  have hcall := head_one eD0 g n c (f : Int) _ _ w2 hn hd (Tm.Lw.on HW.out HB3.out) (endless eH0 f HF.out).1 (endless eH0 f HF.out).2
  clear hd hb2 hn hf'
  go_wp2_with fail
  refine hcall.mono ?_
  clear hcall
  rintro e w3 ⟨rfl, hb3⟩
  have HB4 : Hid (Below w.heap.size w w3) := HB3.out.trans (hb3.mono HB3.out.size)
  clear hb3
  go_wp2_with (first | (go_at_call 10; refine (Lx.num_any _ _).mono ?_; rintro e w5 ⟨rfl, rfl⟩))
  go_ret
  exact ⟨rfl, HB4.out⟩
def eD1 : List Df := (pp (oneT [40, 43, 32, 49, 32, 40, 102, 48, 41, 41])).getD []
theorem eP1 : pp (oneT (⟨#[40, 43, 32, 49, 32, 40, 102, 48, 41, 41]⟩ : ByteArray).data.toList) = some eD1 := by decide +kernel
theorem eH1 : hdE eD1 0 [] 400 = 901 := by decide +kernel

set_option maxHeartbeats 4000000 in
set_option maxRecDepth 100000 in
theorem end_1 (a0 a1 : Int) (f : Nat) (w : World) (hm : (IntKind.u64.wrap a0).tmod 401 = (f : Int)) (hf : f ≤ 400) (hk : bits .and .i64 a1 7 = 1) (hw : Tm.Lw w) :
    Calls Tryz.prog 4 #[.int .i64 a0, .int .i64 a1] w fun e w' => e = .returned (.bool true) ∧ Below w.heap.size w w' := by
  have HW := hid hw
  have HF := hid hf
  have hcall := awake9 w hw
  have hf' : (f : Int) ≤ 400 := by omega
  clear hw hf
  go_enter Tryz.func4, Tryz.ntmps4
  go_wp2_with fail
  refine hcall.mono ?_
  clear hcall
  rintro e w1 ⟨rfl, hb1⟩
  have HB1 := hid hb1
  clear hb1
  go_wp2_with fail
  refine grabK (fun W => Below w.heap.size w W) (by first | exact HB1.out.alloc HB1.out.size _ | exact (HB1.out.alloc HB1.out.size _).drew) (fun W hW => ?_)
  have HB2 := hid hW
  clear hW HB1 hm hk
  refine (one_any ⟨#[40, 43, 32, 49, 32, 40, 102, 48, 41, 41]⟩ eD1 W (by decide) eP1).mono ?_
  rintro e w2 ⟨g, c, rfl, hd, hb2⟩
  have HB3 : Hid (Below w.heap.size w w2) := HB2.out.trans (hb2.mono HB2.out.size)
  obtain ⟨n, hn⟩ : ∃ n, eD1.length = n := ⟨_, rfl⟩
  rw [hn]
  have hcall := head_one eD1 g n c (f : Int) _ _ w2 hn hd (Tm.Lw.on HW.out HB3.out) (endless eH1 f HF.out).1 (endless eH1 f HF.out).2
  clear hd hb2 hn hf'
  go_wp2_with fail
  refine hcall.mono ?_
  clear hcall
  rintro e w3 ⟨rfl, hb3⟩
  have HB4 : Hid (Below w.heap.size w w3) := HB3.out.trans (hb3.mono HB3.out.size)
  clear hb3
  go_wp2_with (first | (go_at_call 10; refine (Lx.num_any _ _).mono ?_; rintro e w5 ⟨rfl, rfl⟩))
  go_ret
  exact ⟨rfl, HB4.out⟩
def eD2 : List Df := (pp (oneT [40, 99, 97, 115, 101, 32, 40, 102, 48, 41, 32, 64, 49, 32, 48, 32, 49, 32, 50, 41])).getD []
theorem eP2 : pp (oneT (⟨#[40, 99, 97, 115, 101, 32, 40, 102, 48, 41, 32, 64, 49, 32, 48, 32, 49, 32, 50, 41]⟩ : ByteArray).data.toList) = some eD2 := by decide +kernel
theorem eH2 : hdE eD2 0 [] 400 = 901 := by decide +kernel

set_option maxHeartbeats 4000000 in
set_option maxRecDepth 100000 in
theorem end_2 (a0 a1 : Int) (f : Nat) (w : World) (hm : (IntKind.u64.wrap a0).tmod 401 = (f : Int)) (hf : f ≤ 400) (hk : bits .and .i64 a1 7 = 2) (hw : Tm.Lw w) :
    Calls Tryz.prog 4 #[.int .i64 a0, .int .i64 a1] w fun e w' => e = .returned (.bool true) ∧ Below w.heap.size w w' := by
  have HW := hid hw
  have HF := hid hf
  have hcall := awake9 w hw
  have hf' : (f : Int) ≤ 400 := by omega
  clear hw hf
  go_enter Tryz.func4, Tryz.ntmps4
  go_wp2_with fail
  refine hcall.mono ?_
  clear hcall
  rintro e w1 ⟨rfl, hb1⟩
  have HB1 := hid hb1
  clear hb1
  go_wp2_with fail
  refine grabK (fun W => Below w.heap.size w W) (by first | exact HB1.out.alloc HB1.out.size _ | exact (HB1.out.alloc HB1.out.size _).drew) (fun W hW => ?_)
  have HB2 := hid hW
  clear hW HB1 hm hk
  refine (one_any ⟨#[40, 99, 97, 115, 101, 32, 40, 102, 48, 41, 32, 64, 49, 32, 48, 32, 49, 32, 50, 41]⟩ eD2 W (by decide) eP2).mono ?_
  rintro e w2 ⟨g, c, rfl, hd, hb2⟩
  have HB3 : Hid (Below w.heap.size w w2) := HB2.out.trans (hb2.mono HB2.out.size)
  obtain ⟨n, hn⟩ : ∃ n, eD2.length = n := ⟨_, rfl⟩
  rw [hn]
  have hcall := head_one eD2 g n c (f : Int) _ _ w2 hn hd (Tm.Lw.on HW.out HB3.out) (endless eH2 f HF.out).1 (endless eH2 f HF.out).2
  clear hd hb2 hn hf'
  go_wp2_with fail
  refine hcall.mono ?_
  clear hcall
  rintro e w3 ⟨rfl, hb3⟩
  have HB4 : Hid (Below w.heap.size w w3) := HB3.out.trans (hb3.mono HB3.out.size)
  clear hb3
  go_wp2_with (first | (go_at_call 10; refine (Lx.num_any _ _).mono ?_; rintro e w5 ⟨rfl, rfl⟩))
  go_ret
  exact ⟨rfl, HB4.out⟩
def eD3 : List Df := (pp (oneT [40, 108, 101, 116, 32, 49, 32, 40, 102, 48, 41, 41])).getD []
theorem eP3 : pp (oneT (⟨#[40, 108, 101, 116, 32, 49, 32, 40, 102, 48, 41, 41]⟩ : ByteArray).data.toList) = some eD3 := by decide +kernel
theorem eH3 : hdE eD3 0 [] 400 = 901 := by decide +kernel

set_option maxHeartbeats 4000000 in
set_option maxRecDepth 100000 in
theorem end_3 (a0 a1 : Int) (f : Nat) (w : World) (hm : (IntKind.u64.wrap a0).tmod 401 = (f : Int)) (hf : f ≤ 400) (hk : bits .and .i64 a1 7 = 3) (hw : Tm.Lw w) :
    Calls Tryz.prog 4 #[.int .i64 a0, .int .i64 a1] w fun e w' => e = .returned (.bool true) ∧ Below w.heap.size w w' := by
  have HW := hid hw
  have HF := hid hf
  have hcall := awake9 w hw
  have hf' : (f : Int) ≤ 400 := by omega
  clear hw hf
  go_enter Tryz.func4, Tryz.ntmps4
  go_wp2_with fail
  refine hcall.mono ?_
  clear hcall
  rintro e w1 ⟨rfl, hb1⟩
  have HB1 := hid hb1
  clear hb1
  go_wp2_with fail
  refine grabK (fun W => Below w.heap.size w W) (by first | exact HB1.out.alloc HB1.out.size _ | exact (HB1.out.alloc HB1.out.size _).drew) (fun W hW => ?_)
  have HB2 := hid hW
  clear hW HB1 hm hk
  refine (one_any ⟨#[40, 108, 101, 116, 32, 49, 32, 40, 102, 48, 41, 41]⟩ eD3 W (by decide) eP3).mono ?_
  rintro e w2 ⟨g, c, rfl, hd, hb2⟩
  have HB3 : Hid (Below w.heap.size w w2) := HB2.out.trans (hb2.mono HB2.out.size)
  obtain ⟨n, hn⟩ : ∃ n, eD3.length = n := ⟨_, rfl⟩
  rw [hn]
  have hcall := head_one eD3 g n c (f : Int) _ _ w2 hn hd (Tm.Lw.on HW.out HB3.out) (endless eH3 f HF.out).1 (endless eH3 f HF.out).2
  clear hd hb2 hn hf'
  go_wp2_with fail
  refine hcall.mono ?_
  clear hcall
  rintro e w3 ⟨rfl, hb3⟩
  have HB4 : Hid (Below w.heap.size w w3) := HB3.out.trans (hb3.mono HB3.out.size)
  clear hb3
  go_wp2_with (first | (go_at_call 10; refine (Lx.num_any _ _).mono ?_; rintro e w5 ⟨rfl, rfl⟩))
  go_ret
  exact ⟨rfl, HB4.out⟩
end Go.Proofs.YtjamknejllbmkaaGreatDoor.nameEndless
