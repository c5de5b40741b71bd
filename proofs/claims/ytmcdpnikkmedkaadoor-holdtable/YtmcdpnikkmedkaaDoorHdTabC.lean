/- HoldTable: some of its ways. -/
import Derived.Test.YtmcdpnikkmedkaaDoorHdTabA
namespace Go.Proofs.YtmcdpnikkmedkaaDoor.holdTable
open Go.RowKit
set_option linter.unusedVariables false
theorem tB8 : hdsB smallL 1 (Tm.lst [⟨#[64, 55, 40, 49, 32, 95, 41]⟩, ⟨#[49]⟩]) (⟨#[50]⟩ : ByteArray).data.toList 60 = false ∧ hdsE smallL 1 (Tm.lst [⟨#[64, 55, 40, 49, 32, 95, 41]⟩, ⟨#[49]⟩]) (⟨#[50]⟩ : ByteArray).data.toList 60 = 0 := by decide +kernel
set_option maxHeartbeats 4000000 in
set_option maxRecDepth 100000 in
theorem tab_8 (a0 : Int) (w : World) (hm : bits .and .i64 a0 15 = 8) (hw : Tm.Lw w) :
    Calls Tryd.prog 5 #[.int .i64 a0] w fun e w' => e = .returned (.bool true) ∧ Below w.heap.size w w' := by
  have HW := hid hw
  have hcall := awake10 w hw
  clear hw
  go_enter Tryd.func5, Tryd.ntmps5
  go_wp2_with fail
  refine hcall.mono ?_
  clear hcall
  rintro e w1 ⟨rfl, hb1⟩
  have HB1 := hid hb1
  clear hb1
  go_wp2_with fail
  refine grabK (fun W => Below w.heap.size w W ∧ Tm.Txts W (some ⟨w1.heap.size + 1 + 1 + 1 + 1 + 1 + 1 + 1 + 1, 0, none⟩) [⟨#[64, 55, 40, 49, 32, 95, 41]⟩, ⟨#[49]⟩]) ?_ (fun W hW => ?_)
  · refine ⟨?_, ?_⟩
    · iterate 19 (with_reducible refine bw_alloc ?_ _)
      exact HB1.out
    · iterate 10 (with_reducible refine txs_alloc ?_ _)
      exact txs_newz [⟨#[64, 55, 40, 49, 32, 95, 41]⟩, ⟨#[49]⟩] (by simp)
  obtain ⟨hW, htx⟩ := hW
  have HB2 := hid hW
  have HTX := hid htx
  clear hW HB1 hm htx
  refine (small10_any W).mono ?_
  rintro e u ⟨rfl, hs, hb, hz⟩
  have HS := hid hs
  have HU : Hid (Below w.heap.size w u) := HB2.out.trans (hb.mono HB2.out.size)
  have HTU := hid (HTX.out.on hb)
  clear hs hb hz
  go_wp2_with fail
  refine (holds_small _ 1 0 _ 2 2 [⟨#[64, 55, 40, 49, 32, 95, 41]⟩, ⟨#[49]⟩] ⟨#[50]⟩ 60 _ _ u HS.out rfl HTU.out (by decide) (by decide) (by decide) (Tm.Lw.on HW.out HU.out) tB8.1 tB8.2).mono ?_
  rintro e v ⟨rfl, hb⟩
  have HV : Hid (Below w.heap.size w v) := HU.out.trans (hb.mono HU.out.size)
  clear hb
  go_wp2_with (go_at_call 11; refine (Lx.num_any _ _).mono ?_; rintro e w5 ⟨rfl, rfl⟩)
  go_ret
  exact ⟨rfl, HV.out⟩
theorem tB9 : hdsB smallL 1 (Tm.lst [⟨#[64, 55, 40, 49, 41]⟩, ⟨#[49]⟩]) (⟨#[33]⟩ : ByteArray).data.toList 60 = true ∧ hdsE smallL 1 (Tm.lst [⟨#[64, 55, 40, 49, 41]⟩, ⟨#[49]⟩]) (⟨#[33]⟩ : ByteArray).data.toList 60 = 0 := by decide +kernel
set_option maxHeartbeats 4000000 in
set_option maxRecDepth 100000 in
theorem tab_9 (a0 : Int) (w : World) (hm : bits .and .i64 a0 15 = 9) (hw : Tm.Lw w) :
    Calls Tryd.prog 5 #[.int .i64 a0] w fun e w' => e = .returned (.bool true) ∧ Below w.heap.size w w' := by
  have HW := hid hw
  have hcall := awake10 w hw
  clear hw
  go_enter Tryd.func5, Tryd.ntmps5
  go_wp2_with fail
  refine hcall.mono ?_
  clear hcall
  rintro e w1 ⟨rfl, hb1⟩
  have HB1 := hid hb1
  clear hb1
  go_wp2_with fail
  refine grabK (fun W => Below w.heap.size w W ∧ Tm.Txts W (some ⟨w1.heap.size + 1 + 1 + 1 + 1 + 1 + 1 + 1 + 1 + 1, 0, none⟩) [⟨#[64, 55, 40, 49, 41]⟩, ⟨#[49]⟩]) ?_ (fun W hW => ?_)
  · refine ⟨?_, ?_⟩
    · iterate 19 (with_reducible refine bw_alloc ?_ _)
      exact HB1.out
    · iterate 9 (with_reducible refine txs_alloc ?_ _)
      exact txs_newz [⟨#[64, 55, 40, 49, 41]⟩, ⟨#[49]⟩] (by simp)
  obtain ⟨hW, htx⟩ := hW
  have HB2 := hid hW
  have HTX := hid htx
  clear hW HB1 hm htx
  refine (small10_any W).mono ?_
  rintro e u ⟨rfl, hs, hb, hz⟩
  have HS := hid hs
  have HU : Hid (Below w.heap.size w u) := HB2.out.trans (hb.mono HB2.out.size)
  have HTU := hid (HTX.out.on hb)
  clear hs hb hz
  go_wp2_with fail
  refine (holds_small _ 1 0 _ 2 2 [⟨#[64, 55, 40, 49, 41]⟩, ⟨#[49]⟩] ⟨#[33]⟩ 60 _ _ u HS.out rfl HTU.out (by decide) (by decide) (by decide) (Tm.Lw.on HW.out HU.out) tB9.1 tB9.2).mono ?_
  rintro e v ⟨rfl, hb⟩
  have HV : Hid (Below w.heap.size w v) := HU.out.trans (hb.mono HU.out.size)
  clear hb
  go_wp2_with (go_at_call 11; refine (Lx.num_any _ _).mono ?_; rintro e w5 ⟨rfl, rfl⟩)
  go_ret
  exact ⟨rfl, HV.out⟩
theorem tB10 : hdsB smallL 1 (Tm.lst [⟨#[64, 55, 40, 49, 32, 64, 50, 41]⟩, ⟨#[49]⟩]) (⟨#[33]⟩ : ByteArray).data.toList 60 = true ∧ hdsE smallL 1 (Tm.lst [⟨#[64, 55, 40, 49, 32, 64, 50, 41]⟩, ⟨#[49]⟩]) (⟨#[33]⟩ : ByteArray).data.toList 60 = 0 := by decide +kernel
set_option maxHeartbeats 4000000 in
set_option maxRecDepth 100000 in
theorem tab_10 (a0 : Int) (w : World) (hm : bits .and .i64 a0 15 = 10) (hw : Tm.Lw w) :
    Calls Tryd.prog 5 #[.int .i64 a0] w fun e w' => e = .returned (.bool true) ∧ Below w.heap.size w w' := by
  have HW := hid hw
  have hcall := awake10 w hw
  clear hw
  go_enter Tryd.func5, Tryd.ntmps5
  go_wp2_with fail
  refine hcall.mono ?_
  clear hcall
  rintro e w1 ⟨rfl, hb1⟩
  have HB1 := hid hb1
  clear hb1
  go_wp2_with fail
  refine grabK (fun W => Below w.heap.size w W ∧ Tm.Txts W (some ⟨w1.heap.size + 1 + 1 + 1 + 1 + 1 + 1 + 1 + 1 + 1 + 1, 0, none⟩) [⟨#[64, 55, 40, 49, 32, 64, 50, 41]⟩, ⟨#[49]⟩]) ?_ (fun W hW => ?_)
  · refine ⟨?_, ?_⟩
    · iterate 19 (with_reducible refine bw_alloc ?_ _)
      exact HB1.out
    · iterate 8 (with_reducible refine txs_alloc ?_ _)
      exact txs_newz [⟨#[64, 55, 40, 49, 32, 64, 50, 41]⟩, ⟨#[49]⟩] (by simp)
  obtain ⟨hW, htx⟩ := hW
  have HB2 := hid hW
  have HTX := hid htx
  clear hW HB1 hm htx
  refine (small10_any W).mono ?_
  rintro e u ⟨rfl, hs, hb, hz⟩
  have HS := hid hs
  have HU : Hid (Below w.heap.size w u) := HB2.out.trans (hb.mono HB2.out.size)
  have HTU := hid (HTX.out.on hb)
  clear hs hb hz
  go_wp2_with fail
  refine (holds_small _ 1 0 _ 2 2 [⟨#[64, 55, 40, 49, 32, 64, 50, 41]⟩, ⟨#[49]⟩] ⟨#[33]⟩ 60 _ _ u HS.out rfl HTU.out (by decide) (by decide) (by decide) (Tm.Lw.on HW.out HU.out) tB10.1 tB10.2).mono ?_
  rintro e v ⟨rfl, hb⟩
  have HV : Hid (Below w.heap.size w v) := HU.out.trans (hb.mono HU.out.size)
  clear hb
  go_wp2_with (go_at_call 11; refine (Lx.num_any _ _).mono ?_; rintro e w5 ⟨rfl, rfl⟩)
  go_ret
  exact ⟨rfl, HV.out⟩
theorem tB11 : hdsB smallL 1 (Tm.lst [⟨#[33]⟩, ⟨#[95]⟩]) (⟨#[33]⟩ : ByteArray).data.toList 60 = true ∧ hdsE smallL 1 (Tm.lst [⟨#[33]⟩, ⟨#[95]⟩]) (⟨#[33]⟩ : ByteArray).data.toList 60 = 0 := by decide +kernel
set_option maxHeartbeats 4000000 in
set_option maxRecDepth 100000 in
theorem tab_11 (a0 : Int) (w : World) (hm : bits .and .i64 a0 15 = 11) (hw : Tm.Lw w) :
    Calls Tryd.prog 5 #[.int .i64 a0] w fun e w' => e = .returned (.bool true) ∧ Below w.heap.size w w' := by
  have HW := hid hw
  have hcall := awake10 w hw
  clear hw
  go_enter Tryd.func5, Tryd.ntmps5
  go_wp2_with fail
  refine hcall.mono ?_
  clear hcall
  rintro e w1 ⟨rfl, hb1⟩
  have HB1 := hid hb1
  clear hb1
  go_wp2_with fail
  refine grabK (fun W => Below w.heap.size w W ∧ Tm.Txts W (some ⟨w1.heap.size + 1 + 1 + 1 + 1 + 1 + 1 + 1 + 1 + 1 + 1 + 1, 0, none⟩) [⟨#[33]⟩, ⟨#[95]⟩]) ?_ (fun W hW => ?_)
  · refine ⟨?_, ?_⟩
    · iterate 19 (with_reducible refine bw_alloc ?_ _)
      exact HB1.out
    · iterate 7 (with_reducible refine txs_alloc ?_ _)
      exact txs_newz [⟨#[33]⟩, ⟨#[95]⟩] (by simp)
  obtain ⟨hW, htx⟩ := hW
  have HB2 := hid hW
  have HTX := hid htx
  clear hW HB1 hm htx
  refine (small10_any W).mono ?_
  rintro e u ⟨rfl, hs, hb, hz⟩
  have HS := hid hs
  have HU : Hid (Below w.heap.size w u) := HB2.out.trans (hb.mono HB2.out.size)
  have HTU := hid (HTX.out.on hb)
  clear hs hb hz
  go_wp2_with fail
  refine (holds_small _ 1 0 _ 2 2 [⟨#[33]⟩, ⟨#[95]⟩] ⟨#[33]⟩ 60 _ _ u HS.out rfl HTU.out (by decide) (by decide) (by decide) (Tm.Lw.on HW.out HU.out) tB11.1 tB11.2).mono ?_
  rintro e v ⟨rfl, hb⟩
  have HV : Hid (Below w.heap.size w v) := HU.out.trans (hb.mono HU.out.size)
  clear hb
  go_wp2_with (go_at_call 11; refine (Lx.num_any _ _).mono ?_; rintro e w5 ⟨rfl, rfl⟩)
  go_ret
  exact ⟨rfl, HV.out⟩
end Go.Proofs.YtmcdpnikkmedkaaDoor.holdTable
