/- HoldTable: some of its ways. -/
import Derived.Test.YtmcdpnikkmedkaaDoorHdTabA
namespace Go.Proofs.YtmcdpnikkmedkaaDoor.holdTable
open Go.RowKit
set_option linter.unusedVariables false
theorem tB4 : hdsB smallL 1 (Tm.lst [⟨#[95]⟩, ⟨#[50]⟩]) (⟨#[51]⟩ : ByteArray).data.toList 60 = false ∧ hdsE smallL 1 (Tm.lst [⟨#[95]⟩, ⟨#[50]⟩]) (⟨#[51]⟩ : ByteArray).data.toList 60 = 0 := by decide +kernel
set_option maxHeartbeats 4000000 in
set_option maxRecDepth 100000 in
theorem tab_4 (a0 : Int) (w : World) (hm : bits .and .i64 a0 15 = 4) (hw : Tm.Lw w) :
    Calls Tryd.prog 5 #[.int .i64 a0] w fun e w' => e = .returned (.bool true) ∧ Below w.heap.size w w' := by
  have HW := hid hw
  have hcall := awake10 w hw
  clear hw
  go_enter Tryd.func5, Tryd.ntmps5
  go_wp2_with fail
  refine hcall.mono ?_
  clear hcall
  rintro e w1 ⟨rfl, hb1⟩
  have HB1 := hid hb1
  clear hb1
  go_wp2_with fail
  refine grabK (fun W => Below w.heap.size w W ∧ Tm.Txts W (some ⟨w1.heap.size + 1 + 1 + 1 + 1, 0, none⟩) [⟨#[95]⟩, ⟨#[50]⟩]) ?_ (fun W hW => ?_)
  · refine ⟨?_, ?_⟩
    · iterate 19 (with_reducible refine bw_alloc ?_ _)
      exact HB1.out
    · iterate 14 (with_reducible refine txs_alloc ?_ _)
      exact txs_newz [⟨#[95]⟩, ⟨#[50]⟩] (by simp)
  obtain ⟨hW, htx⟩ := hW
  have HB2 := hid hW
  have HTX := hid htx
  clear hW HB1 hm htx
  refine (small10_any W).mono ?_
  rintro e u ⟨rfl, hs, hb, hz⟩
  have HS := hid hs
  have HU : Hid (Below w.heap.size w u) := HB2.out.trans (hb.mono HB2.out.size)
  have HTU := hid (HTX.out.on hb)
  clear hs hb hz
  go_wp2_with fail
  refine (holds_small _ 1 0 _ 2 2 [⟨#[95]⟩, ⟨#[50]⟩] ⟨#[51]⟩ 60 _ _ u HS.out rfl HTU.out (by decide) (by decide) (by decide) (Tm.Lw.on HW.out HU.out) tB4.1 tB4.2).mono ?_
  rintro e v ⟨rfl, hb⟩
  have HV : Hid (Below w.heap.size w v) := HU.out.trans (hb.mono HU.out.size)
  clear hb
  go_wp2_with (go_at_call 11; refine (Lx.num_any _ _).mono ?_; rintro e w5 ⟨rfl, rfl⟩)
  go_ret
  exact ⟨rfl, HV.out⟩
theorem tB5 : hdsB smallL 1 (Tm.lst [⟨#[95]⟩, ⟨#[50]⟩]) (⟨#[95]⟩ : ByteArray).data.toList 60 = true ∧ hdsE smallL 1 (Tm.lst [⟨#[95]⟩, ⟨#[50]⟩]) (⟨#[95]⟩ : ByteArray).data.toList 60 = 0 := by decide +kernel
set_option maxHeartbeats 4000000 in
set_option maxRecDepth 100000 in
theorem tab_5 (a0 : Int) (w : World) (hm : bits .and .i64 a0 15 = 5) (hw : Tm.Lw w) :
    Calls Tryd.prog 5 #[.int .i64 a0] w fun e w' => e = .returned (.bool true) ∧ Below w.heap.size w w' := by
  have HW := hid hw
  have hcall := awake10 w hw
  clear hw
  go_enter Tryd.func5, Tryd.ntmps5
  go_wp2_with fail
  refine hcall.mono ?_
  clear hcall
  rintro e w1 ⟨rfl, hb1⟩
  have HB1 := hid hb1
  clear hb1
  go_wp2_with fail
  refine grabK (fun W => Below w.heap.size w W ∧ Tm.Txts W (some ⟨w1.heap.size + 1 + 1 + 1 + 1 + 1, 0, none⟩) [⟨#[95]⟩, ⟨#[50]⟩]) ?_ (fun W hW => ?_)
  · refine ⟨?_, ?_⟩
    · iterate 19 (with_reducible refine bw_alloc ?_ _)
      exact HB1.out
    · iterate 13 (with_reducible refine txs_alloc ?_ _)
      exact txs_newz [⟨#[95]⟩, ⟨#[50]⟩] (by simp)
  obtain ⟨hW, htx⟩ := hW
  have HB2 := hid hW
  have HTX := hid htx
  clear hW HB1 hm htx
  refine (small10_any W).mono ?_
  rintro e u ⟨rfl, hs, hb, hz⟩
  have HS := hid hs
  have HU : Hid (Below w.heap.size w u) := HB2.out.trans (hb.mono HB2.out.size)
  have HTU := hid (HTX.out.on hb)
  clear hs hb hz
  go_wp2_with fail
  refine (holds_small _ 1 0 _ 2 2 [⟨#[95]⟩, ⟨#[50]⟩] ⟨#[95]⟩ 60 _ _ u HS.out rfl HTU.out (by decide) (by decide) (by decide) (Tm.Lw.on HW.out HU.out) tB5.1 tB5.2).mono ?_
  rintro e v ⟨rfl, hb⟩
  have HV : Hid (Below w.heap.size w v) := HU.out.trans (hb.mono HU.out.size)
  clear hb
  go_wp2_with (go_at_call 11; refine (Lx.num_any _ _).mono ?_; rintro e w5 ⟨rfl, rfl⟩)
  go_ret
  exact ⟨rfl, HV.out⟩
theorem tB6 : hdsB smallL 1 (Tm.lst [⟨#[49]⟩, ⟨#[95]⟩]) (⟨#[49]⟩ : ByteArray).data.toList 60 = false ∧ hdsE smallL 1 (Tm.lst [⟨#[49]⟩, ⟨#[95]⟩]) (⟨#[49]⟩ : ByteArray).data.toList 60 = 0 := by decide +kernel
set_option maxHeartbeats 4000000 in
set_option maxRecDepth 100000 in
theorem tab_6 (a0 : Int) (w : World) (hm : bits .and .i64 a0 15 = 6) (hw : Tm.Lw w) :
    Calls Tryd.prog 5 #[.int .i64 a0] w fun e w' => e = .returned (.bool true) ∧ Below w.heap.size w w' := by
  have HW := hid hw
  have hcall := awake10 w hw
  clear hw
  go_enter Tryd.func5, Tryd.ntmps5
  go_wp2_with fail
  refine hcall.mono ?_
  clear hcall
  rintro e w1 ⟨rfl, hb1⟩
  have HB1 := hid hb1
  clear hb1
  go_wp2_with fail
  refine grabK (fun W => Below w.heap.size w W ∧ Tm.Txts W (some ⟨w1.heap.size + 1 + 1 + 1 + 1 + 1 + 1, 0, none⟩) [⟨#[49]⟩, ⟨#[95]⟩]) ?_ (fun W hW => ?_)
  · refine ⟨?_, ?_⟩
    · iterate 19 (with_reducible refine bw_alloc ?_ _)
      exact HB1.out
    · iterate 12 (with_reducible refine txs_alloc ?_ _)
      exact txs_newz [⟨#[49]⟩, ⟨#[95]⟩] (by simp)
  obtain ⟨hW, htx⟩ := hW
  have HB2 := hid hW
  have HTX := hid htx
  clear hW HB1 hm htx
  refine (small10_any W).mono ?_
  rintro e u ⟨rfl, hs, hb, hz⟩
  have HS := hid hs
  have HU : Hid (Below w.heap.size w u) := HB2.out.trans (hb.mono HB2.out.size)
  have HTU := hid (HTX.out.on hb)
  clear hs hb hz
  go_wp2_with fail
  refine (holds_small _ 1 0 _ 2 2 [⟨#[49]⟩, ⟨#[95]⟩] ⟨#[49]⟩ 60 _ _ u HS.out rfl HTU.out (by decide) (by decide) (by decide) (Tm.Lw.on HW.out HU.out) tB6.1 tB6.2).mono ?_
  rintro e v ⟨rfl, hb⟩
  have HV : Hid (Below w.heap.size w v) := HU.out.trans (hb.mono HU.out.size)
  clear hb
  go_wp2_with (go_at_call 11; refine (Lx.num_any _ _).mono ?_; rintro e w5 ⟨rfl, rfl⟩)
  go_ret
  exact ⟨rfl, HV.out⟩
theorem tB7 : hdsB smallL 1 (Tm.lst [⟨#[64, 55, 40, 95, 32, 49, 41]⟩, ⟨#[49]⟩]) (⟨#[50]⟩ : ByteArray).data.toList 60 = true ∧ hdsE smallL 1 (Tm.lst [⟨#[64, 55, 40, 95, 32, 49, 41]⟩, ⟨#[49]⟩]) (⟨#[50]⟩ : ByteArray).data.toList 60 = 0 := by decide +kernel
set_option maxHeartbeats 4000000 in
set_option maxRecDepth 100000 in
theorem tab_7 (a0 : Int) (w : World) (hm : bits .and .i64 a0 15 = 7) (hw : Tm.Lw w) :
    Calls Tryd.prog 5 #[.int .i64 a0] w fun e w' => e = .returned (.bool true) ∧ Below w.heap.size w w' := by
  have HW := hid hw
  have hcall := awake10 w hw
  clear hw
  go_enter Tryd.func5, Tryd.ntmps5
  go_wp2_with fail
  refine hcall.mono ?_
  clear hcall
  rintro e w1 ⟨rfl, hb1⟩
  have HB1 := hid hb1
  clear hb1
  go_wp2_with fail
  refine grabK (fun W => Below w.heap.size w W ∧ Tm.Txts W (some ⟨w1.heap.size + 1 + 1 + 1 + 1 + 1 + 1 + 1, 0, none⟩) [⟨#[64, 55, 40, 95, 32, 49, 41]⟩, ⟨#[49]⟩]) ?_ (fun W hW => ?_)
  · refine ⟨?_, ?_⟩
    · iterate 19 (with_reducible refine bw_alloc ?_ _)
      exact HB1.out
    · iterate 11 (with_reducible refine txs_alloc ?_ _)
      exact txs_newz [⟨#[64, 55, 40, 95, 32, 49, 41]⟩, ⟨#[49]⟩] (by simp)
  obtain ⟨hW, htx⟩ := hW
  have HB2 := hid hW
  have HTX := hid htx
  clear hW HB1 hm htx
  refine (small10_any W).mono ?_
  rintro e u ⟨rfl, hs, hb, hz⟩
  have HS := hid hs
  have HU : Hid (Below w.heap.size w u) := HB2.out.trans (hb.mono HB2.out.size)
  have HTU := hid (HTX.out.on hb)
  clear hs hb hz
  go_wp2_with fail
  refine (holds_small _ 1 0 _ 2 2 [⟨#[64, 55, 40, 95, 32, 49, 41]⟩, ⟨#[49]⟩] ⟨#[50]⟩ 60 _ _ u HS.out rfl HTU.out (by decide) (by decide) (by decide) (Tm.Lw.on HW.out HU.out) tB7.1 tB7.2).mono ?_
  rintro e v ⟨rfl, hb⟩
  have HV : Hid (Below w.heap.size w v) := HU.out.trans (hb.mono HU.out.size)
  clear hb
  go_wp2_with (go_at_call 11; refine (Lx.num_any _ _).mono ?_; rintro e w5 ⟨rfl, rfl⟩)
  go_ret
  exact ⟨rfl, HV.out⟩
end Go.Proofs.YtmcdpnikkmedkaaDoor.holdTable
