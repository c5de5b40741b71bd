/- HoldTable: some of its ways. -/
import Derived.Test.YtmcdpnikkmedkaaDoorHdTabA
namespace Go.Proofs.YtmcdpnikkmedkaaDoor.holdTable
open Go.RowKit
set_option linter.unusedVariables false
theorem tB12 : hdsB smallL 1 (Tm.lst [⟨#[64, 51]⟩, ⟨#[33]⟩]) (⟨#[33]⟩ : ByteArray).data.toList 60 = true ∧ hdsE smallL 1 (Tm.lst [⟨#[64, 51]⟩, ⟨#[33]⟩]) (⟨#[33]⟩ : ByteArray).data.toList 60 = 0 := by decide +kernel
set_option maxHeartbeats 4000000 in
set_option maxRecDepth 100000 in
theorem tab_12 (a0 : Int) (w : World) (hm : bits .and .i64 a0 15 = 12) (hw : Tm.Lw w) :
    Calls Tryd.prog 5 #[.int .i64 a0] w fun e w' => e = .returned (.bool true) ∧ Below w.heap.size w w' := by
  have HW := hid hw
  have hcall := awake10 w hw
  clear hw
  go_enter Tryd.func5, Tryd.ntmps5
  go_wp2_with fail
  refine hcall.mono ?_
  clear hcall
  rintro e w1 ⟨rfl, hb1⟩
  have HB1 := hid hb1
  clear hb1
  go_wp2_with fail
  refine grabK (fun W => Below w.heap.size w W ∧ Tm.Txts W (some ⟨w1.heap.size + 1 + 1 + 1 + 1 + 1 + 1 + 1 + 1 + 1 + 1 + 1 + 1, 0, none⟩) [⟨#[64, 51]⟩, ⟨#[33]⟩]) ?_ (fun W hW => ?_)
  · refine ⟨?_, ?_⟩
    · iterate 19 (with_reducible refine bw_alloc ?_ _)
      exact HB1.out
    · iterate 6 (with_reducible refine txs_alloc ?_ _)
      exact txs_newz [⟨#[64, 51]⟩, ⟨#[33]⟩] (by simp)
  obtain ⟨hW, htx⟩ := hW
  have HB2 := hid hW
  have HTX := hid htx
  clear hW HB1 hm htx
  refine (small10_any W).mono ?_
  rintro e u ⟨rfl, hs, hb, hz⟩
  have HS := hid hs
  have HU : Hid (Below w.heap.size w u) := HB2.out.trans (hb.mono HB2.out.size)
  have HTU := hid (HTX.out.on hb)
  clear hs hb hz
  go_wp2_with fail
  refine (holds_small _ 1 0 _ 2 2 [⟨#[64, 51]⟩, ⟨#[33]⟩] ⟨#[33]⟩ 60 _ _ u HS.out rfl HTU.out (by decide) (by decide) (by decide) (Tm.Lw.on HW.out HU.out) tB12.1 tB12.2).mono ?_
  rintro e v ⟨rfl, hb⟩
  have HV : Hid (Below w.heap.size w v) := HU.out.trans (hb.mono HU.out.size)
  clear hb
  go_wp2_with (go_at_call 11; refine (Lx.num_any _ _).mono ?_; rintro e w5 ⟨rfl, rfl⟩)
  go_ret
  exact ⟨rfl, HV.out⟩
theorem tB13 : hdsB smallL 1 (Tm.lst [⟨#[49]⟩, ⟨#[33]⟩]) (⟨#[33]⟩ : ByteArray).data.toList 60 = true ∧ hdsE smallL 1 (Tm.lst [⟨#[49]⟩, ⟨#[33]⟩]) (⟨#[33]⟩ : ByteArray).data.toList 60 = 0 := by decide +kernel
set_option maxHeartbeats 4000000 in
set_option maxRecDepth 100000 in
theorem tab_13 (a0 : Int) (w : World) (hm : bits .and .i64 a0 15 = 13) (hw : Tm.Lw w) :
    Calls Tryd.prog 5 #[.int .i64 a0] w fun e w' => e = .returned (.bool true) ∧ Below w.heap.size w w' := by
  have HW := hid hw
  have hcall := awake10 w hw
  clear hw
  go_enter Tryd.func5, Tryd.ntmps5
  go_wp2_with fail
  refine hcall.mono ?_
  clear hcall
  rintro e w1 ⟨rfl, hb1⟩
  have HB1 := hid hb1
  clear hb1
  go_wp2_with fail
  refine grabK (fun W => Below w.heap.size w W ∧ Tm.Txts W (some ⟨w1.heap.size + 1 + 1 + 1 + 1 + 1 + 1 + 1 + 1 + 1 + 1 + 1 + 1 + 1, 0, none⟩) [⟨#[49]⟩, ⟨#[33]⟩]) ?_ (fun W hW => ?_)
  · refine ⟨?_, ?_⟩
    · iterate 19 (with_reducible refine bw_alloc ?_ _)
      exact HB1.out
    · iterate 5 (with_reducible refine txs_alloc ?_ _)
      exact txs_newz [⟨#[49]⟩, ⟨#[33]⟩] (by simp)
  obtain ⟨hW, htx⟩ := hW
  have HB2 := hid hW
  have HTX := hid htx
  clear hW HB1 hm htx
  refine (small10_any W).mono ?_
  rintro e u ⟨rfl, hs, hb, hz⟩
  have HS := hid hs
  have HU : Hid (Below w.heap.size w u) := HB2.out.trans (hb.mono HB2.out.size)
  have HTU := hid (HTX.out.on hb)
  clear hs hb hz
  go_wp2_with fail
  refine (holds_small _ 1 0 _ 2 2 [⟨#[49]⟩, ⟨#[33]⟩] ⟨#[33]⟩ 60 _ _ u HS.out rfl HTU.out (by decide) (by decide) (by decide) (Tm.Lw.on HW.out HU.out) tB13.1 tB13.2).mono ?_
  rintro e v ⟨rfl, hb⟩
  have HV : Hid (Below w.heap.size w v) := HU.out.trans (hb.mono HU.out.size)
  clear hb
  go_wp2_with (go_at_call 11; refine (Lx.num_any _ _).mono ?_; rintro e w5 ⟨rfl, rfl⟩)
  go_ret
  exact ⟨rfl, HV.out⟩
theorem tB14 : hdsB smallL 1 (Tm.lst [⟨#[64, 55, 40, 33, 32, 51, 41]⟩, ⟨#[45, 51]⟩]) (⟨#[48]⟩ : ByteArray).data.toList 60 = true ∧ hdsE smallL 1 (Tm.lst [⟨#[64, 55, 40, 33, 32, 51, 41]⟩, ⟨#[45, 51]⟩]) (⟨#[48]⟩ : ByteArray).data.toList 60 = 0 := by decide +kernel
set_option maxHeartbeats 4000000 in
set_option maxRecDepth 100000 in
theorem tab_14 (a0 : Int) (w : World) (hm : bits .and .i64 a0 15 = 14) (hw : Tm.Lw w) :
    Calls Tryd.prog 5 #[.int .i64 a0] w fun e w' => e = .returned (.bool true) ∧ Below w.heap.size w w' := by
  have HW := hid hw
  have hcall := awake10 w hw
  clear hw
  go_enter Tryd.func5, Tryd.ntmps5
  go_wp2_with fail
  refine hcall.mono ?_
  clear hcall
  rintro e w1 ⟨rfl, hb1⟩
  have HB1 := hid hb1
  clear hb1
  go_wp2_with fail
  refine grabK (fun W => Below w.heap.size w W ∧ Tm.Txts W (some ⟨w1.heap.size + 1 + 1 + 1 + 1 + 1 + 1 + 1 + 1 + 1 + 1 + 1 + 1 + 1 + 1, 0, none⟩) [⟨#[64, 55, 40, 33, 32, 51, 41]⟩, ⟨#[45, 51]⟩]) ?_ (fun W hW => ?_)
  · refine ⟨?_, ?_⟩
    · iterate 19 (with_reducible refine bw_alloc ?_ _)
      exact HB1.out
    · iterate 4 (with_reducible refine txs_alloc ?_ _)
      exact txs_newz [⟨#[64, 55, 40, 33, 32, 51, 41]⟩, ⟨#[45, 51]⟩] (by simp)
  obtain ⟨hW, htx⟩ := hW
  have HB2 := hid hW
  have HTX := hid htx
  clear hW HB1 hm htx
  refine (small10_any W).mono ?_
  rintro e u ⟨rfl, hs, hb, hz⟩
  have HS := hid hs
  have HU : Hid (Below w.heap.size w u) := HB2.out.trans (hb.mono HB2.out.size)
  have HTU := hid (HTX.out.on hb)
  clear hs hb hz
  go_wp2_with fail
  refine (holds_small _ 1 0 _ 2 2 [⟨#[64, 55, 40, 33, 32, 51, 41]⟩, ⟨#[45, 51]⟩] ⟨#[48]⟩ 60 _ _ u HS.out rfl HTU.out (by decide) (by decide) (by decide) (Tm.Lw.on HW.out HU.out) tB14.1 tB14.2).mono ?_
  rintro e v ⟨rfl, hb⟩
  have HV : Hid (Below w.heap.size w v) := HU.out.trans (hb.mono HU.out.size)
  clear hb
  go_wp2_with (go_at_call 11; refine (Lx.num_any _ _).mono ?_; rintro e w5 ⟨rfl, rfl⟩)
  go_ret
  exact ⟨rfl, HV.out⟩
theorem tB15 : hdsB smallL 1 (Tm.lst [⟨#[51, 50, 55, 54, 55]⟩, ⟨#[49]⟩]) (⟨#[45, 51, 50, 55, 54, 56]⟩ : ByteArray).data.toList 60 = true ∧ hdsE smallL 1 (Tm.lst [⟨#[51, 50, 55, 54, 55]⟩, ⟨#[49]⟩]) (⟨#[45, 51, 50, 55, 54, 56]⟩ : ByteArray).data.toList 60 = 0 := by decide +kernel
set_option maxHeartbeats 4000000 in
set_option maxRecDepth 100000 in
theorem tab_15 (a0 : Int) (w : World) (hm : bits .and .i64 a0 15 = 15) (hw : Tm.Lw w) :
    Calls Tryd.prog 5 #[.int .i64 a0] w fun e w' => e = .returned (.bool true) ∧ Below w.heap.size w w' := by
  have HW := hid hw
  have hcall := awake10 w hw
  clear hw
  go_enter Tryd.func5, Tryd.ntmps5
  go_wp2_with fail
  refine hcall.mono ?_
  clear hcall
  rintro e w1 ⟨rfl, hb1⟩
  have HB1 := hid hb1
  clear hb1
  go_wp2_with fail
  refine grabK (fun W => Below w.heap.size w W ∧ Tm.Txts W (some ⟨w1.heap.size + 1 + 1 + 1 + 1 + 1 + 1 + 1 + 1 + 1 + 1 + 1 + 1 + 1 + 1 + 1, 0, none⟩) [⟨#[51, 50, 55, 54, 55]⟩, ⟨#[49]⟩]) ?_ (fun W hW => ?_)
  · refine ⟨?_, ?_⟩
    · iterate 19 (with_reducible refine bw_alloc ?_ _)
      exact HB1.out
    · iterate 3 (with_reducible refine txs_alloc ?_ _)
      exact txs_newz [⟨#[51, 50, 55, 54, 55]⟩, ⟨#[49]⟩] (by simp)
  obtain ⟨hW, htx⟩ := hW
  have HB2 := hid hW
  have HTX := hid htx
  clear hW HB1 hm htx
  refine (small10_any W).mono ?_
  rintro e u ⟨rfl, hs, hb, hz⟩
  have HS := hid hs
  have HU : Hid (Below w.heap.size w u) := HB2.out.trans (hb.mono HB2.out.size)
  have HTU := hid (HTX.out.on hb)
  clear hs hb hz
  go_wp2_with fail
  refine (holds_small _ 1 0 _ 2 2 [⟨#[51, 50, 55, 54, 55]⟩, ⟨#[49]⟩] ⟨#[45, 51, 50, 55, 54, 56]⟩ 60 _ _ u HS.out rfl HTU.out (by decide) (by decide) (by decide) (Tm.Lw.on HW.out HU.out) tB15.1 tB15.2).mono ?_
  rintro e v ⟨rfl, hb⟩
  have HV : Hid (Below w.heap.size w v) := HU.out.trans (hb.mono HU.out.size)
  clear hb
  go_wp2_with (go_at_call 11; refine (Lx.num_any _ _).mono ?_; rintro e w5 ⟨rfl, rfl⟩)
  go_ret
  exact ⟨rfl, HV.out⟩
end Go.Proofs.YtmcdpnikkmedkaaDoor.holdTable
