/- HoldTable: some of its ways. -/
import Derived.Test.YtmcdpnikkmedkaaDoorMHLaw
namespace Go.Proofs.YtmcdpnikkmedkaaDoor.holdTable
open Go.RowKit
set_option linter.unusedVariables false
theorem txs_alloc {W : World} {g : Option Addr} {xs : List ByteArray} (h : Tm.Txts W g xs) (o : Obj) : Tm.Txts (W.alloc o) g xs := h.on ((Below.refl _ W).alloc (Nat.le_refl _) o)
theorem txs_newz {W : World} {z : Nat} (xs : List ByteArray) (hz : z = W.heap.size) : Tm.Txts (W.alloc (Obj.cells (xs.map Value.string).toArray 9)) (some ⟨z, 0, none⟩) xs := by subst hz; exact Tm.new_txts W xs
theorem bw_alloc {w W : World} (h : Below w.heap.size w W) (o : Obj) : Below w.heap.size w (W.alloc o) := h.alloc h.size o

theorem tB0 : hdsB smallL 1 (Tm.lst [⟨#[49]⟩, ⟨#[50]⟩]) (⟨#[51]⟩ : ByteArray).data.toList 60 = true ∧ hdsE smallL 1 (Tm.lst [⟨#[49]⟩, ⟨#[50]⟩]) (⟨#[51]⟩ : ByteArray).data.toList 60 = 0 := by decide +kernel
set_option maxHeartbeats 4000000 in
set_option maxRecDepth 100000 in
theorem tab_0 (a0 : Int) (w : World) (hm : bits .and .i64 a0 15 = 0) (hw : Tm.Lw w) :
    Calls Tryd.prog 5 #[.int .i64 a0] w fun e w' => e = .returned (.bool true) ∧ Below w.heap.size w w' := by
  have HW := hid hw
  have hcall := awake10 w hw
  clear hw
  go_enter Tryd.func5, Tryd.ntmps5
  go_wp2_with fail
  refine hcall.mono ?_
  clear hcall
  rintro e w1 ⟨rfl, hb1⟩
  have HB1 := hid hb1
  clear hb1
  go_wp2_with fail
  refine grabK (fun W => Below w.heap.size w W ∧ Tm.Txts W (some ⟨w1.heap.size, 0, none⟩) [⟨#[49]⟩, ⟨#[50]⟩]) ?_ (fun W hW => ?_)
  · refine ⟨?_, ?_⟩
    · iterate 19 (with_reducible refine bw_alloc ?_ _)
      exact HB1.out
    · iterate 18 (with_reducible refine txs_alloc ?_ _)
      exact txs_newz [⟨#[49]⟩, ⟨#[50]⟩] (by simp)
  obtain ⟨hW, htx⟩ := hW
  have HB2 := hid hW
  have HTX := hid htx
  clear hW HB1 hm htx
  refine (small10_any W).mono ?_
  rintro e u ⟨rfl, hs, hb, hz⟩
  have HS := hid hs
  have HU : Hid (Below w.heap.size w u) := HB2.out.trans (hb.mono HB2.out.size)
  have HTU := hid (HTX.out.on hb)
  clear hs hb hz
  go_wp2_with fail
  refine (holds_small _ 1 0 _ 2 2 [⟨#[49]⟩, ⟨#[50]⟩] ⟨#[51]⟩ 60 _ _ u HS.out rfl HTU.out (by decide) (by decide) (by decide) (Tm.Lw.on HW.out HU.out) tB0.1 tB0.2).mono ?_
  rintro e v ⟨rfl, hb⟩
  have HV : Hid (Below w.heap.size w v) := HU.out.trans (hb.mono HU.out.size)
  clear hb
  go_wp2_with (go_at_call 11; refine (Lx.num_any _ _).mono ?_; rintro e w5 ⟨rfl, rfl⟩)
  go_ret
  exact ⟨rfl, HV.out⟩
theorem tB1 : hdsB smallL 1 (Tm.lst [⟨#[49]⟩, ⟨#[50]⟩]) (⟨#[52]⟩ : ByteArray).data.toList 60 = false ∧ hdsE smallL 1 (Tm.lst [⟨#[49]⟩, ⟨#[50]⟩]) (⟨#[52]⟩ : ByteArray).data.toList 60 = 0 := by decide +kernel
set_option maxHeartbeats 4000000 in
set_option maxRecDepth 100000 in
theorem tab_1 (a0 : Int) (w : World) (hm : bits .and .i64 a0 15 = 1) (hw : Tm.Lw w) :
    Calls Tryd.prog 5 #[.int .i64 a0] w fun e w' => e = .returned (.bool true) ∧ Below w.heap.size w w' := by
  have HW := hid hw
  have hcall := awake10 w hw
  clear hw
  go_enter Tryd.func5, Tryd.ntmps5
  go_wp2_with fail
  refine hcall.mono ?_
  clear hcall
  rintro e w1 ⟨rfl, hb1⟩
  have HB1 := hid hb1
  clear hb1
  go_wp2_with fail
  refine grabK (fun W => Below w.heap.size w W ∧ Tm.Txts W (some ⟨w1.heap.size + 1, 0, none⟩) [⟨#[49]⟩, ⟨#[50]⟩]) ?_ (fun W hW => ?_)
  · refine ⟨?_, ?_⟩
    · iterate 19 (with_reducible refine bw_alloc ?_ _)
      exact HB1.out
    · iterate 17 (with_reducible refine txs_alloc ?_ _)
      exact txs_newz [⟨#[49]⟩, ⟨#[50]⟩] (by simp)
  obtain ⟨hW, htx⟩ := hW
  have HB2 := hid hW
  have HTX := hid htx
  clear hW HB1 hm htx
  refine (small10_any W).mono ?_
  rintro e u ⟨rfl, hs, hb, hz⟩
  have HS := hid hs
  have HU : Hid (Below w.heap.size w u) := HB2.out.trans (hb.mono HB2.out.size)
  have HTU := hid (HTX.out.on hb)
  clear hs hb hz
  go_wp2_with fail
  refine (holds_small _ 1 0 _ 2 2 [⟨#[49]⟩, ⟨#[50]⟩] ⟨#[52]⟩ 60 _ _ u HS.out rfl HTU.out (by decide) (by decide) (by decide) (Tm.Lw.on HW.out HU.out) tB1.1 tB1.2).mono ?_
  rintro e v ⟨rfl, hb⟩
  have HV : Hid (Below w.heap.size w v) := HU.out.trans (hb.mono HU.out.size)
  clear hb
  go_wp2_with (go_at_call 11; refine (Lx.num_any _ _).mono ?_; rintro e w5 ⟨rfl, rfl⟩)
  go_ret
  exact ⟨rfl, HV.out⟩
theorem tB2 : hdsB smallL 1 (Tm.lst [⟨#[49]⟩, ⟨#[50]⟩]) (⟨#[95]⟩ : ByteArray).data.toList 60 = true ∧ hdsE smallL 1 (Tm.lst [⟨#[49]⟩, ⟨#[50]⟩]) (⟨#[95]⟩ : ByteArray).data.toList 60 = 0 := by decide +kernel
set_option maxHeartbeats 4000000 in
set_option maxRecDepth 100000 in
theorem tab_2 (a0 : Int) (w : World) (hm : bits .and .i64 a0 15 = 2) (hw : Tm.Lw w) :
    Calls Tryd.prog 5 #[.int .i64 a0] w fun e w' => e = .returned (.bool true) ∧ Below w.heap.size w w' := by
  have HW := hid hw
  have hcall := awake10 w hw
  clear hw
  go_enter Tryd.func5, Tryd.ntmps5
  go_wp2_with fail
  refine hcall.mono ?_
  clear hcall
  rintro e w1 ⟨rfl, hb1⟩
  have HB1 := hid hb1
  clear hb1
  go_wp2_with fail
  refine grabK (fun W => Below w.heap.size w W ∧ Tm.Txts W (some ⟨w1.heap.size + 1 + 1, 0, none⟩) [⟨#[49]⟩, ⟨#[50]⟩]) ?_ (fun W hW => ?_)
  · refine ⟨?_, ?_⟩
    · iterate 19 (with_reducible refine bw_alloc ?_ _)
      exact HB1.out
    · iterate 16 (with_reducible refine txs_alloc ?_ _)
      exact txs_newz [⟨#[49]⟩, ⟨#[50]⟩] (by simp)
  obtain ⟨hW, htx⟩ := hW
  have HB2 := hid hW
  have HTX := hid htx
  clear hW HB1 hm htx
  refine (small10_any W).mono ?_
  rintro e u ⟨rfl, hs, hb, hz⟩
  have HS := hid hs
  have HU : Hid (Below w.heap.size w u) := HB2.out.trans (hb.mono HB2.out.size)
  have HTU := hid (HTX.out.on hb)
  clear hs hb hz
  go_wp2_with fail
  refine (holds_small _ 1 0 _ 2 2 [⟨#[49]⟩, ⟨#[50]⟩] ⟨#[95]⟩ 60 _ _ u HS.out rfl HTU.out (by decide) (by decide) (by decide) (Tm.Lw.on HW.out HU.out) tB2.1 tB2.2).mono ?_
  rintro e v ⟨rfl, hb⟩
  have HV : Hid (Below w.heap.size w v) := HU.out.trans (hb.mono HU.out.size)
  clear hb
  go_wp2_with (go_at_call 11; refine (Lx.num_any _ _).mono ?_; rintro e w5 ⟨rfl, rfl⟩)
  go_ret
  exact ⟨rfl, HV.out⟩
theorem tB3 : hdsB smallL 1 (Tm.lst [⟨#[49]⟩, ⟨#[50]⟩]) (⟨#[33]⟩ : ByteArray).data.toList 60 = false ∧ hdsE smallL 1 (Tm.lst [⟨#[49]⟩, ⟨#[50]⟩]) (⟨#[33]⟩ : ByteArray).data.toList 60 = 0 := by decide +kernel
set_option maxHeartbeats 4000000 in
set_option maxRecDepth 100000 in
theorem tab_3 (a0 : Int) (w : World) (hm : bits .and .i64 a0 15 = 3) (hw : Tm.Lw w) :
    Calls Tryd.prog 5 #[.int .i64 a0] w fun e w' => e = .returned (.bool true) ∧ Below w.heap.size w w' := by
  have HW := hid hw
  have hcall := awake10 w hw
  clear hw
  go_enter Tryd.func5, Tryd.ntmps5
  go_wp2_with fail
  refine hcall.mono ?_
  clear hcall
  rintro e w1 ⟨rfl, hb1⟩
  have HB1 := hid hb1
  clear hb1
  go_wp2_with fail
  refine grabK (fun W => Below w.heap.size w W ∧ Tm.Txts W (some ⟨w1.heap.size + 1 + 1 + 1, 0, none⟩) [⟨#[49]⟩, ⟨#[50]⟩]) ?_ (fun W hW => ?_)
  · refine ⟨?_, ?_⟩
    · iterate 19 (with_reducible refine bw_alloc ?_ _)
      exact HB1.out
    · iterate 15 (with_reducible refine txs_alloc ?_ _)
      exact txs_newz [⟨#[49]⟩, ⟨#[50]⟩] (by simp)
  obtain ⟨hW, htx⟩ := hW
  have HB2 := hid hW
  have HTX := hid htx
  clear hW HB1 hm htx
  refine (small10_any W).mono ?_
  rintro e u ⟨rfl, hs, hb, hz⟩
  have HS := hid hs
  have HU : Hid (Below w.heap.size w u) := HB2.out.trans (hb.mono HB2.out.size)
  have HTU := hid (HTX.out.on hb)
  clear hs hb hz
  go_wp2_with fail
  refine (holds_small _ 1 0 _ 2 2 [⟨#[49]⟩, ⟨#[50]⟩] ⟨#[33]⟩ 60 _ _ u HS.out rfl HTU.out (by decide) (by decide) (by decide) (Tm.Lw.on HW.out HU.out) tB3.1 tB3.2).mono ?_
  rintro e v ⟨rfl, hb⟩
  have HV : Hid (Below w.heap.size w v) := HU.out.trans (hb.mono HU.out.size)
  clear hb
  go_wp2_with (go_at_call 11; refine (Lx.num_any _ _).mono ?_; rintro e w5 ⟨rfl, rfl⟩)
  go_ret
  exact ⟨rfl, HV.out⟩
end Go.Proofs.YtmcdpnikkmedkaaDoor.holdTable
