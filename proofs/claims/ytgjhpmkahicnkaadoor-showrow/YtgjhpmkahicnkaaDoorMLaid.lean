/- The contracts of the laws' source and awake. · What the rows' list of package-level variables gives the walks; a start that meets it; what the cards ask of the program. -/
import Derived.Test.YtgjhpmkahicnkaaDoorMPart
import Derived.Test.YtgjhpmkahicnkaaDoorMSmall
import Derived.Test.YtgjhpmkahicnkaaDoorCards
import Derived.Test.YtgjhpmkahicnkaaDoorTie
import Derived.Deep.DeepHandedRow
import Derived.Deep.DeepWitnessRowRef
import Derived.LaidMore
import Derived.Stop.LaidErr
import Derived.MakeChecks
import Derived.Lib.LaidTab
import Derived.Lay
import Derived.OpenShut
import Derived.ProofKit

namespace Go.Proofs.YtgjhpmkahicnkaaDoor
open Go.RowKit
set_option linter.unusedVariables false

def srcS : Wd := [40, 100, 101, 102, 32, 48, 32, 40, 102, 49, 32, 40, 64, 55, 32, 101, 114, 114, 111, 114, 32, 52, 41, 32, 53, 41, 41, 10, 40, 100, 101, 102, 32, 50, 32, 40, 99, 97, 115, 101, 32, 36, 48, 32, 64, 55, 32, 50, 32, 40, 43, 32, 36, 51, 32, 36, 49, 41, 32, 40, 43, 32, 36, 48, 32, 36, 49, 41, 41, 41, 10]
theorem show_small : showS smallL = srcS := by decide +kernel
theorem ok_small : okS smallL = true := by unfold okS; rw [pmay_small, show_small]; decide +kernel
theorem tx_small : txS smallL = srcS := by unfold txS; rw [ok_small, if_pos rfl, show_small]
theorem er_small : erS smallL = 0 := by unfold erS; rw [ok_small]; rfl
theorem er_nil : erS [] = 800 := by decide +kernel
set_option maxHeartbeats 400000 in
theorem source_any (w : World) : Calls Tryd.prog 16 #[] w fun e w' => e = .returned (.string (Lx.ba srcS)) ∧ w = w' := by
  go_enter Tryd.func16, Tryd.ntmps16
  go_wp2
  go_ret
  exact ⟨rfl, rfl⟩
set_option maxHeartbeats 1000000 in
set_option maxRecDepth 100000 in
theorem awake_any (w : World) (hw : Tm.Lw w) : Calls Tryd.prog 12 #[] w fun e w' => e = .returned (.bool true) ∧ Below w.heap.size w w' := by
  have HW := hid hw
  obtain ⟨S, hS⟩ : ∃ S, Lx.ba srcS = S := ⟨_, rfl⟩
  have HS : Hid (Lx.ba srcS = S) := hS
  have hSS : (S.toList == S.toList) = true := beq_self_eq_true _
  clear hw hS
  go_enter Tryd.func12, Tryd.ntmps12
  go_wp2_with (go_at_call 14; refine (small_any w).mono ?_)
  rintro e w1 ⟨rfl, h1, hb1, _⟩
  go_wp2_with (go_at_call 8; refine (text_any (some ⟨w.heap.size + 10, 0, none⟩) 2 smallL w1 h1.defs (Tm.Lw.on HW.out hb1)).mono ?_)
  rintro e w2 ⟨rfl, hb2⟩
  rw [tx_small, er_small, HS.out]
  have hb3 := hb1.trans (hb2.mono hb1.size)
  clear hb2 hb1 h1
  go_wp2_with (go_at_call 8; refine (text_any none 0 [] w2 (Or.inl rfl) (Tm.Lw.on HW.out hb3)).mono ?_)
  rintro e w3 ⟨rfl, hb4⟩
  rw [er_nil]
  have hb5 := hb3.trans (hb4.mono hb3.size)
  clear hb3 hb4
  obtain ⟨X, hX⟩ : ∃ X, Lx.ba (txS []) = X := ⟨_, rfl⟩
  rw [hX]
  clear hX
  go_wp2_with (go_at_call 16; refine (source_any w3).mono ?_)
  rintro e w4 ⟨rfl, rfl⟩
  rw [HS.out]
  go_wp2_with (go_at_call 10; refine (Lx.num_any 0 w3).mono ?_)
  rintro e w4 ⟨rfl, rfl⟩
  go_wp2_with (go_at_call 10; refine (Lx.num_any 800 w3).mono ?_)
  rintro e w4 ⟨rfl, rfl⟩
  go_wp2
  go_ret
  exact ⟨rfl, hb5⟩
end Go.Proofs.YtgjhpmkahicnkaaDoor

namespace Go.Proofs.YtgjhpmkahicnkaaDoor
open Go.RowKit
set_option linter.unusedVariables false

theorem own : ownKnob Tryd.prog.godebug = none := by kernel_rfl
theorem gTab : Tryd.prog.globalNamed "internal/strconv.uint64pow10" = some 0 := by kernel_rfl
theorem gTabType : (Tryd.prog.globals[0]?).map (·.type) = some 124 := by kernel_rfl
theorem cells124 : Tryd.prog.cellsOf 124 = 20 := by kernel_rfl
theorem cells68 : Tryd.prog.cellsOf 68 = 1 := by kernel_rfl
theorem cells9 : Tryd.prog.cellsOf 9 = 1 := by kernel_rfl
/-- What the list gives. -/
theorem lw_of {W : World} (h : laidMetH Tryd.prog Rows.showsRow.laid W) : Tm.Lw W := by
  rw [MakeChecks.laidMetH_plain _ _ _ (by kernel_rfl)] at h
  exact ⟨Lib.tabIs_of_head gTab gTabType Tryd.underlying124 Tryd.underlying68 cells68 cells124 h.tail.tail, trivial⟩
theorem lay_fits (os : Os) : (World.holding Tryd.prog os ⟨#[], #[], []⟩).layFits Tryd.prog Rows.showsRow.laid [] = true := by kernel_rfl
theorem lay_ifaces (os : Os) : (World.holding Tryd.prog os ⟨#[], #[], []⟩).layIfaces Tryd.prog Rows.showsRow.laid (World.laidAll Tryd.prog os Rows.showsRow.laid) = true := by kernel_rfl
/-- The start in which the listed variables are laid meets the list. -/
theorem door_met (os : Os) (args : Array Value) : laidMetH Tryd.prog Rows.showsRow.laid ((World.laidAll Tryd.prog os Rows.showsRow.laid).forCall (fun _ _ => 0) ⟨#[], args, []⟩).memory := by
  rw [MakeChecks.laidMetH_plain _ _ _ (by kernel_rfl)]
  exact laidMet_laidAll _ (lay_fits os) (lay_ifaces os)
/-- A world need not be written out to be named. -/
theorem grabC {P : Program} {f : FuncId} {a : Array Value} {W : World} {Q : Ending → World → Prop} (p : World → Prop) (h : p W) (k : ∀ W', p W' → Calls P f a W' Q) : Calls P f a W Q := k W h
/-- An int taken as unsigned, and what a division by a small number leaves of it. -/
theorem umod (x : Int) (n : Nat) (h : 0 < n) (hn : n ≤ 4611686018427387904) : ∃ m : Nat, wrap64 ((IntKind.u64.wrap x).tmod (n : Int)) = (m : Int) ∧ m < n := by
  have h0 : 0 ≤ IntKind.u64.wrap x := by rw [IntKind.wrap_u64]; omega
  rw [Int.tmod_eq_emod_of_nonneg h0]
  have h1 := Int.emod_nonneg (IntKind.u64.wrap x) (show (n : Int) ≠ 0 by omega)
  have h2 := Int.emod_lt_of_pos (IntKind.u64.wrap x) (show (0 : Int) < n by omega)
  refine ⟨(IntKind.u64.wrap x % (n : Int)).toNat, ?_, by omega⟩
  unfold wrap64
  omega
end Go.Proofs.YtgjhpmkahicnkaaDoor
