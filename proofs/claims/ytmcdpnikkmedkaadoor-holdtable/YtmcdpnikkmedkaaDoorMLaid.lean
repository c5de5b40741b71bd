/- What the rows' list of package-level variables gives the walks; a start that meets it; what the cards ask of the program. · What the rows' list of package-level variables gives the walks; a start that meets it. -/
import Derived.Test.YtmcdpnikkmedkaaDoorCards
import Derived.Test.YtmcdpnikkmedkaaDoorTie
import Derived.Test.YtmcdpnikkmedkaaDoorMTerm
import Derived.Deep.DeepHandedRow
import Derived.Deep.DeepWitnessRowRef
import Derived.LaidMore
import Derived.Stop.LaidErr
import Derived.MakeChecks
import Derived.Lib.LaidTab

namespace Go.Proofs.YtmcdpnikkmedkaaDoor.Tm
open Go.RowKit
set_option linter.unusedVariables false

theorem own : ownKnob Tryd.prog.godebug = none := by kernel_rfl
theorem gTab : Tryd.prog.globalNamed "internal/strconv.uint64pow10" = some 3 := by kernel_rfl
theorem gTabType : (Tryd.prog.globals[3]?).map (·.type) = some 166 := by kernel_rfl
theorem gSyn : Tryd.prog.globalNamed "strconv.ErrSyntax" = some 1 := by kernel_rfl
theorem gSynType : (Tryd.prog.globals[1]?).map (·.type) = some 122 := by kernel_rfl
theorem gRan : Tryd.prog.globalNamed "strconv.ErrRange" = some 2 := by kernel_rfl
theorem gRanType : (Tryd.prog.globals[2]?).map (·.type) = some 122 := by kernel_rfl
theorem cells166 : Tryd.prog.cellsOf 166 = 20 := by kernel_rfl
theorem cells92 : Tryd.prog.cellsOf 92 = 1 := by kernel_rfl
theorem cells172 : Tryd.prog.cellsOf 172 = 1 := by kernel_rfl
theorem cells9 : Tryd.prog.cellsOf 9 = 1 := by kernel_rfl
theorem star : "*" ++ "errors.errorString" = "*errors.errorString" := by decide
theorem row170 (u : TypeId) (h : Tryd.prog.typeName? 3 u = some "*errors.errorString") : u = 170 :=
  typeName_ptr_named (nm := "errors.errorString") (by rw [star]; kernel_rfl) (by kernel_rfl) (by decide) u (by rw [star]; exact h)

/-- What the list gives. -/
theorem lw_of {W : World} (h : laidMetH Tryd.prog Rows.holdFormsRow.laid W) : Lw W := by
  rw [MakeChecks.laidMetH_plain _ _ _ (by kernel_rfl)] at h
  have h2 := h.tail.tail
  refine ⟨?_, ?_, ?_⟩
  · exact Lib.tabIs_of_head gTab gTabType Tryd.underlying166 Tryd.underlying92 cells92 cells166 h2
  · obtain ⟨a, s, hv, _⟩ := laid_sentinel h2.tail.tail gSyn gSynType Tryd.underlying122 row170 Tryd.underlying170 Tryd.underlying172 rfl rfl Tryd.underlying9 cells172 cells9
    exact ⟨_, _, hv⟩
  · obtain ⟨a, s, hv, _⟩ := laid_sentinel h2.tail gRan gRanType Tryd.underlying122 row170 Tryd.underlying170 Tryd.underlying172 rfl rfl Tryd.underlying9 cells172 cells9
    exact ⟨_, _, hv⟩

/-- The start that the program's own initialisers leave meets the list. -/
theorem door_met (os : Os) (args : Array Value) : laidMetH Tryd.prog Rows.holdFormsRow.laid ((World.doorLaid Tryd.prog 62 os).forCall (fun _ _ => 0) ⟨#[], args, []⟩).memory := by
  rw [MakeChecks.laidMetH_plain _ _ _ (by kernel_rfl)]
  exact laidMet_of_run' 8 (by kernel_rfl) (by kernel_rfl)
end Go.Proofs.YtmcdpnikkmedkaaDoor.Tm

namespace Go.Proofs.YtmcdpnikkmedkaaDoor
open Go.RowKit
theorem own : ownKnob Tryd.prog.godebug = none := Tm.own
theorem lw_of {W : World} (h : laidMetH Tryd.prog Rows.holdFormsRow.laid W) : Tm.Lw W := Tm.lw_of h
theorem door_met (os : Os) (args : Array Value) : laidMetH Tryd.prog Rows.holdFormsRow.laid ((World.doorLaid Tryd.prog 62 os).forCall (fun _ _ => 0) ⟨#[], args, []⟩).memory := Tm.door_met os args
end Go.Proofs.YtmcdpnikkmedkaaDoor
