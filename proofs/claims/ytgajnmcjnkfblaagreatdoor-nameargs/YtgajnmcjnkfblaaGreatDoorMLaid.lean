/- What the rows' list of package-level variables gives the walks; a start that meets it; what the cards ask of the program. · What the rows' list of package-level variables gives the walks; a start that meets it. -/
import Derived.Test.YtgajnmcjnkfblaaGreatDoorCards
import Derived.Test.YtgajnmcjnkfblaaGreatDoorTie
import Derived.Test.YtgajnmcjnkfblaaGreatDoorMTerm
import Derived.Deep.DeepHandedRow
import Derived.Deep.DeepWitnessRowRef
import Derived.LaidMore
import Derived.Stop.LaidErr
import Derived.MakeChecks
import Derived.Lib.LaidTab

namespace Go.Proofs.YtgajnmcjnkfblaaGreatDoor.Tm
open Go.RowKit
set_option linter.unusedVariables false

theorem own : ownKnob Tryz.prog.godebug = none := by kernel_rfl
theorem gTab : Tryz.prog.globalNamed "internal/strconv.uint64pow10" = some 1 := by kernel_rfl
theorem gTabType : (Tryz.prog.globals[1]?).map (·.type) = some 193 := by kernel_rfl
theorem gSyn : Tryz.prog.globalNamed "strconv.ErrSyntax" = some 2 := by kernel_rfl
theorem gSynType : (Tryz.prog.globals[2]?).map (·.type) = some 149 := by kernel_rfl
theorem gRan : Tryz.prog.globalNamed "strconv.ErrRange" = some 3 := by kernel_rfl
theorem gRanType : (Tryz.prog.globals[3]?).map (·.type) = some 149 := by kernel_rfl
theorem cells193 : Tryz.prog.cellsOf 193 = 20 := by kernel_rfl
theorem cells115 : Tryz.prog.cellsOf 115 = 1 := by kernel_rfl
theorem cells205 : Tryz.prog.cellsOf 205 = 1 := by kernel_rfl
theorem cells9 : Tryz.prog.cellsOf 9 = 1 := by kernel_rfl
theorem star : "*" ++ "errors.errorString" = "*errors.errorString" := by decide
theorem row203 (u : TypeId) (h : Tryz.prog.typeName? 3 u = some "*errors.errorString") : u = 203 :=
  typeName_ptr_named (nm := "errors.errorString") (by rw [star]; kernel_rfl) (by kernel_rfl) (by decide) u (by rw [star]; exact h)

/-- What the list gives. -/
theorem lw_of {W : World} (h : laidMetH Tryz.prog Rows.holdsesRow.laid W) : Lw W := by
  rw [MakeChecks.laidMetH_plain _ _ _ (by kernel_rfl)] at h
  have h2 := h.tail.tail
  refine ⟨?_, ?_, ?_⟩
  · exact Lib.tabIs_of_head gTab gTabType Tryz.underlying193 Tryz.underlying115 cells115 cells193 h2
  · obtain ⟨a, s, hv, _⟩ := laid_sentinel h2.tail.tail gSyn gSynType Tryz.underlying149 row203 Tryz.underlying203 Tryz.underlying205 rfl rfl Tryz.underlying9 cells205 cells9
    exact ⟨_, _, hv⟩
  · obtain ⟨a, s, hv, _⟩ := laid_sentinel h2.tail gRan gRanType Tryz.underlying149 row203 Tryz.underlying203 Tryz.underlying205 rfl rfl Tryz.underlying9 cells205 cells9
    exact ⟨_, _, hv⟩

/-- The start that the program's own initialisers leave meets the list. -/
theorem door_met (os : Os) (args : Array Value) : laidMetH Tryz.prog Rows.holdsesRow.laid ((World.doorLaid Tryz.prog 62 os).forCall (fun _ _ => 0) ⟨#[], args, []⟩).memory := by
  rw [MakeChecks.laidMetH_plain _ _ _ (by kernel_rfl)]
  exact laidMet_of_run' 8 (by kernel_rfl) (by kernel_rfl)
end Go.Proofs.YtgajnmcjnkfblaaGreatDoor.Tm

namespace Go.Proofs.YtgajnmcjnkfblaaGreatDoor
open Go.RowKit
theorem own : ownKnob Tryz.prog.godebug = none := Tm.own
theorem lw_of {W : World} (h : laidMetH Tryz.prog Rows.holdsesRow.laid W) : Tm.Lw W := Tm.lw_of h
theorem door_met (os : Os) (args : Array Value) : laidMetH Tryz.prog Rows.holdsesRow.laid ((World.doorLaid Tryz.prog 62 os).forCall (fun _ _ => 0) ⟨#[], args, []⟩).memory := Tm.door_met os args
end Go.Proofs.YtgajnmcjnkfblaaGreatDoor
