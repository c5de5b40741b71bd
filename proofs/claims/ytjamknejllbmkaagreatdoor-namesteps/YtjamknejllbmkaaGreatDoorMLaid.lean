/- What the rows' list of package-level variables gives the walks; a start that meets it; what the cards ask of the program. · What the rows' list of package-level variables gives the walks; a start that meets it. -/
import Derived.Test.YtjamknejllbmkaaGreatDoorCards
import Derived.Test.YtjamknejllbmkaaGreatDoorTie
import Derived.Test.YtjamknejllbmkaaGreatDoorMTerm
import Derived.Deep.DeepHandedRow
import Derived.Deep.DeepWitnessRowRef
import Derived.LaidMore
import Derived.Stop.LaidErr
import Derived.MakeChecks
import Derived.Lib.LaidTab

namespace Go.Proofs.YtjamknejllbmkaaGreatDoor.Tm
open Go.RowKit
set_option linter.unusedVariables false

theorem own : ownKnob Tryz.prog.godebug = none := by kernel_rfl
theorem gTab : Tryz.prog.globalNamed "internal/strconv.uint64pow10" = some 1 := by kernel_rfl
theorem gTabType : (Tryz.prog.globals[1]?).map (·.type) = some 176 := by kernel_rfl
theorem gSyn : Tryz.prog.globalNamed "strconv.ErrSyntax" = some 2 := by kernel_rfl
theorem gSynType : (Tryz.prog.globals[2]?).map (·.type) = some 132 := by kernel_rfl
theorem gRan : Tryz.prog.globalNamed "strconv.ErrRange" = some 3 := by kernel_rfl
theorem gRanType : (Tryz.prog.globals[3]?).map (·.type) = some 132 := by kernel_rfl
theorem cells176 : Tryz.prog.cellsOf 176 = 20 := by kernel_rfl
theorem cells72 : Tryz.prog.cellsOf 72 = 1 := by kernel_rfl
theorem cells197 : Tryz.prog.cellsOf 197 = 1 := by kernel_rfl
theorem cells9 : Tryz.prog.cellsOf 9 = 1 := by kernel_rfl
theorem star : "*" ++ "errors.errorString" = "*errors.errorString" := by decide
theorem row195 (u : TypeId) (h : Tryz.prog.typeName? 3 u = some "*errors.errorString") : u = 195 :=
  typeName_ptr_named (nm := "errors.errorString") (by rw [star]; kernel_rfl) (by kernel_rfl) (by decide) u (by rw [star]; exact h)

/-- What the list gives. -/
theorem lw_of {W : World} (h : laidMetH Tryz.prog Rows.nameTableRow.laid W) : Lw W := by
  rw [MakeChecks.laidMetH_plain _ _ _ (by kernel_rfl)] at h
  have h2 := h.tail.tail
  refine ⟨?_, ?_, ?_⟩
  · exact Lib.tabIs_of_head gTab gTabType Tryz.underlying176 Tryz.underlying72 cells72 cells176 h2
  · obtain ⟨a, s, hv, _⟩ := laid_sentinel h2.tail.tail gSyn gSynType Tryz.underlying132 row195 Tryz.underlying195 Tryz.underlying197 rfl rfl Tryz.underlying9 cells197 cells9
    exact ⟨_, _, hv⟩
  · obtain ⟨a, s, hv, _⟩ := laid_sentinel h2.tail gRan gRanType Tryz.underlying132 row195 Tryz.underlying195 Tryz.underlying197 rfl rfl Tryz.underlying9 cells197 cells9
    exact ⟨_, _, hv⟩

/-- The start that the program's own initialisers leave meets the list. -/
theorem door_met (os : Os) (args : Array Value) : laidMetH Tryz.prog Rows.nameTableRow.laid ((World.doorLaid Tryz.prog 62 os).forCall (fun _ _ => 0) ⟨#[], args, []⟩).memory := by
  rw [MakeChecks.laidMetH_plain _ _ _ (by kernel_rfl)]
  exact laidMet_of_run' 8 (by kernel_rfl) (by kernel_rfl)
end Go.Proofs.YtjamknejllbmkaaGreatDoor.Tm

namespace Go.Proofs.YtjamknejllbmkaaGreatDoor
open Go.RowKit
theorem own : ownKnob Tryz.prog.godebug = none := Tm.own
theorem lw_of {W : World} (h : laidMetH Tryz.prog Rows.nameTableRow.laid W) : Tm.Lw W := Tm.lw_of h
theorem door_met (os : Os) (args : Array Value) : laidMetH Tryz.prog Rows.nameTableRow.laid ((World.doorLaid Tryz.prog 62 os).forCall (fun _ _ => 0) ⟨#[], args, []⟩).memory := Tm.door_met os args
end Go.Proofs.YtjamknejllbmkaaGreatDoor
