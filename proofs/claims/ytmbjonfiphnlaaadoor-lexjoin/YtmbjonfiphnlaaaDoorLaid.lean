/- A start that meets the rows' list of package-level variables; what the cards ask of the program. -/
import Derived.Test.YtmbjonfiphnlaaaDoorCards
import Derived.Test.YtmbjonfiphnlaaaDoorTie
import Derived.Test.YtmbjonfiphnlaaaDoorWake
import Derived.Deep.DeepHandedRow
import Derived.Deep.DeepWitnessRowRef
import Derived.LaidMore
import Derived.Stop.LaidErr
import Derived.MakeChecks
import Derived.Lay
import Derived.OpenShut
import Derived.ProofKit
namespace Go.Proofs.YtmbjonfiphnlaaaDoor
open Go.RowKit
set_option linter.unusedVariables false

theorem own : ownKnob Tryd.prog.godebug = none := by kernel_rfl
theorem lay_fits (os : Os) : (World.holding Tryd.prog os ⟨#[], #[], []⟩).layFits Tryd.prog Rows.lexesRow.laid [] = true := by kernel_rfl
theorem lay_ifaces (os : Os) : (World.holding Tryd.prog os ⟨#[], #[], []⟩).layIfaces Tryd.prog Rows.lexesRow.laid (World.laidAll Tryd.prog os Rows.lexesRow.laid) = true := by kernel_rfl
/-- The start in which the listed variables are laid meets the list. -/
theorem door_met (os : Os) (args : Array Value) : laidMetH Tryd.prog Rows.lexesRow.laid ((World.laidAll Tryd.prog os Rows.lexesRow.laid).forCall (fun _ _ => 0) ⟨#[], args, []⟩).memory := by
  rw [MakeChecks.laidMetH_plain _ _ _ (by kernel_rfl)]
  exact laidMet_laidAll _ (lay_fits os) (lay_ifaces os)
end Go.Proofs.YtmbjonfiphnlaaaDoor
