/- What the rows' list of package-level variables gives the walks; a start that meets it; what the cards ask of the program. -/
import Derived.Test.YtighcikiaddfcaaGreatDoorCards
import Derived.Test.YtighcikiaddfcaaGreatDoorTie
import Derived.Test.YtighcikiaddfcaaGreatDoorNParse
import Derived.Deep.DeepHandedRow
import Derived.Deep.DeepWitnessRowRef
import Derived.LaidMore
import Derived.Stop.LaidErr
import Derived.MakeChecks
import Derived.Lib.LaidTab
import Derived.Lay
import Derived.OpenShut
import Derived.ProofKit

namespace Go.Proofs.YtighcikiaddfcaaGreatDoor
open Go.RowKit
set_option linter.unusedVariables false

theorem own : ownKnob Tryz.prog.godebug = none := by kernel_rfl
theorem gTab : Tryz.prog.globalNamed "internal/strconv.uint64pow10" = some 5 := by kernel_rfl
theorem gTabType : (Tryz.prog.globals[5]?).map (·.type) = some 200 := by kernel_rfl
theorem gSyn : Tryz.prog.globalNamed "strconv.ErrSyntax" = some 3 := by kernel_rfl
theorem gSynType : (Tryz.prog.globals[3]?).map (·.type) = some 174 := by kernel_rfl
theorem gRan : Tryz.prog.globalNamed "strconv.ErrRange" = some 4 := by kernel_rfl
theorem gRanType : (Tryz.prog.globals[4]?).map (·.type) = some 174 := by kernel_rfl
theorem cells200 : Tryz.prog.cellsOf 200 = 20 := by kernel_rfl
theorem cells92 : Tryz.prog.cellsOf 92 = 1 := by kernel_rfl
theorem cells198 : Tryz.prog.cellsOf 198 = 1 := by kernel_rfl
theorem cells9 : Tryz.prog.cellsOf 9 = 1 := by kernel_rfl
theorem star : "*" ++ "errors.errorString" = "*errors.errorString" := by decide
theorem row196 (u : TypeId) (h : Tryz.prog.typeName? 3 u = some "*errors.errorString") : u = 196 :=
  typeName_ptr_named (nm := "errors.errorString") (by rw [star]; kernel_rfl) (by kernel_rfl) (by decide) u (by rw [star]; exact h)
/-- What the list gives. -/
theorem lw_of {W : World} (h : laidMetH Tryz.prog Rows.parsesRow.laid W) : Lw W := by
  rw [MakeChecks.laidMetH_plain _ _ _ (by kernel_rfl)] at h
  have h2 := h.tail.tail
  have h4 := h2.tail.tail
  refine ⟨?_, ?_, ?_⟩
  · exact Lib.tabIs_of_head gTab gTabType Tryz.underlying200 Tryz.underlying92 cells92 cells200 h2
  · obtain ⟨a, s, hv, _⟩ := laid_sentinel h4.tail gSyn gSynType Tryz.underlying174 row196 Tryz.underlying196 Tryz.underlying198 rfl rfl Tryz.underlying9 cells198 cells9
    exact ⟨_, _, hv⟩
  · obtain ⟨a, s, hv, _⟩ := laid_sentinel h4 gRan gRanType Tryz.underlying174 row196 Tryz.underlying196 Tryz.underlying198 rfl rfl Tryz.underlying9 cells198 cells9
    exact ⟨_, _, hv⟩
theorem lay_fits (os : Os) : (World.holding Tryz.prog os ⟨#[], #[], []⟩).layFits Tryz.prog Rows.parsesRow.laid [] = true := by kernel_rfl
theorem lay_ifaces (os : Os) : (World.holding Tryz.prog os ⟨#[], #[], []⟩).layIfaces Tryz.prog Rows.parsesRow.laid (World.laidAll Tryz.prog os Rows.parsesRow.laid) = true := by kernel_rfl
/-- The start in which the listed variables are laid meets the list. -/
theorem door_met (os : Os) (args : Array Value) : laidMetH Tryz.prog Rows.parsesRow.laid ((World.laidAll Tryz.prog os Rows.parsesRow.laid).forCall (fun _ _ => 0) ⟨#[], args, []⟩).memory := by
  rw [MakeChecks.laidMetH_plain _ _ _ (by kernel_rfl)]
  exact laidMet_laidAll _ (lay_fits os) (lay_ifaces os)
/-- A world need not be written out to be named. -/
theorem grabC {P : Program} {f : FuncId} {a : Array Value} {W : World} {Q : Ending → World → Prop} (p : World → Prop) (h : p W) (k : ∀ W', p W' → Calls P f a W' Q) : Calls P f a W Q := k W h
/-- An int taken as unsigned, and what a division by a small number leaves of it. -/
theorem umod (x : Int) (n : Nat) (h : 0 < n) (hn : n ≤ 4611686018427387904) : ∃ m : Nat, wrap64 ((IntKind.u64.wrap x).tmod (n : Int)) = (m : Int) ∧ m < n := by
  have h0 : 0 ≤ IntKind.u64.wrap x := by rw [IntKind.wrap_u64]; omega
  rw [Int.tmod_eq_emod_of_nonneg h0]
  have h1 := Int.emod_nonneg (IntKind.u64.wrap x) (show (n : Int) ≠ 0 by omega)
  have h2 := Int.emod_lt_of_pos (IntKind.u64.wrap x) (show (0 : Int) < n by omega)
  refine ⟨(IntKind.u64.wrap x % (n : Int)).toNat, ?_, by omega⟩
  unfold wrap64
  omega
end Go.Proofs.YtighcikiaddfcaaGreatDoor
