/-
  DERIVED. GIVEN WITH THE SEED: THE CARDS: each row of YtnomdhnomggbfabGreatDoorRows.lean that lists a variable, with what it lists TIED to the program's text (the seventh form; the later family's looks); each row that meets fmt, with fmt's text TOLD by the authors' own Lean function (tested against real Go, not proved from fmt's source: count such statements apart). THE CARD IS WHAT COUNTS. Prove the row's statement (the work); the ties are given (YtnomdhnomggbfabGreatDoorTie.lean); close each card by the builder's one call (the guide's Derived/Test/ToyasCard.lean, 'card_holds'). Laid BY PROGRAM, IN A SANDBOX (cutbox-door.mjs). By AI agents, Wed Nov 11 2026. No macro, syntax, notation, axiom, sorry.
-/
import Derived.Test.YtnomdhnomggbfabGreatDoorRows
import GoSem.ClaimSeven
namespace Go.Proofs.YtnomdhnomggbfabGreatDoor
namespace Rows

/-- THE TIED CARD OF 'sleuthlaw9.NameFilled'. -/
def nameFilledCard : Claim7 := { stood := { row := nameFilledRow, standIns := [], harness := (true, "8b3220d523c2d441e8d7ebe9d4f66a81a76eeb6697357f2c7e4d0fc0d1a91586"), looks := true }, kinds := [], alts := [], laidByText := true, laidKinds := [.data, .data, .data, .sentinel, .sentinel], laidTests := true, laidLooks := .later }
def NameFilledCardSaid : Prop := Claim7.holds Tryz.pinned (.plain (OpenSpec.ofChange nameFilledSpec)) nameFilledCard

/-- THE TIED CARD OF 'sleuthlaw9.NameArgs'. -/
def nameArgsCard : Claim7 := { stood := { row := nameArgsRow, standIns := [], harness := (true, "8b3220d523c2d441e8d7ebe9d4f66a81a76eeb6697357f2c7e4d0fc0d1a91586"), looks := true }, kinds := [], alts := [], laidByText := true, laidKinds := [.data, .data, .data, .sentinel, .sentinel], laidTests := true, laidLooks := .later }
def NameArgsCardSaid : Prop := Claim7.holds Tryz.pinned (.plain (OpenSpec.ofChange nameArgsSpec)) nameArgsCard

/-- THE SECOND FORM's CARD OF 'sleuthlaw9.NameFilled'. -/
def nameFilledUptoCard : Claim7 := { stood := { row := nameFilledUptoRow, standIns := [], harness := (true, "8b3220d523c2d441e8d7ebe9d4f66a81a76eeb6697357f2c7e4d0fc0d1a91586"), looks := true }, kinds := [], alts := [], laidByText := true, laidKinds := [.data, .data, .data, .sentinel, .sentinel], laidTests := true, laidLooks := .later }
def NameFilledUptoCardSaid : Prop := Claim7.holds Tryz.pinned (.plain (OpenSpec.upto nameFilledSpec)) nameFilledUptoCard

/-- THE SECOND FORM's CARD OF 'sleuthlaw9.NameArgs'. -/
def nameArgsUptoCard : Claim7 := { stood := { row := nameArgsUptoRow, standIns := [], harness := (true, "8b3220d523c2d441e8d7ebe9d4f66a81a76eeb6697357f2c7e4d0fc0d1a91586"), looks := true }, kinds := [], alts := [], laidByText := true, laidKinds := [.data, .data, .data, .sentinel, .sentinel], laidTests := true, laidLooks := .later }
def NameArgsUptoCardSaid : Prop := Claim7.holds Tryz.pinned (.plain (OpenSpec.upto nameArgsSpec)) nameArgsUptoCard
end Rows
end Go.Proofs.YtnomdhnomggbfabGreatDoor
