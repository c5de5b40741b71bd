/-
  DERIVED. GIVEN WITH THE SEED: THE CARDS: each row of YtjamknejllbmkaaGreatDoorRows.lean that lists a variable, with what it lists TIED to the program's text (the seventh form; the later family's looks); each row that meets fmt, with fmt's text TOLD by the authors' own Lean function (tested against real Go, not proved from fmt's source: count such statements apart). THE CARD IS WHAT COUNTS. Prove the row's statement (the work); the ties are given (YtjamknejllbmkaaGreatDoorTie.lean); close each card by the builder's one call (the guide's Derived/Test/ToyasCard.lean, 'card_holds'). Laid BY PROGRAM, IN A SANDBOX (cutbox-door.mjs). By AI agents, Wed Nov 11 2026. No macro, syntax, notation, axiom, sorry.
-/
import Derived.Test.YtjamknejllbmkaaGreatDoorRows
import GoSem.ClaimSeven
namespace Go.Proofs.YtjamknejllbmkaaGreatDoor
namespace Rows

/-- THE TIED CARD OF 'sleuthlaw9.NameTable'. -/
def nameTableCard : Claim7 := { stood := { row := nameTableRow, standIns := [], harness := (true, "da675724013ec51dc3c3e67e358941a3b08edf4c35c42c3a1f43fe224047a1f5"), looks := true }, kinds := [], alts := [], laidByText := true, laidKinds := [.data, .data, .data, .sentinel, .sentinel], laidTests := true, laidLooks := .later }
def NameTableCardSaid : Prop := Claim7.holds Tryz.pinned (.plain (OpenSpec.ofChange nameTableSpec)) nameTableCard

/-- THE TIED CARD OF 'sleuthlaw9.NameEndless'. -/
def nameEndlessCard : Claim7 := { stood := { row := nameEndlessRow, standIns := [], harness := (true, "da675724013ec51dc3c3e67e358941a3b08edf4c35c42c3a1f43fe224047a1f5"), looks := true }, kinds := [], alts := [], laidByText := true, laidKinds := [.data, .data, .data, .sentinel, .sentinel], laidTests := true, laidLooks := .later }
def NameEndlessCardSaid : Prop := Claim7.holds Tryz.pinned (.plain (OpenSpec.ofChange nameEndlessSpec)) nameEndlessCard

/-- THE TIED CARD OF 'sleuthlaw9.NameMore'. -/
def nameMoreCard : Claim7 := { stood := { row := nameMoreRow, standIns := [], harness := (true, "da675724013ec51dc3c3e67e358941a3b08edf4c35c42c3a1f43fe224047a1f5"), looks := true }, kinds := [], alts := [], laidByText := true, laidKinds := [.data, .data, .data, .sentinel, .sentinel], laidTests := true, laidLooks := .later }
def NameMoreCardSaid : Prop := Claim7.holds Tryz.pinned (.plain (OpenSpec.ofChange nameMoreSpec)) nameMoreCard

/-- THE TIED CARD OF 'sleuthlaw9.NameSteps'. -/
def nameStepsCard : Claim7 := { stood := { row := nameStepsRow, standIns := [], harness := (true, "da675724013ec51dc3c3e67e358941a3b08edf4c35c42c3a1f43fe224047a1f5"), looks := true }, kinds := [], alts := [], laidByText := true, laidKinds := [.data, .data, .data, .sentinel, .sentinel], laidTests := true, laidLooks := .later }
def NameStepsCardSaid : Prop := Claim7.holds Tryz.pinned (.plain (OpenSpec.ofChange nameStepsSpec)) nameStepsCard

/-- THE SECOND FORM's CARD OF 'sleuthlaw9.NameTable'. -/
def nameTableUptoCard : Claim7 := { stood := { row := nameTableUptoRow, standIns := [], harness := (true, "da675724013ec51dc3c3e67e358941a3b08edf4c35c42c3a1f43fe224047a1f5"), looks := true }, kinds := [], alts := [], laidByText := true, laidKinds := [.data, .data, .data, .sentinel, .sentinel], laidTests := true, laidLooks := .later }
def NameTableUptoCardSaid : Prop := Claim7.holds Tryz.pinned (.plain (OpenSpec.upto nameTableSpec)) nameTableUptoCard

/-- THE SECOND FORM's CARD OF 'sleuthlaw9.NameEndless'. -/
def nameEndlessUptoCard : Claim7 := { stood := { row := nameEndlessUptoRow, standIns := [], harness := (true, "da675724013ec51dc3c3e67e358941a3b08edf4c35c42c3a1f43fe224047a1f5"), looks := true }, kinds := [], alts := [], laidByText := true, laidKinds := [.data, .data, .data, .sentinel, .sentinel], laidTests := true, laidLooks := .later }
def NameEndlessUptoCardSaid : Prop := Claim7.holds Tryz.pinned (.plain (OpenSpec.upto nameEndlessSpec)) nameEndlessUptoCard

/-- THE SECOND FORM's CARD OF 'sleuthlaw9.NameMore'. -/
def nameMoreUptoCard : Claim7 := { stood := { row := nameMoreUptoRow, standIns := [], harness := (true, "da675724013ec51dc3c3e67e358941a3b08edf4c35c42c3a1f43fe224047a1f5"), looks := true }, kinds := [], alts := [], laidByText := true, laidKinds := [.data, .data, .data, .sentinel, .sentinel], laidTests := true, laidLooks := .later }
def NameMoreUptoCardSaid : Prop := Claim7.holds Tryz.pinned (.plain (OpenSpec.upto nameMoreSpec)) nameMoreUptoCard

/-- THE SECOND FORM's CARD OF 'sleuthlaw9.NameSteps'. -/
def nameStepsUptoCard : Claim7 := { stood := { row := nameStepsUptoRow, standIns := [], harness := (true, "da675724013ec51dc3c3e67e358941a3b08edf4c35c42c3a1f43fe224047a1f5"), looks := true }, kinds := [], alts := [], laidByText := true, laidKinds := [.data, .data, .data, .sentinel, .sentinel], laidTests := true, laidLooks := .later }
def NameStepsUptoCardSaid : Prop := Claim7.holds Tryz.pinned (.plain (OpenSpec.upto nameStepsSpec)) nameStepsUptoCard
end Rows
end Go.Proofs.YtjamknejllbmkaaGreatDoor
