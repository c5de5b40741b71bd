/-
  DERIVED. GIVEN WITH THE SEED: THE CARDS: each row of YtmcdpnikkmedkaaDoorRows.lean that lists a variable, with what it lists TIED to the program's text (the seventh form; the later family's looks); each row that meets fmt, with fmt's text TOLD by the authors' own Lean function (tested against real Go, not proved from fmt's source: count such statements apart). THE CARD IS WHAT COUNTS. Prove the row's statement (the work); the ties are given (YtmcdpnikkmedkaaDoorTie.lean); close each card by the builder's one call (the guide's Derived/Test/ToyasCard.lean, 'card_holds'). Laid BY PROGRAM, IN A SANDBOX (cutbox-door.mjs). By AI agents, Wed Nov 11 2026. No macro, syntax, notation, axiom, sorry.
-/
import Derived.Test.YtmcdpnikkmedkaaDoorRows
import GoSem.ClaimSeven
namespace Go.Proofs.YtmcdpnikkmedkaaDoor
namespace Rows

/-- THE TIED CARD OF 'sleuthlaw10.HoldForms'. -/
def holdFormsCard : Claim7 := { stood := { row := holdFormsRow, standIns := [], harness := (true, "66fb08bf2a4317f8df6b3b753a8983cd21e4815b22a8bf2b35154d1fca06e0a3"), looks := true }, kinds := [], alts := [], laidByText := true, laidKinds := [.data, .data, .data, .sentinel, .sentinel], laidTests := true, laidLooks := .later }
def HoldFormsCardSaid : Prop := Claim7.holds Tryd.pinned (.plain (OpenSpec.ofChange holdFormsSpec)) holdFormsCard

/-- THE TIED CARD OF 'sleuthlaw10.HoldBelow'. -/
def holdBelowCard : Claim7 := { stood := { row := holdBelowRow, standIns := [], harness := (true, "66fb08bf2a4317f8df6b3b753a8983cd21e4815b22a8bf2b35154d1fca06e0a3"), looks := true }, kinds := [], alts := [], laidByText := true, laidKinds := [.data, .data, .data, .sentinel, .sentinel], laidTests := true, laidLooks := .later }
def HoldBelowCardSaid : Prop := Claim7.holds Tryd.pinned (.plain (OpenSpec.ofChange holdBelowSpec)) holdBelowCard

/-- THE TIED CARD OF 'sleuthlaw10.HoldTable'. -/
def holdTableCard : Claim7 := { stood := { row := holdTableRow, standIns := [], harness := (true, "66fb08bf2a4317f8df6b3b753a8983cd21e4815b22a8bf2b35154d1fca06e0a3"), looks := true }, kinds := [], alts := [], laidByText := true, laidKinds := [.data, .data, .data, .sentinel, .sentinel], laidTests := true, laidLooks := .later }
def HoldTableCardSaid : Prop := Claim7.holds Tryd.pinned (.plain (OpenSpec.ofChange holdTableSpec)) holdTableCard

/-- THE TIED CARD OF 'sleuthlaw10.HoldParent'. -/
def holdParentCard : Claim7 := { stood := { row := holdParentRow, standIns := [], harness := (true, "66fb08bf2a4317f8df6b3b753a8983cd21e4815b22a8bf2b35154d1fca06e0a3"), looks := true }, kinds := [], alts := [], laidByText := true, laidKinds := [.data, .data, .data, .sentinel, .sentinel], laidTests := true, laidLooks := .later }
def HoldParentCardSaid : Prop := Claim7.holds Tryd.pinned (.plain (OpenSpec.ofChange holdParentSpec)) holdParentCard

/-- THE TIED CARD OF 'sleuthlaw9.NameForms'. -/
def nameFormsCard : Claim7 := { stood := { row := nameFormsRow, standIns := [], harness := (true, "66fb08bf2a4317f8df6b3b753a8983cd21e4815b22a8bf2b35154d1fca06e0a3"), looks := true }, kinds := [], alts := [], laidByText := true, laidKinds := [.data, .data, .data, .sentinel, .sentinel], laidTests := true, laidLooks := .later }
def NameFormsCardSaid : Prop := Claim7.holds Tryd.pinned (.plain (OpenSpec.ofChange nameFormsSpec)) nameFormsCard

/-- THE SECOND FORM's CARD OF 'sleuthlaw10.HoldForms'. -/
def holdFormsUptoCard : Claim7 := { stood := { row := holdFormsUptoRow, standIns := [], harness := (true, "66fb08bf2a4317f8df6b3b753a8983cd21e4815b22a8bf2b35154d1fca06e0a3"), looks := true }, kinds := [], alts := [], laidByText := true, laidKinds := [.data, .data, .data, .sentinel, .sentinel], laidTests := true, laidLooks := .later }
def HoldFormsUptoCardSaid : Prop := Claim7.holds Tryd.pinned (.plain (OpenSpec.upto holdFormsSpec)) holdFormsUptoCard

/-- THE SECOND FORM's CARD OF 'sleuthlaw10.HoldBelow'. -/
def holdBelowUptoCard : Claim7 := { stood := { row := holdBelowUptoRow, standIns := [], harness := (true, "66fb08bf2a4317f8df6b3b753a8983cd21e4815b22a8bf2b35154d1fca06e0a3"), looks := true }, kinds := [], alts := [], laidByText := true, laidKinds := [.data, .data, .data, .sentinel, .sentinel], laidTests := true, laidLooks := .later }
def HoldBelowUptoCardSaid : Prop := Claim7.holds Tryd.pinned (.plain (OpenSpec.upto holdBelowSpec)) holdBelowUptoCard

/-- THE SECOND FORM's CARD OF 'sleuthlaw10.HoldTable'. -/
def holdTableUptoCard : Claim7 := { stood := { row := holdTableUptoRow, standIns := [], harness := (true, "66fb08bf2a4317f8df6b3b753a8983cd21e4815b22a8bf2b35154d1fca06e0a3"), looks := true }, kinds := [], alts := [], laidByText := true, laidKinds := [.data, .data, .data, .sentinel, .sentinel], laidTests := true, laidLooks := .later }
def HoldTableUptoCardSaid : Prop := Claim7.holds Tryd.pinned (.plain (OpenSpec.upto holdTableSpec)) holdTableUptoCard

/-- THE SECOND FORM's CARD OF 'sleuthlaw10.HoldParent'. -/
def holdParentUptoCard : Claim7 := { stood := { row := holdParentUptoRow, standIns := [], harness := (true, "66fb08bf2a4317f8df6b3b753a8983cd21e4815b22a8bf2b35154d1fca06e0a3"), looks := true }, kinds := [], alts := [], laidByText := true, laidKinds := [.data, .data, .data, .sentinel, .sentinel], laidTests := true, laidLooks := .later }
def HoldParentUptoCardSaid : Prop := Claim7.holds Tryd.pinned (.plain (OpenSpec.upto holdParentSpec)) holdParentUptoCard

/-- THE SECOND FORM's CARD OF 'sleuthlaw9.NameForms'. -/
def nameFormsUptoCard : Claim7 := { stood := { row := nameFormsUptoRow, standIns := [], harness := (true, "66fb08bf2a4317f8df6b3b753a8983cd21e4815b22a8bf2b35154d1fca06e0a3"), looks := true }, kinds := [], alts := [], laidByText := true, laidKinds := [.data, .data, .data, .sentinel, .sentinel], laidTests := true, laidLooks := .later }
def NameFormsUptoCardSaid : Prop := Claim7.holds Tryd.pinned (.plain (OpenSpec.upto nameFormsSpec)) nameFormsUptoCard
end Rows
end Go.Proofs.YtmcdpnikkmedkaaDoor
