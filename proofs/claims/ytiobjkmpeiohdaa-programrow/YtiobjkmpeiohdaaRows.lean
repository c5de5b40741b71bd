/-
  No cell of these rows narrows 'for every input' (looked for: loops, veiled, ifaces, maps, wideKeys, modest, calm, conditions, laid).
  DERIVED. THE GIVEN ROWS OF THIS SEAT. 4 by the template 'for every input the law returns true; each argument reads behind the call as it read before'; 0 by the template 'total and deterministic' (their statements: YtiobjkmpeiohdaaTotals.lean).
  GIVEN WITH THE SEED: the statements are not yours to turn. If you find one false, say at which input.
  Laid BY PROGRAM, IN A SANDBOX (cutbox-rows.mjs): the forced cells as the released guide's own fill.sh prints them over the translation 55241c60f41925c2… (all of the seat's roots in one cut). By AI agents, Wed Nov 11 2026. No macro, syntax, notation, axiom, sorry.
-/
import Derived.Test.YtiobjkmpeiohdaaChecked
import GoSem.Claim
import GoSem.ClaimJoined
import GoSem.ClaimMapViews
import Derived.JoinedTies
import Derived.KernelRfl
namespace Go.Proofs.Ytiobjkmpeiohdaa
/- THE CELL 'sum', in the pinned program and in every row, IS THE sha256 OF THE DUMP (.gsa) THAT YtiobjkmpeiohdaaProg.lean LOADS. Nothing in Lean hashes anything: it is a label: what it is worth is what the hold of that sum in a sandbox is worth. -/
noncomputable def Try.pinned : Pinned := { name := "ytiobjkmpeiohdaa", sum := "55241c60f41925c24c9abc44d7f8830bd9c66f254dfa65403e3b15d2215efb50", checked := Try.checked }
namespace Rows
def none {H : Type} : Left H := { results := [], args := [] }

/-- 'sleuthlaw6.Programs': WHATEVER THE INPUT: true; the input reads as it did. -/
def programsSpec : ChangeSpec := { name := "programs", fn := fun _ => fun
  | [d] => { results := [.lit (.bool true)], args := [d] }
  | _ => none }
def programsRow : OpenClaim := { program := "ytiobjkmpeiohdaa", sum := "55241c60f41925c24c9abc44d7f8830bd9c66f254dfa65403e3b15d2215efb50", func := "sleuth/sleuthlaw6.Programs", spec := "programs", unfollowed := true, recurses := true, apart := false }
def ProgramsSaid : Prop := programsRow.holds Try.pinned (OpenSpec.ofChange programsSpec)

/-- ITS FALSE NEIGHBOUR: 'it returns false'. Refute it at one input. -/
def programsWrong : ChangeSpec := { name := "programs", fn := fun _ => fun
  | [d] => { results := [.lit (.bool false)], args := [d] }
  | _ => none }
def ProgramsWrongFalsely : Prop := programsRow.holds Try.pinned (OpenSpec.ofChange programsWrong)

/-- 'sleuthlaw6.ProgramForms': WHATEVER THE INPUT: true; the input reads as it did. -/
def programFormsSpec : ChangeSpec := { name := "programForms", fn := fun _ => fun
  | [d1, d2] => { results := [.lit (.bool true)], args := [d1, d2] }
  | _ => none }
def programFormsRow : OpenClaim := { program := "ytiobjkmpeiohdaa", sum := "55241c60f41925c24c9abc44d7f8830bd9c66f254dfa65403e3b15d2215efb50", func := "sleuth/sleuthlaw6.ProgramForms", spec := "programForms", unfollowed := true, recurses := true, apart := false }
def ProgramFormsSaid : Prop := programFormsRow.holds Try.pinned (OpenSpec.ofChange programFormsSpec)

/-- ITS FALSE NEIGHBOUR: 'it returns false'. Refute it at one input. -/
def programFormsWrong : ChangeSpec := { name := "programForms", fn := fun _ => fun
  | [d1, d2] => { results := [.lit (.bool false)], args := [d1, d2] }
  | _ => none }
def ProgramFormsWrongFalsely : Prop := programFormsRow.holds Try.pinned (OpenSpec.ofChange programFormsWrong)

/-- 'sleuthlaw6.ProgramMore': WHATEVER THE INPUT: true; the input reads as it did. -/
def programMoreSpec : ChangeSpec := { name := "programMore", fn := fun _ => fun
  | [d1, d2] => { results := [.lit (.bool true)], args := [d1, d2] }
  | _ => none }
def programMoreRow : OpenClaim := { program := "ytiobjkmpeiohdaa", sum := "55241c60f41925c24c9abc44d7f8830bd9c66f254dfa65403e3b15d2215efb50", func := "sleuth/sleuthlaw6.ProgramMore", spec := "programMore", unfollowed := true, recurses := true, apart := false }
def ProgramMoreSaid : Prop := programMoreRow.holds Try.pinned (OpenSpec.ofChange programMoreSpec)

/-- ITS FALSE NEIGHBOUR: 'it returns false'. Refute it at one input. -/
def programMoreWrong : ChangeSpec := { name := "programMore", fn := fun _ => fun
  | [d1, d2] => { results := [.lit (.bool false)], args := [d1, d2] }
  | _ => none }
def ProgramMoreWrongFalsely : Prop := programMoreRow.holds Try.pinned (OpenSpec.ofChange programMoreWrong)

/-- 'sleuthlaw6.ProgramRow': WHATEVER THE INPUT: true; the input reads as it did. -/
def programRowSpec : ChangeSpec := { name := "programRow", fn := fun _ => fun
  | [d1, d2, d3] => { results := [.lit (.bool true)], args := [d1, d2, d3] }
  | _ => none }
def programRowRow : OpenClaim := { program := "ytiobjkmpeiohdaa", sum := "55241c60f41925c24c9abc44d7f8830bd9c66f254dfa65403e3b15d2215efb50", func := "sleuth/sleuthlaw6.ProgramRow", spec := "programRow", unfollowed := true, recurses := true, apart := false }
def ProgramRowSaid : Prop := programRowRow.holds Try.pinned (OpenSpec.ofChange programRowSpec)

/-- ITS FALSE NEIGHBOUR: 'it returns false'. Refute it at one input. -/
def programRowWrong : ChangeSpec := { name := "programRow", fn := fun _ => fun
  | [d1, d2, d3] => { results := [.lit (.bool false)], args := [d1, d2, d3] }
  | _ => none }
def ProgramRowWrongFalsely : Prop := programRowRow.holds Try.pinned (OpenSpec.ofChange programRowWrong)

/- THE SECOND FORM. 'bulk': how many values and letters a reading holds, each counted each time it is reached (what is shared counts as often as it is met; a slice's spare places count too). A statement '..UptoSaid' is the law's where the arguments, and the package variables that the reading takes, are together of bulk at most 1048576: NARROWER than '..Said'. Prove '..Said' where nothing that the law and all that it calls make is longer than what came in: it says more and counts as full. Else prove '..UptoSaid'. A law counts once. -/
mutual
def uptoBulk {H : Type} : DataW H → Nat
  | .lit (.string bytes) => bytes.length + 1
  | .lit _ => 1
  | .nil => 1
  | .ptr d => uptoBulk d + 1
  | .slice elems spare => uptoBulkAll elems + uptoBulkAll spare + 1
  | .agg parts => uptoBulkAll parts + 1
  | .iface _ d => uptoBulk d + 1
  | .map entries => uptoBulkEntries entries + 1
  | .held _ => 1
def uptoBulkAll {H : Type} : List (DataW H) → Nat
  | [] => 0
  | d :: r => uptoBulk d + uptoBulkAll r
def uptoBulkEntries {H : Type} : List (Lit × DataW H) → Nat
  | [] => 0
  | x :: r => uptoBulkEntry x + uptoBulkEntries r
def uptoBulkEntry {H : Type} : Lit × DataW H → Nat
  | (.string bytes, d) => bytes.length + uptoBulk d + 1
  | (_, d) => uptoBulk d + 1
 end
def uptoSmall : (H : Type) → List (DataW H) → Bool := fun _ ds => decide (uptoBulkAll ds ≤ 1048576)
def OpenSpec.upto (s : _root_.Go.ChangeSpec) : _root_.Go.OpenSpec := { _root_.Go.OpenSpec.ofChange s with cond := some uptoSmall }

/-- 'sleuthlaw6.Programs', WHERE WHAT IT READS IS OF BULK AT MOST 1048576: true; the input reads as it did. -/
def programsUptoRow : OpenClaim := { program := "ytiobjkmpeiohdaa", sum := "55241c60f41925c24c9abc44d7f8830bd9c66f254dfa65403e3b15d2215efb50", func := "sleuth/sleuthlaw6.Programs", spec := "programs", unfollowed := true, recurses := true, apart := false, narrowed := true }
def ProgramsUptoSaid : Prop := programsUptoRow.holds Try.pinned (OpenSpec.upto programsSpec)

/-- 'sleuthlaw6.ProgramForms', WHERE WHAT IT READS IS OF BULK AT MOST 1048576: true; the input reads as it did. -/
def programFormsUptoRow : OpenClaim := { program := "ytiobjkmpeiohdaa", sum := "55241c60f41925c24c9abc44d7f8830bd9c66f254dfa65403e3b15d2215efb50", func := "sleuth/sleuthlaw6.ProgramForms", spec := "programForms", unfollowed := true, recurses := true, apart := false, narrowed := true }
def ProgramFormsUptoSaid : Prop := programFormsUptoRow.holds Try.pinned (OpenSpec.upto programFormsSpec)

/-- 'sleuthlaw6.ProgramMore', WHERE WHAT IT READS IS OF BULK AT MOST 1048576: true; the input reads as it did. -/
def programMoreUptoRow : OpenClaim := { program := "ytiobjkmpeiohdaa", sum := "55241c60f41925c24c9abc44d7f8830bd9c66f254dfa65403e3b15d2215efb50", func := "sleuth/sleuthlaw6.ProgramMore", spec := "programMore", unfollowed := true, recurses := true, apart := false, narrowed := true }
def ProgramMoreUptoSaid : Prop := programMoreUptoRow.holds Try.pinned (OpenSpec.upto programMoreSpec)

/-- 'sleuthlaw6.ProgramRow', WHERE WHAT IT READS IS OF BULK AT MOST 1048576: true; the input reads as it did. -/
def programRowUptoRow : OpenClaim := { program := "ytiobjkmpeiohdaa", sum := "55241c60f41925c24c9abc44d7f8830bd9c66f254dfa65403e3b15d2215efb50", func := "sleuth/sleuthlaw6.ProgramRow", spec := "programRow", unfollowed := true, recurses := true, apart := false, narrowed := true }
def ProgramRowUptoSaid : Prop := programRowUptoRow.holds Try.pinned (OpenSpec.upto programRowSpec)

end Rows
end Go.Proofs.Ytiobjkmpeiohdaa
