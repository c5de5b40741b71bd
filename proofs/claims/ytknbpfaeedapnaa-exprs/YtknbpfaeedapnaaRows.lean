/-
  No cell of these rows narrows 'for every input' (looked for: loops, veiled, ifaces, maps, wideKeys, modest, calm, conditions, laid).
  DERIVED. THE GIVEN ROWS OF THIS SEAT. 5 by the template 'for every input the law returns true; each argument reads behind the call as it read before'; 0 by the template 'total and deterministic' (their statements: YtknbpfaeedapnaaTotals.lean).
  GIVEN WITH THE SEED: the statements are not yours to turn. If you find one false, say at which input.
  Laid BY PROGRAM, IN A SANDBOX (cutbox-rows.mjs): the forced cells as the released guide's own fill.sh prints them over the translation bf41b4b001c8bc78… (all of the seat's roots in one cut). By AI agents, Wed Nov 11 2026. No macro, syntax, notation, axiom, sorry.
-/
import Derived.Test.YtknbpfaeedapnaaChecked
import GoSem.Claim
import GoSem.ClaimJoined
import GoSem.ClaimMapViews
import Derived.JoinedTies
import Derived.KernelRfl
namespace Go.Proofs.Ytknbpfaeedapnaa
/- THE CELL 'sum', in the pinned program and in every row, IS THE sha256 OF THE DUMP (.gsa) THAT YtknbpfaeedapnaaProg.lean LOADS. Nothing in Lean hashes anything: it is a label: what it is worth is what the hold of that sum in a sandbox is worth. -/
noncomputable def Try.pinned : Pinned := { name := "ytknbpfaeedapnaa", sum := "bf41b4b001c8bc781e8aa67c95b33910915aef0593ede1358985534a0796c929", checked := Try.checked }
namespace Rows
def none {H : Type} : Left H := { results := [], args := [] }

/-- 'sleuthlaw5.Exprs': WHATEVER THE INPUT: true; the input reads as it did. -/
def exprsSpec : ChangeSpec := { name := "exprs", fn := fun _ => fun
  | [d] => { results := [.lit (.bool true)], args := [d] }
  | _ => none }
def exprsRow : OpenClaim := { program := "ytknbpfaeedapnaa", sum := "bf41b4b001c8bc781e8aa67c95b33910915aef0593ede1358985534a0796c929", func := "sleuth/sleuthlaw5.Exprs", spec := "exprs", unfollowed := true, recurses := true, apart := false }
def ExprsSaid : Prop := exprsRow.holds Try.pinned (OpenSpec.ofChange exprsSpec)

/-- ITS FALSE NEIGHBOUR: 'it returns false'. Refute it at one input. -/
def exprsWrong : ChangeSpec := { name := "exprs", fn := fun _ => fun
  | [d] => { results := [.lit (.bool false)], args := [d] }
  | _ => none }
def ExprsWrongFalsely : Prop := exprsRow.holds Try.pinned (OpenSpec.ofChange exprsWrong)

/-- 'sleuthlaw5.ExprForms': WHATEVER THE INPUT: true; the input reads as it did. -/
def exprFormsSpec : ChangeSpec := { name := "exprForms", fn := fun _ => fun
  | [d1, d2] => { results := [.lit (.bool true)], args := [d1, d2] }
  | _ => none }
def exprFormsRow : OpenClaim := { program := "ytknbpfaeedapnaa", sum := "bf41b4b001c8bc781e8aa67c95b33910915aef0593ede1358985534a0796c929", func := "sleuth/sleuthlaw5.ExprForms", spec := "exprForms", unfollowed := true, recurses := true, apart := false }
def ExprFormsSaid : Prop := exprFormsRow.holds Try.pinned (OpenSpec.ofChange exprFormsSpec)

/-- ITS FALSE NEIGHBOUR: 'it returns false'. Refute it at one input. -/
def exprFormsWrong : ChangeSpec := { name := "exprForms", fn := fun _ => fun
  | [d1, d2] => { results := [.lit (.bool false)], args := [d1, d2] }
  | _ => none }
def ExprFormsWrongFalsely : Prop := exprFormsRow.holds Try.pinned (OpenSpec.ofChange exprFormsWrong)

/-- 'sleuthlaw5.ExprLevels': WHATEVER THE INPUT: true; the input reads as it did. -/
def exprLevelsSpec : ChangeSpec := { name := "exprLevels", fn := fun _ => fun
  | [d1, d2, d3] => { results := [.lit (.bool true)], args := [d1, d2, d3] }
  | _ => none }
def exprLevelsRow : OpenClaim := { program := "ytknbpfaeedapnaa", sum := "bf41b4b001c8bc781e8aa67c95b33910915aef0593ede1358985534a0796c929", func := "sleuth/sleuthlaw5.ExprLevels", spec := "exprLevels", unfollowed := true, recurses := true, apart := false }
def ExprLevelsSaid : Prop := exprLevelsRow.holds Try.pinned (OpenSpec.ofChange exprLevelsSpec)

/-- ITS FALSE NEIGHBOUR: 'it returns false'. Refute it at one input. -/
def exprLevelsWrong : ChangeSpec := { name := "exprLevels", fn := fun _ => fun
  | [d1, d2, d3] => { results := [.lit (.bool false)], args := [d1, d2, d3] }
  | _ => none }
def ExprLevelsWrongFalsely : Prop := exprLevelsRow.holds Try.pinned (OpenSpec.ofChange exprLevelsWrong)

/-- 'sleuthlaw5.ExprSizes': WHATEVER THE INPUT: true; the input reads as it did. -/
def exprSizesSpec : ChangeSpec := { name := "exprSizes", fn := fun _ => fun
  | [d] => { results := [.lit (.bool true)], args := [d] }
  | _ => none }
def exprSizesRow : OpenClaim := { program := "ytknbpfaeedapnaa", sum := "bf41b4b001c8bc781e8aa67c95b33910915aef0593ede1358985534a0796c929", func := "sleuth/sleuthlaw5.ExprSizes", spec := "exprSizes", unfollowed := true, recurses := true, apart := false }
def ExprSizesSaid : Prop := exprSizesRow.holds Try.pinned (OpenSpec.ofChange exprSizesSpec)

/-- ITS FALSE NEIGHBOUR: 'it returns false'. Refute it at one input. -/
def exprSizesWrong : ChangeSpec := { name := "exprSizes", fn := fun _ => fun
  | [d] => { results := [.lit (.bool false)], args := [d] }
  | _ => none }
def ExprSizesWrongFalsely : Prop := exprSizesRow.holds Try.pinned (OpenSpec.ofChange exprSizesWrong)

/-- 'sleuthlaw5.ExprParams': WHATEVER THE INPUT: true; the input reads as it did. -/
def exprParamsSpec : ChangeSpec := { name := "exprParams", fn := fun _ => fun
  | [d] => { results := [.lit (.bool true)], args := [d] }
  | _ => none }
def exprParamsRow : OpenClaim := { program := "ytknbpfaeedapnaa", sum := "bf41b4b001c8bc781e8aa67c95b33910915aef0593ede1358985534a0796c929", func := "sleuth/sleuthlaw5.ExprParams", spec := "exprParams", unfollowed := true, recurses := true, apart := false }
def ExprParamsSaid : Prop := exprParamsRow.holds Try.pinned (OpenSpec.ofChange exprParamsSpec)

/-- ITS FALSE NEIGHBOUR: 'it returns false'. Refute it at one input. -/
def exprParamsWrong : ChangeSpec := { name := "exprParams", fn := fun _ => fun
  | [d] => { results := [.lit (.bool false)], args := [d] }
  | _ => none }
def ExprParamsWrongFalsely : Prop := exprParamsRow.holds Try.pinned (OpenSpec.ofChange exprParamsWrong)

/- THE SECOND FORM. 'bulk': how many values and letters a reading holds, each counted each time it is reached (what is shared counts as often as it is met; a slice's spare places count too). A statement '..UptoSaid' is the law's where the arguments, and the package variables that the reading takes, are together of bulk at most 1048576: NARROWER than '..Said'. Prove '..Said' where nothing that the law and all that it calls make is longer than what came in: it says more and counts as full. Else prove '..UptoSaid'. A law counts once. -/
mutual
def uptoBulk {H : Type} : DataW H → Nat
  | .lit (.string bytes) => bytes.length + 1
  | .lit _ => 1
  | .nil => 1
  | .ptr d => uptoBulk d + 1
  | .slice elems spare => uptoBulkAll elems + uptoBulkAll spare + 1
  | .agg parts => uptoBulkAll parts + 1
  | .iface _ d => uptoBulk d + 1
  | .map entries => uptoBulkEntries entries + 1
  | .held _ => 1
def uptoBulkAll {H : Type} : List (DataW H) → Nat
  | [] => 0
  | d :: r => uptoBulk d + uptoBulkAll r
def uptoBulkEntries {H : Type} : List (Lit × DataW H) → Nat
  | [] => 0
  | x :: r => uptoBulkEntry x + uptoBulkEntries r
def uptoBulkEntry {H : Type} : Lit × DataW H → Nat
  | (.string bytes, d) => bytes.length + uptoBulk d + 1
  | (_, d) => uptoBulk d + 1
 end
def uptoSmall : (H : Type) → List (DataW H) → Bool := fun _ ds => decide (uptoBulkAll ds ≤ 1048576)
def OpenSpec.upto (s : _root_.Go.ChangeSpec) : _root_.Go.OpenSpec := { _root_.Go.OpenSpec.ofChange s with cond := some uptoSmall }

/-- 'sleuthlaw5.Exprs', WHERE WHAT IT READS IS OF BULK AT MOST 1048576: true; the input reads as it did. -/
def exprsUptoRow : OpenClaim := { program := "ytknbpfaeedapnaa", sum := "bf41b4b001c8bc781e8aa67c95b33910915aef0593ede1358985534a0796c929", func := "sleuth/sleuthlaw5.Exprs", spec := "exprs", unfollowed := true, recurses := true, apart := false, narrowed := true }
def ExprsUptoSaid : Prop := exprsUptoRow.holds Try.pinned (OpenSpec.upto exprsSpec)

/-- 'sleuthlaw5.ExprForms', WHERE WHAT IT READS IS OF BULK AT MOST 1048576: true; the input reads as it did. -/
def exprFormsUptoRow : OpenClaim := { program := "ytknbpfaeedapnaa", sum := "bf41b4b001c8bc781e8aa67c95b33910915aef0593ede1358985534a0796c929", func := "sleuth/sleuthlaw5.ExprForms", spec := "exprForms", unfollowed := true, recurses := true, apart := false, narrowed := true }
def ExprFormsUptoSaid : Prop := exprFormsUptoRow.holds Try.pinned (OpenSpec.upto exprFormsSpec)

/-- 'sleuthlaw5.ExprLevels', WHERE WHAT IT READS IS OF BULK AT MOST 1048576: true; the input reads as it did. -/
def exprLevelsUptoRow : OpenClaim := { program := "ytknbpfaeedapnaa", sum := "bf41b4b001c8bc781e8aa67c95b33910915aef0593ede1358985534a0796c929", func := "sleuth/sleuthlaw5.ExprLevels", spec := "exprLevels", unfollowed := true, recurses := true, apart := false, narrowed := true }
def ExprLevelsUptoSaid : Prop := exprLevelsUptoRow.holds Try.pinned (OpenSpec.upto exprLevelsSpec)

/-- 'sleuthlaw5.ExprSizes', WHERE WHAT IT READS IS OF BULK AT MOST 1048576: true; the input reads as it did. -/
def exprSizesUptoRow : OpenClaim := { program := "ytknbpfaeedapnaa", sum := "bf41b4b001c8bc781e8aa67c95b33910915aef0593ede1358985534a0796c929", func := "sleuth/sleuthlaw5.ExprSizes", spec := "exprSizes", unfollowed := true, recurses := true, apart := false, narrowed := true }
def ExprSizesUptoSaid : Prop := exprSizesUptoRow.holds Try.pinned (OpenSpec.upto exprSizesSpec)

/-- 'sleuthlaw5.ExprParams', WHERE WHAT IT READS IS OF BULK AT MOST 1048576: true; the input reads as it did. -/
def exprParamsUptoRow : OpenClaim := { program := "ytknbpfaeedapnaa", sum := "bf41b4b001c8bc781e8aa67c95b33910915aef0593ede1358985534a0796c929", func := "sleuth/sleuthlaw5.ExprParams", spec := "exprParams", unfollowed := true, recurses := true, apart := false, narrowed := true }
def ExprParamsUptoSaid : Prop := exprParamsUptoRow.holds Try.pinned (OpenSpec.upto exprParamsSpec)

end Rows
end Go.Proofs.Ytknbpfaeedapnaa
