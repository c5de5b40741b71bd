/- The contracts of headOf and mayStandBehind. -/
import Derived.Test.YtcjpepbajcdenaaDoorLib
import Derived.Lib.ItoaLen
namespace Go.Proofs.YtcjpepbajcdenaaDoor
open Go.RowKit
set_option linter.unusedVariables false

/-- What headOf hands back. -/
def GotH (o : Option (List UInt8)) (h : ByteArray) (b : Bool) : Prop := match o with
  | none => b = false
  | some t => b = true ∧ h = ⟨t.toArray⟩

theorem head_zero (num : Int) : head 0 num = if num = 0 then some [95] else none := by unfold head; rw [if_pos rfl]
theorem head_three (num : Int) : head 3 num = if num = 0 then some [33] else none := by unfold head; rw [if_neg (by decide), if_pos rfl]
theorem head_one (num : Int) : head 1 num = if mayB num then some (Lib.itoa num) else none := by unfold head; rw [if_neg (by decide), if_neg (by decide), if_pos rfl]
theorem head_two (num : Int) : head 2 num = if tagB num then some (64 :: Lib.itoa num) else none := by unfold head; rw [if_neg (by decide), if_neg (by decide), if_neg (by decide), if_pos rfl]
theorem head_other {kind : Int} (num : Int) (h0 : kind ≠ 0) (h1 : kind ≠ 1) (h2 : kind ≠ 2) (h3 : kind ≠ 3) : head kind num = none := by
  unfold head; rw [if_neg h0, if_neg h3, if_neg h1, if_neg h2]

/-- How headOf ends. -/
def HeadQ (kind num : Int) (w : World) (e : Ending) (w' : World) : Prop := ∃ h b, e = .returned (.tuple #[.string h, .bool b]) ∧ Below w.heap.size w w' ∧ GotH (head kind num) h b

theorem headQ_mk {kind num : Int} {w w' : World} (h : ByteArray) (b : Bool) (hb : Below w.heap.size w w') (hg : GotH (head kind num) h b) : HeadQ kind num w (.returned (.tuple #[.string h, .bool b])) w' := ⟨h, b, rfl, hb, hg⟩
theorem bytes_add (a b : List UInt8) : (⟨a.toArray⟩ : ByteArray) ++ ⟨b.toArray⟩ = ⟨(a ++ b).toArray⟩ := by
  apply ByteArray.ext
  simp

/-- A slice's texts, wherever it lies. -/
def Txts (w : World) (g : Option Addr) (xs : List ByteArray) : Prop :=
  xs = [] ∨ ∃ bk o, g = some ⟨bk, o, none⟩ ∧ bk < w.heap.size ∧ ∀ (j : Nat) x, xs[j]? = some x → w.cell? ⟨bk, o + j, none⟩ = some (.string x)

theorem Txts.on {w w' : World} {g : Option Addr} {xs : List ByteArray} (h : Txts w g xs) (hb : Below w.heap.size w w') : Txts w' g xs := by
  rcases h with h | ⟨bk, o, h1, h2, h3⟩
  · exact Or.inl h
  · exact Or.inr ⟨bk, o, h1, Nat.lt_of_lt_of_le h2 hb.size, fun j x hx => by rw [hb.cell (p := ⟨bk, o + j, none⟩) h2]; exact h3 j x hx⟩

/-- The texts as lists of bytes. -/
def lst (xs : List ByteArray) : List (List UInt8) := xs.map (·.data.toList)

theorem behind_bad {kind : Int} {kids : List (List UInt8)} (hne : kids ≠ []) (h : kind ≠ 2 ∨ 3 < kids.length) : behind kind kids = false := by
  unfold behind
  rw [List.isEmpty_eq_false_iff.2 hne]
  rcases h with h | h
  · simp [h]
  · have : ¬ kids.length ≤ 3 := by omega
    simp [this]
theorem behind_all {kids : List (List UInt8)} (hne : kids ≠ []) (h : kids.length ≤ 3) : behind 2 kids = kids.all fun s => (whole s).isSome := by
  unfold behind
  rw [List.isEmpty_eq_false_iff.2 hne]
  simp [h]

end Go.Proofs.YtcjpepbajcdenaaDoor
