/- The contracts of the laws' CopyTexts, LendTexts, SpoilTexts and KeptTexts. -/
import Derived.Test.YtcjpepbajcdenaaDoorRMake
namespace Go.Proofs.YtcjpepbajcdenaaDoor
open Go.RowKit
set_option linter.unusedVariables false

theorem strs_one (xs : List ByteArray) : ∀ u ∈ xs.map Value.string, u.oneCell' = true := by
  intro u hu
  obtain ⟨b, _, rfl⟩ := List.mem_map.1 hu
  rfl
theorem own_none (W : World) (B : Nat) (hB : B ≤ W.heap.size) : (W.alloc (.cells #[] 9)).ownsRow B 9 1 (.slice (some ⟨W.heap.size, 0, none⟩) 0 0) 0 [] :=
  World.ownsRow_lit W #[] 0 hB (Nat.zero_le _) rfl

/-- How a slice of texts comes in. -/
def Inc (w : World) (g : Option Addr) (xs : List ByteArray) (c : Nat) : Prop :=
  (g = none ∧ xs = [] ∧ c = 0) ∨ (xs = [] ∧ ∃ a, g = some a) ∨ ∃ bk o, g = some ⟨bk, o, none⟩ ∧ bk < w.heap.size ∧ ∀ (j : Nat) x, xs[j]? = some x → w.cell? ⟨bk, o + j, none⟩ = some (.string x)
theorem Inc.txts {w : World} {g : Option Addr} {xs : List ByteArray} {c : Nat} (h : Inc w g xs c) : Txts w g xs := by
  rcases h with ⟨_, e, _⟩ | ⟨e, _⟩ | h
  · exact Or.inl e
  · exact Or.inl e
  · exact Or.inr h
/-- The marks behind lent texts. -/
def room : ByteArray := ⟨#[126, 114, 111, 111, 109]⟩
def behnd : ByteArray := ⟨#[126, 98, 101, 104, 105, 110, 100]⟩
/-- Lent texts, with marked room behind. -/
def Lent (w : World) (B gb cap : Nat) (xs : List ByteArray) : Prop :=
  xs.length + 2 ≤ cap ∧ cap ≤ maxLen ∧ B ≤ gb ∧ gb < w.heap.size ∧ ∀ (j : Nat) x, (xs ++ [room, behnd])[j]? = some x → w.cell? ⟨gb, j, none⟩ = some (.string x)
theorem Lent.on {w w' : World} {B gb cap : Nat} {xs : List ByteArray} (h : Lent w B gb cap xs) (hb : Below w.heap.size w w') : Lent w' B gb cap xs := by
  obtain ⟨h1, h2, h3, h4, h5⟩ := h
  exact ⟨h1, h2, h3, Nat.lt_of_lt_of_le h4 hb.size, fun j x hx => by rw [hb.cell (p := ⟨gb, j, none⟩) h4]; exact h5 j x hx⟩
theorem Lent.txts {w : World} {B gb cap : Nat} {xs : List ByteArray} (h : Lent w B gb cap xs) : Txts w (some ⟨gb, 0, none⟩) xs := by
  obtain ⟨_, _, _, h4, h5⟩ := h
  refine Or.inr ⟨gb, 0, rfl, h4, fun j x hx => ?_⟩
  rw [Nat.zero_add]
  exact h5 j x (by rw [List.getElem?_append_left (List.getElem?_eq_some_iff.1 hx).1]; exact hx)
theorem own_lent {w : World} {B : Nat} {v : Value} {xs : List ByteArray} (h : w.ownsRow B 9 1 v (xs.length + 2) (xs.map Value.string ++ [.string room, .string behnd])) :
    ∃ gb cap, v = .slice (some ⟨gb, 0, none⟩) (xs.length + 2) cap ∧ Lent w B gb cap xs := by
  have hown := h
  rcases h.2 with ⟨_, h0⟩ | ⟨g, cap, cur, hv, hB, hg, hnc, hcm, _⟩
  · omega
  · refine ⟨g, cap, hv, hnc, hcm, hB, ?_, fun j x hx => ?_⟩
    · rcases Nat.lt_or_ge g w.heap.size with hlt | hge
      · exact hlt
      · rw [Array.getElem?_eq_none hge] at hg; cases hg
    · subst hv
      have hj : j < xs.length + 2 := by
        have := (List.getElem?_eq_some_iff.1 hx).1
        simpa using this
      rw [hown.cellAt j (by omega)]
      have e : xs.map Value.string ++ [.string room, .string behnd] = (xs ++ [room, behnd]).map Value.string := by simp
      rw [e, List.getElem?_map, hx]; rfl

/-- Some texts, none too long. -/
def Few (ts : List (List UInt8)) : Prop := ∀ t ∈ ts, t.length ≤ 2000
end Go.Proofs.YtcjpepbajcdenaaDoor
