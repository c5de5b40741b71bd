/- What the ways of ExprForms share. -/
import Derived.Test.YtknbpfaeedapnaaBody
namespace Go.Proofs.Ytknbpfaeedapnaa
open Go.RowKit
set_option linter.unusedVariables false

/-- A part that may not be, whatever the levels: the definition may not be. -/
theorem run_bad : ∀ (pre : List (Nat × Ex)) {x : Nat × Ex} {suf : List (Nat × Ex)} (L : List Int), (∀ t, x.2.ok t = false) → run L (pre ++ x :: suf) = none
  | [], x, suf, L, h => by
    rw [List.nil_append, run]
    have e : stp L x = none := by
      unfold stp
      cases L[x.1]? with
      | none => rfl
      | some t =>
        simp only [h t, if_true]
        split <;> rfl
    rw [e]
  | y :: pre, x, suf, L, h => by
    rw [List.cons_append, run]
    cases stp L y with
    | none => rfl
    | some L1 => exact run_bad pre L1 h
theorem may_bad {p : Int} {xs : List Ex} {pre : List (Nat × Ex)} {x : Nat × Ex} {suf : List (Nat × Ex)} (hb : backw xs = pre ++ x :: suf) (h : ∀ t, okE x.2.kind x.2.num x.2.bind x.2.kids.length t = false) : may p xs = false := by
  unfold may
  split
  · rw [hb, run_bad pre _ h]; rfl
  · rfl
theorem may_kid (d : Nat) : may 2 [⟨1, 0, 0, []⟩, ⟨1, 3, 0, []⟩, ⟨1, 1, 0, []⟩, ⟨4, 0, 0, [1, 2]⟩, ⟨1, 0, 0, []⟩, ⟨1, 1, 0, []⟩, ⟨4, 0, 0, [4, 5]⟩, ⟨5, 7, 2, [0, 3, (-(1 + (d : Int)))]⟩] = false := by
  have hh : hd 7 ⟨5, 7, 2, [0, 3, (-(1 + (d : Int)))]⟩ 2 0 [0, 3, (-(1 + (d : Int)))] [-1, -1, -1, -1, -1, -1, -1, 2] = none := by
    rw [hd, if_pos ⟨by decide, by decide, rfl⟩, if_neg (by show ¬ (2 : Int) + bnd 5 2 0 > 8; decide), hd, if_pos ⟨by decide, by decide, rfl⟩, if_neg (by show ¬ (2 : Int) + bnd 5 2 1 > 8; decide), hd, if_neg (by omega)]
  unfold may
  split
  · show (match stp [-1, -1, -1, -1, -1, -1, -1, 2] (7, ⟨5, 7, 2, [0, 3, (-(1 + (d : Int)))]⟩) with
      | none => none
      | some L' => run L' _).isSome = false
    rw [show stp [-1, -1, -1, -1, -1, -1, -1, 2] (7, ⟨5, 7, 2, [0, 3, (-(1 + (d : Int)))]⟩) = hd 7 ⟨5, 7, 2, [0, 3, (-(1 + (d : Int)))]⟩ 2 0 [0, 3, (-(1 + (d : Int)))] [-1, -1, -1, -1, -1, -1, -1, 2] from rfl, hh]
    rfl
  · rfl
theorem Exs.take {w : World} {g : Option Addr} {xs : List Ex} (h : Exs w g xs) (n : Nat) : Exs w g (xs.take n) := by
  rcases h with h | ⟨bk, o, h1, h2, h3⟩
  · exact Or.inl (by rw [h]; simp)
  · refine Or.inr ⟨bk, o, h1, h2, fun j x hx => h3 j x ?_⟩
    rw [List.getElem?_take] at hx
    split at hx
    · exact hx
    · cases hx
end Go.Proofs.Ytknbpfaeedapnaa
