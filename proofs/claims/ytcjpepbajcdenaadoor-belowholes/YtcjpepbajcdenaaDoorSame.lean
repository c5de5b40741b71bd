/- The contracts of the statements' own helpers SameTexts and Num; Make and Cut at any spelling of a length. -/
import Derived.Test.YtcjpepbajcdenaaDoorMake
namespace Go.Proofs.YtcjpepbajcdenaaDoor
open Go.RowKit
set_option linter.unusedVariables false

set_option maxHeartbeats 400000 in
theorem num_any (x : Int) (w : World) :
    Calls Tryd.prog 11 #[.int .i64 x] w fun e w' => e = .returned (.int .i64 x) ∧ w = w' := by
  go_enter Tryd.func11, Tryd.ntmps11
  go_wp2
  go_ret
  exact ⟨rfl, rfl⟩

/-- The same texts? -/
def sameB (xs ys : List ByteArray) : Bool := decide (xs = ys)

theorem txts_at {w : World} {g : Option Addr} {xs : List ByteArray} (h : Txts w g xs) {j : Nat} (hj : j < xs.length) : ∃ bk o, g = some ⟨bk, o, none⟩ ∧ w.cell? ⟨bk, o + j, none⟩ = some (.string xs[j]) := by
  rcases h with h | ⟨bk, o, h1, _, h3⟩
  · subst h; simp at hj
  · exact ⟨bk, o, h1, h3 j _ (List.getElem?_eq_getElem hj)⟩

theorem below_two {a b : World} (h : ∃ n, b = a.drewN n) : Below a.heap.size a b := by
  obtain ⟨n, rfl⟩ := h; exact below_drewN _ _ _

/-- Texts as values' bytes. -/
def ba (l : List UInt8) : ByteArray := ⟨l.toArray⟩
theorem own_txts {w : World} {B : Nat} {v : Value} {ks : List (List UInt8)} (h : w.ownsRow B 9 1 v ks.length (ks.map S)) : ∃ g c, v = .slice g (ks.map ba).length c ∧ Txts w g (ks.map ba) ∧ ks.length ≤ c := by
  rcases h.2 with ⟨h2, h3⟩ | ⟨g, cap, cur, hv, hB, hh, hc, _⟩
  · have e : ks = [] := List.length_eq_zero_iff.1 h3
    subst e
    exact ⟨none, 0, h2, Or.inl rfl, Nat.le_refl _⟩
  · refine ⟨_, cap, by rw [List.length_map]; exact hv, Or.inr ⟨g, 0, rfl, ?_, ?_⟩, hc⟩
    · rcases Nat.lt_or_ge g w.heap.size with h' | h'
      · exact h'
      · rw [Array.getElem?_eq_none h'] at hh; cases hh
    · intro j x hj
      subst hv
      have e : (ks.map S)[j]? = some (.string x) := by
        rw [List.getElem?_map] at hj ⊢
        cases hk : ks[j]? with
        | none => rw [hk] at hj; cases hj
        | some l => rw [hk] at hj; have e := Option.some.inj hj; subst e; rfl
      have := h.cells (g := g) rfl j _ e
      rw [Lib.add_plain] at this
      exact this
theorem lst_ba (ks : List (List UInt8)) : lst (ks.map ba) = ks := by
  unfold lst; rw [List.map_map]
  have : (fun l : List UInt8 => (ba l).data.toList) = id := rfl
  show ks.map (fun l => (ba l).data.toList) = ks
  rw [this, List.map_id]
/-- The cells of a new row of texts. -/
theorem new_txts (w : World) (ks : List ByteArray) : Txts (w.alloc (Obj.cells (ks.map Value.string).toArray 9)) (some ⟨w.heap.size, 0, none⟩) ks := by
  refine Or.inr ⟨w.heap.size, 0, rfl, by simp, fun j x hj => ?_⟩
  rw [Nat.zero_add, World.cell?_alloc_new]
  simp [hj]
end Go.Proofs.YtcjpepbajcdenaaDoor
