/- The contracts of the laws' CopyTexts, LendTexts, SpoilTexts and KeptTexts. · A list of texts that comes in: where it lies, and how long it and its texts may be. -/
import Derived.Test.YtjamknejllbmkaaGreatDoorMRMake
import Derived.Test.YtjamknejllbmkaaGreatDoorMLaid
import Derived.Test.YtjamknejllbmkaaGreatDoorMSmall
import Derived.SizedLaws
import Derived.ChangeMaps5
import Derived.Carry
import Derived.OpenShut
import Derived.Deep.Strs

namespace Go.Proofs.YtjamknejllbmkaaGreatDoor.Tm
open Go.RowKit
set_option linter.unusedVariables false

theorem strs_one (xs : List ByteArray) : ∀ u ∈ xs.map Value.string, u.oneCell' = true := by
  intro u hu
  obtain ⟨b, _, rfl⟩ := List.mem_map.1 hu
  rfl
theorem own_none (W : World) (B : Nat) (hB : B ≤ W.heap.size) : (W.alloc (.cells #[] 9)).ownsRow B 9 1 (.slice (some ⟨W.heap.size, 0, none⟩) 0 0) 0 [] :=
  World.ownsRow_lit W #[] 0 hB (Nat.zero_le _) rfl

/-- How a slice of texts comes in. -/
def Inc (w : World) (g : Option Addr) (xs : List ByteArray) (c : Nat) : Prop :=
  (g = none ∧ xs = [] ∧ c = 0) ∨ (xs = [] ∧ ∃ a, g = some a) ∨ ∃ bk o, g = some ⟨bk, o, none⟩ ∧ bk < w.heap.size ∧ ∀ (j : Nat) x, xs[j]? = some x → w.cell? ⟨bk, o + j, none⟩ = some (.string x)
theorem Inc.txts {w : World} {g : Option Addr} {xs : List ByteArray} {c : Nat} (h : Inc w g xs c) : Txts w g xs := by
  rcases h with ⟨_, e, _⟩ | ⟨e, _⟩ | h
  · exact Or.inl e
  · exact Or.inl e
  · exact Or.inr h
/-- The marks behind lent texts. -/
def room : ByteArray := ⟨#[126, 114, 111, 111, 109]⟩
def behnd : ByteArray := ⟨#[126, 98, 101, 104, 105, 110, 100]⟩
/-- Lent texts, with marked room behind. -/
def Lent (w : World) (B gb cap : Nat) (xs : List ByteArray) : Prop :=
  xs.length + 2 ≤ cap ∧ cap ≤ maxLen ∧ B ≤ gb ∧ gb < w.heap.size ∧ ∀ (j : Nat) x, (xs ++ [room, behnd])[j]? = some x → w.cell? ⟨gb, j, none⟩ = some (.string x)
theorem Lent.on {w w' : World} {B gb cap : Nat} {xs : List ByteArray} (h : Lent w B gb cap xs) (hb : Below w.heap.size w w') : Lent w' B gb cap xs := by
  obtain ⟨h1, h2, h3, h4, h5⟩ := h
  exact ⟨h1, h2, h3, Nat.lt_of_lt_of_le h4 hb.size, fun j x hx => by rw [hb.cell (p := ⟨gb, j, none⟩) h4]; exact h5 j x hx⟩
theorem Lent.txts {w : World} {B gb cap : Nat} {xs : List ByteArray} (h : Lent w B gb cap xs) : Txts w (some ⟨gb, 0, none⟩) xs := by
  obtain ⟨_, _, _, h4, h5⟩ := h
  refine Or.inr ⟨gb, 0, rfl, h4, fun j x hx => ?_⟩
  rw [Nat.zero_add]
  exact h5 j x (by rw [List.getElem?_append_left (List.getElem?_eq_some_iff.1 hx).1]; exact hx)
theorem own_lent {w : World} {B : Nat} {v : Value} {xs : List ByteArray} (h : w.ownsRow B 9 1 v (xs.length + 2) (xs.map Value.string ++ [.string room, .string behnd])) :
    ∃ gb cap, v = .slice (some ⟨gb, 0, none⟩) (xs.length + 2) cap ∧ Lent w B gb cap xs := by
  have hown := h
  rcases h.2 with ⟨_, h0⟩ | ⟨g, cap, cur, hv, hB, hg, hnc, hcm, _⟩
  · omega
  · refine ⟨g, cap, hv, hnc, hcm, hB, ?_, fun j x hx => ?_⟩
    · rcases Nat.lt_or_ge g w.heap.size with hlt | hge
      · exact hlt
      · rw [Array.getElem?_eq_none hge] at hg; cases hg
    · subst hv
      have hj : j < xs.length + 2 := by
        have := (List.getElem?_eq_some_iff.1 hx).1
        simpa using this
      rw [hown.cellAt j (by omega)]
      have e : xs.map Value.string ++ [.string room, .string behnd] = (xs ++ [room, behnd]).map Value.string := by simp
      rw [e, List.getElem?_map, hx]; rfl

/-- Some texts, none too long. -/
def Few (ts : List (List UInt8)) : Prop := ∀ t ∈ ts, t.length ≤ 2000
end Go.Proofs.YtjamknejllbmkaaGreatDoor.Tm

namespace Go.Proofs.YtjamknejllbmkaaGreatDoor
open Go.ChangeShapes Go.WideShapes Go.ChangeAt Go.RowKit Go.ChangeMaps Go.Deep
set_option linter.unusedVariables false

theorem bytes9k : Tryz.prog.bytesOf 9 = 16 := by kernel_rfl
theorem cells9k : Tryz.prog.cellsOf 9 = 1 := by kernel_rfl
theorem mem_weightsK {H : Type} {P : Program} {e : TypeId} {b : List UInt8} : ∀ {l : List (DataW H)}, (DataW.lit (.string b) : DataW H) ∈ l → b.length ∈ DataW.weightsAll P e l
  | d :: r, h => by
    rw [DataW.weightsAll]
    rcases List.mem_cons.1 h with h | h
    · subst h; simp [DataW.weights]
    · exact List.mem_append_right _ (mem_weightsK h)

theorem open_kids {H : Type} {enc : TypeId × Value → H} {W : World} {g : Option Addr} {n c fuel : Nat} {d : DataW H} {ps : List MemPlace} {ts : List TypeId} {ds : List (DataW H)} {j : Nat}
    (hf : DataW.trod enc Tryz.prog W 0 (fun _ => true) true fuel 24 [.slice g n c] = some (d, ps)) (hsz : (DataW.weightsEach Tryz.prog ts ds).all (· ≤ reachBytes) = true) (ht : ts[j]? = some 24) (hd : ds[j]? = some d) :
    ∃ xs : List ByteArray, n = xs.length ∧ Tm.Inc W g xs c ∧ xs.length * 16 ≤ 140737488351232 ∧ ∀ x ∈ xs, x.size ≤ 140737488355328 := by
  rcases open_strs Tryz.underlying24 Tryz.underlying9 cells9k hf with ⟨hcs, hx⟩ | ⟨a, len', cap', m, Sx, hcs, _, hl, hm, hmm, hx, hcell⟩
  · simp at hcs
    obtain ⟨rfl, rfl, rfl⟩ := hcs
    exact ⟨[], rfl, Or.inl ⟨rfl, rfl, rfl⟩, by simp, by simp⟩
  · simp at hcs
    obtain ⟨rfl, rfl, rfl⟩ := hcs
    simp only [if_true] at hmm
    simp only [Prod.mk.injEq] at hx
    obtain ⟨rfl, _⟩ := hx
    have hb := sized_slice hsz ht hd Tryz.underlying24
    rw [bytes9k] at hb
    simp only [List.length_map, List.length_range, reachBytes] at hb
    refine ⟨(List.range n).map Sx, by simp, ?_, by simp; omega, ?_⟩
    · by_cases h0 : n = 0
      · subst h0; exact Or.inr (Or.inl ⟨rfl, a, rfl⟩)
      · obtain ⟨b, off, spot⟩ := a
        have hspot : spot = none := by simpa [Addr.add] using World.cell?_spot (hcell 0 (by omega)).1
        subst hspot
        refine Or.inr (Or.inr ⟨b, off, rfl, ?_, fun j x hx => ?_⟩)
        · have := (hcell 0 (by omega)).1
          rw [Lib.add_plain] at this
          exact World.block_lt_of_cell? _ _ this
        · have hj : j < n := by
            have := (List.getElem?_eq_some_iff.1 hx).1
            simpa using this
          have e : x = Sx j := by
            rw [List.getElem?_map, List.getElem?_range hj] at hx
            exact (Option.some.inj hx).symm
          subst e
          rw [← Lib.add_plain]; exact (hcell j (by omega)).1
    · intro x hx
      obtain ⟨i, hi, rfl⟩ := List.mem_map.1 hx
      have hmem : (Sx i).data.toList.length ∈ DataW.weightsEach Tryz.prog ts ds := DataW.weights_mem_each ht hd _ (by
        rw [DataW.weights, Tryz.underlying24]
        refine List.mem_cons_of_mem _ (List.mem_append_left _ (mem_weightsK ?_))
        exact List.mem_map.2 ⟨i, hi, rfl⟩)
      have := List.all_eq_true.1 hsz _ hmem
      have e : (Sx i).data.toList.length = (Sx i).size := by simp
      rw [e] at this
      have h2 : (Sx i).size ≤ reachBytes := by simpa using this
      have := reachBytes_lt
      omega
end Go.Proofs.YtjamknejllbmkaaGreatDoor
