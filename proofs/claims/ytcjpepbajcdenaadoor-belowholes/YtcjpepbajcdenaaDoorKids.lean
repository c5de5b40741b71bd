/- A list of texts that comes in: where it lies, and how long it and its texts may be. -/
import Derived.Test.YtcjpepbajcdenaaDoorTexts
import Derived.Test.YtcjpepbajcdenaaDoorLaid
import Derived.SizedLaws
import Derived.ChangeMaps5
import Derived.Carry
import Derived.OpenShut
import Derived.Deep.Strs
namespace Go.Proofs.YtcjpepbajcdenaaDoor
open Go.ChangeShapes Go.WideShapes Go.ChangeAt Go.RowKit Go.ChangeMaps Go.Deep
set_option linter.unusedVariables false

theorem laidOut : laidOutB Tryd.prog = true := by kernel_rfl
theorem bytes9 : Tryd.prog.bytesOf 9 = 16 := by kernel_rfl

theorem mem_weightsAll {H : Type} {P : Program} {e : TypeId} {b : List UInt8} : ∀ {l : List (DataW H)}, (DataW.lit (.string b) : DataW H) ∈ l → b.length ∈ DataW.weightsAll P e l
  | d :: r, h => by
    rw [DataW.weightsAll]
    rcases List.mem_cons.1 h with h | h
    · subst h; simp [DataW.weights]
    · exact List.mem_append_right _ (mem_weightsAll h)

theorem open_kids {H : Type} {enc : TypeId × Value → H} {W : World} {g : Option Addr} {n c fuel : Nat} {d : DataW H} {ps : List MemPlace} {ts : List TypeId} {ds : List (DataW H)} {j : Nat}
    (hf : DataW.trod enc Tryd.prog W 0 (fun _ => true) true fuel 32 [.slice g n c] = some (d, ps)) (hsz : (DataW.weightsEach Tryd.prog ts ds).all (· ≤ reachBytes) = true) (ht : ts[j]? = some 32) (hd : ds[j]? = some d) :
    ∃ xs : List ByteArray, n = xs.length ∧ Inc W g xs c ∧ xs.length * 16 ≤ 140737488351232 ∧ ∀ x ∈ xs, x.size ≤ 140737488355328 := by
  rcases open_strs Tryd.underlying32 Tryd.underlying9 cells9 hf with ⟨hcs, hx⟩ | ⟨a, len', cap', m, Sx, hcs, _, hl, hm, hmm, hx, hcell⟩
  · simp at hcs
    obtain ⟨rfl, rfl, rfl⟩ := hcs
    exact ⟨[], rfl, Or.inl ⟨rfl, rfl, rfl⟩, by simp, by simp⟩
  · simp at hcs
    obtain ⟨rfl, rfl, rfl⟩ := hcs
    simp only [if_true] at hmm
    simp only [Prod.mk.injEq] at hx
    obtain ⟨rfl, _⟩ := hx
    have hb := sized_slice hsz ht hd Tryd.underlying32
    rw [bytes9] at hb
    simp only [List.length_map, List.length_range, reachBytes] at hb
    refine ⟨(List.range n).map Sx, by simp, ?_, by simp; omega, ?_⟩
    · by_cases h0 : n = 0
      · subst h0; exact Or.inr (Or.inl ⟨rfl, a, rfl⟩)
      · obtain ⟨b, off, spot⟩ := a
        have hspot : spot = none := by simpa [Addr.add] using World.cell?_spot (hcell 0 (by omega)).1
        subst hspot
        refine Or.inr (Or.inr ⟨b, off, rfl, ?_, fun j x hx => ?_⟩)
        · have := (hcell 0 (by omega)).1
          rw [add_plain] at this
          exact World.block_lt_of_cell? _ _ this
        · have hj : j < n := by
            have := (List.getElem?_eq_some_iff.1 hx).1
            simpa using this
          have e : x = Sx j := by
            rw [List.getElem?_map, List.getElem?_range hj] at hx
            exact (Option.some.inj hx).symm
          subst e
          rw [← add_plain]; exact (hcell j (by omega)).1
    · intro x hx
      obtain ⟨i, hi, rfl⟩ := List.mem_map.1 hx
      have hmem : (Sx i).data.toList.length ∈ DataW.weightsEach Tryd.prog ts ds := DataW.weights_mem_each ht hd _ (by
        rw [DataW.weights, Tryd.underlying32]
        refine List.mem_cons_of_mem _ (List.mem_append_left _ (mem_weightsAll ?_))
        exact List.mem_map.2 ⟨i, hi, rfl⟩)
      have := List.all_eq_true.1 hsz _ hmem
      have e : (Sx i).data.toList.length = (Sx i).size := by simp
      rw [e] at this
      have h2 : (Sx i).size ≤ reachBytes := by simpa using this
      have := reachBytes_lt
      omega

end Go.Proofs.YtcjpepbajcdenaaDoor
