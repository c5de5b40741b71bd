/- The text of ParseBlank as plain data. -/
import Derived.Test.YtighcikiaddfcaaGreatDoorMLaid
import Derived.Test.YtighcikiaddfcaaGreatDoorMRWords

namespace Go.Proofs.YtighcikiaddfcaaGreatDoor.parseBlank
open Go.RowKit
set_option linter.unusedVariables false
def srcW : List (List UInt8) := [[40], [100, 101, 102], [48], [40], [102, 49], [40], [64, 55], [101, 114, 114, 111, 114], [52], [41], [53], [41], [41], [40], [100, 101, 102], [50], [40], [99, 97, 115, 101], [36, 48], [64, 55], [50], [40], [43], [36, 51], [36, 49], [41], [40], [43], [36, 48], [36, 49], [41], [41], [41]]
def seps : List (List UInt8) := [[10], [32, 32, 32], [32, 35, 32, 36, 48, 32, 40, 10], [10, 10, 35, 10]]
theorem src_wd : Lx.wd false [] srcL = srcW := by decide +kernel
theorem src_good : Lx.good srcL = true := by decide +kernel
/-- The text as far as the words ahead of i. -/
def blp (m j : Nat) : Nat → List UInt8
  | 0 => []
  | i + 1 => blp m j i ++ srcW.getD i [] ++ (if i = m then seps.getD j [] else []) ++ [32]
theorem bl_all : ((List.range 33).all fun m => (List.range 4).all fun j => Lx.good (blp m j 33) && decide (Lx.wd false [] (blp m j 33) = srcW)) = true := by decide +kernel
theorem pp_blank (m j : Nat) (hm : m < 33) (hj : j < 4) : pp (blp m j 33) = some smallL := by
  have h := List.all_eq_true.1 (List.all_eq_true.1 bl_all m (List.mem_range.2 hm)) j (List.mem_range.2 hj)
  simp only [Bool.and_eq_true, decide_eq_true_eq] at h
  rw [← pp_src]
  unfold pp
  rw [h.1, h.2, src_good, src_wd]
theorem words_short : (srcW.all fun l => decide (l.length ≤ 5)) = true := by decide +kernel
theorem seps_short : (seps.all fun l => decide (l.length ≤ 8)) = true := by decide +kernel
theorem getD_short {ws : List (List UInt8)} {n : Nat} (h : (ws.all fun l => decide (l.length ≤ n)) = true) (i : Nat) : (ws.getD i []).length ≤ n := by
  rw [List.getD_eq_getElem?_getD]
  cases hx : ws[i]? with
  | none => simp
  | some x => have := List.all_eq_true.1 h x (List.mem_of_getElem? hx); simpa using this
theorem blp_len (m j : Nat) : ∀ i, (blp m j i).length ≤ 14 * i
  | 0 => by simp [blp]
  | i + 1 => by
    have h1 := blp_len m j i
    have h2 := getD_short words_short i
    have h3 := getD_short seps_short j
    rw [blp]
    simp only [List.length_append, List.length_singleton]
    split
    · omega
    · simp only [List.length_nil]; omega
theorem seps_at (j : Nat) (h : j < 4) : ∃ l, seps[j]? = some l ∧ seps.getD j [] = l ∧ ∀ h : j < 4, ([.string ⟨#[10]⟩, .string ⟨#[32, 32, 32]⟩, .string ⟨#[32, 35, 32, 36, 48, 32, 40, 10]⟩, .string ⟨#[10, 10, 35, 10]⟩] : List Value)[j]'h = .string (Lx.ba l) := by
  have hl : seps.length = 4 := rfl
  obtain ⟨l, hf⟩ : ∃ l, seps[j]? = some l := ⟨_, List.getElem?_eq_getElem (by omega)⟩
  refine ⟨l, hf, by rw [List.getD_eq_getElem?_getD, hf]; rfl, fun h => ?_⟩
  have h2 : (seps.map fun l => Value.string (Lx.ba l))[j]? = some (.string (Lx.ba l)) := by rw [List.getElem?_map, hf]; rfl
  have h3 : ([.string ⟨#[10]⟩, .string ⟨#[32, 32, 32]⟩, .string ⟨#[32, 35, 32, 36, 48, 32, 40, 10]⟩, .string ⟨#[10, 10, 35, 10]⟩] : List Value)[j]? = some (.string (Lx.ba l)) := h2
  rw [List.getElem?_eq_getElem h] at h3
  exact Option.some.inj h3
theorem ba_add (a b : List UInt8) : Lx.ba a ++ Lx.ba b = Lx.ba (a ++ b) := by
  apply ByteArray.ext
  rw [ByteArray.data_append]
  unfold Lx.ba
  simp
theorem rwords_src (w : World) : Calls Tryz.prog 16 #[.string (Lx.ba srcL)] w fun e w' => ∃ g c, e = .returned (.tuple #[.slice g 33 c, .int .i64 0]) ∧ Lx.Txts w' g (srcW.map Lx.ba) ∧ Below w.heap.size w w' := by
  refine (Lx.rwords_any (Lx.ba srcL) w).mono ?_
  rintro e w' ⟨g, n, c, er, rfl, hb, ⟨_, rfl, ho⟩ | ⟨h', _⟩⟩
  · rw [show (Lx.ba srcL).data.toList = srcL from rfl, src_wd] at ho
    obtain ⟨g', c', e, _⟩ := Lx.own_len ho
    cases e
    exact ⟨_, _, rfl, (Lx.own_ba ho).2, hb⟩
  · rw [show (Lx.ba srcL).data.toList = srcL from rfl, src_good] at h'; cases h'

end Go.Proofs.YtighcikiaddfcaaGreatDoor.parseBlank
