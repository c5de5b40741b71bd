/- The contracts of the laws' CopyTexts, LendTexts, SpoilTexts and KeptTexts. · A list of texts that comes in: where it lies, and how long it and its texts may be. -/
import Derived.Test.YtgajnmcjnkfblaaGreatDoorMRMake
import Derived.Test.YtgajnmcjnkfblaaGreatDoorMLaid
import Derived.Test.YtgajnmcjnkfblaaGreatDoorMSmall
import Derived.SizedLaws
import Derived.ChangeMaps5
import Derived.Carry
import Derived.OpenShut
import Derived.Deep.Strs

namespace Go.Proofs.YtgajnmcjnkfblaaGreatDoor.Tm
open Go.RowKit
set_option linter.unusedVariables false

theorem strs_one (xs : List ByteArray) : ∀ u ∈ xs.map Value.string, u.oneCell' = true := by
  intro u hu
  obtain ⟨b, _, rfl⟩ := List.mem_map.1 hu
  rfl
theorem own_none (W : World) (B : Nat) (hB : B ≤ W.heap.size) : (W.alloc (.cells #[] 9)).ownsRow B 9 1 (.slice (some ⟨W.heap.size, 0, none⟩) 0 0) 0 [] :=
  World.ownsRow_lit W #[] 0 hB (Nat.zero_le _) rfl

set_option maxHeartbeats 800000 in
set_option maxRecDepth 100000 in
theorem copy_nil (w : World) :
    Calls Tryz.prog 27 #[.slice none 0 0] w fun e w' => ∃ v, e = .returned v ∧ w'.ownsRow w.heap.size 9 1 v 0 [] ∧ Below w.heap.size w w' := by
  obtain ⟨i0, hi, hz0, hz1, hz2⟩ := info_parts Tryz.info9
  go_enter Tryz.func27, Tryz.ntmps27
  go_wp2_with (at_builtin; refine wpList_append_own_none rfl _ _ 25 rfl w.heap.size 9 i0 1 Tryz.underlying25 hi _ 0 _ rfl (own_none w w.heap.size (Nat.le_refl _)) rfl ?_)
  go_ret
  exact ⟨_, rfl, own_none w w.heap.size (Nat.le_refl _), (Below.refl _ _).alloc (Nat.le_refl _) _⟩

set_option maxHeartbeats 800000 in
set_option maxRecDepth 100000 in
theorem copy_some (bk o c : Nat) (xs : List ByteArray) (w : World) (hbk : bk < w.heap.size) (hc : ∀ (j : Nat) x, xs[j]? = some x → w.cell? ⟨bk, o + j, none⟩ = some (.string x)) (hn : xs.length * 16 ≤ 140737488351232) :
    Calls Tryz.prog 27 #[.slice (some ⟨bk, o, none⟩) xs.length c] w fun e w' => ∃ v, e = .returned v ∧ w'.ownsRow w.heap.size 9 1 v xs.length (xs.map Value.string) ∧ Below w.heap.size w w' := by
  obtain ⟨i0, hi, hz0, hz1, hz2⟩ := info_parts Tryz.info9
  have HC : Hid (∀ (j : Nat) u, (xs.map Value.string)[j]? = some u → w.cell? ⟨bk, o + j, none⟩ = some u) := by
    intro j u hj
    rw [List.getElem?_map] at hj
    cases hx : xs[j]? with
    | none => rw [hx] at hj; cases hj
    | some x => rw [hx] at hj; cases hj; exact hc j x hx
  clear hc
  go_enter Tryz.func27, Tryz.ntmps27
  go_wp2_with (at_builtin; refine wpList_append_own _ rfl _ _ 25 rfl w.heap.size 9 i0 (.string ⟨#[]⟩) 1 16 Tryz.underlying25 hi hz0 hz1 hz2 rfl (by decide) _ 0 _ rfl (own_none w w.heap.size (Nat.le_refl _)) ⟨bk, o, none⟩ xs.length c (xs.map Value.string) rfl ?c0 ?c1 ?c2 ?c3 ?c4 ?c5 ?_)
  case c0 => simp
  case c1 =>
    intro j u hj
    first
      | rw [Lib.add_plain, World.cell?_alloc_lt _ _ _ hbk]
      | rw [World.cell?_alloc_lt _ _ _ hbk]
      | skip
    exact HC.out j u hj
  case c2 => exact strs_one xs
  case c3 => unfold maxLen; omega
  case c4 => omega
  case c5 => first | omega | (simp; omega) | simp
  intro v' w2 hown2 hgrow _
  have hb2 : Below w.heap.size w w2 := ((Below.refl _ _).alloc (Nat.le_refl _) _).grown hgrow (by rw [World.size_alloc]; omega) (fun k e => by cases e; exact Nat.le_refl _)
  have hown3 : Hid (w2.ownsRow w.heap.size 9 1 v' xs.length (xs.map Value.string)) := by
    show w2.ownsRow w.heap.size 9 1 v' xs.length (xs.map Value.string)
    simpa using hown2
  clear hown2
  go_wp2_with fail
  go_ret
  exact ⟨_, rfl, hown3.out, hb2⟩

set_option maxHeartbeats 800000 in
set_option maxRecDepth 100000 in
theorem copy_zero (a : Addr) (c : Nat) (w : World) :
    Calls Tryz.prog 27 #[.slice (some a) 0 c] w fun e w' => ∃ v, e = .returned v ∧ w'.ownsRow w.heap.size 9 1 v 0 [] ∧ Below w.heap.size w w' := by
  obtain ⟨i0, hi, hz0, hz1, hz2⟩ := info_parts Tryz.info9
  go_enter Tryz.func27, Tryz.ntmps27
  go_wp2_with (at_builtin; refine wpList_append_own _ rfl _ _ 25 rfl w.heap.size 9 i0 (.string ⟨#[]⟩) 1 16 Tryz.underlying25 hi hz0 hz1 hz2 rfl (by decide) _ 0 _ rfl (own_none w w.heap.size (Nat.le_refl _)) a 0 c [] rfl rfl ?c1 ?c2 ?c3 ?c4 ?c5 ?_)
  case c1 => intro j u hj; simp at hj
  case c2 => intro u hu; simp at hu
  case c3 => exact Nat.zero_le _
  case c4 => omega
  case c5 => first | omega | (simp; omega) | simp
  intro v' w2 hown2 hgrow _
  have hb2 : Below w.heap.size w w2 := ((Below.refl _ _).alloc (Nat.le_refl _) _).grown hgrow (by rw [World.size_alloc]; omega) (fun k e => by cases e; exact Nat.le_refl _)
  have hown3 : Hid (w2.ownsRow w.heap.size 9 1 v' 0 []) := by
    show w2.ownsRow w.heap.size 9 1 v' 0 []
    simpa using hown2
  clear hown2
  go_wp2_with fail
  go_ret
  exact ⟨_, rfl, hown3.out, hb2⟩

/-- How a slice of texts comes in. -/
def Inc (w : World) (g : Option Addr) (xs : List ByteArray) (c : Nat) : Prop :=
  (g = none ∧ xs = [] ∧ c = 0) ∨ (xs = [] ∧ ∃ a, g = some a) ∨ ∃ bk o, g = some ⟨bk, o, none⟩ ∧ bk < w.heap.size ∧ ∀ (j : Nat) x, xs[j]? = some x → w.cell? ⟨bk, o + j, none⟩ = some (.string x)
theorem Inc.txts {w : World} {g : Option Addr} {xs : List ByteArray} {c : Nat} (h : Inc w g xs c) : Txts w g xs := by
  rcases h with ⟨_, e, _⟩ | ⟨e, _⟩ | h
  · exact Or.inl e
  · exact Or.inl e
  · exact Or.inr h
theorem copy_any (g : Option Addr) (xs : List ByteArray) (c : Nat) (w : World) (h : Inc w g xs c) (hn : xs.length * 16 ≤ 140737488351232) :
    Calls Tryz.prog 27 #[.slice g xs.length c] w fun e w' => ∃ v, e = .returned v ∧ w'.ownsRow w.heap.size 9 1 v xs.length (xs.map Value.string) ∧ Below w.heap.size w w' := by
  rcases h with ⟨rfl, rfl, rfl⟩ | ⟨rfl, a, rfl⟩ | ⟨bk, o, rfl, hbk, hc⟩
  · exact copy_nil w
  · exact copy_zero a c w
  · exact copy_some bk o c xs w hbk hc hn

/-- The marks behind lent texts. -/
def room : ByteArray := ⟨#[126, 114, 111, 111, 109]⟩
def behnd : ByteArray := ⟨#[126, 98, 101, 104, 105, 110, 100]⟩
/-- Lent texts, with marked room behind. -/
def Lent (w : World) (B gb cap : Nat) (xs : List ByteArray) : Prop :=
  xs.length + 2 ≤ cap ∧ cap ≤ maxLen ∧ B ≤ gb ∧ gb < w.heap.size ∧ ∀ (j : Nat) x, (xs ++ [room, behnd])[j]? = some x → w.cell? ⟨gb, j, none⟩ = some (.string x)
theorem Lent.on {w w' : World} {B gb cap : Nat} {xs : List ByteArray} (h : Lent w B gb cap xs) (hb : Below w.heap.size w w') : Lent w' B gb cap xs := by
  obtain ⟨h1, h2, h3, h4, h5⟩ := h
  exact ⟨h1, h2, h3, Nat.lt_of_lt_of_le h4 hb.size, fun j x hx => by rw [hb.cell (p := ⟨gb, j, none⟩) h4]; exact h5 j x hx⟩
theorem Lent.txts {w : World} {B gb cap : Nat} {xs : List ByteArray} (h : Lent w B gb cap xs) : Txts w (some ⟨gb, 0, none⟩) xs := by
  obtain ⟨_, _, _, h4, h5⟩ := h
  refine Or.inr ⟨gb, 0, rfl, h4, fun j x hx => ?_⟩
  rw [Nat.zero_add]
  exact h5 j x (by rw [List.getElem?_append_left (List.getElem?_eq_some_iff.1 hx).1]; exact hx)
theorem own_lent {w : World} {B : Nat} {v : Value} {xs : List ByteArray} (h : w.ownsRow B 9 1 v (xs.length + 2) (xs.map Value.string ++ [.string room, .string behnd])) :
    ∃ gb cap, v = .slice (some ⟨gb, 0, none⟩) (xs.length + 2) cap ∧ Lent w B gb cap xs := by
  have hown := h
  rcases h.2 with ⟨_, h0⟩ | ⟨g, cap, cur, hv, hB, hg, hnc, hcm, _⟩
  · omega
  · refine ⟨g, cap, hv, hnc, hcm, hB, ?_, fun j x hx => ?_⟩
    · rcases Nat.lt_or_ge g w.heap.size with hlt | hge
      · exact hlt
      · rw [Array.getElem?_eq_none hge] at hg; cases hg
    · subst hv
      have hj : j < xs.length + 2 := by
        have := (List.getElem?_eq_some_iff.1 hx).1
        simpa using this
      rw [hown.cellAt j (by omega)]
      have e : xs.map Value.string ++ [.string room, .string behnd] = (xs ++ [room, behnd]).map Value.string := by simp
      rw [e, List.getElem?_map, hx]; rfl

set_option maxHeartbeats 800000 in
set_option maxRecDepth 100000 in
theorem lend_any (g : Option Addr) (xs : List ByteArray) (c : Nat) (w : World) (h : Inc w g xs c) (hn : xs.length * 16 ≤ 140737488351232) :
    Calls Tryz.prog 10 #[.slice g xs.length c] w fun e w' => ∃ gb cap, e = .returned (.slice (some ⟨gb, 0, none⟩) xs.length cap) ∧ Lent w' w.heap.size gb cap xs ∧ Below w.heap.size w w' := by
  obtain ⟨i0, hi, hz0, hz1, hz2⟩ := info_parts Tryz.info9
  go_enter Tryz.func10, Tryz.ntmps10
  go_wp2_with fail
  refine (copy_any g xs c _ h hn).mono ?_
  rintro e w1 ⟨v, rfl, hown, hb1⟩
  have hz := hb1.size
  have HO : Hid (∀ o : Obj, (w1.alloc o).ownsRow w.heap.size 9 1 v xs.length (xs.map Value.string)) := fun o => hown.alloc o
  have HL : Hid (∀ k, v.ownBlock = some k → w.heap.size ≤ k) := fun k hk => (hown.lt k hk).1
  clear hown h
  go_wp2_with (at_builtin; refine wpList_append_own _ rfl _ _ 25 rfl w.heap.size 9 i0 (.string ⟨#[]⟩) 1 16 Tryz.underlying25 hi hz0 hz1 hz2 rfl (by decide) _ xs.length _ rfl (HO.out _) ⟨w1.heap.size, 0, none⟩ 2 2 [.string room, .string behnd] rfl rfl ?c1 ?c2 ?c3 ?c4 ?c5 ?_)
  case c1 =>
    intro j u hj
    match j, hj with
    | 0, hj => cases hj; rw [Lib.add_plain, Nat.zero_add, World.cell?_alloc_new]; rfl
    | 1, hj => cases hj; rw [Lib.add_plain, Nat.zero_add, World.cell?_alloc_new]; rfl
    | j + 2, hj => simp at hj
  case c2 => intro u hu; simp at hu; rcases hu with rfl | rfl <;> rfl
  case c3 => unfold maxLen; omega
  case c4 => omega
  case c5 => rw [World.size_alloc]; omega
  intro v' w2 hown2 hgrow _
  have hb2 : Below w.heap.size w w2 := (hb1.alloc hz _).grown hgrow (by rw [World.size_alloc]; omega) HL.out
  obtain ⟨gb, cap, rfl, hlent⟩ := own_lent hown2
  have hcap := hlent.1
  have hcap2 := hlent.2.1
  have HE : Hid (Lent w2 w.heap.size gb cap xs) := hlent
  clear hown2 hlent hgrow
  have hcap3 : (xs.length : Int) ≤ (cap : Int) := by omega
  unfold maxLen at hcap2
  go_wp2_with fail
  go_ret
  exact ⟨gb, cap, rfl, HE.out, hb2⟩

set_option maxHeartbeats 800000 in
set_option maxRecDepth 100000 in
theorem kept_any (gb cap : Nat) (g : Option Addr) (xs : List ByteArray) (c B : Nat) (w : World) (h : Lent w B gb cap xs) (hx : Txts w g xs) (hn : xs.length * 16 ≤ 140737488351232) :
    Calls Tryz.prog 15 #[.slice (some ⟨gb, 0, none⟩) xs.length cap, .slice g xs.length c] w fun e w' => e = .returned (.bool true) ∧ Below w.heap.size w w' := by
  have hcap := h.1
  have hcap2 := h.2.1
  have hcap3 : (xs.length : Int) + 2 ≤ (cap : Int) := by omega
  have HE : Hid (Lent w B gb cap xs) := h
  have HX : Hid (Txts w g xs) := hx
  clear h hx
  unfold maxLen at hcap2
  go_enter Tryz.func15, Tryz.ntmps15
  go_wp2_with fail
  refine (same_at _ _ _ _ xs xs _ _ _ rfl rfl HE.out.txts HX.out (by omega) (by omega)).mono ?_
  rintro e w1 ⟨rfl, hb1⟩
  rw [show sameB xs xs = true from decide_eq_true rfl]
  have hc0 : w1.cell? ⟨gb, xs.length, none⟩ = some (.string ⟨#[126, 114, 111, 111, 109]⟩) := (HE.out.on hb1).2.2.2.2 xs.length room (by simp)
  have hc1 : w1.cell? ⟨gb, xs.length + 1, none⟩ = some (.string ⟨#[126, 98, 101, 104, 105, 110, 100]⟩) := (HE.out.on hb1).2.2.2.2 (xs.length + 1) behnd (by simp)
  go_wp2_with fail
  go_ret
  exact ⟨rfl, hb1⟩

/-- Some texts, none too long. -/
def Few (ts : List (List UInt8)) : Prop := ∀ t ∈ ts, t.length ≤ 2000
end Go.Proofs.YtgajnmcjnkfblaaGreatDoor.Tm

namespace Go.Proofs.YtgajnmcjnkfblaaGreatDoor
open Go.ChangeShapes Go.WideShapes Go.ChangeAt Go.RowKit Go.ChangeMaps Go.Deep
set_option linter.unusedVariables false

theorem bytes9k : Tryz.prog.bytesOf 9 = 16 := by kernel_rfl
theorem cells9k : Tryz.prog.cellsOf 9 = 1 := by kernel_rfl
theorem mem_weightsK {H : Type} {P : Program} {e : TypeId} {b : List UInt8} : ∀ {l : List (DataW H)}, (DataW.lit (.string b) : DataW H) ∈ l → b.length ∈ DataW.weightsAll P e l
  | d :: r, h => by
    rw [DataW.weightsAll]
    rcases List.mem_cons.1 h with h | h
    · subst h; simp [DataW.weights]
    · exact List.mem_append_right _ (mem_weightsK h)

theorem open_kids {H : Type} {enc : TypeId × Value → H} {W : World} {g : Option Addr} {n c fuel : Nat} {d : DataW H} {ps : List MemPlace} {ts : List TypeId} {ds : List (DataW H)} {j : Nat}
    (hf : DataW.trod enc Tryz.prog W 0 (fun _ => true) true fuel 25 [.slice g n c] = some (d, ps)) (hsz : (DataW.weightsEach Tryz.prog ts ds).all (· ≤ reachBytes) = true) (ht : ts[j]? = some 25) (hd : ds[j]? = some d) :
    ∃ xs : List ByteArray, n = xs.length ∧ Tm.Inc W g xs c ∧ xs.length * 16 ≤ 140737488351232 ∧ ∀ x ∈ xs, x.size ≤ 140737488355328 := by
  rcases open_strs Tryz.underlying25 Tryz.underlying9 cells9k hf with ⟨hcs, hx⟩ | ⟨a, len', cap', m, Sx, hcs, _, hl, hm, hmm, hx, hcell⟩
  · simp at hcs
    obtain ⟨rfl, rfl, rfl⟩ := hcs
    exact ⟨[], rfl, Or.inl ⟨rfl, rfl, rfl⟩, by simp, by simp⟩
  · simp at hcs
    obtain ⟨rfl, rfl, rfl⟩ := hcs
    simp only [if_true] at hmm
    simp only [Prod.mk.injEq] at hx
    obtain ⟨rfl, _⟩ := hx
    have hb := sized_slice hsz ht hd Tryz.underlying25
    rw [bytes9k] at hb
    simp only [List.length_map, List.length_range, reachBytes] at hb
    refine ⟨(List.range n).map Sx, by simp, ?_, by simp; omega, ?_⟩
    · by_cases h0 : n = 0
      · subst h0; exact Or.inr (Or.inl ⟨rfl, a, rfl⟩)
      · obtain ⟨b, off, spot⟩ := a
        have hspot : spot = none := by simpa [Addr.add] using World.cell?_spot (hcell 0 (by omega)).1
        subst hspot
        refine Or.inr (Or.inr ⟨b, off, rfl, ?_, fun j x hx => ?_⟩)
        · have := (hcell 0 (by omega)).1
          rw [Lib.add_plain] at this
          exact World.block_lt_of_cell? _ _ this
        · have hj : j < n := by
            have := (List.getElem?_eq_some_iff.1 hx).1
            simpa using this
          have e : x = Sx j := by
            rw [List.getElem?_map, List.getElem?_range hj] at hx
            exact (Option.some.inj hx).symm
          subst e
          rw [← Lib.add_plain]; exact (hcell j (by omega)).1
    · intro x hx
      obtain ⟨i, hi, rfl⟩ := List.mem_map.1 hx
      have hmem : (Sx i).data.toList.length ∈ DataW.weightsEach Tryz.prog ts ds := DataW.weights_mem_each ht hd _ (by
        rw [DataW.weights, Tryz.underlying25]
        refine List.mem_cons_of_mem _ (List.mem_append_left _ (mem_weightsK ?_))
        exact List.mem_map.2 ⟨i, hi, rfl⟩)
      have := List.all_eq_true.1 hsz _ hmem
      have e : (Sx i).data.toList.length = (Sx i).size := by simp
      rw [e] at this
      have h2 : (Sx i).size ≤ reachBytes := by simpa using this
      have := reachBytes_lt
      omega
end Go.Proofs.YtgajnmcjnkfblaaGreatDoor
