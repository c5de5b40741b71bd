/- Words at a text that may be and at one that may not; what every program answers that is one: awake returns true. -/
import Derived.Test.YtmbjonfiphnlaaaDoorWords
namespace Go.Proofs.YtmbjonfiphnlaaaDoor
open Go.RowKit
set_option linter.unusedVariables false

theorem words_good (s : ByteArray) (w : World) (h : good s.data.toList = true) :
    Calls Tryd.prog 8 #[.string s] w fun e w' => ∃ g c, e = .returned (.tuple #[.slice g (wd false [] s.data.toList).length c, .int .i64 0]) ∧
      w'.ownsRow w.heap.size 9 1 (.slice g (wd false [] s.data.toList).length c) (wd false [] s.data.toList).length ((wd false [] s.data.toList).map S) ∧ Below w.heap.size w w' := by
  refine (words_any s w).mono ?_
  rintro e w' ⟨g, n, c, er, rfl, hb, ⟨_, rfl, ho⟩ | ⟨h', _⟩⟩
  · obtain ⟨g', c', e, _⟩ := own_len ho
    cases e
    exact ⟨_, _, rfl, ho, hb⟩
  · rw [h] at h'; cases h'
theorem words_bad (s : ByteArray) (w : World) (h : good s.data.toList = false) :
    Calls Tryd.prog 8 #[.string s] w fun e w' => e = .returned (.tuple #[.slice none 0 0, .int .i64 400]) ∧ Below w.heap.size w w' := by
  refine (words_any s w).mono ?_
  rintro e w' ⟨g, n, c, er, rfl, hb, ⟨h', _⟩ | ⟨_, rfl, rfl, rfl, rfl⟩⟩
  · rw [h] at h'; cases h'
  · exact ⟨rfl, hb⟩

/-- The words of a row that is owned, as texts. -/
theorem own_ba {w : World} {B : Nat} {g : Option Addr} {n c : Nat} {ks : List (List UInt8)} (h : w.ownsRow B 9 1 (.slice g n c) ks.length (ks.map S)) : n = (ks.map ba).length ∧ Txts w g (ks.map ba) := by
  obtain ⟨g', c', e, h1, _⟩ := own_txts h
  cases e
  exact ⟨rfl, h1⟩

abbrev wk : List (List UInt8) := [[40], [100, 101, 102], [48], [36, 49], [41], [120]]
theorem wk_one : wd false [] [40, 100, 101, 102, 32, 48, 32, 36, 49, 41, 35, 32, 110, 111, 10, 32, 120, 35] = wk := by decide +kernel
theorem wk_good : good [40, 100, 101, 102, 32, 48, 32, 36, 49, 41, 35, 32, 110, 111, 10, 32, 120, 35] = true := by decide +kernel
theorem wk_bad : good [9] = false := by decide +kernel

set_option maxHeartbeats 1600000 in
set_option maxRecDepth 100000 in
theorem awake_any (w : World) :
    Calls Tryd.prog 13 #[] w fun e w' => e = .returned (.bool true) ∧ Below w.heap.size w w' := by
  go_enter Tryd.func13, Tryd.ntmps13
  go_wp2_with fail
  refine (words_good ⟨#[40, 100, 101, 102, 32, 48, 32, 36, 49, 41, 35, 32, 110, 111, 10, 32, 120, 35]⟩ _ wk_good).mono ?_
  rintro e w1 ⟨g, c, rfl, hown, hb1⟩
  rw [show wd false [] (⟨#[40, 100, 101, 102, 32, 48, 32, 36, 49, 41, 35, 32, 110, 111, 10, 32, 120, 35]⟩ : ByteArray).data.toList = wk from wk_one] at hown ⊢
  have htx := (own_ba hown).2
  clear hown
  go_wp2_with fail
  refine (words_bad ⟨#[9]⟩ _ wk_bad).mono ?_
  rintro e w2 ⟨rfl, hb2⟩
  have htx2 := htx.on hb2
  have h02 := below_next hb1 hb2
  clear hb1 hb2 htx
  go_wp2_with fail
  refine (same_at _ _ 6 6 (wk.map ba) (wk.map ba) _ _ _ rfl rfl ?_ ?_ (by decide) (by decide)).mono ?_
  · exact htx2.on ((Below.refl _ _).alloc (Nat.le_refl _) _)
  · exact new_txts w2 (wk.map ba)
  rintro e w5 ⟨rfl, hb5⟩
  have h25 : Below w2.heap.size w2 w5 := ((Below.refl _ _).alloc (Nat.le_refl _) _).trans (hb5.mono (by simp))
  have h05 := below_next h02 h25
  clear hb5 htx2 h02 h25
  rw [show sameB (wk.map ba) (wk.map ba) = true from decide_eq_true rfl]
  go_wp2_with (go_at_call 11; refine (num_any _ _).mono ?_; rintro e w' ⟨rfl, rfl⟩)
  go_ret
  exact ⟨rfl, h05⟩
end Go.Proofs.YtmbjonfiphnlaaaDoor
