/- What the walks ask of the library, paid by the laid contracts. -/
import Derived.Test.YtcjpepbajcdenaaDoorShelf
import Derived.Test.YtcjpepbajcdenaaDoorCut
namespace Go.Proofs.YtcjpepbajcdenaaDoor
open Go.RowKit
set_option linter.unusedVariables false

theorem itoa_said : ItoaSaid := by
  intro n w h0 h1 hw
  refine (Any.strconv_Itoa Tryd.laysM171 n h0 h1 w hw.1).mono ?_
  rintro e w' ⟨rfl, k, os, rfl⟩
  exact ⟨rfl, Lib.below_grow _ _ (Nat.le_refl _) _ _⟩

theorem atoi_said : AtoiSaid := by
  intro s w hs hw
  obtain ⟨_, ⟨t1, p1, h1⟩, t2, p2, h2⟩ := hw
  cases h : Lib.atoiAll s.data.toList
  · rename_i v
    refine (Any.strconv_Atoi_ok Tryd.laysC172 s (by omega) v h w).mono ?_
    rintro e w' ⟨rfl, rfl | ⟨t, rfl⟩⟩
    · exact ⟨v, _, rfl, Or.inl ⟨rfl, rfl⟩, Below.refl _ _⟩
    · exact ⟨v, _, rfl, Or.inl ⟨rfl, rfl⟩, Lib.bytesWorld_below _ _ _⟩
  · refine (Any.strconv_Atoi_syntax_var Tryd.laysC172 s hs h t1 p1 w h1).mono ?_
    rintro e w' ⟨N, rfl, _, _, hb⟩
    exact ⟨0, _, rfl, Or.inr ⟨⟨_, _, rfl⟩, fun v e => by cases e⟩, hb⟩
  · refine (Any.strconv_Atoi_range_var Tryd.laysC172 s hs h t2 p2 w h2).mono ?_
    rintro e w' ⟨N, rfl, _, _, hb⟩
    exact ⟨_, _, rfl, Or.inr ⟨⟨_, _, rfl⟩, fun v e => by cases e⟩, hb⟩

end Go.Proofs.YtcjpepbajcdenaaDoor
