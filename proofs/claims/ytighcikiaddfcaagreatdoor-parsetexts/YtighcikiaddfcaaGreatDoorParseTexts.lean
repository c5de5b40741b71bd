/- sleuthlaw7.ParseTexts returns true at every input: each kind of expression is read as its words tell it; the input is as it was. The condition is the card's own: the seven listed tables and variables of Go's library read as their texts lay them. -/
import Derived.Test.YtighcikiaddfcaaGreatDoorMLaid
import Derived.Laws.OwnMore
import Derived.Laws.IdiomStrings
import Derived.Deep.OwnRows
import Derived.SizedLaws
import Derived.ChangeMaps5
namespace Go.Proofs.YtighcikiaddfcaaGreatDoor.parseTexts
open Go.ChangeShapes Go.WideShapes Go.ChangeAt Go.RowKit Go.ChangeMaps
set_option linter.unusedVariables false

theorem one_def {W : World} {g : Option Addr} {n c : Nat} {xs : List Ex} (h : Exs W g xs) (hn : n = xs.length) : Defs Exs (W.alloc (.cells #[.int .i64 0, .slice g n c] 43)) (some ⟨W.heap.size, 0, none⟩) [⟨0, xs⟩] := by
  subst hn
  exact Rd.defs (World.alloc_heap_new W _) ⟨rfl, ⟨_, _, rfl, h.on ((Below.refl _ W).alloc (Nat.le_refl _) _)⟩, trivial⟩
def src0 : List UInt8 := [40, 100, 101, 102, 32, 48, 32, 45, 51, 50, 55, 54, 56, 41]
def body0 : List Ex := [⟨0, -32768, 0, []⟩]
theorem pp0 : pp src0 = some [⟨0, body0⟩] := by decide +kernel
def src1 : List UInt8 := [40, 100, 101, 102, 32, 48, 32, 40, 108, 101, 116, 32, 53, 32, 36, 48, 41, 41]
def body1 : List Ex := [⟨0, 5, 0, []⟩, ⟨1, 0, 0, []⟩, ⟨6, 0, 0, [0, 1]⟩]
theorem pp1 : pp src1 = some [⟨0, body1⟩] := by decide +kernel
def src2 : List UInt8 := [40, 100, 101, 102, 32, 48, 32, 40, 102, 48, 41, 41]
def body2 : List Ex := [⟨2, 0, 0, []⟩]
theorem pp2 : pp src2 = some [⟨0, body2⟩] := by decide +kernel
def src3 : List UInt8 := [40, 100, 101, 102, 32, 48, 32, 64, 57, 57, 41]
def body3 : List Ex := [⟨3, 99, 0, []⟩]
theorem pp3 : pp src3 = some [⟨0, body3⟩] := by decide +kernel
def src4 : List UInt8 := [40, 100, 101, 102, 32, 48, 32, 40, 64, 48, 32, 64, 49, 32, 101, 114, 114, 111, 114, 32, 48, 41, 41]
def body4 : List Ex := [⟨3, 1, 0, []⟩, ⟨7, 0, 0, []⟩, ⟨0, 0, 0, []⟩, ⟨3, 0, 0, [0, 1, 2]⟩]
theorem pp4 : pp src4 = some [⟨0, body4⟩] := by decide +kernel
def src5 : List UInt8 := [40, 100, 101, 102, 32, 48, 32, 40, 60, 32, 49, 32, 40, 61, 32, 50, 32, 51, 41, 41, 41]
def body5 : List Ex := [⟨0, 1, 0, []⟩, ⟨0, 2, 0, []⟩, ⟨0, 3, 0, []⟩, ⟨4, 3, 0, [1, 2]⟩, ⟨4, 4, 0, [0, 3]⟩]
theorem pp5 : pp src5 = some [⟨0, body5⟩] := by decide +kernel
def src6 : List UInt8 := [40, 100, 101, 102, 32, 48, 32, 40, 99, 97, 115, 101, 32, 64, 50, 32, 64, 50, 32, 48, 32, 40, 45, 32, 49, 32, 50, 41, 32, 40, 42, 32, 51, 32, 52, 41, 41, 41]
def body6 : List Ex := [⟨3, 2, 0, []⟩, ⟨0, 1, 0, []⟩, ⟨0, 2, 0, []⟩, ⟨4, 1, 0, [1, 2]⟩, ⟨0, 3, 0, []⟩, ⟨0, 4, 0, []⟩, ⟨4, 2, 0, [4, 5]⟩, ⟨5, 2, 0, [0, 3, 6]⟩]
theorem pp6 : pp src6 = some [⟨0, body6⟩] := by decide +kernel
def src7 : List UInt8 := [40, 100, 101, 102, 32, 48, 32, 101, 114, 114, 111, 114, 41]
def body7 : List Ex := [⟨7, 0, 0, []⟩]
theorem pp7 : pp src7 = some [⟨0, body7⟩] := by decide +kernel

set_option maxHeartbeats 2000000 in
set_option maxRecDepth 100000 in
theorem walk (a0 : Int) (w : World) (hL : Lw w) :
    Calls Tryz.prog 5 #[.int .i64 a0] w fun e w' => e = .returned (.bool true) ∧ Below w.heap.size w w' := by
  obtain ⟨m, hm, hlt⟩ : ∃ m : Nat, (IntKind.u64.wrap a0).tmod 8 = (m : Int) ∧ m < 8 := by
    have h0 : 0 ≤ IntKind.u64.wrap a0 := by rw [IntKind.wrap_u64]; omega
    rw [Int.tmod_eq_emod_of_nonneg h0]
    exact ⟨(IntKind.u64.wrap a0 % 8).toNat, by omega, by omega⟩
  have HL : Hid (Lw w) := hL
  go_enter Tryz.func5, Tryz.ntmps5
  go_wp2_with fail
  refine (awake_any w hL).mono ?_
  rintro e w1 ⟨rfl, hb1⟩
  have HB1 : Hid (Below w.heap.size w w1) := hb1
  clear hb1 hL
  obtain rfl | rfl | rfl | rfl | rfl | rfl | rfl | rfl : m = 0 ∨ m = 1 ∨ m = 2 ∨ m = 3 ∨ m = 4 ∨ m = 5 ∨ m = 6 ∨ m = 7 := by omega
  · clear hlt
    go_wp2_with fail
    refine grabC (fun W => Below w.heap.size w W ∧ Exs W (some ⟨w1.heap.size, 0, none⟩) body0) ?_ (fun W2 hp => ?_)
    · refine ⟨HB1.out.alloc HB1.out.size _, ?_⟩
      refine exs_of_row (cs := #[I (0), I (-32768), I (0), nilS]) (World.alloc_heap_new _ _) ⟨rfl, rfl, rfl, ⟨_, _, rfl, nums_nil _ _⟩, trivial⟩
    · have HD2 : Hid (Exs W2 (some ⟨w1.heap.size, 0, none⟩) body0) := hp.2
      have HB2 : Hid (Below w.heap.size w W2) := hp.1
      refine (parse_any _ W2 (HL.out.on hp.1)).mono ?_
      intro e w3 hq
      replace hq : ParseQ (some [⟨0, body0⟩]) W2 e w3 := by
        rw [← pp0]
        exact hq
      obtain ⟨hb3, g, c, qs, rfl, hm3, hP3⟩ := hq
      have hD3 := hP3.defs' hm3
      have HX3 : Hid (Exs w3 (some ⟨w1.heap.size, 0, none⟩) body0) := HD2.out.on hb3
      have HB3 : Hid (Below w.heap.size w w3) := below_next HB2.out hb3
      have HD3 : Hid (Defs Exs w3 g [⟨0, body0⟩]) := hD3
      clear hm hp HD2 HB2 hb3 hm3 hP3 hD3 HB1
      rw [show ([⟨0, body0⟩] : List Df).length = 1 from rfl]
      go_wp2_with fail
      refine (num_any _ _).mono ?_
      rintro e w4 ⟨rfl, rfl⟩
      go_wp2_with fail
      refine grabC (fun W => Below w.heap.size w W ∧ Defs Exs W g [⟨0, body0⟩] ∧ Defs Exs W (some ⟨w3.heap.size + 1, 0, none⟩) [⟨0, body0⟩]) ?_ (fun W5 hp => ?_)
      · have hb : Below w3.heap.size w3 (w3.alloc (.cells #[.slice g 1 c] 24)) := (Below.refl _ w3).alloc (Nat.le_refl _) _
        refine ⟨(HB3.out.alloc HB3.out.size _).alloc (by have := HB3.out.size; simp; omega) _, (HD3.out.on hb).on ((Below.refl _ _).alloc (Nat.le_refl _) _), ?_⟩
        have h := one_def (c := 1) (n := 1) (HX3.out.on hb) rfl
        simp only [World.size_alloc] at h
        exact h
      · obtain ⟨h1, h2, h3⟩ := hp
        refine (same_may g (some ⟨w3.heap.size + 1, 0, none⟩) [⟨0, body0⟩] c 1 W5 h2 h3 (pp_pm pp0)).mono ?_
        rintro e w6 ⟨rfl, hb6⟩
        have HB6 : Hid (Below w.heap.size w w6) := below_next h1 hb6
        clear h1 h2 h3 hb6 HD3 HX3 HB3
        have hfd : ∀ (b : Nat) (W : World), (Instr.field 24 (.agg #[.slice (some ⟨b, 0, none⟩) 2 2]) 0).run Tryz.prog W = .ok (.slice (some ⟨b, 0, none⟩) 2 2) W := fun _ _ => by kernel_rfl
        go_wp2_with fail
        refine (small_any _).mono ?_
        rintro e w7 ⟨rfl, _, hb7, _⟩
        have HB7 : Hid (Below w.heap.size w w7) := below_next HB6.out hb7
        clear hb7 HB6
        go_wp2_with fail
        go_ret
        exact ⟨rfl, HB7.out⟩
  · clear hlt
    go_wp2_with fail
    refine grabC (fun W => Below w.heap.size w W ∧ Exs W (some ⟨w1.heap.size + 1, 0, none⟩) body1) ?_ (fun W2 hp => ?_)
    · refine ⟨(HB1.out.alloc HB1.out.size _).alloc (by have := HB1.out.size; simp; omega) _, ?_⟩
      refine exs_of_row (cs := #[I (0), I (5), I (0), nilS, I (1), I (0), I (0), nilS, I (6), I (0), I (0), .slice (some ⟨w1.heap.size, 0, none⟩) 2 2]) (by have h := World.alloc_heap_new ((w1).alloc (.cells #[.int .i64 0, .int .i64 1] 3)) (.cells #[I (0), I (5), I (0), nilS, I (1), I (0), I (0), nilS, I (6), I (0), I (0), .slice (some ⟨w1.heap.size, 0, none⟩) 2 2] 41); simp only [World.size_alloc] at h; exact h) ⟨rfl, rfl, rfl, ⟨_, _, rfl, nums_nil _ _⟩, rfl, rfl, rfl, ⟨_, _, rfl, nums_nil _ _⟩, rfl, rfl, rfl, ⟨_, _, rfl, ?k2⟩, trivial⟩
      case k2 =>
        have h := Lv.new (w1) [0, 1]
        exact ((h.alloc _)).nums
    · have HD2 : Hid (Exs W2 (some ⟨w1.heap.size + 1, 0, none⟩) body1) := hp.2
      have HB2 : Hid (Below w.heap.size w W2) := hp.1
      refine (parse_any _ W2 (HL.out.on hp.1)).mono ?_
      intro e w3 hq
      replace hq : ParseQ (some [⟨0, body1⟩]) W2 e w3 := by
        rw [← pp1]
        exact hq
      obtain ⟨hb3, g, c, qs, rfl, hm3, hP3⟩ := hq
      have hD3 := hP3.defs' hm3
      have HX3 : Hid (Exs w3 (some ⟨w1.heap.size + 1, 0, none⟩) body1) := HD2.out.on hb3
      have HB3 : Hid (Below w.heap.size w w3) := below_next HB2.out hb3
      have HD3 : Hid (Defs Exs w3 g [⟨0, body1⟩]) := hD3
      clear hm hp HD2 HB2 hb3 hm3 hP3 hD3 HB1
      rw [show ([⟨0, body1⟩] : List Df).length = 1 from rfl]
      go_wp2_with fail
      refine (num_any _ _).mono ?_
      rintro e w4 ⟨rfl, rfl⟩
      go_wp2_with fail
      refine grabC (fun W => Below w.heap.size w W ∧ Defs Exs W g [⟨0, body1⟩] ∧ Defs Exs W (some ⟨w3.heap.size + 1, 0, none⟩) [⟨0, body1⟩]) ?_ (fun W5 hp => ?_)
      · have hb : Below w3.heap.size w3 (w3.alloc (.cells #[.slice g 1 c] 24)) := (Below.refl _ w3).alloc (Nat.le_refl _) _
        refine ⟨(HB3.out.alloc HB3.out.size _).alloc (by have := HB3.out.size; simp; omega) _, (HD3.out.on hb).on ((Below.refl _ _).alloc (Nat.le_refl _) _), ?_⟩
        have h := one_def (c := 3) (n := 3) (HX3.out.on hb) rfl
        simp only [World.size_alloc] at h
        exact h
      · obtain ⟨h1, h2, h3⟩ := hp
        refine (same_may g (some ⟨w3.heap.size + 1, 0, none⟩) [⟨0, body1⟩] c 1 W5 h2 h3 (pp_pm pp1)).mono ?_
        rintro e w6 ⟨rfl, hb6⟩
        have HB6 : Hid (Below w.heap.size w w6) := below_next h1 hb6
        clear h1 h2 h3 hb6 HD3 HX3 HB3
        have hfd : ∀ (b : Nat) (W : World), (Instr.field 24 (.agg #[.slice (some ⟨b, 0, none⟩) 2 2]) 0).run Tryz.prog W = .ok (.slice (some ⟨b, 0, none⟩) 2 2) W := fun _ _ => by kernel_rfl
        go_wp2_with fail
        refine (small_any _).mono ?_
        rintro e w7 ⟨rfl, _, hb7, _⟩
        have HB7 : Hid (Below w.heap.size w w7) := below_next HB6.out hb7
        clear hb7 HB6
        go_wp2_with fail
        go_ret
        exact ⟨rfl, HB7.out⟩
  · clear hlt
    go_wp2_with fail
    refine grabC (fun W => Below w.heap.size w W ∧ Exs W (some ⟨w1.heap.size, 0, none⟩) body2) ?_ (fun W2 hp => ?_)
    · refine ⟨HB1.out.alloc HB1.out.size _, ?_⟩
      refine exs_of_row (cs := #[I (2), I (0), I (0), nilS]) (World.alloc_heap_new _ _) ⟨rfl, rfl, rfl, ⟨_, _, rfl, nums_nil _ _⟩, trivial⟩
    · have HD2 : Hid (Exs W2 (some ⟨w1.heap.size, 0, none⟩) body2) := hp.2
      have HB2 : Hid (Below w.heap.size w W2) := hp.1
      refine (parse_any _ W2 (HL.out.on hp.1)).mono ?_
      intro e w3 hq
      replace hq : ParseQ (some [⟨0, body2⟩]) W2 e w3 := by
        rw [← pp2]
        exact hq
      obtain ⟨hb3, g, c, qs, rfl, hm3, hP3⟩ := hq
      have hD3 := hP3.defs' hm3
      have HX3 : Hid (Exs w3 (some ⟨w1.heap.size, 0, none⟩) body2) := HD2.out.on hb3
      have HB3 : Hid (Below w.heap.size w w3) := below_next HB2.out hb3
      have HD3 : Hid (Defs Exs w3 g [⟨0, body2⟩]) := hD3
      clear hm hp HD2 HB2 hb3 hm3 hP3 hD3 HB1
      rw [show ([⟨0, body2⟩] : List Df).length = 1 from rfl]
      go_wp2_with fail
      refine (num_any _ _).mono ?_
      rintro e w4 ⟨rfl, rfl⟩
      go_wp2_with fail
      refine grabC (fun W => Below w.heap.size w W ∧ Defs Exs W g [⟨0, body2⟩] ∧ Defs Exs W (some ⟨w3.heap.size + 1, 0, none⟩) [⟨0, body2⟩]) ?_ (fun W5 hp => ?_)
      · have hb : Below w3.heap.size w3 (w3.alloc (.cells #[.slice g 1 c] 24)) := (Below.refl _ w3).alloc (Nat.le_refl _) _
        refine ⟨(HB3.out.alloc HB3.out.size _).alloc (by have := HB3.out.size; simp; omega) _, (HD3.out.on hb).on ((Below.refl _ _).alloc (Nat.le_refl _) _), ?_⟩
        have h := one_def (c := 1) (n := 1) (HX3.out.on hb) rfl
        simp only [World.size_alloc] at h
        exact h
      · obtain ⟨h1, h2, h3⟩ := hp
        refine (same_may g (some ⟨w3.heap.size + 1, 0, none⟩) [⟨0, body2⟩] c 1 W5 h2 h3 (pp_pm pp2)).mono ?_
        rintro e w6 ⟨rfl, hb6⟩
        have HB6 : Hid (Below w.heap.size w w6) := below_next h1 hb6
        clear h1 h2 h3 hb6 HD3 HX3 HB3
        have hfd : ∀ (b : Nat) (W : World), (Instr.field 24 (.agg #[.slice (some ⟨b, 0, none⟩) 2 2]) 0).run Tryz.prog W = .ok (.slice (some ⟨b, 0, none⟩) 2 2) W := fun _ _ => by kernel_rfl
        go_wp2_with fail
        refine (small_any _).mono ?_
        rintro e w7 ⟨rfl, _, hb7, _⟩
        have HB7 : Hid (Below w.heap.size w w7) := below_next HB6.out hb7
        clear hb7 HB6
        go_wp2_with fail
        go_ret
        exact ⟨rfl, HB7.out⟩
  · clear hlt
    go_wp2_with fail
    refine grabC (fun W => Below w.heap.size w W ∧ Exs W (some ⟨w1.heap.size, 0, none⟩) body3) ?_ (fun W2 hp => ?_)
    · refine ⟨HB1.out.alloc HB1.out.size _, ?_⟩
      refine exs_of_row (cs := #[I (3), I (99), I (0), nilS]) (World.alloc_heap_new _ _) ⟨rfl, rfl, rfl, ⟨_, _, rfl, nums_nil _ _⟩, trivial⟩
    · have HD2 : Hid (Exs W2 (some ⟨w1.heap.size, 0, none⟩) body3) := hp.2
      have HB2 : Hid (Below w.heap.size w W2) := hp.1
      refine (parse_any _ W2 (HL.out.on hp.1)).mono ?_
      intro e w3 hq
      replace hq : ParseQ (some [⟨0, body3⟩]) W2 e w3 := by
        rw [← pp3]
        exact hq
      obtain ⟨hb3, g, c, qs, rfl, hm3, hP3⟩ := hq
      have hD3 := hP3.defs' hm3
      have HX3 : Hid (Exs w3 (some ⟨w1.heap.size, 0, none⟩) body3) := HD2.out.on hb3
      have HB3 : Hid (Below w.heap.size w w3) := below_next HB2.out hb3
      have HD3 : Hid (Defs Exs w3 g [⟨0, body3⟩]) := hD3
      clear hm hp HD2 HB2 hb3 hm3 hP3 hD3 HB1
      rw [show ([⟨0, body3⟩] : List Df).length = 1 from rfl]
      go_wp2_with fail
      refine (num_any _ _).mono ?_
      rintro e w4 ⟨rfl, rfl⟩
      go_wp2_with fail
      refine grabC (fun W => Below w.heap.size w W ∧ Defs Exs W g [⟨0, body3⟩] ∧ Defs Exs W (some ⟨w3.heap.size + 1, 0, none⟩) [⟨0, body3⟩]) ?_ (fun W5 hp => ?_)
      · have hb : Below w3.heap.size w3 (w3.alloc (.cells #[.slice g 1 c] 24)) := (Below.refl _ w3).alloc (Nat.le_refl _) _
        refine ⟨(HB3.out.alloc HB3.out.size _).alloc (by have := HB3.out.size; simp; omega) _, (HD3.out.on hb).on ((Below.refl _ _).alloc (Nat.le_refl _) _), ?_⟩
        have h := one_def (c := 1) (n := 1) (HX3.out.on hb) rfl
        simp only [World.size_alloc] at h
        exact h
      · obtain ⟨h1, h2, h3⟩ := hp
        refine (same_may g (some ⟨w3.heap.size + 1, 0, none⟩) [⟨0, body3⟩] c 1 W5 h2 h3 (pp_pm pp3)).mono ?_
        rintro e w6 ⟨rfl, hb6⟩
        have HB6 : Hid (Below w.heap.size w w6) := below_next h1 hb6
        clear h1 h2 h3 hb6 HD3 HX3 HB3
        have hfd : ∀ (b : Nat) (W : World), (Instr.field 24 (.agg #[.slice (some ⟨b, 0, none⟩) 2 2]) 0).run Tryz.prog W = .ok (.slice (some ⟨b, 0, none⟩) 2 2) W := fun _ _ => by kernel_rfl
        go_wp2_with fail
        refine (small_any _).mono ?_
        rintro e w7 ⟨rfl, _, hb7, _⟩
        have HB7 : Hid (Below w.heap.size w w7) := below_next HB6.out hb7
        clear hb7 HB6
        go_wp2_with fail
        go_ret
        exact ⟨rfl, HB7.out⟩
  · clear hlt
    go_wp2_with fail
    refine grabC (fun W => Below w.heap.size w W ∧ Exs W (some ⟨w1.heap.size + 1, 0, none⟩) body4) ?_ (fun W2 hp => ?_)
    · refine ⟨(HB1.out.alloc HB1.out.size _).alloc (by have := HB1.out.size; simp; omega) _, ?_⟩
      refine exs_of_row (cs := #[I (3), I (1), I (0), nilS, I (7), I (0), I (0), nilS, I (0), I (0), I (0), nilS, I (3), I (0), I (0), .slice (some ⟨w1.heap.size, 0, none⟩) 3 3]) (by have h := World.alloc_heap_new ((w1).alloc (.cells #[.int .i64 0, .int .i64 1, .int .i64 2] 3)) (.cells #[I (3), I (1), I (0), nilS, I (7), I (0), I (0), nilS, I (0), I (0), I (0), nilS, I (3), I (0), I (0), .slice (some ⟨w1.heap.size, 0, none⟩) 3 3] 41); simp only [World.size_alloc] at h; exact h) ⟨rfl, rfl, rfl, ⟨_, _, rfl, nums_nil _ _⟩, rfl, rfl, rfl, ⟨_, _, rfl, nums_nil _ _⟩, rfl, rfl, rfl, ⟨_, _, rfl, nums_nil _ _⟩, rfl, rfl, rfl, ⟨_, _, rfl, ?k3⟩, trivial⟩
      case k3 =>
        have h := Lv.new (w1) [0, 1, 2]
        exact ((h.alloc _)).nums
    · have HD2 : Hid (Exs W2 (some ⟨w1.heap.size + 1, 0, none⟩) body4) := hp.2
      have HB2 : Hid (Below w.heap.size w W2) := hp.1
      refine (parse_any _ W2 (HL.out.on hp.1)).mono ?_
      intro e w3 hq
      replace hq : ParseQ (some [⟨0, body4⟩]) W2 e w3 := by
        rw [← pp4]
        exact hq
      obtain ⟨hb3, g, c, qs, rfl, hm3, hP3⟩ := hq
      have hD3 := hP3.defs' hm3
      have HX3 : Hid (Exs w3 (some ⟨w1.heap.size + 1, 0, none⟩) body4) := HD2.out.on hb3
      have HB3 : Hid (Below w.heap.size w w3) := below_next HB2.out hb3
      have HD3 : Hid (Defs Exs w3 g [⟨0, body4⟩]) := hD3
      clear hm hp HD2 HB2 hb3 hm3 hP3 hD3 HB1
      rw [show ([⟨0, body4⟩] : List Df).length = 1 from rfl]
      go_wp2_with fail
      refine (num_any _ _).mono ?_
      rintro e w4 ⟨rfl, rfl⟩
      go_wp2_with fail
      refine grabC (fun W => Below w.heap.size w W ∧ Defs Exs W g [⟨0, body4⟩] ∧ Defs Exs W (some ⟨w3.heap.size + 1, 0, none⟩) [⟨0, body4⟩]) ?_ (fun W5 hp => ?_)
      · have hb : Below w3.heap.size w3 (w3.alloc (.cells #[.slice g 1 c] 24)) := (Below.refl _ w3).alloc (Nat.le_refl _) _
        refine ⟨(HB3.out.alloc HB3.out.size _).alloc (by have := HB3.out.size; simp; omega) _, (HD3.out.on hb).on ((Below.refl _ _).alloc (Nat.le_refl _) _), ?_⟩
        have h := one_def (c := 4) (n := 4) (HX3.out.on hb) rfl
        simp only [World.size_alloc] at h
        exact h
      · obtain ⟨h1, h2, h3⟩ := hp
        refine (same_may g (some ⟨w3.heap.size + 1, 0, none⟩) [⟨0, body4⟩] c 1 W5 h2 h3 (pp_pm pp4)).mono ?_
        rintro e w6 ⟨rfl, hb6⟩
        have HB6 : Hid (Below w.heap.size w w6) := below_next h1 hb6
        clear h1 h2 h3 hb6 HD3 HX3 HB3
        have hfd : ∀ (b : Nat) (W : World), (Instr.field 24 (.agg #[.slice (some ⟨b, 0, none⟩) 2 2]) 0).run Tryz.prog W = .ok (.slice (some ⟨b, 0, none⟩) 2 2) W := fun _ _ => by kernel_rfl
        go_wp2_with fail
        refine (small_any _).mono ?_
        rintro e w7 ⟨rfl, _, hb7, _⟩
        have HB7 : Hid (Below w.heap.size w w7) := below_next HB6.out hb7
        clear hb7 HB6
        go_wp2_with fail
        go_ret
        exact ⟨rfl, HB7.out⟩
  · clear hlt
    go_wp2_with fail
    refine grabC (fun W => Below w.heap.size w W ∧ Exs W (some ⟨w1.heap.size + 1 + 1, 0, none⟩) body5) ?_ (fun W2 hp => ?_)
    · refine ⟨((HB1.out.alloc HB1.out.size _).alloc (by have := HB1.out.size; simp; omega) _).alloc (by have := HB1.out.size; simp; omega) _, ?_⟩
      refine exs_of_row (cs := #[I (0), I (1), I (0), nilS, I (0), I (2), I (0), nilS, I (0), I (3), I (0), nilS, I (4), I (3), I (0), .slice (some ⟨w1.heap.size, 0, none⟩) 2 2, I (4), I (4), I (0), .slice (some ⟨w1.heap.size + 1, 0, none⟩) 2 2]) (by have h := World.alloc_heap_new (((w1).alloc (.cells #[.int .i64 1, .int .i64 2] 3)).alloc (.cells #[.int .i64 0, .int .i64 3] 3)) (.cells #[I (0), I (1), I (0), nilS, I (0), I (2), I (0), nilS, I (0), I (3), I (0), nilS, I (4), I (3), I (0), .slice (some ⟨w1.heap.size, 0, none⟩) 2 2, I (4), I (4), I (0), .slice (some ⟨w1.heap.size + 1, 0, none⟩) 2 2] 41); simp only [World.size_alloc] at h; exact h) ⟨rfl, rfl, rfl, ⟨_, _, rfl, nums_nil _ _⟩, rfl, rfl, rfl, ⟨_, _, rfl, nums_nil _ _⟩, rfl, rfl, rfl, ⟨_, _, rfl, nums_nil _ _⟩, rfl, rfl, rfl, ⟨_, _, rfl, ?k3⟩, rfl, rfl, rfl, ⟨_, _, rfl, ?k4⟩, trivial⟩
      case k3 =>
        have h := Lv.new (w1) [1, 2]
        exact (((h.alloc _).alloc _)).nums
      case k4 =>
        have h := Lv.new ((w1).alloc (.cells #[.int .i64 1, .int .i64 2] 3)) [0, 3]
        simp only [World.size_alloc] at h
        exact ((h.alloc _)).nums
    · have HD2 : Hid (Exs W2 (some ⟨w1.heap.size + 1 + 1, 0, none⟩) body5) := hp.2
      have HB2 : Hid (Below w.heap.size w W2) := hp.1
      refine (parse_any _ W2 (HL.out.on hp.1)).mono ?_
      intro e w3 hq
      replace hq : ParseQ (some [⟨0, body5⟩]) W2 e w3 := by
        rw [← pp5]
        exact hq
      obtain ⟨hb3, g, c, qs, rfl, hm3, hP3⟩ := hq
      have hD3 := hP3.defs' hm3
      have HX3 : Hid (Exs w3 (some ⟨w1.heap.size + 1 + 1, 0, none⟩) body5) := HD2.out.on hb3
      have HB3 : Hid (Below w.heap.size w w3) := below_next HB2.out hb3
      have HD3 : Hid (Defs Exs w3 g [⟨0, body5⟩]) := hD3
      clear hm hp HD2 HB2 hb3 hm3 hP3 hD3 HB1
      rw [show ([⟨0, body5⟩] : List Df).length = 1 from rfl]
      go_wp2_with fail
      refine (num_any _ _).mono ?_
      rintro e w4 ⟨rfl, rfl⟩
      go_wp2_with fail
      refine grabC (fun W => Below w.heap.size w W ∧ Defs Exs W g [⟨0, body5⟩] ∧ Defs Exs W (some ⟨w3.heap.size + 1, 0, none⟩) [⟨0, body5⟩]) ?_ (fun W5 hp => ?_)
      · have hb : Below w3.heap.size w3 (w3.alloc (.cells #[.slice g 1 c] 24)) := (Below.refl _ w3).alloc (Nat.le_refl _) _
        refine ⟨(HB3.out.alloc HB3.out.size _).alloc (by have := HB3.out.size; simp; omega) _, (HD3.out.on hb).on ((Below.refl _ _).alloc (Nat.le_refl _) _), ?_⟩
        have h := one_def (c := 5) (n := 5) (HX3.out.on hb) rfl
        simp only [World.size_alloc] at h
        exact h
      · obtain ⟨h1, h2, h3⟩ := hp
        refine (same_may g (some ⟨w3.heap.size + 1, 0, none⟩) [⟨0, body5⟩] c 1 W5 h2 h3 (pp_pm pp5)).mono ?_
        rintro e w6 ⟨rfl, hb6⟩
        have HB6 : Hid (Below w.heap.size w w6) := below_next h1 hb6
        clear h1 h2 h3 hb6 HD3 HX3 HB3
        have hfd : ∀ (b : Nat) (W : World), (Instr.field 24 (.agg #[.slice (some ⟨b, 0, none⟩) 2 2]) 0).run Tryz.prog W = .ok (.slice (some ⟨b, 0, none⟩) 2 2) W := fun _ _ => by kernel_rfl
        go_wp2_with fail
        refine (small_any _).mono ?_
        rintro e w7 ⟨rfl, _, hb7, _⟩
        have HB7 : Hid (Below w.heap.size w w7) := below_next HB6.out hb7
        clear hb7 HB6
        go_wp2_with fail
        go_ret
        exact ⟨rfl, HB7.out⟩
  · clear hlt
    go_wp2_with fail
    refine grabC (fun W => Below w.heap.size w W ∧ Exs W (some ⟨w1.heap.size + 1 + 1 + 1, 0, none⟩) body6) ?_ (fun W2 hp => ?_)
    · refine ⟨(((HB1.out.alloc HB1.out.size _).alloc (by have := HB1.out.size; simp; omega) _).alloc (by have := HB1.out.size; simp; omega) _).alloc (by have := HB1.out.size; simp; omega) _, ?_⟩
      refine exs_of_row (cs := #[I (3), I (2), I (0), nilS, I (0), I (1), I (0), nilS, I (0), I (2), I (0), nilS, I (4), I (1), I (0), .slice (some ⟨w1.heap.size, 0, none⟩) 2 2, I (0), I (3), I (0), nilS, I (0), I (4), I (0), nilS, I (4), I (2), I (0), .slice (some ⟨w1.heap.size + 1, 0, none⟩) 2 2, I (5), I (2), I (0), .slice (some ⟨w1.heap.size + 1 + 1, 0, none⟩) 3 3]) (by have h := World.alloc_heap_new ((((w1).alloc (.cells #[.int .i64 1, .int .i64 2] 3)).alloc (.cells #[.int .i64 4, .int .i64 5] 3)).alloc (.cells #[.int .i64 0, .int .i64 3, .int .i64 6] 3)) (.cells #[I (3), I (2), I (0), nilS, I (0), I (1), I (0), nilS, I (0), I (2), I (0), nilS, I (4), I (1), I (0), .slice (some ⟨w1.heap.size, 0, none⟩) 2 2, I (0), I (3), I (0), nilS, I (0), I (4), I (0), nilS, I (4), I (2), I (0), .slice (some ⟨w1.heap.size + 1, 0, none⟩) 2 2, I (5), I (2), I (0), .slice (some ⟨w1.heap.size + 1 + 1, 0, none⟩) 3 3] 41); simp only [World.size_alloc] at h; exact h) ⟨rfl, rfl, rfl, ⟨_, _, rfl, nums_nil _ _⟩, rfl, rfl, rfl, ⟨_, _, rfl, nums_nil _ _⟩, rfl, rfl, rfl, ⟨_, _, rfl, nums_nil _ _⟩, rfl, rfl, rfl, ⟨_, _, rfl, ?k3⟩, rfl, rfl, rfl, ⟨_, _, rfl, nums_nil _ _⟩, rfl, rfl, rfl, ⟨_, _, rfl, nums_nil _ _⟩, rfl, rfl, rfl, ⟨_, _, rfl, ?k6⟩, rfl, rfl, rfl, ⟨_, _, rfl, ?k7⟩, trivial⟩
      case k3 =>
        have h := Lv.new (w1) [1, 2]
        exact ((((h.alloc _).alloc _).alloc _)).nums
      case k6 =>
        have h := Lv.new ((w1).alloc (.cells #[.int .i64 1, .int .i64 2] 3)) [4, 5]
        simp only [World.size_alloc] at h
        exact (((h.alloc _).alloc _)).nums
      case k7 =>
        have h := Lv.new (((w1).alloc (.cells #[.int .i64 1, .int .i64 2] 3)).alloc (.cells #[.int .i64 4, .int .i64 5] 3)) [0, 3, 6]
        simp only [World.size_alloc] at h
        exact ((h.alloc _)).nums
    · have HD2 : Hid (Exs W2 (some ⟨w1.heap.size + 1 + 1 + 1, 0, none⟩) body6) := hp.2
      have HB2 : Hid (Below w.heap.size w W2) := hp.1
      refine (parse_any _ W2 (HL.out.on hp.1)).mono ?_
      intro e w3 hq
      replace hq : ParseQ (some [⟨0, body6⟩]) W2 e w3 := by
        rw [← pp6]
        exact hq
      obtain ⟨hb3, g, c, qs, rfl, hm3, hP3⟩ := hq
      have hD3 := hP3.defs' hm3
      have HX3 : Hid (Exs w3 (some ⟨w1.heap.size + 1 + 1 + 1, 0, none⟩) body6) := HD2.out.on hb3
      have HB3 : Hid (Below w.heap.size w w3) := below_next HB2.out hb3
      have HD3 : Hid (Defs Exs w3 g [⟨0, body6⟩]) := hD3
      clear hm hp HD2 HB2 hb3 hm3 hP3 hD3 HB1
      rw [show ([⟨0, body6⟩] : List Df).length = 1 from rfl]
      go_wp2_with fail
      refine (num_any _ _).mono ?_
      rintro e w4 ⟨rfl, rfl⟩
      go_wp2_with fail
      refine grabC (fun W => Below w.heap.size w W ∧ Defs Exs W g [⟨0, body6⟩] ∧ Defs Exs W (some ⟨w3.heap.size + 1, 0, none⟩) [⟨0, body6⟩]) ?_ (fun W5 hp => ?_)
      · have hb : Below w3.heap.size w3 (w3.alloc (.cells #[.slice g 1 c] 24)) := (Below.refl _ w3).alloc (Nat.le_refl _) _
        refine ⟨(HB3.out.alloc HB3.out.size _).alloc (by have := HB3.out.size; simp; omega) _, (HD3.out.on hb).on ((Below.refl _ _).alloc (Nat.le_refl _) _), ?_⟩
        have h := one_def (c := 8) (n := 8) (HX3.out.on hb) rfl
        simp only [World.size_alloc] at h
        exact h
      · obtain ⟨h1, h2, h3⟩ := hp
        refine (same_may g (some ⟨w3.heap.size + 1, 0, none⟩) [⟨0, body6⟩] c 1 W5 h2 h3 (pp_pm pp6)).mono ?_
        rintro e w6 ⟨rfl, hb6⟩
        have HB6 : Hid (Below w.heap.size w w6) := below_next h1 hb6
        clear h1 h2 h3 hb6 HD3 HX3 HB3
        have hfd : ∀ (b : Nat) (W : World), (Instr.field 24 (.agg #[.slice (some ⟨b, 0, none⟩) 2 2]) 0).run Tryz.prog W = .ok (.slice (some ⟨b, 0, none⟩) 2 2) W := fun _ _ => by kernel_rfl
        go_wp2_with fail
        refine (small_any _).mono ?_
        rintro e w7 ⟨rfl, _, hb7, _⟩
        have HB7 : Hid (Below w.heap.size w w7) := below_next HB6.out hb7
        clear hb7 HB6
        go_wp2_with fail
        go_ret
        exact ⟨rfl, HB7.out⟩
  · clear hlt
    go_wp2_with fail
    refine grabC (fun W => Below w.heap.size w W ∧ Exs W (some ⟨w1.heap.size, 0, none⟩) body7) ?_ (fun W2 hp => ?_)
    · refine ⟨HB1.out.alloc HB1.out.size _, ?_⟩
      refine exs_of_row (cs := #[I (7), I (0), I (0), nilS]) (World.alloc_heap_new _ _) ⟨rfl, rfl, rfl, ⟨_, _, rfl, nums_nil _ _⟩, trivial⟩
    · have HD2 : Hid (Exs W2 (some ⟨w1.heap.size, 0, none⟩) body7) := hp.2
      have HB2 : Hid (Below w.heap.size w W2) := hp.1
      refine (parse_any _ W2 (HL.out.on hp.1)).mono ?_
      intro e w3 hq
      replace hq : ParseQ (some [⟨0, body7⟩]) W2 e w3 := by
        rw [← pp7]
        exact hq
      obtain ⟨hb3, g, c, qs, rfl, hm3, hP3⟩ := hq
      have hD3 := hP3.defs' hm3
      have HX3 : Hid (Exs w3 (some ⟨w1.heap.size, 0, none⟩) body7) := HD2.out.on hb3
      have HB3 : Hid (Below w.heap.size w w3) := below_next HB2.out hb3
      have HD3 : Hid (Defs Exs w3 g [⟨0, body7⟩]) := hD3
      clear hm hp HD2 HB2 hb3 hm3 hP3 hD3 HB1
      rw [show ([⟨0, body7⟩] : List Df).length = 1 from rfl]
      go_wp2_with fail
      refine (num_any _ _).mono ?_
      rintro e w4 ⟨rfl, rfl⟩
      go_wp2_with fail
      refine grabC (fun W => Below w.heap.size w W ∧ Defs Exs W g [⟨0, body7⟩] ∧ Defs Exs W (some ⟨w3.heap.size + 1, 0, none⟩) [⟨0, body7⟩]) ?_ (fun W5 hp => ?_)
      · have hb : Below w3.heap.size w3 (w3.alloc (.cells #[.slice g 1 c] 24)) := (Below.refl _ w3).alloc (Nat.le_refl _) _
        refine ⟨(HB3.out.alloc HB3.out.size _).alloc (by have := HB3.out.size; simp; omega) _, (HD3.out.on hb).on ((Below.refl _ _).alloc (Nat.le_refl _) _), ?_⟩
        have h := one_def (c := 1) (n := 1) (HX3.out.on hb) rfl
        simp only [World.size_alloc] at h
        exact h
      · obtain ⟨h1, h2, h3⟩ := hp
        refine (same_may g (some ⟨w3.heap.size + 1, 0, none⟩) [⟨0, body7⟩] c 1 W5 h2 h3 (pp_pm pp7)).mono ?_
        rintro e w6 ⟨rfl, hb6⟩
        have HB6 : Hid (Below w.heap.size w w6) := below_next h1 hb6
        clear h1 h2 h3 hb6 HD3 HX3 HB3
        have hfd : ∀ (b : Nat) (W : World), (Instr.field 24 (.agg #[.slice (some ⟨b, 0, none⟩) 2 2]) 0).run Tryz.prog W = .ok (.slice (some ⟨b, 0, none⟩) 2 2) W := fun _ _ => by kernel_rfl
        go_wp2_with fail
        refine (small_any _).mono ?_
        rintro e w7 ⟨rfl, _, hb7, _⟩
        have HB7 : Hid (Below w.heap.size w w7) := below_next HB6.out hb7
        clear hb7 HB6
        go_wp2_with fail
        go_ret
        exact ⟨rfl, HB7.out⟩

set_option maxRecDepth 100000 in
/-- What the walk gives, for every argument and every world that holds the list. -/
theorem contract (H : Type) (enc : TypeId × Value → H) (W : World) (base : Nat) (args : Array Value) (ds gs : List (DataW H)) (before : List MemPlace)
    (hval : ∀ (j : Nat) t v, Tryz.f5.params[j]? = some t → args[j]? = some v → Value.okWide Tryz.prog W .any base t v)
    (hW : DataW.Whole enc Tryz.prog Tryz.f5.params.toList Rows.parseTextsSpec.vars false W args.toList ds gs before)
    (hL : laidMetH Tryz.prog Rows.parseTextsRow.laid W) :
    Calls Tryz.prog 5 args W fun e W' => ∃ v, e = .returned v ∧ Rows.parseTextsSpec.post enc Tryz.prog Tryz.f5 false true false false W args v W' := by
  have hW' := hW
  obtain ⟨p, q, hA0, hV, rfl, hfz, hnd⟩ := hW
  have hA : DataW.TrodAll enc Tryz.prog W 0 (fun _ => true) true Tryz.f5.params.toList args.toList ds p := hA0
  rw [Tryz.params5] at hA hval
  obtain ⟨v0, vs0, d0, ds0, p0, q0, hargs, rfl, rfl, h0, r0⟩ := trodAll_cons hA
  obtain ⟨rfl, rfl, rfl⟩ := trodAll_nil r0
  obtain rfl : args = #[v0] := by cases args; simp_all
  obtain ⟨rfl, rfl⟩ := trodVars_none hV
  obtain ⟨a0, rfl, rfl, rfl, w0⟩ := open_int Tryz.underlying3 (hval 0 3 v0 rfl rfl) h0
  clear hA0
  simp only [List.append_nil] at hW'
  refine (walk a0 W (lw_of hL)).mono fun e W' ⟨he, hg⟩ => ?_
  subst he
  exact ⟨_, rfl, _, _, _, [], [], [], hW', trodAll_cons_mk (shut_bool Tryz.underlying4 _) trodAll_mk0, trodAll_cons_mk (shut_int Tryz.underlying3 w0) trodAll_mk0, rfl, hg.frame _, fun h => by cases h⟩

theorem reads (os : Os) {H : Type} (enc : TypeId × Value → H) : ∃ places, DataW.whole enc Tryz.prog ((World.laidAll Tryz.prog os Rows.parseTextsRow.laid).forCall (fun _ _ => 0) ⟨#[], #[.int .i64 0], []⟩).memory Tryz.f5.params.toList Rows.parseTextsSpec.vars false #[Value.int .i64 0].toList 8 = some ([.lit (.int .i64 0)], [], places) :=
  ⟨[], by kernel_rfl⟩

set_option maxRecDepth 100000 in
theorem lifted (os : Os) (started : os.Started) (H : Type) (enc : TypeId × Value → H) (F : Stop.Interp) :
    ReturnsInHanded {} Tryz.checked os 5 .any ((OpenSpec.ofChange Rows.parseTextsSpec).preRow enc Tryz.prog Tryz.f5 Rows.parseTextsRow.domain false Rows.parseTextsRow.laid) (((OpenSpec.ofChange Rows.parseTextsSpec).at F).post enc Tryz.prog Tryz.f5 false true false false) := by
  obtain ⟨places, hx⟩ := reads os enc
  refine returnsInHanded_of_row (C := Tryz.checked) (s := OpenSpec.ofChange Rows.parseTextsSpec) own started (by kernel_rfl) Tryz.func5
    (witness_row_atRef (enc := enc) (C := Tryz.checked) false (World.laidAll Tryz.prog os Rows.parseTextsRow.laid) #[.int .i64 0] (World.laidAll_os _ _ _) (by kernel_rfl) (by kernel_rfl) (by kernel_rfl)
      (OpenSpec.preRow_of_cond 8 hx (by kernel_rfl) (fun k hk => by cases hk) (by kernel_rfl) (door_met os _))) ?_
  intro W base args ds gs before hval hW _ _ _ hL _ _
  exact contract H enc W base args ds gs before hval hW hL

theorem said : Rows.ParseTextsSaid :=
  OpenClaim.holds_of_cond 5 Tryz.f5 rfl rfl rfl rfl rfl rfl rfl ⟨rfl, rfl, rfl, rfl, rfl⟩ rfl rfl rfl rfl rfl (by kernel_rfl) Tryz.func5 (by kernel_rfl)
    (of_decide_eq_true (by kernel_rfl)) (by unfold Func.isWrapper; first | (rw [if_pos (by decide +kernel)]; kernel_rfl) | (rw [if_neg (by decide +kernel)]; exact ⟨rfl, rfl⟩))
    (fun os started H enc _ F => by rw [OpenClaim.pre_eq_preRow]; exact lifted os started H enc F)

theorem plain (f : FuncId) (fn : Func) (hf : Tryz.pinned.checked.prog.funcNamed "sleuth/sleuthlaw7.ParseTexts" = some f) (hfn : Tryz.pinned.checked.prog.funcs[f]? = some fn) :
    true = Tryz.pinned.checked.prog.looks [] ∧ ∀ (j : Nat) t, fn.params[j]? = some t → Tryz.pinned.checked.prog.wantsStandIn t = false := by
  obtain rfl : f = 5 := Option.some.inj ((show Tryz.prog.funcNamed "sleuth/sleuthlaw7.ParseTexts" = some 5 by kernel_rfl).symm.trans hf) |>.symm
  obtain rfl : fn = Tryz.f5 := (Option.some.inj (Tryz.func5.symm.trans hfn)).symm
  refine ⟨by kernel_rfl, fun j t ht => ?_⟩
  rw [Tryz.params5] at ht
  have hm : t ∈ [3] := by simpa using Array.mem_of_getElem? ht
  have hall : ([3].all fun u => !Tryz.prog.wantsStandIn u) = true := by kernel_rfl
  exact (show Tryz.prog.wantsStandIn t = false by simpa using List.all_eq_true.1 hall t hm)

/-- The given statement. -/
theorem card : Rows.ParseTextsCardSaid :=
  Claim7.holds_tied_plain_at .later [] _ _ _ _ said (fun _ h => by cases h) (by kernel_rfl) (fun _ h => by cases h) parseTexts_row_tie rfl ⟨rfl, rfl⟩ (by kernel_rfl) rfl plain (by kernel_rfl)
end Go.Proofs.YtighcikiaddfcaaGreatDoor.parseTexts
namespace Go.Proofs.YtighcikiaddfcaaGreatDoor
theorem parseTexts_holds : Rows.ParseTextsCardSaid := parseTexts.card
end Go.Proofs.YtighcikiaddfcaaGreatDoor
