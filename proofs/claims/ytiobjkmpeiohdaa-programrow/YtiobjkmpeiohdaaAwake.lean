/- The contract of the laws' awake. -/
import Derived.Test.YtiobjkmpeiohdaaSmall
namespace Go.Proofs.Ytiobjkmpeiohdaa
open Go.RowKit
set_option linter.unusedVariables false

def smallA : List Df := [⟨0, mainL⟩]
def smallB : List Df := [⟨0, mainL⟩, ⟨1, addsL⟩]
theorem pmay_smallA : pmay smallA = false := by decide +kernel
theorem pmay_smallB : pmay smallB = false := by decide +kernel
theorem pmay_none : pmay [] = false := by decide +kernel

/-- Something is done in a block that is none of small's. -/
theorem SmallAt.other {w : World} {B b' : Nat} (h : SmallAt w B) (hb : b' < B + 1 ∨ B + 10 < b') (j : Nat) (v : Value) : SmallAt (w.setCell ⟨b', j, none⟩ v) B :=
  ⟨h.row.other j v (by omega), h.main.other j v (by omega), h.k1.other j v (by omega), h.k2.other j v (by omega),
    ⟨(show Rw _ _ _ from h.adds.body).other j v (by omega), h.adds.k1.other j v (by omega), h.adds.k2.other j v (by omega), h.adds.k3.other j v (by omega)⟩⟩
theorem SmallAt.alloc {w : World} {B : Nat} (h : SmallAt w B) (o : Obj) : SmallAt (w.alloc o) B := h.on ((Below.refl _ w).alloc (Nat.le_refl _) o)
theorem AddsAt.other {w : World} {B b' : Nat} (h : AddsAt w B) (hb : b' < B + 1 ∨ B + 4 < b') (j : Nat) (v : Value) : AddsAt (w.setCell ⟨b', j, none⟩ v) B :=
  ⟨(show Rw _ _ _ from h.body).other j v (by omega), h.k1.other j v (by omega), h.k2.other j v (by omega), h.k3.other j v (by omega)⟩
/-- The row of definitions is turned, all else is as it was. -/
theorem SmallAt.turned {w : World} {B : Nat} (h : SmallAt w B) (j : Nat) (v : Value) : Rd (w.setCell ⟨B + 10, j, none⟩ v) (B + 10) ((smallC B).setIfInBounds j v) ∧ Exs (w.setCell ⟨B + 10, j, none⟩ v) (some ⟨B + 3, 0, none⟩) mainL ∧ AddsAt (w.setCell ⟨B + 10, j, none⟩ v) (B + 5) :=
  ⟨h.row.set j v, exs_of_row (h.main.other j v (by omega)) ⟨rfl, rfl, rfl, ⟨_, _, rfl, nums_nil _ _⟩, rfl, rfl, rfl, ⟨_, _, rfl, nums_nil _ _⟩, rfl, rfl, rfl, ⟨_, _, rfl, (h.k1.other j v (by omega)).nums⟩, rfl, rfl, rfl, ⟨_, _, rfl, nums_nil _ _⟩, rfl, rfl, rfl, ⟨_, _, rfl, (h.k2.other j v (by omega)).nums⟩, trivial⟩, h.adds.other (by omega) j v⟩
/-- Two programs in their boxes. -/
structure WakeAt (W : World) (z B1 B2 : Nat) : Prop where
  d1 : Defs Exs W (some ⟨B1 + 10, 0, none⟩) smallA
  d2 : Defs Exs W (some ⟨B2 + 10, 0, none⟩) smallB
  a : Bx1 W z (.slice (some ⟨B1 + 10, 0, none⟩) 1 2)
  b : Bx1 W (z + 1) (.slice (some ⟨B2 + 10, 0, none⟩) 2 2)
theorem WakeAt.on {W W' : World} {z B1 B2 : Nat} (h : WakeAt W z B1 B2) (hb : Below W.heap.size W W') : WakeAt W' z B1 B2 := ⟨h.d1.on hb, h.d2.on hb, h.a.on hb, h.b.on hb⟩
theorem wake_at (w2 : World) (B1 B2 : Nat) (h1 : SmallAt w2 B1) (h2 : SmallAt w2 B2) (e2 : B2 = B1 + 11) :
    WakeAt (((w2.setCell ⟨B2 + 10, 2, none⟩ (I 1)).alloc (.cells #[.slice (some ⟨B1 + 10, 0, none⟩) 1 2] 24)).alloc (.cells #[.slice (some ⟨B2 + 10, 0, none⟩) 2 2] 24)) w2.heap.size B1 B2 := by
  have g1 := h1.other (b' := B2 + 10) (by omega) 2 (I 1)
  obtain ⟨t1, t2, t3⟩ := h2.turned 2 (I 1)
  have hsz : (w2.setCell ⟨B2 + 10, 2, none⟩ (I 1)).heap.size = w2.heap.size := by simp
  generalize w2.setCell ⟨B2 + 10, 2, none⟩ (I 1) = w3 at *
  rw [← hsz]
  have hb : Below w3.heap.size w3 ((w3.alloc (.cells #[.slice (some ⟨B1 + 10, 0, none⟩) 1 2] 24)).alloc (.cells #[.slice (some ⟨B2 + 10, 0, none⟩) 2 2] 24)) := ((Below.refl _ w3).alloc (Nat.le_refl _) _).alloc (by simp) _
  refine ⟨?_, ?_, (Bx1.new w3 _).alloc _, ?_⟩
  · exact Defs.on (g1.row.defs (ds := smallA) ⟨rfl, ⟨_, _, rfl, g1.mainX⟩, trivial⟩) hb
  · exact Defs.on (t1.defs (ds := smallB) ⟨rfl, ⟨_, _, rfl, t2⟩, rfl, ⟨_, _, rfl, t3.exs⟩, trivial⟩) hb
  · have h := Bx1.new (w3.alloc (.cells #[.slice (some ⟨B1 + 10, 0, none⟩) 1 2] 24)) (.slice (some ⟨B2 + 10, 0, none⟩) 2 2)
    rwa [World.size_alloc] at h

set_option maxHeartbeats 800000 in
set_option maxRecDepth 100000 in
theorem awake_any (w : World) :
    Calls Try.prog 11 #[] w fun e w' => e = .returned (.bool true) ∧ Below w.heap.size w w' := by
  go_enter Try.func11, Try.ntmps11
  go_wp2_with fail
  refine (small_any _).mono ?_
  rintro e w1 ⟨rfl, a1, hb1, s1⟩
  have S1 : Hid _ := s1
  clear s1
  go_wp2_with fail
  refine (small_any _).mono ?_
  rintro e w2 ⟨rfl, a2, hb2, s2⟩
  have S2 : Hid _ := s2
  clear s2
  have s1 := S1.out
  have s2 := S2.out
  have A1 := a1.on hb2
  have hb02 : Below w.heap.size w w2 := below_next hb1 hb2
  obtain ⟨B1, e1⟩ : ∃ B1, w.heap.size = B1 := ⟨_, rfl⟩
  obtain ⟨B2, e2⟩ : ∃ B2, w1.heap.size = B2 := ⟨_, rfl⟩
  rw [e1] at A1 s1
  rw [e2] at a2 s1 s2
  rw [e1, e2]
  have c2 := a2.row.cell 2 (I 2) rfl
  have f2 := a2.row.frozen 2
  have l2 := a2.row.lt
  have HA1 : Hid (SmallAt w2 B1) := A1
  have HA2 : Hid (SmallAt w2 B2) := a2
  have HB02 : Hid (Below w.heap.size w w2) := hb02
  have HE : Hid (w.heap.size = B1 ∧ B2 = B1 + 11 ∧ w2.heap.size = B2 + 11) := ⟨e1, s1, s2⟩
  clear S1 S2 a1 A1 a2 hb1 hb2 hb02 e1 e2 s1 s2
  go_wp2_with fail
  have hk := wake_at w2 B1 B2 HA1.out HA2.out HE.out.2.1
  have hb6 : Below w.heap.size w (((w2.setCell ⟨B2 + 10, 2, none⟩ (I 1)).alloc (.cells #[.slice (some ⟨B1 + 10, 0, none⟩) 1 2] 24)).alloc (.cells #[.slice (some ⟨B2 + 10, 0, none⟩) 2 2] 24)) := by
    have q := HE.out
    exact ((HB02.out.setCell (p := ⟨B2 + 10, 2, none⟩) (by show w.heap.size ≤ B2 + 10; omega) (I 1)).alloc (by simp; omega) _).alloc (by simp; omega) _
  obtain ⟨z, hz⟩ : ∃ z, w2.heap.size = z := ⟨_, rfl⟩
  rw [hz] at hk ⊢
  obtain ⟨W6, hW6⟩ : ∃ W6, ((w2.setCell ⟨B2 + 10, 2, none⟩ (I 1)).alloc (.cells #[.slice (some ⟨B1 + 10, 0, none⟩) 1 2] 24)).alloc (.cells #[.slice (some ⟨B2 + 10, 0, none⟩) 2 2] 24) = W6 := ⟨_, rfl⟩
  rw [hW6] at hk hb6 ⊢
  clear hW6 hz HA1 HA2 HB02 HE c2 f2 l2
  refine (small_any _).mono ?_
  rintro e w7 ⟨rfl, a7, hb7, s7⟩
  have hk7 := hk.on hb7
  have h07 := below_next hb6 hb7
  clear hb6 hb7 hk s7
  go_wp2_with fail
  refine (pmay_any _ 2 smallL w7 a7.defs).mono ?_
  rintro e w8 ⟨rfl, hb8⟩
  rw [pmay_small]
  have hk8 := hk7.on hb8
  have h08 := below_next h07 hb8
  clear hb8 hk7 h07 a7
  have x0 := hk8.a.c0
  go_wp2_with fail
  refine (pmay_any _ 2 smallA w8 hk8.d1).mono ?_
  rintro e w9 ⟨rfl, hb9⟩
  rw [pmay_smallA]
  have hk9 := hk8.on hb9
  have h09 := below_next h08 hb9
  clear hb9 hk8 h08 x0
  have x0 := hk9.b.c0
  go_wp2_with fail
  refine (pmay_any _ 2 smallB w9 hk9.d2).mono ?_
  rintro e w10 ⟨rfl, hb10⟩
  rw [pmay_smallB]
  have h10 := below_next h09 hb10
  clear hb10 hk9 h09 x0
  go_wp2_with fail
  refine (pmay_any none 0 [] w10 (Or.inl rfl)).mono ?_
  rintro e w11 ⟨rfl, hb11⟩
  rw [pmay_none]
  have h11 := below_next h10 hb11
  clear hb11 h10
  go_wp2_with fail
  refine (num_any _ _).mono ?_
  rintro e w12 ⟨rfl, rfl⟩
  go_wp2_with fail
  go_ret
  exact ⟨rfl, h11⟩
end Go.Proofs.Ytiobjkmpeiohdaa
