/- The contract of the laws' small: a program of two definitions. · The contract of the laws' awake. · Definitions that a function builds one by one, by append; bodies and kids in rows of their own kind. · A program that comes in: its definitions as plain data, with the bounds that the sized condition gives. · The contract of the laws' CopyProgram. -/
import Derived.Test.YtighcikiaddfcaaGreatDoorMBody
import Derived.Deep.RegionWith
import Derived.Deep.AppendLies

namespace Go.Proofs.YtighcikiaddfcaaGreatDoor
open Go.RowKit
set_option linter.unusedVariables false

/-- These cells are these definitions. -/
def DRow (w : World) : List Value → List Df → Prop
  | [], [] => True
  | v0 :: v1 :: vs, d :: ds => v0 = .int .i64 d.params ∧ (∃ g c, v1 = .slice g d.body.length c ∧ Exs w g d.body) ∧ DRow w vs ds
  | _, _ => False
theorem DRow.at {w : World} : ∀ {cs : List Value} {ds : List Df}, DRow w cs ds → ∀ (j : Nat) d, ds[j]? = some d →
    ∃ gk ck, cs[j * 2]? = some (.int .i64 d.params) ∧ cs[j * 2 + 1]? = some (.slice gk d.body.length ck) ∧ Exs w gk d.body
  | [], [], _, j, x, hx => by simp at hx
  | v0 :: v1 :: vs, y :: xs, ⟨h0, ⟨g, c, h3, hn⟩, hr⟩, 0, x, hx => by
    have : y = x := by simpa using hx
    subst this
    exact ⟨g, c, by rw [h0]; rfl, by rw [h3]; rfl, hn⟩
  | v0 :: v1 :: vs, y :: xs, ⟨_, _, hr⟩, j + 1, x, hx => by
    obtain ⟨gk, ck, a0, a1, a2⟩ := hr.at j x (by simpa using hx)
    have e : ∀ i, (v0 :: v1 :: vs)[(j + 1) * 2 + i]? = vs[j * 2 + i]? := fun i => by
      rw [show (j + 1) * 2 + i = (j * 2 + i) + 1 + 1 by omega]; simp
    exact ⟨gk, ck, by rw [← Nat.add_zero ((j + 1) * 2), e]; exact a0, by rw [e]; exact a1, a2⟩
/-- A row of definitions' cells. -/
def Rd (w : World) (b : Nat) (cs : Array Value) : Prop := w.heap[b]? = some (.cells cs 43 (0, 0))
theorem Rd.lt {w : World} {b : Nat} {cs : Array Value} (h : Rd w b cs) : b < w.heap.size := (Array.getElem?_eq_some_iff.1 h).1
theorem Rd.set {w : World} {b : Nat} {cs : Array Value} (h : Rd w b cs) (j : Nat) (v : Value) : Rd (w.setCell ⟨b, j, none⟩ v) b (cs.setIfInBounds j v) := by
  obtain ⟨hlt, hk⟩ := Array.getElem?_eq_some_iff.1 h
  show (w.heap.modify b _)[b]? = _
  rw [Array.getElem?_eq_getElem (by rw [Array.size_modify]; exact hlt), Array.getElem_modify_self, hk]
  rfl
theorem Rd.other {w : World} {b : Nat} {cs : Array Value} (h : Rd w b cs) {b' : Nat} (j : Nat) (v : Value) (hne : b ≠ b') : Rd (w.setCell ⟨b', j, none⟩ v) b cs := (Below.heap_setCell w _ _ b hne).trans h
theorem Rd.alloc {w : World} {b : Nat} {cs : Array Value} (h : Rd w b cs) (o : Obj) : Rd (w.alloc o) b cs := (Below.heap_alloc w o b h.lt).trans h
theorem Rd.on {w w' : World} {b : Nat} {cs : Array Value} (h : Rd w b cs) (hb : Below w.heap.size w w') : Rd w' b cs := (hb.block b h.lt).trans h
theorem Rd.cell {w : World} {b : Nat} {cs : Array Value} (h : Rd w b cs) (j : Nat) (v : Value) (hv : cs[j]? = some v) : w.cell? ⟨b, j, none⟩ = some v := by
  unfold World.cell?
  simp only [show w.heap[b]? = _ from h]
  exact hv
theorem Rd.frozen {w : World} {b : Nat} {cs : Array Value} (h : Rd w b cs) (j : Nat) : w.frozen? ⟨b, j, none⟩ = false := by
  simp [World.frozen?, show w.heap[b]? = _ from h]
theorem Rd.defs {w : World} {b : Nat} {cs : Array Value} {ds : List Df} (h : Rd w b cs) (hr : DRow w (cs.toList.take (ds.length * 2)) ds) : Defs Exs w (some ⟨b, 0, none⟩) ds := by
  refine Or.inr ⟨b, 0, rfl, h.lt, fun j x hx => ?_⟩
  obtain ⟨gk, ck, a0, a1, a2⟩ := hr.at j x hx
  have key : ∀ i v, (cs.toList.take (ds.length * 2))[i]? = some v → cs[i]? = some v := fun i v hv => by
    rw [List.getElem?_take] at hv
    split at hv
    · simpa using hv
    · cases hv
  refine ⟨gk, ck, ?_⟩
  rw [Nat.zero_add]
  exact ⟨h.cell _ _ (key _ _ a0), h.cell _ _ (key _ _ a1), a2⟩

def mainL : List Ex := [⟨7, 0, 0, []⟩, ⟨0, 4, 0, []⟩, ⟨3, 7, 0, [0, 1]⟩, ⟨0, 5, 0, []⟩, ⟨2, 1, 0, [2, 3]⟩]
def mainC (B : Nat) : Array Value := #[I 7, I 0, I 0, nilS, I 0, I 4, I 0, nilS, I 3, I 7, I 0, .slice (some ⟨B + 1, 0, none⟩) 2 2, I 0, I 5, I 0, nilS, I 2, I 1, I 0, .slice (some ⟨B + 2, 0, none⟩) 2 2]
def smallC (B : Nat) : Array Value := #[I 0, .slice (some ⟨B + 3, 0, none⟩) 5 5, I 2, .slice (some ⟨B + 9, 0, none⟩) 8 8]
def smallL : List Df := [⟨0, mainL⟩, ⟨2, addsL⟩]
/-- What small lays down. -/
structure SmallAt (w : World) (B : Nat) : Prop where
  row : Rd w (B + 10) (smallC B)
  main : Rw w (B + 3) (mainC B)
  k1 : Lv w (B + 1) [0, 1]
  k2 : Lv w (B + 2) [2, 3]
  adds : AddsAt w (B + 5)
theorem cell_nx {wc w' : World} {p : Addr} {x : Value} (h : wc.cell? p = some x) (hb : Below wc.heap.size wc w') : w'.cell? p = some x := by
  rw [hb.cell (World.block_lt_of_cell? wc p h)]; exact h
theorem SmallAt.on {w w' : World} {B : Nat} (h : SmallAt w B) (hb : Below w.heap.size w w') : SmallAt w' B :=
  ⟨h.row.on hb, h.main.on hb, h.k1.on hb h.k1.lt, h.k2.on hb h.k2.lt, h.adds.on hb⟩
theorem SmallAt.mainX {w : World} {B : Nat} (h : SmallAt w B) : Exs w (some ⟨B + 3, 0, none⟩) mainL :=
  exs_of_row h.main ⟨rfl, rfl, rfl, ⟨_, _, rfl, nums_nil _ _⟩, rfl, rfl, rfl, ⟨_, _, rfl, nums_nil _ _⟩, rfl, rfl, rfl, ⟨_, _, rfl, h.k1.nums⟩, rfl, rfl, rfl, ⟨_, _, rfl, nums_nil _ _⟩, rfl, rfl, rfl, ⟨_, _, rfl, h.k2.nums⟩, trivial⟩
theorem SmallAt.defs {w : World} {B : Nat} (h : SmallAt w B) : Defs Exs w (some ⟨B + 10, 0, none⟩) smallL :=
  h.row.defs ⟨rfl, ⟨_, _, rfl, h.mainX⟩, rfl, ⟨_, _, rfl, h.adds.exs⟩, trivial⟩
theorem pmay_small : pmay smallL = true := by decide +kernel

/-- What lies ahead of the call of adds. -/
structure PreAt (w : World) (B : Nat) : Prop where
  box : Bx1 w B (.slice none 0 0)
  main : Rw w (B + 3) (mainC B)
  k1 : Lv w (B + 1) [0, 1]
  k2 : Lv w (B + 2) [2, 3]
  mb : Bx2 w (B + 4) 0 (.slice (some ⟨B + 3, 0, none⟩) 5 5)
  size : w.heap.size = B + 5
theorem pre_at (w : World) : PreAt (((((w.alloc (.cells #[.slice none 0 0] 24)).alloc (.cells #[I 0, I 1] 3)).alloc (.cells #[I 2, I 3] 3)).alloc (.cells (mainC w.heap.size) 41)).alloc (.cells #[I 0, .slice (some ⟨w.heap.size + 1 + 1 + 1, 0, none⟩) 5 5] 43)) w.heap.size := by
  refine ⟨((((Bx1.new w _).alloc _).alloc _).alloc _).alloc _, ?_, ?_, ?_, ?_, by simp⟩
  · have h : Rw ((((w.alloc (.cells #[.slice none 0 0] 24)).alloc (.cells #[I 0, I 1] 3)).alloc (.cells #[I 2, I 3] 3)).alloc (.cells (mainC w.heap.size) 41)) (w.heap.size + 3) (mainC w.heap.size) := by
      have h := World.alloc_heap_new (((w.alloc (.cells #[.slice none 0 0] 24)).alloc (.cells #[I 0, I 1] 3)).alloc (.cells #[I 2, I 3] 3)) (.cells (mainC w.heap.size) 41)
      simp only [World.size_alloc] at h
      exact h
    exact h.alloc _
  · have h := ((Lv.new (w.alloc (.cells #[.slice none 0 0] 24)) [0, 1]).alloc (.cells #[I 2, I 3] 3)).alloc (.cells (mainC w.heap.size) 41)
    simp only [World.size_alloc] at h
    exact h.alloc _
  · have h := (Lv.new ((w.alloc (.cells #[.slice none 0 0] 24)).alloc (.cells #[I 0, I 1] 3)) [2, 3]).alloc (.cells (mainC w.heap.size) 41)
    simp only [World.size_alloc] at h
    exact h.alloc _
  · have h := Bx2.new ((((w.alloc (.cells #[.slice none 0 0] 24)).alloc (.cells #[I 0, I 1] 3)).alloc (.cells #[I 2, I 3] 3)).alloc (.cells (mainC w.heap.size) 41)) 0 (.slice (some ⟨w.heap.size + 1 + 1 + 1, 0, none⟩) 5 5)
    simp only [World.size_alloc] at h
    exact h
theorem small_at {w W5 w6 : World} {B : Nat} (h : PreAt W5 B) (a6 : AddsAt w6 W5.heap.size ∧ w6.heap.size = W5.heap.size + 5 ∧ Below W5.heap.size W5 w6) (h0 : Below B w W5) {W7 : World}
    (hW : (w6.setCell ⟨B, 0, none⟩ (.slice (some ⟨w6.heap.size, 0, none⟩) 2 2)).alloc (.cells #[I 0, .slice (some ⟨B + 1 + 1 + 1, 0, none⟩) 5 5, I 2, .slice (some ⟨W5.heap.size + 4, 0, none⟩) 8 8] 43) = W7) :
    w6.heap.size = B + 10 ∧ W7.cell? ⟨B, 0, none⟩ = some (.slice (some ⟨w6.heap.size, 0, none⟩) 2 2) ∧ SmallAt W7 B ∧ Below B w W7 ∧ W7.heap.size = B + 11 := by
  subst hW
  obtain ⟨ha, hs, hb⟩ := a6
  have h5 := h.size
  have l1 := h.k1.lt
  have l2 := h.k2.lt
  have hB : Below B w (w6.setCell ⟨B, 0, none⟩ (.slice (some ⟨w6.heap.size, 0, none⟩) 2 2)) := (h0.trans (hb.mono (by omega))).setCell (p := ⟨B, 0, none⟩) (Nat.le_refl _) _
  have hx := ((h.box.on hb).set0 (.slice (some ⟨w6.heap.size, 0, none⟩) 2 2)).alloc (.cells #[I 0, .slice (some ⟨B + 1 + 1 + 1, 0, none⟩) 5 5, I 2, .slice (some ⟨W5.heap.size + 4, 0, none⟩) 8 8] 43)
  rw [h5] at ha
  refine ⟨by omega, hx.c0, ⟨?_, ((h.main.on hb).other 0 _ (by omega)).alloc _, ((h.k1.on hb l1).other 0 _ (by omega)).alloc _, ((h.k2.on hb l2).other 0 _ (by omega)).alloc _, ?_⟩, hB.alloc (by simp; omega) _, by simp; omega⟩
  · have h := World.alloc_heap_new (w6.setCell ⟨B, 0, none⟩ (.slice (some ⟨w6.heap.size, 0, none⟩) 2 2)) (.cells #[I 0, .slice (some ⟨B + 1 + 1 + 1, 0, none⟩) 5 5, I 2, .slice (some ⟨W5.heap.size + 4, 0, none⟩) 8 8] 43)
    have e : (w6.setCell ⟨B, 0, none⟩ (.slice (some ⟨w6.heap.size, 0, none⟩) 2 2)).heap.size = B + 10 := by simp; omega
    rw [e] at h
    rw [h5] at h ⊢
    exact h
  · exact ⟨((show Rw _ _ _ from ha.body).other 0 _ (by omega)).alloc _, (ha.k1.other 0 _ (by omega)).alloc _, (ha.k2.other 0 _ (by omega)).alloc _, (ha.k3.other 0 _ (by omega)).alloc _⟩

set_option maxHeartbeats 800000 in
set_option maxRecDepth 100000 in
theorem small_any (w : World) :
    Calls Tryz.prog 15 #[] w fun e w' => e = .returned (.agg #[.slice (some ⟨w.heap.size + 10, 0, none⟩) 2 2]) ∧ SmallAt w' w.heap.size ∧ Below w.heap.size w w' ∧ w'.heap.size = w.heap.size + 11 := by
  go_enter Tryz.func15, Tryz.ntmps15
  go_wp2_with fail
  have hp := pre_at w
  have hb : Below w.heap.size w (((((w.alloc (.cells #[.slice none 0 0] 24)).alloc (.cells #[I 0, I 1] 3)).alloc (.cells #[I 2, I 3] 3)).alloc (.cells (mainC w.heap.size) 41)).alloc (.cells #[I 0, .slice (some ⟨w.heap.size + 1 + 1 + 1, 0, none⟩) 5 5] 43)) := (((((Below.refl _ w).alloc (Nat.le_refl _) _).alloc (by simp) _).alloc (by simp; omega) _).alloc (by simp; omega) _).alloc (by simp; omega) _
  unfold mainC at hp hb
  obtain ⟨W5, hW5⟩ : ∃ W5, (((((w.alloc (.cells #[.slice none 0 0] 24)).alloc (.cells #[I 0, I 1] 3)).alloc (.cells #[I 2, I 3] 3)).alloc (.cells #[I 7, I 0, I 0, nilS, I 0, I 4, I 0, nilS, I 3, I 7, I 0, .slice (some ⟨w.heap.size + 1, 0, none⟩) 2 2, I 0, I 5, I 0, nilS, I 2, I 1, I 0, .slice (some ⟨w.heap.size + 2, 0, none⟩) 2 2] 41)).alloc (.cells #[I 0, .slice (some ⟨w.heap.size + 1 + 1 + 1, 0, none⟩) 5 5] 43)) = W5 := ⟨_, rfl⟩
  rw [hW5] at hp hb
  have hW5' : (((((w.alloc (.cells #[.slice none 0 0] 24)).alloc (.cells #[I 0, I 1] 3)).alloc (.cells #[I 2, I 3] 3)).alloc (.cells #[I 7, I 0, I 0, nilS, I 0, I 4, I 0, nilS, I 3, I 7, I 0, .slice (some ⟨w.heap.size + 1, 0, none⟩) 2 2, I 0, I 5, I 0, nilS, I 2, I 1, I 0, .slice (some ⟨w.heap.size + 1 + 1, 0, none⟩) 2 2] 41)).alloc (.cells #[I 0, .slice (some ⟨w.heap.size + 1 + 1 + 1, 0, none⟩) 5 5] 43)) = W5 := hW5
  rw [hW5']
  clear hW5 hW5'
  have m0 : W5.cell? ⟨w.heap.size + 1 + 1 + 1 + 1, 0, none⟩ = some (I 0) := hp.mb.c0
  have m1 : W5.cell? ⟨w.heap.size + 1 + 1 + 1 + 1, 1, none⟩ = some (.slice (some ⟨w.heap.size + 1 + 1 + 1, 0, none⟩) 5 5) := hp.mb.c1
  have HP : Hid (PreAt W5 w.heap.size) := hp
  have HB : Hid (Below w.heap.size w W5) := hb
  clear hp hb
  go_region_with (go_at_call 29; refine (adds_any _).mono ?_; rintro e w6 ⟨rfl, ha6, hb6, hs6⟩; have hb7 : Below W5.heap.size W5 w6 := ⟨hb6.os, hb6.tape, hb6.output, hb6.size, hb6.block⟩; have n0 := cell_nx m0 hb7; have n1 := cell_nx m1 hb7; have x0 := (HP.out.box.on hb7).c0; have x1 := (HP.out.box.on hb7).frozen 0; have xl := (HP.out.box.on hb7).lt; have HA7 : Hid (AddsAt w6 W5.heap.size ∧ w6.heap.size = W5.heap.size + 5 ∧ Below W5.heap.size W5 w6) := ⟨ha6, hs6, hb7⟩; clear ha6 hs6 hb6 hb7)
  all_goals
    obtain ⟨W7, hW7⟩ : ∃ W7, (w6.setCell ⟨w.heap.size, 0, none⟩ (.slice (some ⟨w6.heap.size, 0, none⟩) 2 2)).alloc (.cells #[I 0, .slice (some ⟨w.heap.size + 1 + 1 + 1, 0, none⟩) 5 5, I 2, .slice (some ⟨W5.heap.size + 4, 0, none⟩) 8 8] 43) = W7 := ⟨_, rfl⟩
    obtain ⟨e6, c7, s7, b7, z7⟩ := small_at HP.out HA7.out HB.out hW7
    rw [hW7]
    clear hW7 x0 x1 xl n0 n1 m0 m1
    go_wp2_with fail
    refine bodyPost_ret (v := .agg #[.slice (some ⟨w.heap.size + 10, 0, none⟩) 2 2]) (by rw [e6] at c7; simp [results, Tryz.results15, go_sem, c7]) rfl ⟨rfl, s7, b7, z7⟩
end Go.Proofs.YtighcikiaddfcaaGreatDoor

namespace Go.Proofs.YtighcikiaddfcaaGreatDoor
open Go.RowKit
set_option linter.unusedVariables false

def smallA : List Df := [⟨0, mainL⟩]
def smallB : List Df := [⟨0, mainL⟩, ⟨1, addsL⟩]
theorem pmay_smallA : pmay smallA = false := by decide +kernel
theorem pmay_smallB : pmay smallB = false := by decide +kernel
theorem pmay_none : pmay [] = false := by decide +kernel

/-- Something is done in a block that is none of small's. -/
theorem SmallAt.other {w : World} {B b' : Nat} (h : SmallAt w B) (hb : b' < B + 1 ∨ B + 10 < b') (j : Nat) (v : Value) : SmallAt (w.setCell ⟨b', j, none⟩ v) B :=
  ⟨h.row.other j v (by omega), h.main.other j v (by omega), h.k1.other j v (by omega), h.k2.other j v (by omega),
    ⟨(show Rw _ _ _ from h.adds.body).other j v (by omega), h.adds.k1.other j v (by omega), h.adds.k2.other j v (by omega), h.adds.k3.other j v (by omega)⟩⟩
theorem SmallAt.alloc {w : World} {B : Nat} (h : SmallAt w B) (o : Obj) : SmallAt (w.alloc o) B := h.on ((Below.refl _ w).alloc (Nat.le_refl _) o)
theorem AddsAt.other {w : World} {B b' : Nat} (h : AddsAt w B) (hb : b' < B + 1 ∨ B + 4 < b') (j : Nat) (v : Value) : AddsAt (w.setCell ⟨b', j, none⟩ v) B :=
  ⟨(show Rw _ _ _ from h.body).other j v (by omega), h.k1.other j v (by omega), h.k2.other j v (by omega), h.k3.other j v (by omega)⟩
/-- The row of definitions is turned, all else is as it was. -/
theorem SmallAt.turned {w : World} {B : Nat} (h : SmallAt w B) (j : Nat) (v : Value) : Rd (w.setCell ⟨B + 10, j, none⟩ v) (B + 10) ((smallC B).setIfInBounds j v) ∧ Exs (w.setCell ⟨B + 10, j, none⟩ v) (some ⟨B + 3, 0, none⟩) mainL ∧ AddsAt (w.setCell ⟨B + 10, j, none⟩ v) (B + 5) :=
  ⟨h.row.set j v, exs_of_row (h.main.other j v (by omega)) ⟨rfl, rfl, rfl, ⟨_, _, rfl, nums_nil _ _⟩, rfl, rfl, rfl, ⟨_, _, rfl, nums_nil _ _⟩, rfl, rfl, rfl, ⟨_, _, rfl, (h.k1.other j v (by omega)).nums⟩, rfl, rfl, rfl, ⟨_, _, rfl, nums_nil _ _⟩, rfl, rfl, rfl, ⟨_, _, rfl, (h.k2.other j v (by omega)).nums⟩, trivial⟩, h.adds.other (by omega) j v⟩
/-- Two programs in their boxes. -/
structure WakeAt (W : World) (z B1 B2 : Nat) : Prop where
  d1 : Defs Exs W (some ⟨B1 + 10, 0, none⟩) smallA
  d2 : Defs Exs W (some ⟨B2 + 10, 0, none⟩) smallB
  a : Bx1 W z (.slice (some ⟨B1 + 10, 0, none⟩) 1 2)
  b : Bx1 W (z + 1) (.slice (some ⟨B2 + 10, 0, none⟩) 2 2)
theorem WakeAt.on {W W' : World} {z B1 B2 : Nat} (h : WakeAt W z B1 B2) (hb : Below W.heap.size W W') : WakeAt W' z B1 B2 := ⟨h.d1.on hb, h.d2.on hb, h.a.on hb, h.b.on hb⟩
theorem wake_at (w2 : World) (B1 B2 : Nat) (h1 : SmallAt w2 B1) (h2 : SmallAt w2 B2) (e2 : B2 = B1 + 11) :
    WakeAt (((w2.setCell ⟨B2 + 10, 2, none⟩ (I 1)).alloc (.cells #[.slice (some ⟨B1 + 10, 0, none⟩) 1 2] 24)).alloc (.cells #[.slice (some ⟨B2 + 10, 0, none⟩) 2 2] 24)) w2.heap.size B1 B2 := by
  have g1 := h1.other (b' := B2 + 10) (by omega) 2 (I 1)
  obtain ⟨t1, t2, t3⟩ := h2.turned 2 (I 1)
  have hsz : (w2.setCell ⟨B2 + 10, 2, none⟩ (I 1)).heap.size = w2.heap.size := by simp
  generalize w2.setCell ⟨B2 + 10, 2, none⟩ (I 1) = w3 at *
  rw [← hsz]
  have hb : Below w3.heap.size w3 ((w3.alloc (.cells #[.slice (some ⟨B1 + 10, 0, none⟩) 1 2] 24)).alloc (.cells #[.slice (some ⟨B2 + 10, 0, none⟩) 2 2] 24)) := ((Below.refl _ w3).alloc (Nat.le_refl _) _).alloc (by simp) _
  refine ⟨?_, ?_, (Bx1.new w3 _).alloc _, ?_⟩
  · exact Defs.on (g1.row.defs (ds := smallA) ⟨rfl, ⟨_, _, rfl, g1.mainX⟩, trivial⟩) hb
  · exact Defs.on (t1.defs (ds := smallB) ⟨rfl, ⟨_, _, rfl, t2⟩, rfl, ⟨_, _, rfl, t3.exs⟩, trivial⟩) hb
  · have h := Bx1.new (w3.alloc (.cells #[.slice (some ⟨B1 + 10, 0, none⟩) 1 2] 24)) (.slice (some ⟨B2 + 10, 0, none⟩) 2 2)
    rwa [World.size_alloc] at h

end Go.Proofs.YtighcikiaddfcaaGreatDoor

namespace Go.Proofs.YtighcikiaddfcaaGreatDoor
open Go.RowKit
set_option linter.unusedVariables false

theorem Tryz.info43 : (Tryz.prog.info? 43).map (fun i => (i.zero, i.size, i.bytes)) = some (some (.agg #[.int .i64 0, .slice none 0 0]), 2, 32) := by kernel_rfl
/-- Numbers in a row of numbers. -/
def NumsT (w : World) (g : Option Addr) (ks : List Int) : Prop :=
  ks = [] ∨ ∃ b cs, g = some ⟨b, 0, none⟩ ∧ w.heap[b]? = some (.cells cs 3 (0, 0)) ∧ ∀ (j : Nat) x, ks[j]? = some x → cs[j]? = some (.int .i64 x)
/-- The part at this place of a row. -/
def ExT (w : World) (cs : Array Value) (j : Nat) (x : Ex) : Prop :=
  ∃ gk ck, cs[j * 4]? = some (.int .i64 x.kind) ∧ cs[j * 4 + 1]? = some (.int .i64 x.num) ∧ cs[j * 4 + 2]? = some (.int .i64 x.bind) ∧ cs[j * 4 + 3]? = some (.slice gk x.kids.length ck) ∧ NumsT w gk x.kids ∧ (gk = none → ck = 0)
/-- Parts in a row of parts. -/
def ExsT (w : World) (g : Option Addr) (xs : List Ex) : Prop :=
  xs = [] ∨ ∃ b cs, g = some ⟨b, 0, none⟩ ∧ Rw w b cs ∧ ∀ (j : Nat) x, xs[j]? = some x → ExT w cs j x
theorem NumsT.nums {w : World} {g : Option Addr} {ks : List Int} (h : NumsT w g ks) : Nums w g ks := by
  rcases h with h | ⟨b, cs, h1, h2, h3⟩
  · exact Or.inl h
  · refine Or.inr ⟨b, 0, h1, (Array.getElem?_eq_some_iff.1 h2).1, fun j x hx => ?_⟩
    unfold World.cell?
    simp only [h2, Nat.zero_add]
    exact h3 j x hx
theorem ExsT.exs {w : World} {g : Option Addr} {xs : List Ex} (h : ExsT w g xs) : Exs w g xs := by
  rcases h with h | ⟨b, cs, h1, h2, h3⟩
  · exact Or.inl h
  · refine Or.inr ⟨b, 0, h1, h2.lt, fun j x hx => ?_⟩
    obtain ⟨gk, ck, a0, a1, a2, a3, a4, _⟩ := h3 j x hx
    rw [Nat.zero_add]
    exact ⟨gk, ck, h2.cell _ _ a0, h2.cell _ _ a1, h2.cell _ _ a2, h2.cell _ _ a3, a4.nums⟩
theorem ExsT.exsN {w : World} {g : Option Addr} {xs : List Ex} (h : ExsT w g xs) : ExsN w g xs := by
  rcases h with h | ⟨b, cs, h1, h2, h3⟩
  · exact Or.inl h
  · refine Or.inr ⟨b, 0, h1, h2.lt, fun j x hx => ?_⟩
    obtain ⟨gk, ck, a0, a1, a2, a3, a4, a5⟩ := h3 j x hx
    rw [Nat.zero_add]
    exact ⟨gk, ck, ⟨h2.cell _ _ a0, h2.cell _ _ a1, h2.cell _ _ a2, h2.cell _ _ a3, a4.nums⟩, a5⟩
/-- Only a row of definitions has been turned, if any. -/
def Only36 (w : World) (row : Option Nat) : Prop := ∀ b, row = some b → b < w.heap.size → ∃ cs fr, w.heap[b]? = some (.cells cs 43 fr)
theorem only_none (w : World) : Only36 w none := fun b h => by cases h
theorem only_own {w : World} {base n : Nat} {v : Value} {xs : List Value} (h : w.ownsRow base 43 2 v n xs) : Only36 w v.ownBlock := by
  intro b hb _
  rcases h.2 with ⟨rfl, _⟩ | ⟨g, cap, cur, rfl, _, hg, _⟩
  · cases hb
  · cases hb; exact ⟨cur, (0, 0), hg⟩
theorem only_ne {w : World} {row : Option Nat} (h : Only36 w row) {b : Nat} {cs : Array Value} {t : TypeId} (hb : w.heap[b]? = some (.cells cs t (0, 0))) (ht : t ≠ 43) : some b ≠ row := by
  intro e
  obtain ⟨cs', fr, h'⟩ := h b e.symm (Array.getElem?_eq_some_iff.1 hb).1
  rw [hb] at h'
  cases h'
  exact ht rfl
theorem NumsT.kept {w w' : World} {g : Option Addr} {ks : List Int} {row : Option Nat} (h : NumsT w g ks) (hg : w.grownBy w' row) (hr : Only36 w row) : NumsT w' g ks := by
  rcases h with h | ⟨b, cs, h1, h2, h3⟩
  · exact Or.inl h
  · exact Or.inr ⟨b, cs, h1, (hg.block b (Array.getElem?_eq_some_iff.1 h2).1 (only_ne hr h2 (by decide))).trans h2, h3⟩
theorem ExT.kept {w w' : World} {cs : Array Value} {j : Nat} {x : Ex} {row : Option Nat} (h : ExT w cs j x) (hg : w.grownBy w' row) (hr : Only36 w row) : ExT w' cs j x := by
  obtain ⟨gk, ck, a0, a1, a2, a3, a4, a5⟩ := h
  exact ⟨gk, ck, a0, a1, a2, a3, a4.kept hg hr, a5⟩
theorem ExsT.kept {w w' : World} {g : Option Addr} {xs : List Ex} {row : Option Nat} (h : ExsT w g xs) (hg : w.grownBy w' row) (hr : Only36 w row) : ExsT w' g xs := by
  rcases h with h | ⟨b, cs, h1, h2, h3⟩
  · exact Or.inl h
  · exact Or.inr ⟨b, cs, h1, (hg.block b h2.lt (only_ne hr h2 (by decide))).trans h2, fun j x hx => (h3 j x hx).kept hg hr⟩
theorem ExsT.on {w w' : World} {g : Option Addr} {xs : List Ex} (h : ExsT w g xs) (hb : Below w.heap.size w w') : ExsT w' g xs := h.kept (grown_of_below hb none) (only_none w)
theorem ExsT.alloc {w : World} {g : Option Addr} {xs : List Ex} (h : ExsT w g xs) (o : Obj) : ExsT (w.alloc o) g xs := h.on ((Below.refl _ w).alloc (Nat.le_refl _) o)
theorem Lv.numsT {w : World} {b : Nat} {L : List Int} (h : Lv w b L) : NumsT w (some ⟨b, 0, none⟩) L :=
  Or.inr ⟨b, _, rfl, h, fun j x hx => by simp [hx]⟩
theorem numsT_nil (w : World) (g : Option Addr) : NumsT w g [] := Or.inl rfl
/-- These cells are these parts. -/
def RowT (w : World) : List Value → List Ex → Prop
  | [], [] => True
  | v0 :: v1 :: v2 :: v3 :: vs, x :: xs => v0 = .int .i64 x.kind ∧ v1 = .int .i64 x.num ∧ v2 = .int .i64 x.bind ∧ (∃ g c, v3 = .slice g x.kids.length c ∧ NumsT w g x.kids ∧ (g = none → c = 0)) ∧ RowT w vs xs
  | _, _ => False
theorem RowT.at {w : World} : ∀ {cs : List Value} {xs : List Ex}, RowT w cs xs → ∀ (j : Nat) x, xs[j]? = some x →
    ∃ gk ck, cs[j * 4]? = some (.int .i64 x.kind) ∧ cs[j * 4 + 1]? = some (.int .i64 x.num) ∧ cs[j * 4 + 2]? = some (.int .i64 x.bind) ∧ cs[j * 4 + 3]? = some (.slice gk x.kids.length ck) ∧ NumsT w gk x.kids ∧ (gk = none → ck = 0)
  | [], [], _, j, x, hx => by simp at hx
  | v0 :: v1 :: v2 :: v3 :: vs, y :: xs, ⟨h0, h1, h2, ⟨g, c, h3, hn⟩, hr⟩, 0, x, hx => by
    have : y = x := by simpa using hx
    subst this
    exact ⟨g, c, by rw [h0]; rfl, by rw [h1]; rfl, by rw [h2]; rfl, by rw [h3]; rfl, hn⟩
  | v0 :: v1 :: v2 :: v3 :: vs, y :: xs, ⟨_, _, _, _, hr⟩, j + 1, x, hx => by
    obtain ⟨gk, ck, a0, a1, a2, a3, a4⟩ := hr.at j x (by simpa using hx)
    have e : ∀ i, (v0 :: v1 :: v2 :: v3 :: vs)[(j + 1) * 4 + i]? = vs[j * 4 + i]? := fun i => by
      rw [show (j + 1) * 4 + i = (j * 4 + i) + 1 + 1 + 1 + 1 by omega]; simp
    exact ⟨gk, ck, by rw [← Nat.add_zero ((j + 1) * 4), e]; exact a0, by rw [e]; exact a1, by rw [e]; exact a2, by rw [e]; exact a3, a4⟩
theorem exsT_of_row {w : World} {b : Nat} {cs : Array Value} {xs : List Ex} (h : Rw w b cs) (hr : RowT w (cs.toList.take (xs.length * 4)) xs) : ExsT w (some ⟨b, 0, none⟩) xs := by
  refine Or.inr ⟨b, cs, rfl, h, fun j x hx => ?_⟩
  have key : ∀ i v, (cs.toList.take (xs.length * 4))[i]? = some v → cs[i]? = some v := fun i v hv => by
    rw [List.getElem?_take] at hv
    split at hv
    · simpa using hv
    · cases hv
  obtain ⟨gk, ck, a0, a1, a2, a3, a4⟩ := hr.at j x hx
  exact ⟨gk, ck, key _ _ a0, key _ _ a1, key _ _ a2, key _ _ a3, a4⟩
theorem AddsAt.exsT {w : World} {B : Nat} (h : AddsAt w B) : ExsT w (some ⟨B + 4, 0, none⟩) addsL :=
  exsT_of_row h.body ⟨rfl, rfl, rfl, ⟨_, _, rfl, numsT_nil _ _, fun _ => rfl⟩, rfl, rfl, rfl, ⟨_, _, rfl, numsT_nil _ _, fun _ => rfl⟩, rfl, rfl, rfl, ⟨_, _, rfl, numsT_nil _ _, fun _ => rfl⟩, rfl, rfl, rfl, ⟨_, _, rfl, h.k1.numsT, (fun h => by cases h)⟩, rfl, rfl, rfl, ⟨_, _, rfl, numsT_nil _ _, fun _ => rfl⟩, rfl, rfl, rfl, ⟨_, _, rfl, numsT_nil _ _, fun _ => rfl⟩, rfl, rfl, rfl, ⟨_, _, rfl, h.k2.numsT, (fun h => by cases h)⟩, rfl, rfl, rfl, ⟨_, _, rfl, h.k3.numsT, (fun h => by cases h)⟩, trivial⟩
theorem SmallAt.mainT {w : World} {B : Nat} (h : SmallAt w B) : ExsT w (some ⟨B + 3, 0, none⟩) mainL :=
  exsT_of_row h.main ⟨rfl, rfl, rfl, ⟨_, _, rfl, numsT_nil _ _, fun _ => rfl⟩, rfl, rfl, rfl, ⟨_, _, rfl, numsT_nil _ _, fun _ => rfl⟩, rfl, rfl, rfl, ⟨_, _, rfl, h.k1.numsT, (fun h => by cases h)⟩, rfl, rfl, rfl, ⟨_, _, rfl, numsT_nil _ _, fun _ => rfl⟩, rfl, rfl, rfl, ⟨_, _, rfl, h.k2.numsT, (fun h => by cases h)⟩, trivial⟩

/-- A definition with where its body lies. -/
abbrev Dt := Df × Option Addr × Nat
def c2 (q : Dt) : List Value := [.int .i64 q.1.params, .slice q.2.1 q.1.body.length q.2.2]
theorem len_c2 : ∀ (qs : List Dt), (qs.flatMap c2).length = qs.length * 2
  | [] => rfl
  | q :: qs => by rw [List.flatMap_cons, List.length_append, len_c2 qs, List.length_cons]; simp [c2]; omega
theorem one_c2 (qs : List Dt) : ∀ u ∈ qs.flatMap c2, u.oneCell' = true := by
  intro u hu
  obtain ⟨p, _, hp⟩ := List.mem_flatMap.1 hu
  simp only [c2, List.mem_cons, List.not_mem_nil, or_false] at hp
  rcases hp with rfl | rfl <;> rfl
theorem at_c2 : ∀ (qs : List Dt) (j : Nat) (q : Dt), qs[j]? = some q → (qs.flatMap c2)[j * 2]? = some (.int .i64 q.1.params) ∧ (qs.flatMap c2)[j * 2 + 1]? = some (.slice q.2.1 q.1.body.length q.2.2)
  | [], j, q, h => by simp at h
  | p :: qs, 0, q, h => by
    have : p = q := by simpa using h
    subst this
    exact ⟨rfl, rfl⟩
  | p :: qs, j + 1, q, h => by
    obtain ⟨h0, h1⟩ := at_c2 qs j q (by simpa using h)
    have e : ∀ i, ((p :: qs).flatMap c2)[(j + 1) * 2 + i]? = (qs.flatMap c2)[j * 2 + i]? := fun i => by
      rw [List.flatMap_cons, show (j + 1) * 2 + i = (j * 2 + i) + 1 + 1 by omega]; simp [c2]
    exact ⟨by rw [← Nat.add_zero ((j + 1) * 2), e]; exact h0, by rw [e]; exact h1⟩
/-- Definitions that are being built. -/
structure Pd (W : World) (base : Nat) (v : Value) (qs : List Dt) : Prop where
  own : W.ownsRow base 43 2 v qs.length (qs.flatMap c2)
  bodies : ∀ q ∈ qs, ExsT W q.2.1 q.1.body
theorem Pd.nil (W : World) (base : Nat) : Pd W base (.slice none 0 0) [] := ⟨World.ownsRow_nil _ _ _ _, fun p hp => by cases hp⟩
theorem Pd.kept {W W' : World} {base : Nat} {v : Value} {qs : List Dt} {row : Option Nat} (h : Pd W base v qs) (hg : W.grownBy W' row) (hr : Only36 W row) (hv : v.ownBlock = none ∨ v.ownBlock ≠ row) : Pd W' base v qs :=
  ⟨h.own.kept hg hv, fun q hq => (h.bodies q hq).kept hg hr⟩
theorem Pd.on {W W' : World} {base : Nat} {v : Value} {qs : List Dt} (h : Pd W base v qs) (hb : Below W.heap.size W W') : Pd W' base v qs := by
  refine h.kept (grown_of_below hb none) (only_none W) ?_
  cases v.ownBlock with
  | none => exact .inl rfl
  | some k => exact .inr (by simp)
theorem Pd.alloc {W : World} {base : Nat} {v : Value} {qs : List Dt} (h : Pd W base v qs) (o : Obj) : Pd (W.alloc o) base v qs := h.on ((Below.refl _ W).alloc (Nat.le_refl _) o)
theorem Pd.val {W : World} {base : Nat} {v : Value} {qs : List Dt} (h : Pd W base v qs) : ∃ g c, v = .slice g qs.length c := by
  rcases h.own.2 with ⟨h2, h3⟩ | ⟨g, cap, cur, hv, _⟩
  · exact ⟨_, _, by rw [h3]; exact h2⟩
  · exact ⟨_, _, hv⟩
theorem Pd.not_box {W : World} {base z : Nat} {v u : Value} {qs : List Dt} (h : Pd W base v qs) (hx : Bx1 W z u) : some z ≠ v.ownBlock := only_ne (only_own h.own) hx (by decide)
/-- Something is done in a program's box. -/
theorem Pd.far {W : World} {base : Nat} {v : Value} {qs : List Dt} (h : Pd W base v qs) {z : Nat} {u0 : Value} (hx : Bx1 W z u0) (j : Nat) (u : Value) : Pd (W.setCell ⟨z, j, none⟩ u) base v qs := by
  have hne : ∀ {b : Nat} {cs : Array Value} {t : TypeId}, W.heap[b]? = some (.cells cs t (0, 0)) → t ≠ 24 → b ≠ z := fun {b cs t} hb ht e => by
    subst e
    have := hb.symm.trans hx
    cases this
    exact ht rfl
  have kt : ∀ {g : Option Addr} {ks : List Int}, NumsT W g ks → NumsT (W.setCell ⟨z, j, none⟩ u) g ks := fun {g ks} hk => by
    rcases hk with hk | ⟨b, cs, h1, h2, h3⟩
    · exact Or.inl hk
    · exact Or.inr ⟨b, cs, h1, (Below.heap_setCell W _ _ b (hne h2 (by decide))).trans h2, h3⟩
  refine ⟨h.own.kept (grown_set W z j u) ?_, fun q hq => ?_⟩
  · exact .inr fun e => h.not_box hx e.symm
  · rcases h.bodies q hq with hk | ⟨b, cs, h1, h2, h3⟩
    · exact Or.inl hk
    · refine Or.inr ⟨b, cs, h1, h2.other j u (hne h2 (by decide)), fun i x hx => ?_⟩
      obtain ⟨gk, ck, a0, a1, a2, a3, a4, a5⟩ := h3 i x hx
      exact ⟨gk, ck, a0, a1, a2, a3, kt a4, a5⟩
theorem Pd.defs {W : World} {base : Nat} {g : Option Addr} {c : Nat} {qs : List Dt} (h : Pd W base (.slice g qs.length c) qs) : Defs Exs W g (qs.map (·.1)) := by
  rcases h.own.2 with ⟨_, h3⟩ | ⟨b, cap, cur, hv, _, hh, _⟩
  · exact Or.inl (by rw [List.length_eq_zero_iff.1 h3]; rfl)
  · simp at hv
    obtain ⟨rfl, _⟩ := hv
    refine Or.inr ⟨b, 0, rfl, (Array.getElem?_eq_some_iff.1 hh).1, fun j d hd => ?_⟩
    rw [List.getElem?_map] at hd
    cases hq : qs[j]? with
    | none => rw [hq] at hd; cases hd
    | some q =>
      rw [hq] at hd
      cases hd
      obtain ⟨k0, k1⟩ := at_c2 qs j q hq
      have h0 := h.own.cells (g := b) rfl _ _ k0
      have h1 := h.own.cells (g := b) rfl _ _ k1
      rw [Addr.add_lit] at h0 h1
      refine ⟨q.2.1, q.2.2, h0, ?_, (h.bodies q (List.mem_of_getElem? hq)).exs⟩
      rw [Nat.add_assoc]; exact h1
/-- Behind an append of one. -/
theorem Pd.next {W w' : World} {base : Nat} {v v' : Value} {qs : List Dt} {q : Dt} (h : Pd W base v qs) (hq : ExsT W q.2.1 q.1.body) (hown : w'.ownsRow base 43 2 v' (qs.length + 1) (qs.flatMap c2 ++ c2 q)) (hg : W.grownBy w' v.ownBlock) : Pd w' base v' (qs ++ [q]) := by
  refine ⟨by rw [List.length_append, List.flatMap_append]; simpa using hown, fun p hp => ?_⟩
  rcases List.mem_append.1 hp with hp | hp
  · exact (h.bodies p hp).kept hg (only_own h.own)
  · rw [List.mem_singleton] at hp; subst hp; exact hq.kept hg (only_own h.own)
/-- A definition is put behind the others. -/
theorem app_df {W : World} {ops : Array Oper} {rest : List Oper} {o : Oper} {a : Act} {Q : Exit → Act → World → Prop} (hgd : o.guard = none) (s x : Operand)
    (ho : o.op = .call { callee := .builtin .append, args := #[s, x], argTypes := #[22, 22] }) (base : Nat) (v : Value) (qs : List Dt) (q : Dt) (cs : Array Value) (hcs : cs.toList = c2 q) (hs : a.eval s = v) (z : Nat) (hz : W.heap.size = z) (hx : a.eval x = .slice (some ⟨z, 0, none⟩) 1 1)
    (hpd : Pd W base v qs) (hq : ExsT W q.2.1 q.1.body) (hb : base ≤ W.heap.size) (hlen : (qs.length + 1) * 32 ≤ 140737488355328)
    (h : ∀ v' w', Pd w' base v' (qs ++ [q]) → (W.alloc (.cells cs 43)).grownBy w' v.ownBlock → wpList Tryz.prog ops Q rest (a.put o.dst v') w') : wpList Tryz.prog ops Q (o :: rest) a (W.alloc (.cells cs 43)) := by
  subst hz
  obtain ⟨i0, hi, hz0, hz1, hz2⟩ := info_parts Tryz.info43
  refine wpList_append_own _ hgd s x 22 ho base 43 i0 _ 2 32 Tryz.underlying22 hi hz0 hz1 hz2 rfl (by decide) v _ _ hs (hpd.own.alloc _) ⟨W.heap.size, 0, none⟩ 1 1 (c2 q) hx rfl ?_ (fun u hu => one_c2 [q] u (by simpa using hu)) (by unfold maxLen; omega) hlen (by rw [World.size_alloc]; omega) ?_
  · intro j u hj
    rw [Addr.add_lit, Nat.zero_add]
    refine cell_new W cs 43 j u ?_
    rw [← hcs] at hj
    simpa using hj
  · intro v' w' h1 h2 _
    exact h v' w' ((hpd.alloc _).next (hq.alloc _) (by simpa using h1) h2) h2
/-- The same within a region that draws its order. -/
theorem step_df {W : World} {ops : Array Oper} {o : Oper} {a : Act} {K : Act → World → Prop} {Q : Exit → Act → World → Prop} {E : Prop} (hgd : o.guard = none) (s x : Operand)
    (ho : o.op = .call { callee := .builtin .append, args := #[s, x], argTypes := #[22, 22] }) (base : Nat) (v : Value) (qs : List Dt) (q : Dt) (cs : Array Value) (hcs : cs.toList = c2 q) (hs : a.eval s = v) (z : Nat) (hz : W.heap.size = z) (hx : a.eval x = .slice (some ⟨z, 0, none⟩) 1 1)
    (hpd : Pd W base v qs) (hq : ExsT W q.2.1 q.1.body) (hb : base ≤ W.heap.size) (hlen : (qs.length + 1) * 32 ≤ 140737488355328)
    (h : ∀ v' w', Pd w' base v' (qs ++ [q]) → (W.alloc (.cells cs 43)).grownBy w' v.ownBlock → K (a.put o.dst v') w') : if Region.wanted o (yielded ops a.tmps) = true then Oper.wp Tryz.prog o a (W.alloc (.cells cs 43)) K Q else E := by
  subst hz
  obtain ⟨i0, hi, hz0, hz1, hz2⟩ := info_parts Tryz.info43
  refine step_append_lies _ hgd s x 22 ho base 43 i0 _ 2 32 Tryz.underlying22 hi hz0 hz1 hz2 rfl (by decide) v _ _ hs (hpd.own.alloc _) ⟨W.heap.size, 0, none⟩ 1 1 (c2 q) hx rfl ?_ (fun u hu => one_c2 [q] u (by simpa using hu)) (by decide) (by unfold maxLen; omega) hlen (by rw [World.size_alloc]; omega) _ rfl ?_
  · intro j u hj
    rw [Addr.add_lit, Nat.zero_add]
    refine cell_new W cs 43 j u ?_
    rw [← hcs] at hj
    simpa using hj
  · intro g cap w' h1 h2 _ _
    exact h _ w' ((hpd.alloc _).next (hq.alloc _) (by simpa using h1) h2) h2
/-- What small lays down, as definitions that are being built. -/
theorem SmallAt.pd {w : World} {B base : Nat} (h : SmallAt w B) (hb : base ≤ B) : Pd w base (.slice (some ⟨B + 10, 0, none⟩) 2 2) [(⟨0, mainL⟩, some ⟨B + 3, 0, none⟩, 5), (⟨2, addsL⟩, some ⟨B + 9, 0, none⟩, 8)] := by
  refine ⟨⟨rfl, Or.inr ⟨B + 10, 2, smallC B, rfl, by omega, h.row, Nat.le_refl _, by decide, rfl, rfl⟩⟩, fun q hq => ?_⟩
  rcases List.mem_cons.1 hq with rfl | hq
  · exact h.mainT
  · rw [List.mem_singleton] at hq; subst hq; exact h.adds.exsT
end Go.Proofs.YtighcikiaddfcaaGreatDoor

namespace Go.Proofs.YtighcikiaddfcaaGreatDoor
open Go.RowKit Go.ChangeShapes Go.WideShapes Go.Deep
set_option linter.unusedVariables false

theorem cells36b : Tryz.prog.cellsOf 43 = 2 := by kernel_rfl
theorem cells24b : Tryz.prog.cellsOf 24 = 1 := by kernel_rfl
theorem cells22b : Tryz.prog.cellsOf 22 = 1 := by kernel_rfl
theorem bytes36b : Tryz.prog.bytesOf 43 = 32 := by kernel_rfl
theorem list1 {α : Type} {l : List α} (h : l.length = 1) : ∃ a, l = [a] := by
  match l, h with
  | [a], _ => exact ⟨a, rfl⟩
/-- The bounds of a definition. -/
def DBd (d : Df) : Prop := d.body.length * 48 ≤ reachBytes ∧ ∀ x ∈ d.body, x.kids.length * 8 ≤ reachBytes

theorem open_defC {H : Type} {enc : TypeId × Value → H} {W : World} {cs : List Value} {fuel : Nat} {y : DataW H × List MemPlace}
    (hf : DataW.trod enc Tryz.prog W 0 (fun _ => true) true fuel 43 cs = some y) (hw : ∀ n ∈ DataW.weights Tryz.prog 43 y.1, n ≤ reachBytes) :
    ∃ (d : Df) (g : Option Addr) (c : Nat), cs = [.int .i64 d.params, .slice g d.body.length c] ∧ ExsN W g d.body ∧ DBd d := by
  obtain ⟨ys, n, _, rfl, hl, hlen, hfs⟩ := DataW.trod_struct Tryz.underlying43 hf
  obtain ⟨c0, c1, rfl⟩ := list2 (hl.trans cells36b)
  obtain ⟨y0, y1, rfl⟩ := list2 (show ys.length = 2 from hlen)
  have h0 := hfs 0 _ rfl
  have h1 := hfs 1 _ rfl
  simp [cells3, cells38] at h0 h1
  obtain ⟨n0, e0, _, _⟩ := DataW.trod_int Tryz.underlying3 h0
  obtain ⟨g, xs, c, e1, hn, hb, hk⟩ := open_body h1 (fun m hm => hw m (by
    rw [List.map_cons, List.map_cons, List.map_nil, DataW.weights, Tryz.underlying43]
    exact DataW.weights_mem_each (j := 1) rfl rfl m hm))
  simp at e0 e1
  subst e0 e1
  exact ⟨⟨n0, xs⟩, g, c, rfl, hn, hb, hk⟩

theorem open_defs {H : Type} {enc : TypeId × Value → H} {W : World} {cs : List Value} {fuel : Nat} {y : DataW H × List MemPlace}
    (hf : DataW.trod enc Tryz.prog W 0 (fun _ => true) true fuel 22 cs = some y) (hw : ∀ n ∈ DataW.weights Tryz.prog 22 y.1, n ≤ reachBytes) :
    ∃ (g : Option Addr) (ds : List Df) (c : Nat), cs = [.slice g ds.length c] ∧ Defs ExsN W g ds ∧ ds.length * 32 ≤ reachBytes ∧ ∀ d ∈ ds, DBd d := by
  rcases open_slice Tryz.underlying22 hf with ⟨hcs, _⟩ | ⟨a, len, cap, m, n, D, Pl, hcs, _, hl, hm, hmm, hx, hel⟩
  · exact ⟨none, [], 0, hcs, Or.inl rfl, by simp, by simp⟩
  · simp only [if_true] at hmm
    subst hx
    simp only [cells36b] at hel
    have hwl := hw ((((List.range len).map D).length + ((List.range (m - len)).map fun j => D (len + j)).length) * Tryz.prog.bytesOf 43) (by rw [DataW.weights, Tryz.underlying22]; exact List.mem_cons_self)
    rw [bytes36b] at hwl
    simp only [List.length_map, List.length_range] at hwl
    have each : ∀ i, i < len → ∃ d : Df, (∃ gk ck, W.cell? (a.add (i * 2)) = some (.int .i64 d.params) ∧ W.cell? (a.add (i * 2 + 1)) = some (.slice gk d.body.length ck) ∧ ExsN W gk d.body) ∧ DBd d := by
      intro i hi
      obtain ⟨cs', h1, h2⟩ := hel i (by omega)
      obtain ⟨d, gk, ck, rfl, hn, hb⟩ := open_defC h2 (fun q hq => hw q (by
        rw [DataW.weights, Tryz.underlying22]
        exact List.mem_cons_of_mem _ (List.mem_append_left _ (mem_weightsAll hq (List.mem_map.2 ⟨i, List.mem_range.2 hi, rfl⟩)))))
      have hc := (World.cells?_some h1).2.2
      have k0 := hc 0 (by omega)
      have k1 := hc 1 (by omega)
      rw [add_add] at k0 k1
      exact ⟨d, ⟨gk, ck, k0, k1, hn⟩, hb⟩
    obtain ⟨E, hE⟩ := @choose_lt Df ⟨⟨0, []⟩⟩ _ _ each
    refine ⟨some a, (List.range len).map E, cap, by rw [hcs]; simp, ?_, by simp; omega, ?_⟩
    · by_cases h0 : len = 0
      · subst h0; exact Or.inl rfl
      · obtain ⟨b, off, spot⟩ := a
        obtain ⟨⟨gk, ck, k0, k1, _⟩, _⟩ := hE 0 (by omega)
        have hspot : spot = none := by simpa [Addr.add] using World.cell?_spot k0
        subst hspot
        refine Or.inr ⟨b, off, rfl, ?_, fun j x hx => ?_⟩
        · rw [Addr.add_lit] at k0
          exact World.block_lt_of_cell? _ _ k0
        · have hj : j < len := by
            have := (List.getElem?_eq_some_iff.1 hx).1
            simpa using this
          have e : x = E j := by
            rw [List.getElem?_map, List.getElem?_range hj] at hx
            exact (Option.some.inj hx).symm
          subst e
          obtain ⟨⟨gk, ck, q0, q1, q2⟩, _⟩ := hE j hj
          rw [Addr.add_lit] at q0 q1
          exact ⟨gk, ck, q0, q1, q2⟩
    · intro x hx
      obtain ⟨i, hi, rfl⟩ := List.mem_map.1 hx
      exact (hE i (List.mem_range.1 hi)).2

end Go.Proofs.YtighcikiaddfcaaGreatDoor

namespace Go.Proofs.YtighcikiaddfcaaGreatDoor
open Go.RowKit
set_option linter.unusedVariables false

theorem KdO.numsT {W : World} {base : Nat} {p : Pt} (h : KdO W base p) : NumsT W p.2.1 p.1.kids := by
  rcases h.2 with ⟨_, h3⟩ | ⟨b, cap, cur, hv, _, hh, _, _, _, ht⟩
  · exact Or.inl (List.length_eq_zero_iff.1 h3)
  · simp at hv
    refine Or.inr ⟨b, cur, hv.1, hh, fun j x hx => ?_⟩
    have hl : j < p.1.kids.length := (List.getElem?_eq_some_iff.1 hx).1
    have h1 : (cur.toList.take (p.1.kids.length * 1))[j]? = some (.int .i64 x) := by rw [ht, List.getElem?_map, hx]; rfl
    rw [List.getElem?_take, if_pos (by omega)] at h1
    simpa using h1
theorem KdO.room {W : World} {base : Nat} {p : Pt} (h : KdO W base p) : p.2.1 = none → p.2.2 = 0 := by
  intro h0
  rcases h.2 with ⟨h2, _⟩ | ⟨b, cap, cur, hv, _⟩
  · simp at h2; exact h2.2.2
  · simp at hv; rw [h0] at hv; cases hv.1
theorem rowT_c4 {W : World} : ∀ {ps : List Pt}, (∀ p ∈ ps, NumsT W p.2.1 p.1.kids ∧ (p.2.1 = none → p.2.2 = 0)) → RowT W (ps.flatMap c4) (ps.map (·.1))
  | [], _ => trivial
  | p :: ps, h => ⟨rfl, rfl, rfl, ⟨_, _, rfl, h p (by simp)⟩, rowT_c4 (fun q hq => h q (by simp [hq]))⟩
theorem BdO.exsT {W : World} {base : Nat} {g : Option Addr} {c : Nat} {ps : List Pt} (h : BdO W base (.slice g ps.length c) ps) : ExsT W g (ps.map (·.1)) := by
  rcases h.own.2 with ⟨_, h3⟩ | ⟨b, cap, cur, hv, _, hh, _, _, _, ht⟩
  · exact Or.inl (by rw [List.length_eq_zero_iff.1 h3]; rfl)
  · simp at hv
    obtain ⟨rfl, _⟩ := hv
    refine exsT_of_row hh ?_
    rw [List.length_map, ht]
    exact rowT_c4 (fun p hp => ⟨(h.kids p hp).numsT, (h.kids p hp).room⟩)
/-- No two of the bodies lie in one block. -/
def Apart (qs : List Dt) : Prop := ∀ (i j : Nat) (p q : Dt), qs[i]? = some p → qs[j]? = some q → i ≠ j → ∀ a b, p.2.1 = some a → q.2.1 = some b → a.block ≠ b.block
/-- The bodies lie from here on. -/
def Lo (lo : Nat) (qs : List Dt) : Prop := ∀ q ∈ qs, ∀ a, q.2.1 = some a → lo ≤ a.block
def Ap (lo : Nat) (w : World) (qs : List Dt) : Prop := Apart qs ∧ ∀ q ∈ qs, ∀ a, q.2.1 = some a → lo ≤ a.block ∧ a.block < w.heap.size
theorem Ap.nil (lo : Nat) (w : World) : Ap lo w [] := ⟨fun i j p q h => by simp at h, fun q hq => by cases hq⟩
theorem Ap.snoc {lo : Nat} {w w' : World} {qs : List Dt} {q : Dt} (h : Ap lo w qs) (hlo : lo ≤ w.heap.size) (hs : w.heap.size ≤ w'.heap.size) (hq : ∀ a, q.2.1 = some a → w.heap.size ≤ a.block ∧ a.block < w'.heap.size) : Ap lo w' (qs ++ [q]) := by
  have key : ∀ (i : Nat) (p : Dt), (qs ++ [q])[i]? = some p → (i < qs.length ∧ p ∈ qs ∧ qs[i]? = some p) ∨ (i = qs.length ∧ p = q) := fun i p hp => by
    by_cases hi : i < qs.length
    · rw [List.getElem?_append_left hi] at hp
      exact .inl ⟨hi, List.mem_of_getElem? hp, hp⟩
    · rw [List.getElem?_append_right (by omega)] at hp
      have h0 : i - qs.length = 0 := by
        have := (List.getElem?_eq_some_iff.1 hp).1
        simp at this; omega
      rw [h0] at hp
      exact .inr ⟨by omega, by simpa using hp.symm⟩
  refine ⟨fun i j a b ha hb hij x y hx hy => ?_, fun p hp a ha => ?_⟩
  · rcases key i a ha with ⟨i1, am, ai⟩ | ⟨i1, rfl⟩
    · rcases key j b hb with ⟨j1, bm, bj⟩ | ⟨j1, rfl⟩
      · exact h.1 i j a b ai bj hij x y hx hy
      · have h1 := h.2 a am x hx
        have h2 := (hq y hy).1
        omega
    · rcases key j b hb with ⟨j1, bm, bj⟩ | ⟨j1, rfl⟩
      · have h1 := h.2 b bm y hy
        have h2 := (hq x hx).1
        omega
      · omega
  · rcases List.mem_append.1 hp with hp | hp
    · exact ⟨(h.2 p hp a ha).1, Nat.lt_of_lt_of_le (h.2 p hp a ha).2 hs⟩
    · rw [List.mem_singleton] at hp; subst hp; exact ⟨Nat.le_trans hlo (hq a ha).1, (hq a ha).2⟩
theorem BdO.block {W : World} {base : Nat} {g : Option Addr} {n c : Nat} {ps : List Pt} (h : BdO W base (.slice g n c) ps) : ∀ a, g = some a → base ≤ a.block ∧ a.block < W.heap.size := by
  intro a ha
  subst ha
  exact h.own.lt a.block rfl

set_option maxHeartbeats 1600000 in
set_option maxRecDepth 100000 in
theorem copyprog_any (g : Option Addr) (c : Nat) (ds : List Df) (w : World) (hd : Defs ExsN w g ds) (hn : ds.length * 32 ≤ 140737488351232) (hk : ∀ d ∈ ds, DBd d) :
    Calls Tryz.prog 20 #[.agg #[.slice g ds.length c]] w fun e w' => ∃ g' c', e = .returned (.agg #[.slice g' ds.length c']) ∧ (∃ qs : List Dt, qs.map (·.1) = ds ∧ qs.length = ds.length ∧ Pd w' (w.heap.size + 2) (.slice g' ds.length c') qs ∧ Apart qs ∧ Lo w.heap.size qs) ∧ Below w.heap.size w w' := by
  go_enter Tryz.func20, Tryz.ntmps20
  go_wp2_with fail
  have HX0 : Hid (Bx1 ((w.alloc (.cells #[.slice g ds.length c] 24)).alloc (.cells #[.slice none 0 0] 24)) w.heap.size (.slice g ds.length c)) := (Bx1.new w _).alloc _
  have HY0 : Hid (Bx1 ((w.alloc (.cells #[.slice g ds.length c] 24)).alloc (.cells #[.slice none 0 0] 24)) (w.heap.size + 1) (.slice none 0 0)) := by
    have h := Bx1.new (w.alloc (.cells #[.slice g ds.length c] 24)) (.slice none 0 0)
    rw [World.size_alloc] at h
    exact h
  have HL0 : Hid (Below w.heap.size w ((w.alloc (.cells #[.slice g ds.length c] 24)).alloc (.cells #[.slice none 0 0] 24))) := ((Below.refl _ w).alloc (Nat.le_refl _) _).alloc (by simp) _
  have HS0 : Hid (w.heap.size + 2 ≤ ((w.alloc (.cells #[.slice g ds.length c] 24)).alloc (.cells #[.slice none 0 0] 24)).heap.size) := by show _ ≤ _; simp
  have HD : Hid (Defs ExsN w g ds) := hd
  have HK : Hid (∀ d ∈ ds, DBd d) := hk
  clear hd hk
  go_loopw [3, 4] (fun s3 s4 wr => ∃ (j : Nat) (qs : List Dt) (g' : Option Addr) (c' : Nat), j ≤ ds.length ∧ s3 = .slice g' j c' ∧ s4 = .int .i64 (j : Int) ∧ Hid (Pd wr (w.heap.size + 2) (.slice g' j c') qs) ∧ Hid (qs.map (·.1) = ds.take j ∧ qs.length = j) ∧ Hid (Ap w.heap.size wr qs) ∧ Hid (Bx1 wr w.heap.size (.slice g ds.length c)) ∧ Hid (Bx1 wr (w.heap.size + 1) (.slice none 0 0)) ∧ Hid (Below w.heap.size w wr) ∧ Hid (w.heap.size + 2 ≤ wr.heap.size))
    (fun _ s4 _ => ds.length - (intOf s4).toNat)
  case atStart => exact ⟨0, [], none, 0, Nat.zero_le _, rfl, rfl, Pd.nil _ _, ⟨by simp, rfl⟩, Ap.nil _ _, HX0, HY0, HL0, HS0⟩
  case round =>
    obtain ⟨j, qs, g', c', hj, rfl, rfl, HP, HQ, HA, HX, HY, HL, HS⟩ := hrel
    have x0 := HX.out.c0
    by_cases hlt : j < ds.length
    · have hlt' : (j : Int) < (ds.length : Int) := by omega
      obtain ⟨bk, o, rfl, hbk, gk, ck, a0, a1, an⟩ := ((HD.out.onE (E' := ExsN) HL.out (fun _ _ k => k.on HL.out)).at hlt)
      have hkj := HK.out ds[j] (List.getElem_mem hlt)
      have HTJ : Hid (ds.take (j + 1) = ds.take j ++ [ds[j]]) := List.take_succ_eq_append_getElem hlt
      obtain ⟨d, he⟩ : ∃ d, ds[j] = d := ⟨_, rfl⟩
      rw [he] at a0 a1 an hkj HTJ
      clear he
      obtain ⟨pp, xs⟩ := d
      dsimp only at a0 a1 an hkj
      have hcp := copydef_any pp gk ck xs wr an hkj.1 hkj.2
      clear an hkj
      go_wp2_with fail
      refine hcp.mono ?_
      rintro e w1 ⟨g1, c1, rfl, ⟨ps, hps, hpl, hB1⟩, hb1⟩
      have hE1 : ExsT w1 g1 xs := by
        have h := hB1
        rw [← hpl] at h
        have h := h.exsT
        rwa [hps] at h
      have hblk := hB1.block
      have hpl2 : (qs.length + 1) * 32 ≤ 140737488355328 := by have := HQ.out.2; omega
      have hsz := hb1.size
      have HW0 : Hid (w.heap.size ≤ wr.heap.size) := HL.out.size
      have HP1 : Hid (Pd w1 (w.heap.size + 2) (.slice g' j c') qs) := HP.out.on hb1
      have HX1 : Hid (Bx1 w1 w.heap.size (.slice (some ⟨bk, o, none⟩) ds.length c)) := HX.out.on hb1
      have HY1 : Hid (Bx1 w1 (w.heap.size + 1) (.slice none 0 0)) := HY.out.on hb1
      have HL1 : Hid (Below w.heap.size w w1) := below_next HL.out hb1
      have HS1 : Hid (w.heap.size + 2 ≤ w1.heap.size) := Nat.le_trans HS.out hsz
      have HE1 : Hid (ExsT w1 g1 xs) := hE1
      have HB1 : Hid (wr.heap.size ≤ w1.heap.size ∧ ∀ a, g1 = some a → wr.heap.size ≤ a.block ∧ a.block < w1.heap.size) := ⟨hsz, fun a ha => by have := hblk a ha; omega⟩
      clear hb1 hB1 hE1 hps hpl hblk hsz HP HX HY HL HS HX0 HY0 HL0 HS0 x0 a0 a1 hcp hbk
      go_wp2_with (at_builtin; refine app_df rfl _ _ rfl (w.heap.size + 2) (.slice g' j c') qs (⟨pp, xs⟩, g1, c1) _ rfl rfl w1.heap.size rfl rfl HP1.out HE1.out HS1.out hpl2 ?_)
      intro v2 w2 hP2 hg2
      obtain ⟨g2, k2, rfl⟩ := hP2.val
      have hs2 := hg2.size
      rw [World.size_alloc] at hs2
      have hl2 : (qs ++ [((⟨pp, xs⟩, g1, c1) : Dt)]).length = j + 1 := by
        rw [List.length_append, HQ.out.2]; rfl
      have HQ2 : Hid ((qs ++ [((⟨pp, xs⟩, g1, c1) : Dt)]).map (·.1) = ds.take (j + 1) ∧ (qs ++ [((⟨pp, xs⟩, g1, c1) : Dt)]).length = j + 1) := by
        refine ⟨?_, hl2⟩
        rw [List.map_append, HQ.out.1, HTJ.out]; rfl
      have HA2 : Hid (Ap w.heap.size w2 (qs ++ [((⟨pp, xs⟩, g1, c1) : Dt)])) := HA.out.snoc HW0.out (by have := HB1.out.1; omega) (fun a ha => by have := HB1.out.2 a ha; omega)
      rw [hl2] at hP2 ⊢
      clear hl2
      obtain ⟨p2, hp2⟩ : ∃ p2, qs ++ [((⟨pp, xs⟩, g1, c1) : Dt)] = p2 := ⟨_, rfl⟩
      rw [hp2] at hP2 HQ2 HA2
      have HX2 : Hid (Bx1 w2 w.heap.size (.slice (some ⟨bk, o, none⟩) ds.length c)) := (HX1.out.alloc _).kept hg2 (HP1.out.not_box HX1.out)
      have HY2 : Hid (Bx1 w2 (w.heap.size + 1) (.slice none 0 0)) := (HY1.out.alloc _).kept hg2 (HP1.out.not_box HY1.out)
      have HL2 : Hid (Below w.heap.size w w2) := (HL1.out.alloc HL1.out.size _).grown hg2 (by rw [World.size_alloc]; have := HL1.out.size; omega) (fun k e => by have := (HP1.out.own.lt k e).1; omega)
      have HS2 : Hid (w.heap.size + 2 ≤ w2.heap.size) := by have := HS1.out; show _ ≤ _; omega
      have HP2 : Hid (Pd w2 (w.heap.size + 2) (.slice g2 (j + 1) k2) p2) := hP2
      clear hP2 hg2 hp2 hs2 HP1 HX1 HY1 HL1 HS1 HE1 HB1 HA HQ
      go_wp2_with fail
      go_roundw
      case rel => exact ⟨j + 1, p2, g2, k2, by omega, rfl, by go_num, HP2, HQ2, HA2, HX2, HY2, HL2, HS2⟩
      case measure => simp [intOf]; omega
    · have hlt' : ¬ (j : Int) < (ds.length : Int) := by omega
      obtain rfl : j = ds.length := by omega
      have y0 := HY.out.c0
      have yf := HY.out.frozen 0
      go_wp2_with fail
      have hY := HY.out.set0 (.slice g' ds.length c')
      have hP := HP.out.far HY.out 0 (.slice g' ds.length c')
      have hL := HL.out.setCell (p := ⟨w.heap.size + 1, 0, none⟩) (Nat.le_succ _) (.slice g' ds.length c')
      obtain ⟨W3, hW3⟩ : ∃ W3, wr.setCell ⟨w.heap.size + 1, 0, none⟩ (.slice g' ds.length c') = W3 := ⟨_, rfl⟩
      rw [hW3] at hY hP hL ⊢
      have q0 := hY.c0
      have hpe := HQ.out
      rw [List.take_length] at hpe
      clear hW3 hY
      refine bodyPost_ret (v := .agg #[.slice g' ds.length c']) (by simp [results, Tryz.results20, go_sem, q0]) rfl ⟨g', c', rfl, ⟨qs, hpe.1, hpe.2, hP, HA.out.1, fun q hq a ha => (HA.out.2 q hq a ha).1⟩, hL⟩
end Go.Proofs.YtighcikiaddfcaaGreatDoor
