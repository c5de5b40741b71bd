/- The contract of the laws' small: a program of two definitions. -/
import Derived.Test.YtiobjkmpeiohdaaBody
import Derived.Test.YtiobjkmpeiohdaaPMay
import Derived.Deep.RegionWith
namespace Go.Proofs.Ytiobjkmpeiohdaa
open Go.RowKit
set_option linter.unusedVariables false

/-- These cells are these definitions. -/
def DRow (w : World) : List Value → List Df → Prop
  | [], [] => True
  | v0 :: v1 :: vs, d :: ds => v0 = .int .i64 d.params ∧ (∃ g c, v1 = .slice g d.body.length c ∧ Exs w g d.body) ∧ DRow w vs ds
  | _, _ => False
theorem DRow.at {w : World} : ∀ {cs : List Value} {ds : List Df}, DRow w cs ds → ∀ (j : Nat) d, ds[j]? = some d →
    ∃ gk ck, cs[j * 2]? = some (.int .i64 d.params) ∧ cs[j * 2 + 1]? = some (.slice gk d.body.length ck) ∧ Exs w gk d.body
  | [], [], _, j, x, hx => by simp at hx
  | v0 :: v1 :: vs, y :: xs, ⟨h0, ⟨g, c, h3, hn⟩, hr⟩, 0, x, hx => by
    have : y = x := by simpa using hx
    subst this
    exact ⟨g, c, by rw [h0]; rfl, by rw [h3]; rfl, hn⟩
  | v0 :: v1 :: vs, y :: xs, ⟨_, _, hr⟩, j + 1, x, hx => by
    obtain ⟨gk, ck, a0, a1, a2⟩ := hr.at j x (by simpa using hx)
    have e : ∀ i, (v0 :: v1 :: vs)[(j + 1) * 2 + i]? = vs[j * 2 + i]? := fun i => by
      rw [show (j + 1) * 2 + i = (j * 2 + i) + 1 + 1 by omega]; simp
    exact ⟨gk, ck, by rw [← Nat.add_zero ((j + 1) * 2), e]; exact a0, by rw [e]; exact a1, a2⟩
/-- A row of definitions' cells. -/
def Rd (w : World) (b : Nat) (cs : Array Value) : Prop := w.heap[b]? = some (.cells cs 36 (0, 0))
theorem Rd.lt {w : World} {b : Nat} {cs : Array Value} (h : Rd w b cs) : b < w.heap.size := (Array.getElem?_eq_some_iff.1 h).1
theorem Rd.set {w : World} {b : Nat} {cs : Array Value} (h : Rd w b cs) (j : Nat) (v : Value) : Rd (w.setCell ⟨b, j, none⟩ v) b (cs.setIfInBounds j v) := by
  obtain ⟨hlt, hk⟩ := Array.getElem?_eq_some_iff.1 h
  show (w.heap.modify b _)[b]? = _
  rw [Array.getElem?_eq_getElem (by rw [Array.size_modify]; exact hlt), Array.getElem_modify_self, hk]
  rfl
theorem Rd.other {w : World} {b : Nat} {cs : Array Value} (h : Rd w b cs) {b' : Nat} (j : Nat) (v : Value) (hne : b ≠ b') : Rd (w.setCell ⟨b', j, none⟩ v) b cs := (Below.heap_setCell w _ _ b hne).trans h
theorem Rd.alloc {w : World} {b : Nat} {cs : Array Value} (h : Rd w b cs) (o : Obj) : Rd (w.alloc o) b cs := (Below.heap_alloc w o b h.lt).trans h
theorem Rd.on {w w' : World} {b : Nat} {cs : Array Value} (h : Rd w b cs) (hb : Below w.heap.size w w') : Rd w' b cs := (hb.block b h.lt).trans h
theorem Rd.cell {w : World} {b : Nat} {cs : Array Value} (h : Rd w b cs) (j : Nat) (v : Value) (hv : cs[j]? = some v) : w.cell? ⟨b, j, none⟩ = some v := by
  unfold World.cell?
  simp only [show w.heap[b]? = _ from h]
  exact hv
theorem Rd.frozen {w : World} {b : Nat} {cs : Array Value} (h : Rd w b cs) (j : Nat) : w.frozen? ⟨b, j, none⟩ = false := by
  simp [World.frozen?, show w.heap[b]? = _ from h]
theorem Rd.defs {w : World} {b : Nat} {cs : Array Value} {ds : List Df} (h : Rd w b cs) (hr : DRow w (cs.toList.take (ds.length * 2)) ds) : Defs Exs w (some ⟨b, 0, none⟩) ds := by
  refine Or.inr ⟨b, 0, rfl, h.lt, fun j x hx => ?_⟩
  obtain ⟨gk, ck, a0, a1, a2⟩ := hr.at j x hx
  have key : ∀ i v, (cs.toList.take (ds.length * 2))[i]? = some v → cs[i]? = some v := fun i v hv => by
    rw [List.getElem?_take] at hv
    split at hv
    · simpa using hv
    · cases hv
  refine ⟨gk, ck, ?_⟩
  rw [Nat.zero_add]
  exact ⟨h.cell _ _ (key _ _ a0), h.cell _ _ (key _ _ a1), a2⟩

def mainL : List Ex := [⟨7, 0, 0, []⟩, ⟨0, 4, 0, []⟩, ⟨3, 7, 0, [0, 1]⟩, ⟨0, 5, 0, []⟩, ⟨2, 1, 0, [2, 3]⟩]
def mainC (B : Nat) : Array Value := #[I 7, I 0, I 0, nilS, I 0, I 4, I 0, nilS, I 3, I 7, I 0, .slice (some ⟨B + 1, 0, none⟩) 2 2, I 0, I 5, I 0, nilS, I 2, I 1, I 0, .slice (some ⟨B + 2, 0, none⟩) 2 2]
def smallC (B : Nat) : Array Value := #[I 0, .slice (some ⟨B + 3, 0, none⟩) 5 5, I 2, .slice (some ⟨B + 9, 0, none⟩) 8 8]
def smallL : List Df := [⟨0, mainL⟩, ⟨2, addsL⟩]
/-- What small lays down. -/
structure SmallAt (w : World) (B : Nat) : Prop where
  row : Rd w (B + 10) (smallC B)
  main : Rw w (B + 3) (mainC B)
  k1 : Lv w (B + 1) [0, 1]
  k2 : Lv w (B + 2) [2, 3]
  adds : AddsAt w (B + 5)
theorem cell_nx {wc w' : World} {p : Addr} {x : Value} (h : wc.cell? p = some x) (hb : Below wc.heap.size wc w') : w'.cell? p = some x := by
  rw [hb.cell (World.block_lt_of_cell? wc p h)]; exact h
theorem SmallAt.on {w w' : World} {B : Nat} (h : SmallAt w B) (hb : Below w.heap.size w w') : SmallAt w' B :=
  ⟨h.row.on hb, h.main.on hb, h.k1.on hb h.k1.lt, h.k2.on hb h.k2.lt, h.adds.on hb⟩
theorem SmallAt.mainX {w : World} {B : Nat} (h : SmallAt w B) : Exs w (some ⟨B + 3, 0, none⟩) mainL :=
  exs_of_row h.main ⟨rfl, rfl, rfl, ⟨_, _, rfl, nums_nil _ _⟩, rfl, rfl, rfl, ⟨_, _, rfl, nums_nil _ _⟩, rfl, rfl, rfl, ⟨_, _, rfl, h.k1.nums⟩, rfl, rfl, rfl, ⟨_, _, rfl, nums_nil _ _⟩, rfl, rfl, rfl, ⟨_, _, rfl, h.k2.nums⟩, trivial⟩
theorem SmallAt.defs {w : World} {B : Nat} (h : SmallAt w B) : Defs Exs w (some ⟨B + 10, 0, none⟩) smallL :=
  h.row.defs ⟨rfl, ⟨_, _, rfl, h.mainX⟩, rfl, ⟨_, _, rfl, h.adds.exs⟩, trivial⟩
theorem pmay_small : pmay smallL = true := by decide +kernel

/-- What lies ahead of the call of adds. -/
structure PreAt (w : World) (B : Nat) : Prop where
  box : Bx1 w B (.slice none 0 0)
  main : Rw w (B + 3) (mainC B)
  k1 : Lv w (B + 1) [0, 1]
  k2 : Lv w (B + 2) [2, 3]
  mb : Bx2 w (B + 4) 0 (.slice (some ⟨B + 3, 0, none⟩) 5 5)
  size : w.heap.size = B + 5
theorem pre_at (w : World) : PreAt (((((w.alloc (.cells #[.slice none 0 0] 24)).alloc (.cells #[I 0, I 1] 3)).alloc (.cells #[I 2, I 3] 3)).alloc (.cells (mainC w.heap.size) 33)).alloc (.cells #[I 0, .slice (some ⟨w.heap.size + 1 + 1 + 1, 0, none⟩) 5 5] 36)) w.heap.size := by
  refine ⟨((((Bx1.new w _).alloc _).alloc _).alloc _).alloc _, ?_, ?_, ?_, ?_, by simp⟩
  · have h : Rw ((((w.alloc (.cells #[.slice none 0 0] 24)).alloc (.cells #[I 0, I 1] 3)).alloc (.cells #[I 2, I 3] 3)).alloc (.cells (mainC w.heap.size) 33)) (w.heap.size + 3) (mainC w.heap.size) := by
      have h := World.alloc_heap_new (((w.alloc (.cells #[.slice none 0 0] 24)).alloc (.cells #[I 0, I 1] 3)).alloc (.cells #[I 2, I 3] 3)) (.cells (mainC w.heap.size) 33)
      simp only [World.size_alloc] at h
      exact h
    exact h.alloc _
  · have h := ((Lv.new (w.alloc (.cells #[.slice none 0 0] 24)) [0, 1]).alloc (.cells #[I 2, I 3] 3)).alloc (.cells (mainC w.heap.size) 33)
    simp only [World.size_alloc] at h
    exact h.alloc _
  · have h := (Lv.new ((w.alloc (.cells #[.slice none 0 0] 24)).alloc (.cells #[I 0, I 1] 3)) [2, 3]).alloc (.cells (mainC w.heap.size) 33)
    simp only [World.size_alloc] at h
    exact h.alloc _
  · have h := Bx2.new ((((w.alloc (.cells #[.slice none 0 0] 24)).alloc (.cells #[I 0, I 1] 3)).alloc (.cells #[I 2, I 3] 3)).alloc (.cells (mainC w.heap.size) 33)) 0 (.slice (some ⟨w.heap.size + 1 + 1 + 1, 0, none⟩) 5 5)
    simp only [World.size_alloc] at h
    exact h
theorem small_at {w W5 w6 : World} {B : Nat} (h : PreAt W5 B) (a6 : AddsAt w6 W5.heap.size ∧ w6.heap.size = W5.heap.size + 5 ∧ Below W5.heap.size W5 w6) (h0 : Below B w W5) {W7 : World}
    (hW : (w6.setCell ⟨B, 0, none⟩ (.slice (some ⟨w6.heap.size, 0, none⟩) 2 2)).alloc (.cells #[I 0, .slice (some ⟨B + 1 + 1 + 1, 0, none⟩) 5 5, I 2, .slice (some ⟨W5.heap.size + 4, 0, none⟩) 8 8] 36) = W7) :
    w6.heap.size = B + 10 ∧ W7.cell? ⟨B, 0, none⟩ = some (.slice (some ⟨w6.heap.size, 0, none⟩) 2 2) ∧ SmallAt W7 B ∧ Below B w W7 ∧ W7.heap.size = B + 11 := by
  subst hW
  obtain ⟨ha, hs, hb⟩ := a6
  have h5 := h.size
  have l1 := h.k1.lt
  have l2 := h.k2.lt
  have hB : Below B w (w6.setCell ⟨B, 0, none⟩ (.slice (some ⟨w6.heap.size, 0, none⟩) 2 2)) := (h0.trans (hb.mono (by omega))).setCell (p := ⟨B, 0, none⟩) (Nat.le_refl _) _
  have hx := ((h.box.on hb).set0 (.slice (some ⟨w6.heap.size, 0, none⟩) 2 2)).alloc (.cells #[I 0, .slice (some ⟨B + 1 + 1 + 1, 0, none⟩) 5 5, I 2, .slice (some ⟨W5.heap.size + 4, 0, none⟩) 8 8] 36)
  rw [h5] at ha
  refine ⟨by omega, hx.c0, ⟨?_, ((h.main.on hb).other 0 _ (by omega)).alloc _, ((h.k1.on hb l1).other 0 _ (by omega)).alloc _, ((h.k2.on hb l2).other 0 _ (by omega)).alloc _, ?_⟩, hB.alloc (by simp; omega) _, by simp; omega⟩
  · have h := World.alloc_heap_new (w6.setCell ⟨B, 0, none⟩ (.slice (some ⟨w6.heap.size, 0, none⟩) 2 2)) (.cells #[I 0, .slice (some ⟨B + 1 + 1 + 1, 0, none⟩) 5 5, I 2, .slice (some ⟨W5.heap.size + 4, 0, none⟩) 8 8] 36)
    have e : (w6.setCell ⟨B, 0, none⟩ (.slice (some ⟨w6.heap.size, 0, none⟩) 2 2)).heap.size = B + 10 := by simp; omega
    rw [e] at h
    rw [h5] at h ⊢
    exact h
  · exact ⟨((show Rw _ _ _ from ha.body).other 0 _ (by omega)).alloc _, (ha.k1.other 0 _ (by omega)).alloc _, (ha.k2.other 0 _ (by omega)).alloc _, (ha.k3.other 0 _ (by omega)).alloc _⟩

set_option maxHeartbeats 800000 in
set_option maxRecDepth 100000 in
theorem small_any (w : World) :
    Calls Try.prog 12 #[] w fun e w' => e = .returned (.agg #[.slice (some ⟨w.heap.size + 10, 0, none⟩) 2 2]) ∧ SmallAt w' w.heap.size ∧ Below w.heap.size w w' ∧ w'.heap.size = w.heap.size + 11 := by
  go_enter Try.func12, Try.ntmps12
  go_wp2_with fail
  have hp := pre_at w
  have hb : Below w.heap.size w (((((w.alloc (.cells #[.slice none 0 0] 24)).alloc (.cells #[I 0, I 1] 3)).alloc (.cells #[I 2, I 3] 3)).alloc (.cells (mainC w.heap.size) 33)).alloc (.cells #[I 0, .slice (some ⟨w.heap.size + 1 + 1 + 1, 0, none⟩) 5 5] 36)) := (((((Below.refl _ w).alloc (Nat.le_refl _) _).alloc (by simp) _).alloc (by simp; omega) _).alloc (by simp; omega) _).alloc (by simp; omega) _
  unfold mainC at hp hb
  obtain ⟨W5, hW5⟩ : ∃ W5, (((((w.alloc (.cells #[.slice none 0 0] 24)).alloc (.cells #[I 0, I 1] 3)).alloc (.cells #[I 2, I 3] 3)).alloc (.cells #[I 7, I 0, I 0, nilS, I 0, I 4, I 0, nilS, I 3, I 7, I 0, .slice (some ⟨w.heap.size + 1, 0, none⟩) 2 2, I 0, I 5, I 0, nilS, I 2, I 1, I 0, .slice (some ⟨w.heap.size + 2, 0, none⟩) 2 2] 33)).alloc (.cells #[I 0, .slice (some ⟨w.heap.size + 1 + 1 + 1, 0, none⟩) 5 5] 36)) = W5 := ⟨_, rfl⟩
  rw [hW5] at hp hb
  have hW5' : (((((w.alloc (.cells #[.slice none 0 0] 24)).alloc (.cells #[I 0, I 1] 3)).alloc (.cells #[I 2, I 3] 3)).alloc (.cells #[I 7, I 0, I 0, nilS, I 0, I 4, I 0, nilS, I 3, I 7, I 0, .slice (some ⟨w.heap.size + 1, 0, none⟩) 2 2, I 0, I 5, I 0, nilS, I 2, I 1, I 0, .slice (some ⟨w.heap.size + 1 + 1, 0, none⟩) 2 2] 33)).alloc (.cells #[I 0, .slice (some ⟨w.heap.size + 1 + 1 + 1, 0, none⟩) 5 5] 36)) = W5 := hW5
  rw [hW5']
  clear hW5 hW5'
  have m0 : W5.cell? ⟨w.heap.size + 1 + 1 + 1 + 1, 0, none⟩ = some (I 0) := hp.mb.c0
  have m1 : W5.cell? ⟨w.heap.size + 1 + 1 + 1 + 1, 1, none⟩ = some (.slice (some ⟨w.heap.size + 1 + 1 + 1, 0, none⟩) 5 5) := hp.mb.c1
  have HP : Hid (PreAt W5 w.heap.size) := hp
  have HB : Hid (Below w.heap.size w W5) := hb
  clear hp hb
  go_region_with (go_at_call 14; refine (adds_any _).mono ?_; rintro e w6 ⟨rfl, ha6, hb6, hs6⟩; have hb7 : Below W5.heap.size W5 w6 := ⟨hb6.os, hb6.tape, hb6.output, hb6.size, hb6.block⟩; have n0 := cell_nx m0 hb7; have n1 := cell_nx m1 hb7; have x0 := (HP.out.box.on hb7).c0; have x1 := (HP.out.box.on hb7).frozen 0; have xl := (HP.out.box.on hb7).lt; have HA7 : Hid (AddsAt w6 W5.heap.size ∧ w6.heap.size = W5.heap.size + 5 ∧ Below W5.heap.size W5 w6) := ⟨ha6, hs6, hb7⟩; clear ha6 hs6 hb6 hb7)
  all_goals
    obtain ⟨W7, hW7⟩ : ∃ W7, (w6.setCell ⟨w.heap.size, 0, none⟩ (.slice (some ⟨w6.heap.size, 0, none⟩) 2 2)).alloc (.cells #[I 0, .slice (some ⟨w.heap.size + 1 + 1 + 1, 0, none⟩) 5 5, I 2, .slice (some ⟨W5.heap.size + 4, 0, none⟩) 8 8] 36) = W7 := ⟨_, rfl⟩
    obtain ⟨e6, c7, s7, b7, z7⟩ := small_at HP.out HA7.out HB.out hW7
    rw [hW7]
    clear hW7 x0 x1 xl n0 n1 m0 m1
    go_wp2_with fail
    refine bodyPost_ret (v := .agg #[.slice (some ⟨w.heap.size + 10, 0, none⟩) 2 2]) (by rw [e6] at c7; simp [results, Try.results12, go_sem, c7]) rfl ⟨rfl, s7, b7, z7⟩
end Go.Proofs.Ytiobjkmpeiohdaa
