/- The contract of the laws' awake. -/
import Derived.Test.YtknbpfaeedapnaaAdds
namespace Go.Proofs.Ytknbpfaeedapnaa
open Go.RowKit
set_option linter.unusedVariables false

theorem AddsAt.cell {w : World} {B : Nat} (h : AddsAt w B) (j : Nat) (v : Value) (hv : (addsC B)[j]? = some v) : w.cell? ⟨B + 4, j, none⟩ = some v := by
  unfold World.cell?
  simp only [h.body]
  exact hv
theorem AddsAt.frozen {w : World} {B : Nat} (h : AddsAt w B) (j : Nat) : w.frozen? ⟨B + 4, j, none⟩ = false := by
  simp [World.frozen?, h.body]
theorem AddsAt.lt {w : World} {B : Nat} (h : AddsAt w B) : B + 4 < w.heap.size := (Array.getElem?_eq_some_iff.1 h.body).1

/-- A row of parts' cells. -/
def Rw (w : World) (b : Nat) (cs : Array Value) : Prop := w.heap[b]? = some (.cells cs 33 (0, 0))
theorem Rw.lt {w : World} {b : Nat} {cs : Array Value} (h : Rw w b cs) : b < w.heap.size := (Array.getElem?_eq_some_iff.1 h).1
theorem Rw.set {w : World} {b : Nat} {cs : Array Value} (h : Rw w b cs) (j : Nat) (v : Value) : Rw (w.setCell ⟨b, j, none⟩ v) b (cs.setIfInBounds j v) := by
  obtain ⟨hlt, hk⟩ := Array.getElem?_eq_some_iff.1 h
  show (w.heap.modify b _)[b]? = _
  rw [Array.getElem?_eq_getElem (by rw [Array.size_modify]; exact hlt), Array.getElem_modify_self, hk]
  rfl
theorem Rw.other {w : World} {b : Nat} {cs : Array Value} (h : Rw w b cs) {b' : Nat} (j : Nat) (v : Value) (hne : b ≠ b') : Rw (w.setCell ⟨b', j, none⟩ v) b cs := (Below.heap_setCell w _ _ b hne).trans h
theorem Rw.alloc {w : World} {b : Nat} {cs : Array Value} (h : Rw w b cs) (o : Obj) : Rw (w.alloc o) b cs := (Below.heap_alloc w o b h.lt).trans h
theorem Rw.on {w w' : World} {b : Nat} {cs : Array Value} (h : Rw w b cs) (hb : Below w.heap.size w w') : Rw w' b cs := (hb.block b h.lt).trans h
theorem Lv.other {w : World} {b : Nat} {L : List Int} (h : Lv w b L) {b' : Nat} (j : Nat) (v : Value) (hne : b ≠ b') : Lv (w.setCell ⟨b', j, none⟩ v) b L := h.kept (grown_set w b' j v) (by intro e; exact hne (Option.some.inj e))
/-- Adds with something turned: the three kids' lists as they were. -/
theorem Rw.cell {w : World} {b : Nat} {cs : Array Value} (h : Rw w b cs) (j : Nat) (v : Value) (hv : cs[j]? = some v) : w.cell? ⟨b, j, none⟩ = some v := by
  unfold World.cell?
  simp only [show w.heap[b]? = _ from h]
  exact hv
theorem Rw.frozen {w : World} {b : Nat} {cs : Array Value} (h : Rw w b cs) (j : Nat) : w.frozen? ⟨b, j, none⟩ = false := by
  simp [World.frozen?, show w.heap[b]? = _ from h]

def xsA : List Ex := [⟨1, 0, 0, []⟩, ⟨1, 4, 0, []⟩, ⟨1, 1, 0, []⟩, ⟨4, 0, 0, [1, 2]⟩, ⟨1, 0, 0, []⟩, ⟨1, 1, 0, []⟩, ⟨4, 0, 0, [4, 5]⟩, ⟨5, 7, 2, [0, 3, 6]⟩]
def xsB : List Ex := [⟨1, 0, 0, []⟩, ⟨1, 3, 0, []⟩, ⟨1, 1, 0, []⟩, ⟨4, 0, 0, [1, 1]⟩, ⟨1, 0, 0, []⟩, ⟨1, 1, 0, []⟩, ⟨4, 0, 0, [4, 5]⟩, ⟨5, 7, 2, [0, 3, 6]⟩]
def xsC : List Ex := [⟨1, 0, 0, []⟩, ⟨1, 3, 0, []⟩, ⟨1, 1, 0, []⟩, ⟨4, 0, 0, [1, 2]⟩, ⟨1, 0, 0, []⟩, ⟨1, 1, 0, []⟩, ⟨4, 0, 0, [4, 5]⟩, ⟨5, 7, 1, [0, 3, 6]⟩]
theorem may_A : may 2 xsA = false := by decide +kernel
theorem may_B : may 2 xsB = false := by decide +kernel
theorem may_C : may 2 xsC = false := by decide +kernel
theorem may_none : may 0 [] = false := by decide +kernel
/-- Three definitions in their boxes. -/
structure WakeAt (W : World) (z B1 B2 B3 : Nat) : Prop where
  e1 : Exs W (some ⟨B1 + 4, 0, none⟩) xsA
  e2 : Exs W (some ⟨B2 + 4, 0, none⟩) xsB
  e3 : Exs W (some ⟨B3 + 4, 0, none⟩) xsC
  lt : z + 1 + 1 < W.heap.size
  a0 : W.cell? ⟨z, 0, none⟩ = some (I 2)
  a1 : W.cell? ⟨z, 1, none⟩ = some (.slice (some ⟨B1 + 4, 0, none⟩) 8 8)
  b0 : W.cell? ⟨z + 1, 0, none⟩ = some (I 2)
  b1 : W.cell? ⟨z + 1, 1, none⟩ = some (.slice (some ⟨B2 + 4, 0, none⟩) 8 8)
  c0 : W.cell? ⟨z + 1 + 1, 0, none⟩ = some (I 2)
  c1 : W.cell? ⟨z + 1 + 1, 1, none⟩ = some (.slice (some ⟨B3 + 4, 0, none⟩) 8 8)
theorem WakeAt.on {W W' : World} {z B1 B2 B3 : Nat} (h : WakeAt W z B1 B2 B3) (hb : Below W.heap.size W W') : WakeAt W' z B1 B2 B3 :=
  have l := h.lt
  ⟨h.e1.on hb, h.e2.on hb, h.e3.on hb, Nat.lt_of_lt_of_le l hb.size, (hb.cell (p := ⟨z, 0, none⟩) (by show z < _; omega)).trans h.a0, (hb.cell (p := ⟨z, 1, none⟩) (by show z < _; omega)).trans h.a1, (hb.cell (p := ⟨z + 1, 0, none⟩) (by show z + 1 < _; omega)).trans h.b0, (hb.cell (p := ⟨z + 1, 1, none⟩) (by show z + 1 < _; omega)).trans h.b1, (hb.cell (p := ⟨z + 1 + 1, 0, none⟩) l).trans h.c0, (hb.cell (p := ⟨z + 1 + 1, 1, none⟩) l).trans h.c1⟩
theorem wake_at (w3 : World) (B1 B2 B3 : Nat) (h1 : AddsAt w3 B1) (h2 : AddsAt w3 B2) (h3 : AddsAt w3 B3) (e2 : B2 = B1 + 5) (e3 : B3 = B2 + 5) (e4 : w3.heap.size = B3 + 5) :
    WakeAt ((((((((w3.setCell ⟨B1 + 4, 5, none⟩ (I 4)).setCell ⟨B2 + 4, 15, none⟩ (.slice (some ⟨w3.heap.size + 1 + 1 + 1, 0, none⟩) 2 2)).setCell ⟨B3 + 4, 30, none⟩ (I 1)).alloc (.cells #[I 2, .slice (some ⟨B1 + 4, 0, none⟩) 8 8] 24)).alloc (.cells #[I 2, .slice (some ⟨B2 + 4, 0, none⟩) 8 8] 24)).alloc (.cells #[I 2, .slice (some ⟨B3 + 4, 0, none⟩) 8 8] 24)).alloc (.cells #[I 1, I 1] 3))) w3.heap.size B1 B2 B3 := by
  obtain ⟨w6, hw6⟩ : ∃ w6, ((w3.setCell ⟨B1 + 4, 5, none⟩ (I 4)).setCell ⟨B2 + 4, 15, none⟩ (.slice (some ⟨w3.heap.size + 1 + 1 + 1, 0, none⟩) 2 2)).setCell ⟨B3 + 4, 30, none⟩ (I 1) = w6 := ⟨_, rfl⟩
  have sz : w6.heap.size = w3.heap.size := by rw [← hw6]; simp
  have r1 : Rw w6 (B1 + 4) ((addsC B1).setIfInBounds 5 (I 4)) := by
    rw [← hw6]; exact (((show Rw w3 (B1 + 4) (addsC B1) from h1.body).set 5 (I 4)).other 15 _ (by omega)).other 30 _ (by omega)
  have r2 : Rw w6 (B2 + 4) ((addsC B2).setIfInBounds 15 (.slice (some ⟨w3.heap.size + 1 + 1 + 1, 0, none⟩) 2 2)) := by
    rw [← hw6]; exact (((show Rw w3 (B2 + 4) (addsC B2) from h2.body).other 5 (I 4) (by omega)).set 15 _).other 30 _ (by omega)
  have r3 : Rw w6 (B3 + 4) ((addsC B3).setIfInBounds 30 (I 1)) := by
    rw [← hw6]; exact (((show Rw w3 (B3 + 4) (addsC B3) from h3.body).other 5 (I 4) (by omega)).other 15 _ (by omega)).set 30 (I 1)
  have k : ∀ {b : Nat} {L : List Int}, Lv w3 b L → b ≠ B1 + 4 → b ≠ B2 + 4 → b ≠ B3 + 4 → Lv w6 b L := fun h n1 n2 n3 => by
    rw [← hw6]; exact ((h.other 5 (I 4) n1).other 15 _ n2).other 30 _ n3
  have a1 := k h1.k1 (by omega) (by omega) (by omega)
  have a2 := k h1.k2 (by omega) (by omega) (by omega)
  have a3 := k h1.k3 (by omega) (by omega) (by omega)
  have b2 := k h2.k2 (by omega) (by omega) (by omega)
  have b3 := k h2.k3 (by omega) (by omega) (by omega)
  have c1 := k h3.k1 (by omega) (by omega) (by omega)
  have c2 := k h3.k2 (by omega) (by omega) (by omega)
  have c3 := k h3.k3 (by omega) (by omega) (by omega)
  rw [← sz] at r2 ⊢
  rw [show ((w3.setCell ⟨B1 + 4, 5, none⟩ (I 4)).setCell ⟨B2 + 4, 15, none⟩ (.slice (some ⟨w6.heap.size + 1 + 1 + 1, 0, none⟩) 2 2)).setCell ⟨B3 + 4, 30, none⟩ (I 1) = w6 by rw [sz]; exact hw6]
  clear hw6 k h1 h2 h3 sz
  have hl := Lv.new (((w6.alloc (.cells #[I 2, .slice (some ⟨B1 + 4, 0, none⟩) 8 8] 24)).alloc (.cells #[I 2, .slice (some ⟨B2 + 4, 0, none⟩) 8 8] 24)).alloc (.cells #[I 2, .slice (some ⟨B3 + 4, 0, none⟩) 8 8] 24)) [1, 1]
  have p0 := fun (o : Obj) j v hv => cell_old o (cell_old (.cells #[I 2, .slice (some ⟨B3 + 4, 0, none⟩) 8 8] 24) (cell_old (.cells #[I 2, .slice (some ⟨B2 + 4, 0, none⟩) 8 8] 24) (cell_new w6 #[I 2, .slice (some ⟨B1 + 4, 0, none⟩) 8 8] 24 j v hv)))
  have p1 := fun (o : Obj) j v hv => cell_old o (cell_old (.cells #[I 2, .slice (some ⟨B3 + 4, 0, none⟩) 8 8] 24) (cell_new (w6.alloc (.cells #[I 2, .slice (some ⟨B1 + 4, 0, none⟩) 8 8] 24)) #[I 2, .slice (some ⟨B2 + 4, 0, none⟩) 8 8] 24 j v hv))
  have p2 := fun (o : Obj) j v hv => cell_old o (cell_new ((w6.alloc (.cells #[I 2, .slice (some ⟨B1 + 4, 0, none⟩) 8 8] 24)).alloc (.cells #[I 2, .slice (some ⟨B2 + 4, 0, none⟩) 8 8] 24)) #[I 2, .slice (some ⟨B3 + 4, 0, none⟩) 8 8] 24 j v hv)
  simp only [World.size_alloc] at hl p1 p2
  refine ⟨?_, ?_, ?_, by simp, p0 _ 0 _ rfl, p0 _ 1 _ rfl, p1 _ 0 _ rfl, p1 _ 1 _ rfl, p2 _ 0 _ rfl, p2 _ 1 _ rfl⟩
  · exact exs_of_row ((((r1.alloc _).alloc _).alloc _).alloc _) ⟨rfl, rfl, rfl, ⟨_, _, rfl, nums_nil _ _⟩, rfl, rfl, rfl, ⟨_, _, rfl, nums_nil _ _⟩, rfl, rfl, rfl, ⟨_, _, rfl, nums_nil _ _⟩, rfl, rfl, rfl, ⟨_, _, rfl, ((((a1.alloc _).alloc _).alloc _).alloc _).nums⟩, rfl, rfl, rfl, ⟨_, _, rfl, nums_nil _ _⟩, rfl, rfl, rfl, ⟨_, _, rfl, nums_nil _ _⟩, rfl, rfl, rfl, ⟨_, _, rfl, ((((a2.alloc _).alloc _).alloc _).alloc _).nums⟩, rfl, rfl, rfl, ⟨_, _, rfl, ((((a3.alloc _).alloc _).alloc _).alloc _).nums⟩, trivial⟩
  · exact exs_of_row ((((r2.alloc _).alloc _).alloc _).alloc _) ⟨rfl, rfl, rfl, ⟨_, _, rfl, nums_nil _ _⟩, rfl, rfl, rfl, ⟨_, _, rfl, nums_nil _ _⟩, rfl, rfl, rfl, ⟨_, _, rfl, nums_nil _ _⟩, rfl, rfl, rfl, ⟨_, _, rfl, hl.nums⟩, rfl, rfl, rfl, ⟨_, _, rfl, nums_nil _ _⟩, rfl, rfl, rfl, ⟨_, _, rfl, nums_nil _ _⟩, rfl, rfl, rfl, ⟨_, _, rfl, ((((b2.alloc _).alloc _).alloc _).alloc _).nums⟩, rfl, rfl, rfl, ⟨_, _, rfl, ((((b3.alloc _).alloc _).alloc _).alloc _).nums⟩, trivial⟩
  · exact exs_of_row ((((r3.alloc _).alloc _).alloc _).alloc _) ⟨rfl, rfl, rfl, ⟨_, _, rfl, nums_nil _ _⟩, rfl, rfl, rfl, ⟨_, _, rfl, nums_nil _ _⟩, rfl, rfl, rfl, ⟨_, _, rfl, nums_nil _ _⟩, rfl, rfl, rfl, ⟨_, _, rfl, ((((c1.alloc _).alloc _).alloc _).alloc _).nums⟩, rfl, rfl, rfl, ⟨_, _, rfl, nums_nil _ _⟩, rfl, rfl, rfl, ⟨_, _, rfl, nums_nil _ _⟩, rfl, rfl, rfl, ⟨_, _, rfl, ((((c2.alloc _).alloc _).alloc _).alloc _).nums⟩, rfl, rfl, rfl, ⟨_, _, rfl, ((((c3.alloc _).alloc _).alloc _).alloc _).nums⟩, trivial⟩

set_option maxHeartbeats 1600000 in
set_option maxRecDepth 100000 in
theorem awake_any (w : World) :
    Calls Try.prog 12 #[] w fun e w' => e = .returned (.bool true) ∧ Below w.heap.size w w' := by
  go_enter Try.func12, Try.ntmps12
  go_wp2_with fail
  refine (adds_any _).mono ?_
  rintro e w1 ⟨rfl, a1, hb1, s1⟩
  have S1 : Hid _ := s1
  clear s1
  go_wp2_with fail
  refine (adds_any _).mono ?_
  rintro e w2 ⟨rfl, a2, hb2, s2⟩
  have S2 : Hid _ := s2
  clear s2
  go_wp2_with fail
  refine (adds_any _).mono ?_
  rintro e w3 ⟨rfl, a3, hb3, s3⟩
  have S3 : Hid _ := s3
  clear s3
  have s1 := S1.out
  have s2 := S2.out
  have s3 := S3.out
  have hb13 : Below w1.heap.size w1 w3 := below_next hb2 hb3
  have A1 := a1.on hb13
  have A2 := a2.on hb3
  have hb03 : Below w.heap.size w w3 := below_next hb1 hb13
  obtain ⟨B1, e1⟩ : ∃ B1, w.heap.size = B1 := ⟨_, rfl⟩
  obtain ⟨B2, e2⟩ : ∃ B2, w1.heap.size = B2 := ⟨_, rfl⟩
  obtain ⟨B3, e3⟩ : ∃ B3, w2.heap.size = B3 := ⟨_, rfl⟩
  rw [e1] at A1 s1
  rw [e2] at A2 s1 s2
  rw [e3] at a3 s2 s3
  rw [e1, e2, e3]
  have c1 := A1.cell 5 (I 3) rfl
  have f1 := A1.frozen 5
  have c2 := A2.cell 15 (.slice (some ⟨B2 + 1, 0, none⟩) 2 2) rfl
  have f2 := A2.frozen 15
  have c3 := a3.cell 30 (I 2) rfl
  have f3 := a3.frozen 30
  have n1 : ¬ B1 = B2 := by omega
  have n2 : ¬ B2 = B1 := by omega
  have n3 : ¬ B1 = B3 := by omega
  have n4 : ¬ B3 = B1 := by omega
  have n5 : ¬ B2 = B3 := by omega
  have n6 : ¬ B3 = B2 := by omega
  have l1 := A1.lt
  have l2 := A2.lt
  have l3 := a3.lt
  have l11 : B1 + 4 < w3.heap.size + 1 := by omega
  have l12 : B1 + 4 < w3.heap.size + 1 + 1 := by omega
  have l13 : B1 + 4 < w3.heap.size + 1 + 1 + 1 := by omega
  have l21 : B2 + 4 < w3.heap.size + 1 := by omega
  have l22 : B2 + 4 < w3.heap.size + 1 + 1 := by omega
  have l23 : B2 + 4 < w3.heap.size + 1 + 1 + 1 := by omega
  have l31 : B3 + 4 < w3.heap.size + 1 := by omega
  have l32 : B3 + 4 < w3.heap.size + 1 + 1 := by omega
  have l33 : B3 + 4 < w3.heap.size + 1 + 1 + 1 := by omega
  have HA1 : Hid (AddsAt w3 B1) := A1
  have HA2 : Hid (AddsAt w3 B2) := A2
  have HA3 : Hid (AddsAt w3 B3) := a3
  have HB03 : Hid (Below w.heap.size w w3) := hb03
  have HE : Hid (w.heap.size = B1 ∧ B2 = B1 + 5 ∧ B3 = B2 + 5 ∧ w3.heap.size = B3 + 5) := ⟨e1, s1, s2, s3⟩
  clear S1 S2 S3 a1 a2 A1 A2 a3 hb1 hb2 hb3 hb13 hb03 e1 e2 e3 s1 s2 s3
  go_wp2_with fail
  have hk := wake_at w3 B1 B2 B3 HA1.out HA2.out HA3.out HE.out.2.1 HE.out.2.2.1 HE.out.2.2.2
  have hb6 : Below w.heap.size w (((((((w3.setCell ⟨B1 + 4, 5, none⟩ (I 4)).setCell ⟨B2 + 4, 15, none⟩ (.slice (some ⟨w3.heap.size + 1 + 1 + 1, 0, none⟩) 2 2)).setCell ⟨B3 + 4, 30, none⟩ (I 1)).alloc (.cells #[I 2, .slice (some ⟨B1 + 4, 0, none⟩) 8 8] 24)).alloc (.cells #[I 2, .slice (some ⟨B2 + 4, 0, none⟩) 8 8] 24)).alloc (.cells #[I 2, .slice (some ⟨B3 + 4, 0, none⟩) 8 8] 24)).alloc (.cells #[I 1, I 1] 3)) := by
    have q := HE.out
    have h3 := ((HB03.out.setCell (p := ⟨B1 + 4, 5, none⟩) (by show w.heap.size ≤ B1 + 4; omega) (I 4)).setCell (p := ⟨B2 + 4, 15, none⟩) (by show w.heap.size ≤ B2 + 4; omega) (.slice (some ⟨w3.heap.size + 1 + 1 + 1, 0, none⟩) 2 2)).setCell (p := ⟨B3 + 4, 30, none⟩) (by show w.heap.size ≤ B3 + 4; omega) (I 1)
    exact (((h3.alloc (by simp; omega) _).alloc (by simp; omega) _).alloc (by simp; omega) _).alloc (by simp; omega) _
  obtain ⟨z, hz⟩ : ∃ z, w3.heap.size = z := ⟨_, rfl⟩
  rw [hz] at hk hb6 ⊢
  obtain ⟨W6, hW6⟩ : ∃ W6, ((((((w3.setCell ⟨B1 + 4, 5, none⟩ (I 4)).setCell ⟨B2 + 4, 15, none⟩ (.slice (some ⟨z + 1 + 1 + 1, 0, none⟩) 2 2)).setCell ⟨B3 + 4, 30, none⟩ (I 1)).alloc (.cells #[I 2, .slice (some ⟨B1 + 4, 0, none⟩) 8 8] 24)).alloc (.cells #[I 2, .slice (some ⟨B2 + 4, 0, none⟩) 8 8] 24)).alloc (.cells #[I 2, .slice (some ⟨B3 + 4, 0, none⟩) 8 8] 24)).alloc (.cells #[I 1, I 1] 3) = W6 := ⟨_, rfl⟩
  rw [hW6] at hk hb6 ⊢
  clear hW6 hz HA1 HA2 HA3 HB03 HE c1 f1 c2 f2 c3 f3 n1 n2 n3 n4 n5 n6 l1 l2 l3 l11 l12 l13 l21 l22 l23 l31 l32 l33
  refine (adds_any _).mono ?_
  rintro e w7 ⟨rfl, a7, hb7, s7⟩
  have hk7 := hk.on hb7
  have h07 := below_next hb6 hb7
  clear hb6 hb7 hk s7
  go_wp2_with fail
  refine (may_any 2 _ 8 addsL w7 a7.exs).mono ?_
  rintro e w8 ⟨rfl, hb8⟩
  rw [may_adds]
  have hk8 := hk7.on hb8
  have h08 := below_next h07 hb8
  have q0 := hk8.a0
  have q1 := hk8.a1
  clear hk7 hb8 a7 h07
  go_wp2_with fail
  refine (may_any 2 _ 8 xsA w8 hk8.e1).mono ?_
  rintro e w9 ⟨rfl, hb9⟩
  rw [may_A]
  have hk9 := hk8.on hb9
  have h09 := below_next h08 hb9
  have q2 := hk9.b0
  have q3 := hk9.b1
  clear hk8 hb9 h08 q0 q1
  go_wp2_with fail
  refine (may_any 2 _ 8 xsB w9 hk9.e2).mono ?_
  rintro e w10 ⟨rfl, hb10⟩
  rw [may_B]
  have hk10 := hk9.on hb10
  have h010 := below_next h09 hb10
  have q4 := hk10.c0
  have q5 := hk10.c1
  clear hk9 hb10 h09 q2 q3
  go_wp2_with fail
  refine (may_any 2 _ 8 xsC w10 hk10.e3).mono ?_
  rintro e w11 ⟨rfl, hb11⟩
  rw [may_C]
  have h011 := below_next h010 hb11
  clear hk10 hb11 h010 q4 q5
  go_wp2_with fail
  refine (may_any 0 none 0 [] w11 (Or.inl rfl)).mono ?_
  rintro e w12 ⟨rfl, hb12⟩
  rw [may_none]
  have h012 := below_next h011 hb12
  clear hb12 h011
  go_wp2_with (go_at_call 14; refine (num_any _ _).mono ?_; rintro e w' ⟨rfl, rfl⟩)
  go_ret
  exact ⟨rfl, h012⟩
end Go.Proofs.Ytknbpfaeedapnaa
