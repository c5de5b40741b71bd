/- Rows of parts' cells. -/
import Derived.Test.YtiobjkmpeiohdaaAdds
namespace Go.Proofs.Ytiobjkmpeiohdaa
open Go.RowKit
set_option linter.unusedVariables false

theorem AddsAt.cell {w : World} {B : Nat} (h : AddsAt w B) (j : Nat) (v : Value) (hv : (addsC B)[j]? = some v) : w.cell? ⟨B + 4, j, none⟩ = some v := by
  unfold World.cell?
  simp only [h.body]
  exact hv
theorem AddsAt.frozen {w : World} {B : Nat} (h : AddsAt w B) (j : Nat) : w.frozen? ⟨B + 4, j, none⟩ = false := by
  simp [World.frozen?, h.body]
theorem AddsAt.lt {w : World} {B : Nat} (h : AddsAt w B) : B + 4 < w.heap.size := (Array.getElem?_eq_some_iff.1 h.body).1

/-- A row of parts' cells. -/
def Rw (w : World) (b : Nat) (cs : Array Value) : Prop := w.heap[b]? = some (.cells cs 33 (0, 0))
theorem Rw.lt {w : World} {b : Nat} {cs : Array Value} (h : Rw w b cs) : b < w.heap.size := (Array.getElem?_eq_some_iff.1 h).1
theorem Rw.set {w : World} {b : Nat} {cs : Array Value} (h : Rw w b cs) (j : Nat) (v : Value) : Rw (w.setCell ⟨b, j, none⟩ v) b (cs.setIfInBounds j v) := by
  obtain ⟨hlt, hk⟩ := Array.getElem?_eq_some_iff.1 h
  show (w.heap.modify b _)[b]? = _
  rw [Array.getElem?_eq_getElem (by rw [Array.size_modify]; exact hlt), Array.getElem_modify_self, hk]
  rfl
theorem Rw.other {w : World} {b : Nat} {cs : Array Value} (h : Rw w b cs) {b' : Nat} (j : Nat) (v : Value) (hne : b ≠ b') : Rw (w.setCell ⟨b', j, none⟩ v) b cs := (Below.heap_setCell w _ _ b hne).trans h
theorem Rw.alloc {w : World} {b : Nat} {cs : Array Value} (h : Rw w b cs) (o : Obj) : Rw (w.alloc o) b cs := (Below.heap_alloc w o b h.lt).trans h
theorem Rw.on {w w' : World} {b : Nat} {cs : Array Value} (h : Rw w b cs) (hb : Below w.heap.size w w') : Rw w' b cs := (hb.block b h.lt).trans h
theorem Lv.other {w : World} {b : Nat} {L : List Int} (h : Lv w b L) {b' : Nat} (j : Nat) (v : Value) (hne : b ≠ b') : Lv (w.setCell ⟨b', j, none⟩ v) b L := h.kept (grown_set w b' j v) (by intro e; exact hne (Option.some.inj e))
/-- Adds with something turned: the three kids' lists as they were. -/
theorem Rw.cell {w : World} {b : Nat} {cs : Array Value} (h : Rw w b cs) (j : Nat) (v : Value) (hv : cs[j]? = some v) : w.cell? ⟨b, j, none⟩ = some v := by
  unfold World.cell?
  simp only [show w.heap[b]? = _ from h]
  exact hv
theorem Rw.frozen {w : World} {b : Nat} {cs : Array Value} (h : Rw w b cs) (j : Nat) : w.frozen? ⟨b, j, none⟩ = false := by
  simp [World.frozen?, show w.heap[b]? = _ from h]

end Go.Proofs.Ytiobjkmpeiohdaa
