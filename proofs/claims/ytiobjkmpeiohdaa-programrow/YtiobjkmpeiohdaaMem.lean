/- Numbers, parts and levels in memory. -/
import Derived.Test.YtiobjkmpeiohdaaLow
import Derived.Maps.AppendAt
import Derived.RangeFuncBox
import Derived.Deep.Slices
import Derived.Deep.Draws
namespace Go.Proofs.Ytiobjkmpeiohdaa
open Go.RowKit
set_option linter.unusedVariables false

theorem below_drewN (B : Nat) (w : World) (n : Nat) : Below B w (w.drewN n) := ⟨rfl, rfl, rfl, Nat.le_refl _, fun _ _ => rfl⟩
theorem below_next {a b c : World} (h : Below a.heap.size a b) (k : Below b.heap.size b c) : Below a.heap.size a c := h.trans (k.mono h.size)

/-- Whole numbers in a slice, wherever it lies. -/
def Nums (w : World) (g : Option Addr) (xs : List Int) : Prop :=
  xs = [] ∨ ∃ bk o, g = some ⟨bk, o, none⟩ ∧ bk < w.heap.size ∧ ∀ (j : Nat) x, xs[j]? = some x → w.cell? ⟨bk, o + j, none⟩ = some (.int .i64 x)
theorem Nums.at {w : World} {g : Option Addr} {xs : List Int} (h : Nums w g xs) {j : Nat} (hj : j < xs.length) : ∃ bk o, g = some ⟨bk, o, none⟩ ∧ bk < w.heap.size ∧ w.cell? ⟨bk, o + j, none⟩ = some (.int .i64 xs[j]) := by
  rcases h with h | ⟨bk, o, h1, h2, h3⟩
  · subst h; simp at hj
  · exact ⟨bk, o, h1, h2, h3 j _ (List.getElem?_eq_getElem hj)⟩
theorem Nums.on {w w' : World} {g : Option Addr} {xs : List Int} (h : Nums w g xs) (hb : Below w.heap.size w w') : Nums w' g xs := by
  rcases h with h | ⟨bk, o, h1, h2, h3⟩
  · exact Or.inl h
  · exact Or.inr ⟨bk, o, h1, Nat.lt_of_lt_of_le h2 hb.size, fun j x hx => by rw [hb.cell (p := ⟨bk, o + j, none⟩) h2]; exact h3 j x hx⟩
/-- A part's value. -/
abbrev eV (e : Ex) (g : Option Addr) (c : Nat) : Value := .agg #[.int .i64 e.kind, .int .i64 e.num, .int .i64 e.bind, .slice g e.kids.length c]
/-- A part's four cells. -/
def ExAt (w : World) (bk o : Nat) (e : Ex) (g : Option Addr) (c : Nat) : Prop :=
  w.cell? ⟨bk, o, none⟩ = some (.int .i64 e.kind) ∧ w.cell? ⟨bk, o + 1, none⟩ = some (.int .i64 e.num) ∧ w.cell? ⟨bk, o + 2, none⟩ = some (.int .i64 e.bind) ∧ w.cell? ⟨bk, o + 3, none⟩ = some (.slice g e.kids.length c) ∧ Nums w g e.kids
theorem ExAt.on {w w' : World} {bk o c : Nat} {e : Ex} {g : Option Addr} (h : ExAt w bk o e g c) (hk : bk < w.heap.size) (hb : Below w.heap.size w w') : ExAt w' bk o e g c :=
  ⟨(hb.cell (p := ⟨bk, o, none⟩) hk).trans h.1, (hb.cell (p := ⟨bk, o + 1, none⟩) hk).trans h.2.1, (hb.cell (p := ⟨bk, o + 2, none⟩) hk).trans h.2.2.1, (hb.cell (p := ⟨bk, o + 3, none⟩) hk).trans h.2.2.2.1, h.2.2.2.2.on hb⟩
/-- Parts in a slice, wherever it lies. -/
def Exs (w : World) (g : Option Addr) (xs : List Ex) : Prop :=
  xs = [] ∨ ∃ bk o, g = some ⟨bk, o, none⟩ ∧ bk < w.heap.size ∧ ∀ (j : Nat) x, xs[j]? = some x → ∃ gk ck, ExAt w bk (o + j * 4) x gk ck
theorem Exs.at {w : World} {g : Option Addr} {xs : List Ex} (h : Exs w g xs) {j : Nat} (hj : j < xs.length) : ∃ bk o, g = some ⟨bk, o, none⟩ ∧ bk < w.heap.size ∧ ∃ gk ck, ExAt w bk (o + j * 4) xs[j] gk ck := by
  rcases h with h | ⟨bk, o, h1, h2, h3⟩
  · subst h; simp at hj
  · exact ⟨bk, o, h1, h2, h3 j _ (List.getElem?_eq_getElem hj)⟩
theorem Exs.on {w w' : World} {g : Option Addr} {xs : List Ex} (h : Exs w g xs) (hb : Below w.heap.size w w') : Exs w' g xs := by
  rcases h with h | ⟨bk, o, h1, h2, h3⟩
  · exact Or.inl h
  · exact Or.inr ⟨bk, o, h1, Nat.lt_of_lt_of_le h2 hb.size, fun j x hx => by obtain ⟨gk, ck, h⟩ := h3 j x hx; exact ⟨gk, ck, h.on h2 hb⟩⟩

/-- Levels in a block of their own. -/
def Lv (w : World) (b : Nat) (L : List Int) : Prop := w.heap[b]? = some (.cells (L.map (Value.int .i64)).toArray 3 (0, 0))
theorem Lv.lt {w : World} {b : Nat} {L : List Int} (h : Lv w b L) : b < w.heap.size := (Array.getElem?_eq_some_iff.1 h).1
theorem Lv.cell {w : World} {b : Nat} {L : List Int} (h : Lv w b L) {j : Nat} {v : Int} (hj : L[j]? = some v) : w.cell? ⟨b, j, none⟩ = some (.int .i64 v) := by
  simp [World.cell?, show w.heap[b]? = _ from h, hj]
theorem Lv.frozen {w : World} {b : Nat} {L : List Int} (h : Lv w b L) (j : Nat) : w.frozen? ⟨b, j, none⟩ = false := by
  simp [World.frozen?, show w.heap[b]? = _ from h]
theorem Lv.kept {w w' : World} {row : Option Nat} {b : Nat} {L : List Int} (h : Lv w b L) (hg : w.grownBy w' row) (hne : some b ≠ row) : Lv w' b L := (hg.block b h.lt hne).trans h
theorem Lv.alloc {w : World} {b : Nat} {L : List Int} (h : Lv w b L) (o : Obj) : Lv (w.alloc o) b L := h.kept (World.grownBy_alloc w o none) (by simp)
theorem Lv.on {w w' : World} {b n : Nat} {L : List Int} (h : Lv w b L) (hb : Below n w w') (hn : b < n) : Lv w' b L := (hb.block b hn).trans h
theorem Lv.set {w : World} {b : Nat} {L : List Int} (h : Lv w b L) (j : Nat) (v : Int) : Lv (w.setCell ⟨b, j, none⟩ (.int .i64 v)) b (L.set j v) := by
  obtain ⟨hlt, hk⟩ := Array.getElem?_eq_some_iff.1 h
  show (w.heap.modify b _)[b]? = _
  rw [Array.getElem?_eq_getElem (by rw [Array.size_modify]; exact hlt), Array.getElem_modify_self, hk]
  simp [List.map_set]
theorem Lv.new (w : World) (L : List Int) : Lv (w.alloc (.cells (L.map (Value.int .i64)).toArray 3)) w.heap.size L := World.alloc_heap_new w _
theorem grown_set (W : World) (b j : Nat) (v : Value) : W.grownBy (W.setCell ⟨b, j, none⟩ v) (some b) :=
  ⟨rfl, rfl, rfl, (KeepsWalks.setCell W _ v).size, fun k _ hk => Below.heap_setCell _ _ _ k (fun e => hk (by rw [e]))⟩
theorem grown_of_below {a b : World} (h : Below a.heap.size a b) (row : Option Nat) : a.grownBy b row := ⟨h.os, h.tape, h.output, h.size, fun k hk _ => h.block k hk⟩
theorem lv_own {β : Type} (b : Nat) (f : β → List Int) : Own (fun s W => Lv W b (f s)) := fun s X Y row hs hg hrow =>
  hs.kept hg (fun e => by
    obtain ⟨o, ho, hc⟩ := hrow b e.symm
    rw [show X.heap[b]? = _ from hs] at ho; cases ho; cases hc)
end Go.Proofs.Ytiobjkmpeiohdaa
