/- Parts that a function lays down by itself; the contract of the laws' adds. -/
import Derived.Test.YtiobjkmpeiohdaaMay
namespace Go.Proofs.Ytiobjkmpeiohdaa
open Go.RowKit
set_option linter.unusedVariables false

/-- These cells are these parts. -/
def Row (w : World) : List Value → List Ex → Prop
  | [], [] => True
  | v0 :: v1 :: v2 :: v3 :: vs, x :: xs => v0 = .int .i64 x.kind ∧ v1 = .int .i64 x.num ∧ v2 = .int .i64 x.bind ∧ (∃ g c, v3 = .slice g x.kids.length c ∧ Nums w g x.kids) ∧ Row w vs xs
  | _, _ => False
theorem Row.at {w : World} : ∀ {cs : List Value} {xs : List Ex}, Row w cs xs → ∀ (j : Nat) x, xs[j]? = some x →
    ∃ gk ck, cs[j * 4]? = some (.int .i64 x.kind) ∧ cs[j * 4 + 1]? = some (.int .i64 x.num) ∧ cs[j * 4 + 2]? = some (.int .i64 x.bind) ∧ cs[j * 4 + 3]? = some (.slice gk x.kids.length ck) ∧ Nums w gk x.kids
  | [], [], _, j, x, hx => by simp at hx
  | v0 :: v1 :: v2 :: v3 :: vs, y :: xs, ⟨h0, h1, h2, ⟨g, c, h3, hn⟩, hr⟩, 0, x, hx => by
    have : y = x := by simpa using hx
    subst this
    exact ⟨g, c, by rw [h0]; rfl, by rw [h1]; rfl, by rw [h2]; rfl, by rw [h3]; rfl, hn⟩
  | v0 :: v1 :: v2 :: v3 :: vs, y :: xs, ⟨_, _, _, _, hr⟩, j + 1, x, hx => by
    obtain ⟨gk, ck, a0, a1, a2, a3, a4⟩ := hr.at j x (by simpa using hx)
    have e : ∀ i, (v0 :: v1 :: v2 :: v3 :: vs)[(j + 1) * 4 + i]? = vs[j * 4 + i]? := fun i => by
      rw [show (j + 1) * 4 + i = (j * 4 + i) + 1 + 1 + 1 + 1 by omega]; simp
    exact ⟨gk, ck, by rw [← Nat.add_zero ((j + 1) * 4), e]; exact a0, by rw [e]; exact a1, by rw [e]; exact a2, by rw [e]; exact a3, a4⟩
theorem exs_of_row {w : World} {b : Nat} {cs : Array Value} {xs : List Ex} (h : w.heap[b]? = some (.cells cs 33 (0, 0))) (hr : Row w cs.toList xs) : Exs w (some ⟨b, 0, none⟩) xs := by
  have key : ∀ j v, cs.toList[j]? = some v → w.cell? ⟨b, j, none⟩ = some v := fun j v hv => by
    unfold World.cell?
    simp only [h]
    simpa using hv
  refine Or.inr ⟨b, 0, rfl, (Array.getElem?_eq_some_iff.1 h).1, fun j x hx => ?_⟩
  obtain ⟨gk, ck, a0, a1, a2, a3, a4⟩ := hr.at j x hx
  refine ⟨gk, ck, ?_⟩
  rw [Nat.zero_add]
  exact ⟨key _ _ a0, key _ _ a1, key _ _ a2, key _ _ a3, a4⟩
theorem Lv.nums {w : World} {b : Nat} {L : List Int} (h : Lv w b L) : Nums w (some ⟨b, 0, none⟩) L :=
  Or.inr ⟨b, 0, rfl, h.lt, fun j x hx => by rw [Nat.zero_add]; exact h.cell hx⟩
theorem nums_nil (w : World) (g : Option Addr) : Nums w g [] := Or.inl rfl

def addsL : List Ex := [⟨1, 0, 0, []⟩, ⟨1, 3, 0, []⟩, ⟨1, 1, 0, []⟩, ⟨4, 0, 0, [1, 2]⟩, ⟨1, 0, 0, []⟩, ⟨1, 1, 0, []⟩, ⟨4, 0, 0, [4, 5]⟩, ⟨5, 7, 2, [0, 3, 6]⟩]
abbrev I (x : Int) : Value := .int .i64 x
abbrev nilS : Value := .slice none 0 0
def addsC (B : Nat) : Array Value := #[I 1, I 0, I 0, nilS, I 1, I 3, I 0, nilS, I 1, I 1, I 0, nilS, I 4, I 0, I 0, .slice (some ⟨B + 1, 0, none⟩) 2 2, I 1, I 0, I 0, nilS, I 1, I 1, I 0, nilS, I 4, I 0, I 0, .slice (some ⟨B + 2, 0, none⟩) 2 2, I 5, I 7, I 2, .slice (some ⟨B + 3, 0, none⟩) 3 3]
/-- What adds lays down. -/
structure AddsAt (w : World) (B : Nat) : Prop where
  body : w.heap[B + 4]? = some (.cells (addsC B) 33 (0, 0))
  k1 : Lv w (B + 1) [1, 2]
  k2 : Lv w (B + 2) [4, 5]
  k3 : Lv w (B + 3) [0, 3, 6]
theorem AddsAt.on {w w' : World} {B : Nat} (h : AddsAt w B) (hb : Below w.heap.size w w') : AddsAt w' B :=
  ⟨(hb.block _ (Array.getElem?_eq_some_iff.1 h.body).1).trans h.body, h.k1.on hb h.k1.lt, h.k2.on hb h.k2.lt, h.k3.on hb h.k3.lt⟩
theorem AddsAt.exs {w : World} {B : Nat} (h : AddsAt w B) : Exs w (some ⟨B + 4, 0, none⟩) addsL :=
  exs_of_row h.body ⟨rfl, rfl, rfl, ⟨_, _, rfl, nums_nil _ _⟩, rfl, rfl, rfl, ⟨_, _, rfl, nums_nil _ _⟩, rfl, rfl, rfl, ⟨_, _, rfl, nums_nil _ _⟩, rfl, rfl, rfl, ⟨_, _, rfl, h.k1.nums⟩, rfl, rfl, rfl, ⟨_, _, rfl, nums_nil _ _⟩, rfl, rfl, rfl, ⟨_, _, rfl, nums_nil _ _⟩, rfl, rfl, rfl, ⟨_, _, rfl, h.k2.nums⟩, rfl, rfl, rfl, ⟨_, _, rfl, h.k3.nums⟩, trivial⟩
set_option maxHeartbeats 800000 in
set_option maxRecDepth 100000 in
theorem adds_any (w : World) :
    Calls Try.prog 14 #[] w fun e w' => e = .returned (.agg #[.int .i64 2, .slice (some ⟨w.heap.size + 4, 0, none⟩) 8 8]) ∧ AddsAt w' w.heap.size ∧ Below w.heap.size w w' ∧ w'.heap.size = w.heap.size + 5 := by
  go_enter Try.func14, Try.ntmps14
  go_wp2
  refine bodyPost_ret (v := .agg #[.int .i64 2, .slice (some ⟨w.heap.size + 4, 0, none⟩) 8 8]) (by simp [results, Try.results14, go_sem]) rfl ⟨rfl, ?_, ?_, by simp⟩
  · refine ⟨?_, ?_, ?_, ?_⟩
    · have h := World.alloc_heap_new ((((w.alloc (.cells #[I 2, .slice (some ⟨w.heap.size + 1 + 1 + 1 + 1, 0, none⟩) 8 8] 36)).alloc (.cells #[I 1, I 2] 3)).alloc (.cells #[I 4, I 5] 3)).alloc (.cells #[I 0, I 3, I 6] 3)) (.cells (addsC w.heap.size) 33)
      simp only [World.size_alloc] at h
      exact h
    · have h := (((Lv.new (w.alloc (.cells #[I 2, .slice (some ⟨w.heap.size + 1 + 1 + 1 + 1, 0, none⟩) 8 8] 36)) [1, 2]).alloc (.cells #[I 4, I 5] 3)).alloc (.cells #[I 0, I 3, I 6] 3)).alloc (.cells (addsC w.heap.size) 33)
      simp only [World.size_alloc] at h
      exact h
    · have h := ((Lv.new ((w.alloc (.cells #[I 2, .slice (some ⟨w.heap.size + 1 + 1 + 1 + 1, 0, none⟩) 8 8] 36)).alloc (.cells #[I 1, I 2] 3)) [4, 5]).alloc (.cells #[I 0, I 3, I 6] 3)).alloc (.cells (addsC w.heap.size) 33)
      simp only [World.size_alloc] at h
      exact h
    · have h := (Lv.new (((w.alloc (.cells #[I 2, .slice (some ⟨w.heap.size + 1 + 1 + 1 + 1, 0, none⟩) 8 8] 36)).alloc (.cells #[I 1, I 2] 3)).alloc (.cells #[I 4, I 5] 3)) [0, 3, 6]).alloc (.cells (addsC w.heap.size) 33)
      simp only [World.size_alloc] at h
      exact h
  · exact (((((Below.refl _ w).alloc (Nat.le_refl _) _).alloc (by simp) _).alloc (by simp; omega) _).alloc (by simp; omega) _).alloc (by simp; omega) _
theorem may_adds : may 2 addsL = true := by decide +kernel
end Go.Proofs.Ytiobjkmpeiohdaa
