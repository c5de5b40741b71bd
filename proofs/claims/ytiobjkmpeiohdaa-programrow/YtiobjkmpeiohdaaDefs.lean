/- Definitions in memory; the contracts of hasTaker, of the function that May hands on, of slices.IndexFunc and slices.ContainsFunc with it. -/
import Derived.Test.YtiobjkmpeiohdaaMay
import Derived.Test.YtiobjkmpeiohdaaPlain
import Derived.BigQuiet
namespace Go.Proofs.Ytiobjkmpeiohdaa
open Go.RowKit
set_option linter.unusedVariables false

/-- A definition's two cells; its body lies as E says. -/
def DfAt (E : World → Option Addr → List Ex → Prop) (w : World) (bk o : Nat) (d : Df) (g : Option Addr) (c : Nat) : Prop :=
  w.cell? ⟨bk, o, none⟩ = some (.int .i64 d.params) ∧ w.cell? ⟨bk, o + 1, none⟩ = some (.slice g d.body.length c) ∧ E w g d.body
/-- Definitions in a slice, wherever it lies. -/
def Defs (E : World → Option Addr → List Ex → Prop) (w : World) (g : Option Addr) (ds : List Df) : Prop :=
  ds = [] ∨ ∃ bk o, g = some ⟨bk, o, none⟩ ∧ bk < w.heap.size ∧ ∀ (j : Nat) d, ds[j]? = some d → ∃ gk ck, DfAt E w bk (o + j * 2) d gk ck
theorem Defs.at {E : World → Option Addr → List Ex → Prop} {w : World} {g : Option Addr} {ds : List Df} (h : Defs E w g ds) {j : Nat} (hj : j < ds.length) : ∃ bk o, g = some ⟨bk, o, none⟩ ∧ bk < w.heap.size ∧ ∃ gk ck, DfAt E w bk (o + j * 2) ds[j] gk ck := by
  rcases h with h | ⟨bk, o, h1, h2, h3⟩
  · subst h; simp at hj
  · exact ⟨bk, o, h1, h2, h3 j _ (List.getElem?_eq_getElem hj)⟩
theorem Defs.onE {E E' : World → Option Addr → List Ex → Prop} {w w' : World} {g : Option Addr} {ds : List Df} (h : Defs E w g ds) (hb : Below w.heap.size w w') (hE : ∀ g xs, E w g xs → E' w' g xs) : Defs E' w' g ds := by
  rcases h with h | ⟨bk, o, h1, h2, h3⟩
  · exact Or.inl h
  · refine Or.inr ⟨bk, o, h1, Nat.lt_of_lt_of_le h2 hb.size, fun j d hd => ?_⟩
    obtain ⟨gk, ck, k0, k1, k2⟩ := h3 j d hd
    exact ⟨gk, ck, (hb.cell (p := ⟨bk, o + j * 2, none⟩) h2).trans k0, (hb.cell (p := ⟨bk, o + j * 2 + 1, none⟩) h2).trans k1, hE _ _ k2⟩
theorem Defs.on {w w' : World} {g : Option Addr} {ds : List Df} (h : Defs Exs w g ds) (hb : Below w.heap.size w w') : Defs Exs w' g ds := h.onE hb (fun _ _ k => k.on hb)

theorem takes_lo {ds : List Df} {e : Ex} (h : ¬ 0 ≤ e.num) : takes ds e = false := by unfold takes; rw [decide_eq_false h]; rfl
theorem takes_hi {ds : List Df} {e : Ex} (h0 : 0 ≤ e.num) (h : ¬ e.num < (ds.length : Int)) : takes ds e = false := by
  unfold takes; rw [List.getElem?_eq_none (by omega)]; simp
theorem takes_at {ds : List Df} {e : Ex} (h0 : 0 ≤ e.num) (h : e.num.toNat < ds.length) : takes ds e = ((e.kids.length : Int) == ds[e.num.toNat].params) := by
  unfold takes; rw [List.getElem?_eq_getElem h, decide_eq_true h0]; simp only [Bool.true_and]; rw [Bool.eq_iff_iff]; simp

set_option maxHeartbeats 800000 in
set_option maxRecDepth 100000 in
theorem taker_any (e : Ex) (gk : Option Addr) (ck : Nat) (g : Option Addr) (c : Nat) (ds : List Df) (w : World) (hd : Defs Exs w g ds) :
    Calls Try.prog 17 #[eV e gk ck, .slice g ds.length c] w fun r w' => r = .returned (.bool (takes ds e)) ∧ Below w.heap.size w w' := by
  have hd' := hd.on ((Below.refl _ w).alloc (Nat.le_refl _) (.cells #[.int .i64 e.kind, .int .i64 e.num, .int .i64 e.bind, .slice gk e.kids.length ck] 33))
  have hR := World.alloc_heap_new w (.cells #[.int .i64 e.kind, .int .i64 e.num, .int .i64 e.bind, .slice gk e.kids.length ck] 33)
  by_cases h0 : 0 ≤ e.num
  · by_cases h1 : e.num < (ds.length : Int)
    · have hn : e.num.toNat < ds.length := by omega
      obtain ⟨bk, o, rfl, hbk, gb, cb, q0, q1, q2⟩ := hd'.at hn
      rw [takes_at h0 hn]
      obtain ⟨P, hP⟩ : ∃ P, ds[e.num.toNat].params = P := ⟨_, rfl⟩
      rw [hP] at q0 ⊢
      obtain ⟨m, hm⟩ : ∃ m : Nat, e.num = (m : Int) := ⟨e.num.toNat, by omega⟩
      rw [hm] at h1 h0 q0
      simp only [Int.toNat_natCast] at q0
      obtain ⟨kd, nm, bd, ks⟩ := e
      dsimp only at hm ⊢
      subst hm
      clear hP q1 q2 hd hd' hR hn
      go_enter Try.func17, Try.ntmps17
      go_wp2_with fail
      go_quiet (fail)
      go_wp2_with fail
      go_ret
      exact ⟨rfl, ((Below.refl _ w).alloc (Nat.le_refl _) _).trans (below_drewN _ _ _)⟩
    · rw [takes_hi h0 h1]
      have e1 : decide (e.num < (ds.length : Int)) = false := decide_eq_false h1
      have e0 : decide (0 ≤ e.num) = true := decide_eq_true h0
      clear hd hd' hR
      go_enter Try.func17, Try.ntmps17
      go_wp2_with fail
      go_quiet (fail)
      go_wp2_with fail
      go_ret
      exact ⟨rfl, ((Below.refl _ w).alloc (Nat.le_refl _) _).trans (below_drewN _ _ _)⟩
  · rw [takes_lo h0]
    have e0 : decide (0 ≤ e.num) = false := decide_eq_false h0
    clear hd hd' hR
    go_enter Try.func17, Try.ntmps17
    go_wp2_with fail
    go_quiet (fail)
    go_wp2_with fail
    go_ret
    exact ⟨rfl, ((Below.refl _ w).alloc (Nat.le_refl _) _).trans (below_drewN _ _ _)⟩
end Go.Proofs.Ytiobjkmpeiohdaa
