/- The contract of Cut. -/
import Derived.Test.YtcjpepbajcdenaaDoorWhole
namespace Go.Proofs.YtcjpepbajcdenaaDoor
open Go.RowKit
set_option linter.unusedVariables false
theorem Tryd.info9 : (Tryd.prog.info? 9).map (fun i => (i.zero, i.size, i.bytes)) = some (some (.string ⟨#[]⟩), 1, 16) := by kernel_rfl

theorem piece_eq (s : ByteArray) (p : Nat × Nat) : s.extract p.1 p.2 = ⟨(pc s p).toArray⟩ := by
  apply ByteArray.ext
  apply Array.ext'
  rw [Lib.extract_data]
  rfl

/-- What Cut hands back. -/
def GotC (B : Nat) (w : World) (o : Option (Int × Int × List (List UInt8))) (k x : Int) (v : Value) (er : Int) : Prop :=
  match o with
  | none => k = 0 ∧ x = 0 ∧ v = .slice none 0 0 ∧ er = 200
  | some (k', x', ks) => k = k' ∧ x = x' ∧ er = 0 ∧ w.ownsRow B 9 1 v ks.length (ks.map S)

theorem plc_at : ∀ (ps : List (Nat × Nat)) (j : Nat) (h : j < ps.length), (plc ps)[j * 2]? = some (.int .i64 (ps[j].1 : Int)) ∧ (plc ps)[j * 2 + 1]? = some (.int .i64 (ps[j].2 : Int))
  | [], j, h => by simp at h
  | p :: ps, 0, h => by simp [plc]
  | p :: ps, j + 1, h => by
    have := plc_at ps j (by simpa using h)
    rw [show (j + 1) * 2 = j * 2 + 2 by omega]
    simpa [plc] using this

theorem place_cells {w : World} {B : Nat} {g : Option Addr} {n c : Nat} {ps : List (Nat × Nat)} {j : Nat} (h : w.ownsRow B 72 2 (.slice g n c) ps.length (plc ps)) (hj : j < ps.length) :
    ∃ gb, g = some ⟨gb, 0, none⟩ ∧ gb < w.heap.size ∧ w.cell? ⟨gb, j * 2, none⟩ = some (.int .i64 (ps[j].1 : Int)) ∧ w.cell? ⟨gb, j * 2 + 1, none⟩ = some (.int .i64 (ps[j].2 : Int)) := by
  obtain ⟨e1, e2⟩ := plc_at ps j hj
  rcases h.2 with ⟨_, h3⟩ | ⟨gb, cap, cur, hv, hB, hh, _⟩
  · omega
  · injection hv with hv
    subst hv
    have hlt : gb < w.heap.size := by
      rcases Nat.lt_or_ge gb w.heap.size with h' | h'
      · exact h'
      · rw [Array.getElem?_eq_none h'] at hh; cases hh
    have c0 := h.cells (g := gb) rfl _ _ e1
    have c1 := h.cells (g := gb) rfl _ _ e2
    rw [Lib.add_plain, Nat.zero_add] at c0 c1
    exact ⟨gb, rfl, hlt, c0, c1⟩

end Go.Proofs.YtcjpepbajcdenaaDoor
