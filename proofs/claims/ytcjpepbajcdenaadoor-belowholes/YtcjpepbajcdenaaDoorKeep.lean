/- What two cells hold behind a draw and behind a call that changes nothing that was there; the rest of an unsigned division. -/
import Derived.Test.YtcjpepbajcdenaaDoorWake
namespace Go.Proofs.YtcjpepbajcdenaaDoor
open Go.RowKit
set_option linter.unusedVariables false

/-- Two cells, and all that was there, as they were. -/
theorem keep_drew {w0 wc : World} {p q : Addr} {x y : Value} (h : Below w0.heap.size w0 wc ∧ wc.cell? p = some x ∧ wc.cell? q = some y) : Below w0.heap.size w0 wc.drew ∧ wc.drew.cell? p = some x ∧ wc.drew.cell? q = some y :=
  ⟨h.1.drew, h.2.1, h.2.2⟩
theorem keep_next {w0 wc w' : World} {p q : Addr} {x y : Value} (h : Below w0.heap.size w0 wc ∧ wc.cell? p = some x ∧ wc.cell? q = some y) (hb : Below wc.heap.size wc w') : Below w0.heap.size w0 w' ∧ w'.cell? p = some x ∧ w'.cell? q = some y :=
  ⟨below_next h.1 hb, by rw [hb.cell (World.block_lt_of_cell? wc p h.2.1)]; exact h.2.1, by rw [hb.cell (World.block_lt_of_cell? wc q h.2.2)]; exact h.2.2⟩

/-- An int taken as unsigned, and what a division by a small number leaves of it. -/
theorem umod (x : Int) (n : Nat) (h : 0 < n) (hn : n ≤ 4611686018427387904) : ∃ m : Nat, wrap64 ((IntKind.u64.wrap x).tmod (n : Int)) = (m : Int) ∧ m < n := by
  have h0 : 0 ≤ IntKind.u64.wrap x := by rw [IntKind.wrap_u64]; omega
  rw [Int.tmod_eq_emod_of_nonneg h0]
  have h1 := Int.emod_nonneg (IntKind.u64.wrap x) (show (n : Int) ≠ 0 by omega)
  have h2 := Int.emod_lt_of_pos (IntKind.u64.wrap x) (show (0 : Int) < n by omega)
  refine ⟨(IntKind.u64.wrap x % (n : Int)).toNat, ?_, by omega⟩
  unfold wrap64
  omega
end Go.Proofs.YtcjpepbajcdenaaDoor
