/- The contracts of package parse's leaves: number, digits, digitsBehind, single, head. · Package parse's reader in memory: its words, its body; what is kept; the contract of next. -/
import Derived.Test.YtgajnmcjnkfblaaGreatDoorMPlain
import Derived.Test.YtgajnmcjnkfblaaGreatDoorMTerm
import Derived.Test.YtgajnmcjnkfblaaGreatDoorMCopy
import Derived.Test.YtgajnmcjnkfblaaGreatDoorMLex

namespace Go.Proofs.YtgajnmcjnkfblaaGreatDoor
open Go.RowKit
set_option linter.unusedVariables false

/-- What a walk asks of the package-level variables. -/
abbrev Lw := Tm.Lw

/-- What digits and digitsBehind answer. -/
def DgQ (o : Option Int) (w : World) (e : Ending) (w' : World) : Prop := Below w.heap.size w w' ∧ match o with
  | none => e = .returned (.tuple #[.int .i64 0, .bool false])
  | some x => e = .returned (.tuple #[.int .i64 x, .bool true])
theorem dg_some {w : Wd} {x : Int} (h : nb w = some x) (h0 : ¬ x < 0) : dg w = some x := by unfold dg; rw [h]; simp [h0]
theorem dg_neg {w : Wd} {x : Int} (h : nb w = some x) (h0 : x < 0) : dg w = none := by unfold dg; rw [h]; simp [h0]
theorem dg_none {w : Wd} (h : nb w = none) : dg w = none := by unfold dg; rw [h]

theorem DgQ.yes {o : Option Int} {x : Int} {w w' : World} (h : o = some x) (hb : Below w.heap.size w w') : DgQ o w (.returned (.tuple #[.int .i64 x, .bool true])) w' := by subst h; exact ⟨hb, rfl⟩
theorem DgQ.no {o : Option Int} {w w' : World} (h : o = none) (hb : Below w.heap.size w w') : DgQ o w (.returned (.tuple #[.int .i64 0, .bool false])) w' := by subst h; exact ⟨hb, rfl⟩

/-- Does it open with that byte? -/
def opn (c : UInt8) (l : List UInt8) : Bool := l.head? == some c
theorem opn_ext (c : UInt8) (s : ByteArray) (h : 1 ≤ s.size) : ((s.extract 0 1).toList == [c]) = opn c s.data.toList := by
  rw [Lib.toList_data, Lib.extract_data]
  have hl : s.data.toList.length = s.size := rfl
  cases hs : s.data.toList with
  | nil => rw [hs] at hl; simp at hl; omega
  | cons a r => simp [opn]
theorem opn_short (c : UInt8) (s : ByteArray) (h : s.size < 1) : opn c s.data.toList = false := by
  have hl : s.data.toList.length = s.size := rfl
  cases hs : s.data.toList with
  | nil => rfl
  | cons a r => rw [hs] at hl; simp at hl; omega
theorem db_no {c : UInt8} {l : Wd} (h : opn c l = false) : db c l = none := by
  cases l with
  | nil => rfl
  | cons a r => unfold db; simp [opn] at h; simp [h]
theorem db_yes {c : UInt8} {l : Wd} (h : opn c l = true) : db c l = dg (l.drop 1) := by
  cases l with
  | nil => simp [opn] at h
  | cons a r => unfold db; simp [opn] at h; simp [h]
/-- What single and head answer. -/
def SgQ (o : Option Ex) (w : World) (e : Ending) (w' : World) : Prop := ∃ (x : Ex) (b : Bool), e = .returned (.tuple #[.agg #[.int .i64 x.kind, .int .i64 x.num, .int .i64 x.bind, .slice none 0 0], .bool b]) ∧ x.kids = [] ∧ Below w.heap.size w w' ∧ ((b = true ∧ o = some x) ∨ (b = false ∧ o = none))

theorem low {w w1 : World} {o : Obj} (h : Below (w.alloc o).heap.size (w.alloc o) w1) : Below w.heap.size w w1 := ((Below.refl _ _).alloc (Nat.le_refl _) _).trans (h.mono (by simp))
end Go.Proofs.YtgajnmcjnkfblaaGreatDoor

namespace Go.Proofs.YtgajnmcjnkfblaaGreatDoor
open Go.RowKit
set_option linter.unusedVariables false
/-- All that lay is as it lay, but for the block z and this row. -/
structure Kp (z : Nat) (row : Option Nat) (W W' : World) : Prop where
  os : W'.os = W.os
  tape : W'.tape = W.tape
  output : W'.output = W.output
  size : W.heap.size ≤ W'.heap.size
  block : ∀ k, k < W.heap.size → k ≠ z → some k ≠ row → W'.heap[k]? = W.heap[k]?
theorem Kp.refl (z : Nat) (row : Option Nat) (W : World) : Kp z row W W := ⟨rfl, rfl, rfl, Nat.le_refl _, fun _ _ _ _ => rfl⟩
theorem Kp.of_below {z : Nat} {row : Option Nat} {W W' : World} (h : Below W.heap.size W W') : Kp z row W W' := ⟨h.os, h.tape, h.output, h.size, fun k hk _ _ => h.block k hk⟩
theorem Kp.of_set (z : Nat) (row : Option Nat) (W : World) (j : Nat) (v : Value) : Kp z row W (W.setCell ⟨z, j, none⟩ v) :=
  ⟨rfl, rfl, rfl, (KeepsWalks.setCell W _ v).size, fun k _ hk _ => Below.heap_setCell _ _ _ k (fun e => hk e)⟩
theorem Kp.of_grown {z : Nat} {row : Option Nat} {W W' : World} (h : W.grownBy W' row) : Kp z row W W' := ⟨h.os, h.tape, h.output, h.size, fun k hk _ hr => h.block k hk hr⟩
theorem Kp.below {z : Nat} {row : Option Nat} {W W' : World} (h : Kp z row W W') (hr : ∀ k, row = some k → z ≤ k) (hz : z ≤ W.heap.size) : Below z W W' :=
  ⟨h.os, h.tape, h.output, h.size, fun k hk => h.block k (by omega) (by omega) (fun e => by have := hr k e.symm; omega)⟩
/-- The next row is the same, or a new one. -/
def Nx (W : World) (r r' : Option Nat) : Prop := r' = r ∨ ∀ k, r' = some k → W.heap.size ≤ k
theorem Nx.refl (W : World) (r : Option Nat) : Nx W r r := Or.inl rfl
theorem Nx.trans {W W1 : World} {r r1 r2 : Option Nat} (h : Nx W r r1) (h1 : Nx W1 r1 r2) (hs : W.heap.size ≤ W1.heap.size) : Nx W r r2 := by
  rcases h1 with rfl | h1
  · exact h
  · exact Or.inr fun k hk => Nat.le_trans hs (h1 k hk)
theorem Kp.trans {z : Nat} {r r1 : Option Nat} {W W1 W2 : World} (h : Kp z r W W1) (hn : Nx W r r1) (h1 : Kp z r1 W1 W2) : Kp z r W W2 :=
  ⟨h1.os.trans h.os, h1.tape.trans h.tape, h1.output.trans h.output, Nat.le_trans h.size h1.size, fun k hk hz hr => by
    rw [h1.block k (Nat.lt_of_lt_of_le hk h.size) hz ?_, h.block k hk hz hr]
    rcases hn with rfl | hn
    · exact hr
    · intro e; have := hn k e.symm; omega⟩
theorem Kp.next {z : Nat} {r : Option Nat} {W W1 W2 : World} (h : Kp z r W W1) (h1 : Kp z r W1 W2) : Kp z r W W2 := h.trans (Nx.refl _ _) h1
theorem Kp.cell {z : Nat} {r : Option Nat} {W W' : World} (h : Kp z r W W') {k j : Nat} (hk : k < W.heap.size) (hz : k ≠ z) (hr : some k ≠ r) : W'.cell? ⟨k, j, none⟩ = W.cell? ⟨k, j, none⟩ := by
  unfold World.cell?; simp only [h.block k hk hz hr]
theorem Kp.frozen {z : Nat} {r : Option Nat} {W W' : World} (h : Kp z r W W') {k j : Nat} (hk : k < W.heap.size) (hz : k ≠ z) (hr : some k ≠ r) : W'.frozen? ⟨k, j, none⟩ = W.frozen? ⟨k, j, none⟩ := by
  unfold World.frozen?; simp only [h.block k hk hz hr]
/-- A row that is owned is kept where its block is. -/
theorem own_keep {W W' : World} {B e size n : Nat} {v : Value} {xs : List Value} (h : W.ownsRow B e size v n xs) (hk : ∀ k, B ≤ k → k < W.heap.size → v.ownBlock = some k → W'.heap[k]? = W.heap[k]?) : W'.ownsRow B e size v n xs := by
  refine ⟨h.1, ?_⟩
  rcases h.2 with h2 | ⟨g, cap, cur, hv, hg, hh, r⟩
  · exact Or.inl h2
  · refine Or.inr ⟨g, cap, cur, hv, hg, ?_, r⟩
    rw [hk g hg (Array.getElem?_eq_some_iff.1 hh).1 (by subst hv; rfl)]; exact hh
theorem own_rebase {W : World} {B B' e size n : Nat} {v : Value} {xs : List Value} (h : W.ownsRow B e size v n xs) (hB : ∀ k, v.ownBlock = some k → B' ≤ k) : W.ownsRow B' e size v n xs := by
  refine ⟨h.1, ?_⟩
  rcases h.2 with h2 | ⟨g, cap, cur, hv, hg, r⟩
  · exact Or.inl h2
  · exact Or.inr ⟨g, cap, cur, hv, hB g (by subst hv; rfl), r⟩
theorem Kp.own {z : Nat} {r : Option Nat} {W W' : World} (h : Kp z r W W') {B e size n : Nat} {v : Value} {xs : List Value} (ho : W.ownsRow B e size v n xs) (hz : z < B) (hr : v.ownBlock = none ∨ v.ownBlock ≠ r) : W'.ownsRow B e size v n xs :=
  own_keep ho fun k hB hk hv => h.block k hk (by omega) (by
    rcases hr with hr | hr
    · rw [hr] at hv; cases hv
    · rw [← hv]; exact hr)

/-- Words in a slice that lies below z. -/
def WTx (W : World) (z : Nat) (g : Option Addr) (ws : List Wd) : Prop :=
  ws = [] ∨ ∃ bk o, g = some ⟨bk, o, none⟩ ∧ bk < z ∧ ∀ (j : Nat) x, ws[j]? = some x → W.cell? ⟨bk, o + j, none⟩ = some (.string (Lx.ba x))
theorem WTx.on {W W' : World} {z : Nat} {g : Option Addr} {ws : List Wd} (h : WTx W z g ws) (hb : ∀ k, k < z → W'.heap[k]? = W.heap[k]?) : WTx W' z g ws := by
  rcases h with h | ⟨bk, o, h1, h2, h3⟩
  · exact Or.inl h
  · refine Or.inr ⟨bk, o, h1, h2, fun j x hx => ?_⟩
    rw [← h3 j x hx]
    unfold World.cell?; simp only [hb bk h2]
theorem WTx.tail {W : World} {z : Nat} {g : Option Addr} {w : Wd} {ws : List Wd} {c : Nat} (h : WTx W z g (w :: ws)) (hc : ws.length + 1 ≤ c) : WTx W z (if c = 1 then g else g.map (·.add 1)) ws := by
  rcases h with h | ⟨bk, o, rfl, h2, h3⟩
  · cases h
  · by_cases h1 : c = 1
    · left
      have : ws.length = 0 := by omega
      exact List.length_eq_zero_iff.1 this
    · right
      rw [if_neg h1]
      refine ⟨bk, o + 1, by simp [Addr.add], h2, fun j x hx => ?_⟩
      have := h3 (j + 1) x (by simpa using hx)
      rw [← this, Nat.add_assoc, Nat.add_comm 1 j]
/-- The next word, an empty one at the end, and what is left. -/
def nxt (ws : List Wd) : Wd × List Wd := match ws with
  | [] => ([], [])
  | w :: ws => (w, ws)
theorem nxt_len (ws : List Wd) : (nxt ws).2.length = ws.length - 1 := by cases ws <;> simp [nxt]
end Go.Proofs.YtgajnmcjnkfblaaGreatDoor
