/- Contracts of the small functions: within, upTo, the numbers that may be, the levels that a kid has more, and which parts may be such. · Numbers, parts and levels in memory. · The contracts of expr.fits and of the document's kinds: which parts may be such. · The contract of slices.Repeat at one number. · The contract of expr.handDown: the kids get their levels. · The contract of slices.Backward: a definition's parts, the last one first, with their places. · A region that draws its order, in a round of a range over a function: what holds of it by the law with a condition on the world holds in the round too. · The contract of expr.May: which definitions may be. -/
import Derived.Test.YtjamknejllbmkaaGreatDoorRows
import Derived.Test.YtjamknejllbmkaaGreatDoorMPlain
import Derived.WalkKit
import Derived.ProofKit
import Derived.OpenShut
import Derived.Maps.AppendAt
import Derived.RangeFuncBox
import Derived.Deep.Slices
import Derived.Deep.Draws
import Derived.Shelf.Bits.Mul64
import Derived.Laws.CopyOwn
import Derived.Deep.OwnRows
import Derived.Deep.RegionLaw
import Derived.RangeFuncNested
import Derived.RangeFuncBound
import Derived.RangeFuncCalls
import Derived.RangeFuncLeaves
import Derived.Shelf.Abstract
import Derived.Shelf.RegionOpen
import Derived.OwnWalkIn
import Derived.TacticsInMore
import Derived.LoopNIn
import Derived.LoopIn
import Derived.OrdersHeld
import Derived.OrdersIn

namespace Go.Proofs.YtjamknejllbmkaaGreatDoor
open Go.RowKit
set_option linter.unusedVariables false

/-- From low to high? -/
def withB (x lo hi : Int) : Bool := decide (lo ≤ x ∧ x ≤ hi)
theorem withB_iff {x lo hi : Int} : withB x lo hi = true ↔ lo ≤ x ∧ x ≤ hi := by unfold withB; simp
theorem withB_not {x lo hi : Int} : withB x lo hi = false ↔ ¬ (lo ≤ x ∧ x ≤ hi) := by unfold withB; simp
theorem ret_bool {a b : Bool} (h : a = b) : Ending.returned (.bool a) = .returned (.bool b) := by rw [h]
theorem ret_int {k : IntKind} {a b : Int} (h : a = b) : Ending.returned (.int k a) = .returned (.int k b) := by rw [h]

set_option maxHeartbeats 400000 in
theorem within_any (x lo hi : Int) (w : World) :
    Calls Tryz.prog 79 #[.int .i64 x, .int .i64 lo, .int .i64 hi] w fun e w' => e = .returned (.bool (withB x lo hi)) ∧ w = w' := by
  by_cases h1 : lo ≤ x
  · have d1 : decide (lo ≤ x) = true := decide_eq_true h1
    go_enter Tryz.func79, Tryz.ntmps79
    go_wp2
    go_ret
    exact ⟨ret_bool (by unfold withB; simp [h1]; try omega), rfl⟩
  · have d1 : decide (lo ≤ x) = false := decide_eq_false h1
    go_enter Tryz.func79, Tryz.ntmps79
    go_wp2
    go_ret
    exact ⟨ret_bool (by unfold withB; simp; try omega), rfl⟩
set_option maxHeartbeats 400000 in
theorem upto_any (x lo hi : Int) (w : World) :
    Calls Tryz.prog 37 #[.int .i64 x, .int .i64 lo, .int .i64 hi] w fun e w' => e = .returned (.bool (withB x lo hi)) ∧ w = w' := by
  by_cases h1 : lo ≤ x
  · have d1 : decide (lo ≤ x) = true := decide_eq_true h1
    go_enter Tryz.func37, Tryz.ntmps37
    go_wp2
    go_ret
    exact ⟨ret_bool (by unfold withB; simp [h1]; try omega), rfl⟩
  · have d1 : decide (lo ≤ x) = false := decide_eq_false h1
    go_enter Tryz.func37, Tryz.ntmps37
    go_wp2
    go_ret
    exact ⟨ret_bool (by unfold withB; simp; try omega), rfl⟩
set_option maxHeartbeats 400000 in
theorem prim_any (x : Int) (w : World) :
    Calls Tryz.prog 63 #[.int .i64 x] w fun e w' => e = .returned (.bool (withB x (-32768) 32767)) ∧ w = w' := by
  by_cases h1 : -32768 ≤ x
  · have d1 : decide (-32768 ≤ x) = true := decide_eq_true h1
    go_enter Tryz.func63, Tryz.ntmps63
    go_wp2
    go_ret
    exact ⟨ret_bool (by unfold withB; simp [h1]; try omega), rfl⟩
  · have d1 : decide (-32768 ≤ x) = false := decide_eq_false h1
    go_enter Tryz.func63, Tryz.ntmps63
    go_wp2
    go_ret
    exact ⟨ret_bool (by unfold withB; simp; try omega), rfl⟩
set_option maxHeartbeats 400000 in
theorem nummay_any (x : Int) (w : World) :
    Calls Tryz.prog 74 #[.int .i64 x] w fun e w' => e = .returned (.bool (withB x (-32768) 32767)) ∧ w = w' := by
  go_enter Tryz.func74, Tryz.ntmps74
  go_wp2_with fail
  refine (upto_any _ _ _ _).mono ?_
  rintro e w' ⟨rfl, rfl⟩
  go_wp2_with fail
  go_ret
  exact ⟨rfl, rfl⟩
set_option maxHeartbeats 400000 in
theorem num_any (x : Int) (w : World) :
    Calls Tryz.prog 10 #[.int .i64 x] w fun e w' => e = .returned (.int .i64 x) ∧ w = w' := by
  go_enter Tryz.func10, Tryz.ntmps10
  go_wp2
  go_ret
  exact ⟨rfl, rfl⟩

set_option maxHeartbeats 800000 in
theorem bound_any (k m b i : Int) (g : Option Addr) (n c : Nat) (w : World) :
    Calls Tryz.prog 92 #[.agg #[.int .i64 k, .int .i64 m, .int .i64 b, .slice g n c], .int .i64 i] w fun e w' => e = .returned (.int .i64 (bnd k b i)) ∧ Below w.heap.size w w' := by
  by_cases h1 : i = 1
  · subst h1
    by_cases h5 : k = 5
    · subst h5
      go_enter Tryz.func92, Tryz.ntmps92
      go_wp2
      go_ret
      exact ⟨ret_int (by simp [bnd]), (Below.refl _ _).alloc (Nat.le_refl _) _⟩
    · have e5 : (k == 5) = false := by simpa using h5
      by_cases h6 : k = 6
      · subst h6
        go_enter Tryz.func92, Tryz.ntmps92
        go_wp2
        go_ret
        exact ⟨ret_int (by simp [bnd]), (Below.refl _ _).alloc (Nat.le_refl _) _⟩
      · have e6 : (k == 6) = false := by simpa using h6
        go_enter Tryz.func92, Tryz.ntmps92
        go_wp2
        go_ret
        exact ⟨ret_int (by simp [bnd, h5, h6]), (Below.refl _ _).alloc (Nat.le_refl _) _⟩
  · have e1 : (i == 1) = false := by simpa using h1
    have e2 : (i != 1) = true := by simpa using h1
    go_enter Tryz.func92, Tryz.ntmps92
    go_wp2
    go_ret
    exact ⟨ret_int (by simp [bnd, h1]), (Below.refl _ _).alloc (Nat.le_refl _) _⟩

set_option maxHeartbeats 800000 in
theorem deeper_any (k m b i : Int) (g : Option Addr) (n c : Nat) (w : World) :
    Calls Tryz.prog 73 #[.agg #[.int .i64 k, .int .i64 m, .int .i64 b, .slice g n c], .int .i64 i] w fun e w' => e = .returned (.int .i64 (bnd k b i)) ∧ Below w.heap.size w w' := by
  by_cases h1 : i = 1
  · subst h1
    by_cases h5 : k = 5
    · subst h5
      go_enter Tryz.func73, Tryz.ntmps73
      go_wp2
      go_ret
      exact ⟨ret_int (by simp [bnd]), (Below.refl _ _).alloc (Nat.le_refl _) _⟩
    · have e5 : (k == 5) = false := by simpa using h5
      by_cases h6 : k = 6
      · subst h6
        go_enter Tryz.func73, Tryz.ntmps73
        go_wp2
        go_ret
        exact ⟨ret_int (by simp [bnd]), (Below.refl _ _).alloc (Nat.le_refl _) _⟩
      · have e6 : (k == 6) = false := by simpa using h6
        go_enter Tryz.func73, Tryz.ntmps73
        go_wp2
        go_ret
        exact ⟨ret_int (by simp [bnd, h5, h6]), (Below.refl _ _).alloc (Nat.le_refl _) _⟩
  · have e1 : (i == 1) = false := by simpa using h1
    have e2 : (i != 1) = true := by simpa using h1
    go_enter Tryz.func73, Tryz.ntmps73
    go_wp2
    go_ret
    exact ⟨ret_int (by simp [bnd, h1]), (Below.refl _ _).alloc (Nat.le_refl _) _⟩
end Go.Proofs.YtjamknejllbmkaaGreatDoor

namespace Go.Proofs.YtjamknejllbmkaaGreatDoor
open Go.RowKit
set_option linter.unusedVariables false

theorem below_drewN (B : Nat) (w : World) (n : Nat) : Below B w (w.drewN n) := ⟨rfl, rfl, rfl, Nat.le_refl _, fun _ _ => rfl⟩
theorem below_next {a b c : World} (h : Below a.heap.size a b) (k : Below b.heap.size b c) : Below a.heap.size a c := h.trans (k.mono h.size)

/-- Whole numbers in a slice, wherever it lies. -/
def Nums (w : World) (g : Option Addr) (xs : List Int) : Prop :=
  xs = [] ∨ ∃ bk o, g = some ⟨bk, o, none⟩ ∧ bk < w.heap.size ∧ ∀ (j : Nat) x, xs[j]? = some x → w.cell? ⟨bk, o + j, none⟩ = some (.int .i64 x)
theorem Nums.at {w : World} {g : Option Addr} {xs : List Int} (h : Nums w g xs) {j : Nat} (hj : j < xs.length) : ∃ bk o, g = some ⟨bk, o, none⟩ ∧ bk < w.heap.size ∧ w.cell? ⟨bk, o + j, none⟩ = some (.int .i64 xs[j]) := by
  rcases h with h | ⟨bk, o, h1, h2, h3⟩
  · subst h; simp at hj
  · exact ⟨bk, o, h1, h2, h3 j _ (List.getElem?_eq_getElem hj)⟩
theorem Nums.on {w w' : World} {g : Option Addr} {xs : List Int} (h : Nums w g xs) (hb : Below w.heap.size w w') : Nums w' g xs := by
  rcases h with h | ⟨bk, o, h1, h2, h3⟩
  · exact Or.inl h
  · exact Or.inr ⟨bk, o, h1, Nat.lt_of_lt_of_le h2 hb.size, fun j x hx => by rw [hb.cell (p := ⟨bk, o + j, none⟩) h2]; exact h3 j x hx⟩
/-- A part's value. -/
abbrev eV (e : Ex) (g : Option Addr) (c : Nat) : Value := .agg #[.int .i64 e.kind, .int .i64 e.num, .int .i64 e.bind, .slice g e.kids.length c]
/-- A part's four cells. -/
def ExAt (w : World) (bk o : Nat) (e : Ex) (g : Option Addr) (c : Nat) : Prop :=
  w.cell? ⟨bk, o, none⟩ = some (.int .i64 e.kind) ∧ w.cell? ⟨bk, o + 1, none⟩ = some (.int .i64 e.num) ∧ w.cell? ⟨bk, o + 2, none⟩ = some (.int .i64 e.bind) ∧ w.cell? ⟨bk, o + 3, none⟩ = some (.slice g e.kids.length c) ∧ Nums w g e.kids
theorem ExAt.on {w w' : World} {bk o c : Nat} {e : Ex} {g : Option Addr} (h : ExAt w bk o e g c) (hk : bk < w.heap.size) (hb : Below w.heap.size w w') : ExAt w' bk o e g c :=
  ⟨(hb.cell (p := ⟨bk, o, none⟩) hk).trans h.1, (hb.cell (p := ⟨bk, o + 1, none⟩) hk).trans h.2.1, (hb.cell (p := ⟨bk, o + 2, none⟩) hk).trans h.2.2.1, (hb.cell (p := ⟨bk, o + 3, none⟩) hk).trans h.2.2.2.1, h.2.2.2.2.on hb⟩
/-- Parts in a slice, wherever it lies. -/
def Exs (w : World) (g : Option Addr) (xs : List Ex) : Prop :=
  xs = [] ∨ ∃ bk o, g = some ⟨bk, o, none⟩ ∧ bk < w.heap.size ∧ ∀ (j : Nat) x, xs[j]? = some x → ∃ gk ck, ExAt w bk (o + j * 4) x gk ck
theorem Exs.at {w : World} {g : Option Addr} {xs : List Ex} (h : Exs w g xs) {j : Nat} (hj : j < xs.length) : ∃ bk o, g = some ⟨bk, o, none⟩ ∧ bk < w.heap.size ∧ ∃ gk ck, ExAt w bk (o + j * 4) xs[j] gk ck := by
  rcases h with h | ⟨bk, o, h1, h2, h3⟩
  · subst h; simp at hj
  · exact ⟨bk, o, h1, h2, h3 j _ (List.getElem?_eq_getElem hj)⟩
theorem Exs.on {w w' : World} {g : Option Addr} {xs : List Ex} (h : Exs w g xs) (hb : Below w.heap.size w w') : Exs w' g xs := by
  rcases h with h | ⟨bk, o, h1, h2, h3⟩
  · exact Or.inl h
  · exact Or.inr ⟨bk, o, h1, Nat.lt_of_lt_of_le h2 hb.size, fun j x hx => by obtain ⟨gk, ck, h⟩ := h3 j x hx; exact ⟨gk, ck, h.on h2 hb⟩⟩

/-- Levels in a block of their own. -/
def Lv (w : World) (b : Nat) (L : List Int) : Prop := w.heap[b]? = some (.cells (L.map (Value.int .i64)).toArray 3 (0, 0))
theorem Lv.lt {w : World} {b : Nat} {L : List Int} (h : Lv w b L) : b < w.heap.size := (Array.getElem?_eq_some_iff.1 h).1
theorem Lv.cell {w : World} {b : Nat} {L : List Int} (h : Lv w b L) {j : Nat} {v : Int} (hj : L[j]? = some v) : w.cell? ⟨b, j, none⟩ = some (.int .i64 v) := by
  simp [World.cell?, show w.heap[b]? = _ from h, hj]
theorem Lv.frozen {w : World} {b : Nat} {L : List Int} (h : Lv w b L) (j : Nat) : w.frozen? ⟨b, j, none⟩ = false := by
  simp [World.frozen?, show w.heap[b]? = _ from h]
theorem Lv.kept {w w' : World} {row : Option Nat} {b : Nat} {L : List Int} (h : Lv w b L) (hg : w.grownBy w' row) (hne : some b ≠ row) : Lv w' b L := (hg.block b h.lt hne).trans h
theorem Lv.alloc {w : World} {b : Nat} {L : List Int} (h : Lv w b L) (o : Obj) : Lv (w.alloc o) b L := h.kept (World.grownBy_alloc w o none) (by simp)
theorem Lv.on {w w' : World} {b n : Nat} {L : List Int} (h : Lv w b L) (hb : Below n w w') (hn : b < n) : Lv w' b L := (hb.block b hn).trans h
theorem Lv.set {w : World} {b : Nat} {L : List Int} (h : Lv w b L) (j : Nat) (v : Int) : Lv (w.setCell ⟨b, j, none⟩ (.int .i64 v)) b (L.set j v) := by
  obtain ⟨hlt, hk⟩ := Array.getElem?_eq_some_iff.1 h
  show (w.heap.modify b _)[b]? = _
  rw [Array.getElem?_eq_getElem (by rw [Array.size_modify]; exact hlt), Array.getElem_modify_self, hk]
  simp [List.map_set]
theorem Lv.new (w : World) (L : List Int) : Lv (w.alloc (.cells (L.map (Value.int .i64)).toArray 3)) w.heap.size L := World.alloc_heap_new w _
theorem grown_set (W : World) (b j : Nat) (v : Value) : W.grownBy (W.setCell ⟨b, j, none⟩ v) (some b) :=
  ⟨rfl, rfl, rfl, (KeepsWalks.setCell W _ v).size, fun k _ hk => Below.heap_setCell _ _ _ k (fun e => hk (by rw [e]))⟩
theorem grown_of_below {a b : World} (h : Below a.heap.size a b) (row : Option Nat) : a.grownBy b row := ⟨h.os, h.tape, h.output, h.size, fun k hk _ => h.block k hk⟩
theorem lv_own {β : Type} (b : Nat) (f : β → List Int) : Own (fun s W => Lv W b (f s)) := fun s X Y row hs hg hrow =>
  hs.kept hg (fun e => by
    obtain ⟨o, ho, hc⟩ := hrow b e.symm
    rw [show X.heap[b]? = _ from hs] at ho; cases ho; cases hc)
end Go.Proofs.YtjamknejllbmkaaGreatDoor

namespace Go.Proofs.YtjamknejllbmkaaGreatDoor
open Go.RowKit
set_option linter.unusedVariables false

theorem okE_0 (m b n t : Int) : (okE 0 m b n t = true) ↔ (b = 0 ∧ (-32768 ≤ m ∧ m ≤ 32767) ∧ n = 0) := by simp [okE]
theorem okE_1 (m b n t : Int) : (okE 1 m b n t = true) ↔ (b = 0 ∧ (0 ≤ m ∧ m ≤ t - 1) ∧ n = 0) := by simp [okE]
theorem okE_2 (m b n t : Int) : (okE 2 m b n t = true) ↔ (b = 0 ∧ (0 ≤ m ∧ m ≤ 7) ∧ n ≤ 3) := by simp [okE]
theorem okE_3 (m b n t : Int) : (okE 3 m b n t = true) ↔ (b = 0 ∧ (0 ≤ m ∧ m ≤ 99) ∧ n ≤ 3) := by simp [okE]
theorem okE_4 (m b n t : Int) : (okE 4 m b n t = true) ↔ (b = 0 ∧ (0 ≤ m ∧ m ≤ 4) ∧ n = 2) := by simp [okE]
theorem okE_5 (m b n t : Int) : (okE 5 m b n t = true) ↔ ((0 ≤ m ∧ m ≤ 99) ∧ (0 ≤ b ∧ b ≤ 3) ∧ n = 3) := by simp [okE]
theorem okE_6 (m b n t : Int) : (okE 6 m b n t = true) ↔ (b = 0 ∧ m = 0 ∧ n = 2) := by simp [okE]
theorem okE_7 (m b n t : Int) : (okE 7 m b n t = true) ↔ (b = 0 ∧ m = 0 ∧ n = 0) := by simp [okE]
theorem okE_else (k m b n t : Int) (h : ¬ (0 ≤ k ∧ k ≤ 7)) : okE k m b n t = false := by
  unfold okE
  rw [if_neg (by omega), if_neg (by omega), if_neg (by omega), if_neg (by omega), if_neg (by omega), if_neg (by omega), if_neg (by omega), if_neg (by omega)]
theorem eq_of_iff {a b : Bool} (h : (a = true) ↔ (b = true)) : a = b := Bool.eq_iff_iff.2 h
set_option maxHeartbeats 800000 in
theorem fits_0 (m b t : Int) (g : Option Addr) (n c : Nat) (w : World) (ht0 : -1 ≤ t) (ht8 : t ≤ 8) :
    Calls Tryz.prog 82 #[.agg #[.int .i64 0, .int .i64 m, .int .i64 b, .slice g n c], .int .i64 t] w fun e w' => e = .returned (.bool (okE 0 m b n t)) ∧ Below w.heap.size w w' := by
  by_cases hb : b = 0
  · subst hb
    cases hw : withB m (-32768) 32767 with
    | false =>
      go_enter Tryz.func82, Tryz.ntmps82
      go_wp2_with (first | (go_at_call 79; refine (within_any _ _ _ _).mono ?_; rintro e w1 ⟨rfl, rfl⟩) | (go_at_call 63; refine (prim_any _ _).mono ?_; rintro e w1 ⟨rfl, rfl⟩))
      go_ret
      refine ⟨ret_bool (eq_of_iff ?_), (Below.refl _ _).alloc (Nat.le_refl _) _⟩
      have q := withB_not.1 hw
      rw [okE_0]
      refine ⟨fun hq => ?_, fun hq => ?_⟩ <;> (try simp only [Bool.false_eq_true, true_and] at hq ⊢) <;> omega
    | true =>
      go_enter Tryz.func82, Tryz.ntmps82
      go_wp2_with (first | (go_at_call 79; refine (within_any _ _ _ _).mono ?_; rintro e w1 ⟨rfl, rfl⟩) | (go_at_call 63; refine (prim_any _ _).mono ?_; rintro e w1 ⟨rfl, rfl⟩))
      go_ret
      refine ⟨ret_bool (eq_of_iff ?_), (Below.refl _ _).alloc (Nat.le_refl _) _⟩
      have q := withB_iff.1 hw
      rw [okE_0]
      refine ⟨fun hq => ?_, fun hq => ?_⟩ <;> (try simp only [beq_iff_eq, true_and] at hq ⊢) <;> omega
  · have eb : (b == 0) = false := by simpa using hb
    have eb2 : (b != 0) = true := by simpa using hb
    go_enter Tryz.func82, Tryz.ntmps82
    go_wp2_with (first | (go_at_call 79; refine (within_any _ _ _ _).mono ?_; rintro e w1 ⟨rfl, rfl⟩) | (go_at_call 63; refine (prim_any _ _).mono ?_; rintro e w1 ⟨rfl, rfl⟩))
    go_ret
    refine ⟨ret_bool (eq_of_iff ?_), (Below.refl _ _).alloc (Nat.le_refl _) _⟩
    rw [okE_0]
    refine ⟨fun hq => ?_, fun hq => ?_⟩ <;> (try simp only [Bool.false_eq_true] at hq ⊢) <;> omega
set_option maxHeartbeats 800000 in
theorem kinds_0 (m b t : Int) (g : Option Addr) (n c : Nat) (w : World) (ht0 : -1 ≤ t) (ht8 : t ≤ 8) :
    Calls Tryz.prog 72 #[.agg #[.int .i64 0, .int .i64 m, .int .i64 b, .slice g n c], .int .i64 t] w fun e w' => e = .returned (.bool (okE 0 m b n t)) ∧ Below w.heap.size w w' := by
  by_cases hb : b = 0
  · subst hb
    by_cases hn : (n : Int) = 0
    · have en : ((n : Int) == 0) = true := by rw [hn]; rfl
      go_enter Tryz.func72, Tryz.ntmps72
      go_wp2_with (first | (go_at_call 37; refine (upto_any _ _ _ _).mono ?_; rintro e w1 ⟨rfl, rfl⟩) | (go_at_call 74; refine (nummay_any _ _).mono ?_; rintro e w1 ⟨rfl, rfl⟩))
      go_ret
      refine ⟨ret_bool (eq_of_iff ?_), (Below.refl _ _).alloc (Nat.le_refl _) _⟩
      rw [okE_0]
      refine ⟨fun hq => ?_, fun hq => ?_⟩ <;> (try simp only [withB_iff, true_and] at hq ⊢) <;> omega
    · have en : ((n : Int) == 0) = false := by rw [beq_eq_false_iff_ne]; exact hn
      go_enter Tryz.func72, Tryz.ntmps72
      go_wp2_with (first | (go_at_call 37; refine (upto_any _ _ _ _).mono ?_; rintro e w1 ⟨rfl, rfl⟩) | (go_at_call 74; refine (nummay_any _ _).mono ?_; rintro e w1 ⟨rfl, rfl⟩))
      go_ret
      refine ⟨ret_bool (eq_of_iff ?_), (Below.refl _ _).alloc (Nat.le_refl _) _⟩
      rw [okE_0]
      refine ⟨fun hq => ?_, fun hq => ?_⟩ <;> (try simp only [Bool.false_eq_true, true_and] at hq ⊢) <;> omega
  · have eb : (b == 0) = false := by simpa using hb
    have eb2 : (b != 0) = true := by simpa using hb
    go_enter Tryz.func72, Tryz.ntmps72
    go_wp2_with (first | (go_at_call 37; refine (upto_any _ _ _ _).mono ?_; rintro e w1 ⟨rfl, rfl⟩) | (go_at_call 74; refine (nummay_any _ _).mono ?_; rintro e w1 ⟨rfl, rfl⟩))
    go_ret
    refine ⟨ret_bool (eq_of_iff ?_), (Below.refl _ _).alloc (Nat.le_refl _) _⟩
    rw [okE_0]
    refine ⟨fun hq => ?_, fun hq => ?_⟩ <;> (try simp only [Bool.false_eq_true] at hq ⊢) <;> omega
set_option maxHeartbeats 800000 in
theorem fits_1 (m b t : Int) (g : Option Addr) (n c : Nat) (w : World) (ht0 : -1 ≤ t) (ht8 : t ≤ 8) :
    Calls Tryz.prog 82 #[.agg #[.int .i64 1, .int .i64 m, .int .i64 b, .slice g n c], .int .i64 t] w fun e w' => e = .returned (.bool (okE 1 m b n t)) ∧ Below w.heap.size w w' := by
  by_cases hb : b = 0
  · subst hb
    cases hw : withB m 0 (t - 1) with
    | false =>
      go_enter Tryz.func82, Tryz.ntmps82
      go_wp2_with (first | (go_at_call 79; refine (within_any _ _ _ _).mono ?_; rintro e w1 ⟨rfl, rfl⟩) | (go_at_call 63; refine (prim_any _ _).mono ?_; rintro e w1 ⟨rfl, rfl⟩))
      go_ret
      refine ⟨ret_bool (eq_of_iff ?_), (Below.refl _ _).alloc (Nat.le_refl _) _⟩
      have q := withB_not.1 hw
      rw [okE_1]
      refine ⟨fun hq => ?_, fun hq => ?_⟩ <;> (try simp only [Bool.false_eq_true, true_and] at hq ⊢) <;> omega
    | true =>
      go_enter Tryz.func82, Tryz.ntmps82
      go_wp2_with (first | (go_at_call 79; refine (within_any _ _ _ _).mono ?_; rintro e w1 ⟨rfl, rfl⟩) | (go_at_call 63; refine (prim_any _ _).mono ?_; rintro e w1 ⟨rfl, rfl⟩))
      go_ret
      refine ⟨ret_bool (eq_of_iff ?_), (Below.refl _ _).alloc (Nat.le_refl _) _⟩
      have q := withB_iff.1 hw
      rw [okE_1]
      refine ⟨fun hq => ?_, fun hq => ?_⟩ <;> (try simp only [beq_iff_eq, true_and] at hq ⊢) <;> omega
  · have eb : (b == 0) = false := by simpa using hb
    have eb2 : (b != 0) = true := by simpa using hb
    go_enter Tryz.func82, Tryz.ntmps82
    go_wp2_with (first | (go_at_call 79; refine (within_any _ _ _ _).mono ?_; rintro e w1 ⟨rfl, rfl⟩) | (go_at_call 63; refine (prim_any _ _).mono ?_; rintro e w1 ⟨rfl, rfl⟩))
    go_ret
    refine ⟨ret_bool (eq_of_iff ?_), (Below.refl _ _).alloc (Nat.le_refl _) _⟩
    rw [okE_1]
    refine ⟨fun hq => ?_, fun hq => ?_⟩ <;> (try simp only [Bool.false_eq_true] at hq ⊢) <;> omega
set_option maxHeartbeats 800000 in
theorem kinds_1 (m b t : Int) (g : Option Addr) (n c : Nat) (w : World) (ht0 : -1 ≤ t) (ht8 : t ≤ 8) :
    Calls Tryz.prog 72 #[.agg #[.int .i64 1, .int .i64 m, .int .i64 b, .slice g n c], .int .i64 t] w fun e w' => e = .returned (.bool (okE 1 m b n t)) ∧ Below w.heap.size w w' := by
  by_cases hb : b = 0
  · subst hb
    by_cases hn : (n : Int) = 0
    · have en : ((n : Int) == 0) = true := by rw [hn]; rfl
      go_enter Tryz.func72, Tryz.ntmps72
      go_wp2_with (first | (go_at_call 37; refine (upto_any _ _ _ _).mono ?_; rintro e w1 ⟨rfl, rfl⟩) | (go_at_call 74; refine (nummay_any _ _).mono ?_; rintro e w1 ⟨rfl, rfl⟩))
      go_ret
      refine ⟨ret_bool (eq_of_iff ?_), (Below.refl _ _).alloc (Nat.le_refl _) _⟩
      rw [okE_1]
      refine ⟨fun hq => ?_, fun hq => ?_⟩ <;> (try simp only [withB_iff, true_and] at hq ⊢) <;> omega
    · have en : ((n : Int) == 0) = false := by rw [beq_eq_false_iff_ne]; exact hn
      go_enter Tryz.func72, Tryz.ntmps72
      go_wp2_with (first | (go_at_call 37; refine (upto_any _ _ _ _).mono ?_; rintro e w1 ⟨rfl, rfl⟩) | (go_at_call 74; refine (nummay_any _ _).mono ?_; rintro e w1 ⟨rfl, rfl⟩))
      go_ret
      refine ⟨ret_bool (eq_of_iff ?_), (Below.refl _ _).alloc (Nat.le_refl _) _⟩
      rw [okE_1]
      refine ⟨fun hq => ?_, fun hq => ?_⟩ <;> (try simp only [Bool.false_eq_true, true_and] at hq ⊢) <;> omega
  · have eb : (b == 0) = false := by simpa using hb
    have eb2 : (b != 0) = true := by simpa using hb
    go_enter Tryz.func72, Tryz.ntmps72
    go_wp2_with (first | (go_at_call 37; refine (upto_any _ _ _ _).mono ?_; rintro e w1 ⟨rfl, rfl⟩) | (go_at_call 74; refine (nummay_any _ _).mono ?_; rintro e w1 ⟨rfl, rfl⟩))
    go_ret
    refine ⟨ret_bool (eq_of_iff ?_), (Below.refl _ _).alloc (Nat.le_refl _) _⟩
    rw [okE_1]
    refine ⟨fun hq => ?_, fun hq => ?_⟩ <;> (try simp only [Bool.false_eq_true] at hq ⊢) <;> omega
set_option maxHeartbeats 800000 in
theorem fits_2 (m b t : Int) (g : Option Addr) (n c : Nat) (w : World) (ht0 : -1 ≤ t) (ht8 : t ≤ 8) :
    Calls Tryz.prog 82 #[.agg #[.int .i64 2, .int .i64 m, .int .i64 b, .slice g n c], .int .i64 t] w fun e w' => e = .returned (.bool (okE 2 m b n t)) ∧ Below w.heap.size w w' := by
  by_cases hb : b = 0
  · subst hb
    cases hw : withB m 0 7 with
    | false =>
      go_enter Tryz.func82, Tryz.ntmps82
      go_wp2_with (first | (go_at_call 79; refine (within_any _ _ _ _).mono ?_; rintro e w1 ⟨rfl, rfl⟩) | (go_at_call 63; refine (prim_any _ _).mono ?_; rintro e w1 ⟨rfl, rfl⟩))
      go_ret
      refine ⟨ret_bool (eq_of_iff ?_), (Below.refl _ _).alloc (Nat.le_refl _) _⟩
      have q := withB_not.1 hw
      rw [okE_2]
      refine ⟨fun hq => ?_, fun hq => ?_⟩ <;> (try simp only [Bool.false_eq_true, true_and] at hq ⊢) <;> omega
    | true =>
      go_enter Tryz.func82, Tryz.ntmps82
      go_wp2_with (first | (go_at_call 79; refine (within_any _ _ _ _).mono ?_; rintro e w1 ⟨rfl, rfl⟩) | (go_at_call 63; refine (prim_any _ _).mono ?_; rintro e w1 ⟨rfl, rfl⟩))
      go_ret
      refine ⟨ret_bool (eq_of_iff ?_), (Below.refl _ _).alloc (Nat.le_refl _) _⟩
      have q := withB_iff.1 hw
      rw [okE_2]
      refine ⟨fun hq => ?_, fun hq => ?_⟩ <;> (try simp only [decide_eq_true_eq, true_and] at hq ⊢) <;> omega
  · have eb : (b == 0) = false := by simpa using hb
    have eb2 : (b != 0) = true := by simpa using hb
    go_enter Tryz.func82, Tryz.ntmps82
    go_wp2_with (first | (go_at_call 79; refine (within_any _ _ _ _).mono ?_; rintro e w1 ⟨rfl, rfl⟩) | (go_at_call 63; refine (prim_any _ _).mono ?_; rintro e w1 ⟨rfl, rfl⟩))
    go_ret
    refine ⟨ret_bool (eq_of_iff ?_), (Below.refl _ _).alloc (Nat.le_refl _) _⟩
    rw [okE_2]
    refine ⟨fun hq => ?_, fun hq => ?_⟩ <;> (try simp only [Bool.false_eq_true] at hq ⊢) <;> omega
set_option maxHeartbeats 800000 in
theorem kinds_2 (m b t : Int) (g : Option Addr) (n c : Nat) (w : World) (ht0 : -1 ≤ t) (ht8 : t ≤ 8) :
    Calls Tryz.prog 72 #[.agg #[.int .i64 2, .int .i64 m, .int .i64 b, .slice g n c], .int .i64 t] w fun e w' => e = .returned (.bool (okE 2 m b n t)) ∧ Below w.heap.size w w' := by
  by_cases hb : b = 0
  · subst hb
    by_cases hn : (n : Int) ≤ 3
    · have en : decide ((n : Int) ≤ 3) = true := decide_eq_true hn
      go_enter Tryz.func72, Tryz.ntmps72
      go_wp2_with (first | (go_at_call 37; refine (upto_any _ _ _ _).mono ?_; rintro e w1 ⟨rfl, rfl⟩) | (go_at_call 74; refine (nummay_any _ _).mono ?_; rintro e w1 ⟨rfl, rfl⟩))
      go_ret
      refine ⟨ret_bool (eq_of_iff ?_), (Below.refl _ _).alloc (Nat.le_refl _) _⟩
      rw [okE_2]
      refine ⟨fun hq => ?_, fun hq => ?_⟩ <;> (try simp only [withB_iff, true_and] at hq ⊢) <;> omega
    · have en : decide ((n : Int) ≤ 3) = false := decide_eq_false hn
      go_enter Tryz.func72, Tryz.ntmps72
      go_wp2_with (first | (go_at_call 37; refine (upto_any _ _ _ _).mono ?_; rintro e w1 ⟨rfl, rfl⟩) | (go_at_call 74; refine (nummay_any _ _).mono ?_; rintro e w1 ⟨rfl, rfl⟩))
      go_ret
      refine ⟨ret_bool (eq_of_iff ?_), (Below.refl _ _).alloc (Nat.le_refl _) _⟩
      rw [okE_2]
      refine ⟨fun hq => ?_, fun hq => ?_⟩ <;> (try simp only [Bool.false_eq_true, true_and] at hq ⊢) <;> omega
  · have eb : (b == 0) = false := by simpa using hb
    have eb2 : (b != 0) = true := by simpa using hb
    go_enter Tryz.func72, Tryz.ntmps72
    go_wp2_with (first | (go_at_call 37; refine (upto_any _ _ _ _).mono ?_; rintro e w1 ⟨rfl, rfl⟩) | (go_at_call 74; refine (nummay_any _ _).mono ?_; rintro e w1 ⟨rfl, rfl⟩))
    go_ret
    refine ⟨ret_bool (eq_of_iff ?_), (Below.refl _ _).alloc (Nat.le_refl _) _⟩
    rw [okE_2]
    refine ⟨fun hq => ?_, fun hq => ?_⟩ <;> (try simp only [Bool.false_eq_true] at hq ⊢) <;> omega
set_option maxHeartbeats 800000 in
theorem fits_3 (m b t : Int) (g : Option Addr) (n c : Nat) (w : World) (ht0 : -1 ≤ t) (ht8 : t ≤ 8) :
    Calls Tryz.prog 82 #[.agg #[.int .i64 3, .int .i64 m, .int .i64 b, .slice g n c], .int .i64 t] w fun e w' => e = .returned (.bool (okE 3 m b n t)) ∧ Below w.heap.size w w' := by
  by_cases hb : b = 0
  · subst hb
    cases hw : withB m 0 99 with
    | false =>
      go_enter Tryz.func82, Tryz.ntmps82
      go_wp2_with (first | (go_at_call 79; refine (within_any _ _ _ _).mono ?_; rintro e w1 ⟨rfl, rfl⟩) | (go_at_call 63; refine (prim_any _ _).mono ?_; rintro e w1 ⟨rfl, rfl⟩))
      go_ret
      refine ⟨ret_bool (eq_of_iff ?_), (Below.refl _ _).alloc (Nat.le_refl _) _⟩
      have q := withB_not.1 hw
      rw [okE_3]
      refine ⟨fun hq => ?_, fun hq => ?_⟩ <;> (try simp only [Bool.false_eq_true, true_and] at hq ⊢) <;> omega
    | true =>
      go_enter Tryz.func82, Tryz.ntmps82
      go_wp2_with (first | (go_at_call 79; refine (within_any _ _ _ _).mono ?_; rintro e w1 ⟨rfl, rfl⟩) | (go_at_call 63; refine (prim_any _ _).mono ?_; rintro e w1 ⟨rfl, rfl⟩))
      go_ret
      refine ⟨ret_bool (eq_of_iff ?_), (Below.refl _ _).alloc (Nat.le_refl _) _⟩
      have q := withB_iff.1 hw
      rw [okE_3]
      refine ⟨fun hq => ?_, fun hq => ?_⟩ <;> (try simp only [decide_eq_true_eq, true_and] at hq ⊢) <;> omega
  · have eb : (b == 0) = false := by simpa using hb
    have eb2 : (b != 0) = true := by simpa using hb
    go_enter Tryz.func82, Tryz.ntmps82
    go_wp2_with (first | (go_at_call 79; refine (within_any _ _ _ _).mono ?_; rintro e w1 ⟨rfl, rfl⟩) | (go_at_call 63; refine (prim_any _ _).mono ?_; rintro e w1 ⟨rfl, rfl⟩))
    go_ret
    refine ⟨ret_bool (eq_of_iff ?_), (Below.refl _ _).alloc (Nat.le_refl _) _⟩
    rw [okE_3]
    refine ⟨fun hq => ?_, fun hq => ?_⟩ <;> (try simp only [Bool.false_eq_true] at hq ⊢) <;> omega
set_option maxHeartbeats 800000 in
theorem kinds_3 (m b t : Int) (g : Option Addr) (n c : Nat) (w : World) (ht0 : -1 ≤ t) (ht8 : t ≤ 8) :
    Calls Tryz.prog 72 #[.agg #[.int .i64 3, .int .i64 m, .int .i64 b, .slice g n c], .int .i64 t] w fun e w' => e = .returned (.bool (okE 3 m b n t)) ∧ Below w.heap.size w w' := by
  by_cases hb : b = 0
  · subst hb
    by_cases hn : (n : Int) ≤ 3
    · have en : decide ((n : Int) ≤ 3) = true := decide_eq_true hn
      go_enter Tryz.func72, Tryz.ntmps72
      go_wp2_with (first | (go_at_call 37; refine (upto_any _ _ _ _).mono ?_; rintro e w1 ⟨rfl, rfl⟩) | (go_at_call 74; refine (nummay_any _ _).mono ?_; rintro e w1 ⟨rfl, rfl⟩))
      go_ret
      refine ⟨ret_bool (eq_of_iff ?_), (Below.refl _ _).alloc (Nat.le_refl _) _⟩
      rw [okE_3]
      refine ⟨fun hq => ?_, fun hq => ?_⟩ <;> (try simp only [withB_iff, true_and] at hq ⊢) <;> omega
    · have en : decide ((n : Int) ≤ 3) = false := decide_eq_false hn
      go_enter Tryz.func72, Tryz.ntmps72
      go_wp2_with (first | (go_at_call 37; refine (upto_any _ _ _ _).mono ?_; rintro e w1 ⟨rfl, rfl⟩) | (go_at_call 74; refine (nummay_any _ _).mono ?_; rintro e w1 ⟨rfl, rfl⟩))
      go_ret
      refine ⟨ret_bool (eq_of_iff ?_), (Below.refl _ _).alloc (Nat.le_refl _) _⟩
      rw [okE_3]
      refine ⟨fun hq => ?_, fun hq => ?_⟩ <;> (try simp only [Bool.false_eq_true, true_and] at hq ⊢) <;> omega
  · have eb : (b == 0) = false := by simpa using hb
    have eb2 : (b != 0) = true := by simpa using hb
    go_enter Tryz.func72, Tryz.ntmps72
    go_wp2_with (first | (go_at_call 37; refine (upto_any _ _ _ _).mono ?_; rintro e w1 ⟨rfl, rfl⟩) | (go_at_call 74; refine (nummay_any _ _).mono ?_; rintro e w1 ⟨rfl, rfl⟩))
    go_ret
    refine ⟨ret_bool (eq_of_iff ?_), (Below.refl _ _).alloc (Nat.le_refl _) _⟩
    rw [okE_3]
    refine ⟨fun hq => ?_, fun hq => ?_⟩ <;> (try simp only [Bool.false_eq_true] at hq ⊢) <;> omega
set_option maxHeartbeats 800000 in
theorem fits_4 (m b t : Int) (g : Option Addr) (n c : Nat) (w : World) (ht0 : -1 ≤ t) (ht8 : t ≤ 8) :
    Calls Tryz.prog 82 #[.agg #[.int .i64 4, .int .i64 m, .int .i64 b, .slice g n c], .int .i64 t] w fun e w' => e = .returned (.bool (okE 4 m b n t)) ∧ Below w.heap.size w w' := by
  by_cases hb : b = 0
  · subst hb
    cases hw : withB m 0 4 with
    | false =>
      go_enter Tryz.func82, Tryz.ntmps82
      go_wp2_with (first | (go_at_call 79; refine (within_any _ _ _ _).mono ?_; rintro e w1 ⟨rfl, rfl⟩) | (go_at_call 63; refine (prim_any _ _).mono ?_; rintro e w1 ⟨rfl, rfl⟩))
      go_ret
      refine ⟨ret_bool (eq_of_iff ?_), (Below.refl _ _).alloc (Nat.le_refl _) _⟩
      have q := withB_not.1 hw
      rw [okE_4]
      refine ⟨fun hq => ?_, fun hq => ?_⟩ <;> (try simp only [Bool.false_eq_true, true_and] at hq ⊢) <;> omega
    | true =>
      go_enter Tryz.func82, Tryz.ntmps82
      go_wp2_with (first | (go_at_call 79; refine (within_any _ _ _ _).mono ?_; rintro e w1 ⟨rfl, rfl⟩) | (go_at_call 63; refine (prim_any _ _).mono ?_; rintro e w1 ⟨rfl, rfl⟩))
      go_ret
      refine ⟨ret_bool (eq_of_iff ?_), (Below.refl _ _).alloc (Nat.le_refl _) _⟩
      have q := withB_iff.1 hw
      rw [okE_4]
      refine ⟨fun hq => ?_, fun hq => ?_⟩ <;> (try simp only [beq_iff_eq, true_and] at hq ⊢) <;> omega
  · have eb : (b == 0) = false := by simpa using hb
    have eb2 : (b != 0) = true := by simpa using hb
    go_enter Tryz.func82, Tryz.ntmps82
    go_wp2_with (first | (go_at_call 79; refine (within_any _ _ _ _).mono ?_; rintro e w1 ⟨rfl, rfl⟩) | (go_at_call 63; refine (prim_any _ _).mono ?_; rintro e w1 ⟨rfl, rfl⟩))
    go_ret
    refine ⟨ret_bool (eq_of_iff ?_), (Below.refl _ _).alloc (Nat.le_refl _) _⟩
    rw [okE_4]
    refine ⟨fun hq => ?_, fun hq => ?_⟩ <;> (try simp only [Bool.false_eq_true] at hq ⊢) <;> omega
set_option maxHeartbeats 800000 in
theorem kinds_4 (m b t : Int) (g : Option Addr) (n c : Nat) (w : World) (ht0 : -1 ≤ t) (ht8 : t ≤ 8) :
    Calls Tryz.prog 72 #[.agg #[.int .i64 4, .int .i64 m, .int .i64 b, .slice g n c], .int .i64 t] w fun e w' => e = .returned (.bool (okE 4 m b n t)) ∧ Below w.heap.size w w' := by
  by_cases hb : b = 0
  · subst hb
    by_cases hn : (n : Int) = 2
    · have en : ((n : Int) == 2) = true := by rw [hn]; rfl
      go_enter Tryz.func72, Tryz.ntmps72
      go_wp2_with (first | (go_at_call 37; refine (upto_any _ _ _ _).mono ?_; rintro e w1 ⟨rfl, rfl⟩) | (go_at_call 74; refine (nummay_any _ _).mono ?_; rintro e w1 ⟨rfl, rfl⟩))
      go_ret
      refine ⟨ret_bool (eq_of_iff ?_), (Below.refl _ _).alloc (Nat.le_refl _) _⟩
      rw [okE_4]
      refine ⟨fun hq => ?_, fun hq => ?_⟩ <;> (try simp only [withB_iff, true_and] at hq ⊢) <;> omega
    · have en : ((n : Int) == 2) = false := by rw [beq_eq_false_iff_ne]; exact hn
      go_enter Tryz.func72, Tryz.ntmps72
      go_wp2_with (first | (go_at_call 37; refine (upto_any _ _ _ _).mono ?_; rintro e w1 ⟨rfl, rfl⟩) | (go_at_call 74; refine (nummay_any _ _).mono ?_; rintro e w1 ⟨rfl, rfl⟩))
      go_ret
      refine ⟨ret_bool (eq_of_iff ?_), (Below.refl _ _).alloc (Nat.le_refl _) _⟩
      rw [okE_4]
      refine ⟨fun hq => ?_, fun hq => ?_⟩ <;> (try simp only [Bool.false_eq_true, true_and] at hq ⊢) <;> omega
  · have eb : (b == 0) = false := by simpa using hb
    have eb2 : (b != 0) = true := by simpa using hb
    go_enter Tryz.func72, Tryz.ntmps72
    go_wp2_with (first | (go_at_call 37; refine (upto_any _ _ _ _).mono ?_; rintro e w1 ⟨rfl, rfl⟩) | (go_at_call 74; refine (nummay_any _ _).mono ?_; rintro e w1 ⟨rfl, rfl⟩))
    go_ret
    refine ⟨ret_bool (eq_of_iff ?_), (Below.refl _ _).alloc (Nat.le_refl _) _⟩
    rw [okE_4]
    refine ⟨fun hq => ?_, fun hq => ?_⟩ <;> (try simp only [Bool.false_eq_true] at hq ⊢) <;> omega
set_option maxHeartbeats 800000 in
theorem fits_5 (m b t : Int) (g : Option Addr) (n c : Nat) (w : World) (ht0 : -1 ≤ t) (ht8 : t ≤ 8) :
    Calls Tryz.prog 82 #[.agg #[.int .i64 5, .int .i64 m, .int .i64 b, .slice g n c], .int .i64 t] w fun e w' => e = .returned (.bool (okE 5 m b n t)) ∧ Below w.heap.size w w' := by
  cases hw : withB m 0 99 with
  | false =>
    go_enter Tryz.func82, Tryz.ntmps82
    go_wp2_with (first | (go_at_call 79; refine (within_any _ _ _ _).mono ?_; rintro e w1 ⟨rfl, rfl⟩) | (go_at_call 63; refine (prim_any _ _).mono ?_; rintro e w1 ⟨rfl, rfl⟩))
    go_ret
    refine ⟨ret_bool (eq_of_iff ?_), (Below.refl _ _).alloc (Nat.le_refl _) _⟩
    have q := withB_not.1 hw
    rw [okE_5]
    refine ⟨fun hq => ?_, fun hq => ?_⟩ <;> (try simp only [Bool.false_eq_true] at hq ⊢) <;> omega
  | true =>
    cases hv : withB b 0 3 with
    | false =>
      go_enter Tryz.func82, Tryz.ntmps82
      go_wp2_with (first | (go_at_call 79; refine (within_any _ _ _ _).mono ?_; rintro e w1 ⟨rfl, rfl⟩) | (go_at_call 63; refine (prim_any _ _).mono ?_; rintro e w1 ⟨rfl, rfl⟩))
      go_ret
      refine ⟨ret_bool (eq_of_iff ?_), (Below.refl _ _).alloc (Nat.le_refl _) _⟩
      have q := withB_not.1 hv
      rw [okE_5]
      refine ⟨fun hq => ?_, fun hq => ?_⟩ <;> (try simp only [Bool.false_eq_true] at hq ⊢) <;> omega
    | true =>
      go_enter Tryz.func82, Tryz.ntmps82
      go_wp2_with (first | (go_at_call 79; refine (within_any _ _ _ _).mono ?_; rintro e w1 ⟨rfl, rfl⟩) | (go_at_call 63; refine (prim_any _ _).mono ?_; rintro e w1 ⟨rfl, rfl⟩))
      go_ret
      refine ⟨ret_bool (eq_of_iff ?_), (Below.refl _ _).alloc (Nat.le_refl _) _⟩
      have q := withB_iff.1 hw
      have q2 := withB_iff.1 hv
      rw [okE_5]
      refine ⟨fun hq => ?_, fun hq => ?_⟩ <;> (try simp only [beq_iff_eq] at hq ⊢) <;> omega
set_option maxHeartbeats 800000 in
theorem kinds_5 (m b t : Int) (g : Option Addr) (n c : Nat) (w : World) (ht0 : -1 ≤ t) (ht8 : t ≤ 8) :
    Calls Tryz.prog 72 #[.agg #[.int .i64 5, .int .i64 m, .int .i64 b, .slice g n c], .int .i64 t] w fun e w' => e = .returned (.bool (okE 5 m b n t)) ∧ Below w.heap.size w w' := by
  by_cases hn : (n : Int) = 3
  · have en : ((n : Int) == 3) = true := by rw [hn]; rfl
    cases hw : withB m 0 99 with
    | false =>
      go_enter Tryz.func72, Tryz.ntmps72
      go_wp2_with (first | (go_at_call 37; refine (upto_any _ _ _ _).mono ?_; rintro e w1 ⟨rfl, rfl⟩) | (go_at_call 74; refine (nummay_any _ _).mono ?_; rintro e w1 ⟨rfl, rfl⟩))
      go_ret
      refine ⟨ret_bool (eq_of_iff ?_), (Below.refl _ _).alloc (Nat.le_refl _) _⟩
      have q := withB_not.1 hw
      rw [okE_5]
      refine ⟨fun hq => ?_, fun hq => ?_⟩ <;> (try simp only [Bool.false_eq_true] at hq ⊢) <;> omega
    | true =>
      go_enter Tryz.func72, Tryz.ntmps72
      go_wp2_with (first | (go_at_call 37; refine (upto_any _ _ _ _).mono ?_; rintro e w1 ⟨rfl, rfl⟩) | (go_at_call 74; refine (nummay_any _ _).mono ?_; rintro e w1 ⟨rfl, rfl⟩))
      go_ret
      refine ⟨ret_bool (eq_of_iff ?_), (Below.refl _ _).alloc (Nat.le_refl _) _⟩
      have q := withB_iff.1 hw
      rw [okE_5]
      refine ⟨fun hq => ?_, fun hq => ?_⟩ <;> (try simp only [withB_iff] at hq ⊢) <;> omega
  · have en : ((n : Int) == 3) = false := by rw [beq_eq_false_iff_ne]; exact hn
    go_enter Tryz.func72, Tryz.ntmps72
    go_wp2_with (first | (go_at_call 37; refine (upto_any _ _ _ _).mono ?_; rintro e w1 ⟨rfl, rfl⟩) | (go_at_call 74; refine (nummay_any _ _).mono ?_; rintro e w1 ⟨rfl, rfl⟩))
    go_ret
    refine ⟨ret_bool (eq_of_iff ?_), (Below.refl _ _).alloc (Nat.le_refl _) _⟩
    rw [okE_5]
    refine ⟨fun hq => ?_, fun hq => ?_⟩ <;> (try simp only [Bool.false_eq_true] at hq ⊢) <;> omega
set_option maxHeartbeats 800000 in
theorem fits_6 (m b t : Int) (g : Option Addr) (n c : Nat) (w : World) (ht0 : -1 ≤ t) (ht8 : t ≤ 8) :
    Calls Tryz.prog 82 #[.agg #[.int .i64 6, .int .i64 m, .int .i64 b, .slice g n c], .int .i64 t] w fun e w' => e = .returned (.bool (okE 6 m b n t)) ∧ Below w.heap.size w w' := by
  by_cases hb : b = 0
  · subst hb
    by_cases hm : m = 0
    · subst hm
      go_enter Tryz.func82, Tryz.ntmps82
      go_wp2
      go_ret
      refine ⟨ret_bool (eq_of_iff ?_), (Below.refl _ _).alloc (Nat.le_refl _) _⟩
      rw [okE_6]
      refine ⟨fun hq => ?_, fun hq => ?_⟩ <;> (try simp only [beq_iff_eq, true_and] at hq ⊢) <;> omega
    · have em : (m == 0) = false := by simpa using hm
      go_enter Tryz.func82, Tryz.ntmps82
      go_wp2
      go_ret
      refine ⟨ret_bool (eq_of_iff ?_), (Below.refl _ _).alloc (Nat.le_refl _) _⟩
      rw [okE_6]
      refine ⟨fun hq => ?_, fun hq => ?_⟩ <;> (try simp only [Bool.false_eq_true, true_and] at hq ⊢) <;> omega
  · have eb : (b == 0) = false := by simpa using hb
    have eb2 : (b != 0) = true := by simpa using hb
    go_enter Tryz.func82, Tryz.ntmps82
    go_wp2_with (first | (go_at_call 79; refine (within_any _ _ _ _).mono ?_; rintro e w1 ⟨rfl, rfl⟩) | (go_at_call 63; refine (prim_any _ _).mono ?_; rintro e w1 ⟨rfl, rfl⟩))
    go_ret
    refine ⟨ret_bool (eq_of_iff ?_), (Below.refl _ _).alloc (Nat.le_refl _) _⟩
    rw [okE_6]
    refine ⟨fun hq => ?_, fun hq => ?_⟩ <;> (try simp only [Bool.false_eq_true] at hq ⊢) <;> omega
set_option maxHeartbeats 800000 in
theorem kinds_6 (m b t : Int) (g : Option Addr) (n c : Nat) (w : World) (ht0 : -1 ≤ t) (ht8 : t ≤ 8) :
    Calls Tryz.prog 72 #[.agg #[.int .i64 6, .int .i64 m, .int .i64 b, .slice g n c], .int .i64 t] w fun e w' => e = .returned (.bool (okE 6 m b n t)) ∧ Below w.heap.size w w' := by
  by_cases hb : b = 0
  · subst hb
    by_cases hn : (n : Int) = 2
    · have en : ((n : Int) == 2) = true := by rw [hn]; rfl
      go_enter Tryz.func72, Tryz.ntmps72
      go_wp2
      go_ret
      refine ⟨ret_bool (eq_of_iff ?_), (Below.refl _ _).alloc (Nat.le_refl _) _⟩
      rw [okE_6]
      refine ⟨fun hq => ?_, fun hq => ?_⟩ <;> (try simp only [beq_iff_eq, true_and] at hq ⊢) <;> omega
    · have en : ((n : Int) == 2) = false := by rw [beq_eq_false_iff_ne]; exact hn
      go_enter Tryz.func72, Tryz.ntmps72
      go_wp2
      go_ret
      refine ⟨ret_bool (eq_of_iff ?_), (Below.refl _ _).alloc (Nat.le_refl _) _⟩
      rw [okE_6]
      refine ⟨fun hq => ?_, fun hq => ?_⟩ <;> (try simp only [Bool.false_eq_true, true_and] at hq ⊢) <;> omega
  · have eb : (b == 0) = false := by simpa using hb
    have eb2 : (b != 0) = true := by simpa using hb
    go_enter Tryz.func72, Tryz.ntmps72
    go_wp2
    go_ret
    refine ⟨ret_bool (eq_of_iff ?_), (Below.refl _ _).alloc (Nat.le_refl _) _⟩
    rw [okE_6]
    refine ⟨fun hq => ?_, fun hq => ?_⟩ <;> (try simp only [Bool.false_eq_true] at hq ⊢) <;> omega
set_option maxHeartbeats 800000 in
theorem fits_7 (m b t : Int) (g : Option Addr) (n c : Nat) (w : World) (ht0 : -1 ≤ t) (ht8 : t ≤ 8) :
    Calls Tryz.prog 82 #[.agg #[.int .i64 7, .int .i64 m, .int .i64 b, .slice g n c], .int .i64 t] w fun e w' => e = .returned (.bool (okE 7 m b n t)) ∧ Below w.heap.size w w' := by
  by_cases hb : b = 0
  · subst hb
    by_cases hm : m = 0
    · subst hm
      go_enter Tryz.func82, Tryz.ntmps82
      go_wp2
      go_ret
      refine ⟨ret_bool (eq_of_iff ?_), (Below.refl _ _).alloc (Nat.le_refl _) _⟩
      rw [okE_7]
      refine ⟨fun hq => ?_, fun hq => ?_⟩ <;> (try simp only [beq_iff_eq, true_and] at hq ⊢) <;> omega
    · have em : (m == 0) = false := by simpa using hm
      go_enter Tryz.func82, Tryz.ntmps82
      go_wp2
      go_ret
      refine ⟨ret_bool (eq_of_iff ?_), (Below.refl _ _).alloc (Nat.le_refl _) _⟩
      rw [okE_7]
      refine ⟨fun hq => ?_, fun hq => ?_⟩ <;> (try simp only [Bool.false_eq_true, true_and] at hq ⊢) <;> omega
  · have eb : (b == 0) = false := by simpa using hb
    have eb2 : (b != 0) = true := by simpa using hb
    go_enter Tryz.func82, Tryz.ntmps82
    go_wp2_with (first | (go_at_call 79; refine (within_any _ _ _ _).mono ?_; rintro e w1 ⟨rfl, rfl⟩) | (go_at_call 63; refine (prim_any _ _).mono ?_; rintro e w1 ⟨rfl, rfl⟩))
    go_ret
    refine ⟨ret_bool (eq_of_iff ?_), (Below.refl _ _).alloc (Nat.le_refl _) _⟩
    rw [okE_7]
    refine ⟨fun hq => ?_, fun hq => ?_⟩ <;> (try simp only [Bool.false_eq_true] at hq ⊢) <;> omega
set_option maxHeartbeats 800000 in
theorem kinds_7 (m b t : Int) (g : Option Addr) (n c : Nat) (w : World) (ht0 : -1 ≤ t) (ht8 : t ≤ 8) :
    Calls Tryz.prog 72 #[.agg #[.int .i64 7, .int .i64 m, .int .i64 b, .slice g n c], .int .i64 t] w fun e w' => e = .returned (.bool (okE 7 m b n t)) ∧ Below w.heap.size w w' := by
  by_cases hb : b = 0
  · subst hb
    by_cases hn : (n : Int) = 0
    · have en : ((n : Int) == 0) = true := by rw [hn]; rfl
      go_enter Tryz.func72, Tryz.ntmps72
      go_wp2
      go_ret
      refine ⟨ret_bool (eq_of_iff ?_), (Below.refl _ _).alloc (Nat.le_refl _) _⟩
      rw [okE_7]
      refine ⟨fun hq => ?_, fun hq => ?_⟩ <;> (try simp only [beq_iff_eq, true_and] at hq ⊢) <;> omega
    · have en : ((n : Int) == 0) = false := by rw [beq_eq_false_iff_ne]; exact hn
      go_enter Tryz.func72, Tryz.ntmps72
      go_wp2
      go_ret
      refine ⟨ret_bool (eq_of_iff ?_), (Below.refl _ _).alloc (Nat.le_refl _) _⟩
      rw [okE_7]
      refine ⟨fun hq => ?_, fun hq => ?_⟩ <;> (try simp only [Bool.false_eq_true, true_and] at hq ⊢) <;> omega
  · have eb : (b == 0) = false := by simpa using hb
    have eb2 : (b != 0) = true := by simpa using hb
    go_enter Tryz.func72, Tryz.ntmps72
    go_wp2
    go_ret
    refine ⟨ret_bool (eq_of_iff ?_), (Below.refl _ _).alloc (Nat.le_refl _) _⟩
    rw [okE_7]
    refine ⟨fun hq => ?_, fun hq => ?_⟩ <;> (try simp only [Bool.false_eq_true] at hq ⊢) <;> omega
set_option maxHeartbeats 1600000 in
theorem fits_else (k m b t : Int) (g : Option Addr) (n c : Nat) (w : World) (h : ¬ (0 ≤ k ∧ k ≤ 7)) :
    Calls Tryz.prog 82 #[.agg #[.int .i64 k, .int .i64 m, .int .i64 b, .slice g n c], .int .i64 t] w fun e w' => e = .returned (.bool (okE k m b n t)) ∧ Below w.heap.size w w' := by
  have ho := okE_else k m b n t h
  rw [ho]
  clear ho
  have e0 : (k == 0) = false := by rw [beq_eq_false_iff_ne]; omega
  have e1 : (k == 1) = false := by rw [beq_eq_false_iff_ne]; omega
  have e2 : (k == 2) = false := by rw [beq_eq_false_iff_ne]; omega
  have e3 : (k == 3) = false := by rw [beq_eq_false_iff_ne]; omega
  have e4 : (k == 4) = false := by rw [beq_eq_false_iff_ne]; omega
  have e5 : (k == 5) = false := by rw [beq_eq_false_iff_ne]; omega
  have e6 : (k == 6) = false := by rw [beq_eq_false_iff_ne]; omega
  have e7 : (k == 7) = false := by rw [beq_eq_false_iff_ne]; omega
  have e9 : (k != 5) = true := by rw [bne_iff_ne]; omega
  clear h
  by_cases hb : b = 0
  · subst hb
    go_enter Tryz.func82, Tryz.ntmps82
    go_wp2
    go_ret
    exact ⟨rfl, (Below.refl _ _).alloc (Nat.le_refl _) _⟩
  · have eb : (b == 0) = false := by simpa using hb
    have eb2 : (b != 0) = true := by simpa using hb
    go_enter Tryz.func82, Tryz.ntmps82
    go_wp2
    go_ret
    exact ⟨rfl, (Below.refl _ _).alloc (Nat.le_refl _) _⟩
theorem fits_any (k m b t : Int) (g : Option Addr) (n c : Nat) (w : World) (ht0 : -1 ≤ t) (ht8 : t ≤ 8) :
    Calls Tryz.prog 82 #[.agg #[.int .i64 k, .int .i64 m, .int .i64 b, .slice g n c], .int .i64 t] w fun e w' => e = .returned (.bool (okE k m b n t)) ∧ Below w.heap.size w w' := by
  by_cases h : 0 ≤ k ∧ k ≤ 7
  · have hk : k = 0 ∨ k = 1 ∨ k = 2 ∨ k = 3 ∨ k = 4 ∨ k = 5 ∨ k = 6 ∨ k = 7 := by omega
    rcases hk with rfl | rfl | rfl | rfl | rfl | rfl | rfl | rfl
    · exact fits_0 m b t g n c w ht0 ht8
    · exact fits_1 m b t g n c w ht0 ht8
    · exact fits_2 m b t g n c w ht0 ht8
    · exact fits_3 m b t g n c w ht0 ht8
    · exact fits_4 m b t g n c w ht0 ht8
    · exact fits_5 m b t g n c w ht0 ht8
    · exact fits_6 m b t g n c w ht0 ht8
    · exact fits_7 m b t g n c w ht0 ht8
  · exact fits_else k m b t g n c w h
set_option maxHeartbeats 1600000 in
theorem kinds_else (k m b t : Int) (g : Option Addr) (n c : Nat) (w : World) (h : ¬ (0 ≤ k ∧ k ≤ 7)) :
    Calls Tryz.prog 72 #[.agg #[.int .i64 k, .int .i64 m, .int .i64 b, .slice g n c], .int .i64 t] w fun e w' => e = .returned (.bool (okE k m b n t)) ∧ Below w.heap.size w w' := by
  have ho := okE_else k m b n t h
  rw [ho]
  clear ho
  have e0 : (k == 0) = false := by rw [beq_eq_false_iff_ne]; omega
  have e1 : (k == 1) = false := by rw [beq_eq_false_iff_ne]; omega
  have e2 : (k == 2) = false := by rw [beq_eq_false_iff_ne]; omega
  have e3 : (k == 3) = false := by rw [beq_eq_false_iff_ne]; omega
  have e4 : (k == 4) = false := by rw [beq_eq_false_iff_ne]; omega
  have e5 : (k == 5) = false := by rw [beq_eq_false_iff_ne]; omega
  have e6 : (k == 6) = false := by rw [beq_eq_false_iff_ne]; omega
  have e7 : (k == 7) = false := by rw [beq_eq_false_iff_ne]; omega
  have e9 : (k != 5) = true := by rw [bne_iff_ne]; omega
  clear h
  by_cases hb : b = 0
  · subst hb
    go_enter Tryz.func72, Tryz.ntmps72
    go_wp2
    go_ret
    exact ⟨rfl, (Below.refl _ _).alloc (Nat.le_refl _) _⟩
  · have eb : (b == 0) = false := by simpa using hb
    have eb2 : (b != 0) = true := by simpa using hb
    go_enter Tryz.func72, Tryz.ntmps72
    go_wp2
    go_ret
    exact ⟨rfl, (Below.refl _ _).alloc (Nat.le_refl _) _⟩
theorem kinds_any (k m b t : Int) (g : Option Addr) (n c : Nat) (w : World) (ht0 : -1 ≤ t) (ht8 : t ≤ 8) :
    Calls Tryz.prog 72 #[.agg #[.int .i64 k, .int .i64 m, .int .i64 b, .slice g n c], .int .i64 t] w fun e w' => e = .returned (.bool (okE k m b n t)) ∧ Below w.heap.size w w' := by
  by_cases h : 0 ≤ k ∧ k ≤ 7
  · have hk : k = 0 ∨ k = 1 ∨ k = 2 ∨ k = 3 ∨ k = 4 ∨ k = 5 ∨ k = 6 ∨ k = 7 := by omega
    rcases hk with rfl | rfl | rfl | rfl | rfl | rfl | rfl | rfl
    · exact kinds_0 m b t g n c w ht0 ht8
    · exact kinds_1 m b t g n c w ht0 ht8
    · exact kinds_2 m b t g n c w ht0 ht8
    · exact kinds_3 m b t g n c w ht0 ht8
    · exact kinds_4 m b t g n c w ht0 ht8
    · exact kinds_5 m b t g n c w ht0 ht8
    · exact kinds_6 m b t g n c w ht0 ht8
    · exact kinds_7 m b t g n c w ht0 ht8
  · exact kinds_else k m b t g n c w h
end Go.Proofs.YtjamknejllbmkaaGreatDoor

namespace Go.Proofs.YtjamknejllbmkaaGreatDoor
open Go.RowKit
set_option linter.unusedVariables false

set_option maxHeartbeats 800000 in
theorem mul64_any (n : Nat) (hn : n ≤ 24) (w : World) :
    Calls Tryz.prog 69 #[.int .u64 1, .int .u64 n] w fun e w' => e = .returned (.tuple #[.int .u64 0, .int .u64 n]) ∧ w = w' := by
  have h1 : bits .and .u64 1 4294967295 = 1 := by decide
  have h0 : bits .and .u64 0 4294967295 = 0 := by decide
  have h2 : bits .and .u64 (n : Int) 4294967295 = n := by
    rw [Mul64.maskN n (by omega)]; congr 1; omega
  have h3 : (n : Int) / 4294967296 = 0 := by omega
  have h4 : IntKind.u64.wrap (n : Int) = n := by rw [IntKind.wrap_u64]; omega
  go_enter Tryz.func69, Tryz.ntmps69
  go_wp2
  go_ret2
  exact ⟨rfl, rfl⟩
set_option maxHeartbeats 800000 in
theorem mul_any (n : Nat) (hn : n ≤ 24) (w : World) :
    Calls Tryz.prog 48 #[.int .u64 1, .int .u64 n] w fun e w' => e = .returned (.tuple #[.int .u64 0, .int .u64 n]) ∧ w = w' := by
  go_enter Tryz.func48, Tryz.ntmps48
  go_wp2_with (go_at_call 69; refine (mul64_any n hn _).mono ?_; rintro e w' ⟨rfl, rfl⟩)
  go_ret2
  exact ⟨rfl, rfl⟩

theorem Tryz.info3 : (Tryz.prog.info? 3).map (fun i => (i.zero, i.size, i.bytes)) = some (some (.int .i64 0), 1, 8) := by kernel_rfl
theorem size3 : (Tryz.prog.info? 3).map (·.size) = some 1 := by kernel_rfl
/-- m numbers -1, the rest of n zeros. -/
def half (m n : Nat) : List Int := List.replicate m (-1) ++ List.replicate (n - m) 0
theorem half_len {m n : Nat} (h : m ≤ n) : (half m n).length = n := by simp [half]; omega
theorem made_half (n : Nat) : (madeCells #[Value.int .i64 0] n) = ((half 0 n).map (Value.int .i64)).toArray := by
  apply Array.ext
  · simp [size_madeCells, half]
  · intro i h1 h2
    simp [madeCells, half, Nat.mod_one]
def mone (q : Nat) : List Value := List.replicate q (.int .i64 (-1))
theorem mone_len (q : Nat) : (mone q).length = q := by simp [mone]
theorem splice_half {m n q : Nat} (h : m + q ≤ n) : splice ((half m n).map (Value.int .i64)) m (mone q) = (half (m + q) n).map (Value.int .i64) := by
  have e1 : List.take m ((half m n).map (Value.int .i64)) = List.replicate m (.int .i64 (-1)) := by
    simp [half]
  have e2 : List.drop (m + q) ((half m n).map (Value.int .i64)) = List.replicate (n - (m + q)) (.int .i64 0) := by
    unfold half
    rw [List.map_append, List.map_replicate, List.map_replicate, List.drop_append, List.drop_replicate, List.drop_replicate, List.length_replicate, show m - (m + q) = 0 by omega, show n - m - (m + q - m) = n - (m + q) by omega]
    rfl
  unfold splice
  rw [mone_len, e1, e2]
  simp [mone, half, List.replicate_append_replicate, ← List.append_assoc]
theorem mone_one (q : Nat) : ∀ v ∈ mone q, v.oneCell' = true := by
  intro v hv
  rw [List.eq_of_mem_replicate hv]; rfl
theorem mone_at {q j : Nat} {v : Value} (h : (mone q)[j]? = some v) : j < q ∧ v = .int .i64 (-1) := by
  have hj := (List.getElem?_eq_some_iff.1 h).1
  rw [mone_len] at hj
  exact ⟨hj, by rw [mone, List.getElem?_replicate, if_pos hj] at h; exact (Option.some.inj h).symm⟩
theorem half_at {m n j : Nat} (h : j < m) : (half m n)[j]? = some (-1) := by
  unfold half
  rw [List.getElem?_append_left (by simpa using h), List.getElem?_replicate, if_pos h]

set_option maxHeartbeats 1600000 in
set_option maxRecDepth 100000 in
theorem repeat_any (bx cx n : Nat) (w : World) (hx : w.cell? ⟨bx, 0, none⟩ = some (.int .i64 (-1))) (h1 : 1 ≤ n) (hn : n ≤ 24) :
    Calls Tryz.prog 80 #[.slice (some ⟨bx, 0, none⟩) 1 cx, .int .i64 n] w fun e w' => e = .returned (.slice (some ⟨w.heap.size, 0, none⟩) n n) ∧ Lv w' w.heap.size (List.replicate n (-1)) ∧ Below w.heap.size w w' := by
  have hmk := fun W => run_make_row' (P := Tryz.prog) 53 3 (.int .i64 0) 8 Tryz.underlying53 Tryz.info3 rfl .i64 .i64 n (by omega) (by omega) W
  rw [made_half] at hmk
  have hbx := World.block_lt_of_cell? w _ hx
  have hbx' : bx < w.heap.size := hbx
  have u1 : IntKind.u64.wrap (n : Int) = n := by rw [IntKind.wrap_u64]; omega
  have hgt : ¬ ((9223372036854775807 : Int) < (n : Int)) := by omega
  go_enter Tryz.func80, Tryz.ntmps80
  go_wp2_with (first | (go_at_call 48; refine (mul_any n hn _).mono ?_; rintro e w' ⟨rfl, rfl⟩) | ((refine wpList_copy_splice (by rfl) _ _ 53 53 (by rfl) 3 Tryz.underlying53 size3 (some ⟨w.heap.size, 0, none⟩) (some ⟨bx, 0, none⟩) n n 1 cx (by rfl) (by rfl) w.heap.size 0 ((half 0 n).map (Value.int .i64)) 3 ?cp0 (mone 1) ?cp1 ?cp2 ?cp3 (mone_one 1) w.heap.size w ?cp4 (Nat.le_refl _) ?_)))
  case cp0 => exact Lv.new w (half 0 n)
  case cp1 => rw [mone_len]; exact (Nat.min_eq_left h1).symm
  case cp2 =>
    intro _ j v hj
    obtain ⟨h1, rfl⟩ := mone_at hj
    obtain rfl : j = 0 := by omega
    exact hx
  case cp3 => rw [mone_len, List.length_map, half_len (Nat.zero_le _)]; omega
  case cp4 => exact (Below.refl _ _).alloc (Nat.le_refl _) _
  intro w1 HG1 hB1
  have HL1 : Hid (Lv w1 w.heap.size (half 1 n)) := by
    have h := HG1.out
    rw [splice_half (m := 0) (q := 1) (by omega)] at h
    exact h
  clear HG1 hmk
  go_wp2_with fail
  go_loopw [8] (fun s8 wr => ∃ m : Nat, 1 ≤ m ∧ m ≤ n ∧ s8 = .int .i64 (m : Int) ∧ Hid (Lv wr w.heap.size (half m n)) ∧ Below w.heap.size w wr)
    (fun s8 _ => n - (intOf s8).toNat)
  case atStart => exact ⟨1, Nat.le_refl _, h1, by first | rfl | (rw [mone_len]; rfl), HL1, hB1⟩
  case round =>
    obtain ⟨m, hm1, hmn, rfl, HL, hB⟩ := hrel
    by_cases hlt : m < n
    · have hlt' : (m : Int) < (n : Int) := by omega
      have hne : ¬ n = m := by omega
      obtain ⟨q, hq⟩ : ∃ q, q = Nat.min m (n - m) := ⟨_, rfl⟩
      have hq' : q ≤ m ∧ q ≤ n - m ∧ 1 ≤ q := by
        rw [hq]
        exact ⟨Nat.min_le_left _ _, Nat.min_le_right _ _, Nat.le_min.2 ⟨hm1, by omega⟩⟩
      have HQ : Hid ((mone q).length = Nat.min m (n - m)) := by rw [mone_len]; exact hq
      have HP : Hid (∀ j v, (mone q)[j]? = some v → wr.drew.cell? ((⟨w.heap.size, 0, none⟩ : Addr).add j) = some v) := by
        intro j v hj
        obtain ⟨hjq, rfl⟩ := mone_at hj
        rw [Addr.add_lit, Nat.zero_add]
        exact HL.out.cell (half_at (by omega))
      have HF : Hid (m + (mone q).length ≤ ((half m n).map (Value.int .i64)).length) := by
        show _ ≤ _
        rw [mone_len, List.length_map, half_len (by omega)]; omega
      have hwr : IntKind.i64.wrap ((m : Int) + ((mone q).length : Int)) = ((m + q : Nat) : Int) := by
        rw [mone_len, IntKind.wrap_i64]; omega
      clear hq
      go_wp2_with fail
      go_region_law (refine step_copy_splice (by rfl) (.tmp 41) (.tmp 44) 53 53 (by rfl) 3 Tryz.underlying53 size3 (some ⟨w.heap.size, m, none⟩) (some ⟨w.heap.size, 0, none⟩) (n - m) (n - m) m n (by simp [Act.eval, Act.put]) (by simp [Act.eval, Act.put]) w.heap.size m ((half m n).map (Value.int .i64)) 3 HL.out (mone q) HQ.out (fun _ => ⟨rfl, _, rfl, HP.out⟩) HF.out (mone_one q) w.heap.size w hB.drew (Nat.le_refl _) ?_; intro w2 HG2 hB2)
      have HL2 : Hid (Lv w2 w.heap.size (half (m + q) n)) := by
        have h := HG2.out
        rw [splice_half (m := m) (q := q) (by omega)] at h
        exact h
      clear HG2 HP HF HQ HL
      go_wp2_with fail
      go_roundw
      case rel => first | exact ⟨m + q, by omega, by omega, by first | go_num | (rw [mone_len]; go_num), HL2, hB2⟩ | ((repeat apply Exists.intro); exact ⟨⟨m + q, by omega, by omega, rfl, HL2, hB2⟩, rfl⟩)
      case measure =>
        show n - (intOf (.int .i64 ((m : Int) + (q : Int)))).toNat < n - (intOf (.int .i64 (m : Int))).toNat
        simp only [intOf]; omega
    · have hlt' : ¬ (m : Int) < (n : Int) := by omega
      obtain rfl : m = n := by omega
      go_wp2_with fail
      go_ret
      refine ⟨rfl, ?_, hB⟩
      have h := HL.out
      unfold half at h
      rw [Nat.sub_self, List.replicate_zero, List.append_nil] at h
      exact h
end Go.Proofs.YtjamknejllbmkaaGreatDoor

namespace Go.Proofs.YtjamknejllbmkaaGreatDoor
open Go.RowKit
set_option linter.unusedVariables false

theorem hd_nil {n : Nat} {e : Ex} {t : Int} {i : Nat} {L : List Int} : hd n e t i [] L = some L := rfl
theorem hd_no {n : Nat} {e : Ex} {t : Int} {i : Nat} {k : Int} {ks L : List Int} (h : withB k 0 ((n : Int) - 1) = false) : hd n e t i (k :: ks) L = none := by
  rw [hd, if_neg]
  intro hc
  exact withB_not.1 h ⟨hc.1, hc.2.1⟩
theorem hd_taken {n : Nat} {e : Ex} {t : Int} {i : Nat} {k : Int} {ks L : List Int} {v : Int} (h : L[k.toNat]? = some v) (hv : v ≠ -1) : hd n e t i (k :: ks) L = none := by
  rw [hd, if_neg]
  intro hc
  rw [h] at hc
  exact hv (Option.some.inj hc.2.2)
theorem hd_far {n : Nat} {e : Ex} {t : Int} {i : Nat} {k : Int} {ks L : List Int} (h8 : t + e.bd i > 8) : hd n e t i (k :: ks) L = none := by
  rw [hd]
  split
  · first | rfl | rw [if_pos h8]
  · rfl
theorem hd_on {n : Nat} {e : Ex} {t : Int} {i : Nat} {k : Int} {ks L : List Int} (h : withB k 0 ((n : Int) - 1) = true) (hv : L[k.toNat]? = some (-1)) (h8 : ¬ t + e.bd i > 8) : hd n e t i (k :: ks) L = hd n e t (i + 1) ks (L.set k.toNat (t + e.bd i)) := by
  have hw := withB_iff.1 h
  rw [hd, if_pos ⟨hw.1, hw.2, hv⟩, if_neg h8]

set_option maxHeartbeats 1600000 in
set_option maxRecDepth 100000 in
theorem hand_any (e : Ex) (g : Option Addr) (c : Nat) (t : Int) (b n cap : Nat) (L : List Int) (w0 w : World) (hL : Lv w b L) (hn : n ≤ L.length) (hn24 : n ≤ 24) (hk : Nums w0 g e.kids) (hb : Below w0.heap.size w0 w) (hlb : w0.heap.size ≤ b)
    (ht0 : 0 ≤ t) (ht8 : t ≤ 8) (hbd : ∀ i, 0 ≤ e.bd i ∧ e.bd i ≤ 3) (hkl : e.kids.length ≤ 3) :
    Calls Tryz.prog 83 #[eV e g c, .int .i64 t, .slice (some ⟨b, 0, none⟩) n cap] w fun x w' => x = .returned (.bool (hd n e t 0 e.kids L).isSome) ∧ w.grownBy w' (some b) ∧ ∀ L', hd n e t 0 e.kids L = some L' → Lv w' b L' := by
  obtain ⟨R, hR⟩ : ∃ R, hd n e t 0 e.kids L = R := ⟨_, rfl⟩
  rw [hR]
  have hbw := hL.lt
  have HB : Hid (∀ i : Int, 0 ≤ e.bd i ∧ e.bd i ≤ 3) := hbd
  have HLB : Hid (w0.heap.size ≤ b) := hlb
  have HBW : Hid (Below w0.heap.size w0 w) := hb
  have HHL : Hid (Lv w b L) := hL
  clear hbd hlb hb hL
  obtain ⟨kd, nm, bd, kids⟩ := e
  have fin : ∀ {W' : World}, (w.alloc (.cells #[.int .i64 kd, .int .i64 nm, .int .i64 bd, .slice g kids.length c] 55)).grownBy W' (some b) → w.grownBy W' (some b) := fun h => (World.grownBy_alloc w _ (some b)).trans h
  have FIN : Hid _ := @fin
  clear fin
  go_enter Tryz.func83, Tryz.ntmps83
  go_wp2_with fail
  go_loopw [7, 8, 12] (fun _ _ s12 wr => ∃ (j : Nat) (L1 : List Int), j ≤ kids.length ∧ s12 = .int .i64 (j : Int) ∧ Hid (Lv wr b L1) ∧ Hid (hd n ⟨kd, nm, bd, kids⟩ t j (kids.drop j) L1 = R) ∧ L1.length = L.length ∧
      Hid ((w.alloc (.cells #[.int .i64 kd, .int .i64 nm, .int .i64 bd, .slice g kids.length c] 55)).grownBy wr (some b)))
    (fun _ _ s12 _ => kids.length - (intOf s12).toNat)
  case atStart =>
    exact ⟨0, L, Nat.zero_le _, rfl, HHL.out.alloc _, hR, rfl, World.grownBy.refl _ _⟩
  case round =>
    obtain ⟨j, L1, hj, rfl, HL1, HR, hl1, HG⟩ := hrel
    have sz := HG.out.size
    rw [World.size_alloc] at sz
    by_cases hlt : j < kids.length
    · have hlt' : (j : Int) < (kids.length : Int) := by omega
      obtain ⟨bk, o, rfl, hbk, hcell0⟩ := hk.at hlt
      obtain ⟨k, hke⟩ : ∃ k, kids[j] = k := ⟨_, rfl⟩
      rw [hke] at hcell0
      have hd1 : kids.drop j = k :: kids.drop (j + 1) := by rw [List.drop_eq_getElem_cons hlt, hke]
      have HR1 : Hid (hd n ⟨kd, nm, bd, kids⟩ t j (k :: kids.drop (j + 1)) L1 = R) := by
        show _ = _
        rw [← hd1]; exact HR.out
      have hw0 := HBW.out.size
      have hcell : wr.cell? ⟨bk, o + j, none⟩ = some (.int .i64 k) := by
        have h1 : w.cell? ⟨bk, o + j, none⟩ = some (.int .i64 k) := (HBW.out.cell (p := ⟨bk, o + j, none⟩) hbk).trans hcell0
        refine HG.out.cell (a := ⟨bk, o + j, none⟩) ?_ ?_
        · rw [World.cell?_alloc_lt _ _ _ (by show bk < _; omega)]; exact h1
        · intro e; have := Option.some.inj e; have := HLB.out; simp at *; omega
      clear hcell0 hke hd1 HR hR
      cases hwi : withB k 0 ((n : Int) - 1) with
      | false =>
        have HN : Hid (R = none) := by
          show _ = _
          rw [← HR1.out]; exact hd_no hwi
        go_wp2_with (go_at_call 79; refine (within_any _ _ _ _).mono ?_; rintro e w1 ⟨rfl, rfl⟩)
        go_ret
        rw [HN.out]
        exact ⟨rfl, FIN.out HG.out, fun L' h => by cases h⟩
      | true =>
        have hwr := withB_iff.1 hwi
        obtain ⟨kn, rfl⟩ : ∃ kn : Nat, k = (kn : Int) := ⟨k.toNat, by omega⟩
        have hkn : kn < n := by omega
        have hkn' : (kn : Int) < (n : Int) := by omega
        obtain ⟨v, hv⟩ : ∃ v, L1[kn]? = some v := ⟨_, List.getElem?_eq_getElem (by omega)⟩
        have hcv := HL1.out.cell hv
        have hfz := HL1.out.frozen kn
        have HV : Hid (L1[kn]? = some v) := hv
        clear hv hwr
        by_cases h1 : v = -1
        · subst h1
          have hb1 := bound_any kd nm bd (j : Int) (some ⟨bk, o, none⟩) kids.length c wr
          have hbj := HB.out (j : Int)
          have hbe : Ex.bd ⟨kd, nm, bd, kids⟩ (j : Int) = bnd kd bd (j : Int) := rfl
          rw [hbe] at hbj
          obtain ⟨y, hy⟩ : ∃ y, bnd kd bd (j : Int) = y := ⟨_, rfl⟩
          rw [hy] at hb1 hbj
          have HY : Hid (Ex.bd ⟨kd, nm, bd, kids⟩ (j : Int) = y) := hbe.trans hy
          clear hbe hy
          have q0 : wr.cell? ⟨w.heap.size, 0, none⟩ = some (.int .i64 kd) := HG.out.cell (a := ⟨w.heap.size, 0, none⟩) (by simp) (by simp; omega)
          have q1 : wr.cell? ⟨w.heap.size, 1, none⟩ = some (.int .i64 nm) := HG.out.cell (a := ⟨w.heap.size, 1, none⟩) (by simp) (by simp; omega)
          have q2 : wr.cell? ⟨w.heap.size, 2, none⟩ = some (.int .i64 bd) := HG.out.cell (a := ⟨w.heap.size, 2, none⟩) (by simp) (by simp; omega)
          have q3 : wr.cell? ⟨w.heap.size, 3, none⟩ = some (.slice (some ⟨bk, o, none⟩) kids.length c) := HG.out.cell (a := ⟨w.heap.size, 3, none⟩) (by simp) (by simp; omega)
          by_cases h8 : t + y > 8
          · have HN : Hid (R = none) := by
              show _ = _
              rw [← HR1.out]; exact hd_far (by rw [HY.out]; exact h8)
            have h8' : (8 : Int) < t + y := h8
            go_wp2_with (first | (go_at_call 79; refine (within_any _ _ _ _).mono ?_; rintro e w1 ⟨rfl, rfl⟩) | (go_at_call 92; refine hb1.mono ?_; rintro e w2 ⟨rfl, hb2⟩; have c2 := (hb2.cell (p := ⟨b, kn, none⟩) (by show b < _; omega)).trans hcv; have f2 := (hb2.frozen (p := ⟨b, kn, none⟩) (by show b < _; omega)).trans hfz))
            go_ret
            rw [HN.out]
            exact ⟨rfl, (FIN.out HG.out).trans ((grown_of_below hb2 (some b)).trans (grown_set _ b kn _)), fun L' h => by cases h⟩
          · have HN : Hid (hd n ⟨kd, nm, bd, kids⟩ t (j + 1) (kids.drop (j + 1)) (L1.set kn (t + y)) = R) := by
              show _ = _
              rw [← HR1.out, hd_on hwi HV.out (by rw [HY.out]; exact h8), HY.out]; rfl
            have h8' : ¬ (8 : Int) < t + y := h8
            go_wp2_with (first | (go_at_call 79; refine (within_any _ _ _ _).mono ?_; rintro e w1 ⟨rfl, rfl⟩) | (go_at_call 92; refine hb1.mono ?_; rintro e w2 ⟨rfl, hb2⟩; have c2 := (hb2.cell (p := ⟨b, kn, none⟩) (by show b < _; omega)).trans hcv; have f2 := (hb2.frozen (p := ⟨b, kn, none⟩) (by show b < _; omega)).trans hfz))
            go_roundw
            case rel =>
              exact ⟨j + 1, L1.set kn (t + y), by omega, by go_num, (HL1.out.on hb2 (by omega)).set kn (t + y), HN, by rw [List.length_set]; exact hl1, HG.out.trans ((grown_of_below hb2 (some b)).trans (grown_set _ b kn _))⟩
            case measure => simp [intOf]; omega
        · have HN : Hid (R = none) := by
            show _ = _
            rw [← HR1.out]; exact hd_taken HV.out h1
          have e1 : (v == -1) = false := by simpa using h1
          have e2 : (v != -1) = true := by simpa using h1
          go_wp2_with (go_at_call 79; refine (within_any _ _ _ _).mono ?_; rintro e w1 ⟨rfl, rfl⟩)
          go_ret
          rw [HN.out]
          exact ⟨rfl, FIN.out HG.out, fun L' h => by cases h⟩
    · have hlt' : ¬ (j : Int) < (kids.length : Int) := by omega
      have HN : Hid (R = some L1) := by
        show _ = _
        rw [← HR.out, List.drop_eq_nil_of_le (by omega)]; rfl
      go_wp2_with fail
      go_ret
      rw [HN.out]
      exact ⟨rfl, FIN.out HG.out, fun L' h => by cases h; exact HL1.out⟩
end Go.Proofs.YtjamknejllbmkaaGreatDoor

namespace Go.Proofs.YtjamknejllbmkaaGreatDoor
open Go.RowKit Go.Shelf
set_option linter.unusedVariables false
attribute [local go_sem] Oper.semAt_some

/-- A part as it comes: its place, what it is, where its kids lie. -/
structure It where
  at_ : Nat
  e : Ex
  g : Option Addr
  c : Nat
/-- What comes: a place below n, kids that lay in w0. -/
abbrev Item (w0 : World) (n : Nat) := { x : It // x.at_ < n ∧ Nums w0 x.g x.e.kids }
def Item.pr {w0 : World} {n : Nat} (x : Item w0 n) : Nat × Ex := (x.1.at_, x.1.e)
abbrev Item.vals {w0 : World} {n : Nat} (x : Item w0 n) : Array Value := #[.int .i64 (x.1.at_ : Int), eV x.1.e x.1.g x.1.c]
/-- The parts that lie there, as they come. -/
structure Its (w0 : World) (bk o : Nat) (xs : List Ex) (its : List (Item w0 xs.length)) : Prop where
  len : its.length = xs.length
  lies : ∀ j (h : j < its.length), its[j].1.at_ = j ∧ xs[j]? = some its[j].1.e ∧ ExAt w0 bk (o + j * 4) its[j].1.e its[j].1.g its[j].1.c
theorem its_of {w0 : World} {bk o : Nat} {xs : List Ex} (h : ∀ (j : Nat) x, xs[j]? = some x → ∃ gk ck, ExAt w0 bk (o + j * 4) x gk ck) : ∃ its, Its w0 bk o xs its := by
  have h' : ∀ j : Fin xs.length, ∃ x : Item w0 xs.length, x.1.at_ = j.1 ∧ xs[j.1]? = some x.1.e ∧ ExAt w0 bk (o + j.1 * 4) x.1.e x.1.g x.1.c := fun j => by
    obtain ⟨gk, ck, he⟩ := h j.1 _ (List.getElem?_eq_getElem j.2)
    exact ⟨⟨⟨j.1, xs[j.1], gk, ck⟩, j.2, he.2.2.2.2⟩, rfl, List.getElem?_eq_getElem j.2, he⟩
  classical
  refine ⟨List.ofFn fun j => Classical.choose (h' j), by simp, fun j hj => ?_⟩
  have hj' : j < xs.length := by simpa using hj
  rw [List.getElem_ofFn]
  exact Classical.choose_spec (h' ⟨j, hj'⟩)
theorem its_backw {w0 : World} {bk o : Nat} {xs : List Ex} {its : List (Item w0 xs.length)} (h : Its w0 bk o xs its) : its.reverse.map Item.pr = backw xs := by
  unfold backw
  rw [List.map_reverse]
  congr 1
  apply List.ext_getElem
  · simp [h.len]
  · intro j h1 h2
    have hj : j < its.length := by simpa using h1
    obtain ⟨e1, e2, _⟩ := h.lies j hj
    have hx : j < xs.length := by rw [← h.len]; exact hj
    rw [List.getElem?_eq_getElem hx] at e2
    simp [Item.pr, e1, Option.some.inj e2]

/-- What a round that goes on keeps: all that lay below n₀, and the block Bs. -/
def Kb (n₀ Bs : Nat) (A B : World) : Prop := Below n₀ A B ∧ B.heap[Bs]? = A.heap[Bs]?
theorem Kb.refl (n₀ Bs : Nat) (A : World) : Kb n₀ Bs A A := ⟨Below.refl _ _, rfl⟩
theorem Kb.trans {n₀ Bs : Nat} {A B C : World} (h : Kb n₀ Bs A B) (k : Kb n₀ Bs B C) : Kb n₀ Bs A C := ⟨h.1.trans k.1, k.2.trans h.2⟩
theorem Kb.cell {n₀ Bs : Nat} {A B : World} (h : Kb n₀ Bs A B) (o : Nat) : B.cell? ⟨Bs, o, none⟩ = A.cell? ⟨Bs, o, none⟩ := World.cell?_of_block (a := ⟨Bs, o, none⟩) h.2

set_option maxRecDepth 100000 in
set_option maxHeartbeats 1600000 in
theorem back_in (n l Bs n₀ bk o cap : Nat) (w0 : World) (xs : List Ex) (its : List (Item w0 xs.length)) (hits : Its w0 bk o xs its) (hlen : xs.length ≤ 24) (hn : 1 ≤ n) (hbk : bk < w0.heap.size) (J Jx : List (Item w0 xs.length) → World → Prop)
    (hY : ∀ pre (x : Item w0 xs.length) W, J pre W → pre.length < xs.length → YieldAt Fence.wide (n - 1) Tryz.prog l x.vals W fun e W' =>
      (e = .returned (.bool true) ∧ J (pre ++ [x]) W' ∧ Kb n₀ Bs W W') ∨ (e = .returned (.bool false) ∧ Jx (pre ++ [x]) W'))
    (W : World) (hW : Below w0.heap.size w0 W) (hn₀ : w0.heap.size ≤ n₀) (hc : W.cell? ⟨Bs, 0, none⟩ = some (.slice (some ⟨bk, o, none⟩) xs.length cap)) (h0 : J [] W) :
    CallsIn Fence.wide n Tryz.prog 91 #[.func (.yield l) #[] #[], .pointer (some ⟨Bs, 0, none⟩)] W fun e W' => (∃ v, e = .returned v) ∧
      ((∃ ys : List (Item w0 xs.length), ys = its.reverse ∧ J ys W') ∨ (∃ pre, pre <+: its.reverse ∧ Jx pre W')) := by
  refine callsIn_of_wp Tryz.func91 rfl trivial ?_ rfl
  simp only [Tryz.ntmps91, List.size_toArray, List.length_cons, List.length_nil, Nat.reduceAdd, Nat.reduceSub, Array.replicate_succ, Array.replicate_zero, List.push_toArray, List.append_toArray, List.nil_append, List.cons_append]
  have hil := hits.len
  gi_wp2
  gi_loopw [3] (fun s3 wr => ∃ (k : Nat), k ≤ xs.length ∧ s3 = .int .i64 ((k : Int) - 1) ∧ Hid (J (its.drop k).reverse wr) ∧ Hid (Kb n₀ Bs W wr))
    (fun s3 _ => (intOf s3 + 1).toNat)
  case atStart =>
    refine ⟨xs.length, Nat.le_refl _, rfl, ?_, Kb.refl _ _ _⟩
    show J _ _
    rw [List.drop_eq_nil_of_le (by omega)]; exact h0
  case round =>
    obtain ⟨k, hk, rfl, HJ, HKW⟩ := hrel
    cases k with
    | zero =>
      gi_wp2
      go_end0
      exact ⟨⟨_, rfl⟩, .inl ⟨_, by rw [List.drop_zero], HJ.out⟩⟩
    | succ k =>
      have hki : k < its.length := by omega
      have e1 : ((k + 1 : Nat) : Int) - 1 = (k : Int) := by omega
      rw [e1]
      obtain ⟨x, hx⟩ : ∃ x, its[k] = x := ⟨_, rfl⟩
      obtain ⟨f1, f2, f3⟩ := hits.lies k hki
      rw [hx] at f1 f2 f3
      have f4 := f3.on hbk hW
      have hbk' : bk < n₀ := by omega
      have c0 := (HKW.out.1.cell (p := ⟨bk, o + k * 4, none⟩) hbk').trans f4.1
      have c1 := (HKW.out.1.cell (p := ⟨bk, o + k * 4 + 1, none⟩) hbk').trans f4.2.1
      have c2 := (HKW.out.1.cell (p := ⟨bk, o + k * 4 + 2, none⟩) hbk').trans f4.2.2.1
      have c3 := (HKW.out.1.cell (p := ⟨bk, o + k * 4 + 3, none⟩) hbk').trans f4.2.2.2.1
      have hcw := (HKW.out.cell 0).trans hc
      obtain ⟨fn, tmps, assign, body, hy, hR⟩ := hY _ x wr HJ.out (by simp; omega)
      have HD : Hid ((its.drop k).reverse = (its.drop (k + 1)).reverse ++ [x]) := by
        show _ = _
        rw [List.drop_eq_getElem_cons hki, List.reverse_cons, hx]
      have hkl : (k : Int) < (xs.length : Int) := by omega
      dsimp only [Item.vals] at hy
      rw [f1] at hy
      clear f1 f2 f3 f4 hx e1 HJ hc
      gi_wp2
      refine hR.mono ?_
      rintro e W3 (⟨rfl, hJ3, hk3⟩ | ⟨rfl, hJx3⟩)
      · have HJ3 : Hid _ := hJ3
        have HK3 : Hid _ := hk3
        clear hJ3 hk3 hR hy
        gi_wp2
        go_roundw
        case rel =>
          refine ⟨k, by omega, by go_num, ?_, HKW.out.trans HK3.out⟩
          show J _ _
          rw [HD.out]; exact HJ3.out
        case measure => simp [intOf]
      · gi_wp2
        refine bodyPost_ret (results_none rfl _ _ _) rfl ?_
        refine ⟨⟨_, rfl⟩, .inr ⟨_, ?_, hJx3⟩⟩
        rw [← HD.out]
        exact ⟨(its.take k).reverse, by rw [← List.reverse_append, List.take_append_drop]⟩

theorem back_stops (n Bs n₀ bk o cap : Nat) (w0 : World) (xs : List Ex) (its : List (Item w0 xs.length)) (hits : Its w0 bk o xs its) (hlen : xs.length ≤ 24) (hn : 1 ≤ n) (hbk : bk < w0.heap.size) (w : World) (hw : Below w0.heap.size w0 w) (hn₀ : w0.heap.size ≤ n₀) (hBs : Bs < w.heap.size)
    (hc : w.cell? ⟨Bs, 0, none⟩ = some (.slice (some ⟨bk, o, none⟩) xs.length cap)) :
    SeqStopsK Fence.wide n Tryz.prog 91 #[.pointer (some ⟨Bs, 0, none⟩)] (fun x : Item w0 xs.length => x.vals) (Kb n₀ Bs) (fun ys => ys = its.reverse) (fun pre => pre <+: its.reverse) xs.length w := fun l J Jx W hW _ _ hY h0 =>
  back_in n l Bs n₀ bk o cap w0 xs its hits hlen hn hbk J Jx hY W (hw.trans (hW.mono hw.size)) hn₀ ((hW.cell (p := ⟨Bs, 0, none⟩) hBs).trans hc) h0

set_option maxHeartbeats 400000 in
theorem backward_any (g : Option Addr) (n c : Nat) (w : World) :
    Calls Tryz.prog 81 #[.slice g n c] w fun e w' => e = .returned (.func (.func 91) #[] #[.pointer (some ⟨w.heap.size, 0, none⟩)]) ∧ w' = w.alloc (.cells #[.slice g n c] 56) := by
  go_enter Tryz.func81, Tryz.ntmps81
  go_wp2_with fail
  go_ret
  exact ⟨rfl, rfl⟩
end Go.Proofs.YtjamknejllbmkaaGreatDoor

namespace Go.Proofs.YtjamknejllbmkaaGreatDoor
open Go.RowKit
set_option linter.unusedVariables false

def noDefer (o : Oper) : Bool := match o.op with
  | .defer _ => false
  | _ => true
theorem noDefer_spec {o : Oper} (h : noDefer o = true) : ∀ c, o.op ≠ .defer c := by
  intro c hc
  unfold noDefer at h
  rw [hc] at h
  cases h

section
variable {P : Program} {ops : Array Oper} {Q : Exit → Act → World → Prop} {md : Region.Mode} {S : World → Prop}

theorem oper_round {l n : Nat} {o : Oper} {a : Act} {w : World} {K K' : Act → World → Prop} (hnd : noDefer o = true) (hLO : ¬ LetsOut Q) (hK : ∀ a w, K a w → K' a w)
    (h : o.wp P a w K Q) : o.wpIn (Fence.wide.inRound l) n P a w K' Q := by
  refine ⟨fun f _ => trivial, ?_⟩
  rw [Oper.semAt_plain _ _ _ (noDefer_spec hnd)]
  unfold Oper.wp at h
  generalize (execOp a.eval o).run P w = r at *
  cases r with
  | ok x w' =>
    cases x <;> simp only [Oper.upon, Oper.uponIn] at h ⊢
    case value v => exact hK _ _ h
    case skip => exact hK _ _ h
    case defer d => exact hK _ _ h
    case enter f args =>
      refine ⟨(fun hd => by cases hd), CallsIn.inRound l ((callsIn_wide.2 h).mono fun e w'' he => ?_)⟩
      cases e with
      | returned v => exact hK _ _ he
      | panicked c => exact he
      | outgrown => exact he
    case row row args =>
      refine ⟨(fun hd => by cases hd), fun c cs _ => ?_⟩
      obtain ⟨v, w'', r, s⟩ := h c cs
      exact ⟨v, w'', hK _ _ r, stepsIn_wide.2 s⟩
  | halt x w' => cases x <;> simp only [Oper.upon, Oper.uponIn] at h ⊢ <;> exact h

theorem round_of_held {l n : Nat} (hnd : ops.all noDefer = true) (hLO : ¬ LetsOut Q) :
    ∀ (fuel : Nat) (listed : Array Bool) (a : Act) (w : World), wpAnyH P md ops Q S fuel listed a w → wpAnyIn (Fence.wide.inRound l) n P md ops Q fuel listed a w
  | 0, _, _, _, h => h
  | fuel + 1, listed, a, w, h => by
    refine ⟨h.1, fun i hi => ?_⟩
    have h1 := h.2 i hi
    unfold wpOp at h1
    unfold wpOpIn
    cases ho : ops[i]? with
    | none =>
      simp only [ho] at h1 ⊢
      exact round_of_held hnd hLO fuel _ _ _ h1.2
    | some o =>
      simp only [ho] at h1 ⊢
      have hno : noDefer o = true := by
        obtain ⟨hlt, he⟩ := Array.getElem?_eq_some_iff.1 ho
        rw [← he]; exact Array.all_eq_true.1 hnd i hlt
      split
      · rename_i hw
        rw [if_pos hw] at h1
        rcases h1 with h1 | ⟨_, h2⟩
        · exact oper_round hno hLO (fun a' w' h' => round_of_held hnd hLO fuel _ a' w' h'.2) h1
        · exact absurd h2 hLO
      · rename_i hw
        rw [if_neg hw] at h1
        exact ⟨fun f _ => trivial, round_of_held hnd hLO fuel _ _ _ h1.2⟩
/-- Take number i first, its slot named. -/
theorem takeH (i : Nat) (d : Option Tmp) (v : Value) {fuel : Nat} {listed : Array Bool} {a : Act} {w : World} (hd : (ops[i]?).map (·.dst) = some d)
    (hs : Region.noSelect ops = true) (hf : Region.free md ops listed i = true) (hr : (Region.ready md ops listed).contains i = true)
    (hQ : ∀ c a w, Q (.panic c) (a.put d v) w → Q (.panic c) a w) (hy : ∀ o, ops[i]? = some o → YieldsIf P ops S o v a) (hS : S w)
    (h : wpAnyH P md ops Q S fuel (listed.setIfInBounds i true) (a.put d v) w) : wpAnyH P md ops Q S (fuel + 1) listed a w := by
  cases ho : ops[i]? with
  | none => rw [ho] at hd; cases hd
  | some o =>
    rw [ho] at hd
    have e : o.dst = d := Option.some.inj hd
    subst e
    exact wpAnyH_take ho hs hf hr hQ (hy o ho) hS h
/-- The one that may come up comes up. -/
theorem oneH (i : Nat) {fuel : Nat} {listed : Array Bool} {a : Act} {w : World} (hr : Region.ready md ops listed = [i])
    (h : wpOp P ops Q i (fun a' w' => S w' ∧ wpAnyH P md ops Q S fuel (listed.setIfInBounds i true) a' w') a w) : wpAnyH P md ops Q S (fuel + 1) listed a w :=
  wpAnyH_all hr (by simp) (fun j hj => by
    rw [List.mem_singleton] at hj
    subst hj; exact h)
/-- It is a call, and the call returns. -/
theorem callH (i f : Nat) (d : Option Tmp) (args : Array Value) {a : Act} {w : World} {K : Act → World → Prop} (hd : (ops[i]?).map (·.dst) = some d)
    (hrun : ∀ o, ops[i]? = some o → Region.wanted o (yielded ops a.tmps) = true ∧ (execOp a.eval o).run P w = .ok (.enter f args) w)
    (hc : Calls P f args w fun e w' => ∃ v, e = .returned v ∧ K (a.put d v) w') : wpOp P ops Q i K a w := by
  cases ho : ops[i]? with
  | none => rw [ho] at hd; cases hd
  | some o =>
    rw [ho] at hd
    have e : o.dst = d := Option.some.inj hd
    subst e
    obtain ⟨hw, hr⟩ := hrun o ho
    unfold wpOp
    simp only [ho]
    rw [if_pos hw]
    refine Or.inl ?_
    unfold Oper.wp
    rw [hr]
    refine Calls.mono hc ?_
    rintro e w' ⟨v, rfl, h⟩
    exact h
/-- It is a store, and goes through. -/
theorem skipH (i : Nat) (d : Option Tmp) {a : Act} {w : World} (w' : World) {K : Act → World → Prop} (hd : (ops[i]?).map (·.dst) = some d)
    (hrun : ∀ o, ops[i]? = some o → Region.wanted o (yielded ops a.tmps) = true ∧ (execOp a.eval o).run P w = .ok .skip w')
    (hc : K (a.put d undef) w') : wpOp P ops Q i K a w := by
  cases ho : ops[i]? with
  | none => rw [ho] at hd; cases hd
  | some o =>
    rw [ho] at hd
    have e : o.dst = d := Option.some.inj hd
    subst e
    obtain ⟨hw, hr⟩ := hrun o ho
    unfold wpOp
    simp only [ho]
    rw [if_pos hw]
    refine Or.inl ?_
    unfold Oper.wp
    rw [hr]
    exact hc
/-- The beginning, in a round. -/
theorem region_round {l n id : Nat} {a : Act} {w : World} (hm : P.follows .mixedOrders = true) (hnd : ops.all noDefer = true) (hLO : ¬ LetsOut Q)
    (h : wpAnyH P .any ops Q S ops.size (Array.replicate ops.size false) a w.drew) : (Code.region id ops true).wpIn (Fence.wide.inRound l) n P Q a w :=
  wpIn_region_any hm (round_of_held hnd hLO _ _ _ _ h)
end
end Go.Proofs.YtjamknejllbmkaaGreatDoor

namespace Go.Proofs.YtjamknejllbmkaaGreatDoor
open Go.RowKit Go.Shelf
set_option linter.unusedVariables false
attribute [local go_sem] Oper.semAt_some

theorem may_no {p : Int} {xs : List Ex} (h : withB p 0 3 = false ∨ withB (xs.length : Int) 1 24 = false) : may p xs = false := by
  unfold may
  rw [if_neg]
  intro hc
  rcases h with h | h
  · exact withB_not.1 h ⟨hc.1, hc.2.1⟩
  · exact withB_not.1 h ⟨by omega, by omega⟩
theorem may_yes {p : Int} {xs : List Ex} (h1 : withB p 0 3 = true) (h2 : withB (xs.length : Int) 1 24 = true) : may p xs = (run (start p xs.length) (backw xs)).isSome := by
  have h1 := withB_iff.1 h1
  have h2 := withB_iff.1 h2
  unfold may
  rw [if_pos ⟨h1.1, h1.2, by omega, by omega⟩]
/-- A part's box. -/
def Box4 (w : World) (b : Nat) (e : Ex) (g : Option Addr) (c : Nat) : Prop := w.heap[b]? = some (.cells #[.int .i64 e.kind, .int .i64 e.num, .int .i64 e.bind, .slice g e.kids.length c] 55 (0, 0))
theorem Box4.lt {w : World} {b : Nat} {e : Ex} {g : Option Addr} {c : Nat} (h : Box4 w b e g c) : b < w.heap.size := (Array.getElem?_eq_some_iff.1 h).1
theorem Box4.kept {w w' : World} {row : Option Nat} {b : Nat} {e : Ex} {g : Option Addr} {c : Nat} (h : Box4 w b e g c) (hg : w.grownBy w' row) (hne : some b ≠ row) : Box4 w' b e g c := (hg.block b h.lt hne).trans h
theorem Box4.on {w w' : World} {b : Nat} {e : Ex} {g : Option Addr} {c : Nat} (h : Box4 w b e g c) (hb : Below w.heap.size w w') : Box4 w' b e g c := (hb.block b h.lt).trans h
theorem Box4.cell {w : World} {b : Nat} {e : Ex} {g : Option Addr} {c : Nat} (h : Box4 w b e g c) : w.cell? ⟨b, 0, none⟩ = some (.int .i64 e.kind) ∧ w.cell? ⟨b, 1, none⟩ = some (.int .i64 e.num) ∧ w.cell? ⟨b, 2, none⟩ = some (.int .i64 e.bind) ∧ w.cell? ⟨b, 3, none⟩ = some (.slice g e.kids.length c) := by
  unfold World.cell?
  simp only [show w.heap[b]? = _ from h]
  exact ⟨rfl, rfl, rfl, rfl⟩
theorem box4_own {β : Type} (b : Nat) (e : Ex) (g : Option Addr) (c : Nat) : Own (fun (_ : β) W => Box4 W b e g c) := fun s X Y row hs hg hrow =>
  hs.kept hg (fun e => by
    obtain ⟨o, ho, hc⟩ := hrow b e.symm
    rw [show X.heap[b]? = _ from hs] at ho; cases ho; cases hc)
/-- The levels when these parts have come. -/
def Lp {w0 : World} {n : Nat} (p : Int) (pre : List (Item w0 n)) : List Int := (run (start p n) (pre.map Item.pr)).getD []

theorem okE_kids {k m b t : Int} {n : Nat} (h : okE k m b n t = true) : n ≤ 3 := by
  by_cases hk : 0 ≤ k ∧ k ≤ 7
  · have hk : k = 0 ∨ k = 1 ∨ k = 2 ∨ k = 3 ∨ k = 4 ∨ k = 5 ∨ k = 6 ∨ k = 7 := by omega
    rcases hk with rfl | rfl | rfl | rfl | rfl | rfl | rfl | rfl
    · have := okE_0 m b n t |>.1 h; omega
    · have := okE_1 m b n t |>.1 h; omega
    · have := okE_2 m b n t |>.1 h; omega
    · have := okE_3 m b n t |>.1 h; omega
    · have := okE_4 m b n t |>.1 h; omega
    · have := okE_5 m b n t |>.1 h; omega
    · have := okE_6 m b n t |>.1 h; omega
    · have := okE_7 m b n t |>.1 h; omega
  · rw [okE_else k m b n t hk] at h; cases h
theorem cell_new (W : World) (cs : Array Value) (t : TypeId) (j : Nat) (v : Value) (h : cs[j]? = some v) : (W.alloc (.cells cs t)).cell? ⟨W.heap.size, j, none⟩ = some v := by
  have e := World.alloc_heap_new W (.cells cs t)
  unfold World.cell?
  simp only [e]
  exact h
theorem cell_old {W : World} (o : Obj) {b j : Nat} {v : Value} (h : W.cell? ⟨b, j, none⟩ = some v) : (W.alloc o).cell? ⟨b, j, none⟩ = some v := by
  rw [World.cell?_alloc_lt _ _ _ (World.block_lt_of_cell? W _ h)]; exact h

set_option maxRecDepth 100000 in
set_option maxHeartbeats 2000000 in
theorem may_any (p : Int) (g : Option Addr) (c : Nat) (xs : List Ex) (w : World) (hx : Exs w g xs) :
    Calls Tryz.prog 59 #[.agg #[.int .i64 p, .slice g xs.length c]] w fun e w' => e = .returned (.bool (may p xs)) ∧ Below w.heap.size w w' := by
  refine (callsIn_wide (n := 3)).1 ?_
  refine callsIn_of_wp_marks Tryz.func59 rfl trivial ?_ rfl
  simp only [Tryz.ntmps59, List.size_toArray, List.length_cons, List.length_nil, Nat.reduceAdd, Nat.reduceSub, Array.replicate_succ, Array.replicate_zero, List.push_toArray, List.append_toArray, List.nil_append, List.cons_append]
  cases hp : withB p 0 3 with
  | false =>
    have HM : Hid (may p xs = false) := may_no (.inl hp)
    gi_wp2_with fail
    refine ⟨trivial, (callsIn_wide.2 (within_any _ _ _ _)).mono ?_⟩
    rintro e w1 ⟨rfl, rfl⟩
    rw [hp]
    gi_wp2_with fail
    refine ⟨trivial, ?_⟩
    gi_wp2_with fail
    exact ⟨.bool false, by simp [results, Tryz.f59, go_sem], by rw [HM.out], ((Below.refl _ _).alloc (Nat.le_refl _) _).alloc (by simp) _⟩
  | true =>
    cases hn : withB (xs.length : Int) 1 24 with
    | false =>
      have HM : Hid (may p xs = false) := may_no (.inr hn)
      gi_wp2_with fail
      refine ⟨trivial, (callsIn_wide.2 (within_any _ _ _ _)).mono ?_⟩
      rintro e w1 ⟨rfl, rfl⟩
      rw [hp]
      gi_wp2_with fail
      refine ⟨trivial, (callsIn_wide.2 (within_any _ _ _ _)).mono ?_⟩
      rintro e w1 ⟨rfl, rfl⟩
      rw [hn]
      gi_wp2_with fail
      exact ⟨.bool false, by simp [results, Tryz.f59, go_sem], by rw [HM.out], ((Below.refl _ _).alloc (Nat.le_refl _) _).alloc (by simp) _⟩
    | true =>
      have hp' := withB_iff.1 hp
      have hn' := withB_iff.1 hn
      have HM : Hid (may p xs = (run (start p xs.length) (backw xs)).isSome) := may_yes hp hn
      gi_wp2_with fail
      refine ⟨trivial, (callsIn_wide.2 (within_any _ _ _ _)).mono ?_⟩
      rintro e w1 ⟨rfl, rfl⟩
      rw [hp]
      gi_wp2_with fail
      refine ⟨trivial, (callsIn_wide.2 (within_any _ _ _ _)).mono ?_⟩
      rintro e w1 ⟨rfl, rfl⟩
      rw [hn]
      have hx1 := cell_new ((w.alloc (.cells #[.int .i64 p, .slice g xs.length c] 58)).alloc (.cells #[.bool false] 4)) #[.int .i64 (-1)] 3 0 _ rfl
      have hd0 := cell_old (.cells #[.int .i64 (-1)] 3) (cell_old (.cells #[.bool false] 4) (cell_new w #[.int .i64 p, .slice g xs.length c] 58 0 _ rfl))
      have hd1 := cell_old (.cells #[.int .i64 (-1)] 3) (cell_old (.cells #[.bool false] 4) (cell_new w #[.int .i64 p, .slice g xs.length c] 58 1 _ rfl))
      simp only [World.size_alloc] at hx1
      have hrep := repeat_any (w.heap.size + 1 + 1) 1 xs.length _ hx1 (by omega) (by omega)
      simp only [World.size_alloc] at hrep
      clear hx1
      gi_wp2_with fail
      refine ⟨trivial, (callsIn_wide.2 hrep).mono ?_⟩
      clear hrep
      rintro e w1 ⟨rfl, hL1, hb1⟩
      have hz := hb1.size
      simp only [World.size_alloc] at hz
      have d0 : w1.cell? ⟨w.heap.size, 0, none⟩ = some (.int .i64 p) := (hb1.cell (p := ⟨w.heap.size, 0, none⟩) (by show w.heap.size < _; omega)).trans hd0
      have d1 : w1.cell? ⟨w.heap.size, 1, none⟩ = some (.slice g xs.length c) := (hb1.cell (p := ⟨w.heap.size, 1, none⟩) (by show w.heap.size < _; omega)).trans hd1
      clear hd0 hd1
      obtain ⟨nl, hnl⟩ : ∃ nl : Nat, nl + 1 = xs.length := ⟨xs.length - 1, by omega⟩
      have f0 := hL1.frozen nl
      have c0 := hL1.cell (j := nl) (v := -1) (by simp [← hnl])
      have HL1 : Hid (Lv w1 (w.heap.size + 1 + 1 + 1) (List.replicate xs.length (-1))) := hL1
      have HNL : Hid _ := hnl
      have hsub : (xs.length : Int) - 1 = (nl : Int) := by omega
      have hnlt : (nl : Int) < (xs.length : Int) := by omega
      have hw0 : w.heap.size < w1.heap.size := by omega
      have hw3 : w.heap.size + 1 + 1 + 1 < w1.heap.size := hL1.lt
      clear hL1 hnl
      gi_wp2_with fail
      refine ⟨trivial, (callsIn_wide.2 (backward_any g xs.length c _)).mono ?_⟩
      rintro e w2 ⟨rfl, rfl⟩
      have hR0 := (Boxed.new (w.alloc (.cells #[.int .i64 p, .slice g xs.length c] 58)) 4 (.bool false)).alloc (.cells #[.int .i64 (-1)] 3)
      rw [World.size_alloc] at hR0
      have hR1 : Boxed w1 (w.heap.size + 1) 4 (.bool false) := (hb1.block (w.heap.size + 1) (by omega)).trans hR0
      have hBl1 : Below w.heap.size w w1 := ((((Below.refl _ w).alloc (Nat.le_refl _) (.cells #[.int .i64 p, .slice g xs.length c] 58)).alloc (by simp) (.cells #[.bool false] 4)).alloc (by simp; omega) (.cells #[.int .i64 (-1)] 3)).trans (hb1.mono (by omega))
      have hBl0 : Below w.heap.size w (((w1.setCell ⟨w.heap.size + 1 + 1 + 1, nl, none⟩ (.int .i64 p)).alloc (.cells #[.slice (some ⟨w.heap.size + 1 + 1 + 1, 0, none⟩) xs.length xs.length] 53)).alloc (.cells #[.slice g xs.length c] 56)) :=
        ((hBl1.setCell (p := ⟨w.heap.size + 1 + 1 + 1, nl, none⟩) (by show _ ≤ w.heap.size + 1 + 1 + 1; omega) _).alloc (by simp; omega) _).alloc (by simp; omega) _
      have hst : (List.replicate xs.length (-1)).set nl p = start p xs.length := by
        unfold start
        rw [show xs.length - 1 = nl by have := HNL.out; omega]
      have bL : Lv (((w1.setCell ⟨w.heap.size + 1 + 1 + 1, nl, none⟩ (.int .i64 p)).alloc (.cells #[.slice (some ⟨w.heap.size + 1 + 1 + 1, 0, none⟩) xs.length xs.length] 53)).alloc (.cells #[.slice g xs.length c] 56)) (w.heap.size + 1 + 1 + 1) (start p xs.length) := by
        rw [← hst]; exact ((HL1.out.set nl p).alloc _).alloc _
      have bR := ((hR1.kept (grown_set w1 (w.heap.size + 1 + 1 + 1) nl (.int .i64 p)) (by intro e; have := Option.some.inj e; omega)).alloc (.cells #[.slice (some ⟨w.heap.size + 1 + 1 + 1, 0, none⟩) xs.length xs.length] 53)).alloc (.cells #[.slice g xs.length c] 56)
      have bV := (Boxed.new (w1.setCell ⟨w.heap.size + 1 + 1 + 1, nl, none⟩ (.int .i64 p)) 53 (.slice (some ⟨w.heap.size + 1 + 1 + 1, 0, none⟩) xs.length xs.length)).alloc (.cells #[.slice g xs.length c] 56)
      have bS := Boxed.new ((w1.setCell ⟨w.heap.size + 1 + 1 + 1, nl, none⟩ (.int .i64 p)).alloc (.cells #[.slice (some ⟨w.heap.size + 1 + 1 + 1, 0, none⟩) xs.length xs.length] 53)) 56 (.slice g xs.length c)
      have hsz : (((w1.setCell ⟨w.heap.size + 1 + 1 + 1, nl, none⟩ (.int .i64 p)).alloc (.cells #[.slice (some ⟨w.heap.size + 1 + 1 + 1, 0, none⟩) xs.length xs.length] 53)).alloc (.cells #[.slice g xs.length c] 56)).heap.size = w1.heap.size + 1 + 1 := by simp
      simp only [World.size_alloc, World.size_setCell] at bV bS
      obtain ⟨bk, o, rfl, hbk, hxx⟩ : ∃ bk o, g = some ⟨bk, o, none⟩ ∧ bk < w.heap.size ∧ ∀ (j : Nat) x, xs[j]? = some x → ∃ gk ck, ExAt w bk (o + j * 4) x gk ck := by
        rcases hx with h | h
        · rw [h] at hn'; simp at hn'
        · exact h
      obtain ⟨its, hits⟩ := its_of hxx
      obtain ⟨W0, hW0⟩ : ∃ W0, ((w1.setCell ⟨w.heap.size + 1 + 1 + 1, nl, none⟩ (.int .i64 p)).alloc (.cells #[.slice (some ⟨w.heap.size + 1 + 1 + 1, 0, none⟩) xs.length xs.length] 53)).alloc (.cells #[.slice (some ⟨bk, o, none⟩) xs.length c] 56) = W0 := ⟨_, rfl⟩
      rw [hW0] at hBl0 bL bR bV bS hsz ⊢
      clear hW0 hst hR0 hR1 hBl1 c0 f0 d0 d1 HL1 hb1 hx hxx hsub hnlt
      gi_wp2_with fail
      refine wpIn_rangeFunc_ownH rfl (by omega) (gf := 91) (lb := #[.pointer (some ⟨w1.heap.size + 1, 0, none⟩)]) rfl trivial (enters_of Tryz.func91 (by kernel_rfl) rfl)
        (back_stops 2 (w1.heap.size + 1) w.heap.size bk o c w xs its hits (by omega) (by omega) hbk W0 hBl0 (Nat.le_refl _) (by omega) bS.cell)
        (fun h k => Kb.trans h k) (fun W l a b hl h1 h2 h3 => ⟨belowK_b (w := w) (Nat.le_refl _) W l a b (by omega) h1 h2 h3, ?kb⟩) (Below.refl _ _) (fun _ => rfl)
        (fun pre W => (((((run (start p xs.length) (pre.map Item.pr)).isSome = true ∧ Lv W (w.heap.size + 1 + 1 + 1) (Lp p pre)) ∧ Boxed W w1.heap.size 53 (.slice (some ⟨w.heap.size + 1 + 1 + 1, 0, none⟩) xs.length xs.length)) ∧ Boxed W (w.heap.size + 1) 4 (.bool false)) ∧ Boxed W (w1.heap.size + 1) 56 (.slice (some ⟨bk, o, none⟩) xs.length c)) ∧ Below w.heap.size w W)
        (fun c pre W => ((c = .ret ∧ run (start p xs.length) (pre.map Item.pr) = none) ∧ Boxed W (w.heap.size + 1) 4 (.bool false)) ∧ Below w.heap.size w W)
        (OwnFrom.and (OwnFrom.and (OwnFrom.and (OwnFrom.and (OwnFrom.and (ownFrom_pure _ _) (Own.from (lv_own _ _) _)) (Own.from (boxed_own _ _ _) _)) (Own.from (boxed_own _ _ _) _)) (Own.from (boxed_own _ _ _) _)) (ownFrom_below (Nat.le_refl _) (by omega)))
        (fun c => OwnFrom.and (OwnFrom.and (ownFrom_pure _ _) (Own.from (boxed_own _ _ _) _)) (ownFrom_below (Nat.le_refl _) (by omega)))
        ⟨⟨⟨⟨⟨rfl, bL⟩, bV⟩, bR⟩, bS⟩, hBl0⟩
        (fun x a' W => ∃ Bx, w1.heap.size + 1 < Bx ∧ Box4 W Bx x.1.e x.1.g x.1.c ∧ a' = { tmps := #[.agg #[.int .i64 p, .slice (some ⟨bk, o, none⟩) xs.length c], .pointer (some ⟨w.heap.size, 0, none⟩), .pointer (some ⟨w.heap.size + 1, 0, none⟩), .pointer (some ⟨w1.heap.size, 0, none⟩), .int .i64 (x.1.at_ : Int), .pointer (some ⟨Bx, 0, none⟩), undef, .pointer (some ⟨w.heap.size, 0, none⟩), .int .i64 p, .bool true, .bool false, .bool false, .pointer (some ⟨w.heap.size, 1, none⟩), .slice (some ⟨bk, o, none⟩) xs.length c, .int .i64 (xs.length : Int), .bool true, .bool false, .bool false, .slice (some ⟨w.heap.size + 1 + 1, 0, none⟩) 1 1, .pointer (some ⟨w.heap.size, 1, none⟩), .slice (some ⟨bk, o, none⟩) xs.length c, .int .i64 (xs.length : Int), .slice (some ⟨w.heap.size + 1 + 1 + 1, 0, none⟩) xs.length xs.length, .slice (some ⟨w.heap.size + 1 + 1 + 1, 0, none⟩) xs.length xs.length, .slice (some ⟨w.heap.size + 1 + 1 + 1, 0, none⟩) xs.length xs.length, .int .i64 (xs.length : Int), .int .i64 (nl : Int), .pointer (some ⟨w.heap.size, 0, none⟩), .int .i64 p, .pointer (some ⟨w.heap.size + 1 + 1 + 1, nl, none⟩), .pointer (some ⟨w.heap.size, 1, none⟩), .slice (some ⟨bk, o, none⟩) xs.length c, .func (.func 91) #[] #[.pointer (some ⟨w1.heap.size + 1, 0, none⟩)], .int .i64 (x.1.at_ : Int), eV x.1.e x.1.g x.1.c, undef, undef, undef, undef, undef, undef, undef, undef, undef, undef, undef, undef, undef, undef, undef, undef, undef, undef, undef, undef, undef], defers := [] })
        (fun x a' _ X Y row hs hg hr => by obtain ⟨Bx, e1, e2, e3⟩ := hs; exact ⟨Bx, e1, box4_own (β := Unit) Bx _ _ _ () X Y row e2 hg (fun r e => (hr r e).2), e3⟩)
        ?assign ?body ?done ?stop
      case kb => exact World.putObj_heap_other (by omega)
      case assign =>
        rintro l pre x W K ⟨⟨⟨⟨⟨hp1, bL1⟩, bV1⟩, bR1⟩, bS1⟩, hB1⟩ hK
        gi_wp2
        have hzS := bS1.lt
        exact hK _ _ ((KeepsOthers.alloc _ _).from _) ⟨(Below.refl _ W).alloc hB1.size _, Below.heap_alloc W _ _ hzS⟩ ⟨⟨⟨⟨⟨hp1, bL1.alloc _⟩, bV1.alloc _⟩, bR1.alloc _⟩, bS1.alloc _⟩, hB1.alloc hB1.size _⟩ ⟨W.heap.size, hzS, World.alloc_heap_new W _, rfl⟩
      case body =>
        rintro l pre x a' W hl ⟨r, hr⟩ ⟨⟨⟨⟨⟨hp1, bL1⟩, bV1⟩, bR1⟩, bS1⟩, hB1⟩ ⟨Bx, hBx, bX, rfl⟩ hlt
        obtain ⟨L, hL⟩ := Option.isSome_iff_exists.1 hp1
        have hLp : Lp p pre = L := by unfold Lp; rw [hL]; rfl
        rw [hLp] at bL1
        have hLn : L.length = xs.length := by rw [run_len hL, start_len]
        have hLf : Fine L := run_fine (start_fine hp'.1 hp'.2) hL
        obtain ⟨t, ht⟩ : ∃ t, L[x.1.at_]? = some t := ⟨_, List.getElem?_eq_getElem (by rw [hLn]; exact x.2.1)⟩
        have htf := hLf t (List.mem_of_getElem? ht)
        have hsn : run (start p xs.length) ((pre ++ [x]).map Item.pr) = stp L x.pr := by
          rw [List.map_append, List.map_cons, List.map_nil, run_snoc, hL]; rfl
        have hstp : stp L x.pr = if t = -1 then none else if x.1.e.ok t = false then none else hd x.1.at_ x.1.e t 0 x.1.e.kids L := by
          unfold stp
          simp only [show x.pr.1 = x.1.at_ from rfl, show x.pr.2 = x.1.e from rfl, ht]
        have HS : Hid (run (start p xs.length) ((pre ++ [x]).map Item.pr) = if t = -1 then none else if x.1.e.ok t = false then none else hd x.1.at_ x.1.e t 0 x.1.e.kids L) := hsn.trans hstp
        have hat : (x.1.at_ : Int) < (xs.length : Int) := by have := x.2.1; omega
        have hat' : (x.1.at_ : Int) ≤ (xs.length : Int) := by omega
        have cV := bV1.cell
        have cL := bL1.cell ht
        have cR := bR1.cell
        have fR := bR1.frozen
        clear hsn hstp hLp hp1 hits
        have hmx : Tryz.prog.follows .mixedOrders = true := by kernel_rfl
        obtain ⟨x0, x1, x2, x3⟩ := bX.cell
        have hS0 := And.intro x0 (And.intro x1 (And.intro x2 (And.intro x3 cV)))
        by_cases h1 : t = -1
        · subst h1
          have HN : Hid (run (start p xs.length) ((pre ++ [x]).map Item.pr) = none) := by
            show _ = _
            rw [HS.out, if_pos rfl]
          clear HS
          gi_wp2_with fail
          refine region_round (S := fun v => v.cell? ⟨Bx, 0, none⟩ = some (.int .i64 x.1.e.kind) ∧ v.cell? ⟨Bx, 1, none⟩ = some (.int .i64 x.1.e.num) ∧ v.cell? ⟨Bx, 2, none⟩ = some (.int .i64 x.1.e.bind) ∧ v.cell? ⟨Bx, 3, none⟩ = some (.slice x.1.g x.1.e.kids.length x.1.c) ∧ v.cell? ⟨w1.heap.size, 0, none⟩ = some (.slice (some ⟨w.heap.size + 1 + 1 + 1, 0, none⟩) xs.length xs.length)) hmx (by kernel_rfl) (by rintro ⟨a, v, h⟩; exact h) ?_
          show wpAnyH _ _ _ _ _ 17 #[false, false, false, false, false, false, false, false, false, false, false, false, false, false, false, false, false] _ _
          refine takeH 0 (some 39) (.int .i64 (-1)) rfl (by kernel_rfl) (by kernel_rfl) (by kernel_rfl) (fun _ _ _ h => h) (by rintro _ ⟨⟩; exact Or.inl ⟨by rfl, fun v hv => by obtain ⟨v0, v1, v2, v3, v4⟩ := hv; go_simp⟩) hS0 ?_
          simp only [Act.put, List.setIfInBounds_toArray, List.set_cons_zero, List.set_cons_succ]
          refine takeH 1 (some 40) (.bool true) rfl (by kernel_rfl) (by kernel_rfl) (by kernel_rfl) (fun _ _ _ h => h) (by rintro _ ⟨⟩; exact Or.inl ⟨by rfl, fun v hv => by obtain ⟨v0, v1, v2, v3, v4⟩ := hv; go_simp⟩) hS0 ?_
          simp only [Act.put, List.setIfInBounds_toArray, List.set_cons_zero, List.set_cons_succ]
          refine takeH 2 (some 41) (.bool true) rfl (by kernel_rfl) (by kernel_rfl) (by kernel_rfl) (fun _ _ _ h => h) (by rintro _ ⟨⟩; exact Or.inl ⟨by rfl, fun v hv => by obtain ⟨v0, v1, v2, v3, v4⟩ := hv; go_simp⟩) hS0 ?_
          simp only [Act.put, List.setIfInBounds_toArray, List.set_cons_zero, List.set_cons_succ]
          refine takeH 3 (some 42) (undef) rfl (by kernel_rfl) (by kernel_rfl) (by kernel_rfl) (fun _ _ _ h => h) (by rintro _ ⟨⟩; exact Or.inr ⟨by rfl, rfl⟩) hS0 ?_
          simp only [Act.put, List.setIfInBounds_toArray, List.set_cons_zero, List.set_cons_succ]
          refine takeH 4 (some 43) (undef) rfl (by kernel_rfl) (by kernel_rfl) (by kernel_rfl) (fun _ _ _ h => h) (by rintro _ ⟨⟩; exact Or.inr ⟨by rfl, rfl⟩) hS0 ?_
          simp only [Act.put, List.setIfInBounds_toArray, List.set_cons_zero, List.set_cons_succ]
          refine takeH 5 (some 44) (undef) rfl (by kernel_rfl) (by kernel_rfl) (by kernel_rfl) (fun _ _ _ h => h) (by rintro _ ⟨⟩; exact Or.inr ⟨by rfl, rfl⟩) hS0 ?_
          simp only [Act.put, List.setIfInBounds_toArray, List.set_cons_zero, List.set_cons_succ]
          refine takeH 6 (some 45) (undef) rfl (by kernel_rfl) (by kernel_rfl) (by kernel_rfl) (fun _ _ _ h => h) (by rintro _ ⟨⟩; exact Or.inr ⟨by rfl, rfl⟩) hS0 ?_
          simp only [Act.put, List.setIfInBounds_toArray, List.set_cons_zero, List.set_cons_succ]
          refine takeH 7 (some 46) (.bool true) rfl (by kernel_rfl) (by kernel_rfl) (by kernel_rfl) (fun _ _ _ h => h) (by rintro _ ⟨⟩; exact Or.inl ⟨by rfl, fun v hv => by obtain ⟨v0, v1, v2, v3, v4⟩ := hv; go_simp⟩) hS0 ?_
          simp only [Act.put, List.setIfInBounds_toArray, List.set_cons_zero, List.set_cons_succ]
          refine takeH 8 (some 47) (.bool true) rfl (by kernel_rfl) (by kernel_rfl) (by kernel_rfl) (fun _ _ _ h => h) (by rintro _ ⟨⟩; exact Or.inl ⟨by rfl, fun v hv => by obtain ⟨v0, v1, v2, v3, v4⟩ := hv; go_simp⟩) hS0 ?_
          simp only [Act.put, List.setIfInBounds_toArray, List.set_cons_zero, List.set_cons_succ]
          refine takeH 9 (some 48) (undef) rfl (by kernel_rfl) (by kernel_rfl) (by kernel_rfl) (fun _ _ _ h => h) (by rintro _ ⟨⟩; exact Or.inr ⟨by rfl, rfl⟩) hS0 ?_
          simp only [Act.put, List.setIfInBounds_toArray, List.set_cons_zero, List.set_cons_succ]
          refine takeH 10 (some 49) (undef) rfl (by kernel_rfl) (by kernel_rfl) (by kernel_rfl) (fun _ _ _ h => h) (by rintro _ ⟨⟩; exact Or.inr ⟨by rfl, rfl⟩) hS0 ?_
          simp only [Act.put, List.setIfInBounds_toArray, List.set_cons_zero, List.set_cons_succ]
          refine takeH 11 (some 50) (undef) rfl (by kernel_rfl) (by kernel_rfl) (by kernel_rfl) (fun _ _ _ h => h) (by rintro _ ⟨⟩; exact Or.inr ⟨by rfl, rfl⟩) hS0 ?_
          simp only [Act.put, List.setIfInBounds_toArray, List.set_cons_zero, List.set_cons_succ]
          refine takeH 12 (some 51) (undef) rfl (by kernel_rfl) (by kernel_rfl) (by kernel_rfl) (fun _ _ _ h => h) (by rintro _ ⟨⟩; exact Or.inr ⟨by rfl, rfl⟩) hS0 ?_
          simp only [Act.put, List.setIfInBounds_toArray, List.set_cons_zero, List.set_cons_succ]
          refine takeH 13 (some 52) (undef) rfl (by kernel_rfl) (by kernel_rfl) (by kernel_rfl) (fun _ _ _ h => h) (by rintro _ ⟨⟩; exact Or.inr ⟨by rfl, rfl⟩) hS0 ?_
          simp only [Act.put, List.setIfInBounds_toArray, List.set_cons_zero, List.set_cons_succ]
          refine takeH 14 (some 53) (undef) rfl (by kernel_rfl) (by kernel_rfl) (by kernel_rfl) (fun _ _ _ h => h) (by rintro _ ⟨⟩; exact Or.inr ⟨by rfl, rfl⟩) hS0 ?_
          simp only [Act.put, List.setIfInBounds_toArray, List.set_cons_zero, List.set_cons_succ]
          refine takeH 15 (some 54) (undef) rfl (by kernel_rfl) (by kernel_rfl) (by kernel_rfl) (fun _ _ _ h => h) (by rintro _ ⟨⟩; exact Or.inr ⟨by rfl, rfl⟩) hS0 ?_
          simp only [Act.put, List.setIfInBounds_toArray, List.set_cons_zero, List.set_cons_succ]
          refine takeH 16 (some 55) (.bool true) rfl (by kernel_rfl) (by kernel_rfl) (by kernel_rfl) (fun _ _ _ h => h) (by rintro _ ⟨⟩; exact Or.inl ⟨by rfl, fun v hv => by obtain ⟨v0, v1, v2, v3, v4⟩ := hv; go_simp⟩) hS0 ?_
          simp only [Act.put, List.setIfInBounds_toArray, List.set_cons_zero, List.set_cons_succ]
          refine wpAnyH_done (by kernel_rfl) ?_ _
          gi_wp2
          exact ⟨((KeepsOthers.setCell W _ _).trans (KeepsOthers.drew _)).from _, ⟨⟨rfl, HN.out⟩, (bR1.set (.bool false) : Boxed (W.setCell ⟨w.heap.size + 1, 0, none⟩ (.bool false)) _ _ _)⟩, (hB1.setCell (p := ⟨w.heap.size + 1, 0, none⟩) (by show _ ≤ w.heap.size + 1; omega) _).drew⟩
        · have e1 : (t == -1) = false := by simpa using h1
          have hfit := fits_any x.1.e.kind x.1.e.num x.1.e.bind t x.1.g x.1.e.kids.length x.1.c W.drew (by omega) (by omega)
          cases hok : okE x.1.e.kind x.1.e.num x.1.e.bind x.1.e.kids.length t with
          | false =>
            rw [hok] at hfit
            have HN : Hid (run (start p xs.length) ((pre ++ [x]).map Item.pr) = none) := by
              show _ = _
              rw [HS.out, if_neg h1, if_pos (show x.1.e.ok t = false from hok)]
            clear HS
            gi_wp2_with fail
            refine region_round (S := fun v => v.cell? ⟨Bx, 0, none⟩ = some (.int .i64 x.1.e.kind) ∧ v.cell? ⟨Bx, 1, none⟩ = some (.int .i64 x.1.e.num) ∧ v.cell? ⟨Bx, 2, none⟩ = some (.int .i64 x.1.e.bind) ∧ v.cell? ⟨Bx, 3, none⟩ = some (.slice x.1.g x.1.e.kids.length x.1.c) ∧ v.cell? ⟨w1.heap.size, 0, none⟩ = some (.slice (some ⟨w.heap.size + 1 + 1 + 1, 0, none⟩) xs.length xs.length)) hmx (by kernel_rfl) (by rintro ⟨a, v, h⟩; exact h) ?_
            show wpAnyH _ _ _ _ _ 17 #[false, false, false, false, false, false, false, false, false, false, false, false, false, false, false, false, false] _ _
            refine takeH 0 (some 39) (.int .i64 t) rfl (by kernel_rfl) (by kernel_rfl) (by kernel_rfl) (fun _ _ _ h => h) (by rintro _ ⟨⟩; exact Or.inl ⟨by rfl, fun v hv => by obtain ⟨v0, v1, v2, v3, v4⟩ := hv; go_simp⟩) hS0 ?_
            simp only [Act.put, List.setIfInBounds_toArray, List.set_cons_zero, List.set_cons_succ]
            refine takeH 1 (some 40) (.bool false) rfl (by kernel_rfl) (by kernel_rfl) (by kernel_rfl) (fun _ _ _ h => h) (by rintro _ ⟨⟩; exact Or.inl ⟨by rfl, fun v hv => by obtain ⟨v0, v1, v2, v3, v4⟩ := hv; go_simp⟩) hS0 ?_
            simp only [Act.put, List.setIfInBounds_toArray, List.set_cons_zero, List.set_cons_succ]
            refine takeH 2 (some 41) (.bool false) rfl (by kernel_rfl) (by kernel_rfl) (by kernel_rfl) (fun _ _ _ h => h) (by rintro _ ⟨⟩; exact Or.inl ⟨by rfl, fun v hv => by obtain ⟨v0, v1, v2, v3, v4⟩ := hv; go_simp⟩) hS0 ?_
            simp only [Act.put, List.setIfInBounds_toArray, List.set_cons_zero, List.set_cons_succ]
            refine takeH 3 (some 42) (eV x.1.e x.1.g x.1.c) rfl (by kernel_rfl) (by kernel_rfl) (by kernel_rfl) (fun _ _ _ h => h) (by rintro _ ⟨⟩; exact Or.inl ⟨by rfl, fun v hv => by obtain ⟨v0, v1, v2, v3, v4⟩ := hv; go_simp⟩) hS0 ?_
            simp only [Act.put, List.setIfInBounds_toArray, List.set_cons_zero, List.set_cons_succ]
            refine takeH 4 (some 43) (.int .i64 t) rfl (by kernel_rfl) (by kernel_rfl) (by kernel_rfl) (fun _ _ _ h => h) (by rintro _ ⟨⟩; exact Or.inl ⟨by rfl, fun v hv => by obtain ⟨v0, v1, v2, v3, v4⟩ := hv; go_simp⟩) hS0 ?_
            simp only [Act.put, List.setIfInBounds_toArray, List.set_cons_zero, List.set_cons_succ]
            refine oneH 5 (by kernel_rfl) (callH 5 82 (some 44) #[eV x.1.e x.1.g x.1.c, .int .i64 t] rfl (by rintro _ ⟨⟩; exact ⟨by rfl, by go_simp⟩) (hfit.mono ?_))
            rintro e w3 ⟨rfl, hb3⟩
            have hb4 : Below W.heap.size W w3 := ⟨hb3.os, hb3.tape, hb3.output, hb3.size, hb3.block⟩
            have hS3 := And.intro (bX.on hb4).cell.1 (And.intro (bX.on hb4).cell.2.1 (And.intro (bX.on hb4).cell.2.2.1 (And.intro (bX.on hb4).cell.2.2.2 ((hb4.cell (p := ⟨w1.heap.size, 0, none⟩) bV1.lt).trans cV))))
            refine ⟨_, rfl, hS3, ?_⟩
            simp only [Act.put, List.setIfInBounds_toArray, List.set_cons_zero, List.set_cons_succ]
            refine takeH 6 (some 45) (.bool true) rfl (by kernel_rfl) (by kernel_rfl) (by kernel_rfl) (fun _ _ _ h => h) (by rintro _ ⟨⟩; exact Or.inl ⟨by rfl, fun v hv => by obtain ⟨v0, v1, v2, v3, v4⟩ := hv; go_simp⟩) hS3 ?_
            simp only [Act.put, List.setIfInBounds_toArray, List.set_cons_zero, List.set_cons_succ]
            refine takeH 7 (some 46) (.bool true) rfl (by kernel_rfl) (by kernel_rfl) (by kernel_rfl) (fun _ _ _ h => h) (by rintro _ ⟨⟩; exact Or.inl ⟨by rfl, fun v hv => by obtain ⟨v0, v1, v2, v3, v4⟩ := hv; go_simp⟩) hS3 ?_
            simp only [Act.put, List.setIfInBounds_toArray, List.set_cons_zero, List.set_cons_succ]
            refine takeH 8 (some 47) (.bool true) rfl (by kernel_rfl) (by kernel_rfl) (by kernel_rfl) (fun _ _ _ h => h) (by rintro _ ⟨⟩; exact Or.inl ⟨by rfl, fun v hv => by obtain ⟨v0, v1, v2, v3, v4⟩ := hv; go_simp⟩) hS3 ?_
            simp only [Act.put, List.setIfInBounds_toArray, List.set_cons_zero, List.set_cons_succ]
            refine takeH 9 (some 48) (undef) rfl (by kernel_rfl) (by kernel_rfl) (by kernel_rfl) (fun _ _ _ h => h) (by rintro _ ⟨⟩; exact Or.inr ⟨by rfl, rfl⟩) hS3 ?_
            simp only [Act.put, List.setIfInBounds_toArray, List.set_cons_zero, List.set_cons_succ]
            refine takeH 10 (some 49) (undef) rfl (by kernel_rfl) (by kernel_rfl) (by kernel_rfl) (fun _ _ _ h => h) (by rintro _ ⟨⟩; exact Or.inr ⟨by rfl, rfl⟩) hS3 ?_
            simp only [Act.put, List.setIfInBounds_toArray, List.set_cons_zero, List.set_cons_succ]
            refine takeH 11 (some 50) (undef) rfl (by kernel_rfl) (by kernel_rfl) (by kernel_rfl) (fun _ _ _ h => h) (by rintro _ ⟨⟩; exact Or.inr ⟨by rfl, rfl⟩) hS3 ?_
            simp only [Act.put, List.setIfInBounds_toArray, List.set_cons_zero, List.set_cons_succ]
            refine takeH 12 (some 51) (undef) rfl (by kernel_rfl) (by kernel_rfl) (by kernel_rfl) (fun _ _ _ h => h) (by rintro _ ⟨⟩; exact Or.inr ⟨by rfl, rfl⟩) hS3 ?_
            simp only [Act.put, List.setIfInBounds_toArray, List.set_cons_zero, List.set_cons_succ]
            refine takeH 13 (some 52) (undef) rfl (by kernel_rfl) (by kernel_rfl) (by kernel_rfl) (fun _ _ _ h => h) (by rintro _ ⟨⟩; exact Or.inr ⟨by rfl, rfl⟩) hS3 ?_
            simp only [Act.put, List.setIfInBounds_toArray, List.set_cons_zero, List.set_cons_succ]
            refine takeH 14 (some 53) (undef) rfl (by kernel_rfl) (by kernel_rfl) (by kernel_rfl) (fun _ _ _ h => h) (by rintro _ ⟨⟩; exact Or.inr ⟨by rfl, rfl⟩) hS3 ?_
            simp only [Act.put, List.setIfInBounds_toArray, List.set_cons_zero, List.set_cons_succ]
            refine takeH 15 (some 54) (undef) rfl (by kernel_rfl) (by kernel_rfl) (by kernel_rfl) (fun _ _ _ h => h) (by rintro _ ⟨⟩; exact Or.inr ⟨by rfl, rfl⟩) hS3 ?_
            simp only [Act.put, List.setIfInBounds_toArray, List.set_cons_zero, List.set_cons_succ]
            refine takeH 16 (some 55) (.bool true) rfl (by kernel_rfl) (by kernel_rfl) (by kernel_rfl) (fun _ _ _ h => h) (by rintro _ ⟨⟩; exact Or.inl ⟨by rfl, fun v hv => by obtain ⟨v0, v1, v2, v3, v4⟩ := hv; go_simp⟩) hS3 ?_
            simp only [Act.put, List.setIfInBounds_toArray, List.set_cons_zero, List.set_cons_succ]
            refine wpAnyH_done (by kernel_rfl) ?_ _
            have bR3 : Boxed w3 (w.heap.size + 1) 4 (.bool false) := (hb4.block _ bR1.lt).trans bR1
            have cR3 := bR3.cell
            have fR3 := bR3.frozen
            gi_wp2
            exact ⟨(KeepsFrom.of_grownBy (grown_of_below hb4 none) (fun j e => by cases e)).trans ((KeepsOthers.setCell w3 _ _).from _), ⟨⟨rfl, HN.out⟩, bR3.set (.bool false)⟩, (hB1.trans (hb4.mono hB1.size)).setCell (p := ⟨w.heap.size + 1, 0, none⟩) (by show _ ≤ w.heap.size + 1; omega) _⟩
          | true =>
            rw [hok] at hfit
            have hbd : ∀ i, 0 ≤ x.1.e.bd i ∧ x.1.e.bd i ≤ 3 := fun i => bnd_le hok
            have hkl := okE_kids hok
            have HS2 : Hid (run (start p xs.length) ((pre ++ [x]).map Item.pr) = hd x.1.at_ x.1.e t 0 x.1.e.kids L) := by
              show _ = _
              rw [HS.out, if_neg h1, if_neg (show ¬ x.1.e.ok t = false by show ¬ okE _ _ _ _ _ = false; rw [hok]; simp)]
            clear HS
            gi_wp2_with fail
            refine region_round (S := fun v => v.cell? ⟨Bx, 0, none⟩ = some (.int .i64 x.1.e.kind) ∧ v.cell? ⟨Bx, 1, none⟩ = some (.int .i64 x.1.e.num) ∧ v.cell? ⟨Bx, 2, none⟩ = some (.int .i64 x.1.e.bind) ∧ v.cell? ⟨Bx, 3, none⟩ = some (.slice x.1.g x.1.e.kids.length x.1.c) ∧ v.cell? ⟨w1.heap.size, 0, none⟩ = some (.slice (some ⟨w.heap.size + 1 + 1 + 1, 0, none⟩) xs.length xs.length)) hmx (by kernel_rfl) (by rintro ⟨a, v, h⟩; exact h) ?_
            show wpAnyH _ _ _ _ _ 17 #[false, false, false, false, false, false, false, false, false, false, false, false, false, false, false, false, false] _ _
            refine takeH 0 (some 39) (.int .i64 t) rfl (by kernel_rfl) (by kernel_rfl) (by kernel_rfl) (fun _ _ _ h => h) (by rintro _ ⟨⟩; exact Or.inl ⟨by rfl, fun v hv => by obtain ⟨v0, v1, v2, v3, v4⟩ := hv; go_simp⟩) hS0 ?_
            simp only [Act.put, List.setIfInBounds_toArray, List.set_cons_zero, List.set_cons_succ]
            refine takeH 1 (some 40) (.bool false) rfl (by kernel_rfl) (by kernel_rfl) (by kernel_rfl) (fun _ _ _ h => h) (by rintro _ ⟨⟩; exact Or.inl ⟨by rfl, fun v hv => by obtain ⟨v0, v1, v2, v3, v4⟩ := hv; go_simp⟩) hS0 ?_
            simp only [Act.put, List.setIfInBounds_toArray, List.set_cons_zero, List.set_cons_succ]
            refine takeH 2 (some 41) (.bool false) rfl (by kernel_rfl) (by kernel_rfl) (by kernel_rfl) (fun _ _ _ h => h) (by rintro _ ⟨⟩; exact Or.inl ⟨by rfl, fun v hv => by obtain ⟨v0, v1, v2, v3, v4⟩ := hv; go_simp⟩) hS0 ?_
            simp only [Act.put, List.setIfInBounds_toArray, List.set_cons_zero, List.set_cons_succ]
            refine takeH 3 (some 42) (eV x.1.e x.1.g x.1.c) rfl (by kernel_rfl) (by kernel_rfl) (by kernel_rfl) (fun _ _ _ h => h) (by rintro _ ⟨⟩; exact Or.inl ⟨by rfl, fun v hv => by obtain ⟨v0, v1, v2, v3, v4⟩ := hv; go_simp⟩) hS0 ?_
            simp only [Act.put, List.setIfInBounds_toArray, List.set_cons_zero, List.set_cons_succ]
            refine takeH 4 (some 43) (.int .i64 t) rfl (by kernel_rfl) (by kernel_rfl) (by kernel_rfl) (fun _ _ _ h => h) (by rintro _ ⟨⟩; exact Or.inl ⟨by rfl, fun v hv => by obtain ⟨v0, v1, v2, v3, v4⟩ := hv; go_simp⟩) hS0 ?_
            simp only [Act.put, List.setIfInBounds_toArray, List.set_cons_zero, List.set_cons_succ]
            refine oneH 5 (by kernel_rfl) (callH 5 82 (some 44) #[eV x.1.e x.1.g x.1.c, .int .i64 t] rfl (by rintro _ ⟨⟩; exact ⟨by rfl, by go_simp⟩) (hfit.mono ?_))
            rintro e w3 ⟨rfl, hb3⟩
            have hb4 : Below W.heap.size W w3 := ⟨hb3.os, hb3.tape, hb3.output, hb3.size, hb3.block⟩
            have hS3 := And.intro (bX.on hb4).cell.1 (And.intro (bX.on hb4).cell.2.1 (And.intro (bX.on hb4).cell.2.2.1 (And.intro (bX.on hb4).cell.2.2.2 ((hb4.cell (p := ⟨w1.heap.size, 0, none⟩) bV1.lt).trans cV))))
            refine ⟨_, rfl, hS3, ?_⟩
            simp only [Act.put, List.setIfInBounds_toArray, List.set_cons_zero, List.set_cons_succ]
            refine takeH 6 (some 45) (.bool false) rfl (by kernel_rfl) (by kernel_rfl) (by kernel_rfl) (fun _ _ _ h => h) (by rintro _ ⟨⟩; exact Or.inl ⟨by rfl, fun v hv => by obtain ⟨v0, v1, v2, v3, v4⟩ := hv; go_simp⟩) hS3 ?_
            simp only [Act.put, List.setIfInBounds_toArray, List.set_cons_zero, List.set_cons_succ]
            refine takeH 7 (some 46) (.bool false) rfl (by kernel_rfl) (by kernel_rfl) (by kernel_rfl) (fun _ _ _ h => h) (by rintro _ ⟨⟩; exact Or.inl ⟨by rfl, fun v hv => by obtain ⟨v0, v1, v2, v3, v4⟩ := hv; go_simp⟩) hS3 ?_
            simp only [Act.put, List.setIfInBounds_toArray, List.set_cons_zero, List.set_cons_succ]
            refine takeH 8 (some 47) (.bool false) rfl (by kernel_rfl) (by kernel_rfl) (by kernel_rfl) (fun _ _ _ h => h) (by rintro _ ⟨⟩; exact Or.inl ⟨by rfl, fun v hv => by obtain ⟨v0, v1, v2, v3, v4⟩ := hv; go_simp⟩) hS3 ?_
            simp only [Act.put, List.setIfInBounds_toArray, List.set_cons_zero, List.set_cons_succ]
            refine takeH 9 (some 48) (eV x.1.e x.1.g x.1.c) rfl (by kernel_rfl) (by kernel_rfl) (by kernel_rfl) (fun _ _ _ h => h) (by rintro _ ⟨⟩; exact Or.inl ⟨by rfl, fun v hv => by obtain ⟨v0, v1, v2, v3, v4⟩ := hv; go_simp⟩) hS3 ?_
            simp only [Act.put, List.setIfInBounds_toArray, List.set_cons_zero, List.set_cons_succ]
            refine takeH 10 (some 49) (.int .i64 t) rfl (by kernel_rfl) (by kernel_rfl) (by kernel_rfl) (fun _ _ _ h => h) (by rintro _ ⟨⟩; exact Or.inl ⟨by rfl, fun v hv => by obtain ⟨v0, v1, v2, v3, v4⟩ := hv; go_simp⟩) hS3 ?_
            simp only [Act.put, List.setIfInBounds_toArray, List.set_cons_zero, List.set_cons_succ]
            refine takeH 11 (some 50) (.slice (some ⟨w.heap.size + 1 + 1 + 1, 0, none⟩) xs.length xs.length) rfl (by kernel_rfl) (by kernel_rfl) (by kernel_rfl) (fun _ _ _ h => h) (by rintro _ ⟨⟩; exact Or.inl ⟨by rfl, fun v hv => by obtain ⟨v0, v1, v2, v3, v4⟩ := hv; go_simp⟩) hS3 ?_
            simp only [Act.put, List.setIfInBounds_toArray, List.set_cons_zero, List.set_cons_succ]
            refine takeH 12 (some 51) (.int .i64 (x.1.at_ : Int)) rfl (by kernel_rfl) (by kernel_rfl) (by kernel_rfl) (fun _ _ _ h => h) (by rintro _ ⟨⟩; exact Or.inl ⟨by rfl, fun v hv => by obtain ⟨v0, v1, v2, v3, v4⟩ := hv; go_simp⟩) hS3 ?_
            simp only [Act.put, List.setIfInBounds_toArray, List.set_cons_zero, List.set_cons_succ]
            refine takeH 13 (some 52) (.slice (some ⟨w.heap.size + 1 + 1 + 1, 0, none⟩) x.1.at_ xs.length) rfl (by kernel_rfl) (by kernel_rfl) (by kernel_rfl) (fun _ _ _ h => h) (by rintro _ ⟨⟩; exact Or.inl ⟨by rfl, fun v hv => by obtain ⟨v0, v1, v2, v3, v4⟩ := hv; go_simp⟩) hS3 ?_
            simp only [Act.put, List.setIfInBounds_toArray, List.set_cons_zero, List.set_cons_succ]
            have hlv := bL1.lt
            have hhand := hand_any x.1.e x.1.g x.1.c t (w.heap.size + 1 + 1 + 1) x.1.at_ xs.length L w w3 (bL1.on hb4 hlv) (by omega) (by omega) x.2.2 (hB1.trans (hb4.mono hB1.size)) (by omega) (by omega) (by omega) hbd hkl
            refine oneH 14 (by kernel_rfl) (callH 14 83 (some 53) #[eV x.1.e x.1.g x.1.c, .int .i64 t, .slice (some ⟨w.heap.size + 1 + 1 + 1, 0, none⟩) x.1.at_ xs.length] rfl (by rintro _ ⟨⟩; exact ⟨by rfl, by go_simp⟩) (hhand.mono ?_))
            clear hhand
            rintro e w5 ⟨rfl, hg5, hl5⟩
            have hG : W.grownBy w5 (some (w.heap.size + 1 + 1 + 1)) := (grown_of_below hb4 _).trans hg5
            have bV5 := bV1.kept hG (by intro e; have := Option.some.inj e; omega)
            have bR5 := bR1.kept hG (by intro e; have := Option.some.inj e; omega)
            have bS5 := bS1.kept hG (by intro e; have := Option.some.inj e; omega)
            have bX5 := bX.kept hG (by intro e; have := Option.some.inj e; omega)
            have hB5 : Below w.heap.size w w5 := hB1.grown hG hB1.size (fun k e => by cases e; omega)
            have hS5 := And.intro bX5.cell.1 (And.intro bX5.cell.2.1 (And.intro bX5.cell.2.2.1 (And.intro bX5.cell.2.2.2 bV5.cell)))
            have cR5 := bR5.cell
            have fR5 := bR5.frozen
            refine ⟨_, rfl, hS5, ?_⟩
            simp only [Act.put, List.setIfInBounds_toArray, List.set_cons_zero, List.set_cons_succ]
            cases hR : hd x.1.at_ x.1.e t 0 x.1.e.kids L with
            | none =>
              simp only [Option.isSome_none]
              refine takeH 15 (some 54) (.bool true) rfl (by kernel_rfl) (by kernel_rfl) (by kernel_rfl) (fun _ _ _ h => h) (by rintro _ ⟨⟩; exact Or.inl ⟨by rfl, fun v hv => by obtain ⟨v0, v1, v2, v3, v4⟩ := hv; go_simp⟩) hS5 ?_
              simp only [Act.put, List.setIfInBounds_toArray, List.set_cons_zero, List.set_cons_succ]
              refine takeH 16 (some 55) (.bool true) rfl (by kernel_rfl) (by kernel_rfl) (by kernel_rfl) (fun _ _ _ h => h) (by rintro _ ⟨⟩; exact Or.inl ⟨by rfl, fun v hv => by obtain ⟨v0, v1, v2, v3, v4⟩ := hv; go_simp⟩) hS5 ?_
              simp only [Act.put, List.setIfInBounds_toArray, List.set_cons_zero, List.set_cons_succ]
              refine wpAnyH_done (by kernel_rfl) ?_ _
              gi_wp2
              exact ⟨(KeepsFrom.of_grownBy hG (fun j e => by cases e; omega)).trans ((KeepsOthers.setCell w5 _ _).from _), ⟨⟨rfl, HS2.out.trans hR⟩, bR5.set (.bool false)⟩, hB5.setCell (p := ⟨w.heap.size + 1, 0, none⟩) (by show _ ≤ w.heap.size + 1; omega) _⟩
            | some L5 =>
              simp only [Option.isSome_some]
              refine takeH 15 (some 54) (.bool false) rfl (by kernel_rfl) (by kernel_rfl) (by kernel_rfl) (fun _ _ _ h => h) (by rintro _ ⟨⟩; exact Or.inl ⟨by rfl, fun v hv => by obtain ⟨v0, v1, v2, v3, v4⟩ := hv; go_simp⟩) hS5 ?_
              simp only [Act.put, List.setIfInBounds_toArray, List.set_cons_zero, List.set_cons_succ]
              refine takeH 16 (some 55) (.bool false) rfl (by kernel_rfl) (by kernel_rfl) (by kernel_rfl) (fun _ _ _ h => h) (by rintro _ ⟨⟩; exact Or.inl ⟨by rfl, fun v hv => by obtain ⟨v0, v1, v2, v3, v4⟩ := hv; go_simp⟩) hS5 ?_
              simp only [Act.put, List.setIfInBounds_toArray, List.set_cons_zero, List.set_cons_succ]
              refine wpAnyH_done (by kernel_rfl) ?_ _
              gi_wp2
              have hrn := HS2.out.trans hR
              have hLp : Lp p (pre ++ [x]) = L5 := by unfold Lp; rw [hrn]; rfl
              refine ⟨KeepsFrom.of_grownBy hG (fun j e => by cases e; omega), ⟨(Below.refl _ _).grown hG hB1.size (fun k e => by cases e; omega), hG.block _ bS1.lt (by intro e; have := Option.some.inj e; omega)⟩, ⟨⟨⟨⟨by rw [hrn]; rfl, ?_⟩, bV5⟩, bR5⟩, bS5⟩, hB5⟩
              rw [hLp]; exact hl5 L5 hR
      case done =>
        rintro D ys W hD rfl ⟨⟨⟨⟨⟨hp1, bL1⟩, bV1⟩, bR1⟩, bS1⟩, hB1⟩ hK
        have cR := bR1.cell
        have fR := bR1.frozen
        rw [its_backw hits] at hp1
        gi_wp2
        have hK' := (KeepsOthers.setCell W ⟨w.heap.size + 1, 0, none⟩ (.bool true)).same D _ hK rfl
        refine ⟨by simp, .inl ⟨_, _, rfl, run_takeDeferred hK', ?_⟩⟩
        have hc5 := cell_kept (bR1.set (.bool true)).cell (grownBy_putObj' _ D (.deferred none)) (fun r e => by cases e; exact ⟨_, hK', rfl⟩)
        refine ⟨.bool true, ?_, by rw [HM.out, hp1], (hB1.setCell (p := ⟨w.heap.size + 1, 0, none⟩) (by show _ ≤ w.heap.size + 1; omega) _).trans (belowK_b (w := w) (Nat.le_refl _) _ D _ _ (by omega) hK' rfl rfl)⟩
        simp [results, Tryz.f59, go_sem, hc5]
      case stop =>
        rintro D c' pre W hD hpre ⟨⟨⟨rfl, hrn⟩, bR1⟩, hB1⟩ hK
        have hno : run (start p xs.length) (backw xs) = none := by
          obtain ⟨ys, hys⟩ := hpre
          rw [← its_backw hits, ← hys, List.map_append]
          exact run_pre _ _ _ hrn
        gi_wp2
        refine ⟨by simp, .inl ⟨_, _, rfl, run_takeDeferred hK, ?_⟩⟩
        have hc5 := cell_kept bR1.cell (grownBy_putObj' _ D (.deferred none)) (fun r e => by cases e; exact ⟨_, hK, rfl⟩)
        refine ⟨.bool false, ?_, by rw [HM.out, hno]; rfl, hB1.trans (belowK_b (w := w) (Nat.le_refl _) W D _ _ (by omega) hK rfl rfl)⟩
        simp [results, Tryz.f59, go_sem, hc5]
end Go.Proofs.YtjamknejllbmkaaGreatDoor
