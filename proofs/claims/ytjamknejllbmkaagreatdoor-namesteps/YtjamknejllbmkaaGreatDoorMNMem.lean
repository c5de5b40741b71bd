/- Things in memory, as package name lays them: what a level holds, rows of levels; a block that is kept; slices.Grow and slices.Concat at such rows. · What a level holds in memory; kid, kids, bodyOf, givens. · kid, kids, bodyOf and givens, at things in memory. · givens, and a term's own evaluation. · Contracts of package prim's functions and of the document's own answers: what each returns, at every number. · How an evaluation stands and how it ends; a term's own evaluation. -/
import Derived.Test.YtjamknejllbmkaaGreatDoorMNPure
import Derived.Test.YtjamknejllbmkaaGreatDoorMReader
import Derived.Test.YtjamknejllbmkaaGreatDoorMProg
import Derived.Lib.AppendZeros
import Derived.Deep.RegionHeld3
import Derived.Deep.DrawnRows
import Derived.Deep.RegionLaw
import Derived.Test.YtjamknejllbmkaaGreatDoorMTerm
import Derived.Test.YtjamknejllbmkaaGreatDoorRows
import Derived.WalkKit
import Derived.ProofKit
import Derived.OpenShut

namespace Go.Proofs.YtjamknejllbmkaaGreatDoor
open Go.RowKit
set_option linter.unusedVariables false

theorem hid {p : Prop} (h : p) : Hid p := h
/-- All that lay is as it lay, but for the blocks of A. -/
structure Ka (A : Nat → Prop) (W W' : World) : Prop where
  os : W'.os = W.os
  tape : W'.tape = W.tape
  output : W'.output = W.output
  size : W.heap.size ≤ W'.heap.size
  block : ∀ k, k < W.heap.size → ¬ A k → W'.heap[k]? = W.heap[k]?
theorem Ka.refl (A : Nat → Prop) (W : World) : Ka A W W := ⟨rfl, rfl, rfl, Nat.le_refl _, fun _ _ _ => rfl⟩
theorem Ka.of_below {A : Nat → Prop} {W W' : World} (h : Below W.heap.size W W') : Ka A W W' := ⟨h.os, h.tape, h.output, h.size, fun k hk _ => h.block k hk⟩
theorem Ka.next {A : Nat → Prop} {W W1 W2 : World} (h : Ka A W W1) (h1 : Ka A W1 W2) : Ka A W W2 :=
  ⟨h1.os.trans h.os, h1.tape.trans h.tape, h1.output.trans h.output, Nat.le_trans h.size h1.size, fun k hk ha => (h1.block k (Nat.lt_of_lt_of_le hk h.size) ha).trans (h.block k hk ha)⟩
theorem Ka.mono {A B : Nat → Prop} {W W' : World} (h : Ka A W W') (hab : ∀ k, k < W.heap.size → A k → B k) : Ka B W W' := ⟨h.os, h.tape, h.output, h.size, fun k hk hb => h.block k hk (fun ha => hb (hab k hk ha))⟩
theorem Ka.cell {A : Nat → Prop} {W W' : World} (h : Ka A W W') {k j : Nat} (hk : k < W.heap.size) (ha : ¬ A k) : W'.cell? ⟨k, j, none⟩ = W.cell? ⟨k, j, none⟩ := by
  unfold World.cell?; simp only [h.block k hk ha]
theorem Ka.of_grown {A : Nat → Prop} {W W' : World} {row : Option Nat} (h : W.grownBy W' row) (ha : ∀ k, row = some k → A k) : Ka A W W' := ⟨h.os, h.tape, h.output, h.size, fun k hk hn => h.block k hk (fun e => hn (ha k e.symm))⟩
theorem Ka.below {A : Nat → Prop} {n : Nat} {W W' : World} (h : Ka A W W') (hn : n ≤ W.heap.size) (ha : ∀ k, A k → n ≤ k) : Below n W W' := ⟨h.os, h.tape, h.output, h.size, fun k hk => h.block k (by omega) (fun e => by have := ha k e; omega)⟩
/-- A block whose cells are known. -/
def Bx (T : Nat) (W : World) (b : Nat) (cs : Array Value) : Prop := W.heap[b]? = some (.cells cs T (0, 0))
theorem Bx.lt {T : Nat} {W : World} {b : Nat} {cs : Array Value} (h : Bx T W b cs) : b < W.heap.size := (Array.getElem?_eq_some_iff.1 h).1
theorem Bx.cell {T : Nat} {W : World} {b : Nat} {cs : Array Value} (h : Bx T W b cs) (j : Nat) (v : Value) (hv : cs[j]? = some v) : W.cell? ⟨b, j, none⟩ = some v := by
  unfold World.cell?
  simp only [show W.heap[b]? = _ from h]
  exact hv
theorem Bx.frozen {T : Nat} {W : World} {b : Nat} {cs : Array Value} (h : Bx T W b cs) (j : Nat) : W.frozen? ⟨b, j, none⟩ = false := by
  simp [World.frozen?, show W.heap[b]? = _ from h]
theorem Bx.on {T : Nat} {W W' : World} {b n : Nat} {cs : Array Value} (h : Bx T W b cs) (hb : Below n W W') (hn : b < n) : Bx T W' b cs := (hb.block b hn).trans h
theorem Bx.next {T : Nat} {W W' : World} {b : Nat} {cs : Array Value} (h : Bx T W b cs) (hb : Below W.heap.size W W') : Bx T W' b cs := h.on hb h.lt
theorem Bx.kp {T : Nat} {W W' : World} {b : Nat} {A : Nat → Prop} {cs : Array Value} (h : Bx T W b cs) (hk : Ka A W W') (ha : ¬ A b) : Bx T W' b cs := (hk.block b h.lt ha).trans h
theorem Bx.alloc {T : Nat} {W : World} {b : Nat} {cs : Array Value} (h : Bx T W b cs) (o : Obj) : Bx T (W.alloc o) b cs := (Below.heap_alloc W o b h.lt).trans h
theorem Bx.new (T : Nat) (W : World) (cs : Array Value) : Bx T (W.alloc (.cells cs T)) W.heap.size cs := World.alloc_heap_new W _
theorem Bx.newd (T : Nat) (W : World) (cs : Array Value) : Bx T (W.alloc (.cells cs T)).drew W.heap.size cs := Bx.new T W cs
theorem Bx.set {T : Nat} {W : World} {b : Nat} {cs : Array Value} (h : Bx T W b cs) (j : Nat) (v : Value) : Bx T (W.setCell ⟨b, j, none⟩ v) b (cs.setIfInBounds j v) := by
  obtain ⟨hlt, hk⟩ := Array.getElem?_eq_some_iff.1 h
  show (W.heap.modify b _)[b]? = _
  rw [Array.getElem?_eq_getElem (by rw [Array.size_modify]; exact hlt), Array.getElem_modify_self, hk]
  rfl
theorem Bx.other {T : Nat} {W : World} {b : Nat} {cs : Array Value} (h : Bx T W b cs) {b' : Nat} (j : Nat) (v : Value) (hne : b ≠ b') : Bx T (W.setCell ⟨b', j, none⟩ v) b cs := (Below.heap_setCell W _ _ b hne).trans h
/-- A store into a block that is newer. -/
theorem below_set {n : Nat} {W W' : World} (h : Below n W W') {b : Nat} (hb : n ≤ b) (j : Nat) (v : Value) : Below n W (W'.setCell ⟨b, j, none⟩ v) :=
  ⟨h.os, h.tape, h.output, Nat.le_trans h.size (KeepsWalks.setCell W' _ v).size, fun k hk => (Below.heap_setCell W' _ _ k (fun e => by have e' : k = b := e; omega)).trans (h.block k hk)⟩

/-- A row of values in memory, as rows come about here, in none of A's blocks. -/
def RowV (A : Nat → Prop) (W : World) (v : Value) (vs : List Value) : Prop :=
  (∀ u ∈ vs, u.oneCell' = true) ∧ ((v = .slice none 0 0 ∧ vs = []) ∨ ∃ bk o c, v = .slice (some ⟨bk, o, none⟩) vs.length c ∧ bk < W.heap.size ∧ ¬ A bk ∧ ∀ (j : Nat) u, vs[j]? = some u → W.cell? ⟨bk, o + j, none⟩ = some u)
theorem RowV.kp {A : Nat → Prop} {W W' : World} {v : Value} {vs : List Value} (h : RowV A W v vs) (hk : Ka A W W') : RowV A W' v vs := by
  refine ⟨h.1, ?_⟩
  rcases h.2 with h | ⟨bk, o, c, h1, h2, h3, h4⟩
  · exact Or.inl h
  · exact Or.inr ⟨bk, o, c, h1, Nat.lt_of_lt_of_le h2 hk.size, h3, fun j u hj => by rw [hk.cell h2 h3]; exact h4 j u hj⟩
theorem RowV.avoid {A B : Nat → Prop} {W : World} {v : Value} {vs : List Value} (h : RowV A W v vs) (hab : ∀ k, B k → A k ∨ W.heap.size ≤ k) : RowV B W v vs := by
  refine ⟨h.1, ?_⟩
  rcases h.2 with h | ⟨bk, o, c, h1, h2, h3, h4⟩
  · exact Or.inl h
  · refine Or.inr ⟨bk, o, c, h1, h2, fun hb => ?_, h4⟩
    rcases hab bk hb with h | h
    · exact h3 h
    · omega
theorem RowV.nil (A : Nat → Prop) (W : World) : RowV A W (.slice none 0 0) [] := ⟨(fun u hu => by cases hu), Or.inl ⟨rfl, rfl⟩⟩
theorem RowV.one (A : Nat → Prop) (W : World) (T : Nat) (u : Value) (hA : ¬ A W.heap.size) (hu : u.oneCell' = true) : RowV A (W.alloc (.cells #[u] T)) (.slice (some ⟨W.heap.size, 0, none⟩) 1 1) [u] := by
  refine ⟨fun x hx => by rw [List.mem_singleton] at hx; subst hx; exact hu, Or.inr ⟨W.heap.size, 0, 1, rfl, by simp, hA, fun j x hj => ?_⟩⟩
  cases j with
  | zero => simp at hj; subst hj; exact (Bx.new T W #[u]).cell 0 u rfl
  | succ j => simp at hj
theorem RowV.val {A : Nat → Prop} {W : World} {v : Value} {vs : List Value} (h : RowV A W v vs) : ∃ g c, v = .slice g vs.length c := by
  rcases h.2 with ⟨rfl, rfl⟩ | ⟨bk, o, c, rfl, _⟩
  · exact ⟨_, _, rfl⟩
  · exact ⟨_, _, rfl⟩
theorem RowV.at {A : Nat → Prop} {W : World} {v : Value} {vs : List Value} (h : RowV A W v vs) {j : Nat} (hj : j < vs.length) : ∃ bk o c, v = .slice (some ⟨bk, o, none⟩) vs.length c ∧ bk < W.heap.size ∧ ¬ A bk ∧ W.cell? ⟨bk, o + j, none⟩ = some vs[j] := by
  rcases h.2 with ⟨_, e⟩ | ⟨bk, o, c, h1, h2, h3, h4⟩
  · subst e; simp at hj
  · exact ⟨bk, o, c, h1, h2, h3, h4 j _ (List.getElem?_eq_getElem hj)⟩
theorem RowV.own {A : Nat → Prop} {B T : Nat} {W : World} {v : Value} {vs : List Value} (h : W.ownsRow B T 1 v vs.length vs) (hA : ∀ k, v.ownBlock = some k → ¬ A k) (h1 : ∀ u ∈ vs, u.oneCell' = true) : RowV A W v vs := by
  refine ⟨h1, ?_⟩
  have hc := h
  rcases h.2 with ⟨h2, h3⟩ | ⟨g, cap, cur, hv, hB, hh, _⟩
  · exact Or.inl ⟨h2, List.length_eq_zero_iff.1 h3⟩
  · refine Or.inr ⟨g, 0, cap, hv, (Array.getElem?_eq_some_iff.1 hh).1, hA g (by rw [hv]; rfl), fun j u hj => ?_⟩
    subst hv
    have := hc.cells (g := g) rfl j _ hj
    rw [Lib.add_plain] at this
    exact this

theorem Tryz.info41 : (Tryz.prog.info? 41).map (fun i => (i.zero, i.size, i.bytes)) = some (some .nilIface, 1, 16) := by kernel_rfl
/-- A row put behind an own one. -/
theorem wpList_app {W : World} {ops : Array Oper} {rest : List Oper} {o : Oper} {a : Act} {Q : Exit → Act → World → Prop} (hgd : o.guard = none) (s x : Operand)
    (ho : o.op = .call { callee := .builtin .append, args := #[s, x], argTypes := #[45, 45] }) (A : Nat → Prop) (base : Nat) (v : Value) (xs : List Value) (hs : a.eval s = v) (hown : W.ownsRow base 41 1 v xs.length xs)
    (lv : Value) (vs : List Value) (hx : a.eval x = lv) (hr : RowV A W lv vs) (hb : base ≤ W.heap.size) (hlen : xs.length + vs.length ≤ 4096)
    (h : ∀ g c w', w'.ownsRow base 41 1 (.slice g (xs.length + vs.length) c) (xs ++ vs).length (xs ++ vs) → W.grownBy w' v.ownBlock → ((Value.slice g (xs.length + vs.length) c).ownBlock = v.ownBlock ∨ (Value.slice g (xs.length + vs.length) c).ownBlock = some W.heap.size) → wpList Tryz.prog ops Q rest (a.put o.dst (.slice g (xs.length + vs.length) c)) w') : wpList Tryz.prog ops Q (o :: rest) a W := by
  obtain ⟨i0, hi, hz0, hz1, hz2⟩ := info_parts Tryz.info41
  rcases hr.2 with ⟨rfl, rfl⟩ | ⟨bk, of, c, rfl, h2, h3, h4⟩
  · refine wpList_append_own_none hgd s x 45 ho base 41 i0 1 Tryz.underlying45 hi v xs.length xs hs hown hx ?_
    obtain ⟨g, c, e, _⟩ := Lx.own_len hown
    subst e
    exact h g c W (by rw [List.append_nil]; exact hown) (World.grownBy.refl _ _) (Or.inl rfl)
  · refine wpList_append_own_at W hgd s x 45 ho base 41 i0 .nilIface 1 16 Tryz.underlying45 hi hz0 hz1 hz2 rfl (by decide) v xs.length xs hs hown ⟨bk, of, none⟩ vs.length c vs hx (by simp) (fun j u hj => by rw [Lib.add_plain]; exact h4 j u hj) hr.1 (by unfold maxLen; omega) (by omega) hb ?_
    intro v' w' h5 h6 _ h7
    obtain ⟨g, c', e, _⟩ := Lx.own_len h5
    subst e
    exact h g c' w' (by rw [List.length_append]; exact h5) h6 h7

set_option maxHeartbeats 2000000 in
set_option maxRecDepth 100000 in
theorem grow_any (n : Nat) (w : World) (hn : n ≤ 4096) :
    Calls Tryz.prog 146 #[.slice none 0 0, .int .i64 (n : Int)] w fun e w' => ∃ g c, e = .returned (.slice g 0 c) ∧ w'.ownsRow w.heap.size 41 1 (.slice g 0 c) 0 [] ∧ Below w.heap.size w w' := by
  obtain ⟨i0, hi, hz0, hz1, hz2⟩ := info_parts Tryz.info41
  by_cases h0 : n = 0
  · subst h0
    go_enter Tryz.func146, Tryz.ntmps146
    go_wp2_with fail
    go_ret
    exact ⟨none, 0, rfl, World.ownsRow_nil _ _ _ _, Below.refl _ _⟩
  · have h1 : (0 : Int) < (n : Int) := by omega
    have h2 : ¬ ((n : Int) < 0) := by omega
    have hb : n * i0.bytes ≤ 281474976710656 := by rw [hz2]; omega
    go_enter Tryz.func146, Tryz.ntmps146
    go_wp2_with (at_builtin; refine Lib.wpList_append_run _ rfl _ _ _ _ rfl _ _ rfl rfl _ _ (Lib.run_append_nil_zeros _ 45 3 _ 41 i0 .nilIface .i64 .i64 Tryz.underlying45 Tryz.underlying3 hi hz0 n (by omega) (by rw [hz1]; decide) (by omega) hb) ?_)
    go_wp2_with fail
    go_ret
    have hg := grownCap_ge w n 0 41
    exact ⟨some ⟨w.heap.size, 0, none⟩, _, rfl, ⟨rfl, Or.inr ⟨w.heap.size, _, _, rfl, Nat.le_refl _, World.alloc_heap_new w _, Nat.zero_le _, grownCap_le_maxLen w n 0 41 (by unfold maxLen; omega), by rw [Array.size_append, size_zeroCells, size_zeroCells]; simp; omega, by simp⟩⟩, ((Below.refl _ w).alloc (Nat.le_refl _) _).drew⟩

set_option maxHeartbeats 4000000 in
set_option maxRecDepth 100000 in
theorem concat_any (A : Nat → Prop) (s0 s1 : Value) (v0 v1 : List Value) (q : Nat) (w : World) (h0 : RowV A w s0 v0) (h1 : RowV A w s1 v1) (hq : Bx 45 w q #[s0, s1]) (hl : v0.length + v1.length ≤ 4096) :
    Calls Tryz.prog 143 #[.slice (some ⟨q, 0, none⟩) 2 2] w fun e w' => ∃ g c, e = .returned (.slice g (v0.length + v1.length) c) ∧ w'.ownsRow w.heap.size 41 1 (.slice g (v0.length + v1.length) c) (v0 ++ v1).length (v0 ++ v1) ∧ Below w.heap.size w w' := by
  obtain ⟨g0, c0, rfl⟩ := h0.val
  obtain ⟨g1, c1, rfl⟩ := h1.val
  have H0 := hid h0
  have H1 := hid h1
  have HQ := hid hq
  obtain ⟨n0, hn0⟩ : ∃ n, v0.length = n := ⟨_, rfl⟩
  obtain ⟨n1, hn1⟩ : ∃ n, v1.length = n := ⟨_, rfl⟩
  have HN : Hid (v0.length = n0 ∧ v1.length = n1) := ⟨hn0, hn1⟩
  have q0 := hq.cell 0 _ rfl
  have q1 := hq.cell 1 _ rfl
  rw [hn0, hn1] at hl ⊢
  rw [hn0] at q0
  rw [hn1] at q1
  have e1 : ((n0 + n1 : Nat) : Int) = (n0 : Int) + (n1 : Int) := by omega
  clear h0 h1 hq hn0 hn1
  go_enter Tryz.func143, Tryz.ntmps143
  go_wp2_with fail
  go_loopw [3, 5, 11] (fun s3 _ s11 wr => w = wr ∧ ((s11 = .int .i64 0 ∧ s3 = .int .i64 0) ∨ (s11 = .int .i64 1 ∧ s3 = .int .i64 (n0 : Int)) ∨ (s11 = .int .i64 2 ∧ s3 = .int .i64 ((n0 + n1 : Nat) : Int)))) (fun _ _ i _ => 2 - (intOf i).toNat)
  case atStart => exact ⟨rfl, Or.inl ⟨rfl, rfl⟩⟩
  case round =>
    obtain ⟨rfl, ⟨rfl, rfl⟩ | ⟨rfl, rfl⟩ | ⟨rfl, rfl⟩⟩ := hrel
    · go_wp2_with fail
      go_roundw
      case rel => simp
      case measure => simp [intOf]
    · go_wp2_with fail
      go_roundw
      case rel => simp
      case measure => simp [intOf]
    · go_wp2_with (go_at_call 146; refine (grow_any (n0 + n1) _ hl).mono ?_)
      rintro e w2 ⟨gg, cg, rfl, ho, hb⟩
      have q0' := (hb.cell (p := ⟨q, 0, none⟩) HQ.out.lt).trans q0
      have q1' := (hb.cell (p := ⟨q, 1, none⟩) HQ.out.lt).trans q1
      have HI : Hid (w2.ownsRow w.heap.size 41 1 (.slice gg 0 cg) 0 [] ∧ Below w.heap.size w w2) := ⟨ho, hb⟩
      clear q0 q1 ho hb
      go_wp2_with fail
      go_loopw [6, 8, 27] (fun s6 _ s27 wr => ∃ (ks : List Value) (g : Option Addr) (c : Nat), s6 = .slice g ks.length c ∧ Hid (wr.ownsRow w.heap.size 41 1 (.slice g ks.length c) ks.length ks) ∧ Hid (Below w.heap.size w wr) ∧ ((s27 = .int .i64 0 ∧ ks = []) ∨ (s27 = .int .i64 1 ∧ ks = v0) ∨ (s27 = .int .i64 2 ∧ ks = v0 ++ v1))) (fun _ _ i _ => 2 - (intOf i).toNat)
      case atStart => exact ⟨[], gg, cg, rfl, HI.out.1, HI.out.2, Or.inl ⟨rfl, rfl⟩⟩
      case round =>
        clear HI
        obtain ⟨ks, g, c, rfl, HO, HB, ⟨rfl, rfl⟩ | ⟨rfl, rfl⟩ | ⟨rfl, rfl⟩⟩ := hrel
        · have p0 := (HB.out.cell (p := ⟨q, 0, none⟩) HQ.out.lt).trans (HQ.out.cell 0 _ rfl)
          have p1 := (HB.out.cell (p := ⟨q, 1, none⟩) HQ.out.lt).trans (HQ.out.cell 1 _ rfl)
          rw [HN.out.1] at p0
          clear q0' q1'
          go_wp2_with (at_builtin; refine wpList_app rfl _ _ rfl A w.heap.size _ _ rfl HO.out _ _ rfl (by have h := H0.out.kp (Ka.of_below HB.out); rw [HN.out.1] at h; exact h) HB.out.size (by have := HN.out; simp; omega) ?_)
          intro g2 c2 w3 h2 hg _
          have HX : Hid (w3.ownsRow w.heap.size 41 1 (.slice g2 v0.length c2) v0.length v0 ∧ Below w.heap.size w w3) := by
            refine ⟨by simpa using h2, HB.out.grown hg HB.out.size (fun k e => ?_)⟩
            obtain ⟨_, _, _, hh⟩ := Lx.own_len HO.out
            exact (hh k e).1
          clear h2 hg HO HB p0 p1
          go_wp2_with fail
          go_roundw
          case rel => exact ⟨v0, g2, c2, by simp, HX.out.1, HX.out.2, Or.inr (Or.inl ⟨rfl, rfl⟩)⟩
          case measure => simp [intOf]
        · have p1 := (HB.out.cell (p := ⟨q, 1, none⟩) HQ.out.lt).trans (HQ.out.cell 1 _ rfl)
          rw [HN.out.2] at p1
          clear q0' q1'
          have HO' : Hid (wr.ownsRow w.heap.size 41 1 (.slice g ks.length c) ks.length ks) := HO
          go_wp2_with (at_builtin; refine wpList_app rfl _ _ rfl A w.heap.size _ _ rfl HO.out _ _ rfl (by have h := H1.out.kp (Ka.of_below HB.out); rw [HN.out.2] at h; exact h) HB.out.size (by have := HN.out; omega) ?_)
          intro g2 c2 w3 h2 hg _
          have HX : Hid (w3.ownsRow w.heap.size 41 1 (.slice g2 (ks ++ v1).length c2) (ks ++ v1).length (ks ++ v1) ∧ Below w.heap.size w w3) := by
            refine ⟨by rw [List.length_append]; exact h2, HB.out.grown hg HB.out.size (fun k e => ?_)⟩
            obtain ⟨_, _, _, hh⟩ := Lx.own_len HO.out
            exact (hh k e).1
          clear h2 hg HO HO' HB p1
          go_wp2_with fail
          go_roundw
          case rel => exact ⟨ks ++ v1, g2, c2, by simp, HX.out.1, HX.out.2, Or.inr (Or.inr ⟨rfl, rfl⟩)⟩
          case measure => simp [intOf]
        · have HX : Hid (wr.ownsRow w.heap.size 41 1 (.slice g (v0 ++ v1).length c) (v0 ++ v1).length (v0 ++ v1)) := HO
          have el : (v0 ++ v1).length = n0 + n1 := by rw [List.length_append, HN.out.1, HN.out.2]
          go_wp2_with fail
          go_ret
          have h := HX.out
          rw [show Value.slice g (v0 ++ v1).length c = Value.slice g (n0 + n1) c by rw [el]] at h
          exact ⟨g, c, by rw [el]; rfl, h, HB.out⟩
/-! A function's own result box, beside the block z: what lies else stays. -/
def cel (w : World) (p : Addr) : Value := (w.cell? p).getD (.bool false)
theorem cel_is {w : World} {p : Addr} {v : Value} (h : w.cell? p = some v) : w.cell? p = some (cel w p) := by unfold cel; rw [h]; rfl
/-- A's blocks and R's. -/
def orR (A : Nat → Prop) (R : Nat) : Nat → Prop := fun k => A k ∨ k = R
structure Ki (A : Nat → Prop) (R T : Nat) (W W' : World) : Prop where
  kp : Ka (orR A R) W W'
  box : ∃ u0 u1 u2, Bx T W' R #[u0, u1, u2]
theorem Ki.refl {A : Nat → Prop} {R T : Nat} {W : World} {u0 u1 u2 : Value} (h : Bx T W R #[u0, u1, u2]) : Ki A R T W W := ⟨Ka.refl _ _, _, _, _, h⟩
theorem Ki.call {A : Nat → Prop} {R T : Nat} {W W1 W2 : World} (h : Ki A R T W W1) (hz : ¬ A R) (hk : Ka A W1 W2) : Ki A R T W W2 := by
  obtain ⟨u0, u1, u2, hb⟩ := h.box
  exact ⟨h.kp.next (hk.mono fun _ _ h => Or.inl h), u0, u1, u2, hb.kp hk hz⟩
theorem Ki.below {A : Nat → Prop} {R T : Nat} {W W1 W2 : World} (h : Ki A R T W W1) (hk : Below W1.heap.size W1 W2) : Ki A R T W W2 := by
  obtain ⟨u0, u1, u2, hb⟩ := h.box
  exact ⟨h.kp.next (Ka.of_below hk), u0, u1, u2, hb.next hk⟩
theorem Ki.alloc {A : Nat → Prop} {R T : Nat} {W W1 : World} (h : Ki A R T W W1) (o : Obj) : Ki A R T W (W1.alloc o) := h.below ((Below.refl _ W1).alloc (Nat.le_refl _) o)
theorem Ki.drew {A : Nat → Prop} {R T : Nat} {W W1 : World} (h : Ki A R T W W1) : Ki A R T W W1.drew := h.below (Below.refl _ W1).drew
theorem orR_row {A : Nat → Prop} {R : Nat} : ∀ k, some R = some k → orR A R k := fun k e => Or.inr (Option.some.inj e).symm
theorem Ki.set0 {A : Nat → Prop} {R T : Nat} {W W1 : World} (h : Ki A R T W W1) (v : Value) : Ki A R T W (W1.setCell ⟨R, 0, none⟩ v) := by
  obtain ⟨u0, u1, u2, hb⟩ := h.box
  exact ⟨h.kp.next (Ka.of_grown (grown_set W1 R 0 v) orR_row), v, u1, u2, hb.set 0 v⟩
theorem Ki.set1 {A : Nat → Prop} {R T : Nat} {W W1 : World} (h : Ki A R T W W1) (v : Value) : Ki A R T W (W1.setCell ⟨R, 1, none⟩ v) := by
  obtain ⟨u0, u1, u2, hb⟩ := h.box
  exact ⟨h.kp.next (Ka.of_grown (grown_set W1 R 1 v) orR_row), u0, v, u2, hb.set 1 v⟩
theorem Ki.set2 {A : Nat → Prop} {R T : Nat} {W W1 : World} (h : Ki A R T W W1) (v : Value) : Ki A R T W (W1.setCell ⟨R, 2, none⟩ v) := by
  obtain ⟨u0, u1, u2, hb⟩ := h.box
  exact ⟨h.kp.next (Ka.of_grown (grown_set W1 R 2 v) orR_row), u0, u1, v, hb.set 2 v⟩
/-- All three cells are stored. -/
abbrev st3 (W : World) (R : Nat) (v0 v1 v2 : Value) : World := ((W.setCell ⟨R, 0, none⟩ v0).setCell ⟨R, 1, none⟩ v1).setCell ⟨R, 2, none⟩ v2
theorem Ki.st3 {A : Nat → Prop} {R T : Nat} {W W1 : World} (h : Ki A R T W W1) (v0 v1 v2 : Value) : Bx T (st3 W1 R v0 v1 v2) R #[v0, v1, v2] ∧ Ka (orR A R) W (Go.Proofs.YtjamknejllbmkaaGreatDoor.st3 W1 R v0 v1 v2) := by
  obtain ⟨u0, u1, u2, hb⟩ := h.box
  exact ⟨((hb.set 0 v0).set 1 v1).set 2 v2, (((h.set0 v0).set1 v1).set2 v2).kp⟩
/-- What a load and a store of the box ask. -/
def Free (R : Nat) (W : World) : Prop := R < W.heap.size ∧ (W.cell? ⟨R, 0, none⟩ = some (cel W ⟨R, 0, none⟩) ∧ W.cell? ⟨R, 1, none⟩ = some (cel W ⟨R, 1, none⟩) ∧ W.cell? ⟨R, 2, none⟩ = some (cel W ⟨R, 2, none⟩)) ∧ W.frozen? ⟨R, 0, none⟩ = false ∧ W.frozen? ⟨R, 1, none⟩ = false ∧ W.frozen? ⟨R, 2, none⟩ = false
theorem Ki.free {A : Nat → Prop} {R T : Nat} {W W1 : World} (h : Ki A R T W W1) : Free R W1 := by
  obtain ⟨u0, u1, u2, hb⟩ := h.box
  exact ⟨hb.lt, ⟨cel_is (hb.cell 0 _ rfl), cel_is (hb.cell 1 _ rfl), cel_is (hb.cell 2 _ rfl)⟩, hb.frozen 0, hb.frozen 1, hb.frozen 2⟩
/-- Behind it: the box is new, so nothing that lay was turned but A's blocks. -/
theorem Ka.unbox {A : Nat → Prop} {R : Nat} {w W W' : World} (h0 : Ka A w W) (h : Ka (orR A R) W W') (hR : w.heap.size ≤ R) : Ka A w W' :=
  ⟨h.os.trans h0.os, h.tape.trans h0.tape, h.output.trans h0.output, Nat.le_trans h0.size h.size, fun k hk ha => by
    rw [h.block k (Nat.lt_of_lt_of_le hk h0.size) (by rintro (e | e); exact ha e; omega), h0.block k hk ha]⟩
abbrev No : Nat → Prop := fun _ => False
theorem Ka.none {w W : World} (h : Ka No w W) : Below w.heap.size w W := h.below (Nat.le_refl _) (fun _ e => e.elim)
theorem own_st3 {W : World} {B e size n R : Nat} {v : Value} {xs : List Value} (h : W.ownsRow B e size v n xs) (hR : R < B) (v0 v1 v2 : Value) : (Go.Proofs.YtjamknejllbmkaaGreatDoor.st3 W R v0 v1 v2).ownsRow B e size v n xs :=
  own_keep h fun k hk _ _ => by
    have hne : ∀ j, k ≠ (⟨R, j, none⟩ : Addr).block := fun j e => by have e' : k = R := e; omega
    exact (Below.heap_setCell _ _ _ k (hne 2)).trans ((Below.heap_setCell _ _ _ k (hne 1)).trans (Below.heap_setCell _ _ _ k (hne 0)))
theorem grabE {e : Exit} {a : Act} {W : World} {k : Act → World → Prop} {Q : Exit → Act → World → Prop} (p : World → Prop) (h : p W) (g : ∀ W', p W' → Exit.then k Q e a W') : Exit.then k Q e a W := g W h
theorem grabK {P : Program} {f : Nat} {args : Array Value} {W : World} {Q : Ending → World → Prop} (p : World → Prop) (h : p W) (k : ∀ W', p W' → Calls P f args W' Q) : Calls P f args W Q := k W h
theorem grabW {P : Program} {c : Code} {Q : Exit → Act → World → Prop} {a : Act} {W : World} (p : World → Prop) (h : p W) (k : ∀ W', p W' → Code.wp P c Q a W') : Code.wp P c Q a W := k W h
end Go.Proofs.YtjamknejllbmkaaGreatDoor

namespace Go.Proofs.YtjamknejllbmkaaGreatDoor
open Go.RowKit
set_option linter.unusedVariables false
attribute [local go_sem ↓] Go.wp_at_zero Go.wp_at_succ

/-- A body's slice, as the program holds it. -/
def Bdy (W0 : World) (P : List Df) (d : Nat) (v : Value) : Prop := ∃ g c df, P[d]? = some df ∧ v = .slice g df.body.length c ∧ Exs W0 g df.body
abbrev prtV (bv : Value) (a : Nat) (lv : Value) : Value := .agg #[bv, .int .i64 (a : Int), lv]
/-- What a level holds. -/
inductive ThAt (W0 : World) (P : List Df) (A : Nat → Prop) (W : World) : Value → Th → Prop where
  | giv (s : Wdn) : ThAt W0 P A W (.iface 102 (.string ⟨s.toArray⟩)) (.giv s)
  | prt (d a : Nat) (ls : List Th) (bv lv : Value) (vs : List Value) (hb : Bdy W0 P d bv) (hr : RowV A W lv vs) (hn : vs.length = ls.length)
      (hl : ∀ (j : Nat) u l, vs[j]? = some u → ls[j]? = some l → ThAt W0 P A W u l) : ThAt W0 P A W (.iface 77 (prtV bv a lv)) (.prt d a ls)
/-- Levels in a row. -/
def LsAt (W0 : World) (P : List Df) (A : Nat → Prop) (W : World) (v : Value) (ls : List Th) : Prop :=
  ∃ vs, RowV A W v vs ∧ vs.length = ls.length ∧ ∀ (j : Nat) u l, vs[j]? = some u → ls[j]? = some l → ThAt W0 P A W u l
/-- A part's value. -/
def PtAt (W0 : World) (P : List Df) (A : Nat → Prop) (W : World) (v : Value) (d a : Nat) (ls : List Th) : Prop := ∃ bv lv, v = prtV bv a lv ∧ Bdy W0 P d bv ∧ LsAt W0 P A W lv ls
theorem ThAt.kp {W0 : World} {P : List Df} {A : Nat → Prop} {W W' : World} {v : Value} {t : Th} (h : ThAt W0 P A W v t) (hk : Ka A W W') : ThAt W0 P A W' v t := by
  induction h with
  | giv s => exact .giv s
  | prt d a ls bv lv vs hb hr hn hl ih => exact .prt d a ls bv lv vs hb (hr.kp hk) hn ih
theorem LsAt.kp {W0 : World} {P : List Df} {A : Nat → Prop} {W W' : World} {v : Value} {ls : List Th} (h : LsAt W0 P A W v ls) (hk : Ka A W W') : LsAt W0 P A W' v ls := by
  obtain ⟨vs, h1, h2, h3⟩ := h
  exact ⟨vs, h1.kp hk, h2, fun j u l hu hl => (h3 j u l hu hl).kp hk⟩
theorem PtAt.kp {W0 : World} {P : List Df} {A : Nat → Prop} {W W' : World} {v : Value} {d a : Nat} {ls : List Th} (h : PtAt W0 P A W v d a ls) (hk : Ka A W W') : PtAt W0 P A W' v d a ls := by
  obtain ⟨bv, lv, h1, h2, h3⟩ := h
  exact ⟨bv, lv, h1, h2, h3.kp hk⟩
theorem PtAt.thing {W0 : World} {P : List Df} {A : Nat → Prop} {W : World} {v : Value} {d a : Nat} {ls : List Th} (h : PtAt W0 P A W v d a ls) : ThAt W0 P A W (.iface 77 v) (.prt d a ls) := by
  obtain ⟨bv, lv, rfl, h2, vs, h3, h4, h5⟩ := h
  exact .prt d a ls bv lv vs h2 h3 h4 h5
theorem LsAt.nil (W0 : World) (P : List Df) (A : Nat → Prop) (W : World) : LsAt W0 P A W (.slice none 0 0) [] := ⟨[], RowV.nil A W, rfl, fun j u l hu => by simp at hu⟩
theorem LsAt.val {W0 : World} {P : List Df} {A : Nat → Prop} {W : World} {v : Value} {ls : List Th} (h : LsAt W0 P A W v ls) : ∃ g c, v = .slice g ls.length c := by
  obtain ⟨vs, h1, h2, _⟩ := h
  obtain ⟨g, c, e⟩ := h1.val
  rw [h2] at e
  exact ⟨g, c, e⟩
theorem LsAt.at {W0 : World} {P : List Df} {A : Nat → Prop} {W : World} {v : Value} {ls : List Th} (h : LsAt W0 P A W v ls) {j : Nat} {l : Th} (hj : ls[j]? = some l) :
    ∃ bk o c u, v = .slice (some ⟨bk, o, none⟩) ls.length c ∧ bk < W.heap.size ∧ ¬ A bk ∧ W.cell? ⟨bk, o + j, none⟩ = some u ∧ ThAt W0 P A W u l := by
  obtain ⟨vs, h1, h2, h3⟩ := h
  have hlt : j < vs.length := by rw [h2]; exact (List.getElem?_eq_some_iff.1 hj).1
  obtain ⟨bk, o, c, e, h5, h6, h7⟩ := h1.at hlt
  rw [h2] at e
  exact ⟨bk, o, c, _, e, h5, h6, h7, h3 j _ l (List.getElem?_eq_getElem hlt) hj⟩
theorem ThAt.one {W0 : World} {P : List Df} {A : Nat → Prop} {W : World} {v : Value} {t : Th} (h : ThAt W0 P A W v t) : v.oneCell' = true := by cases h <;> rfl
/-- A row that is owned, its values told. -/
theorem LsAt.own {W0 : World} {P : List Df} {A : Nat → Prop} {B : Nat} {W : World} {v : Value} {vs : List Value} {ls : List Th} (h : W.ownsRow B 41 1 v vs.length vs) (hz : ∀ k, v.ownBlock = some k → ¬ A k) (hn : vs.length = ls.length)
    (hl : ∀ (j : Nat) u l, vs[j]? = some u → ls[j]? = some l → ThAt W0 P A W u l) : LsAt W0 P A W v ls := by
  refine ⟨vs, RowV.own h hz ?_, hn, hl⟩
  intro u hu
  obtain ⟨j, hj⟩ := List.getElem?_of_mem hu
  have hlt : j < ls.length := by rw [← hn]; exact (List.getElem?_eq_some_iff.1 hj).1
  exact (hl j u _ hj (List.getElem?_eq_getElem hlt)).one
theorem LsAt.app {W0 : World} {P : List Df} {A : Nat → Prop} {B : Nat} {W W' : World} {v v0 v1 : Value} {us ws : List Value} {ls ms : List Th} (h : W'.ownsRow B 41 1 v (us ++ ws).length (us ++ ws)) (hz : ∀ k, v.ownBlock = some k → ¬ A k)
    (hk : Ka A W W') (hu : us.length = ls.length) (hus : ∀ (j : Nat) u l, us[j]? = some u → ls[j]? = some l → ThAt W0 P A W u l) (hw : ws.length = ms.length) (hws : ∀ (j : Nat) u l, ws[j]? = some u → ms[j]? = some l → ThAt W0 P A W u l) : LsAt W0 P A W' v (ls ++ ms) := by
  refine LsAt.own h hz (by simp [hu, hw]) ?_
  intro j u l hj hl
  by_cases hi : j < us.length
  · rw [List.getElem?_append_left hi] at hj
    rw [List.getElem?_append_left (by rw [← hu]; exact hi)] at hl
    exact (hus j u l hj hl).kp hk
  · rw [List.getElem?_append_right (by omega)] at hj
    rw [List.getElem?_append_right (by omega), ← hu] at hl
    exact (hws _ u l hj hl).kp hk

/-- One part as the program holds it. -/
theorem Bdy.part {W0 W : World} {P : List Df} {d a : Nat} {bv : Value} {x : Ex} (h : Bdy W0 P d bv) (hb : Below W0.heap.size W0 W) (hx : (bodyAt P d)[a]? = some x) :
    ∃ bk o n c gk ck, bv = .slice (some ⟨bk, o, none⟩) n c ∧ a < n ∧ bk < W0.heap.size ∧ bk < W.heap.size ∧ ExAt W bk (o + a * 4) x gk ck := by
  obtain ⟨g, c, df, h1, rfl, h3⟩ := h
  have e : bodyAt P d = df.body := by unfold bodyAt; rw [h1]
  rw [e] at hx
  have hlt := (List.getElem?_eq_some_iff.1 hx).1
  have h4 := h3.on hb
  rcases h3 with h3 | ⟨bk, o, rfl, h5, h6⟩
  · rw [h3] at hlt; simp at hlt
  · obtain ⟨gk, ck, h7⟩ := h6 a x hx
    exact ⟨bk, o, _, c, gk, ck, rfl, hlt, h5, Nat.lt_of_lt_of_le h5 hb.size, h7.on h5 hb⟩

set_option maxHeartbeats 4000000 in
set_option maxRecDepth 100000 in
/-- kid, on cells. -/
theorem kid_cells (A : Nat → Prop) (a i nb cb nk ck bk o kb ko : Nat) (k : Int) (lv mv : Value) (us ws : List Value) (w : World) (h0 : RowV A w lv us) (h1 : RowV A w mv ws) (ha : a < nb) (hi : i < nk)
    (hbk : bk < w.heap.size) (hkb : kb < w.heap.size) (hx : w.cell? ⟨bk, o + a * 4 + 3, none⟩ = some (.slice (some ⟨kb, ko, none⟩) nk ck)) (hk : w.cell? ⟨kb, ko + i, none⟩ = some (.int .i64 k)) (hl : us.length + ws.length ≤ 4096) :
    Calls Tryz.prog 141 #[prtV (.slice (some ⟨bk, o, none⟩) nb cb) a lv, .int .i64 (i : Int), mv] w fun e w' =>
      ∃ g c, e = .returned (.agg #[.slice (some ⟨bk, o, none⟩) nb cb, .int .i64 k, .slice g (us.length + ws.length) c]) ∧ w'.ownsRow w.heap.size 41 1 (.slice g (us.length + ws.length) c) (us ++ ws).length (us ++ ws) ∧ Below w.heap.size w w' := by
  have ha' : (a : Int) < (nb : Int) := by omega
  have hi' : (i : Int) < (nk : Int) := by omega
  obtain ⟨g0, c0, rfl⟩ := h0.val
  obtain ⟨g1, c1, rfl⟩ := h1.val
  have HR : Hid (RowV A w (.slice g0 us.length c0) us ∧ RowV A w (.slice g1 ws.length c1) ws) := ⟨h0, h1⟩
  obtain ⟨n0, hn0⟩ : ∃ n, us.length = n := ⟨_, rfl⟩
  obtain ⟨n1, hn1⟩ : ∃ n, ws.length = n := ⟨_, rfl⟩
  have HN : Hid (us.length = n0 ∧ ws.length = n1) := ⟨hn0, hn1⟩
  rw [hn0, hn1] at hl ⊢
  clear h0 h1 hn0 hn1
  have hP := Bx.new 77 w #[.slice (some ⟨bk, o, none⟩) nb cb, .int .i64 (a : Int), .slice g0 n0 c0]
  go_enter Tryz.func141, Tryz.ntmps141
  go_wp2_with fail
  refine grabW (fun W => Below w.heap.size w W ∧ Bx 77 W w.heap.size #[.slice (some ⟨bk, o, none⟩) nb cb, .int .i64 (a : Int), .slice g0 n0 c0] ∧ Bx 77 W (w.heap.size + 1) #[.slice none 0 0, .int .i64 0, .slice none 0 0] ∧ W.heap.size = w.heap.size + 2) ?_ (fun W hW => ?_)
  · refine ⟨((Below.refl _ w).alloc (Nat.le_refl _) _).alloc (by simp) _, hP.alloc _, ?_, by simp⟩
    have := Bx.new 77 (w.alloc (Obj.cells #[.slice (some ⟨bk, o, none⟩) nb cb, .int .i64 (a : Int), .slice g0 n0 c0] 77)) #[.slice none 0 0, .int .i64 0, .slice none 0 0]
    rw [World.size_alloc] at this
    exact this
  obtain ⟨hb, hp, hr, hs⟩ := hW
  obtain ⟨R, hR⟩ : ∃ R, w.heap.size + 1 = R := ⟨_, rfl⟩
  have HB : Hid (w.heap.size + 1 = R) := hR
  rw [hR] at hr
  have HK : Hid (Ki No R 77 W W) := Ki.refl hr
  have hall : ∀ W', Ki No R 77 W W' → Ki No R 77 W W' ∧ W'.cell? ⟨w.heap.size, 0, none⟩ = some (.slice (some ⟨bk, o, none⟩) nb cb) ∧ W'.cell? ⟨w.heap.size, 1, none⟩ = some (.int .i64 (a : Int)) ∧ W'.cell? ⟨w.heap.size, 2, none⟩ = some (.slice g0 n0 c0) ∧ W'.cell? ⟨bk, o + a * 4 + 3, none⟩ = some (.slice (some ⟨kb, ko, none⟩) nk ck) ∧ W'.cell? ⟨kb, ko + i, none⟩ = some (.int .i64 k)
      ∧ W'.cell? ⟨R, 0, none⟩ = some (cel W' ⟨R, 0, none⟩) ∧ W'.cell? ⟨R, 1, none⟩ = some (cel W' ⟨R, 1, none⟩) ∧ W'.cell? ⟨R, 2, none⟩ = some (cel W' ⟨R, 2, none⟩) ∧ W'.frozen? ⟨R, 0, none⟩ = false ∧ W'.frozen? ⟨R, 1, none⟩ = false ∧ W'.frozen? ⟨R, 2, none⟩ = false := by
    intro W' h
    have hf := h.free
    have hp' := hp.kp h.kp (by rintro (e | e); exact e; omega)
    have hbk' : bk < W.heap.size := Nat.lt_of_lt_of_le hbk hb.size
    have hkb' : kb < W.heap.size := Nat.lt_of_lt_of_le hkb hb.size
    have f1 : bk ≠ R := by omega
    have f2 : kb ≠ R := by omega
    refine ⟨h, hp'.cell 0 _ rfl, hp'.cell 1 _ rfl, hp'.cell 2 _ rfl, ?_, ?_, hf.2.1.1, hf.2.1.2.1, hf.2.1.2.2, hf.2.2.1, hf.2.2.2.1, hf.2.2.2.2⟩
    · rw [h.kp.cell hbk' (by rintro (e | e); exact e; exact f1 e), hb.cell (p := ⟨bk, o + a * 4 + 3, none⟩) hbk]; exact hx
    · rw [h.kp.cell hkb' (by rintro (e | e); exact e; exact f2 e), hb.cell (p := ⟨kb, ko + i, none⟩) hkb]; exact hk
  have HA := hid hall
  have HW : Hid (Below w.heap.size w W) := hb
  have HS : Hid (W.heap.size = w.heap.size + 2) := hs
  have HC : Hid (∀ W1 q, Below w.heap.size w W1 → Bx 45 W1 q #[.slice g0 n0 c0, .slice g1 n1 c1] → Calls Tryz.prog 143 #[.slice (some ⟨q, 0, none⟩) 2 2] W1 fun e w' =>
      ∃ g c, e = .returned (.slice g (n0 + n1) c) ∧ w'.ownsRow W1.heap.size 41 1 (.slice g (n0 + n1) c) (us ++ ws).length (us ++ ws) ∧ Below W1.heap.size W1 w') := by
    intro W1 q h1 h2
    have k0 := HR.out.1.kp (Ka.of_below h1)
    have k1 := HR.out.2.kp (Ka.of_below h1)
    rw [HN.out.1] at k0
    rw [HN.out.2] at k1
    refine (concat_any A (.slice g0 n0 c0) (.slice g1 n1 c1) us ws q W1 k0 k1 h2 (by rw [HN.out.1, HN.out.2]; exact hl)).mono ?_
    rintro e w3 ⟨g3, c3, rfl, ho3, hb3⟩
    rw [HN.out.1, HN.out.2] at ho3 ⊢
    exact ⟨g3, c3, rfl, ho3, hb3⟩
  clear hall hp hr hx hk hs
  rw [hR]
  obtain ⟨_, e0, e1, e2, e3, e4, e5, e6, e7, e8, e9, e10⟩ := HA.out W HK.out
  go_region_held3 (fun W' => Ki No R 77 W W' ∧ W'.cell? ⟨w.heap.size, 0, none⟩ = some (.slice (some ⟨bk, o, none⟩) nb cb) ∧ W'.cell? ⟨w.heap.size, 1, none⟩ = some (.int .i64 (a : Int)) ∧ W'.cell? ⟨w.heap.size, 2, none⟩ = some (.slice g0 n0 c0) ∧ W'.cell? ⟨bk, o + a * 4 + 3, none⟩ = some (.slice (some ⟨kb, ko, none⟩) nk ck) ∧ W'.cell? ⟨kb, ko + i, none⟩ = some (.int .i64 k)
      ∧ W'.cell? ⟨R, 0, none⟩ = some (cel W' ⟨R, 0, none⟩) ∧ W'.cell? ⟨R, 1, none⟩ = some (cel W' ⟨R, 1, none⟩) ∧ W'.cell? ⟨R, 2, none⟩ = some (cel W' ⟨R, 2, none⟩) ∧ W'.frozen? ⟨R, 0, none⟩ = false ∧ W'.frozen? ⟨R, 1, none⟩ = false ∧ W'.frozen? ⟨R, 2, none⟩ = false)
    (exact HA.out _ (by repeat (first | exact HK.out | exact HKI.out | (with_reducible refine Ki.set0 ?_ _) | (with_reducible refine Ki.set1 ?_ _) | (with_reducible refine Ki.set2 ?_ _) | (with_reducible refine Ki.alloc ?_ _) | (with_reducible refine Ki.drew ?_))))
    ((go_at_call 143; refine (HC.out _ _ (HW.out.alloc HW.out.size _).drew (Bx.newd 45 _ _)).mono ?_; rintro e w3 ⟨g3, c3, rfl, ho3, hb3⟩; have HKI : Hid (Ki No R 77 W w3) := ((HK.out.alloc _).drew).below hb3; have HO : Hid (w3.ownsRow (W.heap.size + 1) 41 1 (.slice g3 (n0 + n1) c3) (us ++ ws).length (us ++ ws)) := Lx.own_base ho3 (by simp); clear ho3 hb3))
  all_goals
    refine grabE (fun W9 => Bx 77 W9 R #[.slice (some ⟨bk, o, none⟩) nb cb, .int .i64 k, .slice g3 (n0 + n1) c3] ∧ W9.ownsRow w.heap.size 41 1 (.slice g3 (n0 + n1) c3) (us ++ ws).length (us ++ ws) ∧ Below w.heap.size w W9) ?_ (fun W9 h9 => ?_)
    · obtain ⟨h1, h2⟩ := HKI.out.st3 (.slice (some ⟨bk, o, none⟩) nb cb) (.int .i64 k) (.slice g3 (n0 + n1) c3)
      have h3 := HS.out
      have h4 := HB.out
      exact ⟨h1, Lx.own_base (own_st3 HO.out (by omega) _ _ _) (by omega), (Ka.unbox (Ka.of_below HW.out) h2 (by omega)).none⟩
    clear e0 e1 e2 e3 e4 e5 e6 e7 e8 e9 e10
    obtain ⟨h1, h2, h3⟩ := h9
    have q0 := h1.cell 0 _ rfl
    have q1 := h1.cell 1 _ rfl
    have q2 := h1.cell 2 _ rfl
    have ql := h1.lt
    clear h1
    go_wp2_with fail
    refine bodyPost_ret (v := .agg #[.slice (some ⟨bk, o, none⟩) nb cb, .int .i64 k, .slice g3 (n0 + n1) c3]) (by simp [results, Tryz.results141, go_sem, q0, q1, q2]) rfl ⟨g3, c3, rfl, h2, h3⟩
end Go.Proofs.YtjamknejllbmkaaGreatDoor

namespace Go.Proofs.YtjamknejllbmkaaGreatDoor
open Go.RowKit
set_option linter.unusedVariables false

theorem ThAt.avoid {W0 : World} {P : List Df} {A B : Nat → Prop} {W : World} {v : Value} {t : Th} (h : ThAt W0 P A W v t) (hab : ∀ k, B k → A k ∨ W.heap.size ≤ k) : ThAt W0 P B W v t := by
  induction h with
  | giv s => exact .giv s
  | prt d a ls bv lv vs hb hr hn hl ih => exact .prt d a ls bv lv vs hb (hr.avoid hab) hn ih
theorem LsAt.avoid {W0 : World} {P : List Df} {A B : Nat → Prop} {W : World} {v : Value} {ls : List Th} (h : LsAt W0 P A W v ls) (hab : ∀ k, B k → A k ∨ W.heap.size ≤ k) : LsAt W0 P B W v ls := by
  obtain ⟨vs, h1, h2, h3⟩ := h
  exact ⟨vs, h1.avoid hab, h2, fun j u l hu hl => (h3 j u l hu hl).avoid hab⟩
theorem PtAt.avoid {W0 : World} {P : List Df} {A B : Nat → Prop} {W : World} {v : Value} {d a : Nat} {ls : List Th} (h : PtAt W0 P A W v d a ls) (hab : ∀ k, B k → A k ∨ W.heap.size ≤ k) : PtAt W0 P B W v d a ls := by
  obtain ⟨bv, lv, h1, h2, h3⟩ := h
  exact ⟨bv, lv, h1, h2, h3.avoid hab⟩
theorem PtAt.one {W0 : World} {P : List Df} {A : Nat → Prop} {W : World} {v : Value} {t : Th} {j : Nat} {T : Nat} (h : ThAt W0 P A W v t) (hA : ¬ A W.heap.size) : LsAt W0 P A (W.alloc (.cells #[v] T)) (.slice (some ⟨W.heap.size, 0, none⟩) 1 1) [t] := by
  refine ⟨[v], RowV.one A W T v hA h.one, rfl, fun j u l hu hl => ?_⟩
  cases j with
  | zero => simp at hu hl; subst hu; subst hl; exact h.kp (Ka.of_below ((Below.refl _ W).alloc (Nat.le_refl _) _))
  | succ j => simp at hu

/-- kid, at a part. -/
theorem kid_at {W0 : World} {P : List Df} {A : Nat → Prop} {W : World} {pv mv : Value} {d a i : Nat} {ls more : List Th} {x : Ex} {k : Int} (hb0 : Below W0.heap.size W0 W) (hA : ∀ k, A k → k < W.heap.size) (hp : PtAt W0 P A W pv d a ls)
    (hx : (bodyAt P d)[a]? = some x) (hi : x.kids[i]? = some k) (hk : 0 ≤ k) (hm : LsAt W0 P A W mv more) (hl : ls.length + more.length ≤ 4096) :
    Calls Tryz.prog 141 #[pv, .int .i64 (i : Int), mv] W fun e w' => ∃ v, e = .returned v ∧ PtAt W0 P A w' v d k.toNat (ls ++ more) ∧ Below W.heap.size W w' := by
  obtain ⟨bv, lv, rfl, hb, us, hu, hun, hus⟩ := hp
  obtain ⟨ws, hw, hwn, hws⟩ := hm
  obtain ⟨bk, o, n, c, gk, ck, rfl, han, hbk0, hbk, hx0, hx1, hx2, hx3, hx4⟩ := hb.part hb0 hx
  have hik : i < x.kids.length := (List.getElem?_eq_some_iff.1 hi).1
  obtain ⟨kb, ko, rfl, hkb, hkc⟩ := hx4.at hik
  have e : x.kids[i] = k := by
    have := List.getElem?_eq_getElem hik
    rw [this] at hi; exact Option.some.inj hi
  rw [e] at hkc
  refine (kid_cells A a i n c x.kids.length ck bk o kb ko k lv mv us ws W hu hw han hik hbk hkb hx3 hkc (by omega)).mono ?_
  rintro e w' ⟨g, c', rfl, ho, hbel⟩
  refine ⟨_, rfl, ⟨.slice (some ⟨bk, o, none⟩) n c, .slice g (us.length + ws.length) c', ?_, hb, ?_⟩, hbel⟩
  · show Value.agg _ = Value.agg #[_, .int .i64 ((k.toNat : Nat) : Int), _]
    rw [Int.toNat_of_nonneg hk]
  · exact LsAt.app (v0 := .nilFunc) (v1 := .nilFunc) ho (fun k hk hA' => by have h1 := (World.ownsRow.lt ho k hk).1; have h2 := hA k hA'; omega) (Ka.of_below hbel) hun hus hwn hws

/-- A's blocks and that row's. -/
def orO (A : Nat → Prop) (v : Value) : Nat → Prop := fun k => A k ∨ v.ownBlock = some k
/-- Things told in an own row, while it grows. -/
structure Gr (W0 : World) (P : List Df) (A : Nat → Prop) (B : Nat) (W : World) (v : Value) (ts : List Th) : Prop where
  own : ∃ us, W.ownsRow B 41 1 v us.length us ∧ us.length = ts.length ∧ ∀ (j : Nat) u l, us[j]? = some u → ts[j]? = some l → ThAt W0 P (orO A v) W u l
theorem Gr.nil (W0 : World) (P : List Df) (A : Nat → Prop) (B : Nat) (W : World) : Gr W0 P A B W (.slice none 0 0) [] :=
  ⟨[], World.ownsRow_nil _ _ _ _, rfl, fun j u l hu => by simp at hu⟩
theorem Gr.val {W0 : World} {P : List Df} {A : Nat → Prop} {B : Nat} {W : World} {v : Value} {ts : List Th} (h : Gr W0 P A B W v ts) : ∃ g c, v = .slice g ts.length c := by
  obtain ⟨us, h1, h2, _⟩ := h.own
  obtain ⟨g, c, e, _⟩ := Lx.own_len h1
  rw [h2] at e
  exact ⟨g, c, e⟩
theorem Gr.lt {W0 : World} {P : List Df} {A : Nat → Prop} {B : Nat} {W : World} {v : Value} {ts : List Th} (h : Gr W0 P A B W v ts) : ∀ k, v.ownBlock = some k → B ≤ k ∧ k < W.heap.size := by
  obtain ⟨us, h1, h2, _⟩ := h.own
  exact fun k hk => World.ownsRow.lt h1 k hk
theorem Gr.next {W0 : World} {P : List Df} {A : Nat → Prop} {B : Nat} {W W' : World} {v : Value} {ts : List Th} (h : Gr W0 P A B W v ts) (hb : Below W.heap.size W W') : Gr W0 P A B W' v ts := by
  obtain ⟨us, h1, h2, h3⟩ := h.own
  exact ⟨us, Lx.own_below h1 hb, h2, fun j u l hu hl => (h3 j u l hu hl).kp (Ka.of_below hb)⟩
theorem Gr.ls {W0 : World} {P : List Df} {A : Nat → Prop} {B : Nat} {W : World} {v : Value} {ts : List Th} (h : Gr W0 P A B W v ts) (hA : ∀ k, A k → k < B) : LsAt W0 P A W v ts := by
  obtain ⟨us, h1, h2, h3⟩ := h.own
  exact LsAt.own h1 (fun k hk ha => by have := (World.ownsRow.lt h1 k hk).1; have := hA k ha; omega) h2 (fun j u l hu hl => (h3 j u l hu hl).avoid (fun k hk => Or.inl (Or.inl hk)))
/-- One thing more is put behind it. -/
theorem Gr.put {W0 : World} {P : List Df} {A : Nat → Prop} {B : Nat} {W W' : World} {v v' u : Value} {us : List Value} {ts : List Th} {t : Th} (h1 : W.ownsRow B 41 1 v us.length us) (h2 : us.length = ts.length) (h3 : ∀ (j : Nat) u l, us[j]? = some u → ts[j]? = some l → ThAt W0 P (orO A v) W u l)
    (hu : ThAt W0 P (orO A v) W u t) (h4 : W'.ownsRow B 41 1 v' (us ++ [u]).length (us ++ [u])) (hg : W.grownBy W' v.ownBlock) (hv : v'.ownBlock = v.ownBlock ∨ v'.ownBlock = some W.heap.size) : Gr W0 P A B W' v' (ts ++ [t]) := by
  have hk : ∀ {x : Value} {l : Th}, ThAt W0 P (orO A v) W x l → ThAt W0 P (orO A v') W' x l := by
    intro x l hx
    refine ((hx.avoid (B := fun k => orO A v k ∨ v'.ownBlock = some k) ?_).kp (Ka.of_grown hg (fun k hk => Or.inl (Or.inr hk)))).avoid (fun k hk => Or.inl ?_)
    · rintro k (hk | hk)
      · exact Or.inl hk
      · rcases hv with e | e
        · exact Or.inl (Or.inr (by rw [← e]; exact hk))
        · rw [e] at hk; have := Option.some.inj hk; right; omega
    · rcases hk with hk | hk
      · exact Or.inl (Or.inl hk)
      · exact Or.inr hk
  refine ⟨us ++ [u], h4, by simp [h2], fun j x l hx hl => ?_⟩
  by_cases hj : j < us.length
  · rw [List.getElem?_append_left hj] at hx
    rw [List.getElem?_append_left (by omega)] at hl
    exact hk (h3 j x l hx hl)
  · rw [List.getElem?_append_right (by omega)] at hx
    rw [List.getElem?_append_right (by omega), ← h2] at hl
    cases hm : j - us.length with
    | zero => rw [hm] at hx hl; simp at hx hl; subst hx; subst hl; exact hk hu
    | succ m => rw [hm] at hx; simp at hx
/-- The append of one thing that lies in a new block. -/
theorem wpList_put {W0 : World} {P : List Df} {A : Nat → Prop} {W : World} {ops : Array Oper} {rest : List Oper} {o : Oper} {a : Act} {Q : Exit → Act → World → Prop} (hgd : o.guard = none) (s x : Operand)
    (ho : o.op = .call { callee := .builtin .append, args := #[s, x], argTypes := #[45, 45] }) (B : Nat) (v u : Value) (ts : List Th) (t : Th) (T : Nat) (hs : a.eval s = v) (hG : Gr W0 P A B W v ts) (hu : ThAt W0 P (orO A v) W u t) (hB : B ≤ W.heap.size) (hlen : ts.length < 4096)
    (q : Nat) (hq : W.heap.size = q) (hx : a.eval x = .slice (some ⟨q, 0, none⟩) 1 1) 
    (h : ∀ g c w', Gr W0 P A B w' (.slice g (ts ++ [t]).length c) (ts ++ [t]) → Below B W w' → wpList Tryz.prog ops Q rest (a.put o.dst (.slice g (ts.length + 1) c)) w') : wpList Tryz.prog ops Q (o :: rest) a (W.alloc (.cells #[u] T)) := by
  subst hq
  obtain ⟨us, h1, h2, h3⟩ := hG.own
  refine wpList_app hgd s x ho (fun k => k < W.heap.size) B v us hs (h1.alloc _) _ [u] hx (RowV.one _ W T u (by omega) hu.one) (by rw [World.size_alloc]; omega) (by simp; omega) ?_
  intro g c w' h4 hg hv
  have ha : Below W.heap.size W (W.alloc (.cells #[u] T)) := (Below.refl _ W).alloc (Nat.le_refl _) _
  have hgr : Gr W0 P A B w' (.slice g (ts ++ [t]).length c) (ts ++ [t]) := by
    have e : us.length + [u].length = (ts ++ [t]).length := by simp [h2]
    rw [← e]
    refine Gr.put (h1.alloc _) h2 (fun j u l hu hl => (h3 j u l hu hl).kp (Ka.of_below ha)) (hu.kp (Ka.of_below ha)) h4 hg hv
  have hbel : Below B W w' := (ha.mono hB).grown hg (by rw [World.size_alloc]; omega) (fun k hk => (World.ownsRow.lt h1 k hk).1)
  have := h g c w' hgr hbel
  rw [← h2] at this
  exact this

set_option maxHeartbeats 4000000 in
set_option maxRecDepth 100000 in
theorem kids_at {W0 : World} {P : List Df} {A : Nat → Prop} {W : World} {pv : Value} {d a : Nat} {ls : List Th} {x : Ex} (hb0 : Below W0.heap.size W0 W) (hA : ∀ k, A k → k < W.heap.size) (hp : PtAt W0 P A W pv d a ls)
    (hx : (bodyAt P d)[a]? = some x) (hk : ∀ k ∈ x.kids, 0 ≤ k) (hn : x.kids.length ≤ 3) (hl : ls.length ≤ 4096) :
    Calls Tryz.prog 138 #[pv] W fun e w' => ∃ v, e = .returned v ∧ LsAt W0 P A w' v (kidsT d ls x) ∧ Below W.heap.size W w' := by
  have HP : Hid (PtAt W0 P A W pv d a ls) := hp
  have HX : Hid (Below W0.heap.size W0 W ∧ (∀ k, A k → k < W.heap.size) ∧ (bodyAt P d)[a]? = some x ∧ (∀ k ∈ x.kids, 0 ≤ k) ∧ ls.length ≤ 4096) := ⟨hb0, hA, hx, hk, hl⟩
  obtain ⟨bv, lv, rfl, hb, hls⟩ := hp
  obtain ⟨bk, o, n, c, gk, ck, rfl, han, hbk0, hbk, hx0, hx1, hx2, hx3, hx4⟩ := hb.part hb0 hx
  have han' : (a : Int) < (n : Int) := by omega
  have ha0 : (0 : Int) ≤ (a : Int) := by omega
  obtain ⟨nk, hnk⟩ : ∃ nk, x.kids.length = nk := ⟨_, rfl⟩
  have HN : Hid (x.kids.length = nk) := hnk
  rw [hnk] at hx3 hn
  clear hb hls hx0 hx1 hx2 hx4 hb0 hx hk hl hA hnk
  have hP := Bx.new 77 W #[.slice (some ⟨bk, o, none⟩) n c, .int .i64 (a : Int), lv]
  have p0 := hP.cell 0 _ rfl
  go_enter Tryz.func138, Tryz.ntmps138
  go_wp2_with fail
  have HS : Hid (Gr W0 P A (W.heap.size + 1) (W.alloc (Obj.cells #[.slice (some ⟨bk, o, none⟩) n c, .int .i64 (a : Int), lv] 77)) (.slice none 0 0) ((kidsT d ls x).take 0) ∧ Below W.heap.size W (W.alloc (Obj.cells #[.slice (some ⟨bk, o, none⟩) n c, .int .i64 (a : Int), lv] 77)) ∧ Bx 77 (W.alloc (Obj.cells #[.slice (some ⟨bk, o, none⟩) n c, .int .i64 (a : Int), lv] 77)) W.heap.size #[.slice (some ⟨bk, o, none⟩) n c, .int .i64 (a : Int), lv]) :=
    ⟨Gr.nil _ _ _ _ _, (Below.refl _ _).alloc (Nat.le_refl _) _, hP⟩
  clear hP p0
  go_loopw [3, 4, 13] (fun s3 _ s13 wr => ∃ (j : Nat) (g : Option Addr) (c' : Nat), j ≤ nk ∧ s13 = .int .i64 (j : Int) ∧ s3 = .slice g j c' ∧ Hid (Gr W0 P A (W.heap.size + 1) wr (.slice g j c') ((kidsT d ls x).take j)) ∧ Hid (Below W.heap.size W wr ∧ Bx 77 wr W.heap.size #[.slice (some ⟨bk, o, none⟩) n c, .int .i64 (a : Int), lv])) (fun _ _ i _ => nk - (intOf i).toNat)
  case atStart => exact ⟨0, none, 0, Nat.zero_le _, rfl, rfl, HS.out.1, HS.out.2⟩
  case round =>
    clear HS hx3
    obtain ⟨j, g, c', hj, rfl, rfl, HG, HB⟩ := hrel
    by_cases hlt : j < nk
    · have hlt' : (j : Int) < (nk : Int) := by omega
      have hkj : x.kids[j]? = some (x.kids[j]'(by have := HN.out; omega)) := List.getElem?_eq_getElem _
      obtain ⟨k, hk⟩ : ∃ k, x.kids[j]'(by have := HN.out; omega) = k := ⟨_, rfl⟩
      rw [hk] at hkj
      have HK : Hid (x.kids[j]? = some k) := hkj
      have HC : Hid (Calls Tryz.prog 141 #[prtV (.slice (some ⟨bk, o, none⟩) n c) a lv, .int .i64 (j : Int), .slice none 0 0] wr fun e w' => ∃ v, e = .returned v ∧ PtAt W0 P (orO A (.slice g j c')) w' v d k.toNat ls ∧ Below wr.heap.size wr w') := by
        have h1 := HX.out
        have h2 : Below W0.heap.size W0 wr := h1.1.trans (HB.out.1.mono h1.1.size)
        have h3 : ∀ k, orO A (.slice g j c') k → k < wr.heap.size := by
          rintro k (hk | hk)
          · exact Nat.lt_of_lt_of_le (h1.2.1 k hk) HB.out.1.size
          · exact (HG.out.lt k hk).2
        have h4 : PtAt W0 P (orO A (.slice g j c')) wr (prtV (.slice (some ⟨bk, o, none⟩) n c) a lv) d a ls := (HP.out.avoid (by
          rintro k (hk | hk)
          · exact Or.inl hk
          · right; have := (HG.out.lt k hk).1; omega)).kp (Ka.of_below HB.out.1)
        have := kid_at h2 h3 h4 h1.2.2.1 hkj (h1.2.2.2.1 k (List.mem_of_getElem? hkj)) (LsAt.nil _ _ _ _) (by have := h1.2.2.2.2; simp; omega)
        rw [List.append_nil] at this
        exact this
      have p0 := HB.out.2.cell 0 _ rfl
      have p1 := HB.out.2.cell 1 _ rfl
      have p2 := HB.out.2.cell 2 _ rfl
      have hpl := HB.out.2.lt
      clear hkj hk
      go_wp2_with fail
      refine HC.out.mono ?_
      rintro e w2 ⟨v, rfl, hp2, hb2⟩
      have HW2 : Hid (ThAt W0 P (orO A (.slice g j c')) w2 (.iface 77 v) (.prt d k.toNat ls) ∧ Gr W0 P A (W.heap.size + 1) w2 (.slice g j c') ((kidsT d ls x).take j) ∧ Below wr.heap.size wr w2 ∧ W.heap.size + 1 ≤ w2.heap.size) := ⟨hp2.thing, HG.out.next hb2, hb2, by have := hb2.size; omega⟩
      have hlen : ((kidsT d ls x).take j).length = j := by rw [List.length_take]; unfold kidsT; rw [List.length_map, HN.out]; omega
      have HL := hid hlen
      clear hp2 hb2 HC HG hlen p0 p1 p2 hpl
      go_wp2_with (at_builtin; (refine wpList_put (W0 := W0) (P := P) (A := A) rfl _ _ rfl (W.heap.size + 1) (.slice g j c') (.iface 77 v) ((kidsT d ls x).take j) (.prt d k.toNat ls) _ rfl HW2.out.2.1 HW2.out.1 HW2.out.2.2.2 (by have := HL.out; omega) _ rfl rfl ?_))
      intro g7 c7 w7 hG7 hb7
      have HT : (kidsT d ls x).take j ++ [.prt d k.toNat ls] = (kidsT d ls x).take (j + 1) := by
        rw [List.take_add_one]
        have : (kidsT d ls x)[j]? = some (.prt d k.toNat ls) := by unfold kidsT; rw [List.getElem?_map, HK.out]; rfl
        rw [this]; rfl
      have h9 : min j (kidsT d ls x).length = j := by have := HL.out; rw [List.length_take] at this; exact this
      rw [HT] at hG7
      simp only [h9] at hG7 ⊢
      have HR : Hid (Gr W0 P A (W.heap.size + 1) w7 (.slice g7 (j + 1) c7) ((kidsT d ls x).take (j + 1)) ∧ Below W.heap.size W w7 ∧ Bx 77 w7 W.heap.size #[.slice (some ⟨bk, o, none⟩) n c, .int .i64 (a : Int), lv]) := by
        refine ⟨hG7, HB.out.1.trans ((HW2.out.2.2.1.mono HB.out.1.size).trans (hb7.mono (Nat.le_succ _))), ?_⟩
        exact (HB.out.2.next HW2.out.2.2.1).on hb7 (Nat.lt_succ_self _)
      clear HT h9 hG7 hb7 HW2 HK HL
      go_wp2_with fail
      go_roundw
      case rel => exact ⟨j + 1, g7, c7, by omega, by go_num, rfl, HR.out.1, HR.out.2⟩
      case measure => simp [intOf]; omega
    · have hlt' : ¬ (j : Int) < (nk : Int) := by omega
      obtain rfl : j = nk := by omega
      go_wp2_with fail
      go_ret
      refine ⟨_, rfl, ?_, HB.out.1⟩
      have h := HG.out
      rw [List.take_of_length_le (by unfold kidsT; rw [List.length_map, HN.out]; exact Nat.le_refl _)] at h
      exact h.ls (fun k hk => by have := HX.out.2.1 k hk; omega)

/-- How the program lies. -/
structure Prg (W0 : World) (gp : Option Addr) (P : List Df) : Prop where
  defs : Defs Exs W0 gp P
  may : pmay P = true
theorem Prg.body {W0 W : World} {gp : Option Addr} {P : List Df} (h : Prg W0 gp P) (hb : Below W0.heap.size W0 W) {d : Nat} {df : Df} (hd : P[d]? = some df) :
    ∃ bk o gk ck, gp = some ⟨bk, o, none⟩ ∧ bk < W.heap.size ∧ W.cell? ⟨bk, o + d * 2 + 1, none⟩ = some (.slice gk df.body.length ck) ∧ W.cell? ⟨bk, o + d * 2, none⟩ = some (.int .i64 df.params) ∧ Bdy W0 P d (.slice gk df.body.length ck) := by
  rcases h.defs with e | ⟨bk, o, e, h1, h2⟩
  · subst e; simp at hd
  · obtain ⟨gk, ck, k0, k1, k2⟩ := h2 d df hd
    exact ⟨bk, o, gk, ck, e, Nat.lt_of_lt_of_le h1 hb.size, (hb.cell (p := ⟨bk, o + d * 2 + 1, none⟩) h1).trans k1, (hb.cell (p := ⟨bk, o + d * 2, none⟩) h1).trans k0, gk, ck, df, hd, rfl, k2⟩

set_option maxHeartbeats 4000000 in
set_option maxRecDepth 100000 in
theorem bodyOf_at {W0 : World} {P : List Df} {A : Nat → Prop} {W : World} {gp : Option Addr} {cp z d : Nat} {f : Int} {df : Df} {lv : Value} {ls : List Th} (hP : Prg W0 gp P) (hb0 : Below W0.heap.size W0 W) (hd : P[d]? = some df) (hn : 1 ≤ df.body.length)
    (hz : Bx 75 W z #[.slice gp P.length cp, .int .i64 f]) (hl : LsAt W0 P A W lv ls) (hlen : df.body.length ≤ 4096) :
    Calls Tryz.prog 23 #[.pointer (some ⟨z, 0, none⟩), .int .i64 (d : Int), lv] W fun e w' => ∃ v, e = .returned v ∧ PtAt W0 P A w' v d ((bodyAt P d).length - 1) ls ∧ Below W.heap.size W w' := by
  obtain ⟨bk, o, gk, ck, rfl, hbk, hc, _, hB⟩ := hP.body hb0 hd
  have hdl : d < P.length := (List.getElem?_eq_some_iff.1 hd).1
  have hdl' : (d : Int) < (P.length : Int) := by omega
  have hd0 : (0 : Int) ≤ (d : Int) := by omega
  have eb : (bodyAt P d).length = df.body.length := by unfold bodyAt; rw [hd]
  rw [eb]
  obtain ⟨n, hnn⟩ : ∃ n, df.body.length = n := ⟨_, rfl⟩
  rw [hnn] at hc hn hlen hB ⊢
  have HB := hid hB
  have HL := hid hl
  have z0 := hz.cell 0 _ rfl
  have zl := hz.lt
  have hn1 : (1 : Int) ≤ (n : Int) := by omega
  have hn2 : (n : Int) ≤ 4096 := by omega
  obtain ⟨gl, cl, e⟩ := hl.val
  subst e
  have hR := Bx.new 77 W #[.slice none 0 0, .int .i64 0, .slice none 0 0]
  have r0 := hR.cell 0 _ rfl
  clear hB hl hz eb hnn hd hP
  go_enter Tryz.func23, Tryz.ntmps23
  go_wp2_with fail
  refine bodyPost_ret (v := .agg #[.slice gk n ck, .int .i64 ((n : Int) - 1), .slice gl ls.length cl]) (by simp [results, Tryz.results23, go_sem]) rfl ⟨_, rfl, ⟨.slice gk n ck, .slice gl ls.length cl, ?_, HB.out, HL.out.kp (Ka.of_below ((Below.refl _ W).alloc (Nat.le_refl _) _))⟩, (Below.refl _ W).alloc (Nat.le_refl _) _⟩
  show Value.agg _ = Value.agg #[_, .int .i64 ((n - 1 : Nat) : Int), _]
  rw [show ((n - 1 : Nat) : Int) = (n : Int) - 1 by omega]
end Go.Proofs.YtjamknejllbmkaaGreatDoor

namespace Go.Proofs.YtjamknejllbmkaaGreatDoor
open Go.RowKit
set_option linter.unusedVariables false

theorem txts_cellAt {W : World} {g : Option Addr} {xs : List ByteArray} (h : Tm.Txts W g xs) {j : Nat} (hj : j < xs.length) : ∃ bk o, g = some ⟨bk, o, none⟩ ∧ bk < W.heap.size ∧ W.cell? ⟨bk, o + j, none⟩ = some (.string xs[j]) := by
  rcases h with h | ⟨bk, o, h1, h2, h3⟩
  · subst h; simp at hj
  · exact ⟨bk, o, h1, h2, h3 j _ (List.getElem?_eq_getElem hj)⟩
set_option maxHeartbeats 4000000 in
set_option maxRecDepth 100000 in
theorem givens_at {W0 : World} {P : List Df} {A : Nat → Prop} {W : World} {g : Option Addr} {c : Nat} (xs : List ByteArray) (hA : ∀ k, A k → k < W.heap.size) (hx : Tm.Txts W g xs) (hn : xs.length < 4096) :
    Calls Tryz.prog 24 #[.slice g xs.length c] W fun e w' => ∃ v, e = .returned v ∧ LsAt W0 P A w' v ((Tm.lst xs).map .giv) ∧ Below W.heap.size W w' := by
  obtain ⟨n, hnn⟩ : ∃ n, xs.length = n := ⟨_, rfl⟩
  have HX : Hid (Tm.Txts W g xs ∧ xs.length = n ∧ ∀ k, A k → k < W.heap.size) := ⟨hx, hnn, hA⟩
  rw [hnn] at hn ⊢
  clear hx hnn hA
  go_enter Tryz.func24, Tryz.ntmps24
  go_wp2_with fail
  go_loopw [3, 5, 8] (fun s3 _ s8 wr => ∃ (j : Nat) (g1 : Option Addr) (c1 : Nat), j ≤ n ∧ s8 = .int .i64 (j : Int) ∧ s3 = .slice g1 j c1 ∧ Hid (Gr W0 P A W.heap.size wr (.slice g1 j c1) (((Tm.lst xs).map Th.giv).take j)) ∧ Hid (Below W.heap.size W wr)) (fun _ _ i _ => n - (intOf i).toNat)
  case atStart => exact ⟨0, none, 0, Nat.zero_le _, rfl, rfl, Gr.nil _ _ _ _ _, Below.refl _ _⟩
  case round =>
    obtain ⟨j, g1, c1, hj, rfl, rfl, HG, HB⟩ := hrel
    by_cases hlt : j < n
    · have hlt' : (j : Int) < (n : Int) := by omega
      obtain ⟨bk, o, e, hbk, hc⟩ := txts_cellAt HX.out.1 (j := j) (by have := HX.out.2.1; omega)
      obtain ⟨s, hs⟩ : ∃ s, xs[j]'(by have := HX.out.2.1; omega) = s := ⟨_, rfl⟩
      have HS : Hid (xs[j]? = some s) := by
        have : xs[j]? = some (xs[j]'(by have := HX.out.2.1; omega)) := List.getElem?_eq_getElem _
        rw [hs] at this; exact this
      rw [hs] at hc
      subst e
      have hc' := (HB.out.cell (p := ⟨bk, o + j, none⟩) hbk).trans hc
      have hlen : (((Tm.lst xs).map Th.giv).take j).length = j := by rw [List.length_take, List.length_map]; unfold Tm.lst; rw [List.length_map]; have := HX.out.2.1; omega
      have HL := hid hlen
      have hbs : W.heap.size ≤ wr.heap.size := HB.out.size
      have hbk' : bk < wr.heap.size := Nat.lt_of_lt_of_le hbk hbs
      have HT0 : Hid (ThAt W0 P (orO A (.slice g1 j c1)) wr (.iface 102 (.string s)) (.giv s.data.toList)) := by
        have h := ThAt.giv (W0 := W0) (P := P) (A := orO A (.slice g1 j c1)) (W := wr) s.data.toList
        exact h
      clear hs hc hlen
      go_wp2_with (at_builtin; (refine wpList_put (W0 := W0) (P := P) (A := A) rfl _ _ rfl W.heap.size (.slice g1 j c1) (.iface 102 (.string s)) (((Tm.lst xs).map Th.giv).take j) (.giv s.data.toList) _ rfl HG.out HT0.out hbs (by have := HL.out; omega) _ rfl rfl ?_))
      intro g7 c7 w7 hG7 hb7
      have HT : ((Tm.lst xs).map Th.giv).take j ++ [.giv s.data.toList] = ((Tm.lst xs).map Th.giv).take (j + 1) := by
        rw [List.take_add_one]
        have : ((Tm.lst xs).map Th.giv)[j]? = some (.giv s.data.toList) := by unfold Tm.lst; rw [List.getElem?_map, List.getElem?_map, HS.out]; rfl
        rw [this]; rfl
      have h9 : min j (Tm.lst xs).length = j := by have := HL.out; rw [List.length_take, List.length_map] at this; exact this
      rw [HT] at hG7
      have HR : Hid (Gr W0 P A W.heap.size w7 (.slice g7 (j + 1) c7) (((Tm.lst xs).map Th.giv).take (j + 1)) ∧ Below W.heap.size W w7) := by
        simp only [h9] at hG7
        exact ⟨hG7, HB.out.trans (hb7)⟩
      simp only [h9]
      clear HT h9 hG7 hb7 HT0 HL HS HG HB
      go_wp2_with fail
      go_roundw
      case rel => exact ⟨j + 1, g7, c7, by omega, by go_num, rfl, HR.out.1, HR.out.2⟩
      case measure => simp [intOf]; omega
    · have hlt' : ¬ (j : Int) < (n : Int) := by omega
      obtain rfl : j = n := by omega
      go_wp2_with fail
      go_ret
      refine ⟨_, rfl, ?_, HB.out⟩
      have h := HG.out
      rw [List.take_of_length_le (by rw [List.length_map]; unfold Tm.lst; rw [List.length_map, HX.out.2.1]; exact Nat.le_refl _)] at h
      exact h.ls HX.out.2.2
end Go.Proofs.YtjamknejllbmkaaGreatDoor

namespace Go.Proofs.YtjamknejllbmkaaGreatDoor.Pr
open Go.RowKit
set_option linter.unusedVariables false

/-- May a number be? -/
def mayB (x : Int) : Bool := decide (-32768 ≤ x ∧ x ≤ 32767)
/-- Brought into range. -/
def into (x : Int) : Int := (x + 32768) % 65536 - 32768
/-- A yes as a number. -/
def oneB (b : Bool) : Int := if b then 1 else 0

theorem may_of {x : Int} (h : mayB x = true) : -32768 ≤ x ∧ x ≤ 32767 := by
  unfold mayB at h; simpa using h
theorem may_mk {x : Int} (h1 : -32768 ≤ x) (h2 : x ≤ 32767) : mayB x = true := by
  unfold mayB; simp; omega
theorem may_not {x : Int} (h : x < -32768 ∨ 32767 < x) : mayB x = false := by
  unfold mayB; simp; omega
theorem into_may (x : Int) : mayB (into x) = true := by
  unfold mayB into; simp; omega
theorem into_rng (x : Int) : -32768 ≤ into x ∧ into x ≤ 32767 := may_of (into_may x)
theorem into_same {x : Int} (h1 : -32768 ≤ x) (h2 : x ≤ 32767) : into x = x := by
  unfold into; omega
theorem wrap_into (x : Int) : wrap64 (IntKind.i16.wrap x) = into x := by
  simp only [IntKind.wrap, IntKind.signed, IntKind.bits, wrap64, into]; simp; omega
theorem ret_int {k : IntKind} {a b : Int} (h : a = b) : Ending.returned (.int k a) = .returned (.int k b) := by rw [h]

set_option maxHeartbeats 400000 in
theorem into_any (x : Int) (w : World) :
    Calls Tryz.prog 144 #[.int .i64 x] w fun e w' => e = .returned (.int .i64 (into x)) ∧ w' = w := by
  go_enter Tryz.func144, Tryz.ntmps144
  go_wp2
  go_ret
  exact ⟨ret_int (wrap_into x), rfl⟩

set_option maxHeartbeats 400000 in
theorem oneif_any (b : Bool) (w : World) :
    Calls Tryz.prog 145 #[.bool b] w fun e w' => e = .returned (.int .i64 (oneB b)) ∧ w' = w := by
  cases b
  all_goals
    go_enter Tryz.func145, Tryz.ntmps145
    go_wp2
    go_ret
    exact ⟨rfl, rfl⟩

set_option maxHeartbeats 400000 in
theorem may_any (x : Int) (w : World) :
    Calls Tryz.prog 63 #[.int .i64 x] w fun e w' => e = .returned (.bool (mayB x)) ∧ w' = w := by
  by_cases h1 : -32768 ≤ x
  · have e : mayB x = decide (x ≤ 32767) := by unfold mayB; simp [h1]
    rw [e]; clear e
    go_enter Tryz.func63, Tryz.ntmps63
    go_wp2
    go_ret
    exact ⟨rfl, rfl⟩
  · have e : mayB x = false := may_not (by omega)
    rw [e]; clear e
    go_enter Tryz.func63, Tryz.ntmps63
    go_wp2
    go_ret
    exact ⟨rfl, rfl⟩

/-- From a least to a most? -/
def uptoB (x l m : Int) : Bool := decide (l ≤ x) && decide (x ≤ m)

set_option maxHeartbeats 400000 in
theorem upto_any (x l m : Int) (w : World) :
    Calls Tryz.prog 37 #[.int .i64 x, .int .i64 l, .int .i64 m] w fun e w' => e = .returned (.bool (uptoB x l m)) ∧ w' = w := by
  by_cases h1 : l ≤ x
  · have e : uptoB x l m = decide (x ≤ m) := by unfold uptoB; simp [h1]
    rw [e]; clear e
    go_enter Tryz.func37, Tryz.ntmps37
    go_wp2
    go_ret
    exact ⟨rfl, rfl⟩
  · have e : uptoB x l m = false := by unfold uptoB; simp [h1]
    rw [e]; clear e
    go_enter Tryz.func37, Tryz.ntmps37
    go_wp2
    go_ret
    exact ⟨rfl, rfl⟩

theorem upto_may (x : Int) : uptoB x (-32768) 32767 = mayB x := by
  unfold uptoB mayB; simp

set_option maxHeartbeats 400000 in
theorem nummay_any (x : Int) (w : World) :
    Calls Tryz.prog 74 #[.int .i64 x] w fun e w' => e = .returned (.bool (mayB x)) ∧ w' = w := by
  rw [← upto_may x]
  go_enter Tryz.func74, Tryz.ntmps74
  go_wp2_with (go_at_call 37; refine (upto_any _ _ _ _).mono ?_; rintro e w' ⟨rfl, rfl⟩)
  go_ret
  exact ⟨rfl, rfl⟩

set_option maxHeartbeats 400000 in
theorem truth_any (b : Bool) (w : World) :
    Calls Tryz.prog 75 #[.bool b] w fun e w' => e = .returned (.int .i64 (oneB b)) ∧ w' = w := by
  cases b
  all_goals
    go_enter Tryz.func75, Tryz.ntmps75
    go_wp2
    go_ret
    exact ⟨rfl, rfl⟩

set_option maxHeartbeats 400000 in
theorem do_badA (op a b : Int) (w : World) (ha : mayB a = false) :
    Calls Tryz.prog 142 #[.int .i64 op, .int .i64 a, .int .i64 b] w fun e w' => e = .returned (.tuple #[.int .i64 0, .int .i64 100]) ∧ w' = w := by
  go_enter Tryz.func142, Tryz.ntmps142
  go_wp2_with (go_at_call 63; refine (may_any _ _).mono ?_; rintro e w' ⟨rfl, rfl⟩)
  go_ret2
  exact ⟨rfl, rfl⟩

set_option maxHeartbeats 400000 in
theorem do_badB (op a b : Int) (w : World) (ha : mayB a = true) (hb : mayB b = false) :
    Calls Tryz.prog 142 #[.int .i64 op, .int .i64 a, .int .i64 b] w fun e w' => e = .returned (.tuple #[.int .i64 0, .int .i64 100]) ∧ w' = w := by
  go_enter Tryz.func142, Tryz.ntmps142
  go_wp2_with (go_at_call 63; refine (may_any _ _).mono ?_; rintro e w' ⟨rfl, rfl⟩)
  go_ret2
  exact ⟨rfl, rfl⟩

set_option maxHeartbeats 400000 in
theorem do_other (op a b : Int) (w : World) (ha : mayB a = true) (hb : mayB b = true) (ho : op < 0 ∨ 4 < op) :
    Calls Tryz.prog 142 #[.int .i64 op, .int .i64 a, .int .i64 b] w fun e w' => e = .returned (.tuple #[.int .i64 0, .int .i64 100]) ∧ w' = w := by
  have h0 : (op == 0) = false := by simp; omega
  have h1 : (op == 1) = false := by simp; omega
  have h2 : (op == 2) = false := by simp; omega
  have h3 : (op == 3) = false := by simp; omega
  have h4 : (op == 4) = false := by simp; omega
  clear ho
  go_enter Tryz.func142, Tryz.ntmps142
  go_wp2_with (go_at_call 63; refine (may_any _ _).mono ?_; rintro e w' ⟨rfl, rfl⟩)
  go_ret2
  exact ⟨rfl, rfl⟩

set_option maxHeartbeats 400000 in
theorem do_add (a b : Int) (w : World) (ha : mayB a = true) (hb : mayB b = true) :
    Calls Tryz.prog 142 #[.int .i64 0, .int .i64 a, .int .i64 b] w fun e w' => e = .returned (.tuple #[.int .i64 (into (a + b)), .int .i64 0]) ∧ w' = w := by
  obtain ⟨a1, a2⟩ := may_of ha
  obtain ⟨b1, b2⟩ := may_of hb
  go_enter Tryz.func142, Tryz.ntmps142
  go_wp2_with (first | (go_at_call 63; refine (may_any _ _).mono ?_; rintro e w' ⟨rfl, rfl⟩) | (go_at_call 144; refine (into_any _ _).mono ?_; rintro e w' ⟨rfl, rfl⟩))
  go_ret2
  exact ⟨rfl, rfl⟩

set_option maxHeartbeats 400000 in
theorem do_sub (a b : Int) (w : World) (ha : mayB a = true) (hb : mayB b = true) :
    Calls Tryz.prog 142 #[.int .i64 1, .int .i64 a, .int .i64 b] w fun e w' => e = .returned (.tuple #[.int .i64 (into (a - b)), .int .i64 0]) ∧ w' = w := by
  obtain ⟨a1, a2⟩ := may_of ha
  obtain ⟨b1, b2⟩ := may_of hb
  go_enter Tryz.func142, Tryz.ntmps142
  go_wp2_with (first | (go_at_call 63; refine (may_any _ _).mono ?_; rintro e w' ⟨rfl, rfl⟩) | (go_at_call 144; refine (into_any _ _).mono ?_; rintro e w' ⟨rfl, rfl⟩))
  go_ret2
  exact ⟨rfl, rfl⟩

/-- A product of two that may be. -/
theorem mul_rng {a b : Int} (ha : mayB a = true) (hb : mayB b = true) : -1073741824 ≤ a * b ∧ a * b ≤ 1073741824 := by
  obtain ⟨a1, a2⟩ := may_of ha
  obtain ⟨b1, b2⟩ := may_of hb
  have h : (a * b).natAbs ≤ 32768 * 32768 := by
    rw [Int.natAbs_mul]; exact Nat.mul_le_mul (by omega) (by omega)
  omega

set_option maxHeartbeats 400000 in
theorem do_mul (a b : Int) (w : World) (ha : mayB a = true) (hb : mayB b = true) :
    Calls Tryz.prog 142 #[.int .i64 2, .int .i64 a, .int .i64 b] w fun e w' => e = .returned (.tuple #[.int .i64 (into (a * b)), .int .i64 0]) ∧ w' = w := by
  obtain ⟨c1, c2⟩ := mul_rng ha hb
  have hw : wrap64 (a * b) = a * b := by unfold wrap64; omega
  go_enter Tryz.func142, Tryz.ntmps142
  go_wp2_with (first | (go_at_call 63; refine (may_any _ _).mono ?_; rintro e w' ⟨rfl, rfl⟩) | (go_at_call 144; refine (into_any _ _).mono ?_; rintro e w' ⟨rfl, rfl⟩))
  go_ret2
  exact ⟨rfl, rfl⟩

set_option maxHeartbeats 400000 in
theorem do_eq (a b : Int) (w : World) (ha : mayB a = true) (hb : mayB b = true) :
    Calls Tryz.prog 142 #[.int .i64 3, .int .i64 a, .int .i64 b] w fun e w' => e = .returned (.tuple #[.int .i64 (oneB (a == b)), .int .i64 0]) ∧ w' = w := by
  go_enter Tryz.func142, Tryz.ntmps142
  go_wp2_with (first | (go_at_call 63; refine (may_any _ _).mono ?_; rintro e w' ⟨rfl, rfl⟩) | (go_at_call 145; refine (oneif_any _ _).mono ?_; rintro e w' ⟨rfl, rfl⟩))
  go_ret2
  exact ⟨rfl, rfl⟩

set_option maxHeartbeats 400000 in
theorem do_less (a b : Int) (w : World) (ha : mayB a = true) (hb : mayB b = true) :
    Calls Tryz.prog 142 #[.int .i64 4, .int .i64 a, .int .i64 b] w fun e w' => e = .returned (.tuple #[.int .i64 (oneB (decide (a < b))), .int .i64 0]) ∧ w' = w := by
  go_enter Tryz.func142, Tryz.ntmps142
  go_wp2_with (first | (go_at_call 63; refine (may_any _ _).mono ?_; rintro e w' ⟨rfl, rfl⟩) | (go_at_call 145; refine (oneif_any _ _).mono ?_; rintro e w' ⟨rfl, rfl⟩))
  go_ret2
  exact ⟨rfl, rfl⟩

set_option maxHeartbeats 400000 in
theorem ref_badO (op a b : Int) (w : World) (ho : uptoB op 0 4 = false) :
    Calls Tryz.prog 54 #[.int .i64 op, .int .i64 a, .int .i64 b] w fun e w' => e = .returned (.tuple #[.int .i64 0, .int .i64 100]) ∧ w' = w := by
  go_enter Tryz.func54, Tryz.ntmps54
  go_wp2_with (first | (go_at_call 37; refine (upto_any _ _ _ _).mono ?_; rintro e w' ⟨rfl, rfl⟩) | (go_at_call 74; refine (nummay_any _ _).mono ?_; rintro e w' ⟨rfl, rfl⟩))
  go_ret2
  exact ⟨rfl, rfl⟩

set_option maxHeartbeats 400000 in
theorem ref_badA (op a b : Int) (w : World) (ho : uptoB op 0 4 = true) (ha : mayB a = false) :
    Calls Tryz.prog 54 #[.int .i64 op, .int .i64 a, .int .i64 b] w fun e w' => e = .returned (.tuple #[.int .i64 0, .int .i64 100]) ∧ w' = w := by
  go_enter Tryz.func54, Tryz.ntmps54
  go_wp2_with (first | (go_at_call 37; refine (upto_any _ _ _ _).mono ?_; rintro e w' ⟨rfl, rfl⟩) | (go_at_call 74; refine (nummay_any _ _).mono ?_; rintro e w' ⟨rfl, rfl⟩))
  go_ret2
  exact ⟨rfl, rfl⟩

set_option maxHeartbeats 400000 in
theorem ref_badB (op a b : Int) (w : World) (ho : uptoB op 0 4 = true) (ha : mayB a = true) (hb : mayB b = false) :
    Calls Tryz.prog 54 #[.int .i64 op, .int .i64 a, .int .i64 b] w fun e w' => e = .returned (.tuple #[.int .i64 0, .int .i64 100]) ∧ w' = w := by
  go_enter Tryz.func54, Tryz.ntmps54
  go_wp2_with (first | (go_at_call 37; refine (upto_any _ _ _ _).mono ?_; rintro e w' ⟨rfl, rfl⟩) | (go_at_call 74; refine (nummay_any _ _).mono ?_; rintro e w' ⟨rfl, rfl⟩))
  go_ret2
  exact ⟨rfl, rfl⟩

/-- The last sixteen bits of an int. -/
theorem and_65535 (x : Int) : bits .and .i64 x 65535 = x % 65536 := by
  have hb : (BitVec.ofInt 64 65535).toNat = 65535 := by decide
  have h : bits .and .i64 x 65535 = IntKind.i64.wrap (((BitVec.ofInt 64 x &&& BitVec.ofInt 64 65535).toNat : Nat) : Int) := rfl
  rw [h, BitVec.toNat_and, hb, BitVec.toNat_ofInt, show (65535 : Nat) = 2 ^ 16 - 1 from rfl, Nat.and_two_pow_sub_one_eq_mod, IntKind.wrap_i64]
  simp only [show ((2 : Nat) ^ 64) = 18446744073709551616 from rfl, show ((2 : Nat) ^ 16) = 65536 from rfl]
  omega

theorem ref_into (x : Int) : wrap64 (IntKind.i16.wrap (IntKind.u16.wrap (bits .and .i64 x 65535))) = into x := by
  rw [and_65535]
  simp only [IntKind.wrap, IntKind.signed, IntKind.bits, wrap64, into]; simp; omega

theorem into_one (b : Bool) : into (oneB b) = oneB b := by cases b <;> decide

theorem ret_two {a b c : Int} (h : a = b) : Ending.returned (.tuple #[.int .i64 a, .int .i64 c]) = .returned (.tuple #[.int .i64 b, .int .i64 c]) := by rw [h]

set_option maxHeartbeats 400000 in
theorem ref_add (a b : Int) (w : World) (ha : mayB a = true) (hb : mayB b = true) :
    Calls Tryz.prog 54 #[.int .i64 0, .int .i64 a, .int .i64 b] w fun e w' => e = .returned (.tuple #[.int .i64 (into (a + b)), .int .i64 0]) ∧ w' = w := by
  obtain ⟨a1, a2⟩ := may_of ha
  obtain ⟨b1, b2⟩ := may_of hb
  have ho : uptoB 0 0 4 = true := by decide
  go_enter Tryz.func54, Tryz.ntmps54
  go_wp2_with (first | (go_at_call 37; refine (upto_any _ _ _ _).mono ?_; rintro e w' ⟨rfl, rfl⟩) | (go_at_call 74; refine (nummay_any _ _).mono ?_; rintro e w' ⟨rfl, rfl⟩) | (go_at_call 75; refine (truth_any _ _).mono ?_; rintro e w' ⟨rfl, rfl⟩))
  go_ret2
  exact ⟨ret_two (ref_into _), rfl⟩

set_option maxHeartbeats 400000 in
theorem ref_sub (a b : Int) (w : World) (ha : mayB a = true) (hb : mayB b = true) :
    Calls Tryz.prog 54 #[.int .i64 1, .int .i64 a, .int .i64 b] w fun e w' => e = .returned (.tuple #[.int .i64 (into (a - b)), .int .i64 0]) ∧ w' = w := by
  obtain ⟨a1, a2⟩ := may_of ha
  obtain ⟨b1, b2⟩ := may_of hb
  have ho : uptoB 1 0 4 = true := by decide
  go_enter Tryz.func54, Tryz.ntmps54
  go_wp2_with (first | (go_at_call 37; refine (upto_any _ _ _ _).mono ?_; rintro e w' ⟨rfl, rfl⟩) | (go_at_call 74; refine (nummay_any _ _).mono ?_; rintro e w' ⟨rfl, rfl⟩) | (go_at_call 75; refine (truth_any _ _).mono ?_; rintro e w' ⟨rfl, rfl⟩))
  go_ret2
  exact ⟨ret_two (ref_into _), rfl⟩

set_option maxHeartbeats 400000 in
theorem ref_mul (a b : Int) (w : World) (ha : mayB a = true) (hb : mayB b = true) :
    Calls Tryz.prog 54 #[.int .i64 2, .int .i64 a, .int .i64 b] w fun e w' => e = .returned (.tuple #[.int .i64 (into (a * b)), .int .i64 0]) ∧ w' = w := by
  obtain ⟨c1, c2⟩ := mul_rng ha hb
  have hw : wrap64 (a * b) = a * b := by unfold wrap64; omega
  have ho : uptoB 2 0 4 = true := by decide
  go_enter Tryz.func54, Tryz.ntmps54
  go_wp2_with (first | (go_at_call 37; refine (upto_any _ _ _ _).mono ?_; rintro e w' ⟨rfl, rfl⟩) | (go_at_call 74; refine (nummay_any _ _).mono ?_; rintro e w' ⟨rfl, rfl⟩) | (go_at_call 75; refine (truth_any _ _).mono ?_; rintro e w' ⟨rfl, rfl⟩))
  go_ret2
  exact ⟨ret_two (ref_into _), rfl⟩

set_option maxHeartbeats 400000 in
theorem ref_eq (a b : Int) (w : World) (ha : mayB a = true) (hb : mayB b = true) :
    Calls Tryz.prog 54 #[.int .i64 3, .int .i64 a, .int .i64 b] w fun e w' => e = .returned (.tuple #[.int .i64 (oneB (a == b)), .int .i64 0]) ∧ w' = w := by
  have ho : uptoB 3 0 4 = true := by decide
  go_enter Tryz.func54, Tryz.ntmps54
  go_wp2_with (first | (go_at_call 37; refine (upto_any _ _ _ _).mono ?_; rintro e w' ⟨rfl, rfl⟩) | (go_at_call 74; refine (nummay_any _ _).mono ?_; rintro e w' ⟨rfl, rfl⟩) | (go_at_call 75; refine (truth_any _ _).mono ?_; rintro e w' ⟨rfl, rfl⟩))
  go_ret2
  exact ⟨ret_two ((ref_into _).trans (into_one _)), rfl⟩

set_option maxHeartbeats 400000 in
theorem ref_less (a b : Int) (w : World) (ha : mayB a = true) (hb : mayB b = true) :
    Calls Tryz.prog 54 #[.int .i64 4, .int .i64 a, .int .i64 b] w fun e w' => e = .returned (.tuple #[.int .i64 (oneB (decide (a < b))), .int .i64 0]) ∧ w' = w := by
  have ho : uptoB 4 0 4 = true := by decide
  go_enter Tryz.func54, Tryz.ntmps54
  go_wp2_with (first | (go_at_call 37; refine (upto_any _ _ _ _).mono ?_; rintro e w' ⟨rfl, rfl⟩) | (go_at_call 74; refine (nummay_any _ _).mono ?_; rintro e w' ⟨rfl, rfl⟩) | (go_at_call 75; refine (truth_any _ _).mono ?_; rintro e w' ⟨rfl, rfl⟩))
  go_ret2
  exact ⟨ret_two ((ref_into _).trans (into_one _)), rfl⟩


theorem may_in {x : Int} (h : -32768 ≤ x ∧ x ≤ 32767) : mayB x = true := may_mk h.1 h.2
/-- Do, where it takes them. -/
theorem do_any (op a b : Int) (w : World) (ho : 0 ≤ op ∧ op ≤ 4) (ha : -32768 ≤ a ∧ a ≤ 32767) (hb : -32768 ≤ b ∧ b ≤ 32767) :
    Calls Tryz.prog 142 #[.int .i64 op, .int .i64 a, .int .i64 b] w fun e w' => e = .returned (.tuple #[.int .i64 (prm op a b), .int .i64 0]) ∧ w' = w := by
  have e : op = 0 ∨ op = 1 ∨ op = 2 ∨ op = 3 ∨ op = 4 := by omega
  rcases e with rfl | rfl | rfl | rfl | rfl
  · exact do_add a b w (may_in ha) (may_in hb)
  · exact do_sub a b w (may_in ha) (may_in hb)
  · exact do_mul a b w (may_in ha) (may_in hb)
  · refine (do_eq a b w (may_in ha) (may_in hb)).mono ?_
    rintro e w' ⟨rfl, h⟩
    refine ⟨?_, h⟩
    have : oneB (a == b) = prm 3 a b := by unfold prm oneB; simp
    rw [this]
  · refine (do_less a b w (may_in ha) (may_in hb)).mono ?_
    rintro e w' ⟨rfl, h⟩
    refine ⟨?_, h⟩
    have : oneB (decide (a < b)) = prm 4 a b := by unfold prm oneB; simp
    rw [this]
theorem rdo_any (op a b : Int) (w : World) (ho : 0 ≤ op ∧ op ≤ 4) (ha : -32768 ≤ a ∧ a ≤ 32767) (hb : -32768 ≤ b ∧ b ≤ 32767) :
    Calls Tryz.prog 54 #[.int .i64 op, .int .i64 a, .int .i64 b] w fun e w' => e = .returned (.tuple #[.int .i64 (prm op a b), .int .i64 0]) ∧ w' = w := by
  have e : op = 0 ∨ op = 1 ∨ op = 2 ∨ op = 3 ∨ op = 4 := by omega
  rcases e with rfl | rfl | rfl | rfl | rfl
  · exact ref_add a b w (may_in ha) (may_in hb)
  · exact ref_sub a b w (may_in ha) (may_in hb)
  · exact ref_mul a b w (may_in ha) (may_in hb)
  · refine (ref_eq a b w (may_in ha) (may_in hb)).mono ?_
    rintro e w' ⟨rfl, h⟩
    refine ⟨?_, h⟩
    have : oneB (a == b) = prm 3 a b := by unfold prm oneB; simp
    rw [this]
  · refine (ref_less a b w (may_in ha) (may_in hb)).mono ?_
    rintro e w' ⟨rfl, h⟩
    refine ⟨?_, h⟩
    have : oneB (decide (a < b)) = prm 4 a b := by unfold prm oneB; simp
    rw [this]
end Go.Proofs.YtjamknejllbmkaaGreatDoor.Pr

namespace Go.Proofs.YtjamknejllbmkaaGreatDoor
open Go.RowKit
set_option linter.unusedVariables false

abbrev Zz (z : Nat) : Nat → Prop := fun k => k = z
structure Es (W0 : World) (gp : Option Addr) (P : List Df) (cp z : Nat) (W : World) (f : Nat) : Prop where
  prg : Prg W0 gp P
  low : Below W0.heap.size W0 W
  z0 : W0.heap.size ≤ z
  box : Bx 75 W z #[.slice gp P.length cp, .int .i64 (f : Int)]
  lw : Tm.Lw W0
section
variable {W0 : World} {gp : Option Addr} {P : List Df} {cp z : Nat}
theorem Es.lt {W : World} {f : Nat} (h : Es W0 gp P cp z W f) : z < W.heap.size := h.box.lt
theorem Es.lwW {W : World} {f : Nat} (h : Es W0 gp P cp z W f) : Tm.Lw W := Tm.Lw.on h.lw h.low
theorem Es.next {W W' : World} {f : Nat} (h : Es W0 gp P cp z W f) (hb : Below W.heap.size W W') : Es W0 gp P cp z W' f :=
  ⟨h.prg, h.low.trans (hb.mono h.low.size), h.z0, h.box.next hb, h.lw⟩
theorem Es.kp {W W' : World} {f f' : Nat} (h : Es W0 gp P cp z W f) (hk : Ka (Zz z) W W') (hb : Bx 75 W' z #[.slice gp P.length cp, .int .i64 (f' : Int)]) : Es W0 gp P cp z W' f' :=
  ⟨h.prg, h.low.trans (hk.below h.low.size (fun k e => by rw [e]; exact h.z0)), h.z0, hb, h.lw⟩
theorem Es.zA {W : World} {f : Nat} (h : Es W0 gp P cp z W f) : ∀ k, Zz z k → k < W.heap.size := fun k e => by rw [e]; exact h.lt
end
abbrev vV (k n : Int) (lv : Value) : Value := .agg #[.int .i64 k, .int .i64 n, lv]
/-- What came of it, as a value. -/
def OcV (W0 : World) (P : List Df) (A : Nat → Prop) (W : World) (o : Oc) (v : Value) : Prop := match o with
  | .num m => ∃ lv, v = vV 1 m lv ∧ LsAt W0 P A W lv []
  | .con c ps => ∃ lv, v = vV 2 c lv ∧ LsAt W0 P A W lv ps
  | .fail => ∃ lv, v = vV 3 0 lv ∧ LsAt W0 P A W lv []
  | _ => v = vV 0 0 (.slice none 0 0)
theorem OcV.kp {W0 : World} {P : List Df} {A : Nat → Prop} {W W' : World} {o : Oc} {v : Value} (h : OcV W0 P A W o v) (hk : Ka A W W') : OcV W0 P A W' o v := by
  cases o with
  | num m => obtain ⟨lv, e, h⟩ := h; exact ⟨lv, e, h.kp hk⟩
  | con c ps => obtain ⟨lv, e, h⟩ := h; exact ⟨lv, e, h.kp hk⟩
  | fail => obtain ⟨lv, e, h⟩ := h; exact ⟨lv, e, h.kp hk⟩
  | fuel => exact h
  | hole => exact h
theorem OcV.val {W0 : World} {P : List Df} {A : Nat → Prop} {W : World} {o : Oc} {v : Value} (h : OcV W0 P A W o v) : ∃ k n g m c, v = vV k n (.slice g m c) := by
  cases o with
  | num m => obtain ⟨lv, rfl, h⟩ := h; obtain ⟨g, c, rfl⟩ := h.val; exact ⟨_, _, _, _, _, rfl⟩
  | con c ps => obtain ⟨lv, rfl, h⟩ := h; obtain ⟨g, c, rfl⟩ := h.val; exact ⟨_, _, _, _, _, rfl⟩
  | fail => obtain ⟨lv, rfl, h⟩ := h; obtain ⟨g, c, rfl⟩ := h.val; exact ⟨_, _, _, _, _, rfl⟩
  | fuel => exact ⟨_, _, _, _, _, h⟩
  | hole => exact ⟨_, _, _, _, _, h⟩
/-- How it ends. -/
def EvQ (W0 : World) (gp : Option Addr) (P : List Df) (cp z : Nat) (A : Nat → Prop) (W : World) (r : Oc × Nat) (e : Ending) (W' : World) : Prop :=
  ∃ v, e = .returned (.tuple #[v, .int .i64 (erO r.1)]) ∧ OcV W0 P A W' r.1 v ∧ Es W0 gp P cp z W' r.2 ∧ Ka (Zz z) W W'

theorem whole_kind {s : Wdn} {k x : Int} {ks : List Wdn} (h : Tm.whole s = some (k, x, ks)) : k = 0 ∨ (k = 1 ∧ ks = []) ∨ k = 2 ∨ (k = 3 ∧ x = 0 ∧ ks = []) := by
  have hm := Tm.whole_mkd h
  have hp := (Tm.whole_parts h).2.1
  unfold Tm.mk Tm.head at hm
  by_cases h0 : k = 0
  · exact Or.inl h0
  by_cases h3 : k = 3
  · subst h3
    rcases hp with hp | hp
    · omega
    · refine Or.inr (Or.inr (Or.inr ⟨rfl, ?_, hp⟩))
      by_cases hx : x = 0
      · exact hx
      · simp [hx] at hm
  by_cases h1 : k = 1
  · rcases hp with hp | hp
    · omega
    · exact Or.inr (Or.inl ⟨h1, hp⟩)
  by_cases h2 : k = 2
  · exact Or.inr (Or.inr (Or.inl h2))
  · simp [h0, h1, h2, h3] at hm
theorem cels3 {W : World} {R : Nat} {v0 v1 v2 : Value} (h : Bx 47 W R #[v0, v1, v2]) : R < W.heap.size ∧ (W.cell? ⟨R, 0, none⟩ = some v0 ∧ W.cell? ⟨R, 1, none⟩ = some v1 ∧ W.cell? ⟨R, 2, none⟩ = some v2) ∧ W.frozen? ⟨R, 0, none⟩ = false ∧ W.frozen? ⟨R, 1, none⟩ = false ∧ W.frozen? ⟨R, 2, none⟩ = false :=
  ⟨h.lt, ⟨h.cell 0 _ rfl, h.cell 1 _ rfl, h.cell 2 _ rfl⟩, h.frozen 0, h.frozen 1, h.frozen 2⟩
theorem below_st3 {n : Nat} {W W' : World} (h : Below n W W') {R : Nat} (hR : n ≤ R) (v0 v1 v2 : Value) : Below n W (st3 W' R v0 v1 v2) := below_set (below_set (below_set h hR 0 v0) hR 1 v1) hR 2 v2
theorem Bx.st3 {T : Nat} {W : World} {R : Nat} {u0 u1 u2 : Value} (h : Bx T W R #[u0, u1, u2]) (v0 v1 v2 : Value) : Bx T (Go.Proofs.YtjamknejllbmkaaGreatDoor.st3 W R v0 v1 v2) R #[v0, v1, v2] := ((h.set 0 v0).set 1 v1).set 2 v2
theorem Ka.st3 {A : Nat → Prop} (W : World) (R : Nat) (v0 v1 v2 : Value) : Ka (orR A R) W (Go.Proofs.YtjamknejllbmkaaGreatDoor.st3 W R v0 v1 v2) :=
  ((Ka.of_grown (grown_set W R 0 v0) orR_row).next (Ka.of_grown (grown_set _ R 1 v1) orR_row)).next (Ka.of_grown (grown_set _ R 2 v2) orR_row)
/-- Rows that avoid R too, behind a store into R. -/
theorem LsAt.st3 {W0 : World} {P : List Df} {A : Nat → Prop} {W : World} {lv : Value} {ls : List Th} {R : Nat} (h : LsAt W0 P (orR A R) W lv ls) (v0 v1 v2 : Value) : LsAt W0 P A (Go.Proofs.YtjamknejllbmkaaGreatDoor.st3 W R v0 v1 v2) lv ls :=
  (h.kp (Ka.st3 W R v0 v1 v2)).avoid fun k hk => Or.inl (Or.inl hk)
theorem grabB {P : Program} {f : Func} {Q : Ending → World → Prop} {e : Exit} {a : Act} {W : World} (p : World → Prop) (h : p W) (g : ∀ W', p W' → bodyPost P f Q e a W') : bodyPost P f Q e a W := g W h

set_option maxHeartbeats 4000000 in
set_option maxRecDepth 100000 in
theorem given_at {W0 : World} {gp : Option Addr} {P : List Df} {cp z f : Nat} {A : Nat → Prop} {W : World} (s : Wdn) (hE : Es W0 gp P cp z W f) (hA : ∀ k, A k → k < W.heap.size) (hw : (Tm.whole s).isSome = true) :
    Calls Tryz.prog 147 #[.string ⟨s.toArray⟩, .pointer (some ⟨z, 0, none⟩)] W fun e W' => EvQ W0 gp P cp z A W (givO s, f) e W' := by
  have HE := hid hE
  have HAA := hid hA
  obtain ⟨⟨k, x, ks⟩, hy⟩ := Option.isSome_iff_exists.1 hw
  have HY := hid hy
  have hsz : (⟨s.toArray⟩ : ByteArray).size ≤ 140737488355328 := by
    have := (Tm.whole_some hy).1
    show s.toArray.size ≤ _
    rw [List.size_toArray]; omega
  have HCU : Hid (∀ w, Tm.Lw w → Calls Tryz.prog 148 #[.string ⟨s.toArray⟩] w fun e w' => ∃ v, e = .returned (.tuple #[.int .i64 k, .int .i64 x, v, .int .i64 0]) ∧ w'.ownsRow w.heap.size 9 1 v ks.length (ks.map Tm.S) ∧ Below w.heap.size w w') := by
    intro w hl
    refine (Tm.cut_any Tm.atoi_said Tm.itoa_said Tm.clone_said ⟨s.toArray⟩ w hsz hl).mono ?_
    rintro e w' ⟨k', x', v, er, rfl, _, hb, hg⟩
    rw [show (⟨s.toArray⟩ : ByteArray).data.toList = s from rfl, hy] at hg
    obtain ⟨rfl, rfl, rfl, ho⟩ := hg
    exact ⟨v, rfl, ho, hb⟩
  have hR := Bx.new 47 W #[.int .i64 0, .int .i64 0, .slice none 0 0]
  have HR := hid hR
  clear hE hA hw hy hR
  go_enter Tryz.func147, Tryz.ntmps147
  go_wp2_with fail
  refine (HCU.out _ (HE.out.next ((Below.refl _ W).alloc (Nat.le_refl _) _)).lwW).mono ?_
  rintro e w1 ⟨v, rfl, ho, hb⟩
  obtain ⟨g, c, rfl, htx, hcap⟩ := Tm.own_txts ho
  have HT := hid htx
  have HB : Hid (Below W.heap.size W w1 ∧ Bx 47 w1 W.heap.size #[.int .i64 0, .int .i64 0, .slice none 0 0]) := ⟨((Below.refl _ W).alloc (Nat.le_refl _) _).trans (hb.mono (by simp)), HR.out.next hb⟩
  obtain ⟨c1, c2, c3⟩ := cels3 HB.out.2
  obtain ⟨f0, f1, f2⟩ := c3
  obtain ⟨d0, d1, d2⟩ := c2
  clear ho hb htx HR HCU
  by_cases h0 : k = 0
  · have e0 : (k == 0) = true := by simp [h0]
    subst h0
    go_wp2_with fail
    refine grabB (fun W9 => Bx 47 W9 W.heap.size #[.int .i64 0, .int .i64 0, .slice none 0 0] ∧ Below W.heap.size W W9) ⟨HB.out.2.st3 _ _ _, below_st3 HB.out.1 (Nat.le_refl _) _ _ _⟩ (fun W9 h9 => ?_)
    obtain ⟨ql, ⟨q0, q1, q2⟩, _⟩ := cels3 h9.1
    refine bodyPost_ret (v := .tuple #[vV 0 0 (.slice none 0 0), .int .i64 902]) (by simp [results, Tryz.results147, go_sem, q0, q1, q2]) rfl ?_
    have eo : givO s = .hole := by unfold givO; rw [HY.out]; rfl
    rw [eo]
    exact ⟨_, rfl, rfl, HE.out.next h9.2, Ka.of_below h9.2⟩
  · have e0 : (k == 0) = false := by simp [h0]
    have HGV : Hid (Calls Tryz.prog 24 #[.slice g ks.length c] w1 fun e w' => ∃ gl cl, e = .returned (.slice gl ks.length cl) ∧ LsAt W0 P (orR A W.heap.size) w' (.slice gl ks.length cl) (ks.map .giv) ∧ Below w1.heap.size w1 w') := by
      have h3 := (Tm.whole_parts HY.out).2.2
      have h := givens_at (W0 := W0) (P := P) (A := orR A W.heap.size) (W := w1) (g := g) (c := c) (ks.map Tm.ba) (by
        rintro k (hk | hk)
        · exact Nat.lt_of_lt_of_le (HAA.out k hk) HB.out.1.size
        · rw [hk]; exact HB.out.2.lt) HT.out (by rw [List.length_map]; omega)
      rw [List.length_map, Tm.lst_ba] at h
      refine h.mono ?_
      rintro e w' ⟨v, rfl, h1, h2⟩
      obtain ⟨gl, cl, rfl⟩ := h1.val
      rw [List.length_map] at h1 ⊢
      exact ⟨gl, cl, rfl, h1, h2⟩
    have HK0 : Hid (k ≠ 0) := h0
    clear c1 f0 f1 f2 d0 d1 d2 h0 HT
    go_wp2_with fail
    refine HGV.out.mono ?_
    rintro e w2 ⟨gl, cl, rfl, hl, hb2⟩
    have HB2 : Hid (Below W.heap.size W w2 ∧ Bx 47 w2 W.heap.size #[.int .i64 0, .int .i64 0, .slice none 0 0]) := ⟨HB.out.1.trans (hb2.mono HB.out.1.size), HB.out.2.next hb2⟩
    have HL := hid hl
    obtain ⟨c1, ⟨d0, d1, d2⟩, f0, f1, f2⟩ := cels3 HB2.out.2
    clear hl hb2 HGV HB
    go_wp2_with fail
    refine grabB (fun W9 => Bx 47 W9 W.heap.size #[.int .i64 k, .int .i64 x, .slice gl ks.length cl] ∧ Below W.heap.size W W9 ∧ LsAt W0 P A W9 (.slice gl ks.length cl) (ks.map .giv)) ⟨HB2.out.2.st3 _ _ _, below_st3 HB2.out.1 (Nat.le_refl _) _ _ _, HL.out.st3 _ _ _⟩ (fun W9 h9 => ?_)
    obtain ⟨ql, ⟨q0, q1, q2⟩, _⟩ := cels3 h9.1
    refine bodyPost_ret (v := .tuple #[vV k x (.slice gl ks.length cl), .int .i64 0]) (by simp [results, Tryz.results147, go_sem, q0, q1, q2]) rfl ?_
    rcases whole_kind HY.out with h | ⟨rfl, rfl⟩ | rfl | ⟨rfl, rfl, rfl⟩
    · exact absurd h HK0.out
    · have eo : givO s = .num x := by unfold givO; rw [HY.out]; rfl
      rw [eo]
      exact ⟨_, rfl, ⟨_, rfl, h9.2.2⟩, HE.out.next h9.2.1, Ka.of_below h9.2.1⟩
    · have eo : givO s = .con x (ks.map .giv) := by unfold givO; rw [HY.out]; rfl
      rw [eo]
      exact ⟨_, rfl, ⟨_, rfl, h9.2.2⟩, HE.out.next h9.2.1, Ka.of_below h9.2.1⟩
    · have eo : givO s = .fail := by unfold givO; rw [HY.out]; rfl
      rw [eo]
      exact ⟨_, rfl, ⟨_, rfl, h9.2.2⟩, HE.out.next h9.2.1, Ka.of_below h9.2.1⟩
end Go.Proofs.YtjamknejllbmkaaGreatDoor
