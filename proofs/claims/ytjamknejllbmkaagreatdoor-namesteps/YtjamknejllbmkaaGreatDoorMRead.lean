/- The reference's reader in memory: its words, its flag, its body; word, whole, after, part. · The reference's after, part, op. · The contract of the reference's kids, out of expr's. · The reference's op. · What the reference's open leans on: plain facts, rows of numbers, how it ends. · The contract of the reference's open, out of expr's. · The contract of the reference's expr. · The contract of the reference's Parse: the same plain function. · The contract of the reference's Parse: the same plain function. -/
import Derived.Test.YtjamknejllbmkaaGreatDoorMNum
import Derived.Test.YtjamknejllbmkaaGreatDoorMReader
import Derived.Test.YtjamknejllbmkaaGreatDoorMRef
import Derived.Test.YtjamknejllbmkaaGreatDoorMProg
import Derived.Test.YtjamknejllbmkaaGreatDoorMLex

namespace Go.Proofs.YtjamknejllbmkaaGreatDoor
open Go.RowKit
set_option linter.unusedVariables false

def RdR (W : World) (z : Nat) (v : Value) (d : Bool) (b : Value) : Prop := W.heap[z]? = some (.cells #[v, .bool d, b] 86 (0, 0))
theorem RdR.lt {w : World} {z : Nat} {p v : Value} {d : Bool} (h : RdR w z p d v) : z < w.heap.size := (Array.getElem?_eq_some_iff.1 h).1
theorem RdR.c0 {w : World} {z : Nat} {p v : Value} {d : Bool} (h : RdR w z p d v) : w.cell? ⟨z, 0, none⟩ = some p := by
  unfold World.cell?; simp only [show w.heap[z]? = _ from h]; rfl
theorem RdR.c1 {w : World} {z : Nat} {p v : Value} {d : Bool} (h : RdR w z p d v) : w.cell? ⟨z, 1, none⟩ = some (.bool d) := by
  unfold World.cell?; simp only [show w.heap[z]? = _ from h]; rfl
theorem RdR.c2 {w : World} {z : Nat} {p v : Value} {d : Bool} (h : RdR w z p d v) : w.cell? ⟨z, 2, none⟩ = some v := by
  unfold World.cell?; simp only [show w.heap[z]? = _ from h]; rfl
theorem RdR.frozen {w : World} {z : Nat} {p v : Value} {d : Bool} (h : RdR w z p d v) (j : Nat) : w.frozen? ⟨z, j, none⟩ = false := by
  simp [World.frozen?, show w.heap[z]? = _ from h]
theorem RdR.set0 {w : World} {z : Nat} {p v : Value} {d : Bool} (h : RdR w z p d v) (u : Value) : RdR (w.setCell ⟨z, 0, none⟩ u) z u d v := by
  obtain ⟨hlt, hk⟩ := Array.getElem?_eq_some_iff.1 h
  show (w.heap.modify z _)[z]? = _
  rw [Array.getElem?_eq_getElem (by rw [Array.size_modify]; exact hlt), Array.getElem_modify_self, hk]
  rfl
theorem RdR.set1 {w : World} {z : Nat} {p v : Value} {d : Bool} (h : RdR w z p d v) (u : Bool) : RdR (w.setCell ⟨z, 1, none⟩ (.bool u)) z p u v := by
  obtain ⟨hlt, hk⟩ := Array.getElem?_eq_some_iff.1 h
  show (w.heap.modify z _)[z]? = _
  rw [Array.getElem?_eq_getElem (by rw [Array.size_modify]; exact hlt), Array.getElem_modify_self, hk]
  rfl
theorem RdR.set2 {w : World} {z : Nat} {p v : Value} {d : Bool} (h : RdR w z p d v) (u : Value) : RdR (w.setCell ⟨z, 2, none⟩ u) z p d u := by
  obtain ⟨hlt, hk⟩ := Array.getElem?_eq_some_iff.1 h
  show (w.heap.modify z _)[z]? = _
  rw [Array.getElem?_eq_getElem (by rw [Array.size_modify]; exact hlt), Array.getElem_modify_self, hk]
  rfl
/-- The reader at these words, with this flag, with this body in that row. -/
def SR (W : World) (z : Nat) (ws : List Wd) (d : Bool) (ps : List Pt) (r : Option Nat) : Prop :=
  ∃ (g : Option Addr) (c : Nat) (bv : Value), RdR W z (.slice g ws.length c) d bv ∧ WTx W z g ws ∧ ws.length ≤ c ∧ BdO W (z + 1) bv ps ∧ bv.ownBlock = r
theorem SR.lt {W : World} {z : Nat} {ws : List Wd} {d : Bool} {ps : List Pt} {r : Option Nat} (h : SR W z ws d ps r) : z < W.heap.size := by
  obtain ⟨g, c, bv, h1, _⟩ := h
  exact h1.lt
theorem SR.row {W : World} {z : Nat} {ws : List Wd} {d : Bool} {ps : List Pt} {r : Option Nat} (h : SR W z ws d ps r) : ∀ k, r = some k → z + 1 ≤ k ∧ k < W.heap.size := by
  obtain ⟨g, c, bv, _, _, _, h4, h5⟩ := h
  intro k hk
  subst hk
  exact h4.own.lt k h5
theorem SR.free {W : World} {z : Nat} {ws : List Wd} {d : Bool} {ps : List Pt} {r : Option Nat} (h : SR W z ws d ps r) (j : Nat) : W.frozen? ⟨z, j, none⟩ = false := by
  obtain ⟨g, c, bv, h1, _⟩ := h
  exact h1.frozen j
theorem SR.flag {W : World} {z : Nat} {ws : List Wd} {d : Bool} {ps : List Pt} {r : Option Nat} (h : SR W z ws d ps r) : W.cell? ⟨z, 1, none⟩ = some (.bool d) := by
  obtain ⟨g, c, bv, h1, _⟩ := h
  exact h1.c1
theorem SR.words {W : World} {z : Nat} {ws : List Wd} {d : Bool} {ps : List Pt} {r : Option Nat} (h : SR W z ws d ps r) : ∃ g c, W.cell? ⟨z, 0, none⟩ = some (.slice g ws.length c) := by
  obtain ⟨g, c, bv, h1, _⟩ := h
  exact ⟨g, c, h1.c0⟩
theorem SR.first {W : World} {z : Nat} {w : Wd} {ws : List Wd} {d : Bool} {ps : List Pt} {r : Option Nat} (h : SR W z (w :: ws) d ps r) : ∃ bk o c, W.cell? ⟨z, 0, none⟩ = some (.slice (some ⟨bk, o, none⟩) (ws.length + 1) c) ∧ W.cell? ⟨bk, o, none⟩ = some (.string (Lx.ba w)) := by
  obtain ⟨g, c, bv, h1, h2, _⟩ := h
  rcases h2 with h2 | ⟨bk, o, rfl, _, h3⟩
  · cases h2
  · exact ⟨bk, o, c, h1.c0, h3 0 w rfl⟩
theorem SR.left {W : World} {z : Nat} {ws : List Wd} {d : Bool} {ps : List Pt} {r : Option Nat} (h : SR W z ws d ps r) : leftOf z W = ws.length := by
  obtain ⟨g, c, bv, h1, _⟩ := h
  unfold leftOf; rw [h1.c0]
theorem SR.body {W : World} {z : Nat} {ws : List Wd} {d : Bool} {ps : List Pt} {r : Option Nat} (h : SR W z ws d ps r) : ∃ g c, W.cell? ⟨z, 2, none⟩ = some (.slice g ps.length c) ∧ BdO W (z + 1) (.slice g ps.length c) ps ∧ (Value.slice g ps.length c).ownBlock = r := by
  obtain ⟨g, c, bv, h1, h2, h3, h4, h5⟩ := h
  obtain ⟨gb, cb, rfl⟩ := h4.val
  exact ⟨gb, cb, h1.c2, h4, h5⟩
theorem SR.on {W W' : World} {z : Nat} {ws : List Wd} {d : Bool} {ps : List Pt} {r : Option Nat} (h : SR W z ws d ps r) (hb : ∀ k, k < W.heap.size → W'.heap[k]? = W.heap[k]?) : SR W' z ws d ps r := by
  have hz := h.lt
  obtain ⟨g, c, bv, h1, h2, h3, h4, h5⟩ := h
  refine ⟨g, c, bv, (hb z hz).trans h1, h2.on (fun k hk => hb k (by omega)), h3, ⟨own_keep h4.own fun k _ hk _ => hb k hk, fun p hp => own_keep (h4.kids p hp) fun k _ hk _ => hb k hk⟩, h5⟩
theorem SR.below {W W' : World} {z : Nat} {ws : List Wd} {d : Bool} {ps : List Pt} {r : Option Nat} (h : SR W z ws d ps r) (hb : Below W.heap.size W W') : SR W' z ws d ps r := h.on hb.block
theorem far_z {W : World} {base e size n z : Nat} {v : Value} {xs : List Value} (h : W.ownsRow base e size v n xs) (hz : z < base) (j : Nat) (u : Value) : (W.setCell ⟨z, j, none⟩ u).ownsRow base e size v n xs :=
  own_far h (fun e => by have := (World.ownsRow.lt h z e).1; omega) _ _
/-- The flag is set. -/
theorem SR.setFlag {W : World} {z : Nat} {ws : List Wd} {d : Bool} {ps : List Pt} {r : Option Nat} (h : SR W z ws d ps r) (u : Bool) : SR (W.setCell ⟨z, 1, none⟩ (.bool u)) z ws u ps r := by
  obtain ⟨g, c, bv, h1, h2, h3, h4, h5⟩ := h
  exact ⟨g, c, bv, h1.set1 u, h2.on (fun k hk => Below.heap_setCell W _ _ k (fun e => by have e' : k = z := e; omega)), h3, ⟨far_z h4.own (by omega) _ _, fun p hp => far_z (h4.kids p hp) (by omega) _ _⟩, h5⟩
/-- The body is emptied. -/
theorem SR.clear {W : World} {z : Nat} {ws : List Wd} {d : Bool} {ps : List Pt} {r : Option Nat} (h : SR W z ws d ps r) : SR (W.setCell ⟨z, 2, none⟩ (.slice none 0 0)) z ws d [] none := by
  obtain ⟨g, c, bv, h1, h2, h3, h4, h5⟩ := h
  exact ⟨g, c, _, h1.set2 _, h2.on (fun k hk => Below.heap_setCell W _ _ k (fun e => by have e' : k = z := e; omega)), h3, BdO.nil _ _, rfl⟩

set_option maxHeartbeats 400000 in
theorem word_some (z : Nat) (w : Wd) (ws : List Wd) (d : Bool) (ps : List Pt) (r : Option Nat) (W : World) (h : SR W z (w :: ws) d ps r) (hn : ws.length ≤ 4096) :
    Calls Tryz.prog 28 #[ptr z] W fun e W' => e = .returned (.string (Lx.ba w)) ∧ SR W' z ws d ps r ∧ Kp z none W W' := by
  obtain ⟨g, c, bv, h1, h2, h3, h4, h5⟩ := h
  have c0 := h1.c0
  have f0 := h1.frozen 0
  have hlt := h1.lt
  rw [List.length_cons] at c0 h3
  have hx : ∃ bk o, g = some ⟨bk, o, none⟩ ∧ bk < z ∧ W.cell? ⟨bk, o, none⟩ = some (.string (Lx.ba w)) := by
    rcases h2 with h | ⟨bk, o, e1, e2, e3⟩
    · cases h
    · exact ⟨bk, o, e1, e2, e3 0 w rfl⟩
  obtain ⟨bk, o, rfl, hbk, hcell⟩ := hx
  have HS : Hid (SR (W.setCell ⟨z, 0, none⟩ (sliced (some ⟨bk, o, none⟩) 1 (ws.length + 1) c 1)) z ws d ps r) := by
    refine ⟨_, c - 1, bv, h1.set0 _, ?_, by omega, ⟨far_z h4.own (by omega) _ _, fun p hp => far_z (h4.kids p hp) (by omega) _ _⟩, h5⟩
    have := h2.tail h3
    exact this.on fun k hk => Below.heap_setCell _ _ _ k (fun e => by simp at e; omega)
  have HK : Hid (Kp z none W (W.setCell ⟨z, 0, none⟩ (sliced (some ⟨bk, o, none⟩) 1 (ws.length + 1) c 1))) := Kp.of_set _ _ _ _ _
  clear h1 h2 h4 h5
  have hl : ((ws.length : Int) + 1 == 0) = false := by simp; omega
  go_enter Tryz.func28, Tryz.ntmps28
  go_wp2
  all_goals
    go_ret
    refine ⟨rfl, ?_, ?_⟩
    · have h := HS.out
      simpa [sliced, Addr.add, *] using h
    · have h := HK.out
      simpa [sliced, Addr.add, *] using h
set_option maxHeartbeats 400000 in
theorem word_none (z : Nat) (d : Bool) (ps : List Pt) (r : Option Nat) (W : World) (h : SR W z [] d ps r) :
    Calls Tryz.prog 28 #[ptr z] W fun e W' => e = .returned (.string (Lx.ba [])) ∧ SR W' z [] true ps r ∧ Kp z none W W' := by
  have HS : Hid (SR (W.setCell ⟨z, 1, none⟩ (.bool true)) z [] true ps r) := h.setFlag true
  have HK : Hid (Kp z none W (W.setCell ⟨z, 1, none⟩ (.bool true))) := Kp.of_set _ _ _ _ _
  obtain ⟨g, c, bv, h1, h2, h3, h4, h5⟩ := h
  have c0 := h1.c0
  have c1 := h1.c1
  have f1 := h1.frozen 1
  clear h1 h2 h4 h5
  simp only [List.length_nil] at c0
  go_enter Tryz.func28, Tryz.ntmps28
  go_wp2
  go_ret
  exact ⟨rfl, HS.out, HK.out⟩
/-- The next word; none: the flag. -/
theorem word_any (z : Nat) (ws : List Wd) (d : Bool) (ps : List Pt) (r : Option Nat) (W : World) (h : SR W z ws d ps r) (hn : ws.length ≤ 4096) {t : Wd} {v : List Wd} (hx : nxt ws = (t, v)) :
    Calls Tryz.prog 28 #[ptr z] W fun e W' => e = .returned (.string (Lx.ba t)) ∧ SR W' z v (d || ws.isEmpty) ps r ∧ Kp z none W W' := by
  cases ws with
  | nil =>
    simp only [nxt, Prod.mk.injEq] at hx
    obtain ⟨rfl, rfl⟩ := hx
    rw [show (d || ([] : List Wd).isEmpty) = true by simp]
    exact word_none z d ps r W h
  | cons w ws =>
    simp only [nxt, Prod.mk.injEq] at hx
    obtain ⟨rfl, rfl⟩ := hx
    rw [show (d || (w :: ws).isEmpty) = d by simp]
    exact word_some z w ws d ps r W h (by simp at hn; omega)
/-- What a number up to so many turns. -/
def NumQ (o : Option Int) (z : Nat) (ws : List Wd) (d : Bool) (ps : List Pt) (r : Option Nat) (W : World) (e : Ending) (W' : World) : Prop :=
  Kp z none W W' ∧ ∃ x : Int, e = .returned (.int .i64 x) ∧ ((o = some x ∧ SR W' z ws d ps r) ∨ (o = none ∧ x = 0 ∧ SR W' z ws true ps r))
set_option maxHeartbeats 800000 in
theorem whole_any (z : Nat) (ws : List Wd) (d : Bool) (ps : List Pt) (r : Option Nat) (W : World) (t : Wd) (most : Int) (h : SR W z ws d ps r) (ht : t.length ≤ 4096) (h0 : 0 ≤ most) (hm : most ≤ 99) :
    Calls Tryz.prog 29 #[ptr z, .string (Lx.ba t), .int .i64 most] W fun e W' => NumQ (lim most (dg t)) z ws d ps r W e W' := by
  have hs : (Lx.ba t).size = t.length := rfl
  have HS : Hid (SR W z ws d ps r) := h
  have HB : Hid (SR (W.setCell ⟨z, 1, none⟩ (.bool true)) z ws true ps r) := h.setFlag true
  have HK : Hid (Kp z none W (W.setCell ⟨z, 1, none⟩ (.bool true))) := Kp.of_set _ _ _ _ _
  have c1 := h.flag
  have f1 := h.free 1
  have hd := Tm.digits_wide (Lx.ba t) W (by omega)
  clear h
  go_enter Tryz.func29, Tryz.ntmps29
  go_wp2_with fail
  refine hd.mono ?_
  rintro e w' ⟨x, k, rfl, rfl, hq⟩
  rw [ba_list] at hq
  have hk6 := hq.2.1
  clear hd
  by_cases hk : k = 0
  · have HL : Hid (lim most (dg t) = none) := lim_no hq hm (Or.inl hk)
    have e1 : ((k : Int) == 0) = true := by simp [hk]
    clear hq hk
    go_wp2_with fail
    go_ret
    exact ⟨HK.out, 0, rfl, Or.inr ⟨HL.out, rfl, HB.out⟩⟩
  · have e1 : ((k : Int) == 0) = false := by simpa using hk
    by_cases hl : k = t.length
    · have e2 : ((k : Int) == ((Lx.ba t).size : Int)) = true := by rw [hs, hl]; simp
      have e2' : ((k : Int) != ((Lx.ba t).size : Int)) = false := by rw [bne, e2]; rfl
      by_cases hx : (x : Int) ≤ most
      · have HL : Hid (lim most (dg t) = some (x : Int)) := lim_yes hq hk hl hx hm
        have e3 : decide (most < (x : Int)) = false := decide_eq_false (by omega)
        have e3' : ¬ most < (x : Int) := by omega
        clear hq hk hl hx hs
        go_wp2_with fail
        go_ret
        exact ⟨Kp.refl _ _ _, (x : Int), rfl, Or.inl ⟨HL.out, HS.out⟩⟩
      · have HL : Hid (lim most (dg t) = none) := lim_no hq hm (Or.inr (Or.inr (by omega)))
        have e3 : decide (most < (x : Int)) = true := decide_eq_true (by omega)
        have e3' : most < (x : Int) := by omega
        clear hq hk hl hx hs
        go_wp2_with fail
        go_ret
        exact ⟨HK.out, 0, rfl, Or.inr ⟨HL.out, rfl, HB.out⟩⟩
    · have HL : Hid (lim most (dg t) = none) := lim_no hq hm (Or.inr (Or.inl hl))
      have e2 : ((k : Int) == ((Lx.ba t).size : Int)) = false := by rw [hs]; simp; omega
      have e2' : ((k : Int) != ((Lx.ba t).size : Int)) = true := by rw [bne, e2]; rfl
      clear hq hk hl hs
      go_wp2_with fail
      go_ret
      exact ⟨HK.out, 0, rfl, Or.inr ⟨HL.out, rfl, HB.out⟩⟩
end Go.Proofs.YtjamknejllbmkaaGreatDoor

namespace Go.Proofs.YtjamknejllbmkaaGreatDoor
open Go.RowKit
set_option linter.unusedVariables false

theorem ba_tail (a : UInt8) (r : List UInt8) : (Lx.ba (a :: r)).extract 1 (Lx.ba (a :: r)).size = Lx.ba r := by
  apply ByteArray.ext
  apply Array.toList_inj.1
  rw [Lib.extract_data]
  show List.take ((a :: r).length - 1) (List.drop 1 (a :: r)) = r
  simp
set_option maxHeartbeats 800000 in
set_option maxRecDepth 100000 in
theorem after_any (z : Nat) (ws : List Wd) (d : Bool) (ps : List Pt) (r : Option Nat) (W : World) (t : Wd) (c : UInt8) (ci most : Int) (hci : ci = (c.toNat : Int)) (h : SR W z ws d ps r) (ht : t.length ≤ 4096) (h0 : 0 ≤ most) (hm : most ≤ 99) :
    Calls Tryz.prog 52 #[ptr z, .string (Lx.ba t), .int .u8 ci, .int .i64 most] W fun e W' => NumQ (lim most (db c t)) z ws d ps r W e W' := by
  have HB : Hid (SR (W.setCell ⟨z, 1, none⟩ (.bool true)) z ws true ps r) := h.setFlag true
  have HK : Hid (Kp z none W (W.setCell ⟨z, 1, none⟩ (.bool true))) := Kp.of_set _ _ _ _ _
  have c1 := h.flag
  have f1 := h.free 1
  cases t with
  | nil =>
    have hq : ((Lx.ba []).toList == []) = true := by rw [ba_is]; rfl
    clear h
    go_enter Tryz.func52, Tryz.ntmps52
    go_wp2_with fail
    go_ret
    exact ⟨HK.out, 0, rfl, Or.inr ⟨rfl, rfl, HB.out⟩⟩
  | cons a t =>
    have hq : ((Lx.ba (a :: t)).toList == []) = false := by rw [ba_is]; rfl
    obtain ⟨s, hs⟩ : ∃ s, Lx.ba (a :: t) = s := ⟨_, rfl⟩
    have hsz : s.size = t.length + 1 := by rw [← hs]; rfl
    have hpos : 0 < s.size := by omega
    have hp1 : (1 : Int) ≤ (s.size : Int) := by omega
    have h00 : s[0]'hpos = a := by subst hs; rfl
    have hex : s.extract 1 s.size = Lx.ba t := by rw [← hs]; exact ba_tail a t
    have hbig : s.size ≤ 4096 := by simp at ht; omega
    rw [hs] at hq ⊢
    by_cases hac : a = c
    · have e1 : ((s[0].toNat : Int) == ci) = true := by rw [h00, hac, hci]; simp
      have e2 : ((s[0].toNat : Int) != ci) = false := by rw [bne, e1]; rfl
      have HD : Hid (db c (a :: t) = dg t) := by show _ = _; simp only [db, if_pos hac]
      have hcall := whole_any z ws d ps r W t most h (by simp at ht; omega) h0 hm
      clear h hs hac hci ht h00 hsz
      go_enter Tryz.func52, Tryz.ntmps52
      go_wp2_with fail
      refine hcall.mono ?_
      clear hcall
      rintro e w' ⟨hk, x, rfl, hx⟩
      have HH : Hid (Kp z none W w' ∧ ((lim most (dg t) = some x ∧ SR w' z ws d ps r) ∨ (lim most (dg t) = none ∧ x = 0 ∧ SR w' z ws true ps r))) := ⟨hk, hx⟩
      clear hk hx
      go_wp2_with fail
      go_ret
      rw [HD.out]
      exact ⟨HH.out.1, x, rfl, HH.out.2⟩
    · have e1 : ((s[0].toNat : Int) == ci) = false := by
        rw [h00, hci]
        simp only [beq_eq_false_iff_ne, ne_eq]
        intro e
        exact hac (UInt8.toNat_inj.1 (by omega))
      have e2 : ((s[0].toNat : Int) != ci) = true := by rw [bne, e1]; rfl
      have HD : Hid (lim most (db c (a :: t)) = none) := by show _ = _; simp only [db, if_neg hac]; rfl
      clear h hs hac hci ht h00 hsz
      go_enter Tryz.func52, Tryz.ntmps52
      go_wp2_with fail
      go_ret
      exact ⟨HK.out, 0, rfl, Or.inr ⟨HD.out, rfl, HB.out⟩⟩

/-- The reader behind an append to its body and the store of the new list. -/
theorem SR.put {W w' : World} {z : Nat} {ws : List Wd} {d : Bool} {ps : List Pt} {q : Pt} {gw : Option Addr} {cw : Nat} {bv : Value} {cs : Array Value} {g cap : Nat}
    (h1 : RdR W z (.slice gw ws.length cw) d bv) (h2 : WTx W z gw ws) (h3 : ws.length ≤ cw) (h4 : BdO W (z + 1) bv ps)
    (hB : BdO w' (z + 1) (.slice (some ⟨g, 0, none⟩) (ps.length + 1) cap) (ps ++ [q])) (hg : (W.alloc (.cells cs 55)).grownBy w' bv.ownBlock) (hx : bv.ownBlock = some g ∨ W.heap.size ≤ g) :
    RdR w' z (.slice gw ws.length cw) d bv ∧ SR (w'.setCell ⟨z, 2, none⟩ (.slice (some ⟨g, 0, none⟩) (ps.length + 1) cap)) z ws d (ps ++ [q]) (some g) ∧ Kp z bv.ownBlock W (w'.setCell ⟨z, 2, none⟩ (.slice (some ⟨g, 0, none⟩) (ps.length + 1) cap)) ∧ Nx W bv.ownBlock (some g) := by
  have hlt := h1.lt
  have hrow : ∀ k, bv.ownBlock = some k → z + 1 ≤ k ∧ k < W.heap.size := fun k hk => h4.own.lt k hk
  have low : ∀ k, k < W.heap.size → some k ≠ bv.ownBlock → w'.heap[k]? = W.heap[k]? := fun k hk hr => (hg.block k (by rw [World.size_alloc]; omega) hr).trans (Below.heap_alloc W _ k hk)
  have hr' : RdR w' z (.slice gw ws.length cw) d bv := (low z hlt (fun e => by have := hrow z e.symm; omega)).trans h1
  refine ⟨hr', ⟨gw, cw, _, hr'.set2 _, ?_, h3, ⟨far_z hB.own (by omega) _ _, fun p hp => far_z (hB.kids p hp) (by omega) _ _⟩, rfl⟩, ?_, ?_⟩
  · refine h2.on fun k hk => (Below.heap_setCell w' _ _ k (fun e => by have e' : k = z := e; omega)).trans (low k (by omega) (fun e => by have := hrow k e.symm; omega))
  · refine ⟨hg.os, hg.tape, hg.output, ?_, fun k hk hz hr => (Below.heap_setCell w' _ _ k (fun e => hz e)).trans (low k hk hr)⟩
    have h5 := hg.size
    rw [World.size_alloc] at h5
    exact Nat.le_trans (by omega) (KeepsWalks.setCell w' _ _).size
  · rcases hx with hx | hx
    · exact Or.inl hx.symm
    · exact Or.inr fun k hk => by cases hk; exact hx
/-- How part ends. -/
def PutQ (z : Nat) (ws : List Wd) (d : Bool) (ps : List Pt) (r : Option Nat) (q : Pt) (W : World) (e : Ending) (W' : World) : Prop :=
  e = .returned (.int .i64 (ps.length : Int)) ∧ ∃ r', SR W' z ws d (ps ++ [q]) r' ∧ Kp z r W W' ∧ Nx W r r'
set_option maxHeartbeats 2000000 in
set_option maxRecDepth 100000 in
theorem rpart_any (z : Nat) (ws : List Wd) (d : Bool) (ps : List Pt) (r : Option Nat) (W : World) (k n b : Int) (ks : List Int) (g : Option Addr) (c : Nat) (h : SR W z ws d ps r) (hq : KdO W (z + 1) (⟨k, n, b, ks⟩, g, c)) (hlen : ps.length + 1 ≤ 8192) :
    Calls Tryz.prog 51 #[ptr z, .agg #[.int .i64 k, .int .i64 n, .int .i64 b, .slice g ks.length c]] W fun e W' => PutQ z ws d ps r (⟨k, n, b, ks⟩, g, c) W e W' := by
  have hb1 : Below W.heap.size W (W.alloc (.cells #[.int .i64 k, .int .i64 n, .int .i64 b, .slice g ks.length c] 55)) := (Below.refl _ W).alloc (Nat.le_refl _) _
  have hX := World.alloc_heap_new W (.cells #[.int .i64 k, .int .i64 n, .int .i64 b, .slice g ks.length c] 55)
  have hS1 := h.below hb1
  have hq1 : KdO (W.alloc (.cells #[.int .i64 k, .int .i64 n, .int .i64 b, .slice g ks.length c] 55)) (z + 1) (⟨k, n, b, ks⟩, g, c) := own_keep hq (fun k _ hk _ => hb1.block k hk)
  obtain ⟨gw, cw, bv, h1, h2, h3, h4, h5⟩ := hS1
  obtain ⟨gb, cb, rfl⟩ := h4.val
  obtain ⟨m, hm⟩ : ∃ m, ps.length = m := ⟨_, rfl⟩
  have HM : Hid (ps.length = m) := hm
  have hmm : m + 1 ≤ 8192 := by omega
  go_enter Tryz.func51, Tryz.ntmps51
  go_wp2_with fail
  obtain ⟨W5, hW5⟩ : ∃ W5, W.alloc (.cells #[.int .i64 k, .int .i64 n, .int .i64 b, .slice g ks.length c] 55) = W5 := ⟨_, rfl⟩
  rw [hW5] at hb1 hX hq1 h1 h2 h4 ⊢
  have hX5 : Rw W5 W.heap.size #[.int .i64 k, .int .i64 n, .int .i64 b, .slice g ks.length c] := hX
  have b0 := h1.c2
  have b1 := h1.frozen 2
  have bl := h1.lt
  have x0 := hX5.cell 0 _ rfl
  have x1 := hX5.cell 1 _ rfl
  have x2 := hX5.cell 2 _ rfl
  have x3 := hX5.cell 3 _ rfl
  have HA : Hid (RdR W5 z (.slice gw ws.length cw) d (.slice gb ps.length cb) ∧ WTx W5 z gw ws ∧ ws.length ≤ cw ∧ BdO W5 (z + 1) (.slice gb ps.length cb) ps ∧ (Value.slice gb ps.length cb).ownBlock = r ∧ KdO W5 (z + 1) (⟨k, n, b, ks⟩, g, c) ∧ Below W.heap.size W W5 ∧ z + 1 ≤ W5.heap.size) := ⟨h1, h2, h3, h4, h5, hq1, hb1, by omega⟩
  rw [hm] at b0
  clear h hq hb1 hX hq1 h1 h2 h3 h4 h5 hW5 hX5 hm hlen
  go_wp2_with fail
  go_region_law
    (refine step_exO rfl _ _ rfl (z + 1) (.slice gb m cb) ps (⟨k, n, b, ks⟩, g, c) _ rfl rfl W5.heap.size rfl rfl (by rw [← HM.out]; exact HA.out.2.2.2.1) HA.out.2.2.2.2.2.1 HA.out.2.2.2.2.2.2.2 (by have h1 := HM.out; omega) ?_; intro g7 k7 w7 hB7 hg7 hx7; have hg7' : (W5.alloc (.cells #[.int .i64 k, .int .i64 n, .int .i64 b, .slice g ks.length c] 55)).grownBy w7 (Value.slice gb m cb).ownBlock := hg7; have hx7' := hx7; rw [← HM.out] at hg7' hx7'; have h7 := SR.put HA.out.1 HA.out.2.1 HA.out.2.2.1 HA.out.2.2.2.1 hB7 hg7' hx7'; have y0 := h7.1.frozen 2; have y1 := h7.1.c2; have yl := h7.1.lt; have H7 : Hid _ := h7.2; rw [HM.out] at H7 ⊢; clear hB7 hg7 hx7 h7 hg7' hx7')
  all_goals
    go_wp2_with fail
    go_ret
    obtain ⟨h1, h2, h3⟩ := H7.out
    refine ⟨by rw [HM.out]; rfl, _, h1, ?_, ?_⟩
    · have h5 := HA.out.2.2.2.2.1
      rw [HM.out] at h5
      rw [← h5]
      exact (Kp.of_below HA.out.2.2.2.2.2.2.1).trans (Nx.refl _ _) h2
    · have h5 := HA.out.2.2.2.2.1
      rw [HM.out] at h5
      rw [← h5]
      exact (Nx.refl _ _).trans h3 HA.out.2.2.2.2.2.2.1.size
end Go.Proofs.YtjamknejllbmkaaGreatDoor

namespace Go.Proofs.YtjamknejllbmkaaGreatDoor
open Go.RowKit
set_option linter.unusedVariables false

/-- What has come of it so far. -/
structure Pg (z : Nat) (r0 : Option Nat) (W0 : World) (ps : List Pt) (W : World) (ws : List Wd) (d : Bool) (qs : List Pt) (r : Option Nat) : Prop where
  kp : Kp z r0 W0 W
  nx : Nx W0 r0 r
  st : SR W z ws d (ps ++ qs) r
  fresh : ∀ q ∈ qs, KdO W W0.heap.size q
theorem Pg.start {z : Nat} {W : World} {ws : List Wd} {d : Bool} {ps : List Pt} {r : Option Nat} (h : SR W z ws d ps r) : Pg z r W ps W ws d [] r :=
  ⟨Kp.refl _ _ _, Nx.refl _ _, by rw [List.append_nil]; exact h, fun q hq => by cases hq⟩
/-- A row of numbers is kept where only the reader's body and its box are turned. -/
theorem keep3 {z : Nat} {W W' : World} {ws : List Wd} {d : Bool} {ps : List Pt} {r : Option Nat} (hS : SR W z ws d ps r) (hK : Kp z r W W') {B n : Nat} {v : Value} {xs : List Value} (ho : W.ownsRow B 3 1 v n xs) (hz : z < B) : W'.ownsRow B 3 1 v n xs := by
  refine hK.own ho hz ?_
  obtain ⟨g, c, bv, _, _, _, h4, h5⟩ := hS
  rw [← h5]
  exact rows_apart ho h4.own
theorem Pg.trans {z : Nat} {r0 : Option Nat} {W0 W1 W2 : World} {ps : List Pt} {ws1 ws2 : List Wd} {d1 d2 : Bool} {qs1 qs2 : List Pt} {r1 r2 : Option Nat} (h : Pg z r0 W0 ps W1 ws1 d1 qs1 r1) (hz : z < W0.heap.size) (h2 : Pg z r1 W1 (ps ++ qs1) W2 ws2 d2 qs2 r2) : Pg z r0 W0 ps W2 ws2 d2 (qs1 ++ qs2) r2 := by
  refine ⟨h.kp.trans h.nx h2.kp, h.nx.trans h2.nx h.kp.size, by rw [← List.append_assoc]; exact h2.st, fun q hq => ?_⟩
  rcases List.mem_append.1 hq with hq | hq
  · exact keep3 h.st h2.kp (h.fresh q hq) hz
  · exact Lx.own_base (h2.fresh q hq) h.kp.size
/-- Something has been done that leaves all rows. -/
theorem Pg.next {z : Nat} {r0 : Option Nat} {W0 W1 W2 : World} {ps : List Pt} {ws1 ws2 : List Wd} {d1 d2 : Bool} {qs1 : List Pt} {r1 : Option Nat} (h : Pg z r0 W0 ps W1 ws1 d1 qs1 r1) (hz : z < W0.heap.size) (hK : Kp z none W1 W2) (hS : SR W2 z ws2 d2 (ps ++ qs1) r1) : Pg z r0 W0 ps W2 ws2 d2 qs1 r1 :=
  ⟨h.kp.trans h.nx (hK.wide _), h.nx, hS, fun q hq => keep3 h.st (hK.wide _) (h.fresh q hq) hz⟩
theorem Pg.below {z : Nat} {r0 : Option Nat} {W0 W1 W2 : World} {ps : List Pt} {ws1 : List Wd} {d1 : Bool} {qs1 : List Pt} {r1 : Option Nat} (h : Pg z r0 W0 ps W1 ws1 d1 qs1 r1) (hz : z < W0.heap.size) (hb : Below W1.heap.size W1 W2) : Pg z r0 W0 ps W2 ws1 d1 qs1 r1 :=
  h.next hz (Kp.of_below hb) (h.st.below hb)
theorem Pg.setFlag {z : Nat} {r0 : Option Nat} {W0 W1 : World} {ps : List Pt} {ws1 : List Wd} {d1 : Bool} {qs1 : List Pt} {r1 : Option Nat} (h : Pg z r0 W0 ps W1 ws1 d1 qs1 r1) (hz : z < W0.heap.size) (u : Bool) : Pg z r0 W0 ps (W1.setCell ⟨z, 1, none⟩ (.bool u)) ws1 u qs1 r1 :=
  h.next hz (Kp.of_set _ _ _ _ _) (h.st.setFlag u)
/-- A part has been put behind the others. -/
theorem Pg.put {z : Nat} {r0 : Option Nat} {W0 W1 W2 : World} {ps : List Pt} {ws1 : List Wd} {d1 : Bool} {qs1 : List Pt} {r1 r2 : Option Nat} {q : Pt} (h : Pg z r0 W0 ps W1 ws1 d1 qs1 r1) (hz : z < W0.heap.size) (hq : KdO W1 W0.heap.size q) (hS : SR W2 z ws1 d1 (ps ++ qs1 ++ [q]) r2) (hK : Kp z r1 W1 W2) (hN : Nx W1 r1 r2) : Pg z r0 W0 ps W2 ws1 d1 (qs1 ++ [q]) r2 := by
  refine ⟨h.kp.trans h.nx hK, h.nx.trans hN h.kp.size, by rw [← List.append_assoc]; exact hS, fun p hp => ?_⟩
  rcases List.mem_append.1 hp with hp | hp
  · exact keep3 h.st hK (h.fresh p hp) hz
  · rw [List.mem_singleton] at hp; subst hp; exact keep3 h.st hK hq hz
/-- How expr ends. -/
def ExQ (n : Nat) (z : Nat) (r : Option Nat) (W : World) (ps : List Pt) (ws : List Wd) (d : Bool) (e : Ending) (W' : World) : Prop :=
  ∃ (ws' : List Wd) (d' : Bool) (qs : List Pt) (r' : Option Nat) (x : Int), e = .returned (.int .i64 x) ∧ Pg z r W ps W' ws' d' qs r' ∧ ws'.length + (ps ++ qs).length ≤ ws.length + ps.length ∧ ws' <:+ (nxt ws).2 ∧
    (d' = false → d = false ∧ rp n ws (ps.map (·.1)) = some (ws', (ps ++ qs).map (·.1)) ∧ x = lastAt ((ps ++ qs).map (·.1))) ∧ (d' = true → d = true ∨ Fl (rp n ws (ps.map (·.1))))
def ExSaid (n : Nat) : Prop := ∀ (ws : List Wd) (d : Bool) (ps : List Pt) (r : Option Nat) (W : World) (z : Nat), ws.length ≤ n → Sz ws ps → SR W z ws d ps r → Calls Tryz.prog 30 #[ptr z] W fun e W' => ExQ n z r W ps ws d e W'
/-- How kids ends. -/
def KdQ (O : Option (List Wd × List Ex × List Int)) (most : Nat) (z : Nat) (r : Option Nat) (W : World) (ps : List Pt) (ws : List Wd) (d : Bool) (e : Ending) (W' : World) : Prop :=
  ∃ (ws' : List Wd) (d' : Bool) (qs : List Pt) (r' : Option Nat) (g : Option Addr) (c : Nat) (ks : List Int), e = .returned (.slice g ks.length c) ∧ Pg z r W ps W' ws' d' qs r' ∧ W'.ownsRow W.heap.size 3 1 (.slice g ks.length c) ks.length (I64 ks) ∧ ks.length ≤ most ∧ (ks = [] → g = none) ∧
    ws'.length + (ps ++ qs).length ≤ ws.length + ps.length ∧ ws' <:+ ws ∧ (d' = false → d = false ∧ O = some (ws', (ps ++ qs).map (·.1), ks)) ∧ (d' = true → d = true ∨ FlR most O)
def KdSaid (n : Nat) : Prop := ∀ (m : Nat) (ws : List Wd) (d : Bool) (ps : List Pt) (r : Option Nat) (W : World) (z : Nat) (most : Nat), ws.length ≤ n → ws.length < m → Sz ws ps → SR W z ws d ps r → most ≤ 3 →
  Calls Tryz.prog 71 #[ptr z, .int .i64 (most : Int)] W fun e W' => KdQ (rr (rp n) m [] ws (ps.map (·.1))) most z r W ps ws d e W'
/-- The state within kids. -/
structure KS (z : Nat) (r0 : Option Nat) (W0 : World) (ps : List Pt) (W : World) (ws : List Wd) (d : Bool) (qs : List Pt) (r : Option Nat) (kv : Value) (ks : List Int) : Prop where
  pg : Pg z r0 W0 ps W ws d qs r
  kids : W.ownsRow W0.heap.size 3 1 kv ks.length (I64 ks)
  apt : Apt qs kv
theorem KS.part {z : Nat} {r0 : Option Nat} {W0 wr w2 : World} {ps : List Pt} {ws1 ws2 : List Wd} {d1 d2 : Bool} {qs1 qs2 : List Pt} {r1 r2 : Option Nat} {kv : Value} {ks : List Int} (h : KS z r0 W0 ps wr ws1 d1 qs1 r1 kv ks) (hz : z < W0.heap.size) (hp : Pg z r1 wr (ps ++ qs1) w2 ws2 d2 qs2 r2) : KS z r0 W0 ps w2 ws2 d2 (qs1 ++ qs2) r2 kv ks := by
  refine ⟨h.pg.trans hz hp, keep3 h.pg.st hp.kp h.kids hz, fun q hq => ?_⟩
  rcases List.mem_append.1 hq with hq | hq
  · exact h.apt q hq
  · have h8 := hp.fresh q hq
    cases e : (Value.slice q.2.1 q.1.kids.length q.2.2).ownBlock with
    | none => exact .inl rfl
    | some k =>
      right
      have h9 := (World.ownsRow.lt h8 k e).1
      intro e'
      have := (World.ownsRow.lt h.kids k e'.symm).2
      omega
theorem KS.kid {z : Nat} {r0 : Option Nat} {W0 w2 w3 : World} {ps : List Pt} {ws : List Wd} {d : Bool} {qs : List Pt} {r : Option Nat} {kv v' : Value} {ks ks' : List Int} {g : Nat}
    (h : KS z r0 W0 ps w2 ws d qs r kv ks) (hlt : z < W0.heap.size) (hold : ∀ p ∈ ps, KdO W0 (z + 1) p) (ho : w3.ownsRow W0.heap.size 3 1 v' ks'.length (I64 ks')) (hg : w2.grownBy w3 kv.ownBlock) (hv : v'.ownBlock = some g) (hx : kv.ownBlock = some g ∨ w2.heap.size ≤ g) :
    KS z r0 W0 ps w3 ws d qs r v' ks' := by
  have hkv : ∀ k, kv.ownBlock = some k → W0.heap.size ≤ k ∧ k < w2.heap.size := fun k e => World.ownsRow.lt h.kids k e
  have old : ∀ p ∈ ps ++ qs, (Value.slice p.2.1 p.1.kids.length p.2.2).ownBlock = none ∨ (Value.slice p.2.1 p.1.kids.length p.2.2).ownBlock ≠ kv.ownBlock := fun p hp => by
    rcases List.mem_append.1 hp with hp | hp
    · cases e : (Value.slice p.2.1 p.1.kids.length p.2.2).ownBlock with
      | none => exact .inl rfl
      | some k =>
        right
        intro e'
        have h1 := (World.ownsRow.lt (hold p hp) k e).2
        have h2 := (hkv k e'.symm).1
        omega
    · exact h.apt p hp
  have low : ∀ k, k < W0.heap.size → w3.heap[k]? = w2.heap[k]? := fun k hk => hg.block k (Nat.lt_of_lt_of_le hk h.pg.kp.size) (fun e => by have := (hkv k e.symm).1; omega)
  have kk : Kp z r0 W0 w3 := ⟨hg.os.trans h.pg.kp.os, hg.tape.trans h.pg.kp.tape, hg.output.trans h.pg.kp.output, Nat.le_trans h.pg.kp.size hg.size, fun k hk hz hr => (low k hk).trans (h.pg.kp.block k hk hz hr)⟩
  refine ⟨⟨kk, h.pg.nx, ?_, fun q hq => World.ownsRow.kept (h.pg.fresh q hq) hg (h.apt q hq)⟩, ho, fun q hq => ?_⟩
  · obtain ⟨gw, c, bv, h1, h2, h3, h4, h5⟩ := h.pg.st
    refine ⟨gw, c, bv, (low z hlt).trans h1, h2.on (fun k hk => low k (by omega)), h3, ⟨?_, fun p hp => World.ownsRow.kept (h4.kids p hp) hg (old p hp)⟩, h5⟩
    refine h4.own.kept hg ?_
    rcases h4.own.2 with ⟨h6, _⟩ | ⟨gb, cap, cur, hv2, _, hh, _⟩
    · left; rw [h6]; rfl
    · right
      subst hv2
      intro e
      rcases h.kids.2 with ⟨h7, _⟩ | ⟨gk, cap', cur', h7, _, hh', _⟩
      · rw [h7] at e; cases e
      · rw [h7] at e
        have e2 : gb = gk := Option.some.inj e
        subst e2
        rw [hh] at hh'; cases hh'
  · rcases h.apt q hq with h1 | h1
    · exact .inl h1
    · cases e : (Value.slice q.2.1 q.1.kids.length q.2.2).ownBlock with
      | none => exact .inl rfl
      | some k =>
        right
        rw [hv]
        intro e'
        have e2 : k = g := Option.some.inj e'
        subst e2
        rcases hx with hx | hx
        · exact h1 (e.trans hx.symm)
        · have := (World.ownsRow.lt (h.pg.fresh q hq) k e).2
          omega
/-- What the flag tells within kids. -/
def KF (n most : Nat) (O : Option (List Wd × List Ex × List Int)) (d : Bool) (m1 : Nat) (ks1 : List Int) (ws1 : List Wd) (b1 : List Ex) (d1 : Bool) : Prop :=
  (d1 = false → d = false ∧ ws1.length < m1 ∧ rr (rp n) m1 ks1 ws1 b1 = O) ∧ (d1 = true → d = true ∨ FlR most O)

set_option maxHeartbeats 2000000 in
set_option maxRecDepth 100000 in
theorem kids_of (n : Nat) (hE : ExSaid n) : KdSaid n := by
  intro m ws d ps r W z most hn hm hs hS hmost
  obtain ⟨O, hO⟩ : ∃ O, rr (rp n) m [] ws (ps.map (·.1)) = O := ⟨_, rfl⟩
  rw [hO]
  have hzl := hS.lt
  have hold : ∀ p ∈ ps, KdO W (z + 1) p := by
    obtain ⟨g, c, bv, _, _, _, h4, _⟩ := hS
    exact h4.kids
  have HU : Hid (z < W.heap.size ∧ (∀ p ∈ ps, KdO W (z + 1) p) ∧ Sz ws ps ∧ ws.length ≤ n) := ⟨hzl, hold, hs, hn⟩
  have HI : Hid (KS z r W ps W ws d [] r (.slice none 0 0) [] ∧ KF n most O d m [] ws (ps.map (·.1)) d) := by
    refine ⟨⟨Pg.start hS, World.ownsRow_nil _ _ _ _, fun q hq => by cases hq⟩, fun h => ⟨h, hm, hO⟩, fun h => Or.inl h⟩
  clear hO hS hold hzl hs hn hm
  go_enter Tryz.func71, Tryz.ntmps71
  go_wp2_with fail
  go_loopw [5, 6] (fun v _ wr => ∃ (ws1 : List Wd) (d1 : Bool) (qs1 : List Pt) (r1 : Option Nat) (g1 : Option Addr) (c1 : Nat) (ks1 : List Int) (m1 : Nat), v = .slice g1 ks1.length c1 ∧ Hid (KS z r W ps wr ws1 d1 qs1 r1 v ks1) ∧ Hid (KF n most O d m1 ks1 ws1 ((ps ++ qs1).map (·.1)) d1) ∧ Hid (ks1.length ≤ most ∧ ws1.length + (ps ++ qs1).length ≤ ws.length + ps.length ∧ ws1 <:+ ws) ∧ Hid (ks1 = [] → g1 = none))
    (fun _ _ wr => leftOf z wr)
  case atStart =>
    refine ⟨ws, d, [], r, none, 0, [], m, rfl, HI.out.1, ?_, ⟨Nat.zero_le _, by simp, List.suffix_refl _⟩, fun _ => rfl⟩
    rw [List.append_nil]
    exact HI.out.2
  case round =>
    clear HI
    obtain ⟨ws1, d1, qs1, r1, g1, c1, ks1, m1, rfl, HK, HF, HL, HG⟩ := hrel
    have f1 := HK.out.pg.st.flag
    have f1' := HK.out.pg.st.free 1
    have hl4 : ws1.length ≤ 4096 := by have h1 := HL.out; have h2 := HU.out.2.2.1.1; omega
    obtain ⟨t, v, hx⟩ : ∃ t v, nxt ws1 = (t, v) := ⟨_, _, rfl⟩
    have hword := word_any z ws1 d1 (ps ++ qs1) r1 wr HK.out.pg.st hl4 hx
    cases d1 with
    | true =>
      rw [show (true || ws1.isEmpty) = true by rfl] at hword
      have HX : Hid (nxt ws1 = (t, v)) := hx
      clear hx
      go_wp2_with fail
      refine hword.mono ?_
      clear hword
      rintro e w2 ⟨rfl, hS2, hK2⟩
      have HP2 : Hid (Pg z r W ps w2 v true qs1 r1) := HK.out.pg.next HU.out.1 hK2 hS2
      have HR2 : Hid (w2.ownsRow W.heap.size 3 1 (.slice g1 ks1.length c1) ks1.length (I64 ks1)) := keep3 HK.out.pg.st (hK2.wide _) HK.out.kids HU.out.1
      have HQ2 : Hid (v.length + (ps ++ qs1).length ≤ ws.length + ps.length ∧ v <:+ ws) := by
        have h1 := nxt_len ws1
        have h2 : (nxt ws1).2 <:+ ws1 := by
          cases ws1 with
          | nil => exact List.suffix_refl _
          | cons w ws => exact List.suffix_cons _ _
        rw [HX.out] at h1 h2
        dsimp only at h1 h2
        exact ⟨by have := HL.out.2.1; omega, h2.trans HL.out.2.2⟩
      have c2 := hS2.flag
      have f2 := hS2.free 1
      clear hS2 hK2 f1 f1'
      by_cases hc : t = [41]
      · have hq : ((Lx.ba t).toList == [41]) = true := by rw [ba_is, hc]; rfl
        have hq' : ((Lx.ba t).toList != [41]) = false := by rw [bne, hq]; rfl
        clear hc
        go_wp2_with fail
        go_ret
        exact ⟨v, true, qs1, r1, g1, c1, ks1, rfl, HP2.out, HR2.out, HL.out.1, HG.out, HQ2.out.1, HQ2.out.2, (fun h => by cases h), fun _ => HF.out.2 rfl⟩
      · have hq : ((Lx.ba t).toList == [41]) = false := by rw [ba_is]; simpa using hc
        have hq' : ((Lx.ba t).toList != [41]) = true := by rw [bne, hq]; rfl
        clear hc
        go_wp2_with fail
        go_ret
        exact ⟨v, true, qs1, r1, g1, c1, ks1, rfl, HP2.out.setFlag HU.out.1 true, far_z HR2.out HU.out.1 _ _, HL.out.1, HG.out, HQ2.out.1, HQ2.out.2, (fun h => by cases h), fun _ => HF.out.2 rfl⟩
    | false =>
      cases ws1 with
      | nil =>
        obtain ⟨gw, cw, c0⟩ := HK.out.pg.st.words
        rw [List.length_nil] at c0
        simp only [nxt, Prod.mk.injEq] at hx
        obtain ⟨rfl, rfl⟩ := hx
        rw [show (false || ([] : List Wd).isEmpty) = true by rfl] at hword
        have HO : Hid (FlR most O) := by
          have h := (HF.out.1 rfl).2.2
          rw [rr_nil] at h
          exact Or.inl h.symm
        go_wp2_with fail
        refine hword.mono ?_
        clear hword
        rintro e w2 ⟨rfl, hS2, hK2⟩
        have HP2 : Hid (Pg z r W ps w2 [] true qs1 r1) := HK.out.pg.next HU.out.1 hK2 hS2
        have HR2 : Hid (w2.ownsRow W.heap.size 3 1 (.slice g1 ks1.length c1) ks1.length (I64 ks1)) := keep3 HK.out.pg.st (hK2.wide _) HK.out.kids HU.out.1
        have c2 := hS2.flag
        have f2 := hS2.free 1
        have hq : ((Lx.ba []).toList == [41]) = false := by rw [ba_is]; rfl
        have hq' : ((Lx.ba []).toList != [41]) = true := by rw [bne, ba_is]; rfl
        clear hS2 hK2 f1 f1' c0
        go_wp2_with fail
        go_ret
        exact ⟨[], true, qs1, r1, g1, c1, ks1, rfl, HP2.out.setFlag HU.out.1 true, far_z HR2.out HU.out.1 _ _, HL.out.1, HG.out, HL.out.2.1, HL.out.2.2, (fun h => by cases h), fun _ => Or.inr HO.out⟩
      | cons w1 ws1 =>
        obtain ⟨bk, o, cw, c0, cf⟩ := HK.out.pg.st.first
        have hl0 : (0 : Int) < (ws1.length : Int) + 1 := by omega
        simp only [nxt, Prod.mk.injEq] at hx
        obtain ⟨rfl, rfl⟩ := hx
        rw [show (false || (w1 :: ws1).isEmpty) = false by rfl] at hword
        by_cases hw : w1 = [41]
        · have hq : ((Lx.ba w1).toList == [41]) = true := by rw [ba_is, hw]; rfl
          have hq' : ((Lx.ba w1).toList != [41]) = false := by rw [bne, hq]; rfl
          have HO : Hid (d = false ∧ O = some (ws1, (ps ++ qs1).map (·.1), ks1)) := by
            obtain ⟨h1, h2, h3⟩ := HF.out.1 rfl
            rw [hw, rr_done (by simpa using h2)] at h3
            exact ⟨h1, h3.symm⟩
          clear hw
          go_wp2_with fail
          refine hword.mono ?_
          clear hword
          rintro e w2 ⟨rfl, hS2, hK2⟩
          have HP2 : Hid (Pg z r W ps w2 ws1 false qs1 r1) := HK.out.pg.next HU.out.1 hK2 hS2
          have HR2 : Hid (w2.ownsRow W.heap.size 3 1 (.slice g1 ks1.length c1) ks1.length (I64 ks1)) := keep3 HK.out.pg.st (hK2.wide _) HK.out.kids HU.out.1
          clear hS2 hK2 f1 f1' c0 cf
          go_wp2_with fail
          go_ret
          refine ⟨ws1, false, qs1, r1, g1, c1, ks1, rfl, HP2.out, HR2.out, HL.out.1, HG.out, ?_, (List.suffix_cons _ _).trans HL.out.2.2, fun _ => HO.out, (fun h => by cases h)⟩
          have := HL.out.2.1
          simp only [List.length_cons] at this
          omega
        · have hq : ((Lx.ba w1).toList == [41]) = false := by rw [ba_is]; simpa using hw
          have hq' : ((Lx.ba w1).toList != [41]) = true := by rw [bne, hq]; rfl
          have HW : Hid (w1 ≠ [41]) := hw
          clear hw hword
          by_cases hfull : ks1.length = most
          · have e1 : ((ks1.length : Int) == (most : Int)) = true := by rw [hfull]; simp
            have HO : Hid (FlR most O) := by
              obtain ⟨h1, h2, h3⟩ := HF.out.1 rfl
              rw [← h3]
              cases hr : rr (rp n) m1 ks1 (w1 :: ws1) ((ps ++ qs1).map (·.1)) with
              | none => exact Or.inl rfl
              | some y =>
                obtain ⟨ws', b', ks'⟩ := y
                refine Or.inr ⟨ws', b', ks', rfl, Or.inr ?_⟩
                obtain ⟨m', rfl⟩ : ∃ m', m1 = m' + 1 := ⟨m1 - 1, by simp only [List.length_cons] at h2; omega⟩
                rw [rr, if_neg HW.out] at hr
                split at hr
                · cases hr
                · have := (rr_more _ _ _ _ _ _ _ hr).length_le
                  rw [List.length_append, List.length_singleton] at this
                  omega
            clear hfull
            go_wp2_with fail
            go_ret
            exact ⟨w1 :: ws1, true, qs1, r1, g1, c1, ks1, rfl, HK.out.pg.setFlag HU.out.1 true, far_z HK.out.kids HU.out.1 _ _, HL.out.1, HG.out, HL.out.2.1, HL.out.2.2, (fun h => by cases h), fun _ => Or.inr HO.out⟩
          · have e1 : ((ks1.length : Int) == (most : Int)) = false := by simp; omega
            have HFL : Hid (ks1.length + 1 ≤ most) := by have := HL.out.1; show _ ≤ _; omega
            have hcall := hE (w1 :: ws1) false (ps ++ qs1) r1 wr z (Nat.le_trans HL.out.2.2.length_le HU.out.2.2.2) (HU.out.2.2.1.on HL.out.2.2 HL.out.2.1) HK.out.pg.st
            clear hfull
            go_wp2_with fail
            refine hcall.mono ?_
            clear hcall
            rintro e w2 ⟨ws2, d2, qs2, r2, x, rfl, hP2, hl2, hs2, hf2, ht2⟩
            have HK2 : Hid (KS z r W ps w2 ws2 d2 (qs1 ++ qs2) r2 (.slice g1 ks1.length c1) ks1) := HK.out.part HU.out.1 hP2
            have HF2 : Hid (KF n most O d (m1 - 1) (ks1 ++ [x]) ws2 ((ps ++ (qs1 ++ qs2)).map (·.1)) d2 ∧ ws2.length + (ps ++ (qs1 ++ qs2)).length ≤ ws.length + ps.length ∧ ws2 <:+ ws ∧ ws2.length < ws1.length + 1) := by
              obtain ⟨h1, h2, h3⟩ := HF.out.1 rfl
              obtain ⟨m', rfl⟩ : ∃ m', m1 = m' + 1 := ⟨m1 - 1, by simp only [List.length_cons] at h2; omega⟩
              rw [Nat.add_sub_cancel, ← List.append_assoc]
              have hs2' : ws2 <:+ ws1 := hs2
              have hll := hs2'.length_le
              simp only [List.length_cons] at h2
              refine ⟨⟨fun h => ?_, fun h => ?_⟩, by have := HL.out.2.1; omega, (hs2'.trans (List.suffix_cons _ _)).trans HL.out.2.2, by omega⟩
              · obtain ⟨_, h5, h6⟩ := hf2 h
                refine ⟨h1, by omega, ?_⟩
                rw [← h3, rr_on HW.out h5, h6]
              · right
                rw [← h3]
                rcases ht2 h with h4 | h4 | ⟨ws', b', h4, h5⟩
                · cases h4
                · rw [rr_no HW.out h4]; exact Or.inl rfl
                · rw [rr_on HW.out h4]; exact FlR.of_sp (rp_gd n) h5
            have HLF : Hid (leftOf z wr = ws1.length + 1) := HK.out.pg.st.left
            have hkl : ks1.length ≤ 8192 := by have := HFL.out; omega
            have hbase : W.heap.size ≤ w2.heap.size := HK2.out.pg.kp.size
            clear hP2 hl2 hs2 hf2 ht2 f1 f1' c0 cf HK HF
            go_wp2_with (at_builtin; refine app_kid rfl _ _ rfl W.heap.size (.slice g1 ks1.length c1) ks1 x rfl w2.heap.size rfl rfl HK2.out.kids hbase hkl ?_)
            intro g' cap' w3 ho3 hg3 hx3
            have HZ : Hid (KS z r W ps w3 ws2 d2 (qs1 ++ qs2) r2 (.slice (some ⟨g', 0, none⟩) (ks1.length + 1) cap') (ks1 ++ [x])) := by
              refine HK2.out.kid HU.out.1 HU.out.2.1 (g := g') ?_ hg3 rfl hx3
              rw [List.length_append, show I64 (ks1 ++ [x]) = List.map (Value.int .i64) ks1 ++ [Value.int .i64 x] from List.map_append]
              exact ho3
            clear ho3 hg3 hx3 HK2
            go_wp2_with fail
            go_roundw
            case rel =>
              refine ⟨ws2, d2, qs1 ++ qs2, r2, some ⟨g', 0, none⟩, cap', ks1 ++ [x], m1 - 1, by rw [List.length_append]; rfl, HZ, HF2.out.1, ⟨?_, HF2.out.2.1, HF2.out.2.2.1⟩, (fun h => by simp at h)⟩
              rw [List.length_append, List.length_singleton]; exact HFL.out
            case measure =>
              rw [HZ.out.pg.st.left, HLF.out]
              exact HF2.out.2.2.2
end Go.Proofs.YtjamknejllbmkaaGreatDoor

namespace Go.Proofs.YtjamknejllbmkaaGreatDoor
open Go.RowKit
set_option linter.unusedVariables false

/-- Which operation a word is. -/
def opw (t : Wd) : Int := if t = [43] then 0 else if t = [45] then 1 else if t = [42] then 2 else if t = [61] then 3 else if t = [60] then 4 else -1
theorem eq_of {l t : Wd} (h : (l == (Lx.ba t).toList) = true) : t = l := by
  rw [Lib.toList_data] at h
  exact (eq_of_beq h).symm
theorem ne_of {l t : Wd} (h : (l == (Lx.ba t).toList) = false) : t ≠ l := by
  rw [Lib.toList_data] at h
  intro e
  have := ne_of_beq_false h
  exact this e.symm
set_option maxHeartbeats 800000 in
set_option maxRecDepth 100000 in
theorem op_any (t : Wd) (W : World) : Calls Tryz.prog 70 #[.string (Lx.ba t)] W fun e W' => e = .returned (.int .i64 (opw t)) ∧ Below W.heap.size W W' := by
  have hb : Below W.heap.size W (W.alloc (.cells #[.string ⟨#[43]⟩, .string ⟨#[45]⟩, .string ⟨#[42]⟩, .string ⟨#[61]⟩, .string ⟨#[60]⟩] 9)) := (Below.refl _ W).alloc (Nat.le_refl _) _
  go_enter Tryz.func70, Tryz.ntmps70
  go_wp2_with fail
  go_loopw [4] (fun s4 wr => ∃ i : Nat, i ≤ 5 ∧ s4 = .int .i64 (i : Int) ∧ wr = W.alloc (.cells #[.string ⟨#[43]⟩, .string ⟨#[45]⟩, .string ⟨#[42]⟩, .string ⟨#[61]⟩, .string ⟨#[60]⟩] 9) ∧ (0 < i → t ≠ [43]) ∧ (1 < i → t ≠ [45]) ∧ (2 < i → t ≠ [42]) ∧ (3 < i → t ≠ [61]) ∧ (4 < i → t ≠ [60]))
    (fun s4 _ => 5 - (intOf s4).toNat)
  case atStart => exact ⟨0, by omega, rfl, rfl, by omega, by omega, by omega, by omega, by omega⟩
  case round =>
    obtain ⟨i, hi, rfl, rfl, k0, k1, k2, k3, k4⟩ := hrel
    obtain rfl | rfl | rfl | rfl | rfl | rfl : i = 0 ∨ i = 1 ∨ i = 2 ∨ i = 3 ∨ i = 4 ∨ i = 5 := by omega
    · go_wp2_with fail
      · rename_i h
        have ht := eq_of h
        go_ret
        refine ⟨?_, hb⟩
        rw [ht]; rfl
      · rename_i h
        have ht := ne_of h
        refine ⟨⟨1, by omega, rfl, trivial, fun _ => ht, fun h => by omega, fun h => by omega, fun h => by omega, fun h => by omega⟩, by simp [intOf]⟩
    · go_wp2_with fail
      · rename_i h
        have ht := eq_of h
        go_ret
        refine ⟨?_, hb⟩
        rw [ht]; rfl
      · rename_i h
        have ht := ne_of h
        refine ⟨⟨2, by omega, rfl, trivial, fun _ => k0 (by omega), fun _ => ht, fun h => by omega, fun h => by omega, fun h => by omega⟩, by simp [intOf]⟩
    · go_wp2_with fail
      · rename_i h
        have ht := eq_of h
        go_ret
        refine ⟨?_, hb⟩
        rw [ht]; rfl
      · rename_i h
        have ht := ne_of h
        refine ⟨⟨3, by omega, rfl, trivial, fun _ => k0 (by omega), fun _ => k1 (by omega), fun _ => ht, fun h => by omega, fun h => by omega⟩, by simp [intOf]⟩
    · go_wp2_with fail
      · rename_i h
        have ht := eq_of h
        go_ret
        refine ⟨?_, hb⟩
        rw [ht]; rfl
      · rename_i h
        have ht := ne_of h
        refine ⟨⟨4, by omega, rfl, trivial, fun _ => k0 (by omega), fun _ => k1 (by omega), fun _ => k2 (by omega), fun _ => ht, fun h => by omega⟩, by simp [intOf]⟩
    · go_wp2_with fail
      · rename_i h
        have ht := eq_of h
        go_ret
        refine ⟨?_, hb⟩
        rw [ht]; rfl
      · rename_i h
        have ht := ne_of h
        refine ⟨⟨5, by omega, rfl, trivial, fun _ => k0 (by omega), fun _ => k1 (by omega), fun _ => k2 (by omega), fun _ => k3 (by omega), fun _ => ht⟩, by simp [intOf]⟩
    · go_wp2_with fail
      go_ret
      refine ⟨?_, hb⟩
      unfold opw
      rw [if_neg (k0 (by omega)), if_neg (k1 (by omega)), if_neg (k2 (by omega)), if_neg (k3 (by omega)), if_neg (k4 (by omega))]
      rfl
end Go.Proofs.YtjamknejllbmkaaGreatDoor

namespace Go.Proofs.YtjamknejllbmkaaGreatDoor
open Go.RowKit
set_option linter.unusedVariables false

theorem i64_one (ks : List Int) : ∀ u ∈ I64 ks, u.oneCell' = true := by
  intro u hu
  obtain ⟨b, _, rfl⟩ := List.mem_map.1 hu
  rfl
/-- A row of numbers put behind another one. -/
theorem app_row {w : World} {ops : Array Oper} {rest : List Oper} {o : Oper} {a : Act} {Q : Exit → Act → World → Prop} (hgd : o.guard = none) (s x : Operand)
    (ho : o.op = .call { callee := .builtin .append, args := #[s, x], argTypes := #[53, 53] }) (base B : Nat) (v X : Value) (ks ms : List Int) (hs : a.eval s = v) (hx : a.eval x = X)
    (hown : w.ownsRow base 3 1 v ks.length (I64 ks)) (hX : w.ownsRow B 3 1 X ms.length (I64 ms)) (hb : base ≤ w.heap.size) (hlen : ks.length + ms.length ≤ 8192)
    (h : ∀ v' w', w'.ownsRow base 3 1 v' (ks ++ ms).length (I64 (ks ++ ms)) → w.grownBy w' v.ownBlock → wpList Tryz.prog ops Q rest (a.put o.dst v') w') : wpList Tryz.prog ops Q (o :: rest) a w := by
  obtain ⟨i0, hi, hz0, hz1, hz2⟩ := info_parts Tryz.info3p
  rcases hX.2 with ⟨rfl, hm⟩ | ⟨g, cap, cur, rfl, _⟩
  · have e : ms = [] := List.length_eq_zero_iff.1 hm
    subst e
    refine wpList_append_own_none hgd s x 53 ho base 3 i0 1 Tryz.underlying53 hi v _ _ hs hown hx (h v w ?_ ⟨rfl, rfl, rfl, Nat.le_refl _, fun _ _ _ => rfl⟩)
    rw [List.append_nil]; exact hown
  · refine wpList_append_own w hgd s x 53 ho base 3 i0 (.int .i64 0) 1 8 Tryz.underlying53 hi hz0 hz1 hz2 rfl (by decide) v _ _ hs hown ⟨g, 0, none⟩ ms.length cap (I64 ms) hx (by simp) (fun j u hj => hX.cells (g := g) rfl j u hj) (i64_one ms) (by unfold maxLen; omega) (by omega) hb ?_
    intro v' w' h1 h2 _
    refine h v' w' ?_ h2
    rw [List.length_append, show I64 (ks ++ ms) = I64 ks ++ I64 ms from List.map_append]; exact h1

/-- The same, with where the new row lies. -/
theorem app_rowL {w : World} {ops : Array Oper} {rest : List Oper} {o : Oper} {a : Act} {Q : Exit → Act → World → Prop} (hgd : o.guard = none) (s x : Operand)
    (ho : o.op = .call { callee := .builtin .append, args := #[s, x], argTypes := #[53, 53] }) (base B : Nat) (v X : Value) (ks ms : List Int) (hs : a.eval s = v) (hx : a.eval x = X)
    (hown : w.ownsRow base 3 1 v ks.length (I64 ks)) (hX : w.ownsRow B 3 1 X ms.length (I64 ms)) (hb : base ≤ w.heap.size) (hlen : ks.length + ms.length ≤ 8192) (g0 : Nat) (hv : v = .slice (some ⟨g0, 0, none⟩) ks.length ks.length) (hne : ms = [] → ∃ n c, X = .slice none n c)
    (h : ∀ g cap w', w'.ownsRow base 3 1 (.slice (some ⟨g, 0, none⟩) (ks ++ ms).length cap) (ks ++ ms).length (I64 (ks ++ ms)) → w.grownBy w' v.ownBlock → (v.ownBlock = some g ∨ w.heap.size ≤ g) → wpList Tryz.prog ops Q rest (a.put o.dst (.slice (some ⟨g, 0, none⟩) (ks ++ ms).length cap)) w') : wpList Tryz.prog ops Q (o :: rest) a w := by
  obtain ⟨i0, hi, hz0, hz1, hz2⟩ := info_parts Tryz.info3p
  rcases hX.2 with ⟨rfl, hm⟩ | ⟨g, cap, cur, rfl, _⟩
  · have e : ms = [] := List.length_eq_zero_iff.1 hm
    subst e
    rw [List.append_nil] at h
    refine wpList_append_own_none hgd s x 53 ho base 3 i0 1 Tryz.underlying53 hi v _ _ hs hown hx ?_
    subst hv
    exact h g0 ks.length w hown ⟨rfl, rfl, rfl, Nat.le_refl _, fun _ _ _ => rfl⟩ (Or.inl rfl)
  · by_cases hm : ms = []
    · obtain ⟨n, c, e⟩ := hne hm
      cases e
    · refine wpList_plain hgd fun _ hK => wp_append_lies w s x 53 ho base 3 i0 (.int .i64 0) 1 8 Tryz.underlying53 hi hz0 hz1 hz2 rfl (by decide) v _ _ hs hown ⟨g, 0, none⟩ ms.length cap (I64 ms) hx (by simp) (fun j u hj => hX.cells (g := g) rfl j u hj) (i64_one ms) (List.length_pos_iff.2 hm) (by unfold maxLen; omega) (by omega) hb _ rfl ?_
      intro g' cap' w' h1 h2 h3 _
      have e : (ks ++ ms).length = ks.length + ms.length := List.length_append
      refine hK _ _ ?_
      rw [← e]
      refine h g' cap' w' ?_ h2 ?_
      · rw [e, show I64 (ks ++ ms) = I64 ks ++ I64 ms from List.map_append]; exact h1
      · rcases h3 with h3 | h3
        · exact Or.inl h3
        · right; omega

/-! A bracket and what stands behind it. -/
abbrev ob (n : Nat) (ws : List Wd) (b : List Ex) : Option (List Wd × List Ex) := rp (n + 1) ([40] :: ws) b
theorem ob_eq (n : Nat) (ws : List Wd) (b : List Ex) : ob n ws b = match rb (rp n) (n + 1) ws b with
    | none => none
    | some (ws', b', e) => some (ws', b' ++ [e]) := by
  unfold ob; rw [rp, if_pos rfl]; rfl
theorem ob_none {n : Nat} {ws v : List Wd} {t : Wd} {b : List Ex} (hx : nxt ws = (t, v)) (hc : t ≠ [99, 97, 115, 101]) (hh : hdw t = none) : ob n ws b = none := by
  rw [ob_eq, rb_no hx hc hh]
theorem ob_some {n : Nat} {ws v : List Wd} {t : Wd} {b : List Ex} {x : Ex} (hx : nxt ws = (t, v)) (hc : t ≠ [99, 97, 115, 101]) (hh : hdw t = some x) {ws' : List Wd} {b' : List Ex} {ks : List Int} (hr : rr (rp n) (n + 1) [] v b = some (ws', b', ks)) (hk : ¬ (x.kind = 3 ∧ ks = [])) : ob n ws b = some (ws', b' ++ [{ x with kids := ks }]) := by
  rw [ob_eq, rb_on hx hc hh, hr]; simp only [if_neg hk]
theorem ob_fl {n most : Nat} {ws v : List Wd} {t : Wd} {b : List Ex} {x : Ex} (hx : nxt ws = (t, v)) (hc : t ≠ [99, 97, 115, 101]) (hh : hdw t = some x) (hr : FlR most (rr (rp n) (n + 1) [] v b)) (hn : ∀ ks : List Int, most < ks.length → Nok { x with kids := ks }) : Fl (ob n ws b) := by
  rw [ob_eq, rb_on hx hc hh]
  rcases hr with hr | ⟨ws', b', ks, hr, h⟩
  · rw [hr]; exact Or.inl rfl
  · rw [hr]
    by_cases hk : x.kind = 3 ∧ ks = []
    · simp only [if_pos hk]; exact Or.inl rfl
    · simp only [if_neg hk]
      refine Or.inr ⟨_, _, rfl, ?_⟩
      rcases h with h | h
      · exact h.mono (List.prefix_append _ _)
      · exact Sp.last (hn ks h)
theorem ob_case {n : Nat} {ws v : List Wd} {b : List Ex} (hx : nxt ws = ([99, 97, 115, 101], v)) : ob n ws b = match rc (rp n) (n + 1) v b with
    | none => none
    | some (ws', b', e) => some (ws', b' ++ [e]) := by
  rw [ob_eq, rb_case hx]
theorem case_part {n m : Nat} {v ws3 : List Wd} {b b3 : List Ex} (h : rp n v b = some (ws3, b3)) {ws4 : List Wd} {b4 : List Ex} {x : Ex} (hc : rc (rp n) m v b = some (ws4, b4, x)) :
    b3 <+: b4 ∧ ∃ tag bind, db 64 (nxt ws3).1 = some tag ∧ dg (nxt (nxt ws3).2).1 = some bind ∧ ∃ ks, rr (rp n) m [lastAt b3] (nxt (nxt ws3).2).2 b3 = some (ws4, b4, ks) ∧ x = ⟨5, tag, bind, ks⟩ := by
  cases ht : db 64 (nxt ws3).1 with
  | none => rw [rc_tag h ht] at hc; cases hc
  | some tag =>
    cases hd : dg (nxt (nxt ws3).2).1 with
    | none => rw [rc_bind h ht hd] at hc; cases hc
    | some bind =>
      rw [rc_on h ht hd] at hc
      cases hr : rr (rp n) m [lastAt b3] (nxt (nxt ws3).2).2 b3 with
      | none => rw [hr] at hc; cases hc
      | some y =>
        obtain ⟨ws5, b5, ks⟩ := y
        rw [hr] at hc
        cases hc
        exact ⟨(rr_gd (rp_gd n) _ _ _ _ _ _ _ hr).2.2.2.1, tag, bind, rfl, rfl, ks, rfl, rfl⟩
/-- Whatever is read, it is spoiled if each part that may come of it may not be. -/
theorem case_fl {n : Nat} {ws v ws3 : List Wd} {b b3 : List Ex} (hx : nxt ws = ([99, 97, 115, 101], v)) (h : rp n v b = some (ws3, b3))
    (hn : ∀ tag bind ks ws4 b4, db 64 (nxt ws3).1 = some tag → dg (nxt (nxt ws3).2).1 = some bind → rr (rp n) (n + 1) [lastAt b3] (nxt (nxt ws3).2).2 b3 = some (ws4, b4, ks) → Sp b4 ∨ Nok ⟨5, tag, bind, ks⟩) : Fl (ob n ws b) := by
  rw [ob_case hx]
  cases hc : rc (rp n) (n + 1) v b with
  | none => exact Or.inl rfl
  | some y =>
    obtain ⟨ws4, b4, x⟩ := y
    obtain ⟨_, tag, bind, h1, h2, ks, h3, rfl⟩ := case_part h hc
    refine Or.inr ⟨_, _, rfl, ?_⟩
    rcases hn tag bind ks ws4 b4 h1 h2 h3 with h4 | h4
    · exact h4.mono (List.prefix_append _ _)
    · exact Sp.last h4
theorem case_f0 {n : Nat} {ws v : List Wd} {b : List Ex} (hx : nxt ws = ([99, 97, 115, 101], v)) (h : Fl (rp n v b)) : Fl (ob n ws b) := by
  rcases h with h | ⟨ws3, b3, h, hs⟩
  · rw [ob_case hx, rc_no h]; exact Or.inl rfl
  · exact case_fl hx h fun tag bind ks ws4 b4 _ _ hr => Or.inl (hs.mono (rr_gd (rp_gd n) _ _ _ _ _ _ _ hr).2.2.2.1)
theorem case_f1 {n : Nat} {ws v ws3 : List Wd} {b b3 : List Ex} (hx : nxt ws = ([99, 97, 115, 101], v)) (h : rp n v b = some (ws3, b3)) (ht : lim 99 (db 64 (nxt ws3).1) = none) : Fl (ob n ws b) := by
  refine case_fl hx h fun tag bind ks ws4 b4 h1 _ _ => Or.inr ?_
  rcases lim_none ht with h2 | ⟨x, h2, h3⟩
  · rw [h2] at h1; cases h1
  · rw [h2] at h1; cases h1; exact nok_case (Or.inl h3)
theorem case_f2 {n : Nat} {ws v ws3 : List Wd} {b b3 : List Ex} (hx : nxt ws = ([99, 97, 115, 101], v)) (h : rp n v b = some (ws3, b3)) (ht : lim 3 (dg (nxt (nxt ws3).2).1) = none) : Fl (ob n ws b) := by
  refine case_fl hx h fun tag bind ks ws4 b4 _ h1 _ => Or.inr ?_
  rcases lim_none ht with h2 | ⟨x, h2, h3⟩
  · rw [h2] at h1; cases h1
  · rw [h2] at h1; cases h1; exact nok_case (Or.inr (Or.inl h3))
theorem case_f3 {n : Nat} {ws v ws3 : List Wd} {b b3 : List Ex} (hx : nxt ws = ([99, 97, 115, 101], v)) (h : rp n v b = some (ws3, b3)) (hr : FlR 2 (rr (rp n) (n + 1) [] (nxt (nxt ws3).2).2 b3)) : Fl (ob n ws b) := by
  refine case_fl hx h fun tag bind ks ws4 b4 _ _ h1 => ?_
  have hp := rr_pre (f := rp n) [lastAt b3] (n + 1) [] (nxt (nxt ws3).2).2 b3
  rw [List.append_nil, h1] at hp
  rcases hr with hr | ⟨ws', b', ks', hr, hs⟩
  · rw [hr] at hp; cases hp
  · rw [hr] at hp
    cases hp
    rcases hs with hs | hs
    · exact Or.inl hs
    · exact Or.inr (nok_case (Or.inr (Or.inr (by simp; omega))))
theorem case_ok {n : Nat} {ws v ws3 : List Wd} {b b3 : List Ex} {tag bind : Int} {ws9 : List Wd} {b9 : List Ex} {ks : List Int} (hx : nxt ws = ([99, 97, 115, 101], v)) (h : rp n v b = some (ws3, b3)) (ht : lim 99 (db 64 (nxt ws3).1) = some tag) (hd : lim 3 (dg (nxt (nxt ws3).2).1) = some bind) (hr : rr (rp n) (n + 1) [] (nxt (nxt ws3).2).2 b3 = some (ws9, b9, ks)) :
    ob n ws b = some (ws9, b9 ++ [⟨5, tag, bind, lastAt b3 :: ks⟩]) := by
  have hp := rr_pre (f := rp n) [lastAt b3] (n + 1) [] (nxt (nxt ws3).2).2 b3
  rw [List.append_nil, hr] at hp
  rw [ob_case hx, rc_on h (lim_some ht).1 (lim_some hd).1, hp]
  rfl
/-- How open ends. -/
def RQ (O : Option (List Wd × List Ex)) (z : Nat) (r : Option Nat) (W : World) (ps : List Pt) (ws : List Wd) (e : Ending) (W' : World) : Prop :=
  ∃ (ws' : List Wd) (d' : Bool) (qs : List Pt) (r' : Option Nat) (x : Int), e = .returned (.int .i64 x) ∧ Pg z r W ps W' ws' d' qs r' ∧ ws'.length + (ps ++ qs).length ≤ ws.length + ps.length ∧ ws' <:+ ws ∧
    (d' = false → O = some (ws', (ps ++ qs).map (·.1)) ∧ x = lastAt ((ps ++ qs).map (·.1))) ∧ (d' = true → Fl O)
theorem Pg.base {z : Nat} {r : Option Nat} {W w3 w4 : World} {ps : List Pt} {ws : List Wd} {d : Bool} {qs : List Pt} {r' : Option Nat} (hK : Kp z r W w3) (h : Pg z r w3 ps w4 ws d qs r') : Pg z r W ps w4 ws d qs r' :=
  ⟨hK.trans (Nx.refl _ _) h.kp, (Nx.refl W r).trans h.nx hK.size, h.st, fun q hq => Lx.own_base (h.fresh q hq) hK.size⟩
/-- A part has been put behind all of it. -/
theorem RQ.put {O : Option (List Wd × List Ex)} {z : Nat} {r : Option Nat} {W w3 w5 w6 : World} {ps : List Pt} {ws ws4 : List Wd} {d4 : Bool} {qs4 : List Pt} {r4 : Option Nat} {x : Ex} {g : Option Addr} {c : Nat} {e : Ending} (hK : Kp z r W w3) (hz : z < W.heap.size)
    (hP : Pg z r w3 ps w5 ws4 d4 qs4 r4) (hq : KdO w5 w3.heap.size (x, g, c)) (hput : PutQ z ws4 d4 (ps ++ qs4) r4 (x, g, c) w5 e w6) (hl : ws4.length + (ps ++ qs4).length + 1 ≤ ws.length + ps.length) (hs : ws4 <:+ ws)
    (hy : d4 = false → O = some (ws4, (ps ++ qs4).map (·.1) ++ [x])) (hn : d4 = true → Fl O) : RQ O z r W ps ws e w6 := by
  obtain ⟨rfl, r6, hS, hK6, hN6⟩ := hput
  refine ⟨ws4, d4, qs4 ++ [(x, g, c)], r6, _, rfl, Pg.base hK (hP.put (Nat.lt_of_lt_of_le hz hK.size) hq hS hK6 hN6), ?_, hs, fun h => ⟨?_, ?_⟩, hn⟩
  · have : (ps ++ qs4 ++ [(x, g, c)]).length = (ps ++ qs4).length + 1 := by rw [List.length_append]; rfl
    rw [← List.append_assoc, this]; omega
  · rw [hy h, ← List.append_assoc]; simp
  · have : (ps ++ qs4 ++ [(x, g, c)]).length = (ps ++ qs4).length + 1 := by rw [List.length_append]; rfl
    rw [← List.append_assoc, lastAt, List.length_map, this]; omega
end Go.Proofs.YtjamknejllbmkaaGreatDoor

namespace Go.Proofs.YtjamknejllbmkaaGreatDoor
open Go.RowKit
set_option linter.unusedVariables false

def OpSaid (n : Nat) : Prop := ∀ (ws : List Wd) (ps : List Pt) (r : Option Nat) (W : World) (z : Nat), ws.length ≤ n → Sz ws ps → SR W z ws false ps r → Calls Tryz.prog 50 #[ptr z] W fun e W' => RQ (ob n ws (ps.map (·.1))) z r W ps ws e W'
theorem opw_hd {t : Wd} (h : 0 ≤ opw t) : hdw t = some ⟨4, opw t, 0, []⟩ ∧ t ≠ [99, 97, 115, 101] := by
  unfold opw at h ⊢
  split at h
  · rename_i e; subst e; decide
  · split at h
    · rename_i e; subst e; decide
    · split at h
      · rename_i e; subst e; decide
      · split at h
        · rename_i e; subst e; decide
        · split at h
          · rename_i e; subst e; decide
          · omega
theorem opw_no {t : Wd} (h : opw t < 0) : t ≠ [43] ∧ t ≠ [45] ∧ t ≠ [42] ∧ t ≠ [61] ∧ t ≠ [60] := by
  refine ⟨?_, ?_, ?_, ?_, ?_⟩ <;> (rintro rfl; revert h; decide)
theorem hdw_else {t : Wd} (h : opw t < 0) (hl : t ≠ [108, 101, 116]) : hdw t = match db 102 t with
    | some x => some ⟨2, x, 0, []⟩
    | none => match db 64 t with
      | some x => some ⟨3, x, 0, []⟩
      | none => none := by
  obtain ⟨h0, h1, h2, h3, h4⟩ := opw_no h
  unfold hdw; rw [if_neg h0, if_neg h1, if_neg h2, if_neg h3, if_neg h4, if_neg hl]; rfl

theorem ob_nok {n : Nat} {ws v : List Wd} {t : Wd} {b : List Ex} {x : Ex} (hx : nxt ws = (t, v)) (hc : t ≠ [99, 97, 115, 101]) (hh : hdw t = some x) (hn : ∀ ks : List Int, Nok { x with kids := ks }) : Fl (ob n ws b) := by
  rw [ob_eq, rb_on hx hc hh]
  cases hr : rr (rp n) (n + 1) [] v b with
  | none => exact Or.inl rfl
  | some y =>
    obtain ⟨ws', b', ks⟩ := y
    by_cases hk : x.kind = 3 ∧ ks = []
    · simp only [if_pos hk]; exact Or.inl rfl
    · simp only [if_neg hk]
      exact Or.inr ⟨_, _, rfl, Sp.last (hn ks)⟩
theorem ob_empty {n : Nat} {ws v : List Wd} {t : Wd} {b : List Ex} {x : Ex} (hx : nxt ws = (t, v)) (hc : t ≠ [99, 97, 115, 101]) (hh : hdw t = some x) {ws' : List Wd} {b' : List Ex} (hr : rr (rp n) (n + 1) [] v b = some (ws', b', [])) (hk : x.kind = 3) : ob n ws b = none := by
  rw [ob_eq, rb_on hx hc hh, hr]
  simp [hk]
/-- What a number up to so many leaves of the flag. -/
theorem NumQ.flag {o : Option Int} {z : Nat} {ws : List Wd} {d : Bool} {ps : List Pt} {r : Option Nat} {W W' : World} {e : Ending} (h : NumQ o z ws d ps r W e W') : ∃ (x : Int) (d' : Bool), e = .returned (.int .i64 x) ∧ Kp z none W W' ∧ SR W' z ws d' ps r ∧ (d' = false → d = false ∧ o = some x) ∧ (d' = true → d = true ∨ o = none) := by
  obtain ⟨hk, x, he, ⟨h1, h2⟩ | ⟨h1, h2, h3⟩⟩ := h
  · exact ⟨x, d, he, hk, h2, fun h => ⟨h, h1⟩, fun h => Or.inl h⟩
  · exact ⟨x, true, he, hk, h3, (fun h => by cases h), fun _ => Or.inr h1⟩

set_option maxHeartbeats 4000000 in
set_option maxRecDepth 100000 in
theorem open_of (n : Nat) (hE : ExSaid n) : OpSaid n := by
  intro ws ps r W z hn hs hS
  have hKids := kids_of n hE
  obtain ⟨O, hO⟩ : ∃ O, ob n ws (ps.map (·.1)) = O := ⟨_, rfl⟩
  rw [hO]
  have hzl := hS.lt
  obtain ⟨t, v, hx⟩ : ∃ t v, nxt ws = (t, v) := ⟨_, _, rfl⟩
  have HX : Hid (nxt ws = (t, v)) := hx
  have HO : Hid (ob n ws (ps.map (·.1)) = O) := hO
  have HV : Hid (z < W.heap.size ∧ v.length ≤ n ∧ Sz v ps ∧ t.length ≤ 4096 ∧ ws.length + ps.length ≤ 4096 ∧ v <:+ ws ∧ v.length = ws.length - 1) := by
    have h2 := nxt_len ws
    have hsf : (nxt ws).2 <:+ ws := by
      cases ws with
      | nil => exact List.suffix_refl _
      | cons w ws => exact List.suffix_cons _ _
    have h4 := hs.on (ps' := ps) hsf (by omega)
    have h5 : (nxt ws).1.length ≤ 4096 := by
      cases ws with
      | nil => simp [nxt]
      | cons w ws => exact hs.2 w (by simp)
    rw [hx] at h2 h4 h5 hsf
    dsimp only at h2 hsf
    exact ⟨hzl, by omega, h4, h5, hs.1, hsf, h2⟩
  have hcall := word_any z ws false ps r W hS (by have := hs.1; omega) hx
  clear hO hS hzl hx hs hn
  go_enter Tryz.func50, Tryz.ntmps50
  go_wp2_with fail
  refine hcall.mono ?_
  clear hcall
  rintro e w2 ⟨rfl, hS2, hK2⟩
  have HK2 : Hid (Kp z r W w2) := hK2.wide r
  have c1 := hS2.flag
  have f1 := hS2.free 1
  obtain ⟨d2, hd2⟩ : ∃ d2, (false || ws.isEmpty) = d2 := ⟨_, rfl⟩
  rw [hd2] at hS2 c1
  have HS2 : Hid (SR w2 z v d2 ps r) := hS2
  clear hS2 hK2
  cases d2 with
  | true =>
    have HN : Hid (Fl O) := by
      have h : ws = [] := by simpa using hd2
      left
      rw [← HO.out]
      refine ob_none HX.out ?_ ?_
      · have h1 := HX.out; rw [h] at h1; simp only [nxt, Prod.mk.injEq] at h1; rw [← h1.1]; decide
      · have h1 := HX.out; rw [h] at h1; simp only [nxt, Prod.mk.injEq] at h1; rw [← h1.1]; decide +kernel
    clear hd2
    go_wp2_with fail
    go_ret
    refine ⟨v, true, [], r, 0, rfl, Pg.base HK2.out ((Pg.start HS2.out).setFlag HS2.out.lt true), ?_, HV.out.2.2.2.2.2.1, (fun h => by cases h), fun _ => HN.out⟩
    rw [List.append_nil]; have := HV.out.2.2.2.2.2.2; omega
  | false =>
    have HW : Hid (ws ≠ []) := by
      intro h
      rw [h] at hd2; cases hd2
    clear hd2
    by_cases ht0 : t = []
    · have hq : ((Lx.ba t).toList == []) = true := by rw [ba_is, ht0]; rfl
      have HN : Hid (Fl O) := by
        left
        rw [← HO.out]
        refine ob_none HX.out ?_ ?_
        · rw [ht0]; decide
        · rw [ht0]; decide +kernel
      clear ht0
      go_wp2_with fail
      go_ret
      refine ⟨v, true, [], r, 0, rfl, Pg.base HK2.out ((Pg.start HS2.out).setFlag HS2.out.lt true), ?_, HV.out.2.2.2.2.2.1, (fun h => by cases h), fun _ => HN.out⟩
      rw [List.append_nil]; have := HV.out.2.2.2.2.2.2; omega
    · have hq : ((Lx.ba t).toList == []) = false := by rw [ba_is]; simpa using ht0
      have HT0 : Hid (t ≠ []) := ht0
      have HVL : Hid (v.length + 1 = ws.length) := by
        have h1 := HV.out.2.2.2.2.2.2
        have h2 := List.length_pos_iff.2 HW.out
        show _ = _; omega
      clear ht0
      go_wp2_with fail
      refine (op_any t w2).mono ?_
      rintro e w3 ⟨rfl, hb3⟩
      have HK3 : Hid (Kp z r W w3) := HK2.out.trans (Nx.refl _ _) (Kp.of_below hb3)
      have HS3 : Hid (SR w3 z v false ps r) := HS2.out.below hb3
      have c3 := HS3.out.flag
      have f3 := HS3.out.free 1
      obtain ⟨op, hop⟩ : ∃ op, opw t = op := ⟨_, rfl⟩
      have HOP : Hid (opw t = op) := hop
      rw [hop]
      clear hb3 c1 f1 HS2 HK2 hop
      by_cases h0 : 0 ≤ op
      · have e0 : decide (0 ≤ op) = true := decide_eq_true h0
        have HH : Hid (hdw t = some ⟨4, op, 0, []⟩ ∧ t ≠ [99, 97, 115, 101]) := by
          have h := opw_hd (t := t) (by rw [HOP.out]; exact h0)
          rw [HOP.out] at h
          exact h
        have HKw : Hid (Kp z r W w3) := HK3.out
        have hk := hKids (n + 1) v false ps r w3 z 2 HV.out.2.1 (Nat.lt_succ_of_le HV.out.2.1) HV.out.2.2.1 HS3.out (by decide)
        go_wp2_with fail
        refine hk.mono ?_
        clear hk
        rintro e w4 ⟨ws4, d4, qs4, r4, g4, c4, ks4, rfl, hP4, hR4, hm4, _, hl4, hs4, hy4, hn4⟩
        have HP : Hid (Pg z r w3 ps w4 ws4 d4 qs4 r4 ∧ w4.ownsRow w3.heap.size 3 1 (.slice g4 ks4.length c4) ks4.length (I64 ks4)) := ⟨hP4, hR4⟩

        have HF : Hid (ws4.length + (ps ++ qs4).length + 1 ≤ ws.length + ps.length ∧ ws4 <:+ ws ∧ (d4 = false → O = some (ws4, (ps ++ qs4).map (·.1) ++ [⟨4, op, 0, ks4⟩])) ∧ (d4 = true → Fl O)) := by
          refine ⟨by have := HVL.out; omega, hs4.trans HV.out.2.2.2.2.2.1, fun h => ?_, fun h => ?_⟩
          · rw [← HO.out]; exact ob_some HX.out HH.out.2 HH.out.1 (hy4 h).2 (by simp)
          · rw [← HO.out]
            rcases hn4 h with h5 | h5
            · cases h5
            · exact ob_fl HX.out HH.out.2 HH.out.1 h5 (fun ks h => nok_prim h)
        clear hP4 hR4 hm4 hl4 hs4 hy4 hn4 c3 f3
        go_wp2_with fail
        refine (op_any t w4).mono ?_
        rintro e w5 ⟨rfl, hb5⟩
        rw [HOP.out]
        have HP5 : Hid (Pg z r w3 ps w5 ws4 d4 qs4 r4 ∧ KdO w5 w3.heap.size (⟨4, op, 0, ks4⟩, g4, c4)) := ⟨HP.out.1.below (Nat.lt_of_lt_of_le HV.out.1 HK3.out.size) hb5, own_keep HP.out.2 (fun k _ hk _ => hb5.block k hk)⟩
        clear hb5
        have hput := rpart_any z ws4 d4 (ps ++ qs4) r4 w5 4 op 0 ks4 g4 c4 HP5.out.1.st (Lx.own_base HP5.out.2 (Nat.le_trans (Nat.succ_le_of_lt HV.out.1) HKw.out.size)) (by have h1 := HF.out.1; have h2 := HV.out.2.2.2.2.1; omega)
        go_wp2_with fail
        refine hput.mono ?_
        clear hput
        rintro e w6 ⟨he6, hq6⟩
        have HQ6 : Hid _ := hq6
        obtain ⟨m6, hm6⟩ : ∃ m6, (ps ++ qs4).length = m6 := ⟨_, rfl⟩
        have HM6 : Hid ((ps ++ qs4).length = m6) := hm6
        rw [hm6] at he6
        subst he6
        clear hq6 hm6
        go_wp2_with fail
        go_ret
        exact RQ.put (x := ⟨4, op, 0, ks4⟩) HKw.out HV.out.1 HP5.out.1 HP5.out.2 ⟨by rw [HM6.out]; rfl, HQ6.out⟩ HF.out.1 HF.out.2.1 (by first | exact HF.out.2.2.1 | (intro _; exact HF.out.2.2.1 trivial) | (intro h; exact absurd h (by decide))) (by first | exact HF.out.2.2.2 | (intro _; exact HF.out.2.2.2 trivial) | (intro h; exact absurd h (by decide)))
      · have e0 : decide (0 ≤ op) = false := decide_eq_false h0
        have hop0 : op < 0 := by omega
        obtain ⟨a, ta, hta⟩ : ∃ a ta, t = a :: ta := by
          cases ht : t with
          | nil => exact absurd ht HT0.out
          | cons a ta => exact ⟨a, ta, rfl⟩
        have hpos : 0 < (Lx.ba t).size := by show 0 < t.length; rw [hta]; simp
        have h00 : (Lx.ba t)[0]'hpos = a := by subst hta; rfl
        have HTA : Hid (t = a :: ta) := hta
        clear hta
        by_cases htc : t = [99, 97, 115, 101]
        · have hqc : ((Lx.ba t).toList == [99, 97, 115, 101]) = true := by rw [ba_is, htc]; rfl
          have HXC : Hid (nxt ws = ([99, 97, 115, 101], v)) := by show _ = _; rw [HX.out, htc]
          have HKw : Hid (Kp z r W w3) := HK3.out
          have HZ3 : Hid (z < w3.heap.size) := HS3.out.lt
          have hold : ∀ p ∈ ps, KdO w3 (z + 1) p := by
            obtain ⟨g, c, bv, _, _, _, h4, _⟩ := HS3.out
            exact h4.kids
          have HOLD : Hid (∀ p ∈ ps, KdO w3 (z + 1) p) := hold
          clear htc h00 hpos hold
          have hA := hE v false ps r w3 z HV.out.2.1 HV.out.2.2.1 HS3.out
          go_wp2_with fail
          refine hA.mono ?_
          clear hA
          rintro e w4 ⟨ws4, d4, qs4, r4, a4, rfl, hP4, hl4, hs4, hy4, hn4⟩
          have hs4' : ws4 <:+ v := hs4.trans (by
            cases v with
            | nil => exact List.suffix_refl _
            | cons w ws => exact List.suffix_cons _ _)
          have HP4 : Hid (Pg z r w3 ps w4 ws4 d4 qs4 r4) := hP4
          have HF4 : Hid (ws4.length + (ps ++ qs4).length ≤ v.length + ps.length ∧ ws4 <:+ v ∧ (d4 = false → rp n v (ps.map (·.1)) = some (ws4, (ps ++ qs4).map (·.1)) ∧ a4 = lastAt ((ps ++ qs4).map (·.1))) ∧ (d4 = true → Fl O)) := ⟨hl4, hs4', fun h => (hy4 h).2, fun h => by
            rw [← HO.out]
            rcases hn4 h with h5 | h5
            · cases h5
            · exact case_f0 HXC.out h5⟩
          obtain ⟨t5, v5, hx5⟩ : ∃ t v, nxt ws4 = (t, v) := ⟨_, _, rfl⟩
          obtain ⟨t7, v7, hx7⟩ : ∃ t v, nxt v5 = (t, v) := ⟨_, _, rfl⟩
          have HX5 : Hid (nxt ws4 = (t5, v5)) := hx5
          have HX7 : Hid (nxt v5 = (t7, v7)) := hx7
          have HSZ : Hid (Sz ws4 (ps ++ qs4) ∧ Sz v5 (ps ++ qs4) ∧ Sz v7 (ps ++ qs4) ∧ t5.length ≤ 4096 ∧ t7.length ≤ 4096 ∧ v7 <:+ v ∧ v7.length ≤ ws4.length) := by
            have sf : ∀ ws : List Wd, (nxt ws).2 <:+ ws := fun ws => by
              cases ws with
              | nil => exact List.suffix_refl _
              | cons w ws => exact List.suffix_cons _ _
            have wl : ∀ ws : List Wd, Sz ws (ps ++ qs4) → (nxt ws).1.length ≤ 4096 := fun ws h => by
              cases ws with
              | nil => simp [nxt]
              | cons w ws => exact h.2 w (by simp)
            have s4 : Sz ws4 (ps ++ qs4) := HV.out.2.2.1.on hs4' hl4
            have l5 := nxt_len ws4
            have l7 := nxt_len v5
            have s5 := s4.on (ps' := ps ++ qs4) (sf ws4) (by omega)
            have f5 := sf ws4
            have w5 := wl ws4 s4
            rw [hx5] at l5 s5 f5 w5
            dsimp only at l5 s5 f5 w5
            have s7 := s5.on (ps' := ps ++ qs4) (sf v5) (by omega)
            have f7 := sf v5
            have w7 := wl v5 s5
            rw [hx7] at l7 s7 f7 w7
            dsimp only at l7 s7 f7 w7
            exact ⟨s4, s5, s7, w5, w7, (f7.trans f5).trans hs4', by omega⟩
          have HNX : Hid ((nxt ws4).1 = t5 ∧ (nxt (nxt ws4).2).1 = t7 ∧ (nxt (nxt ws4).2).2 = v7) := by
            show _ ∧ _
            rw [hx5]; dsimp only; rw [hx7]; exact ⟨rfl, rfl, rfl⟩
          clear hP4 hl4 hs4 hy4 hn4 hs4' hx5 hx7 c3 f3
          go_wp2_with fail
          refine (word_any z ws4 d4 (ps ++ qs4) r4 w4 HP4.out.st (by have := HSZ.out.1.1; omega) HX5.out).mono ?_
          rintro e w5 ⟨rfl, hS5, hK5⟩
          obtain ⟨d5, hd5⟩ : ∃ d5, (d4 || ws4.isEmpty) = d5 := ⟨_, rfl⟩
          rw [hd5] at hS5
          have HP5 : Hid (Pg z r w3 ps w5 v5 d5 qs4 r4) := HP4.out.next HZ3.out hK5 hS5
          have HF5 : Hid ((d5 = false → d4 = false) ∧ (d5 = true → Fl O)) := by
            refine ⟨fun h => by rw [h] at hd5; simp at hd5; exact hd5.1, fun h => ?_⟩
            cases hd4 : d4 with
            | true => exact HF4.out.2.2.2 hd4
            | false =>
              rw [hd4, h] at hd5
              have h5 : ws4 = [] := by simpa using hd5
              rw [← HO.out]
              refine case_f1 HXC.out (HF4.out.2.2.1 hd4).1 ?_
              rw [h5]; rfl
          clear hS5 hK5 hd5
          go_wp2_with fail
          refine (after_any z v5 d5 (ps ++ qs4) r4 w5 t5 64 64 99 rfl HP5.out.st HSZ.out.2.2.2.1 (by decide) (by decide)).mono ?_
          intro e w6 hq6
          obtain ⟨x6, d6, rfl, hK6, hS6, hy6, hn6⟩ := hq6.flag
          have HP6 : Hid (Pg z r w3 ps w6 v5 d6 qs4 r4) := HP5.out.next HZ3.out hK6 hS6
          have HF6 : Hid ((d6 = false → d4 = false ∧ lim 99 (db 64 t5) = some x6) ∧ (d6 = true → Fl O)) := by
            refine ⟨fun h => ⟨HF5.out.1 (hy6 h).1, (hy6 h).2⟩, fun h => ?_⟩
            cases hd5 : d5 with
            | true => exact HF5.out.2 hd5
            | false =>
              rcases hn6 h with h6 | h6
              · rw [hd5] at h6; cases h6
              · rw [← HO.out]
                refine case_f1 HXC.out (HF4.out.2.2.1 (HF5.out.1 hd5)).1 ?_
                rw [HNX.out.1]; exact h6
          clear hq6 hK6 hS6 hy6 hn6
          go_wp2_with fail
          refine (word_any z v5 d6 (ps ++ qs4) r4 w6 HP6.out.st (by have := HSZ.out.2.1.1; omega) HX7.out).mono ?_
          rintro e w7 ⟨rfl, hS7, hK7⟩
          obtain ⟨d7, hd7⟩ : ∃ d7, (d6 || v5.isEmpty) = d7 := ⟨_, rfl⟩
          rw [hd7] at hS7
          have HP7 : Hid (Pg z r w3 ps w7 v7 d7 qs4 r4) := HP6.out.next HZ3.out hK7 hS7
          have HF7 : Hid ((d7 = false → d4 = false ∧ lim 99 (db 64 t5) = some x6) ∧ (d7 = true → Fl O)) := by
            refine ⟨fun h => HF6.out.1 (by rw [h] at hd7; simp at hd7; exact hd7.1), fun h => ?_⟩
            cases hd6 : d6 with
            | true => exact HF6.out.2 hd6
            | false =>
              rw [hd6, h] at hd7
              have h5 : v5 = [] := by simpa using hd7
              rw [← HO.out]
              refine case_f2 HXC.out (HF4.out.2.2.1 (HF6.out.1 hd6).1).1 ?_
              rw [HNX.out.2.1]
              have h7 := HX7.out
              rw [h5] at h7
              simp only [nxt, Prod.mk.injEq] at h7
              rw [← h7.1, dg_nil]; rfl
          clear hS7 hK7 hd7
          go_wp2_with fail
          refine (whole_any z v7 d7 (ps ++ qs4) r4 w7 t7 3 HP7.out.st HSZ.out.2.2.2.2.1 (by decide) (by decide)).mono ?_
          intro e w8 hq8
          obtain ⟨x8, d8, rfl, hK8, hS8, hy8, hn8⟩ := hq8.flag
          have HP8 : Hid (Pg z r w3 ps w8 v7 d8 qs4 r4) := HP7.out.next HZ3.out hK8 hS8
          have HF8 : Hid ((d8 = false → d4 = false ∧ lim 99 (db 64 t5) = some x6 ∧ lim 3 (dg t7) = some x8) ∧ (d8 = true → Fl O)) := by
            refine ⟨fun h => ⟨(HF7.out.1 (hy8 h).1).1, (HF7.out.1 (hy8 h).1).2, (hy8 h).2⟩, fun h => ?_⟩
            cases hd7 : d7 with
            | true => exact HF7.out.2 hd7
            | false =>
              rcases hn8 h with h6 | h6
              · rw [hd7] at h6; cases h6
              · rw [← HO.out]
                refine case_f2 HXC.out (HF4.out.2.2.1 (HF7.out.1 hd7).1).1 ?_
                rw [HNX.out.2.1]; exact h6
          clear hq8 hK8 hS8 hy8 hn8
          have hb9 : Below w8.heap.size w8 (w8.alloc (.cells #[.int .i64 a4] 3)) := (Below.refl _ w8).alloc (Nat.le_refl _) _
          have HS9 : Hid (KS z r w3 ps (w8.alloc (.cells #[.int .i64 a4] 3)) v7 d8 qs4 r4 (.slice (some ⟨w8.heap.size, 0, none⟩) 1 1) [a4]) := by
            refine ⟨HP8.out.below HZ3.out hb9, World.ownsRow_lit w8 #[.int .i64 a4] 1 HP8.out.kp.size (by decide) rfl, fun q hq => ?_⟩
            cases e : (Value.slice q.2.1 q.1.kids.length q.2.2).ownBlock with
            | none => exact .inl rfl
            | some b =>
              right
              have := (World.ownsRow.lt (HP8.out.fresh q hq) b e).2
              simp [Value.ownBlock]
              omega
          have hk := hKids (n + 1) v7 d8 (ps ++ qs4) r4 (w8.alloc (.cells #[.int .i64 a4] 3)) z 2 (Nat.le_trans HSZ.out.2.2.2.2.2.1.length_le HV.out.2.1) (Nat.lt_succ_of_le (Nat.le_trans HSZ.out.2.2.2.2.2.1.length_le HV.out.2.1)) HSZ.out.2.2.1 HS9.out.pg.st (by decide)
          clear hb9
          go_wp2_with fail
          refine hk.mono ?_
          clear hk
          rintro e w10 ⟨ws10, d10, qs10, r10, g10, c10, ks10, rfl, hP10, hR10, hm10, hg10, hl10, hs10, hy10, hn10⟩
          have HS10 : Hid (KS z r w3 ps w10 ws10 d10 (qs4 ++ qs10) r10 (.slice (some ⟨w8.heap.size, 0, none⟩) 1 1) [a4]) := HS9.out.part HZ3.out hP10
          have HR10 : Hid (w10.ownsRow (w8.alloc (.cells #[.int .i64 a4] 3)).heap.size 3 1 (.slice g10 ks10.length c10) ks10.length (I64 ks10)) := hR10
          have HF : Hid (ws10.length + (ps ++ (qs4 ++ qs10)).length + 1 ≤ ws.length + ps.length ∧ ws10 <:+ ws ∧ (d10 = false → O = some (ws10, (ps ++ (qs4 ++ qs10)).map (·.1) ++ [⟨5, x6, x8, a4 :: ks10⟩])) ∧ (d10 = true → Fl O)) := by
            rw [← List.append_assoc]
            refine ⟨?_, (hs10.trans HSZ.out.2.2.2.2.2.1).trans HV.out.2.2.2.2.2.1, fun h => ?_, fun h => ?_⟩
            · have h1 := HVL.out; have h2 := HF4.out.1; have h3 := HSZ.out.2.2.2.2.2.2; omega
            · obtain ⟨h1, h2⟩ := hy10 h
              obtain ⟨h3, h4, h5⟩ := HF8.out.1 h1
              obtain ⟨h6, h7⟩ := HF4.out.2.2.1 h3
              rw [← HO.out, h7]
              exact case_ok HXC.out h6 (by rw [HNX.out.1]; exact h4) (by rw [HNX.out.2.1]; exact h5) (by rw [HNX.out.2.2]; exact h2)
            · cases hd8 : d8 with
              | true => exact HF8.out.2 hd8
              | false =>
                rcases hn10 h with h1 | h1
                · rw [hd8] at h1; cases h1
                · rw [← HO.out]
                  exact case_f3 HXC.out (HF4.out.2.2.1 (HF8.out.1 hd8).1).1 (by rw [HNX.out.2.2]; exact h1)
          have HG10 : Hid (ks10 = [] → ∃ n c, (Value.slice g10 ks10.length c10) = .slice none n c) := fun h => ⟨_, _, by rw [hg10 h]⟩
          clear hg10
          have hm10' : ([a4] : List Int).length + ks10.length ≤ 8192 := by simp; omega
          clear hP10 hR10 hm10 hl10 hs10 hy10 hn10 HS9
          go_wp2_with (at_builtin; refine app_rowL rfl _ _ rfl w3.heap.size _ (.slice (some ⟨w8.heap.size, 0, none⟩) 1 1) (.slice g10 ks10.length c10) [a4] ks10 rfl rfl HS10.out.kids HR10.out HS10.out.pg.kp.size hm10' w8.heap.size rfl HG10.out ?_)
          intro g11 c11 w11 ho11 hg11 hx11
          have HP11 : Hid (Pg z r w3 ps w11 ws10 d10 (qs4 ++ qs10) r10 ∧ KdO w11 w3.heap.size (⟨5, x6, x8, a4 :: ks10⟩, some ⟨g11, 0, none⟩, c11)) := ⟨(HS10.out.kid HZ3.out HOLD.out (ks' := [a4] ++ ks10) (g := g11) ho11 hg11 rfl hx11).pg, ho11⟩
          clear ho11 hg11 hx11 HS10 HR10
          have hput := rpart_any z ws10 d10 (ps ++ (qs4 ++ qs10)) r10 w11 5 x6 x8 (a4 :: ks10) (some ⟨g11, 0, none⟩) c11 HP11.out.1.st (Lx.own_base HP11.out.2 (Nat.le_trans (Nat.succ_le_of_lt HV.out.1) HKw.out.size)) (by have h1 := HF.out.1; have h2 := HV.out.2.2.2.2.1; omega)
          go_wp2_with fail
          refine hput.mono ?_
          clear hput
          rintro e w6 ⟨he6, hq6⟩
          have HQ6 : Hid _ := hq6
          obtain ⟨m6, hm6⟩ : ∃ m6, (ps ++ (qs4 ++ qs10)).length = m6 := ⟨_, rfl⟩
          have HM6 : Hid ((ps ++ (qs4 ++ qs10)).length = m6) := hm6
          rw [hm6] at he6
          subst he6
          clear hq6 hm6
          go_wp2_with fail
          go_ret
          exact RQ.put (x := ⟨5, x6, x8, (a4 :: ks10)⟩) HKw.out HV.out.1 HP11.out.1 HP11.out.2 ⟨by rw [HM6.out]; rfl, HQ6.out⟩ HF.out.1 HF.out.2.1 (by first | exact HF.out.2.2.1 | (intro _; exact HF.out.2.2.1 trivial) | (intro h; exact absurd h (by decide))) (by first | exact HF.out.2.2.2 | (intro _; exact HF.out.2.2.2 trivial) | (intro h; exact absurd h (by decide)))
        · have hqc : ((Lx.ba t).toList == [99, 97, 115, 101]) = false := by rw [ba_is]; simpa using htc
          have HTC : Hid (t ≠ [99, 97, 115, 101]) := htc
          clear htc
          by_cases htl : t = [108, 101, 116]
          · have hql : ((Lx.ba t).toList == [108, 101, 116]) = true := by rw [ba_is, htl]; rfl
            have HH : Hid (hdw t = some ⟨6, 0, 0, []⟩ ∧ t ≠ [99, 97, 115, 101]) := by
              rw [htl]; exact ⟨by decide, by decide⟩
            clear htl
            have HKw : Hid (Kp z r W w3) := HK3.out
            have hk := hKids (n + 1) v false ps r w3 z 2 HV.out.2.1 (Nat.lt_succ_of_le HV.out.2.1) HV.out.2.2.1 HS3.out (by decide)
            go_wp2_with fail
            refine hk.mono ?_
            clear hk
            rintro e w4 ⟨ws4, d4, qs4, r4, g4, c4, ks4, rfl, hP4, hR4, hm4, _, hl4, hs4, hy4, hn4⟩
            have HP : Hid (Pg z r w3 ps w4 ws4 d4 qs4 r4 ∧ w4.ownsRow w3.heap.size 3 1 (.slice g4 ks4.length c4) ks4.length (I64 ks4)) := ⟨hP4, hR4⟩

            have HF : Hid (ws4.length + (ps ++ qs4).length + 1 ≤ ws.length + ps.length ∧ ws4 <:+ ws ∧ (d4 = false → O = some (ws4, (ps ++ qs4).map (·.1) ++ [⟨6, 0, 0, ks4⟩])) ∧ (d4 = true → Fl O)) := by
              refine ⟨by have := HVL.out; omega, hs4.trans HV.out.2.2.2.2.2.1, fun h => ?_, fun h => ?_⟩
              · rw [← HO.out]; exact ob_some HX.out HH.out.2 HH.out.1 (hy4 h).2 (by simp)
              · rw [← HO.out]
                rcases hn4 h with h5 | h5
                · cases h5
                · exact ob_fl HX.out HH.out.2 HH.out.1 h5 (fun ks h => nok_let h)
            have HP5 : Hid (Pg z r w3 ps w4 ws4 d4 qs4 r4 ∧ KdO w4 w3.heap.size (⟨6, 0, 0, ks4⟩, g4, c4)) := HP.out
            clear hP4 hR4 hm4 hl4 hs4 hy4 hn4 c3 f3
            have hput := rpart_any z ws4 d4 (ps ++ qs4) r4 w4 6 0 0 ks4 g4 c4 HP5.out.1.st (Lx.own_base HP5.out.2 (Nat.le_trans (Nat.succ_le_of_lt HV.out.1) HKw.out.size)) (by have h1 := HF.out.1; have h2 := HV.out.2.2.2.2.1; omega)
            go_wp2_with fail
            refine hput.mono ?_
            clear hput
            rintro e w6 ⟨he6, hq6⟩
            have HQ6 : Hid _ := hq6
            obtain ⟨m6, hm6⟩ : ∃ m6, (ps ++ qs4).length = m6 := ⟨_, rfl⟩
            have HM6 : Hid ((ps ++ qs4).length = m6) := hm6
            rw [hm6] at he6
            subst he6
            clear hq6 hm6
            go_wp2_with fail
            go_ret
            exact RQ.put (x := ⟨6, 0, 0, ks4⟩) HKw.out HV.out.1 HP5.out.1 HP5.out.2 ⟨by rw [HM6.out]; rfl, HQ6.out⟩ HF.out.1 HF.out.2.1 (by first | exact HF.out.2.2.1 | (intro _; exact HF.out.2.2.1 trivial) | (intro h; exact absurd h (by decide))) (by first | exact HF.out.2.2.2 | (intro _; exact HF.out.2.2.2 trivial) | (intro h; exact absurd h (by decide)))
          · have hql : ((Lx.ba t).toList == [108, 101, 116]) = false := by rw [ba_is]; simpa using htl
            have HTL : Hid (t ≠ [108, 101, 116]) := htl
            clear htl
            by_cases haf : a = 102
            · have hq1 : (((Lx.ba t)[0].toNat : Int) == 102) = true := by rw [h00, haf]; rfl
              have HDB : Hid (db 64 t = none) := by show _ = _; rw [HTA.out]; simp only [db]; rw [if_neg (by rw [haf]; decide)]
              clear haf h00
              have hA := after_any z v false ps r w3 t 102 102 7 rfl HS3.out HV.out.2.2.2.1 (by decide) (by decide)
              go_wp2_with fail
              refine hA.mono ?_
              clear hA
              intro e w3' hq3
              obtain ⟨x3, d3, rfl, hK3', hS3', hy3, hn3⟩ := hq3.flag
              have HS3' : Hid (SR w3' z v d3 ps r) := hS3'
              have HN3 : Hid ((d3 = false → lim 7 (db 102 t) = some x3) ∧ (d3 = true → lim 7 (db 102 t) = none)) := ⟨fun h => (hy3 h).2, fun h => by
                rcases hn3 h with h | h
                · cases h
                · exact h⟩
              have HK3' : Hid (Kp z r W w3') := HK3.out.trans (Nx.refl _ _) (hK3'.wide r)
              clear hq3 hK3' hS3' hy3 hn3 c3 f3

              have HKw : Hid (Kp z r W w3') := HK3'.out
              have hk := hKids (n + 1) v d3 ps r w3' z 3 HV.out.2.1 (Nat.lt_succ_of_le HV.out.2.1) HV.out.2.2.1 HS3'.out (by decide)
              go_wp2_with fail
              refine hk.mono ?_
              clear hk
              rintro e w4 ⟨ws4, d4, qs4, r4, g4, c4, ks4, rfl, hP4, hR4, hm4, _, hl4, hs4, hy4, hn4⟩
              have HP : Hid (Pg z r w3' ps w4 ws4 d4 qs4 r4 ∧ w4.ownsRow w3'.heap.size 3 1 (.slice g4 ks4.length c4) ks4.length (I64 ks4)) := ⟨hP4, hR4⟩

              have HF : Hid (ws4.length + (ps ++ qs4).length + 1 ≤ ws.length + ps.length ∧ ws4 <:+ ws ∧ (d4 = false → O = some (ws4, (ps ++ qs4).map (·.1) ++ [⟨2, x3, 0, ks4⟩])) ∧ (d4 = true → Fl O)) := by
                have hel := hdw_else (t := t) (by rw [HOP.out]; omega) HTL.out
                rw [HDB.out] at hel
                refine ⟨by have := HVL.out; omega, hs4.trans HV.out.2.2.2.2.2.1, fun h => ?_, fun h => ?_⟩
                · have h6 := (lim_some (HN3.out.1 (hy4 h).1)).1
                  rw [h6] at hel
                  rw [← HO.out]; exact ob_some HX.out HTC.out hel (hy4 h).2 (by simp)
                · rw [← HO.out]
                  cases h7 : db 102 t with
                  | none => rw [h7] at hel; exact Or.inl (ob_none HX.out HTC.out hel)
                  | some y =>
                    rw [h7] at hel
                    rcases hn4 h with h5 | h5
                    · rcases lim_none (HN3.out.2 h5) with h6 | ⟨x, h6, h8⟩
                      · rw [h7] at h6; cases h6
                      · rw [h7] at h6; cases h6; exact ob_nok HX.out HTC.out hel (fun ks => nok_call (Or.inl h8))
                    · exact ob_fl HX.out HTC.out hel h5 (fun ks h => nok_call (Or.inr h))
              have HP5 : Hid (Pg z r w3' ps w4 ws4 d4 qs4 r4 ∧ KdO w4 w3'.heap.size (⟨2, x3, 0, ks4⟩, g4, c4)) := HP.out
              clear hP4 hR4 hm4 hl4 hs4 hy4 hn4
              have hput := rpart_any z ws4 d4 (ps ++ qs4) r4 w4 2 x3 0 ks4 g4 c4 HP5.out.1.st (Lx.own_base HP5.out.2 (Nat.le_trans (Nat.succ_le_of_lt HV.out.1) HKw.out.size)) (by have h1 := HF.out.1; have h2 := HV.out.2.2.2.2.1; omega)
              go_wp2_with fail
              refine hput.mono ?_
              clear hput
              rintro e w6 ⟨he6, hq6⟩
              have HQ6 : Hid _ := hq6
              obtain ⟨m6, hm6⟩ : ∃ m6, (ps ++ qs4).length = m6 := ⟨_, rfl⟩
              have HM6 : Hid ((ps ++ qs4).length = m6) := hm6
              rw [hm6] at he6
              subst he6
              clear hq6 hm6
              go_wp2_with fail
              go_ret
              exact RQ.put (x := ⟨2, x3, 0, ks4⟩) HKw.out HV.out.1 HP5.out.1 HP5.out.2 ⟨by rw [HM6.out]; rfl, HQ6.out⟩ HF.out.1 HF.out.2.1 (by first | exact HF.out.2.2.1 | (intro _; exact HF.out.2.2.1 trivial) | (intro h; exact absurd h (by decide))) (by first | exact HF.out.2.2.2 | (intro _; exact HF.out.2.2.2 trivial) | (intro h; exact absurd h (by decide)))
            · have hq1 : (((Lx.ba t)[0].toNat : Int) == 102) = false := by
                rw [h00]
                simp only [beq_eq_false_iff_ne, ne_eq]
                intro e
                exact haf (UInt8.toNat_inj.1 (by show a.toNat = 102; omega))
              have HDB : Hid (db 102 t = none) := by show _ = _; rw [HTA.out]; simp only [db]; rw [if_neg haf]
              clear haf
              by_cases hat : a = 64
              · have hq2 : (((Lx.ba t)[0].toNat : Int) == 64) = true := by rw [h00, hat]; rfl
                clear hat h00
                have hA := after_any z v false ps r w3 t 64 64 99 rfl HS3.out HV.out.2.2.2.1 (by decide) (by decide)
                go_wp2_with fail
                refine hA.mono ?_
                clear hA
                intro e w3' hq3
                obtain ⟨x3, d3, rfl, hK3', hS3', hy3, hn3⟩ := hq3.flag
                have HS3' : Hid (SR w3' z v d3 ps r) := hS3'
                have HN3 : Hid ((d3 = false → lim 99 (db 64 t) = some x3) ∧ (d3 = true → lim 99 (db 64 t) = none)) := ⟨fun h => (hy3 h).2, fun h => by
                  rcases hn3 h with h | h
                  · cases h
                  · exact h⟩
                have HK3' : Hid (Kp z r W w3') := HK3.out.trans (Nx.refl _ _) (hK3'.wide r)
                clear hq3 hK3' hS3' hy3 hn3 c3 f3

                have HKw : Hid (Kp z r W w3') := HK3'.out
                have hk := hKids (n + 1) v d3 ps r w3' z 3 HV.out.2.1 (Nat.lt_succ_of_le HV.out.2.1) HV.out.2.2.1 HS3'.out (by decide)
                go_wp2_with fail
                refine hk.mono ?_
                clear hk
                rintro e w4 ⟨ws4, d4, qs4, r4, g4, c4, ks4, rfl, hP4, hR4, hm4, _, hl4, hs4, hy4, hn4⟩
                have HP : Hid (Pg z r w3' ps w4 ws4 d4 qs4 r4 ∧ w4.ownsRow w3'.heap.size 3 1 (.slice g4 ks4.length c4) ks4.length (I64 ks4)) := ⟨hP4, hR4⟩

                have HF0 : Hid (ws4.length + (ps ++ qs4).length + 1 ≤ ws.length + ps.length ∧ ws4 <:+ ws ∧ (d4 = false → (ks4 ≠ [] → O = some (ws4, (ps ++ qs4).map (·.1) ++ [⟨3, x3, 0, ks4⟩])) ∧ (ks4 = [] → Fl O)) ∧ (d4 = true → Fl O)) := by
                  have hel := hdw_else (t := t) (by rw [HOP.out]; omega) HTL.out
                  rw [HDB.out] at hel
                  refine ⟨by have := HVL.out; omega, hs4.trans HV.out.2.2.2.2.2.1, fun h => ⟨fun hk => ?_, fun hk => ?_⟩, fun h => ?_⟩
                  · have h6 := (lim_some (HN3.out.1 (hy4 h).1)).1
                    rw [h6] at hel
                    rw [← HO.out]; exact ob_some HX.out HTC.out hel (hy4 h).2 (fun h => hk h.2)
                  · have h6 := (lim_some (HN3.out.1 (hy4 h).1)).1
                    rw [h6] at hel
                    have h7 := (hy4 h).2
                    rw [hk] at h7
                    rw [← HO.out]; exact Or.inl (ob_empty HX.out HTC.out hel h7 rfl)
                  · rw [← HO.out]
                    cases h7 : db 64 t with
                    | none => rw [h7] at hel; exact Or.inl (ob_none HX.out HTC.out hel)
                    | some y =>
                      rw [h7] at hel
                      rcases hn4 h with h5 | h5
                      · rcases lim_none (HN3.out.2 h5) with h6 | ⟨x, h6, h8⟩
                        · rw [h7] at h6; cases h6
                        · rw [h7] at h6; cases h6; exact ob_nok HX.out HTC.out hel (fun ks => nok_con (Or.inl h8))
                      · exact ob_fl HX.out HTC.out hel h5 (fun ks h => nok_con (Or.inr h))
                have cf4 := HP.out.1.st.flag
                have f4 := HP.out.1.st.free 1
                have l4 := HP.out.1.st.lt
                have HZ3 : Hid (z < w3'.heap.size) := Nat.lt_of_lt_of_le HV.out.1 HK3'.out.size
                clear hP4 hR4 hm4 hl4 hs4 hy4 hn4
                obtain ⟨d5, hd5⟩ : ∃ d5, (d4 || decide (ks4 = [])) = d5 := ⟨_, rfl⟩
                have HF : Hid (ws4.length + (ps ++ qs4).length + 1 ≤ ws.length + ps.length ∧ ws4 <:+ ws ∧ (d5 = false → O = some (ws4, (ps ++ qs4).map (·.1) ++ [⟨3, x3, 0, ks4⟩])) ∧ (d5 = true → Fl O)) := by
                  refine ⟨HF0.out.1, HF0.out.2.1, fun h => ?_, fun h => ?_⟩
                  · rw [h] at hd5
                    simp only [Bool.or_eq_false_iff, decide_eq_false_iff_not] at hd5
                    exact (HF0.out.2.2.1 hd5.1).1 hd5.2
                  · rw [h] at hd5
                    simp only [Bool.or_eq_true, decide_eq_true_eq] at hd5
                    cases hd4 : d4 with
                    | true => exact HF0.out.2.2.2 hd4
                    | false =>
                      rw [hd4] at hd5
                      rcases hd5 with h | h
                      · cases h
                      · exact (HF0.out.2.2.1 hd4).2 h
                have HP5 : Hid (Pg z r w3' ps (w4.setCell ⟨z, 1, none⟩ (.bool d5)) ws4 d5 qs4 r4 ∧ KdO (w4.setCell ⟨z, 1, none⟩ (.bool d5)) w3'.heap.size (⟨3, x3, 0, ks4⟩, g4, c4)) := ⟨HP.out.1.setFlag HZ3.out d5, far_z HP.out.2 HZ3.out _ _⟩
                clear HF0 HP
                cases d4 with
                | true =>
                  obtain rfl : d5 = true := by rw [← hd5]; rfl
                  clear hd5
                  go_wp2_with fail
                  have hput := rpart_any z ws4 true (ps ++ qs4) r4 (w4.setCell ⟨z, 1, none⟩ (.bool true)) 3 x3 0 ks4 g4 c4 HP5.out.1.st (Lx.own_base HP5.out.2 (Nat.le_trans (Nat.succ_le_of_lt HV.out.1) HKw.out.size)) (by have h1 := HF.out.1; have h2 := HV.out.2.2.2.2.1; omega)
                  go_wp2_with fail
                  refine hput.mono ?_
                  clear hput
                  rintro e w6 ⟨he6, hq6⟩
                  have HQ6 : Hid _ := hq6
                  obtain ⟨m6, hm6⟩ : ∃ m6, (ps ++ qs4).length = m6 := ⟨_, rfl⟩
                  have HM6 : Hid ((ps ++ qs4).length = m6) := hm6
                  rw [hm6] at he6
                  subst he6
                  clear hq6 hm6
                  go_wp2_with fail
                  go_ret
                  exact RQ.put (x := ⟨3, x3, 0, ks4⟩) HKw.out HV.out.1 HP5.out.1 HP5.out.2 ⟨by rw [HM6.out]; rfl, HQ6.out⟩ HF.out.1 HF.out.2.1 (by first | exact HF.out.2.2.1 | (intro _; exact HF.out.2.2.1 trivial) | (intro h; exact absurd h (by decide))) (by first | exact HF.out.2.2.2 | (intro _; exact HF.out.2.2.2 trivial) | (intro h; exact absurd h (by decide)))
                | false =>
                  by_cases hke : ks4 = []
                  · obtain rfl : d5 = true := by rw [← hd5, hke]; rfl
                    have ek : ((ks4.length : Int) == 0) = true := by rw [hke]; rfl
                    clear hd5 hke
                    go_wp2_with fail
                    have hput := rpart_any z ws4 true (ps ++ qs4) r4 (w4.setCell ⟨z, 1, none⟩ (.bool true)) 3 x3 0 ks4 g4 c4 HP5.out.1.st (Lx.own_base HP5.out.2 (Nat.le_trans (Nat.succ_le_of_lt HV.out.1) HKw.out.size)) (by have h1 := HF.out.1; have h2 := HV.out.2.2.2.2.1; omega)
                    go_wp2_with fail
                    refine hput.mono ?_
                    clear hput
                    rintro e w6 ⟨he6, hq6⟩
                    have HQ6 : Hid _ := hq6
                    obtain ⟨m6, hm6⟩ : ∃ m6, (ps ++ qs4).length = m6 := ⟨_, rfl⟩
                    have HM6 : Hid ((ps ++ qs4).length = m6) := hm6
                    rw [hm6] at he6
                    subst he6
                    clear hq6 hm6
                    go_wp2_with fail
                    go_ret
                    exact RQ.put (x := ⟨3, x3, 0, ks4⟩) HKw.out HV.out.1 HP5.out.1 HP5.out.2 ⟨by rw [HM6.out]; rfl, HQ6.out⟩ HF.out.1 HF.out.2.1 (by first | exact HF.out.2.2.1 | (intro _; exact HF.out.2.2.1 trivial) | (intro h; exact absurd h (by decide))) (by first | exact HF.out.2.2.2 | (intro _; exact HF.out.2.2.2 trivial) | (intro h; exact absurd h (by decide)))
                  · obtain rfl : d5 = false := by rw [← hd5, decide_eq_false hke]; rfl
                    have ek : ((ks4.length : Int) == 0) = false := by
                      have := List.length_pos_iff.2 hke
                      simp; omega
                    clear hd5 hke
                    go_wp2_with fail
                    have hput := rpart_any z ws4 false (ps ++ qs4) r4 (w4.setCell ⟨z, 1, none⟩ (.bool false)) 3 x3 0 ks4 g4 c4 HP5.out.1.st (Lx.own_base HP5.out.2 (Nat.le_trans (Nat.succ_le_of_lt HV.out.1) HKw.out.size)) (by have h1 := HF.out.1; have h2 := HV.out.2.2.2.2.1; omega)
                    go_wp2_with fail
                    refine hput.mono ?_
                    clear hput
                    rintro e w6 ⟨he6, hq6⟩
                    have HQ6 : Hid _ := hq6
                    obtain ⟨m6, hm6⟩ : ∃ m6, (ps ++ qs4).length = m6 := ⟨_, rfl⟩
                    have HM6 : Hid ((ps ++ qs4).length = m6) := hm6
                    rw [hm6] at he6
                    subst he6
                    clear hq6 hm6
                    go_wp2_with fail
                    go_ret
                    exact RQ.put (x := ⟨3, x3, 0, ks4⟩) HKw.out HV.out.1 HP5.out.1 HP5.out.2 ⟨by rw [HM6.out]; rfl, HQ6.out⟩ HF.out.1 HF.out.2.1 (by first | exact HF.out.2.2.1 | (intro _; exact HF.out.2.2.1 trivial) | (intro h; exact absurd h (by decide))) (by first | exact HF.out.2.2.2 | (intro _; exact HF.out.2.2.2 trivial) | (intro h; exact absurd h (by decide)))
              · have hq2 : (((Lx.ba t)[0].toNat : Int) == 64) = false := by
                  rw [h00]
                  simp only [beq_eq_false_iff_ne, ne_eq]
                  intro e
                  exact hat (UInt8.toNat_inj.1 (by show a.toNat = 64; omega))
                have HN : Hid (Fl O) := by
                  have hel := hdw_else (t := t) (by rw [HOP.out]; omega) HTL.out
                  have h64 : db 64 t = none := by rw [HTA.out]; simp only [db]; rw [if_neg hat]
                  rw [HDB.out, h64] at hel
                  rw [← HO.out]; exact Or.inl (ob_none HX.out HTC.out hel)
                clear hat h00
                go_wp2_with fail
                go_ret
                refine ⟨v, true, [], r, 0, rfl, Pg.base HK3.out ((Pg.start HS3.out).setFlag HS3.out.lt true), ?_, HV.out.2.2.2.2.2.1, (fun h => by cases h), fun _ => HN.out⟩
                rw [List.append_nil]; have := HV.out.2.2.2.2.2.2; omega

end Go.Proofs.YtjamknejllbmkaaGreatDoor

namespace Go.Proofs.YtjamknejllbmkaaGreatDoor
open Go.RowKit
set_option linter.unusedVariables false

theorem sg_dollar {t : Wd} {a : UInt8} {r : Wd} (h : t = a :: r) (ha : a = 36) : sg t = match db 36 t with
    | some x => some ⟨1, x, 0, []⟩
    | none => none := by
  subst h; subst ha
  unfold sg
  rw [if_neg (by intro e; cases e)]
  have h1 : db 64 (36 :: r) = none := by simp only [db]; rw [if_neg (by decide)]
  have h2 : nb (36 :: r) = none := nb_sign (by decide)
  rw [h1, h2]
  cases db 36 (36 :: r) <;> rfl
theorem sg_at {t : Wd} {a : UInt8} {r : Wd} (h : t = a :: r) (ha : a = 64) : sg t = match db 64 t with
    | some x => some ⟨3, x, 0, []⟩
    | none => none := by
  subst h; subst ha
  unfold sg
  rw [if_neg (by intro e; cases e)]
  have h1 : db 36 (64 :: r) = none := by simp only [db]; rw [if_neg (by decide)]
  have h2 : nb (64 :: r) = none := nb_sign (by decide)
  rw [h1, h2]
  cases db 64 (64 :: r) <;> rfl
theorem sg_else {t : Wd} {a : UInt8} {r : Wd} (h : t = a :: r) (he : t ≠ [101, 114, 114, 111, 114]) (h1 : a ≠ 36) (h2 : a ≠ 64) : sg t = match nb t with
    | some x => some ⟨0, x, 0, []⟩
    | none => none := by
  unfold sg
  rw [if_neg he]
  have k1 : db 36 t = none := by rw [h]; simp only [db]; rw [if_neg h1]
  have k2 : db 64 t = none := by rw [h]; simp only [db]; rw [if_neg h2]
  rw [k1, k2]
  cases nb t <;> rfl
/-- One part more. -/
theorem ExQ.put {n : Nat} {z : Nat} {r : Option Nat} {W w3 w4 : World} {ps : List Pt} {ws v : List Wd} {t : Wd} {d d3 : Bool} {x : Ex} {e : Ending} (hK : Kp z r W w3) (hz : z < W.heap.size) (hS : SR w3 z v d3 ps r) (hk : x.kids = []) (hput : PutQ z v d3 ps r (x, none, 0) w3 e w4) (hx : nxt ws = (t, v)) (hl : v.length + 1 = ws.length)
    (hy : d3 = false → d = false ∧ rp n ws (ps.map (·.1)) = some (v, ps.map (·.1) ++ [x])) (hn : d3 = true → d = true ∨ Fl (rp n ws (ps.map (·.1)))) : ExQ n z r W ps ws d e w4 := by
  obtain ⟨rfl, r6, hS4, hK4, hN4⟩ := hput
  have hq : KdO w3 w3.heap.size (x, none, 0) := by
    show w3.ownsRow _ 3 1 (.slice none x.kids.length 0) x.kids.length (x.kids.map (Value.int .i64))
    rw [hk]; exact World.ownsRow_nil _ _ _ _
  have hP := (Pg.start hS).put (q := (x, none, 0)) (Nat.lt_of_lt_of_le hz hK.size) hq (by rw [List.append_nil]; exact hS4) hK4 hN4
  rw [List.nil_append] at hP
  refine ⟨v, d3, [(x, none, 0)], r6, _, rfl, Pg.base hK hP, ?_, by rw [hx]; exact List.suffix_refl _, fun h => ⟨(hy h).1, ?_, ?_⟩, hn⟩
  · rw [List.length_append, List.length_singleton]; omega
  · rw [(hy h).2, List.map_append]; rfl
  · rw [lastAt, List.length_map, List.length_append, List.length_singleton]; omega

set_option maxHeartbeats 4000000 in
set_option maxRecDepth 100000 in
theorem expr_walk (n : Nat) (ws : List Wd) (d : Bool) (ps : List Pt) (r : Option Nat) (W : World) (z : Nat) (hOp : ws ≠ [] → OpSaid n) (hn : ws.length ≤ n + 1) (hs : Sz ws ps) (hS : SR W z ws d ps r) :
    Calls Tryz.prog 30 #[ptr z] W fun e W' => ExQ (n + 1) z r W ps ws d e W' := by
  have hzl := hS.lt
  obtain ⟨t, v, hx⟩ : ∃ t v, nxt ws = (t, v) := ⟨_, _, rfl⟩
  have HX : Hid (nxt ws = (t, v)) := hx
  have HV : Hid (z < W.heap.size ∧ v.length ≤ n ∧ Sz v ps ∧ t.length ≤ 4096 ∧ ws.length + ps.length ≤ 4096 ∧ v.length = ws.length - 1) := by
    have h2 := nxt_len ws
    have hsf : (nxt ws).2 <:+ ws := by
      cases ws with
      | nil => exact List.suffix_refl _
      | cons w ws => exact List.suffix_cons _ _
    have h4 := hs.on (ps' := ps) hsf (by omega)
    have h5 : (nxt ws).1.length ≤ 4096 := by
      cases ws with
      | nil => simp [nxt]
      | cons w ws => exact hs.2 w (by simp)
    rw [hx] at h2 h4 h5
    dsimp only at h2
    exact ⟨hzl, by omega, h4, h5, hs.1, h2⟩
  have hcall := word_any z ws d ps r W hS (by have := hs.1; omega) hx
  clear hS hzl hx hs hn
  go_enter Tryz.func30, Tryz.ntmps30
  go_wp2_with fail
  refine hcall.mono ?_
  clear hcall
  rintro e w2 ⟨rfl, hS2, hK2⟩
  have HK2 : Hid (Kp z r W w2) := hK2.wide r
  obtain ⟨d2, hd2⟩ : ∃ d2, (d || ws.isEmpty) = d2 := ⟨_, rfl⟩
  rw [hd2] at hS2
  have c1 := hS2.flag
  have f1 := hS2.free 1
  obtain ⟨gb, cb, b2, _, _⟩ := hS2.body
  have HS2 : Hid (SR w2 z v d2 ps r) := hS2
  have HBAD : Hid (d = true ∨ Fl (rp (n + 1) ws (ps.map (·.1))) → ExQ (n + 1) z r W ps ws d (.returned (.int .i64 0)) (w2.setCell ⟨z, 1, none⟩ (.bool true))) := fun h => by
    refine ⟨v, true, [], r, 0, rfl, Pg.base HK2.out ((Pg.start HS2.out).setFlag HS2.out.lt true), ?_, by rw [HX.out]; exact List.suffix_refl _, (fun h => by cases h), fun _ => h⟩
    rw [List.append_nil]; have := HV.out.2.2.2.2.2; omega
  clear hS2 hK2
  cases d2 with
  | true =>
    have HN : Hid (d = true ∨ Fl (rp (n + 1) ws (ps.map (·.1)))) := by
      cases hd : d with
      | true => exact Or.inl rfl
      | false =>
        rw [hd] at hd2
        have h : ws = [] := by simpa using hd2
        rw [h]
        exact Or.inr (Or.inl rfl)
    clear hd2
    go_wp2_with fail
    go_ret
    exact HBAD.out HN.out
  | false =>
    have HD : Hid (d = false ∧ ws ≠ []) := by
      simp only [Bool.or_eq_false_iff] at hd2
      refine ⟨hd2.1, fun h => ?_⟩
      rw [h] at hd2; cases hd2.2
    have HVL : Hid (v.length + 1 = ws.length) := by
      have h1 := HV.out.2.2.2.2.2
      have h2 := List.length_pos_iff.2 HD.out.2
      show _ = _; omega
    clear hd2
    by_cases ht0 : t = []
    · have hq : ((Lx.ba t).toList == []) = true := by rw [ba_is, ht0]; rfl
      have HN : Hid (d = true ∨ Fl (rp (n + 1) ws (ps.map (·.1)))) := by
        right; left
        rw [rp_one HX.out (by rw [ht0]; decide), ht0, sg_nil]
      clear ht0
      go_wp2_with fail
      go_ret
      exact HBAD.out HN.out
    · have hq : ((Lx.ba t).toList == []) = false := by rw [ba_is]; simpa using ht0
      obtain ⟨a, ta, hta⟩ : ∃ a ta, t = a :: ta := by
        cases ht : t with
        | nil => exact absurd ht ht0
        | cons a ta => exact ⟨a, ta, rfl⟩
      have hpos : 0 < (Lx.ba t).size := by show 0 < t.length; rw [hta]; simp
      have h00 : (Lx.ba t)[0]'hpos = a := by subst hta; rfl
      have HTA : Hid (t = a :: ta) := hta
      clear ht0 hta
      by_cases hbig : 24 < ps.length
      · have e24 : decide ((24 : Int) < (ps.length : Int)) = true := decide_eq_true (by omega)
        have e24' : (24 : Int) < (ps.length : Int) := by omega
        have HN : Hid (d = true ∨ Fl (rp (n + 1) ws (ps.map (·.1)))) := Or.inr (Fl.of_sp (rp_gd (n + 1)) (Or.inl (by rw [List.length_map]; exact hbig)))
        clear hbig h00
        go_wp2_with fail
        go_ret
        exact HBAD.out HN.out
      · have e24 : decide ((24 : Int) < (ps.length : Int)) = false := decide_eq_false (by omega)
        have e24' : ¬ (24 : Int) < (ps.length : Int) := by omega
        have HPL : Hid (ps.length + 1 ≤ 8192) := by show _ ≤ _; omega
        clear hbig
        by_cases hto : t = [40]
        · have hqo : ((Lx.ba t).toList == [40]) = true := by rw [ba_is, hto]; rfl
          have HE : Hid (rp (n + 1) ws (ps.map (·.1)) = ob n v (ps.map (·.1))) := by
            show _ = _
            rw [ob_eq]; exact rp_brack (by rw [← hto]; exact HX.out)
          have hcall := hOp HD.out.2 v ps r w2 z HV.out.2.1 HV.out.2.2.1 HS2.out
          clear hto h00
          go_wp2_with fail
          refine hcall.mono ?_
          clear hcall
          rintro e w3 ⟨ws3, d3, qs3, r3, x3, rfl, hP3, hl3, hs3, hy3, hn3⟩
          have HH : Hid (ExQ (n + 1) z r W ps ws d (.returned (.int .i64 x3)) w3) := by
            refine ⟨ws3, d3, qs3, r3, x3, rfl, Pg.base HK2.out hP3, by have := HVL.out; omega, by rw [HX.out]; exact hs3, fun h => ⟨HD.out.1, ?_, (hy3 h).2⟩, fun h => Or.inr ?_⟩
            · rw [HE.out]; exact (hy3 h).1
            · rw [HE.out]; exact hn3 h
          clear hP3 hl3 hs3 hy3 hn3
          go_wp2_with fail
          go_ret
          exact HH.out
        · have hqo : ((Lx.ba t).toList == [40]) = false := by rw [ba_is]; simpa using hto
          have HE : Hid (rp (n + 1) ws (ps.map (·.1)) = match sg t with
            | none => none
            | some e => some (v, ps.map (·.1) ++ [e])) := rp_one HX.out hto
          clear hto
          by_cases hte : t = [101, 114, 114, 111, 114]
          · have hqe : ((Lx.ba t).toList == [101, 114, 114, 111, 114]) = true := by rw [ba_is, hte]; rfl
            have HE2 : Hid (rp (n + 1) ws (ps.map (·.1)) = some (v, ps.map (·.1) ++ [⟨7, 0, 0, []⟩])) := by
              show _ = _
              rw [HE.out, hte]; rfl
            have hput := rpart_any z v false ps r w2 7 0 0 [] none 0 HS2.out (World.ownsRow_nil _ _ _ _) HPL.out
            clear hte h00
            go_wp2_with fail
            refine hput.mono ?_
            clear hput
            rintro e w3 ⟨rfl, hq3⟩
            have HQ3 : Hid _ := hq3
            clear hq3
            go_wp2_with fail
            go_ret
            exact ExQ.put (x := ⟨7, 0, 0, []⟩) HK2.out HV.out.1 HS2.out rfl ⟨rfl, HQ3.out⟩ HX.out HVL.out (fun _ => ⟨HD.out.1, HE2.out⟩) (fun h => by cases h)
          · have hqe : ((Lx.ba t).toList == [101, 114, 114, 111, 114]) = false := by rw [ba_is]; simpa using hte
            have HTE : Hid (t ≠ [101, 114, 114, 111, 114]) := hte
            clear hte
            by_cases ha1 : a = 36
            · have hq1 : (((Lx.ba t)[0].toNat : Int) == 36) = true := by rw [h00, ha1]; rfl
              have HSG := sg_dollar HTA.out ha1
              have HSG : Hid _ := HSG
              have hA := after_any z v false ps r w2 t 36 36 8 rfl HS2.out HV.out.2.2.2.1 (by decide) (by decide)
              clear ha1 h00
              go_wp2_with fail
              refine hA.mono ?_
              clear hA
              intro e w3 hq3
              obtain ⟨x3, d3, rfl, hK3, hS3, hy3, hn3⟩ := hq3.flag
              have HK3 : Hid (Kp z r W w3) := HK2.out.trans (Nx.refl _ _) (hK3.wide r)
              have HS3 : Hid (SR w3 z v d3 ps r) := hS3
              have HF3 : Hid ((d3 = false → d = false ∧ rp (n + 1) ws (ps.map (·.1)) = some (v, ps.map (·.1) ++ [⟨1, x3, 0, []⟩])) ∧ (d3 = true → d = true ∨ Fl (rp (n + 1) ws (ps.map (·.1))))) := by
                refine ⟨fun h => ⟨HD.out.1, ?_⟩, fun h => Or.inr ?_⟩
                · rw [HE.out, HSG.out, (lim_some (hy3 h).2).1]
                · rw [HE.out, HSG.out]
                  rcases hn3 h with h1 | h1
                  · cases h1
                  · rcases lim_none h1 with h2 | ⟨x, h2, h3⟩
                    · rw [h2]; exact Or.inl rfl
                    · rw [h2]; exact Or.inr ⟨_, _, rfl, Sp.last (nok_var h3)⟩
              have hput := rpart_any z v d3 ps r w3 1 x3 0 [] none 0 HS3.out (World.ownsRow_nil _ _ _ _) HPL.out
              clear hq3 hK3 hS3 hy3 hn3 c1 f1 b2
              go_wp2_with fail
              refine hput.mono ?_
              clear hput
              rintro e w4 ⟨rfl, hq4⟩
              have HQ4 : Hid _ := hq4
              clear hq4
              go_wp2_with fail
              go_ret
              exact ExQ.put (x := ⟨1, x3, 0, []⟩) HK3.out HV.out.1 HS3.out rfl ⟨rfl, HQ4.out⟩ HX.out HVL.out HF3.out.1 HF3.out.2
            · have hq1 : (((Lx.ba t)[0].toNat : Int) == 36) = false := by
                rw [h00]
                simp only [beq_eq_false_iff_ne, ne_eq]
                intro e
                exact ha1 (UInt8.toNat_inj.1 (by show a.toNat = 36; omega))
              have HA1 : Hid (a ≠ 36) := ha1
              clear ha1
              by_cases ha2 : a = 64
              · have hq2 : (((Lx.ba t)[0].toNat : Int) == 64) = true := by rw [h00, ha2]; rfl
                have HSG := sg_at HTA.out ha2
                have HSG : Hid _ := HSG
                have hA := after_any z v false ps r w2 t 64 64 99 rfl HS2.out HV.out.2.2.2.1 (by decide) (by decide)
                clear ha2 h00
                go_wp2_with fail
                refine hA.mono ?_
                clear hA
                intro e w3 hq3
                obtain ⟨x3, d3, rfl, hK3, hS3, hy3, hn3⟩ := hq3.flag
                have HK3 : Hid (Kp z r W w3) := HK2.out.trans (Nx.refl _ _) (hK3.wide r)
                have HS3 : Hid (SR w3 z v d3 ps r) := hS3
                have HF3 : Hid ((d3 = false → d = false ∧ rp (n + 1) ws (ps.map (·.1)) = some (v, ps.map (·.1) ++ [⟨3, x3, 0, []⟩])) ∧ (d3 = true → d = true ∨ Fl (rp (n + 1) ws (ps.map (·.1))))) := by
                  refine ⟨fun h => ⟨HD.out.1, ?_⟩, fun h => Or.inr ?_⟩
                  · rw [HE.out, HSG.out, (lim_some (hy3 h).2).1]
                  · rw [HE.out, HSG.out]
                    rcases hn3 h with h1 | h1
                    · cases h1
                    · rcases lim_none h1 with h2 | ⟨x, h2, h3⟩
                      · rw [h2]; exact Or.inl rfl
                      · rw [h2]; exact Or.inr ⟨_, _, rfl, Sp.last (nok_con (Or.inl h3))⟩
                have hput := rpart_any z v d3 ps r w3 3 x3 0 [] none 0 HS3.out (World.ownsRow_nil _ _ _ _) HPL.out
                clear hq3 hK3 hS3 hy3 hn3 c1 f1 b2
                go_wp2_with fail
                refine hput.mono ?_
                clear hput
                rintro e w4 ⟨rfl, hq4⟩
                have HQ4 : Hid _ := hq4
                clear hq4
                go_wp2_with fail
                go_ret
                exact ExQ.put (x := ⟨3, x3, 0, []⟩) HK3.out HV.out.1 HS3.out rfl ⟨rfl, HQ4.out⟩ HX.out HVL.out HF3.out.1 HF3.out.2
              · have hq2 : (((Lx.ba t)[0].toNat : Int) == 64) = false := by
                  rw [h00]
                  simp only [beq_eq_false_iff_ne, ne_eq]
                  intro e
                  exact ha2 (UInt8.toNat_inj.1 (by show a.toNat = 64; omega))
                have HSG := sg_else HTA.out HTE.out HA1.out ha2
                have HSG : Hid _ := HSG
                clear ha2 h00
                go_wp2_with fail
                refine (Tm.rcut_any (Lx.ba t) w2 (by show t.length ≤ _; have := HV.out.2.2.2.1; omega)).mono ?_
                rintro e w3 ⟨k, x, vv, er, rfl, ⟨g, nn, c, rfl⟩, hb3, hg⟩
                rw [ba_list] at hg
                have HK3 : Hid (Kp z r W w3) := HK2.out.trans (Nx.refl _ _) (Kp.of_below hb3)
                have HS3 : Hid (SR w3 z v false ps r) := HS2.out.below hb3
                have c3 := HS3.out.flag
                have f3 := HS3.out.free 1
                have HBAD3 : Hid (d = true ∨ Fl (rp (n + 1) ws (ps.map (·.1))) → ExQ (n + 1) z r W ps ws d (.returned (.int .i64 0)) (w3.setCell ⟨z, 1, none⟩ (.bool true))) := fun h => by
                  refine ⟨v, true, [], r, 0, rfl, Pg.base HK3.out ((Pg.start HS3.out).setFlag HS3.out.lt true), ?_, by rw [HX.out]; exact List.suffix_refl _, (fun h => by cases h), fun _ => h⟩
                  rw [List.append_nil]; have := HV.out.2.2.2.2.2; omega
                clear hb3 c1 f1 b2
                cases hW : Tm.whole t with
                | none =>
                  rw [hW] at hg
                  obtain ⟨rfl, rfl, _, rfl⟩ := hg
                  have HN : Hid (d = true ∨ Fl (rp (n + 1) ws (ps.map (·.1)))) := by
                    right; left
                    rw [HE.out, HSG.out, show nb t = none by unfold nb; rw [hW]]
                  clear hW
                  go_wp2_with fail
                  go_ret
                  exact HBAD3.out HN.out
                | some y =>
                  obtain ⟨k', x', ks⟩ := y
                  rw [hW] at hg
                  obtain ⟨rfl, rfl, rfl, _⟩ := hg
                  by_cases hk : k = 1
                  · have HN : Hid (rp (n + 1) ws (ps.map (·.1)) = some (v, ps.map (·.1) ++ [⟨0, x, 0, []⟩])) := by
                      show _ = _
                      rw [HE.out, HSG.out, show nb t = some x by unfold nb; rw [hW]; simp [hk]]
                    have hput := rpart_any z v false ps r w3 0 x 0 [] none 0 HS3.out (World.ownsRow_nil _ _ _ _) HPL.out
                    subst hk
                    clear hW
                    go_wp2_with fail
                    refine hput.mono ?_
                    clear hput
                    rintro e w4 ⟨rfl, hq4⟩
                    have HQ4 : Hid _ := hq4
                    clear hq4
                    go_wp2_with fail
                    go_ret
                    exact ExQ.put (x := ⟨0, x, 0, []⟩) HK3.out HV.out.1 HS3.out rfl ⟨rfl, HQ4.out⟩ HX.out HVL.out (fun _ => ⟨HD.out.1, HN.out⟩) (fun h => by cases h)
                  · have hk' : (k == 1) = false := by simpa using hk
                    have hk2 : (k != 1) = true := by rw [bne, hk']; rfl
                    have HN : Hid (d = true ∨ Fl (rp (n + 1) ws (ps.map (·.1)))) := by
                      right; left
                      rw [HE.out, HSG.out, show nb t = none by unfold nb; rw [hW]; simp [hk]]
                    clear hW hk
                    go_wp2_with fail
                    go_ret
                    exact HBAD3.out HN.out
theorem expr_any : ∀ n, ExSaid n
  | 0 => fun ws d ps r W z hn hs hS => by
    obtain rfl : ws = [] := List.length_eq_zero_iff.1 (by omega)
    have h := expr_walk 0 [] d ps r W z (fun h => absurd rfl h) (by simp) hs hS
    refine h.mono ?_
    rintro e W' ⟨ws', d', qs, r', x, h1, h2, h3, h4, h5, h6⟩
    refine ⟨ws', d', qs, r', x, h1, h2, h3, h4, fun h => ?_, fun h => ?_⟩
    · have := (h5 h).2.1; rw [rp_len0] at this; cases this
    · rw [rp_len0]; exact Or.inr (Or.inl rfl)
  | n + 1 => fun ws d ps r W z hn hs hS => expr_walk n ws d ps r W z (fun _ => open_of n (expr_any n)) hn hs hS
end Go.Proofs.YtjamknejllbmkaaGreatDoor

namespace Go.Proofs.YtjamknejllbmkaaGreatDoor
open Go.RowKit
set_option linter.unusedVariables false

/-! No program comes of it. -/
def NoP (o : Option (List Df)) : Prop := o = none ∨ ∃ ds, o = some ds ∧ pmay ds = false
def NoD (o : Option (List Wd × Df)) : Prop := o = none ∨ ∃ ws d, o = some (ws, d) ∧ may d.params d.body = false
theorem rpg_pre {n : Nat} : ∀ (m : Nat) (acc : List Df) (ws : List Wd) (ds : List Df), rpg n m acc ws = some ds → acc <+: ds
  | 0, _, _, _, h => by simp [rpg] at h
  | _ + 1, acc, [], ds, h => by rw [rpg] at h; cases h; exact List.prefix_refl _
  | m + 1, acc, w :: ws, ds, h => by
    rw [rpg] at h
    split at h
    · cases h
    · exact (List.prefix_append _ _).trans (rpg_pre m _ _ _ h)
theorem bad_pmay {ds : List Df} {d : Df} (hd : d ∈ ds) (h : may d.params d.body = false) : pmay ds = false := by
  cases hp : pmay ds with
  | false => rfl
  | true =>
    unfold pmay at hp
    simp only [Bool.and_eq_true] at hp
    have := List.all_eq_true.1 hp.2 d hd
    unfold dOk at this
    rw [h] at this; cases this
theorem nod_nop {n m : Nat} {acc : List Df} {w : Wd} {ws : List Wd} (h : NoD (rdf n (w :: ws))) : NoP (rpg n (m + 1) acc (w :: ws)) := by
  rcases h with h | ⟨ws', d, h, hd⟩
  · exact Or.inl (rpg_no h)
  · rw [rpg_on h]
    cases hr : rpg n m (acc ++ [d]) ws' with
    | none => exact Or.inl rfl
    | some ds => exact Or.inr ⟨ds, rfl, bad_pmay ((rpg_pre _ _ _ _ hr).subset (by simp)) hd⟩
theorem many_nop {n m : Nat} {acc : List Df} {ws : List Wd} (h : 8 < acc.length) : NoP (rpg n m acc ws) := by
  cases hr : rpg n m acc ws with
  | none => exact Or.inl rfl
  | some ds => exact Or.inr ⟨ds, rfl, pmay_many (by have := (rpg_pre _ _ _ _ hr).length_le; omega)⟩
theorem nod_1 {n : Nat} {ws : List Wd} {t1 t2 t3 : Wd} {v1 v2 v3 : List Wd} (h1 : nxt ws = (t1, v1)) (h2 : nxt v1 = (t2, v2)) (h3 : nxt v2 = (t3, v3)) (h : t1 ≠ [40] ∨ t2 ≠ [100, 101, 102]) : rdf n ws = none := by
  rw [rdf_eq h1 h2 h3]
  rcases h with h | h
  · rw [if_neg h]
  · split
    · first | rfl | rw [if_neg h]
    · rfl
theorem nod_2 {n : Nat} {ws : List Wd} {t1 t2 t3 : Wd} {v1 v2 v3 : List Wd} (h1 : nxt ws = (t1, v1)) (h2 : nxt v1 = (t2, v2)) (h3 : nxt v2 = (t3, v3)) (h : lim 3 (dg t3) = none ∨ Fl (rp n v3 [])) : NoD (rdf n ws) := by
  cases hr : rdf n ws with
  | none => exact Or.inl rfl
  | some y =>
    obtain ⟨ws', d⟩ := y
    refine Or.inr ⟨ws', d, rfl, ?_⟩
    rw [rdf_eq h1 h2 h3] at hr
    split at hr
    · split at hr
      · split at hr
        · cases hr
        · rename_i x hx
          split at hr
          · cases hr
          · rename_i ws1 b hb
            split at hr
            · cases hr
              dsimp only
              rcases h with h | h
              · rcases lim_none h with h4 | ⟨y, h4, h5⟩
                · rw [hx] at h4; cases h4
                · rw [hx] at h4; cases h4; exact big_may h5
              · rcases h with h | ⟨_, _, h, hs⟩
                · rw [hb] at h; cases h
                · rw [hb] at h; cases h; exact sp_may hs
            · cases hr
      · cases hr
    · cases hr
theorem nod_3 {n : Nat} {ws : List Wd} {t1 t2 t3 t6 : Wd} {v1 v2 v3 v6 ws5 : List Wd} {b5 : List Ex} (h1 : nxt ws = (t1, v1)) (h2 : nxt v1 = (t2, v2)) (h3 : nxt v2 = (t3, v3)) (hr : rp n v3 [] = some (ws5, b5)) (h6 : nxt ws5 = (t6, v6)) (ht : t6 ≠ [41]) : NoD (rdf n ws) := by
  left
  rw [rdf_eq h1 h2 h3]
  split
  · split
    · split
      · rfl
      · rw [hr]
        dsimp only
        rw [h6, if_neg ht]
    · rfl
  · rfl
theorem yes_d {n : Nat} {ws : List Wd} {t3 : Wd} {v1 v2 v3 v6 ws5 : List Wd} {b5 : List Ex} {x : Int} (h1 : nxt ws = ([40], v1)) (h2 : nxt v1 = ([100, 101, 102], v2)) (h3 : nxt v2 = (t3, v3)) (hx : lim 3 (dg t3) = some x) (hr : rp n v3 [] = some (ws5, b5)) (h6 : nxt ws5 = ([41], v6)) : rdf n ws = some (v6, ⟨x, b5⟩) := by
  rw [rdf_eq h1 h2 h3, if_pos rfl, if_pos rfl, (lim_some hx).1, hr]
  dsimp only
  rw [h6]
  rfl

/-! Rows beside the reference's reader. -/
theorem NumsT.offR {W W' : World} {z : Nat} {g : Option Addr} {ks : List Int} {u v : Value} {d : Bool} (h : NumsT W g ks) (hr : RdR W z u d v) (hk : Kp z none W W') : NumsT W' g ks := by
  rcases h with h | ⟨b, cs, h1, h2, h3⟩
  · exact Or.inl h
  · refine Or.inr ⟨b, cs, h1, (hk.block b (Array.getElem?_eq_some_iff.1 h2).1 (fun e => ?_) (by simp)).trans h2, h3⟩
    subst e
    have := h2.symm.trans hr
    simp at this
theorem ExsT.offR {W W' : World} {z : Nat} {g : Option Addr} {xs : List Ex} {u v : Value} {d : Bool} (h : ExsT W g xs) (hr : RdR W z u d v) (hk : Kp z none W W') : ExsT W' g xs := by
  rcases h with h | ⟨b, cs, h1, h2, h3⟩
  · exact Or.inl h
  · refine Or.inr ⟨b, cs, h1, (hk.block b h2.lt (fun e => ?_) (by simp)).trans h2, fun j x hx => ?_⟩
    · subst e
      have := (show W.heap[b]? = _ from h2).symm.trans hr
      simp at this
    · obtain ⟨gk, ck, a0, a1, a2, a3, a4, a5⟩ := h3 j x hx
      exact ⟨gk, ck, a0, a1, a2, a3, a4.offR hr hk, a5⟩
theorem Pd.offR {W W' : World} {base z : Nat} {v a b : Value} {d : Bool} {qs : List Dt} (h : Pd W base v qs) (hr : RdR W z a d b) (hk : Kp z none W W') (hz : z < base) : Pd W' base v qs := by
  refine ⟨hk.own h.own hz ?_, fun q hq => (h.bodies q hq).offR hr hk⟩
  cases v.ownBlock with
  | none => exact .inl rfl
  | some k => exact .inr (by simp)
theorem SR.rdr {W : World} {z : Nat} {ws : List Wd} {d : Bool} {ps : List Pt} {r : Option Nat} (h : SR W z ws d ps r) : ∃ u v, RdR W z u d v := by
  obtain ⟨g, c, bv, h1, _⟩ := h
  exact ⟨_, _, h1⟩
theorem SR.grown {W W' : World} {z : Nat} {ws : List Wd} {d : Bool} {ps : List Pt} {r row : Option Nat} (h : SR W z ws d ps r) (hg : W.grownBy W' row) (hr : Only36 W row) (hz : ∀ k, row = some k → z < k) : SR W' z ws d ps r := by
  have hlt := h.lt
  obtain ⟨g, c, bv, h1, h2, h3, h4, h5⟩ := h
  have keep : ∀ {base e size n : Nat} {u : Value} {xs : List Value}, e ≠ 58 → W.ownsRow base e size u n xs → W'.ownsRow base e size u n xs := fun {base e size n u xs} he ho => by
    refine ho.kept hg ?_
    cases hu : u.ownBlock with
    | none => exact .inl rfl
    | some k =>
      right
      intro e'
      rcases ho.2 with ⟨rfl, _⟩ | ⟨b, cap, cur, rfl, _, hb, _⟩
      · cases hu
      · cases hu
        exact only_ne hr hb he e'
  exact ⟨g, c, bv, (hg.block z hlt (fun e => by have := hz z e.symm; omega)).trans h1, h2.on (fun k hk => hg.block k (by omega) (fun e => by have := hz k e.symm; omega)), h3, ⟨keep (by decide) h4.own, fun p hp => keep (by decide) (h4.kids p hp)⟩, h5⟩
theorem SR.box1 {W : World} {z : Nat} {ws : List Wd} {d : Bool} {ps : List Pt} {r : Option Nat} (h : SR W z ws d ps r) {b : Nat} {gb : Option Addr} {nb cb : Nat} (hb : Bx1 W b (.slice gb nb cb)) (j : Nat) (v : Value) : SR (W.setCell ⟨b, j, none⟩ v) z ws d ps r := by
  obtain ⟨g, c, bv, h1, h2, h3, h4, h5⟩ := h
  have hz : z ≠ b := by
    rintro rfl
    have := (show W.heap[z]? = _ from hb).symm.trans h1
    simp at this
  exact ⟨g, c, bv, (Below.heap_setCell W _ _ z (fun e => hz e)).trans h1, h2.box1 hb j v, h3, ⟨own_far h4.own (own_not h4.own hb (by decide)) _ _, fun p hp => own_far (h4.kids p hp) (own_not (h4.kids p hp) hb (by decide)) _ _⟩, h5⟩
/-- What stands ahead of each definition. -/
structure Rpr (w : World) (z : Nat) (wr : World) (ws : List Wd) (d : Bool) (ps : List Pt) (r : Option Nat) (g : Option Addr) (c : Nat) (qs : List Dt) : Prop where
  st : SR wr z ws d ps r
  pd : Pd wr (z + 2) (.slice g qs.length c) qs
  box : Bx1 wr (z + 1) (.slice g qs.length c)
  out : Bx1 wr w.heap.size (.slice none 0 0)
  low : Below w.heap.size w wr
  ord : w.heap.size < z
theorem Rpr.next {w : World} {z : Nat} {wr w2 : World} {ws ws2 : List Wd} {d d2 : Bool} {ps ps2 : List Pt} {r r2 : Option Nat} {g : Option Addr} {c : Nat} {qs : List Dt} (h : Rpr w z wr ws d ps r g c qs) (hK : Kp z none wr w2) (hS : SR w2 z ws2 d2 ps2 r2) : Rpr w z w2 ws2 d2 ps2 r2 g c qs := by
  obtain ⟨u, v, hr⟩ := h.st.rdr
  have := h.ord
  exact ⟨hS, h.pd.offR hr hK (by omega), h.box.kp hK (by omega) (by simp), h.out.kp hK (by omega) (by simp), Kp.low h.low hK (by omega), h.ord⟩
theorem Rpr.put {w : World} {z : Nat} {w2 w3 : World} {ws : List Wd} {d : Bool} {ps : List Pt} {r : Option Nat} {g g2 g3 : Option Addr} {c c2 c3 : Nat} {qs : List Dt} {df : Df} {o : Obj} (h : Rpr w z w2 ws d ps r g c qs)
    (hP : Pd w3 (z + 2) (.slice g3 (qs ++ [(df, g2, c2)]).length c3) (qs ++ [(df, g2, c2)])) (hg : (w2.alloc o).grownBy w3 (Value.slice g qs.length c).ownBlock) :
    Bx1 w3 (z + 1) (.slice g qs.length c) ∧ Rpr w z (w3.setCell ⟨z + 1, 0, none⟩ (.slice g3 (qs ++ [(df, g2, c2)]).length c3)) ws d ps r g3 c3 (qs ++ [(df, g2, c2)]) := by
  have hb : Below w2.heap.size w2 (w2.alloc o) := (Below.refl _ w2).alloc (Nat.le_refl _) o
  have hP2 := h.pd.on hb
  have ho := h.ord
  have hrow : ∀ k, (Value.slice g qs.length c).ownBlock = some k → z + 2 ≤ k := fun k hk => (h.pd.own.lt k hk).1
  have hon : Only36 (w2.alloc o) (Value.slice g qs.length c).ownBlock := only_own hP2.own
  have b1 : Bx1 w3 (z + 1) (.slice g qs.length c) := (h.box.on hb).kept hg (hP2.not_box (h.box.on hb))
  have b0 : Bx1 w3 w.heap.size (.slice none 0 0) := (h.out.on hb).kept hg (hP2.not_box (h.out.on hb))
  have s1 := ((h.st.below hb).grown hg hon (fun k hk => by have := hrow k hk; omega)).box1 b1 0 (.slice g3 (qs ++ [(df, g2, c2)]).length c3)
  have hl : Below w.heap.size w w3 := (h.low.trans (hb.mono (by have := h.low.size; omega))).grown hg (by have h1 := hb.size; have h2 := h.low.size; omega) (fun k hk => by have := hrow k hk; omega)
  exact ⟨b1, s1, hP.far b1 0 _, b1.set0 _, b0.far (by omega) 0 _, hl.setCell (p := ⟨z + 1, 0, none⟩) (by show w.heap.size ≤ z + 1; omega) _, h.ord⟩
/-- A definition is put behind the others, within a region that draws its order. -/
theorem step_dfD {W : World} {ops : Array Oper} {o : Oper} {a : Act} {K : Act → World → Prop} {Q : Exit → Act → World → Prop} {E : Prop} (hgd : o.guard = none) (s x : Operand)
    (ho : o.op = .call { callee := .builtin .append, args := #[s, x], argTypes := #[28, 28] }) (base : Nat) (v : Value) (qs : List Dt) (q : Dt) (cs : Array Value) (hcs : cs.toList = c2 q) (hs : a.eval s = v) (z : Nat) (hz : W.heap.size = z) (hx : a.eval x = .slice (some ⟨z, 0, none⟩) 1 1)
    (hpd : Pd W base v qs) (hq : ExsT W q.2.1 q.1.body) (hb : base ≤ W.heap.size) (hlen : (qs.length + 1) * 32 ≤ 140737488355328)
    (h : ∀ v' w', Pd w' base v' (qs ++ [q]) → (W.alloc (.cells cs 58)).grownBy w' v.ownBlock → K (a.put o.dst v') w') : if Region.wanted o (yielded ops a.tmps) = true then Oper.wp Tryz.prog o a (W.alloc (.cells cs 58)).drew K Q else E := by
  subst hz
  obtain ⟨i0, hi, hz0, hz1, hz2⟩ := info_parts Tryz.info58
  refine step_append_lies _ hgd s x 28 ho base 58 i0 _ 2 32 Tryz.underlying28 hi hz0 hz1 hz2 rfl (by decide) v _ _ hs ((hpd.own.alloc _).drew) ⟨W.heap.size, 0, none⟩ 1 1 (c2 q) hx rfl ?_ (fun u hu => one_c2 [q] u (by simpa using hu)) (by decide) (by unfold maxLen; omega) hlen (by show _ ≤ (W.alloc (.cells cs 58)).heap.size; rw [World.size_alloc]; omega) _ rfl ?_
  · intro j u hj
    rw [Addr.add_lit, Nat.zero_add]
    show (W.alloc (.cells cs 58)).cell? _ = _
    refine cell_new W cs 58 j u ?_
    rw [← hcs] at hj
    simpa using hj
  · intro g cap w' h1 h2' _ _
    have h2 : (W.alloc (.cells cs 58)).grownBy w' v.ownBlock := ⟨h2'.os, h2'.tape, h2'.output, h2'.size, h2'.block⟩
    exact h _ w' ((hpd.alloc _).next (hq.alloc _) (by simpa using h1) h2) h2
end Go.Proofs.YtjamknejllbmkaaGreatDoor

namespace Go.Proofs.YtjamknejllbmkaaGreatDoor
open Go.RowKit
set_option linter.unusedVariables false

theorem rwords_good (s : ByteArray) (w : World) (h : Lx.good s.data.toList = true) :
    Calls Tryz.prog 27 #[.string s] w fun e w' => ∃ g c, e = .returned (.tuple #[.slice g (Lx.wd false [] s.data.toList).length c, .int .i64 0]) ∧
      w'.ownsRow w.heap.size 9 1 (.slice g (Lx.wd false [] s.data.toList).length c) (Lx.wd false [] s.data.toList).length ((Lx.wd false [] s.data.toList).map Lx.S) ∧ Below w.heap.size w w' := by
  refine (Lx.rwords_any s w).mono ?_
  rintro e w' ⟨g, n, c, er, rfl, hb, ⟨_, rfl, ho⟩ | ⟨h', _⟩⟩
  · obtain ⟨g', c', e, _⟩ := Lx.own_len ho
    cases e
    exact ⟨_, _, rfl, ho, hb⟩
  · rw [h] at h'; cases h'
theorem rwords_bad (s : ByteArray) (w : World) (h : Lx.good s.data.toList = false) :
    Calls Tryz.prog 27 #[.string s] w fun e w' => e = .returned (.tuple #[.slice none 0 0, .int .i64 400]) ∧ Below w.heap.size w w' := by
  refine (Lx.rwords_any s w).mono ?_
  rintro e w' ⟨g, n, c, er, rfl, hb, ⟨h', _⟩ | ⟨_, rfl, rfl, rfl, rfl⟩⟩
  · rw [h] at h'; cases h'
  · exact ⟨rfl, hb⟩
/-- What the flag tells within Parse. -/
def PF (O : Option (List Df)) (m1 : Nat) (acc : List Df) (ws1 : List Wd) (d1 : Bool) : Prop :=
  (d1 = false → ws1.length < m1 ∧ rpg 2049 m1 acc ws1 = O) ∧ (d1 = true → NoP O)
theorem sfx_nxt (ws : List Wd) : (nxt ws).2 <:+ ws := by
  cases ws with
  | nil => exact List.suffix_refl _
  | cons w ws => exact List.suffix_cons _ _

set_option maxHeartbeats 4000000 in
set_option maxRecDepth 100000 in
theorem rparse_any (s : ByteArray) (w : World) : Calls Tryz.prog 16 #[.string s] w fun e w' => ParseQ (pp s.data.toList) w e w' := by
  obtain ⟨P, hP⟩ : ∃ P, pp s.data.toList = P := ⟨_, rfl⟩
  rw [hP]
  have HP : Hid (pp s.data.toList = P) := hP
  have hX1 := Bx1.new w (.slice none 0 0)
  have hb1 : Below w.heap.size w (w.alloc (.cells #[.slice none 0 0] 30)) := (Below.refl _ w).alloc (Nat.le_refl _) _
  clear hP
  cases hg : Lx.good s.data.toList with
  | false =>
    have HE : Hid (P = none) := by show _ = _; rw [← HP.out, pp_bad hg]
    have hcall := rwords_bad s (w.alloc (.cells #[.slice none 0 0] 30)) hg
    obtain ⟨W1, hW1⟩ : ∃ W1, w.alloc (.cells #[.slice none 0 0] 30) = W1 := ⟨_, rfl⟩
    rw [hW1] at hcall hX1 hb1
    clear hg
    go_enter Tryz.func16, Tryz.ntmps16
    go_wp2_with fail
    clear hW1
    refine hcall.mono ?_
    rintro e w2 ⟨rfl, hb2⟩
    have hX2 := hX1.on hb2
    have x0 := hX2.c0
    have xf := hX2.frozen 0
    have xl := hX2.lt
    have HB : Hid (Below w.heap.size w w2) := below_next hb1 hb2
    clear hcall hX2 hX1 hb1 hb2
    go_wp2_with fail
    refine bodyPost_ret (v := .tuple #[pV none 0 0, .int .i64 700]) (by simp [results, Tryz.results16, go_sem, x0]) rfl ?_
    exact ParseQ.no HE.out (HB.out.setCell (p := ⟨w.heap.size, 0, none⟩) (Nat.le_refl _) _)
  | true =>
    have HG : Hid (Lx.good s.data.toList = true) := hg
    have hcall := rwords_good s (w.alloc (.cells #[.slice none 0 0] 30)) hg
    obtain ⟨hsz, hsl⟩ := sz_words hg
    obtain ⟨ws, hws⟩ : ∃ ws, Lx.wd false [] s.data.toList = ws := ⟨_, rfl⟩
    rw [hws] at hcall hsz hsl
    obtain ⟨O, hO⟩ : ∃ O, rpg 2049 2049 [] ws = O := ⟨_, rfl⟩
    have HPO : Hid ((NoP O → P = none) ∧ (∀ ds, O = some ds → pmay ds = true → P = some ds) ∧ (∀ ds, O = some ds → pmay ds = false → P = none)) := by
      refine ⟨fun h => ?_, fun ds h hp => ?_, fun ds h hp => ?_⟩
      · rw [← HP.out]
        rcases h with h | ⟨ds, h, hp⟩
        · exact pp_no hg (by rw [hws, hO, h])
        · exact pp_may hg (by rw [hws, hO, h]) hp
      · rw [← HP.out]; exact pp_yes hg (by rw [hws, hO, h]) hp
      · rw [← HP.out]; exact pp_may hg (by rw [hws, hO, h]) hp
    have HO : Hid (rpg 2049 2049 [] ws = O) := hO
    obtain ⟨W1, hW1⟩ : ∃ W1, w.alloc (.cells #[.slice none 0 0] 30) = W1 := ⟨_, rfl⟩
    rw [hW1] at hcall hX1 hb1
    clear hg hws hO
    go_enter Tryz.func16, Tryz.ntmps16
    go_wp2_with fail
    clear hW1
    refine hcall.mono ?_
    rintro e w2 ⟨g, c, rfl, ho2, hb2⟩
    obtain ⟨hT2, hc2⟩ := wtx_own ho2
    have HS0 : Hid (Sz ws [] ∧ ws.length ≤ 2048) := ⟨hsz, hsl⟩
    have HI : Hid (Rpr w w2.heap.size ((w2.alloc (.cells #[.slice g ws.length c, .bool false, .slice none 0 0] 86)).alloc (.cells #[.slice none 0 0] 30)) ws false [] none none 0 []) := by
      have hbb : Below w2.heap.size w2 ((w2.alloc (.cells #[.slice g ws.length c, .bool false, .slice none 0 0] 86)).alloc (.cells #[.slice none 0 0] 30)) := ((Below.refl _ w2).alloc (Nat.le_refl _) _).alloc (by simp) _
      have h3 : RdR ((w2.alloc (.cells #[.slice g ws.length c, .bool false, .slice none 0 0] 86)).alloc (.cells #[.slice none 0 0] 30)) w2.heap.size (.slice g ws.length c) false (.slice none 0 0) := (Below.heap_alloc _ _ _ (by simp)).trans (World.alloc_heap_new w2 _)
      have h4 := Bx1.new (w2.alloc (.cells #[.slice g ws.length c, .bool false, .slice none 0 0] 86)) (.slice none 0 0)
      rw [World.size_alloc] at h4
      have hlw := (hX1.on hb2).lt
      refine ⟨⟨g, c, _, h3, hT2.on (fun k hk => hbb.block k hk), hc2, BdO.nil _ _, rfl⟩, Pd.nil _ _, h4, (hX1.on hb2).on hbb, below_next (below_next hb1 hb2) hbb, hlw⟩
    clear hcall hX1 hb1 hb2 ho2 hT2 hc2 hsz hsl
    go_wp2_with fail
    obtain ⟨W3, hW3⟩ : ∃ W3, (w2.alloc (.cells #[.slice g ws.length c, .bool false, .slice none 0 0] 86)).alloc (.cells #[.slice none 0 0] 30) = W3 := ⟨_, rfl⟩
    rw [hW3] at HI ⊢
    obtain ⟨z, hz⟩ : ∃ z, w2.heap.size = z := ⟨_, rfl⟩
    rw [hz] at HI ⊢
    clear hW3 hz
    go_loopw [8, 9] (fun _ _ wr => ∃ (ws1 : List Wd) (d1 : Bool) (ps1 : List Pt) (r1 : Option Nat) (g1 : Option Addr) (c1 : Nat) (qs1 : List Dt) (m1 : Nat), Hid (Rpr w z wr ws1 d1 ps1 r1 g1 c1 qs1) ∧ Hid (PF O m1 (qs1.map (·.1)) ws1 d1) ∧ Hid (qs1.length + ws1.length ≤ 2048 ∧ ws1 <:+ ws))
      (fun _ _ wr => leftOf z wr)
    case atStart => exact ⟨ws, false, [], none, none, 0, [], 2049, HI, ⟨fun _ => ⟨by have := HS0.out.2; omega, HO.out⟩, fun h => by cases h⟩, ⟨by have := HS0.out.2; simp; exact this, List.suffix_refl _⟩⟩
    case round =>
      clear HI HO
      obtain ⟨ws1, d1, ps1, r1, g1, c1, qs1, m1, HR, HF, HL⟩ := hrel
      have p0 := HR.out.box.c0
      have o0 := HR.out.out.c0
      have of := HR.out.out.frozen 0
      have ol := HR.out.out.lt
      have zl := HR.out.st.lt
      have f1 := HR.out.st.flag
      cases d1 with
      | true =>
        cases ws1 with
        | nil =>
          obtain ⟨gw, cw, c0⟩ := HR.out.st.words
          rw [List.length_nil] at c0
          have HE : Hid (P = none) := HPO.out.1 (HF.out.2 rfl)
          go_wp2_with fail
          refine bodyPost_ret (v := .tuple #[pV none 0 0, .int .i64 700]) (by simp [results, Tryz.results16, go_sem, o0]) rfl ?_
          exact ParseQ.no HE.out (HR.out.low.setCell (p := ⟨w.heap.size, 0, none⟩) (Nat.le_refl _) _)
        | cons w1 ws1 =>
          obtain ⟨gw, cw, c0⟩ := HR.out.st.words
          rw [List.length_cons] at c0
          have hl0 : (0 : Int) < (ws1.length : Int) + 1 := by omega
          have HE : Hid (P = none) := HPO.out.1 (HF.out.2 rfl)
          go_wp2_with fail
          refine bodyPost_ret (v := .tuple #[pV none 0 0, .int .i64 700]) (by simp [results, Tryz.results16, go_sem, o0]) rfl ?_
          exact ParseQ.no HE.out (HR.out.low.setCell (p := ⟨w.heap.size, 0, none⟩) (Nat.le_refl _) _)
      | false =>
        cases ws1 with
        | nil =>
          obtain ⟨gw, cw, c0⟩ := HR.out.st.words
          rw [List.length_nil] at c0
          have HOE : Hid (O = some (qs1.map (·.1))) := by
            obtain ⟨h1, h2⟩ := HF.out.1 rfl
            rw [rpg_end (by omega)] at h2
            exact h2.symm
          have hrp : Calls Tryz.prog 31 #[.agg #[.slice g1 qs1.length c1]] wr fun r w' => r = .returned (.bool (pmay (qs1.map (·.1)))) ∧ Below wr.heap.size wr w' := by
            have h := rprog_any g1 c1 (qs1.map (·.1)) wr HR.out.pd.defs
            rw [List.length_map] at h
            exact h
          obtain ⟨b, hb⟩ : ∃ b, pmay (qs1.map (·.1)) = b := ⟨_, rfl⟩
          rw [hb] at hrp
          have HB : Hid (pmay (qs1.map (·.1)) = b) := hb
          clear hb
          go_wp2_with fail
          refine hrp.mono ?_
          clear hrp
          rintro e w5 ⟨rfl, hb5⟩
          have hX5 := HR.out.out.on hb5
          have x5 := hX5.c0
          have y5 := (HR.out.box.on hb5).c0
          have g5 := hX5.frozen 0
          have l5 := hX5.lt
          have HX5 : Hid (Bx1 w5 w.heap.size (.slice none 0 0)) := hX5
          have HB5 : Hid (Below w.heap.size w w5) := below_next HR.out.low hb5
          have HP5 : Hid (Pd w5 (z + 2) (.slice g1 qs1.length c1) qs1) := HR.out.pd.on hb5
          clear hX5 hb5 p0 o0 of ol f1
          cases b with
          | false =>
            have HE : Hid (P = none) := HPO.out.2.2 _ HOE.out HB.out
            go_wp2_with fail
            refine bodyPost_ret (v := .tuple #[pV none 0 0, .int .i64 700]) (by simp [results, Tryz.results16, go_sem, x5]) rfl ?_
            exact ParseQ.no HE.out (HB5.out.setCell (p := ⟨w.heap.size, 0, none⟩) (Nat.le_refl _) _)
          | true =>
            have HE : Hid (P = some (qs1.map (·.1))) := HPO.out.2.1 _ HOE.out HB.out
            go_wp2_with fail
            refine bodyPost_ret (v := .tuple #[pV g1 qs1.length c1, .int .i64 0]) (by simp [results, Tryz.results16, go_sem, x5]) rfl ?_
            refine ⟨HB5.out.setCell (p := ⟨w.heap.size, 0, none⟩) (Nat.le_refl _) _, ?_⟩
            rw [HE.out]
            have hp := HP5.out.far HX5.out 0 (.slice g1 qs1.length c1)
            refine ⟨g1, c1, qs1, by simp, rfl, ?_⟩
            rw [List.length_map]
            exact ⟨own_rebase hp.own (fun k hk => by have h1 := (hp.own.lt k hk).1; have h2 := HR.out.ord; omega), hp.bodies⟩
        | cons w1 ws1 =>
          obtain ⟨gw, cw, c0⟩ := HR.out.st.words
          rw [List.length_cons] at c0
          have hl0 : (0 : Int) < (ws1.length : Int) + 1 := by omega
          by_cases h8 : 8 < qs1.length
          · have e8 : decide ((qs1.length : Int) ≤ 8) = false := decide_eq_false (by omega)
            have e8' : ¬ (qs1.length : Int) ≤ 8 := by omega
            have HNP : Hid (P = none) := HPO.out.1 (by
              obtain ⟨_, h2⟩ := HF.out.1 rfl
              rw [← h2]
              exact many_nop (by rw [List.length_map]; exact h8))
            have HPM : Hid (pmay (qs1.map (·.1)) = false) := pmay_many (by rw [List.length_map]; omega)
            clear h8
            have hrp : Calls Tryz.prog 31 #[.agg #[.slice g1 qs1.length c1]] wr fun r w' => r = .returned (.bool (pmay (qs1.map (·.1)))) ∧ Below wr.heap.size wr w' := by
              have h := rprog_any g1 c1 (qs1.map (·.1)) wr HR.out.pd.defs
              rw [List.length_map] at h
              exact h
            obtain ⟨b, hb⟩ : ∃ b, pmay (qs1.map (·.1)) = b := ⟨_, rfl⟩
            rw [hb] at hrp
            have HB : Hid (pmay (qs1.map (·.1)) = b) := hb
            clear hb
            go_wp2_with fail
            refine hrp.mono ?_
            clear hrp
            rintro e w5 ⟨rfl, hb5⟩
            have hX5 := HR.out.out.on hb5
            have x5 := hX5.c0
            have y5 := (HR.out.box.on hb5).c0
            have g5 := hX5.frozen 0
            have l5 := hX5.lt
            have HX5 : Hid (Bx1 w5 w.heap.size (.slice none 0 0)) := hX5
            have HB5 : Hid (Below w.heap.size w w5) := below_next HR.out.low hb5
            have HP5 : Hid (Pd w5 (z + 2) (.slice g1 qs1.length c1) qs1) := HR.out.pd.on hb5
            clear hX5 hb5 p0 o0 of ol f1
            cases b with
            | false =>
              have HE : Hid (P = none) := HNP.out
              go_wp2_with fail
              refine bodyPost_ret (v := .tuple #[pV none 0 0, .int .i64 700]) (by simp [results, Tryz.results16, go_sem, x5]) rfl ?_
              exact ParseQ.no HE.out (HB5.out.setCell (p := ⟨w.heap.size, 0, none⟩) (Nat.le_refl _) _)
            | true =>
              have h1 := HPM.out
              rw [HB.out] at h1
              cases h1
          · have e8 : decide ((qs1.length : Int) ≤ 8) = true := decide_eq_true (by omega)
            have e8' : (qs1.length : Int) ≤ 8 := by omega
            clear h8 o0 of ol
            have HLF : Hid (leftOf z wr = ws1.length + 1) := HR.out.st.left
            have HSA : Hid (SR (wr.setCell ⟨z, 2, none⟩ (.slice none 0 0)) z (w1 :: ws1) false [] none) := HR.out.st.clear
            have HKA : Hid (Kp z none wr (wr.setCell ⟨z, 2, none⟩ (.slice none 0 0))) := Kp.of_set _ _ _ _ _
            obtain ⟨gz, cz, z2, _, _⟩ := HR.out.st.body
            have zf := HR.out.st.free 2
            have HLB : Hid (∀ vB : List Wd, vB <:+ ws → vB.length ≤ 2049) := fun vB h => by have h1 := h.length_le; have h2 := HS0.out.2; omega
            have HZA : Hid (Sz (w1 :: ws1) []) := HS0.out.1.on HL.out.2 (by have := HL.out.2.length_le; simp at this ⊢; omega)
            have HMM : Hid (∃ m', m1 = m' + 1 ∧ rpg 2049 (m' + 1) (qs1.map (·.1)) (w1 :: ws1) = O ∧ ws1.length < m') := by
              obtain ⟨h1, h2⟩ := HF.out.1 rfl
              simp only [List.length_cons] at h1
              exact ⟨m1 - 1, by omega, by rw [show m1 - 1 + 1 = m1 by omega]; exact h2, by omega⟩
            go_wp2_with fail
            obtain ⟨wA, hwA⟩ : ∃ wA, wr.setCell ⟨z, 2, none⟩ (.slice none 0 0) = wA := ⟨_, rfl⟩
            rw [hwA] at HSA HKA ⊢
            clear hwA z2 zf p0 c0 f1 zl
            refine (word_any z (w1 :: ws1) false [] none wA HSA.out (by have := HZA.out.1; simp at this ⊢; omega) (t := w1) (v := ws1) rfl).mono ?_
            rintro e w1' ⟨rfl, hS1, hK1⟩
            have HS1 : Hid (SR w1' z ws1 false [] none) := hS1
            have HK1 : Hid (Kp z none wr w1') := HKA.out.next hK1
            have HZ1 : Hid (Sz ws1 []) := HZA.out.on (List.suffix_cons _ _) (by simp)
            clear hS1 hK1
            by_cases hc1 : w1 = [40]
            · have hq1 : ((Lx.ba w1).toList == [40]) = true := by rw [ba_is, hc1]; rfl
              have HC1 : Hid (w1 = [40]) := hc1
              clear hc1
              obtain ⟨t2, v2, hx2⟩ : ∃ t v, nxt ws1 = (t, v) := ⟨_, _, rfl⟩
              have HX2 : Hid (nxt ws1 = (t2, v2)) := hx2
              have HZ2 : Hid (Sz v2 []) := by
                have h := sfx_nxt ws1
                rw [hx2] at h
                exact HZ1.out.on h (by have := h.length_le; simp at this ⊢; exact this)
              have HV2 : Hid (v2 <:+ ws1) := by have h := sfx_nxt ws1; rw [hx2] at h; exact h
              clear hx2
              go_wp2_with fail
              refine (word_any z ws1 false [] none w1' HS1.out (by have := HZ1.out.1; simp at this; omega) HX2.out).mono ?_
              rintro e w2' ⟨rfl, hS2, hK2⟩
              have HS2 : Hid (SR w2' z v2 (false || ws1.isEmpty) [] none) := hS2
              have HK2 : Hid (Kp z none wr w2') := HK1.out.next hK2
              clear hS2 hK2
              by_cases hc2 : t2 = [100, 101, 102]
              · have hq2 : ((Lx.ba t2).toList == [100, 101, 102]) = true := by rw [ba_is, hc2]; rfl
                have HC2 : Hid (t2 = [100, 101, 102] ∧ ws1.isEmpty = false) := by
                  refine ⟨hc2, ?_⟩
                  cases hw : ws1 with
                  | nil => have h := HX2.out; rw [hw] at h; simp only [nxt, Prod.mk.injEq] at h; rw [← h.1] at hc2; cases hc2
                  | cons a b => rfl
                clear hc2
                obtain ⟨t3, v3, hx3⟩ : ∃ t v, nxt v2 = (t, v) := ⟨_, _, rfl⟩
                have HX3 : Hid (nxt v2 = (t3, v3)) := hx3
                have HZ3 : Hid (Sz v3 [] ∧ t3.length ≤ 4096 ∧ v3 <:+ v2 ∧ v3.length ≤ 2049) := by
                  have h1 := sfx_nxt v2
                  have h2 := nxt_len v2
                  have h3 : (nxt v2).1.length ≤ 4096 := by
                    cases hv : v2 with
                    | nil => simp [nxt]
                    | cons a b => exact HZ2.out.2 a (by rw [hv]; simp)
                  rw [hx3] at h1 h2 h3
                  dsimp only at h1 h2 h3
                  have h4 := HZ2.out.on (ps' := []) h1 (by omega)
                  have h5 := h1.length_le
                  have h6 := HLB.out v2 ((HV2.out.trans (List.suffix_cons _ _)).trans HL.out.2)
                  exact ⟨h4, h3, h1, by omega⟩
                clear hx3
                go_wp2_with fail
                refine (word_any z v2 (false || ws1.isEmpty) [] none w2' HS2.out (by have := HZ2.out.1; simp at this; omega) HX3.out).mono ?_
                rintro e wa3 ⟨rfl, hSa, hKa⟩
                have HSa3 : Hid (SR wa3 z v3 ((false || ws1.isEmpty) || v2.isEmpty) [] none) := hSa
                have HKa3 : Hid (Kp z none wr wa3) := HK2.out.next hKa
                clear hSa hKa
                go_wp2_with fail
                refine (whole_any z v3 ((false || ws1.isEmpty) || v2.isEmpty) [] none wa3 t3 3 HSa3.out HZ3.out.2.1 (by decide) (by decide)).mono ?_
                intro e wb3 hqb
                obtain ⟨x3, db3, rfl, hKb, hSb, hyb, hnb⟩ := hqb.flag
                have HSb3 : Hid (SR wb3 z v3 db3 [] none) := hSb
                have HKb3 : Hid (Kp z none wr wb3) := HKa3.out.next hKb
                have HFb3 : Hid ((db3 = false → ((false || ws1.isEmpty) || v2.isEmpty) = false ∧ lim 3 (dg t3) = some x3) ∧ (db3 = true → ((false || ws1.isEmpty) || v2.isEmpty) = true ∨ lim 3 (dg t3) = none)) := ⟨hyb, hnb⟩
                clear hqb hKb hSb hyb hnb
                go_wp2_with fail
                refine (expr_any 2049 v3 db3 [] none wb3 z HZ3.out.2.2.2 HZ3.out.1 HSb3.out).mono ?_
                rintro e wc3 ⟨ws3, dc3, qe3, rc3, xe3, rfl, hPc, hlc, hsc, hyc, hnc⟩
                have HSc3 : Hid (SR wc3 z ws3 dc3 qe3 rc3) := hPc.st
                have HKc3 : Hid (Kp z none wr wc3) := HKb3.out.next hPc.kp
                have HFc3 : Hid ((dc3 = false → db3 = false ∧ rp 2049 v3 [] = some (ws3, qe3.map (·.1))) ∧ (dc3 = true → db3 = true ∨ Fl (rp 2049 v3 [])) ∧ ws3 <:+ v3) := ⟨fun h => ⟨(hyc h).1, (hyc h).2.1⟩, hnc, hsc.trans (sfx_nxt _)⟩
                clear hPc hlc hsc hyc hnc
                obtain ⟨t6, v6, hx6⟩ : ∃ t v, nxt ws3 = (t, v) := ⟨_, _, rfl⟩
                have HX6 : Hid (nxt ws3 = (t6, v6)) := hx6
                have HZ6 : Hid (ws3.length ≤ 4096 ∧ v6 <:+ ws1) := by
                  have h := sfx_nxt ws3
                  rw [hx6] at h
                  have h1 := (HFc3.out.2.2.trans HZ3.out.2.2.1).trans HV2.out
                  have h2 := h1.length_le
                  have h3 := HZ1.out.1
                  simp at h3
                  exact ⟨by omega, h.trans h1⟩
                clear hx6
                go_wp2_with fail
                refine (word_any z ws3 dc3 qe3 rc3 wc3 HSc3.out HZ6.out.1 HX6.out).mono ?_
                rintro e w6 ⟨rfl, hS6, hK6⟩
                have HS6 : Hid (SR w6 z v6 (dc3 || ws3.isEmpty) qe3 rc3) := hS6
                have HK6 : Hid (Kp z none wr w6) := HKc3.out.next hK6
                clear hS6 hK6
                have HNO0 : Hid ((dc3 = true → NoP O) ∧ (t6 ≠ [41] → NoP O) ∧ (dc3 = false → t6 = [41] → rpg 2049 (m1 - 1) (qs1.map (·.1) ++ [⟨x3, qe3.map (·.1)⟩]) v6 = O)) := by
                  obtain ⟨m', rfl, hro, hlm⟩ := HMM.out
                  have hxx : nxt (w1 :: ws1) = ([40], ws1) := by rw [← HC1.out]; rfl
                  have hx2 : nxt ws1 = ([100, 101, 102], v2) := by rw [← HC2.out.1]; exact HX2.out
                  have hbad : dc3 = true → NoP O := fun h => by
                    rw [← hro]
                    refine nod_nop (nod_2 hxx hx2 HX3.out ?_)
                    rcases HFc3.out.2.1 h with h1 | h1
                    · rcases HFb3.out.2 h1 with h2 | h2
                      · left
                        rw [HC2.out.2] at h2
                        have h3 : v2 = [] := by simpa using h2
                        have h4 := HX3.out
                        rw [h3] at h4
                        simp only [nxt, Prod.mk.injEq] at h4
                        rw [← h4.1, dg_nil]; rfl
                      · exact Or.inl h2
                    · exact Or.inr h1
                  refine ⟨hbad, fun h => ?_, fun h ht => ?_⟩
                  · cases hd : dc3 with
                    | true => exact hbad hd
                    | false =>
                      rw [← hro]
                      exact nod_nop (nod_3 hxx hx2 HX3.out (HFc3.out.1 hd).2 HX6.out h)
                  · have h1 := HFc3.out.1 h
                    have h2 := (HFb3.out.1 h1.1).2
                    rw [Nat.add_sub_cancel, ← hro, rpg_on (yes_d hxx hx2 HX3.out h2 h1.2 (by rw [← ht]; exact HX6.out))]
                have HLX : Hid (qs1.length + 1 + v6.length ≤ 2048 ∧ v6 <:+ ws) := by
                  have h2 := HZ6.out.2.length_le
                  have h3 := HL.out.1
                  simp only [List.length_cons] at h3
                  exact ⟨by omega, (HZ6.out.2.trans (List.suffix_cons _ _)).trans HL.out.2⟩
                have HLT : Hid (v6.length < ws1.length + 1) := by have h2 := HZ6.out.2.length_le; show _ < _; omega
                by_cases hc6 : t6 = [41]
                · have hq6 : ((Lx.ba t6).toList == [41]) = true := by rw [ba_is, hc6]; rfl
                  have hq6' : ((Lx.ba t6).toList != [41]) = false := by rw [bne, hq6]; rfl
                  obtain ⟨d6, hd6⟩ : ∃ d6, (dc3 || ws3.isEmpty) = d6 := ⟨_, rfl⟩
                  have HFX : Hid (PF O (m1 - 1) (qs1.map (·.1) ++ [⟨x3, qe3.map (·.1)⟩]) v6 d6) := by
                    have hws : ws3.isEmpty = false := by
                      cases hw : ws3 with
                      | nil => have h := HX6.out; rw [hw] at h; simp only [nxt, Prod.mk.injEq] at h; rw [← h.1] at hc6; cases hc6
                      | cons a b => rfl
                    rw [hws, Bool.or_false] at hd6
                    obtain ⟨m', hm, _, hlm⟩ := HMM.out
                    refine ⟨fun h => ⟨?_, HNO0.out.2.2 (hd6.trans h) hc6⟩, fun h => HNO0.out.1 (hd6.trans h)⟩
                    have := HLT.out; omega
                  have HPr : Hid (Rpr w z w6 v6 d6 qe3 rc3 g1 c1 qs1) := HR.out.next HK6.out (by rw [← hd6]; exact HS6.out)
                  clear hc6 hd6
                  go_wp2_with fail
                  obtain ⟨gb, cb, bb, hBd, _⟩ := HPr.out.st.body
                  have HEx : Hid (ExsT w6 gb (qe3.map (·.1))) := hBd.exsT
                  have p0 := HPr.out.box.c0
                  have pf := HPr.out.box.frozen 0
                  have pl := HPr.out.box.lt
                  have zl := HPr.out.st.lt
                  have hlen : (qs1.length + 1) * 32 ≤ 140737488355328 := by have := HL.out.1; omega
                  have hbs : z + 2 ≤ w6.heap.size := by omega
                  obtain ⟨mb, hmb⟩ : ∃ mb, qe3.length = mb := ⟨_, rfl⟩
                  have HMB : Hid (qe3.length = mb) := hmb
                  rw [hmb] at bb
                  have HCS : Hid ((#[.int .i64 x3, .slice gb mb cb] : Array Value).toList = c2 ((⟨x3, qe3.map (·.1)⟩, gb, cb) : Dt)) := by
                    show _ = _
                    rw [← HMB.out]; simp [c2]
                  clear hBd hmb
                  go_wp2_with fail
                  go_region_law
                    (refine step_dfD rfl _ _ rfl (z + 2) (.slice g1 qs1.length c1) qs1 (⟨x3, qe3.map (·.1)⟩, gb, cb) _ HCS.out rfl w6.heap.size rfl rfl HPr.out.pd HEx.out hbs hlen ?_; intro v7 w7 hP7 hg7; obtain ⟨g7, k7, rfl⟩ := hP7.val; obtain ⟨hb7, hR7⟩ := Rpr.put HPr.out hP7 hg7; have y0 := hb7.c0; have y1 := hb7.frozen 0; have yl := hb7.lt; have HR7 : Hid _ := hR7; have hl7 : (qs1 ++ [((⟨x3, qe3.map (·.1)⟩, gb, cb) : Dt)]).length = qs1.length + 1 := (by rw [List.length_append]; rfl); rw [hl7] at HR7 ⊢; clear hP7 hg7 hb7 hR7 hl7)
                  all_goals
                    go_wp2_with fail
                    go_roundw
                    case rel => exact ⟨v6, d6, qe3, rc3, g7, k7, qs1 ++ [(⟨x3, qe3.map (·.1)⟩, gb, cb)], m1 - 1, HR7, by rw [List.map_append]; exact HFX, by show _ ∧ _; rw [List.length_append, List.length_singleton]; exact HLX.out⟩
                    case measure =>
                      rw [HR7.out.st.left, HLF.out]
                      exact HLT.out
                · have hq6 : ((Lx.ba t6).toList == [41]) = false := by rw [ba_is]; simpa using hc6
                  have hq6' : ((Lx.ba t6).toList != [41]) = true := by rw [bne, hq6]; rfl
                  have ff := HS6.out.flag
                  have fr := HS6.out.free 1
                  have HFX : Hid (PF O (m1 - 1) (qs1.map (·.1) ++ [⟨x3, qe3.map (·.1)⟩]) v6 true) := ⟨(fun h => by cases h), fun _ => HNO0.out.2.1 hc6⟩
                  have HPr : Hid (Rpr w z (w6.setCell ⟨z, 1, none⟩ (.bool true)) v6 true qe3 rc3 g1 c1 qs1) := HR.out.next (HK6.out.next (Kp.of_set _ _ _ _ _)) (HS6.out.setFlag true)
                  clear hc6
                  go_wp2_with fail
                  obtain ⟨wd, hwd⟩ : ∃ wd, w6.setCell ⟨z, 1, none⟩ (.bool true) = wd := ⟨_, rfl⟩
                  rw [hwd] at HPr ⊢
                  clear hwd ff fr
                  obtain ⟨gb, cb, bb, hBd, _⟩ := HPr.out.st.body
                  have HEx : Hid (ExsT wd gb (qe3.map (·.1))) := hBd.exsT
                  have p0 := HPr.out.box.c0
                  have pf := HPr.out.box.frozen 0
                  have pl := HPr.out.box.lt
                  have zl := HPr.out.st.lt
                  have hlen : (qs1.length + 1) * 32 ≤ 140737488355328 := by have := HL.out.1; omega
                  have hbs : z + 2 ≤ wd.heap.size := by omega
                  obtain ⟨mb, hmb⟩ : ∃ mb, qe3.length = mb := ⟨_, rfl⟩
                  have HMB : Hid (qe3.length = mb) := hmb
                  rw [hmb] at bb
                  have HCS : Hid ((#[.int .i64 x3, .slice gb mb cb] : Array Value).toList = c2 ((⟨x3, qe3.map (·.1)⟩, gb, cb) : Dt)) := by
                    show _ = _
                    rw [← HMB.out]; simp [c2]
                  clear hBd hmb
                  go_wp2_with fail
                  go_region_law
                    (refine step_dfD rfl _ _ rfl (z + 2) (.slice g1 qs1.length c1) qs1 (⟨x3, qe3.map (·.1)⟩, gb, cb) _ HCS.out rfl wd.heap.size rfl rfl HPr.out.pd HEx.out hbs hlen ?_; intro v7 w7 hP7 hg7; obtain ⟨g7, k7, rfl⟩ := hP7.val; obtain ⟨hb7, hR7⟩ := Rpr.put HPr.out hP7 hg7; have y0 := hb7.c0; have y1 := hb7.frozen 0; have yl := hb7.lt; have HR7 : Hid _ := hR7; have hl7 : (qs1 ++ [((⟨x3, qe3.map (·.1)⟩, gb, cb) : Dt)]).length = qs1.length + 1 := (by rw [List.length_append]; rfl); rw [hl7] at HR7 ⊢; clear hP7 hg7 hb7 hR7 hl7)
                  all_goals
                    go_wp2_with fail
                    go_roundw
                    case rel => exact ⟨v6, true, qe3, rc3, g7, k7, qs1 ++ [(⟨x3, qe3.map (·.1)⟩, gb, cb)], m1 - 1, HR7, by rw [List.map_append]; exact HFX, by show _ ∧ _; rw [List.length_append, List.length_singleton]; exact HLX.out⟩
                    case measure =>
                      rw [HR7.out.st.left, HLF.out]
                      exact HLT.out
              · have hq2 : ((Lx.ba t2).toList == [100, 101, 102]) = false := by rw [ba_is]; simpa using hc2
                have HNO : Hid (NoP O) := by
                  obtain ⟨m', rfl, hro, _⟩ := HMM.out
                  show NoP O
                  rw [← hro]
                  exact nod_nop (Or.inl (nod_1 (t1 := w1) (v1 := ws1) rfl HX2.out rfl (Or.inr hc2)))
                clear hc2
                obtain ⟨t4, v4, hx4⟩ : ∃ t v, nxt v2 = (t, v) := ⟨_, _, rfl⟩
                have HX4 : Hid (nxt v2 = (t4, v4)) := hx4
                have HZ4 : Hid (Sz v4 [] ∧ t4.length ≤ 4096 ∧ v4 <:+ v2 ∧ v4.length ≤ 2049) := by
                  have h1 := sfx_nxt v2
                  have h2 := nxt_len v2
                  have h3 : (nxt v2).1.length ≤ 4096 := by
                    cases hv : v2 with
                    | nil => simp [nxt]
                    | cons a b => exact HZ2.out.2 a (by rw [hv]; simp)
                  rw [hx4] at h1 h2 h3
                  dsimp only at h1 h2 h3
                  have h4 := HZ2.out.on (ps' := []) h1 (by omega)
                  have h5 := h1.length_le
                  have h6 := HLB.out v2 ((HV2.out.trans (List.suffix_cons _ _)).trans HL.out.2)
                  exact ⟨h4, h3, h1, by omega⟩
                clear hx4
                go_wp2_with fail
                refine (word_any z v2 (false || ws1.isEmpty) [] none w2' HS2.out (by have := HZ2.out.1; simp at this; omega) HX4.out).mono ?_
                rintro e wa4 ⟨rfl, hSa, hKa⟩
                have HSa4 : Hid (SR wa4 z v4 ((false || ws1.isEmpty) || v2.isEmpty) [] none) := hSa
                have HKa4 : Hid (Kp z none wr wa4) := HK2.out.next hKa
                clear hSa hKa
                go_wp2_with fail
                refine (whole_any z v4 ((false || ws1.isEmpty) || v2.isEmpty) [] none wa4 t4 3 HSa4.out HZ4.out.2.1 (by decide) (by decide)).mono ?_
                intro e wb4 hqb
                obtain ⟨x4, db4, rfl, hKb, hSb, hyb, hnb⟩ := hqb.flag
                have HSb4 : Hid (SR wb4 z v4 db4 [] none) := hSb
                have HKb4 : Hid (Kp z none wr wb4) := HKa4.out.next hKb
                have HFb4 : Hid ((db4 = false → ((false || ws1.isEmpty) || v2.isEmpty) = false ∧ lim 3 (dg t4) = some x4) ∧ (db4 = true → ((false || ws1.isEmpty) || v2.isEmpty) = true ∨ lim 3 (dg t4) = none)) := ⟨hyb, hnb⟩
                clear hqb hKb hSb hyb hnb
                go_wp2_with fail
                refine (expr_any 2049 v4 db4 [] none wb4 z HZ4.out.2.2.2 HZ4.out.1 HSb4.out).mono ?_
                rintro e wc4 ⟨ws4, dc4, qe4, rc4, xe4, rfl, hPc, hlc, hsc, hyc, hnc⟩
                have HSc4 : Hid (SR wc4 z ws4 dc4 qe4 rc4) := hPc.st
                have HKc4 : Hid (Kp z none wr wc4) := HKb4.out.next hPc.kp
                have HFc4 : Hid ((dc4 = false → db4 = false ∧ rp 2049 v4 [] = some (ws4, qe4.map (·.1))) ∧ (dc4 = true → db4 = true ∨ Fl (rp 2049 v4 [])) ∧ ws4 <:+ v4) := ⟨fun h => ⟨(hyc h).1, (hyc h).2.1⟩, hnc, hsc.trans (sfx_nxt _)⟩
                clear hPc hlc hsc hyc hnc
                have ff := HSc4.out.flag
                have fr := HSc4.out.free 1
                have HPr : Hid (Rpr w z (wc4.setCell ⟨z, 1, none⟩ (.bool true)) ws4 true qe4 rc4 g1 c1 qs1) := HR.out.next (HKc4.out.next (Kp.of_set _ _ _ _ _)) (HSc4.out.setFlag true)
                have HFX : Hid (PF O (m1 - 1) (qs1.map (·.1) ++ [⟨x4, qe4.map (·.1)⟩]) ws4 true) := ⟨(fun h => by cases h), fun _ => HNO.out⟩
                have HLX : Hid (qs1.length + 1 + ws4.length ≤ 2048 ∧ ws4 <:+ ws) := by
                  have h1 := (HFc4.out.2.2.trans HZ4.out.2.2.1).trans HV2.out
                  have h2 := h1.length_le
                  have h3 := HL.out.1
                  simp only [List.length_cons] at h3
                  exact ⟨by omega, (h1.trans (List.suffix_cons _ _)).trans HL.out.2⟩
                have HLT : Hid (ws4.length < ws1.length + 1) := by
                  have h1 := ((HFc4.out.2.2.trans HZ4.out.2.2.1).trans HV2.out).length_le
                  show _ < _; omega
                go_wp2_with fail
                obtain ⟨wd, hwd⟩ : ∃ wd, wc4.setCell ⟨z, 1, none⟩ (.bool true) = wd := ⟨_, rfl⟩
                rw [hwd] at HPr ⊢
                clear hwd ff fr
                obtain ⟨gb, cb, bb, hBd, _⟩ := HPr.out.st.body
                have HEx : Hid (ExsT wd gb (qe4.map (·.1))) := hBd.exsT
                have p0 := HPr.out.box.c0
                have pf := HPr.out.box.frozen 0
                have pl := HPr.out.box.lt
                have zl := HPr.out.st.lt
                have hlen : (qs1.length + 1) * 32 ≤ 140737488355328 := by have := HL.out.1; omega
                have hbs : z + 2 ≤ wd.heap.size := by omega
                obtain ⟨mb, hmb⟩ : ∃ mb, qe4.length = mb := ⟨_, rfl⟩
                have HMB : Hid (qe4.length = mb) := hmb
                rw [hmb] at bb
                have HCS : Hid ((#[.int .i64 x4, .slice gb mb cb] : Array Value).toList = c2 ((⟨x4, qe4.map (·.1)⟩, gb, cb) : Dt)) := by
                  show _ = _
                  rw [← HMB.out]; simp [c2]
                clear hBd hmb
                go_wp2_with fail
                go_region_law
                  (refine step_dfD rfl _ _ rfl (z + 2) (.slice g1 qs1.length c1) qs1 (⟨x4, qe4.map (·.1)⟩, gb, cb) _ HCS.out rfl wd.heap.size rfl rfl HPr.out.pd HEx.out hbs hlen ?_; intro v7 w7 hP7 hg7; obtain ⟨g7, k7, rfl⟩ := hP7.val; obtain ⟨hb7, hR7⟩ := Rpr.put HPr.out hP7 hg7; have y0 := hb7.c0; have y1 := hb7.frozen 0; have yl := hb7.lt; have HR7 : Hid _ := hR7; have hl7 : (qs1 ++ [((⟨x4, qe4.map (·.1)⟩, gb, cb) : Dt)]).length = qs1.length + 1 := (by rw [List.length_append]; rfl); rw [hl7] at HR7 ⊢; clear hP7 hg7 hb7 hR7 hl7)
                all_goals
                  go_wp2_with fail
                  go_roundw
                  case rel => exact ⟨ws4, true, qe4, rc4, g7, k7, qs1 ++ [(⟨x4, qe4.map (·.1)⟩, gb, cb)], m1 - 1, HR7, by rw [List.map_append]; exact HFX, by show _ ∧ _; rw [List.length_append, List.length_singleton]; exact HLX.out⟩
                  case measure =>
                    rw [HR7.out.st.left, HLF.out]
                    exact HLT.out
            · have hq1 : ((Lx.ba w1).toList == [40]) = false := by rw [ba_is]; simpa using hc1
              have HNO : Hid (NoP O) := by
                obtain ⟨m', rfl, hro, _⟩ := HMM.out
                show NoP O
                rw [← hro]
                exact nod_nop (Or.inl (nod_1 (t1 := w1) (v1 := ws1) rfl rfl rfl (Or.inl hc1)))
              clear hc1
              obtain ⟨t5, v5, hx5⟩ : ∃ t v, nxt ws1 = (t, v) := ⟨_, _, rfl⟩
              have HX5 : Hid (nxt ws1 = (t5, v5)) := hx5
              have HZ5 : Hid (Sz v5 [] ∧ t5.length ≤ 4096 ∧ v5 <:+ ws1 ∧ v5.length ≤ 2049) := by
                have h1 := sfx_nxt ws1
                have h2 := nxt_len ws1
                have h3 : (nxt ws1).1.length ≤ 4096 := by
                  cases hv : ws1 with
                  | nil => simp [nxt]
                  | cons a b => exact HZ1.out.2 a (by rw [hv]; simp)
                rw [hx5] at h1 h2 h3
                dsimp only at h1 h2 h3
                have h4 := HZ1.out.on (ps' := []) h1 (by omega)
                have h5 := h1.length_le
                have h6 := HLB.out ws1 ((List.suffix_cons _ _).trans HL.out.2)
                exact ⟨h4, h3, h1, by omega⟩
              clear hx5
              go_wp2_with fail
              refine (word_any z ws1 false [] none w1' HS1.out (by have := HZ1.out.1; simp at this; omega) HX5.out).mono ?_
              rintro e wa5 ⟨rfl, hSa, hKa⟩
              have HSa5 : Hid (SR wa5 z v5 (false || ws1.isEmpty) [] none) := hSa
              have HKa5 : Hid (Kp z none wr wa5) := HK1.out.next hKa
              clear hSa hKa
              go_wp2_with fail
              refine (whole_any z v5 (false || ws1.isEmpty) [] none wa5 t5 3 HSa5.out HZ5.out.2.1 (by decide) (by decide)).mono ?_
              intro e wb5 hqb
              obtain ⟨x5, db5, rfl, hKb, hSb, hyb, hnb⟩ := hqb.flag
              have HSb5 : Hid (SR wb5 z v5 db5 [] none) := hSb
              have HKb5 : Hid (Kp z none wr wb5) := HKa5.out.next hKb
              have HFb5 : Hid ((db5 = false → (false || ws1.isEmpty) = false ∧ lim 3 (dg t5) = some x5) ∧ (db5 = true → (false || ws1.isEmpty) = true ∨ lim 3 (dg t5) = none)) := ⟨hyb, hnb⟩
              clear hqb hKb hSb hyb hnb
              go_wp2_with fail
              refine (expr_any 2049 v5 db5 [] none wb5 z HZ5.out.2.2.2 HZ5.out.1 HSb5.out).mono ?_
              rintro e wc5 ⟨ws5, dc5, qe5, rc5, xe5, rfl, hPc, hlc, hsc, hyc, hnc⟩
              have HSc5 : Hid (SR wc5 z ws5 dc5 qe5 rc5) := hPc.st
              have HKc5 : Hid (Kp z none wr wc5) := HKb5.out.next hPc.kp
              have HFc5 : Hid ((dc5 = false → db5 = false ∧ rp 2049 v5 [] = some (ws5, qe5.map (·.1))) ∧ (dc5 = true → db5 = true ∨ Fl (rp 2049 v5 [])) ∧ ws5 <:+ v5) := ⟨fun h => ⟨(hyc h).1, (hyc h).2.1⟩, hnc, hsc.trans (sfx_nxt _)⟩
              clear hPc hlc hsc hyc hnc
              have ff := HSc5.out.flag
              have fr := HSc5.out.free 1
              have HPr : Hid (Rpr w z (wc5.setCell ⟨z, 1, none⟩ (.bool true)) ws5 true qe5 rc5 g1 c1 qs1) := HR.out.next (HKc5.out.next (Kp.of_set _ _ _ _ _)) (HSc5.out.setFlag true)
              have HFX : Hid (PF O (m1 - 1) (qs1.map (·.1) ++ [⟨x5, qe5.map (·.1)⟩]) ws5 true) := ⟨(fun h => by cases h), fun _ => HNO.out⟩
              have HLX : Hid (qs1.length + 1 + ws5.length ≤ 2048 ∧ ws5 <:+ ws) := by
                have h1 := (HFc5.out.2.2.trans HZ5.out.2.2.1).trans (List.suffix_refl ws1)
                have h2 := h1.length_le
                have h3 := HL.out.1
                simp only [List.length_cons] at h3
                exact ⟨by omega, (h1.trans (List.suffix_cons _ _)).trans HL.out.2⟩
              have HLT : Hid (ws5.length < ws1.length + 1) := by
                have h1 := ((HFc5.out.2.2.trans HZ5.out.2.2.1).trans (List.suffix_refl ws1)).length_le
                show _ < _; omega
              go_wp2_with fail
              obtain ⟨wd, hwd⟩ : ∃ wd, wc5.setCell ⟨z, 1, none⟩ (.bool true) = wd := ⟨_, rfl⟩
              rw [hwd] at HPr ⊢
              clear hwd ff fr
              obtain ⟨gb, cb, bb, hBd, _⟩ := HPr.out.st.body
              have HEx : Hid (ExsT wd gb (qe5.map (·.1))) := hBd.exsT
              have p0 := HPr.out.box.c0
              have pf := HPr.out.box.frozen 0
              have pl := HPr.out.box.lt
              have zl := HPr.out.st.lt
              have hlen : (qs1.length + 1) * 32 ≤ 140737488355328 := by have := HL.out.1; omega
              have hbs : z + 2 ≤ wd.heap.size := by omega
              obtain ⟨mb, hmb⟩ : ∃ mb, qe5.length = mb := ⟨_, rfl⟩
              have HMB : Hid (qe5.length = mb) := hmb
              rw [hmb] at bb
              have HCS : Hid ((#[.int .i64 x5, .slice gb mb cb] : Array Value).toList = c2 ((⟨x5, qe5.map (·.1)⟩, gb, cb) : Dt)) := by
                show _ = _
                rw [← HMB.out]; simp [c2]
              clear hBd hmb
              go_wp2_with fail
              go_region_law
                (refine step_dfD rfl _ _ rfl (z + 2) (.slice g1 qs1.length c1) qs1 (⟨x5, qe5.map (·.1)⟩, gb, cb) _ HCS.out rfl wd.heap.size rfl rfl HPr.out.pd HEx.out hbs hlen ?_; intro v7 w7 hP7 hg7; obtain ⟨g7, k7, rfl⟩ := hP7.val; obtain ⟨hb7, hR7⟩ := Rpr.put HPr.out hP7 hg7; have y0 := hb7.c0; have y1 := hb7.frozen 0; have yl := hb7.lt; have HR7 : Hid _ := hR7; have hl7 : (qs1 ++ [((⟨x5, qe5.map (·.1)⟩, gb, cb) : Dt)]).length = qs1.length + 1 := (by rw [List.length_append]; rfl); rw [hl7] at HR7 ⊢; clear hP7 hg7 hb7 hR7 hl7)
              all_goals
                go_wp2_with fail
                go_roundw
                case rel => exact ⟨ws5, true, qe5, rc5, g7, k7, qs1 ++ [(⟨x5, qe5.map (·.1)⟩, gb, cb)], m1 - 1, HR7, by rw [List.map_append]; exact HFX, by show _ ∧ _; rw [List.length_append, List.length_singleton]; exact HLX.out⟩
                case measure =>
                  rw [HR7.out.st.left, HLF.out]
                  exact HLT.out
end Go.Proofs.YtjamknejllbmkaaGreatDoor
