/- What the reference's reader hands back, said for each depth; what its digits mean there; its smallest contracts. · The contract of the reference's term, one level deeper, out of its parts'. · The reference's term at a constructor; and the whole step. · The contract of the reference's parts out of its term's. · The contracts of the reference's Cut and TermMay: they hand back what package term's do. · The contract of the references' Decimal, at the numbers that may be. -/
import Derived.Test.YtjamknejllbmkaaGreatDoorMTerm
import Derived.Deep.AppendLies
import Derived.Deep.RegionLaw
import Derived.Laws.AppendOwnNone
import Derived.Laws.IdiomStrings

namespace Go.Proofs.YtjamknejllbmkaaGreatDoor.Tm
open Go.RowKit
set_option linter.unusedVariables false

/-- A digit or a sign stands there. -/
def NcAt (s : ByteArray) (n : Nat) : Prop := ∃ c, s.data.toList[n]? = some c ∧ isNC c = true

/-- What the reference's reader hands back. -/
def GotR (s : ByteArray) (a B : Nat) (w : World) (o : Option Rd) (k x : Int) (v : Value) (to : Int) : Prop :=
  match o with
  | none => to = -1 ∨ ∃ n : Nat, to = (n : Int) ∧ a ≤ n ∧ NcAt s n
  | some (k', x', ks, n) => k = k' ∧ x = x' ∧ to = (a : Int) + (n : Int) ∧ w.ownsRow B 9 1 v ks.length (ks.map S)
def GotRP (s : ByteArray) (a B : Nat) (w : World) (o : Option (List (List UInt8) × Nat)) (k0 x0 k x : Int) (v : Value) (to : Int) : Prop :=
  match o with
  | none => to = -1
  | some (ks, n) => k = k0 ∧ x = x0 ∧ to = (a : Int) + (n : Int) ∧ w.ownsRow B 9 1 v ks.length (ks.map S)

def RTermSaid (f : Nat) : Prop := ∀ (s : ByteArray) (i : Int) (a : Nat) (w : World), i = (a : Int) → a ≤ s.size → s.size ≤ 1024 → s.size - a < f →
  Calls Tryz.prog 55 #[.string s, .int .i64 i] w fun e w' => ∃ k x v to, e = .returned (.agg #[.int .i64 k, .int .i64 x, v, .int .i64 to]) ∧
    Below w.heap.size w w' ∧ (∃ g n c, v = .slice g n c) ∧ GotR s a w.heap.size w' (T f (fr s a)) k x v to
def RPartsSaid (f : Nat) : Prop := ∀ (s : ByteArray) (i : Int) (a : Nat) (k0 x0 t0 : Int) (w : World), i = (a : Int) → a ≤ s.size → s.size ≤ 1024 → s.size - a < f →
  Calls Tryz.prog 77 #[.string s, .agg #[.int .i64 k0, .int .i64 x0, .slice none 0 0, .int .i64 t0], .int .i64 i] w fun e w' => ∃ k x v to, e = .returned (.agg #[.int .i64 k, .int .i64 x, v, .int .i64 to]) ∧
    Below w.heap.size w w' ∧ (∃ g n c, v = .slice g n c) ∧ GotRP s a w.heap.size w' (Tp (T f) 3 (fr s a)) k0 x0 k x v to

theorem fr_run (s : ByteArray) (a : Nat) : numPart (fr s a) = run s a := rfl
theorem tag_of {x : Nat} (h : x ≤ 99) : tagB (x : Int) = true := by unfold tagB; simp only [Bool.and_eq_true, decide_eq_true_eq]; omega
theorem tag_not {v : Int} (h : v < 0 ∨ 99 < v) : tagB v = false := by unfold tagB; simp only [Bool.and_eq_false_iff, decide_eq_false_iff_not]; omega
theorem may_range {v : Int} (h : mayB v = true) : -32768 ≤ v ∧ v ≤ 32767 := by unfold mayB at h; simpa using h
theorem may_out {v : Int} (h : mayB v = false) : v < -32768 ∨ 32767 < v := by unfold mayB at h; simp only [Bool.and_eq_false_iff, decide_eq_false_iff_not] at h; omega
theorem may_not {v : Int} (h : v < -32768 ∨ 32767 < v) : mayB v = false := by unfold mayB; simp only [Bool.and_eq_false_iff, decide_eq_false_iff_not]; omega

theorem r_con_bad {f : Nat} {s : ByteArray} {a x k : Nat} (h : DigQ (fr s (a + 1)) x k) (hb : k = 0 ∨ 99 < x) : conT (T f) (fr s (a + 1)) = none := by
  refine con_eq_none f s a (fun v hv => ?_)
  rw [← fr_run] at hv
  by_cases hk : k = 0
  · subst hk; exact tag_not (Or.inl (dig_none h v hv))
  · have := dig_least h hk v hv
    exact tag_not (Or.inr (by omega))
theorem r_con_ok {f : Nat} {s : ByteArray} {a x k : Nat} (h : DigQ (fr s (a + 1)) x k) (hk : k ≠ 0) (hx : x ≤ 99) :
    ((run s (a + 1)).length = k ∧ canon (run s (a + 1)) = some (x : Int)) ∨ (conT (T f) (fr s (a + 1)) = none ∧ NcAt s (a + 1 + k)) := by
  rcases dig_small h hk (by omega) with ⟨h1, h2⟩ | ⟨h1, c, h2, h3⟩
  · exact Or.inl ⟨h1, h2⟩
  · refine Or.inr ⟨con_eq_none f s a (fun v hv => ?_), c, by rw [← fr_at]; exact h2, h3⟩
    rw [← fr_run, h1] at hv; cases hv

theorem num_none_of {s : ByteArray} {a : Nat} (h : ∀ v, canon (run s a) = some v → mayB v = false) : numT (fr s a) = none := num_is_none s a h

theorem fr_minus {s : ByteArray} {a : Nat} (h : s.data.toList[a]? = some 45) : fr s a = 45 :: fr s (a + 1) := by
  unfold fr
  have hlt := lt_of_at h
  rw [List.drop_eq_getElem_cons hlt]
  congr 1
  rw [List.getElem?_eq_getElem hlt] at h
  exact Option.some.inj h

theorem r_minus_bad {s : ByteArray} {a x k : Nat} (h0 : s.data.toList[a]? = some 45) (h : DigQ (fr s (a + 1)) x k) (hb : k = 0 ∨ x = 0 ∨ mayB (-(x : Int)) = false) : numT (fr s a) = none := by
  refine num_none_of (fun v hv => ?_)
  rw [← fr_run, fr_minus h0] at hv
  by_cases hk : k = 0
  · subst hk; rw [minus_none h] at hv; cases hv
  · obtain ⟨m1, m2⟩ := minus_some h hk
    by_cases hx : x = 0
    · rw [m1 hx] at hv; cases hv
    · rcases hb with e | e | e
      · exact absurd e hk
      · exact absurd e hx
      · rw [m2 hx] at hv
        cases hc : canon (numPart (fr s (a + 1))) with
        | none => rw [hc] at hv; cases hv
        | some u =>
          rw [hc] at hv
          have e2 : -u = v := Option.some.inj hv
          have := dig_least h hk u hc
          have := may_out e
          exact may_not (by omega)
theorem r_minus_ok {s : ByteArray} {a x k : Nat} (h0 : s.data.toList[a]? = some 45) (h : DigQ (fr s (a + 1)) x k) (hk : k ≠ 0) (hx : x ≠ 0) (hm : mayB (-(x : Int)) = true) :
    numT (fr s a) = some (1, -(x : Int), [], 1 + k) ∨ (numT (fr s a) = none ∧ NcAt s (a + 1 + k)) := by
  have hr := may_range hm
  have hcs := (minus_some h hk).2 hx
  rcases dig_small h hk (by omega) with ⟨h1, h2⟩ | ⟨h1, c, h2, h3⟩
  · left
    rw [h2] at hcs
    unfold numT
    rw [fr_minus h0, hcs]
    simp only [Option.map_some]
    rw [if_pos hm, minus_part, List.length_cons, h1, Nat.add_comm]
  · right
    rw [h1] at hcs
    refine ⟨?_, c, by rw [← fr_at]; exact h2, h3⟩
    unfold numT; rw [fr_minus h0, hcs]; rfl

theorem r_num_bad {s : ByteArray} {a x k : Nat} (h0 : s.data.toList[a]? ≠ some 45) (h : DigQ (fr s a) x k) (hb : k = 0 ∨ mayB (x : Int) = false) : numT (fr s a) = none := by
  refine num_none_of (fun v hv => ?_)
  rw [← fr_run] at hv
  by_cases hk : k = 0
  · subst hk
    have hneg := dig_none h v hv
    exfalso
    cases hl : fr s a with
    | nil => rw [hl] at hv; cases hv
    | cons c l' =>
      have hc : c ≠ 45 := by
        intro e
        refine h0 ?_
        rw [← fr_zero, hl, e]; rfl
      rw [hl] at hv
      by_cases hn : isNC c = true
      · have hdg : isDg c = true := by
          unfold isNC at hn; unfold isDg
          simp only [Bool.or_eq_true, beq_iff_eq] at hn
          rcases hn with e | e
          · exact absurd e hc
          · exact e
        unfold numPart at hv
        rw [List.takeWhile_cons, if_pos hn] at hv
        obtain ⟨m, rfl, _⟩ := canon_dg hdg hv
        omega
      · unfold numPart at hv
        rw [List.takeWhile_cons, if_neg hn] at hv; cases hv
  · rcases hb with e | e
    · exact absurd e hk
    · have := dig_least h hk v hv
      have := may_out e
      exact may_not (by omega)
theorem r_num_ok {s : ByteArray} {a x k : Nat} (h : DigQ (fr s a) x k) (hk : k ≠ 0) (hm : mayB (x : Int) = true) :
    numT (fr s a) = some (1, (x : Int), [], k) ∨ (numT (fr s a) = none ∧ NcAt s (a + k)) := by
  have hr := may_range hm
  rcases dig_small h hk (by omega) with ⟨h1, h2⟩ | ⟨h1, c, h2, h3⟩
  · left
    unfold numT; rw [h2]; simp only; rw [if_pos hm, h1]
  · right
    refine ⟨?_, c, by rw [← fr_at]; exact h2, h3⟩
    unfold numT; rw [h1]

/-- From a least to a most? -/
def uptoB (x l m : Int) : Bool := decide (l ≤ x) && decide (x ≤ m)
set_option maxHeartbeats 400000 in
theorem upto_any (x l m : Int) (w : World) :
    Calls Tryz.prog 37 #[.int .i64 x, .int .i64 l, .int .i64 m] w fun e w' => e = .returned (.bool (uptoB x l m)) ∧ w = w' := by
  by_cases h1 : l ≤ x
  · have e : uptoB x l m = decide (x ≤ m) := by unfold uptoB; simp [h1]
    rw [e]; clear e
    go_enter Tryz.func37, Tryz.ntmps37
    go_wp2
    go_ret
    exact ⟨rfl, rfl⟩
  · have e : uptoB x l m = false := by unfold uptoB; simp [h1]
    rw [e]; clear e
    go_enter Tryz.func37, Tryz.ntmps37
    go_wp2
    go_ret
    exact ⟨rfl, rfl⟩
theorem upto_may (x : Int) : uptoB x (-32768) 32767 = mayB x := rfl
set_option maxHeartbeats 400000 in
theorem nummay_any (x : Int) (w : World) :
    Calls Tryz.prog 74 #[.int .i64 x] w fun e w' => e = .returned (.bool (mayB x)) ∧ w = w' := by
  rw [← upto_may x]
  go_enter Tryz.func74, Tryz.ntmps74
  go_wp2_with (go_at_call 37; refine (upto_any _ _ _ _).mono ?_; rintro e w' ⟨rfl, rfl⟩)
  go_ret
  exact ⟨rfl, rfl⟩
set_option maxHeartbeats 400000 in
theorem bad_any (w : World) :
    Calls Tryz.prog 76 #[] w fun e w' => e = .returned (.agg #[.int .i64 0, .int .i64 0, .slice none 0 0, .int .i64 (-1)]) ∧ Below w.heap.size w w' := by
  go_enter Tryz.func76, Tryz.ntmps76
  go_wp2_with fail
  exact bodyPost_ret (v := .agg #[.int .i64 0, .int .i64 0, .slice none 0 0, .int .i64 (-1)]) (by simp [results, Tryz.results76, go_sem]) rfl ⟨rfl, (Below.refl _ _).alloc (Nat.le_refl _) _⟩
theorem digits_at (s : ByteArray) (a : Nat) (w : World) (hs : s.size ≤ 1024) :
    Calls Tryz.prog 49 #[.string (s.extract a s.size)] w fun e w' => ∃ x k : Nat, e = .returned (.tuple #[.int .i64 (x : Int), .int .i64 (k : Int)]) ∧ w = w' ∧ DigQ (fr s a) x k := by
  refine (digits_any (s.extract a s.size) w ?_).mono ?_
  · rw [ByteArray.size_extract]; omega
  rintro e w' ⟨x, k, rfl, hw, hq⟩
  refine ⟨x, k, rfl, hw, ?_⟩
  rw [Lib.extract_data, List.take_of_length_le (by rw [List.length_drop]; simp)] at hq
  exact hq
end Go.Proofs.YtjamknejllbmkaaGreatDoor.Tm

namespace Go.Proofs.YtjamknejllbmkaaGreatDoor.Tm
open Go.RowKit
set_option linter.unusedVariables false

theorem at_lt {s : ByteArray} {a : Nat} (h : a < s.size) : s.data.toList[a]? = some s[a] := by
  rw [List.getElem?_eq_getElem (by simpa using h)]; rfl
theorem byte_is {c : UInt8} {n : Nat} (hn : n < 256) (h : (c.toNat : Int) = (n : Int)) : c = UInt8.ofNat n := by
  apply UInt8.toNat_inj.1
  simp; omega
theorem byte_no {s : ByteArray} {a : Nat} (h : a < s.size) (c : UInt8) (hc : ((s[a].toNat : Int) == (c.toNat : Int)) = false) : s.data.toList[a]? ≠ some c := by
  rw [at_lt h]
  intro e
  have e := Option.some.inj e
  rw [e] at hc; simp at hc
theorem byte_yes {s : ByteArray} {a : Nat} (h : a < s.size) (c : UInt8) (hc : ((s[a].toNat : Int) == (c.toNat : Int)) = true) : s.data.toList[a]? = some c := by
  rw [at_lt h]
  congr 1
  apply UInt8.toNat_inj.1
  have := beq_iff_eq.1 hc
  omega

/-- Nothing is read: the answer is -1. -/
theorem gotr_bad {s : ByteArray} {a B : Nat} {w : World} {o : Option Rd} {k x : Int} {v : Value} (h : o = none) : GotR s a B w o k x v (-1) := by subst h; exact Or.inl rfl

theorem nc_byte {s : ByteArray} {n : Nat} (h : NcAt s n) : ∃ hlt : n < s.size, isNC s[n] = true := by
  obtain ⟨c, hc, hn⟩ := h
  have hlt : n < s.size := by have := lt_of_at hc; simpa using this
  refine ⟨hlt, ?_⟩
  rw [at_lt hlt] at hc
  rw [Option.some.inj hc]; exact hn

set_option maxHeartbeats 1600000 in
set_option maxRecDepth 100000 in
theorem rterm_end (f : Nat) (s : ByteArray) (a : Nat) (w : World) (ha : a ≤ s.size) (hge : s.size ≤ a) (hs : s.size ≤ 1024) :
    Calls Tryz.prog 55 #[.string s, .int .i64 (a : Int)] w fun e w' => ∃ k x v to, e = .returned (.agg #[.int .i64 k, .int .i64 x, v, .int .i64 to]) ∧
      Below w.heap.size w w' ∧ (∃ g n c, v = .slice g n c) ∧ GotR s a w.heap.size w' (T (f + 1) (fr s a)) k x v to := by
  have hge' : (s.size : Int) ≤ (a : Int) := by omega
  have HN : Hid (T (f + 1) (fr s a) = none) := by
    show T (f + 1) (fr s a) = none
    have e : s.data.toList[a]? = none := List.getElem?_eq_none (by simpa using hge)
    rw [T_is_num f s a (by rw [e]; simp) (by rw [e]; simp) (by rw [e]; simp)]
    have e2 : fr s a = [] := by unfold fr; exact List.drop_of_length_le (by simpa using hge)
    rw [e2]; rfl
  go_enter Tryz.func55, Tryz.ntmps55
  go_wp2_with fail
  refine (bad_any _).mono ?_
  rintro e w2 ⟨rfl, hb2⟩
  obtain ⟨hc, hfz⟩ := bcell hb2
  have hz : w.heap.size < w2.heap.size := by have := hb2.size; simp at this; omega
  have h02 : Below w.heap.size w w2 := ((Below.refl _ _).alloc (Nat.le_refl _) _).trans (hb2.mono (by simp))
  go_wp2_with fail
  refine bodyPost_ret (v := .agg #[.int .i64 0, .int .i64 0, .slice none 0 0, .int .i64 (-1)]) (by simp [results, Tryz.results55, go_sem, hc]) rfl ⟨0, 0, _, _, rfl, ?_, ⟨_, _, _, rfl⟩, ?_⟩
  · exact (((h02.setCell (Nat.le_refl _) _).setCell (Nat.le_refl _) _).setCell (Nat.le_refl _) _).setCell (Nat.le_refl _) _
  · exact gotr_bad HN.out

set_option maxHeartbeats 1600000 in
set_option maxRecDepth 100000 in
theorem rterm_num (f : Nat) (s : ByteArray) (a : Nat) (w : World) (hlt : a < s.size) (hs : s.size ≤ 1024) (h95 : ((s[a].toNat : Int) == 95) = false) (h33 : ((s[a].toNat : Int) == 33) = false) (h64 : ((s[a].toNat : Int) == 64) = false) (h45 : ((s[a].toNat : Int) == 45) = false) :
    Calls Tryz.prog 55 #[.string s, .int .i64 (a : Int)] w fun e w' => ∃ k x v to, e = .returned (.agg #[.int .i64 k, .int .i64 x, v, .int .i64 to]) ∧
      Below w.heap.size w w' ∧ (∃ g n c, v = .slice g n c) ∧ GotR s a w.heap.size w' (T (f + 1) (fr s a)) k x v to := by
  have HT : Hid (T (f + 1) (fr s a) = numT (fr s a)) := T_is_num f s a (byte_no hlt 95 h95) (byte_no hlt 33 h33) (byte_no hlt 64 h64)
  have c45 : Hid (s.data.toList[a]? ≠ some 45) := byte_no hlt 45 h45
  have hlt' : (a : Int) < (s.size : Int) := by omega
  go_enter Tryz.func55, Tryz.ntmps55
  go_wp2_with fail
  refine (digits_at s a _ hs).mono ?_
  rintro e w' ⟨x, k, rfl, rfl, hq⟩
  have HQ : Hid (DigQ (fr s a) x k) := hq
  have hk1 := hq.1
  rw [fr_len] at hk1
  have hk6 := hq.2.1
  have hxb : x < 1000000 := by
    have h1 := Lib.decFrom_lt _ 0 x hq.2.2.1
    have h2 : ((fr s a).take k).length ≤ 6 := by rw [List.length_take]; omega
    have h3 := Nat.pow_le_pow_right (n := 10) (by decide) h2
    have e : (10 : Nat) ^ 6 = 1000000 := by decide
    omega
  clear hq
  by_cases hk : k = 0
  · have hkb : ((k : Int) == 0) = true := by simp [hk]
    have HN : Hid (T (f + 1) (fr s a) = none) := HT.out.trans (r_num_bad c45.out HQ.out (Or.inl hk))
    clear hk
    go_wp2_with fail
    refine (bad_any _).mono ?_
    rintro e w2 ⟨rfl, hb2⟩
    obtain ⟨hc, hfz⟩ := bcell hb2
    have hz : w.heap.size < w2.heap.size := by have := hb2.size; simp at this; omega
    have h02 : Below w.heap.size w w2 := ((Below.refl _ _).alloc (Nat.le_refl _) _).trans (hb2.mono (by simp))
    go_wp2_with fail
    refine bodyPost_ret (v := .agg #[.int .i64 0, .int .i64 0, .slice none 0 0, .int .i64 (-1)]) (by simp [results, Tryz.results55, go_sem, hc]) rfl ⟨0, 0, _, _, rfl, ?_, ⟨_, _, _, rfl⟩, ?_⟩
    · exact (((h02.setCell (Nat.le_refl _) _).setCell (Nat.le_refl _) _).setCell (Nat.le_refl _) _).setCell (Nat.le_refl _) _
    · exact gotr_bad HN.out
  · have hkb : ((k : Int) == 0) = false := by simp; exact hk
    cases hm : mayB (x : Int) with
    | false =>
      have HN : Hid (T (f + 1) (fr s a) = none) := HT.out.trans (r_num_bad c45.out HQ.out (Or.inr hm))
      clear hk
      go_wp2_with (go_at_call 74; refine (nummay_any _ _).mono ?_; rintro e w' ⟨rfl, rfl⟩)
      refine (bad_any _).mono ?_
      rintro e w2 ⟨rfl, hb2⟩
      obtain ⟨hc, hfz⟩ := bcell hb2
      have hz : w.heap.size < w2.heap.size := by have := hb2.size; simp at this; omega
      have h02 : Below w.heap.size w w2 := ((Below.refl _ _).alloc (Nat.le_refl _) _).trans (hb2.mono (by simp))
      go_wp2_with fail
      refine bodyPost_ret (v := .agg #[.int .i64 0, .int .i64 0, .slice none 0 0, .int .i64 (-1)]) (by simp [results, Tryz.results55, go_sem, hc]) rfl ⟨0, 0, _, _, rfl, ?_, ⟨_, _, _, rfl⟩, ?_⟩
      · exact (((h02.setCell (Nat.le_refl _) _).setCell (Nat.le_refl _) _).setCell (Nat.le_refl _) _).setCell (Nat.le_refl _) _
      · exact gotr_bad HN.out
    | true =>
      have HK : Hid _ := r_num_ok HQ.out hk hm
      clear hk
      go_wp2_with (go_at_call 74; refine (nummay_any _ _).mono ?_; rintro e w' ⟨rfl, rfl⟩)
      refine bodyPost_ret (v := .agg #[.int .i64 1, .int .i64 (x : Int), .slice none 0 0, .int .i64 ((a : Int) + (k : Int))]) (by simp [results, Tryz.results55, go_sem]) rfl ⟨1, (x : Int), _, _, rfl, ?_, ⟨_, _, _, rfl⟩, ?_⟩
      · exact (Below.refl _ _).alloc (Nat.le_refl _) _
      · rw [HT.out]
        rcases HK.out with e | ⟨e, hn⟩
        · rw [e]; exact ⟨rfl, rfl, rfl, World.ownsRow_nil _ _ _ _⟩
        · rw [e]; exact Or.inr ⟨a + k, by omega, by omega, hn⟩

set_option maxHeartbeats 1600000 in
set_option maxRecDepth 100000 in
theorem rterm_minus (f : Nat) (s : ByteArray) (a : Nat) (w : World) (hlt : a < s.size) (hs : s.size ≤ 1024) (h95 : ((s[a].toNat : Int) == 95) = false) (h33 : ((s[a].toNat : Int) == 33) = false) (h64 : ((s[a].toNat : Int) == 64) = false) (h45 : ((s[a].toNat : Int) == 45) = true) :
    Calls Tryz.prog 55 #[.string s, .int .i64 (a : Int)] w fun e w' => ∃ k x v to, e = .returned (.agg #[.int .i64 k, .int .i64 x, v, .int .i64 to]) ∧
      Below w.heap.size w w' ∧ (∃ g n c, v = .slice g n c) ∧ GotR s a w.heap.size w' (T (f + 1) (fr s a)) k x v to := by
  have HT : Hid (T (f + 1) (fr s a) = numT (fr s a)) := T_is_num f s a (byte_no hlt 95 h95) (byte_no hlt 33 h33) (byte_no hlt 64 h64)
  have c45 : Hid (s.data.toList[a]? = some 45) := byte_yes hlt 45 h45
  have hlt' : (a : Int) + 1 ≤ (s.size : Int) := by omega
  go_enter Tryz.func55, Tryz.ntmps55
  go_wp2_with fail
  refine (digits_at s (a + 1) _ hs).mono ?_
  rintro e w' ⟨x, k, rfl, rfl, hq⟩
  have HQ : Hid (DigQ (fr s (a + 1)) x k) := hq
  have hk1 := hq.1
  rw [fr_len] at hk1
  have hk6 := hq.2.1
  have hxb : x < 1000000 := by
    have h1 := Lib.decFrom_lt _ 0 x hq.2.2.1
    have h2 : ((fr s (a + 1)).take k).length ≤ 6 := by rw [List.length_take]; omega
    have h3 := Nat.pow_le_pow_right (n := 10) (by decide) h2
    have e : (10 : Nat) ^ 6 = 1000000 := by decide
    omega
  clear hq
  by_cases hk : k = 0
  · have hkb : ((k : Int) == 0) = true := by simp [hk]
    have HN : Hid (T (f + 1) (fr s a) = none) := HT.out.trans (r_minus_bad c45.out HQ.out (Or.inl hk))
    clear hk
    go_wp2_with fail
    refine (bad_any _).mono ?_
    rintro e w2 ⟨rfl, hb2⟩
    obtain ⟨hc, hfz⟩ := bcell hb2
    have hz : w.heap.size < w2.heap.size := by have := hb2.size; simp at this; omega
    have h02 : Below w.heap.size w w2 := ((Below.refl _ _).alloc (Nat.le_refl _) _).trans (hb2.mono (by simp))
    go_wp2_with fail
    refine bodyPost_ret (v := .agg #[.int .i64 0, .int .i64 0, .slice none 0 0, .int .i64 (-1)]) (by simp [results, Tryz.results55, go_sem, hc]) rfl ⟨0, 0, _, _, rfl, ?_, ⟨_, _, _, rfl⟩, ?_⟩
    · exact (((h02.setCell (Nat.le_refl _) _).setCell (Nat.le_refl _) _).setCell (Nat.le_refl _) _).setCell (Nat.le_refl _) _
    · exact gotr_bad HN.out
  · have hkb : ((k : Int) == 0) = false := by simp; exact hk
    by_cases hx : x = 0
    · have hxb0 : ((x : Int) == 0) = true := by simp [hx]
      have HN : Hid (T (f + 1) (fr s a) = none) := HT.out.trans (r_minus_bad c45.out HQ.out (Or.inr (Or.inl hx)))
      clear hk hx
      go_wp2_with fail
      refine (bad_any _).mono ?_
      rintro e w2 ⟨rfl, hb2⟩
      obtain ⟨hc, hfz⟩ := bcell hb2
      have hz : w.heap.size < w2.heap.size := by have := hb2.size; simp at this; omega
      have h02 : Below w.heap.size w w2 := ((Below.refl _ _).alloc (Nat.le_refl _) _).trans (hb2.mono (by simp))
      go_wp2_with fail
      refine bodyPost_ret (v := .agg #[.int .i64 0, .int .i64 0, .slice none 0 0, .int .i64 (-1)]) (by simp [results, Tryz.results55, go_sem, hc]) rfl ⟨0, 0, _, _, rfl, ?_, ⟨_, _, _, rfl⟩, ?_⟩
      · exact (((h02.setCell (Nat.le_refl _) _).setCell (Nat.le_refl _) _).setCell (Nat.le_refl _) _).setCell (Nat.le_refl _) _
      · exact gotr_bad HN.out
    · have hxb0 : ((x : Int) == 0) = false := by simp; exact hx
      cases hm : mayB (-(x : Int)) with
      | false =>
        have HN : Hid (T (f + 1) (fr s a) = none) := HT.out.trans (r_minus_bad c45.out HQ.out (Or.inr (Or.inr hm)))
        clear hk hx
        go_wp2_with (go_at_call 74; refine (nummay_any _ _).mono ?_; rintro e w' ⟨rfl, rfl⟩)
        refine (bad_any _).mono ?_
        rintro e w2 ⟨rfl, hb2⟩
        obtain ⟨hc, hfz⟩ := bcell hb2
        have hz : w.heap.size < w2.heap.size := by have := hb2.size; simp at this; omega
        have h02 : Below w.heap.size w w2 := ((Below.refl _ _).alloc (Nat.le_refl _) _).trans (hb2.mono (by simp))
        go_wp2_with fail
        refine bodyPost_ret (v := .agg #[.int .i64 0, .int .i64 0, .slice none 0 0, .int .i64 (-1)]) (by simp [results, Tryz.results55, go_sem, hc]) rfl ⟨0, 0, _, _, rfl, ?_, ⟨_, _, _, rfl⟩, ?_⟩
        · exact (((h02.setCell (Nat.le_refl _) _).setCell (Nat.le_refl _) _).setCell (Nat.le_refl _) _).setCell (Nat.le_refl _) _
        · exact gotr_bad HN.out
      | true =>
        have HK : Hid _ := r_minus_ok c45.out HQ.out hk hx hm
        clear hk hx
        go_wp2_with (go_at_call 74; refine (nummay_any _ _).mono ?_; rintro e w' ⟨rfl, rfl⟩)
        refine bodyPost_ret (v := .agg #[.int .i64 1, .int .i64 (-(x : Int)), .slice none 0 0, .int .i64 ((a : Int) + 1 + (k : Int))]) (by simp [results, Tryz.results55, go_sem]) rfl ⟨1, -(x : Int), _, _, rfl, ?_, ⟨_, _, _, rfl⟩, ?_⟩
        · exact (Below.refl _ _).alloc (Nat.le_refl _) _
        · rw [HT.out]
          rcases HK.out with e | ⟨e, hn⟩
          · rw [e]; exact ⟨rfl, rfl, by omega, World.ownsRow_nil _ _ _ _⟩
          · rw [e]; exact Or.inr ⟨a + 1 + k, by omega, by omega, hn⟩
end Go.Proofs.YtjamknejllbmkaaGreatDoor.Tm

namespace Go.Proofs.YtjamknejllbmkaaGreatDoor.Tm
open Go.RowKit
set_option linter.unusedVariables false

theorem gotr_parts {f : Nat} {s : ByteArray} {a x k : Nat} {B B' : Nat} {w : World} {k0 x0 : Int} {v : Value} {to : Int} (hl : (run s (a + 1)).length = k) (h1 : canon (run s (a + 1)) = some (x : Int)) (ht : tagB (x : Int) = true) (h40 : s.data.toList[a + 1 + k]? = some 40)
    (hB : B' ≤ B) (h : GotRP s (a + 1 + k + 1) B w (Tp (T f) 3 (fr s (a + 1 + k + 1))) 2 (x : Int) k0 x0 v to) : GotR s a B' w (conT (T f) (fr s (a + 1))) k0 x0 v to := by
  subst hl
  rw [con_eq_parts f s a h1 ht h40]
  unfold GotRP at h
  cases hp : Tp (T f) 3 (fr s (a + 1 + (run s (a + 1)).length + 1)) with
  | none => rw [hp] at h; exact Or.inl h
  | some y =>
    obtain ⟨ks, m⟩ := y
    rw [hp] at h
    obtain ⟨e1, e2, e3, e4⟩ := h
    exact ⟨e1, e2, by rw [e3]; omega, own_base e4 hB⟩
theorem GotRP.set {s : ByteArray} {a B : Nat} {w : World} {o : Option (List (List UInt8) × Nat)} {k0 x0 k x : Int} {v : Value} {to : Int} (h : GotRP s a B w o k0 x0 k x v to) {p : Addr} (hp : p.block < B) (u : Value) : GotRP s a B (w.setCell p u) o k0 x0 k x v to := by
  unfold GotRP at *
  cases o with
  | none => exact h
  | some y =>
    obtain ⟨h1, h2, h3, h4⟩ := h
    exact ⟨h1, h2, h3, ownsRow_setCell_below h4 hp u⟩

set_option maxHeartbeats 3200000 in
set_option maxRecDepth 100000 in
theorem rterm_con (f : Nat) (hP : RPartsSaid f) (s : ByteArray) (a : Nat) (w : World) (hlt : a < s.size) (hs : s.size ≤ 1024) (hf : s.size - a < f + 1) (h95 : ((s[a].toNat : Int) == 95) = false) (h33 : ((s[a].toNat : Int) == 33) = false) (h64 : ((s[a].toNat : Int) == 64) = true) :
    Calls Tryz.prog 55 #[.string s, .int .i64 (a : Int)] w fun e w' => ∃ k x v to, e = .returned (.agg #[.int .i64 k, .int .i64 x, v, .int .i64 to]) ∧
      Below w.heap.size w w' ∧ (∃ g n c, v = .slice g n c) ∧ GotR s a w.heap.size w' (T (f + 1) (fr s a)) k x v to := by
  have HT : Hid (T (f + 1) (fr s a) = conT (T f) (fr s (a + 1))) := T_is_con f s a (byte_yes hlt 64 h64)
  have hlt' : (a : Int) + 1 ≤ (s.size : Int) := by omega
  go_enter Tryz.func55, Tryz.ntmps55
  go_wp2_with fail
  refine (digits_at s (a + 1) _ hs).mono ?_
  rintro e w' ⟨x, k, rfl, rfl, hq⟩
  have HQ : Hid (DigQ (fr s (a + 1)) x k) := hq
  have hk1 := hq.1
  rw [fr_len] at hk1
  have hk6 := hq.2.1
  clear hq
  by_cases hk : k = 0
  · have hkb : ((k : Int) == 0) = true := by simp [hk]
    have HN : Hid (T (f + 1) (fr s a) = none) := HT.out.trans (r_con_bad HQ.out (Or.inl hk))
    clear hk
    go_wp2_with fail
    refine (bad_any _).mono ?_
    rintro e w2 ⟨rfl, hb2⟩
    obtain ⟨hc, hfz⟩ := bcell hb2
    have hz : w.heap.size < w2.heap.size := by have := hb2.size; simp at this; omega
    have h02 : Below w.heap.size w w2 := ((Below.refl _ _).alloc (Nat.le_refl _) _).trans (hb2.mono (by simp))
    go_wp2_with fail
    refine bodyPost_ret (v := .agg #[.int .i64 0, .int .i64 0, .slice none 0 0, .int .i64 (-1)]) (by simp [results, Tryz.results55, go_sem, hc]) rfl ⟨0, 0, _, _, rfl, ?_, ⟨_, _, _, rfl⟩, ?_⟩
    · exact (((h02.setCell (Nat.le_refl _) _).setCell (Nat.le_refl _) _).setCell (Nat.le_refl _) _).setCell (Nat.le_refl _) _
    · exact gotr_bad HN.out
  · have hkb : ((k : Int) == 0) = false := by simp; exact hk
    by_cases hx : 99 < x
    · have hx' : (99 : Int) < (x : Int) := by omega
      have HN : Hid (T (f + 1) (fr s a) = none) := HT.out.trans (r_con_bad HQ.out (Or.inr hx))
      clear hk hx
      go_wp2_with fail
      refine (bad_any _).mono ?_
      rintro e w2 ⟨rfl, hb2⟩
      obtain ⟨hc, hfz⟩ := bcell hb2
      have hz : w.heap.size < w2.heap.size := by have := hb2.size; simp at this; omega
      have h02 : Below w.heap.size w w2 := ((Below.refl _ _).alloc (Nat.le_refl _) _).trans (hb2.mono (by simp))
      go_wp2_with fail
      refine bodyPost_ret (v := .agg #[.int .i64 0, .int .i64 0, .slice none 0 0, .int .i64 (-1)]) (by simp [results, Tryz.results55, go_sem, hc]) rfl ⟨0, 0, _, _, rfl, ?_, ⟨_, _, _, rfl⟩, ?_⟩
      · exact (((h02.setCell (Nat.le_refl _) _).setCell (Nat.le_refl _) _).setCell (Nat.le_refl _) _).setCell (Nat.le_refl _) _
      · exact gotr_bad HN.out
    · have hx' : (x : Int) ≤ 99 := by omega
      have htag := tag_of (x := x) (by omega)
      rcases r_con_ok (f := f) HQ.out hk (by omega) with ⟨hl, hcn⟩ | ⟨hcn, hnc⟩
      · have HL : Hid ((run s (a + 1)).length = k) := hl
        have HC : Hid (canon (run s (a + 1)) = some (x : Int)) := hcn
        clear hk hx hl hcn
        by_cases hto : a + 1 + k < s.size
        · have hto' : (a : Int) + 1 + (k : Int) < (s.size : Int) := by omega
          cases h40 : ((s[a + 1 + k].toNat : Int) == 40) with
          | true =>
            have c40 : Hid (s.data.toList[a + 1 + k]? = some 40) := byte_yes hto 40 h40
            go_wp2_with fail
            refine (hP s _ (a + 1 + k + 1) 2 (x : Int) _ _ (by omega) hto hs (by omega)).mono ?_
            rintro e w2 ⟨kk, xx, v, to, rfl, hb2, ⟨g, n', c, rfl⟩, hgot⟩
            have HG : Hid (GotRP s (a + 1 + k + 1) (w.heap.size + 2) w2 (Tp (T f) 3 (fr s (a + 1 + k + 1))) 2 (x : Int) kk xx (.slice g n' c) to) := by
              simp only [World.size_alloc] at hgot; exact hgot
            clear hgot
            obtain ⟨hc, hfz⟩ := bcell hb2
            have hz : w.heap.size + 1 < w2.heap.size := by have := hb2.size; simp at this; omega
            have hz2 : w.heap.size < w2.heap.size := by omega
            have h02 : Below w.heap.size w w2 := (((Below.refl _ _).alloc (Nat.le_refl _) _).alloc (by simp) _).trans (hb2.mono (by simp; omega))
            have q0 : w2.cell? ⟨w.heap.size, 0, none⟩ = some (.int .i64 0) := by rw [hc _ _ (by simp; omega)]; simp [go_sem]
            have q1 : w2.cell? ⟨w.heap.size, 1, none⟩ = some (.int .i64 0) := by rw [hc _ _ (by simp; omega)]; simp [go_sem]
            have q2 : w2.cell? ⟨w.heap.size, 2, none⟩ = some (.slice none 0 0) := by rw [hc _ _ (by simp; omega)]; simp [go_sem]
            have q3 : w2.cell? ⟨w.heap.size, 3, none⟩ = some (.int .i64 0) := by rw [hc _ _ (by simp; omega)]; simp [go_sem]
            go_wp2_with fail
            refine bodyPost_ret (v := .agg #[.int .i64 kk, .int .i64 xx, .slice g n' c, .int .i64 to]) (by simp [results, Tryz.results55, go_sem, q0, q1, q2, q3]) rfl ⟨kk, xx, _, to, rfl, ?_, ⟨_, _, _, rfl⟩, ?_⟩
            · exact (((h02.setCell (Nat.le_refl _) _).setCell (Nat.le_refl _) _).setCell (Nat.le_refl _) _).setCell (Nat.le_refl _) _
            · rw [HT.out]
              refine gotr_parts HL.out HC.out htag c40.out (B := w.heap.size + 2) (by omega) ?_
              have hg : GotRP s (a + 1 + k + 1) (w.heap.size + 2) w2 (Tp (T f) 3 (fr s (a + 1 + k + 1))) 2 (x : Int) kk xx (.slice g n' c) to := HG.out
              exact (((hg.set (by simp) _).set (by simp) _).set (by simp) _).set (by simp) _
          | false =>
            have c40 : Hid (s.data.toList[a + 1 + k]? ≠ some 40) := byte_no hto 40 h40
            go_wp2_with fail
            refine bodyPost_ret (v := .agg #[.int .i64 2, .int .i64 (x : Int), .slice none 0 0, .int .i64 ((a : Int) + 1 + (k : Int))]) (by simp [results, Tryz.results55, go_sem]) rfl ⟨2, (x : Int), _, _, rfl, ?_, ⟨_, _, _, rfl⟩, ?_⟩
            · exact ((Below.refl _ _).alloc (Nat.le_refl _) _).alloc (by simp) _
            · rw [HT.out, con_eq_bare f s a HC.out htag (by rw [HL.out]; exact c40.out)]
              exact ⟨rfl, rfl, by rw [HL.out]; omega, World.ownsRow_nil _ _ _ _⟩
        · have hto' : (s.size : Int) ≤ (a : Int) + 1 + (k : Int) := by omega
          have c40 : Hid (s.data.toList[a + 1 + k]? ≠ some 40) := by
            show s.data.toList[a + 1 + k]? ≠ some 40
            rw [List.getElem?_eq_none (by simpa using hto)]; simp
          go_wp2_with fail
          refine bodyPost_ret (v := .agg #[.int .i64 2, .int .i64 (x : Int), .slice none 0 0, .int .i64 ((a : Int) + 1 + (k : Int))]) (by simp [results, Tryz.results55, go_sem]) rfl ⟨2, (x : Int), _, _, rfl, ?_, ⟨_, _, _, rfl⟩, ?_⟩
          · exact ((Below.refl _ _).alloc (Nat.le_refl _) _).alloc (by simp) _
          · rw [HT.out, con_eq_bare f s a HC.out htag (by rw [HL.out]; exact c40.out)]
            exact ⟨rfl, rfl, by rw [HL.out]; omega, World.ownsRow_nil _ _ _ _⟩
      · have HC : Hid (conT (T f) (fr s (a + 1)) = none) := hcn
        have HNC : Hid (NcAt s (a + 1 + k)) := hnc
        obtain ⟨hto, hncb⟩ := nc_byte hnc
        have hto' : (a : Int) + 1 + (k : Int) < (s.size : Int) := by omega
        have h40 : ((s[a + 1 + k].toNat : Int) == 40) = false := by
          rcases nc_yes hncb with e | ⟨_, e, _⟩
          · rw [beq_eq_false_iff_ne]; omega
          · rw [beq_eq_false_iff_ne]; omega
        clear hk hx hcn hnc hncb
        go_wp2_with fail
        refine bodyPost_ret (v := .agg #[.int .i64 2, .int .i64 (x : Int), .slice none 0 0, .int .i64 ((a : Int) + 1 + (k : Int))]) (by simp [results, Tryz.results55, go_sem]) rfl ⟨2, (x : Int), _, _, rfl, ?_, ⟨_, _, _, rfl⟩, ?_⟩
        · exact ((Below.refl _ _).alloc (Nat.le_refl _) _).alloc (by simp) _
        · rw [HT.out, HC.out]
          exact Or.inr ⟨a + 1 + k, by omega, by omega, HNC.out⟩

set_option maxHeartbeats 1600000 in
set_option maxRecDepth 100000 in
theorem rterm_of (f : Nat) (hP : RPartsSaid f) : RTermSaid (f + 1) := by
  intro s i a w hi ha hs hf
  subst hi
  by_cases hlt : a < s.size
  · cases h95 : ((s[a].toNat : Int) == 95) with
    | true =>
      have c95 : Hid _ := byte_yes hlt 95 h95
      go_enter Tryz.func55, Tryz.ntmps55
      go_wp2_with fail
      refine bodyPost_ret (v := .agg #[.int .i64 0, .int .i64 0, .slice none 0 0, .int .i64 ((a : Int) + 1)]) (by simp [results, Tryz.results55, go_sem]) rfl ⟨0, 0, _, _, rfl, ?_, ⟨_, _, _, rfl⟩, ?_⟩
      · exact (Below.refl _ _).alloc (Nat.le_refl _) _
      · rw [T_is_hole f s a c95.out]
        exact ⟨rfl, rfl, rfl, World.ownsRow_nil _ _ _ _⟩
    | false =>
      cases h33 : ((s[a].toNat : Int) == 33) with
      | true =>
        have c33 : Hid _ := byte_yes hlt 33 h33
        go_enter Tryz.func55, Tryz.ntmps55
        go_wp2_with fail
        refine bodyPost_ret (v := .agg #[.int .i64 3, .int .i64 0, .slice none 0 0, .int .i64 ((a : Int) + 1)]) (by simp [results, Tryz.results55, go_sem]) rfl ⟨3, 0, _, _, rfl, ?_, ⟨_, _, _, rfl⟩, ?_⟩
        · exact (Below.refl _ _).alloc (Nat.le_refl _) _
        · rw [T_is_fail f s a c33.out]
          exact ⟨rfl, rfl, rfl, World.ownsRow_nil _ _ _ _⟩
      | false =>
        cases h64 : ((s[a].toNat : Int) == 64) with
        | true => exact rterm_con f hP s a w hlt hs hf h95 h33 h64
        | false =>
          cases h45 : ((s[a].toNat : Int) == 45) with
          | true => exact rterm_minus f s a w hlt hs h95 h33 h64 h45
          | false => exact rterm_num f s a w hlt hs h95 h33 h64 h45
  · exact rterm_end f s a w ha (by omega) hs
end Go.Proofs.YtjamknejllbmkaaGreatDoor.Tm

namespace Go.Proofs.YtjamknejllbmkaaGreatDoor.Tm
open Go.RowKit
set_option linter.unusedVariables false

/-- A block of four cells. -/
def Box (w : World) (b : Nat) (c0 c1 c2 c3 : Value) : Prop := w.heap[b]? = some (.cells #[c0, c1, c2, c3] 116 (0, 0))

theorem Box.lt {w : World} {b : Nat} {c0 c1 c2 c3 : Value} (h : Box w b c0 c1 c2 c3) : b < w.heap.size := by
  unfold Box at h
  rcases Nat.lt_or_ge b w.heap.size with h' | h'
  · exact h'
  · rw [Array.getElem?_eq_none h'] at h; cases h
theorem Box.cell {w : World} {b : Nat} {c0 c1 c2 c3 : Value} (h : Box w b c0 c1 c2 c3) : w.cell? ⟨b, 0, none⟩ = some c0 ∧ w.cell? ⟨b, 1, none⟩ = some c1 ∧ w.cell? ⟨b, 2, none⟩ = some c2 ∧ w.cell? ⟨b, 3, none⟩ = some c3 := by
  unfold Box at h
  unfold World.cell?
  simp [h]
theorem Box.free {w : World} {b : Nat} {c0 c1 c2 c3 : Value} (h : Box w b c0 c1 c2 c3) (o : Nat) : w.frozen? ⟨b, o, none⟩ = false := by
  unfold Box at h
  unfold World.frozen?
  simp [h]
theorem Box.on {w w' : World} {b : Nat} {c0 c1 c2 c3 : Value} (h : Box w b c0 c1 c2 c3) (hb : Below w.heap.size w w') : Box w' b c0 c1 c2 c3 := by
  have := h.lt
  unfold Box at *
  rw [hb.block b this]; exact h
theorem Box.grown {w w' : World} {b : Nat} {c0 c1 c2 c3 : Value} {row : Option Nat} (h : Box w b c0 c1 c2 c3) (hg : w.grownBy w' row) (hne : row ≠ some b) : Box w' b c0 c1 c2 c3 := by
  have := h.lt
  unfold Box at *
  rw [hg.block b this (fun e => hne e.symm)]; exact h
theorem Box.other {w : World} {b : Nat} {c0 c1 c2 c3 : Value} (h : Box w b c0 c1 c2 c3) {p : Addr} (hne : b ≠ p.block) (u : Value) : Box (w.setCell p u) b c0 c1 c2 c3 := by
  unfold Box at *
  rw [Below.heap_setCell _ _ _ _ hne]; exact h
theorem Box.two {w : World} {b : Nat} {c0 c1 c2 c3 : Value} (h : Box w b c0 c1 c2 c3) (u : Value) : Box (w.setCell ⟨b, 2, none⟩ u) b c0 c1 u c3 := by
  unfold Box at *
  simp only [World.setCell, Array.getElem?_modify, if_true, h]
  rfl
theorem Box.new (w : World) (c0 c1 c2 c3 : Value) : Box (w.alloc (.cells #[c0, c1, c2, c3] 116)) w.heap.size c0 c1 c2 c3 := by
  unfold Box
  show (w.heap.push _)[w.heap.size]? = _
  rw [Array.getElem?_push_size]
theorem Box.alloc {w : World} {b : Nat} {c0 c1 c2 c3 : Value} (h : Box w b c0 c1 c2 c3) (o : Obj) : Box (w.alloc o) b c0 c1 c2 c3 :=
  h.on ((Below.refl _ _).alloc (Nat.le_refl _) _)

theorem parts_class {f : Nat} {s : ByteArray} {a : Nat} {ps : List (Nat × Nat)} {c : Nat} (h : Sofar f s a ps c) (hl : ps.length < 3) (hac : a ≤ c) (hcs : c ≤ s.size) {B : Nat} {w : World} {k x : Int} {v : Value} {to : Int}
    (hg : GotR s c B w (T f (fr s c)) k x v to) :
    ((to < 0 ∨ (s.size : Int) ≤ to) ∧ Tp (T f) 3 (fr s a) = none) ∨
    ∃ m : Nat, to = (m : Int) ∧ c ≤ m ∧ ∃ hm : m < s.size,
      ((((s[m].toNat : Int) == 41) = false ∧ ((s[m].toNat : Int) == 32) = false ∧ Tp (T f) 3 (fr s a) = none) ∨
       (((s[m].toNat : Int) == 41) = true ∧ Tp (T f) 3 (fr s a) = some ((ps ++ [(c, m)]).map (pc s), m + 1 - a)) ∨
       (((s[m].toNat : Int) == 41) = false ∧ ((s[m].toNat : Int) == 32) = true ∧ Sofar f s a (ps ++ [(c, m)]) (m + 1))) := by
  unfold GotR at hg
  cases hT : T f (fr s c) with
  | none =>
    rw [hT] at hg
    have htp := sofar_none h hl hT
    rcases hg with e | ⟨n, e, hcn, hnc⟩
    · exact Or.inl ⟨Or.inl (by omega), htp⟩
    · obtain ⟨hm, hb⟩ := nc_byte hnc
      refine Or.inr ⟨n, e, hcn, hm, Or.inl ⟨?_, ?_, htp⟩⟩
      · rcases nc_yes hb with e | ⟨_, e, _⟩ <;> (rw [beq_eq_false_iff_ne]; omega)
      · rcases nc_yes hb with e | ⟨_, e, _⟩ <;> (rw [beq_eq_false_iff_ne]; omega)
  | some y =>
    have hsz := T_size f _ _ hT
    rw [hT] at hg
    obtain ⟨k', x', ks, n⟩ := y
    obtain ⟨_, _, e, _⟩ := hg
    by_cases hm : c + n < s.size
    · refine Or.inr ⟨c + n, by omega, by omega, hm, ?_⟩
      cases h41 : ((s[c + n].toNat : Int) == 41) with
      | true =>
        refine Or.inr (Or.inl ⟨rfl, ?_⟩)
        rw [sofar_last h hl hac hT (byte_yes hm 41 h41)]
        congr 2; simp only; omega
      | false =>
        cases h32 : ((s[c + n].toNat : Int) == 32) with
        | true => exact Or.inr (Or.inr ⟨rfl, rfl, sofar_on h hl hac hT (byte_yes hm 32 h32)⟩)
        | false => exact Or.inl ⟨rfl, rfl, sofar_bad h hl hT (byte_no hm 41 h41) (byte_no hm 32 h32)⟩
    · refine Or.inl ⟨Or.inr (by omega), ?_⟩
      have en : s.data.toList[c + n]? = none := List.getElem?_eq_none (by simp; omega)
      exact sofar_bad h hl hT (by simp only; rw [en]; simp) (by simp only; rw [en]; simp)

theorem news_one {W : World} {ad : Addr} {x : Value} (h : W.cell? ad = some x) : ∀ (j : Nat) u, [x][j]? = some u → W.cell? (ad.add j) = some u := by
  intro j u hj
  match j, hj with
  | 0, hj =>
    have e : x = u := by simpa using hj
    subst e
    have : ad.add 0 = ad := by simp [Addr.add]
    rw [this]; exact h

/-- Behind the append. -/
theorem rparts_append {w w1 w2 : World} {gv : Option Addr} {cv : Nat} {s : ByteArray} {ps : List (Nat × Nat)} {c m gg cap : Nat} {k0 x0 t0 : Int} {A : Obj} {c0 c1 c2 : Value}
    (hX : Box w1 w.heap.size (.int .i64 k0) (.int .i64 x0) (.slice gv ps.length cv) (.int .i64 t0)) (hY : Box w1 (w.heap.size + 1) (.int .i64 0) (.int .i64 0) (.slice none 0 0) (.int .i64 0))
    (hB : Below w.heap.size w w1) (hBL : ∀ b, (Value.slice gv ps.length cv).ownBlock = some b → w.heap.size + 2 ≤ b ∧ b < w1.heap.size) (hzA : w.heap.size < w1.heap.size) (hzB : w.heap.size + 1 < w1.heap.size)
    (hown : w2.ownsRow (w.heap.size + 2) 9 1 (.slice (some ⟨gg, 0, none⟩) (ps.length + 1) cap) (ps.length + 1) ((ps.map fun p => S (pc s p)) ++ [.string (s.extract c m)]))
    (hg : (((w1.alloc (.cells #[c0, c1, c2, .int .i64 (m : Int)] 116)).alloc A).drew).grownBy w2 (Value.slice gv ps.length cv).ownBlock) :
    Box w2 w.heap.size (.int .i64 k0) (.int .i64 x0) (.slice gv ps.length cv) (.int .i64 t0) ∧ Box w2 (w.heap.size + 1) (.int .i64 0) (.int .i64 0) (.slice none 0 0) (.int .i64 0) ∧
    w2.ownsRow (w.heap.size + 2) 9 1 (.slice (some ⟨gg, 0, none⟩) (ps.length + 1) cap) (ps.length + 1) ((ps ++ [(c, m)]).map fun p => S (pc s p)) ∧ Below w.heap.size w w2 ∧
    w2.cell? ⟨w1.heap.size, 3, none⟩ = some (.int .i64 (m : Int)) := by
  have b0 : Box ((w1.alloc (.cells #[c0, c1, c2, .int .i64 (m : Int)] 116)).alloc A).drew w.heap.size (.int .i64 k0) (.int .i64 x0) (.slice gv ps.length cv) (.int .i64 t0) := (hX.alloc _).alloc _
  have b1 : Box ((w1.alloc (.cells #[c0, c1, c2, .int .i64 (m : Int)] 116)).alloc A).drew (w.heap.size + 1) (.int .i64 0) (.int .i64 0) (.slice none 0 0) (.int .i64 0) := (hY.alloc _).alloc _
  have b2 : Box ((w1.alloc (.cells #[c0, c1, c2, .int .i64 (m : Int)] 116)).alloc A).drew w1.heap.size c0 c1 c2 (.int .i64 (m : Int)) := (Box.new w1 _ _ _ _).alloc _
  refine ⟨b0.grown hg (fun e => by have := (hBL _ e).1; omega), b1.grown hg (fun e => by have := (hBL _ e).1; omega), ?_, ?_, (b2.grown hg (fun e => by have := (hBL _ e).2; omega)).cell.2.2.2⟩
  · rw [List.map_append, List.map_cons, List.map_nil, show S (pc s (c, m)) = .string (s.extract c m) by rw [show s.extract c m = ⟨(pc s (c, m)).toArray⟩ from piece_eq s (c, m)]]
    exact hown
  · exact (((hB.alloc (by omega) _).alloc (by simp; omega) _).drew).grown hg (by simp; omega) (fun b e => by have := (hBL b e).1; omega)

set_option maxHeartbeats 3200000 in
set_option maxRecDepth 100000 in
theorem rparts_of (f : Nat) (hR : RTermSaid f) : RPartsSaid f := by
  intro s i a k0 x0 t0 w hi ha hs hf
  subst hi
  obtain ⟨i0, hi, hz0, hz1, hz2⟩ := info_parts Tryz.info9
  go_enter Tryz.func77, Tryz.ntmps77
  go_wp2_with fail
  go_loopw [2] (fun i wr => ∃ (c : Nat) (ps : List (Nat × Nat)) (gv : Option Addr) (cv : Nat), ps.length ≤ 3 ∧ i = .int .i64 (c : Int) ∧ a ≤ c ∧ c ≤ s.size ∧
      Box wr w.heap.size (.int .i64 k0) (.int .i64 x0) (.slice gv ps.length cv) (.int .i64 t0) ∧ Box wr (w.heap.size + 1) (.int .i64 0) (.int .i64 0) (.slice none 0 0) (.int .i64 0) ∧
      wr.ownsRow (w.heap.size + 2) 9 1 (.slice gv ps.length cv) ps.length (ps.map fun p => S (pc s p)) ∧ Below w.heap.size w wr ∧ Sofar f s a ps c)
    (fun i _ => s.size + 1 - (intOf i).toNat)
  case atStart =>
    refine ⟨a, [], none, 0, by simp, rfl, Nat.le_refl _, ha, (Box.new w _ _ _ _).alloc _, ?_, World.ownsRow_nil _ _ _ _, ((Below.refl _ _).alloc (Nat.le_refl _) _).alloc (by simp) _, sofar_start f s a⟩
    have := Box.new (w.alloc (.cells #[.int .i64 k0, .int .i64 x0, .slice none 0 0, .int .i64 t0] 116)) (.int .i64 0) (.int .i64 0) (.slice none 0 0) (.int .i64 0)
    simpa using this
  case round =>
    obtain ⟨c, ps, gv, cv, hps, rfl, hac, hcs, hbx, hby, hown, hbel, hso⟩ := hrel
    have HS : Hid (Sofar f s a ps c) := hso
    clear hso
    have HX : Hid (Box wr w.heap.size (.int .i64 k0) (.int .i64 x0) (.slice gv ps.length cv) (.int .i64 t0)) := hbx
    have HY : Hid (Box wr (w.heap.size + 1) (.int .i64 0) (.int .i64 0) (.slice none 0 0) (.int .i64 0)) := hby
    obtain ⟨x0c, x1c, x2c, x3c⟩ := hbx.cell
    have hlt0 := hby.lt
    clear hbx hby
    by_cases hl3 : ps.length < 3
    · go_wp2_with fail
      refine (hR s _ c _ rfl hcs hs (by omega)).mono ?_
      rintro e w1 ⟨k, x, v1, to, rfl, hb1, ⟨g, n', c', rfl⟩, hgot⟩
      have HC : Hid _ := parts_class HS.out hl3 hac hcs hgot
      clear hgot
      have HX1 : Hid (Box w1 w.heap.size (.int .i64 k0) (.int .i64 x0) (.slice gv ps.length cv) (.int .i64 t0)) := Box.on HX.out hb1
      have HY1 : Hid (Box w1 (w.heap.size + 1) (.int .i64 0) (.int .i64 0) (.slice none 0 0) (.int .i64 0)) := Box.on HY.out hb1
      have hown1 := own_below hown hb1
      have HB1 : Hid (Below w.heap.size w w1) := hbel.trans (hb1.mono hbel.size)
      have hz1' : wr.heap.size ≤ w1.heap.size := hb1.size
      clear hown hbel hb1 x0c x1c x2c x3c
      obtain ⟨x0c, x1c, x2c, x3c⟩ := Box.cell HX1.out
      have hxf := Box.free HX1.out
      rcases HC.out with ⟨hbad, htp⟩ | ⟨m, rfl, hcm, hm, hcl⟩
      · have HT : Hid (Tp (T f) 3 (fr s a) = none) := htp
        clear htp
        rcases hbad with hneg | hbig
        · go_wp2_with fail
          refine (bad_any _).mono ?_
          rintro e w9 ⟨rfl, hb9⟩
          have hy9 : Box w9 (w.heap.size + 1) (.int .i64 0) (.int .i64 0) (.slice none 0 0) (.int .i64 0) := Box.on (Box.alloc HY1.out _) hb9
          obtain ⟨q0, q1, q2, q3⟩ := hy9.cell
          have qf := hy9.free
          have h09 : Below w.heap.size w w9 := below_next (HB1.out.alloc (by omega) _) hb9
          clear hy9 hb9
          go_wp2_with fail
          refine bodyPost_ret (v := .agg #[.int .i64 0, .int .i64 0, .slice none 0 0, .int .i64 (-1)]) (by simp [results, Tryz.results77, go_sem, q0, q1, q2, q3]) rfl ⟨0, 0, _, _, rfl, ?_, ⟨_, _, _, rfl⟩, ?_⟩
          · exact (((h09.setCell (Nat.le_succ _) _).setCell (Nat.le_succ _) _).setCell (Nat.le_succ _) _).setCell (Nat.le_succ _) _
          · rw [HT.out]; exact rfl
        · have hnn : 0 ≤ to := by omega
          go_wp2_with fail
          refine (bad_any _).mono ?_
          rintro e w9 ⟨rfl, hb9⟩
          have hy9 : Box w9 (w.heap.size + 1) (.int .i64 0) (.int .i64 0) (.slice none 0 0) (.int .i64 0) := Box.on (Box.alloc HY1.out _) hb9
          obtain ⟨q0, q1, q2, q3⟩ := hy9.cell
          have qf := hy9.free
          have h09 : Below w.heap.size w w9 := below_next (HB1.out.alloc (by omega) _) hb9
          clear hy9 hb9
          go_wp2_with fail
          refine bodyPost_ret (v := .agg #[.int .i64 0, .int .i64 0, .slice none 0 0, .int .i64 (-1)]) (by simp [results, Tryz.results77, go_sem, q0, q1, q2, q3]) rfl ⟨0, 0, _, _, rfl, ?_, ⟨_, _, _, rfl⟩, ?_⟩
          · exact (((h09.setCell (Nat.le_succ _) _).setCell (Nat.le_succ _) _).setCell (Nat.le_succ _) _).setCell (Nat.le_succ _) _
          · rw [HT.out]; exact rfl
      · have HCL : Hid _ := hcl
        clear hcl
        have hm' : (m : Int) < (s.size : Int) := by omega
        have hcm' : (c : Int) ≤ (m : Int) := by omega
        have hzA : w.heap.size < w1.heap.size := by omega
        have hzB : w.heap.size + 1 < w1.heap.size := by omega
        have HBL : Hid (∀ b, (Value.slice gv ps.length cv).ownBlock = some b → w.heap.size + 2 ≤ b ∧ b < w1.heap.size) := by
          obtain ⟨_, _, _, hh⟩ := own_len hown1; exact hh
        have hsl : ∀ W, (Instr.slice 9 (.string s) (some (.int .i64 (c : Int))) (some (.int .i64 (m : Int))) none).run Tryz.prog W = .ok (.string (s.extract c m)) W := fun W => by
          rw [run_slice_string (h := Tryz.underlying9)] <;> first | omega | (congr 2)
        go_wp2_with fail
        go_region_law
          ((refine step_append_lies _ (by rfl) _ _ _ (by rfl) (w.heap.size + 2) 9 i0 _ 1 16 Tryz.underlying24 hi hz0 hz1 hz2 rfl (by omega) (.slice gv ps.length cv) ps.length (ps.map fun p => S (pc s p)) (by rfl) (((hown1.alloc _).alloc _).drew) ⟨w1.heap.size + 1, 0, none⟩ 1 1 [.string (s.extract c m)] (by rfl) (by rfl) (news_one (by simp [go_sem])) (by simp [Value.oneCell']) (by omega) (by unfold maxLen; omega) (by omega) (by simp; omega) (w1.heap.size + 2) (by simp) ?_; intro gg cap w2 hown2 hgrow hat hlt; obtain ⟨hX2, hY2, hown3, hb2, hto2⟩ := rparts_append HX1.out HY1.out HB1.out HBL.out hzA hzB hown2 hgrow; clear hown2 hgrow hat; obtain ⟨x0d, x1d, x2d, x3d⟩ := Box.cell hX2; have hxg := Box.free hX2; have HX2 : Hid (Box w2 w.heap.size (.int .i64 k0) (.int .i64 x0) (.slice gv ps.length cv) (.int .i64 t0)) := hX2; have HY2 : Hid (Box w2 (w.heap.size + 1) (.int .i64 0) (.int .i64 0) (.slice none 0 0) (.int .i64 0)) := hY2; clear hX2 hY2; have HO3 : Hid (w2.ownsRow (w.heap.size + 2) 9 1 (.slice (some ⟨gg, 0, none⟩) (ps.length + 1) cap) (ps.length + 1) ((ps ++ [(c, m)]).map fun p => S (pc s p))) := hown3; clear hown3; have HB2 : Hid (Below w.heap.size w w2) := hb2; clear hb2))
        all_goals
          have hwv : ∃ w3, w3 = w2.setCell ⟨w.heap.size, 2, none⟩ (.slice (some ⟨gg, 0, none⟩) (ps.length + 1) cap) := ⟨_, rfl⟩
          obtain ⟨w3, hw3⟩ := hwv
          have hX3 : Box w3 w.heap.size (.int .i64 k0) (.int .i64 x0) (.slice (some ⟨gg, 0, none⟩) (ps.length + 1) cap) (.int .i64 t0) := by rw [hw3]; exact Box.two HX2.out _
          have hY3 : Box w3 (w.heap.size + 1) (.int .i64 0) (.int .i64 0) (.slice none 0 0) (.int .i64 0) := by rw [hw3]; exact Box.other HY2.out (by simp) _
          have HO4 : Hid (w3.ownsRow (w.heap.size + 2) 9 1 (.slice (some ⟨gg, 0, none⟩) (ps.length + 1) cap) (ps.length + 1) ((ps ++ [(c, m)]).map fun p => S (pc s p))) := by
            show w3.ownsRow _ _ _ _ _ _
            rw [hw3]; exact ownsRow_setCell_below HO3.out (by simp) _
          have HB3 : Hid (Below w.heap.size w w3) := by
            show Below w.heap.size w w3
            rw [hw3]; exact HB2.out.setCell (Nat.le_refl _) _
          have hto3 : w3.cell? ⟨w1.heap.size, 3, none⟩ = some (.int .i64 (m : Int)) := by
            rw [hw3, World.cell?_setCell_other _ _ _ _ (by intro e; injection e; omega)]; exact hto2
          rw [← hw3]
          clear hw3 hto2 x0d x1d x2d x3d hxg x0c x1c x2c x3c hxf
          obtain ⟨x0d, x1d, x2d, x3d⟩ := Box.cell hX3
          have hxg := Box.free hX3
          have HX3 : Hid (Box w3 w.heap.size (.int .i64 k0) (.int .i64 x0) (.slice (some ⟨gg, 0, none⟩) (ps.length + 1) cap) (.int .i64 t0)) := hX3
          have HY3 : Hid (Box w3 (w.heap.size + 1) (.int .i64 0) (.int .i64 0) (.slice none 0 0) (.int .i64 0)) := hY3
          obtain ⟨y0d, y1d, y2d, y3d⟩ := Box.cell hY3
          have hyg := Box.free hY3
          clear hX3 hY3
          rcases HCL.out with ⟨h41, h32, htp⟩ | ⟨h41, htp⟩ | ⟨h41, h32, hso⟩
          · have HT : Hid (Tp (T f) 3 (fr s a) = none) := htp
            clear htp
            have h32' : ((s[m].toNat : Int) != 32) = true := by rw [bne, h32]; rfl
            go_wp2_with fail
            refine (bad_any _).mono ?_
            rintro e w9 ⟨rfl, hb9⟩
            have hy9 : Box w9 (w.heap.size + 1) (.int .i64 0) (.int .i64 0) (.slice none 0 0) (.int .i64 0) := Box.on HY3.out hb9
            obtain ⟨q0, q1, q2, q3⟩ := hy9.cell
            have qf := hy9.free
            have h09 : Below w.heap.size w w9 := below_next HB3.out hb9
            clear hy9 hb9
            go_wp2_with fail
            refine bodyPost_ret (v := .agg #[.int .i64 0, .int .i64 0, .slice none 0 0, .int .i64 (-1)]) (by simp [results, Tryz.results77, go_sem, q0, q1, q2, q3]) rfl ⟨0, 0, _, _, rfl, ?_, ⟨_, _, _, rfl⟩, ?_⟩
            · exact (((h09.setCell (Nat.le_succ _) _).setCell (Nat.le_succ _) _).setCell (Nat.le_succ _) _).setCell (Nat.le_succ _) _
            · rw [HT.out]; exact rfl
          · have HT : Hid (Tp (T f) 3 (fr s a) = some ((ps ++ [(c, m)]).map (pc s), m + 1 - a)) := htp
            clear htp
            go_wp2_with fail
            refine bodyPost_ret (v := .agg #[.int .i64 k0, .int .i64 x0, .slice (some ⟨gg, 0, none⟩) (ps.length + 1) cap, .int .i64 ((m : Int) + 1)]) (by simp [results, Tryz.results77, go_sem, y0d, y1d, y2d, y3d]) rfl ⟨k0, x0, _, _, rfl, ?_, ⟨_, _, _, rfl⟩, ?_⟩
            · exact ((((HB3.out.setCell (Nat.le_refl _) _).setCell (Nat.le_succ _) _).setCell (Nat.le_succ _) _).setCell (Nat.le_succ _) _).setCell (Nat.le_succ _) _
            · rw [HT.out]
              refine ⟨rfl, rfl, by omega, ?_⟩
              rw [List.length_map, List.length_append, List.map_map]
              refine own_base (B := w.heap.size + 2) ?_ (by omega)
              exact ownsRow_setCell_below (ownsRow_setCell_below (ownsRow_setCell_below (ownsRow_setCell_below (ownsRow_setCell_below HO4.out (by simp) _) (by simp) _) (by simp) _) (by simp) _) (by simp) _
          · have HN : Hid (Sofar f s a (ps ++ [(c, m)]) (m + 1)) := hso
            clear hso
            have h32' : ((s[m].toNat : Int) != 32) = false := by rw [bne, h32]; rfl
            go_wp2_with fail
            go_roundw
            case rel =>
              refine ⟨m + 1, ps ++ [(c, m)], some ⟨gg, 0, none⟩, cap, by simp; omega, by go_num, by omega, by omega, ?_, HY3.out, ?_, HB3.out, HN.out⟩
              · rw [List.length_append]; exact HX3.out
              · rw [List.length_append]; exact HO4.out
            case measure => simp [intOf]; omega
    · have HT : Hid (Tp (T f) 3 (fr s a) = none) := sofar_full HS.out (by omega)
      go_wp2_with fail
      refine (bad_any _).mono ?_
      rintro e w9 ⟨rfl, hb9⟩
      have hy9 : Box w9 (w.heap.size + 1) (.int .i64 0) (.int .i64 0) (.slice none 0 0) (.int .i64 0) := Box.on HY.out hb9
      obtain ⟨q0, q1, q2, q3⟩ := hy9.cell
      have qf := hy9.free
      have h09 : Below w.heap.size w w9 := below_next hbel hb9
      clear hy9 hb9
      go_wp2_with fail
      refine bodyPost_ret (v := .agg #[.int .i64 0, .int .i64 0, .slice none 0 0, .int .i64 (-1)]) (by simp [results, Tryz.results77, go_sem, q0, q1, q2, q3]) rfl ⟨0, 0, _, _, rfl, ?_, ⟨_, _, _, rfl⟩, ?_⟩
      · exact (((h09.setCell (Nat.le_succ _) _).setCell (Nat.le_succ _) _).setCell (Nat.le_succ _) _).setCell (Nat.le_succ _) _
      · rw [HT.out]; exact rfl
end Go.Proofs.YtjamknejllbmkaaGreatDoor.Tm

namespace Go.Proofs.YtjamknejllbmkaaGreatDoor.Tm
open Go.RowKit
set_option linter.unusedVariables false

theorem rterm_all : ∀ f, RTermSaid f
  | 0 => fun s i a w _ _ _ h => by omega
  | f + 1 => rterm_of f (rparts_of f (rterm_all f))

theorem rcut_none {s : ByteArray} {B : Nat} {w : World} {k x : Int} {v : Value} {to : Int} (hs : s.size ≤ 1024) (h : GotR s 0 B w (T 1025 (fr s 0)) k x v to) (hne : to ≠ (s.size : Int)) : whole s.data.toList = none := by
  have e0 : fr s 0 = s.data.toList := rfl
  have el : s.data.toList.length = s.size := by simp
  rw [e0] at h
  unfold whole
  rw [if_pos (by rw [el]; exact hs)]
  cases hT : T 1025 s.data.toList with
  | none => rfl
  | some y =>
    obtain ⟨k', x', ks, n⟩ := y
    rw [hT] at h
    obtain ⟨_, _, e, _⟩ := h
    simp only
    rw [el, if_neg (by omega)]
theorem rcut_some {s : ByteArray} {B : Nat} {w : World} {k x : Int} {v : Value} (hs : s.size ≤ 1024) (h : GotR s 0 B w (T 1025 (fr s 0)) k x v (s.size : Int)) : GotC B w (whole s.data.toList) k x v 0 := by
  have e0 : fr s 0 = s.data.toList := rfl
  have el : s.data.toList.length = s.size := by simp
  rw [e0] at h
  unfold whole
  rw [if_pos (by rw [el]; exact hs)]
  cases hT : T 1025 s.data.toList with
  | none =>
    rw [hT] at h
    rcases h with e | ⟨n, e, _, hnc⟩
    · omega
    · obtain ⟨hlt, _⟩ := nc_byte hnc
      omega
  | some y =>
    obtain ⟨k', x', ks, n⟩ := y
    rw [hT] at h
    obtain ⟨rfl, rfl, e, ho⟩ := h
    simp only
    rw [el, if_pos (by omega)]
    exact ⟨rfl, rfl, rfl, ho⟩

set_option maxHeartbeats 1600000 in
set_option maxRecDepth 100000 in
theorem rcut_any (s : ByteArray) (w : World) (hs : s.size ≤ 140737488355328) :
    Calls Tryz.prog 39 #[.string s] w fun e w' => ∃ k x v er, e = .returned (.tuple #[.int .i64 k, .int .i64 x, v, .int .i64 er]) ∧ (∃ g n c, v = .slice g n c) ∧
      Below w.heap.size w w' ∧ GotC w.heap.size w' (whole s.data.toList) k x v er := by
  by_cases hbig : 1024 < s.size
  · have hb' : (1024 : Int) < (s.size : Int) := by omega
    have HW : Hid (whole s.data.toList = none) := whole_big (by simpa using hbig)
    go_enter Tryz.func39, Tryz.ntmps39
    go_wp2_with fail
    refine bodyPost_ret (v := .tuple #[.int .i64 0, .int .i64 0, .slice none 0 0, .int .i64 200]) (by simp [results, Tryz.results39, go_sem]) rfl ⟨0, 0, _, 200, rfl, ⟨_, _, _, rfl⟩, Below.refl _ _, ?_⟩
    rw [HW.out]; exact ⟨rfl, rfl, rfl, rfl⟩
  · have hb' : (s.size : Int) ≤ 1024 := by omega
    go_enter Tryz.func39, Tryz.ntmps39
    go_wp2_with fail
    refine (rterm_all 1025 s _ 0 _ rfl (Nat.zero_le _) (by omega) (by omega)).mono ?_
    rintro e w1 ⟨k, x, v, to, rfl, hb1, ⟨g, n', c, rfl⟩, hgot⟩
    have HG : Hid (GotR s 0 w.heap.size w1 (T 1025 (fr s 0)) k x (.slice g n' c) to) := hgot
    clear hgot
    by_cases hto : to = (s.size : Int)
    · subst hto
      have hne : ((s.size : Int) != (s.size : Int)) = false := by simp
      have HC : Hid (GotC w.heap.size w1 (whole s.data.toList) k x (.slice g n' c) 0) := rcut_some (by omega) HG.out
      go_wp2_with fail
      go_quiet (fail)
      go_wp2_with fail
      refine bodyPost_ret (v := .tuple #[.int .i64 k, .int .i64 x, .slice g n' c, .int .i64 0]) (by simp [results, Tryz.results39, go_sem]) rfl ⟨k, x, _, 0, rfl, ⟨_, _, _, rfl⟩, ?_, ?_⟩
      · exact below_next (hb1.alloc hb1.size _) (below_drewN _ _ _)
      · have h := HC.out
        unfold GotC at h ⊢
        cases hw : whole s.data.toList with
        | none => rw [hw] at h; exact h
        | some y =>
          obtain ⟨k', x', ks⟩ := y
          rw [hw] at h
          obtain ⟨e1, e2, e3, e4⟩ := h
          exact ⟨e1, e2, e3, own_below (e4.alloc _) (below_drewN _ _ _)⟩
    · have hne : (to != (s.size : Int)) = true := by simp [hto]
      have HW : Hid (whole s.data.toList = none) := rcut_none (by omega) HG.out hto
      clear hto
      go_wp2_with fail
      refine bodyPost_ret (v := .tuple #[.int .i64 0, .int .i64 0, .slice none 0 0, .int .i64 200]) (by simp [results, Tryz.results39, go_sem]) rfl ⟨0, 0, _, 200, rfl, ⟨_, _, _, rfl⟩, hb1.alloc hb1.size _, ?_⟩
      rw [HW.out]; exact ⟨rfl, rfl, rfl, rfl⟩

set_option maxHeartbeats 800000 in
theorem rmay_any (s : ByteArray) (w : World) (hs : s.size ≤ 140737488355328) :
    Calls Tryz.prog 32 #[.string s] w fun e w' => e = .returned (.bool (whole s.data.toList).isSome) ∧ Below w.heap.size w w' := by
  go_enter Tryz.func32, Tryz.ntmps32
  go_wp2_with fail
  refine (rcut_any s _ hs).mono ?_
  rintro e w1 ⟨k, x, v, er, rfl, ⟨g, n', c, rfl⟩, hb1, hgot⟩
  have he : (er == 0) = (whole s.data.toList).isSome := by
    unfold GotC at hgot
    cases hw : whole s.data.toList with
    | none => rw [hw] at hgot; rw [hgot.2.2.2]; rfl
    | some y => rw [hw] at hgot; obtain ⟨_, _, e, _⟩ := hgot; rw [e]; rfl
  clear hgot
  go_wp2_with fail
  go_ret
  rw [← he]
  exact ⟨rfl, hb1⟩
end Go.Proofs.YtjamknejllbmkaaGreatDoor.Tm

namespace Go.Proofs.YtjamknejllbmkaaGreatDoor.Tm
open Go.RowKit
set_option linter.unusedVariables false

theorem Tryz.info5 : (Tryz.prog.info? 5).map (fun i => (i.zero, i.size, i.bytes)) = some (some (.int .u8 0), 1, 1) := by kernel_rfl

/-- Bytes as cells. -/
def bs (l : List UInt8) : List Value := l.map fun b => .int .u8 (b.toNat : Int)
/-- So far. -/
def DecInv (u0 u : Nat) (ds : List UInt8) : Prop :=
  (ds = [] ∧ u = u0) ∨ (ds ≠ [] ∧ u = 0 ∧ ds = Lib.decDigits u0) ∨ (ds ≠ [] ∧ 0 < u ∧ Lib.decDigits u0 = Lib.decDigits u ++ ds)
def vlen : Value → Nat
  | .slice _ n _ => n
  | _ => 0

theorem dec_more {u0 u : Nat} {ds : List UInt8} (h : DecInv u0 u ds) (hgo : 0 < u ∨ ds = []) : DecInv u0 (u / 10) (UInt8.ofNat (48 + u % 10) :: ds) := by
  have key : ∀ v : Nat, Lib.decDigits v = if v < 10 then [UInt8.ofNat (48 + v)] else Lib.decDigits (v / 10) ++ [UInt8.ofNat (48 + v % 10)] := by
    intro v
    by_cases hv : v < 10
    · rw [if_pos hv]; exact Lib.decDigits_one hv
    · rw [if_neg hv, Lib.decDigits, dif_neg hv]
  rcases h with ⟨rfl, rfl⟩ | ⟨hne, rfl, e⟩ | ⟨hne, hu, e⟩
  · by_cases hv : u < 10
    · refine Or.inr (Or.inl ⟨by simp, by omega, ?_⟩)
      rw [key u, if_pos hv, Nat.mod_eq_of_lt hv]
    · refine Or.inr (Or.inr ⟨by simp, by omega, ?_⟩)
      rw [key u, if_neg hv]
  · rcases hgo with h | h
    · omega
    · exact absurd h hne
  · by_cases hv : u < 10
    · refine Or.inr (Or.inl ⟨by simp, by omega, ?_⟩)
      rw [e, key u, if_pos hv, Nat.mod_eq_of_lt hv]; rfl
    · refine Or.inr (Or.inr ⟨by simp, by omega, ?_⟩)
      rw [e, key u, if_neg hv]; simp
theorem dec_len {u0 u : Nat} {ds : List UInt8} (h : DecInv u0 u ds) : ds.length ≤ (Lib.decDigits u0).length := by
  rcases h with ⟨rfl, rfl⟩ | ⟨hne, rfl, e⟩ | ⟨hne, hu, e⟩
  · simp
  · rw [e]; exact Nat.le_refl _
  · rw [e]; simp
theorem dec_done {u0 : Nat} {ds : List UInt8} (h : DecInv u0 0 ds) (hne : ds ≠ []) : ds = Lib.decDigits u0 := by
  rcases h with ⟨e, _⟩ | ⟨_, _, e⟩ | ⟨_, hu, _⟩
  · exact absurd e hne
  · exact e
  · omega

/-- A row of one byte that was just laid. -/
theorem own_one (W : World) (B : Nat) (hB : B ≤ W.heap.size) (x : Value) : (W.alloc (.cells #[x] 5)).ownsRow B 5 1 (.slice (some ⟨W.heap.size, 0, none⟩) 1 1) 1 [x] := by
  refine ⟨rfl, Or.inr ⟨W.heap.size, 1, #[x], rfl, hB, ?_, Nat.le_refl _, by unfold maxLen; omega, rfl, rfl⟩⟩
  show (W.heap.push _)[W.heap.size]? = _
  rw [Array.getElem?_push_size]
/-- The cells of a row that is owned. -/
theorem own_cells {W : World} {B : Nat} {v : Value} {ds : List UInt8} (h : W.ownsRow B 5 1 v ds.length (bs ds)) (hne : ds ≠ []) :
    ∃ gb c, v = .slice (some ⟨gb, 0, none⟩) ds.length c ∧ gb < W.heap.size ∧ B ≤ gb ∧ ∀ j u, (bs ds)[j]? = some u → W.cell? ((⟨gb, 0, none⟩ : Addr).add j) = some u := by
  have hown := h
  rcases h.2 with ⟨_, h3⟩ | ⟨gb, cap, cur, hv, hB, hh, _⟩
  · exact absurd (List.length_eq_zero_iff.1 h3) hne
  · refine ⟨gb, cap, hv, ?_, hB, ?_⟩
    · rcases Nat.lt_or_ge gb W.heap.size with h' | h'
      · exact h'
      · rw [Array.getElem?_eq_none h'] at hh; cases hh
    · subst hv
      exact hown.cells (g := gb) rfl
theorem bs_one (ds : List UInt8) : ∀ u ∈ bs ds, u.oneCell' = true := by
  intro u hu
  unfold bs at hu
  obtain ⟨b, _, rfl⟩ := List.mem_map.1 hu
  rfl
theorem bs_cons (d : UInt8) (ds : List UInt8) : bs (d :: ds) = .int .u8 (d.toNat : Int) :: bs ds := rfl
theorem bs_len (ds : List UInt8) : (bs ds).length = ds.length := by unfold bs; simp
theorem digit_nat (u : Nat) : (UInt8.ofNat (48 + u % 10)).toNat = 48 + u % 10 := by
  simp; omega

/-- The text of a row of bytes. -/
theorem conv_row {W : World} {gb c : Nat} {ds : List UInt8} (h : ∀ j u, (bs ds)[j]? = some u → W.cell? ((⟨gb, 0, none⟩ : Addr).add j) = some u) :
    (convert 73 9 (.slice (some ⟨gb, 0, none⟩) ds.length c)).run Tryz.prog W = .ok (.string ⟨ds.toArray⟩) W :=
  run_convert_bytes_back W 73 9 5 ⟨gb, 0, none⟩ c ds Tryz.underlying73 Tryz.underlying5 Tryz.underlying9 (fun j hj => h j _ (by unfold bs; simp [hj]))
theorem conv_own {W : World} {B : Nat} {v : Value} {ds : List UInt8} (h : W.ownsRow B 5 1 v ds.length (bs ds)) (hne : ds ≠ []) :
    (convert 73 9 v).run Tryz.prog W = .ok (.string ⟨ds.toArray⟩) W := by
  obtain ⟨gb, c, rfl, _, _, hc⟩ := own_cells h hne
  exact conv_row hc

set_option maxHeartbeats 1600000 in
set_option maxRecDepth 100000 in
theorem decimal_pos (x : Nat) (w : World) (hx : x ≤ 32767) :
    Calls Tryz.prog 13 #[.int .i64 (x : Int)] w fun e w' => e = .returned (.string ⟨(Lib.itoa (x : Int)).toArray⟩) ∧ Below w.heap.size w w' := by
  obtain ⟨i0, hi, hz0, hz1, hz2⟩ := info_parts Tryz.info5
  have hdl : (Lib.decDigits x).length ≤ 21 := by
    have := Lib.itoa_length_le (x : Int) (by omega) (by omega)
    rw [Lib.itoa_nonneg] at this; exact this
  go_enter Tryz.func13, Tryz.ntmps13
  go_wp2_with fail
  go_loopw [3, 4] (fun a v wr => ∃ (u : Nat) (ds : List UInt8), a = .int .u64 (u : Int) ∧ u ≤ 32768 ∧ wr.ownsRow w.heap.size 5 1 v ds.length (bs ds) ∧ DecInv x u ds ∧ (ds = [] → v = .slice none 0 0) ∧ Below w.heap.size w wr)
    (fun a v _ => 2 * (intOf a).toNat + (1 - vlen v))
  case atStart => exact ⟨x, [], rfl, by omega, World.ownsRow_nil _ _ _ _, Or.inl ⟨rfl, rfl⟩, fun _ => rfl, Below.refl _ _⟩
  case round =>
    obtain ⟨u, ds, rfl, hu, hown, hinv, hnil, hbel⟩ := hrel
    have hlen := dec_len hinv
    have HI : Hid (DecInv x u ds) := hinv
    clear hinv
    have hz := hbel.size
    by_cases hds : ds = []
    · have e := hnil hds
      subst e
      subst hds
      have HN : Hid (DecInv x (u / 10) [UInt8.ofNat (48 + u % 10)]) := dec_more HI.out (Or.inr rfl)
      clear hnil hown
      by_cases hu0 : 0 < u
      · have hu0' : (0 : Int) < (u : Int) := by omega
        go_wp2_with (at_builtin; refine wpList_append_own_none rfl _ _ 73 rfl w.heap.size 5 i0 1 Tryz.underlying73 hi _ 1 _ rfl (own_one wr w.heap.size hz _) rfl ?_)
        go_roundw
        case rel =>
          refine ⟨u / 10, [UInt8.ofNat (48 + u % 10)], by go_num, by omega, ?_, HN.out, (fun h => by cases h), hbel.alloc hz _⟩
          have := own_one wr w.heap.size hz (.int .u8 (48 + (u : Int) % 10))
          rw [show bs [UInt8.ofNat (48 + u % 10)] = [.int .u8 (48 + (u : Int) % 10)] by rw [bs_cons, digit_nat]; simp [bs]]
          exact this
        case measure => simp [intOf, vlen]; omega
      · have hu0' : (u : Int) = 0 := by omega
        go_wp2_with (at_builtin; refine wpList_append_own_none rfl _ _ 73 rfl w.heap.size 5 i0 1 Tryz.underlying73 hi _ 1 _ rfl (own_one wr w.heap.size hz _) rfl ?_)
        go_roundw
        case rel =>
          have eu : u = 0 := by omega
          subst eu
          refine ⟨0, [48], by go_num, by omega, ?_, HN.out, (fun h => by cases h), hbel.alloc hz _⟩
          exact own_one wr w.heap.size hz (.int .u8 48)
        case measure => simp [intOf, vlen]
    · clear hnil
      obtain ⟨gb, cb, rfl, hgb, hBg, hcells⟩ := own_cells hown hds
      have HC : Hid (∀ j u, (bs ds)[j]? = some u → wr.cell? ((⟨gb, 0, none⟩ : Addr).add j) = some u) := hcells
      have hdp : 0 < ds.length := List.length_pos_iff.2 hds
      have hdz : ((ds.length : Int) == 0) = false := by simp; exact hds
      clear hcells
      by_cases hu0 : 0 < u
      · have hu0' : (0 : Int) < (u : Int) := by omega
        have HN : Hid (DecInv x (u / 10) (UInt8.ofNat (48 + u % 10) :: ds)) := dec_more HI.out (Or.inl hu0)
        go_wp2_with (at_builtin; refine wpList_append_own _ rfl _ _ 73 rfl w.heap.size 5 i0 (.int .u8 0) 1 1 Tryz.underlying73 hi hz0 hz1 hz2 rfl (by decide) _ 1 _ rfl (own_one wr w.heap.size hz _) ⟨gb, 0, none⟩ ds.length cb (bs ds) rfl ?c0 ?c1 ?c2 ?c3 ?c4 ?c5 ?_)
        case c0 => rw [bs_len, Nat.mul_one]
        case c1 =>
          intro j u hj
          rw [World.cell?_alloc_lt _ _ _ (by rw [Lib.add_plain]; exact hgb)]
          exact HC.out j u hj
        case c2 => exact bs_one ds
        case c3 => unfold maxLen; omega
        case c4 => omega
        case c5 => simp; omega
        intro v' w2 hown2 hgrow _
        have hown3 : w2.ownsRow w.heap.size 5 1 v' (UInt8.ofNat (48 + u % 10) :: ds).length (bs (UInt8.ofNat (48 + u % 10) :: ds)) := by
          rw [bs_cons, digit_nat, List.length_cons, Nat.add_comm ds.length 1]
          exact hown2
        have hb2 : Below w.heap.size w w2 := (hbel.alloc hz _).grown hgrow (by rw [World.size_alloc]; omega) (fun k e => by cases e; exact hz)
        have hvl : 1 ≤ vlen v' := by
          obtain ⟨gb', cb', rfl, _⟩ := own_cells hown3 (by simp)
          simp [vlen]
        clear hown2
        go_wp2_with fail
        go_roundw
        case rel => exact ⟨u / 10, UInt8.ofNat (48 + u % 10) :: ds, by go_num, by omega, hown3, HN.out, (fun h => by cases h), hb2⟩
        case measure => simp [intOf]; omega
      · have hu0' : (u : Int) = 0 := by omega
        have hug : ¬ (0 : Int) < (u : Int) := by omega
        have eds : Hid (ds = Lib.decDigits x) := by
          show ds = _
          have hI := HI.out
          rw [show u = 0 by omega] at hI
          exact dec_done hI hds
        have hcv := conv_row (c := cb) HC.out
        go_wp2_with fail
        go_ret
        exact ⟨by rw [eds.out]; rfl, hbel⟩

set_option maxHeartbeats 1600000 in
set_option maxRecDepth 100000 in
theorem decimal_neg (x : Nat) (w : World) (y : Int) (hy : y < 0) (hy2 : -32768 ≤ y) (E : Hid (y = -(x : Int))) (hx : x ≤ 32768) :
    Calls Tryz.prog 13 #[.int .i64 y] w fun e w' => e = .returned (.string ⟨(Lib.itoa y).toArray⟩) ∧ Below w.heap.size w w' := by
  obtain ⟨i0, hi, hz0, hz1, hz2⟩ := info_parts Tryz.info5
  have hdl : (Lib.decDigits x).length ≤ 21 := by
    have := Lib.itoa_length_le (x : Int) (by omega) (by omega)
    rw [Lib.itoa_nonneg] at this; exact this
  have HT : Hid (Lib.itoa y = 45 :: Lib.decDigits x) := by
    show Lib.itoa y = _
    rw [Lib.itoa, if_pos hy, E.out]; simp
  go_enter Tryz.func13, Tryz.ntmps13
  go_wp2_with fail
  go_loopw [3, 4] (fun a v wr => ∃ (u : Nat) (ds : List UInt8), a = .int .u64 (u : Int) ∧ u ≤ 32768 ∧ wr.ownsRow w.heap.size 5 1 v ds.length (bs ds) ∧ DecInv x u ds ∧ (ds = [] → v = .slice none 0 0) ∧ Below w.heap.size w wr)
    (fun a v _ => 2 * (intOf a).toNat + (1 - vlen v))
  case atStart => exact ⟨x, [], (by have := E.out; go_num), by omega, World.ownsRow_nil _ _ _ _, Or.inl ⟨rfl, rfl⟩, fun _ => rfl, Below.refl _ _⟩
  case round =>
    obtain ⟨u, ds, rfl, hu, hown, hinv, hnil, hbel⟩ := hrel
    have hlen := dec_len hinv
    have HI : Hid (DecInv x u ds) := hinv
    clear hinv
    have hz := hbel.size
    by_cases hds : ds = []
    · have e := hnil hds
      subst e
      subst hds
      have HN : Hid (DecInv x (u / 10) [UInt8.ofNat (48 + u % 10)]) := dec_more HI.out (Or.inr rfl)
      clear hnil hown
      by_cases hu0 : 0 < u
      · have hu0' : (0 : Int) < (u : Int) := by omega
        go_wp2_with (at_builtin; refine wpList_append_own_none rfl _ _ 73 rfl w.heap.size 5 i0 1 Tryz.underlying73 hi _ 1 _ rfl (own_one wr w.heap.size hz _) rfl ?_)
        go_roundw
        case rel =>
          refine ⟨u / 10, [UInt8.ofNat (48 + u % 10)], by go_num, by omega, ?_, HN.out, (fun h => by cases h), hbel.alloc hz _⟩
          have := own_one wr w.heap.size hz (.int .u8 (48 + (u : Int) % 10))
          rw [show bs [UInt8.ofNat (48 + u % 10)] = [.int .u8 (48 + (u : Int) % 10)] by rw [bs_cons, digit_nat]; simp [bs]]
          exact this
        case measure => simp [intOf, vlen]; omega
      · have hu0' : (u : Int) = 0 := by omega
        go_wp2_with (at_builtin; refine wpList_append_own_none rfl _ _ 73 rfl w.heap.size 5 i0 1 Tryz.underlying73 hi _ 1 _ rfl (own_one wr w.heap.size hz _) rfl ?_)
        go_roundw
        case rel =>
          have eu : u = 0 := by omega
          subst eu
          refine ⟨0, [48], by go_num, by omega, ?_, HN.out, (fun h => by cases h), hbel.alloc hz _⟩
          exact own_one wr w.heap.size hz (.int .u8 48)
        case measure => simp [intOf, vlen]
    · clear hnil
      obtain ⟨gb, cb, rfl, hgb, hBg, hcells⟩ := own_cells hown hds
      have HC : Hid (∀ j u, (bs ds)[j]? = some u → wr.cell? ((⟨gb, 0, none⟩ : Addr).add j) = some u) := hcells
      have hdp : 0 < ds.length := List.length_pos_iff.2 hds
      have hdz : ((ds.length : Int) == 0) = false := by simp; exact hds
      clear hcells
      by_cases hu0 : 0 < u
      · have hu0' : (0 : Int) < (u : Int) := by omega
        have HN : Hid (DecInv x (u / 10) (UInt8.ofNat (48 + u % 10) :: ds)) := dec_more HI.out (Or.inl hu0)
        go_wp2_with (at_builtin; refine wpList_append_own _ rfl _ _ 73 rfl w.heap.size 5 i0 (.int .u8 0) 1 1 Tryz.underlying73 hi hz0 hz1 hz2 rfl (by decide) _ 1 _ rfl (own_one wr w.heap.size hz _) ⟨gb, 0, none⟩ ds.length cb (bs ds) rfl ?c0 ?c1 ?c2 ?c3 ?c4 ?c5 ?_)
        case c0 => rw [bs_len, Nat.mul_one]
        case c1 =>
          intro j u hj
          rw [World.cell?_alloc_lt _ _ _ (by rw [Lib.add_plain]; exact hgb)]
          exact HC.out j u hj
        case c2 => exact bs_one ds
        case c3 => unfold maxLen; omega
        case c4 => omega
        case c5 => simp; omega
        intro v' w2 hown2 hgrow _
        have hown3 : w2.ownsRow w.heap.size 5 1 v' (UInt8.ofNat (48 + u % 10) :: ds).length (bs (UInt8.ofNat (48 + u % 10) :: ds)) := by
          rw [bs_cons, digit_nat, List.length_cons, Nat.add_comm ds.length 1]
          exact hown2
        have hb2 : Below w.heap.size w w2 := (hbel.alloc hz _).grown hgrow (by rw [World.size_alloc]; omega) (fun k e => by cases e; exact hz)
        have hvl : 1 ≤ vlen v' := by
          obtain ⟨gb', cb', rfl, _⟩ := own_cells hown3 (by simp)
          simp [vlen]
        clear hown2
        go_wp2_with fail
        go_roundw
        case rel => exact ⟨u / 10, UInt8.ofNat (48 + u % 10) :: ds, by go_num, by omega, hown3, HN.out, (fun h => by cases h), hb2⟩
        case measure => simp [intOf]; omega
      · have hu0' : (u : Int) = 0 := by omega
        have hug : ¬ (0 : Int) < (u : Int) := by omega
        have eds : Hid (ds = Lib.decDigits x) := by
          show ds = _
          have hI := HI.out
          rw [show u = 0 by omega] at hI
          exact dec_done hI hds
        go_wp2_with (at_builtin; refine wpList_append_own _ rfl _ _ 73 rfl w.heap.size 5 i0 (.int .u8 0) 1 1 Tryz.underlying73 hi hz0 hz1 hz2 rfl (by decide) _ 1 _ rfl (own_one wr w.heap.size hz _) ⟨gb, 0, none⟩ ds.length cb (bs ds) rfl ?c0 ?c1 ?c2 ?c3 ?c4 ?c5 ?_)
        case c0 => rw [bs_len]
        case c1 =>
          intro j u hj
          have := HC.out j u hj
          rw [Lib.add_plain] at this
          simpa using this
        case c2 => exact bs_one ds
        case c3 => unfold maxLen; omega
        case c4 => omega
        case c5 => omega
        intro v' w2 hown2 hgrow _
        have hown3 : w2.ownsRow w.heap.size 5 1 v' (45 :: ds).length (bs (45 :: ds)) := by
          rw [bs_cons, List.length_cons, Nat.add_comm ds.length 1]
          exact hown2
        have hb2 : Below w.heap.size w w2 := (hbel.alloc hz _).grown hgrow (by rw [World.size_alloc]; omega) (fun k e => by cases e; exact hz)
        have hcv := conv_own hown3 (by simp)
        clear hown2
        go_wp2_with fail
        go_ret
        exact ⟨by rw [HT.out, ← eds.out]; rfl, hb2⟩

theorem decimal_any (x : Int) (w : World) (h1 : -32768 ≤ x) (h2 : x ≤ 32767) :
    Calls Tryz.prog 13 #[.int .i64 x] w fun e w' => e = .returned (.string ⟨(Lib.itoa x).toArray⟩) ∧ Below w.heap.size w w' := by
  by_cases h : 0 ≤ x
  · obtain ⟨n, rfl⟩ := Int.eq_ofNat_of_zero_le h
    exact decimal_pos n w (by omega)
  · obtain ⟨n, hn⟩ := Int.eq_ofNat_of_zero_le (a := -x) (by omega)
    have e : x = -(n : Int) := by omega
    subst e
    exact decimal_neg n w _ (by omega) h1 rfl (by omega)
end Go.Proofs.YtjamknejllbmkaaGreatDoor.Tm
