/- The contract of the reference's term, one level deeper, out of its parts'. -/
import Derived.Test.YtcjpepbajcdenaaDoorRefSaid
namespace Go.Proofs.YtcjpepbajcdenaaDoor
open Go.RowKit
set_option linter.unusedVariables false

theorem at_lt {s : ByteArray} {a : Nat} (h : a < s.size) : s.data.toList[a]? = some s[a] := by
  rw [List.getElem?_eq_getElem (by simpa using h)]; rfl
theorem byte_is {c : UInt8} {n : Nat} (hn : n < 256) (h : (c.toNat : Int) = (n : Int)) : c = UInt8.ofNat n := by
  apply UInt8.toNat_inj.1
  simp; omega
theorem byte_no {s : ByteArray} {a : Nat} (h : a < s.size) (c : UInt8) (hc : ((s[a].toNat : Int) == (c.toNat : Int)) = false) : s.data.toList[a]? ≠ some c := by
  rw [at_lt h]
  intro e
  have e := Option.some.inj e
  rw [e] at hc; simp at hc
theorem byte_yes {s : ByteArray} {a : Nat} (h : a < s.size) (c : UInt8) (hc : ((s[a].toNat : Int) == (c.toNat : Int)) = true) : s.data.toList[a]? = some c := by
  rw [at_lt h]
  congr 1
  apply UInt8.toNat_inj.1
  have := beq_iff_eq.1 hc
  omega

/-- Nothing is read: the answer is -1. -/
theorem gotr_bad {s : ByteArray} {a B : Nat} {w : World} {o : Option Rd} {k x : Int} {v : Value} (h : o = none) : GotR s a B w o k x v (-1) := by subst h; exact Or.inl rfl

theorem nc_byte {s : ByteArray} {n : Nat} (h : NcAt s n) : ∃ hlt : n < s.size, isNC s[n] = true := by
  obtain ⟨c, hc, hn⟩ := h
  have hlt : n < s.size := by have := lt_of_at hc; simpa using this
  refine ⟨hlt, ?_⟩
  rw [at_lt hlt] at hc
  rw [Option.some.inj hc]; exact hn

set_option maxHeartbeats 1600000 in
set_option maxRecDepth 100000 in
theorem rterm_end (f : Nat) (s : ByteArray) (a : Nat) (w : World) (ha : a ≤ s.size) (hge : s.size ≤ a) (hs : s.size ≤ 1024) :
    Calls Tryd.prog 25 #[.string s, .int .i64 (a : Int)] w fun e w' => ∃ k x v to, e = .returned (.agg #[.int .i64 k, .int .i64 x, v, .int .i64 to]) ∧
      Below w.heap.size w w' ∧ (∃ g n c, v = .slice g n c) ∧ GotR s a w.heap.size w' (T (f + 1) (fr s a)) k x v to := by
  have hge' : (s.size : Int) ≤ (a : Int) := by omega
  have HN : Hid (T (f + 1) (fr s a) = none) := by
    show T (f + 1) (fr s a) = none
    have e : s.data.toList[a]? = none := List.getElem?_eq_none (by simpa using hge)
    rw [T_is_num f s a (by rw [e]; simp) (by rw [e]; simp) (by rw [e]; simp)]
    have e2 : fr s a = [] := by unfold fr; exact List.drop_of_length_le (by simpa using hge)
    rw [e2]; rfl
  go_enter Tryd.func25, Tryd.ntmps25
  go_wp2_with fail
  refine (bad_any _).mono ?_
  rintro e w2 ⟨rfl, hb2⟩
  obtain ⟨hc, hfz⟩ := bcell hb2
  have hz : w.heap.size < w2.heap.size := by have := hb2.size; simp at this; omega
  have h02 : Below w.heap.size w w2 := ((Below.refl _ _).alloc (Nat.le_refl _) _).trans (hb2.mono (by simp))
  go_wp2_with fail
  refine bodyPost_ret (v := .agg #[.int .i64 0, .int .i64 0, .slice none 0 0, .int .i64 (-1)]) (by simp [results, Tryd.results25, go_sem, hc]) rfl ⟨0, 0, _, _, rfl, ?_, ⟨_, _, _, rfl⟩, ?_⟩
  · exact (((h02.setCell (Nat.le_refl _) _).setCell (Nat.le_refl _) _).setCell (Nat.le_refl _) _).setCell (Nat.le_refl _) _
  · exact gotr_bad HN.out

set_option maxHeartbeats 1600000 in
set_option maxRecDepth 100000 in
theorem rterm_num (f : Nat) (s : ByteArray) (a : Nat) (w : World) (hlt : a < s.size) (hs : s.size ≤ 1024) (h95 : ((s[a].toNat : Int) == 95) = false) (h33 : ((s[a].toNat : Int) == 33) = false) (h64 : ((s[a].toNat : Int) == 64) = false) (h45 : ((s[a].toNat : Int) == 45) = false) :
    Calls Tryd.prog 25 #[.string s, .int .i64 (a : Int)] w fun e w' => ∃ k x v to, e = .returned (.agg #[.int .i64 k, .int .i64 x, v, .int .i64 to]) ∧
      Below w.heap.size w w' ∧ (∃ g n c, v = .slice g n c) ∧ GotR s a w.heap.size w' (T (f + 1) (fr s a)) k x v to := by
  have HT : Hid (T (f + 1) (fr s a) = numT (fr s a)) := T_is_num f s a (byte_no hlt 95 h95) (byte_no hlt 33 h33) (byte_no hlt 64 h64)
  have c45 : Hid (s.data.toList[a]? ≠ some 45) := byte_no hlt 45 h45
  have hlt' : (a : Int) < (s.size : Int) := by omega
  go_enter Tryd.func25, Tryd.ntmps25
  go_wp2_with fail
  refine (digits_at s a _ hs).mono ?_
  rintro e w' ⟨x, k, rfl, rfl, hq⟩
  have HQ : Hid (DigQ (fr s a) x k) := hq
  have hk1 := hq.1
  rw [fr_len] at hk1
  have hk6 := hq.2.1
  have hxb : x < 1000000 := by
    have h1 := Lib.decFrom_lt _ 0 x hq.2.2.1
    have h2 : ((fr s a).take k).length ≤ 6 := by rw [List.length_take]; omega
    have h3 := Nat.pow_le_pow_right (n := 10) (by decide) h2
    have e : (10 : Nat) ^ 6 = 1000000 := by decide
    omega
  clear hq
  by_cases hk : k = 0
  · have hkb : ((k : Int) == 0) = true := by simp [hk]
    have HN : Hid (T (f + 1) (fr s a) = none) := HT.out.trans (r_num_bad c45.out HQ.out (Or.inl hk))
    clear hk
    go_wp2_with fail
    refine (bad_any _).mono ?_
    rintro e w2 ⟨rfl, hb2⟩
    obtain ⟨hc, hfz⟩ := bcell hb2
    have hz : w.heap.size < w2.heap.size := by have := hb2.size; simp at this; omega
    have h02 : Below w.heap.size w w2 := ((Below.refl _ _).alloc (Nat.le_refl _) _).trans (hb2.mono (by simp))
    go_wp2_with fail
    refine bodyPost_ret (v := .agg #[.int .i64 0, .int .i64 0, .slice none 0 0, .int .i64 (-1)]) (by simp [results, Tryd.results25, go_sem, hc]) rfl ⟨0, 0, _, _, rfl, ?_, ⟨_, _, _, rfl⟩, ?_⟩
    · exact (((h02.setCell (Nat.le_refl _) _).setCell (Nat.le_refl _) _).setCell (Nat.le_refl _) _).setCell (Nat.le_refl _) _
    · exact gotr_bad HN.out
  · have hkb : ((k : Int) == 0) = false := by simp; exact hk
    cases hm : mayB (x : Int) with
    | false =>
      have HN : Hid (T (f + 1) (fr s a) = none) := HT.out.trans (r_num_bad c45.out HQ.out (Or.inr hm))
      clear hk
      go_wp2_with (go_at_call 30; refine (nummay_any _ _).mono ?_; rintro e w' ⟨rfl, rfl⟩)
      refine (bad_any _).mono ?_
      rintro e w2 ⟨rfl, hb2⟩
      obtain ⟨hc, hfz⟩ := bcell hb2
      have hz : w.heap.size < w2.heap.size := by have := hb2.size; simp at this; omega
      have h02 : Below w.heap.size w w2 := ((Below.refl _ _).alloc (Nat.le_refl _) _).trans (hb2.mono (by simp))
      go_wp2_with fail
      refine bodyPost_ret (v := .agg #[.int .i64 0, .int .i64 0, .slice none 0 0, .int .i64 (-1)]) (by simp [results, Tryd.results25, go_sem, hc]) rfl ⟨0, 0, _, _, rfl, ?_, ⟨_, _, _, rfl⟩, ?_⟩
      · exact (((h02.setCell (Nat.le_refl _) _).setCell (Nat.le_refl _) _).setCell (Nat.le_refl _) _).setCell (Nat.le_refl _) _
      · exact gotr_bad HN.out
    | true =>
      have HK : Hid _ := r_num_ok HQ.out hk hm
      clear hk
      go_wp2_with (go_at_call 30; refine (nummay_any _ _).mono ?_; rintro e w' ⟨rfl, rfl⟩)
      refine bodyPost_ret (v := .agg #[.int .i64 1, .int .i64 (x : Int), .slice none 0 0, .int .i64 ((a : Int) + (k : Int))]) (by simp [results, Tryd.results25, go_sem]) rfl ⟨1, (x : Int), _, _, rfl, ?_, ⟨_, _, _, rfl⟩, ?_⟩
      · exact (Below.refl _ _).alloc (Nat.le_refl _) _
      · rw [HT.out]
        rcases HK.out with e | ⟨e, hn⟩
        · rw [e]; exact ⟨rfl, rfl, rfl, World.ownsRow_nil _ _ _ _⟩
        · rw [e]; exact Or.inr ⟨a + k, by omega, by omega, hn⟩

set_option maxHeartbeats 1600000 in
set_option maxRecDepth 100000 in
theorem rterm_minus (f : Nat) (s : ByteArray) (a : Nat) (w : World) (hlt : a < s.size) (hs : s.size ≤ 1024) (h95 : ((s[a].toNat : Int) == 95) = false) (h33 : ((s[a].toNat : Int) == 33) = false) (h64 : ((s[a].toNat : Int) == 64) = false) (h45 : ((s[a].toNat : Int) == 45) = true) :
    Calls Tryd.prog 25 #[.string s, .int .i64 (a : Int)] w fun e w' => ∃ k x v to, e = .returned (.agg #[.int .i64 k, .int .i64 x, v, .int .i64 to]) ∧
      Below w.heap.size w w' ∧ (∃ g n c, v = .slice g n c) ∧ GotR s a w.heap.size w' (T (f + 1) (fr s a)) k x v to := by
  have HT : Hid (T (f + 1) (fr s a) = numT (fr s a)) := T_is_num f s a (byte_no hlt 95 h95) (byte_no hlt 33 h33) (byte_no hlt 64 h64)
  have c45 : Hid (s.data.toList[a]? = some 45) := byte_yes hlt 45 h45
  have hlt' : (a : Int) + 1 ≤ (s.size : Int) := by omega
  go_enter Tryd.func25, Tryd.ntmps25
  go_wp2_with fail
  refine (digits_at s (a + 1) _ hs).mono ?_
  rintro e w' ⟨x, k, rfl, rfl, hq⟩
  have HQ : Hid (DigQ (fr s (a + 1)) x k) := hq
  have hk1 := hq.1
  rw [fr_len] at hk1
  have hk6 := hq.2.1
  have hxb : x < 1000000 := by
    have h1 := Lib.decFrom_lt _ 0 x hq.2.2.1
    have h2 : ((fr s (a + 1)).take k).length ≤ 6 := by rw [List.length_take]; omega
    have h3 := Nat.pow_le_pow_right (n := 10) (by decide) h2
    have e : (10 : Nat) ^ 6 = 1000000 := by decide
    omega
  clear hq
  by_cases hk : k = 0
  · have hkb : ((k : Int) == 0) = true := by simp [hk]
    have HN : Hid (T (f + 1) (fr s a) = none) := HT.out.trans (r_minus_bad c45.out HQ.out (Or.inl hk))
    clear hk
    go_wp2_with fail
    refine (bad_any _).mono ?_
    rintro e w2 ⟨rfl, hb2⟩
    obtain ⟨hc, hfz⟩ := bcell hb2
    have hz : w.heap.size < w2.heap.size := by have := hb2.size; simp at this; omega
    have h02 : Below w.heap.size w w2 := ((Below.refl _ _).alloc (Nat.le_refl _) _).trans (hb2.mono (by simp))
    go_wp2_with fail
    refine bodyPost_ret (v := .agg #[.int .i64 0, .int .i64 0, .slice none 0 0, .int .i64 (-1)]) (by simp [results, Tryd.results25, go_sem, hc]) rfl ⟨0, 0, _, _, rfl, ?_, ⟨_, _, _, rfl⟩, ?_⟩
    · exact (((h02.setCell (Nat.le_refl _) _).setCell (Nat.le_refl _) _).setCell (Nat.le_refl _) _).setCell (Nat.le_refl _) _
    · exact gotr_bad HN.out
  · have hkb : ((k : Int) == 0) = false := by simp; exact hk
    by_cases hx : x = 0
    · have hxb0 : ((x : Int) == 0) = true := by simp [hx]
      have HN : Hid (T (f + 1) (fr s a) = none) := HT.out.trans (r_minus_bad c45.out HQ.out (Or.inr (Or.inl hx)))
      clear hk hx
      go_wp2_with fail
      refine (bad_any _).mono ?_
      rintro e w2 ⟨rfl, hb2⟩
      obtain ⟨hc, hfz⟩ := bcell hb2
      have hz : w.heap.size < w2.heap.size := by have := hb2.size; simp at this; omega
      have h02 : Below w.heap.size w w2 := ((Below.refl _ _).alloc (Nat.le_refl _) _).trans (hb2.mono (by simp))
      go_wp2_with fail
      refine bodyPost_ret (v := .agg #[.int .i64 0, .int .i64 0, .slice none 0 0, .int .i64 (-1)]) (by simp [results, Tryd.results25, go_sem, hc]) rfl ⟨0, 0, _, _, rfl, ?_, ⟨_, _, _, rfl⟩, ?_⟩
      · exact (((h02.setCell (Nat.le_refl _) _).setCell (Nat.le_refl _) _).setCell (Nat.le_refl _) _).setCell (Nat.le_refl _) _
      · exact gotr_bad HN.out
    · have hxb0 : ((x : Int) == 0) = false := by simp; exact hx
      cases hm : mayB (-(x : Int)) with
      | false =>
        have HN : Hid (T (f + 1) (fr s a) = none) := HT.out.trans (r_minus_bad c45.out HQ.out (Or.inr (Or.inr hm)))
        clear hk hx
        go_wp2_with (go_at_call 30; refine (nummay_any _ _).mono ?_; rintro e w' ⟨rfl, rfl⟩)
        refine (bad_any _).mono ?_
        rintro e w2 ⟨rfl, hb2⟩
        obtain ⟨hc, hfz⟩ := bcell hb2
        have hz : w.heap.size < w2.heap.size := by have := hb2.size; simp at this; omega
        have h02 : Below w.heap.size w w2 := ((Below.refl _ _).alloc (Nat.le_refl _) _).trans (hb2.mono (by simp))
        go_wp2_with fail
        refine bodyPost_ret (v := .agg #[.int .i64 0, .int .i64 0, .slice none 0 0, .int .i64 (-1)]) (by simp [results, Tryd.results25, go_sem, hc]) rfl ⟨0, 0, _, _, rfl, ?_, ⟨_, _, _, rfl⟩, ?_⟩
        · exact (((h02.setCell (Nat.le_refl _) _).setCell (Nat.le_refl _) _).setCell (Nat.le_refl _) _).setCell (Nat.le_refl _) _
        · exact gotr_bad HN.out
      | true =>
        have HK : Hid _ := r_minus_ok c45.out HQ.out hk hx hm
        clear hk hx
        go_wp2_with (go_at_call 30; refine (nummay_any _ _).mono ?_; rintro e w' ⟨rfl, rfl⟩)
        refine bodyPost_ret (v := .agg #[.int .i64 1, .int .i64 (-(x : Int)), .slice none 0 0, .int .i64 ((a : Int) + 1 + (k : Int))]) (by simp [results, Tryd.results25, go_sem]) rfl ⟨1, -(x : Int), _, _, rfl, ?_, ⟨_, _, _, rfl⟩, ?_⟩
        · exact (Below.refl _ _).alloc (Nat.le_refl _) _
        · rw [HT.out]
          rcases HK.out with e | ⟨e, hn⟩
          · rw [e]; exact ⟨rfl, rfl, by omega, World.ownsRow_nil _ _ _ _⟩
          · rw [e]; exact Or.inr ⟨a + 1 + k, by omega, by omega, hn⟩
end Go.Proofs.YtcjpepbajcdenaaDoor
