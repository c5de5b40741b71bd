/- What the reference's digits tell, held against the numerals that package term reads. Nothing of the program is walked here. -/
import Derived.Test.YtcjpepbajcdenaaDoorDigits
namespace Go.Proofs.YtcjpepbajcdenaaDoor
open Go.RowKit
set_option linter.unusedVariables false

theorem decFrom_mono {l r : List UInt8} {acc a v : Nat} (h : Lib.decFrom acc l = some a) (h2 : Lib.decFrom acc (l ++ r) = some v) : a ≤ v := by
  rw [decFrom_append l r acc a h] at h2
  exact decNat_digits.decFrom_ge r a v h2

/-- The digits are a beginning of the numeral. -/
theorem take_numPart {l : List UInt8} {x k : Nat} (h : DigQ l x k) : ∃ r, numPart l = l.take k ++ r := by
  obtain ⟨h1, _, h3, _, _⟩ := h
  have key : ∀ (k : Nat) (l : List UInt8), k ≤ l.length → (∀ i c, i < k → l[i]? = some c → isNC c = true) → ∃ r, numPart l = l.take k ++ r := by
    intro k
    induction k with
    | zero => intro l _ _; exact ⟨numPart l, by simp⟩
    | succ k ih =>
      intro l hk hc
      cases l with
      | nil => simp at hk
      | cons c l =>
        obtain ⟨r, hr⟩ := ih l (by simpa using hk) (fun i d hi hd => hc (i + 1) d (by omega) (by simpa using hd))
        refine ⟨r, ?_⟩
        have hcc := hc 0 c (by omega) rfl
        show (c :: l).takeWhile isNC = _
        rw [List.takeWhile_cons, if_pos hcc]
        show c :: numPart l = _
        rw [hr]; rfl
  refine key k l h1 (fun i c hi hc => ?_)
  obtain ⟨d, hd⟩ := Lib.digit_of_decFrom _ 0 x h3 i c (by rw [List.getElem?_take, if_pos hi]; exact hc)
  exact isNC_dg (dg_of_val hd)

theorem digit_first {l : List UInt8} {x k : Nat} (h : DigQ l x k) (hk : k ≠ 0) : ∃ c l', l = c :: l' ∧ isDg c = true := by
  obtain ⟨h1, _, h3, _, _⟩ := h
  cases l with
  | nil => simp at h1; omega
  | cons c l' =>
    refine ⟨c, l', rfl, ?_⟩
    obtain ⟨d, hd⟩ := Lib.digit_of_decFrom _ 0 x h3 0 c (by rw [List.getElem?_take, if_pos (by omega)]; rfl)
    exact dg_of_val hd

theorem dg_not_minus {c : UInt8} (h : isDg c = true) : c ≠ 45 := by
  intro e; subst e; simp [isDg] at h

/-- A numeral that opens with a digit: its value is that of its digits. -/
theorem canon_dg {c : UInt8} {r : List UInt8} {v : Int} (hc : isDg c = true) (h : canon (c :: r) = some v) : ∃ m : Nat, v = (m : Int) ∧ Lib.decFrom 0 (c :: r) = some m ∧ (c = 48 → r = []) := by
  rw [canon, if_neg (dg_not_minus hc)] at h
  by_cases h48 : c = 48
  · rw [if_pos h48] at h
    by_cases hr : r = []
    · rw [if_pos hr] at h
      have e := Option.some.inj h
      subst hr; subst h48
      exact ⟨0, e.symm, rfl, fun _ => rfl⟩
    · rw [if_neg hr] at h; cases h
  · rw [if_neg h48] at h
    cases hm : Lib.decNat (c :: r) with
    | none => rw [hm] at h; cases h
    | some m =>
      rw [hm] at h
      exact ⟨m, (Option.some.inj h).symm, (Lib.decNat_some hm).2, fun e => absurd e h48⟩
theorem canon_dg_mk {c : UInt8} {r : List UInt8} {m : Nat} (hc : isDg c = true) (h : Lib.decFrom 0 (c :: r) = some m) (hz : c = 48 → r = []) : canon (c :: r) = some (m : Int) := by
  rw [canon, if_neg (dg_not_minus hc)]
  by_cases h48 : c = 48
  · have hr := hz h48
    subst hr; subst h48
    rw [if_pos rfl, if_pos rfl]
    have e : Lib.decFrom 0 [48] = some 0 := rfl
    rw [e] at h
    have := Option.some.inj h
    subst this; rfl
  · rw [if_neg h48]
    have : Lib.decNat (c :: r) = some m := by unfold Lib.decNat; simpa using h
    rw [this]; rfl

/-- No digit at the front: what is read there is below 0, or nothing. -/
theorem dig_none {l : List UInt8} {x : Nat} (h : DigQ l x 0) : ∀ v, canon (numPart l) = some v → v < 0 := by
  intro v hv
  obtain ⟨_, _, _, _, hstop⟩ := h
  cases l with
  | nil => cases hv
  | cons c l' =>
    have hnd : isDg c = false := by
      rcases hstop with e | e | e | ⟨e, _⟩
      · simp at e
      · omega
      · exact e c rfl
      · exact absurd rfl e
    have hcc : c = 45 := by
      by_cases hn : isNC c = true
      · unfold isNC at hn; unfold isDg at hnd
        simp only [Bool.or_eq_true, beq_iff_eq] at hn
        rcases hn with e | e
        · exact e
        · rw [hnd] at e; cases e
      · unfold numPart at hv
        rw [List.takeWhile_cons, if_neg hn] at hv; cases hv
    subst hcc
    have e : numPart (45 :: l') = 45 :: numPart l' := by unfold numPart; rw [List.takeWhile_cons, if_pos (by decide)]
    rw [e, canon, if_pos rfl] at hv
    by_cases h48 : (numPart l').head? = some 48
    · rw [if_pos h48] at hv; cases hv
    · rw [if_neg h48] at hv
      cases hm : Lib.decNat (numPart l') with
      | none => rw [hm] at hv; cases hv
      | some m =>
        rw [hm] at hv
        have e : -(m : Int) = v := Option.some.inj hv
        cases ht : numPart l' with
        | nil => rw [ht] at hm; cases hm
        | cons d r =>
          rw [ht] at hm h48
          have := (decNat_digits (fun e => h48 (by rw [e]; rfl)) hm).2
          omega

/-- What stands there tells at least as much. -/
theorem dig_least {l : List UInt8} {x k : Nat} (h : DigQ l x k) (hk : k ≠ 0) : ∀ v, canon (numPart l) = some v → (x : Int) ≤ v := by
  intro v hv
  obtain ⟨r, hr⟩ := take_numPart h
  obtain ⟨c, l', rfl, hc⟩ := digit_first h hk
  obtain ⟨k', rfl⟩ : ∃ k', k = k' + 1 := ⟨k - 1, by omega⟩
  rw [List.take_succ_cons] at hr
  rw [hr, List.cons_append] at hv
  obtain ⟨m, rfl, hm, _⟩ := canon_dg hc hv
  have h3 := h.2.2.1
  rw [List.take_succ_cons] at h3
  have := decFrom_mono h3 (r := r) (by rw [List.cons_append]; exact hm)
  omega

/-- A small number: either just that stands there, or nothing that may be, and a digit or a sign follows. -/
theorem dig_small {l : List UInt8} {x k : Nat} (h : DigQ l x k) (hk : k ≠ 0) (hx : x < 100000) :
    ((numPart l).length = k ∧ canon (numPart l) = some (x : Int)) ∨ (canon (numPart l) = none ∧ ∃ c, l[k]? = some c ∧ isNC c = true) := by
  obtain ⟨r, hr⟩ := take_numPart h
  obtain ⟨c, l', rfl, hc⟩ := digit_first h hk
  obtain ⟨k', rfl⟩ : ∃ k', k = k' + 1 := ⟨k - 1, by omega⟩
  have hk1 := h.1
  have h3 := h.2.2.1
  cases r with
  | nil =>
    rw [List.append_nil] at hr
    refine Or.inl ⟨by rw [hr, List.length_take]; omega, ?_⟩
    rw [hr]
    rw [List.take_succ_cons] at h3 ⊢
    refine canon_dg_mk hc h3 (fun e => ?_)
    have h4 := h.2.2.2.1
    by_cases h2 : 2 ≤ k' + 1
    · exact absurd (by rw [e]; rfl) (h4 h2)
    · have : k' = 0 := by omega
      subst this; rfl
  | cons d r =>
    have hd : isNC d = true := numPart_all (c :: l') d (by rw [hr]; simp)
    have hat : (c :: l')[k' + 1]? = some d := by
      have e1 : (numPart (c :: l'))[k' + 1]? = some d := by
        rw [hr, List.getElem?_append_right (by rw [List.length_take]; omega), List.length_take]
        rw [show k' + 1 - min (k' + 1) (c :: l').length = 0 by omega]; rfl
      have e2 := numPart_take (c :: l')
      rw [← e2, List.getElem?_take] at e1
      split at e1
      · exact e1
      · cases e1
    refine Or.inr ⟨?_, d, hat, hd⟩
    cases hv : canon (numPart (c :: l')) with
    | none => rfl
    | some v =>
      exfalso
      have hle := dig_least h hk v hv
      rw [hr] at hv
      rw [List.take_succ_cons, List.cons_append] at hv
      obtain ⟨m, rfl, hm, hz⟩ := canon_dg hc hv
      rcases h.2.2.2.2 with e | e | e | ⟨_, e⟩
      · have := lt_of_at hat; omega
      · -- six digits
        have h4 := h.2.2.2.1 (by omega)
        have hc48 : c ≠ 48 := fun e => h4 (by rw [e]; rfl)
        have hk' : k' = 5 := by omega
        subst hk'
        have hn : Lib.decNat ((c :: l').take 6) = some x := by
          rw [List.take_succ_cons] at h3 ⊢
          unfold Lib.decNat; simpa using h3
        rw [List.take_succ_cons] at hn
        have hdd := (decNat_digits hc48 hn).1
        have hlen := Lib.decDigits_length x
        rw [hdd] at hlen
        have hl6 : (c :: l'.take 5).length = 6 := by
          rw [List.length_cons, List.length_take]; simp at hk1; omega
        rw [hl6] at hlen
        have hlt := Lib.lt_pow_nDigits x
        have : Lib.nDigits x ≤ 5 := by
          rcases Nat.lt_or_ge x 10 with h | h
          · rw [Lib.nDigits_small h]; omega
          rcases Nat.lt_or_ge x 100 with h' | h'
          · rw [Lib.nDigits_unique 1 x (by omega) (by omega)]; omega
          rcases Nat.lt_or_ge x 1000 with h'' | h''
          · rw [Lib.nDigits_unique 2 x (by omega) (by omega)]; omega
          rcases Nat.lt_or_ge x 10000 with h3 | h3
          · rw [Lib.nDigits_unique 3 x (by omega) (by omega)]; omega
          · rw [Lib.nDigits_unique 4 x (by omega) (by omega)]; omega
        omega
      · -- no digit: a sign
        have hnd := e d hat
        obtain ⟨dd, hdd⟩ := Lib.digit_of_decFrom _ 0 m hm (k' + 1) d (by
          have : (c :: (l'.take k' ++ d :: r))[k' + 1]? = (l'.take k' ++ d :: r)[k']? := rfl
          rw [this, List.getElem?_append_right (by rw [List.length_take]; omega), List.length_take]
          simp at hk1
          rw [show k' - min k' l'.length = 0 by omega]; rfl)
        rw [dg_of_val hdd] at hnd; cases hnd
      · have hc48 : c = 48 := by simpa using e
        have := hz hc48
        simp at this

/-- Behind a minus. -/
theorem minus_part (l : List UInt8) : numPart (45 :: l) = 45 :: numPart l := by unfold numPart; rw [List.takeWhile_cons, if_pos (by decide)]
theorem minus_none {l : List UInt8} {x : Nat} (h : DigQ l x 0) : canon (numPart (45 :: l)) = none := by
  rw [minus_part, canon, if_pos rfl]
  split
  · rfl
  · cases hm : Lib.decNat (numPart l) with
    | none => rfl
    | some m =>
      exfalso
      obtain ⟨hne, hd⟩ := Lib.decNat_some hm
      cases ht : numPart l with
      | nil => exact hne ht
      | cons c r =>
        rw [ht] at hd
        obtain ⟨dd, hdd⟩ := Lib.digit_of_decFrom _ 0 m hd 0 c rfl
        have hdg := dg_of_val hdd
        have hl0 : l[0]? = some c := by
          have e2 := numPart_take l
          rw [ht] at e2
          cases l with
          | nil => cases ht
          | cons a l' => rw [List.length_cons, List.take_succ_cons] at e2; injection e2 with e3 _; rw [← e3]; rfl
        rcases h.2.2.2.2 with e | e | e | ⟨e, _⟩
        · have := lt_of_at hl0; omega
        · omega
        · rw [e c hl0] at hdg; cases hdg
        · exact e rfl
theorem minus_some {l : List UInt8} {x k : Nat} (h : DigQ l x k) (hk : k ≠ 0) : (x = 0 → canon (numPart (45 :: l)) = none) ∧ (x ≠ 0 → canon (numPart (45 :: l)) = (canon (numPart l)).map fun v => -v) := by
  obtain ⟨r, hr⟩ := take_numPart h
  obtain ⟨c, l', rfl, hc⟩ := digit_first h hk
  obtain ⟨k', rfl⟩ : ∃ k', k = k' + 1 := ⟨k - 1, by omega⟩
  have h3 := h.2.2.1
  rw [List.take_succ_cons] at hr h3
  rw [minus_part, hr, List.cons_append]
  have hx0 : c = 48 → x = 0 := by
    intro e
    have h4 := h.2.2.2.1
    have : k' = 0 := by
      by_cases h2 : 2 ≤ k' + 1
      · exact absurd (by rw [e]; rfl) (h4 h2)
      · omega
    subst this; subst e
    have e2 : Lib.decFrom 0 (48 :: l'.take 0) = some 0 := rfl
    rw [e2] at h3; exact (Option.some.inj h3).symm
  have hx1 : c ≠ 48 → 1 ≤ x := by
    intro e
    have hn : Lib.decNat (c :: l'.take k') = some x := by unfold Lib.decNat; simpa using h3
    exact (decNat_digits e hn).2
  constructor
  · intro e
    have h48 : c = 48 := by
      by_cases h48 : c = 48
      · exact h48
      · have := hx1 h48; omega
    rw [canon, if_pos rfl, if_pos (by rw [h48]; rfl)]
  · intro e
    have h48 : c ≠ 48 := fun e2 => e (hx0 e2)
    rw [canon, if_pos rfl, if_neg (by intro e2; exact h48 (by simpa using e2)), canon, if_neg (dg_not_minus hc), if_neg h48, Option.map_map]
    rfl
end Go.Proofs.YtcjpepbajcdenaaDoor
