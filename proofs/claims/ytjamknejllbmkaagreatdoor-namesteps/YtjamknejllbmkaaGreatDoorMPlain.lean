/- The words of a text, as a plain function over lists of bytes, and what it says of texts put together. · Which texts are terms, as plain functions over lists of bytes: a number's digits, the reader of one term, its parts, the text of parts; and what holds of them. Nothing of the program is named here. · Terms as plain functions, second part: what stands behind a term turns nothing, deeper fuel turns nothing, a term's text is that of its parts, and the text of parts has just these parts. · Definitions as plain data, and which of them may be: in the way of package expr and in the way of the document's answer; both say the same. · Programs as plain data, and which of them may be; two definitions that change places, with their calls, turn nothing. · Programs as words: package parse's way, as plain functions over lists of words. · What the plain reading of words keeps: it takes words from the front, the body only grows. -/
import Derived.WalkKit
import Derived.Lib.ItoaNum
import Derived.Lib.Atoi
import Derived.Lib.AtoiAll
import Derived.Lib.AtoiTie
import Derived.Lib.ItoaMem

namespace Go.Proofs.YtjamknejllbmkaaGreatDoor.Lx

/-- May the byte stand in a text? -/
def okB (b : UInt8) : Bool := b == 10 || (decide (32 ≤ b.toNat) && decide (b.toNat ≤ 126))
/-- Does a word bear it beside others? -/
def plB (b : UInt8) : Bool := b != 10 && b != 32 && b != 40 && b != 41 && b != 35
def fl (w : List UInt8) : List (List UInt8) := match w with | [] => [] | _ => [w]
def br (b : UInt8) : List (List UInt8) := if b == 40 || b == 41 then [[b]] else []
/-- The words still to come: within a remark?, the word so far, the rest of the text. -/
def wd : Bool → List UInt8 → List UInt8 → List (List UInt8)
  | _, w, [] => fl w
  | r, w, c :: s => if r = true then (if (c == 10) = true then fl w ++ wd false [] s else wd true w s)
      else if plB c = true then wd false (w ++ [c]) s else fl w ++ (br c ++ wd (c == 35) [] s)

theorem wd_nil (r : Bool) (w : List UInt8) : wd r w [] = fl w := rfl
theorem wd_rem (w : List UInt8) (c : UInt8) (s : List UInt8) : wd true w (c :: s) = if (c == 10) = true then fl w ++ wd false [] s else wd true w s := rfl
theorem wd_cons (w : List UInt8) (c : UInt8) (s : List UInt8) : wd false w (c :: s) = if plB c = true then wd false (w ++ [c]) s else fl w ++ (br c ++ wd (c == 35) [] s) := rfl
theorem fl_ne {w : List UInt8} (h : w ≠ []) : fl w = [w] := by cases w with | nil => exact absurd rfl h | cons => rfl

/-- A line end parts a text. -/
theorem wd_line (t : List UInt8) : ∀ (s : List UInt8) (r : Bool) (w : List UInt8), wd r w (s ++ 10 :: t) = wd r w s ++ wd false [] t
  | [], true, w => by simp [wd]
  | [], false, w => by
    rw [List.nil_append, wd_cons, if_neg (by decide), wd_nil]
    rfl
  | c :: s, true, w => by
    rw [List.cons_append, wd_rem, wd_rem, wd_line t s false [], wd_line t s true w]
    split <;> simp
  | c :: s, false, w => by
    rw [List.cons_append, wd_cons, wd_cons, wd_line t s false, wd_line t s (c == 35)]
    split <;> simp

theorem wd_remark (w : List UInt8) : ∀ s : List UInt8, (∀ b ∈ s, b ≠ 10) → wd true w s = fl w
  | [], _ => rfl
  | c :: s, h => by
    have hc : (c == 10) = false := by simpa using h c (by simp)
    rw [wd_rem, hc, if_neg (by decide)]
    exact wd_remark w s fun b hb => h b (by simp [hb])

/-- Of a line nothing counts behind the first remark. -/
theorem wd_said : ∀ (s : List UInt8) (w : List UInt8), (∀ b ∈ s, b ≠ 10) → wd false w (s.takeWhile (· != 35)) = wd false w s
  | [], _, _ => rfl
  | c :: s, w, h => by
    have hs : ∀ b ∈ s, b ≠ 10 := fun b hb => h b (by simp [hb])
    by_cases hc : c = 35
    · subst hc
      rw [List.takeWhile_cons_of_neg (by decide), wd_cons, if_neg (by decide), wd_nil]
      show fl w = fl w ++ (br 35 ++ wd true [] s)
      rw [wd_remark [] s hs]
      show fl w = fl w ++ ([] ++ [])
      simp
    · have e : (c == 35) = false := by simpa using hc
      rw [List.takeWhile_cons_of_pos (by simpa using hc), wd_cons, wd_cons, e, wd_said s _ hs, wd_said s _ hs]

/-- What a word bears makes the word longer. -/
theorem wd_more (x : List UInt8) : ∀ (p w : List UInt8), (∀ b ∈ p, plB b = true) → wd false w (p ++ x) = wd false (w ++ p) x
  | [], w, _ => by simp
  | c :: p, w, h => by
    rw [List.cons_append, wd_cons, if_pos (h c (by simp)), wd_more x p _ (fun b hb => h b (by simp [hb]))]
    simp
/-- What no word bears ends it. -/
theorem wd_ends {w : List UInt8} (hw : w ≠ []) {d : UInt8} (hd : plB d = false) (r : List UInt8) : wd false w (d :: r) = w :: wd false [] (d :: r) := by
  rw [wd_cons, wd_cons, hd, fl_ne hw]
  rfl
theorem wd_blank : ∀ x : List UInt8, wd false [] (x.dropWhile (· == 32)) = wd false [] x
  | [] => rfl
  | c :: x => by
    by_cases hc : c = 32
    · subst hc
      rw [List.dropWhile_cons_of_pos (by decide), wd_blank x]
      rfl
    · rw [List.dropWhile_cons_of_neg (by simpa using hc)]
theorem wd_bracket {c : UInt8} (h : c = 40 ∨ c = 41) (r : List UInt8) : wd false [] (c :: r) = [c] :: wd false [] r := by
  rcases h with rfl | rfl <;> rfl

theorem fl_length (w : List UInt8) : (fl w).length ≤ 1 := by cases w <;> simp [fl]
theorem fl_snoc (w : List UInt8) (c : UInt8) : (fl (w ++ [c])).length = 1 := by cases w <;> simp [fl]
theorem br_length (c : UInt8) : (br c).length ≤ 1 := by unfold br; split <;> simp
theorem wd_length : ∀ (s : List UInt8) (r : Bool) (w : List UInt8), (wd r w s).length ≤ s.length + (fl w).length
  | [], _, w => by simp [wd]
  | c :: s, true, w => by
    have h1 := wd_length s false []
    have h2 := wd_length s true w
    have h3 : (fl ([] : List UInt8)).length = 0 := rfl
    rw [wd_rem]
    split <;> simp only [List.length_append, List.length_cons] <;> omega
  | c :: s, false, w => by
    have h1 := wd_length s false (w ++ [c])
    have h2 := wd_length s (c == 35) []
    have h3 : (fl ([] : List UInt8)).length = 0 := rfl
    have h4 := br_length c
    have h5 := fl_snoc w c
    rw [wd_cons]
    split
    · rename_i hp
      simp only [List.length_cons]
      omega
    · simp only [List.length_append, List.length_cons]; omega
theorem wd_short (s : List UInt8) : (wd false [] s).length ≤ s.length := by have := wd_length s false []; simpa [fl] using this

theorem mem_fl {x w : List UInt8} (h : x ∈ fl w) : x = w ∧ w ≠ [] := by
  cases w with
  | nil => simp [fl] at h
  | cons => simp [fl] at h; subst h; simp
/-- What a word is. -/
theorem wd_shape : ∀ (s : List UInt8) (r : Bool) (w : List UInt8), (∀ b ∈ w, plB b = true) → ∀ x ∈ wd r w s, x ≠ [] ∧ x.length ≤ w.length + s.length ∧ ((∀ b ∈ x, plB b = true) ∨ x = [40] ∨ x = [41])
  | [], _, w, hw, x, hx => by
    obtain ⟨rfl, hne⟩ := mem_fl (show x ∈ fl w from hx)
    exact ⟨hne, by simp, Or.inl hw⟩
  | c :: s, true, w, hw, x, hx => by
    rw [wd_rem] at hx
    split at hx
    · rcases List.mem_append.1 hx with hx | hx
      · obtain ⟨rfl, hne⟩ := mem_fl hx
        exact ⟨hne, by simp, Or.inl hw⟩
      · obtain ⟨h1, h2, h3⟩ := wd_shape s false [] (by simp) x hx
        exact ⟨h1, by simp at h2 ⊢; omega, h3⟩
    · obtain ⟨h1, h2, h3⟩ := wd_shape s true w hw x hx
      exact ⟨h1, by simp; omega, h3⟩
  | c :: s, false, w, hw, x, hx => by
    rw [wd_cons] at hx
    split at hx
    · rename_i hp
      obtain ⟨h1, h2, h3⟩ := wd_shape s false (w ++ [c]) (fun b hb => by
        rcases List.mem_append.1 hb with hb | hb
        · exact hw b hb
        · simp at hb; subst hb; exact hp) x hx
      exact ⟨h1, by simp at h2 ⊢; omega, h3⟩
    · rcases List.mem_append.1 hx with hx | hx
      · obtain ⟨rfl, hne⟩ := mem_fl hx
        exact ⟨hne, by simp, Or.inl hw⟩
      · rcases List.mem_append.1 hx with hx | hx
        · unfold br at hx
          split at hx
          · rename_i hc
            simp at hx; subst hx
            refine ⟨by simp, by simp; omega, Or.inr ?_⟩
            simpa using hc
          · simp at hx
        · obtain ⟨h1, h2, h3⟩ := wd_shape s (c == 35) [] (by simp) x hx
          exact ⟨h1, by simp at h2 ⊢; omega, h3⟩

/-- What stands between the line ends. -/
def ln : List UInt8 → List UInt8 → List (List UInt8)
  | a, [] => [a]
  | a, c :: s => if (c == 10) = true then a :: ln [] s else ln (a ++ [c]) s
theorem ln_more (x : List UInt8) : ∀ (p a : List UInt8), (∀ b ∈ p, b ≠ 10) → ln a (p ++ x) = ln (a ++ p) x
  | [], a, _ => by simp
  | c :: p, a, h => by
    have hc : (c == 10) = false := by simpa using h c (by simp)
    rw [List.cons_append, ln, hc, if_neg (by decide), ln_more x p _ (fun b hb => h b (by simp [hb]))]
    simp
theorem ln_all {p : List UInt8} (h : ∀ b ∈ p, b ≠ 10) : ln [] p = [p] := by
  have := ln_more [] p [] h
  rw [List.append_nil] at this
  rw [this]; rfl
theorem ln_part {p : List UInt8} (h : ∀ b ∈ p, b ≠ 10) (x : List UInt8) : ln [] (p ++ 10 :: x) = p :: ln [] x := by
  rw [ln_more _ p [] h]
  rfl
theorem ln_length : ∀ (s a : List UInt8), (ln a s).length ≤ s.length + 1
  | [], a => by simp [ln]
  | c :: s, a => by
    have h1 := ln_length s []
    have h2 := ln_length s (a ++ [c])
    rw [ln]
    split <;> simp only [List.length_cons] <;> omega
/-- What a line says. -/
def said (l : List UInt8) : List (List UInt8) := wd false [] (l.takeWhile (· != 35))
theorem ln_said : ∀ (s a : List UInt8), (∀ b ∈ a, b ≠ 10) → (ln a s).flatMap said = wd false [] (a ++ s)
  | [], a, h => by
    show [a].flatMap said = _
    rw [List.flatMap_cons, List.flatMap_nil, List.append_nil, List.append_nil]
    exact wd_said a [] h
  | c :: s, a, h => by
    rw [ln]
    by_cases hc : c = 10
    · subst hc
      rw [if_pos (by decide), List.flatMap_cons, ln_said s [] (by simp), wd_line]
      show wd false [] (a.takeWhile (· != 35)) ++ _ = _
      rw [wd_said a [] h]
      rfl
    · rw [if_neg (by simpa using hc), ln_said s (a ++ [c]) (fun b hb => by
        rcases List.mem_append.1 hb with hb | hb
        · exact h b hb
        · simp at hb; subst hb; exact hc)]
      simp
/-- A text that may be. -/
def good (s : List UInt8) : Bool := decide (s.length ≤ 2048) && s.all okB
end Go.Proofs.YtjamknejllbmkaaGreatDoor.Lx

namespace Go.Proofs.YtjamknejllbmkaaGreatDoor.Tm
open Go
set_option linter.unusedVariables false

/-- A digit or a sign. -/
def isNC (c : UInt8) : Bool := c == 45 || (decide (48 ≤ c.toNat) && decide (c.toNat ≤ 57))
/-- A digit. -/
def isDg (c : UInt8) : Bool := decide (48 ≤ c.toNat) && decide (c.toNat ≤ 57)
/-- The digits and signs at the front. -/
def numPart (l : List UInt8) : List UInt8 := l.takeWhile isNC
/-- What a numeral without noughts ahead tells. -/
def canon : List UInt8 → Option Int
  | [] => none
  | c :: r =>
    if c = 45 then (if r.head? = some 48 then none else (Lib.decNat r).map fun (m : Nat) => -(m : Int))
    else if c = 48 then (if r = [] then some 0 else none)
    else (Lib.decNat (c :: r)).map fun (m : Nat) => (m : Int)

theorem isNC_dg {c : UInt8} (h : isDg c = true) : isNC c = true := by
  unfold isNC; unfold isDg at h; simp at h ⊢; exact Or.inr h

theorem dg_val {c : UInt8} (h : isDg c = true) : Lib.digitVal c = some (c.toNat - 48) := by
  unfold Lib.digitVal; unfold isDg at h; simp at h; rw [if_pos h]
theorem dg_of_val {c : UInt8} {d : Nat} (h : Lib.digitVal c = some d) : isDg c = true := by
  have := Lib.digitVal_eq h; unfold isDg; simp; omega

theorem decDigits_step (a d : Nat) (ha : 1 ≤ a) (hd : d ≤ 9) : Lib.decDigits (a * 10 + d) = Lib.decDigits a ++ [UInt8.ofNat (48 + d)] := by
  rw [Lib.decDigits, dif_neg (by omega), show (a * 10 + d) / 10 = a by omega, show (a * 10 + d) % 10 = d by omega]

theorem digit_back {c : UInt8} {d : Nat} (h : Lib.digitVal c = some d) : UInt8.ofNat (48 + d) = c ∧ d ≤ 9 := by
  obtain ⟨h1, h2, h3⟩ := Lib.digitVal_eq h
  refine ⟨?_, by omega⟩
  rw [h3, show 48 + (c.toNat - 48) = c.toNat by omega]; simp

theorem decDigits_from : ∀ (l : List UInt8) (acc m : Nat), 1 ≤ acc → Lib.decFrom acc l = some m → Lib.decDigits m = Lib.decDigits acc ++ l
  | [], acc, m, _, h => by simp only [Lib.decFrom, Option.some.injEq] at h; subst h; simp
  | c :: r, acc, m, ha, h => by
    simp only [Lib.decFrom] at h
    cases hc : Lib.digitVal c with
    | none => simp [hc] at h
    | some d =>
      simp only [hc] at h
      obtain ⟨h1, h2⟩ := digit_back hc
      rw [decDigits_from r _ m (by omega) h, decDigits_step acc d ha h2, h1]; simp

theorem decNat_digits {c : UInt8} {r : List UInt8} {m : Nat} (hc : c ≠ 48) (h : Lib.decNat (c :: r) = some m) : Lib.decDigits m = c :: r ∧ 1 ≤ m := by
  obtain ⟨_, h⟩ := Lib.decNat_some h
  simp only [Lib.decFrom] at h
  cases hd : Lib.digitVal c with
  | none => simp [hd] at h
  | some d =>
    simp only [hd] at h
    obtain ⟨h1, h2⟩ := digit_back hd
    have hd0 : 1 ≤ d := by
      rcases Nat.eq_zero_or_pos d with e | e
      · subst e; exact absurd h1.symm hc
      · exact e
    rw [show 0 * 10 + d = d by omega] at h
    have key := decDigits_from r d m hd0 h
    refine ⟨?_, ?_⟩
    · rw [key, Lib.decDigits_one (by omega), h1]; rfl
    · have := decFrom_ge r d m h; omega
where
  decFrom_ge : ∀ (l : List UInt8) (acc m : Nat), Lib.decFrom acc l = some m → acc ≤ m
    | [], acc, m, h => by simp only [Lib.decFrom, Option.some.injEq] at h; omega
    | c :: r, acc, m, h => by
      simp only [Lib.decFrom] at h
      cases hc : Lib.digitVal c with
      | none => simp [hc] at h
      | some d =>
        simp only [hc] at h
        have := decFrom_ge r _ m h; omega

theorem itoa_zero : Lib.itoa 0 = [48] := by
  have := Lib.itoa_nonneg 0
  rw [Lib.decDigits_one (by omega)] at this
  simpa using this

/-- Written anew, it looks the same. -/
theorem canon_itoa {t : List UInt8} {v : Int} (h : canon t = some v) : Lib.itoa v = t := by
  cases t with
  | nil => cases h
  | cons c r =>
    rw [canon] at h
    by_cases h45 : c = 45
    · rw [if_pos h45] at h
      by_cases h48 : r.head? = some 48
      · rw [if_pos h48] at h; cases h
      · rw [if_neg h48] at h
        cases r with
        | nil => cases h
        | cons d r =>
          cases hm : Lib.decNat (d :: r) with
          | none => rw [hm] at h; cases h
          | some m =>
            rw [hm] at h
            have e : v = -(m : Int) := (Option.some.inj h).symm
            obtain ⟨k1, k2⟩ := decNat_digits (fun e => h48 (by rw [e]; rfl)) hm
            rw [e, Lib.itoa_neg m k2, k1, h45]
    · rw [if_neg h45] at h
      by_cases h48 : c = 48
      · rw [if_pos h48] at h
        by_cases hr : r = []
        · rw [if_pos hr] at h
          have e : v = 0 := (Option.some.inj h).symm
          subst e; subst hr; subst h48; exact itoa_zero
        · rw [if_neg hr] at h; cases h
      · rw [if_neg h48] at h
        cases hm : Lib.decNat (c :: r) with
        | none => rw [hm] at h; cases h
        | some m =>
          rw [hm] at h
          have e : v = (m : Int) := (Option.some.inj h).symm
          rw [e, Lib.itoa_nonneg, (decNat_digits h48 hm).1]

theorem decFrom_append : ∀ (l r : List UInt8) (acc a : Nat), Lib.decFrom acc l = some a → Lib.decFrom acc (l ++ r) = Lib.decFrom a r
  | [], r, acc, a, h => by simp only [Lib.decFrom, Option.some.injEq] at h; subst h; rfl
  | c :: l, r, acc, a, h => by
    simp only [Lib.decFrom] at h
    cases hc : Lib.digitVal c with
    | none => simp [hc] at h
    | some d =>
      simp only [hc] at h
      simp only [List.cons_append, Lib.decFrom, hc]
      exact decFrom_append l r _ a h

theorem digit_of (d : Nat) (h : d ≤ 9) : Lib.digitVal (UInt8.ofNat (48 + d)) = some d := by
  have e : (UInt8.ofNat (48 + d)).toNat = 48 + d := by simp; omega
  unfold Lib.digitVal; rw [e, if_pos (by omega)]; congr 1; omega

theorem decFrom_digits (u : Nat) : Lib.decFrom 0 (Lib.decDigits u) = some u := by
  induction u using Nat.strongRecOn with
  | _ u ih =>
    by_cases h : u < 10
    · rw [Lib.decDigits_one h]; simp only [Lib.decFrom, digit_of u (by omega)]; simp
    · rw [Lib.decDigits, dif_neg h, decFrom_append _ _ _ _ (ih (u / 10) (by omega))]
      simp only [Lib.decFrom, digit_of (u % 10) (by omega)]; congr 1; omega

/-- The first digit of a number that is not 0 is none; all are digits. -/
theorem digits_head (u : Nat) (h : 1 ≤ u) : ∃ c r, Lib.decDigits u = c :: r ∧ c ≠ 48 ∧ c ≠ 45 := by
  induction u using Nat.strongRecOn with
  | _ u ih =>
    by_cases h10 : u < 10
    · refine ⟨_, [], Lib.decDigits_one h10, ?_, ?_⟩
      · intro e; have := congrArg UInt8.toNat e; simp at this; omega
      · intro e; have := congrArg UInt8.toNat e; simp at this; omega
    · obtain ⟨c, r, e, k⟩ := ih (u / 10) (by omega) (by omega)
      exact ⟨c, r ++ [UInt8.ofNat (48 + u % 10)], by rw [Lib.decDigits, dif_neg h10, e]; rfl, k⟩

theorem decNat_digits' (u : Nat) : Lib.decNat (Lib.decDigits u) = some u := by
  have h := decFrom_digits u
  unfold Lib.decNat
  cases e : Lib.decDigits u with
  | nil => have := Lib.decDigits_length u; have := Lib.nDigits_pos u; rw [e] at *; simp at *; omega
  | cons c r => rw [e] at h; simpa using h

/-- Each number's own text is read as that number. -/
theorem canon_of_itoa (v : Int) : canon (Lib.itoa v) = some v := by
  by_cases hneg : v < 0
  · obtain ⟨u, rfl⟩ : ∃ u : Nat, v = -(u : Int) := ⟨v.natAbs, by omega⟩
    rw [Lib.itoa_neg u (by omega)]
    obtain ⟨c, r, e, h1, h2⟩ := digits_head u (by omega)
    rw [canon]
    rw [if_pos rfl, if_neg (by rw [e]; simpa using h1), decNat_digits' u]; rfl
  · obtain ⟨u, rfl⟩ : ∃ u : Nat, v = u := ⟨v.toNat, by omega⟩
    rw [Lib.itoa_nonneg]
    rcases Nat.eq_zero_or_pos u with e | e
    · subst e; rw [Lib.decDigits_one (by omega)]; rfl
    · obtain ⟨c, r, e', h1, h2⟩ := digits_head u e
      have := decNat_digits' u
      rw [e'] at this ⊢
      rw [canon]
      rw [if_neg h2, if_neg h1, this]; rfl

/-- A small number's text is taken by Atoi. -/
theorem canon_atoi {t : List UInt8} {v : Int} (h : canon t = some v) (h1 : -100000 ≤ v) (h2 : v ≤ 100000) : Lib.atoiAll t = .ok v := by
  have e := canon_itoa h
  have hl : t.length ≤ 18 := by
    rw [← e]
    have key : ∀ u : Nat, u ≤ 100000 → Lib.nDigits u ≤ 6 := fun u hu => by
      rcases Nat.lt_or_ge u 10 with h | h
      · rw [Lib.nDigits_small h]; omega
      rcases Nat.lt_or_ge u 100 with h' | h'
      · rw [Lib.nDigits_unique 1 u (by omega) (by omega)]; omega
      rcases Nat.lt_or_ge u 1000 with h'' | h''
      · rw [Lib.nDigits_unique 2 u (by omega) (by omega)]; omega
      rcases Nat.lt_or_ge u 10000 with h3 | h3
      · rw [Lib.nDigits_unique 3 u (by omega) (by omega)]; omega
      rcases Nat.lt_or_ge u 100000 with h4 | h4
      · rw [Lib.nDigits_unique 4 u (by omega) (by omega)]; omega
      · rw [Lib.nDigits_unique 5 u (by omega) (by omega)]; omega
    by_cases hneg : v < 0
    · obtain ⟨u, rfl⟩ : ∃ u : Nat, v = -(u : Int) := ⟨v.natAbs, by omega⟩
      rw [Lib.itoa_neg u (by omega), List.length_cons, Lib.decDigits_length]
      have := key u (by omega); omega
    · obtain ⟨u, rfl⟩ : ∃ u : Nat, v = u := ⟨v.toNat, by omega⟩
      rw [Lib.itoa_nonneg, Lib.decDigits_length]
      have := key u (by omega); omega
  rw [Lib.atoiAll_short t hl]
  cases t with
  | nil => cases h
  | cons c r =>
    rw [canon] at h
    by_cases h45 : c = 45
    · subst h45
      rw [if_pos rfl] at h
      split at h
      · cases h
      · simp only [Lib.atoi]; rw [if_pos (by decide), h]; rfl
    · rw [if_neg h45] at h
      by_cases h48 : c = 48
      · subst h48; rw [if_pos rfl] at h
        split at h
        · rename_i hr; subst hr; have e := Option.some.inj h; subst e; rfl
        · cases h
      · rw [if_neg h48] at h
        have h43 : c ≠ 43 := by
          intro e; subst e
          have : Lib.decNat (43 :: r) = none := by simp [Lib.decNat, Lib.decFrom, Lib.digitVal]
          rw [this] at h; cases h
        simp only [Lib.atoi]
        rw [if_neg (by simpa using h45), if_neg (by simpa using h43), h]; rfl

/-! ### One term -/

/-- May a number be? -/
def mayB (x : Int) : Bool := decide (-32768 ≤ x) && decide (x ≤ 32767)
/-- May a tag be? -/
def tagB (x : Int) : Bool := decide (0 ≤ x) && decide (x ≤ 99)

/-- What was read: its kind, its number, its parts' texts, how many bytes. -/
abbrev Rd := Int × Int × List (List UInt8) × Nat

/-- Parts, up to so many, and the closing bracket. -/
def Tp (rd : List UInt8 → Option Rd) : Nat → List UInt8 → Option (List (List UInt8) × Nat)
  | 0, _ => none
  | k + 1, r =>
    match rd r with
    | none => none
    | some (_, _, _, n) =>
      if r[n]? = some 41 then some ([r.take n], n + 1)
      else if r[n]? = some 32 then
        match Tp rd k (r.drop (n + 1)) with
        | none => none
        | some (ks, m) => some (r.take n :: ks, n + 1 + m)
      else none

/-- A number from the front on. -/
def numT (r : List UInt8) : Option Rd :=
  match canon (numPart r) with
  | none => none
  | some v => if mayB v then some (1, v, [], (numPart r).length) else none

/-- A constructor, from behind its sign on. -/
def conT (rd : List UInt8 → Option Rd) (r : List UInt8) : Option Rd :=
  match canon (numPart r) with
  | none => none
  | some v =>
    if tagB v then
      (if r[(numPart r).length]? = some 40 then
        match Tp rd 3 (r.drop ((numPart r).length + 1)) with
        | none => none
        | some (ks, m) => some (2, v, ks, 1 + (numPart r).length + 1 + m)
      else some (2, v, [], 1 + (numPart r).length))
    else none

/-- A term from the front on, at most so deep. -/
def T : Nat → List UInt8 → Option Rd
  | 0, _ => none
  | f + 1, r =>
    if r[0]? = some 95 then some (0, 0, [], 1)
    else if r[0]? = some 33 then some (3, 0, [], 1)
    else if r[0]? = some 64 then conT (T f) (r.drop 1)
    else numT r

/-- A whole text that is a term which may be: its kind, its number, its parts. -/
def whole (s : List UInt8) : Option (Int × Int × List (List UInt8)) :=
  if s.length ≤ 1024 then
    match T 1025 s with
    | none => none
    | some (k, x, ks, n) => if n = s.length then some (k, x, ks) else none
  else none

/-- What may stand behind a term: nothing, or neither a digit nor a sign nor an opening bracket. -/
def bnd (q : List UInt8) : Prop := ∀ c, q[0]? = some c → isNC c = false ∧ c ≠ 40

theorem numPart_le (r : List UInt8) : (numPart r).length ≤ r.length := (List.takeWhile_prefix _).length_le
theorem numPart_take (r : List UInt8) : r.take (numPart r).length = numPart r := by
  have h : numPart r <+: r := List.takeWhile_prefix _
  exact (List.prefix_iff_eq_take.1 h).symm
theorem numPart_all (r : List UInt8) : ∀ c ∈ numPart r, isNC c = true := by
  intro c hc
  have := List.all_takeWhile (p := isNC) (l := r)
  exact List.all_eq_true.1 this c hc
theorem numPart_stop : ∀ (r : List UInt8) (c : UInt8), r[(numPart r).length]? = some c → isNC c = false
  | [], c, h => by simp at h
  | a :: r, c, h => by
    unfold numPart at h
    rw [List.takeWhile_cons] at h
    by_cases ha : isNC a = true
    · rw [if_pos ha] at h
      simp only [List.length_cons, List.getElem?_cons_succ] at h
      exact numPart_stop r c h
    · rw [if_neg ha] at h
      simp at h; subst h; simpa using ha
/-- A row of digits and signs, and then none. -/
theorem numPart_app : ∀ (t q : List UInt8), (∀ c ∈ t, isNC c = true) → (∀ c, q[0]? = some c → isNC c = false) → numPart (t ++ q) = t
  | [], q, _, hq => by
    unfold numPart
    cases q with
    | nil => rfl
    | cons c q => rw [List.nil_append, List.takeWhile_cons, if_neg (by rw [hq c rfl]; simp)]
  | a :: t, q, ht, hq => by
    have ih := numPart_app t q (fun c hc => ht c (List.mem_cons_of_mem _ hc)) hq
    unfold numPart at ih ⊢
    rw [List.cons_append, List.takeWhile_cons, if_pos (ht a (List.mem_cons_self)), ih]

/-- More behind it turns nothing. -/
theorem numPart_more (m q : List UInt8) (h : (numPart m).length = m.length → ∀ c, q[0]? = some c → isNC c = false) : numPart (m ++ q) = numPart m := by
  have e : m = numPart m ++ m.drop (numPart m).length := by
    conv => lhs; rw [← List.take_append_drop (numPart m).length m, numPart_take]
  rw [e, List.append_assoc, numPart_app _ _ (numPart_all m)]
  · rw [← e]
  · intro c hc
    rcases Nat.lt_or_ge (numPart m).length m.length with hlt | hge
    · refine numPart_stop m c ?_
      rw [List.getElem?_append_left (by simp; omega)] at hc
      simpa using hc
    · have hl : (numPart m).length = m.length := Nat.le_antisymm (numPart_le m) hge
      rw [List.drop_of_length_le (by omega)] at hc
      exact h hl c (by simpa using hc)
/-- Less behind it neither. -/
theorem numPart_less (m q : List UInt8) (h : (numPart (m ++ q)).length ≤ m.length) : numPart m = numPart (m ++ q) := by
  have e := numPart_take (m ++ q)
  rw [List.take_append_of_le_length h] at e
  have e2 : m = numPart (m ++ q) ++ m.drop (numPart (m ++ q)).length := by
    conv => lhs; rw [← List.take_append_drop (numPart (m ++ q)).length m, e]
  generalize hn : numPart (m ++ q) = t at *
  rw [e2]
  refine numPart_app t _ (fun c hc => numPart_all (m ++ q) c (by rw [hn]; exact hc)) ?_
  intro c hc
  refine numPart_stop (m ++ q) c ?_
  rw [hn]
  have hc' : m[t.length]? = some c := by simpa using hc
  rw [List.getElem?_append_left (by have := (List.getElem?_eq_some_iff.1 hc').1; omega)]
  exact hc'

theorem canon_ne {v : Int} {t : List UInt8} (h : canon t = some v) : t ≠ [] := by
  intro e; subst e; cases h

/-- Some bytes are read, and they are there. -/
theorem numT_size {r : List UInt8} {x : Rd} (h : numT r = some x) : 0 < x.2.2.2 ∧ x.2.2.2 ≤ r.length := by
  unfold numT at h
  cases hc : canon (numPart r) with
  | none => rw [hc] at h; cases h
  | some v =>
    rw [hc] at h
    simp only at h
    split at h
    · have e := Option.some.inj h; subst e
      exact ⟨List.length_pos_iff.2 (canon_ne hc), numPart_le r⟩
    · cases h

theorem Tp_size (rd : List UInt8 → Option Rd) (hrd : ∀ r x, rd r = some x → 0 < x.2.2.2 ∧ x.2.2.2 ≤ r.length) :
    ∀ (k : Nat) (r : List UInt8) (ks : List (List UInt8)) (m : Nat), Tp rd k r = some (ks, m) → 1 < m ∧ m ≤ r.length ∧ 0 < ks.length ∧ ks.length ≤ k
  | 0, r, ks, m, h => by cases h
  | k + 1, r, ks, m, h => by
    unfold Tp at h
    cases hr : rd r with
    | none => rw [hr] at h; cases h
    | some x =>
      obtain ⟨a, b, c, n⟩ := x
      have hn := hrd r _ hr
      simp only at hn
      rw [hr] at h
      simp only at h
      by_cases h41 : r[n]? = some 41
      · rw [if_pos h41] at h
        have := (List.getElem?_eq_some_iff.1 h41).1
        have e := Option.some.inj h
        have e1 := congrArg Prod.fst e; have e2 := congrArg Prod.snd e
        simp only at e1 e2; subst e1; subst e2
        simp; omega
      · rw [if_neg h41] at h
        by_cases h32 : r[n]? = some 32
        · rw [if_pos h32] at h
          have := (List.getElem?_eq_some_iff.1 h32).1
          cases ht : Tp rd k (r.drop (n + 1)) with
          | none => rw [ht] at h; cases h
          | some y =>
            obtain ⟨ks', m'⟩ := y
            have ih := Tp_size rd hrd k _ ks' m' ht
            rw [ht] at h
            have e := Option.some.inj h
            have e1 := congrArg Prod.fst e; have e2 := congrArg Prod.snd e
            simp only at e1 e2; subst e1; subst e2
            simp at ih ⊢; omega
        · rw [if_neg h32] at h; cases h

theorem T_size : ∀ (f : Nat) (r : List UInt8) (x : Rd), T f r = some x → 0 < x.2.2.2 ∧ x.2.2.2 ≤ r.length
  | 0, r, x, h => by cases h
  | f + 1, r, x, h => by
    unfold T at h
    by_cases h95 : r[0]? = some 95
    · rw [if_pos h95] at h
      have := (List.getElem?_eq_some_iff.1 h95).1
      have e := Option.some.inj h; subst e; simp; omega
    rw [if_neg h95] at h
    by_cases h33 : r[0]? = some 33
    · rw [if_pos h33] at h
      have := (List.getElem?_eq_some_iff.1 h33).1
      have e := Option.some.inj h; subst e; simp; omega
    rw [if_neg h33] at h
    by_cases h64 : r[0]? = some 64
    · rw [if_pos h64] at h
      have hl := (List.getElem?_eq_some_iff.1 h64).1
      have hq := numPart_le (r.drop 1)
      have hd : (r.drop 1).length = r.length - 1 := List.length_drop
      unfold conT at h
      cases hc : canon (numPart (r.drop 1)) with
      | none => rw [hc] at h; cases h
      | some v =>
        rw [hc] at h
        simp only at h
        split at h
        · split at h
          · rename_i h40
            cases ht : Tp (T f) 3 ((r.drop 1).drop ((numPart (r.drop 1)).length + 1)) with
            | none => rw [ht] at h; cases h
            | some y =>
              obtain ⟨ks, m⟩ := y
              have := Tp_size (T f) (T_size f) 3 _ ks m ht
              rw [ht] at h
              have e := Option.some.inj h; subst e
              rw [List.length_drop, hd] at this
              simp only; omega
          · have e := Option.some.inj h; subst e; simp only; omega
        · cases h
    rw [if_neg h64] at h
    exact numT_size h

end Go.Proofs.YtjamknejllbmkaaGreatDoor.Tm

namespace Go.Proofs.YtjamknejllbmkaaGreatDoor.Tm
open Go
set_option linter.unusedVariables false

/-- More behind it turns nothing. -/
def Loc (rd : List UInt8 → Option Rd) : Prop := ∀ m q x, rd m = some x → (x.2.2.2 = m.length → bnd q) → rd (m ++ q) = some x
/-- Less behind it neither. -/
def Back (rd : List UInt8 → Option Rd) : Prop := ∀ m q x, rd (m ++ q) = some x → x.2.2.2 ≤ m.length → rd m = some x
/-- It reads some bytes, and they are there. -/
def Siz (rd : List UInt8 → Option Rd) : Prop := ∀ r x, rd r = some x → 0 < x.2.2.2 ∧ x.2.2.2 ≤ r.length

theorem numT_loc : Loc numT := by
  intro m q x h hb
  unfold numT at h ⊢
  cases hc : canon (numPart m) with
  | none => rw [hc] at h; cases h
  | some v =>
    have e : numPart (m ++ q) = numPart m := by
      refine numPart_more m q (fun hl c hq => ?_)
      rw [hc] at h
      simp only at h
      split at h
      · have e := Option.some.inj h; subst e
        exact (hb hl c hq).1
      · cases h
    rw [e]; exact h

theorem numT_back : Back numT := by
  intro m q x h hn
  unfold numT at h ⊢
  cases hc : canon (numPart (m ++ q)) with
  | none => rw [hc] at h; cases h
  | some v =>
    have e : numPart m = numPart (m ++ q) := by
      refine numPart_less m q ?_
      rw [hc] at h
      simp only at h
      split at h
      · have e := Option.some.inj h; subst e
        exact hn
      · cases h
    rw [e]; exact h

/-- What one step of the parts says. -/
theorem Tp_cases {rd : List UInt8 → Option Rd} {k : Nat} {r : List UInt8} {ks : List (List UInt8)} {m : Nat} (h : Tp rd (k + 1) r = some (ks, m)) :
    ∃ x, rd r = some x ∧ ((r[x.2.2.2]? = some 41 ∧ ks = [r.take x.2.2.2] ∧ m = x.2.2.2 + 1) ∨
      (r[x.2.2.2]? = some 32 ∧ ∃ ks' m', Tp rd k (r.drop (x.2.2.2 + 1)) = some (ks', m') ∧ ks = r.take x.2.2.2 :: ks' ∧ m = x.2.2.2 + 1 + m')) := by
  unfold Tp at h
  cases hr : rd r with
  | none => rw [hr] at h; cases h
  | some x =>
    obtain ⟨a, b, c, n⟩ := x
    rw [hr] at h
    simp only at h
    refine ⟨_, rfl, ?_⟩
    simp only
    by_cases h41 : r[n]? = some 41
    · rw [if_pos h41] at h
      have e := Option.some.inj h
      have e1 := congrArg Prod.fst e; have e2 := congrArg Prod.snd e
      simp only at e1 e2
      exact Or.inl ⟨h41, e1.symm, e2.symm⟩
    · rw [if_neg h41] at h
      by_cases h32 : r[n]? = some 32
      · rw [if_pos h32] at h
        cases ht : Tp rd k (r.drop (n + 1)) with
        | none => rw [ht] at h; cases h
        | some y =>
          obtain ⟨ks', m'⟩ := y
          rw [ht] at h
          have e := Option.some.inj h
          have e1 := congrArg Prod.fst e; have e2 := congrArg Prod.snd e
          simp only at e1 e2
          exact Or.inr ⟨h32, ks', m', rfl, e1.symm, e2.symm⟩
      · rw [if_neg h32] at h; cases h

theorem Tp_last {rd : List UInt8 → Option Rd} {k : Nat} {r : List UInt8} {x : Rd} (h : rd r = some x) (h41 : r[x.2.2.2]? = some 41) : Tp rd (k + 1) r = some ([r.take x.2.2.2], x.2.2.2 + 1) := by
  obtain ⟨a, b, c, n⟩ := x
  unfold Tp; rw [h]; simp only at h41 ⊢; rw [if_pos h41]
theorem Tp_on {rd : List UInt8 → Option Rd} {k : Nat} {r : List UInt8} {x : Rd} {ks : List (List UInt8)} {m : Nat} (h : rd r = some x) (h32 : r[x.2.2.2]? = some 32)
    (ht : Tp rd k (r.drop (x.2.2.2 + 1)) = some (ks, m)) : Tp rd (k + 1) r = some (r.take x.2.2.2 :: ks, x.2.2.2 + 1 + m) := by
  obtain ⟨a, b, c, n⟩ := x
  unfold Tp; rw [h]; simp only at h32 ht ⊢; rw [if_neg (by rw [h32]; decide), if_pos h32, ht]

theorem lt_of_at {l : List UInt8} {n : Nat} {c : UInt8} (h : l[n]? = some c) : n < l.length := (List.getElem?_eq_some_iff.1 h).1

theorem Tp_loc {rd : List UInt8 → Option Rd} (hl : Loc rd) : ∀ (k : Nat) (m q : List UInt8) (ks : List (List UInt8)) (n : Nat), Tp rd k m = some (ks, n) → Tp rd k (m ++ q) = some (ks, n)
  | 0, _, _, _, _, h => by cases h
  | k + 1, m, q, ks, n, h => by
    obtain ⟨x, hx, ⟨h41, rfl, rfl⟩ | ⟨h32, ks', m', ht, rfl, rfl⟩⟩ := Tp_cases h
    · have hlt := lt_of_at h41
      have e := hl m q x hx (fun e => by omega)
      have := Tp_last (k := k) e (by rw [List.getElem?_append_left hlt]; exact h41)
      rw [this, List.take_append_of_le_length (by omega)]
    · have hlt := lt_of_at h32
      have e := hl m q x hx (fun e => by omega)
      have ih := Tp_loc hl k _ q _ _ ht
      rw [← List.drop_append_of_le_length (by omega)] at ih
      have := Tp_on e (by rw [List.getElem?_append_left hlt]; exact h32) ih
      rw [this, List.take_append_of_le_length (by omega)]

theorem Tp_back {rd : List UInt8 → Option Rd} (hb : Back rd) (hs : Siz rd) : ∀ (k : Nat) (m q : List UInt8) (ks : List (List UInt8)) (n : Nat), Tp rd k (m ++ q) = some (ks, n) → n ≤ m.length → Tp rd k m = some (ks, n)
  | 0, _, _, _, _, h, _ => by cases h
  | k + 1, m, q, ks, n, h, hn => by
    obtain ⟨x, hx, ⟨h41, rfl, rfl⟩ | ⟨h32, ks', m', ht, rfl, rfl⟩⟩ := Tp_cases h
    · have e := hb m q x hx (by omega)
      rw [List.getElem?_append_left (by omega)] at h41
      rw [Tp_last e h41, List.take_append_of_le_length (by omega)]
    · have e := hb m q x hx (by omega)
      rw [List.getElem?_append_left (by omega)] at h32
      rw [List.drop_append_of_le_length (by omega)] at ht
      have ih := Tp_back hb hs k _ q _ _ ht (by rw [List.length_drop]; omega)
      rw [Tp_on e h32 ih, List.take_append_of_le_length (by omega)]

/-- What a constructor's reading says. -/
theorem conT_cases {rd : List UInt8 → Option Rd} {r : List UInt8} {x : Rd} (h : conT rd r = some x) :
    ∃ v, canon (numPart r) = some v ∧ tagB v = true ∧
      ((r[(numPart r).length]? ≠ some 40 ∧ x = (2, v, [], 1 + (numPart r).length)) ∨
       (r[(numPart r).length]? = some 40 ∧ ∃ ks m, Tp rd 3 (r.drop ((numPart r).length + 1)) = some (ks, m) ∧ x = (2, v, ks, 1 + (numPart r).length + 1 + m))) := by
  unfold conT at h
  cases hc : canon (numPart r) with
  | none => rw [hc] at h; cases h
  | some v =>
    rw [hc] at h
    simp only at h
    by_cases htag : tagB v = true
    · rw [if_pos htag] at h
      refine ⟨v, rfl, htag, ?_⟩
      by_cases h40 : r[(numPart r).length]? = some 40
      · rw [if_pos h40] at h
        cases ht : Tp rd 3 (r.drop ((numPart r).length + 1)) with
        | none => rw [ht] at h; cases h
        | some y =>
          obtain ⟨ks, m⟩ := y
          rw [ht] at h
          exact Or.inr ⟨h40, ks, m, rfl, (Option.some.inj h).symm⟩
      · rw [if_neg h40] at h
        exact Or.inl ⟨h40, (Option.some.inj h).symm⟩
    · rw [if_neg htag] at h; cases h

theorem conT_bare {rd : List UInt8 → Option Rd} {r : List UInt8} {v : Int} (hc : canon (numPart r) = some v) (ht : tagB v = true) (h40 : r[(numPart r).length]? ≠ some 40) :
    conT rd r = some (2, v, [], 1 + (numPart r).length) := by
  unfold conT; rw [hc]; simp only; rw [if_pos ht, if_neg h40]
theorem conT_full {rd : List UInt8 → Option Rd} {r : List UInt8} {v : Int} {ks : List (List UInt8)} {m : Nat} (hc : canon (numPart r) = some v) (ht : tagB v = true) (h40 : r[(numPart r).length]? = some 40)
    (hp : Tp rd 3 (r.drop ((numPart r).length + 1)) = some (ks, m)) : conT rd r = some (2, v, ks, 1 + (numPart r).length + 1 + m) := by
  unfold conT; rw [hc]; simp only; rw [if_pos ht, if_pos h40, hp]

theorem conT_loc {rd : List UInt8 → Option Rd} (hl : Loc rd) (m q : List UInt8) (x : Rd) (h : conT rd m = some x) (hb : x.2.2.2 = 1 + m.length → bnd q) : conT rd (m ++ q) = some x := by
  obtain ⟨v, hc, ht, ⟨h40, rfl⟩ | ⟨h40, ks, n, hp, rfl⟩⟩ := conT_cases h
  · have e : numPart (m ++ q) = numPart m := numPart_more m q (fun hl c hq => (hb (by simp only; omega) c hq).1)
    rw [← e] at hc h40 ⊢
    refine conT_bare hc ht ?_
    rw [e] at h40 ⊢
    rcases Nat.lt_or_ge (numPart m).length m.length with hlt | hge
    · rw [List.getElem?_append_left hlt]; exact h40
    · have hl' : (numPart m).length = m.length := Nat.le_antisymm (numPart_le m) hge
      rw [hl', List.getElem?_append_right (Nat.le_refl _), Nat.sub_self]
      intro e2
      exact (hb (by simp only; omega) 40 e2).2 rfl
  · have hlt := lt_of_at h40
    have e : numPart (m ++ q) = numPart m := numPart_more m q (fun hl => by omega)
    have := conT_full (rd := rd) (r := m ++ q) (ks := ks) (m := n) (by rw [e]; exact hc) ht (by rw [e, List.getElem?_append_left hlt]; exact h40)
      (by rw [e, List.drop_append_of_le_length (by omega)]; exact Tp_loc hl 3 _ q _ _ hp)
    rw [this, e]

theorem conT_back {rd : List UInt8 → Option Rd} (hb : Back rd) (hs : Siz rd) (m q : List UInt8) (x : Rd) (h : conT rd (m ++ q) = some x) (hn : x.2.2.2 ≤ 1 + m.length) : conT rd m = some x := by
  obtain ⟨v, hc, ht, ⟨h40, rfl⟩ | ⟨h40, ks, n, hp, rfl⟩⟩ := conT_cases h
  · simp only at hn
    have e : numPart m = numPart (m ++ q) := numPart_less m q (by omega)
    rw [← e] at hc h40 hn ⊢
    refine conT_bare hc ht ?_
    intro e2
    have hlt := lt_of_at e2
    rw [List.getElem?_append_left hlt] at h40
    exact h40 e2
  · simp only at hn
    have e : numPart m = numPart (m ++ q) := numPart_less m q (by omega)
    rw [← e] at hc h40 hn hp ⊢
    rw [List.getElem?_append_left (by omega)] at h40
    rw [List.drop_append_of_le_length (by omega)] at hp
    exact conT_full hc ht h40 (Tp_back hb hs 3 _ q _ _ hp (by rw [List.length_drop]; omega))

/-- What a term's reading says. -/
theorem T_cases {f : Nat} {r : List UInt8} {x : Rd} (h : T (f + 1) r = some x) :
    (r[0]? = some 95 ∧ x = (0, 0, [], 1)) ∨ (r[0]? = some 33 ∧ x = (3, 0, [], 1)) ∨ (r[0]? = some 64 ∧ conT (T f) (r.drop 1) = some x) ∨
      (r[0]? ≠ some 95 ∧ r[0]? ≠ some 33 ∧ r[0]? ≠ some 64 ∧ numT r = some x) := by
  unfold T at h
  by_cases h95 : r[0]? = some 95
  · rw [if_pos h95] at h; exact Or.inl ⟨h95, (Option.some.inj h).symm⟩
  rw [if_neg h95] at h
  by_cases h33 : r[0]? = some 33
  · rw [if_pos h33] at h; exact Or.inr (Or.inl ⟨h33, (Option.some.inj h).symm⟩)
  rw [if_neg h33] at h
  by_cases h64 : r[0]? = some 64
  · rw [if_pos h64] at h; exact Or.inr (Or.inr (Or.inl ⟨h64, h⟩))
  rw [if_neg h64] at h
  exact Or.inr (Or.inr (Or.inr ⟨h95, h33, h64, h⟩))
theorem T_hole {f : Nat} {r : List UInt8} (h : r[0]? = some 95) : T (f + 1) r = some (0, 0, [], 1) := by
  rw [T, if_pos h]
theorem T_fail {f : Nat} {r : List UInt8} (h : r[0]? = some 33) : T (f + 1) r = some (3, 0, [], 1) := by
  rw [T, if_neg (by rw [h]; decide), if_pos h]
theorem T_con {f : Nat} {r : List UInt8} (h : r[0]? = some 64) : T (f + 1) r = conT (T f) (r.drop 1) := by
  rw [T, if_neg (by rw [h]; decide), if_neg (by rw [h]; decide), if_pos h]
theorem T_num {f : Nat} {r : List UInt8} (h1 : r[0]? ≠ some 95) (h2 : r[0]? ≠ some 33) (h3 : r[0]? ≠ some 64) : T (f + 1) r = numT r := by
  rw [T, if_neg h1, if_neg h2, if_neg h3]

theorem at_zero_app {m q : List UInt8} (h : 0 < m.length) : (m ++ q)[0]? = m[0]? := List.getElem?_append_left h

theorem T_loc : ∀ f, Loc (T f)
  | 0 => fun m q x h _ => by cases h
  | f + 1 => by
    intro m q x h hb
    have hs := T_size (f + 1) m x h
    have e0 := at_zero_app (m := m) (q := q) (by omega)
    rcases T_cases h with ⟨h0, rfl⟩ | ⟨h0, rfl⟩ | ⟨h0, hc⟩ | ⟨h1, h2, h3, hn⟩
    · exact T_hole (e0.trans h0)
    · exact T_fail (e0.trans h0)
    · rw [T_con (e0.trans h0), List.drop_append_of_le_length (by omega)]
      exact conT_loc (T_loc f) _ q x hc (fun e => hb (by rw [List.length_drop] at e; omega))
    · rw [T_num (by rw [e0]; exact h1) (by rw [e0]; exact h2) (by rw [e0]; exact h3)]
      exact numT_loc m q x hn hb

theorem T_back : ∀ f, Back (T f)
  | 0 => fun m q x h _ => by cases h
  | f + 1 => by
    intro m q x h hn
    have hs := T_size (f + 1) _ x h
    have e0 := at_zero_app (m := m) (q := q) (by omega)
    rcases T_cases h with ⟨h0, rfl⟩ | ⟨h0, rfl⟩ | ⟨h0, hc⟩ | ⟨h1, h2, h3, hm⟩
    · exact T_hole (e0.symm.trans h0)
    · exact T_fail (e0.symm.trans h0)
    · rw [T_con (e0.symm.trans h0)]
      rw [List.drop_append_of_le_length (by omega)] at hc
      exact conT_back (T_back f) (T_size f) _ q x hc (by rw [List.length_drop]; omega)
    · rw [e0] at h1 h2 h3
      rw [T_num h1 h2 h3]
      exact numT_back m q x hm hn

theorem Tp_congr {rd rd' : List UInt8 → Option Rd} : ∀ (k : Nat) (r : List UInt8), (∀ r', r'.length ≤ r.length → rd r' = rd' r') → Tp rd k r = Tp rd' k r
  | 0, r, h => rfl
  | k + 1, r, h => by
    unfold Tp
    rw [h r (Nat.le_refl _)]
    cases rd' r with
    | none => rfl
    | some x =>
      obtain ⟨a, b, c, n⟩ := x
      simp only
      rw [Tp_congr k (r.drop (n + 1)) (fun r' hr' => h r' (by rw [List.length_drop] at hr'; omega))]

/-- Enough is enough. -/
theorem T_fuel : ∀ (f : Nat) (r : List UInt8), r.length < f → T f r = T (f + 1) r
  | 0, r, h => by omega
  | f + 1, r, h => by
    rw [T, T]
    by_cases h64 : r[0]? = some 64
    · have hl := lt_of_at h64
      have e : conT (T f) (r.drop 1) = conT (T (f + 1)) (r.drop 1) := by
        unfold conT
        rw [Tp_congr 3 _ (fun r' hr' => T_fuel f r' (by rw [List.length_drop, List.length_drop] at hr'; omega))]
      rw [e]
    · rw [if_neg h64, if_neg h64]

/-! ### Texts -/

/-- Texts with a blank between each two. -/
def jn : List (List UInt8) → List UInt8
  | [] => []
  | [a] => a
  | a :: b :: r => a ++ 32 :: jn (b :: r)

/-- A whole term by that reader. -/
def isW (rd : List UInt8 → Option Rd) (s : List UInt8) : Prop := ∃ x, rd s = some x ∧ x.2.2.2 = s.length

theorem bnd_of {c : UInt8} {q : List UInt8} (h1 : isNC c = false) (h2 : c ≠ 40) : bnd (c :: q) := by
  intro d hd
  have e : c = d := by simpa using hd
  subst e; exact ⟨h1, h2⟩

theorem whole_part {rd : List UInt8 → Option Rd} (hb : Back rd) (hs : Siz rd) {r : List UInt8} {x : Rd} (h : rd r = some x) : isW rd (r.take x.2.2.2) := by
  have := hs r x h
  have e : r = r.take x.2.2.2 ++ r.drop x.2.2.2 := (List.take_append_drop _ _).symm
  rw [e] at h
  have hl : (r.take x.2.2.2).length = x.2.2.2 := by rw [List.length_take]; omega
  exact ⟨x, hb _ _ x h (by omega), hl.symm⟩

/-- The parts are whole terms, and the text is theirs. -/
theorem Tp_text {rd : List UInt8 → Option Rd} (hb : Back rd) (hs : Siz rd) : ∀ (k : Nat) (r : List UInt8) (ks : List (List UInt8)) (m : Nat), Tp rd k r = some (ks, m) →
    ks ≠ [] ∧ ks.length ≤ k ∧ (∀ s ∈ ks, isW rd s) ∧ r.take m = jn ks ++ [41] ∧ m = (jn ks).length + 1 ∧ m ≤ r.length
  | 0, _, _, _, h => by cases h
  | k + 1, r, ks, m, h => by
    obtain ⟨x, hx, ⟨h41, rfl, rfl⟩ | ⟨h32, ks', m', ht, rfl, rfl⟩⟩ := Tp_cases h
    · have hlt := lt_of_at h41
      refine ⟨by simp, by simp, ?_, ?_, ?_, by omega⟩
      · intro s hm; rw [List.mem_singleton] at hm; subst hm; exact whole_part hb hs hx
      · rw [List.take_add_one, h41]; rfl
      · simp only [jn]; rw [List.length_take]; omega
    · have hlt := lt_of_at h32
      obtain ⟨i1, i2, i3, i4, i5, i6⟩ := Tp_text hb hs k _ ks' m' ht
      obtain ⟨b, r', rfl⟩ : ∃ b r', ks' = b :: r' := by cases ks' with
        | nil => exact absurd rfl i1
        | cons b r' => exact ⟨b, r', rfl⟩
      refine ⟨by simp, by simp at i2 ⊢; omega, ?_, ?_, ?_, by rw [List.length_drop] at i6; omega⟩
      · intro s hm
        rcases List.mem_cons.1 hm with e | e
        · subst e; exact whole_part hb hs hx
        · exact i3 s e
      · simp only [jn]
        have e : r.take (x.2.2.2 + 1 + m') = r.take (x.2.2.2 + 1) ++ (r.drop (x.2.2.2 + 1)).take m' := by
          rw [← List.take_add]
        rw [e, i4, List.take_add_one, h32]; simp
      · simp only [jn, List.length_append, List.length_cons, List.length_take]; omega

/-- The text of parts has just these parts. -/
theorem Tp_made {rd : List UInt8 → Option Rd} (hl : Loc rd) : ∀ (k : Nat) (ks : List (List UInt8)) (q : List UInt8), ks ≠ [] → ks.length ≤ k → (∀ s ∈ ks, isW rd s) → Tp rd k (jn ks ++ 41 :: q) = some (ks, (jn ks).length + 1)
  | 0, ks, q, h1, h2, h3 => by cases ks with
    | nil => exact absurd rfl h1
    | cons a r => simp at h2
  | k + 1, [], q, h1, _, _ => absurd rfl h1
  | k + 1, [a], q, _, _, h3 => by
    obtain ⟨x, hx, hn⟩ := h3 a (by simp)
    simp only [jn]
    have e := hl a (41 :: q) x hx (fun _ => bnd_of (by decide) (by decide))
    have := Tp_last (k := k) e (by rw [hn, List.getElem?_append_right (Nat.le_refl _), Nat.sub_self]; rfl)
    rw [this, hn]; simp
  | k + 1, a :: b :: r, q, _, h2, h3 => by
    obtain ⟨x, hx, hn⟩ := h3 a (by simp)
    simp only [jn]
    rw [List.append_assoc, List.cons_append]
    have ih := Tp_made hl k (b :: r) q (by simp) (by simp at h2 ⊢; omega) (fun s hs => h3 s (List.mem_cons_of_mem _ hs))
    generalize hj : jn (b :: r) = j at *
    have e := hl a (32 :: (j ++ 41 :: q)) x hx (fun _ => bnd_of (by decide) (by decide))
    have ed : (a ++ 32 :: (j ++ 41 :: q)).drop (x.2.2.2 + 1) = j ++ 41 :: q := by
      rw [hn, List.drop_append]; simp
    rw [← ed] at ih
    have := Tp_on e (by rw [hn, List.getElem?_append_right (Nat.le_refl _), Nat.sub_self]; rfl) ih
    rw [this, hn]; simp; omega

/-- A text as far as its parts. -/
def head (kind num : Int) : Option (List UInt8) :=
  if kind = 0 then (if num = 0 then some [95] else none)
  else if kind = 3 then (if num = 0 then some [33] else none)
  else if kind = 1 then (if mayB num then some (Lib.itoa num) else none)
  else if kind = 2 then (if tagB num then some (64 :: Lib.itoa num) else none)
  else none

/-- May the parts stand behind it? -/
def behind (kind : Int) (kids : List (List UInt8)) : Bool :=
  kids.isEmpty || (decide (kind = 2) && decide (kids.length ≤ 3) && kids.all fun s => (whole s).isSome)

/-- Brackets and parts. -/
def tail (kids : List (List UInt8)) : List UInt8 := if kids = [] then [] else 40 :: (jn kids ++ [41])

/-- The text of a kind, a number, parts. -/
def mk (kind num : Int) (kids : List (List UInt8)) : Option (List UInt8) :=
  match head kind num with
  | none => none
  | some h => if behind kind kids then (if (h ++ tail kids).length ≤ 1024 then some (h ++ tail kids) else none) else none

theorem whole_some {s : List UInt8} {k x : Int} {ks : List (List UInt8)} (h : whole s = some (k, x, ks)) : s.length ≤ 1024 ∧ T 1025 s = some (k, x, ks, s.length) := by
  unfold whole at h
  by_cases hl : s.length ≤ 1024
  · rw [if_pos hl] at h
    cases ht : T 1025 s with
    | none => rw [ht] at h; cases h
    | some y =>
      obtain ⟨a, b, c, n⟩ := y
      rw [ht] at h
      simp only at h
      by_cases hn : n = s.length
      · rw [if_pos hn] at h
        have e := Option.some.inj h
        simp only [Prod.mk.injEq] at e
        obtain ⟨rfl, rfl, rfl⟩ := e
        subst hn
        exact ⟨hl, rfl⟩
      · rw [if_neg hn] at h; cases h
  · rw [if_neg hl] at h; cases h
theorem whole_mk {s : List UInt8} {k x : Int} {ks : List (List UInt8)} (hl : s.length ≤ 1024) (h : T 1025 s = some (k, x, ks, s.length)) : whole s = some (k, x, ks) := by
  unfold whole; rw [if_pos hl, h]; simp

theorem isW_whole {s : List UInt8} (hl : s.length ≤ 1023) : isW (T 1024) s ↔ (whole s).isSome = true := by
  constructor
  · rintro ⟨x, hx, hn⟩
    obtain ⟨a, b, c, n⟩ := x
    simp only at hn; subst hn
    rw [T_fuel 1024 s (by omega)] at hx
    rw [whole_mk (by omega) hx]; rfl
  · intro h
    obtain ⟨y, hy⟩ := Option.isSome_iff_exists.1 h
    obtain ⟨a, b, c⟩ := y
    obtain ⟨_, ht⟩ := whole_some hy
    rw [← T_fuel 1024 s (by omega)] at ht
    exact ⟨_, ht, rfl⟩

theorem jn_part : ∀ (ks : List (List UInt8)) (s : List UInt8), s ∈ ks → s.length ≤ (jn ks).length
  | [], s, h => by cases h
  | [a], s, h => by rw [List.mem_singleton] at h; subst h; exact Nat.le_refl _
  | a :: b :: r, s, h => by
    simp only [jn, List.length_append, List.length_cons]
    rcases List.mem_cons.1 h with e | e
    · subst e; omega
    · have := jn_part (b :: r) s e; omega

theorem itoa_nc (v : Int) : ∀ c ∈ Lib.itoa v, isNC c = true := by
  have key : ∀ u : Nat, ∀ c ∈ Lib.decDigits u, isNC c = true := by
    intro u c hc
    obtain ⟨i, hi, rfl⟩ := List.getElem_of_mem hc
    obtain ⟨d, hd⟩ := Lib.digit_of_decFrom _ 0 u (decFrom_digits u) i _ (List.getElem?_eq_getElem hi)
    exact isNC_dg (dg_of_val hd)
  intro c hc
  by_cases hneg : v < 0
  · obtain ⟨u, rfl⟩ : ∃ u : Nat, v = -(u : Int) := ⟨v.natAbs, by omega⟩
    rw [Lib.itoa_neg u (by omega)] at hc
    rcases List.mem_cons.1 hc with e | e
    · subst e; decide
    · exact key u c e
  · obtain ⟨u, rfl⟩ : ∃ u : Nat, v = u := ⟨v.toNat, by omega⟩
    rw [Lib.itoa_nonneg] at hc
    exact key u c hc

theorem numPart_canon {r : List UInt8} {v : Int} (h : canon (numPart r) = some v) : numPart r = Lib.itoa v := (canon_itoa h).symm

theorem itoa_first (v : Int) : ∃ c r, Lib.itoa v = c :: r ∧ isNC c = true := by
  cases e : Lib.itoa v with
  | nil => exact absurd e (canon_ne (canon_of_itoa v))
  | cons c r => exact ⟨c, r, rfl, itoa_nc v c (by rw [e]; simp)⟩

/-- What is read is written so. -/
theorem whole_mkd {s : List UInt8} {k x : Int} {ks : List (List UInt8)} (h : whole s = some (k, x, ks)) : mk k x ks = some s := by
  obtain ⟨hl, ht⟩ := whole_some h
  rcases T_cases ht with ⟨h0, e⟩ | ⟨h0, e⟩ | ⟨h0, hc⟩ | ⟨h1, h2, h3, hn⟩
  · simp only [Prod.mk.injEq] at e
    obtain ⟨rfl, rfl, rfl, e⟩ := e
    have : s = [95] := by
      cases s with
      | nil => simp at e
      | cons a r => simp at e h0; rw [e, h0]
    subst this; decide
  · simp only [Prod.mk.injEq] at e
    obtain ⟨rfl, rfl, rfl, e⟩ := e
    have : s = [33] := by
      cases s with
      | nil => simp at e
      | cons a r => simp at e h0; rw [e, h0]
    subst this; decide
  · cases s with
    | nil => simp at h0
    | cons a r =>
      have ha : a = 64 := by simpa using h0
      subst ha
      rw [List.drop_one, List.tail_cons] at hc
      obtain ⟨v, hcn, htag, ⟨h40, e⟩ | ⟨h40, ks', m, hp, e⟩⟩ := conT_cases hc
      · simp only [Prod.mk.injEq, List.length_cons] at e
        obtain ⟨rfl, rfl, rfl, e⟩ := e
        have er : r = Lib.itoa x := by
          rw [← numPart_canon hcn]
          conv => lhs; rw [← List.take_of_length_le (i := (numPart r).length) (l := r) (by omega), numPart_take]
        subst er
        unfold mk head
        rw [if_neg (by decide), if_neg (by decide), if_neg (by decide), if_pos rfl, if_pos htag]
        simp only [behind, tail]
        simp at hl ⊢; omega
      · simp only [Prod.mk.injEq, List.length_cons] at e
        obtain ⟨rfl, rfl, rfl, e⟩ := e
        obtain ⟨i1, i2, i3, i4, i5, i6⟩ := Tp_text (T_back 1024) (T_size 1024) 3 _ ks m hp
        have er : r = Lib.itoa x ++ 40 :: (jn ks ++ [41]) := by
          rw [← i4, ← numPart_canon hcn]
          conv => lhs; rw [← List.take_append_drop ((numPart r).length + 1) r, List.take_add_one, numPart_take, h40]
          rw [List.take_of_length_le (by rw [List.length_drop]; omega)]; simp
        have hall : behind 2 ks = true := by
          unfold behind
          simp only [decide_true, Bool.true_and, Bool.or_eq_true, Bool.and_eq_true, decide_eq_true_eq]
          refine Or.inr ⟨i2, List.all_eq_true.2 fun s hs => ?_⟩
          refine (isW_whole ?_).1 (i3 s hs)
          have := jn_part ks s hs
          rw [er] at hl; simp at hl; omega
        unfold mk head
        rw [if_neg (by decide), if_neg (by decide), if_neg (by decide), if_pos rfl, if_pos htag]
        simp only [hall, tail, if_neg i1, if_true]
        rw [List.cons_append, ← er, if_pos hl]
  · unfold numT at hn
    cases hc : canon (numPart s) with
    | none => rw [hc] at hn; cases hn
    | some v =>
      rw [hc] at hn
      simp only at hn
      split at hn
      · rename_i hm
        have e := Option.some.inj hn
        simp only [Prod.mk.injEq] at e
        obtain ⟨rfl, rfl, rfl, e⟩ := e
        have er : s = Lib.itoa v := by
          rw [← numPart_canon hc]
          conv => lhs; rw [← List.take_of_length_le (i := (numPart s).length) (l := s) (by omega), numPart_take]
        unfold mk head
        rw [if_neg (by decide), if_neg (by decide), if_pos rfl, if_pos hm]
        simp only [behind, tail]
        rw [← er]; simp; exact hl
      · cases hn

/-- What is written is read so. -/
theorem mkd_whole {s : List UInt8} {k x : Int} {ks : List (List UInt8)} (h : mk k x ks = some s) : whole s = some (k, x, ks) := by
  unfold mk at h
  cases hh : head k x with
  | none => rw [hh] at h; cases h
  | some hd =>
    rw [hh] at h
    simp only at h
    by_cases hb : behind k ks = true
    · rw [if_pos hb] at h
      by_cases hl : (hd ++ tail ks).length ≤ 1024
      · rw [if_pos hl] at h
        have e := Option.some.inj h
        subst e
        refine whole_mk hl ?_
        unfold head at hh
        by_cases k2 : k = 2
        · subst k2
          rw [if_neg (by decide), if_neg (by decide), if_neg (by decide), if_pos rfl] at hh
          by_cases htag : tagB x = true
          · rw [if_pos htag] at hh
            have e := Option.some.inj hh; subst e
            rw [T_con rfl]
            show conT (T 1024) (Lib.itoa x ++ tail ks) = _
            by_cases hk : ks = []
            · subst hk
              have en : numPart (Lib.itoa x ++ []) = Lib.itoa x := numPart_app _ [] (itoa_nc x) (fun c hc => by simp at hc)
              show conT (T 1024) (Lib.itoa x ++ []) = _
              have := conT_bare (rd := T 1024) (r := Lib.itoa x ++ []) (v := x) (by rw [en]; exact canon_of_itoa x) htag (by rw [en]; simp)
              rw [this, en]; simp [tail]; omega
            · have htl : tail ks = 40 :: (jn ks ++ [41]) := by rw [tail, if_neg hk]
              rw [htl] at hl ⊢
              have en : numPart (Lib.itoa x ++ 40 :: (jn ks ++ [41])) = Lib.itoa x := numPart_app _ _ (itoa_nc x) (fun c hc => by simp at hc; subst hc; decide)
              have hb' : ks.length ≤ 3 ∧ ∀ s ∈ ks, (whole s).isSome = true := by
                unfold behind at hb
                simp only [Bool.or_eq_true, Bool.and_eq_true, decide_eq_true_eq, List.all_eq_true, List.isEmpty_iff] at hb
                rcases hb with e | ⟨⟨_, e⟩, e2⟩
                · exact absurd e hk
                · exact ⟨e, e2⟩
              have hw : ∀ s ∈ ks, isW (T 1024) s := fun s hs => by
                refine (isW_whole ?_).2 (hb'.2 s hs)
                have := jn_part ks s hs
                simp at hl; omega
              have hp := Tp_made (T_loc 1024) 3 ks [] hk hb'.1 hw
              have := conT_full (rd := T 1024) (r := Lib.itoa x ++ 40 :: (jn ks ++ [41])) (v := x) (ks := ks) (m := (jn ks).length + 1) (by rw [en]; exact canon_of_itoa x) htag
                (by rw [en, List.getElem?_append_right (Nat.le_refl _), Nat.sub_self]; rfl)
                (by rw [en, List.drop_append, List.drop_of_length_le (by omega)]; simpa using hp)
              rw [this, en]; simp; omega
          · rw [if_neg htag] at hh; cases hh
        · have hk : ks = [] := by
            unfold behind at hb
            simp only [Bool.or_eq_true, Bool.and_eq_true, decide_eq_true_eq, List.isEmpty_iff] at hb
            rcases hb with e | ⟨⟨e, _⟩, _⟩
            · exact e
            · exact absurd e k2
          subst hk
          have htl : tail [] = [] := rfl
          rw [htl, List.append_nil] at hl ⊢
          by_cases k0 : k = 0
          · subst k0; rw [if_pos rfl] at hh
            by_cases hx : x = 0
            · rw [if_pos hx] at hh; have e := Option.some.inj hh; subst e; subst hx; exact T_hole rfl
            · rw [if_neg hx] at hh; cases hh
          rw [if_neg k0] at hh
          by_cases k3 : k = 3
          · subst k3; rw [if_pos rfl] at hh
            by_cases hx : x = 0
            · rw [if_pos hx] at hh; have e := Option.some.inj hh; subst e; subst hx; exact T_fail rfl
            · rw [if_neg hx] at hh; cases hh
          rw [if_neg k3] at hh
          by_cases k1 : k = 1
          · subst k1; rw [if_pos rfl] at hh
            by_cases hm : mayB x = true
            · rw [if_pos hm] at hh; have e := Option.some.inj hh; subst e
              obtain ⟨c, r, ec, hc⟩ := itoa_first x
              have n1 : (Lib.itoa x)[0]? ≠ some 95 := by rw [ec]; intro e; simp at e; subst e; simp [isNC] at hc
              have n2 : (Lib.itoa x)[0]? ≠ some 33 := by rw [ec]; intro e; simp at e; subst e; simp [isNC] at hc
              have n3 : (Lib.itoa x)[0]? ≠ some 64 := by rw [ec]; intro e; simp at e; subst e; simp [isNC] at hc
              rw [T_num n1 n2 n3]
              have en : numPart (Lib.itoa x) = Lib.itoa x := by
                have := numPart_app (Lib.itoa x) [] (itoa_nc x) (fun c hc => by simp at hc)
                rwa [List.append_nil] at this
              unfold numT
              rw [en, canon_of_itoa x]; simp [hm]
            · rw [if_neg hm] at hh; cases hh
          rw [if_neg k1, if_neg k2] at hh; cases hh
      · rw [if_neg hl] at h; cases h
    · rw [if_neg hb] at h; cases h

/-- The parts of a whole term are whole terms, and shorter. -/
theorem whole_parts {s : List UInt8} {k x : Int} {ks : List (List UInt8)} (h : whole s = some (k, x, ks)) :
    (∀ p ∈ ks, (whole p).isSome = true ∧ p.length < s.length) ∧ (k = 2 ∨ ks = []) ∧ ks.length ≤ 3 := by
  have hm := whole_mkd h
  unfold mk at hm
  cases hh : head k x with
  | none => rw [hh] at hm; cases hm
  | some hd =>
    rw [hh] at hm
    simp only at hm
    by_cases hb : behind k ks = true
    · rw [if_pos hb] at hm
      by_cases hl : (hd ++ tail ks).length ≤ 1024
      · rw [if_pos hl] at hm
        have e := Option.some.inj hm
        unfold behind at hb
        simp only [Bool.or_eq_true, Bool.and_eq_true, decide_eq_true_eq, List.isEmpty_iff, List.all_eq_true] at hb
        rcases hb with e1 | ⟨⟨e1, e2⟩, e3⟩
        · subst e1; simp
        · refine ⟨fun p hp => ⟨e3 p hp, ?_⟩, Or.inl e1, e2⟩
          have := jn_part ks p hp
          have hne : ks ≠ [] := fun e => by subst e; cases hp
          rw [← e, tail, if_neg hne]; simp; omega
      · rw [if_neg hl] at hm; cases hm
    · rw [if_neg hb] at hm; cases hm

end Go.Proofs.YtjamknejllbmkaaGreatDoor.Tm

namespace Go.Proofs.YtjamknejllbmkaaGreatDoor
set_option linter.unusedVariables false

/-- A part of a body. -/
structure Ex where
  kind : Int
  num : Int
  bind : Int
  kids : List Int
deriving DecidableEq

/-- May a part be such, but for where its kids stand, with t levels there? -/
def okE (k m b n t : Int) : Bool :=
  if k = 0 then decide (b = 0 ∧ (-32768 ≤ m ∧ m ≤ 32767) ∧ n = 0)
  else if k = 1 then decide (b = 0 ∧ (0 ≤ m ∧ m ≤ t - 1) ∧ n = 0)
  else if k = 2 then decide (b = 0 ∧ (0 ≤ m ∧ m ≤ 7) ∧ n ≤ 3)
  else if k = 3 then decide (b = 0 ∧ (0 ≤ m ∧ m ≤ 99) ∧ n ≤ 3)
  else if k = 4 then decide (b = 0 ∧ (0 ≤ m ∧ m ≤ 4) ∧ n = 2)
  else if k = 5 then decide ((0 ≤ m ∧ m ≤ 99) ∧ (0 ≤ b ∧ b ≤ 3) ∧ n = 3)
  else if k = 6 then decide (b = 0 ∧ m = 0 ∧ n = 2)
  else if k = 7 then decide (b = 0 ∧ m = 0 ∧ n = 0)
  else false
/-- How many levels more the kid i has. -/
def bnd (k b i : Int) : Int := if i = 1 then (if k = 5 then b else if k = 6 then 1 else 0) else 0
def Ex.ok (e : Ex) (t : Int) : Bool := okE e.kind e.num e.bind e.kids.length t
def Ex.bd (e : Ex) (i : Int) : Int := bnd e.kind e.bind i

/-- The kids get their levels: package expr's way (-1: nobody's). -/
def hd (n : Nat) (e : Ex) (t : Int) : Nat → List Int → List Int → Option (List Int)
  | _, [], L => some L
  | i, k :: ks, L =>
    if 0 ≤ k ∧ k ≤ (n : Int) - 1 ∧ L[k.toNat]? = some (-1) then
      (if t + e.bd i > 8 then none else hd n e t (i + 1) ks (L.set k.toNat (t + e.bd i)))
    else none
/-- One part, standing at 'at'. -/
def stp (L : List Int) (x : Nat × Ex) : Option (List Int) :=
  match L[x.1]? with
  | none => none
  | some t => if t = -1 then none else if x.2.ok t = false then none else hd x.1 x.2 t 0 x.2.kids L
def run : List Int → List (Nat × Ex) → Option (List Int)
  | L, [] => some L
  | L, x :: xs => match stp L x with
    | none => none
    | some L' => run L' xs
/-- The parts, the last one first, with their places. -/
def backw (xs : List Ex) : List (Nat × Ex) := (xs.zipIdx.map fun x => (x.2, x.1)).reverse
/-- The levels at first. -/
def start (p : Int) (n : Nat) : List Int := (List.replicate n (-1)).set (n - 1) p
def may (p : Int) (xs : List Ex) : Bool :=
  if 0 ≤ p ∧ p ≤ 3 ∧ 1 ≤ xs.length ∧ xs.length ≤ 24 then (run (start p xs.length) (backw xs)).isSome else false

/-- The document's way (and 1; 0: nobody's). -/
def rd (n : Nat) (e : Ex) (t : Int) : Nat → List Int → List Int → Option (List Int)
  | _, [], M => some M
  | i, k :: ks, M =>
    if 0 ≤ k ∧ k ≤ (n : Int) - 1 ∧ M[k.toNat]? = some 0 then rd n e t (i + 1) ks (M.set k.toNat (t + e.bd i)) else none
def rstp (M : List Int) (x : Nat × Ex) : Option (List Int) :=
  match M[x.1]? with
  | none => none
  | some t => if t = 0 then none else if t - 1 > 8 then none else if x.2.ok (t - 1) = false then none else rd x.1 x.2 t 0 x.2.kids M
def rrun : List Int → List (Nat × Ex) → Option (List Int)
  | M, [] => some M
  | M, x :: xs => match rstp M x with
    | none => none
    | some M' => rrun M' xs
def rstart (p : Int) (n : Nat) : List Int := (List.replicate n 0).set (n - 1) (p + 1)
def rmay (p : Int) (xs : List Ex) : Bool :=
  if 0 ≤ p ∧ p ≤ 3 ∧ 1 ≤ xs.length ∧ xs.length ≤ 24 then (rrun (rstart p xs.length) (backw xs)).isSome else false

/-! Lengths stay; what is told stays. -/
theorem hd_len {n : Nat} {e : Ex} {t : Int} : ∀ {ks : List Int} {i : Nat} {L L' : List Int}, hd n e t i ks L = some L' → L'.length = L.length
  | [], i, L, L', h => by rw [hd] at h; cases h; rfl
  | k :: ks, i, L, L', h => by
    rw [hd] at h
    split at h
    · split at h
      · cases h
      · have := hd_len h; simpa using this
    · cases h
theorem stp_len {L L' : List Int} {x : Nat × Ex} (h : stp L x = some L') : L'.length = L.length := by
  unfold stp at h
  split at h
  · cases h
  · split at h
    · cases h
    · split at h
      · cases h
      · exact hd_len h
theorem run_len : ∀ {xs : List (Nat × Ex)} {L L' : List Int}, run L xs = some L' → L'.length = L.length
  | [], L, L', h => by rw [run] at h; cases h; rfl
  | x :: xs, L, L', h => by
    rw [run] at h
    split at h
    · cases h
    · rename_i L1 h1
      rw [run_len h, stp_len h1]
theorem run_snoc : ∀ (xs : List (Nat × Ex)) (x : Nat × Ex) (L : List Int), run L (xs ++ [x]) = (run L xs).bind fun L' => stp L' x
  | [], x, L => by
    show run L [x] = stp L x
    rw [run]
    cases stp L x <;> rfl
  | y :: xs, x, L => by
    rw [List.cons_append, run, run]
    cases stp L y with
    | none => rfl
    | some L1 => exact run_snoc xs x L1
theorem run_pre : ∀ (xs ys : List (Nat × Ex)) (L : List Int), run L xs = none → run L (xs ++ ys) = none
  | [], ys, L, h => by rw [run] at h; cases h
  | x :: xs, ys, L, h => by
    rw [List.cons_append, run]
    rw [run] at h
    cases hs : stp L x with
    | none => rfl
    | some L1 => rw [hs] at h; exact run_pre xs ys L1 h

/-- No level is told beyond 8, none below -1. -/
def Fine (L : List Int) : Prop := ∀ v ∈ L, -1 ≤ v ∧ v ≤ 8
theorem bnd_le {k m b n t i : Int} (h : okE k m b n t = true) : 0 ≤ bnd k b i ∧ bnd k b i ≤ 3 := by
  unfold bnd
  split
  · split
    · rename_i h5
      subst h5
      simp [okE] at h
      omega
    · split <;> omega
  · omega
theorem Fine.set {L : List Int} (h : Fine L) (j : Nat) {v : Int} (h1 : -1 ≤ v) (h2 : v ≤ 8) : Fine (L.set j v) := by
  intro u hu
  rcases List.mem_or_eq_of_mem_set hu with h' | h'
  · exact h u h'
  · subst h'; exact ⟨h1, h2⟩
theorem hd_fine {n : Nat} {e : Ex} {t : Int} (ht : 0 ≤ t) (hb : ∀ i, 0 ≤ e.bd i) : ∀ {ks : List Int} {i : Nat} {L L' : List Int}, Fine L → hd n e t i ks L = some L' → Fine L'
  | [], i, L, L', hL, h => by rw [hd] at h; cases h; exact hL
  | k :: ks, i, L, L', hL, h => by
    rw [hd] at h
    split at h
    · split at h
      · cases h
      · exact hd_fine ht hb (hL.set _ (by have := hb i; omega) (by omega)) h
    · cases h
theorem stp_fine {L L' : List Int} {x : Nat × Ex} (hL : Fine L) (h : stp L x = some L') : Fine L' := by
  unfold stp at h
  split at h
  · cases h
  · rename_i t ht
    have htm := hL t (List.mem_of_getElem? ht)
    split at h
    · cases h
    · split at h
      · cases h
      · rename_i hok
        have hok' : x.2.ok t = true := by simpa using hok
        exact hd_fine (by omega) (fun i => (bnd_le hok').1) hL h
theorem run_fine : ∀ {xs : List (Nat × Ex)} {L L' : List Int}, Fine L → run L xs = some L' → Fine L'
  | [], L, L', hL, h => by rw [run] at h; cases h; exact hL
  | x :: xs, L, L', hL, h => by
    rw [run] at h
    split at h
    · cases h
    · rename_i L1 h1
      exact run_fine (stp_fine hL h1) h
theorem start_fine {p : Int} {n : Nat} (h0 : 0 ≤ p) (h3 : p ≤ 3) : Fine (start p n) := by
  unfold start
  refine Fine.set (fun v hv => ?_) _ (by omega) (by omega)
  rw [List.eq_of_mem_replicate hv]; omega
theorem start_len (p : Int) (n : Nat) : (start p n).length = n := by simp [start]
theorem rstart_len (p : Int) (n : Nat) : (rstart p n).length = n := by simp [rstart]

/-! Both ways say the same. -/
def up1 (L : List Int) : List Int := L.map (· + 1)
theorem up1_at (L : List Int) (j : Nat) : (up1 L)[j]? = (L[j]?).map (· + 1) := by simp [up1]
theorem up1_set (L : List Int) (j : Nat) (v : Int) : (up1 L).set j (v + 1) = up1 (L.set j v) := by simp [up1, List.map_set]
theorem up1_start (p : Int) (n : Nat) : rstart p n = up1 (start p n) := by simp [rstart, start, up1, List.map_set]

/-- A level beyond 8, once told ahead of 'n', stays. -/
theorem rd_keeps {n : Nat} {e : Ex} {t : Int} : ∀ {ks : List Int} {i : Nat} {M M' : List Int} {j : Nat} {v : Int}, M[j]? = some v → v ≠ 0 → rd n e t i ks M = some M' → M'[j]? = some v
  | [], i, M, M', j, v, hj, hv, h => by rw [rd] at h; cases h; exact hj
  | k :: ks, i, M, M', j, v, hj, hv, h => by
    rw [rd] at h
    split at h
    · rename_i hc
      have hne : k.toNat ≠ j := by
        intro e1
        rw [e1, hj] at hc
        exact hv (Option.some.inj hc.2.2)
      exact rd_keeps (by rw [List.getElem?_set_ne hne]; exact hj) hv h
    · cases h
/-- The places that are still to come hold one beyond 8: the document's way ends with no. -/
theorem rrun_far : ∀ {xs : List (Nat × Ex)} {M : List Int} {j : Nat} {v : Int}, (∃ x ∈ xs, x.1 = j) → M[j]? = some v → v - 1 > 8 → rrun M xs = none
  | [], M, j, v, hx, _, _ => by obtain ⟨x, h, _⟩ := hx; cases h
  | x :: xs, M, j, v, hx, hj, hv => by
    rw [rrun]
    cases hs : rstp M x with
    | none => rfl
    | some M' =>
      unfold rstp at hs
      split at hs
      · cases hs
      · rename_i t ht
        split at hs
        · cases hs
        · split at hs
          · cases hs
          · split at hs
            · cases hs
            · by_cases hxj : x.1 = j
              · rw [hxj, hj] at ht
                have := Option.some.inj ht
                subst this
                omega
              · obtain ⟨y, hy, hyj⟩ := hx
                have hy' : y ∈ xs := by
                  rcases List.mem_cons.1 hy with h | h
                  · subst h; exact absurd hyj hxj
                  · exact h
                exact rrun_far ⟨y, hy', hyj⟩ (rd_keeps hj (by omega) hs) hv
/-- One part's kids, both ways. -/
theorem hd_rd {n : Nat} {e : Ex} {t : Int} (rest : List (Nat × Ex)) (hrest : ∀ k : Int, 0 ≤ k → k ≤ (n : Int) - 1 → ∃ x ∈ rest, x.1 = k.toNat) : ∀ (ks : List Int) (i : Nat) (L : List Int),
    (∃ L', hd n e t i ks L = some L' ∧ rd n e (t + 1) i ks (up1 L) = some (up1 L')) ∨ (hd n e t i ks L = none ∧ ((rd n e (t + 1) i ks (up1 L)).bind fun M => rrun M rest) = none)
  | [], i, L => Or.inl ⟨L, rfl, rfl⟩
  | k :: ks, i, L => by
    rw [hd, rd]
    have he : (L[k.toNat]? = some (-1)) ↔ ((up1 L)[k.toNat]? = some 0) := by
      rw [up1_at]
      cases L[k.toNat]? with
      | none => simp
      | some v => simp; omega
    by_cases hc : 0 ≤ k ∧ k ≤ (n : Int) - 1 ∧ L[k.toNat]? = some (-1)
    · have hc' : 0 ≤ k ∧ k ≤ (n : Int) - 1 ∧ (up1 L)[k.toNat]? = some 0 := ⟨hc.1, hc.2.1, he.1 hc.2.2⟩
      rw [if_pos hc, if_pos hc']
      by_cases h8 : t + e.bd i > 8
      · rw [if_pos h8]
        refine Or.inr ⟨rfl, ?_⟩
        cases hr : rd n e (t + 1) (i + 1) ks ((up1 L).set k.toNat (t + 1 + e.bd i)) with
        | none => rfl
        | some M =>
          have hlt : k.toNat < (up1 L).length := (List.getElem?_eq_some_iff.1 hc'.2.2).1
          have hj : ((up1 L).set k.toNat (t + 1 + e.bd i))[k.toNat]? = some (t + 1 + e.bd i) := by
            rw [List.getElem?_set_self hlt]
          exact rrun_far (hrest k hc.1 hc.2.1) (rd_keeps hj (by omega) hr) (by omega)
      · rw [if_neg h8, show t + 1 + e.bd i = (t + e.bd i) + 1 by omega, up1_set]
        exact hd_rd rest hrest ks (i + 1) _
    · have hc' : ¬ (0 ≤ k ∧ k ≤ (n : Int) - 1 ∧ (up1 L)[k.toNat]? = some 0) := fun h => hc ⟨h.1, h.2.1, he.2 h.2.2⟩
      rw [if_neg hc, if_neg hc']
      exact Or.inr ⟨rfl, rfl⟩
/-- Places in order: each part stands right behind the rest. -/
def Ord : List (Nat × Ex) → Prop
  | [] => True
  | x :: xs => x.1 = xs.length ∧ Ord xs
theorem Ord.mem : ∀ {xs : List (Nat × Ex)}, Ord xs → ∀ j, j < xs.length → ∃ x ∈ xs, x.1 = j
  | [], _, j, hj => by simp at hj
  | x :: xs, h, j, hj => by
    by_cases e : j = xs.length
    · exact ⟨x, List.mem_cons_self, by rw [h.1, e]⟩
    · obtain ⟨y, hy, hyj⟩ := Ord.mem h.2 j (by simp at hj; omega)
      exact ⟨y, List.mem_cons_of_mem _ hy, hyj⟩
theorem run_rrun : ∀ (xs : List (Nat × Ex)) (L : List Int), Ord xs → Fine L → (run L xs).isSome = (rrun (up1 L) xs).isSome
  | [], L, _, _ => rfl
  | x :: xs, L, ho, hf => by
    rw [run, rrun]
    have hmem : ∀ k : Int, 0 ≤ k → k ≤ (x.1 : Int) - 1 → ∃ y ∈ xs, y.1 = k.toNat := fun k h0 h1 => ho.2.mem k.toNat (by have := ho.1; omega)
    unfold stp rstp
    rw [up1_at]
    cases ht : L[x.1]? with
    | none => rfl
    | some t =>
      have hft := hf t (List.mem_of_getElem? ht)
      simp only [Option.map_some]
      by_cases h1 : t = -1
      · subst h1; rfl
      · have e1 : ¬ t + 1 = 0 := by omega
        have e2 : ¬ t + 1 - 1 > 8 := by omega
        have e3 : t + 1 - 1 = t := by omega
        rw [if_neg h1, if_neg e1, if_neg e2, e3]
        by_cases hk : x.2.ok t = false
        · rw [if_pos hk, if_pos hk]
        · rw [if_neg hk, if_neg hk]
          have hok : x.2.ok t = true := by simpa using hk
          rcases hd_rd (n := x.1) (e := x.2) (t := t) xs hmem x.2.kids 0 L with ⟨L', e1, e2⟩ | ⟨e1, e2⟩
          · rw [e1, e2]
            exact run_rrun xs L' ho.2 (hd_fine (by omega) (fun i => (bnd_le hok).1) hf e1)
          · rw [e1]
            cases hr : rd x.1 x.2 (t + 1) 0 x.2.kids (up1 L) with
            | none => rfl
            | some M =>
              rw [hr] at e2
              have e2' : rrun M xs = none := e2
              show (none : Option (List Int)).isSome = (rrun M xs).isSome
              rw [e2']
theorem backw_nil : backw [] = [] := rfl
theorem backw_snoc (xs : List Ex) (x : Ex) : backw (xs ++ [x]) = (xs.length, x) :: backw xs := by
  simp [backw, List.zipIdx_append]
theorem backw_len (xs : List Ex) : (backw xs).length = xs.length := by simp [backw]
theorem list_snoc_ind {P : List Ex → Prop} (h0 : P []) (h1 : ∀ xs x, P xs → P (xs ++ [x])) (xs : List Ex) : P xs := by
  have : ∀ ys : List Ex, P ys.reverse := by
    intro ys
    induction ys with
    | nil => exact h0
    | cons y ys ih => rw [List.reverse_cons]; exact h1 _ _ ih
  have h := this xs.reverse
  rwa [List.reverse_reverse] at h
theorem backw_ord (xs : List Ex) : Ord (backw xs) := by
  induction xs using list_snoc_ind with
  | h0 => exact trivial
  | h1 xs x ih => rw [backw_snoc]; exact ⟨by rw [backw_len], ih⟩
theorem may_rmay (p : Int) (xs : List Ex) : may p xs = rmay p xs := by
  unfold may rmay
  by_cases h : 0 ≤ p ∧ p ≤ 3 ∧ 1 ≤ xs.length ∧ xs.length ≤ 24
  · rw [if_pos h, if_pos h, up1_start]
    exact run_rrun _ _ (backw_ord xs) (start_fine h.1 h.2.1)
  · rw [if_neg h, if_neg h]
end Go.Proofs.YtjamknejllbmkaaGreatDoor

namespace Go.Proofs.YtjamknejllbmkaaGreatDoor
set_option linter.unusedVariables false

/-- A definition. -/
structure Df where
  params : Int
  body : List Ex
deriving DecidableEq

/-- Is there one that takes this call? -/
def takes (ds : List Df) (e : Ex) : Bool :=
  decide (0 ≤ e.num) && (match ds[e.num.toNat]? with | none => false | some d => decide ((e.kids.length : Int) = d.params))
/-- A call that nobody takes. -/
def wrong (ds : List Df) (e : Ex) : Bool := decide (e.kind = 2) && !takes ds e
def dOk (ds : List Df) (d : Df) : Bool := may d.params d.body && !d.body.any (wrong ds)
def pmay (ds : List Df) : Bool :=
  decide (1 ≤ ds.length ∧ ds.length ≤ 8) && (match ds[0]? with | none => false | some d => decide (d.params = 0)) && ds.all (dOk ds)

/-! What may be has parts that may be. -/
theorem run_ok : ∀ {xs : List (Nat × Ex)} {L : List Int}, (run L xs).isSome = true → ∀ x ∈ xs, ∃ t, x.2.ok t = true
  | [], L, _, x, hx => by cases hx
  | y :: xs, L, h, x, hx => by
    rw [run] at h
    cases hs : stp L y with
    | none => rw [hs] at h; cases h
    | some L1 =>
      rw [hs] at h
      rcases List.mem_cons.1 hx with rfl | hx
      · unfold stp at hs
        split at hs
        · cases hs
        · rename_i t _
          split at hs
          · cases hs
          · split at hs
            · cases hs
            · rename_i hk
              exact ⟨t, by simpa using hk⟩
      · exact run_ok h x hx
theorem mem_backw {xs : List Ex} {x : Ex} (h : x ∈ xs) : ∃ n, (n, x) ∈ backw xs := by
  obtain ⟨i, hi, rfl⟩ := List.getElem_of_mem h
  refine ⟨i, ?_⟩
  unfold backw
  rw [List.mem_reverse, List.mem_map]
  exact ⟨(xs[i], i), by rw [List.mem_zipIdx_iff_getElem?]; exact List.getElem?_eq_getElem hi, rfl⟩
theorem may_parts {p : Int} {xs : List Ex} (h : may p xs = true) : ∀ x ∈ xs, ∃ t, x.ok t = true := by
  intro x hx
  unfold may at h
  split at h
  · obtain ⟨n, hn⟩ := mem_backw hx
    obtain ⟨t, ht⟩ := run_ok h _ hn
    exact ⟨t, ht⟩
  · cases h
theorem may_len {p : Int} {xs : List Ex} (h : may p xs = true) : xs.length ≤ 24 := by
  unfold may at h
  split at h
  · omega
  · cases h
theorem ok_call {e : Ex} {t : Int} (h : e.ok t = true) (hk : e.kind = 2) : 0 ≤ e.num ∧ e.num ≤ 7 := by
  unfold Ex.ok at h
  rw [hk] at h
  simp [okE] at h
  omega
/-- A call in what may be: its number is none below 0. -/
theorem may_call {p : Int} {xs : List Ex} (h : may p xs = true) {x : Ex} (hx : x ∈ xs) (hk : x.kind = 2) : 0 ≤ x.num := by
  obtain ⟨t, ht⟩ := may_parts h x hx
  exact (ok_call ht hk).1

/-! Two definitions change places. -/
/-- The number y for x and x for y. -/
def swp (x y m : Int) : Int := if m = x then y else if m = y then x else m
/-- The same part with its call turned. -/
def Ex.sw (x y : Int) (e : Ex) : Ex := if e.kind = 2 then { e with num := swp x y e.num } else e
def Df.sw (x y : Int) (d : Df) : Df := { d with body := d.body.map (Ex.sw x y) }
theorem sw_kind (x y : Int) (e : Ex) : (e.sw x y).kind = e.kind := by unfold Ex.sw; split <;> rfl
theorem sw_bind (x y : Int) (e : Ex) : (e.sw x y).bind = e.bind := by unfold Ex.sw; split <;> rfl
theorem sw_kids (x y : Int) (e : Ex) : (e.sw x y).kids = e.kids := by unfold Ex.sw; split <;> rfl
theorem sw_bd (x y : Int) (e : Ex) (i : Int) : (e.sw x y).bd i = e.bd i := by unfold Ex.bd; rw [sw_kind, sw_bind]
theorem sw_ok {x y : Int} (hx : 0 ≤ x ∧ x ≤ 7) (hy : 0 ≤ y ∧ y ≤ 7) (e : Ex) (t : Int) : (e.sw x y).ok t = e.ok t := by
  unfold Ex.ok
  rw [sw_kind, sw_bind, sw_kids]
  unfold Ex.sw
  by_cases h : e.kind = 2
  · rw [if_pos h, h]
    simp only [okE]
    have : (0 ≤ swp x y e.num ∧ swp x y e.num ≤ 7) ↔ (0 ≤ e.num ∧ e.num ≤ 7) := by
      unfold swp
      split
      · omega
      · split <;> omega
    simp [this]
  · rw [if_neg h]
theorem sw_hd {n : Nat} {e : Ex} {t : Int} (x y : Int) : ∀ (ks : List Int) (i : Nat) (L : List Int), hd n (e.sw x y) t i ks L = hd n e t i ks L
  | [], i, L => rfl
  | k :: ks, i, L => by
    rw [hd, hd, sw_bd]
    split
    · split
      · rfl
      · exact sw_hd x y ks _ _
    · rfl
theorem sw_stp {x y : Int} (hx : 0 ≤ x ∧ x ≤ 7) (hy : 0 ≤ y ∧ y ≤ 7) (L : List Int) (n : Nat) (e : Ex) : stp L (n, e.sw x y) = stp L (n, e) := by
  unfold stp
  dsimp only
  cases L[n]? with
  | none => rfl
  | some t =>
    dsimp only
    rw [sw_ok hx hy, sw_kids, sw_hd]
theorem sw_run {x y : Int} (hx : 0 ≤ x ∧ x ≤ 7) (hy : 0 ≤ y ∧ y ≤ 7) : ∀ (xs : List (Nat × Ex)) (L : List Int), run L (xs.map fun q => (q.1, q.2.sw x y)) = run L xs
  | [], L => rfl
  | q :: xs, L => by
    rw [List.map_cons, run, run, sw_stp hx hy]
    cases stp L (q.1, q.2) with
    | none => rfl
    | some L' => exact sw_run hx hy xs L'
theorem backw_map (f : Ex → Ex) (xs : List Ex) : backw (xs.map f) = (backw xs).map fun q => (q.1, f q.2) := by
  induction xs using list_snoc_ind with
  | h0 => rfl
  | h1 xs x ih => rw [List.map_append, List.map_singleton, backw_snoc, backw_snoc, List.map_cons, ih, List.length_map]
theorem sw_may {x y : Int} (hx : 0 ≤ x ∧ x ≤ 7) (hy : 0 ≤ y ∧ y ≤ 7) (p : Int) (xs : List Ex) : may p (xs.map (Ex.sw x y)) = may p xs := by
  unfold may
  rw [List.length_map, backw_map, sw_run hx hy]

/-- The places x and y change. -/
def swl {α : Type} (x y : Nat) (ds : List α) : List α :=
  match ds[x]?, ds[y]? with
  | some a, some b => (ds.set x b).set y a
  | _, _ => ds
theorem swl_len {α : Type} (x y : Nat) (ds : List α) : (swl x y ds).length = ds.length := by
  unfold swl; split <;> simp
theorem swl_at {α : Type} {x y : Nat} {ds : List α} (hx : x < ds.length) (hy : y < ds.length) (j : Nat) :
    (swl x y ds)[j]? = if j = x then ds[y]? else if j = y then ds[x]? else ds[j]? := by
  unfold swl
  rw [List.getElem?_eq_getElem hx, List.getElem?_eq_getElem hy]
  simp only [List.getElem?_set, List.length_set]
  by_cases h1 : y = j
  · subst h1
    by_cases h2 : x = y
    · subst h2; simp [hx]
    · rw [if_pos rfl, if_pos hy, if_neg (fun e => h2 e.symm), if_pos rfl]
  · rw [if_neg h1]
    by_cases h2 : x = j
    · subst h2; simp [hx]
    · rw [if_neg h2, if_neg (fun e => h2 e.symm), if_neg (fun e => h1 e.symm)]
/-- The program whose definitions x and y change places, with its calls turned. -/
def swP (x y : Nat) (ds : List Df) : List Df := (swl x y ds).map (Df.sw (x : Int) (y : Int))
theorem swP_len (x y : Nat) (ds : List Df) : (swP x y ds).length = ds.length := by unfold swP; rw [List.length_map, swl_len]
theorem swP_at {x y : Nat} {ds : List Df} (hx : x < ds.length) (hy : y < ds.length) (j : Nat) :
    (swP x y ds)[j]? = (if j = x then ds[y]? else if j = y then ds[x]? else ds[j]?).map (Df.sw (x : Int) (y : Int)) := by
  unfold swP
  rw [List.getElem?_map, swl_at hx hy]
/-- What is asked of where a call's number is. -/
theorem swP_swp {x y : Nat} {ds : List Df} (hx : x < ds.length) (hy : y < ds.length) {m : Int} (hm : 0 ≤ m) :
    (swP x y ds)[(swp x y m).toNat]? = (ds[m.toNat]?).map (Df.sw (x : Int) (y : Int)) := by
  rw [swP_at hx hy]
  unfold swp
  by_cases h1 : m = x
  · subst h1
    rw [if_pos rfl]
    by_cases h2 : (y : Int) = (x : Int)
    · have : y = x := by omega
      subst this; simp
    · have h3 : ¬ y = x := by omega
      simp [h3]
  · rw [if_neg h1]
    by_cases h2 : m = y
    · subst h2; simp
    · rw [if_neg h2, if_neg (by omega), if_neg (by omega)]
theorem sw_takes {x y : Nat} {ds : List Df} (hx : x < ds.length) (hy : y < ds.length) {e : Ex} (hk : e.kind = 2) : takes (swP x y ds) (e.sw x y) = takes ds e := by
  unfold takes
  rw [sw_kids]
  have hn : (e.sw x y).num = swp x y e.num := by unfold Ex.sw; rw [if_pos hk]
  rw [hn]
  have h0 : (0 ≤ swp x y e.num) ↔ (0 ≤ e.num) := by
    unfold swp
    split
    · omega
    · split <;> omega
  by_cases hm : 0 ≤ e.num
  · rw [swP_swp hx hy hm, decide_eq_true (h0.2 hm), decide_eq_true hm]
    cases ds[e.num.toNat]? <;> rfl
  · rw [decide_eq_false hm, decide_eq_false (fun h => hm (h0.1 h)), Bool.false_and, Bool.false_and]
theorem sw_wrong {x y : Nat} {ds : List Df} (hx : x < ds.length) (hy : y < ds.length) (e : Ex) : wrong (swP x y ds) (e.sw x y) = wrong ds e := by
  unfold wrong
  rw [sw_kind]
  by_cases h : e.kind = 2
  · rw [sw_takes hx hy h]
  · rw [decide_eq_false h]; rfl
theorem sw_dOk {x y : Nat} {ds : List Df} (hx : x < ds.length) (hy : y < ds.length) (hl : ds.length ≤ 8) (d : Df) : dOk (swP x y ds) (d.sw x y) = dOk ds d := by
  unfold dOk
  show (may d.params (d.body.map (Ex.sw x y)) && _) = _
  rw [sw_may (by omega) (by omega)]
  congr 2
  show (d.body.map (Ex.sw x y)).any _ = _
  rw [List.any_map]
  congr 1
  funext e
  exact sw_wrong hx hy e
theorem swl_mem {α : Type} {x y : Nat} {ds : List α} (hx : x < ds.length) (hy : y < ds.length) (d : α) : d ∈ swl x y ds ↔ d ∈ ds := by
  rw [List.mem_iff_getElem?, List.mem_iff_getElem?]
  constructor
  · rintro ⟨j, hj⟩
    rw [swl_at hx hy] at hj
    split at hj
    · exact ⟨_, hj⟩
    · split at hj
      · exact ⟨_, hj⟩
      · exact ⟨_, hj⟩
  · rintro ⟨j, hj⟩
    by_cases h1 : j = x
    · subst h1
      refine ⟨y, ?_⟩
      rw [swl_at hx hy]
      by_cases h2 : y = j
      · subst h2; rw [if_pos rfl]; exact hj
      · rw [if_neg h2, if_pos rfl]; exact hj
    · by_cases h2 : j = y
      · subst h2
        exact ⟨x, by rw [swl_at hx hy, if_pos rfl]; exact hj⟩
      · exact ⟨j, by rw [swl_at hx hy, if_neg h1, if_neg h2]; exact hj⟩
/-- It turns nothing. -/
theorem sw_pmay {x y : Nat} {ds : List Df} (hx : x < ds.length) (hy : y < ds.length) (hx1 : 1 ≤ x) (hy1 : 1 ≤ y) : pmay (swP x y ds) = pmay ds := by
  unfold pmay
  rw [swP_len]
  by_cases hl : 1 ≤ ds.length ∧ ds.length ≤ 8
  · have h0 : (swP x y ds)[0]? = (ds[0]?).map (Df.sw (x : Int) (y : Int)) := by
      rw [swP_at hx hy, if_neg (by omega), if_neg (by omega)]
    rw [h0]
    have h1 : (swP x y ds).all (dOk (swP x y ds)) = ds.all (dOk ds) := by
      rw [Bool.eq_iff_iff, List.all_eq_true, List.all_eq_true]
      constructor
      · intro h d hd
        have := h (d.sw x y) (by unfold swP; exact List.mem_map.2 ⟨d, (swl_mem hx hy d).2 hd, rfl⟩)
        rwa [sw_dOk hx hy hl.2] at this
      · intro h d hd
        unfold swP at hd
        obtain ⟨d', hd', rfl⟩ := List.mem_map.1 hd
        rw [sw_dOk hx hy hl.2]
        exact h d' ((swl_mem hx hy d').1 hd')
    rw [h1]
    cases ds[0]? <;> rfl
  · rw [decide_eq_false hl]; rfl
end Go.Proofs.YtjamknejllbmkaaGreatDoor

namespace Go.Proofs.YtjamknejllbmkaaGreatDoor
set_option linter.unusedVariables false

abbrev Wd := List UInt8
/-- The number that a word tells. -/
def nb (w : Wd) : Option Int := match Tm.whole w with
  | some (k, x, _) => if k = 1 then some x else none
  | none => none
/-- The number that a word of digits tells. -/
def dg (w : Wd) : Option Int := match nb w with
  | some x => if x < 0 then none else some x
  | none => none
/-- The number whose digits stand behind that sign. -/
def db (c : UInt8) (w : Wd) : Option Int := match w with
  | [] => none
  | a :: r => if a = c then dg r else none
/-- The part that is this word alone. -/
def sg (w : Wd) : Option Ex :=
  if w = [101, 114, 114, 111, 114] then some ⟨7, 0, 0, []⟩
  else match db 36 w with
    | some x => some ⟨1, x, 0, []⟩
    | none => match db 64 w with
      | some x => some ⟨3, x, 0, []⟩
      | none => match nb w with
        | some x => some ⟨0, x, 0, []⟩
        | none => none
/-- The part, but for its kids, that this word tells behind a bracket. -/
def hdw (w : Wd) : Option Ex :=
  if w = [43] then some ⟨4, 0, 0, []⟩
  else if w = [45] then some ⟨4, 1, 0, []⟩
  else if w = [42] then some ⟨4, 2, 0, []⟩
  else if w = [61] then some ⟨4, 3, 0, []⟩
  else if w = [60] then some ⟨4, 4, 0, []⟩
  else if w = [108, 101, 116] then some ⟨6, 0, 0, []⟩
  else match db 102 w with
    | some x => some ⟨2, x, 0, []⟩
    | none => match db 64 w with
      | some x => some ⟨3, x, 0, []⟩
      | none => none

abbrev Rf := List Wd → List Ex → Option (List Wd × List Ex)
/-- Where the last one stands. -/
def lastAt (b : List Ex) : Int := (b.length : Int) - 1
/-- Kids up to the closing bracket. -/
def rr (f : Rf) : Nat → List Int → List Wd → List Ex → Option (List Wd × List Ex × List Int)
  | 0, _, _, _ => none
  | _ + 1, _, [], _ => none
  | m + 1, ks, w :: ws, b =>
    if w = [41] then some (ws, b, ks)
    else match f (w :: ws) b with
      | none => none
      | some (ws', b') => rr f m (ks ++ [lastAt b']) ws' b'
/-- Behind 'case'. -/
def rc (f : Rf) (m : Nat) (ws : List Wd) (b : List Ex) : Option (List Wd × List Ex × Ex) :=
  match f ws b with
  | none => none
  | some (ws1, b1) => match ws1 with
    | [] => none
    | t :: ws2 => match db 64 t with
      | none => none
      | some tag => match ws2 with
        | [] => none
        | v :: ws3 => match dg v with
          | none => none
          | some bind => match rr f m [lastAt b1] ws3 b1 with
            | none => none
            | some (ws4, b4, ks) => some (ws4, b4, ⟨5, tag, bind, ks⟩)
/-- Behind a bracket. -/
def rb (f : Rf) (m : Nat) (ws : List Wd) (b : List Ex) : Option (List Wd × List Ex × Ex) :=
  match ws with
  | [] => none
  | w :: ws => if w = [99, 97, 115, 101] then rc f m ws b
    else match hdw w with
      | none => none
      | some e => match rr f m [] ws b with
        | none => none
        | some (ws', b', ks) => if e.kind = 3 ∧ ks = [] then none else some (ws', b', { e with kids := ks })
/-- One part. -/
def rp : Nat → Rf
  | 0, _, _ => none
  | _ + 1, [], _ => none
  | n + 1, w :: ws, b =>
    if w = [40] then (match rb (rp n) (n + 1) ws b with
      | none => none
      | some (ws', b', e) => some (ws', b' ++ [e]))
    else match sg w with
      | none => none
      | some e => some (ws, b ++ [e])
/-- A definition. -/
def rdf (n : Nat) (ws : List Wd) : Option (List Wd × Df) :=
  match ws with
  | a :: d :: p :: ws => if a = [40] then (if d = [100, 101, 102] then (match dg p with
      | none => none
      | some x => match rp n ws [] with
        | none => none
        | some (ws', b) => match ws' with
          | [] => none
          | c :: ws'' => if c = [41] then some (ws'', ⟨x, b⟩) else none) else none) else none
  | _ => none
/-- Definitions up to the end. -/
def rpg (n : Nat) : Nat → List Df → List Wd → Option (List Df)
  | 0, _, _ => none
  | _ + 1, ds, [] => some ds
  | m + 1, ds, w :: ws => match rdf n (w :: ws) with
    | none => none
    | some (ws', d) => rpg n m (ds ++ [d]) ws'
/-- A text's program. -/
def pp (s : List UInt8) : Option (List Df) :=
  if Lx.good s then (match rpg 2049 2049 [] (Lx.wd false [] s) with
    | none => none
    | some ds => if pmay ds then some ds else none) else none

/-! Each part takes a word. -/
theorem rr_len {f : Rf} (hf : ∀ ws b ws' b', f ws b = some (ws', b') → ws'.length < ws.length) : ∀ (m : Nat) (ks : List Int) (ws : List Wd) (b : List Ex) (ws' : List Wd) (b' : List Ex) (ks' : List Int), rr f m ks ws b = some (ws', b', ks') → ws'.length < ws.length
  | 0, _, _, _, _, _, _, h => by simp [rr] at h
  | _ + 1, _, [], _, _, _, _, h => by simp [rr] at h
  | m + 1, ks, w :: ws, b, ws', b', ks', h => by
    rw [rr] at h
    split at h
    · cases h; simp
    · split at h
      · cases h
      · rename_i ws1 b1 h1
        have a1 := hf _ _ _ _ h1
        have a2 := rr_len hf m _ _ _ _ _ _ h
        omega
theorem rp_len : ∀ (n : Nat) (ws : List Wd) (b : List Ex) (ws' : List Wd) (b' : List Ex), rp n ws b = some (ws', b') → ws'.length < ws.length
  | 0, _, _, _, _, h => by simp [rp] at h
  | _ + 1, [], _, _, _, h => by simp [rp] at h
  | n + 1, w :: ws, b, ws', b', h => by
    have ih := rp_len n
    rw [rp] at h
    split at h
    · split at h
      · cases h
      · rename_i ws1 b1 e1 h1
        cases h
        suffices ws'.length < ws.length by simp; omega
        unfold rb at h1
        split at h1
        · cases h1
        · rename_i w2 ws2
          split at h1
          · unfold rc at h1
            split at h1
            · cases h1
            · rename_i wsa ba ha
              have aa := ih _ _ _ _ ha
              split at h1
              · cases h1
              · rename_i t wst
                split at h1
                · cases h1
                · split at h1
                  · cases h1
                  · split at h1
                    · cases h1
                    · split at h1
                      · cases h1
                      · rename_i ws4 b4 ks4 h4
                        cases h1
                        have a4 := rr_len ih _ _ _ _ _ _ _ h4
                        simp at aa ⊢; omega
          · split at h1
            · cases h1
            · split at h1
              · cases h1
              · rename_i ws3 b3 ks3 h3
                split at h1
                · cases h1
                · cases h1
                  have a3 := rr_len ih _ _ _ _ _ _ _ h3
                  simp; omega
    · split at h
      · cases h
      · cases h; simp

theorem src_one : pp [40, 100, 101, 102, 32, 48, 32, 36, 48, 41] = none := by decide +kernel
theorem src_two : pp [] = none := by decide +kernel
end Go.Proofs.YtjamknejllbmkaaGreatDoor

namespace Go.Proofs.YtjamknejllbmkaaGreatDoor
set_option linter.unusedVariables false

/-- What a reading keeps. -/
def Gd (f : Rf) : Prop := ∀ ws b ws' b', f ws b = some (ws', b') → ws' <:+ ws ∧ ws'.length < ws.length ∧ ws'.length + b'.length ≤ ws.length + b.length ∧ b <+: b' ∧ b.length < b'.length
theorem rr_gd {f : Rf} (hf : Gd f) : ∀ (m : Nat) (ks : List Int) (ws : List Wd) (b : List Ex) (ws' : List Wd) (b' : List Ex) (ks' : List Int), rr f m ks ws b = some (ws', b', ks') →
    ws' <:+ ws ∧ ws'.length < ws.length ∧ ws'.length + b'.length < ws.length + b.length ∧ b <+: b' ∧ ks'.length + ws'.length < ks.length + ws.length
  | 0, _, _, _, _, _, _, h => by simp [rr] at h
  | _ + 1, _, [], _, _, _, _, h => by simp [rr] at h
  | m + 1, ks, w :: ws, b, ws', b', ks', h => by
    rw [rr] at h
    split at h
    · cases h; refine ⟨List.suffix_cons _ _, by simp, by simp, List.prefix_refl _, by simp⟩
    · split at h
      · cases h
      · rename_i ws1 b1 h1
        obtain ⟨a1, a2, a3, a4, a5⟩ := hf _ _ _ _ h1
        obtain ⟨c1, c2, c3, c4, c5⟩ := rr_gd hf m _ _ _ _ _ _ h
        refine ⟨c1.trans a1, by omega, by omega, a4.trans c4, ?_⟩
        rw [List.length_append] at c5
        simp only [List.length_cons, List.length_nil] at c5 a2 ⊢
        omega
theorem rc_gd {f : Rf} (hf : Gd f) {m : Nat} {ws : List Wd} {b : List Ex} {ws' : List Wd} {b' : List Ex} {x : Ex} (h : rc f m ws b = some (ws', b', x)) :
    ws' <:+ ws ∧ ws'.length < ws.length ∧ ws'.length + b'.length < ws.length + b.length ∧ b <+: b' := by
  unfold rc at h
  split at h
  · cases h
  · rename_i wsa ba ha
    obtain ⟨a1, a2, a3, a4, a5⟩ := hf _ _ _ _ ha
    split at h
    · cases h
    · rename_i t wst
      split at h
      · cases h
      · split at h
        · cases h
        · rename_i v wsv
          split at h
          · cases h
          · split at h
            · cases h
            · rename_i ws4 b4 ks4 h4
              cases h
              obtain ⟨c1, c2, c3, c4, c5⟩ := rr_gd hf _ _ _ _ _ _ _ h4
              simp only [List.length_cons] at a2 a3
              exact ⟨(c1.trans ((List.suffix_cons _ _).trans (List.suffix_cons _ _))).trans a1, by omega, by omega, a4.trans c4⟩
theorem rb_gd {f : Rf} (hf : Gd f) {m : Nat} {ws : List Wd} {b : List Ex} {ws' : List Wd} {b' : List Ex} {x : Ex} (h : rb f m ws b = some (ws', b', x)) :
    ws' <:+ ws ∧ ws'.length < ws.length ∧ ws'.length + b'.length < ws.length + b.length ∧ b <+: b' := by
  unfold rb at h
  split at h
  · cases h
  · rename_i w ws
    split at h
    · obtain ⟨a1, a2, a3, a4⟩ := rc_gd hf h
      simp only [List.length_cons]
      exact ⟨a1.trans (List.suffix_cons _ _), by omega, by omega, a4⟩
    · split at h
      · cases h
      · split at h
        · cases h
        · rename_i ws3 b3 ks3 h3
          split at h
          · cases h
          · cases h
            obtain ⟨c1, c2, c3, c4, c5⟩ := rr_gd hf _ _ _ _ _ _ _ h3
            simp only [List.length_cons]
            exact ⟨c1.trans (List.suffix_cons _ _), by omega, by omega, c4⟩
theorem rp_gd : ∀ n, Gd (rp n)
  | 0 => fun ws b ws' b' h => by simp [rp] at h
  | n + 1 => fun ws b ws' b' h => by
    cases ws with
    | nil => simp [rp] at h
    | cons w ws =>
      rw [rp] at h
      split at h
      · split at h
        · cases h
        · rename_i ws1 b1 e1 h1
          cases h
          obtain ⟨a1, a2, a3, a4⟩ := rb_gd (rp_gd n) h1
          simp only [List.length_cons, List.length_append, List.length_nil]
          exact ⟨a1.trans (List.suffix_cons _ _), by omega, by omega, a4.trans (List.prefix_append _ _), by have := a4.length_le; omega⟩
      · split at h
        · cases h
        · cases h
          simp only [List.length_cons, List.length_append, List.length_nil]
          exact ⟨List.suffix_cons _ _, by omega, by omega, List.prefix_append _ _, by omega⟩
end Go.Proofs.YtjamknejllbmkaaGreatDoor
