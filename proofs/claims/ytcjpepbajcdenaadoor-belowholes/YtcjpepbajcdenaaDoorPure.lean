/- Which texts are terms, as plain functions over lists of bytes: a number's digits, the reader of one term, its parts, the text of parts; and what holds of them. Nothing of the program is named here. -/
import Derived.Lib.ItoaNum
import Derived.Lib.Atoi
import Derived.Lib.AtoiAll
import Derived.Lib.AtoiTie
import Derived.Lib.ItoaMem
namespace Go.Proofs.YtcjpepbajcdenaaDoor
open Go
set_option linter.unusedVariables false

/-- A digit or a sign. -/
def isNC (c : UInt8) : Bool := c == 45 || (decide (48 ≤ c.toNat) && decide (c.toNat ≤ 57))
/-- A digit. -/
def isDg (c : UInt8) : Bool := decide (48 ≤ c.toNat) && decide (c.toNat ≤ 57)
/-- The digits and signs at the front. -/
def numPart (l : List UInt8) : List UInt8 := l.takeWhile isNC
/-- What a numeral without noughts ahead tells. -/
def canon : List UInt8 → Option Int
  | [] => none
  | c :: r =>
    if c = 45 then (if r.head? = some 48 then none else (Lib.decNat r).map fun (m : Nat) => -(m : Int))
    else if c = 48 then (if r = [] then some 0 else none)
    else (Lib.decNat (c :: r)).map fun (m : Nat) => (m : Int)

theorem isNC_dg {c : UInt8} (h : isDg c = true) : isNC c = true := by
  unfold isNC; unfold isDg at h; simp at h ⊢; exact Or.inr h

theorem dg_val {c : UInt8} (h : isDg c = true) : Lib.digitVal c = some (c.toNat - 48) := by
  unfold Lib.digitVal; unfold isDg at h; simp at h; rw [if_pos h]
theorem dg_of_val {c : UInt8} {d : Nat} (h : Lib.digitVal c = some d) : isDg c = true := by
  have := Lib.digitVal_eq h; unfold isDg; simp; omega

theorem decDigits_step (a d : Nat) (ha : 1 ≤ a) (hd : d ≤ 9) : Lib.decDigits (a * 10 + d) = Lib.decDigits a ++ [UInt8.ofNat (48 + d)] := by
  rw [Lib.decDigits, dif_neg (by omega), show (a * 10 + d) / 10 = a by omega, show (a * 10 + d) % 10 = d by omega]

theorem digit_back {c : UInt8} {d : Nat} (h : Lib.digitVal c = some d) : UInt8.ofNat (48 + d) = c ∧ d ≤ 9 := by
  obtain ⟨h1, h2, h3⟩ := Lib.digitVal_eq h
  refine ⟨?_, by omega⟩
  rw [h3, show 48 + (c.toNat - 48) = c.toNat by omega]; simp

theorem decDigits_from : ∀ (l : List UInt8) (acc m : Nat), 1 ≤ acc → Lib.decFrom acc l = some m → Lib.decDigits m = Lib.decDigits acc ++ l
  | [], acc, m, _, h => by simp only [Lib.decFrom, Option.some.injEq] at h; subst h; simp
  | c :: r, acc, m, ha, h => by
    simp only [Lib.decFrom] at h
    cases hc : Lib.digitVal c with
    | none => simp [hc] at h
    | some d =>
      simp only [hc] at h
      obtain ⟨h1, h2⟩ := digit_back hc
      rw [decDigits_from r _ m (by omega) h, decDigits_step acc d ha h2, h1]; simp

theorem decNat_digits {c : UInt8} {r : List UInt8} {m : Nat} (hc : c ≠ 48) (h : Lib.decNat (c :: r) = some m) : Lib.decDigits m = c :: r ∧ 1 ≤ m := by
  obtain ⟨_, h⟩ := Lib.decNat_some h
  simp only [Lib.decFrom] at h
  cases hd : Lib.digitVal c with
  | none => simp [hd] at h
  | some d =>
    simp only [hd] at h
    obtain ⟨h1, h2⟩ := digit_back hd
    have hd0 : 1 ≤ d := by
      rcases Nat.eq_zero_or_pos d with e | e
      · subst e; exact absurd h1.symm hc
      · exact e
    rw [show 0 * 10 + d = d by omega] at h
    have key := decDigits_from r d m hd0 h
    refine ⟨?_, ?_⟩
    · rw [key, Lib.decDigits_one (by omega), h1]; rfl
    · have := decFrom_ge r d m h; omega
where
  decFrom_ge : ∀ (l : List UInt8) (acc m : Nat), Lib.decFrom acc l = some m → acc ≤ m
    | [], acc, m, h => by simp only [Lib.decFrom, Option.some.injEq] at h; omega
    | c :: r, acc, m, h => by
      simp only [Lib.decFrom] at h
      cases hc : Lib.digitVal c with
      | none => simp [hc] at h
      | some d =>
        simp only [hc] at h
        have := decFrom_ge r _ m h; omega

theorem itoa_zero : Lib.itoa 0 = [48] := by
  have := Lib.itoa_nonneg 0
  rw [Lib.decDigits_one (by omega)] at this
  simpa using this

/-- Written anew, it looks the same. -/
theorem canon_itoa {t : List UInt8} {v : Int} (h : canon t = some v) : Lib.itoa v = t := by
  cases t with
  | nil => cases h
  | cons c r =>
    rw [canon] at h
    by_cases h45 : c = 45
    · rw [if_pos h45] at h
      by_cases h48 : r.head? = some 48
      · rw [if_pos h48] at h; cases h
      · rw [if_neg h48] at h
        cases r with
        | nil => cases h
        | cons d r =>
          cases hm : Lib.decNat (d :: r) with
          | none => rw [hm] at h; cases h
          | some m =>
            rw [hm] at h
            have e : v = -(m : Int) := (Option.some.inj h).symm
            obtain ⟨k1, k2⟩ := decNat_digits (fun e => h48 (by rw [e]; rfl)) hm
            rw [e, Lib.itoa_neg m k2, k1, h45]
    · rw [if_neg h45] at h
      by_cases h48 : c = 48
      · rw [if_pos h48] at h
        by_cases hr : r = []
        · rw [if_pos hr] at h
          have e : v = 0 := (Option.some.inj h).symm
          subst e; subst hr; subst h48; exact itoa_zero
        · rw [if_neg hr] at h; cases h
      · rw [if_neg h48] at h
        cases hm : Lib.decNat (c :: r) with
        | none => rw [hm] at h; cases h
        | some m =>
          rw [hm] at h
          have e : v = (m : Int) := (Option.some.inj h).symm
          rw [e, Lib.itoa_nonneg, (decNat_digits h48 hm).1]

theorem decFrom_append : ∀ (l r : List UInt8) (acc a : Nat), Lib.decFrom acc l = some a → Lib.decFrom acc (l ++ r) = Lib.decFrom a r
  | [], r, acc, a, h => by simp only [Lib.decFrom, Option.some.injEq] at h; subst h; rfl
  | c :: l, r, acc, a, h => by
    simp only [Lib.decFrom] at h
    cases hc : Lib.digitVal c with
    | none => simp [hc] at h
    | some d =>
      simp only [hc] at h
      simp only [List.cons_append, Lib.decFrom, hc]
      exact decFrom_append l r _ a h

theorem digit_of (d : Nat) (h : d ≤ 9) : Lib.digitVal (UInt8.ofNat (48 + d)) = some d := by
  have e : (UInt8.ofNat (48 + d)).toNat = 48 + d := by simp; omega
  unfold Lib.digitVal; rw [e, if_pos (by omega)]; congr 1; omega

theorem decFrom_digits (u : Nat) : Lib.decFrom 0 (Lib.decDigits u) = some u := by
  induction u using Nat.strongRecOn with
  | _ u ih =>
    by_cases h : u < 10
    · rw [Lib.decDigits_one h]; simp only [Lib.decFrom, digit_of u (by omega)]; simp
    · rw [Lib.decDigits, dif_neg h, decFrom_append _ _ _ _ (ih (u / 10) (by omega))]
      simp only [Lib.decFrom, digit_of (u % 10) (by omega)]; congr 1; omega

/-- The first digit of a number that is not 0 is none; all are digits. -/
theorem digits_head (u : Nat) (h : 1 ≤ u) : ∃ c r, Lib.decDigits u = c :: r ∧ c ≠ 48 ∧ c ≠ 45 := by
  induction u using Nat.strongRecOn with
  | _ u ih =>
    by_cases h10 : u < 10
    · refine ⟨_, [], Lib.decDigits_one h10, ?_, ?_⟩
      · intro e; have := congrArg UInt8.toNat e; simp at this; omega
      · intro e; have := congrArg UInt8.toNat e; simp at this; omega
    · obtain ⟨c, r, e, k⟩ := ih (u / 10) (by omega) (by omega)
      exact ⟨c, r ++ [UInt8.ofNat (48 + u % 10)], by rw [Lib.decDigits, dif_neg h10, e]; rfl, k⟩

theorem decNat_digits' (u : Nat) : Lib.decNat (Lib.decDigits u) = some u := by
  have h := decFrom_digits u
  unfold Lib.decNat
  cases e : Lib.decDigits u with
  | nil => have := Lib.decDigits_length u; have := Lib.nDigits_pos u; rw [e] at *; simp at *; omega
  | cons c r => rw [e] at h; simpa using h

/-- Each number's own text is read as that number. -/
theorem canon_of_itoa (v : Int) : canon (Lib.itoa v) = some v := by
  by_cases hneg : v < 0
  · obtain ⟨u, rfl⟩ : ∃ u : Nat, v = -(u : Int) := ⟨v.natAbs, by omega⟩
    rw [Lib.itoa_neg u (by omega)]
    obtain ⟨c, r, e, h1, h2⟩ := digits_head u (by omega)
    rw [canon]
    rw [if_pos rfl, if_neg (by rw [e]; simpa using h1), decNat_digits' u]; rfl
  · obtain ⟨u, rfl⟩ : ∃ u : Nat, v = u := ⟨v.toNat, by omega⟩
    rw [Lib.itoa_nonneg]
    rcases Nat.eq_zero_or_pos u with e | e
    · subst e; rw [Lib.decDigits_one (by omega)]; rfl
    · obtain ⟨c, r, e', h1, h2⟩ := digits_head u e
      have := decNat_digits' u
      rw [e'] at this ⊢
      rw [canon]
      rw [if_neg h2, if_neg h1, this]; rfl

/-- A small number's text is taken by Atoi. -/
theorem canon_atoi {t : List UInt8} {v : Int} (h : canon t = some v) (h1 : -100000 ≤ v) (h2 : v ≤ 100000) : Lib.atoiAll t = .ok v := by
  have e := canon_itoa h
  have hl : t.length ≤ 18 := by
    rw [← e]
    have key : ∀ u : Nat, u ≤ 100000 → Lib.nDigits u ≤ 6 := fun u hu => by
      rcases Nat.lt_or_ge u 10 with h | h
      · rw [Lib.nDigits_small h]; omega
      rcases Nat.lt_or_ge u 100 with h' | h'
      · rw [Lib.nDigits_unique 1 u (by omega) (by omega)]; omega
      rcases Nat.lt_or_ge u 1000 with h'' | h''
      · rw [Lib.nDigits_unique 2 u (by omega) (by omega)]; omega
      rcases Nat.lt_or_ge u 10000 with h3 | h3
      · rw [Lib.nDigits_unique 3 u (by omega) (by omega)]; omega
      rcases Nat.lt_or_ge u 100000 with h4 | h4
      · rw [Lib.nDigits_unique 4 u (by omega) (by omega)]; omega
      · rw [Lib.nDigits_unique 5 u (by omega) (by omega)]; omega
    by_cases hneg : v < 0
    · obtain ⟨u, rfl⟩ : ∃ u : Nat, v = -(u : Int) := ⟨v.natAbs, by omega⟩
      rw [Lib.itoa_neg u (by omega), List.length_cons, Lib.decDigits_length]
      have := key u (by omega); omega
    · obtain ⟨u, rfl⟩ : ∃ u : Nat, v = u := ⟨v.toNat, by omega⟩
      rw [Lib.itoa_nonneg, Lib.decDigits_length]
      have := key u (by omega); omega
  rw [Lib.atoiAll_short t hl]
  cases t with
  | nil => cases h
  | cons c r =>
    rw [canon] at h
    by_cases h45 : c = 45
    · subst h45
      rw [if_pos rfl] at h
      split at h
      · cases h
      · simp only [Lib.atoi]; rw [if_pos (by decide), h]; rfl
    · rw [if_neg h45] at h
      by_cases h48 : c = 48
      · subst h48; rw [if_pos rfl] at h
        split at h
        · rename_i hr; subst hr; have e := Option.some.inj h; subst e; rfl
        · cases h
      · rw [if_neg h48] at h
        have h43 : c ≠ 43 := by
          intro e; subst e
          have : Lib.decNat (43 :: r) = none := by simp [Lib.decNat, Lib.decFrom, Lib.digitVal]
          rw [this] at h; cases h
        simp only [Lib.atoi]
        rw [if_neg (by simpa using h45), if_neg (by simpa using h43), h]; rfl

/-! ### One term -/

/-- May a number be? -/
def mayB (x : Int) : Bool := decide (-32768 ≤ x) && decide (x ≤ 32767)
/-- May a tag be? -/
def tagB (x : Int) : Bool := decide (0 ≤ x) && decide (x ≤ 99)

/-- What was read: its kind, its number, its parts' texts, how many bytes. -/
abbrev Rd := Int × Int × List (List UInt8) × Nat

/-- Parts, up to so many, and the closing bracket. -/
def Tp (rd : List UInt8 → Option Rd) : Nat → List UInt8 → Option (List (List UInt8) × Nat)
  | 0, _ => none
  | k + 1, r =>
    match rd r with
    | none => none
    | some (_, _, _, n) =>
      if r[n]? = some 41 then some ([r.take n], n + 1)
      else if r[n]? = some 32 then
        match Tp rd k (r.drop (n + 1)) with
        | none => none
        | some (ks, m) => some (r.take n :: ks, n + 1 + m)
      else none

/-- A number from the front on. -/
def numT (r : List UInt8) : Option Rd :=
  match canon (numPart r) with
  | none => none
  | some v => if mayB v then some (1, v, [], (numPart r).length) else none

/-- A constructor, from behind its sign on. -/
def conT (rd : List UInt8 → Option Rd) (r : List UInt8) : Option Rd :=
  match canon (numPart r) with
  | none => none
  | some v =>
    if tagB v then
      (if r[(numPart r).length]? = some 40 then
        match Tp rd 3 (r.drop ((numPart r).length + 1)) with
        | none => none
        | some (ks, m) => some (2, v, ks, 1 + (numPart r).length + 1 + m)
      else some (2, v, [], 1 + (numPart r).length))
    else none

/-- A term from the front on, at most so deep. -/
def T : Nat → List UInt8 → Option Rd
  | 0, _ => none
  | f + 1, r =>
    if r[0]? = some 95 then some (0, 0, [], 1)
    else if r[0]? = some 33 then some (3, 0, [], 1)
    else if r[0]? = some 64 then conT (T f) (r.drop 1)
    else numT r

/-- A whole text that is a term which may be: its kind, its number, its parts. -/
def whole (s : List UInt8) : Option (Int × Int × List (List UInt8)) :=
  if s.length ≤ 1024 then
    match T 1025 s with
    | none => none
    | some (k, x, ks, n) => if n = s.length then some (k, x, ks) else none
  else none

/-- What may stand behind a term: nothing, or neither a digit nor a sign nor an opening bracket. -/
def bnd (q : List UInt8) : Prop := ∀ c, q[0]? = some c → isNC c = false ∧ c ≠ 40

theorem numPart_le (r : List UInt8) : (numPart r).length ≤ r.length := (List.takeWhile_prefix _).length_le
theorem numPart_take (r : List UInt8) : r.take (numPart r).length = numPart r := by
  have h : numPart r <+: r := List.takeWhile_prefix _
  exact (List.prefix_iff_eq_take.1 h).symm
theorem numPart_all (r : List UInt8) : ∀ c ∈ numPart r, isNC c = true := by
  intro c hc
  have := List.all_takeWhile (p := isNC) (l := r)
  exact List.all_eq_true.1 this c hc
theorem numPart_stop : ∀ (r : List UInt8) (c : UInt8), r[(numPart r).length]? = some c → isNC c = false
  | [], c, h => by simp at h
  | a :: r, c, h => by
    unfold numPart at h
    rw [List.takeWhile_cons] at h
    by_cases ha : isNC a = true
    · rw [if_pos ha] at h
      simp only [List.length_cons, List.getElem?_cons_succ] at h
      exact numPart_stop r c h
    · rw [if_neg ha] at h
      simp at h; subst h; simpa using ha
/-- A row of digits and signs, and then none. -/
theorem numPart_app : ∀ (t q : List UInt8), (∀ c ∈ t, isNC c = true) → (∀ c, q[0]? = some c → isNC c = false) → numPart (t ++ q) = t
  | [], q, _, hq => by
    unfold numPart
    cases q with
    | nil => rfl
    | cons c q => rw [List.nil_append, List.takeWhile_cons, if_neg (by rw [hq c rfl]; simp)]
  | a :: t, q, ht, hq => by
    have ih := numPart_app t q (fun c hc => ht c (List.mem_cons_of_mem _ hc)) hq
    unfold numPart at ih ⊢
    rw [List.cons_append, List.takeWhile_cons, if_pos (ht a (List.mem_cons_self)), ih]

/-- More behind it turns nothing. -/
theorem numPart_more (m q : List UInt8) (h : (numPart m).length = m.length → ∀ c, q[0]? = some c → isNC c = false) : numPart (m ++ q) = numPart m := by
  have e : m = numPart m ++ m.drop (numPart m).length := by
    conv => lhs; rw [← List.take_append_drop (numPart m).length m, numPart_take]
  rw [e, List.append_assoc, numPart_app _ _ (numPart_all m)]
  · rw [← e]
  · intro c hc
    rcases Nat.lt_or_ge (numPart m).length m.length with hlt | hge
    · refine numPart_stop m c ?_
      rw [List.getElem?_append_left (by simp; omega)] at hc
      simpa using hc
    · have hl : (numPart m).length = m.length := Nat.le_antisymm (numPart_le m) hge
      rw [List.drop_of_length_le (by omega)] at hc
      exact h hl c (by simpa using hc)
/-- Less behind it neither. -/
theorem numPart_less (m q : List UInt8) (h : (numPart (m ++ q)).length ≤ m.length) : numPart m = numPart (m ++ q) := by
  have e := numPart_take (m ++ q)
  rw [List.take_append_of_le_length h] at e
  have e2 : m = numPart (m ++ q) ++ m.drop (numPart (m ++ q)).length := by
    conv => lhs; rw [← List.take_append_drop (numPart (m ++ q)).length m, e]
  generalize hn : numPart (m ++ q) = t at *
  rw [e2]
  refine numPart_app t _ (fun c hc => numPart_all (m ++ q) c (by rw [hn]; exact hc)) ?_
  intro c hc
  refine numPart_stop (m ++ q) c ?_
  rw [hn]
  have hc' : m[t.length]? = some c := by simpa using hc
  rw [List.getElem?_append_left (by have := (List.getElem?_eq_some_iff.1 hc').1; omega)]
  exact hc'

theorem canon_ne {v : Int} {t : List UInt8} (h : canon t = some v) : t ≠ [] := by
  intro e; subst e; cases h

/-- Some bytes are read, and they are there. -/
theorem numT_size {r : List UInt8} {x : Rd} (h : numT r = some x) : 0 < x.2.2.2 ∧ x.2.2.2 ≤ r.length := by
  unfold numT at h
  cases hc : canon (numPart r) with
  | none => rw [hc] at h; cases h
  | some v =>
    rw [hc] at h
    simp only at h
    split at h
    · have e := Option.some.inj h; subst e
      exact ⟨List.length_pos_iff.2 (canon_ne hc), numPart_le r⟩
    · cases h

theorem Tp_size (rd : List UInt8 → Option Rd) (hrd : ∀ r x, rd r = some x → 0 < x.2.2.2 ∧ x.2.2.2 ≤ r.length) :
    ∀ (k : Nat) (r : List UInt8) (ks : List (List UInt8)) (m : Nat), Tp rd k r = some (ks, m) → 1 < m ∧ m ≤ r.length ∧ 0 < ks.length ∧ ks.length ≤ k
  | 0, r, ks, m, h => by cases h
  | k + 1, r, ks, m, h => by
    unfold Tp at h
    cases hr : rd r with
    | none => rw [hr] at h; cases h
    | some x =>
      obtain ⟨a, b, c, n⟩ := x
      have hn := hrd r _ hr
      simp only at hn
      rw [hr] at h
      simp only at h
      by_cases h41 : r[n]? = some 41
      · rw [if_pos h41] at h
        have := (List.getElem?_eq_some_iff.1 h41).1
        have e := Option.some.inj h
        have e1 := congrArg Prod.fst e; have e2 := congrArg Prod.snd e
        simp only at e1 e2; subst e1; subst e2
        simp; omega
      · rw [if_neg h41] at h
        by_cases h32 : r[n]? = some 32
        · rw [if_pos h32] at h
          have := (List.getElem?_eq_some_iff.1 h32).1
          cases ht : Tp rd k (r.drop (n + 1)) with
          | none => rw [ht] at h; cases h
          | some y =>
            obtain ⟨ks', m'⟩ := y
            have ih := Tp_size rd hrd k _ ks' m' ht
            rw [ht] at h
            have e := Option.some.inj h
            have e1 := congrArg Prod.fst e; have e2 := congrArg Prod.snd e
            simp only at e1 e2; subst e1; subst e2
            simp at ih ⊢; omega
        · rw [if_neg h32] at h; cases h

theorem T_size : ∀ (f : Nat) (r : List UInt8) (x : Rd), T f r = some x → 0 < x.2.2.2 ∧ x.2.2.2 ≤ r.length
  | 0, r, x, h => by cases h
  | f + 1, r, x, h => by
    unfold T at h
    by_cases h95 : r[0]? = some 95
    · rw [if_pos h95] at h
      have := (List.getElem?_eq_some_iff.1 h95).1
      have e := Option.some.inj h; subst e; simp; omega
    rw [if_neg h95] at h
    by_cases h33 : r[0]? = some 33
    · rw [if_pos h33] at h
      have := (List.getElem?_eq_some_iff.1 h33).1
      have e := Option.some.inj h; subst e; simp; omega
    rw [if_neg h33] at h
    by_cases h64 : r[0]? = some 64
    · rw [if_pos h64] at h
      have hl := (List.getElem?_eq_some_iff.1 h64).1
      have hq := numPart_le (r.drop 1)
      have hd : (r.drop 1).length = r.length - 1 := List.length_drop
      unfold conT at h
      cases hc : canon (numPart (r.drop 1)) with
      | none => rw [hc] at h; cases h
      | some v =>
        rw [hc] at h
        simp only at h
        split at h
        · split at h
          · rename_i h40
            cases ht : Tp (T f) 3 ((r.drop 1).drop ((numPart (r.drop 1)).length + 1)) with
            | none => rw [ht] at h; cases h
            | some y =>
              obtain ⟨ks, m⟩ := y
              have := Tp_size (T f) (T_size f) 3 _ ks m ht
              rw [ht] at h
              have e := Option.some.inj h; subst e
              rw [List.length_drop, hd] at this
              simp only; omega
          · have e := Option.some.inj h; subst e; simp only; omega
        · cases h
    rw [if_neg h64] at h
    exact numT_size h

end Go.Proofs.YtcjpepbajcdenaaDoor
