/- Terms as plain functions, second part: what stands behind a term turns nothing, deeper fuel turns nothing, a term's text is that of its parts, and the text of parts has just these parts. -/
import Derived.Test.YtcjpepbajcdenaaDoorPure
namespace Go.Proofs.YtcjpepbajcdenaaDoor
open Go
set_option linter.unusedVariables false

/-- More behind it turns nothing. -/
def Loc (rd : List UInt8 → Option Rd) : Prop := ∀ m q x, rd m = some x → (x.2.2.2 = m.length → bnd q) → rd (m ++ q) = some x
/-- Less behind it neither. -/
def Back (rd : List UInt8 → Option Rd) : Prop := ∀ m q x, rd (m ++ q) = some x → x.2.2.2 ≤ m.length → rd m = some x
/-- It reads some bytes, and they are there. -/
def Siz (rd : List UInt8 → Option Rd) : Prop := ∀ r x, rd r = some x → 0 < x.2.2.2 ∧ x.2.2.2 ≤ r.length

theorem numT_loc : Loc numT := by
  intro m q x h hb
  unfold numT at h ⊢
  cases hc : canon (numPart m) with
  | none => rw [hc] at h; cases h
  | some v =>
    have e : numPart (m ++ q) = numPart m := by
      refine numPart_more m q (fun hl c hq => ?_)
      rw [hc] at h
      simp only at h
      split at h
      · have e := Option.some.inj h; subst e
        exact (hb hl c hq).1
      · cases h
    rw [e]; exact h

theorem numT_back : Back numT := by
  intro m q x h hn
  unfold numT at h ⊢
  cases hc : canon (numPart (m ++ q)) with
  | none => rw [hc] at h; cases h
  | some v =>
    have e : numPart m = numPart (m ++ q) := by
      refine numPart_less m q ?_
      rw [hc] at h
      simp only at h
      split at h
      · have e := Option.some.inj h; subst e
        exact hn
      · cases h
    rw [e]; exact h

/-- What one step of the parts says. -/
theorem Tp_cases {rd : List UInt8 → Option Rd} {k : Nat} {r : List UInt8} {ks : List (List UInt8)} {m : Nat} (h : Tp rd (k + 1) r = some (ks, m)) :
    ∃ x, rd r = some x ∧ ((r[x.2.2.2]? = some 41 ∧ ks = [r.take x.2.2.2] ∧ m = x.2.2.2 + 1) ∨
      (r[x.2.2.2]? = some 32 ∧ ∃ ks' m', Tp rd k (r.drop (x.2.2.2 + 1)) = some (ks', m') ∧ ks = r.take x.2.2.2 :: ks' ∧ m = x.2.2.2 + 1 + m')) := by
  unfold Tp at h
  cases hr : rd r with
  | none => rw [hr] at h; cases h
  | some x =>
    obtain ⟨a, b, c, n⟩ := x
    rw [hr] at h
    simp only at h
    refine ⟨_, rfl, ?_⟩
    simp only
    by_cases h41 : r[n]? = some 41
    · rw [if_pos h41] at h
      have e := Option.some.inj h
      have e1 := congrArg Prod.fst e; have e2 := congrArg Prod.snd e
      simp only at e1 e2
      exact Or.inl ⟨h41, e1.symm, e2.symm⟩
    · rw [if_neg h41] at h
      by_cases h32 : r[n]? = some 32
      · rw [if_pos h32] at h
        cases ht : Tp rd k (r.drop (n + 1)) with
        | none => rw [ht] at h; cases h
        | some y =>
          obtain ⟨ks', m'⟩ := y
          rw [ht] at h
          have e := Option.some.inj h
          have e1 := congrArg Prod.fst e; have e2 := congrArg Prod.snd e
          simp only at e1 e2
          exact Or.inr ⟨h32, ks', m', rfl, e1.symm, e2.symm⟩
      · rw [if_neg h32] at h; cases h

theorem Tp_last {rd : List UInt8 → Option Rd} {k : Nat} {r : List UInt8} {x : Rd} (h : rd r = some x) (h41 : r[x.2.2.2]? = some 41) : Tp rd (k + 1) r = some ([r.take x.2.2.2], x.2.2.2 + 1) := by
  obtain ⟨a, b, c, n⟩ := x
  unfold Tp; rw [h]; simp only at h41 ⊢; rw [if_pos h41]
theorem Tp_on {rd : List UInt8 → Option Rd} {k : Nat} {r : List UInt8} {x : Rd} {ks : List (List UInt8)} {m : Nat} (h : rd r = some x) (h32 : r[x.2.2.2]? = some 32)
    (ht : Tp rd k (r.drop (x.2.2.2 + 1)) = some (ks, m)) : Tp rd (k + 1) r = some (r.take x.2.2.2 :: ks, x.2.2.2 + 1 + m) := by
  obtain ⟨a, b, c, n⟩ := x
  unfold Tp; rw [h]; simp only at h32 ht ⊢; rw [if_neg (by rw [h32]; decide), if_pos h32, ht]

theorem lt_of_at {l : List UInt8} {n : Nat} {c : UInt8} (h : l[n]? = some c) : n < l.length := (List.getElem?_eq_some_iff.1 h).1

theorem Tp_loc {rd : List UInt8 → Option Rd} (hl : Loc rd) : ∀ (k : Nat) (m q : List UInt8) (ks : List (List UInt8)) (n : Nat), Tp rd k m = some (ks, n) → Tp rd k (m ++ q) = some (ks, n)
  | 0, _, _, _, _, h => by cases h
  | k + 1, m, q, ks, n, h => by
    obtain ⟨x, hx, ⟨h41, rfl, rfl⟩ | ⟨h32, ks', m', ht, rfl, rfl⟩⟩ := Tp_cases h
    · have hlt := lt_of_at h41
      have e := hl m q x hx (fun e => by omega)
      have := Tp_last (k := k) e (by rw [List.getElem?_append_left hlt]; exact h41)
      rw [this, List.take_append_of_le_length (by omega)]
    · have hlt := lt_of_at h32
      have e := hl m q x hx (fun e => by omega)
      have ih := Tp_loc hl k _ q _ _ ht
      rw [← List.drop_append_of_le_length (by omega)] at ih
      have := Tp_on e (by rw [List.getElem?_append_left hlt]; exact h32) ih
      rw [this, List.take_append_of_le_length (by omega)]

theorem Tp_back {rd : List UInt8 → Option Rd} (hb : Back rd) (hs : Siz rd) : ∀ (k : Nat) (m q : List UInt8) (ks : List (List UInt8)) (n : Nat), Tp rd k (m ++ q) = some (ks, n) → n ≤ m.length → Tp rd k m = some (ks, n)
  | 0, _, _, _, _, h, _ => by cases h
  | k + 1, m, q, ks, n, h, hn => by
    obtain ⟨x, hx, ⟨h41, rfl, rfl⟩ | ⟨h32, ks', m', ht, rfl, rfl⟩⟩ := Tp_cases h
    · have e := hb m q x hx (by omega)
      rw [List.getElem?_append_left (by omega)] at h41
      rw [Tp_last e h41, List.take_append_of_le_length (by omega)]
    · have e := hb m q x hx (by omega)
      rw [List.getElem?_append_left (by omega)] at h32
      rw [List.drop_append_of_le_length (by omega)] at ht
      have ih := Tp_back hb hs k _ q _ _ ht (by rw [List.length_drop]; omega)
      rw [Tp_on e h32 ih, List.take_append_of_le_length (by omega)]

/-- What a constructor's reading says. -/
theorem conT_cases {rd : List UInt8 → Option Rd} {r : List UInt8} {x : Rd} (h : conT rd r = some x) :
    ∃ v, canon (numPart r) = some v ∧ tagB v = true ∧
      ((r[(numPart r).length]? ≠ some 40 ∧ x = (2, v, [], 1 + (numPart r).length)) ∨
       (r[(numPart r).length]? = some 40 ∧ ∃ ks m, Tp rd 3 (r.drop ((numPart r).length + 1)) = some (ks, m) ∧ x = (2, v, ks, 1 + (numPart r).length + 1 + m))) := by
  unfold conT at h
  cases hc : canon (numPart r) with
  | none => rw [hc] at h; cases h
  | some v =>
    rw [hc] at h
    simp only at h
    by_cases htag : tagB v = true
    · rw [if_pos htag] at h
      refine ⟨v, rfl, htag, ?_⟩
      by_cases h40 : r[(numPart r).length]? = some 40
      · rw [if_pos h40] at h
        cases ht : Tp rd 3 (r.drop ((numPart r).length + 1)) with
        | none => rw [ht] at h; cases h
        | some y =>
          obtain ⟨ks, m⟩ := y
          rw [ht] at h
          exact Or.inr ⟨h40, ks, m, rfl, (Option.some.inj h).symm⟩
      · rw [if_neg h40] at h
        exact Or.inl ⟨h40, (Option.some.inj h).symm⟩
    · rw [if_neg htag] at h; cases h

theorem conT_bare {rd : List UInt8 → Option Rd} {r : List UInt8} {v : Int} (hc : canon (numPart r) = some v) (ht : tagB v = true) (h40 : r[(numPart r).length]? ≠ some 40) :
    conT rd r = some (2, v, [], 1 + (numPart r).length) := by
  unfold conT; rw [hc]; simp only; rw [if_pos ht, if_neg h40]
theorem conT_full {rd : List UInt8 → Option Rd} {r : List UInt8} {v : Int} {ks : List (List UInt8)} {m : Nat} (hc : canon (numPart r) = some v) (ht : tagB v = true) (h40 : r[(numPart r).length]? = some 40)
    (hp : Tp rd 3 (r.drop ((numPart r).length + 1)) = some (ks, m)) : conT rd r = some (2, v, ks, 1 + (numPart r).length + 1 + m) := by
  unfold conT; rw [hc]; simp only; rw [if_pos ht, if_pos h40, hp]

theorem conT_loc {rd : List UInt8 → Option Rd} (hl : Loc rd) (m q : List UInt8) (x : Rd) (h : conT rd m = some x) (hb : x.2.2.2 = 1 + m.length → bnd q) : conT rd (m ++ q) = some x := by
  obtain ⟨v, hc, ht, ⟨h40, rfl⟩ | ⟨h40, ks, n, hp, rfl⟩⟩ := conT_cases h
  · have e : numPart (m ++ q) = numPart m := numPart_more m q (fun hl c hq => (hb (by simp only; omega) c hq).1)
    rw [← e] at hc h40 ⊢
    refine conT_bare hc ht ?_
    rw [e] at h40 ⊢
    rcases Nat.lt_or_ge (numPart m).length m.length with hlt | hge
    · rw [List.getElem?_append_left hlt]; exact h40
    · have hl' : (numPart m).length = m.length := Nat.le_antisymm (numPart_le m) hge
      rw [hl', List.getElem?_append_right (Nat.le_refl _), Nat.sub_self]
      intro e2
      exact (hb (by simp only; omega) 40 e2).2 rfl
  · have hlt := lt_of_at h40
    have e : numPart (m ++ q) = numPart m := numPart_more m q (fun hl => by omega)
    have := conT_full (rd := rd) (r := m ++ q) (ks := ks) (m := n) (by rw [e]; exact hc) ht (by rw [e, List.getElem?_append_left hlt]; exact h40)
      (by rw [e, List.drop_append_of_le_length (by omega)]; exact Tp_loc hl 3 _ q _ _ hp)
    rw [this, e]

theorem conT_back {rd : List UInt8 → Option Rd} (hb : Back rd) (hs : Siz rd) (m q : List UInt8) (x : Rd) (h : conT rd (m ++ q) = some x) (hn : x.2.2.2 ≤ 1 + m.length) : conT rd m = some x := by
  obtain ⟨v, hc, ht, ⟨h40, rfl⟩ | ⟨h40, ks, n, hp, rfl⟩⟩ := conT_cases h
  · simp only at hn
    have e : numPart m = numPart (m ++ q) := numPart_less m q (by omega)
    rw [← e] at hc h40 hn ⊢
    refine conT_bare hc ht ?_
    intro e2
    have hlt := lt_of_at e2
    rw [List.getElem?_append_left hlt] at h40
    exact h40 e2
  · simp only at hn
    have e : numPart m = numPart (m ++ q) := numPart_less m q (by omega)
    rw [← e] at hc h40 hn hp ⊢
    rw [List.getElem?_append_left (by omega)] at h40
    rw [List.drop_append_of_le_length (by omega)] at hp
    exact conT_full hc ht h40 (Tp_back hb hs 3 _ q _ _ hp (by rw [List.length_drop]; omega))

/-- What a term's reading says. -/
theorem T_cases {f : Nat} {r : List UInt8} {x : Rd} (h : T (f + 1) r = some x) :
    (r[0]? = some 95 ∧ x = (0, 0, [], 1)) ∨ (r[0]? = some 33 ∧ x = (3, 0, [], 1)) ∨ (r[0]? = some 64 ∧ conT (T f) (r.drop 1) = some x) ∨
      (r[0]? ≠ some 95 ∧ r[0]? ≠ some 33 ∧ r[0]? ≠ some 64 ∧ numT r = some x) := by
  unfold T at h
  by_cases h95 : r[0]? = some 95
  · rw [if_pos h95] at h; exact Or.inl ⟨h95, (Option.some.inj h).symm⟩
  rw [if_neg h95] at h
  by_cases h33 : r[0]? = some 33
  · rw [if_pos h33] at h; exact Or.inr (Or.inl ⟨h33, (Option.some.inj h).symm⟩)
  rw [if_neg h33] at h
  by_cases h64 : r[0]? = some 64
  · rw [if_pos h64] at h; exact Or.inr (Or.inr (Or.inl ⟨h64, h⟩))
  rw [if_neg h64] at h
  exact Or.inr (Or.inr (Or.inr ⟨h95, h33, h64, h⟩))
theorem T_hole {f : Nat} {r : List UInt8} (h : r[0]? = some 95) : T (f + 1) r = some (0, 0, [], 1) := by
  rw [T, if_pos h]
theorem T_fail {f : Nat} {r : List UInt8} (h : r[0]? = some 33) : T (f + 1) r = some (3, 0, [], 1) := by
  rw [T, if_neg (by rw [h]; decide), if_pos h]
theorem T_con {f : Nat} {r : List UInt8} (h : r[0]? = some 64) : T (f + 1) r = conT (T f) (r.drop 1) := by
  rw [T, if_neg (by rw [h]; decide), if_neg (by rw [h]; decide), if_pos h]
theorem T_num {f : Nat} {r : List UInt8} (h1 : r[0]? ≠ some 95) (h2 : r[0]? ≠ some 33) (h3 : r[0]? ≠ some 64) : T (f + 1) r = numT r := by
  rw [T, if_neg h1, if_neg h2, if_neg h3]

theorem at_zero_app {m q : List UInt8} (h : 0 < m.length) : (m ++ q)[0]? = m[0]? := List.getElem?_append_left h

theorem T_loc : ∀ f, Loc (T f)
  | 0 => fun m q x h _ => by cases h
  | f + 1 => by
    intro m q x h hb
    have hs := T_size (f + 1) m x h
    have e0 := at_zero_app (m := m) (q := q) (by omega)
    rcases T_cases h with ⟨h0, rfl⟩ | ⟨h0, rfl⟩ | ⟨h0, hc⟩ | ⟨h1, h2, h3, hn⟩
    · exact T_hole (e0.trans h0)
    · exact T_fail (e0.trans h0)
    · rw [T_con (e0.trans h0), List.drop_append_of_le_length (by omega)]
      exact conT_loc (T_loc f) _ q x hc (fun e => hb (by rw [List.length_drop] at e; omega))
    · rw [T_num (by rw [e0]; exact h1) (by rw [e0]; exact h2) (by rw [e0]; exact h3)]
      exact numT_loc m q x hn hb

theorem T_back : ∀ f, Back (T f)
  | 0 => fun m q x h _ => by cases h
  | f + 1 => by
    intro m q x h hn
    have hs := T_size (f + 1) _ x h
    have e0 := at_zero_app (m := m) (q := q) (by omega)
    rcases T_cases h with ⟨h0, rfl⟩ | ⟨h0, rfl⟩ | ⟨h0, hc⟩ | ⟨h1, h2, h3, hm⟩
    · exact T_hole (e0.symm.trans h0)
    · exact T_fail (e0.symm.trans h0)
    · rw [T_con (e0.symm.trans h0)]
      rw [List.drop_append_of_le_length (by omega)] at hc
      exact conT_back (T_back f) (T_size f) _ q x hc (by rw [List.length_drop]; omega)
    · rw [e0] at h1 h2 h3
      rw [T_num h1 h2 h3]
      exact numT_back m q x hm hn

theorem Tp_congr {rd rd' : List UInt8 → Option Rd} : ∀ (k : Nat) (r : List UInt8), (∀ r', r'.length ≤ r.length → rd r' = rd' r') → Tp rd k r = Tp rd' k r
  | 0, r, h => rfl
  | k + 1, r, h => by
    unfold Tp
    rw [h r (Nat.le_refl _)]
    cases rd' r with
    | none => rfl
    | some x =>
      obtain ⟨a, b, c, n⟩ := x
      simp only
      rw [Tp_congr k (r.drop (n + 1)) (fun r' hr' => h r' (by rw [List.length_drop] at hr'; omega))]

/-- Enough is enough. -/
theorem T_fuel : ∀ (f : Nat) (r : List UInt8), r.length < f → T f r = T (f + 1) r
  | 0, r, h => by omega
  | f + 1, r, h => by
    rw [T, T]
    by_cases h64 : r[0]? = some 64
    · have hl := lt_of_at h64
      have e : conT (T f) (r.drop 1) = conT (T (f + 1)) (r.drop 1) := by
        unfold conT
        rw [Tp_congr 3 _ (fun r' hr' => T_fuel f r' (by rw [List.length_drop, List.length_drop] at hr'; omega))]
      rw [e]
    · rw [if_neg h64, if_neg h64]

/-! ### Texts -/

/-- Texts with a blank between each two. -/
def jn : List (List UInt8) → List UInt8
  | [] => []
  | [a] => a
  | a :: b :: r => a ++ 32 :: jn (b :: r)

/-- A whole term by that reader. -/
def isW (rd : List UInt8 → Option Rd) (s : List UInt8) : Prop := ∃ x, rd s = some x ∧ x.2.2.2 = s.length

theorem bnd_of {c : UInt8} {q : List UInt8} (h1 : isNC c = false) (h2 : c ≠ 40) : bnd (c :: q) := by
  intro d hd
  have e : c = d := by simpa using hd
  subst e; exact ⟨h1, h2⟩

theorem whole_part {rd : List UInt8 → Option Rd} (hb : Back rd) (hs : Siz rd) {r : List UInt8} {x : Rd} (h : rd r = some x) : isW rd (r.take x.2.2.2) := by
  have := hs r x h
  have e : r = r.take x.2.2.2 ++ r.drop x.2.2.2 := (List.take_append_drop _ _).symm
  rw [e] at h
  have hl : (r.take x.2.2.2).length = x.2.2.2 := by rw [List.length_take]; omega
  exact ⟨x, hb _ _ x h (by omega), hl.symm⟩

/-- The parts are whole terms, and the text is theirs. -/
theorem Tp_text {rd : List UInt8 → Option Rd} (hb : Back rd) (hs : Siz rd) : ∀ (k : Nat) (r : List UInt8) (ks : List (List UInt8)) (m : Nat), Tp rd k r = some (ks, m) →
    ks ≠ [] ∧ ks.length ≤ k ∧ (∀ s ∈ ks, isW rd s) ∧ r.take m = jn ks ++ [41] ∧ m = (jn ks).length + 1 ∧ m ≤ r.length
  | 0, _, _, _, h => by cases h
  | k + 1, r, ks, m, h => by
    obtain ⟨x, hx, ⟨h41, rfl, rfl⟩ | ⟨h32, ks', m', ht, rfl, rfl⟩⟩ := Tp_cases h
    · have hlt := lt_of_at h41
      refine ⟨by simp, by simp, ?_, ?_, ?_, by omega⟩
      · intro s hm; rw [List.mem_singleton] at hm; subst hm; exact whole_part hb hs hx
      · rw [List.take_add_one, h41]; rfl
      · simp only [jn]; rw [List.length_take]; omega
    · have hlt := lt_of_at h32
      obtain ⟨i1, i2, i3, i4, i5, i6⟩ := Tp_text hb hs k _ ks' m' ht
      obtain ⟨b, r', rfl⟩ : ∃ b r', ks' = b :: r' := by cases ks' with
        | nil => exact absurd rfl i1
        | cons b r' => exact ⟨b, r', rfl⟩
      refine ⟨by simp, by simp at i2 ⊢; omega, ?_, ?_, ?_, by rw [List.length_drop] at i6; omega⟩
      · intro s hm
        rcases List.mem_cons.1 hm with e | e
        · subst e; exact whole_part hb hs hx
        · exact i3 s e
      · simp only [jn]
        have e : r.take (x.2.2.2 + 1 + m') = r.take (x.2.2.2 + 1) ++ (r.drop (x.2.2.2 + 1)).take m' := by
          rw [← List.take_add]
        rw [e, i4, List.take_add_one, h32]; simp
      · simp only [jn, List.length_append, List.length_cons, List.length_take]; omega

/-- The text of parts has just these parts. -/
theorem Tp_made {rd : List UInt8 → Option Rd} (hl : Loc rd) : ∀ (k : Nat) (ks : List (List UInt8)) (q : List UInt8), ks ≠ [] → ks.length ≤ k → (∀ s ∈ ks, isW rd s) → Tp rd k (jn ks ++ 41 :: q) = some (ks, (jn ks).length + 1)
  | 0, ks, q, h1, h2, h3 => by cases ks with
    | nil => exact absurd rfl h1
    | cons a r => simp at h2
  | k + 1, [], q, h1, _, _ => absurd rfl h1
  | k + 1, [a], q, _, _, h3 => by
    obtain ⟨x, hx, hn⟩ := h3 a (by simp)
    simp only [jn]
    have e := hl a (41 :: q) x hx (fun _ => bnd_of (by decide) (by decide))
    have := Tp_last (k := k) e (by rw [hn, List.getElem?_append_right (Nat.le_refl _), Nat.sub_self]; rfl)
    rw [this, hn]; simp
  | k + 1, a :: b :: r, q, _, h2, h3 => by
    obtain ⟨x, hx, hn⟩ := h3 a (by simp)
    simp only [jn]
    rw [List.append_assoc, List.cons_append]
    have ih := Tp_made hl k (b :: r) q (by simp) (by simp at h2 ⊢; omega) (fun s hs => h3 s (List.mem_cons_of_mem _ hs))
    generalize hj : jn (b :: r) = j at *
    have e := hl a (32 :: (j ++ 41 :: q)) x hx (fun _ => bnd_of (by decide) (by decide))
    have ed : (a ++ 32 :: (j ++ 41 :: q)).drop (x.2.2.2 + 1) = j ++ 41 :: q := by
      rw [hn, List.drop_append]; simp
    rw [← ed] at ih
    have := Tp_on e (by rw [hn, List.getElem?_append_right (Nat.le_refl _), Nat.sub_self]; rfl) ih
    rw [this, hn]; simp; omega

/-- A text as far as its parts. -/
def head (kind num : Int) : Option (List UInt8) :=
  if kind = 0 then (if num = 0 then some [95] else none)
  else if kind = 3 then (if num = 0 then some [33] else none)
  else if kind = 1 then (if mayB num then some (Lib.itoa num) else none)
  else if kind = 2 then (if tagB num then some (64 :: Lib.itoa num) else none)
  else none

/-- May the parts stand behind it? -/
def behind (kind : Int) (kids : List (List UInt8)) : Bool :=
  kids.isEmpty || (decide (kind = 2) && decide (kids.length ≤ 3) && kids.all fun s => (whole s).isSome)

/-- Brackets and parts. -/
def tail (kids : List (List UInt8)) : List UInt8 := if kids = [] then [] else 40 :: (jn kids ++ [41])

/-- The text of a kind, a number, parts. -/
def mk (kind num : Int) (kids : List (List UInt8)) : Option (List UInt8) :=
  match head kind num with
  | none => none
  | some h => if behind kind kids then (if (h ++ tail kids).length ≤ 1024 then some (h ++ tail kids) else none) else none

theorem whole_some {s : List UInt8} {k x : Int} {ks : List (List UInt8)} (h : whole s = some (k, x, ks)) : s.length ≤ 1024 ∧ T 1025 s = some (k, x, ks, s.length) := by
  unfold whole at h
  by_cases hl : s.length ≤ 1024
  · rw [if_pos hl] at h
    cases ht : T 1025 s with
    | none => rw [ht] at h; cases h
    | some y =>
      obtain ⟨a, b, c, n⟩ := y
      rw [ht] at h
      simp only at h
      by_cases hn : n = s.length
      · rw [if_pos hn] at h
        have e := Option.some.inj h
        simp only [Prod.mk.injEq] at e
        obtain ⟨rfl, rfl, rfl⟩ := e
        subst hn
        exact ⟨hl, rfl⟩
      · rw [if_neg hn] at h; cases h
  · rw [if_neg hl] at h; cases h
theorem whole_mk {s : List UInt8} {k x : Int} {ks : List (List UInt8)} (hl : s.length ≤ 1024) (h : T 1025 s = some (k, x, ks, s.length)) : whole s = some (k, x, ks) := by
  unfold whole; rw [if_pos hl, h]; simp

theorem isW_whole {s : List UInt8} (hl : s.length ≤ 1023) : isW (T 1024) s ↔ (whole s).isSome = true := by
  constructor
  · rintro ⟨x, hx, hn⟩
    obtain ⟨a, b, c, n⟩ := x
    simp only at hn; subst hn
    rw [T_fuel 1024 s (by omega)] at hx
    rw [whole_mk (by omega) hx]; rfl
  · intro h
    obtain ⟨y, hy⟩ := Option.isSome_iff_exists.1 h
    obtain ⟨a, b, c⟩ := y
    obtain ⟨_, ht⟩ := whole_some hy
    rw [← T_fuel 1024 s (by omega)] at ht
    exact ⟨_, ht, rfl⟩

theorem jn_part : ∀ (ks : List (List UInt8)) (s : List UInt8), s ∈ ks → s.length ≤ (jn ks).length
  | [], s, h => by cases h
  | [a], s, h => by rw [List.mem_singleton] at h; subst h; exact Nat.le_refl _
  | a :: b :: r, s, h => by
    simp only [jn, List.length_append, List.length_cons]
    rcases List.mem_cons.1 h with e | e
    · subst e; omega
    · have := jn_part (b :: r) s e; omega

theorem itoa_nc (v : Int) : ∀ c ∈ Lib.itoa v, isNC c = true := by
  have key : ∀ u : Nat, ∀ c ∈ Lib.decDigits u, isNC c = true := by
    intro u c hc
    obtain ⟨i, hi, rfl⟩ := List.getElem_of_mem hc
    obtain ⟨d, hd⟩ := Lib.digit_of_decFrom _ 0 u (decFrom_digits u) i _ (List.getElem?_eq_getElem hi)
    exact isNC_dg (dg_of_val hd)
  intro c hc
  by_cases hneg : v < 0
  · obtain ⟨u, rfl⟩ : ∃ u : Nat, v = -(u : Int) := ⟨v.natAbs, by omega⟩
    rw [Lib.itoa_neg u (by omega)] at hc
    rcases List.mem_cons.1 hc with e | e
    · subst e; decide
    · exact key u c e
  · obtain ⟨u, rfl⟩ : ∃ u : Nat, v = u := ⟨v.toNat, by omega⟩
    rw [Lib.itoa_nonneg] at hc
    exact key u c hc

theorem numPart_canon {r : List UInt8} {v : Int} (h : canon (numPart r) = some v) : numPart r = Lib.itoa v := (canon_itoa h).symm

theorem itoa_first (v : Int) : ∃ c r, Lib.itoa v = c :: r ∧ isNC c = true := by
  cases e : Lib.itoa v with
  | nil => exact absurd e (canon_ne (canon_of_itoa v))
  | cons c r => exact ⟨c, r, rfl, itoa_nc v c (by rw [e]; simp)⟩

/-- What is read is written so. -/
theorem whole_mkd {s : List UInt8} {k x : Int} {ks : List (List UInt8)} (h : whole s = some (k, x, ks)) : mk k x ks = some s := by
  obtain ⟨hl, ht⟩ := whole_some h
  rcases T_cases ht with ⟨h0, e⟩ | ⟨h0, e⟩ | ⟨h0, hc⟩ | ⟨h1, h2, h3, hn⟩
  · simp only [Prod.mk.injEq] at e
    obtain ⟨rfl, rfl, rfl, e⟩ := e
    have : s = [95] := by
      cases s with
      | nil => simp at e
      | cons a r => simp at e h0; rw [e, h0]
    subst this; decide
  · simp only [Prod.mk.injEq] at e
    obtain ⟨rfl, rfl, rfl, e⟩ := e
    have : s = [33] := by
      cases s with
      | nil => simp at e
      | cons a r => simp at e h0; rw [e, h0]
    subst this; decide
  · cases s with
    | nil => simp at h0
    | cons a r =>
      have ha : a = 64 := by simpa using h0
      subst ha
      rw [List.drop_one, List.tail_cons] at hc
      obtain ⟨v, hcn, htag, ⟨h40, e⟩ | ⟨h40, ks', m, hp, e⟩⟩ := conT_cases hc
      · simp only [Prod.mk.injEq, List.length_cons] at e
        obtain ⟨rfl, rfl, rfl, e⟩ := e
        have er : r = Lib.itoa x := by
          rw [← numPart_canon hcn]
          conv => lhs; rw [← List.take_of_length_le (i := (numPart r).length) (l := r) (by omega), numPart_take]
        subst er
        unfold mk head
        rw [if_neg (by decide), if_neg (by decide), if_neg (by decide), if_pos rfl, if_pos htag]
        simp only [behind, tail]
        simp at hl ⊢; omega
      · simp only [Prod.mk.injEq, List.length_cons] at e
        obtain ⟨rfl, rfl, rfl, e⟩ := e
        obtain ⟨i1, i2, i3, i4, i5, i6⟩ := Tp_text (T_back 1024) (T_size 1024) 3 _ ks m hp
        have er : r = Lib.itoa x ++ 40 :: (jn ks ++ [41]) := by
          rw [← i4, ← numPart_canon hcn]
          conv => lhs; rw [← List.take_append_drop ((numPart r).length + 1) r, List.take_add_one, numPart_take, h40]
          rw [List.take_of_length_le (by rw [List.length_drop]; omega)]; simp
        have hall : behind 2 ks = true := by
          unfold behind
          simp only [decide_true, Bool.true_and, Bool.or_eq_true, Bool.and_eq_true, decide_eq_true_eq]
          refine Or.inr ⟨i2, List.all_eq_true.2 fun s hs => ?_⟩
          refine (isW_whole ?_).1 (i3 s hs)
          have := jn_part ks s hs
          rw [er] at hl; simp at hl; omega
        unfold mk head
        rw [if_neg (by decide), if_neg (by decide), if_neg (by decide), if_pos rfl, if_pos htag]
        simp only [hall, tail, if_neg i1, if_true]
        rw [List.cons_append, ← er, if_pos hl]
  · unfold numT at hn
    cases hc : canon (numPart s) with
    | none => rw [hc] at hn; cases hn
    | some v =>
      rw [hc] at hn
      simp only at hn
      split at hn
      · rename_i hm
        have e := Option.some.inj hn
        simp only [Prod.mk.injEq] at e
        obtain ⟨rfl, rfl, rfl, e⟩ := e
        have er : s = Lib.itoa v := by
          rw [← numPart_canon hc]
          conv => lhs; rw [← List.take_of_length_le (i := (numPart s).length) (l := s) (by omega), numPart_take]
        unfold mk head
        rw [if_neg (by decide), if_neg (by decide), if_pos rfl, if_pos hm]
        simp only [behind, tail]
        rw [← er]; simp; exact hl
      · cases hn

/-- What is written is read so. -/
theorem mkd_whole {s : List UInt8} {k x : Int} {ks : List (List UInt8)} (h : mk k x ks = some s) : whole s = some (k, x, ks) := by
  unfold mk at h
  cases hh : head k x with
  | none => rw [hh] at h; cases h
  | some hd =>
    rw [hh] at h
    simp only at h
    by_cases hb : behind k ks = true
    · rw [if_pos hb] at h
      by_cases hl : (hd ++ tail ks).length ≤ 1024
      · rw [if_pos hl] at h
        have e := Option.some.inj h
        subst e
        refine whole_mk hl ?_
        unfold head at hh
        by_cases k2 : k = 2
        · subst k2
          rw [if_neg (by decide), if_neg (by decide), if_neg (by decide), if_pos rfl] at hh
          by_cases htag : tagB x = true
          · rw [if_pos htag] at hh
            have e := Option.some.inj hh; subst e
            rw [T_con rfl]
            show conT (T 1024) (Lib.itoa x ++ tail ks) = _
            by_cases hk : ks = []
            · subst hk
              have en : numPart (Lib.itoa x ++ []) = Lib.itoa x := numPart_app _ [] (itoa_nc x) (fun c hc => by simp at hc)
              show conT (T 1024) (Lib.itoa x ++ []) = _
              have := conT_bare (rd := T 1024) (r := Lib.itoa x ++ []) (v := x) (by rw [en]; exact canon_of_itoa x) htag (by rw [en]; simp)
              rw [this, en]; simp [tail]; omega
            · have htl : tail ks = 40 :: (jn ks ++ [41]) := by rw [tail, if_neg hk]
              rw [htl] at hl ⊢
              have en : numPart (Lib.itoa x ++ 40 :: (jn ks ++ [41])) = Lib.itoa x := numPart_app _ _ (itoa_nc x) (fun c hc => by simp at hc; subst hc; decide)
              have hb' : ks.length ≤ 3 ∧ ∀ s ∈ ks, (whole s).isSome = true := by
                unfold behind at hb
                simp only [Bool.or_eq_true, Bool.and_eq_true, decide_eq_true_eq, List.all_eq_true, List.isEmpty_iff] at hb
                rcases hb with e | ⟨⟨_, e⟩, e2⟩
                · exact absurd e hk
                · exact ⟨e, e2⟩
              have hw : ∀ s ∈ ks, isW (T 1024) s := fun s hs => by
                refine (isW_whole ?_).2 (hb'.2 s hs)
                have := jn_part ks s hs
                simp at hl; omega
              have hp := Tp_made (T_loc 1024) 3 ks [] hk hb'.1 hw
              have := conT_full (rd := T 1024) (r := Lib.itoa x ++ 40 :: (jn ks ++ [41])) (v := x) (ks := ks) (m := (jn ks).length + 1) (by rw [en]; exact canon_of_itoa x) htag
                (by rw [en, List.getElem?_append_right (Nat.le_refl _), Nat.sub_self]; rfl)
                (by rw [en, List.drop_append, List.drop_of_length_le (by omega)]; simpa using hp)
              rw [this, en]; simp; omega
          · rw [if_neg htag] at hh; cases hh
        · have hk : ks = [] := by
            unfold behind at hb
            simp only [Bool.or_eq_true, Bool.and_eq_true, decide_eq_true_eq, List.isEmpty_iff] at hb
            rcases hb with e | ⟨⟨e, _⟩, _⟩
            · exact e
            · exact absurd e k2
          subst hk
          have htl : tail [] = [] := rfl
          rw [htl, List.append_nil] at hl ⊢
          by_cases k0 : k = 0
          · subst k0; rw [if_pos rfl] at hh
            by_cases hx : x = 0
            · rw [if_pos hx] at hh; have e := Option.some.inj hh; subst e; subst hx; exact T_hole rfl
            · rw [if_neg hx] at hh; cases hh
          rw [if_neg k0] at hh
          by_cases k3 : k = 3
          · subst k3; rw [if_pos rfl] at hh
            by_cases hx : x = 0
            · rw [if_pos hx] at hh; have e := Option.some.inj hh; subst e; subst hx; exact T_fail rfl
            · rw [if_neg hx] at hh; cases hh
          rw [if_neg k3] at hh
          by_cases k1 : k = 1
          · subst k1; rw [if_pos rfl] at hh
            by_cases hm : mayB x = true
            · rw [if_pos hm] at hh; have e := Option.some.inj hh; subst e
              obtain ⟨c, r, ec, hc⟩ := itoa_first x
              have n1 : (Lib.itoa x)[0]? ≠ some 95 := by rw [ec]; intro e; simp at e; subst e; simp [isNC] at hc
              have n2 : (Lib.itoa x)[0]? ≠ some 33 := by rw [ec]; intro e; simp at e; subst e; simp [isNC] at hc
              have n3 : (Lib.itoa x)[0]? ≠ some 64 := by rw [ec]; intro e; simp at e; subst e; simp [isNC] at hc
              rw [T_num n1 n2 n3]
              have en : numPart (Lib.itoa x) = Lib.itoa x := by
                have := numPart_app (Lib.itoa x) [] (itoa_nc x) (fun c hc => by simp at hc)
                rwa [List.append_nil] at this
              unfold numT
              rw [en, canon_of_itoa x]; simp [hm]
            · rw [if_neg hm] at hh; cases hh
          rw [if_neg k1, if_neg k2] at hh; cases hh
      · rw [if_neg hl] at h; cases h
    · rw [if_neg hb] at h; cases h

/-- The parts of a whole term are whole terms, and shorter. -/
theorem whole_parts {s : List UInt8} {k x : Int} {ks : List (List UInt8)} (h : whole s = some (k, x, ks)) :
    (∀ p ∈ ks, (whole p).isSome = true ∧ p.length < s.length) ∧ (k = 2 ∨ ks = []) ∧ ks.length ≤ 3 := by
  have hm := whole_mkd h
  unfold mk at hm
  cases hh : head k x with
  | none => rw [hh] at hm; cases hm
  | some hd =>
    rw [hh] at hm
    simp only at hm
    by_cases hb : behind k ks = true
    · rw [if_pos hb] at hm
      by_cases hl : (hd ++ tail ks).length ≤ 1024
      · rw [if_pos hl] at hm
        have e := Option.some.inj hm
        unfold behind at hb
        simp only [Bool.or_eq_true, Bool.and_eq_true, decide_eq_true_eq, List.isEmpty_iff, List.all_eq_true] at hb
        rcases hb with e1 | ⟨⟨e1, e2⟩, e3⟩
        · subst e1; simp
        · refine ⟨fun p hp => ⟨e3 p hp, ?_⟩, Or.inl e1, e2⟩
          have := jn_part ks p hp
          have hne : ks ≠ [] := fun e => by subst e; cases hp
          rw [← e, tail, if_neg hne]; simp; omega
      · rw [if_neg hl] at hm; cases hm
    · rw [if_neg hb] at hm; cases hm

end Go.Proofs.YtcjpepbajcdenaaDoor
