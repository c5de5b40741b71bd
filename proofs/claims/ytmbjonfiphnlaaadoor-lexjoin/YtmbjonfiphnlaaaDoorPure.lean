/- The words of a text, as a plain function over lists of bytes, and what it says of texts put together. -/
import Derived.WalkKit
namespace Go.Proofs.YtmbjonfiphnlaaaDoor

/-- May the byte stand in a text? -/
def okB (b : UInt8) : Bool := b == 10 || (decide (32 ≤ b.toNat) && decide (b.toNat ≤ 126))
/-- Does a word bear it beside others? -/
def plB (b : UInt8) : Bool := b != 10 && b != 32 && b != 40 && b != 41 && b != 35
def fl (w : List UInt8) : List (List UInt8) := match w with | [] => [] | _ => [w]
def br (b : UInt8) : List (List UInt8) := if b == 40 || b == 41 then [[b]] else []
/-- The words still to come: within a remark?, the word so far, the rest of the text. -/
def wd : Bool → List UInt8 → List UInt8 → List (List UInt8)
  | _, w, [] => fl w
  | r, w, c :: s => if r = true then (if (c == 10) = true then fl w ++ wd false [] s else wd true w s)
      else if plB c = true then wd false (w ++ [c]) s else fl w ++ (br c ++ wd (c == 35) [] s)

theorem wd_nil (r : Bool) (w : List UInt8) : wd r w [] = fl w := rfl
theorem wd_rem (w : List UInt8) (c : UInt8) (s : List UInt8) : wd true w (c :: s) = if (c == 10) = true then fl w ++ wd false [] s else wd true w s := rfl
theorem wd_cons (w : List UInt8) (c : UInt8) (s : List UInt8) : wd false w (c :: s) = if plB c = true then wd false (w ++ [c]) s else fl w ++ (br c ++ wd (c == 35) [] s) := rfl
theorem fl_ne {w : List UInt8} (h : w ≠ []) : fl w = [w] := by cases w with | nil => exact absurd rfl h | cons => rfl

/-- A line end parts a text. -/
theorem wd_line (t : List UInt8) : ∀ (s : List UInt8) (r : Bool) (w : List UInt8), wd r w (s ++ 10 :: t) = wd r w s ++ wd false [] t
  | [], true, w => by simp [wd]
  | [], false, w => by
    rw [List.nil_append, wd_cons, if_neg (by decide), wd_nil]
    rfl
  | c :: s, true, w => by
    rw [List.cons_append, wd_rem, wd_rem, wd_line t s false [], wd_line t s true w]
    split <;> simp
  | c :: s, false, w => by
    rw [List.cons_append, wd_cons, wd_cons, wd_line t s false, wd_line t s (c == 35)]
    split <;> simp

theorem wd_remark (w : List UInt8) : ∀ s : List UInt8, (∀ b ∈ s, b ≠ 10) → wd true w s = fl w
  | [], _ => rfl
  | c :: s, h => by
    have hc : (c == 10) = false := by simpa using h c (by simp)
    rw [wd_rem, hc, if_neg (by decide)]
    exact wd_remark w s fun b hb => h b (by simp [hb])

/-- Of a line nothing counts behind the first remark. -/
theorem wd_said : ∀ (s : List UInt8) (w : List UInt8), (∀ b ∈ s, b ≠ 10) → wd false w (s.takeWhile (· != 35)) = wd false w s
  | [], _, _ => rfl
  | c :: s, w, h => by
    have hs : ∀ b ∈ s, b ≠ 10 := fun b hb => h b (by simp [hb])
    by_cases hc : c = 35
    · subst hc
      rw [List.takeWhile_cons_of_neg (by decide), wd_cons, if_neg (by decide), wd_nil]
      show fl w = fl w ++ (br 35 ++ wd true [] s)
      rw [wd_remark [] s hs]
      show fl w = fl w ++ ([] ++ [])
      simp
    · have e : (c == 35) = false := by simpa using hc
      rw [List.takeWhile_cons_of_pos (by simpa using hc), wd_cons, wd_cons, e, wd_said s _ hs, wd_said s _ hs]

/-- What a word bears makes the word longer. -/
theorem wd_more (x : List UInt8) : ∀ (p w : List UInt8), (∀ b ∈ p, plB b = true) → wd false w (p ++ x) = wd false (w ++ p) x
  | [], w, _ => by simp
  | c :: p, w, h => by
    rw [List.cons_append, wd_cons, if_pos (h c (by simp)), wd_more x p _ (fun b hb => h b (by simp [hb]))]
    simp
/-- What no word bears ends it. -/
theorem wd_ends {w : List UInt8} (hw : w ≠ []) {d : UInt8} (hd : plB d = false) (r : List UInt8) : wd false w (d :: r) = w :: wd false [] (d :: r) := by
  rw [wd_cons, wd_cons, hd, fl_ne hw]
  rfl
theorem wd_blank : ∀ x : List UInt8, wd false [] (x.dropWhile (· == 32)) = wd false [] x
  | [] => rfl
  | c :: x => by
    by_cases hc : c = 32
    · subst hc
      rw [List.dropWhile_cons_of_pos (by decide), wd_blank x]
      rfl
    · rw [List.dropWhile_cons_of_neg (by simpa using hc)]
theorem wd_bracket {c : UInt8} (h : c = 40 ∨ c = 41) (r : List UInt8) : wd false [] (c :: r) = [c] :: wd false [] r := by
  rcases h with rfl | rfl <;> rfl

theorem fl_length (w : List UInt8) : (fl w).length ≤ 1 := by cases w <;> simp [fl]
theorem fl_snoc (w : List UInt8) (c : UInt8) : (fl (w ++ [c])).length = 1 := by cases w <;> simp [fl]
theorem br_length (c : UInt8) : (br c).length ≤ 1 := by unfold br; split <;> simp
theorem wd_length : ∀ (s : List UInt8) (r : Bool) (w : List UInt8), (wd r w s).length ≤ s.length + (fl w).length
  | [], _, w => by simp [wd]
  | c :: s, true, w => by
    have h1 := wd_length s false []
    have h2 := wd_length s true w
    have h3 : (fl ([] : List UInt8)).length = 0 := rfl
    rw [wd_rem]
    split <;> simp only [List.length_append, List.length_cons] <;> omega
  | c :: s, false, w => by
    have h1 := wd_length s false (w ++ [c])
    have h2 := wd_length s (c == 35) []
    have h3 : (fl ([] : List UInt8)).length = 0 := rfl
    have h4 := br_length c
    have h5 := fl_snoc w c
    rw [wd_cons]
    split
    · rename_i hp
      simp only [List.length_cons]
      omega
    · simp only [List.length_append, List.length_cons]; omega
theorem wd_short (s : List UInt8) : (wd false [] s).length ≤ s.length := by have := wd_length s false []; simpa [fl] using this

theorem mem_fl {x w : List UInt8} (h : x ∈ fl w) : x = w ∧ w ≠ [] := by
  cases w with
  | nil => simp [fl] at h
  | cons => simp [fl] at h; subst h; simp
/-- What a word is. -/
theorem wd_shape : ∀ (s : List UInt8) (r : Bool) (w : List UInt8), (∀ b ∈ w, plB b = true) → ∀ x ∈ wd r w s, x ≠ [] ∧ x.length ≤ w.length + s.length ∧ ((∀ b ∈ x, plB b = true) ∨ x = [40] ∨ x = [41])
  | [], _, w, hw, x, hx => by
    obtain ⟨rfl, hne⟩ := mem_fl (show x ∈ fl w from hx)
    exact ⟨hne, by simp, Or.inl hw⟩
  | c :: s, true, w, hw, x, hx => by
    rw [wd_rem] at hx
    split at hx
    · rcases List.mem_append.1 hx with hx | hx
      · obtain ⟨rfl, hne⟩ := mem_fl hx
        exact ⟨hne, by simp, Or.inl hw⟩
      · obtain ⟨h1, h2, h3⟩ := wd_shape s false [] (by simp) x hx
        exact ⟨h1, by simp at h2 ⊢; omega, h3⟩
    · obtain ⟨h1, h2, h3⟩ := wd_shape s true w hw x hx
      exact ⟨h1, by simp; omega, h3⟩
  | c :: s, false, w, hw, x, hx => by
    rw [wd_cons] at hx
    split at hx
    · rename_i hp
      obtain ⟨h1, h2, h3⟩ := wd_shape s false (w ++ [c]) (fun b hb => by
        rcases List.mem_append.1 hb with hb | hb
        · exact hw b hb
        · simp at hb; subst hb; exact hp) x hx
      exact ⟨h1, by simp at h2 ⊢; omega, h3⟩
    · rcases List.mem_append.1 hx with hx | hx
      · obtain ⟨rfl, hne⟩ := mem_fl hx
        exact ⟨hne, by simp, Or.inl hw⟩
      · rcases List.mem_append.1 hx with hx | hx
        · unfold br at hx
          split at hx
          · rename_i hc
            simp at hx; subst hx
            refine ⟨by simp, by simp; omega, Or.inr ?_⟩
            simpa using hc
          · simp at hx
        · obtain ⟨h1, h2, h3⟩ := wd_shape s (c == 35) [] (by simp) x hx
          exact ⟨h1, by simp at h2 ⊢; omega, h3⟩

/-- What stands between the line ends. -/
def ln : List UInt8 → List UInt8 → List (List UInt8)
  | a, [] => [a]
  | a, c :: s => if (c == 10) = true then a :: ln [] s else ln (a ++ [c]) s
theorem ln_more (x : List UInt8) : ∀ (p a : List UInt8), (∀ b ∈ p, b ≠ 10) → ln a (p ++ x) = ln (a ++ p) x
  | [], a, _ => by simp
  | c :: p, a, h => by
    have hc : (c == 10) = false := by simpa using h c (by simp)
    rw [List.cons_append, ln, hc, if_neg (by decide), ln_more x p _ (fun b hb => h b (by simp [hb]))]
    simp
theorem ln_all {p : List UInt8} (h : ∀ b ∈ p, b ≠ 10) : ln [] p = [p] := by
  have := ln_more [] p [] h
  rw [List.append_nil] at this
  rw [this]; rfl
theorem ln_part {p : List UInt8} (h : ∀ b ∈ p, b ≠ 10) (x : List UInt8) : ln [] (p ++ 10 :: x) = p :: ln [] x := by
  rw [ln_more _ p [] h]
  rfl
theorem ln_length : ∀ (s a : List UInt8), (ln a s).length ≤ s.length + 1
  | [], a => by simp [ln]
  | c :: s, a => by
    have h1 := ln_length s []
    have h2 := ln_length s (a ++ [c])
    rw [ln]
    split <;> simp only [List.length_cons] <;> omega
/-- What a line says. -/
def said (l : List UInt8) : List (List UInt8) := wd false [] (l.takeWhile (· != 35))
theorem ln_said : ∀ (s a : List UInt8), (∀ b ∈ a, b ≠ 10) → (ln a s).flatMap said = wd false [] (a ++ s)
  | [], a, h => by
    show [a].flatMap said = _
    rw [List.flatMap_cons, List.flatMap_nil, List.append_nil, List.append_nil]
    exact wd_said a [] h
  | c :: s, a, h => by
    rw [ln]
    by_cases hc : c = 10
    · subst hc
      rw [if_pos (by decide), List.flatMap_cons, ln_said s [] (by simp), wd_line]
      show wd false [] (a.takeWhile (· != 35)) ++ _ = _
      rw [wd_said a [] h]
      rfl
    · rw [if_neg (by simpa using hc), ln_said s (a ++ [c]) (fun b hb => by
        rcases List.mem_append.1 hb with hb | hb
        · exact h b hb
        · simp at hb; subst hb; exact hc)]
      simp
/-- A text that may be. -/
def good (s : List UInt8) : Bool := decide (s.length ≤ 2048) && s.all okB
end Go.Proofs.YtmbjonfiphnlaaaDoor
