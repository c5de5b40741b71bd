/- Definitions as plain data, and which of them may be: in the way of package expr and in the way of the document's answer; both say the same. -/
namespace Go.Proofs.Ytiobjkmpeiohdaa
set_option linter.unusedVariables false

/-- A part of a body. -/
structure Ex where
  kind : Int
  num : Int
  bind : Int
  kids : List Int
deriving DecidableEq

/-- May a part be such, but for where its kids stand, with t levels there? -/
def okE (k m b n t : Int) : Bool :=
  if k = 0 then decide (b = 0 ∧ (-32768 ≤ m ∧ m ≤ 32767) ∧ n = 0)
  else if k = 1 then decide (b = 0 ∧ (0 ≤ m ∧ m ≤ t - 1) ∧ n = 0)
  else if k = 2 then decide (b = 0 ∧ (0 ≤ m ∧ m ≤ 7) ∧ n ≤ 3)
  else if k = 3 then decide (b = 0 ∧ (0 ≤ m ∧ m ≤ 99) ∧ n ≤ 3)
  else if k = 4 then decide (b = 0 ∧ (0 ≤ m ∧ m ≤ 4) ∧ n = 2)
  else if k = 5 then decide ((0 ≤ m ∧ m ≤ 99) ∧ (0 ≤ b ∧ b ≤ 3) ∧ n = 3)
  else if k = 6 then decide (b = 0 ∧ m = 0 ∧ n = 2)
  else if k = 7 then decide (b = 0 ∧ m = 0 ∧ n = 0)
  else false
/-- How many levels more the kid i has. -/
def bnd (k b i : Int) : Int := if i = 1 then (if k = 5 then b else if k = 6 then 1 else 0) else 0
def Ex.ok (e : Ex) (t : Int) : Bool := okE e.kind e.num e.bind e.kids.length t
def Ex.bd (e : Ex) (i : Int) : Int := bnd e.kind e.bind i

/-- The kids get their levels: package expr's way (-1: nobody's). -/
def hd (n : Nat) (e : Ex) (t : Int) : Nat → List Int → List Int → Option (List Int)
  | _, [], L => some L
  | i, k :: ks, L =>
    if 0 ≤ k ∧ k ≤ (n : Int) - 1 ∧ L[k.toNat]? = some (-1) then
      (if t + e.bd i > 8 then none else hd n e t (i + 1) ks (L.set k.toNat (t + e.bd i)))
    else none
/-- One part, standing at 'at'. -/
def stp (L : List Int) (x : Nat × Ex) : Option (List Int) :=
  match L[x.1]? with
  | none => none
  | some t => if t = -1 then none else if x.2.ok t = false then none else hd x.1 x.2 t 0 x.2.kids L
def run : List Int → List (Nat × Ex) → Option (List Int)
  | L, [] => some L
  | L, x :: xs => match stp L x with
    | none => none
    | some L' => run L' xs
/-- The parts, the last one first, with their places. -/
def backw (xs : List Ex) : List (Nat × Ex) := (xs.zipIdx.map fun x => (x.2, x.1)).reverse
/-- The levels at first. -/
def start (p : Int) (n : Nat) : List Int := (List.replicate n (-1)).set (n - 1) p
def may (p : Int) (xs : List Ex) : Bool :=
  if 0 ≤ p ∧ p ≤ 3 ∧ 1 ≤ xs.length ∧ xs.length ≤ 24 then (run (start p xs.length) (backw xs)).isSome else false

/-- The document's way (and 1; 0: nobody's). -/
def rd (n : Nat) (e : Ex) (t : Int) : Nat → List Int → List Int → Option (List Int)
  | _, [], M => some M
  | i, k :: ks, M =>
    if 0 ≤ k ∧ k ≤ (n : Int) - 1 ∧ M[k.toNat]? = some 0 then rd n e t (i + 1) ks (M.set k.toNat (t + e.bd i)) else none
def rstp (M : List Int) (x : Nat × Ex) : Option (List Int) :=
  match M[x.1]? with
  | none => none
  | some t => if t = 0 then none else if t - 1 > 8 then none else if x.2.ok (t - 1) = false then none else rd x.1 x.2 t 0 x.2.kids M
def rrun : List Int → List (Nat × Ex) → Option (List Int)
  | M, [] => some M
  | M, x :: xs => match rstp M x with
    | none => none
    | some M' => rrun M' xs
def rstart (p : Int) (n : Nat) : List Int := (List.replicate n 0).set (n - 1) (p + 1)
def rmay (p : Int) (xs : List Ex) : Bool :=
  if 0 ≤ p ∧ p ≤ 3 ∧ 1 ≤ xs.length ∧ xs.length ≤ 24 then (rrun (rstart p xs.length) (backw xs)).isSome else false

/-! Lengths stay; what is told stays. -/
theorem hd_len {n : Nat} {e : Ex} {t : Int} : ∀ {ks : List Int} {i : Nat} {L L' : List Int}, hd n e t i ks L = some L' → L'.length = L.length
  | [], i, L, L', h => by rw [hd] at h; cases h; rfl
  | k :: ks, i, L, L', h => by
    rw [hd] at h
    split at h
    · split at h
      · cases h
      · have := hd_len h; simpa using this
    · cases h
theorem stp_len {L L' : List Int} {x : Nat × Ex} (h : stp L x = some L') : L'.length = L.length := by
  unfold stp at h
  split at h
  · cases h
  · split at h
    · cases h
    · split at h
      · cases h
      · exact hd_len h
theorem run_len : ∀ {xs : List (Nat × Ex)} {L L' : List Int}, run L xs = some L' → L'.length = L.length
  | [], L, L', h => by rw [run] at h; cases h; rfl
  | x :: xs, L, L', h => by
    rw [run] at h
    split at h
    · cases h
    · rename_i L1 h1
      rw [run_len h, stp_len h1]
theorem run_snoc : ∀ (xs : List (Nat × Ex)) (x : Nat × Ex) (L : List Int), run L (xs ++ [x]) = (run L xs).bind fun L' => stp L' x
  | [], x, L => by
    show run L [x] = stp L x
    rw [run]
    cases stp L x <;> rfl
  | y :: xs, x, L => by
    rw [List.cons_append, run, run]
    cases stp L y with
    | none => rfl
    | some L1 => exact run_snoc xs x L1
theorem run_pre : ∀ (xs ys : List (Nat × Ex)) (L : List Int), run L xs = none → run L (xs ++ ys) = none
  | [], ys, L, h => by rw [run] at h; cases h
  | x :: xs, ys, L, h => by
    rw [List.cons_append, run]
    rw [run] at h
    cases hs : stp L x with
    | none => rfl
    | some L1 => rw [hs] at h; exact run_pre xs ys L1 h

/-- No level is told beyond 8, none below -1. -/
def Fine (L : List Int) : Prop := ∀ v ∈ L, -1 ≤ v ∧ v ≤ 8
theorem bnd_le {k m b n t i : Int} (h : okE k m b n t = true) : 0 ≤ bnd k b i ∧ bnd k b i ≤ 3 := by
  unfold bnd
  split
  · split
    · rename_i h5
      subst h5
      simp [okE] at h
      omega
    · split <;> omega
  · omega
theorem Fine.set {L : List Int} (h : Fine L) (j : Nat) {v : Int} (h1 : -1 ≤ v) (h2 : v ≤ 8) : Fine (L.set j v) := by
  intro u hu
  rcases List.mem_or_eq_of_mem_set hu with h' | h'
  · exact h u h'
  · subst h'; exact ⟨h1, h2⟩
theorem hd_fine {n : Nat} {e : Ex} {t : Int} (ht : 0 ≤ t) (hb : ∀ i, 0 ≤ e.bd i) : ∀ {ks : List Int} {i : Nat} {L L' : List Int}, Fine L → hd n e t i ks L = some L' → Fine L'
  | [], i, L, L', hL, h => by rw [hd] at h; cases h; exact hL
  | k :: ks, i, L, L', hL, h => by
    rw [hd] at h
    split at h
    · split at h
      · cases h
      · exact hd_fine ht hb (hL.set _ (by have := hb i; omega) (by omega)) h
    · cases h
theorem stp_fine {L L' : List Int} {x : Nat × Ex} (hL : Fine L) (h : stp L x = some L') : Fine L' := by
  unfold stp at h
  split at h
  · cases h
  · rename_i t ht
    have htm := hL t (List.mem_of_getElem? ht)
    split at h
    · cases h
    · split at h
      · cases h
      · rename_i hok
        have hok' : x.2.ok t = true := by simpa using hok
        exact hd_fine (by omega) (fun i => (bnd_le hok').1) hL h
theorem run_fine : ∀ {xs : List (Nat × Ex)} {L L' : List Int}, Fine L → run L xs = some L' → Fine L'
  | [], L, L', hL, h => by rw [run] at h; cases h; exact hL
  | x :: xs, L, L', hL, h => by
    rw [run] at h
    split at h
    · cases h
    · rename_i L1 h1
      exact run_fine (stp_fine hL h1) h
theorem start_fine {p : Int} {n : Nat} (h0 : 0 ≤ p) (h3 : p ≤ 3) : Fine (start p n) := by
  unfold start
  refine Fine.set (fun v hv => ?_) _ (by omega) (by omega)
  rw [List.eq_of_mem_replicate hv]; omega
theorem start_len (p : Int) (n : Nat) : (start p n).length = n := by simp [start]
theorem rstart_len (p : Int) (n : Nat) : (rstart p n).length = n := by simp [rstart]

/-! Both ways say the same. -/
def up1 (L : List Int) : List Int := L.map (· + 1)
theorem up1_at (L : List Int) (j : Nat) : (up1 L)[j]? = (L[j]?).map (· + 1) := by simp [up1]
theorem up1_set (L : List Int) (j : Nat) (v : Int) : (up1 L).set j (v + 1) = up1 (L.set j v) := by simp [up1, List.map_set]
theorem up1_start (p : Int) (n : Nat) : rstart p n = up1 (start p n) := by simp [rstart, start, up1, List.map_set]

/-- A level beyond 8, once told ahead of 'n', stays. -/
theorem rd_keeps {n : Nat} {e : Ex} {t : Int} : ∀ {ks : List Int} {i : Nat} {M M' : List Int} {j : Nat} {v : Int}, M[j]? = some v → v ≠ 0 → rd n e t i ks M = some M' → M'[j]? = some v
  | [], i, M, M', j, v, hj, hv, h => by rw [rd] at h; cases h; exact hj
  | k :: ks, i, M, M', j, v, hj, hv, h => by
    rw [rd] at h
    split at h
    · rename_i hc
      have hne : k.toNat ≠ j := by
        intro e1
        rw [e1, hj] at hc
        exact hv (Option.some.inj hc.2.2)
      exact rd_keeps (by rw [List.getElem?_set_ne hne]; exact hj) hv h
    · cases h
/-- The places that are still to come hold one beyond 8: the document's way ends with no. -/
theorem rrun_far : ∀ {xs : List (Nat × Ex)} {M : List Int} {j : Nat} {v : Int}, (∃ x ∈ xs, x.1 = j) → M[j]? = some v → v - 1 > 8 → rrun M xs = none
  | [], M, j, v, hx, _, _ => by obtain ⟨x, h, _⟩ := hx; cases h
  | x :: xs, M, j, v, hx, hj, hv => by
    rw [rrun]
    cases hs : rstp M x with
    | none => rfl
    | some M' =>
      unfold rstp at hs
      split at hs
      · cases hs
      · rename_i t ht
        split at hs
        · cases hs
        · split at hs
          · cases hs
          · split at hs
            · cases hs
            · by_cases hxj : x.1 = j
              · rw [hxj, hj] at ht
                have := Option.some.inj ht
                subst this
                omega
              · obtain ⟨y, hy, hyj⟩ := hx
                have hy' : y ∈ xs := by
                  rcases List.mem_cons.1 hy with h | h
                  · subst h; exact absurd hyj hxj
                  · exact h
                exact rrun_far ⟨y, hy', hyj⟩ (rd_keeps hj (by omega) hs) hv
/-- One part's kids, both ways. -/
theorem hd_rd {n : Nat} {e : Ex} {t : Int} (rest : List (Nat × Ex)) (hrest : ∀ k : Int, 0 ≤ k → k ≤ (n : Int) - 1 → ∃ x ∈ rest, x.1 = k.toNat) : ∀ (ks : List Int) (i : Nat) (L : List Int),
    (∃ L', hd n e t i ks L = some L' ∧ rd n e (t + 1) i ks (up1 L) = some (up1 L')) ∨ (hd n e t i ks L = none ∧ ((rd n e (t + 1) i ks (up1 L)).bind fun M => rrun M rest) = none)
  | [], i, L => Or.inl ⟨L, rfl, rfl⟩
  | k :: ks, i, L => by
    rw [hd, rd]
    have he : (L[k.toNat]? = some (-1)) ↔ ((up1 L)[k.toNat]? = some 0) := by
      rw [up1_at]
      cases L[k.toNat]? with
      | none => simp
      | some v => simp; omega
    by_cases hc : 0 ≤ k ∧ k ≤ (n : Int) - 1 ∧ L[k.toNat]? = some (-1)
    · have hc' : 0 ≤ k ∧ k ≤ (n : Int) - 1 ∧ (up1 L)[k.toNat]? = some 0 := ⟨hc.1, hc.2.1, he.1 hc.2.2⟩
      rw [if_pos hc, if_pos hc']
      by_cases h8 : t + e.bd i > 8
      · rw [if_pos h8]
        refine Or.inr ⟨rfl, ?_⟩
        cases hr : rd n e (t + 1) (i + 1) ks ((up1 L).set k.toNat (t + 1 + e.bd i)) with
        | none => rfl
        | some M =>
          have hlt : k.toNat < (up1 L).length := (List.getElem?_eq_some_iff.1 hc'.2.2).1
          have hj : ((up1 L).set k.toNat (t + 1 + e.bd i))[k.toNat]? = some (t + 1 + e.bd i) := by
            rw [List.getElem?_set_self hlt]
          exact rrun_far (hrest k hc.1 hc.2.1) (rd_keeps hj (by omega) hr) (by omega)
      · rw [if_neg h8, show t + 1 + e.bd i = (t + e.bd i) + 1 by omega, up1_set]
        exact hd_rd rest hrest ks (i + 1) _
    · have hc' : ¬ (0 ≤ k ∧ k ≤ (n : Int) - 1 ∧ (up1 L)[k.toNat]? = some 0) := fun h => hc ⟨h.1, h.2.1, he.2 h.2.2⟩
      rw [if_neg hc, if_neg hc']
      exact Or.inr ⟨rfl, rfl⟩
/-- Places in order: each part stands right behind the rest. -/
def Ord : List (Nat × Ex) → Prop
  | [] => True
  | x :: xs => x.1 = xs.length ∧ Ord xs
theorem Ord.mem : ∀ {xs : List (Nat × Ex)}, Ord xs → ∀ j, j < xs.length → ∃ x ∈ xs, x.1 = j
  | [], _, j, hj => by simp at hj
  | x :: xs, h, j, hj => by
    by_cases e : j = xs.length
    · exact ⟨x, List.mem_cons_self, by rw [h.1, e]⟩
    · obtain ⟨y, hy, hyj⟩ := Ord.mem h.2 j (by simp at hj; omega)
      exact ⟨y, List.mem_cons_of_mem _ hy, hyj⟩
theorem run_rrun : ∀ (xs : List (Nat × Ex)) (L : List Int), Ord xs → Fine L → (run L xs).isSome = (rrun (up1 L) xs).isSome
  | [], L, _, _ => rfl
  | x :: xs, L, ho, hf => by
    rw [run, rrun]
    have hmem : ∀ k : Int, 0 ≤ k → k ≤ (x.1 : Int) - 1 → ∃ y ∈ xs, y.1 = k.toNat := fun k h0 h1 => ho.2.mem k.toNat (by have := ho.1; omega)
    unfold stp rstp
    rw [up1_at]
    cases ht : L[x.1]? with
    | none => rfl
    | some t =>
      have hft := hf t (List.mem_of_getElem? ht)
      simp only [Option.map_some]
      by_cases h1 : t = -1
      · subst h1; rfl
      · have e1 : ¬ t + 1 = 0 := by omega
        have e2 : ¬ t + 1 - 1 > 8 := by omega
        have e3 : t + 1 - 1 = t := by omega
        rw [if_neg h1, if_neg e1, if_neg e2, e3]
        by_cases hk : x.2.ok t = false
        · rw [if_pos hk, if_pos hk]
        · rw [if_neg hk, if_neg hk]
          have hok : x.2.ok t = true := by simpa using hk
          rcases hd_rd (n := x.1) (e := x.2) (t := t) xs hmem x.2.kids 0 L with ⟨L', e1, e2⟩ | ⟨e1, e2⟩
          · rw [e1, e2]
            exact run_rrun xs L' ho.2 (hd_fine (by omega) (fun i => (bnd_le hok).1) hf e1)
          · rw [e1]
            cases hr : rd x.1 x.2 (t + 1) 0 x.2.kids (up1 L) with
            | none => rfl
            | some M =>
              rw [hr] at e2
              have e2' : rrun M xs = none := e2
              show (none : Option (List Int)).isSome = (rrun M xs).isSome
              rw [e2']
theorem backw_nil : backw [] = [] := rfl
theorem backw_snoc (xs : List Ex) (x : Ex) : backw (xs ++ [x]) = (xs.length, x) :: backw xs := by
  simp [backw, List.zipIdx_append]
theorem backw_len (xs : List Ex) : (backw xs).length = xs.length := by simp [backw]
theorem list_snoc_ind {P : List Ex → Prop} (h0 : P []) (h1 : ∀ xs x, P xs → P (xs ++ [x])) (xs : List Ex) : P xs := by
  have : ∀ ys : List Ex, P ys.reverse := by
    intro ys
    induction ys with
    | nil => exact h0
    | cons y ys ih => rw [List.reverse_cons]; exact h1 _ _ ih
  have h := this xs.reverse
  rwa [List.reverse_reverse] at h
theorem backw_ord (xs : List Ex) : Ord (backw xs) := by
  induction xs using list_snoc_ind with
  | h0 => exact trivial
  | h1 xs x ih => rw [backw_snoc]; exact ⟨by rw [backw_len], ih⟩
theorem may_rmay (p : Int) (xs : List Ex) : may p xs = rmay p xs := by
  unfold may rmay
  by_cases h : 0 ≤ p ∧ p ≤ 3 ∧ 1 ≤ xs.length ∧ xs.length ≤ 24
  · rw [if_pos h, if_pos h, up1_start]
    exact run_rrun _ _ (backw_ord xs) (start_fine h.1 h.2.1)
  · rw [if_neg h, if_neg h]
end Go.Proofs.Ytiobjkmpeiohdaa
