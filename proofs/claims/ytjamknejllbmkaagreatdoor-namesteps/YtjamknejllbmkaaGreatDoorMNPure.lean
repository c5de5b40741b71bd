/- What is meant by a call, in plain words: things that stand at levels, what comes of evaluating them, steps; what may be needs no bound that it does not have. · With more fuel the same comes of it; whatever stands in the holes, the same comes of it. · What came of it, in the head that the document's own text answers. -/
import Derived.Test.YtjamknejllbmkaaGreatDoorMPlain

namespace Go.Proofs.YtjamknejllbmkaaGreatDoor
open Go
set_option linter.unusedVariables false

abbrev Wdn := List UInt8
/-- What stands at a level: a term, or a part of a body with its own levels. -/
inductive Th where
  | giv (s : Wdn)
  | prt (d a : Nat) (ls : List Th)
/-- What comes of it. -/
inductive Oc where
  | fuel
  | hole
  | fail
  | num (m : Int)
  | con (c : Int) (ps : List Th)

def bodyAt (P : List Df) (d : Nat) : List Ex := match P[d]? with
  | none => []
  | some x => x.body
def exAt (P : List Df) (d a : Nat) : Ex := (bodyAt P d)[a]?.getD ⟨7, 0, 0, []⟩
def kidT (d : Nat) (ls : List Th) (x : Ex) (i : Nat) : Th := .prt d (x.kids[i]?.getD 0).toNat ls
def kidsT (d : Nat) (ls : List Th) (x : Ex) : List Th := x.kids.map fun k => .prt d k.toNat ls
/-- What comes of a term. -/
def givO (s : Wdn) : Oc := match Tm.whole s with
  | none => .fail
  | some (k, x, ks) => if k = 0 then .hole else if k = 1 then .num x else if k = 2 then .con x (ks.map .giv) else .fail
/-- A number wrapped round. -/
def wr (x : Int) : Int := (x + 32768) % 65536 - 32768
/-- Layer 1. -/
def prm (op a b : Int) : Int :=
  if op = 0 then wr (a + b) else if op = 1 then wr (a - b) else if op = 2 then wr (a * b) else if op = 3 then (if a = b then 1 else 0) else if a < b then 1 else 0
/-- To evaluate a thing with f steps left; n is no less than f. -/
def ev (P : List Df) : Nat → Nat → Th → Oc × Nat
  | _, f, .giv s => (givO s, f)
  | 0, f, .prt _ _ _ => (.fuel, f)
  | n + 1, f, .prt d a ls =>
    if f = 0 then (.fuel, 0) else
    let x := exAt P d a
    if x.kind = 0 then (.num x.num, f - 1)
    else if x.kind = 1 then (match ls[x.num.toNat]? with
      | none => (.fail, f - 1)
      | some t => ev P n (f - 1) t)
    else if x.kind = 2 then ev P n (f - 1) (.prt x.num.toNat ((bodyAt P x.num.toNat).length - 1) (kidsT d ls x))
    else if x.kind = 3 then (.con x.num (kidsT d ls x), f - 1)
    else if x.kind = 4 then (match ev P n (f - 1) (kidT d ls x 0) with
      | (.num m, f1) => (match ev P n f1 (kidT d ls x 1) with
        | (.num k, f2) => (.num (prm x.num m k), f2)
        | (.con _ _, f2) => (.fail, f2)
        | r => r)
      | (.con _ _, f1) => (.fail, f1)
      | r => r)
    else if x.kind = 5 then (match ev P n (f - 1) (kidT d ls x 0) with
      | (.num m, f1) => ev P n f1 (kidT d ls x 2)
      | (.con c ps, f1) => if c = x.num ∧ (ps.length : Int) = x.bind then ev P n f1 (.prt d (x.kids[1]?.getD 0).toNat (ls ++ ps)) else ev P n f1 (kidT d ls x 2)
      | r => r)
    else if x.kind = 6 then ev P n (f - 1) (.prt d (x.kids[1]?.getD 0).toNat (ls ++ [kidT d ls x 0]))
    else (.fail, f - 1)

/-- A part that may stand with so many levels, and its kids. -/
inductive Lvl (B : List Ex) : Nat → Nat → Prop where
  | mk (a t : Nat) (x : Ex) (hx : B[a]? = some x) (ok : x.ok t = true) (le : t ≤ 8)
      (kid : ∀ (i : Nat) (k : Int), x.kids[i]? = some k → 0 ≤ k ∧ k < (a : Int)) (lvl : ∀ (i : Nat) (k : Int), x.kids[i]? = some k → Lvl B k.toNat (t + (x.bd i).toNat)) : Lvl B a t
/-- A thing of a program that may be. -/
inductive Wf (P : List Df) : Th → Prop where
  | giv (s : Wdn) (h : (Tm.whole s).isSome = true) : Wf P (.giv s)
  | prt (d a : Nat) (ls : List Th) (df : Df) (hd : P[d]? = some df) (hl : Lvl df.body a ls.length) (hs : ∀ l ∈ ls, Wf P l) : Wf P (.prt d a ls)
/-- What may come of it. -/
def Oc.Wf (P : List Df) : Oc → Prop
  | .num m => -32768 ≤ m ∧ m ≤ 32767
  | .con c ps => 0 ≤ c ∧ c ≤ 99 ∧ ps.length ≤ 3 ∧ ∀ p ∈ ps, Go.Proofs.YtjamknejllbmkaaGreatDoor.Wf P p
  | _ => True

theorem whole_in {s : Wdn} {k x : Int} {ks : List Wdn} (h : Tm.whole s = some (k, x, ks)) : (k = 1 → -32768 ≤ x ∧ x ≤ 32767) ∧ (k = 2 → 0 ≤ x ∧ x ≤ 99 ∧ ks.length ≤ 3) ∧ ∀ p ∈ ks, (Tm.whole p).isSome = true := by
  obtain ⟨h1, h2, h3⟩ := Tm.whole_parts h
  have hm := Tm.whole_mkd h
  unfold Tm.mk at hm
  refine ⟨fun e => ?_, fun e => ?_, fun p hp => (h1 p hp).1⟩
  · subst e
    cases hb : Tm.mayB x with
    | true => unfold Tm.mayB at hb; simpa using hb
    | false => simp [Tm.head, hb] at hm
  · subst e
    cases hb : Tm.tagB x with
    | true => unfold Tm.tagB at hb; simp at hb; exact ⟨hb.1, hb.2, h3⟩
    | false => simp [Tm.head, hb] at hm
/-! Levels: what is told ahead stays. -/
theorem hd_keeps {n : Nat} {e : Ex} {t : Int} (hb : ∀ i, 0 ≤ e.bd i) (ht : 0 ≤ t) : ∀ {ks : List Int} {i : Nat} {L L' : List Int} {j : Nat} {v : Int}, L[j]? = some v → v ≠ -1 → hd n e t i ks L = some L' → L'[j]? = some v
  | [], i, L, L', j, v, hj, hv, h => by rw [hd] at h; cases h; exact hj
  | k :: ks, i, L, L', j, v, hj, hv, h => by
    rw [hd] at h
    split at h
    · rename_i hc
      split at h
      · cases h
      · refine hd_keeps hb ht ?_ hv h
        by_cases e : k.toNat = j
        · rw [e, hj] at hc; exact absurd (Option.some.inj hc.2.2) hv
        · rw [List.getElem?_set_ne e]; exact hj
    · cases h
theorem hd_sets {n : Nat} {e : Ex} {t : Int} (hb : ∀ i, 0 ≤ e.bd i) (ht : 0 ≤ t) : ∀ {ks : List Int} {i : Nat} {L L' : List Int}, hd n e t i ks L = some L' → ∀ (j : Nat) (k : Int), ks[j]? = some k → 0 ≤ k ∧ k < (n : Int) ∧ t + e.bd (i + j : Nat) ≤ 8 ∧ L'[k.toNat]? = some (t + e.bd (i + j : Nat))
  | [], i, L, L', h, j, k, hj => by simp at hj
  | k0 :: ks, i, L, L', h, j, k, hj => by
    rw [hd] at h
    split at h
    · rename_i hc
      split at h
      · cases h
      · rename_i h8
        cases j with
        | zero =>
          simp at hj; subst hj
          refine ⟨hc.1, by omega, by simpa using (by omega : t + e.bd (i : Nat) ≤ 8), hd_keeps hb ht (v := t + e.bd (i : Nat)) ?_ (by have := hb (i : Nat); omega) h⟩
          obtain ⟨hl, _⟩ := List.getElem?_eq_some_iff.1 hc.2.2
          rw [List.getElem?_set_self hl]
        | succ j =>
          have := hd_sets hb ht h j k (by simpa using hj)
          rw [show i + 1 + j = i + (j + 1) by omega] at this
          exact this
    · cases h
theorem ok_bd {x : Ex} {t : Int} (h : x.ok t = true) (i : Int) : 0 ≤ x.bd i ∧ x.bd i ≤ 3 := bnd_le h
theorem run_lvl {B : List Ex} : ∀ (xs ys : List Ex) (L : List Int), B = xs ++ ys → Fine L → (run L (backw xs)).isSome = true → ∀ (a : Nat) (t : Int), a < xs.length → L[a]? = some t → t ≠ -1 → Lvl B a t.toNat := by
  intro xs
  induction h : xs.length generalizing xs with
  | zero => intro ys L _ _ _ a t ha; omega
  | succ m ih =>
    intro ys L hB hF hr a t ha hat ht
    rcases List.eq_nil_or_concat xs with e | ⟨zs, x, e⟩
    · subst e; cases h
    rw [List.concat_eq_append] at e
    subst e
    have hz : zs.length = m := by simpa using h
    rw [backw_snoc, run] at hr
    cases hs : stp L (zs.length, x) with
    | none => rw [hs] at hr; cases hr
    | some L1 =>
      rw [hs] at hr
      have hF1 := stp_fine hF hs
      have hB' : B = zs ++ ([x] ++ ys) := by rw [hB, List.append_assoc]
      have IH := ih zs hz ([x] ++ ys) L1 hB' hF1 hr
      have hx : B[zs.length]? = some x := by rw [hB, List.append_assoc, List.getElem?_append_right (Nat.le_refl _)]; simp
      unfold stp at hs
      split at hs
      · cases hs
      · rename_i t0 ht0
        split at hs
        · cases hs
        · rename_i hn0
          split at hs
          · cases hs
          · rename_i hok
            have hok : x.ok t0 = true := by simpa using hok
            have hf0 := hF t0 (List.mem_of_getElem? ht0)
            have hp0 : 0 ≤ t0 := by omega
            by_cases hc : a = zs.length
            · subst hc
              have e : t0 = t := by rw [hat] at ht0; exact (Option.some.inj ht0).symm
              subst e
              refine Lvl.mk _ _ x hx (by rw [Int.toNat_of_nonneg hp0]; exact hok) (by omega) (fun i k hik => by obtain ⟨h1, h2, _⟩ := hd_sets (fun i => (ok_bd hok i).1) hp0 hs i k hik; exact ⟨h1, h2⟩) ?_
              intro i k hik
              obtain ⟨h1, h2, h3, h4⟩ := hd_sets (fun i => (ok_bd hok i).1) hp0 hs i k hik
              rw [Nat.zero_add] at h3 h4
              have hb := ok_bd hok i
              have := IH k.toNat _ (by omega) h4 (by omega)
              rw [Int.toNat_add hp0 hb.1] at this
              exact this
            · exact IH a t (by omega) (hd_keeps (fun i => (ok_bd hok i).1) hp0 hat ht hs) ht
theorem may_lvl {p : Int} {B : List Ex} (h : may p B = true) : 0 ≤ p ∧ p ≤ 3 ∧ 1 ≤ B.length ∧ B.length ≤ 24 ∧ Lvl B (B.length - 1) p.toNat := by
  unfold may at h
  split at h
  · rename_i hp
    refine ⟨hp.1, hp.2.1, hp.2.2.1, hp.2.2.2, ?_⟩
    refine run_lvl B [] _ (by simp) (start_fine hp.1 hp.2.1) h _ p (by omega) ?_ (by omega)
    unfold start
    rw [List.getElem?_set_self]
    rw [List.length_replicate]; omega
  · cases h
theorem Lvl.at {B : List Ex} {a t : Nat} (h : Lvl B a t) : ∃ x, B[a]? = some x ∧ x.ok t = true ∧ t ≤ 8 ∧ ∀ (i : Nat) (k : Int), x.kids[i]? = some k → 0 ≤ k ∧ k < (a : Int) ∧ Lvl B k.toNat (t + (x.bd i).toNat) := by
  cases h with
  | mk _ _ x hx ok le kid lvl => exact ⟨x, hx, ok, le, fun i k h => ⟨(kid i k h).1, (kid i k h).2, lvl i k h⟩⟩

/-! A program that may be. -/
theorem pmay_len {ds : List Df} (h : pmay ds = true) : 1 ≤ ds.length ∧ ds.length ≤ 8 := by
  unfold pmay at h
  simp only [Bool.and_eq_true, decide_eq_true_eq] at h
  exact h.1.1
theorem pmay_ok {ds : List Df} (h : pmay ds = true) {d : Nat} {x : Df} (hd : ds[d]? = some x) : may x.params x.body = true ∧ ∀ e ∈ x.body, e.kind = 2 → takes ds e = true := by
  unfold pmay at h
  simp only [Bool.and_eq_true, List.all_eq_true] at h
  have := h.2 x (List.mem_of_getElem? hd)
  unfold dOk at this
  simp only [Bool.and_eq_true, Bool.not_eq_true', List.any_eq_false] at this
  refine ⟨this.1, fun e he hk => ?_⟩
  have h2 := this.2 e he
  unfold wrong at h2
  simp [hk] at h2
  exact h2
theorem Wf.root {P : List Df} (h : pmay P = true) {d : Nat} {x : Df} (hd : P[d]? = some x) {ls : List Th} (hl : (ls.length : Int) = x.params) (hs : ∀ l ∈ ls, Wf P l) : Wf P (.prt d ((bodyAt P d).length - 1) ls) := by
  have hb : bodyAt P d = x.body := by unfold bodyAt; rw [hd]
  obtain ⟨h1, h2, h3, h4, h5⟩ := may_lvl (pmay_ok h hd).1
  rw [hb]
  refine Wf.prt _ _ _ x hd ?_ hs
  have : x.params.toNat = ls.length := by omega
  rw [← this]; exact h5
/-- What is known of a part that is evaluated. -/
structure Pd1 (P : List Df) (d a : Nat) (ls : List Th) (x : Ex) : Prop where
  df : ∃ df, P[d]? = some df ∧ df.body[a]? = some x ∧ df.body.length ≤ 24 ∧ a < df.body.length
  body : (bodyAt P d)[a]? = some x
  ex : exAt P d a = x
  ok : x.ok ls.length = true
  le : ls.length ≤ 8
  kid : ∀ (i : Nat) (k : Int), x.kids[i]? = some k → 0 ≤ k ∧ k < (a : Int) ∧ k < 24
  wf : ∀ (i : Nat) (k : Int), x.kids[i]? = some k → ∀ more : List Th, (more.length : Int) = x.bd i → (∀ l ∈ more, Wf P l) → Wf P (.prt d k.toNat (ls ++ more))
  call : x.kind = 2 → 0 ≤ x.num ∧ x.num ≤ 7 ∧ ∃ df, P[x.num.toNat]? = some df ∧ (x.kids.length : Int) = df.params ∧ 1 ≤ df.body.length ∧ df.body.length ≤ 24
theorem Wf.part {P : List Df} (hP : pmay P = true) {d a : Nat} {ls : List Th} (h : Wf P (.prt d a ls)) : ∃ x, Pd1 P d a ls x := by
  cases h with
  | prt _ _ _ df hd hl hs =>
    obtain ⟨x, hx, ok, le, kid⟩ := hl.at
    have hb : bodyAt P d = df.body := by unfold bodyAt; rw [hd]
    have hbx : (bodyAt P d)[a]? = some x := by rw [hb]; exact hx
    obtain ⟨_, _, _, h24, _⟩ := may_lvl (pmay_ok hP hd).1
    have hal : a < df.body.length := (List.getElem?_eq_some_iff.1 hx).1
    refine ⟨x, ⟨df, hd, hx, h24, hal⟩, hbx, by unfold exAt; rw [hbx]; rfl, ok, le, ?_, ?_, ?_⟩
    · intro i k hik
      obtain ⟨h1, h2, _⟩ := kid i k hik
      exact ⟨h1, h2, by omega⟩
    · intro i k hik more hm hw
      obtain ⟨_, _, h3⟩ := kid i k hik
      refine Wf.prt _ _ _ df hd ?_ ?_
      · rw [List.length_append]
        have : (x.bd i).toNat = more.length := by omega
        rw [this] at h3; exact h3
      · intro l hl
        rcases List.mem_append.1 hl with h | h
        · exact hs l h
        · exact hw l h
    · intro hk
      have ht := (pmay_ok hP hd).2 x (List.mem_of_getElem? hx) hk
      obtain ⟨c1, c2⟩ := ok_call ok hk
      unfold takes at ht
      simp only [Bool.and_eq_true, decide_eq_true_eq] at ht
      cases hp : P[x.num.toNat]? with
      | none => rw [hp] at ht; simp at ht
      | some df2 =>
        rw [hp] at ht
        obtain ⟨_, _, q3, q4, _⟩ := may_lvl (pmay_ok hP hp).1
        exact ⟨c1, c2, df2, rfl, by simpa using ht.2, q3, q4⟩
theorem Wf.ls {P : List Df} {d a : Nat} {ls : List Th} (h : Wf P (.prt d a ls)) : ∀ l ∈ ls, Wf P l := by
  cases h with
  | prt _ _ _ df hd hl hs => exact hs
theorem Pd1.kidW {P : List Df} {d a : Nat} {ls : List Th} {x : Ex} (h : Pd1 P d a ls x) {i : Nat} (hi : i < x.kids.length) (hb : x.bd i = 0) : Wf P (kidT d ls x i) := by
  have e : x.kids[i]? = some x.kids[i] := List.getElem?_eq_getElem hi
  have := h.wf i _ e [] (by simpa using hb.symm) (fun l hl => by cases hl)
  unfold kidT
  rw [e]
  simpa using this
theorem Pd1.kidsW {P : List Df} {d a : Nat} {ls : List Th} {x : Ex} (h : Pd1 P d a ls x) (hb : ∀ i : Int, x.bd i = 0) : ∀ t ∈ kidsT d ls x, Wf P t := by
  intro t ht
  unfold kidsT at ht
  obtain ⟨k, hk, rfl⟩ := List.mem_map.1 ht
  obtain ⟨i, hi⟩ := List.getElem?_of_mem hk
  have := h.wf i k hi [] (by rw [hb]; rfl) (fun l hl => by cases hl)
  simpa using this
theorem bd_none {x : Ex} (h5 : x.kind ≠ 5) (h6 : x.kind ≠ 6) (i : Int) : x.bd i = 0 := by simp [Ex.bd, bnd, h5, h6]
theorem bd_ne {x : Ex} {i : Int} (h : i ≠ 1) : x.bd i = 0 := by unfold Ex.bd bnd; rw [if_neg h]
theorem bd_five {x : Ex} (h : x.kind = 5) : x.bd 1 = x.bind := by unfold Ex.bd bnd; rw [if_pos rfl, if_pos h]
theorem bd_six {x : Ex} (h : x.kind = 6) : x.bd 1 = 1 := by unfold Ex.bd bnd; rw [if_pos rfl, if_neg (by omega), if_pos h]

/-- What a part of each kind has. -/
theorem ok_kind {x : Ex} {t : Nat} (h : x.ok t = true) :
    (x.kind = 0 ∧ (-32768 ≤ x.num ∧ x.num ≤ 32767)) ∨ (x.kind = 1 ∧ 0 ≤ x.num ∧ x.num.toNat < t) ∨ (x.kind = 2 ∧ (0 ≤ x.num ∧ x.num ≤ 7) ∧ x.kids.length ≤ 3) ∨
    (x.kind = 3 ∧ (0 ≤ x.num ∧ x.num ≤ 99) ∧ x.kids.length ≤ 3) ∨ (x.kind = 4 ∧ (0 ≤ x.num ∧ x.num ≤ 4) ∧ x.kids.length = 2) ∨
    (x.kind = 5 ∧ (0 ≤ x.num ∧ x.num ≤ 99) ∧ (0 ≤ x.bind ∧ x.bind ≤ 3) ∧ x.kids.length = 3) ∨ (x.kind = 6 ∧ x.kids.length = 2) ∨ (x.kind = 7) := by
  unfold Ex.ok okE at h
  repeat (split at h; · rename_i hk; have h' := of_decide_eq_true h; omega)
  cases h
theorem prm_in {op a b : Int} (ha : -32768 ≤ a ∧ a ≤ 32767) (hb : -32768 ≤ b ∧ b ≤ 32767) : -32768 ≤ prm op a b ∧ prm op a b ≤ 32767 := by
  have hw : ∀ x, -32768 ≤ wr x ∧ wr x ≤ 32767 := fun x => by unfold wr; omega
  unfold prm
  repeat' split
  all_goals first | exact hw _ | omega
theorem Oc.wf_giv {P : List Df} {s : Wdn} (h : (Tm.whole s).isSome = true) : (givO s).Wf P := by
  unfold givO
  cases hw : Tm.whole s with
  | none => rw [hw] at h; cases h
  | some y =>
    obtain ⟨k, x, ks⟩ := y
    obtain ⟨h1, h2, h3⟩ := whole_in hw
    simp only
    split
    · trivial
    split
    · rename_i hk; exact h1 hk
    split
    · rename_i hk
      refine ⟨(h2 hk).1, (h2 hk).2.1, by rw [List.length_map]; exact (h2 hk).2.2, ?_⟩
      intro p hp
      obtain ⟨s, hs, rfl⟩ := List.mem_map.1 hp
      exact Go.Proofs.YtjamknejllbmkaaGreatDoor.Wf.giv s (h3 s hs)
    · trivial
theorem ev_wf {P : List Df} (hP : pmay P = true) : ∀ (n f : Nat) (t : Th), Wf P t → (ev P n f t).1.Wf P ∧ (ev P n f t).2 ≤ f
  | n, f, .giv s, h => by
    cases h with
    | giv _ h => unfold ev; exact ⟨Oc.wf_giv h, Nat.le_refl _⟩
  | 0, f, .prt d a ls, h => by unfold ev; exact ⟨trivial, Nat.le_refl _⟩
  | n + 1, f, .prt d a ls, h => by
    obtain ⟨x, hx⟩ := h.part hP
    have IH := ev_wf hP n
    have hk := ok_kind hx.ok
    unfold ev
    split
    · exact ⟨trivial, by omega⟩
    rw [hx.ex]
    simp only
    split
    · rename_i e; exact ⟨by have : -32768 ≤ x.num ∧ x.num ≤ 32767 := by omega
                            exact this, by simp⟩
    split
    · split
      · exact ⟨trivial, by simp⟩
      · rename_i t ht
        obtain ⟨a1, a2⟩ := IH (f - 1) t (h.ls t (List.mem_of_getElem? ht))
        exact ⟨a1, by omega⟩
    split
    · rename_i e
      obtain ⟨_, _, df, q1, q2, _⟩ := hx.call e
      obtain ⟨a1, a2⟩ := IH (f - 1) _ (Wf.root hP q1 (ls := kidsT d ls x) (by unfold kidsT; rw [List.length_map]; exact q2) (hx.kidsW (bd_none (by omega) (by omega))))
      exact ⟨a1, by omega⟩
    split
    · rename_i e
      refine ⟨⟨by omega, by omega, by unfold kidsT; rw [List.length_map]; omega, hx.kidsW (bd_none (by omega) (by omega))⟩, by simp⟩
    split
    · rename_i e
      obtain ⟨a1, a2⟩ := IH (f - 1) (kidT d ls x 0) (hx.kidW (by omega) (bd_ne (by decide)))
      split
      · rename_i m f1 he
        rw [he] at a1 a2
        obtain ⟨b1, b2⟩ := IH f1 (kidT d ls x 1) (hx.kidW (by omega) (bd_none (by omega) (by omega) _))
        split
        · rename_i m2 f2 he2
          rw [he2] at b1 b2
          exact ⟨prm_in a1 b1, by simp only at a2 b2 ⊢; omega⟩
        · rename_i c2 p2 f2 he2
          rw [he2] at b2
          exact ⟨trivial, by simp only at a2 b2 ⊢; omega⟩
        · exact ⟨b1, by simp only at a2; omega⟩
      · rename_i c ps f1 he
        rw [he] at a2
        exact ⟨trivial, by simp only at a2 ⊢; omega⟩
      · exact ⟨a1, by omega⟩
    split
    · rename_i e
      obtain ⟨a1, a2⟩ := IH (f - 1) (kidT d ls x 0) (hx.kidW (by omega) (bd_ne (by decide)))
      split
      · rename_i m f1 he
        rw [he] at a2
        obtain ⟨b1, b2⟩ := IH f1 (kidT d ls x 2) (hx.kidW (by omega) (bd_ne (by decide)))
        exact ⟨b1, by simp only at a2; omega⟩
      · rename_i c ps f1 he
        rw [he] at a1 a2
        split
        · rename_i hc
          have e1 : x.kids[1]? = some (x.kids[1]'(by omega)) := List.getElem?_eq_getElem _
          obtain ⟨b1, b2⟩ := IH f1 (.prt d (x.kids[1]?.getD 0).toNat (ls ++ ps)) (by
            rw [e1]
            exact hx.wf 1 _ e1 ps (by rw [show ((1 : Nat) : Int) = 1 from rfl, bd_five e]; exact hc.2) a1.2.2.2)
          exact ⟨b1, by simp only at a2; omega⟩
        · obtain ⟨b1, b2⟩ := IH f1 (kidT d ls x 2) (hx.kidW (by omega) (bd_ne (by decide)))
          exact ⟨b1, by simp only at a2; omega⟩
      · exact ⟨a1, by omega⟩
    split
    · rename_i e
      have e1 : x.kids[1]? = some (x.kids[1]'(by omega)) := List.getElem?_eq_getElem _
      obtain ⟨b1, b2⟩ := IH (f - 1) (.prt d (x.kids[1]?.getD 0).toNat (ls ++ [kidT d ls x 0])) (by
        rw [e1]
        exact hx.wf 1 _ e1 [kidT d ls x 0] (by rw [show ((1 : Nat) : Int) = 1 from rfl, bd_six e]; rfl) (fun l hl => by rw [List.mem_singleton] at hl; subst hl; exact hx.kidW (by omega) (bd_ne (by decide))))
      exact ⟨b1, by omega⟩
    · exact ⟨trivial, by simp⟩

/-! What Head answers. -/
def txO : Oc → Wdn
  | .num m => (Tm.mk 1 m []).getD []
  | .con c ps => (Tm.mk 2 c (List.replicate ps.length [95])).getD []
  | .fail => [33]
  | _ => []
def erO : Oc → Int
  | .fuel => 901
  | .hole => 902
  | _ => 0
def callT (P : List Df) (d : Nat) (args : List Wdn) : Th := .prt d ((bodyAt P d).length - 1) (args.map .giv)
def askB (P : List Df) (fn : Int) (args : List Wdn) (fuel : Int) : Bool :=
  pmay P && decide (0 ≤ fn) && (match P[fn.toNat]? with
    | none => false
    | some d => decide ((args.length : Int) = d.params)) && args.all (fun s => (Tm.whole s).isSome) && decide (0 ≤ fuel ∧ fuel ≤ 400)
def hdO (P : List Df) (fn : Int) (args : List Wdn) (fuel : Int) : Oc := (ev P 400 fuel.toNat (callT P fn.toNat args)).1
def hdT (P : List Df) (fn : Int) (args : List Wdn) (fuel : Int) : Wdn := if askB P fn args fuel then txO (hdO P fn args fuel) else []
def hdE (P : List Df) (fn : Int) (args : List Wdn) (fuel : Int) : Int := if askB P fn args fuel then erO (hdO P fn args fuel) else 900
theorem ask_parts {P : List Df} {fn : Int} {args : List Wdn} {fuel : Int} (h : askB P fn args fuel = true) :
    pmay P = true ∧ 0 ≤ fn ∧ (∃ d, P[fn.toNat]? = some d ∧ (args.length : Int) = d.params) ∧ (∀ s ∈ args, (Tm.whole s).isSome = true) ∧ 0 ≤ fuel ∧ fuel ≤ 400 ∧ Wf P (callT P fn.toNat args) := by
  unfold askB at h
  simp only [Bool.and_eq_true, decide_eq_true_eq, List.all_eq_true] at h
  obtain ⟨⟨⟨⟨h1, h2⟩, h3⟩, h4⟩, h5⟩ := h
  cases hp : P[fn.toNat]? with
  | none => rw [hp] at h3; cases h3
  | some d =>
    rw [hp] at h3
    have h3 : (args.length : Int) = d.params := by simpa using h3
    refine ⟨h1, h2, ⟨d, rfl, h3⟩, h4, h5.1, h5.2, ?_⟩
    refine Wf.root h1 hp (by rw [List.length_map]; exact h3) ?_
    intro l hl
    obtain ⟨s, hs, rfl⟩ := List.mem_map.1 hl
    exact Wf.giv s (h4 s hs)
end Go.Proofs.YtjamknejllbmkaaGreatDoor

namespace Go.Proofs.YtjamknejllbmkaaGreatDoor
open Go
set_option linter.unusedVariables false

theorem ev_more (P : List Df) : ∀ (n f k : Nat) (t : Th) (o : Oc) (f1 : Nat), ev P n f t = (o, f1) → o ≠ .fuel → ev P n (f + k) t = (o, f1 + k)
  | n, f, k, .giv s, o, f1, h, ho => by
    unfold ev at h ⊢
    cases h; rfl
  | 0, f, k, .prt d a ls, o, f1, h, ho => by
    unfold ev at h
    cases h; exact absurd rfl ho
  | n + 1, f, k, .prt d a ls, o, f1, h, ho => by
    have IH := ev_more P n
    by_cases hf : f = 0
    · unfold ev at h
      rw [if_pos hf] at h
      cases h; exact absurd rfl ho
    unfold ev at h ⊢
    rw [if_neg hf] at h
    rw [if_neg (by omega)]
    have ef : f + k - 1 = f - 1 + k := by omega
    simp only [ef] at h ⊢
    generalize exAt P d a = x at *
    by_cases h0 : x.kind = 0
    · rw [if_pos h0] at h ⊢; cases h; rfl
    rw [if_neg h0] at h ⊢
    by_cases h1 : x.kind = 1
    · rw [if_pos h1] at h ⊢
      cases hl : ls[x.num.toNat]? with
      | none => rw [hl] at h; cases h; rfl
      | some t => rw [hl] at h; exact IH _ _ _ _ _ h ho
    rw [if_neg h1] at h ⊢
    by_cases h2 : x.kind = 2
    · rw [if_pos h2] at h ⊢; exact IH _ _ _ _ _ h ho
    rw [if_neg h2] at h ⊢
    by_cases h3 : x.kind = 3
    · rw [if_pos h3] at h ⊢; cases h; rfl
    rw [if_neg h3] at h ⊢
    by_cases h4 : x.kind = 4
    · rw [if_pos h4] at h ⊢
      rcases ha : ev P n (f - 1) (kidT d ls x 0) with ⟨oa, fa⟩
      rw [ha] at h
      have hk : ∀ (hh : oa ≠ .fuel), ev P n (f - 1 + k) (kidT d ls x 0) = (oa, fa + k) := fun hh => IH _ _ _ _ _ ha hh
      cases oa with
      | fuel => cases h; exact absurd rfl ho
      | hole => cases h; rw [hk (by intro e; cases e)]
      | fail => cases h; rw [hk (by intro e; cases e)]
      | con c ps => cases h; rw [hk (by intro e; cases e)]
      | num m =>
        rw [hk (by intro e; cases e)]
        simp only at h ⊢
        rcases hb : ev P n fa (kidT d ls x 1) with ⟨ob, fb⟩
        rw [hb] at h
        have hk2 : ∀ (hh : ob ≠ .fuel), ev P n (fa + k) (kidT d ls x 1) = (ob, fb + k) := fun hh => IH _ _ _ _ _ hb hh
        cases ob with
        | fuel => cases h; exact absurd rfl ho
        | hole => cases h; rw [hk2 (by intro e; cases e)]
        | fail => cases h; rw [hk2 (by intro e; cases e)]
        | con c ps => cases h; rw [hk2 (by intro e; cases e)]
        | num m => cases h; rw [hk2 (by intro e; cases e)]
    rw [if_neg h4] at h ⊢
    by_cases h5 : x.kind = 5
    · rw [if_pos h5] at h ⊢
      rcases ha : ev P n (f - 1) (kidT d ls x 0) with ⟨oa, fa⟩
      rw [ha] at h
      have hk : ∀ (hh : oa ≠ .fuel), ev P n (f - 1 + k) (kidT d ls x 0) = (oa, fa + k) := fun hh => IH _ _ _ _ _ ha hh
      cases oa with
      | fuel => cases h; exact absurd rfl ho
      | hole => cases h; rw [hk (by intro e; cases e)]
      | fail => cases h; rw [hk (by intro e; cases e)]
      | num m =>
        rw [hk (by intro e; cases e)]
        exact IH _ _ _ _ _ h ho
      | con c ps =>
        rw [hk (by intro e; cases e)]
        simp only at h ⊢
        split at h
        · rename_i hc; rw [if_pos hc]; exact IH _ _ _ _ _ h ho
        · rename_i hc; rw [if_neg hc]; exact IH _ _ _ _ _ h ho
    rw [if_neg h5] at h ⊢
    by_cases h6 : x.kind = 6
    · rw [if_pos h6] at h ⊢; exact IH _ _ _ _ _ h ho
    rw [if_neg h6] at h ⊢
    cases h; rfl

/-- The same but for what stands in the holes. -/
inductive Fil : Th → Th → Prop where
  | same (s : Wdn) : Fil (.giv s) (.giv s)
  | hole (s : Wdn) : Fil (.giv [95]) (.giv s)
  | prt (d a : Nat) (ls ms : List Th) (hl : ls.length = ms.length) (h : ∀ (i : Nat) (l m : Th), ls[i]? = some l → ms[i]? = some m → Fil l m) : Fil (.prt d a ls) (.prt d a ms)
def FilL (ls ms : List Th) : Prop := ls.length = ms.length ∧ ∀ (i : Nat) (l m : Th), ls[i]? = some l → ms[i]? = some m → Fil l m
/-- So too what comes of them. -/
def FilO : Oc → Oc → Prop
  | .hole, _ => True
  | .fuel, o => o = .fuel
  | .fail, o => o = .fail
  | .num m, o => o = .num m
  | .con c ps, o => ∃ qs, o = .con c qs ∧ FilL ps qs
theorem FilL.prt {ls ms : List Th} (h : FilL ls ms) (d a : Nat) : Fil (.prt d a ls) (.prt d a ms) := .prt d a ls ms h.1 h.2
theorem FilL.app {a b c d : List Th} (h : FilL a b) (k : FilL c d) : FilL (a ++ c) (b ++ d) := by
  refine ⟨by rw [List.length_append, List.length_append, h.1, k.1], fun i l m hl hm => ?_⟩
  by_cases hi : i < a.length
  · rw [List.getElem?_append_left hi] at hl
    rw [List.getElem?_append_left (by rw [← h.1]; exact hi)] at hm
    exact h.2 i l m hl hm
  · rw [List.getElem?_append_right (by omega)] at hl
    rw [List.getElem?_append_right (by rw [← h.1]; omega), ← h.1] at hm
    exact k.2 _ l m hl hm
theorem FilL.one {a b : Th} (h : Fil a b) : FilL [a] [b] := by
  refine ⟨rfl, fun i l m hl hm => ?_⟩
  cases i with
  | zero => simp at hl hm; subst hl; subst hm; exact h
  | succ i => simp at hl
theorem FilL.map (f g : Int → Th) (ks : List Int) (h : ∀ k, Fil (f k) (g k)) : FilL (ks.map f) (ks.map g) := by
  refine ⟨by simp, fun i l m hl hm => ?_⟩
  rw [List.getElem?_map] at hl hm
  cases hk : ks[i]? with
  | none => rw [hk] at hl; cases hl
  | some k => rw [hk] at hl hm; cases hl; cases hm; exact h k
theorem FilL.giv (ks : List Wdn) : FilL (ks.map .giv) (ks.map .giv) := by
  refine ⟨rfl, fun i l m hl hm => ?_⟩
  rw [hl] at hm
  cases hm
  rw [List.getElem?_map] at hl
  cases hk : ks[i]? with
  | none => rw [hk] at hl; cases hl
  | some k => rw [hk] at hl; cases hl; exact .same k
theorem whole_hole : Tm.whole [95] = some (0, 0, []) := by decide +kernel
theorem giv_hole : givO [95] = .hole := by unfold givO; rw [whole_hole]; rfl
theorem FilO.refl_giv (s : Wdn) : FilO (givO s) (givO s) := by
  unfold givO
  cases Tm.whole s with
  | none => rfl
  | some y =>
    obtain ⟨k, x, ks⟩ := y
    simp only
    repeat' split
    · trivial
    · rfl
    · exact ⟨_, rfl, FilL.giv ks⟩
    · rfl
/-- What comes of both: the same steps, unless a hole is touched. -/
def FilQ (a b : Oc × Nat) : Prop := a.1 = .hole ∨ (a.2 = b.2 ∧ FilO a.1 b.1)
theorem ev_fill (P : List Df) : ∀ (n f : Nat) (t u : Th), Fil t u → FilQ (ev P n f t) (ev P n f u)
  | n, f, _, _, .same s => by
    unfold ev
    exact Or.inr ⟨rfl, FilO.refl_giv s⟩
  | n, f, _, _, .hole s => by
    refine Or.inl ?_
    unfold ev
    exact giv_hole
  | 0, f, _, _, .prt d a ls ms hl h => by
    unfold ev
    exact Or.inr ⟨rfl, rfl⟩
  | n + 1, f, _, _, .prt d a ls ms hl h => by
    have IH := ev_fill P n
    have HL : FilL ls ms := ⟨hl, h⟩
    have hkid : ∀ i, Fil (kidT d ls (exAt P d a) i) (kidT d ms (exAt P d a) i) := fun i => HL.prt _ _
    have hkids : FilL (kidsT d ls (exAt P d a)) (kidsT d ms (exAt P d a)) := FilL.map _ _ _ fun k => HL.prt _ _
    unfold ev
    by_cases hf : f = 0
    · rw [if_pos hf, if_pos hf]; exact Or.inr ⟨rfl, rfl⟩
    rw [if_neg hf, if_neg hf]
    simp only
    generalize exAt P d a = x at *
    by_cases h0 : x.kind = 0
    · rw [if_pos h0, if_pos h0]; exact Or.inr ⟨rfl, rfl⟩
    rw [if_neg h0, if_neg h0]
    by_cases h1 : x.kind = 1
    · rw [if_pos h1, if_pos h1]
      cases hl1 : ls[x.num.toNat]? with
      | none =>
        have : ms[x.num.toNat]? = none := by
          rw [List.getElem?_eq_none_iff] at hl1 ⊢; omega
        rw [this]; exact Or.inr ⟨rfl, rfl⟩
      | some l =>
        have hlt := (List.getElem?_eq_some_iff.1 hl1).1
        have hm : ms[x.num.toNat]? = some (ms[x.num.toNat]'(by omega)) := List.getElem?_eq_getElem _
        rw [hm]
        exact IH _ _ _ (h _ _ _ hl1 hm)
    rw [if_neg h1, if_neg h1]
    by_cases h2 : x.kind = 2
    · rw [if_pos h2, if_pos h2]; exact IH _ _ _ (hkids.prt _ _)
    rw [if_neg h2, if_neg h2]
    by_cases h3 : x.kind = 3
    · rw [if_pos h3, if_pos h3]; exact Or.inr ⟨rfl, _, rfl, hkids⟩
    rw [if_neg h3, if_neg h3]
    by_cases h4 : x.kind = 4
    · rw [if_pos h4, if_pos h4]
      have hq := IH (f - 1) _ _ (hkid 0)
      rcases ha : ev P n (f - 1) (kidT d ls x 0) with ⟨oa, fa⟩
      rcases hb : ev P n (f - 1) (kidT d ms x 0) with ⟨ob, fb⟩
      rw [ha, hb] at hq
      rcases hq with hq | ⟨hq1, hq2⟩
      · simp only at hq; subst hq; exact Or.inl rfl
      · simp only at hq1 hq2
        subst hq1
        cases oa with
        | hole => exact Or.inl rfl
        | fuel => have e : ob = .fuel := hq2; subst e; exact Or.inr ⟨rfl, rfl⟩
        | fail => have e : ob = .fail := hq2; subst e; exact Or.inr ⟨rfl, rfl⟩
        | con c ps => obtain ⟨qs, rfl, _⟩ := hq2; exact Or.inr ⟨rfl, rfl⟩
        | num m =>
          have e : ob = .num m := hq2
          subst e
          simp only
          have hr := IH fa _ _ (hkid 1)
          rcases hc : ev P n fa (kidT d ls x 1) with ⟨oc, fc⟩
          rcases hd : ev P n fa (kidT d ms x 1) with ⟨od, fd⟩
          rw [hc, hd] at hr
          rcases hr with hr | ⟨hr1, hr2⟩
          · simp only at hr; subst hr; exact Or.inl rfl
          · simp only at hr1 hr2
            subst hr1
            cases oc with
            | hole => exact Or.inl rfl
            | fuel => have e : od = .fuel := hr2; subst e; exact Or.inr ⟨rfl, rfl⟩
            | fail => have e : od = .fail := hr2; subst e; exact Or.inr ⟨rfl, rfl⟩
            | con c ps => obtain ⟨qs, rfl, _⟩ := hr2; exact Or.inr ⟨rfl, rfl⟩
            | num k => have e : od = .num k := hr2; subst e; exact Or.inr ⟨rfl, rfl⟩
    rw [if_neg h4, if_neg h4]
    by_cases h5 : x.kind = 5
    · rw [if_pos h5, if_pos h5]
      have hq := IH (f - 1) _ _ (hkid 0)
      rcases ha : ev P n (f - 1) (kidT d ls x 0) with ⟨oa, fa⟩
      rcases hb : ev P n (f - 1) (kidT d ms x 0) with ⟨ob, fb⟩
      rw [ha, hb] at hq
      rcases hq with hq | ⟨hq1, hq2⟩
      · simp only at hq; subst hq; exact Or.inl rfl
      · simp only at hq1 hq2
        subst hq1
        cases oa with
        | hole => exact Or.inl rfl
        | fuel => have e : ob = .fuel := hq2; subst e; exact Or.inr ⟨rfl, rfl⟩
        | fail => have e : ob = .fail := hq2; subst e; exact Or.inr ⟨rfl, rfl⟩
        | num m => have e : ob = .num m := hq2; subst e; exact IH fa _ _ (hkid 2)
        | con c ps =>
          obtain ⟨qs, rfl, hp⟩ := hq2
          simp only
          have el : qs.length = ps.length := hp.1.symm
          rw [el]
          split
          · exact IH fa _ _ ((HL.app hp).prt _ _)
          · exact IH fa _ _ (hkid 2)
    rw [if_neg h5, if_neg h5]
    by_cases h6 : x.kind = 6
    · rw [if_pos h6, if_pos h6]; exact IH _ _ _ ((HL.app (FilL.one (hkid 0))).prt _ _)
    rw [if_neg h6, if_neg h6]
    exact Or.inr ⟨rfl, rfl⟩
theorem tx_fill {a b : Oc} (h : FilO a b) (hn : a ≠ .hole) : txO a = txO b ∧ erO a = erO b := by
  cases a with
  | hole => exact absurd rfl hn
  | fuel => have e : b = .fuel := h; subst e; exact ⟨rfl, rfl⟩
  | fail => have e : b = .fail := h; subst e; exact ⟨rfl, rfl⟩
  | num m => have e : b = .num m := h; subst e; exact ⟨rfl, rfl⟩
  | con c ps =>
    obtain ⟨qs, rfl, hp⟩ := h
    exact ⟨by show _ = (Tm.mk 2 c (List.replicate qs.length [95])).getD []; rw [← hp.1]; rfl, rfl⟩

/-! Head, with more fuel; with holes that are filled. -/
theorem hd_more {P : List Df} {fn : Int} {args : List Wdn} {a b : Int} (h0 : 0 ≤ a) (hab : a ≤ b) (hb : b ≤ 400) (h : hdE P fn args a ≠ 901) : hdT P fn args b = hdT P fn args a ∧ hdE P fn args b = hdE P fn args a := by
  have hq : askB P fn args b = askB P fn args a := by
    unfold askB
    have e1 : decide (0 ≤ b ∧ b ≤ 400) = true := by simp; omega
    have e2 : decide (0 ≤ a ∧ a ≤ 400) = true := by simp; omega
    rw [e1, e2]
  unfold hdT hdE at *
  rw [hq]
  by_cases hk : askB P fn args a = true
  · rw [if_pos hk] at h
    simp only [if_pos hk]
    have : hdO P fn args b = hdO P fn args a := by
      unfold hdO at *
      rcases he : ev P 400 a.toNat (callT P fn.toNat args) with ⟨o, f1⟩
      rw [he] at h
      have := ev_more P 400 a.toNat (b.toNat - a.toNat) _ o f1 he (by intro e; subst e; exact h rfl)
      rw [show a.toNat + (b.toNat - a.toNat) = b.toNat by omega] at this
      rw [this]
    rw [this]; exact ⟨rfl, rfl⟩
  · simp [if_neg hk]
def fillW (w : Wdn) (args : List Wdn) : List Wdn := args.map fun s => if s = [95] then w else s
theorem hd_fill {P : List Df} {fn : Int} {args : List Wdn} {a : Int} {w : Wdn} (hw : (Tm.whole w).isSome = true) (h : hdE P fn args a = 0) : hdT P fn (fillW w args) a = hdT P fn args a ∧ hdE P fn (fillW w args) a = 0 := by
  unfold hdT hdE at *
  by_cases hk : askB P fn args a = true
  · rw [if_pos hk] at h
    have hq : askB P fn (fillW w args) a = true := by
      unfold askB at hk ⊢
      simp only [Bool.and_eq_true, List.all_eq_true] at hk ⊢
      obtain ⟨⟨⟨⟨h1, h2⟩, h3⟩, h4⟩, h5⟩ := hk
      refine ⟨⟨⟨⟨h1, h2⟩, ?_⟩, ?_⟩, h5⟩
      · unfold fillW; rw [List.length_map]; exact h3
      · intro s hs
        unfold fillW at hs
        obtain ⟨u, hu, rfl⟩ := List.mem_map.1 hs
        split
        · exact hw
        · exact h4 u hu
    simp only [if_pos hk, if_pos hq]
    have hf : Fil (callT P fn.toNat args) (callT P fn.toNat (fillW w args)) := by
      unfold callT
      refine FilL.prt ⟨by unfold fillW; simp, fun i l m hl hm => ?_⟩ _ _
      unfold fillW at hm
      rw [List.map_map, List.getElem?_map] at hm
      rw [List.getElem?_map] at hl
      cases hs : args[i]? with
      | none => rw [hs] at hl; cases hl
      | some s =>
        rw [hs] at hl hm
        cases hl
        cases hm
        simp only [Function.comp]
        split
        · rename_i e; subst e; exact .hole w
        · exact .same s
    have hfq := ev_fill P 400 a.toNat _ _ hf
    have hne : hdO P fn args a ≠ .hole := by intro e; rw [e] at h; cases h
    unfold hdO at *
    rcases hfq with hfq | ⟨_, hfq⟩
    · exact absurd hfq hne
    · obtain ⟨e1, e2⟩ := tx_fill hfq hne
      rw [← e1, ← e2]; exact ⟨rfl, h⟩
  · rw [if_neg hk] at h; cases h
end Go.Proofs.YtjamknejllbmkaaGreatDoor

namespace Go.Proofs.YtjamknejllbmkaaGreatDoor
open Go
set_option linter.unusedVariables false
def ocK : Oc → Int
  | .num _ => 1
  | .con _ _ => 2
  | _ => 3
def ocN : Oc → Int
  | .num m => m
  | .con c _ => c
  | _ => 0
def ocP : Oc → List Th
  | .con _ ps => ps
  | _ => []
end Go.Proofs.YtjamknejllbmkaaGreatDoor
