/- Which one of two terms tells more, as plain functions over lists of bytes: the walk through both texts in one go (fl), the way through their parts (ls), that both say the same of whole terms, and that it is an order. Nothing of the program is named here. -/
import Derived.Test.YtcjpepbajcdenaaDoorPureTwo
namespace Go.Proofs.YtcjpepbajcdenaaDoor
open Go
set_option linter.unusedVariables false

/-- How many bytes the term at the front has, with so many brackets open: up to a blank or a closing bracket outside them all. -/
def bt : Nat → List UInt8 → Nat
  | _, [] => 0
  | o, c :: r => if o = 0 ∧ (c = 32 ∨ c = 41) then 0 else bt (if c = 40 then o + 1 else if c = 41 then o - 1 else o) r + 1

/-- Both texts in one go: a hole takes a term, every other byte itself. -/
def fl : List UInt8 → List UInt8 → Bool
  | [], b => b.isEmpty
  | c :: a, b => if c = 95 then fl a (b.drop (bt 0 b)) else match b with
    | [] => false
    | d :: b' => if c = d then fl a b' else false

/-- As many, and each of the first ones to its other one. -/
def pw (R : List UInt8 → List UInt8 → Bool) : List (List UInt8) → List (List UInt8) → Bool
  | [], [] => true
  | a :: r, b :: s => R a b && pw R r s
  | _, _ => false

/-- Through the parts, at most so deep. -/
def ls : Nat → List UInt8 → List UInt8 → Bool
  | 0, _, _ => false
  | f + 1, a, b => match whole a, whole b with
    | some (k, x, ks), some (m, y, ms) => decide (k = 0) || (decide (k = m) && decide (x = y) && pw (ls f) ks ms)
    | _, _ => false

/-- What may stand behind a term within another one, or nothing. -/
def cl (q : List UInt8) : Prop := ∀ c, q[0]? = some c → c = 32 ∨ c = 41
/-- What may stand behind a head, or nothing. -/
def cl0 (q : List UInt8) : Prop := ∀ c, q[0]? = some c → c = 32 ∨ c = 41 ∨ c = 40
/-- The bytes of heads. -/
def hb (c : UInt8) : Prop := c ≠ 32 ∧ c ≠ 41 ∧ c ≠ 40

theorem cl_nil : cl [] := fun c h => by simp at h
theorem cl_blank (q : List UInt8) : cl (32 :: q) := fun c h => by simp at h; exact Or.inl h.symm
theorem cl_shut (q : List UInt8) : cl (41 :: q) := fun c h => by simp at h; exact Or.inr h.symm
theorem cl.zero {q : List UInt8} (h : cl q) : cl0 q := fun c e => by rcases h c e with e | e; exact Or.inl e; exact Or.inr (Or.inl e)
theorem cl0_open (q : List UInt8) : cl0 (40 :: q) := fun c h => by simp at h; exact Or.inr (Or.inr h.symm)

theorem nc_hb {c : UInt8} (h : isNC c = true) : hb c := by
  refine ⟨?_, ?_, ?_⟩ <;> (intro e; subst e; simp [isNC] at h)
theorem nc_hole {c : UInt8} (h : isNC c = true) : c ≠ 95 := by intro e; subst e; simp [isNC] at h

/-- What a head looks like. -/
theorem head_cases {k x : Int} {hd : List UInt8} (h : head k x = some hd) :
    (k = 0 ∧ x = 0 ∧ hd = [95]) ∨ (k ≠ 0 ∧ ∀ c ∈ hd, c ≠ 95) := by
  unfold head at h
  by_cases k0 : k = 0
  · rw [if_pos k0] at h
    by_cases hx : x = 0
    · rw [if_pos hx] at h; exact Or.inl ⟨k0, hx, (Option.some.inj h).symm⟩
    · rw [if_neg hx] at h; cases h
  refine Or.inr ⟨k0, ?_⟩
  rw [if_neg k0] at h
  by_cases k3 : k = 3
  · rw [if_pos k3] at h
    by_cases hx : x = 0
    · rw [if_pos hx] at h; have e := Option.some.inj h; subst e; intro c hc; simp at hc; subst hc; decide
    · rw [if_neg hx] at h; cases h
  rw [if_neg k3] at h
  by_cases k1 : k = 1
  · rw [if_pos k1] at h
    by_cases hm : mayB x = true
    · rw [if_pos hm] at h; have e := Option.some.inj h; subst e; intro c hc; exact nc_hole (itoa_nc x c hc)
    · rw [if_neg hm] at h; cases h
  rw [if_neg k1] at h
  by_cases k2 : k = 2
  · rw [if_pos k2] at h
    by_cases hm : tagB x = true
    · rw [if_pos hm] at h; have e := Option.some.inj h; subst e; intro c hc
      rcases List.mem_cons.1 hc with e | e
      · subst e; decide
      · exact nc_hole (itoa_nc x c e)
    · rw [if_neg hm] at h; cases h
  rw [if_neg k2] at h; cases h

theorem head_hb {k x : Int} {hd : List UInt8} (h : head k x = some hd) : ∀ c ∈ hd, hb c := by
  unfold head at h
  by_cases k0 : k = 0
  · rw [if_pos k0] at h
    by_cases hx : x = 0
    · rw [if_pos hx] at h; have e := Option.some.inj h; subst e; intro c hc; simp at hc; subst hc; exact ⟨by decide, by decide, by decide⟩
    · rw [if_neg hx] at h; cases h
  rw [if_neg k0] at h
  by_cases k3 : k = 3
  · rw [if_pos k3] at h
    by_cases hx : x = 0
    · rw [if_pos hx] at h; have e := Option.some.inj h; subst e; intro c hc; simp at hc; subst hc; exact ⟨by decide, by decide, by decide⟩
    · rw [if_neg hx] at h; cases h
  rw [if_neg k3] at h
  by_cases k1 : k = 1
  · rw [if_pos k1] at h
    by_cases hm : mayB x = true
    · rw [if_pos hm] at h; have e := Option.some.inj h; subst e; intro c hc; exact nc_hb (itoa_nc x c hc)
    · rw [if_neg hm] at h; cases h
  rw [if_neg k1] at h
  by_cases k2 : k = 2
  · rw [if_pos k2] at h
    by_cases hm : tagB x = true
    · rw [if_pos hm] at h; have e := Option.some.inj h; subst e; intro c hc
      rcases List.mem_cons.1 hc with e | e
      · subst e; exact ⟨by decide, by decide, by decide⟩
      · exact nc_hb (itoa_nc x c e)
    · rw [if_neg hm] at h; cases h
  rw [if_neg k2] at h; cases h

/-- What is written is a head and the parts behind it. -/
theorem mk_cases {k x : Int} {ks : List (List UInt8)} {s : List UInt8} (h : mk k x ks = some s) : ∃ hd, head k x = some hd ∧ s = hd ++ tail ks ∧ behind k ks = true ∧ s.length ≤ 1024 := by
  unfold mk at h
  cases hh : head k x with
  | none => rw [hh] at h; cases h
  | some hd =>
    rw [hh] at h
    simp only at h
    by_cases hb : behind k ks = true
    · rw [if_pos hb] at h
      by_cases hl : (hd ++ tail ks).length ≤ 1024
      · rw [if_pos hl] at h
        have e := Option.some.inj h
        subst e
        exact ⟨hd, rfl, rfl, hb, hl⟩
      · rw [if_neg hl] at h; cases h
    · rw [if_neg hb] at h; cases h

theorem behind_nil (k : Int) : behind k [] = true := by unfold behind; simp

/-- A head tells its kind and its number. -/
theorem head_one_of {k x m y : Int} {hd hd' : List UInt8} (h : head k x = some hd) (h' : head m y = some hd') (l : hd.length ≤ 1024) : (hd == hd') = (decide (k = m) && decide (x = y)) := by
  by_cases e : hd = hd'
  · subst e
    have w1 : whole hd = some (k, x, []) := mkd_whole (by unfold mk; rw [h]; simp only; rw [behind_nil]; simp [tail]; exact l)
    have w2 : whole hd = some (m, y, []) := mkd_whole (by unfold mk; rw [h']; simp only; rw [behind_nil]; simp [tail]; exact l)
    rw [w1] at w2
    have e := Option.some.inj w2
    simp only [Prod.mk.injEq] at e
    obtain ⟨rfl, rfl, _⟩ := e
    simp
  · have : ¬ (k = m ∧ x = y) := by
      rintro ⟨rfl, rfl⟩
      rw [h] at h'
      exact e (Option.some.inj h')
    rw [beq_eq_false_iff_ne.2 e]
    symm
    rw [← Bool.decide_and]
    exact decide_eq_false this

theorem bt_head : ∀ (p q : List UInt8) (o : Nat), (∀ c ∈ p, hb c) → bt o (p ++ q) = p.length + bt o q
  | [], q, o, _ => by simp
  | c :: p, q, o, h => by
    obtain ⟨h1, h2, h3⟩ := h c (by simp)
    rw [List.cons_append, bt, if_neg (by rintro ⟨_, e | e⟩; exact h1 e; exact h2 e), if_neg h3, if_neg h2, bt_head p q o (fun d hd => h d (List.mem_cons_of_mem _ hd))]
    simp only [List.length_cons]; omega

theorem bt_open (q : List UInt8) (o : Nat) : bt o (40 :: q) = 1 + bt (o + 1) q := by
  rw [bt, if_neg (by rintro ⟨_, e | e⟩ <;> exact absurd e (by decide)), if_pos rfl]; omega
theorem bt_blank (q : List UInt8) (o : Nat) : bt (o + 1) (32 :: q) = 1 + bt (o + 1) q := by
  rw [bt, if_neg (by rintro ⟨e, _⟩; omega), if_neg (by decide), if_neg (by decide)]; omega
theorem bt_shut (q : List UInt8) (o : Nat) : bt (o + 1) (41 :: q) = 1 + bt o q := by
  rw [bt, if_neg (by rintro ⟨e, _⟩; omega), if_neg (by decide), if_pos rfl, Nat.add_sub_cancel]; omega
theorem bt_cl {q : List UInt8} (h : cl q) : bt 0 q = 0 := by
  cases q with
  | nil => rfl
  | cons c q => rw [bt, if_pos ⟨rfl, h c rfl⟩]

theorem bt_jn (o : Nat) (q : List UInt8) : ∀ (ks : List (List UInt8)), ks ≠ [] → (∀ k ∈ ks, ∀ o q, bt o (k ++ q) = k.length + bt o q) → bt (o + 1) (jn ks ++ 41 :: q) = (jn ks).length + 1 + bt o q
  | [], h, _ => absurd rfl h
  | [a], _, h => by
    simp only [jn]; rw [h a (by simp), bt_shut]; omega
  | a :: b :: r, _, h => by
    simp only [jn]
    rw [List.append_assoc, h a (by simp), List.cons_append, bt_blank, bt_jn o q (b :: r) (by simp) (fun k hk => h k (List.mem_cons_of_mem _ hk))]
    simp only [List.length_append, List.length_cons]; omega

/-- A term's bytes are counted whole. -/
theorem bt_whole : ∀ (n : Nat) (s : List UInt8), s.length < n → (whole s).isSome = true → ∀ o q, bt o (s ++ q) = s.length + bt o q
  | 0, s, h, _ => by omega
  | n + 1, s, hn, hw => by
    intro o q
    obtain ⟨⟨k, x, ks⟩, hy⟩ := Option.isSome_iff_exists.1 hw
    obtain ⟨hd, hh, e, _, _⟩ := mk_cases (whole_mkd hy)
    have hp := (whole_parts hy).1
    by_cases hk : ks = []
    · rw [hk] at e
      simp only [tail, if_true, List.append_nil] at e
      rw [e]; exact bt_head hd q o (head_hb hh)
    · simp only [tail, if_neg hk] at e
      have hj := bt_jn o q ks hk (fun k hk => bt_whole n k (by have := (hp k hk).2; omega) (hp k hk).1)
      rw [e, List.append_assoc, bt_head hd _ o (head_hb hh), List.cons_append, bt_open, List.append_assoc, List.singleton_append, hj]
      simp only [List.length_append, List.length_cons, List.length_nil]; omega

theorem fl_hole (a b : List UInt8) : fl (95 :: a) b = fl a (b.drop (bt 0 b)) := by rw [fl.eq_def]; simp
theorem fl_same {c : UInt8} (h : c ≠ 95) (a b : List UInt8) : fl (c :: a) (c :: b) = fl a b := by rw [fl, if_neg h]; simp
theorem fl_other {c d : UInt8} (h : c ≠ 95) (hd : c ≠ d) (a b : List UInt8) : fl (c :: a) (d :: b) = false := by rw [fl, if_neg h]; simp [hd]
theorem fl_end {c : UInt8} (h : c ≠ 95) (a : List UInt8) : fl (c :: a) [] = false := by simp [fl, h]
theorem fl_nil (d : UInt8) (b : List UInt8) : fl [] (d :: b) = false := rfl

/-- Heads must be the same. -/
theorem fl_head : ∀ (p p' r r' : List UInt8), (∀ c ∈ p, hb c) → (∀ c ∈ p, c ≠ 95) → (∀ c ∈ p', hb c) → cl0 r → cl0 r' → fl (p ++ r) (p' ++ r') = ((p == p') && fl r r')
  | [], [], r, r', _, _, _, _, _ => by simp
  | [], d :: p', r, r', _, _, h, hr, _ => by
    obtain ⟨h1, h2, h3⟩ := h d (by simp)
    cases r with
    | nil => simp [fl]
    | cons c r =>
      have hc : c ≠ 95 ∧ c ≠ d := by
        rcases hr c rfl with e | e | e <;> (subst e; refine ⟨by decide, fun e => ?_⟩; subst e; first | exact h1 rfl | exact h2 rfl | exact h3 rfl)
      rw [List.nil_append, List.cons_append, fl_other hc.1 hc.2]; simp
  | c :: p, [], r, r', h, hn, _, _, hr => by
    obtain ⟨h1, h2, h3⟩ := h c (by simp)
    have hc := hn c (by simp)
    cases r' with
    | nil => rw [List.cons_append, List.nil_append, fl_end hc]; simp
    | cons d r' =>
      have hd : c ≠ d := by
        rcases hr d rfl with e | e | e <;> (subst e; assumption)
      rw [List.cons_append, List.nil_append, fl_other hc hd]; simp
  | c :: p, d :: p', r, r', h, hn, h', hr, hr' => by
    have hc := hn c (by simp)
    by_cases e : c = d
    · subst e
      rw [List.cons_append, List.cons_append, fl_same hc, fl_head p p' r r' (fun x hx => h x (List.mem_cons_of_mem _ hx)) (fun x hx => hn x (List.mem_cons_of_mem _ hx)) (fun x hx => h' x (List.mem_cons_of_mem _ hx)) hr hr']
      simp
    · rw [List.cons_append, List.cons_append, fl_other hc e]
      simp [e]

/-- Parts by parts. -/
theorem fl_jn {R : List UInt8 → List UInt8 → Bool} (q q' : List UInt8) : ∀ (ks ms : List (List UInt8)), ks ≠ [] → ms ≠ [] →
    (∀ a ∈ ks, ∀ b ∈ ms, ∀ q q', cl q → cl q' → fl (a ++ q) (b ++ q') = (R a b && fl q q')) → fl (jn ks ++ 41 :: q) (jn ms ++ 41 :: q') = (pw R ks ms && fl q q')
  | [], _, h, _, _ => absurd rfl h
  | _, [], _, h, _ => absurd rfl h
  | [a], [b], _, _, h => by
    simp only [jn]
    rw [h a (by simp) b (by simp) _ _ (cl_shut _) (cl_shut _), fl_same (by decide)]
    simp [pw]
  | [a], b :: b2 :: r, _, _, h => by
    simp only [jn]
    rw [List.append_assoc, List.cons_append, h a (by simp) b (by simp) _ _ (cl_shut _) (cl_blank _), fl_other (by decide) (by decide)]
    simp [pw]
  | a :: a2 :: r, [b], _, _, h => by
    simp only [jn]
    rw [List.append_assoc, List.cons_append, h a (by simp) b (by simp) _ _ (cl_blank _) (cl_shut _), fl_other (by decide) (by decide)]
    simp [pw]
  | a :: a2 :: r, b :: b2 :: r', _, _, h => by
    simp only [jn]
    rw [List.append_assoc, List.append_assoc, List.cons_append, List.cons_append, h a (by simp) b (by simp) _ _ (cl_blank _) (cl_blank _), fl_same (by decide),
      fl_jn q q' (a2 :: r) (b2 :: r') (by simp) (by simp) (fun x hx y hy => h x (List.mem_cons_of_mem _ hx) y (List.mem_cons_of_mem _ hy))]
    rw [show pw R (a :: a2 :: r) (b :: b2 :: r') = (R a b && pw R (a2 :: r) (b2 :: r')) from rfl, Bool.and_assoc]

theorem ls_some {f : Nat} {a b : List UInt8} {k x m y : Int} {ks ms : List (List UInt8)} (ha : whole a = some (k, x, ks)) (hb : whole b = some (m, y, ms)) :
    ls (f + 1) a b = (decide (k = 0) || (decide (k = m) && decide (x = y) && pw (ls f) ks ms)) := by rw [ls, ha, hb]

/-- The walk in one go and the way through the parts say the same. -/
theorem fl_ls : ∀ (f : Nat) (a b q q' : List UInt8), a.length < f → (whole a).isSome = true → (whole b).isSome = true → cl q → cl q' → fl (a ++ q) (b ++ q') = (ls f a b && fl q q')
  | 0, a, _, _, _, h, _, _, _, _ => by omega
  | f + 1, a, b, q, q', hn, ha, hb, hq, hq' => by
    obtain ⟨⟨k, x, ks⟩, hya⟩ := Option.isSome_iff_exists.1 ha
    obtain ⟨⟨m, y, ms⟩, hyb⟩ := Option.isSome_iff_exists.1 hb
    rw [ls_some hya hyb]
    obtain ⟨hd, hh, e, _, _⟩ := mk_cases (whole_mkd hya)
    obtain ⟨hd', hh', e', _, hl'⟩ := mk_cases (whole_mkd hyb)
    have hp := whole_parts hya
    have hp' := (whole_parts hyb).1
    rcases head_cases hh with ⟨rfl, rfl, rfl⟩ | ⟨k0, hno⟩
    · have hk : ks = [] := by rcases hp.2.1 with h | h; exact absurd h (by decide); exact h
      subst hk
      simp only [tail, if_true, List.append_nil] at e
      subst e
      rw [List.singleton_append, fl_hole, bt_whole _ b (Nat.lt_succ_self _) hb, bt_cl hq', Nat.add_zero, List.drop_left]
      simp
    · have hlen : hd.length ≤ 1024 := by
        have := (whole_some hya).1
        rw [e] at this; simp at this; omega
      rw [decide_eq_false k0, Bool.false_or, ← head_one_of hh hh' hlen]
      have ht : cl0 (tail ks ++ q) := by
        unfold tail
        by_cases hk : ks = []
        · rw [if_pos hk]; exact hq.zero
        · rw [if_neg hk]; exact cl0_open _
      have ht' : cl0 (tail ms ++ q') := by
        unfold tail
        by_cases hk : ms = []
        · rw [if_pos hk]; exact hq'.zero
        · rw [if_neg hk]; exact cl0_open _
      conv => lhs; rw [e, e', List.append_assoc, List.append_assoc]
      rw [fl_head hd hd' _ _ (head_hb hh) hno (head_hb hh') ht ht', Bool.and_assoc]
      congr 1
      unfold tail
      by_cases hk : ks = []
      · by_cases hm : ms = []
        · subst hk; subst hm; simp [pw]
        · rw [if_pos hk, if_neg hm]
          obtain ⟨b1, r1, rfl⟩ := List.exists_cons_of_ne_nil hm
          subst hk
          cases q with
          | nil => simp [fl, pw]
          | cons c q =>
            have hc : c ≠ 95 ∧ c ≠ 40 := by
              rcases hq c rfl with e | e <;> (subst e; exact ⟨by decide, by decide⟩)
            rw [List.nil_append, List.cons_append, fl_other hc.1 hc.2]; simp [pw]
      · by_cases hm : ms = []
        · rw [if_neg hk, if_pos hm]
          obtain ⟨b1, r1, rfl⟩ := List.exists_cons_of_ne_nil hk
          subst hm
          cases q' with
          | nil => rw [List.cons_append, List.nil_append, fl_end (by decide)]; simp [pw]
          | cons c q' =>
            have hc : (40 : UInt8) ≠ c := by
              rcases hq' c rfl with e | e <;> (subst e; decide)
            rw [List.nil_append, List.cons_append, fl_other (by decide) hc]; simp [pw]
        · rw [if_neg hk, if_neg hm]
          rw [List.cons_append, List.cons_append, fl_same (by decide), List.append_assoc, List.append_assoc, List.singleton_append, List.singleton_append]
          refine fl_jn q q' ks ms hk hm (fun a1 h1 b1 h2 q1 q2 hq1 hq2 => ?_)
          exact fl_ls f a1 b1 q1 q2 (by have := (hp.1 a1 h1).2; omega) (hp.1 a1 h1).1 (hp' b1 h2).1 hq1 hq2

theorem fl_ls' {f : Nat} {a b : List UInt8} (hn : a.length < f) (ha : (whole a).isSome = true) (hb : (whole b).isSome = true) : fl a b = ls f a b := by
  have := fl_ls f a b [] [] hn ha hb cl_nil cl_nil
  simpa [fl] using this

theorem pw_congr {R R' : List UInt8 → List UInt8 → Bool} : ∀ (ks ms : List (List UInt8)), (∀ a ∈ ks, ∀ b ∈ ms, R a b = R' a b) → pw R ks ms = pw R' ks ms
  | [], [], _ => rfl
  | [], b :: r, _ => rfl
  | a :: r, [], _ => rfl
  | a :: r, b :: s, h => by
    rw [pw, pw, h a (by simp) b (by simp), pw_congr r s (fun x hx y hy => h x (List.mem_cons_of_mem _ hx) y (List.mem_cons_of_mem _ hy))]

/-- Of two whole terms: by their kinds, numbers and parts. -/
theorem fl_parts {a b : List UInt8} {k x m y : Int} {ks ms : List (List UInt8)} (ha : whole a = some (k, x, ks)) (hb : whole b = some (m, y, ms)) :
    fl a b = (decide (k = 0) || (decide (k = m) && decide (x = y) && pw fl ks ms)) := by
  have hp := (whole_parts ha).1
  have hp' := (whole_parts hb).1
  rw [fl_ls' (f := a.length + 1) (by omega) (by rw [ha]; rfl) (by rw [hb]; rfl), ls_some ha hb]
  rw [pw_congr ks ms (fun a1 h1 b1 h2 => (fl_ls' (hp a1 h1).2 (hp a1 h1).1 (hp' b1 h2).1).symm)]

theorem pw_refl {R : List UInt8 → List UInt8 → Bool} : ∀ (ks : List (List UInt8)), (∀ a ∈ ks, R a a = true) → pw R ks ks = true
  | [], _ => rfl
  | a :: r, h => by rw [pw, h a (by simp), pw_refl r (fun x hx => h x (List.mem_cons_of_mem _ hx))]; rfl

/-- Below itself. -/
theorem fl_refl : ∀ (n : Nat) (a : List UInt8), a.length < n → (whole a).isSome = true → fl a a = true
  | 0, a, h, _ => by omega
  | n + 1, a, hn, ha => by
    obtain ⟨⟨k, x, ks⟩, hy⟩ := Option.isSome_iff_exists.1 ha
    have hp := (whole_parts hy).1
    rw [fl_parts hy hy, pw_refl ks (fun s hs => fl_refl n s (by have := (hp s hs).2; omega) (hp s hs).1)]
    simp

theorem pw_trans {R : List UInt8 → List UInt8 → Bool} : ∀ (ks ms ns : List (List UInt8)), (∀ a ∈ ks, ∀ b ∈ ms, ∀ c ∈ ns, R a b = true → R b c = true → R a c = true) → pw R ks ms = true → pw R ms ns = true → pw R ks ns = true
  | [], [], [], _, _, _ => rfl
  | [], [], c :: t, _, _, h => by cases h
  | [], b :: s, _, _, h, _ => by cases h
  | a :: r, [], _, _, h, _ => by cases h
  | a :: r, b :: s, [], _, _, h => by cases h
  | a :: r, b :: s, c :: t, h, h1, h2 => by
    rw [pw, Bool.and_eq_true] at h1 h2 ⊢
    exact ⟨h a (by simp) b (by simp) c (by simp) h1.1 h2.1, pw_trans r s t (fun x hx y hy z hz => h x (List.mem_cons_of_mem _ hx) y (List.mem_cons_of_mem _ hy) z (List.mem_cons_of_mem _ hz)) h1.2 h2.2⟩

/-- Of three it goes on. -/
theorem fl_trans : ∀ (n : Nat) (a b c : List UInt8), a.length < n → (whole a).isSome = true → (whole b).isSome = true → (whole c).isSome = true → fl a b = true → fl b c = true → fl a c = true
  | 0, a, _, _, h, _, _, _, _, _ => by omega
  | n + 1, a, b, c, hn, ha, hb, hc, h1, h2 => by
    obtain ⟨⟨k, x, ks⟩, hya⟩ := Option.isSome_iff_exists.1 ha
    obtain ⟨⟨m, y, ms⟩, hyb⟩ := Option.isSome_iff_exists.1 hb
    obtain ⟨⟨o, z, os⟩, hyc⟩ := Option.isSome_iff_exists.1 hc
    have hp := (whole_parts hya).1
    have hpb := (whole_parts hyb).1
    have hpc := (whole_parts hyc).1
    rw [fl_parts hya hyb] at h1
    rw [fl_parts hyb hyc] at h2
    rw [fl_parts hya hyc]
    simp only [Bool.or_eq_true, Bool.and_eq_true, decide_eq_true_eq] at h1 h2 ⊢
    rcases h1 with h1 | ⟨⟨rfl, rfl⟩, h1⟩
    · exact Or.inl h1
    rcases h2 with h2 | ⟨⟨rfl, rfl⟩, h2⟩
    · exact Or.inl h2
    · exact Or.inr ⟨⟨rfl, rfl⟩, pw_trans ks ms os (fun a1 q1 b1 q2 c1 q3 => fl_trans n a1 b1 c1 (by have := (hp a1 q1).2; omega) (hp a1 q1).1 (hpb b1 q2).1 (hpc c1 q3).1) h1 h2⟩

theorem pw_anti {R : List UInt8 → List UInt8 → Bool} : ∀ (ks ms : List (List UInt8)), (∀ a ∈ ks, ∀ b ∈ ms, R a b = true → R b a = true → a = b) → pw R ks ms = true → pw R ms ks = true → ks = ms
  | [], [], _, _, _ => rfl
  | [], b :: s, _, h, _ => by cases h
  | a :: r, [], _, h, _ => by cases h
  | a :: r, b :: s, h, h1, h2 => by
    rw [pw, Bool.and_eq_true] at h1 h2
    rw [h a (by simp) b (by simp) h1.1 h2.1, pw_anti r s (fun x hx y hy => h x (List.mem_cons_of_mem _ hx) y (List.mem_cons_of_mem _ hy)) h1.2 h2.2]

/-- A term whose kind is a hole's is the hole. -/
theorem whole_hole {a : List UInt8} {x : Int} {ks : List (List UInt8)} (h : whole a = some (0, x, ks)) : x = 0 ∧ ks = [] ∧ a = [95] := by
  obtain ⟨hd, hh, e, _, _⟩ := mk_cases (whole_mkd h)
  have hk : ks = [] := by rcases (whole_parts h).2.1 with h | h; exact absurd h (by decide); exact h
  subst hk
  rcases head_cases hh with ⟨_, rfl, rfl⟩ | ⟨h0, _⟩
  · exact ⟨rfl, rfl, by simpa [tail] using e⟩
  · exact absurd rfl h0

/-- Two that are below each other are one. -/
theorem fl_anti : ∀ (n : Nat) (a b : List UInt8), a.length < n → (whole a).isSome = true → (whole b).isSome = true → fl a b = true → fl b a = true → a = b
  | 0, a, _, h, _, _, _, _ => by omega
  | n + 1, a, b, hn, ha, hb, h1, h2 => by
    obtain ⟨⟨k, x, ks⟩, hya⟩ := Option.isSome_iff_exists.1 ha
    obtain ⟨⟨m, y, ms⟩, hyb⟩ := Option.isSome_iff_exists.1 hb
    have hp := (whole_parts hya).1
    have hpb := (whole_parts hyb).1
    rw [fl_parts hya hyb] at h1
    rw [fl_parts hyb hya] at h2
    simp only [Bool.or_eq_true, Bool.and_eq_true, decide_eq_true_eq] at h1 h2
    have fin : k = m → x = y → ks = ms → a = b := by
      rintro rfl rfl rfl
      have e1 := whole_mkd hya
      have e2 := whole_mkd hyb
      rw [e1] at e2
      exact Option.some.inj e2
    rcases h1 with h1 | ⟨⟨e1, e2⟩, h1⟩
    · subst h1
      rcases h2 with h2 | ⟨⟨e1, e2⟩, h2⟩
      · subst h2
        rw [(whole_hole hya).2.2, (whole_hole hyb).2.2]
      · subst e1; rw [(whole_hole hya).2.2, (whole_hole hyb).2.2]
    · rcases h2 with h2 | ⟨_, h2⟩
      · subst h2; subst e1; rw [(whole_hole hya).2.2, (whole_hole hyb).2.2]
      · exact fin e1 e2 (pw_anti ks ms (fun a1 q1 b1 q2 => fl_anti n a1 b1 (by have := (hp a1 q1).2; omega) (hp a1 q1).1 (hpb b1 q2).1) h1 h2)

theorem whole_of_hole : whole [95] = some (0, 0, []) := by decide +kernel

/-- A hole is below all; only a hole is below a hole. -/
theorem fl_of_hole (b : List UInt8) (hb : (whole b).isSome = true) : fl [95] b = true := by
  obtain ⟨⟨m, y, ms⟩, hyb⟩ := Option.isSome_iff_exists.1 hb
  rw [fl_parts whole_of_hole hyb]; simp
theorem fl_to_hole (a : List UInt8) (ha : (whole a).isSome = true) : fl a [95] = decide (a = [95]) := by
  by_cases e : a = [95]
  · subst e; rw [decide_eq_true rfl]; exact fl_of_hole _ (by rw [whole_of_hole]; rfl)
  · rw [decide_eq_false e]
    cases h : fl a [95] with
    | false => rfl
    | true => exact absurd (fl_anti _ a [95] (Nat.lt_succ_self _) ha (by rw [whole_of_hole]; rfl) h (fl_of_hole a ha)) e
end Go.Proofs.YtcjpepbajcdenaaDoor
