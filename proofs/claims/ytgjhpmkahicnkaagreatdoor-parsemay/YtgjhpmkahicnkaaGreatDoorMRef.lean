/- What the reference's reader hands back, said for each depth; what its digits mean there; its smallest contracts. · The contract of the reference's term, one level deeper, out of its parts'. · The reference's term at a constructor; and the whole step. · The contract of the reference's parts out of its term's. · The contracts of the reference's Cut and TermMay: they hand back what package term's do. · The contract of the references' Decimal, at the numbers that may be. · The contracts of the reference's Join and same: the texts joined by blanks, and whether two lists of texts are the same. -/
import Derived.Test.YtgjhpmkahicnkaaGreatDoorMTerm
import Derived.Deep.AppendLies
import Derived.Deep.RegionLaw
import Derived.Laws.AppendOwnNone
import Derived.Laws.IdiomStrings

namespace Go.Proofs.YtgjhpmkahicnkaaGreatDoor.Tm
open Go.RowKit
set_option linter.unusedVariables false

/-- A digit or a sign stands there. -/
def NcAt (s : ByteArray) (n : Nat) : Prop := ∃ c, s.data.toList[n]? = some c ∧ isNC c = true

/-- What the reference's reader hands back. -/
def GotR (s : ByteArray) (a B : Nat) (w : World) (o : Option Rd) (k x : Int) (v : Value) (to : Int) : Prop :=
  match o with
  | none => to = -1 ∨ ∃ n : Nat, to = (n : Int) ∧ a ≤ n ∧ NcAt s n
  | some (k', x', ks, n) => k = k' ∧ x = x' ∧ to = (a : Int) + (n : Int) ∧ w.ownsRow B 9 1 v ks.length (ks.map S)
def GotRP (s : ByteArray) (a B : Nat) (w : World) (o : Option (List (List UInt8) × Nat)) (k0 x0 k x : Int) (v : Value) (to : Int) : Prop :=
  match o with
  | none => to = -1
  | some (ks, n) => k = k0 ∧ x = x0 ∧ to = (a : Int) + (n : Int) ∧ w.ownsRow B 9 1 v ks.length (ks.map S)

theorem fr_run (s : ByteArray) (a : Nat) : numPart (fr s a) = run s a := rfl
theorem tag_of {x : Nat} (h : x ≤ 99) : tagB (x : Int) = true := by unfold tagB; simp only [Bool.and_eq_true, decide_eq_true_eq]; omega
theorem tag_not {v : Int} (h : v < 0 ∨ 99 < v) : tagB v = false := by unfold tagB; simp only [Bool.and_eq_false_iff, decide_eq_false_iff_not]; omega
theorem may_range {v : Int} (h : mayB v = true) : -32768 ≤ v ∧ v ≤ 32767 := by unfold mayB at h; simpa using h
theorem may_out {v : Int} (h : mayB v = false) : v < -32768 ∨ 32767 < v := by unfold mayB at h; simp only [Bool.and_eq_false_iff, decide_eq_false_iff_not] at h; omega
theorem may_not {v : Int} (h : v < -32768 ∨ 32767 < v) : mayB v = false := by unfold mayB; simp only [Bool.and_eq_false_iff, decide_eq_false_iff_not]; omega

theorem r_con_bad {f : Nat} {s : ByteArray} {a x k : Nat} (h : DigQ (fr s (a + 1)) x k) (hb : k = 0 ∨ 99 < x) : conT (T f) (fr s (a + 1)) = none := by
  refine con_eq_none f s a (fun v hv => ?_)
  rw [← fr_run] at hv
  by_cases hk : k = 0
  · subst hk; exact tag_not (Or.inl (dig_none h v hv))
  · have := dig_least h hk v hv
    exact tag_not (Or.inr (by omega))
theorem r_con_ok {f : Nat} {s : ByteArray} {a x k : Nat} (h : DigQ (fr s (a + 1)) x k) (hk : k ≠ 0) (hx : x ≤ 99) :
    ((run s (a + 1)).length = k ∧ canon (run s (a + 1)) = some (x : Int)) ∨ (conT (T f) (fr s (a + 1)) = none ∧ NcAt s (a + 1 + k)) := by
  rcases dig_small h hk (by omega) with ⟨h1, h2⟩ | ⟨h1, c, h2, h3⟩
  · exact Or.inl ⟨h1, h2⟩
  · refine Or.inr ⟨con_eq_none f s a (fun v hv => ?_), c, by rw [← fr_at]; exact h2, h3⟩
    rw [← fr_run, h1] at hv; cases hv

theorem num_none_of {s : ByteArray} {a : Nat} (h : ∀ v, canon (run s a) = some v → mayB v = false) : numT (fr s a) = none := num_is_none s a h

theorem fr_minus {s : ByteArray} {a : Nat} (h : s.data.toList[a]? = some 45) : fr s a = 45 :: fr s (a + 1) := by
  unfold fr
  have hlt := lt_of_at h
  rw [List.drop_eq_getElem_cons hlt]
  congr 1
  rw [List.getElem?_eq_getElem hlt] at h
  exact Option.some.inj h

theorem r_minus_bad {s : ByteArray} {a x k : Nat} (h0 : s.data.toList[a]? = some 45) (h : DigQ (fr s (a + 1)) x k) (hb : k = 0 ∨ x = 0 ∨ mayB (-(x : Int)) = false) : numT (fr s a) = none := by
  refine num_none_of (fun v hv => ?_)
  rw [← fr_run, fr_minus h0] at hv
  by_cases hk : k = 0
  · subst hk; rw [minus_none h] at hv; cases hv
  · obtain ⟨m1, m2⟩ := minus_some h hk
    by_cases hx : x = 0
    · rw [m1 hx] at hv; cases hv
    · rcases hb with e | e | e
      · exact absurd e hk
      · exact absurd e hx
      · rw [m2 hx] at hv
        cases hc : canon (numPart (fr s (a + 1))) with
        | none => rw [hc] at hv; cases hv
        | some u =>
          rw [hc] at hv
          have e2 : -u = v := Option.some.inj hv
          have := dig_least h hk u hc
          have := may_out e
          exact may_not (by omega)
theorem r_minus_ok {s : ByteArray} {a x k : Nat} (h0 : s.data.toList[a]? = some 45) (h : DigQ (fr s (a + 1)) x k) (hk : k ≠ 0) (hx : x ≠ 0) (hm : mayB (-(x : Int)) = true) :
    numT (fr s a) = some (1, -(x : Int), [], 1 + k) ∨ (numT (fr s a) = none ∧ NcAt s (a + 1 + k)) := by
  have hr := may_range hm
  have hcs := (minus_some h hk).2 hx
  rcases dig_small h hk (by omega) with ⟨h1, h2⟩ | ⟨h1, c, h2, h3⟩
  · left
    rw [h2] at hcs
    unfold numT
    rw [fr_minus h0, hcs]
    simp only [Option.map_some]
    rw [if_pos hm, minus_part, List.length_cons, h1, Nat.add_comm]
  · right
    rw [h1] at hcs
    refine ⟨?_, c, by rw [← fr_at]; exact h2, h3⟩
    unfold numT; rw [fr_minus h0, hcs]; rfl

theorem r_num_bad {s : ByteArray} {a x k : Nat} (h0 : s.data.toList[a]? ≠ some 45) (h : DigQ (fr s a) x k) (hb : k = 0 ∨ mayB (x : Int) = false) : numT (fr s a) = none := by
  refine num_none_of (fun v hv => ?_)
  rw [← fr_run] at hv
  by_cases hk : k = 0
  · subst hk
    have hneg := dig_none h v hv
    exfalso
    cases hl : fr s a with
    | nil => rw [hl] at hv; cases hv
    | cons c l' =>
      have hc : c ≠ 45 := by
        intro e
        refine h0 ?_
        rw [← fr_zero, hl, e]; rfl
      rw [hl] at hv
      by_cases hn : isNC c = true
      · have hdg : isDg c = true := by
          unfold isNC at hn; unfold isDg
          simp only [Bool.or_eq_true, beq_iff_eq] at hn
          rcases hn with e | e
          · exact absurd e hc
          · exact e
        unfold numPart at hv
        rw [List.takeWhile_cons, if_pos hn] at hv
        obtain ⟨m, rfl, _⟩ := canon_dg hdg hv
        omega
      · unfold numPart at hv
        rw [List.takeWhile_cons, if_neg hn] at hv; cases hv
  · rcases hb with e | e
    · exact absurd e hk
    · have := dig_least h hk v hv
      have := may_out e
      exact may_not (by omega)
theorem r_num_ok {s : ByteArray} {a x k : Nat} (h : DigQ (fr s a) x k) (hk : k ≠ 0) (hm : mayB (x : Int) = true) :
    numT (fr s a) = some (1, (x : Int), [], k) ∨ (numT (fr s a) = none ∧ NcAt s (a + k)) := by
  have hr := may_range hm
  rcases dig_small h hk (by omega) with ⟨h1, h2⟩ | ⟨h1, c, h2, h3⟩
  · left
    unfold numT; rw [h2]; simp only; rw [if_pos hm, h1]
  · right
    refine ⟨?_, c, by rw [← fr_at]; exact h2, h3⟩
    unfold numT; rw [h1]

/-- From a least to a most? -/
def uptoB (x l m : Int) : Bool := decide (l ≤ x) && decide (x ≤ m)
set_option maxHeartbeats 400000 in
theorem upto_any (x l m : Int) (w : World) :
    Calls Tryz.prog 17 #[.int .i64 x, .int .i64 l, .int .i64 m] w fun e w' => e = .returned (.bool (uptoB x l m)) ∧ w = w' := by
  by_cases h1 : l ≤ x
  · have e : uptoB x l m = decide (x ≤ m) := by unfold uptoB; simp [h1]
    rw [e]; clear e
    go_enter Tryz.func17, Tryz.ntmps17
    go_wp2
    go_ret
    exact ⟨rfl, rfl⟩
  · have e : uptoB x l m = false := by unfold uptoB; simp [h1]
    rw [e]; clear e
    go_enter Tryz.func17, Tryz.ntmps17
    go_wp2
    go_ret
    exact ⟨rfl, rfl⟩
theorem upto_may (x : Int) : uptoB x (-32768) 32767 = mayB x := rfl
set_option maxHeartbeats 400000 in
theorem nummay_any (x : Int) (w : World) :
    Calls Tryz.prog 50 #[.int .i64 x] w fun e w' => e = .returned (.bool (mayB x)) ∧ w = w' := by
  rw [← upto_may x]
  go_enter Tryz.func50, Tryz.ntmps50
  go_wp2_with (go_at_call 17; refine (upto_any _ _ _ _).mono ?_; rintro e w' ⟨rfl, rfl⟩)
  go_ret
  exact ⟨rfl, rfl⟩
end Go.Proofs.YtgjhpmkahicnkaaGreatDoor.Tm

namespace Go.Proofs.YtgjhpmkahicnkaaGreatDoor.Tm
open Go.RowKit
set_option linter.unusedVariables false

theorem at_lt {s : ByteArray} {a : Nat} (h : a < s.size) : s.data.toList[a]? = some s[a] := by
  rw [List.getElem?_eq_getElem (by simpa using h)]; rfl
theorem byte_is {c : UInt8} {n : Nat} (hn : n < 256) (h : (c.toNat : Int) = (n : Int)) : c = UInt8.ofNat n := by
  apply UInt8.toNat_inj.1
  simp; omega
theorem byte_no {s : ByteArray} {a : Nat} (h : a < s.size) (c : UInt8) (hc : ((s[a].toNat : Int) == (c.toNat : Int)) = false) : s.data.toList[a]? ≠ some c := by
  rw [at_lt h]
  intro e
  have e := Option.some.inj e
  rw [e] at hc; simp at hc
theorem byte_yes {s : ByteArray} {a : Nat} (h : a < s.size) (c : UInt8) (hc : ((s[a].toNat : Int) == (c.toNat : Int)) = true) : s.data.toList[a]? = some c := by
  rw [at_lt h]
  congr 1
  apply UInt8.toNat_inj.1
  have := beq_iff_eq.1 hc
  omega

/-- Nothing is read: the answer is -1. -/
theorem gotr_bad {s : ByteArray} {a B : Nat} {w : World} {o : Option Rd} {k x : Int} {v : Value} (h : o = none) : GotR s a B w o k x v (-1) := by subst h; exact Or.inl rfl

theorem nc_byte {s : ByteArray} {n : Nat} (h : NcAt s n) : ∃ hlt : n < s.size, isNC s[n] = true := by
  obtain ⟨c, hc, hn⟩ := h
  have hlt : n < s.size := by have := lt_of_at hc; simpa using this
  refine ⟨hlt, ?_⟩
  rw [at_lt hlt] at hc
  rw [Option.some.inj hc]; exact hn

end Go.Proofs.YtgjhpmkahicnkaaGreatDoor.Tm

namespace Go.Proofs.YtgjhpmkahicnkaaGreatDoor.Tm
open Go.RowKit
set_option linter.unusedVariables false

theorem gotr_parts {f : Nat} {s : ByteArray} {a x k : Nat} {B B' : Nat} {w : World} {k0 x0 : Int} {v : Value} {to : Int} (hl : (run s (a + 1)).length = k) (h1 : canon (run s (a + 1)) = some (x : Int)) (ht : tagB (x : Int) = true) (h40 : s.data.toList[a + 1 + k]? = some 40)
    (hB : B' ≤ B) (h : GotRP s (a + 1 + k + 1) B w (Tp (T f) 3 (fr s (a + 1 + k + 1))) 2 (x : Int) k0 x0 v to) : GotR s a B' w (conT (T f) (fr s (a + 1))) k0 x0 v to := by
  subst hl
  rw [con_eq_parts f s a h1 ht h40]
  unfold GotRP at h
  cases hp : Tp (T f) 3 (fr s (a + 1 + (run s (a + 1)).length + 1)) with
  | none => rw [hp] at h; exact Or.inl h
  | some y =>
    obtain ⟨ks, m⟩ := y
    rw [hp] at h
    obtain ⟨e1, e2, e3, e4⟩ := h
    exact ⟨e1, e2, by rw [e3]; omega, own_base e4 hB⟩
theorem GotRP.set {s : ByteArray} {a B : Nat} {w : World} {o : Option (List (List UInt8) × Nat)} {k0 x0 k x : Int} {v : Value} {to : Int} (h : GotRP s a B w o k0 x0 k x v to) {p : Addr} (hp : p.block < B) (u : Value) : GotRP s a B (w.setCell p u) o k0 x0 k x v to := by
  unfold GotRP at *
  cases o with
  | none => exact h
  | some y =>
    obtain ⟨h1, h2, h3, h4⟩ := h
    exact ⟨h1, h2, h3, ownsRow_setCell_below h4 hp u⟩

end Go.Proofs.YtgjhpmkahicnkaaGreatDoor.Tm

namespace Go.Proofs.YtgjhpmkahicnkaaGreatDoor.Tm
open Go.RowKit
set_option linter.unusedVariables false
theorem parts_class {f : Nat} {s : ByteArray} {a : Nat} {ps : List (Nat × Nat)} {c : Nat} (h : Sofar f s a ps c) (hl : ps.length < 3) (hac : a ≤ c) (hcs : c ≤ s.size) {B : Nat} {w : World} {k x : Int} {v : Value} {to : Int}
    (hg : GotR s c B w (T f (fr s c)) k x v to) :
    ((to < 0 ∨ (s.size : Int) ≤ to) ∧ Tp (T f) 3 (fr s a) = none) ∨
    ∃ m : Nat, to = (m : Int) ∧ c ≤ m ∧ ∃ hm : m < s.size,
      ((((s[m].toNat : Int) == 41) = false ∧ ((s[m].toNat : Int) == 32) = false ∧ Tp (T f) 3 (fr s a) = none) ∨
       (((s[m].toNat : Int) == 41) = true ∧ Tp (T f) 3 (fr s a) = some ((ps ++ [(c, m)]).map (pc s), m + 1 - a)) ∨
       (((s[m].toNat : Int) == 41) = false ∧ ((s[m].toNat : Int) == 32) = true ∧ Sofar f s a (ps ++ [(c, m)]) (m + 1))) := by
  unfold GotR at hg
  cases hT : T f (fr s c) with
  | none =>
    rw [hT] at hg
    have htp := sofar_none h hl hT
    rcases hg with e | ⟨n, e, hcn, hnc⟩
    · exact Or.inl ⟨Or.inl (by omega), htp⟩
    · obtain ⟨hm, hb⟩ := nc_byte hnc
      refine Or.inr ⟨n, e, hcn, hm, Or.inl ⟨?_, ?_, htp⟩⟩
      · rcases nc_yes hb with e | ⟨_, e, _⟩ <;> (rw [beq_eq_false_iff_ne]; omega)
      · rcases nc_yes hb with e | ⟨_, e, _⟩ <;> (rw [beq_eq_false_iff_ne]; omega)
  | some y =>
    have hsz := T_size f _ _ hT
    rw [hT] at hg
    obtain ⟨k', x', ks, n⟩ := y
    obtain ⟨_, _, e, _⟩ := hg
    by_cases hm : c + n < s.size
    · refine Or.inr ⟨c + n, by omega, by omega, hm, ?_⟩
      cases h41 : ((s[c + n].toNat : Int) == 41) with
      | true =>
        refine Or.inr (Or.inl ⟨rfl, ?_⟩)
        rw [sofar_last h hl hac hT (byte_yes hm 41 h41)]
        congr 2; simp only; omega
      | false =>
        cases h32 : ((s[c + n].toNat : Int) == 32) with
        | true => exact Or.inr (Or.inr ⟨rfl, rfl, sofar_on h hl hac hT (byte_yes hm 32 h32)⟩)
        | false => exact Or.inl ⟨rfl, rfl, sofar_bad h hl hT (byte_no hm 41 h41) (byte_no hm 32 h32)⟩
    · refine Or.inl ⟨Or.inr (by omega), ?_⟩
      have en : s.data.toList[c + n]? = none := List.getElem?_eq_none (by simp; omega)
      exact sofar_bad h hl hT (by simp only; rw [en]; simp) (by simp only; rw [en]; simp)

theorem news_one {W : World} {ad : Addr} {x : Value} (h : W.cell? ad = some x) : ∀ (j : Nat) u, [x][j]? = some u → W.cell? (ad.add j) = some u := by
  intro j u hj
  match j, hj with
  | 0, hj =>
    have e : x = u := by simpa using hj
    subst e
    have : ad.add 0 = ad := by simp [Addr.add]
    rw [this]; exact h

end Go.Proofs.YtgjhpmkahicnkaaGreatDoor.Tm

namespace Go.Proofs.YtgjhpmkahicnkaaGreatDoor.Tm
open Go.RowKit
set_option linter.unusedVariables false
theorem rcut_none {s : ByteArray} {B : Nat} {w : World} {k x : Int} {v : Value} {to : Int} (hs : s.size ≤ 1024) (h : GotR s 0 B w (T 1025 (fr s 0)) k x v to) (hne : to ≠ (s.size : Int)) : whole s.data.toList = none := by
  have e0 : fr s 0 = s.data.toList := rfl
  have el : s.data.toList.length = s.size := by simp
  rw [e0] at h
  unfold whole
  rw [if_pos (by rw [el]; exact hs)]
  cases hT : T 1025 s.data.toList with
  | none => rfl
  | some y =>
    obtain ⟨k', x', ks, n⟩ := y
    rw [hT] at h
    obtain ⟨_, _, e, _⟩ := h
    simp only
    rw [el, if_neg (by omega)]
theorem rcut_some {s : ByteArray} {B : Nat} {w : World} {k x : Int} {v : Value} (hs : s.size ≤ 1024) (h : GotR s 0 B w (T 1025 (fr s 0)) k x v (s.size : Int)) : GotC B w (whole s.data.toList) k x v 0 := by
  have e0 : fr s 0 = s.data.toList := rfl
  have el : s.data.toList.length = s.size := by simp
  rw [e0] at h
  unfold whole
  rw [if_pos (by rw [el]; exact hs)]
  cases hT : T 1025 s.data.toList with
  | none =>
    rw [hT] at h
    rcases h with e | ⟨n, e, _, hnc⟩
    · omega
    · obtain ⟨hlt, _⟩ := nc_byte hnc
      omega
  | some y =>
    obtain ⟨k', x', ks, n⟩ := y
    rw [hT] at h
    obtain ⟨rfl, rfl, e, ho⟩ := h
    simp only
    rw [el, if_pos (by omega)]
    exact ⟨rfl, rfl, rfl, ho⟩

end Go.Proofs.YtgjhpmkahicnkaaGreatDoor.Tm

namespace Go.Proofs.YtgjhpmkahicnkaaGreatDoor.Tm
open Go.RowKit
set_option linter.unusedVariables false

theorem Tryz.info5 : (Tryz.prog.info? 5).map (fun i => (i.zero, i.size, i.bytes)) = some (some (.int .u8 0), 1, 1) := by kernel_rfl

/-- Bytes as cells. -/
def bs (l : List UInt8) : List Value := l.map fun b => .int .u8 (b.toNat : Int)
/-- So far. -/
def DecInv (u0 u : Nat) (ds : List UInt8) : Prop :=
  (ds = [] ∧ u = u0) ∨ (ds ≠ [] ∧ u = 0 ∧ ds = Lib.decDigits u0) ∨ (ds ≠ [] ∧ 0 < u ∧ Lib.decDigits u0 = Lib.decDigits u ++ ds)
def vlen : Value → Nat
  | .slice _ n _ => n
  | _ => 0

theorem dec_more {u0 u : Nat} {ds : List UInt8} (h : DecInv u0 u ds) (hgo : 0 < u ∨ ds = []) : DecInv u0 (u / 10) (UInt8.ofNat (48 + u % 10) :: ds) := by
  have key : ∀ v : Nat, Lib.decDigits v = if v < 10 then [UInt8.ofNat (48 + v)] else Lib.decDigits (v / 10) ++ [UInt8.ofNat (48 + v % 10)] := by
    intro v
    by_cases hv : v < 10
    · rw [if_pos hv]; exact Lib.decDigits_one hv
    · rw [if_neg hv, Lib.decDigits, dif_neg hv]
  rcases h with ⟨rfl, rfl⟩ | ⟨hne, rfl, e⟩ | ⟨hne, hu, e⟩
  · by_cases hv : u < 10
    · refine Or.inr (Or.inl ⟨by simp, by omega, ?_⟩)
      rw [key u, if_pos hv, Nat.mod_eq_of_lt hv]
    · refine Or.inr (Or.inr ⟨by simp, by omega, ?_⟩)
      rw [key u, if_neg hv]
  · rcases hgo with h | h
    · omega
    · exact absurd h hne
  · by_cases hv : u < 10
    · refine Or.inr (Or.inl ⟨by simp, by omega, ?_⟩)
      rw [e, key u, if_pos hv, Nat.mod_eq_of_lt hv]; rfl
    · refine Or.inr (Or.inr ⟨by simp, by omega, ?_⟩)
      rw [e, key u, if_neg hv]; simp
theorem dec_len {u0 u : Nat} {ds : List UInt8} (h : DecInv u0 u ds) : ds.length ≤ (Lib.decDigits u0).length := by
  rcases h with ⟨rfl, rfl⟩ | ⟨hne, rfl, e⟩ | ⟨hne, hu, e⟩
  · simp
  · rw [e]; exact Nat.le_refl _
  · rw [e]; simp
theorem dec_done {u0 : Nat} {ds : List UInt8} (h : DecInv u0 0 ds) (hne : ds ≠ []) : ds = Lib.decDigits u0 := by
  rcases h with ⟨e, _⟩ | ⟨_, _, e⟩ | ⟨_, hu, _⟩
  · exact absurd e hne
  · exact e
  · omega

/-- A row of one byte that was just laid. -/
theorem own_one (W : World) (B : Nat) (hB : B ≤ W.heap.size) (x : Value) : (W.alloc (.cells #[x] 5)).ownsRow B 5 1 (.slice (some ⟨W.heap.size, 0, none⟩) 1 1) 1 [x] := by
  refine ⟨rfl, Or.inr ⟨W.heap.size, 1, #[x], rfl, hB, ?_, Nat.le_refl _, by unfold maxLen; omega, rfl, rfl⟩⟩
  show (W.heap.push _)[W.heap.size]? = _
  rw [Array.getElem?_push_size]
/-- The cells of a row that is owned. -/
theorem own_cells {W : World} {B : Nat} {v : Value} {ds : List UInt8} (h : W.ownsRow B 5 1 v ds.length (bs ds)) (hne : ds ≠ []) :
    ∃ gb c, v = .slice (some ⟨gb, 0, none⟩) ds.length c ∧ gb < W.heap.size ∧ B ≤ gb ∧ ∀ j u, (bs ds)[j]? = some u → W.cell? ((⟨gb, 0, none⟩ : Addr).add j) = some u := by
  have hown := h
  rcases h.2 with ⟨_, h3⟩ | ⟨gb, cap, cur, hv, hB, hh, _⟩
  · exact absurd (List.length_eq_zero_iff.1 h3) hne
  · refine ⟨gb, cap, hv, ?_, hB, ?_⟩
    · rcases Nat.lt_or_ge gb W.heap.size with h' | h'
      · exact h'
      · rw [Array.getElem?_eq_none h'] at hh; cases hh
    · subst hv
      exact hown.cells (g := gb) rfl
theorem bs_one (ds : List UInt8) : ∀ u ∈ bs ds, u.oneCell' = true := by
  intro u hu
  unfold bs at hu
  obtain ⟨b, _, rfl⟩ := List.mem_map.1 hu
  rfl
theorem bs_cons (d : UInt8) (ds : List UInt8) : bs (d :: ds) = .int .u8 (d.toNat : Int) :: bs ds := rfl
theorem bs_len (ds : List UInt8) : (bs ds).length = ds.length := by unfold bs; simp
theorem digit_nat (u : Nat) : (UInt8.ofNat (48 + u % 10)).toNat = 48 + u % 10 := by
  simp; omega

/-- The text of a row of bytes. -/
theorem conv_row {W : World} {gb c : Nat} {ds : List UInt8} (h : ∀ j u, (bs ds)[j]? = some u → W.cell? ((⟨gb, 0, none⟩ : Addr).add j) = some u) :
    (convert 68 9 (.slice (some ⟨gb, 0, none⟩) ds.length c)).run Tryz.prog W = .ok (.string ⟨ds.toArray⟩) W :=
  run_convert_bytes_back W 68 9 5 ⟨gb, 0, none⟩ c ds Tryz.underlying68 Tryz.underlying5 Tryz.underlying9 (fun j hj => h j _ (by unfold bs; simp [hj]))
theorem conv_own {W : World} {B : Nat} {v : Value} {ds : List UInt8} (h : W.ownsRow B 5 1 v ds.length (bs ds)) (hne : ds ≠ []) :
    (convert 68 9 v).run Tryz.prog W = .ok (.string ⟨ds.toArray⟩) W := by
  obtain ⟨gb, c, rfl, _, _, hc⟩ := own_cells h hne
  exact conv_row hc

set_option maxHeartbeats 1600000 in
set_option maxRecDepth 100000 in
theorem decimal_pos (x : Nat) (w : World) (hx : x ≤ 32767) :
    Calls Tryz.prog 15 #[.int .i64 (x : Int)] w fun e w' => e = .returned (.string ⟨(Lib.itoa (x : Int)).toArray⟩) ∧ Below w.heap.size w w' := by
  obtain ⟨i0, hi, hz0, hz1, hz2⟩ := info_parts Tryz.info5
  have hdl : (Lib.decDigits x).length ≤ 21 := by
    have := Lib.itoa_length_le (x : Int) (by omega) (by omega)
    rw [Lib.itoa_nonneg] at this; exact this
  go_enter Tryz.func15, Tryz.ntmps15
  go_wp2_with fail
  go_loopw [3, 4] (fun a v wr => ∃ (u : Nat) (ds : List UInt8), a = .int .u64 (u : Int) ∧ u ≤ 32768 ∧ wr.ownsRow w.heap.size 5 1 v ds.length (bs ds) ∧ DecInv x u ds ∧ (ds = [] → v = .slice none 0 0) ∧ Below w.heap.size w wr)
    (fun a v _ => 2 * (intOf a).toNat + (1 - vlen v))
  case atStart => exact ⟨x, [], rfl, by omega, World.ownsRow_nil _ _ _ _, Or.inl ⟨rfl, rfl⟩, fun _ => rfl, Below.refl _ _⟩
  case round =>
    obtain ⟨u, ds, rfl, hu, hown, hinv, hnil, hbel⟩ := hrel
    have hlen := dec_len hinv
    have HI : Hid (DecInv x u ds) := hinv
    clear hinv
    have hz := hbel.size
    by_cases hds : ds = []
    · have e := hnil hds
      subst e
      subst hds
      have HN : Hid (DecInv x (u / 10) [UInt8.ofNat (48 + u % 10)]) := dec_more HI.out (Or.inr rfl)
      clear hnil hown
      by_cases hu0 : 0 < u
      · have hu0' : (0 : Int) < (u : Int) := by omega
        go_wp2_with (at_builtin; refine wpList_append_own_none rfl _ _ 68 rfl w.heap.size 5 i0 1 Tryz.underlying68 hi _ 1 _ rfl (own_one wr w.heap.size hz _) rfl ?_)
        go_roundw
        case rel =>
          refine ⟨u / 10, [UInt8.ofNat (48 + u % 10)], by go_num, by omega, ?_, HN.out, (fun h => by cases h), hbel.alloc hz _⟩
          have := own_one wr w.heap.size hz (.int .u8 (48 + (u : Int) % 10))
          rw [show bs [UInt8.ofNat (48 + u % 10)] = [.int .u8 (48 + (u : Int) % 10)] by rw [bs_cons, digit_nat]; simp [bs]]
          exact this
        case measure => simp [intOf, vlen]; omega
      · have hu0' : (u : Int) = 0 := by omega
        go_wp2_with (at_builtin; refine wpList_append_own_none rfl _ _ 68 rfl w.heap.size 5 i0 1 Tryz.underlying68 hi _ 1 _ rfl (own_one wr w.heap.size hz _) rfl ?_)
        go_roundw
        case rel =>
          have eu : u = 0 := by omega
          subst eu
          refine ⟨0, [48], by go_num, by omega, ?_, HN.out, (fun h => by cases h), hbel.alloc hz _⟩
          exact own_one wr w.heap.size hz (.int .u8 48)
        case measure => simp [intOf, vlen]
    · clear hnil
      obtain ⟨gb, cb, rfl, hgb, hBg, hcells⟩ := own_cells hown hds
      have HC : Hid (∀ j u, (bs ds)[j]? = some u → wr.cell? ((⟨gb, 0, none⟩ : Addr).add j) = some u) := hcells
      have hdp : 0 < ds.length := List.length_pos_iff.2 hds
      have hdz : ((ds.length : Int) == 0) = false := by simp; exact hds
      clear hcells
      by_cases hu0 : 0 < u
      · have hu0' : (0 : Int) < (u : Int) := by omega
        have HN : Hid (DecInv x (u / 10) (UInt8.ofNat (48 + u % 10) :: ds)) := dec_more HI.out (Or.inl hu0)
        go_wp2_with (at_builtin; refine wpList_append_own _ rfl _ _ 68 rfl w.heap.size 5 i0 (.int .u8 0) 1 1 Tryz.underlying68 hi hz0 hz1 hz2 rfl (by decide) _ 1 _ rfl (own_one wr w.heap.size hz _) ⟨gb, 0, none⟩ ds.length cb (bs ds) rfl ?c0 ?c1 ?c2 ?c3 ?c4 ?c5 ?_)
        case c0 => rw [bs_len, Nat.mul_one]
        case c1 =>
          intro j u hj
          rw [World.cell?_alloc_lt _ _ _ (by rw [Lib.add_plain]; exact hgb)]
          exact HC.out j u hj
        case c2 => exact bs_one ds
        case c3 => unfold maxLen; omega
        case c4 => omega
        case c5 => simp; omega
        intro v' w2 hown2 hgrow _
        have hown3 : w2.ownsRow w.heap.size 5 1 v' (UInt8.ofNat (48 + u % 10) :: ds).length (bs (UInt8.ofNat (48 + u % 10) :: ds)) := by
          rw [bs_cons, digit_nat, List.length_cons, Nat.add_comm ds.length 1]
          exact hown2
        have hb2 : Below w.heap.size w w2 := (hbel.alloc hz _).grown hgrow (by rw [World.size_alloc]; omega) (fun k e => by cases e; exact hz)
        have hvl : 1 ≤ vlen v' := by
          obtain ⟨gb', cb', rfl, _⟩ := own_cells hown3 (by simp)
          simp [vlen]
        clear hown2
        go_wp2_with fail
        go_roundw
        case rel => exact ⟨u / 10, UInt8.ofNat (48 + u % 10) :: ds, by go_num, by omega, hown3, HN.out, (fun h => by cases h), hb2⟩
        case measure => simp [intOf]; omega
      · have hu0' : (u : Int) = 0 := by omega
        have hug : ¬ (0 : Int) < (u : Int) := by omega
        have eds : Hid (ds = Lib.decDigits x) := by
          show ds = _
          have hI := HI.out
          rw [show u = 0 by omega] at hI
          exact dec_done hI hds
        have hcv := conv_row (c := cb) HC.out
        go_wp2_with fail
        go_ret
        exact ⟨by rw [eds.out]; rfl, hbel⟩

set_option maxHeartbeats 1600000 in
set_option maxRecDepth 100000 in
theorem decimal_neg (x : Nat) (w : World) (y : Int) (hy : y < 0) (hy2 : -32768 ≤ y) (E : Hid (y = -(x : Int))) (hx : x ≤ 32768) :
    Calls Tryz.prog 15 #[.int .i64 y] w fun e w' => e = .returned (.string ⟨(Lib.itoa y).toArray⟩) ∧ Below w.heap.size w w' := by
  obtain ⟨i0, hi, hz0, hz1, hz2⟩ := info_parts Tryz.info5
  have hdl : (Lib.decDigits x).length ≤ 21 := by
    have := Lib.itoa_length_le (x : Int) (by omega) (by omega)
    rw [Lib.itoa_nonneg] at this; exact this
  have HT : Hid (Lib.itoa y = 45 :: Lib.decDigits x) := by
    show Lib.itoa y = _
    rw [Lib.itoa, if_pos hy, E.out]; simp
  go_enter Tryz.func15, Tryz.ntmps15
  go_wp2_with fail
  go_loopw [3, 4] (fun a v wr => ∃ (u : Nat) (ds : List UInt8), a = .int .u64 (u : Int) ∧ u ≤ 32768 ∧ wr.ownsRow w.heap.size 5 1 v ds.length (bs ds) ∧ DecInv x u ds ∧ (ds = [] → v = .slice none 0 0) ∧ Below w.heap.size w wr)
    (fun a v _ => 2 * (intOf a).toNat + (1 - vlen v))
  case atStart => exact ⟨x, [], (by have := E.out; go_num), by omega, World.ownsRow_nil _ _ _ _, Or.inl ⟨rfl, rfl⟩, fun _ => rfl, Below.refl _ _⟩
  case round =>
    obtain ⟨u, ds, rfl, hu, hown, hinv, hnil, hbel⟩ := hrel
    have hlen := dec_len hinv
    have HI : Hid (DecInv x u ds) := hinv
    clear hinv
    have hz := hbel.size
    by_cases hds : ds = []
    · have e := hnil hds
      subst e
      subst hds
      have HN : Hid (DecInv x (u / 10) [UInt8.ofNat (48 + u % 10)]) := dec_more HI.out (Or.inr rfl)
      clear hnil hown
      by_cases hu0 : 0 < u
      · have hu0' : (0 : Int) < (u : Int) := by omega
        go_wp2_with (at_builtin; refine wpList_append_own_none rfl _ _ 68 rfl w.heap.size 5 i0 1 Tryz.underlying68 hi _ 1 _ rfl (own_one wr w.heap.size hz _) rfl ?_)
        go_roundw
        case rel =>
          refine ⟨u / 10, [UInt8.ofNat (48 + u % 10)], by go_num, by omega, ?_, HN.out, (fun h => by cases h), hbel.alloc hz _⟩
          have := own_one wr w.heap.size hz (.int .u8 (48 + (u : Int) % 10))
          rw [show bs [UInt8.ofNat (48 + u % 10)] = [.int .u8 (48 + (u : Int) % 10)] by rw [bs_cons, digit_nat]; simp [bs]]
          exact this
        case measure => simp [intOf, vlen]; omega
      · have hu0' : (u : Int) = 0 := by omega
        go_wp2_with (at_builtin; refine wpList_append_own_none rfl _ _ 68 rfl w.heap.size 5 i0 1 Tryz.underlying68 hi _ 1 _ rfl (own_one wr w.heap.size hz _) rfl ?_)
        go_roundw
        case rel =>
          have eu : u = 0 := by omega
          subst eu
          refine ⟨0, [48], by go_num, by omega, ?_, HN.out, (fun h => by cases h), hbel.alloc hz _⟩
          exact own_one wr w.heap.size hz (.int .u8 48)
        case measure => simp [intOf, vlen]
    · clear hnil
      obtain ⟨gb, cb, rfl, hgb, hBg, hcells⟩ := own_cells hown hds
      have HC : Hid (∀ j u, (bs ds)[j]? = some u → wr.cell? ((⟨gb, 0, none⟩ : Addr).add j) = some u) := hcells
      have hdp : 0 < ds.length := List.length_pos_iff.2 hds
      have hdz : ((ds.length : Int) == 0) = false := by simp; exact hds
      clear hcells
      by_cases hu0 : 0 < u
      · have hu0' : (0 : Int) < (u : Int) := by omega
        have HN : Hid (DecInv x (u / 10) (UInt8.ofNat (48 + u % 10) :: ds)) := dec_more HI.out (Or.inl hu0)
        go_wp2_with (at_builtin; refine wpList_append_own _ rfl _ _ 68 rfl w.heap.size 5 i0 (.int .u8 0) 1 1 Tryz.underlying68 hi hz0 hz1 hz2 rfl (by decide) _ 1 _ rfl (own_one wr w.heap.size hz _) ⟨gb, 0, none⟩ ds.length cb (bs ds) rfl ?c0 ?c1 ?c2 ?c3 ?c4 ?c5 ?_)
        case c0 => rw [bs_len, Nat.mul_one]
        case c1 =>
          intro j u hj
          rw [World.cell?_alloc_lt _ _ _ (by rw [Lib.add_plain]; exact hgb)]
          exact HC.out j u hj
        case c2 => exact bs_one ds
        case c3 => unfold maxLen; omega
        case c4 => omega
        case c5 => simp; omega
        intro v' w2 hown2 hgrow _
        have hown3 : w2.ownsRow w.heap.size 5 1 v' (UInt8.ofNat (48 + u % 10) :: ds).length (bs (UInt8.ofNat (48 + u % 10) :: ds)) := by
          rw [bs_cons, digit_nat, List.length_cons, Nat.add_comm ds.length 1]
          exact hown2
        have hb2 : Below w.heap.size w w2 := (hbel.alloc hz _).grown hgrow (by rw [World.size_alloc]; omega) (fun k e => by cases e; exact hz)
        have hvl : 1 ≤ vlen v' := by
          obtain ⟨gb', cb', rfl, _⟩ := own_cells hown3 (by simp)
          simp [vlen]
        clear hown2
        go_wp2_with fail
        go_roundw
        case rel => exact ⟨u / 10, UInt8.ofNat (48 + u % 10) :: ds, by go_num, by omega, hown3, HN.out, (fun h => by cases h), hb2⟩
        case measure => simp [intOf]; omega
      · have hu0' : (u : Int) = 0 := by omega
        have hug : ¬ (0 : Int) < (u : Int) := by omega
        have eds : Hid (ds = Lib.decDigits x) := by
          show ds = _
          have hI := HI.out
          rw [show u = 0 by omega] at hI
          exact dec_done hI hds
        go_wp2_with (at_builtin; refine wpList_append_own _ rfl _ _ 68 rfl w.heap.size 5 i0 (.int .u8 0) 1 1 Tryz.underlying68 hi hz0 hz1 hz2 rfl (by decide) _ 1 _ rfl (own_one wr w.heap.size hz _) ⟨gb, 0, none⟩ ds.length cb (bs ds) rfl ?c0 ?c1 ?c2 ?c3 ?c4 ?c5 ?_)
        case c0 => rw [bs_len]
        case c1 =>
          intro j u hj
          have := HC.out j u hj
          rw [Lib.add_plain] at this
          simpa using this
        case c2 => exact bs_one ds
        case c3 => unfold maxLen; omega
        case c4 => omega
        case c5 => omega
        intro v' w2 hown2 hgrow _
        have hown3 : w2.ownsRow w.heap.size 5 1 v' (45 :: ds).length (bs (45 :: ds)) := by
          rw [bs_cons, List.length_cons, Nat.add_comm ds.length 1]
          exact hown2
        have hb2 : Below w.heap.size w w2 := (hbel.alloc hz _).grown hgrow (by rw [World.size_alloc]; omega) (fun k e => by cases e; exact hz)
        have hcv := conv_own hown3 (by simp)
        clear hown2
        go_wp2_with fail
        go_ret
        exact ⟨by rw [HT.out, ← eds.out]; rfl, hb2⟩

theorem decimal_any (x : Int) (w : World) (h1 : -32768 ≤ x) (h2 : x ≤ 32767) :
    Calls Tryz.prog 15 #[.int .i64 x] w fun e w' => e = .returned (.string ⟨(Lib.itoa x).toArray⟩) ∧ Below w.heap.size w w' := by
  by_cases h : 0 ≤ x
  · obtain ⟨n, rfl⟩ := Int.eq_ofNat_of_zero_le h
    exact decimal_pos n w (by omega)
  · obtain ⟨n, hn⟩ := Int.eq_ofNat_of_zero_le (a := -x) (by omega)
    have e : x = -(n : Int) := by omega
    subst e
    exact decimal_neg n w _ (by omega) h1 rfl (by omega)
end Go.Proofs.YtgjhpmkahicnkaaGreatDoor.Tm

namespace Go.Proofs.YtgjhpmkahicnkaaGreatDoor.Tm
open Go.RowKit
set_option linter.unusedVariables false
/-- One text more. -/
theorem jn_snoc : ∀ (l : List (List UInt8)) (x : List UInt8), l ≠ [] → jn (l ++ [x]) = jn l ++ 32 :: x
  | [], x, h => absurd rfl h
  | [a], x, _ => rfl
  | a :: b :: r, x, _ => by
    have ih := jn_snoc (b :: r) x (by simp)
    show a ++ 32 :: jn ((b :: r) ++ [x]) = (a ++ 32 :: jn (b :: r)) ++ 32 :: x
    rw [ih]; simp
theorem lst_take (xs : List ByteArray) {j : Nat} (h : j < xs.length) : lst (xs.take (j + 1)) = lst (xs.take j) ++ [xs[j].data.toList] := by
  unfold lst; rw [List.take_add_one, List.getElem?_eq_getElem h, List.map_append]; rfl
theorem ba_list (x : ByteArray) : (⟨x.data.toList.toArray⟩ : ByteArray) = x := by simp

set_option maxHeartbeats 800000 in
set_option maxRecDepth 100000 in
theorem rjoin_any (g : Option Addr) (xs : List ByteArray) (c : Nat) (w : World) (hx : Txts w g xs) (hn : xs.length ≤ 4) (hxs : ∀ x ∈ xs, x.size ≤ 140737488355328) :
    Calls Tryz.prog 30 #[.slice g xs.length c] w fun e w' => e = .returned (.string ⟨(jn (lst xs)).toArray⟩) ∧ w = w' := by
  go_enter Tryz.func30, Tryz.ntmps30
  go_wp2_with fail
  go_loop [3, 4] (fun s i => ∃ j : Nat, j ≤ xs.length ∧ i = .int .i64 (j : Int) ∧ s = .string ⟨(jn (lst (xs.take j))).toArray⟩) (fun _ i => xs.length - (intOf i).toNat)
  case atStart => exact ⟨0, Nat.zero_le _, rfl, by simp [lst, jn]⟩
  case round =>
    obtain ⟨j, hj, rfl, rfl⟩ := hrel
    by_cases hlt : j < xs.length
    · obtain ⟨b1, o1, rfl, hc1⟩ := txts_at hx hlt
      obtain ⟨x, hxx⟩ : ∃ x, x = xs[j] := ⟨_, rfl⟩
      rw [← hxx] at hc1
      have hxl : x.size ≤ 140737488355328 := by rw [hxx]; exact hxs _ (List.getElem_mem hlt)
      have hjl := jn_le (lst (xs.take j)) 140737488355328 (fun s hs => by
        unfold lst at hs
        obtain ⟨y, hy, rfl⟩ := List.mem_map.1 hs
        have := hxs y (List.mem_of_mem_take hy)
        simpa using this)
      have hll : (lst (xs.take j)).length = j := by unfold lst; simp; omega
      rw [hll] at hjl
      have HS : Hid (lst (xs.take (j + 1)) = lst (xs.take j) ++ [x.data.toList]) := by rw [hxx]; exact lst_take xs hlt
      clear hxx
      by_cases hj0 : 0 < j
      · have hj0' : (0 : Int) < (j : Int) := by omega
        have hne : lst (xs.take j) ≠ [] := fun e => by rw [e] at hll; simp at hll; omega
        have HE : Hid ((⟨(jn (lst (xs.take j))).toArray⟩ : ByteArray) ++ ⟨#[32]⟩ ++ x = ⟨(jn (lst (xs.take (j + 1)))).toArray⟩) := by
          show _ = _
          rw [HS.out, jn_snoc _ _ hne, show (⟨#[32]⟩ : ByteArray) = ⟨[32].toArray⟩ from rfl, bytes_add]
          conv => lhs; rw [← ba_list x]
          rw [bytes_add]; simp
        clear hne hll HS
        generalize hjn : jn (lst (xs.take j)) = p at *
        clear hjn
        go_wp2_with fail
        go_round
        case rel => exact ⟨j + 1, by omega, by go_num, congrArg Value.string HE.out⟩
        case measure => simp [intOf]; omega
      · have ej : j = 0 := by omega
        subst ej
        have hjl0 : (⟨#[]⟩ : ByteArray).size = 0 := rfl
        have HE : Hid ((⟨#[]⟩ : ByteArray) ++ x = ⟨(jn (lst (xs.take 1))).toArray⟩) := by
          show _ = _
          rw [HS.out, show (⟨#[]⟩ : ByteArray) = ⟨([] : List UInt8).toArray⟩ from rfl]
          conv => lhs; rw [← ba_list x]
          rw [bytes_add]; simp [lst, jn]
        clear hll HS hjl
        rw [Nat.add_zero] at hc1
        rw [show (⟨(jn (lst (xs.take 0))).toArray⟩ : ByteArray) = ⟨#[]⟩ by simp [lst, jn]]
        go_wp2_with fail
        go_round
        case rel => exact ⟨1, by omega, rfl, congrArg Value.string HE.out⟩
        case measure => simp [intOf]; omega
    · have ej : j = xs.length := by omega
      subst ej
      rw [List.take_length]
      go_wp2_with fail
      go_ret
      exact ⟨rfl, rfl⟩
end Go.Proofs.YtgjhpmkahicnkaaGreatDoor.Tm
