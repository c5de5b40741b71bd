/- What the walks of package term ask of the library's calls and of the package-level variables; and the smallest contracts: has, prim.May, mayTag. · The contract of readDecimal. · What the three readers of package term hand back, said for each depth; and what a row of places owns. · The contract of readCon out of readParts'. · The contract of read, one level deeper, out of readCon's. · The contract of readParts out of read's. · The contracts of read at each depth and of readWhole and May. · The contract of Cut. · What the walks ask of the library, paid by the laid contracts. · The contracts of headOf and mayStandBehind. · The contract of Make. · The contracts of the statements' own helpers SameTexts and Num; Make and Cut at any spelling of a length. · What every program answers that is one: awake returns true. · The contract of the reference's digits. · What the reference's digits tell, held against the numerals that package term reads. Nothing of the program is walked here. -/
import Derived.Test.YtgjhpmkahicnkaaDoorRows
import Derived.Test.YtgjhpmkahicnkaaDoorMPlain
import Derived.WalkKit
import Derived.ProofKit
import Derived.OpenShut
import Derived.Lib.AppendIntMem
import Derived.Deep.QuietTactic
import Derived.BigQuiet
import Derived.Deep.RegionWith
import Derived.WalkSpells
import Derived.Deep.RegionHeld3
import Derived.Deep.Light
import Derived.Lib.Strings
import Derived.Test.YtgjhpmkahicnkaaDoorShelf
import Derived.Lib.ItoaLen

namespace Go.Proofs.YtgjhpmkahicnkaaDoor.Tm
open Go.RowKit
set_option linter.unusedVariables false

/-- The library's table reads as it is laid. -/
def Lw (w : World) : Prop := Lib.TabIs Tryd.prog w "internal/strconv.uint64pow10" .u64 Lib.pow10Tab ∧ True

theorem var_below {P : Program} {w w' : World} {name : String} {v : Array Value} (h : w.var? P name = some v) (hb : Below w.heap.size w w') : w'.var? P name = some v := by
  unfold World.var? at *
  cases hg : P.globalNamed name with
  | none => simp [hg] at h
  | some g =>
    simp only [hg, Option.bind_some] at h ⊢
    have hlt : g < w.heap.size := by
      rcases Nat.lt_or_ge g w.heap.size with h' | h'
      · exact h'
      · rw [Array.getElem?_eq_none h'] at h; simp at h
    rw [hb.block g hlt]
    exact h

theorem Lw.on {w w' : World} (h : Lw w) (hb : Below w.heap.size w w') : Lw w' := ⟨var_below h.1 hb, trivial⟩

/-- A text by its bytes. -/
abbrev S (l : List UInt8) : Value := .string ⟨l.toArray⟩

/-- What is asked of strconv.Itoa. -/
def ItoaSaid : Prop := ∀ (n : Int) (w : World), -9223372036854775808 ≤ n → n ≤ 9223372036854775807 → Lw w →
  Calls Tryd.prog 39 #[.int .i64 n] w fun e w' => e = .returned (.string ⟨(Lib.itoa n).toArray⟩) ∧ Below w.heap.size w w'

/-- Does that byte stand there? -/
def hasI (s : ByteArray) (a : Int) (n : Int) : Bool := match s.data.toList[a.toNat]? with
  | some c => decide ((c.toNat : Int) = n)
  | none => false

theorem hasI_none {s : ByteArray} {a n : Int} (h : s.size ≤ a.toNat) : hasI s a n = false := by
  unfold hasI; rw [List.getElem?_eq_none (by simpa using h)]
theorem hasI_some {s : ByteArray} {a n : Int} (h : a.toNat < s.size) : hasI s a n = decide ((s[a.toNat].toNat : Int) = n) := by
  unfold hasI; rw [List.getElem?_eq_getElem (by simpa using h)]; rfl

set_option maxHeartbeats 400000 in
theorem may_any (x : Int) (w : World) :
    Calls Tryd.prog 68 #[.int .i64 x] w fun e w' => e = .returned (.bool (mayB x)) ∧ w = w' := by
  by_cases h1 : -32768 ≤ x
  · have e : mayB x = decide (x ≤ 32767) := by unfold mayB; simp [h1]
    rw [e]; clear e
    go_enter Tryd.func68, Tryd.ntmps68
    go_wp2
    go_ret
    exact ⟨rfl, rfl⟩
  · have e : mayB x = false := by unfold mayB; simp [h1]
    rw [e]; clear e
    go_enter Tryd.func68, Tryd.ntmps68
    go_wp2
    go_ret
    exact ⟨rfl, rfl⟩

end Go.Proofs.YtgjhpmkahicnkaaDoor.Tm

namespace Go.Proofs.YtgjhpmkahicnkaaDoor.Tm
open Go.RowKit
set_option linter.unusedVariables false

/-- The digits and signs from a place on. -/
def run (s : ByteArray) (a : Nat) : List UInt8 := numPart (s.data.toList.drop a)

theorem run_le (s : ByteArray) (a : Nat) (h : a ≤ s.size) : a + (run s a).length ≤ s.size := by
  have := numPart_le (s.data.toList.drop a)
  rw [List.length_drop] at this
  have e : s.data.toList.length = s.size := by simp
  unfold run; omega
theorem run_in {s : ByteArray} {a j : Nat} (h : j < (run s a).length) (hs : a + j < s.size) : isNC s[a + j] = true := by
  have hm : (run s a)[j] ∈ run s a := List.getElem_mem h
  have h1 := numPart_all _ _ hm
  have e : (run s a)[j]? = (s.data.toList.drop a)[j]? := by
    have := numPart_take (s.data.toList.drop a)
    rw [show run s a = numPart (s.data.toList.drop a) from rfl]
    conv => lhs; rw [← this]
    rw [List.getElem?_take, if_pos (show j < (numPart (s.data.toList.drop a)).length from h)]
  rw [List.getElem?_eq_getElem h, List.getElem?_drop, List.getElem?_eq_getElem (by simpa using hs)] at e
  have e' := Option.some.inj e
  rw [e'] at h1
  exact h1
theorem run_out {s : ByteArray} {a : Nat} (hs : a + (run s a).length < s.size) : isNC s[a + (run s a).length] = false := by
  refine numPart_stop (s.data.toList.drop a) _ ?_
  rw [show (numPart (s.data.toList.drop a)).length = (run s a).length from rfl, List.getElem?_drop, List.getElem?_eq_getElem (by simpa using hs)]
  rfl

theorem nc_yes {c : UInt8} (h : isNC c = true) : (c.toNat : Int) = 45 ∨ ((c.toNat : Int) ≠ 45 ∧ 48 ≤ (c.toNat : Int) ∧ (c.toNat : Int) ≤ 57) := by
  unfold isNC at h
  simp only [Bool.or_eq_true, beq_iff_eq, Bool.and_eq_true, decide_eq_true_eq] at h
  rcases h with h | h
  · subst h; exact Or.inl rfl
  · exact Or.inr (by omega)
theorem nc_no {c : UInt8} (h : isNC c = false) : (c.toNat : Int) ≠ 45 ∧ ((c.toNat : Int) < 48 ∨ (48 ≤ (c.toNat : Int) ∧ 57 < (c.toNat : Int))) := by
  unfold isNC at h
  simp only [Bool.or_eq_false_iff, beq_eq_false_iff_ne, Bool.and_eq_false_imp, decide_eq_true_eq, decide_eq_false_iff_not] at h
  refine ⟨fun e => h.1 (by apply UInt8.toNat_inj.1; simp; omega), ?_⟩
  by_cases h48 : 48 ≤ c.toNat
  · exact Or.inr ⟨by omega, by have := h.2 h48; omega⟩
  · exact Or.inl (by omega)

theorem run_piece (s : ByteArray) (a : Nat) : (s.extract a (a + (run s a).length)).data.toList = run s a := by
  rw [Lib.extract_data, Nat.add_sub_cancel_left]; exact numPart_take _
theorem small_of {v : Int} (h : mayB v = true ∨ tagB v = true) : -100000 ≤ v ∧ v ≤ 100000 := by
  unfold mayB tagB at h
  simp only [Bool.and_eq_true, decide_eq_true_eq] at h
  omega
/-- Atoi took it, and it is or is not written so. -/
theorem dec_end {t : List UInt8} {n : Int} (hok : Lib.atoiAll t = .ok n) :
    ((Lib.itoa n == t) = true → canon t = some n) ∧ ((Lib.itoa n == t) = false → ∀ v, canon t = some v → mayB v = false ∧ tagB v = false) := by
  refine ⟨fun h => ?_, fun h v hv => ?_⟩
  · have e : Lib.itoa n = t := by simpa using h
    rw [← e]; exact canon_of_itoa n
  · have key : ¬ (mayB v = true ∨ tagB v = true) := fun hs => by
      obtain ⟨h1, h2⟩ := small_of hs
      have e := canon_atoi hv h1 h2
      rw [hok] at e
      have e : n = v := by injection e
      subst e
      rw [canon_itoa hv] at h; simp at h
    exact ⟨by cases hm : mayB v with
      | false => rfl
      | true => exact absurd (Or.inl hm) key, by cases hm : tagB v with
      | false => rfl
      | true => exact absurd (Or.inr hm) key⟩
/-- Atoi did not take it. -/
theorem dec_none {t : List UInt8} (hno : ∀ v, Lib.atoiAll t ≠ .ok v) : ∀ v, canon t = some v → mayB v = false ∧ tagB v = false := by
  intro v hv
  have key : ¬ (mayB v = true ∨ tagB v = true) := fun hs => by
    obtain ⟨h1, h2⟩ := small_of hs
    exact hno v (canon_atoi hv h1 h2)
  exact ⟨by cases hm : mayB v with
    | false => rfl
    | true => exact absurd (Or.inl hm) key, by cases hm : tagB v with
    | false => rfl
    | true => exact absurd (Or.inr hm) key⟩
theorem below_drewN (B : Nat) (w : World) (n : Nat) : Below B w (w.drewN n) := ⟨rfl, rfl, rfl, Nat.le_refl _, fun _ _ => rfl⟩
theorem below_next {a b c : World} (h : Below a.heap.size a b) (k : Below b.heap.size b c) : Below a.heap.size a c := h.trans (k.mono h.size)

end Go.Proofs.YtgjhpmkahicnkaaDoor.Tm

namespace Go.Proofs.YtgjhpmkahicnkaaDoor.Tm
open Go.RowKit
set_option linter.unusedVariables false
/-- A text from a place on. -/
def fr (s : ByteArray) (a : Nat) : List UInt8 := s.data.toList.drop a
/-- A piece of a text. -/
def pc (s : ByteArray) (p : Nat × Nat) : List UInt8 := (s.data.toList.drop p.1).take (p.2 - p.1)
/-- The cells of places. -/
def plc : List (Nat × Nat) → List Value
  | [] => []
  | p :: r => .int .i64 p.1 :: .int .i64 p.2 :: plc r

theorem plc_app : ∀ (a b : List (Nat × Nat)), plc (a ++ b) = plc a ++ plc b
  | [], b => rfl
  | p :: a, b => by simp only [List.cons_append, plc, plc_app a b]
theorem plc_length : ∀ (a : List (Nat × Nat)), (plc a).length = a.length * 2
  | [] => rfl
  | p :: a => by simp only [plc, List.length_cons, plc_length a]; omega

theorem own_below {W W' : World} {B e size n : Nat} {v : Value} {xs : List Value} (h : W.ownsRow B e size v n xs) (hb : Below W.heap.size W W') : W'.ownsRow B e size v n xs := by
  refine ⟨h.1, ?_⟩
  rcases h.2 with h2 | ⟨g, cap, cur, hv, hg, hh, r⟩
  · exact Or.inl h2
  · refine Or.inr ⟨g, cap, cur, hv, hg, ?_, r⟩
    have hlt : g < W.heap.size := by
      rcases Nat.lt_or_ge g W.heap.size with h' | h'
      · exact h'
      · rw [Array.getElem?_eq_none h'] at hh; cases hh
    rw [hb.block g hlt]; exact hh
theorem own_base {W : World} {B B' e size n : Nat} {v : Value} {xs : List Value} (h : W.ownsRow B e size v n xs) (hB : B' ≤ B) : W.ownsRow B' e size v n xs := by
  refine ⟨h.1, ?_⟩
  rcases h.2 with h2 | ⟨g, cap, cur, hv, hg, r⟩
  · exact Or.inl h2
  · exact Or.inr ⟨g, cap, cur, hv, by omega, r⟩
theorem own_shape {W : World} {B e size n : Nat} {v : Value} {xs : List Value} (h : W.ownsRow B e size v n xs) : ∃ g n c, v = .slice g n c := by
  rcases h.2 with ⟨h2, _⟩ | ⟨g, cap, cur, hv, _⟩
  · exact ⟨_, _, _, h2⟩
  · exact ⟨_, _, _, hv⟩

theorem bcell {W w1 : World} (hb : Below W.heap.size W w1) : (∀ b o, b < W.heap.size → w1.cell? ⟨b, o, none⟩ = W.cell? ⟨b, o, none⟩) ∧ (∀ b o, b < W.heap.size → w1.frozen? ⟨b, o, none⟩ = W.frozen? ⟨b, o, none⟩) :=
  ⟨fun b o h => hb.cell (p := ⟨b, o, none⟩) h, fun b o h => hb.frozen (p := ⟨b, o, none⟩) h⟩

end Go.Proofs.YtgjhpmkahicnkaaDoor.Tm

namespace Go.Proofs.YtgjhpmkahicnkaaDoor.Tm
open Go.RowKit
set_option linter.unusedVariables false

theorem con_none_a {rd : List UInt8 → Option Rd} {r : List UInt8} (h : ∀ v, canon (numPart r) = some v → tagB v = false) : conT rd r = none := by
  unfold conT
  cases hc : canon (numPart r) with
  | none => rfl
  | some v => simp only; rw [if_neg (by rw [h v hc]; simp)]
theorem con_none_b {rd : List UInt8 → Option Rd} {r : List UInt8} {v : Int} (hc : canon (numPart r) = some v) (ht : tagB v = true) (h40 : r[(numPart r).length]? = some 40)
    (hp : Tp rd 3 (r.drop ((numPart r).length + 1)) = none) : conT rd r = none := by
  unfold conT; rw [hc]; simp only; rw [if_pos ht, if_pos h40, hp]

theorem hasI_iff {s : ByteArray} {i : Int} {a : Nat} {c : UInt8} {n : Int} (hi : i = (a : Int)) (hn : n = (c.toNat : Int)) : hasI s i n = true ↔ s.data.toList[a]? = some c := by
  subst hi; subst hn
  unfold hasI
  rw [Int.toNat_natCast]
  cases h : s.data.toList[a]? with
  | none => simp
  | some d =>
    simp only [decide_eq_true_eq, Option.some.injEq]
    constructor
    · intro e; exact UInt8.toNat_inj.1 (by omega)
    · intro e; rw [e]
theorem hasI_not {s : ByteArray} {i : Int} {a : Nat} {c : UInt8} {n : Int} (hi : i = (a : Int)) (hn : n = (c.toNat : Int)) (h : hasI s i n = false) : s.data.toList[a]? ≠ some c := by
  intro e
  rw [(hasI_iff hi hn).2 e] at h; cases h

theorem fr_at (s : ByteArray) (a n : Nat) : (fr s a)[n]? = s.data.toList[a + n]? := by unfold fr; rw [List.getElem?_drop]
theorem fr_drop (s : ByteArray) (a n : Nat) : (fr s a).drop n = fr s (a + n) := by unfold fr; rw [List.drop_drop]

theorem con_eq_none (f : Nat) (s : ByteArray) (a : Nat) (h : ∀ v, canon (run s (a + 1)) = some v → tagB v = false) : conT (T f) (fr s (a + 1)) = none := con_none_a h
theorem con_eq_bare (f : Nat) (s : ByteArray) (a : Nat) {n : Int} (h1 : canon (run s (a + 1)) = some n) (ht : tagB n = true) (h40 : s.data.toList[a + 1 + (run s (a + 1)).length]? ≠ some 40) :
    conT (T f) (fr s (a + 1)) = some (2, n, [], 1 + (run s (a + 1)).length) := by
  refine conT_bare h1 ht ?_
  show (fr s (a + 1))[(run s (a + 1)).length]? ≠ some 40
  rw [fr_at]; exact h40
theorem con_eq_parts (f : Nat) (s : ByteArray) (a : Nat) {n : Int} (h1 : canon (run s (a + 1)) = some n) (ht : tagB n = true) (h40 : s.data.toList[a + 1 + (run s (a + 1)).length]? = some 40) :
    conT (T f) (fr s (a + 1)) = match Tp (T f) 3 (fr s (a + 1 + (run s (a + 1)).length + 1)) with
      | none => none
      | some (ks, m) => some (2, n, ks, 1 + (run s (a + 1)).length + 1 + m) := by
  have h40' : (fr s (a + 1))[(run s (a + 1)).length]? = some 40 := by rw [fr_at]; exact h40
  have e : (fr s (a + 1)).drop ((run s (a + 1)).length + 1) = fr s (a + 1 + (run s (a + 1)).length + 1) := by rw [fr_drop]; rfl
  rw [← e]
  unfold conT
  rw [show numPart (fr s (a + 1)) = run s (a + 1) from rfl, h1]
  simp only
  rw [if_pos ht, if_pos h40']
  cases Tp (T f) 3 ((fr s (a + 1)).drop ((run s (a + 1)).length + 1)) with
  | none => rfl
  | some x => obtain ⟨ks, m⟩ := x; rfl

end Go.Proofs.YtgjhpmkahicnkaaDoor.Tm

namespace Go.Proofs.YtgjhpmkahicnkaaDoor.Tm
open Go.RowKit
set_option linter.unusedVariables false

theorem fr_zero (s : ByteArray) (a : Nat) : (fr s a)[0]? = s.data.toList[a]? := by rw [fr_at]; rfl
theorem T_is_hole (f : Nat) (s : ByteArray) (a : Nat) (h : s.data.toList[a]? = some 95) : T (f + 1) (fr s a) = some (0, 0, [], 1) := T_hole (by rw [fr_zero]; exact h)
theorem T_is_fail (f : Nat) (s : ByteArray) (a : Nat) (h : s.data.toList[a]? = some 33) : T (f + 1) (fr s a) = some (3, 0, [], 1) := T_fail (by rw [fr_zero]; exact h)
theorem T_is_con (f : Nat) (s : ByteArray) (a : Nat) (h : s.data.toList[a]? = some 64) : T (f + 1) (fr s a) = conT (T f) (fr s (a + 1)) := by
  rw [T_con (by rw [fr_zero]; exact h), fr_drop]
theorem T_is_num (f : Nat) (s : ByteArray) (a : Nat) (h1 : s.data.toList[a]? ≠ some 95) (h2 : s.data.toList[a]? ≠ some 33) (h3 : s.data.toList[a]? ≠ some 64) : T (f + 1) (fr s a) = numT (fr s a) :=
  T_num (by rw [fr_zero]; exact h1) (by rw [fr_zero]; exact h2) (by rw [fr_zero]; exact h3)
theorem num_is_none (s : ByteArray) (a : Nat) (h : ∀ v, canon (run s a) = some v → mayB v = false) : numT (fr s a) = none := by
  unfold numT
  rw [show numPart (fr s a) = run s a from rfl]
  cases hc : canon (run s a) with
  | none => rfl
  | some v => simp only; rw [if_neg (by rw [h v hc]; simp)]
theorem num_is_some (s : ByteArray) (a : Nat) {n : Int} (h : canon (run s a) = some n) (hm : mayB n = true) : numT (fr s a) = some (1, n, [], (run s a).length) := by
  unfold numT
  rw [show numPart (fr s a) = run s a from rfl, h]
  simp only; rw [if_pos hm]

end Go.Proofs.YtgjhpmkahicnkaaDoor.Tm

namespace Go.Proofs.YtgjhpmkahicnkaaDoor.Tm
open Go.RowKit
set_option linter.unusedVariables false
/-- So far, and what is still to come. -/
def Sofar (f : Nat) (s : ByteArray) (a : Nat) (ps : List (Nat × Nat)) (c : Nat) : Prop :=
  Tp (T f) 3 (fr s a) = match Tp (T f) (3 - ps.length) (fr s c) with
    | none => none
    | some (ks, m) => some (ps.map (pc s) ++ ks, c - a + m)

theorem own_len {W : World} {B e size n : Nat} {v : Value} {xs : List Value} (h : W.ownsRow B e size v n xs) : ∃ g c, v = .slice g n c ∧ ∀ a, v.ownBlock = some a → B ≤ a ∧ a < W.heap.size := by
  rcases h.2 with ⟨h2, h3⟩ | ⟨g, cap, cur, hv, hB, hh, _⟩
  · subst h3; exact ⟨_, _, h2, fun a e => by subst h2; cases e⟩
  · refine ⟨_, _, hv, fun a e => ?_⟩
    subst hv
    have e : g = a := Option.some.inj e
    subst e
    refine ⟨hB, ?_⟩
    rcases Nat.lt_or_ge g W.heap.size with h' | h'
    · exact h'
    · rw [Array.getElem?_eq_none h'] at hh; cases hh

theorem sofar_start (f : Nat) (s : ByteArray) (a : Nat) : Sofar f s a [] a := by
  unfold Sofar
  show Tp (T f) 3 (fr s a) = match Tp (T f) 3 (fr s a) with
    | none => none
    | some (ks, m) => some ([] ++ ks, a - a + m)
  cases Tp (T f) 3 (fr s a) with
  | none => rfl
  | some x => obtain ⟨ks, m⟩ := x; simp
theorem sofar_full {f : Nat} {s : ByteArray} {a : Nat} {ps : List (Nat × Nat)} {c : Nat} (h : Sofar f s a ps c) (hl : ps.length = 3) : Tp (T f) 3 (fr s a) = none := by
  unfold Sofar at h; rw [h, hl]; rfl
theorem sofar_none {f : Nat} {s : ByteArray} {a : Nat} {ps : List (Nat × Nat)} {c : Nat} (h : Sofar f s a ps c) (hl : ps.length < 3) (hT : T f (fr s c) = none) : Tp (T f) 3 (fr s a) = none := by
  unfold Sofar at h
  obtain ⟨k, hk⟩ : ∃ k, 3 - ps.length = k + 1 := ⟨2 - ps.length, by omega⟩
  rw [h, hk]
  unfold Tp; rw [hT]
theorem fr_len (s : ByteArray) (c : Nat) : (fr s c).length = s.size - c := by unfold fr; rw [List.length_drop]; simp
theorem fr_take (s : ByteArray) (c n : Nat) : (fr s c).take n = pc s (c, c + n) := by
  unfold fr pc; simp only; rw [Nat.add_sub_cancel_left]
theorem sofar_bad {f : Nat} {s : ByteArray} {a : Nat} {ps : List (Nat × Nat)} {c : Nat} (h : Sofar f s a ps c) (hl : ps.length < 3) {y : Rd} (hT : T f (fr s c) = some y)
    (h41 : s.data.toList[c + y.2.2.2]? ≠ some 41) (h32 : s.data.toList[c + y.2.2.2]? ≠ some 32) : Tp (T f) 3 (fr s a) = none := by
  unfold Sofar at h
  obtain ⟨k, hk⟩ : ∃ k, 3 - ps.length = k + 1 := ⟨2 - ps.length, by omega⟩
  rw [h, hk]
  obtain ⟨p, q, r, n⟩ := y
  unfold Tp; rw [hT]; simp only at h41 h32 ⊢
  rw [if_neg (by rw [fr_at]; exact h41), if_neg (by rw [fr_at]; exact h32)]
theorem sofar_last {f : Nat} {s : ByteArray} {a : Nat} {ps : List (Nat × Nat)} {c : Nat} (h : Sofar f s a ps c) (hl : ps.length < 3) (hac : a ≤ c) {y : Rd} (hT : T f (fr s c) = some y)
    (h41 : s.data.toList[c + y.2.2.2]? = some 41) : Tp (T f) 3 (fr s a) = some ((ps ++ [(c, c + y.2.2.2)]).map (pc s), c - a + (y.2.2.2 + 1)) := by
  unfold Sofar at h
  obtain ⟨k, hk⟩ : ∃ k, 3 - ps.length = k + 1 := ⟨2 - ps.length, by omega⟩
  rw [h, hk, Tp_last hT (by rw [fr_at]; exact h41)]
  simp only [fr_take, List.map_append, List.map_cons, List.map_nil]
theorem sofar_on {f : Nat} {s : ByteArray} {a : Nat} {ps : List (Nat × Nat)} {c : Nat} (h : Sofar f s a ps c) (hl : ps.length < 3) (hac : a ≤ c) {y : Rd} (hT : T f (fr s c) = some y)
    (h32 : s.data.toList[c + y.2.2.2]? = some 32) : Sofar f s a (ps ++ [(c, c + y.2.2.2)]) (c + y.2.2.2 + 1) := by
  unfold Sofar at h ⊢
  obtain ⟨k, hk⟩ : ∃ k, 3 - ps.length = k + 1 := ⟨2 - ps.length, by omega⟩
  have hk2 : 3 - (ps ++ [(c, c + y.2.2.2)]).length = k := by simp; omega
  rw [h, hk, hk2]
  have hd : (fr s c).drop (y.2.2.2 + 1) = fr s (c + y.2.2.2 + 1) := by rw [fr_drop]; rfl
  cases ht : Tp (T f) k (fr s (c + y.2.2.2 + 1)) with
  | none =>
    obtain ⟨p, q, r, n⟩ := y
    unfold Tp; rw [hT]; simp only at h32 hd ht ⊢
    rw [if_neg (by rw [fr_at, h32]; decide), if_pos (by rw [fr_at]; exact h32), hd, ht]
  | some x =>
    obtain ⟨ks, m⟩ := x
    rw [Tp_on hT (by rw [fr_at]; exact h32) (by rw [hd]; exact ht)]
    simp only [fr_take, List.map_append, List.map_cons, List.map_nil, List.append_assoc, List.cons_append, List.nil_append]
    congr 2; omega

theorem places_on {ps : List (Nat × Nat)} {N : Nat} {p : Nat × Nat} (h : ∀ p ∈ ps, p.1 ≤ p.2 ∧ p.2 ≤ N) (hp : p.1 ≤ p.2 ∧ p.2 ≤ N) : ∀ q ∈ ps ++ [p], q.1 ≤ q.2 ∧ q.2 ≤ N := by
  intro q hq
  rcases List.mem_append.1 hq with e | e
  · exact h q e
  · rw [List.mem_singleton] at e; subst e; exact hp

end Go.Proofs.YtgjhpmkahicnkaaDoor.Tm

namespace Go.Proofs.YtgjhpmkahicnkaaDoor.Tm
open Go.RowKit
set_option linter.unusedVariables false
theorem whole_big {l : List UInt8} (h : 1024 < l.length) : whole l = none := by unfold whole; rw [if_neg (by omega)]
end Go.Proofs.YtgjhpmkahicnkaaDoor.Tm

namespace Go.Proofs.YtgjhpmkahicnkaaDoor.Tm
open Go.RowKit
set_option linter.unusedVariables false
theorem Tryd.info9 : (Tryd.prog.info? 9).map (fun i => (i.zero, i.size, i.bytes)) = some (some (.string ⟨#[]⟩), 1, 16) := by kernel_rfl

theorem piece_eq (s : ByteArray) (p : Nat × Nat) : s.extract p.1 p.2 = ⟨(pc s p).toArray⟩ := by
  apply ByteArray.ext
  apply Array.ext'
  rw [Lib.extract_data]
  rfl

/-- What Cut hands back. -/
def GotC (B : Nat) (w : World) (o : Option (Int × Int × List (List UInt8))) (k x : Int) (v : Value) (er : Int) : Prop :=
  match o with
  | none => k = 0 ∧ x = 0 ∧ v = .slice none 0 0 ∧ er = 200
  | some (k', x', ks) => k = k' ∧ x = x' ∧ er = 0 ∧ w.ownsRow B 9 1 v ks.length (ks.map S)

theorem plc_at : ∀ (ps : List (Nat × Nat)) (j : Nat) (h : j < ps.length), (plc ps)[j * 2]? = some (.int .i64 (ps[j].1 : Int)) ∧ (plc ps)[j * 2 + 1]? = some (.int .i64 (ps[j].2 : Int))
  | [], j, h => by simp at h
  | p :: ps, 0, h => by simp [plc]
  | p :: ps, j + 1, h => by
    have := plc_at ps j (by simpa using h)
    rw [show (j + 1) * 2 = j * 2 + 2 by omega]
    simpa [plc] using this

end Go.Proofs.YtgjhpmkahicnkaaDoor.Tm

namespace Go.Proofs.YtgjhpmkahicnkaaDoor.Tm
open Go.RowKit
set_option linter.unusedVariables false

theorem itoa_said : ItoaSaid := by
  intro n w h0 h1 hw
  refine (Any.strconv_Itoa Tryd.laysM171 n h0 h1 w hw.1).mono ?_
  rintro e w' ⟨rfl, k, os, rfl⟩
  exact ⟨rfl, Lib.below_grow _ _ (Nat.le_refl _) _ _⟩

end Go.Proofs.YtgjhpmkahicnkaaDoor.Tm

namespace Go.Proofs.YtgjhpmkahicnkaaDoor.Tm
open Go.RowKit
set_option linter.unusedVariables false

/-- What headOf hands back. -/
def GotH (o : Option (List UInt8)) (h : ByteArray) (b : Bool) : Prop := match o with
  | none => b = false
  | some t => b = true ∧ h = ⟨t.toArray⟩

theorem head_zero (num : Int) : head 0 num = if num = 0 then some [95] else none := by unfold head; rw [if_pos rfl]
theorem head_three (num : Int) : head 3 num = if num = 0 then some [33] else none := by unfold head; rw [if_neg (by decide), if_pos rfl]
theorem head_one (num : Int) : head 1 num = if mayB num then some (Lib.itoa num) else none := by unfold head; rw [if_neg (by decide), if_neg (by decide), if_pos rfl]
theorem head_two (num : Int) : head 2 num = if tagB num then some (64 :: Lib.itoa num) else none := by unfold head; rw [if_neg (by decide), if_neg (by decide), if_neg (by decide), if_pos rfl]
theorem head_other {kind : Int} (num : Int) (h0 : kind ≠ 0) (h1 : kind ≠ 1) (h2 : kind ≠ 2) (h3 : kind ≠ 3) : head kind num = none := by
  unfold head; rw [if_neg h0, if_neg h3, if_neg h1, if_neg h2]

/-- How headOf ends. -/
def HeadQ (kind num : Int) (w : World) (e : Ending) (w' : World) : Prop := ∃ h b, e = .returned (.tuple #[.string h, .bool b]) ∧ Below w.heap.size w w' ∧ GotH (head kind num) h b

theorem headQ_mk {kind num : Int} {w w' : World} (h : ByteArray) (b : Bool) (hb : Below w.heap.size w w') (hg : GotH (head kind num) h b) : HeadQ kind num w (.returned (.tuple #[.string h, .bool b])) w' := ⟨h, b, rfl, hb, hg⟩
theorem bytes_add (a b : List UInt8) : (⟨a.toArray⟩ : ByteArray) ++ ⟨b.toArray⟩ = ⟨(a ++ b).toArray⟩ := by
  apply ByteArray.ext
  simp

/-- A slice's texts, wherever it lies. -/
def Txts (w : World) (g : Option Addr) (xs : List ByteArray) : Prop :=
  xs = [] ∨ ∃ bk o, g = some ⟨bk, o, none⟩ ∧ bk < w.heap.size ∧ ∀ (j : Nat) x, xs[j]? = some x → w.cell? ⟨bk, o + j, none⟩ = some (.string x)

theorem Txts.on {w w' : World} {g : Option Addr} {xs : List ByteArray} (h : Txts w g xs) (hb : Below w.heap.size w w') : Txts w' g xs := by
  rcases h with h | ⟨bk, o, h1, h2, h3⟩
  · exact Or.inl h
  · exact Or.inr ⟨bk, o, h1, Nat.lt_of_lt_of_le h2 hb.size, fun j x hx => by rw [hb.cell (p := ⟨bk, o + j, none⟩) h2]; exact h3 j x hx⟩

/-- The texts as lists of bytes. -/
def lst (xs : List ByteArray) : List (List UInt8) := xs.map (·.data.toList)

theorem behind_nil (kind : Int) : behind kind [] = true := rfl
theorem behind_bad {kind : Int} {kids : List (List UInt8)} (hne : kids ≠ []) (h : kind ≠ 2 ∨ 3 < kids.length) : behind kind kids = false := by
  unfold behind
  rw [List.isEmpty_eq_false_iff.2 hne]
  rcases h with h | h
  · simp [h]
  · have : ¬ kids.length ≤ 3 := by omega
    simp [this]
theorem behind_all {kids : List (List UInt8)} (hne : kids ≠ []) (h : kids.length ≤ 3) : behind 2 kids = kids.all fun s => (whole s).isSome := by
  unfold behind
  rw [List.isEmpty_eq_false_iff.2 hne]
  simp [h]

end Go.Proofs.YtgjhpmkahicnkaaDoor.Tm

namespace Go.Proofs.YtgjhpmkahicnkaaDoor.Tm
open Go.RowKit
set_option linter.unusedVariables false

def mkT (o : Option (List UInt8)) : List UInt8 := match o with
  | none => []
  | some r => r
def mkE (o : Option (List UInt8)) : Int := match o with
  | none => 200
  | some _ => 0

/-- How Make ends. -/
def MakeQ (o : Option (List UInt8)) (w : World) (e : Ending) (w' : World) : Prop := e = .returned (.tuple #[S (mkT o), .int .i64 (mkE o)]) ∧ Below w.heap.size w w'

theorem jn_le : ∀ (l : List (List UInt8)) (N : Nat), (∀ s ∈ l, s.length ≤ N) → (jn l).length ≤ l.length * (N + 1)
  | [], N, h => by simp [jn]
  | [a], N, h => by have := h a (by simp); simp [jn]; omega
  | a :: b :: r, N, h => by
    have ih := jn_le (b :: r) N (fun s hs => h s (List.mem_cons_of_mem _ hs))
    have := h a (by simp)
    simp only [jn, List.length_append, List.length_cons] at ih ⊢
    rw [Nat.add_mul]; omega

theorem behind_some {kind : Int} {kids : List (List UInt8)} (hne : kids ≠ []) (h : behind kind kids = true) : kind = 2 ∧ kids.length ≤ 3 ∧ ∀ s ∈ kids, s.length ≤ 1024 := by
  unfold behind at h
  simp only [Bool.or_eq_true, Bool.and_eq_true, decide_eq_true_eq, List.isEmpty_iff, List.all_eq_true] at h
  rcases h with e | ⟨⟨e1, e2⟩, e3⟩
  · exact absurd e hne
  · refine ⟨e1, e2, fun s hs => ?_⟩
    obtain ⟨y, hy⟩ := Option.isSome_iff_exists.1 (e3 s hs)
    obtain ⟨a, b, c⟩ := y
    exact (whole_some hy).1

theorem head_len {kind num : Int} {h : List UInt8} (h0 : -9223372036854775808 ≤ num) (h1 : num ≤ 9223372036854775807) (hh : head kind num = some h) : h.length ≤ 22 := by
  have hl := Lib.itoa_length_le num h0 h1
  unfold head at hh
  split at hh
  · split at hh
    · have e := Option.some.inj hh; subst e; simp
    · cases hh
  · split at hh
    · split at hh
      · have e := Option.some.inj hh; subst e; simp
      · cases hh
    · split at hh
      · split at hh
        · have e := Option.some.inj hh; subst e; omega
        · cases hh
      · split at hh
        · split at hh
          · have e := Option.some.inj hh; subst e; simp; omega
          · cases hh
        · cases hh

theorem mk_head_none {kind num : Int} (kids : List (List UInt8)) (h : head kind num = none) : mk kind num kids = none := by unfold mk; rw [h]
theorem mk_behind_no {kind num : Int} {kids : List (List UInt8)} {t : List UInt8} (h : head kind num = some t) (hb : behind kind kids = false) : mk kind num kids = none := by
  unfold mk; rw [h]; simp only; rw [if_neg (by rw [hb]; simp)]
theorem mk_yes {kind num : Int} {kids : List (List UInt8)} {t : List UInt8} (h : head kind num = some t) (hb : behind kind kids = true) (hl : (t ++ tail kids).length ≤ 1024) : mk kind num kids = some (t ++ tail kids) := by
  unfold mk; rw [h]; simp only; rw [if_pos hb, if_pos hl]
theorem mk_long {kind num : Int} {kids : List (List UInt8)} {t : List UInt8} (h : head kind num = some t) (hb : behind kind kids = true) (hl : ¬ (t ++ tail kids).length ≤ 1024) : mk kind num kids = none := by
  unfold mk; rw [h]; simp only; rw [if_pos hb, if_neg hl]

theorem makeQ_none {o : Option (List UInt8)} {w w' : World} (h : o = none) (hb : Below w.heap.size w w') : MakeQ o w (.returned (.tuple #[.string ⟨#[]⟩, .int .i64 200])) w' := by
  subst h; exact ⟨rfl, hb⟩
theorem makeQ_some {o : Option (List UInt8)} {w w' : World} {t : List UInt8} {s : ByteArray} (h : o = some t) (hs : s = ⟨t.toArray⟩) (hb : Below w.heap.size w w') : MakeQ o w (.returned (.tuple #[.string s, .int .i64 0])) w' := by
  subst h; subst hs; exact ⟨rfl, hb⟩

end Go.Proofs.YtgjhpmkahicnkaaDoor.Tm

namespace Go.Proofs.YtgjhpmkahicnkaaDoor.Tm
open Go.RowKit
set_option linter.unusedVariables false

set_option maxHeartbeats 400000 in
theorem num_any (x : Int) (w : World) :
    Calls Tryd.prog 10 #[.int .i64 x] w fun e w' => e = .returned (.int .i64 x) ∧ w = w' := by
  go_enter Tryd.func10, Tryd.ntmps10
  go_wp2
  go_ret
  exact ⟨rfl, rfl⟩

/-- The same texts? -/
def sameB (xs ys : List ByteArray) : Bool := decide (xs = ys)

theorem txts_at {w : World} {g : Option Addr} {xs : List ByteArray} (h : Txts w g xs) {j : Nat} (hj : j < xs.length) : ∃ bk o, g = some ⟨bk, o, none⟩ ∧ w.cell? ⟨bk, o + j, none⟩ = some (.string xs[j]) := by
  rcases h with h | ⟨bk, o, h1, _, h3⟩
  · subst h; simp at hj
  · exact ⟨bk, o, h1, h3 j _ (List.getElem?_eq_getElem hj)⟩

theorem below_two {a b : World} (h : ∃ n, b = a.drewN n) : Below a.heap.size a b := by
  obtain ⟨n, rfl⟩ := h; exact below_drewN _ _ _

/-- Texts as values' bytes. -/
def ba (l : List UInt8) : ByteArray := ⟨l.toArray⟩
theorem own_txts {w : World} {B : Nat} {v : Value} {ks : List (List UInt8)} (h : w.ownsRow B 9 1 v ks.length (ks.map S)) : ∃ g c, v = .slice g (ks.map ba).length c ∧ Txts w g (ks.map ba) ∧ ks.length ≤ c := by
  rcases h.2 with ⟨h2, h3⟩ | ⟨g, cap, cur, hv, hB, hh, hc, _⟩
  · have e : ks = [] := List.length_eq_zero_iff.1 h3
    subst e
    exact ⟨none, 0, h2, Or.inl rfl, Nat.le_refl _⟩
  · refine ⟨_, cap, by rw [List.length_map]; exact hv, Or.inr ⟨g, 0, rfl, ?_, ?_⟩, hc⟩
    · rcases Nat.lt_or_ge g w.heap.size with h' | h'
      · exact h'
      · rw [Array.getElem?_eq_none h'] at hh; cases hh
    · intro j x hj
      subst hv
      have e : (ks.map S)[j]? = some (.string x) := by
        rw [List.getElem?_map] at hj ⊢
        cases hk : ks[j]? with
        | none => rw [hk] at hj; cases hj
        | some l => rw [hk] at hj; have e := Option.some.inj hj; subst e; rfl
      have := h.cells (g := g) rfl j _ e
      rw [Lib.add_plain] at this
      exact this
theorem lst_ba (ks : List (List UInt8)) : lst (ks.map ba) = ks := by
  unfold lst; rw [List.map_map]
  have : (fun l : List UInt8 => (ba l).data.toList) = id := rfl
  show ks.map (fun l => (ba l).data.toList) = ks
  rw [this, List.map_id]
/-- The cells of a new row of texts. -/
theorem new_txts (w : World) (ks : List ByteArray) : Txts (w.alloc (Obj.cells (ks.map Value.string).toArray 9)) (some ⟨w.heap.size, 0, none⟩) ks := by
  refine Or.inr ⟨w.heap.size, 0, rfl, by simp, fun j x hj => ?_⟩
  rw [Nat.zero_add, World.cell?_alloc_new]
  simp [hj]
end Go.Proofs.YtgjhpmkahicnkaaDoor.Tm

namespace Go.Proofs.YtgjhpmkahicnkaaDoor.Tm
open Go.RowKit
set_option linter.unusedVariables false

theorem w_one : whole [64, 49, 50, 40, 45, 55, 32, 64, 48, 32, 95, 41] = some (2, 12, [[45, 55], [64, 48], [95]]) := by decide +kernel
theorem w_two : whole [64, 49, 40, 41] = none := by decide +kernel
theorem w_three : (whole [33]).isSome = true := by decide +kernel
theorem w_four : (whole [48, 49]).isSome = false := by decide +kernel
theorem w_five : mk 2 12 [[45, 55], [64, 48], [95]] = some [64, 49, 50, 40, 45, 55, 32, 64, 48, 32, 95, 41] := whole_mkd w_one
theorem w_six : mk 1 32768 [] = none := by
  refine mk_head_none [] ?_
  rw [head_one]; rfl

end Go.Proofs.YtgjhpmkahicnkaaDoor.Tm

namespace Go.Proofs.YtgjhpmkahicnkaaDoor.Tm
open Go.RowKit
set_option linter.unusedVariables false

/-- So many digits from the front tell this number, and there it stops. -/
def DigQ (l : List UInt8) (x k : Nat) : Prop :=
  k ≤ l.length ∧ k ≤ 6 ∧ Lib.decFrom 0 (l.take k) = some x ∧ (2 ≤ k → l[0]? ≠ some 48) ∧
    (k = l.length ∨ k = 6 ∨ (∀ c, l[k]? = some c → isDg c = false) ∨ (k ≠ 0 ∧ l[0]? = some 48))

theorem dig_bound {l : List UInt8} {x j : Nat} (h : Lib.decFrom 0 (l.take j) = some x) (hj : j ≤ 5) : x < 100000 := by
  have h1 := Lib.decFrom_lt _ 0 x h
  have h2 : (l.take j).length ≤ 5 := by rw [List.length_take]; omega
  have h3 := Nat.pow_le_pow_right (n := 10) (by decide) h2
  have e : (10 : Nat) ^ 5 = 100000 := by decide
  omega
theorem dig_step {s : ByteArray} {x j : Nat} (h : Lib.decFrom 0 (s.data.toList.take j) = some x) (hj : j < s.size) (h1 : 48 ≤ (s[j].toNat : Int)) (h2 : (s[j].toNat : Int) ≤ 57) :
    Lib.decFrom 0 (s.data.toList.take (j + 1)) = some (x * 10 + (s[j].toNat - 48)) := by
  refine Lib.decFrom_take s.data.toList j 0 x s[j] _ h ?_ ?_
  · rw [List.getElem?_eq_getElem (by simpa using hj)]; rfl
  · unfold Lib.digitVal; rw [if_pos (by omega)]

theorem zero_at {s : ByteArray} (h : 0 < s.size) : s.data.toList[0]? = some s[0] := by
  rw [List.getElem?_eq_getElem (by simpa using h)]; rfl

set_option maxHeartbeats 1600000 in
set_option maxRecDepth 100000 in
theorem digits_any (s : ByteArray) (w : World) (hs : s.size ≤ 1024) :
    Calls Tryd.prog 43 #[.string s] w fun e w' => ∃ x k : Nat, e = .returned (.tuple #[.int .i64 (x : Int), .int .i64 (k : Int)]) ∧ w = w' ∧ DigQ s.data.toList x k := by
  go_enter Tryd.func43, Tryd.ntmps43
  go_wp2_with fail
  go_loop [4, 5] (fun a b => ∃ x j : Nat, j ≤ s.size ∧ j ≤ 6 ∧ a = .int .i64 (x : Int) ∧ b = .int .i64 (j : Int) ∧ Lib.decFrom 0 (s.data.toList.take j) = some x ∧ (2 ≤ j → s.data.toList[0]? ≠ some 48))
    (fun _ b => s.size - (intOf b).toNat)
  case atStart => exact ⟨0, 0, Nat.zero_le _, by omega, rfl, rfl, rfl, fun h => by omega⟩
  case round =>
    obtain ⟨x, j, hj, hj6, rfl, rfl, hd, hz⟩ := hrel
    have HD : Hid (Lib.decFrom 0 (s.data.toList.take j) = some x) := hd
    clear hd
    have HZ : Hid (2 ≤ j → s.data.toList[0]? ≠ some 48) := hz
    clear hz
    by_cases hlt : j < s.size
    · by_cases h6 : j < 6
      · have hx := dig_bound HD.out (by omega)
        by_cases hdg : 48 ≤ (s[j].toNat : Int) ∧ (s[j].toNat : Int) ≤ 57
        · obtain ⟨h1, h2⟩ := hdg
          have HN : Hid (Lib.decFrom 0 (s.data.toList.take (j + 1)) = some (x * 10 + (s[j].toNat - 48))) := dig_step HD.out hlt h1 h2
          by_cases hj0 : j = 0
          · have HJ : Hid (j = 0) := hj0
            have hb0 : ((j : Int) == 0) = true := by simp [hj0]
            clear hj0
            go_wp2_with fail
            go_round
            case rel =>
              refine ⟨x * 10 + (s[j].toNat - 48), j + 1, by omega, by omega, ?_, by go_num, HN.out, fun h => ?_⟩
              · congr 1; omega
              · have := HJ.out; omega
            case measure => simp [intOf]; omega
          · have hb0 : ((j : Int) == 0) = false := by simp; exact hj0
            have hpos : 0 < s.size := by omega
            by_cases hs0 : (s[0].toNat : Int) = 48
            · have hq : ((s[0].toNat : Int) == 48) = true := by simp [hs0]
              have hq2 : ((s[0].toNat : Int) != 48) = false := by simp [hs0]
              have HS0 : Hid ((s[0].toNat : Int) = 48) := hs0
              clear hs0
              go_wp2_with fail
              go_ret2
              refine ⟨x, j, rfl, rfl, by simpa using hj, hj6, HD.out, HZ.out, Or.inr (Or.inr (Or.inr ⟨?_, ?_⟩))⟩
              · intro e; rw [e] at hb0; simp at hb0
              · rw [zero_at hpos]; congr 1; exact UInt8.toNat_inj.1 (by have := HS0.out; simp; omega)
            · have hq2 : ((s[0].toNat : Int) != 48) = true := by simp; exact hs0
              have HNZ : Hid (s.data.toList[0]? ≠ some 48) := by
                show s.data.toList[0]? ≠ some 48
                rw [zero_at hpos]
                intro e
                have e := Option.some.inj e
                exact hs0 (by rw [e]; rfl)
              clear hs0
              go_wp2_with fail
              go_round
              case rel =>
                refine ⟨x * 10 + (s[j].toNat - 48), j + 1, by omega, by omega, ?_, by go_num, HN.out, fun _ => HNZ.out⟩
                congr 1; omega
              case measure => simp [intOf]; omega
        · have hor : (s[j].toNat : Int) < 48 ∨ (48 ≤ (s[j].toNat : Int) ∧ 57 < (s[j].toNat : Int)) := by omega
          have HND : Hid (∀ c, s.data.toList[j]? = some c → isDg c = false) := by
            show ∀ c, s.data.toList[j]? = some c → isDg c = false
            intro c hc
            rw [List.getElem?_eq_getElem (by simpa using hlt)] at hc
            have e : s[j] = c := Option.some.inj hc
            subst e
            unfold isDg
            simp only [Bool.and_eq_false_iff, decide_eq_false_iff_not]
            omega
          clear hdg
          rcases hor with h1 | ⟨h1, h2⟩
          all_goals
            go_wp2_with fail
            go_ret2
            exact ⟨x, j, rfl, rfl, by simpa using hj, hj6, HD.out, HZ.out, Or.inr (Or.inr (Or.inl HND.out))⟩
      · go_wp2_with fail
        go_ret2
        exact ⟨x, j, rfl, rfl, by simpa using hj, hj6, HD.out, HZ.out, Or.inr (Or.inl (by omega))⟩
    · go_wp2_with fail
      go_ret2
      exact ⟨x, j, rfl, rfl, by simpa using hj, hj6, HD.out, HZ.out, Or.inl (by simp; omega)⟩
end Go.Proofs.YtgjhpmkahicnkaaDoor.Tm

namespace Go.Proofs.YtgjhpmkahicnkaaDoor.Tm
open Go.RowKit
set_option linter.unusedVariables false

theorem decFrom_mono {l r : List UInt8} {acc a v : Nat} (h : Lib.decFrom acc l = some a) (h2 : Lib.decFrom acc (l ++ r) = some v) : a ≤ v := by
  rw [decFrom_append l r acc a h] at h2
  exact decNat_digits.decFrom_ge r a v h2

/-- The digits are a beginning of the numeral. -/
theorem take_numPart {l : List UInt8} {x k : Nat} (h : DigQ l x k) : ∃ r, numPart l = l.take k ++ r := by
  obtain ⟨h1, _, h3, _, _⟩ := h
  have key : ∀ (k : Nat) (l : List UInt8), k ≤ l.length → (∀ i c, i < k → l[i]? = some c → isNC c = true) → ∃ r, numPart l = l.take k ++ r := by
    intro k
    induction k with
    | zero => intro l _ _; exact ⟨numPart l, by simp⟩
    | succ k ih =>
      intro l hk hc
      cases l with
      | nil => simp at hk
      | cons c l =>
        obtain ⟨r, hr⟩ := ih l (by simpa using hk) (fun i d hi hd => hc (i + 1) d (by omega) (by simpa using hd))
        refine ⟨r, ?_⟩
        have hcc := hc 0 c (by omega) rfl
        show (c :: l).takeWhile isNC = _
        rw [List.takeWhile_cons, if_pos hcc]
        show c :: numPart l = _
        rw [hr]; rfl
  refine key k l h1 (fun i c hi hc => ?_)
  obtain ⟨d, hd⟩ := Lib.digit_of_decFrom _ 0 x h3 i c (by rw [List.getElem?_take, if_pos hi]; exact hc)
  exact isNC_dg (dg_of_val hd)

theorem digit_first {l : List UInt8} {x k : Nat} (h : DigQ l x k) (hk : k ≠ 0) : ∃ c l', l = c :: l' ∧ isDg c = true := by
  obtain ⟨h1, _, h3, _, _⟩ := h
  cases l with
  | nil => simp at h1; omega
  | cons c l' =>
    refine ⟨c, l', rfl, ?_⟩
    obtain ⟨d, hd⟩ := Lib.digit_of_decFrom _ 0 x h3 0 c (by rw [List.getElem?_take, if_pos (by omega)]; rfl)
    exact dg_of_val hd

theorem dg_not_minus {c : UInt8} (h : isDg c = true) : c ≠ 45 := by
  intro e; subst e; simp [isDg] at h

/-- A numeral that opens with a digit: its value is that of its digits. -/
theorem canon_dg {c : UInt8} {r : List UInt8} {v : Int} (hc : isDg c = true) (h : canon (c :: r) = some v) : ∃ m : Nat, v = (m : Int) ∧ Lib.decFrom 0 (c :: r) = some m ∧ (c = 48 → r = []) := by
  rw [canon, if_neg (dg_not_minus hc)] at h
  by_cases h48 : c = 48
  · rw [if_pos h48] at h
    by_cases hr : r = []
    · rw [if_pos hr] at h
      have e := Option.some.inj h
      subst hr; subst h48
      exact ⟨0, e.symm, rfl, fun _ => rfl⟩
    · rw [if_neg hr] at h; cases h
  · rw [if_neg h48] at h
    cases hm : Lib.decNat (c :: r) with
    | none => rw [hm] at h; cases h
    | some m =>
      rw [hm] at h
      exact ⟨m, (Option.some.inj h).symm, (Lib.decNat_some hm).2, fun e => absurd e h48⟩
theorem canon_dg_mk {c : UInt8} {r : List UInt8} {m : Nat} (hc : isDg c = true) (h : Lib.decFrom 0 (c :: r) = some m) (hz : c = 48 → r = []) : canon (c :: r) = some (m : Int) := by
  rw [canon, if_neg (dg_not_minus hc)]
  by_cases h48 : c = 48
  · have hr := hz h48
    subst hr; subst h48
    rw [if_pos rfl, if_pos rfl]
    have e : Lib.decFrom 0 [48] = some 0 := rfl
    rw [e] at h
    have := Option.some.inj h
    subst this; rfl
  · rw [if_neg h48]
    have : Lib.decNat (c :: r) = some m := by unfold Lib.decNat; simpa using h
    rw [this]; rfl

/-- No digit at the front: what is read there is below 0, or nothing. -/
theorem dig_none {l : List UInt8} {x : Nat} (h : DigQ l x 0) : ∀ v, canon (numPart l) = some v → v < 0 := by
  intro v hv
  obtain ⟨_, _, _, _, hstop⟩ := h
  cases l with
  | nil => cases hv
  | cons c l' =>
    have hnd : isDg c = false := by
      rcases hstop with e | e | e | ⟨e, _⟩
      · simp at e
      · omega
      · exact e c rfl
      · exact absurd rfl e
    have hcc : c = 45 := by
      by_cases hn : isNC c = true
      · unfold isNC at hn; unfold isDg at hnd
        simp only [Bool.or_eq_true, beq_iff_eq] at hn
        rcases hn with e | e
        · exact e
        · rw [hnd] at e; cases e
      · unfold numPart at hv
        rw [List.takeWhile_cons, if_neg hn] at hv; cases hv
    subst hcc
    have e : numPart (45 :: l') = 45 :: numPart l' := by unfold numPart; rw [List.takeWhile_cons, if_pos (by decide)]
    rw [e, canon, if_pos rfl] at hv
    by_cases h48 : (numPart l').head? = some 48
    · rw [if_pos h48] at hv; cases hv
    · rw [if_neg h48] at hv
      cases hm : Lib.decNat (numPart l') with
      | none => rw [hm] at hv; cases hv
      | some m =>
        rw [hm] at hv
        have e : -(m : Int) = v := Option.some.inj hv
        cases ht : numPart l' with
        | nil => rw [ht] at hm; cases hm
        | cons d r =>
          rw [ht] at hm h48
          have := (decNat_digits (fun e => h48 (by rw [e]; rfl)) hm).2
          omega

/-- What stands there tells at least as much. -/
theorem dig_least {l : List UInt8} {x k : Nat} (h : DigQ l x k) (hk : k ≠ 0) : ∀ v, canon (numPart l) = some v → (x : Int) ≤ v := by
  intro v hv
  obtain ⟨r, hr⟩ := take_numPart h
  obtain ⟨c, l', rfl, hc⟩ := digit_first h hk
  obtain ⟨k', rfl⟩ : ∃ k', k = k' + 1 := ⟨k - 1, by omega⟩
  rw [List.take_succ_cons] at hr
  rw [hr, List.cons_append] at hv
  obtain ⟨m, rfl, hm, _⟩ := canon_dg hc hv
  have h3 := h.2.2.1
  rw [List.take_succ_cons] at h3
  have := decFrom_mono h3 (r := r) (by rw [List.cons_append]; exact hm)
  omega

/-- A small number: either just that stands there, or nothing that may be, and a digit or a sign follows. -/
theorem dig_small {l : List UInt8} {x k : Nat} (h : DigQ l x k) (hk : k ≠ 0) (hx : x < 100000) :
    ((numPart l).length = k ∧ canon (numPart l) = some (x : Int)) ∨ (canon (numPart l) = none ∧ ∃ c, l[k]? = some c ∧ isNC c = true) := by
  obtain ⟨r, hr⟩ := take_numPart h
  obtain ⟨c, l', rfl, hc⟩ := digit_first h hk
  obtain ⟨k', rfl⟩ : ∃ k', k = k' + 1 := ⟨k - 1, by omega⟩
  have hk1 := h.1
  have h3 := h.2.2.1
  cases r with
  | nil =>
    rw [List.append_nil] at hr
    refine Or.inl ⟨by rw [hr, List.length_take]; omega, ?_⟩
    rw [hr]
    rw [List.take_succ_cons] at h3 ⊢
    refine canon_dg_mk hc h3 (fun e => ?_)
    have h4 := h.2.2.2.1
    by_cases h2 : 2 ≤ k' + 1
    · exact absurd (by rw [e]; rfl) (h4 h2)
    · have : k' = 0 := by omega
      subst this; rfl
  | cons d r =>
    have hd : isNC d = true := numPart_all (c :: l') d (by rw [hr]; simp)
    have hat : (c :: l')[k' + 1]? = some d := by
      have e1 : (numPart (c :: l'))[k' + 1]? = some d := by
        rw [hr, List.getElem?_append_right (by rw [List.length_take]; omega), List.length_take]
        rw [show k' + 1 - min (k' + 1) (c :: l').length = 0 by omega]; rfl
      have e2 := numPart_take (c :: l')
      rw [← e2, List.getElem?_take] at e1
      split at e1
      · exact e1
      · cases e1
    refine Or.inr ⟨?_, d, hat, hd⟩
    cases hv : canon (numPart (c :: l')) with
    | none => rfl
    | some v =>
      exfalso
      have hle := dig_least h hk v hv
      rw [hr] at hv
      rw [List.take_succ_cons, List.cons_append] at hv
      obtain ⟨m, rfl, hm, hz⟩ := canon_dg hc hv
      rcases h.2.2.2.2 with e | e | e | ⟨_, e⟩
      · have := lt_of_at hat; omega
      · -- six digits
        have h4 := h.2.2.2.1 (by omega)
        have hc48 : c ≠ 48 := fun e => h4 (by rw [e]; rfl)
        have hk' : k' = 5 := by omega
        subst hk'
        have hn : Lib.decNat ((c :: l').take 6) = some x := by
          rw [List.take_succ_cons] at h3 ⊢
          unfold Lib.decNat; simpa using h3
        rw [List.take_succ_cons] at hn
        have hdd := (decNat_digits hc48 hn).1
        have hlen := Lib.decDigits_length x
        rw [hdd] at hlen
        have hl6 : (c :: l'.take 5).length = 6 := by
          rw [List.length_cons, List.length_take]; simp at hk1; omega
        rw [hl6] at hlen
        have hlt := Lib.lt_pow_nDigits x
        have : Lib.nDigits x ≤ 5 := by
          rcases Nat.lt_or_ge x 10 with h | h
          · rw [Lib.nDigits_small h]; omega
          rcases Nat.lt_or_ge x 100 with h' | h'
          · rw [Lib.nDigits_unique 1 x (by omega) (by omega)]; omega
          rcases Nat.lt_or_ge x 1000 with h'' | h''
          · rw [Lib.nDigits_unique 2 x (by omega) (by omega)]; omega
          rcases Nat.lt_or_ge x 10000 with h3 | h3
          · rw [Lib.nDigits_unique 3 x (by omega) (by omega)]; omega
          · rw [Lib.nDigits_unique 4 x (by omega) (by omega)]; omega
        omega
      · -- no digit: a sign
        have hnd := e d hat
        obtain ⟨dd, hdd⟩ := Lib.digit_of_decFrom _ 0 m hm (k' + 1) d (by
          have : (c :: (l'.take k' ++ d :: r))[k' + 1]? = (l'.take k' ++ d :: r)[k']? := rfl
          rw [this, List.getElem?_append_right (by rw [List.length_take]; omega), List.length_take]
          simp at hk1
          rw [show k' - min k' l'.length = 0 by omega]; rfl)
        rw [dg_of_val hdd] at hnd; cases hnd
      · have hc48 : c = 48 := by simpa using e
        have := hz hc48
        simp at this

/-- Behind a minus. -/
theorem minus_part (l : List UInt8) : numPart (45 :: l) = 45 :: numPart l := by unfold numPart; rw [List.takeWhile_cons, if_pos (by decide)]
theorem minus_none {l : List UInt8} {x : Nat} (h : DigQ l x 0) : canon (numPart (45 :: l)) = none := by
  rw [minus_part, canon, if_pos rfl]
  split
  · rfl
  · cases hm : Lib.decNat (numPart l) with
    | none => rfl
    | some m =>
      exfalso
      obtain ⟨hne, hd⟩ := Lib.decNat_some hm
      cases ht : numPart l with
      | nil => exact hne ht
      | cons c r =>
        rw [ht] at hd
        obtain ⟨dd, hdd⟩ := Lib.digit_of_decFrom _ 0 m hd 0 c rfl
        have hdg := dg_of_val hdd
        have hl0 : l[0]? = some c := by
          have e2 := numPart_take l
          rw [ht] at e2
          cases l with
          | nil => cases ht
          | cons a l' => rw [List.length_cons, List.take_succ_cons] at e2; injection e2 with e3 _; rw [← e3]; rfl
        rcases h.2.2.2.2 with e | e | e | ⟨e, _⟩
        · have := lt_of_at hl0; omega
        · omega
        · rw [e c hl0] at hdg; cases hdg
        · exact e rfl
theorem minus_some {l : List UInt8} {x k : Nat} (h : DigQ l x k) (hk : k ≠ 0) : (x = 0 → canon (numPart (45 :: l)) = none) ∧ (x ≠ 0 → canon (numPart (45 :: l)) = (canon (numPart l)).map fun v => -v) := by
  obtain ⟨r, hr⟩ := take_numPart h
  obtain ⟨c, l', rfl, hc⟩ := digit_first h hk
  obtain ⟨k', rfl⟩ : ∃ k', k = k' + 1 := ⟨k - 1, by omega⟩
  have h3 := h.2.2.1
  rw [List.take_succ_cons] at hr h3
  rw [minus_part, hr, List.cons_append]
  have hx0 : c = 48 → x = 0 := by
    intro e
    have h4 := h.2.2.2.1
    have : k' = 0 := by
      by_cases h2 : 2 ≤ k' + 1
      · exact absurd (by rw [e]; rfl) (h4 h2)
      · omega
    subst this; subst e
    have e2 : Lib.decFrom 0 (48 :: l'.take 0) = some 0 := rfl
    rw [e2] at h3; exact (Option.some.inj h3).symm
  have hx1 : c ≠ 48 → 1 ≤ x := by
    intro e
    have hn : Lib.decNat (c :: l'.take k') = some x := by unfold Lib.decNat; simpa using h3
    exact (decNat_digits e hn).2
  constructor
  · intro e
    have h48 : c = 48 := by
      by_cases h48 : c = 48
      · exact h48
      · have := hx1 h48; omega
    rw [canon, if_pos rfl, if_pos (by rw [h48]; rfl)]
  · intro e
    have h48 : c ≠ 48 := fun e2 => e (hx0 e2)
    rw [canon, if_pos rfl, if_neg (by intro e2; exact h48 (by simpa using e2)), canon, if_neg (dg_not_minus hc), if_neg h48, Option.map_map]
    rfl
end Go.Proofs.YtgjhpmkahicnkaaDoor.Tm
