/- What the walks ask of the library: Cut at one byte, TrimLeft at a blank, IndexAny, Clone. · Rows of texts in memory, and the statements' own helpers SameTexts, Num, SpoilTexts. · The contracts of firstSize and appendWords: a line's words behind others. · The contract of appendWords: a line's words behind others. · The contract of lines: a text's lines, one by one. · The contract of hasWrongByte: is one of a text's bytes none that may stand? · The contract of lex.Words: the words of a text, or that it may not be. · Words at a text that may be and at one that may not; what every program answers that is one: awake returns true. · A row of texts put behind another one by append. · The contract of the document's answer to Words: the same plain function. -/
import Derived.Deep.RegionHeld3
import Derived.Deep.Light
import Derived.Test.YtjamknejllbmkaaGreatDoorShelf
import Derived.Test.YtjamknejllbmkaaGreatDoorMPlain
import Derived.Maps.AppendAt
import Derived.RangeFuncBox
import Derived.Deep.Strs
import Derived.RangeFuncNested
import Derived.RangeFuncBound
import Derived.RangeFuncCalls
import Derived.RangeFuncLeaves
import Derived.Shelf.Abstract
import Derived.Shelf.RegionOpen
import Derived.WalkKit
import Derived.OwnWalkIn
import Derived.TacticsInMore
import Derived.LoopNIn
import Derived.LoopIn
import Derived.Laws.AppendOwnNone
import Derived.Lib.TrimByte

namespace Go.Proofs.YtjamknejllbmkaaGreatDoor.Lx
open Go.RowKit
set_option linter.unusedVariables false

/-- A text as a value's bytes. -/
def ba (l : List UInt8) : ByteArray := ⟨l.toArray⟩
theorem ba_size (l : List UInt8) : (ba l).size = l.length := by simp [ba, ByteArray.size]
theorem ba_list (l : List UInt8) : (ba l).data.toList = l := rfl
theorem ba_back (s : ByteArray) : ba s.data.toList = s := rfl

end Go.Proofs.YtjamknejllbmkaaGreatDoor.Lx

namespace Go.Proofs.YtjamknejllbmkaaGreatDoor.Lx
open Go.RowKit
set_option linter.unusedVariables false
abbrev S (l : List UInt8) : Value := .string ⟨l.toArray⟩
theorem Tryz.info9 : (Tryz.prog.info? 9).map (fun i => (i.zero, i.size, i.bytes)) = some (some (.string ⟨#[]⟩), 1, 16) := by kernel_rfl
theorem below_drewN (B : Nat) (w : World) (n : Nat) : Below B w (w.drewN n) := ⟨rfl, rfl, rfl, Nat.le_refl _, fun _ _ => rfl⟩
theorem below_next {a b c : World} (h : Below a.heap.size a b) (k : Below b.heap.size b c) : Below a.heap.size a c := h.trans (k.mono h.size)
theorem own_below {W W' : World} {B e size n : Nat} {v : Value} {xs : List Value} (h : W.ownsRow B e size v n xs) (hb : Below W.heap.size W W') : W'.ownsRow B e size v n xs := by
  refine ⟨h.1, ?_⟩
  rcases h.2 with h2 | ⟨g, cap, cur, hv, hg, hh, r⟩
  · exact Or.inl h2
  · refine Or.inr ⟨g, cap, cur, hv, hg, ?_, r⟩
    have hlt : g < W.heap.size := by
      rcases Nat.lt_or_ge g W.heap.size with h' | h'
      · exact h'
      · rw [Array.getElem?_eq_none h'] at hh; cases hh
    rw [hb.block g hlt]; exact hh
theorem own_base {W : World} {B B' e size n : Nat} {v : Value} {xs : List Value} (h : W.ownsRow B e size v n xs) (hB : B' ≤ B) : W.ownsRow B' e size v n xs := by
  refine ⟨h.1, ?_⟩
  rcases h.2 with h2 | ⟨g, cap, cur, hv, hg, r⟩
  · exact Or.inl h2
  · exact Or.inr ⟨g, cap, cur, hv, by omega, r⟩
theorem own_len {W : World} {B e size n : Nat} {v : Value} {xs : List Value} (h : W.ownsRow B e size v n xs) : ∃ g c, v = .slice g n c ∧ ∀ a, v.ownBlock = some a → B ≤ a ∧ a < W.heap.size := by
  rcases h.2 with ⟨h2, h3⟩ | ⟨g, cap, cur, hv, hB, hh, _⟩
  · subst h3; exact ⟨_, _, h2, fun a e => by subst h2; cases e⟩
  · refine ⟨_, _, hv, fun a e => ?_⟩
    subst hv
    have e : g = a := Option.some.inj e
    subst e
    refine ⟨hB, ?_⟩
    rcases Nat.lt_or_ge g W.heap.size with h' | h'
    · exact h'
    · rw [Array.getElem?_eq_none h'] at hh; cases hh
/-- A slice's texts, wherever it lies. -/
def Txts (w : World) (g : Option Addr) (xs : List ByteArray) : Prop :=
  xs = [] ∨ ∃ bk o, g = some ⟨bk, o, none⟩ ∧ bk < w.heap.size ∧ ∀ (j : Nat) x, xs[j]? = some x → w.cell? ⟨bk, o + j, none⟩ = some (.string x)
theorem Txts.on {w w' : World} {g : Option Addr} {xs : List ByteArray} (h : Txts w g xs) (hb : Below w.heap.size w w') : Txts w' g xs := by
  rcases h with h | ⟨bk, o, h1, h2, h3⟩
  · exact Or.inl h
  · exact Or.inr ⟨bk, o, h1, Nat.lt_of_lt_of_le h2 hb.size, fun j x hx => by rw [hb.cell (p := ⟨bk, o + j, none⟩) h2]; exact h3 j x hx⟩
set_option maxHeartbeats 400000 in
theorem num_any (x : Int) (w : World) :
    Calls Tryz.prog 10 #[.int .i64 x] w fun e w' => e = .returned (.int .i64 x) ∧ w = w' := by
  go_enter Tryz.func10, Tryz.ntmps10
  go_wp2
  go_ret
  exact ⟨rfl, rfl⟩
/-- The same texts? -/
def sameB (xs ys : List ByteArray) : Bool := decide (xs = ys)
theorem txts_at {w : World} {g : Option Addr} {xs : List ByteArray} (h : Txts w g xs) {j : Nat} (hj : j < xs.length) : ∃ bk o, g = some ⟨bk, o, none⟩ ∧ w.cell? ⟨bk, o + j, none⟩ = some (.string xs[j]) := by
  rcases h with h | ⟨bk, o, h1, _, h3⟩
  · subst h; simp at hj
  · exact ⟨bk, o, h1, h3 j _ (List.getElem?_eq_getElem hj)⟩
theorem below_two {a b : World} (h : ∃ n, b = a.drewN n) : Below a.heap.size a b := by
  obtain ⟨n, rfl⟩ := h; exact below_drewN _ _ _
theorem own_txts {w : World} {B : Nat} {v : Value} {ks : List (List UInt8)} (h : w.ownsRow B 9 1 v ks.length (ks.map S)) : ∃ g c, v = .slice g (ks.map ba).length c ∧ Txts w g (ks.map ba) ∧ ks.length ≤ c := by
  rcases h.2 with ⟨h2, h3⟩ | ⟨g, cap, cur, hv, hB, hh, hc, _⟩
  · have e : ks = [] := List.length_eq_zero_iff.1 h3
    subst e
    exact ⟨none, 0, h2, Or.inl rfl, Nat.le_refl _⟩
  · refine ⟨_, cap, by rw [List.length_map]; exact hv, Or.inr ⟨g, 0, rfl, ?_, ?_⟩, hc⟩
    · rcases Nat.lt_or_ge g w.heap.size with h' | h'
      · exact h'
      · rw [Array.getElem?_eq_none h'] at hh; cases hh
    · intro j x hj
      subst hv
      have e : (ks.map S)[j]? = some (.string x) := by
        rw [List.getElem?_map] at hj ⊢
        cases hk : ks[j]? with
        | none => rw [hk] at hj; cases hj
        | some l => rw [hk] at hj; have e := Option.some.inj hj; subst e; rfl
      have := h.cells (g := g) rfl j _ e
      rw [Addr.add_lit] at this
      exact this
/-- The cells of a new row of texts. -/
theorem new_txts (w : World) (ks : List ByteArray) : Txts (w.alloc (Obj.cells (ks.map Value.string).toArray 9)) (some ⟨w.heap.size, 0, none⟩) ks := by
  refine Or.inr ⟨w.heap.size, 0, rfl, by simp, fun j x hj => ?_⟩
  rw [Nat.zero_add, World.cell?_alloc_new]
  simp [hj]
end Go.Proofs.YtjamknejllbmkaaGreatDoor.Lx

namespace Go.Proofs.YtjamknejllbmkaaGreatDoor.Lx
open Go.RowKit
set_option linter.unusedVariables false

/-- All that lay is as it lay, but rows of texts from n₀ on. -/
structure Oth (n₀ : Nat) (W W' : World) : Prop where
  os : W'.os = W.os
  tape : W'.tape = W.tape
  output : W'.output = W.output
  size : W.heap.size ≤ W'.heap.size
  block : ∀ j o, W.heap[j]? = some o → (n₀ ≤ j → ∀ cs fz, o ≠ .cells cs 9 fz) → W'.heap[j]? = some o

theorem Oth.refl (n₀ : Nat) (W : World) : Oth n₀ W W := ⟨rfl, rfl, rfl, Nat.le_refl _, fun _ _ h _ => h⟩
theorem Oth.trans {n₀ : Nat} {A B C : World} (h : Oth n₀ A B) (k : Oth n₀ B C) : Oth n₀ A C :=
  ⟨k.os.trans h.os, k.tape.trans h.tape, k.output.trans h.output, Nat.le_trans h.size k.size, fun j o ho hn => k.block j o (h.block j o ho hn) hn⟩
theorem Oth.of_below {n₀ : Nat} {A B : World} (h : Below A.heap.size A B) : Oth n₀ A B :=
  ⟨h.os, h.tape, h.output, h.size, fun j o ho _ => (h.block j (Array.getElem?_eq_some_iff.1 ho).1).trans ho⟩
theorem Oth.of_grown {n₀ : Nat} {A B : World} {v : Value} {k : Nat} {xs : List Value} (hown : A.ownsRow n₀ 9 1 v k xs) (hg : A.grownBy B v.ownBlock) : Oth n₀ A B :=
  ⟨hg.os, hg.tape, hg.output, hg.size, fun j o ho hn => (hg.block j (Array.getElem?_eq_some_iff.1 ho).1 (fun e => by
    rcases hown.2 with ⟨rfl, _⟩ | ⟨g, cap, cur, rfl, hb, hgg, _⟩
    · cases e
    · have e' : j = g := Option.some.inj e
      subst e'
      rw [hgg] at ho
      exact hn hb _ _ (Option.some.inj ho).symm)).trans ho⟩
theorem Oth.below {n₀ : Nat} {A B : World} (h : Oth n₀ A B) (hn : n₀ ≤ A.heap.size) : Below n₀ A B :=
  ⟨h.os, h.tape, h.output, h.size, fun j hj => by
    have hlt : j < A.heap.size := Nat.lt_of_lt_of_le hj hn
    rw [h.block j _ (Array.getElem?_eq_getElem hlt) (fun h' => absurd h' (by omega)), Array.getElem?_eq_getElem hlt]⟩

/-- A step: the word with which a line begins. -/
def Stp (l : List UInt8) (k : Nat) : Prop := 0 < k ∧ k ≤ l.length ∧ wd false [] l = l.take k :: wd false [] (l.drop k)
theorem pl_of {b : UInt8} (h1 : b ≠ 10) (h2 : b ≠ 35) (h3 : ([32, 40, 41] : List UInt8).contains b = false) : plB b = true := by
  have h4 : b ≠ 32 ∧ b ≠ 40 ∧ b ≠ 41 := by simpa using h3
  simp [plB, h1, h2, h4]
theorem pl_not {b : UInt8} (h : ([32, 40, 41] : List UInt8).contains b = true) : plB b = false := by
  have h4 : b = 32 ∨ b = 40 ∨ b = 41 := by simpa using h
  rcases h4 with rfl | rfl | rfl <;> rfl
theorem stp_all {l : List UInt8} (hne : l ≠ []) (hl : ∀ b ∈ l, b ≠ 10 ∧ b ≠ 35) (h : ∀ b ∈ l, ([32, 40, 41] : List UInt8).contains b = false) : Stp l l.length := by
  have hlen : 0 < l.length := by cases l with | nil => exact absurd rfl hne | cons => simp
  refine ⟨hlen, Nat.le_refl _, ?_⟩
  have e := wd_more [] l [] (fun b hb => pl_of (hl b hb).1 (hl b hb).2 (h b hb))
  rw [List.append_nil, List.nil_append, wd_nil, fl_ne hne] at e
  rw [e, List.take_length, List.drop_length]
  rfl
theorem stp_one {d : UInt8} {x : List UInt8} (hd : ([32, 40, 41] : List UInt8).contains d = true) (hb : d ≠ 32) : Stp (d :: x) 1 := by
  have h4 : d = 40 ∨ d = 41 := by
    have : d = 32 ∨ d = 40 ∨ d = 41 := by simpa using hd
    rcases this with h | h
    · exact absurd h hb
    · exact h
  exact ⟨by omega, by simp, wd_bracket h4 x⟩
theorem stp_more {p x : List UInt8} {d : UInt8} (hne : p ≠ []) (hl : ∀ b ∈ p, b ≠ 10 ∧ b ≠ 35) (h : ∀ b ∈ p, ([32, 40, 41] : List UInt8).contains b = false) (hd : ([32, 40, 41] : List UInt8).contains d = true) : Stp (p ++ d :: x) p.length := by
  have hlen : 0 < p.length := by cases p with | nil => exact absurd rfl hne | cons => simp
  refine ⟨hlen, by simp, ?_⟩
  rw [wd_more _ p [] (fun b hb => pl_of (hl b hb).1 (hl b hb).2 (h b hb)), List.nil_append, wd_ends hne (pl_not hd)]
  simp

/-- What a line holds that has no remark any more. -/
def lineB (l : List UInt8) : Prop := ∀ b ∈ l, b.toNat < 128 ∧ b ≠ 10 ∧ b ≠ 35

end Go.Proofs.YtjamknejllbmkaaGreatDoor.Lx

namespace Go.Proofs.YtjamknejllbmkaaGreatDoor.Lx
open Go.RowKit
set_option linter.unusedVariables false

theorem head_drop (l : List UInt8) : (l.dropWhile (· == 32)).head? ≠ some 32 := by
  induction l with
  | nil => simp
  | cons c l ih =>
    by_cases hc : c = 32
    · subst hc; rw [List.dropWhile_cons_of_pos (by decide)]; exact ih
    · rw [List.dropWhile_cons_of_neg (by simpa using hc)]; simpa using hc
theorem drop_mem {l : List UInt8} {b : UInt8} (h : b ∈ l.dropWhile (· == 32)) : b ∈ l := (List.dropWhile_sublist _).subset h
theorem drop_len (l : List UInt8) : (l.dropWhile (· == 32)).length ≤ l.length := (List.dropWhile_sublist _).length_le

end Go.Proofs.YtjamknejllbmkaaGreatDoor.Lx

namespace Go.Proofs.YtjamknejllbmkaaGreatDoor.Lx
open Go.RowKit Go.Shelf
set_option linter.unusedVariables false
attribute [local go_sem] Oper.semAt_some

/-- What comes as a line. -/
abbrev Ln := { l : List UInt8 // l.length ≤ 2048 ∧ ∀ b ∈ l, okB b = true ∧ b ≠ 10 }
def mlen : Value → Nat
  | .bool true => 1
  | _ => 0

theorem ln_pos (a s : List UInt8) : 0 < (ln a s).length := by
  induction s generalizing a with
  | nil => simp [ln]
  | cons c s ih =>
    rw [ln]; split
    · simp
    · exact ih _

end Go.Proofs.YtjamknejllbmkaaGreatDoor.Lx

namespace Go.Proofs.YtjamknejllbmkaaGreatDoor.Lx
open Go.RowKit
set_option linter.unusedVariables false

theorem ok_num (b : UInt8) : okB b = (decide ((b.toNat : Int) = 10) || (decide (32 ≤ (b.toNat : Int)) && decide ((b.toNat : Int) ≤ 126))) := by
  unfold okB
  have h1 : (b == 10) = decide ((b.toNat : Int) = 10) := by
    rw [Bool.eq_iff_iff, beq_iff_eq, decide_eq_true_eq]
    constructor
    · rintro rfl; rfl
    · intro h; exact UInt8.toNat_inj.1 (by show b.toNat = 10; omega)
  have h2 : decide (32 ≤ b.toNat) = decide (32 ≤ (b.toNat : Int)) := by rw [Bool.eq_iff_iff, decide_eq_true_eq, decide_eq_true_eq]; omega
  have h3 : decide (b.toNat ≤ 126) = decide ((b.toNat : Int) ≤ 126) := by rw [Bool.eq_iff_iff, decide_eq_true_eq, decide_eq_true_eq]; omega
  rw [h1, h2, h3]

end Go.Proofs.YtjamknejllbmkaaGreatDoor.Lx

namespace Go.Proofs.YtjamknejllbmkaaGreatDoor.Lx
open Go.RowKit Go.Shelf
set_option linter.unusedVariables false
attribute [local go_sem] Oper.semAt_some

/-- The words of the lines that came. -/
def fw (pre : List Ln) : List (List UInt8) := (pre.map (·.1)).flatMap said
theorem fw_snoc (pre : List Ln) (x : Ln) : fw (pre ++ [x]) = fw pre ++ said x.1 := by simp [fw]
theorem said_len (x : Ln) : (said x.1).length ≤ 2048 := by
  have h1 := wd_short (x.1.takeWhile (· != 35))
  have h2 := (List.takeWhile_sublist (· != 35) (l := x.1)).length_le
  have h3 := x.2.1
  unfold said
  omega
theorem fw_len : ∀ pre : List Ln, (fw pre).length ≤ 2048 * pre.length
  | [] => by simp [fw]
  | x :: pre => by
    have h1 := fw_len pre
    have h2 := said_len x
    show (said x.1 ++ fw pre).length ≤ _
    rw [List.length_append, List.length_cons]
    omega
theorem take_all : ∀ {l : List UInt8}, (∀ b ∈ l, b ≠ 35) → l.takeWhile (· != 35) = l
  | [], _ => rfl
  | c :: l, h => by
    rw [List.takeWhile_cons_of_pos (by simpa using h c (by simp)), take_all (fun b hb => h b (by simp [hb]))]
theorem take_part {p x : List UInt8} (h : ∀ b ∈ p, b ≠ 35) : (p ++ 35 :: x).takeWhile (· != 35) = p := by
  rw [List.takeWhile_append_of_pos (fun b hb => by simpa using h b hb), List.takeWhile_cons_of_neg (by decide)]
  simp
theorem ok_lt {b : UInt8} (h : okB b = true) : b.toNat < 128 := by
  unfold okB at h
  rcases Bool.or_eq_true_iff.1 h with h | h
  · have : b = 10 := by simpa using h
    subst this; decide
  · have := (Bool.and_eq_true_iff.1 h).2
    simp at this; omega

theorem Oth.boxed {n₀ : Nat} {A B : World} (h : Oth n₀ A B) {k : Nat} {v : Value} (hb : Boxed A k 24 v) : Boxed B k 24 v :=
  h.block k _ hb (fun _ cs fz e => by cases e)
theorem Oth.keeps {n₀ m : Nat} {A B : World} (h : Oth n₀ A B) : KeepsFrom m A B :=
  ⟨h.size, fun k o _ hk ho => h.block k o hk (fun _ cs fz e => by subst e; cases ho)⟩

/-- What Words answers. -/
def WordsQ (L : List UInt8) (w : World) (e : Ending) (w' : World) : Prop :=
  ∃ (g : Option Addr) (n c : Nat) (er : Int), e = .returned (.tuple #[.slice g n c, .int .i64 er]) ∧ Below w.heap.size w w' ∧
    ((good L = true ∧ er = 0 ∧ w'.ownsRow w.heap.size 9 1 (.slice g n c) (wd false [] L).length ((wd false [] L).map S)) ∨ (good L = false ∧ er = 400 ∧ g = none ∧ n = 0 ∧ c = 0))

end Go.Proofs.YtjamknejllbmkaaGreatDoor.Lx

namespace Go.Proofs.YtjamknejllbmkaaGreatDoor.Lx
open Go.RowKit
set_option linter.unusedVariables false
/-- The words of a row that is owned, as texts. -/
theorem own_ba {w : World} {B : Nat} {g : Option Addr} {n c : Nat} {ks : List (List UInt8)} (h : w.ownsRow B 9 1 (.slice g n c) ks.length (ks.map S)) : n = (ks.map ba).length ∧ Txts w g (ks.map ba) := by
  obtain ⟨g', c', e, h1, _⟩ := own_txts h
  cases e
  exact ⟨rfl, h1⟩

abbrev wk : List (List UInt8) := [[40], [100, 101, 102], [48], [36, 49], [41], [120]]
theorem wk_one : wd false [] [40, 100, 101, 102, 32, 48, 32, 36, 49, 41, 35, 32, 110, 111, 10, 32, 120, 35] = wk := by decide +kernel
theorem wk_good : good [40, 100, 101, 102, 32, 48, 32, 36, 49, 41, 35, 32, 110, 111, 10, 32, 120, 35] = true := by decide +kernel
theorem wk_bad : good [9] = false := by decide +kernel

end Go.Proofs.YtjamknejllbmkaaGreatDoor.Lx

namespace Go.Proofs.YtjamknejllbmkaaGreatDoor.Lx
open Go.RowKit
set_option linter.unusedVariables false

theorem S_one (ks : List (List UInt8)) : ∀ u ∈ ks.map S, u.oneCell' = true := by
  intro u hu
  obtain ⟨b, _, rfl⟩ := List.mem_map.1 hu
  rfl
theorem own_none (W : World) (B : Nat) (hB : B ≤ W.heap.size) : (W.alloc (.cells #[] 9)).ownsRow B 9 1 (.slice (some ⟨W.heap.size, 0, none⟩) 0 0) 0 [] :=
  World.ownsRow_lit W #[] 0 hB (Nat.zero_le _) rfl
theorem app_two {w : World} {ops : Array Oper} {rest : List Oper} {o : Oper} {a : Act} {Q : Exit → Act → World → Prop} (hgd : o.guard = none) (s x : Operand)
    (ho : o.op = .call { callee := .builtin .append, args := #[s, x], argTypes := #[24, 24] }) (base B : Nat) (v X : Value) (ks ms : List (List UInt8)) (hs : a.eval s = v) (hx : a.eval x = X)
    (hown : w.ownsRow base 9 1 v ks.length (ks.map S)) (hX : w.ownsRow B 9 1 X ms.length (ms.map S)) (hb : base ≤ w.heap.size) (hlen : ks.length + ms.length ≤ 1073741824)
    (h : ∀ v' w', w'.ownsRow base 9 1 v' (ks ++ ms).length ((ks ++ ms).map S) → w.grownBy w' v.ownBlock → wpList Tryz.prog ops Q rest (a.put o.dst v') w') : wpList Tryz.prog ops Q (o :: rest) a w := by
  obtain ⟨i0, hi, hz0, hz1, hz2⟩ := info_parts Tryz.info9
  rcases hX.2 with ⟨rfl, hm⟩ | ⟨g, cap, cur, rfl, _⟩
  · have e : ms = [] := List.length_eq_zero_iff.1 hm
    subst e
    refine wpList_append_own_none hgd s x 24 ho base 9 i0 1 Tryz.underlying24 hi v _ _ hs hown hx (h v w ?_ ⟨rfl, rfl, rfl, Nat.le_refl _, fun _ _ _ => rfl⟩)
    rw [List.append_nil]; exact hown
  · refine wpList_append_own w hgd s x 24 ho base 9 i0 (.string ⟨#[]⟩) 1 16 Tryz.underlying24 hi hz0 hz1 hz2 rfl (by decide) v _ _ hs hown ⟨g, 0, none⟩ ms.length cap (ms.map S) hx (by simp) (fun j u hj => hX.cells (g := g) rfl j u hj) (S_one ms) (by unfold maxLen; omega) (by omega) hb ?_
    intro v' w' h1 h2 _
    refine h v' w' ?_ h2
    rw [List.length_append, List.map_append]; exact h1
end Go.Proofs.YtjamknejllbmkaaGreatDoor.Lx

namespace Go.Proofs.YtjamknejllbmkaaGreatDoor.Lx
open Go.RowKit
set_option linter.unusedVariables false

theorem app_one {W : World} {ops : Array Oper} {rest : List Oper} {o : Oper} {a : Act} {Q : Exit → Act → World → Prop} (hgd : o.guard = none) (s x : Operand)
    (ho : o.op = .call { callee := .builtin .append, args := #[s, x], argTypes := #[24, 24] }) (base : Nat) (v : Value) (ks : List (List UInt8)) (t : List UInt8) (hs : a.eval s = v)
    (hx : a.eval x = .slice (some ⟨W.heap.size, 0, none⟩) 1 1) (hown : W.ownsRow base 9 1 v ks.length (ks.map S)) (hb : base ≤ W.heap.size) (hlen : ks.length ≤ 1073741823)
    (h : ∀ v' w', w'.ownsRow base 9 1 v' (ks ++ [t]).length ((ks ++ [t]).map S) → (W.alloc (.cells #[.string (ba t)] 9)).grownBy w' v.ownBlock → wpList Tryz.prog ops Q rest (a.put o.dst v') w') :
    wpList Tryz.prog ops Q (o :: rest) a (W.alloc (.cells #[.string (ba t)] 9)) :=
  app_two hgd s x ho base W.heap.size v _ ks [t] hs hx (hown.alloc _) (World.ownsRow_lit W #[.string (ba t)] 1 (Nat.le_refl _) (by unfold maxLen; omega) rfl) (by simp; omega) (by simp; omega) h

/-- Where the walk through the text stands. -/
def RInv (L : List UInt8) (us : List (List UInt8)) (wo : List UInt8) (i : Nat) : Prop :=
  (i ≤ L.length ∧ us ++ wd false wo (L.drop i) = wd false [] L) ∨ (i = L.length + 1 ∧ us = wd false [] L)
theorem RInv.len {L : List UInt8} {us : List (List UInt8)} {wo : List UInt8} {i : Nat} (h : RInv L us wo i) : us.length ≤ L.length := by
  have h1 := wd_short L
  rcases h with ⟨_, h⟩ | ⟨_, h⟩
  · have := congrArg List.length h
    rw [List.length_append] at this
    omega
  · rw [h]; exact h1
theorem RInv.at {L : List UInt8} {us : List (List UInt8)} {wo : List UInt8} {i : Nat} (h : RInv L us wo i) (hi : i < L.length) : us ++ wd false wo (L[i] :: L.drop (i + 1)) = wd false [] L := by
  rcases h with ⟨_, h⟩ | ⟨h, _⟩
  · rw [← List.drop_eq_getElem_cons hi]; exact h
  · omega
theorem RInv.plain {L : List UInt8} {us : List (List UInt8)} {wo : List UInt8} {i : Nat} (h : RInv L us wo i) (hi : i < L.length) (hp : plB L[i] = true) : RInv L us (wo ++ [L[i]]) (i + 1) := by
  have := h.at hi
  rw [wd_cons, if_pos hp] at this
  exact Or.inl ⟨by omega, this⟩
theorem RInv.parts {L : List UInt8} {us : List (List UInt8)} {wo : List UInt8} {i : Nat} (h : RInv L us wo i) (hi : i < L.length) (hp : plB L[i] = false) : us ++ (fl wo ++ (br L[i] ++ wd (L[i] == 35) [] (L.drop (i + 1)))) = wd false [] L := by
  have := h.at hi
  rw [wd_cons, hp, if_neg (by decide)] at this
  exact this
theorem RInv.last {L : List UInt8} {us : List (List UInt8)} {wo : List UInt8} (h : RInv L us wo L.length) : RInv L (us ++ fl wo) [] (L.length + 1) := by
  rcases h with ⟨_, h⟩ | ⟨h, _⟩
  · rw [List.drop_length, wd_nil] at h
    exact Or.inr ⟨rfl, h⟩
  · omega
theorem wd_out {r : List UInt8} (h : r = [] ∨ ∃ x, r = 10 :: x) : wd false [] r = wd true [] r := by
  rcases h with rfl | ⟨x, rfl⟩
  · rfl
  · rfl
theorem wd_in {c : UInt8} (h : c ≠ 10) (r : List UInt8) : wd true [] (c :: r) = wd true [] r := by
  rw [wd_rem, if_neg (by simpa using h)]
theorem RInv.ten {L : List UInt8} {us : List (List UInt8)} {m : Nat} (h : us ++ wd true [] (L.drop (m + 1)) = wd false [] L) (hm : m + 1 < L.length) (e : L[m + 1] = 10) : RInv L us [] (m + 1) := by
  refine Or.inl ⟨by omega, ?_⟩
  rw [wd_out (Or.inr ⟨L.drop (m + 1 + 1), by rw [List.drop_eq_getElem_cons hm, e]⟩)]
  exact h
theorem RInv.over {L : List UInt8} {us : List (List UInt8)} {m : Nat} (h : us ++ wd true [] (L.drop (m + 1)) = wd false [] L) (hm : m + 1 = L.length) : RInv L us [] (m + 1) := by
  refine Or.inl ⟨by omega, ?_⟩
  rw [wd_out (Or.inl (by rw [hm, List.drop_length]))]
  exact h
theorem rem_next {L : List UInt8} {us : List (List UInt8)} {m : Nat} (h : us ++ wd true [] (L.drop (m + 1)) = wd false [] L) (hm : m + 1 < L.length) (e : L[m + 1] ≠ 10) : us ++ wd true [] (L.drop (m + 1 + 1)) = wd false [] L := by
  rw [← h, List.drop_eq_getElem_cons hm, wd_in e]
theorem wrap_next {m : Nat} (h : m ≤ 1000000) : wrap64 ((m : Int) + 1) = (m : Int) + 1 := by unfold wrap64; omega
theorem byte_ten {b : UInt8} (h : (b.toNat : Int) = 10) : b = 10 := UInt8.toNat_inj.1 (by show b.toNat = 10; omega)
theorem byte_not {b : UInt8} (h : ¬ (b.toNat : Int) = 10) : b ≠ 10 := fun e => h (by rw [e]; rfl)
theorem pl_byte {b : UInt8} (h : plB b = true) : ¬ (b.toNat : Int) = 32 ∧ ¬ (b.toNat : Int) = 10 ∧ ¬ (b.toNat : Int) = 35 ∧ ¬ (b.toNat : Int) = 40 ∧ ¬ (b.toNat : Int) = 41 := by
  unfold plB at h
  simp only [Bool.and_eq_true, bne_iff_ne] at h
  obtain ⟨⟨⟨⟨h1, h2⟩, h3⟩, h4⟩, h5⟩ := h
  have key : ∀ c : UInt8, b ≠ c → ¬ (b.toNat : Int) = (c.toNat : Int) := fun c hc e => hc (UInt8.toNat_inj.1 (by omega))
  exact ⟨key 32 h2, key 10 h1, key 35 h5, key 40 h3, key 41 h4⟩
theorem pl_others {b : UInt8} (h : plB b = false) : b = 10 ∨ b = 32 ∨ b = 40 ∨ b = 41 ∨ b = 35 := by
  by_cases h1 : b = 10
  · exact Or.inl h1
  by_cases h2 : b = 32
  · exact Or.inr (Or.inl h2)
  by_cases h3 : b = 40
  · exact Or.inr (Or.inr (Or.inl h3))
  by_cases h4 : b = 41
  · exact Or.inr (Or.inr (Or.inr (Or.inl h4)))
  by_cases h5 : b = 35
  · exact Or.inr (Or.inr (Or.inr (Or.inr h5)))
  · have : plB b = true := by simp [plB, h1, h2, h3, h4, h5]
    rw [h] at this; cases this
theorem get_eq (s : ByteArray) (L : List UInt8) (h : s.data.toList = L) (i : Nat) (hi : i < s.size) (hl : i < L.length) : s[i] = L[i] := by
  subst h
  show s.data[i]'hi = _
  simp
theorem ne_bool {x y : Int} (h : ¬ x = y) : (x == y) = false ∧ (x != y) = true := by
  constructor
  · rw [beq_eq_false_iff_ne]; exact h
  · rw [bne_iff_ne]; exact h

set_option maxHeartbeats 8000000 in
set_option maxRecDepth 100000 in
theorem rwords_any (s : ByteArray) (w : World) :
    Calls Tryz.prog 27 #[.string s] w fun e w' => WordsQ s.data.toList w e w' := by
  have hlen : s.size = s.data.toList.length := ba_size s.data.toList
  obtain ⟨L, hL⟩ : ∃ L, s.data.toList = L := ⟨_, rfl⟩
  rw [hL] at hlen ⊢
  have HL : Hid (s.data.toList = L) := hL
  clear hL
  by_cases hs : s.size ≤ 2048
  · have hs' : ¬ (2048 : Int) < (s.size : Int) := by omega
    have HN : Hid (s.size = L.length) := hlen
    clear hlen
    go_enter Tryz.func27, Tryz.ntmps27
    go_wp2_with fail
    go_loopw [4] (fun i wr => ∃ j : Nat, j ≤ s.size ∧ i = .int .i64 (j : Int) ∧ w = wr ∧ Hid ((L.take j).all okB = true)) (fun i _ => s.size - (intOf i).toNat)
    case atStart => exact ⟨0, Nat.zero_le _, rfl, rfl, by show ([] : List UInt8).all okB = true; rfl⟩
    case round =>
      obtain ⟨j, hj, rfl, rfl, HT⟩ := hrel
      by_cases hlt : j < s.size
      · have hlt' : (j : Int) < (s.size : Int) := by omega
        have hjl : j < L.length := by have := HN.out; omega
        have hb := get_eq s L HL.out j hlt hjl
        have HO : Hid (okB L[j] = okB L[j]) := rfl
        have hok := ok_num s[j]
        rw [hb] at hok
        by_cases h1 : ((s[j]).toNat : Int) = 10
        · have hk : okB L[j] = true := by rw [hok, ← hb]; simp [h1]
          have HK : Hid ((L.take (j + 1)).all okB = true) := by
            show (L.take (j + 1)).all okB = true
            rw [List.take_add_one, List.getElem?_eq_getElem hjl, List.all_append, HT.out]
            simp [hk]
          clear hok hb hk HO
          go_wp2_with fail
          go_roundw
          case rel => exact ⟨j + 1, by omega, by go_num, by first | rfl | trivial, HK⟩
          case measure => simp [intOf]; omega
        · obtain ⟨q1, q2⟩ := ne_bool h1
          by_cases h2 : ((s[j]).toNat : Int) < 32
          · have hk : okB L[j] = false := by rw [hok, ← hb]; simp [h1]; omega
            have HG : Hid (good L = false) := by
              show good L = false
              unfold good
              rw [Bool.and_eq_false_iff]
              right
              rw [List.all_eq_false]
              exact ⟨L[j], List.getElem_mem hjl, by simp [hk]⟩
            have q3 : decide (((s[j]).toNat : Int) < 32) = true := by simpa using h2
            clear hok hb hk HO
            go_wp2_with fail
            go_ret2
            exact ⟨_, _, _, _, rfl, Below.refl _ _, Or.inr ⟨HG.out, rfl, rfl, rfl, rfl⟩⟩
          · have q3 : decide (((s[j]).toNat : Int) < 32) = false := by simpa using h2
            by_cases h3 : (126 : Int) < ((s[j]).toNat : Int)
            · have hk : okB L[j] = false := by rw [hok, ← hb]; simp [h1]; omega
              have HG : Hid (good L = false) := by
                show good L = false
                unfold good
                rw [Bool.and_eq_false_iff]
                right
                rw [List.all_eq_false]
                exact ⟨L[j], List.getElem_mem hjl, by simp [hk]⟩
              have q4 : decide ((126 : Int) < ((s[j]).toNat : Int)) = true := by simpa using h3
              clear hok hb hk HO
              go_wp2_with fail
              go_ret2
              exact ⟨_, _, _, _, rfl, Below.refl _ _, Or.inr ⟨HG.out, rfl, rfl, rfl, rfl⟩⟩
            · have hk : okB L[j] = true := by rw [hok, ← hb]; simp [h1]; omega
              have HK : Hid ((L.take (j + 1)).all okB = true) := by
                show (L.take (j + 1)).all okB = true
                rw [List.take_add_one, List.getElem?_eq_getElem hjl, List.all_append, HT.out]
                simp [hk]
              have q4 : decide ((126 : Int) < ((s[j]).toNat : Int)) = false := by simpa using h3
              clear hok hb hk HO
              go_wp2_with fail
              go_roundw
              case rel => exact ⟨j + 1, by omega, by go_num, by first | rfl | trivial, HK⟩
              case measure => simp [intOf]; omega
      · have hlt' : ¬ (j : Int) < (s.size : Int) := by omega
        have HG : Hid (good L = true) := by
          show good L = true
          have h1 := HT.out
          have h2 := HN.out
          rw [List.take_of_length_le (by omega)] at h1
          unfold good
          rw [h1]; simp; omega
        clear HT
        have hej : j = s.size := by omega
        subst hej
        clear hlt hj
        go_wp2_with fail
        go_loopw [5, 6, 7, 8, 9] (fun s5 s6 s7 _ _ wr => ∃ (us : List (List UInt8)) (wo : List UInt8) (i : Nat), s6 = .string (ba wo) ∧ s7 = .int .i64 (i : Int) ∧ i ≤ s.size + 1 ∧ wo.length ≤ i ∧ wr.ownsRow w.heap.size 9 1 s5 us.length (us.map S) ∧
            Hid (RInv L us wo i) ∧ Below w.heap.size w wr) (fun _ _ s7 _ _ _ => s.size + 2 - (intOf s7).toNat)
        case atStart => exact ⟨[], [], 0, rfl, rfl, Nat.zero_le _, Nat.zero_le _, World.ownsRow_nil _ _ _ _, Or.inl ⟨Nat.zero_le _, rfl⟩, Below.refl _ _⟩
        case round =>
          obtain ⟨us, wo, i, rfl, rfl, hi, hwo, ho, HI, hbr⟩ := hrel
          obtain ⟨gv, cv, rfl, hblk⟩ := own_len ho
          have hus : us.length ≤ 2048 := by have := HI.out.len; have := HN.out; omega
          have hz := hbr.size
          have HBR : Hid (Below w.heap.size w wr) := hbr
          have HBL : Hid _ := hblk
          clear hbr hblk
          by_cases hi1 : i < s.size
          · have hi1' : (i : Int) < (s.size : Int) := by omega
            have hi2' : (i : Int) ≤ (s.size : Int) := by omega
            have hi3' : (i : Int) + 1 ≤ (s.size : Int) := by omega
            have hi4' : (i : Int) ≤ (i : Int) + 1 := by omega
            have hil : i < L.length := by have := HN.out; omega
            have hb := get_eq s L HL.out i hi1 hil
            have hwi : wrap64 ((i : Int) + 1) = (i : Int) + 1 := by unfold wrap64; omega
            obtain ⟨c, hc⟩ : ∃ c, L[i] = c := ⟨_, rfl⟩
            have e1 : s.extract i (i + 1) = ba [c] := by
              rw [← ba_back s, HL.out]; unfold ba; rw [Lib.extract_mk, Nat.add_sub_cancel_left, List.drop_eq_getElem_cons hil, hc]; rfl
            have e2 : ba wo ++ ba [c] = ba (wo ++ [c]) := by
              apply ByteArray.ext
              rw [ByteArray.data_append]
              unfold ba
              simp
            cases hp : plB L[i] with
            | true =>
              have HU : Hid (RInv L us (wo ++ [c]) (i + 1)) := by
                show RInv L us (wo ++ [c]) (i + 1)
                rw [← hc]; exact HI.out.plain hil hp
              obtain ⟨n1, n2, n3, n4, n5⟩ := pl_byte (b := s[i]) (by rw [hb]; exact hp)
              obtain ⟨a1, b1⟩ := ne_bool n1
              obtain ⟨a2, b2⟩ := ne_bool n2
              obtain ⟨a3, b3⟩ := ne_bool n3
              obtain ⟨a4, b4⟩ := ne_bool n4
              obtain ⟨a5, b5⟩ := ne_bool n5
              have z1 : (ba wo).size ≤ 2049 := by rw [ba_size]; omega
              have z2 : (ba [c]).size ≤ 1 := by rw [ba_size]; simp
              have HOW : Hid _ := ho
              clear hb hp hc HI ho
              go_wp2_with fail
              go_roundw
              case rel => exact ⟨us, wo ++ [c], i + 1, by first | rfl | rw [e2], by go_num, by omega, by simp; omega, HOW.out, HU, HBR.out⟩
              case measure => simp [intOf]; omega
            | false =>
              rcases pl_others hp with e | e | e | e | e <;> rw [hc] at e
              · by_cases hw0 : wo = []
                · subst hw0
                  rw [show ba [] = (⟨#[]⟩ : ByteArray) from rfl]
                  have HU : Hid (RInv L (us) [] (i + 1)) := by
                    show RInv L (us) [] (i + 1)
                    have h := HI.out.parts hil hp
                    rw [hc, e] at h
                    refine Or.inl ⟨by omega, ?_⟩
                    simpa [fl, br] using h
                  have hk : ((s[i]).toNat : Int) = 10 := by rw [hb, hc, e]; rfl
                  clear HI hb hp hc e
                  clear e1 e2
                  have HOW : Hid _ := ho
                  clear ho
                  go_wp2_with fail
                  go_loopw [7] (fun x wx => x = .int .i64 (i : Int) ∧ wr = wx) (fun _ _ => 0)
                  case atStart => exact ⟨rfl, rfl⟩
                  case round =>
                    obtain ⟨rfl, rfl⟩ := hrel
                    go_wp2_with fail
                    go_roundw
                    case rel => exact ⟨us, [], i + 1, rfl, by go_num, by omega, Nat.zero_le _, HOW.out, HU, HBR.out⟩
                    case measure => first | (simp [intOf]; omega) | simp [intOf]
                · have hwne : wo ≠ [] := hw0
                  have q1 : ¬ (ba wo).toList = [] := by rw [Lib.toList_data, ba_list]; exact hwne
                  have q2 : (ba wo).toList.isEmpty = false := by rw [Lib.toList_data, ba_list]; exact List.isEmpty_eq_false_iff.2 hwne
                  have HU : Hid (RInv L (us ++ [wo]) [] (i + 1)) := by
                    show RInv L (us ++ [wo]) [] (i + 1)
                    have h := HI.out.parts hil hp
                    rw [hc, e] at h
                    refine Or.inl ⟨by omega, ?_⟩
                    rw [fl_ne hwne] at h; simpa [br] using h
                  have hk : ((s[i]).toNat : Int) = 10 := by rw [hb, hc, e]; rfl
                  clear HI hb hp hc e
                  clear e1 e2
                  go_wp2_with (at_builtin; refine app_one rfl _ _ rfl w.heap.size (.slice gv us.length cv) us wo rfl rfl ho hz (by first | omega | (simp; omega)) ?_)
                  intro v1 w1 h1 hg1
                  replace h1 : w1.ownsRow w.heap.size 9 1 v1 (us ++ [wo]).length ((us ++ [wo]).map S) := by first | exact h1 | simpa using h1
                  have HB1 : Hid (Below w.heap.size w w1) := (HBR.out.alloc hz _).grown hg1 (by simp; omega) (fun a e => (HBL.out a e).1)
                  have hz1 := HB1.out.size
                  obtain ⟨ux, hux⟩ : ∃ u, u = us ++ [wo] := ⟨_, rfl⟩
                  have hlu1 : ux.length ≤ 2049 := by rw [hux]; simp; omega
                  rw [← hux] at h1 HU
                  obtain ⟨g1, c1, rfl, hbl1⟩ := own_len h1
                  have HL1 : Hid _ := hbl1
                  clear hg1 hbl1 hux
                  have HOW : Hid _ := h1
                  clear h1
                  go_wp2_with fail
                  go_loopw [7] (fun x wx => x = .int .i64 (i : Int) ∧ w1 = wx) (fun _ _ => 0)
                  case atStart => exact ⟨rfl, rfl⟩
                  case round =>
                    obtain ⟨rfl, rfl⟩ := hrel
                    go_wp2_with fail
                    go_roundw
                    case rel => exact ⟨ux, [], i + 1, rfl, by go_num, by omega, Nat.zero_le _, HOW.out, HU, HB1.out⟩
                    case measure => first | (simp [intOf]; omega) | simp [intOf]
              · by_cases hw0 : wo = []
                · subst hw0
                  rw [show ba [] = (⟨#[]⟩ : ByteArray) from rfl]
                  have HU : Hid (RInv L (us) [] (i + 1)) := by
                    show RInv L (us) [] (i + 1)
                    have h := HI.out.parts hil hp
                    rw [hc, e] at h
                    refine Or.inl ⟨by omega, ?_⟩
                    simpa [fl, br] using h
                  have hk : ((s[i]).toNat : Int) = 32 := by rw [hb, hc, e]; rfl
                  clear HI hb hp hc e
                  clear e1 e2
                  have HOW : Hid _ := ho
                  clear ho
                  go_wp2_with fail
                  go_loopw [7] (fun x wx => x = .int .i64 (i : Int) ∧ wr = wx) (fun _ _ => 0)
                  case atStart => exact ⟨rfl, rfl⟩
                  case round =>
                    obtain ⟨rfl, rfl⟩ := hrel
                    go_wp2_with fail
                    go_roundw
                    case rel => exact ⟨us, [], i + 1, rfl, by go_num, by omega, Nat.zero_le _, HOW.out, HU, HBR.out⟩
                    case measure => first | (simp [intOf]; omega) | simp [intOf]
                · have hwne : wo ≠ [] := hw0
                  have q1 : ¬ (ba wo).toList = [] := by rw [Lib.toList_data, ba_list]; exact hwne
                  have q2 : (ba wo).toList.isEmpty = false := by rw [Lib.toList_data, ba_list]; exact List.isEmpty_eq_false_iff.2 hwne
                  have HU : Hid (RInv L (us ++ [wo]) [] (i + 1)) := by
                    show RInv L (us ++ [wo]) [] (i + 1)
                    have h := HI.out.parts hil hp
                    rw [hc, e] at h
                    refine Or.inl ⟨by omega, ?_⟩
                    rw [fl_ne hwne] at h; simpa [br] using h
                  have hk : ((s[i]).toNat : Int) = 32 := by rw [hb, hc, e]; rfl
                  clear HI hb hp hc e
                  clear e1 e2
                  go_wp2_with (at_builtin; refine app_one rfl _ _ rfl w.heap.size (.slice gv us.length cv) us wo rfl rfl ho hz (by first | omega | (simp; omega)) ?_)
                  intro v1 w1 h1 hg1
                  replace h1 : w1.ownsRow w.heap.size 9 1 v1 (us ++ [wo]).length ((us ++ [wo]).map S) := by first | exact h1 | simpa using h1
                  have HB1 : Hid (Below w.heap.size w w1) := (HBR.out.alloc hz _).grown hg1 (by simp; omega) (fun a e => (HBL.out a e).1)
                  have hz1 := HB1.out.size
                  obtain ⟨ux, hux⟩ : ∃ u, u = us ++ [wo] := ⟨_, rfl⟩
                  have hlu1 : ux.length ≤ 2049 := by rw [hux]; simp; omega
                  rw [← hux] at h1 HU
                  obtain ⟨g1, c1, rfl, hbl1⟩ := own_len h1
                  have HL1 : Hid _ := hbl1
                  clear hg1 hbl1 hux
                  have HOW : Hid _ := h1
                  clear h1
                  go_wp2_with fail
                  go_loopw [7] (fun x wx => x = .int .i64 (i : Int) ∧ w1 = wx) (fun _ _ => 0)
                  case atStart => exact ⟨rfl, rfl⟩
                  case round =>
                    obtain ⟨rfl, rfl⟩ := hrel
                    go_wp2_with fail
                    go_roundw
                    case rel => exact ⟨ux, [], i + 1, rfl, by go_num, by omega, Nat.zero_le _, HOW.out, HU, HB1.out⟩
                    case measure => first | (simp [intOf]; omega) | simp [intOf]
              · by_cases hw0 : wo = []
                · subst hw0
                  rw [show ba [] = (⟨#[]⟩ : ByteArray) from rfl]
                  have HU : Hid (RInv L (us ++ [[40]]) [] (i + 1)) := by
                    show RInv L (us ++ [[40]]) [] (i + 1)
                    have h := HI.out.parts hil hp
                    rw [hc, e] at h
                    refine Or.inl ⟨by omega, ?_⟩
                    simpa [fl, br] using h
                  have hk : ((s[i]).toNat : Int) = 40 := by rw [hb, hc, e]; rfl
                  rw [e] at e1
                  clear HI hb hp hc e
                  go_wp2_with (at_builtin; refine app_one rfl _ _ rfl w.heap.size (.slice gv us.length cv) us ([40]) rfl rfl ho hz (by first | omega | (simp; omega)) ?_)
                  intro v1 w1 h1 hg1
                  replace h1 : w1.ownsRow w.heap.size 9 1 v1 (us ++ [[40]]).length ((us ++ [[40]]).map S) := by first | exact h1 | simpa using h1
                  have HB1 : Hid (Below w.heap.size w w1) := (HBR.out.alloc hz _).grown hg1 (by simp; omega) (fun a e => (HBL.out a e).1)
                  have hz1 := HB1.out.size
                  obtain ⟨ux, hux⟩ : ∃ u, u = us ++ [[40]] := ⟨_, rfl⟩
                  have hlu1 : ux.length ≤ 2049 := by rw [hux]; simp; omega
                  rw [← hux] at h1 HU
                  obtain ⟨g1, c1, rfl, hbl1⟩ := own_len h1
                  have HL1 : Hid _ := hbl1
                  clear hg1 hbl1 hux
                  have HOW : Hid _ := h1
                  clear h1
                  go_wp2_with fail
                  go_loopw [7] (fun x wx => x = .int .i64 (i : Int) ∧ w1 = wx) (fun _ _ => 0)
                  case atStart => exact ⟨rfl, rfl⟩
                  case round =>
                    obtain ⟨rfl, rfl⟩ := hrel
                    go_wp2_with fail
                    go_roundw
                    case rel => exact ⟨ux, [], i + 1, rfl, by go_num, by omega, Nat.zero_le _, HOW.out, HU, HB1.out⟩
                    case measure => first | (simp [intOf]; omega) | simp [intOf]
                · have hwne : wo ≠ [] := hw0
                  have q1 : ¬ (ba wo).toList = [] := by rw [Lib.toList_data, ba_list]; exact hwne
                  have q2 : (ba wo).toList.isEmpty = false := by rw [Lib.toList_data, ba_list]; exact List.isEmpty_eq_false_iff.2 hwne
                  have HU : Hid (RInv L (us ++ [wo] ++ [[40]]) [] (i + 1)) := by
                    show RInv L (us ++ [wo] ++ [[40]]) [] (i + 1)
                    have h := HI.out.parts hil hp
                    rw [hc, e] at h
                    refine Or.inl ⟨by omega, ?_⟩
                    rw [fl_ne hwne] at h; simpa [br] using h
                  have hk : ((s[i]).toNat : Int) = 40 := by rw [hb, hc, e]; rfl
                  rw [e] at e1
                  clear HI hb hp hc e
                  go_wp2_with (at_builtin; refine app_one rfl _ _ rfl w.heap.size (.slice gv us.length cv) us wo rfl rfl ho hz (by first | omega | (simp; omega)) ?_)
                  intro v1 w1 h1 hg1
                  replace h1 : w1.ownsRow w.heap.size 9 1 v1 (us ++ [wo]).length ((us ++ [wo]).map S) := by first | exact h1 | simpa using h1
                  have HB1 : Hid (Below w.heap.size w w1) := (HBR.out.alloc hz _).grown hg1 (by simp; omega) (fun a e => (HBL.out a e).1)
                  have hz1 := HB1.out.size
                  obtain ⟨ux, hux⟩ : ∃ u, u = us ++ [wo] := ⟨_, rfl⟩
                  have hlu1 : ux.length ≤ 2049 := by rw [hux]; simp; omega
                  rw [← hux] at h1 HU
                  obtain ⟨g1, c1, rfl, hbl1⟩ := own_len h1
                  have HL1 : Hid _ := hbl1
                  clear hg1 hbl1 hux
                  go_wp2_with (at_builtin; refine app_one rfl _ _ rfl w.heap.size (.slice g1 ux.length c1) ux ([40]) rfl rfl h1 hz1 (by first | omega | (simp; omega)) ?_)
                  intro v2 w2 h2 hg2
                  replace h2 : w2.ownsRow w.heap.size 9 1 v2 (ux ++ [[40]]).length ((ux ++ [[40]]).map S) := by first | exact h2 | simpa using h2
                  have HB2 : Hid (Below w.heap.size w w2) := (HB1.out.alloc hz1 _).grown hg2 (by simp; omega) (fun a e => (HL1.out a e).1)
                  have hz2 := HB2.out.size
                  obtain ⟨uy, huy⟩ : ∃ u, u = ux ++ [[40]] := ⟨_, rfl⟩
                  have hlu2 : uy.length ≤ 2050 := by rw [huy]; simp; omega
                  rw [← huy] at h2 HU
                  obtain ⟨g2, c2, rfl, hbl2⟩ := own_len h2
                  have HL2 : Hid _ := hbl2
                  clear hg2 hbl2 huy
                  have HOW : Hid _ := h2
                  clear h2
                  go_wp2_with fail
                  go_loopw [7] (fun x wx => x = .int .i64 (i : Int) ∧ w2 = wx) (fun _ _ => 0)
                  case atStart => exact ⟨rfl, rfl⟩
                  case round =>
                    obtain ⟨rfl, rfl⟩ := hrel
                    go_wp2_with fail
                    go_roundw
                    case rel => exact ⟨uy, [], i + 1, rfl, by go_num, by omega, Nat.zero_le _, HOW.out, HU, HB2.out⟩
                    case measure => first | (simp [intOf]; omega) | simp [intOf]
              · by_cases hw0 : wo = []
                · subst hw0
                  rw [show ba [] = (⟨#[]⟩ : ByteArray) from rfl]
                  have HU : Hid (RInv L (us ++ [[41]]) [] (i + 1)) := by
                    show RInv L (us ++ [[41]]) [] (i + 1)
                    have h := HI.out.parts hil hp
                    rw [hc, e] at h
                    refine Or.inl ⟨by omega, ?_⟩
                    simpa [fl, br] using h
                  have hk : ((s[i]).toNat : Int) = 41 := by rw [hb, hc, e]; rfl
                  rw [e] at e1
                  clear HI hb hp hc e
                  go_wp2_with (at_builtin; refine app_one rfl _ _ rfl w.heap.size (.slice gv us.length cv) us ([41]) rfl rfl ho hz (by first | omega | (simp; omega)) ?_)
                  intro v1 w1 h1 hg1
                  replace h1 : w1.ownsRow w.heap.size 9 1 v1 (us ++ [[41]]).length ((us ++ [[41]]).map S) := by first | exact h1 | simpa using h1
                  have HB1 : Hid (Below w.heap.size w w1) := (HBR.out.alloc hz _).grown hg1 (by simp; omega) (fun a e => (HBL.out a e).1)
                  have hz1 := HB1.out.size
                  obtain ⟨ux, hux⟩ : ∃ u, u = us ++ [[41]] := ⟨_, rfl⟩
                  have hlu1 : ux.length ≤ 2049 := by rw [hux]; simp; omega
                  rw [← hux] at h1 HU
                  obtain ⟨g1, c1, rfl, hbl1⟩ := own_len h1
                  have HL1 : Hid _ := hbl1
                  clear hg1 hbl1 hux
                  have HOW : Hid _ := h1
                  clear h1
                  go_wp2_with fail
                  go_loopw [7] (fun x wx => x = .int .i64 (i : Int) ∧ w1 = wx) (fun _ _ => 0)
                  case atStart => exact ⟨rfl, rfl⟩
                  case round =>
                    obtain ⟨rfl, rfl⟩ := hrel
                    go_wp2_with fail
                    go_roundw
                    case rel => exact ⟨ux, [], i + 1, rfl, by go_num, by omega, Nat.zero_le _, HOW.out, HU, HB1.out⟩
                    case measure => first | (simp [intOf]; omega) | simp [intOf]
                · have hwne : wo ≠ [] := hw0
                  have q1 : ¬ (ba wo).toList = [] := by rw [Lib.toList_data, ba_list]; exact hwne
                  have q2 : (ba wo).toList.isEmpty = false := by rw [Lib.toList_data, ba_list]; exact List.isEmpty_eq_false_iff.2 hwne
                  have HU : Hid (RInv L (us ++ [wo] ++ [[41]]) [] (i + 1)) := by
                    show RInv L (us ++ [wo] ++ [[41]]) [] (i + 1)
                    have h := HI.out.parts hil hp
                    rw [hc, e] at h
                    refine Or.inl ⟨by omega, ?_⟩
                    rw [fl_ne hwne] at h; simpa [br] using h
                  have hk : ((s[i]).toNat : Int) = 41 := by rw [hb, hc, e]; rfl
                  rw [e] at e1
                  clear HI hb hp hc e
                  go_wp2_with (at_builtin; refine app_one rfl _ _ rfl w.heap.size (.slice gv us.length cv) us wo rfl rfl ho hz (by first | omega | (simp; omega)) ?_)
                  intro v1 w1 h1 hg1
                  replace h1 : w1.ownsRow w.heap.size 9 1 v1 (us ++ [wo]).length ((us ++ [wo]).map S) := by first | exact h1 | simpa using h1
                  have HB1 : Hid (Below w.heap.size w w1) := (HBR.out.alloc hz _).grown hg1 (by simp; omega) (fun a e => (HBL.out a e).1)
                  have hz1 := HB1.out.size
                  obtain ⟨ux, hux⟩ : ∃ u, u = us ++ [wo] := ⟨_, rfl⟩
                  have hlu1 : ux.length ≤ 2049 := by rw [hux]; simp; omega
                  rw [← hux] at h1 HU
                  obtain ⟨g1, c1, rfl, hbl1⟩ := own_len h1
                  have HL1 : Hid _ := hbl1
                  clear hg1 hbl1 hux
                  go_wp2_with (at_builtin; refine app_one rfl _ _ rfl w.heap.size (.slice g1 ux.length c1) ux ([41]) rfl rfl h1 hz1 (by first | omega | (simp; omega)) ?_)
                  intro v2 w2 h2 hg2
                  replace h2 : w2.ownsRow w.heap.size 9 1 v2 (ux ++ [[41]]).length ((ux ++ [[41]]).map S) := by first | exact h2 | simpa using h2
                  have HB2 : Hid (Below w.heap.size w w2) := (HB1.out.alloc hz1 _).grown hg2 (by simp; omega) (fun a e => (HL1.out a e).1)
                  have hz2 := HB2.out.size
                  obtain ⟨uy, huy⟩ : ∃ u, u = ux ++ [[41]] := ⟨_, rfl⟩
                  have hlu2 : uy.length ≤ 2050 := by rw [huy]; simp; omega
                  rw [← huy] at h2 HU
                  obtain ⟨g2, c2, rfl, hbl2⟩ := own_len h2
                  have HL2 : Hid _ := hbl2
                  clear hg2 hbl2 huy
                  have HOW : Hid _ := h2
                  clear h2
                  go_wp2_with fail
                  go_loopw [7] (fun x wx => x = .int .i64 (i : Int) ∧ w2 = wx) (fun _ _ => 0)
                  case atStart => exact ⟨rfl, rfl⟩
                  case round =>
                    obtain ⟨rfl, rfl⟩ := hrel
                    go_wp2_with fail
                    go_roundw
                    case rel => exact ⟨uy, [], i + 1, rfl, by go_num, by omega, Nat.zero_le _, HOW.out, HU, HB2.out⟩
                    case measure => first | (simp [intOf]; omega) | simp [intOf]
              · by_cases hw0 : wo = []
                · subst hw0
                  rw [show ba [] = (⟨#[]⟩ : ByteArray) from rfl]
                  have HU : Hid ((us) ++ wd true [] (L.drop (i + 1)) = wd false [] L) := by
                    show (us) ++ wd true [] (L.drop (i + 1)) = wd false [] L
                    have h := HI.out.parts hil hp
                    rw [hc, e] at h
                    simpa [fl, br] using h
                  have hk : ((s[i]).toNat : Int) = 35 := by rw [hb, hc, e]; rfl
                  clear HI hb hp hc e
                  clear e1 e2
                  have HOW : Hid _ := ho
                  clear ho
                  go_wp2_with fail
                  clear hwi
                  go_loopw [7] (fun x wx => ∃ m : Nat, Hid (i ≤ m) ∧ m < s.size ∧ x = .int .i64 (m : Int) ∧ wr = wx ∧ Hid (us ++ wd true [] (L.drop (m + 1)) = wd false [] L)) (fun x _ => s.size - (intOf x).toNat)
                  case atStart => exact ⟨i, Nat.le_refl i, hi1, rfl, rfl, HU⟩
                  case round =>
                    obtain ⟨m, HIM, hms, rfl, rfl, HM⟩ := hrel
                    clear hk hi hwo hi1' hi2' hi3' hi4' hil hi1
                    have hmm : m ≤ 1000000 := by omega
                    by_cases hm1 : m + 1 < s.size
                    · have hm1' : (m : Int) + 1 < (s.size : Int) := by omega
                      have hml : m + 1 < L.length := by have := HN.out; omega
                      have hb2 := get_eq s L HL.out (m + 1) hm1 hml
                      by_cases hten : ((s[m + 1]'hm1).toNat : Int) = 10
                      · have HF : Hid (RInv L (us) [] (m + 1)) := RInv.ten HM.out hml (hb2.symm.trans (byte_ten hten))
                        have hwm := wrap_next hmm
                        clear hb2
                        go_wp2_with fail
                        go_roundw
                        case rel => clear hwm; exact ⟨us, [], m + 1, rfl, by first | rfl | go_num, by omega, Nat.zero_le _, HOW.out, HF, HBR.out⟩
                        case measure => clear hwm; have hq := HIM.out; simp [intOf]; omega
                      · obtain ⟨t1, t2⟩ := ne_bool hten
                        have HF : Hid (us ++ wd true [] (L.drop (m + 1 + 1)) = wd false [] L) := rem_next HM.out hml (fun e => byte_not hten (hb2.trans e))
                        have hwm := wrap_next hmm
                        clear hb2
                        go_wp2_with fail
                        go_roundw
                        case rel => clear hwm; exact ⟨m + 1, Nat.le_succ_of_le HIM.out, by omega, by first | rfl | go_num, by first | rfl | trivial, HF⟩
                        case measure => clear hwm; have hq := HIM.out; simp [intOf]; omega
                    · have hm1' : ¬ (m : Int) + 1 < (s.size : Int) := by omega
                      have HF : Hid (RInv L (us) [] (m + 1)) := RInv.over HM.out (by have := HN.out; omega)
                      have hwm := wrap_next hmm
                      go_wp2_with fail
                      go_roundw
                      case rel => clear hwm; exact ⟨us, [], m + 1, rfl, by first | rfl | go_num, by omega, Nat.zero_le _, HOW.out, HF, HBR.out⟩
                      case measure => clear hwm; have hq := HIM.out; simp [intOf]; omega
                · have hwne : wo ≠ [] := hw0
                  have q1 : ¬ (ba wo).toList = [] := by rw [Lib.toList_data, ba_list]; exact hwne
                  have q2 : (ba wo).toList.isEmpty = false := by rw [Lib.toList_data, ba_list]; exact List.isEmpty_eq_false_iff.2 hwne
                  have HU : Hid ((us ++ [wo]) ++ wd true [] (L.drop (i + 1)) = wd false [] L) := by
                    show (us ++ [wo]) ++ wd true [] (L.drop (i + 1)) = wd false [] L
                    have h := HI.out.parts hil hp
                    rw [hc, e] at h
                    rw [fl_ne hwne] at h; simpa [br] using h
                  have hk : ((s[i]).toNat : Int) = 35 := by rw [hb, hc, e]; rfl
                  clear HI hb hp hc e
                  clear e1 e2
                  go_wp2_with (at_builtin; refine app_one rfl _ _ rfl w.heap.size (.slice gv us.length cv) us wo rfl rfl ho hz (by first | omega | (simp; omega)) ?_)
                  intro v1 w1 h1 hg1
                  replace h1 : w1.ownsRow w.heap.size 9 1 v1 (us ++ [wo]).length ((us ++ [wo]).map S) := by first | exact h1 | simpa using h1
                  have HB1 : Hid (Below w.heap.size w w1) := (HBR.out.alloc hz _).grown hg1 (by simp; omega) (fun a e => (HBL.out a e).1)
                  have hz1 := HB1.out.size
                  obtain ⟨ux, hux⟩ : ∃ u, u = us ++ [wo] := ⟨_, rfl⟩
                  have hlu1 : ux.length ≤ 2049 := by rw [hux]; simp; omega
                  rw [← hux] at h1 HU
                  obtain ⟨g1, c1, rfl, hbl1⟩ := own_len h1
                  have HL1 : Hid _ := hbl1
                  clear hg1 hbl1 hux
                  have HOW : Hid _ := h1
                  clear h1
                  go_wp2_with fail
                  clear hwi
                  go_loopw [7] (fun x wx => ∃ m : Nat, Hid (i ≤ m) ∧ m < s.size ∧ x = .int .i64 (m : Int) ∧ w1 = wx ∧ Hid (ux ++ wd true [] (L.drop (m + 1)) = wd false [] L)) (fun x _ => s.size - (intOf x).toNat)
                  case atStart => exact ⟨i, Nat.le_refl i, hi1, rfl, rfl, HU⟩
                  case round =>
                    obtain ⟨m, HIM, hms, rfl, rfl, HM⟩ := hrel
                    clear hk hi hwo hi1' hi2' hi3' hi4' hil hi1
                    have hmm : m ≤ 1000000 := by omega
                    by_cases hm1 : m + 1 < s.size
                    · have hm1' : (m : Int) + 1 < (s.size : Int) := by omega
                      have hml : m + 1 < L.length := by have := HN.out; omega
                      have hb2 := get_eq s L HL.out (m + 1) hm1 hml
                      by_cases hten : ((s[m + 1]'hm1).toNat : Int) = 10
                      · have HF : Hid (RInv L (ux) [] (m + 1)) := RInv.ten HM.out hml (hb2.symm.trans (byte_ten hten))
                        have hwm := wrap_next hmm
                        clear hb2
                        go_wp2_with fail
                        go_roundw
                        case rel => clear hwm; exact ⟨ux, [], m + 1, rfl, by first | rfl | go_num, by omega, Nat.zero_le _, HOW.out, HF, HB1.out⟩
                        case measure => clear hwm; have hq := HIM.out; simp [intOf]; omega
                      · obtain ⟨t1, t2⟩ := ne_bool hten
                        have HF : Hid (ux ++ wd true [] (L.drop (m + 1 + 1)) = wd false [] L) := rem_next HM.out hml (fun e => byte_not hten (hb2.trans e))
                        have hwm := wrap_next hmm
                        clear hb2
                        go_wp2_with fail
                        go_roundw
                        case rel => clear hwm; exact ⟨m + 1, Nat.le_succ_of_le HIM.out, by omega, by first | rfl | go_num, by first | rfl | trivial, HF⟩
                        case measure => clear hwm; have hq := HIM.out; simp [intOf]; omega
                    · have hm1' : ¬ (m : Int) + 1 < (s.size : Int) := by omega
                      have HF : Hid (RInv L (ux) [] (m + 1)) := RInv.over HM.out (by have := HN.out; omega)
                      have hwm := wrap_next hmm
                      go_wp2_with fail
                      go_roundw
                      case rel => clear hwm; exact ⟨ux, [], m + 1, rfl, by first | rfl | go_num, by omega, Nat.zero_le _, HOW.out, HF, HB1.out⟩
                      case measure => clear hwm; have hq := HIM.out; simp [intOf]; omega
          · have hi1' : ¬ (i : Int) < (s.size : Int) := by omega
            by_cases hie : i = s.size
            · subst hie
              clear hi hi1
              by_cases hw0 : wo = []
              · subst hw0
                rw [show ba [] = (⟨#[]⟩ : ByteArray) from rfl]
                have HU : Hid (RInv L (us) [] (s.size + 1)) := by
                  show RInv L (us) [] (s.size + 1)
                  have h := HI.out
                  have h2 := HN.out
                  rw [h2] at h ⊢
                  have h3 := h.last
                  simpa [fl] using h3
                clear HI
                have HOW : Hid _ := ho
                clear ho
                go_wp2_with fail
                go_loopw [7] (fun x wx => x = .int .i64 (s.size : Int) ∧ wr = wx) (fun _ _ => 0)
                case atStart => exact ⟨rfl, rfl⟩
                case round =>
                  obtain ⟨rfl, rfl⟩ := hrel
                  go_wp2_with fail
                  go_roundw
                  case rel => exact ⟨us, [], s.size + 1, rfl, by go_num, by omega, Nat.zero_le _, HOW.out, HU, HBR.out⟩
                  case measure => first | (simp [intOf]; omega) | simp [intOf]
              · have hwne : wo ≠ [] := hw0
                have q1 : ¬ (ba wo).toList = [] := by rw [Lib.toList_data, ba_list]; exact hwne
                have q2 : (ba wo).toList.isEmpty = false := by rw [Lib.toList_data, ba_list]; exact List.isEmpty_eq_false_iff.2 hwne
                have HU : Hid (RInv L (us ++ [wo]) [] (s.size + 1)) := by
                  show RInv L (us ++ [wo]) [] (s.size + 1)
                  have h := HI.out
                  have h2 := HN.out
                  rw [h2] at h ⊢
                  have h3 := h.last
                  rw [fl_ne hwne] at h3; exact h3
                clear HI
                go_wp2_with (at_builtin; refine app_one rfl _ _ rfl w.heap.size (.slice gv us.length cv) us wo rfl rfl ho hz (by first | omega | (simp; omega)) ?_)
                intro v1 w1 h1 hg1
                replace h1 : w1.ownsRow w.heap.size 9 1 v1 (us ++ [wo]).length ((us ++ [wo]).map S) := by first | exact h1 | simpa using h1
                have HB1 : Hid (Below w.heap.size w w1) := (HBR.out.alloc hz _).grown hg1 (by simp; omega) (fun a e => (HBL.out a e).1)
                have hz1 := HB1.out.size
                obtain ⟨ux, hux⟩ : ∃ u, u = us ++ [wo] := ⟨_, rfl⟩
                have hlu1 : ux.length ≤ 2049 := by rw [hux]; simp; omega
                rw [← hux] at h1 HU
                obtain ⟨g1, c1, rfl, hbl1⟩ := own_len h1
                have HL1 : Hid _ := hbl1
                clear hg1 hbl1 hux
                have HOW : Hid _ := h1
                clear h1
                go_wp2_with fail
                go_loopw [7] (fun x wx => x = .int .i64 (s.size : Int) ∧ w1 = wx) (fun _ _ => 0)
                case atStart => exact ⟨rfl, rfl⟩
                case round =>
                  obtain ⟨rfl, rfl⟩ := hrel
                  go_wp2_with fail
                  go_roundw
                  case rel => exact ⟨ux, [], s.size + 1, rfl, by go_num, by omega, Nat.zero_le _, HOW.out, HU, HB1.out⟩
                  case measure => first | (simp [intOf]; omega) | simp [intOf]
            · have hi2' : ¬ (i : Int) ≤ (s.size : Int) := by omega
              have HE : Hid (us = wd false [] L) := by
                show us = _
                have h2 := HN.out
                rcases HI.out with ⟨h, _⟩ | ⟨_, h⟩
                · omega
                · exact h
              have HOW : Hid _ := ho
              clear ho HI
              go_wp2_with fail
              go_ret2
              refine ⟨_, _, _, _, rfl, HBR.out, Or.inl ⟨HG.out, rfl, ?_⟩⟩
              rw [← HE.out]
              exact HOW.out
  · have hs' : (2048 : Int) < (s.size : Int) := by omega
    have HG : Hid (good L = false) := by
      show good _ = false
      unfold good; rw [← hlen]
      simp [hs]
    clear hlen hs
    go_enter Tryz.func27, Tryz.ntmps27
    go_wp2_with fail
    go_ret2
    exact ⟨_, _, _, _, rfl, Below.refl _ _, Or.inr ⟨HG.out, rfl, rfl, rfl, rfl⟩⟩
end Go.Proofs.YtjamknejllbmkaaGreatDoor.Lx
