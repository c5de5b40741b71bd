/- What the walks ask of the library: Cut at one byte, TrimLeft at a blank, IndexAny, Clone. · Rows of texts in memory, and the statements' own helpers SameTexts, Num, SpoilTexts. · The contracts of firstSize and appendWords: a line's words behind others. · The contract of appendWords: a line's words behind others. · The contract of lines: a text's lines, one by one. · The contract of hasWrongByte: is one of a text's bytes none that may stand? · The contract of lex.Words: the words of a text, or that it may not be. · Words at a text that may be and at one that may not; what every program answers that is one: awake returns true. · A row of texts put behind another one by append. -/
import Derived.Deep.RegionHeld3
import Derived.Deep.Light
import Derived.Test.YtgajnmcjnkfblaaGreatDoorShelf
import Derived.Test.YtgajnmcjnkfblaaGreatDoorMPlain
import Derived.Maps.AppendAt
import Derived.RangeFuncBox
import Derived.Deep.Strs
import Derived.RangeFuncNested
import Derived.RangeFuncBound
import Derived.RangeFuncCalls
import Derived.RangeFuncLeaves
import Derived.Shelf.Abstract
import Derived.Shelf.RegionOpen
import Derived.WalkKit
import Derived.OwnWalkIn
import Derived.TacticsInMore
import Derived.LoopNIn
import Derived.LoopIn
import Derived.Laws.AppendOwnNone

namespace Go.Proofs.YtgajnmcjnkfblaaGreatDoor.Lx
open Go.RowKit
set_option linter.unusedVariables false

/-- A text as a value's bytes. -/
def ba (l : List UInt8) : ByteArray := ⟨l.toArray⟩
theorem ba_size (l : List UInt8) : (ba l).size = l.length := by simp [ba, ByteArray.size]
theorem ba_list (l : List UInt8) : (ba l).data.toList = l := rfl
theorem ba_back (s : ByteArray) : ba s.data.toList = s := rfl

end Go.Proofs.YtgajnmcjnkfblaaGreatDoor.Lx

namespace Go.Proofs.YtgajnmcjnkfblaaGreatDoor.Lx
open Go.RowKit
set_option linter.unusedVariables false
abbrev S (l : List UInt8) : Value := .string ⟨l.toArray⟩
theorem Tryz.info9 : (Tryz.prog.info? 9).map (fun i => (i.zero, i.size, i.bytes)) = some (some (.string ⟨#[]⟩), 1, 16) := by kernel_rfl
theorem below_drewN (B : Nat) (w : World) (n : Nat) : Below B w (w.drewN n) := ⟨rfl, rfl, rfl, Nat.le_refl _, fun _ _ => rfl⟩
theorem below_next {a b c : World} (h : Below a.heap.size a b) (k : Below b.heap.size b c) : Below a.heap.size a c := h.trans (k.mono h.size)
theorem own_below {W W' : World} {B e size n : Nat} {v : Value} {xs : List Value} (h : W.ownsRow B e size v n xs) (hb : Below W.heap.size W W') : W'.ownsRow B e size v n xs := by
  refine ⟨h.1, ?_⟩
  rcases h.2 with h2 | ⟨g, cap, cur, hv, hg, hh, r⟩
  · exact Or.inl h2
  · refine Or.inr ⟨g, cap, cur, hv, hg, ?_, r⟩
    have hlt : g < W.heap.size := by
      rcases Nat.lt_or_ge g W.heap.size with h' | h'
      · exact h'
      · rw [Array.getElem?_eq_none h'] at hh; cases hh
    rw [hb.block g hlt]; exact hh
theorem own_base {W : World} {B B' e size n : Nat} {v : Value} {xs : List Value} (h : W.ownsRow B e size v n xs) (hB : B' ≤ B) : W.ownsRow B' e size v n xs := by
  refine ⟨h.1, ?_⟩
  rcases h.2 with h2 | ⟨g, cap, cur, hv, hg, r⟩
  · exact Or.inl h2
  · exact Or.inr ⟨g, cap, cur, hv, by omega, r⟩
theorem own_len {W : World} {B e size n : Nat} {v : Value} {xs : List Value} (h : W.ownsRow B e size v n xs) : ∃ g c, v = .slice g n c ∧ ∀ a, v.ownBlock = some a → B ≤ a ∧ a < W.heap.size := by
  rcases h.2 with ⟨h2, h3⟩ | ⟨g, cap, cur, hv, hB, hh, _⟩
  · subst h3; exact ⟨_, _, h2, fun a e => by subst h2; cases e⟩
  · refine ⟨_, _, hv, fun a e => ?_⟩
    subst hv
    have e : g = a := Option.some.inj e
    subst e
    refine ⟨hB, ?_⟩
    rcases Nat.lt_or_ge g W.heap.size with h' | h'
    · exact h'
    · rw [Array.getElem?_eq_none h'] at hh; cases hh
/-- A slice's texts, wherever it lies. -/
def Txts (w : World) (g : Option Addr) (xs : List ByteArray) : Prop :=
  xs = [] ∨ ∃ bk o, g = some ⟨bk, o, none⟩ ∧ bk < w.heap.size ∧ ∀ (j : Nat) x, xs[j]? = some x → w.cell? ⟨bk, o + j, none⟩ = some (.string x)
theorem Txts.on {w w' : World} {g : Option Addr} {xs : List ByteArray} (h : Txts w g xs) (hb : Below w.heap.size w w') : Txts w' g xs := by
  rcases h with h | ⟨bk, o, h1, h2, h3⟩
  · exact Or.inl h
  · exact Or.inr ⟨bk, o, h1, Nat.lt_of_lt_of_le h2 hb.size, fun j x hx => by rw [hb.cell (p := ⟨bk, o + j, none⟩) h2]; exact h3 j x hx⟩
set_option maxHeartbeats 400000 in
theorem num_any (x : Int) (w : World) :
    Calls Tryz.prog 13 #[.int .i64 x] w fun e w' => e = .returned (.int .i64 x) ∧ w = w' := by
  go_enter Tryz.func13, Tryz.ntmps13
  go_wp2
  go_ret
  exact ⟨rfl, rfl⟩
/-- The same texts? -/
def sameB (xs ys : List ByteArray) : Bool := decide (xs = ys)
theorem txts_at {w : World} {g : Option Addr} {xs : List ByteArray} (h : Txts w g xs) {j : Nat} (hj : j < xs.length) : ∃ bk o, g = some ⟨bk, o, none⟩ ∧ w.cell? ⟨bk, o + j, none⟩ = some (.string xs[j]) := by
  rcases h with h | ⟨bk, o, h1, _, h3⟩
  · subst h; simp at hj
  · exact ⟨bk, o, h1, h3 j _ (List.getElem?_eq_getElem hj)⟩
theorem below_two {a b : World} (h : ∃ n, b = a.drewN n) : Below a.heap.size a b := by
  obtain ⟨n, rfl⟩ := h; exact below_drewN _ _ _
theorem own_txts {w : World} {B : Nat} {v : Value} {ks : List (List UInt8)} (h : w.ownsRow B 9 1 v ks.length (ks.map S)) : ∃ g c, v = .slice g (ks.map ba).length c ∧ Txts w g (ks.map ba) ∧ ks.length ≤ c := by
  rcases h.2 with ⟨h2, h3⟩ | ⟨g, cap, cur, hv, hB, hh, hc, _⟩
  · have e : ks = [] := List.length_eq_zero_iff.1 h3
    subst e
    exact ⟨none, 0, h2, Or.inl rfl, Nat.le_refl _⟩
  · refine ⟨_, cap, by rw [List.length_map]; exact hv, Or.inr ⟨g, 0, rfl, ?_, ?_⟩, hc⟩
    · rcases Nat.lt_or_ge g w.heap.size with h' | h'
      · exact h'
      · rw [Array.getElem?_eq_none h'] at hh; cases hh
    · intro j x hj
      subst hv
      have e : (ks.map S)[j]? = some (.string x) := by
        rw [List.getElem?_map] at hj ⊢
        cases hk : ks[j]? with
        | none => rw [hk] at hj; cases hj
        | some l => rw [hk] at hj; have e := Option.some.inj hj; subst e; rfl
      have := h.cells (g := g) rfl j _ e
      rw [Addr.add_lit] at this
      exact this
/-- The cells of a new row of texts. -/
theorem new_txts (w : World) (ks : List ByteArray) : Txts (w.alloc (Obj.cells (ks.map Value.string).toArray 9)) (some ⟨w.heap.size, 0, none⟩) ks := by
  refine Or.inr ⟨w.heap.size, 0, rfl, by simp, fun j x hj => ?_⟩
  rw [Nat.zero_add, World.cell?_alloc_new]
  simp [hj]
end Go.Proofs.YtgajnmcjnkfblaaGreatDoor.Lx

namespace Go.Proofs.YtgajnmcjnkfblaaGreatDoor.Lx
open Go.RowKit
set_option linter.unusedVariables false

/-- All that lay is as it lay, but rows of texts from n₀ on. -/
structure Oth (n₀ : Nat) (W W' : World) : Prop where
  os : W'.os = W.os
  tape : W'.tape = W.tape
  output : W'.output = W.output
  size : W.heap.size ≤ W'.heap.size
  block : ∀ j o, W.heap[j]? = some o → (n₀ ≤ j → ∀ cs fz, o ≠ .cells cs 9 fz) → W'.heap[j]? = some o

theorem Oth.refl (n₀ : Nat) (W : World) : Oth n₀ W W := ⟨rfl, rfl, rfl, Nat.le_refl _, fun _ _ h _ => h⟩
theorem Oth.trans {n₀ : Nat} {A B C : World} (h : Oth n₀ A B) (k : Oth n₀ B C) : Oth n₀ A C :=
  ⟨k.os.trans h.os, k.tape.trans h.tape, k.output.trans h.output, Nat.le_trans h.size k.size, fun j o ho hn => k.block j o (h.block j o ho hn) hn⟩
theorem Oth.of_below {n₀ : Nat} {A B : World} (h : Below A.heap.size A B) : Oth n₀ A B :=
  ⟨h.os, h.tape, h.output, h.size, fun j o ho _ => (h.block j (Array.getElem?_eq_some_iff.1 ho).1).trans ho⟩
theorem Oth.of_grown {n₀ : Nat} {A B : World} {v : Value} {k : Nat} {xs : List Value} (hown : A.ownsRow n₀ 9 1 v k xs) (hg : A.grownBy B v.ownBlock) : Oth n₀ A B :=
  ⟨hg.os, hg.tape, hg.output, hg.size, fun j o ho hn => (hg.block j (Array.getElem?_eq_some_iff.1 ho).1 (fun e => by
    rcases hown.2 with ⟨rfl, _⟩ | ⟨g, cap, cur, rfl, hb, hgg, _⟩
    · cases e
    · have e' : j = g := Option.some.inj e
      subst e'
      rw [hgg] at ho
      exact hn hb _ _ (Option.some.inj ho).symm)).trans ho⟩
theorem Oth.below {n₀ : Nat} {A B : World} (h : Oth n₀ A B) (hn : n₀ ≤ A.heap.size) : Below n₀ A B :=
  ⟨h.os, h.tape, h.output, h.size, fun j hj => by
    have hlt : j < A.heap.size := Nat.lt_of_lt_of_le hj hn
    rw [h.block j _ (Array.getElem?_eq_getElem hlt) (fun h' => absurd h' (by omega)), Array.getElem?_eq_getElem hlt]⟩

/-- A step: the word with which a line begins. -/
def Stp (l : List UInt8) (k : Nat) : Prop := 0 < k ∧ k ≤ l.length ∧ wd false [] l = l.take k :: wd false [] (l.drop k)
theorem pl_of {b : UInt8} (h1 : b ≠ 10) (h2 : b ≠ 35) (h3 : ([32, 40, 41] : List UInt8).contains b = false) : plB b = true := by
  have h4 : b ≠ 32 ∧ b ≠ 40 ∧ b ≠ 41 := by simpa using h3
  simp [plB, h1, h2, h4]
theorem pl_not {b : UInt8} (h : ([32, 40, 41] : List UInt8).contains b = true) : plB b = false := by
  have h4 : b = 32 ∨ b = 40 ∨ b = 41 := by simpa using h
  rcases h4 with rfl | rfl | rfl <;> rfl
theorem stp_all {l : List UInt8} (hne : l ≠ []) (hl : ∀ b ∈ l, b ≠ 10 ∧ b ≠ 35) (h : ∀ b ∈ l, ([32, 40, 41] : List UInt8).contains b = false) : Stp l l.length := by
  have hlen : 0 < l.length := by cases l with | nil => exact absurd rfl hne | cons => simp
  refine ⟨hlen, Nat.le_refl _, ?_⟩
  have e := wd_more [] l [] (fun b hb => pl_of (hl b hb).1 (hl b hb).2 (h b hb))
  rw [List.append_nil, List.nil_append, wd_nil, fl_ne hne] at e
  rw [e, List.take_length, List.drop_length]
  rfl
theorem stp_one {d : UInt8} {x : List UInt8} (hd : ([32, 40, 41] : List UInt8).contains d = true) (hb : d ≠ 32) : Stp (d :: x) 1 := by
  have h4 : d = 40 ∨ d = 41 := by
    have : d = 32 ∨ d = 40 ∨ d = 41 := by simpa using hd
    rcases this with h | h
    · exact absurd h hb
    · exact h
  exact ⟨by omega, by simp, wd_bracket h4 x⟩
theorem stp_more {p x : List UInt8} {d : UInt8} (hne : p ≠ []) (hl : ∀ b ∈ p, b ≠ 10 ∧ b ≠ 35) (h : ∀ b ∈ p, ([32, 40, 41] : List UInt8).contains b = false) (hd : ([32, 40, 41] : List UInt8).contains d = true) : Stp (p ++ d :: x) p.length := by
  have hlen : 0 < p.length := by cases p with | nil => exact absurd rfl hne | cons => simp
  refine ⟨hlen, by simp, ?_⟩
  rw [wd_more _ p [] (fun b hb => pl_of (hl b hb).1 (hl b hb).2 (h b hb)), List.nil_append, wd_ends hne (pl_not hd)]
  simp

/-- What a line holds that has no remark any more. -/
def lineB (l : List UInt8) : Prop := ∀ b ∈ l, b.toNat < 128 ∧ b ≠ 10 ∧ b ≠ 35

end Go.Proofs.YtgajnmcjnkfblaaGreatDoor.Lx

namespace Go.Proofs.YtgajnmcjnkfblaaGreatDoor.Lx
open Go.RowKit
set_option linter.unusedVariables false

theorem head_drop (l : List UInt8) : (l.dropWhile (· == 32)).head? ≠ some 32 := by
  induction l with
  | nil => simp
  | cons c l ih =>
    by_cases hc : c = 32
    · subst hc; rw [List.dropWhile_cons_of_pos (by decide)]; exact ih
    · rw [List.dropWhile_cons_of_neg (by simpa using hc)]; simpa using hc
theorem drop_mem {l : List UInt8} {b : UInt8} (h : b ∈ l.dropWhile (· == 32)) : b ∈ l := (List.dropWhile_sublist _).subset h
theorem drop_len (l : List UInt8) : (l.dropWhile (· == 32)).length ≤ l.length := (List.dropWhile_sublist _).length_le

end Go.Proofs.YtgajnmcjnkfblaaGreatDoor.Lx

namespace Go.Proofs.YtgajnmcjnkfblaaGreatDoor.Lx
open Go.RowKit Go.Shelf
set_option linter.unusedVariables false
attribute [local go_sem] Oper.semAt_some

/-- What comes as a line. -/
abbrev Ln := { l : List UInt8 // l.length ≤ 2048 ∧ ∀ b ∈ l, okB b = true ∧ b ≠ 10 }
def mlen : Value → Nat
  | .bool true => 1
  | _ => 0

theorem ln_pos (a s : List UInt8) : 0 < (ln a s).length := by
  induction s generalizing a with
  | nil => simp [ln]
  | cons c s ih =>
    rw [ln]; split
    · simp
    · exact ih _

end Go.Proofs.YtgajnmcjnkfblaaGreatDoor.Lx

namespace Go.Proofs.YtgajnmcjnkfblaaGreatDoor.Lx
open Go.RowKit
set_option linter.unusedVariables false

theorem ok_num (b : UInt8) : okB b = (decide ((b.toNat : Int) = 10) || (decide (32 ≤ (b.toNat : Int)) && decide ((b.toNat : Int) ≤ 126))) := by
  unfold okB
  have h1 : (b == 10) = decide ((b.toNat : Int) = 10) := by
    rw [Bool.eq_iff_iff, beq_iff_eq, decide_eq_true_eq]
    constructor
    · rintro rfl; rfl
    · intro h; exact UInt8.toNat_inj.1 (by show b.toNat = 10; omega)
  have h2 : decide (32 ≤ b.toNat) = decide (32 ≤ (b.toNat : Int)) := by rw [Bool.eq_iff_iff, decide_eq_true_eq, decide_eq_true_eq]; omega
  have h3 : decide (b.toNat ≤ 126) = decide ((b.toNat : Int) ≤ 126) := by rw [Bool.eq_iff_iff, decide_eq_true_eq, decide_eq_true_eq]; omega
  rw [h1, h2, h3]

end Go.Proofs.YtgajnmcjnkfblaaGreatDoor.Lx

namespace Go.Proofs.YtgajnmcjnkfblaaGreatDoor.Lx
open Go.RowKit Go.Shelf
set_option linter.unusedVariables false
attribute [local go_sem] Oper.semAt_some

/-- The words of the lines that came. -/
def fw (pre : List Ln) : List (List UInt8) := (pre.map (·.1)).flatMap said
theorem fw_snoc (pre : List Ln) (x : Ln) : fw (pre ++ [x]) = fw pre ++ said x.1 := by simp [fw]
theorem said_len (x : Ln) : (said x.1).length ≤ 2048 := by
  have h1 := wd_short (x.1.takeWhile (· != 35))
  have h2 := (List.takeWhile_sublist (· != 35) (l := x.1)).length_le
  have h3 := x.2.1
  unfold said
  omega
theorem fw_len : ∀ pre : List Ln, (fw pre).length ≤ 2048 * pre.length
  | [] => by simp [fw]
  | x :: pre => by
    have h1 := fw_len pre
    have h2 := said_len x
    show (said x.1 ++ fw pre).length ≤ _
    rw [List.length_append, List.length_cons]
    omega
theorem take_all : ∀ {l : List UInt8}, (∀ b ∈ l, b ≠ 35) → l.takeWhile (· != 35) = l
  | [], _ => rfl
  | c :: l, h => by
    rw [List.takeWhile_cons_of_pos (by simpa using h c (by simp)), take_all (fun b hb => h b (by simp [hb]))]
theorem take_part {p x : List UInt8} (h : ∀ b ∈ p, b ≠ 35) : (p ++ 35 :: x).takeWhile (· != 35) = p := by
  rw [List.takeWhile_append_of_pos (fun b hb => by simpa using h b hb), List.takeWhile_cons_of_neg (by decide)]
  simp
theorem ok_lt {b : UInt8} (h : okB b = true) : b.toNat < 128 := by
  unfold okB at h
  rcases Bool.or_eq_true_iff.1 h with h | h
  · have : b = 10 := by simpa using h
    subst this; decide
  · have := (Bool.and_eq_true_iff.1 h).2
    simp at this; omega

theorem Oth.boxed {n₀ : Nat} {A B : World} (h : Oth n₀ A B) {k : Nat} {v : Value} (hb : Boxed A k 25 v) : Boxed B k 25 v :=
  h.block k _ hb (fun _ cs fz e => by cases e)
theorem Oth.keeps {n₀ m : Nat} {A B : World} (h : Oth n₀ A B) : KeepsFrom m A B :=
  ⟨h.size, fun k o _ hk ho => h.block k o hk (fun _ cs fz e => by subst e; cases ho)⟩

/-- What Words answers. -/
def WordsQ (L : List UInt8) (w : World) (e : Ending) (w' : World) : Prop :=
  ∃ (g : Option Addr) (n c : Nat) (er : Int), e = .returned (.tuple #[.slice g n c, .int .i64 er]) ∧ Below w.heap.size w w' ∧
    ((good L = true ∧ er = 0 ∧ w'.ownsRow w.heap.size 9 1 (.slice g n c) (wd false [] L).length ((wd false [] L).map S)) ∨ (good L = false ∧ er = 400 ∧ g = none ∧ n = 0 ∧ c = 0))

end Go.Proofs.YtgajnmcjnkfblaaGreatDoor.Lx

namespace Go.Proofs.YtgajnmcjnkfblaaGreatDoor.Lx
open Go.RowKit
set_option linter.unusedVariables false
/-- The words of a row that is owned, as texts. -/
theorem own_ba {w : World} {B : Nat} {g : Option Addr} {n c : Nat} {ks : List (List UInt8)} (h : w.ownsRow B 9 1 (.slice g n c) ks.length (ks.map S)) : n = (ks.map ba).length ∧ Txts w g (ks.map ba) := by
  obtain ⟨g', c', e, h1, _⟩ := own_txts h
  cases e
  exact ⟨rfl, h1⟩

abbrev wk : List (List UInt8) := [[40], [100, 101, 102], [48], [36, 49], [41], [120]]
theorem wk_one : wd false [] [40, 100, 101, 102, 32, 48, 32, 36, 49, 41, 35, 32, 110, 111, 10, 32, 120, 35] = wk := by decide +kernel
theorem wk_good : good [40, 100, 101, 102, 32, 48, 32, 36, 49, 41, 35, 32, 110, 111, 10, 32, 120, 35] = true := by decide +kernel
theorem wk_bad : good [9] = false := by decide +kernel

end Go.Proofs.YtgajnmcjnkfblaaGreatDoor.Lx

namespace Go.Proofs.YtgajnmcjnkfblaaGreatDoor.Lx
open Go.RowKit
set_option linter.unusedVariables false

theorem S_one (ks : List (List UInt8)) : ∀ u ∈ ks.map S, u.oneCell' = true := by
  intro u hu
  obtain ⟨b, _, rfl⟩ := List.mem_map.1 hu
  rfl
theorem own_none (W : World) (B : Nat) (hB : B ≤ W.heap.size) : (W.alloc (.cells #[] 9)).ownsRow B 9 1 (.slice (some ⟨W.heap.size, 0, none⟩) 0 0) 0 [] :=
  World.ownsRow_lit W #[] 0 hB (Nat.zero_le _) rfl
theorem app_two {w : World} {ops : Array Oper} {rest : List Oper} {o : Oper} {a : Act} {Q : Exit → Act → World → Prop} (hgd : o.guard = none) (s x : Operand)
    (ho : o.op = .call { callee := .builtin .append, args := #[s, x], argTypes := #[25, 25] }) (base B : Nat) (v X : Value) (ks ms : List (List UInt8)) (hs : a.eval s = v) (hx : a.eval x = X)
    (hown : w.ownsRow base 9 1 v ks.length (ks.map S)) (hX : w.ownsRow B 9 1 X ms.length (ms.map S)) (hb : base ≤ w.heap.size) (hlen : ks.length + ms.length ≤ 1073741824)
    (h : ∀ v' w', w'.ownsRow base 9 1 v' (ks ++ ms).length ((ks ++ ms).map S) → w.grownBy w' v.ownBlock → wpList Tryz.prog ops Q rest (a.put o.dst v') w') : wpList Tryz.prog ops Q (o :: rest) a w := by
  obtain ⟨i0, hi, hz0, hz1, hz2⟩ := info_parts Tryz.info9
  rcases hX.2 with ⟨rfl, hm⟩ | ⟨g, cap, cur, rfl, _⟩
  · have e : ms = [] := List.length_eq_zero_iff.1 hm
    subst e
    refine wpList_append_own_none hgd s x 25 ho base 9 i0 1 Tryz.underlying25 hi v _ _ hs hown hx (h v w ?_ ⟨rfl, rfl, rfl, Nat.le_refl _, fun _ _ _ => rfl⟩)
    rw [List.append_nil]; exact hown
  · refine wpList_append_own w hgd s x 25 ho base 9 i0 (.string ⟨#[]⟩) 1 16 Tryz.underlying25 hi hz0 hz1 hz2 rfl (by decide) v _ _ hs hown ⟨g, 0, none⟩ ms.length cap (ms.map S) hx (by simp) (fun j u hj => hX.cells (g := g) rfl j u hj) (S_one ms) (by unfold maxLen; omega) (by omega) hb ?_
    intro v' w' h1 h2 _
    refine h v' w' ?_ h2
    rw [List.length_append, List.map_append]; exact h1
end Go.Proofs.YtgajnmcjnkfblaaGreatDoor.Lx
