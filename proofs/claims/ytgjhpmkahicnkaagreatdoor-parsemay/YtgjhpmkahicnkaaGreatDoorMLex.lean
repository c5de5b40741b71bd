/- What the walks ask of the library: Cut at one byte, TrimLeft at a blank, IndexAny, Clone. · Rows of texts in memory, and the statements' own helpers SameTexts, Num, SpoilTexts. · The contracts of firstSize and appendWords: a line's words behind others. · The contract of appendWords: a line's words behind others. · The contract of lines: a text's lines, one by one. · The contract of hasWrongByte: is one of a text's bytes none that may stand? · The contract of lex.Words: the words of a text, or that it may not be. · Words at a text that may be and at one that may not; what every program answers that is one: awake returns true. · A row of texts put behind another one by append. · The contract of the document's answer to Words: the same plain function. -/
import Derived.Shelf.Strings.Cut
import Derived.Deep.RegionHeld3
import Derived.Deep.Light
import Derived.Test.YtgjhpmkahicnkaaGreatDoorShelf
import Derived.Test.YtgjhpmkahicnkaaGreatDoorMPlain
import Derived.Maps.AppendAt
import Derived.RangeFuncBox
import Derived.Deep.Strs
import Derived.RangeFuncNested
import Derived.RangeFuncBound
import Derived.RangeFuncCalls
import Derived.RangeFuncLeaves
import Derived.Shelf.Abstract
import Derived.Shelf.RegionOpen
import Derived.WalkKit
import Derived.OwnWalkIn
import Derived.TacticsInMore
import Derived.LoopNIn
import Derived.LoopIn
import Derived.Lib.AtoiErrMem
import Derived.Laws.AppendOwnNone

namespace Go.Proofs.YtgjhpmkahicnkaaGreatDoor.Lx
open Go.RowKit
set_option linter.unusedVariables false

/-- A text as a value's bytes. -/
def ba (l : List UInt8) : ByteArray := ⟨l.toArray⟩
theorem ba_size (l : List UInt8) : (ba l).size = l.length := by simp [ba, ByteArray.size]
theorem ba_list (l : List UInt8) : (ba l).data.toList = l := rfl
theorem ba_back (s : ByteArray) : ba s.data.toList = s := rfl

theorem ib_cases (c : UInt8) : ∀ l : List UInt8, (Lib.indexByte l c = -1 ∧ ∀ b ∈ l, b ≠ c) ∨ ∃ p x, l = p ++ c :: x ∧ (∀ b ∈ p, b ≠ c) ∧ Lib.indexByte l c = (p.length : Int)
  | [] => Or.inl ⟨rfl, by simp⟩
  | b :: l => by
    by_cases hb : b = c
    · subst hb
      exact Or.inr ⟨[], l, rfl, by simp, by simp [Lib.indexByte]⟩
    · have hb' : (b == c) = false := by simpa using hb
      rcases ib_cases c l with ⟨h1, h2⟩ | ⟨p, x, h1, h2, h3⟩
      · refine Or.inl ⟨by simp [Lib.indexByte, hb', h1], ?_⟩
        intro d hd
        rcases List.mem_cons.1 hd with rfl | hd
        · exact hb
        · exact h2 d hd
      · refine Or.inr ⟨b :: p, x, by simp [h1], ?_, ?_⟩
        · intro d hd
          rcases List.mem_cons.1 hd with rfl | hd
          · exact hb
          · exact h2 d hd
        · have h4 : (Lib.indexByte l c == -1) = false := by rw [h3, beq_eq_false_iff_ne]; omega
          simp only [Lib.indexByte, hb', h3]
          simp

theorem ia_cases (cs : List UInt8) : ∀ l : List UInt8, (Lib.indexAny l cs = -1 ∧ ∀ b ∈ l, cs.contains b = false) ∨ ∃ p d x, l = p ++ d :: x ∧ (∀ b ∈ p, cs.contains b = false) ∧ cs.contains d = true ∧ Lib.indexAny l cs = (p.length : Int)
  | [] => Or.inl ⟨rfl, by simp⟩
  | b :: l => by
    cases hb : cs.contains b
    · rcases ia_cases cs l with ⟨h1, h2⟩ | ⟨p, d, x, h1, h2, h3, h4⟩
      · refine Or.inl ⟨by simp only [Lib.indexAny, hb, h1]; rfl, ?_⟩
        intro d hd
        rcases List.mem_cons.1 hd with rfl | hd
        · exact hb
        · exact h2 d hd
      · refine Or.inr ⟨b :: p, d, x, by simp [h1], ?_, h3, ?_⟩
        · intro d hd
          rcases List.mem_cons.1 hd with rfl | hd
          · exact hb
          · exact h2 d hd
        · have h5 : (Lib.indexAny l cs == -1) = false := by rw [h4, beq_eq_false_iff_ne]; omega
          simp only [Lib.indexAny, hb, h4]
          simp
    · exact Or.inr ⟨[], b, l, rfl, by simp, hb, by simp only [Lib.indexAny, hb]; rfl⟩

/-- What Cut answers at one byte. -/
def CutQ (l : List UInt8) (c : UInt8) (e : Ending) : Prop :=
  ((∀ b ∈ l, b ≠ c) ∧ e = .returned (.tuple #[.string (ba l), .string ⟨#[]⟩, .bool false])) ∨
  ∃ p x, l = p ++ c :: x ∧ (∀ b ∈ p, b ≠ c) ∧ e = .returned (.tuple #[.string (ba p), .string (ba x), .bool true])

set_option maxHeartbeats 2000000 in
set_option maxRecDepth 100000 in
theorem slcut_any (s : ByteArray) (c : UInt8) (w : World) (hs : s.size ≤ 2048) :
    Calls Tryz.prog 37 #[.string s, .string ⟨#[c]⟩] w fun e w' => CutQ s.data.toList c e ∧ ∃ n, w' = w.drewN n := by
  rcases ib_cases c s.data.toList with ⟨hix, hno⟩ | ⟨p, x, hl, hp, hix⟩
  · have HN : Hid (∀ b ∈ s.data.toList, b ≠ c) := hno
    clear hno
    go_enter Tryz.func37, Tryz.ntmps37
    go_wp2_with (go_at_call 53; refine (Any.stringslite_Index_one Tryz.lays219 s c _).mono ?_; rintro e w' ⟨rfl, rfl⟩; rw [hix])
    go_ret3
    exact ⟨Or.inl ⟨HN.out, rfl⟩, 0, rfl⟩
  · have hsz : s.size = p.length + 1 + x.length := by
      rw [← ba_back s, ba_size, hl]; simp; omega
    have c1 : (0 : Int) ≤ (p.length : Int) := by omega
    have c2 : (p.length : Int) ≤ (s.size : Int) := by omega
    have c3 : (0 : Int) ≤ (p.length : Int) + 1 := by omega
    have c4 : (p.length : Int) + 1 ≤ (s.size : Int) := by omega
    have e1 : s.extract 0 p.length = ba p := by
      rw [← ba_back s, hl]; unfold ba; rw [Lib.extract_mk]; simp
    have e2 : s.extract (p.length + 1) s.size = ba x := by
      rw [hsz, ← ba_back s, hl]; unfold ba; rw [Lib.extract_mk]; simp
    have HL : Hid (s.data.toList = p ++ c :: x ∧ ∀ b ∈ p, b ≠ c) := ⟨hl, hp⟩
    have hw : wrap64 ((p.length : Int) + 1) = (p.length : Int) + 1 := by unfold wrap64; omega
    clear hl hp hsz
    go_enter Tryz.func37, Tryz.ntmps37
    go_wp2_with (go_at_call 53; refine (Any.stringslite_Index_one Tryz.lays219 s c _).mono ?_; rintro e w' ⟨rfl, rfl⟩; rw [hix])
    go_region
    go_wp2
    go_ret3

    exact ⟨Or.inr ⟨p, x, HL.out.1, HL.out.2, rfl⟩, 1, rfl⟩

set_option maxHeartbeats 400000 in
theorem cut_any (s : ByteArray) (c : UInt8) (w : World) (hs : s.size ≤ 2048) :
    Calls Tryz.prog 23 #[.string s, .string ⟨#[c]⟩] w fun e w' => CutQ s.data.toList c e ∧ ∃ n, w' = w.drewN n := by
  go_enter Tryz.func23, Tryz.ntmps23
  go_wp2_with fail
  refine (slcut_any s c w hs).mono ?_
  rintro e w1 ⟨⟨hno, rfl⟩ | ⟨p, x, hl, hp, rfl⟩, n, rfl⟩
  · have HN : Hid (∀ b ∈ s.data.toList, b ≠ c) := hno
    clear hno
    go_wp2_with fail
    go_ret3
    exact ⟨Or.inl ⟨HN.out, rfl⟩, n, rfl⟩
  · have HL : Hid (s.data.toList = p ++ c :: x ∧ ∀ b ∈ p, b ≠ c) := ⟨hl, hp⟩
    clear hl hp
    go_wp2_with fail
    go_ret3
    exact ⟨Or.inr ⟨p, x, HL.out.1, HL.out.2, rfl⟩, n, rfl⟩

theorem trim_any (s : ByteArray) (w : World) :
    Calls Tryz.prog 38 #[.string s, .string ⟨#[32]⟩] w fun e w' => e = .returned (.string (ba (s.data.toList.dropWhile (· == 32)))) ∧ w = w' := by
  refine (Any.strings_TrimLeft_one Tryz.lays161 s 32 (by decide) w).mono ?_
  rintro e w1 ⟨rfl, rfl⟩
  exact ⟨rfl, rfl⟩

theorem ascii_set : (Tryz.prog.info? (Tryz.lays153_ren.t 116)).map (fun i => (i.zero, i.size)) = some (some (.agg (Array.replicate 256 (.bool false))), 256) := by kernel_rfl

theorem ixany_any (s : ByteArray) (w : World) (hs : s.size ≤ 2048) (ha : ∀ b ∈ s.data.toList, b.toNat < 128) :
    Calls Tryz.prog 58 #[.string s, .string ⟨#[32, 40, 41]⟩] w fun e w' => e = .returned (.int .i64 (Lib.indexAny s.data.toList [32, 40, 41])) ∧ Below w.heap.size w w' :=
  Any.strings_IndexAny_laid Tryz.lays153 ascii_set s ⟨#[32, 40, 41]⟩ w (by omega) (by decide) (fun j b h => ha b (List.mem_of_getElem? h))
    (fun j b h => by
      have hm : b ∈ ([32, 40, 41] : List UInt8) := List.mem_of_getElem? h
      simp at hm
      rcases hm with rfl | rfl | rfl <;> decide)

set_option maxHeartbeats 400000 in
theorem clone_any (s : ByteArray) (w : World) (hs : s.size ≤ 281474976710656) :
    Calls Tryz.prog 40 #[.string s] w fun e w' => e = .returned (.string s) ∧ Below w.heap.size w w' := by
  go_enter Tryz.func40, Tryz.ntmps40
  go_wp2_with fail
  refine (Any.stringslite_Clone Tryz.laysM316 s w hs).mono ?_
  rintro e w1 ⟨rfl, hb⟩
  go_wp2_with fail
  go_ret
  exact ⟨rfl, hb⟩
end Go.Proofs.YtgjhpmkahicnkaaGreatDoor.Lx

namespace Go.Proofs.YtgjhpmkahicnkaaGreatDoor.Lx
open Go.RowKit
set_option linter.unusedVariables false
abbrev S (l : List UInt8) : Value := .string ⟨l.toArray⟩
theorem Tryz.info9 : (Tryz.prog.info? 9).map (fun i => (i.zero, i.size, i.bytes)) = some (some (.string ⟨#[]⟩), 1, 16) := by kernel_rfl
theorem below_drewN (B : Nat) (w : World) (n : Nat) : Below B w (w.drewN n) := ⟨rfl, rfl, rfl, Nat.le_refl _, fun _ _ => rfl⟩
theorem below_next {a b c : World} (h : Below a.heap.size a b) (k : Below b.heap.size b c) : Below a.heap.size a c := h.trans (k.mono h.size)
theorem own_below {W W' : World} {B e size n : Nat} {v : Value} {xs : List Value} (h : W.ownsRow B e size v n xs) (hb : Below W.heap.size W W') : W'.ownsRow B e size v n xs := by
  refine ⟨h.1, ?_⟩
  rcases h.2 with h2 | ⟨g, cap, cur, hv, hg, hh, r⟩
  · exact Or.inl h2
  · refine Or.inr ⟨g, cap, cur, hv, hg, ?_, r⟩
    have hlt : g < W.heap.size := by
      rcases Nat.lt_or_ge g W.heap.size with h' | h'
      · exact h'
      · rw [Array.getElem?_eq_none h'] at hh; cases hh
    rw [hb.block g hlt]; exact hh
theorem own_base {W : World} {B B' e size n : Nat} {v : Value} {xs : List Value} (h : W.ownsRow B e size v n xs) (hB : B' ≤ B) : W.ownsRow B' e size v n xs := by
  refine ⟨h.1, ?_⟩
  rcases h.2 with h2 | ⟨g, cap, cur, hv, hg, r⟩
  · exact Or.inl h2
  · exact Or.inr ⟨g, cap, cur, hv, by omega, r⟩
theorem own_len {W : World} {B e size n : Nat} {v : Value} {xs : List Value} (h : W.ownsRow B e size v n xs) : ∃ g c, v = .slice g n c ∧ ∀ a, v.ownBlock = some a → B ≤ a ∧ a < W.heap.size := by
  rcases h.2 with ⟨h2, h3⟩ | ⟨g, cap, cur, hv, hB, hh, _⟩
  · subst h3; exact ⟨_, _, h2, fun a e => by subst h2; cases e⟩
  · refine ⟨_, _, hv, fun a e => ?_⟩
    subst hv
    have e : g = a := Option.some.inj e
    subst e
    refine ⟨hB, ?_⟩
    rcases Nat.lt_or_ge g W.heap.size with h' | h'
    · exact h'
    · rw [Array.getElem?_eq_none h'] at hh; cases hh
/-- A slice's texts, wherever it lies. -/
def Txts (w : World) (g : Option Addr) (xs : List ByteArray) : Prop :=
  xs = [] ∨ ∃ bk o, g = some ⟨bk, o, none⟩ ∧ bk < w.heap.size ∧ ∀ (j : Nat) x, xs[j]? = some x → w.cell? ⟨bk, o + j, none⟩ = some (.string x)
theorem Txts.on {w w' : World} {g : Option Addr} {xs : List ByteArray} (h : Txts w g xs) (hb : Below w.heap.size w w') : Txts w' g xs := by
  rcases h with h | ⟨bk, o, h1, h2, h3⟩
  · exact Or.inl h
  · exact Or.inr ⟨bk, o, h1, Nat.lt_of_lt_of_le h2 hb.size, fun j x hx => by rw [hb.cell (p := ⟨bk, o + j, none⟩) h2]; exact h3 j x hx⟩
set_option maxHeartbeats 400000 in
theorem num_any (x : Int) (w : World) :
    Calls Tryz.prog 6 #[.int .i64 x] w fun e w' => e = .returned (.int .i64 x) ∧ w = w' := by
  go_enter Tryz.func6, Tryz.ntmps6
  go_wp2
  go_ret
  exact ⟨rfl, rfl⟩
/-- The same texts? -/
def sameB (xs ys : List ByteArray) : Bool := decide (xs = ys)
theorem txts_at {w : World} {g : Option Addr} {xs : List ByteArray} (h : Txts w g xs) {j : Nat} (hj : j < xs.length) : ∃ bk o, g = some ⟨bk, o, none⟩ ∧ w.cell? ⟨bk, o + j, none⟩ = some (.string xs[j]) := by
  rcases h with h | ⟨bk, o, h1, _, h3⟩
  · subst h; simp at hj
  · exact ⟨bk, o, h1, h3 j _ (List.getElem?_eq_getElem hj)⟩
theorem below_two {a b : World} (h : ∃ n, b = a.drewN n) : Below a.heap.size a b := by
  obtain ⟨n, rfl⟩ := h; exact below_drewN _ _ _
theorem own_txts {w : World} {B : Nat} {v : Value} {ks : List (List UInt8)} (h : w.ownsRow B 9 1 v ks.length (ks.map S)) : ∃ g c, v = .slice g (ks.map ba).length c ∧ Txts w g (ks.map ba) ∧ ks.length ≤ c := by
  rcases h.2 with ⟨h2, h3⟩ | ⟨g, cap, cur, hv, hB, hh, hc, _⟩
  · have e : ks = [] := List.length_eq_zero_iff.1 h3
    subst e
    exact ⟨none, 0, h2, Or.inl rfl, Nat.le_refl _⟩
  · refine ⟨_, cap, by rw [List.length_map]; exact hv, Or.inr ⟨g, 0, rfl, ?_, ?_⟩, hc⟩
    · rcases Nat.lt_or_ge g w.heap.size with h' | h'
      · exact h'
      · rw [Array.getElem?_eq_none h'] at hh; cases hh
    · intro j x hj
      subst hv
      have e : (ks.map S)[j]? = some (.string x) := by
        rw [List.getElem?_map] at hj ⊢
        cases hk : ks[j]? with
        | none => rw [hk] at hj; cases hj
        | some l => rw [hk] at hj; have e := Option.some.inj hj; subst e; rfl
      have := h.cells (g := g) rfl j _ e
      rw [Addr.add_lit] at this
      exact this
/-- The cells of a new row of texts. -/
theorem new_txts (w : World) (ks : List ByteArray) : Txts (w.alloc (Obj.cells (ks.map Value.string).toArray 9)) (some ⟨w.heap.size, 0, none⟩) ks := by
  refine Or.inr ⟨w.heap.size, 0, rfl, by simp, fun j x hj => ?_⟩
  rw [Nat.zero_add, World.cell?_alloc_new]
  simp [hj]
end Go.Proofs.YtgjhpmkahicnkaaGreatDoor.Lx

namespace Go.Proofs.YtgjhpmkahicnkaaGreatDoor.Lx
open Go.RowKit
set_option linter.unusedVariables false

/-- All that lay is as it lay, but rows of texts from n₀ on. -/
structure Oth (n₀ : Nat) (W W' : World) : Prop where
  os : W'.os = W.os
  tape : W'.tape = W.tape
  output : W'.output = W.output
  size : W.heap.size ≤ W'.heap.size
  block : ∀ j o, W.heap[j]? = some o → (n₀ ≤ j → ∀ cs fz, o ≠ .cells cs 9 fz) → W'.heap[j]? = some o

theorem Oth.refl (n₀ : Nat) (W : World) : Oth n₀ W W := ⟨rfl, rfl, rfl, Nat.le_refl _, fun _ _ h _ => h⟩
theorem Oth.trans {n₀ : Nat} {A B C : World} (h : Oth n₀ A B) (k : Oth n₀ B C) : Oth n₀ A C :=
  ⟨k.os.trans h.os, k.tape.trans h.tape, k.output.trans h.output, Nat.le_trans h.size k.size, fun j o ho hn => k.block j o (h.block j o ho hn) hn⟩
theorem Oth.of_below {n₀ : Nat} {A B : World} (h : Below A.heap.size A B) : Oth n₀ A B :=
  ⟨h.os, h.tape, h.output, h.size, fun j o ho _ => (h.block j (Array.getElem?_eq_some_iff.1 ho).1).trans ho⟩
theorem Oth.of_grown {n₀ : Nat} {A B : World} {v : Value} {k : Nat} {xs : List Value} (hown : A.ownsRow n₀ 9 1 v k xs) (hg : A.grownBy B v.ownBlock) : Oth n₀ A B :=
  ⟨hg.os, hg.tape, hg.output, hg.size, fun j o ho hn => (hg.block j (Array.getElem?_eq_some_iff.1 ho).1 (fun e => by
    rcases hown.2 with ⟨rfl, _⟩ | ⟨g, cap, cur, rfl, hb, hgg, _⟩
    · cases e
    · have e' : j = g := Option.some.inj e
      subst e'
      rw [hgg] at ho
      exact hn hb _ _ (Option.some.inj ho).symm)).trans ho⟩
theorem Oth.below {n₀ : Nat} {A B : World} (h : Oth n₀ A B) (hn : n₀ ≤ A.heap.size) : Below n₀ A B :=
  ⟨h.os, h.tape, h.output, h.size, fun j hj => by
    have hlt : j < A.heap.size := Nat.lt_of_lt_of_le hj hn
    rw [h.block j _ (Array.getElem?_eq_getElem hlt) (fun h' => absurd h' (by omega)), Array.getElem?_eq_getElem hlt]⟩

/-- A step: the word with which a line begins. -/
def Stp (l : List UInt8) (k : Nat) : Prop := 0 < k ∧ k ≤ l.length ∧ wd false [] l = l.take k :: wd false [] (l.drop k)
theorem pl_of {b : UInt8} (h1 : b ≠ 10) (h2 : b ≠ 35) (h3 : ([32, 40, 41] : List UInt8).contains b = false) : plB b = true := by
  have h4 : b ≠ 32 ∧ b ≠ 40 ∧ b ≠ 41 := by simpa using h3
  simp [plB, h1, h2, h4]
theorem pl_not {b : UInt8} (h : ([32, 40, 41] : List UInt8).contains b = true) : plB b = false := by
  have h4 : b = 32 ∨ b = 40 ∨ b = 41 := by simpa using h
  rcases h4 with rfl | rfl | rfl <;> rfl
theorem stp_all {l : List UInt8} (hne : l ≠ []) (hl : ∀ b ∈ l, b ≠ 10 ∧ b ≠ 35) (h : ∀ b ∈ l, ([32, 40, 41] : List UInt8).contains b = false) : Stp l l.length := by
  have hlen : 0 < l.length := by cases l with | nil => exact absurd rfl hne | cons => simp
  refine ⟨hlen, Nat.le_refl _, ?_⟩
  have e := wd_more [] l [] (fun b hb => pl_of (hl b hb).1 (hl b hb).2 (h b hb))
  rw [List.append_nil, List.nil_append, wd_nil, fl_ne hne] at e
  rw [e, List.take_length, List.drop_length]
  rfl
theorem stp_one {d : UInt8} {x : List UInt8} (hd : ([32, 40, 41] : List UInt8).contains d = true) (hb : d ≠ 32) : Stp (d :: x) 1 := by
  have h4 : d = 40 ∨ d = 41 := by
    have : d = 32 ∨ d = 40 ∨ d = 41 := by simpa using hd
    rcases this with h | h
    · exact absurd h hb
    · exact h
  exact ⟨by omega, by simp, wd_bracket h4 x⟩
theorem stp_more {p x : List UInt8} {d : UInt8} (hne : p ≠ []) (hl : ∀ b ∈ p, b ≠ 10 ∧ b ≠ 35) (h : ∀ b ∈ p, ([32, 40, 41] : List UInt8).contains b = false) (hd : ([32, 40, 41] : List UInt8).contains d = true) : Stp (p ++ d :: x) p.length := by
  have hlen : 0 < p.length := by cases p with | nil => exact absurd rfl hne | cons => simp
  refine ⟨hlen, by simp, ?_⟩
  rw [wd_more _ p [] (fun b hb => pl_of (hl b hb).1 (hl b hb).2 (h b hb)), List.nil_append, wd_ends hne (pl_not hd)]
  simp

/-- What a line holds that has no remark any more. -/
def lineB (l : List UInt8) : Prop := ∀ b ∈ l, b.toNat < 128 ∧ b ≠ 10 ∧ b ≠ 35

set_option maxHeartbeats 400000 in
theorem first_any (s : ByteArray) (w : World) (hs : s.size ≤ 2048) (hl : lineB s.data.toList) (hne : s.data.toList ≠ []) (hh : s.data.toList.head? ≠ some 32) :
    Calls Tryz.prog 39 #[.string s] w fun e w' => (∃ k : Nat, e = .returned (.int .i64 (k : Int)) ∧ Stp s.data.toList k) ∧ Below w.heap.size w w' := by
  have hix := ixany_any s w hs (fun b hb => (hl b hb).1)
  have hlen : s.size = s.data.toList.length := ba_size s.data.toList
  rcases ia_cases [32, 40, 41] s.data.toList with ⟨h1, h2⟩ | ⟨p, d, x, h1, h2, h3, h4⟩
  · rw [h1] at hix
    have HS : Hid (Stp s.data.toList s.size) := by
      show Stp _ _
      rw [hlen]; exact stp_all hne (fun b hb => (hl b hb).2) h2
    clear hl hne hh h2 h1 hlen
    go_enter Tryz.func39, Tryz.ntmps39
    go_wp2_with fail
    refine hix.mono ?_
    rintro e w1 ⟨rfl, hb⟩
    go_wp2_with fail
    go_ret
    exact ⟨⟨s.size, rfl, HS.out⟩, hb⟩
  · rw [h4] at hix
    cases p with
    | nil =>
      have HS : Hid (Stp s.data.toList 1) := by
        show Stp _ _
        rw [h1] at hh ⊢
        exact stp_one h3 (fun e => hh (by subst e; rfl))
      clear hl hne hh h2 h1 hlen h4
      go_enter Tryz.func39, Tryz.ntmps39
      go_wp2_with fail
      refine hix.mono ?_
      rintro e w1 ⟨rfl, hb⟩
      go_wp2_with fail
      go_ret
      exact ⟨⟨1, rfl, HS.out⟩, hb⟩
    | cons c p =>
      obtain ⟨k, hk⟩ : ∃ k, k = (c :: p).length := ⟨_, rfl⟩
      rw [← hk] at hix
      have hk0 : 0 < k := by rw [hk]; simp
      have HS : Hid (Stp s.data.toList k) := by
        show Stp _ _
        rw [h1, hk]
        exact stp_more (by simp) (fun b hb => (hl b (by rw [h1]; exact List.mem_append_left _ hb)).2) h2 h3
      clear hl hne hh h2 h1 hlen h4 hk
      have e1 : ((k : Int) == -1) = false := by rw [beq_eq_false_iff_ne]; omega
      have e2 : ((k : Int) == 0) = false := by rw [beq_eq_false_iff_ne]; omega
      go_enter Tryz.func39, Tryz.ntmps39
      go_wp2_with fail
      refine hix.mono ?_
      rintro e w1 ⟨rfl, hb⟩
      go_wp2_with fail
      go_ret
      exact ⟨⟨k, rfl, HS.out⟩, hb⟩
end Go.Proofs.YtgjhpmkahicnkaaGreatDoor.Lx

namespace Go.Proofs.YtgjhpmkahicnkaaGreatDoor.Lx
open Go.RowKit
set_option linter.unusedVariables false

theorem head_drop (l : List UInt8) : (l.dropWhile (· == 32)).head? ≠ some 32 := by
  induction l with
  | nil => simp
  | cons c l ih =>
    by_cases hc : c = 32
    · subst hc; rw [List.dropWhile_cons_of_pos (by decide)]; exact ih
    · rw [List.dropWhile_cons_of_neg (by simpa using hc)]; simpa using hc
theorem drop_mem {l : List UInt8} {b : UInt8} (h : b ∈ l.dropWhile (· == 32)) : b ∈ l := (List.dropWhile_sublist _).subset h
theorem drop_len (l : List UInt8) : (l.dropWhile (· == 32)).length ≤ l.length := (List.dropWhile_sublist _).length_le

set_option maxHeartbeats 1600000 in
set_option maxRecDepth 100000 in
theorem more_any (n₀ : Nat) (v : Value) (ws : List (List UInt8)) (s : ByteArray) (w : World) (hown : w.ownsRow n₀ 9 1 v ws.length (ws.map S)) (hn₀ : n₀ ≤ w.heap.size) (hs : s.size ≤ 2048) (hl : lineB s.data.toList)
    (hws : ws.length ≤ 1073741824) :
    Calls Tryz.prog 24 #[v, .string s] w fun e w' => ∃ v', e = .returned v' ∧ w'.ownsRow n₀ 9 1 v' (ws ++ wd false [] s.data.toList).length ((ws ++ wd false [] s.data.toList).map S) ∧ Oth n₀ w w' := by
  obtain ⟨i0, hi, hz0, hz1, hz2⟩ := info_parts Tryz.info9
  obtain ⟨g, c, rfl, _⟩ := own_len hown
  have hlen : s.size = s.data.toList.length := ba_size s.data.toList
  obtain ⟨L, hL⟩ : ∃ L, s.data.toList = L := ⟨_, rfl⟩
  have htr := trim_any s w
  rw [hL] at hl hlen htr ⊢
  have hlL : L.length ≤ 2048 := by omega
  clear hlen hL
  go_enter Tryz.func24, Tryz.ntmps24
  go_wp2_with fail
  refine htr.mono ?_
  rintro e w1 ⟨rfl, rfl⟩
  go_wp2_with fail
  go_loopw [0, 5, 6] (fun s0 s5 _ wr => ∃ (us : List (List UInt8)) (r : List UInt8), s5 = .string (ba r) ∧ wr.ownsRow n₀ 9 1 s0 us.length (us.map S) ∧ us ++ wd false [] r = ws ++ wd false [] L ∧ r.head? ≠ some 32 ∧ lineB r ∧
      r.length + us.length ≤ L.length + ws.length ∧ r.length ≤ L.length ∧ Oth n₀ w wr)
    (fun _ s5 _ _ => Lib.strSize s5)
  case atStart => exact ⟨ws, L.dropWhile (· == 32), rfl, hown, by rw [wd_blank], head_drop L, fun b hb => hl b (drop_mem hb), by have := drop_len L; omega, drop_len L, Oth.refl _ _⟩
  case round =>
    obtain ⟨us, r, rfl, ho, he, hh, hlr, hle, hrL, hoth⟩ := hrel
    obtain ⟨gv, cv, rfl, _⟩ := own_len ho
    have HE : Hid (us ++ wd false [] r = ws ++ wd false [] L) := he
    clear he
    by_cases hr : r = []
    · subst hr
      rw [show ba [] = (⟨#[]⟩ : ByteArray) from rfl]
      have e := HE.out
      rw [show wd false [] ([] : List UInt8) = [] from rfl, List.append_nil] at e
      have HF : Hid (wr.ownsRow n₀ 9 1 (.slice gv us.length cv) us.length (us.map S)) := ho
      have HO : Hid (Oth n₀ w wr) := hoth
      clear ho hoth hlr hh
      go_wp2_with fail
      go_ret
      rw [← e]
      exact ⟨_, rfl, HF.out, HO.out⟩
    · have hrl : 0 < r.length := List.length_pos_iff.2 hr
      have hrne : r ≠ [] := hr
      clear hr
      obtain ⟨t, ht⟩ : ∃ t, t = ba r := ⟨_, rfl⟩
      have htl : t.data.toList = r := by rw [ht]; rfl
      have htsz : t.size = r.length := by rw [ht, ba_size]
      rw [← ht]
      have hfs := first_any t wr (by omega) (by rw [htl]; exact hlr) (by rw [htl]; exact hrne) (by rw [htl]; exact hh)
      have q1 : ¬ t.toList = [] := by rw [Lib.toList_data, htl]; exact hrne
      have q2 : t.toList.isEmpty = false := by rw [Lib.toList_data, htl]; exact List.isEmpty_eq_false_iff.2 hrne
      have HT : Hid (t = ba r) := ht
      rw [htl] at hfs
      have HTL : Hid (t.data.toList = r) := htl
      have HO : Hid (Oth n₀ w wr) := hoth
      have HR : Hid (r ≠ [] ∧ r.head? ≠ some 32 ∧ lineB r) := ⟨hrne, hh, hlr⟩
      have HZ : Hid (t.size = r.length) := htsz
      clear ht htl hoth hrne hh hlr htsz
      go_wp2_with fail
      refine hfs.mono ?_
      rintro e w2 ⟨⟨k, rfl, hst⟩, hb2⟩
      clear hfs
      have k1 : (0 : Int) ≤ (k : Int) := by omega
      have k2 : (k : Int) ≤ (t.size : Int) := by have := hst.2.1; have := HZ.out; omega
      have e1 : t.extract 0 k = ba (r.take k) := by rw [Lib.extract_upto, HTL.out]; rfl
      have e2 : t.extract k t.size = ba (r.drop k) := by rw [Lib.extract_from, HTL.out]; rfl
      have HST : Hid (Stp r k) := hst
      clear hst
      go_wp2_with fail
      refine (clone_any _ _ ?_).mono ?_
      · rw [ba_size, List.length_take]; omega
      rintro e w3 ⟨rfl, hb3⟩
      have hown3 : w3.ownsRow n₀ 9 1 _ us.length (us.map S) := own_below (own_below ho hb2) hb3
      have HO3 : Hid (Oth n₀ w w3) := (HO.out.trans (Oth.of_below hb2)).trans (Oth.of_below hb3)
      have hz3 : n₀ ≤ w3.heap.size := Nat.le_trans hn₀ HO3.out.size
      clear ho hb2 hb3 HO
      go_wp2_with (at_builtin; refine wpList_append_own _ rfl _ _ 37 rfl n₀ 9 i0 (.string ⟨#[]⟩) 1 16 Tryz.underlying37 hi hz0 hz1 hz2 rfl (by decide) _ us.length _ rfl (hown3.alloc _) ⟨w3.heap.size, 0, none⟩ 1 1 [.string (ba (r.take k))] rfl rfl ?c1 ?c2 ?c3 ?c4 ?c5 ?_)
      case c1 =>
        intro j u hj
        match j, hj with
        | 0, hj => simp at hj; subst hj; simp [Addr.add]
      case c2 => intro u hu; simp at hu; subst hu; rfl
      case c3 => unfold maxLen; omega
      case c4 => omega
      case c5 => simp; omega
      intro v' w4 hown4 hgrow _
      have HO4 : Hid (Oth n₀ w w4) := HO3.out.trans ((Oth.of_below ((Below.refl _ w3).alloc (Nat.le_refl _) _)).trans (Oth.of_grown (hown3.alloc _) hgrow))
      have hown5 : w4.ownsRow n₀ 9 1 v' (us ++ [r.take k]).length ((us ++ [r.take k]).map S) := by
        rw [List.length_append, List.map_append]; exact hown4
      clear hown4 hgrow hown3 HO3
      obtain ⟨gv', cv', rfl, _⟩ := own_len hown5
      have htr2 := trim_any (ba (r.drop k)) w4
      rw [ba_list] at htr2
      have HW5 : Hid (w4.ownsRow n₀ 9 1 (.slice gv' (us ++ [r.take k]).length cv') (us ++ [r.take k]).length ((us ++ [r.take k]).map S)) := hown5
      clear hown5
      go_wp2_with fail
      refine htr2.mono ?_
      rintro e w5 ⟨rfl, rfl⟩
      clear htr2
      go_wp2_with fail
      go_roundw
      case rel =>
        have h5 := HW5.out
        refine ⟨us ++ [r.take k], (r.drop k).dropWhile (· == 32), rfl, by simpa using h5, ?_, head_drop _, ?_, ?_, ?_, HO4.out⟩
        · rw [wd_blank, ← HE.out, HST.out.2.2]; simp
        · exact fun b hb => HR.out.2.2 b (List.mem_of_mem_drop (drop_mem hb))
        · have h1 := drop_len (r.drop k)
          have h2 := HST.out.1
          rw [List.length_drop] at h1
          simp only [List.length_append, List.length_cons, List.length_nil]
          omega
        · have h1 := drop_len (r.drop k)
          rw [List.length_drop] at h1
          omega
      case measure =>
        have h1 := drop_len (r.drop k)
        have h2 := HST.out.1
        rw [List.length_drop] at h1
        show Lib.strSize (.string (ba _)) < Lib.strSize (.string t)
        have h3 := HZ.out
        rw [Lib.strSize_string, Lib.strSize_string, ba_size]
        omega
end Go.Proofs.YtgjhpmkahicnkaaGreatDoor.Lx

namespace Go.Proofs.YtgjhpmkahicnkaaGreatDoor.Lx
open Go.RowKit Go.Shelf
set_option linter.unusedVariables false
attribute [local go_sem] Oper.semAt_some

/-- What comes as a line. -/
abbrev Ln := { l : List UInt8 // l.length ≤ 2048 ∧ ∀ b ∈ l, okB b = true ∧ b ≠ 10 }
def mlen : Value → Nat
  | .bool true => 1
  | _ => 0

theorem ln_pos (a s : List UInt8) : 0 < (ln a s).length := by
  induction s generalizing a with
  | nil => simp [ln]
  | cons c s ih =>
    rw [ln]; split
    · simp
    · exact ih _

set_option maxRecDepth 100000 in
set_option maxHeartbeats 1600000 in
theorem lines_in (n l Bn : Nat) (s : ByteArray) (hs : s.size ≤ 2048) (hok : ∀ b ∈ s.data.toList, okB b = true) (hn : 1 ≤ n) (J Jx : List Ln → World → Prop)
    (hJ : ∀ pre W q, J pre W → J pre (W.drewN q))
    (hY : ∀ pre (x : Ln) W, J pre W → pre.length < (ln [] s.data.toList).length → YieldAt Fence.wide (n - 1) Tryz.prog l #[.string (ba x.1)] W fun e W' =>
      (e = .returned (.bool true) ∧ J (pre ++ [x]) W' ∧ True) ∨ (e = .returned (.bool false) ∧ Jx (pre ++ [x]) W'))
    (W : World) (hc : W.cell? ⟨Bn, 0, none⟩ = some (.string s)) (h0 : J [] W) :
    CallsIn Fence.wide n Tryz.prog 36 #[.func (.yield l) #[] #[], .pointer (some ⟨Bn, 0, none⟩)] W fun e W' => (∃ v, e = .returned v) ∧
      ((∃ ys : List Ln, ys.map (·.1) = ln [] s.data.toList ∧ J ys W') ∨ (∃ pre, True ∧ Jx pre W')) := by
  have hlen : s.size = s.data.toList.length := ba_size s.data.toList
  obtain ⟨L, hL⟩ : ∃ L, s.data.toList = L := ⟨_, rfl⟩
  have hsL : s = ba L := by rw [← hL]; rfl
  rw [hL] at hok hY hlen ⊢
  have hLL : L.length ≤ 2048 := by omega
  subst hsL
  clear hlen hs hL
  refine callsIn_of_wp Tryz.func36 rfl trivial ?_ rfl
  simp only [Tryz.ntmps36, List.size_toArray, List.length_cons, List.length_nil, Nat.reduceAdd, Nat.reduceSub, Array.replicate_succ, Array.replicate_zero, List.push_toArray, List.append_toArray, List.nil_append, List.cons_append]
  gi_wp2
  gi_loopw [3, 4, 5] (fun s3 s4 _ wr => ∃ (pre : List Ln) (r : List UInt8) (m : Bool), s3 = .string (ba r) ∧ s4 = .bool m ∧ Hid (J pre wr) ∧ Hid (m = true → pre.map (·.1) ++ ln [] r = ln [] L) ∧ Hid (m = false → pre.map (·.1) = ln [] L ∧ r = []) ∧
      Hid (∀ b ∈ r, okB b = true) ∧ r.length ≤ 2048)
    (fun s3 s4 _ _ => Lib.strSize s3 + mlen s4)
  case atStart =>
    exact ⟨[], L, true, rfl, rfl, h0, (fun _ => rfl), (fun h => by cases h), hok, hLL⟩
  case round =>
    obtain ⟨pre, r, m, rfl, rfl, HJ, HM, HN, HO, hr⟩ := hrel
    cases m with
    | false =>
      have H2 : Hid (pre.map (·.1) = ln [] L) := (HN.out rfl).1
      clear HN HM
      gi_wp2
      go_end0
      exact ⟨⟨_, rfl⟩, .inl ⟨pre, H2.out, HJ.out⟩⟩
    | true =>
      have hcut := cut_any (ba r) 10 wr (by rw [ba_size]; exact hr)
      rw [ba_list] at hcut
      have H1 : Hid (pre.map (·.1) ++ ln [] r = ln [] L) := HM.out rfl
      have hpl : pre.length < (ln [] L).length := by
        rw [← H1.out, List.length_append, List.length_map]
        have := ln_pos [] r
        omega
      clear HN HM
      gi_wp2_with fail
      refine ⟨trivial, (callsIn_wide.2 hcut).mono ?_⟩
      clear hcut
      rintro e w2 ⟨⟨hno, rfl⟩ | ⟨p, x, hl, hp, rfl⟩, q, rfl⟩
      · obtain ⟨z, hz⟩ : ∃ z : Ln, z.1 = r := ⟨⟨r, hr, fun b hb => ⟨HO.out b hb, hno b hb⟩⟩, rfl⟩
        obtain ⟨fn, tmps, assign, body, hy, hR⟩ := hY pre z (wr.drewN q) (hJ pre wr q HJ.out) hpl
        rw [hz] at hy
        have HZ : Hid (z.1 = r) := hz
        clear hz
        have H3 : Hid (ln [] r = [r]) := ln_all hno
        clear hno
        gi_wp2
        refine hR.mono ?_
        rintro e W3 (⟨rfl, hJ3, _⟩ | ⟨rfl, hJx3⟩)
        · have HJ3 : Hid _ := hJ3
          clear hJ3
          gi_wp2
          go_roundw
          case rel =>
            refine ⟨_, [], false, rfl, rfl, HJ3, (fun h => by cases h), (fun _ => ⟨?_, rfl⟩), (fun b hb => by cases hb), by simp⟩
            rw [List.map_append, List.map_cons, List.map_nil, HZ.out, ← H1.out, H3.out]
          case measure =>
            show Lib.strSize (.string ⟨#[]⟩) + mlen (.bool false) < Lib.strSize (.string (ba r)) + mlen (.bool true)
            rw [Lib.strSize_string, Lib.strSize_string]
            show 0 + 0 < (ba r).size + 1
            omega
        · gi_wp2
          refine bodyPost_ret (results_none rfl _ _ _) rfl ?_
          exact ⟨⟨_, rfl⟩, .inr ⟨_, trivial, hJx3⟩⟩
      · have hx : x.length < r.length := by rw [hl]; simp; omega
        have hpr : p.length ≤ r.length := by rw [hl]; simp
        obtain ⟨z, hz⟩ : ∃ z : Ln, z.1 = p := ⟨⟨p, by omega, fun b hb => ⟨HO.out b (by rw [hl]; exact List.mem_append_left _ hb), hp b hb⟩⟩, rfl⟩
        obtain ⟨fn, tmps, assign, body, hy, hR⟩ := hY pre z (wr.drewN q) (hJ pre wr q HJ.out) hpl
        rw [hz] at hy
        have HZ : Hid (z.1 = p) := hz
        clear hz
        have H3 : Hid (ln [] r = p :: ln [] x) := by
          show ln [] r = _
          rw [hl]; exact ln_part hp x
        have H4 : Hid (∀ b ∈ x, okB b = true) := fun b hb => HO.out b (by rw [hl]; exact List.mem_append_right _ (List.mem_cons_of_mem _ hb))
        clear hl hp
        gi_wp2
        refine hR.mono ?_
        rintro e W3 (⟨rfl, hJ3, _⟩ | ⟨rfl, hJx3⟩)
        · have HJ3 : Hid _ := hJ3
          clear hJ3
          gi_wp2
          go_roundw
          case rel =>
            refine ⟨_, x, true, rfl, rfl, HJ3, (fun _ => ?_), (fun h => by cases h), H4, by omega⟩
            rw [List.map_append, List.map_cons, List.map_nil, HZ.out, ← H1.out, H3.out]; simp
          case measure =>
            show Lib.strSize (.string (ba x)) + mlen (.bool true) < Lib.strSize (.string (ba r)) + mlen (.bool true)
            rw [Lib.strSize_string, Lib.strSize_string, ba_size, ba_size]
            omega
        · gi_wp2
          refine bodyPost_ret (results_none rfl _ _ _) rfl ?_
          exact ⟨⟨_, rfl⟩, .inr ⟨_, trivial, hJx3⟩⟩

theorem lines_stops (n Bn : Nat) (s : ByteArray) (hs : s.size ≤ 2048) (hok : ∀ b ∈ s.data.toList, okB b = true) (hn : 1 ≤ n) (w : World) (hBn : Bn < w.heap.size) (hc : w.cell? ⟨Bn, 0, none⟩ = some (.string s)) :
    SeqStopsK Fence.wide n Tryz.prog 36 #[.pointer (some ⟨Bn, 0, none⟩)] (fun x : Ln => #[Value.string (ba x.1)]) (fun _ _ => True) (fun ys => ys.map (·.1) = ln [] s.data.toList) (fun _ => True) (ln [] s.data.toList).length w := fun l J Jx W hW hJ _ hY h0 =>
  lines_in n l Bn s hs hok hn J Jx (fun pre A q hA => hJ pre A _ none hA ⟨rfl, rfl, rfl, Nat.le_refl _, fun _ _ _ => rfl⟩ (fun r e => by cases e)) hY W ((hW.cell (p := ⟨Bn, 0, none⟩) hBn).trans hc) h0

set_option maxHeartbeats 400000 in
theorem lines_any (s : ByteArray) (w : World) :
    Calls Tryz.prog 22 #[.string s] w fun e w' => e = .returned (.func (.func 36) #[] #[.pointer (some ⟨w.heap.size, 0, none⟩)]) ∧ w' = w.alloc (.cells #[.string s] 9) := by
  go_enter Tryz.func22, Tryz.ntmps22
  go_wp2_with fail
  go_ret
  exact ⟨rfl, rfl⟩
end Go.Proofs.YtgjhpmkahicnkaaGreatDoor.Lx

namespace Go.Proofs.YtgjhpmkahicnkaaGreatDoor.Lx
open Go.RowKit
set_option linter.unusedVariables false

theorem ok_num (b : UInt8) : okB b = (decide ((b.toNat : Int) = 10) || (decide (32 ≤ (b.toNat : Int)) && decide ((b.toNat : Int) ≤ 126))) := by
  unfold okB
  have h1 : (b == 10) = decide ((b.toNat : Int) = 10) := by
    rw [Bool.eq_iff_iff, beq_iff_eq, decide_eq_true_eq]
    constructor
    · rintro rfl; rfl
    · intro h; exact UInt8.toNat_inj.1 (by show b.toNat = 10; omega)
  have h2 : decide (32 ≤ b.toNat) = decide (32 ≤ (b.toNat : Int)) := by rw [Bool.eq_iff_iff, decide_eq_true_eq, decide_eq_true_eq]; omega
  have h3 : decide (b.toNat ≤ 126) = decide ((b.toNat : Int) ≤ 126) := by rw [Bool.eq_iff_iff, decide_eq_true_eq, decide_eq_true_eq]; omega
  rw [h1, h2, h3]

set_option maxHeartbeats 400000 in
theorem bad_any (b : UInt8) (w : World) :
    Calls Tryz.prog 35 #[.int .u8 (b.toNat : Int)] w fun e w' => e = .returned (.bool (!okB b)) ∧ w = w' := by
  rw [ok_num b]
  generalize ((b.toNat : Int)) = n
  by_cases h1 : n = 10
  · subst h1
    go_enter Tryz.func35, Tryz.ntmps35
    go_wp2_with fail
    go_ret
    exact ⟨rfl, rfl⟩
  · have e1 : (n != 10) = true := by simpa using h1
    have e2 : decide (n = 10) = false := by simpa using h1
    rw [e2]
    by_cases h2 : n < 32
    · have e3 : decide (n < 32) = true := by simpa using h2
      have e4 : decide (32 ≤ n) = false := by simp; omega
      rw [e4]
      go_enter Tryz.func35, Tryz.ntmps35
      go_wp2_with fail
      go_ret
      exact ⟨rfl, rfl⟩
    · have e3 : decide (n < 32) = false := by simpa using h2
      have e4 : decide (32 ≤ n) = true := by simp; omega
      rw [e4]
      by_cases h3 : 126 < n
      · have e5 : decide (n ≤ 126) = false := by simp; omega
        rw [e5]
        go_enter Tryz.func35, Tryz.ntmps35
        go_wp2_with fail
        go_ret
        exact ⟨rfl, rfl⟩
      · have e5 : decide (n ≤ 126) = true := by simp; omega
        rw [e5]
        go_enter Tryz.func35, Tryz.ntmps35
        go_wp2_with fail
        go_ret
        exact ⟨rfl, rfl⟩

set_option maxHeartbeats 800000 in
set_option maxRecDepth 100000 in
theorem ixf_any (bk c : Nat) (zs : List UInt8) (w : World) (hn : zs.length ≤ 2048) (hc : ∀ j (hj : j < zs.length), w.cell? ⟨bk, j, none⟩ = some (.int .u8 (zs[j].toNat : Int))) :
    Calls Tryz.prog 52 #[.slice (some ⟨bk, 0, none⟩) zs.length c, .func (.func 35) #[] #[]] w fun e w' => (∃ i : Int, e = .returned (.int .i64 i) ∧ decide (0 ≤ i) = !zs.all okB) ∧ w = w' := by
  go_enter Tryz.func52, Tryz.ntmps52
  go_wp2_with fail
  go_loopw [5, 8] (fun _ s8 wr => ∃ k : Nat, k ≤ zs.length ∧ s8 = .int .i64 (k : Int) ∧ w = wr ∧ Hid ((zs.take k).all okB = true))
    (fun _ s8 _ => zs.length - (intOf s8).toNat)
  case atStart => exact ⟨0, Nat.zero_le _, rfl, rfl, by show ([] : List UInt8).all okB = true; rfl⟩
  case round =>
    obtain ⟨k, hk, rfl, rfl, H⟩ := hrel
    by_cases hlt : k < zs.length
    · have hlt' : (k : Int) < (zs.length : Int) := by omega
      have hcell := hc k hlt
      have HC : Hid (∀ j (hj : j < zs.length), w.cell? ⟨bk, j, none⟩ = some (.int .u8 (zs[j].toNat : Int))) := hc
      clear hc
      obtain ⟨b, hb⟩ : ∃ b, b = zs[k] := ⟨_, rfl⟩
      rw [← hb] at hcell
      have HB : Hid (b = zs[k]) := hb
      clear hb
      have hcall := bad_any b w
      cases hq : okB b with
      | true =>
        rw [hq] at hcall
        go_wp2_with (go_at_call 35; refine hcall.mono ?_; rintro e w' ⟨rfl, rfl⟩)
        go_roundw
        case rel =>
          refine ⟨k + 1, by omega, by go_num, by simp, ?_⟩
          show (zs.take (k + 1)).all okB = true
          rw [List.take_add_one, List.getElem?_eq_getElem hlt, List.all_append, H.out, ← HB.out]
          simp [hq]
        case measure => simp [intOf]; omega
      | false =>
        rw [hq] at hcall
        go_wp2_with (go_at_call 35; refine hcall.mono ?_; rintro e w' ⟨rfl, rfl⟩)
        go_ret
        refine ⟨⟨_, rfl, ?_⟩, rfl⟩
        have hf : zs.all okB = false := by
          rw [List.all_eq_false]
          exact ⟨b, by rw [HB.out]; exact List.getElem_mem hlt, by simp [hq]⟩
        rw [hf]
        simp
    · have hlt' : ¬ (k : Int) < (zs.length : Int) := by omega
      go_wp2_with fail
      go_ret
      refine ⟨⟨_, rfl, ?_⟩, rfl⟩
      have e : k = zs.length := by omega
      have := H.out
      rw [e, List.take_length] at this
      rw [this]
      rfl

set_option maxHeartbeats 400000 in
theorem cf_any (bk c : Nat) (zs : List UInt8) (w : World) (hn : zs.length ≤ 2048) (hc : ∀ j (hj : j < zs.length), w.cell? ⟨bk, j, none⟩ = some (.int .u8 (zs[j].toNat : Int))) :
    Calls Tryz.prog 34 #[.slice (some ⟨bk, 0, none⟩) zs.length c, .func (.func 35) #[] #[]] w fun e w' => e = .returned (.bool (!zs.all okB)) ∧ w = w' := by
  go_enter Tryz.func34, Tryz.ntmps34
  go_wp2_with fail
  refine (ixf_any bk c zs w hn hc).mono ?_
  rintro e w1 ⟨⟨i, rfl, hi⟩, rfl⟩
  go_wp2_with fail
  go_ret
  exact ⟨by rw [← hi]; rfl, rfl⟩

set_option maxHeartbeats 400000 in
theorem wrong_any (s : ByteArray) (w : World) (hs : s.size ≤ 2048) :
    Calls Tryz.prog 21 #[.string s] w fun e w' => e = .returned (.bool (!s.data.toList.all okB)) ∧ Below w.heap.size w w' := by
  have hcv := Lib.run_convert_string_bytes (P := Tryz.prog) w 9 68 5 s (u := .string) Tryz.underlying9 Tryz.underlying68 Tryz.underlying5
  have hlen : s.size = s.data.toList.length := (ba_size s.data.toList)
  have hcf := cf_any w.heap.size (grownCap w s.size 0 5) s.data.toList (Lib.bytesWorld w 5 s) (by omega) (fun j hj => by
    rw [Lib.bytesWorld_cell w 5 s j (by omega)]
    rw [List.getD, List.getElem?_eq_getElem hj]; rfl)
  rw [← hlen] at hcf
  have hbw := Lib.bytesWorld_below w 5 s
  obtain ⟨B, hB⟩ : ∃ B, s.data.toList.all okB = B := ⟨_, rfl⟩
  rw [hB] at hcf ⊢
  clear hlen hB
  go_enter Tryz.func21, Tryz.ntmps21
  go_wp2_with fail
  refine hcf.mono ?_
  rintro e w1 ⟨rfl, rfl⟩
  go_wp2_with fail
  go_ret
  exact ⟨rfl, hbw⟩
end Go.Proofs.YtgjhpmkahicnkaaGreatDoor.Lx

namespace Go.Proofs.YtgjhpmkahicnkaaGreatDoor.Lx
open Go.RowKit Go.Shelf
set_option linter.unusedVariables false
attribute [local go_sem] Oper.semAt_some

/-- The words of the lines that came. -/
def fw (pre : List Ln) : List (List UInt8) := (pre.map (·.1)).flatMap said
theorem fw_snoc (pre : List Ln) (x : Ln) : fw (pre ++ [x]) = fw pre ++ said x.1 := by simp [fw]
theorem said_len (x : Ln) : (said x.1).length ≤ 2048 := by
  have h1 := wd_short (x.1.takeWhile (· != 35))
  have h2 := (List.takeWhile_sublist (· != 35) (l := x.1)).length_le
  have h3 := x.2.1
  unfold said
  omega
theorem fw_len : ∀ pre : List Ln, (fw pre).length ≤ 2048 * pre.length
  | [] => by simp [fw]
  | x :: pre => by
    have h1 := fw_len pre
    have h2 := said_len x
    show (said x.1 ++ fw pre).length ≤ _
    rw [List.length_append, List.length_cons]
    omega
theorem take_all : ∀ {l : List UInt8}, (∀ b ∈ l, b ≠ 35) → l.takeWhile (· != 35) = l
  | [], _ => rfl
  | c :: l, h => by
    rw [List.takeWhile_cons_of_pos (by simpa using h c (by simp)), take_all (fun b hb => h b (by simp [hb]))]
theorem take_part {p x : List UInt8} (h : ∀ b ∈ p, b ≠ 35) : (p ++ 35 :: x).takeWhile (· != 35) = p := by
  rw [List.takeWhile_append_of_pos (fun b hb => by simpa using h b hb), List.takeWhile_cons_of_neg (by decide)]
  simp
theorem ok_lt {b : UInt8} (h : okB b = true) : b.toNat < 128 := by
  unfold okB at h
  rcases Bool.or_eq_true_iff.1 h with h | h
  · have : b = 10 := by simpa using h
    subst this; decide
  · have := (Bool.and_eq_true_iff.1 h).2
    simp at this; omega

theorem Oth.boxed {n₀ : Nat} {A B : World} (h : Oth n₀ A B) {k : Nat} {v : Value} (hb : Boxed A k 37 v) : Boxed B k 37 v :=
  h.block k _ hb (fun _ cs fz e => by cases e)
theorem Oth.keeps {n₀ m : Nat} {A B : World} (h : Oth n₀ A B) : KeepsFrom m A B :=
  ⟨h.size, fun k o _ hk ho => h.block k o hk (fun _ cs fz e => by subst e; cases ho)⟩

/-- What Words answers. -/
def WordsQ (L : List UInt8) (w : World) (e : Ending) (w' : World) : Prop :=
  ∃ (g : Option Addr) (n c : Nat) (er : Int), e = .returned (.tuple #[.slice g n c, .int .i64 er]) ∧ Below w.heap.size w w' ∧
    ((good L = true ∧ er = 0 ∧ w'.ownsRow w.heap.size 9 1 (.slice g n c) (wd false [] L).length ((wd false [] L).map S)) ∨ (good L = false ∧ er = 400 ∧ g = none ∧ n = 0 ∧ c = 0))

set_option maxRecDepth 100000 in
set_option maxHeartbeats 2000000 in
theorem words_any (s : ByteArray) (w : World) :
    Calls Tryz.prog 12 #[.string s] w fun e w' => WordsQ s.data.toList w e w' := by
  have hlen : s.size = s.data.toList.length := ba_size s.data.toList
  refine (callsIn_wide (n := 3)).1 ?_
  refine callsIn_of_wp_marks Tryz.func12 rfl trivial ?_ rfl
  simp only [Tryz.ntmps12, List.size_toArray, List.length_cons, List.length_nil, Nat.reduceAdd, Nat.reduceSub, Array.replicate_succ, Array.replicate_zero, List.push_toArray, List.append_toArray, List.nil_append, List.cons_append]
  by_cases hs : s.size ≤ 2048
  · have hs' : ¬ (2048 : Int) < (s.size : Int) := by omega
    have hwr := wrong_any s w hs
    have hstops : (∀ b ∈ s.data.toList, okB b = true) → ∀ (Bn : Nat) (W : World), Bn < W.heap.size → W.cell? ⟨Bn, 0, none⟩ = some (.string s) → _ := fun hok Bn W h1 h2 => lines_stops 2 Bn s hs hok (by omega) W h1 h2
    obtain ⟨L, hL⟩ : ∃ L, s.data.toList = L := ⟨_, rfl⟩
    have HL : Hid (s.data.toList = L) := hL
    rw [hL] at hwr hstops ⊢
    have HLN : Hid (s.size = L.length) := by rw [← hL]; exact hlen
    clear hL hlen
    cases hb : L.all okB with
    | false =>
      rw [hb] at hwr
      have HG : Hid (good L = false) := by
        show good L = false
        unfold good; rw [hb]; simp
      clear hstops hb
      gi_wp2_with fail
      refine ⟨trivial, (callsIn_wide.2 hwr).mono ?_⟩
      rintro e w1 ⟨rfl, hb1⟩
      gi_wp2_with fail
      exact ⟨_, results_tmp2 rfl _ _ _, _, _, _, _, rfl, hb1, Or.inr ⟨HG.out, rfl, rfl, rfl, rfl⟩⟩
    | true =>
      rw [hb] at hwr
      have hlL : L.length ≤ 2048 := by have := HLN.out; omega
      have HG : Hid (good L = true) := by
        show good L = true
        unfold good; rw [hb]; simpa using hlL
      have hst := hstops (fun b h => List.all_eq_true.1 hb b h)
      have hN := ln_length L []
      clear hstops hb
      gi_wp2_with fail
      refine ⟨trivial, (callsIn_wide.2 hwr).mono ?_⟩
      rintro e w1 ⟨rfl, hb1⟩
      clear hwr
      gi_wp2_with fail
      refine ⟨trivial, (callsIn_wide.2 (lines_any s _)).mono ?_⟩
      rintro e w2 ⟨rfl, rfl⟩
      gi_wp2_with fail
      have hz := hb1.size
      have bO := Boxed.new w1 37 (.slice none 0 0)
      have bN := Boxed.new (w1.alloc (.cells #[.slice none 0 0] 37)) 9 (.string s)
      rw [World.size_alloc] at bN
      have hB0 : Below w.heap.size w ((w1.alloc (.cells #[.slice none 0 0] 37)).alloc (.cells #[.string s] 9)) := (hb1.alloc hz _).alloc (by simp; omega) _
      refine wpIn_rangeFunc_ownG rfl (by omega) (gf := 36) (lb := #[.pointer (some ⟨w1.heap.size + 1, 0, none⟩)]) rfl trivial (enters_of Tryz.func36 (by kernel_rfl) rfl)
        (hst (w1.heap.size + 1) _ (by simp) bN.cell) (fun _ _ => trivial) (fun _ _ _ _ _ _ _ _ => trivial) (Below.refl _ _) (fun _ => rfl)
        (fun pre W => (∃ v, Boxed W w1.heap.size 37 v ∧ W.ownsRow w.heap.size 9 1 v (fw pre).length ((fw pre).map S) ∧ True) ∧ Below w.heap.size w W)
        (fun _ _ _ => False)
        (OwnFrom.and (Own.from (holdsRow_own w.heap.size w1.heap.size 37 9 1 (fun pre => (fw pre).length) (fun pre => (fw pre).map S) (fun _ _ => True)) _) (ownFrom_below (Nat.le_refl _) (by simp; omega)))
        (fun _ _ _ _ _ hs _ _ => hs)
        ⟨⟨_, bO.alloc _, World.ownsRow_nil _ _ _ _, trivial⟩, hB0⟩
        (fun x => { tmps := #[.string s, undef, .slice none 0 0, .int .i64 0, .pointer (some ⟨w1.heap.size, 0, none⟩), .string (ba x.1), undef, undef, undef, .string s, .int .i64 s.size, .bool false, .bool false, .string s, .bool false, .bool false, .string s, .func (.func 36) #[] #[.pointer (some ⟨w1.heap.size + 1, 0, none⟩)], .string (ba x.1), undef, undef, undef, undef, undef, undef, undef, undef, undef, undef], defers := [] }) ?assign ?body ?done ?stop
      case assign =>
        intro l x W K hK
        gi_wp2
        exact hK
      case body =>
        clear hst bN bO hB0
        rintro l pre x W ⟨⟨v, hv, hrow, _⟩, hB⟩ hlt
        obtain ⟨gv, cv, rfl, _⟩ := own_len hrow
        have hcut := cut_any (ba x.1) 35 W (by rw [ba_size]; exact x.2.1)
        rw [ba_list] at hcut
        have hfl : (fw pre).length ≤ 1073741824 := by
          have := fw_len pre; omega
        have key : ∀ p : List UInt8, p.length ≤ 2048 → lineB p → ∀ q : Nat, Calls Tryz.prog 24 #[.slice gv (fw pre).length cv, .string (ba p)] (W.drewN q) fun e w' => ∃ v', e = .returned v' ∧ w'.ownsRow w.heap.size 9 1 v' (fw pre ++ wd false [] p).length ((fw pre ++ wd false [] p).map S) ∧ Oth w.heap.size (W.drewN q) w' :=
          fun p h1 h2 q => more_any w.heap.size _ (fw pre) (ba p) (W.drewN q) (own_below hrow (below_drewN _ _ _)) hB.size (by rw [ba_size]; exact h1) h2 hfl
        have ends : ∀ (p : List UInt8) (q : Nat) (g' : Option Addr) (n' c' : Nat) (W' : World), wd false [] p = said x.1 → W'.ownsRow w.heap.size 9 1 (.slice g' n' c') (fw pre ++ wd false [] p).length ((fw pre ++ wd false [] p).map S) → Oth w.heap.size (W.drewN q) W' →
            KeepsFrom ((w1.alloc (.cells #[.slice none 0 0] 37)).alloc (.cells #[.string s] 9)).heap.size W (W'.setCell ⟨w1.heap.size, 0, none⟩ (.slice g' n' c')) ∧ True ∧
            (∃ v, Boxed (W'.setCell ⟨w1.heap.size, 0, none⟩ (.slice g' n' c')) w1.heap.size 37 v ∧ (W'.setCell ⟨w1.heap.size, 0, none⟩ (.slice g' n' c')).ownsRow w.heap.size 9 1 v (fw (pre ++ [x])).length ((fw (pre ++ [x])).map S) ∧ True) ∧
            Below w.heap.size w (W'.setCell ⟨w1.heap.size, 0, none⟩ (.slice g' n' c')) := by
          intro p q g' n' c' W' he ho hO
          have hv1 : Boxed W' w1.heap.size 37 _ := hO.boxed (A := W.drewN q) hv
          refine ⟨((show KeepsFrom _ W (W.drewN q) from ⟨Nat.le_refl _, fun _ _ _ h _ => h⟩).trans (hO.keeps (A := W.drewN q))).trans ((KeepsOthers.setCell _ _ _).from _), trivial, ⟨_, hv1.set _, ?_, trivial⟩, ?_⟩
          · rw [fw_snoc, ← he]
            exact ho.kept (grownBy_setCell' W' w1.heap.size _) (.inr (hv1.not_row (by decide) ho).symm)
          · exact ((hB.trans (below_drewN _ _ q)).trans (hO.below (A := W.drewN q) hB.size)).setCell (p := ⟨w1.heap.size, 0, none⟩) hz _
        have HE : Hid _ := ends
        clear ends
        have hc := hv.cell
        have hf := hv.frozen
        gi_wp2_with fail
        refine ⟨trivial, CallsIn.inRound l ((callsIn_wide.2 hcut).mono ?_)⟩
        clear hcut
        rintro e w2 ⟨⟨hno, rfl⟩ | ⟨p, y, hl, hp, rfl⟩, q, rfl⟩
        · have hl1 : lineB x.1 := fun b hb => ⟨ok_lt (x.2.2 b hb).1, (x.2.2 b hb).2, hno b hb⟩
          have hk := key x.1 x.2.1 hl1 q
          have HS : Hid (wd false [] x.1 = said x.1) := by
            show wd false [] x.1 = said x.1
            unfold said; rw [take_all hno]
          have hc2 : (W.drewN q).cell? ⟨w1.heap.size, 0, none⟩ = some (.slice gv (fw pre).length cv) := hc
          clear hno key hl1
          gi_wp2_with fail
          refine ⟨trivial, CallsIn.inRound l ((callsIn_wide.2 hk).mono ?_)⟩
          rintro e w3 ⟨v', rfl, ho3, hO3⟩
          obtain ⟨g', c', rfl, _⟩ := own_len ho3
          have hv3 : Boxed w3 w1.heap.size 37 _ := hO3.boxed (A := W.drewN q) hv
          have hc3 := hv3.cell
          have hf3 := hv3.frozen
          have HF : Hid _ := HE.out x.1 q _ _ _ w3 HS.out ho3 hO3
          clear hk ho3 hO3 hv3 HE
          gi_wp2_with fail
          have h := HF.out
          rw [List.length_append] at h
          exact h
        · have hpx : p.length ≤ 2048 := by have := x.2.1; rw [hl] at this; simp at this; omega
          have hl1 : lineB p := fun b hb => by
            have := x.2.2 b (by rw [hl]; exact List.mem_append_left _ hb)
            exact ⟨ok_lt this.1, this.2, hp b hb⟩
          have hk := key p hpx hl1 q
          have HS : Hid (wd false [] p = said x.1) := by
            show wd false [] p = said x.1
            unfold said; rw [hl, take_part hp]
          have hc2 : (W.drewN q).cell? ⟨w1.heap.size, 0, none⟩ = some (.slice gv (fw pre).length cv) := hc
          clear hl hp key hl1
          gi_wp2_with fail
          refine ⟨trivial, CallsIn.inRound l ((callsIn_wide.2 hk).mono ?_)⟩
          rintro e w3 ⟨v', rfl, ho3, hO3⟩
          obtain ⟨g', c', rfl, _⟩ := own_len ho3
          have hv3 : Boxed w3 w1.heap.size 37 _ := hO3.boxed (A := W.drewN q) hv
          have hc3 := hv3.cell
          have hf3 := hv3.frozen
          have HF : Hid _ := HE.out p q _ _ _ w3 HS.out ho3 hO3
          clear hk ho3 hO3 hv3 HE
          gi_wp2_with fail
          have h := HF.out
          rw [List.length_append] at h
          exact h
      case done =>
        rintro D ys W hD hys ⟨⟨v, hv, hrow, _⟩, hB⟩ hK
        have hc := hv.cell
        obtain ⟨gv, cv, rfl, _⟩ := own_len hrow
        have HW : Hid (fw ys = wd false [] L) := by
          show fw ys = _
          unfold fw; rw [hys, ln_said L [] (by simp)]; rfl
        have HR : Hid _ := hrow
        clear hrow hys hst
        gi_wp2
        refine ⟨by simp, .inl ⟨_, _, rfl, run_takeDeferred hK, ?_⟩⟩
        refine ⟨_, results_tmp2 rfl _ _ _, _, _, _, _, rfl, hB.trans (belowK_b (w := w) (Nat.le_refl _) W D _ _ (by simp at hD; omega) hK rfl rfl), Or.inl ⟨HG.out, rfl, ?_⟩⟩
        rw [← HW.out]
        exact ownsRow_putObj HR.out _ hK rfl
      case stop =>
        rintro D c pre W _ _ h _
        exact h.elim
  · have hs' : (2048 : Int) < (s.size : Int) := by omega
    have HG : Hid (good s.data.toList = false) := by
      show good _ = false
      unfold good; rw [← hlen]
      simp [hs]
    clear hlen hs
    gi_wp2_with fail
    refine ⟨trivial, ?_⟩
    gi_wp2_with fail
    exact ⟨_, results_tmp2 rfl _ _ _, _, _, _, _, rfl, Below.refl _ _, Or.inr ⟨HG.out, rfl, rfl, rfl, rfl⟩⟩
end Go.Proofs.YtgjhpmkahicnkaaGreatDoor.Lx

namespace Go.Proofs.YtgjhpmkahicnkaaGreatDoor.Lx
open Go.RowKit
set_option linter.unusedVariables false

theorem words_good (s : ByteArray) (w : World) (h : good s.data.toList = true) :
    Calls Tryz.prog 12 #[.string s] w fun e w' => ∃ g c, e = .returned (.tuple #[.slice g (wd false [] s.data.toList).length c, .int .i64 0]) ∧
      w'.ownsRow w.heap.size 9 1 (.slice g (wd false [] s.data.toList).length c) (wd false [] s.data.toList).length ((wd false [] s.data.toList).map S) ∧ Below w.heap.size w w' := by
  refine (words_any s w).mono ?_
  rintro e w' ⟨g, n, c, er, rfl, hb, ⟨_, rfl, ho⟩ | ⟨h', _⟩⟩
  · obtain ⟨g', c', e, _⟩ := own_len ho
    cases e
    exact ⟨_, _, rfl, ho, hb⟩
  · rw [h] at h'; cases h'
theorem words_bad (s : ByteArray) (w : World) (h : good s.data.toList = false) :
    Calls Tryz.prog 12 #[.string s] w fun e w' => e = .returned (.tuple #[.slice none 0 0, .int .i64 400]) ∧ Below w.heap.size w w' := by
  refine (words_any s w).mono ?_
  rintro e w' ⟨g, n, c, er, rfl, hb, ⟨h', _⟩ | ⟨_, rfl, rfl, rfl, rfl⟩⟩
  · rw [h] at h'; cases h'
  · exact ⟨rfl, hb⟩

/-- The words of a row that is owned, as texts. -/
theorem own_ba {w : World} {B : Nat} {g : Option Addr} {n c : Nat} {ks : List (List UInt8)} (h : w.ownsRow B 9 1 (.slice g n c) ks.length (ks.map S)) : n = (ks.map ba).length ∧ Txts w g (ks.map ba) := by
  obtain ⟨g', c', e, h1, _⟩ := own_txts h
  cases e
  exact ⟨rfl, h1⟩

abbrev wk : List (List UInt8) := [[40], [100, 101, 102], [48], [36, 49], [41], [120]]
theorem wk_one : wd false [] [40, 100, 101, 102, 32, 48, 32, 36, 49, 41, 35, 32, 110, 111, 10, 32, 120, 35] = wk := by decide +kernel
theorem wk_good : good [40, 100, 101, 102, 32, 48, 32, 36, 49, 41, 35, 32, 110, 111, 10, 32, 120, 35] = true := by decide +kernel
theorem wk_bad : good [9] = false := by decide +kernel

end Go.Proofs.YtgjhpmkahicnkaaGreatDoor.Lx

namespace Go.Proofs.YtgjhpmkahicnkaaGreatDoor.Lx
open Go.RowKit
set_option linter.unusedVariables false

theorem S_one (ks : List (List UInt8)) : ∀ u ∈ ks.map S, u.oneCell' = true := by
  intro u hu
  obtain ⟨b, _, rfl⟩ := List.mem_map.1 hu
  rfl
theorem own_none (W : World) (B : Nat) (hB : B ≤ W.heap.size) : (W.alloc (.cells #[] 9)).ownsRow B 9 1 (.slice (some ⟨W.heap.size, 0, none⟩) 0 0) 0 [] :=
  World.ownsRow_lit W #[] 0 hB (Nat.zero_le _) rfl
theorem app_two {w : World} {ops : Array Oper} {rest : List Oper} {o : Oper} {a : Act} {Q : Exit → Act → World → Prop} (hgd : o.guard = none) (s x : Operand)
    (ho : o.op = .call { callee := .builtin .append, args := #[s, x], argTypes := #[37, 37] }) (base B : Nat) (v X : Value) (ks ms : List (List UInt8)) (hs : a.eval s = v) (hx : a.eval x = X)
    (hown : w.ownsRow base 9 1 v ks.length (ks.map S)) (hX : w.ownsRow B 9 1 X ms.length (ms.map S)) (hb : base ≤ w.heap.size) (hlen : ks.length + ms.length ≤ 1073741824)
    (h : ∀ v' w', w'.ownsRow base 9 1 v' (ks ++ ms).length ((ks ++ ms).map S) → w.grownBy w' v.ownBlock → wpList Tryz.prog ops Q rest (a.put o.dst v') w') : wpList Tryz.prog ops Q (o :: rest) a w := by
  obtain ⟨i0, hi, hz0, hz1, hz2⟩ := info_parts Tryz.info9
  rcases hX.2 with ⟨rfl, hm⟩ | ⟨g, cap, cur, rfl, _⟩
  · have e : ms = [] := List.length_eq_zero_iff.1 hm
    subst e
    refine wpList_append_own_none hgd s x 37 ho base 9 i0 1 Tryz.underlying37 hi v _ _ hs hown hx (h v w ?_ ⟨rfl, rfl, rfl, Nat.le_refl _, fun _ _ _ => rfl⟩)
    rw [List.append_nil]; exact hown
  · refine wpList_append_own w hgd s x 37 ho base 9 i0 (.string ⟨#[]⟩) 1 16 Tryz.underlying37 hi hz0 hz1 hz2 rfl (by decide) v _ _ hs hown ⟨g, 0, none⟩ ms.length cap (ms.map S) hx (by simp) (fun j u hj => hX.cells (g := g) rfl j u hj) (S_one ms) (by unfold maxLen; omega) (by omega) hb ?_
    intro v' w' h1 h2 _
    refine h v' w' ?_ h2
    rw [List.length_append, List.map_append]; exact h1
end Go.Proofs.YtgjhpmkahicnkaaGreatDoor.Lx

namespace Go.Proofs.YtgjhpmkahicnkaaGreatDoor.Lx
open Go.RowKit
set_option linter.unusedVariables false

theorem app_one {W : World} {ops : Array Oper} {rest : List Oper} {o : Oper} {a : Act} {Q : Exit → Act → World → Prop} (hgd : o.guard = none) (s x : Operand)
    (ho : o.op = .call { callee := .builtin .append, args := #[s, x], argTypes := #[37, 37] }) (base : Nat) (v : Value) (ks : List (List UInt8)) (t : List UInt8) (hs : a.eval s = v)
    (hx : a.eval x = .slice (some ⟨W.heap.size, 0, none⟩) 1 1) (hown : W.ownsRow base 9 1 v ks.length (ks.map S)) (hb : base ≤ W.heap.size) (hlen : ks.length ≤ 1073741823)
    (h : ∀ v' w', w'.ownsRow base 9 1 v' (ks ++ [t]).length ((ks ++ [t]).map S) → (W.alloc (.cells #[.string (ba t)] 9)).grownBy w' v.ownBlock → wpList Tryz.prog ops Q rest (a.put o.dst v') w') :
    wpList Tryz.prog ops Q (o :: rest) a (W.alloc (.cells #[.string (ba t)] 9)) :=
  app_two hgd s x ho base W.heap.size v _ ks [t] hs hx (hown.alloc _) (World.ownsRow_lit W #[.string (ba t)] 1 (Nat.le_refl _) (by unfold maxLen; omega) rfl) (by simp; omega) (by simp; omega) h

/-- Where the walk through the text stands. -/
def RInv (L : List UInt8) (us : List (List UInt8)) (wo : List UInt8) (i : Nat) : Prop :=
  (i ≤ L.length ∧ us ++ wd false wo (L.drop i) = wd false [] L) ∨ (i = L.length + 1 ∧ us = wd false [] L)
theorem RInv.len {L : List UInt8} {us : List (List UInt8)} {wo : List UInt8} {i : Nat} (h : RInv L us wo i) : us.length ≤ L.length := by
  have h1 := wd_short L
  rcases h with ⟨_, h⟩ | ⟨_, h⟩
  · have := congrArg List.length h
    rw [List.length_append] at this
    omega
  · rw [h]; exact h1
theorem RInv.at {L : List UInt8} {us : List (List UInt8)} {wo : List UInt8} {i : Nat} (h : RInv L us wo i) (hi : i < L.length) : us ++ wd false wo (L[i] :: L.drop (i + 1)) = wd false [] L := by
  rcases h with ⟨_, h⟩ | ⟨h, _⟩
  · rw [← List.drop_eq_getElem_cons hi]; exact h
  · omega
theorem RInv.plain {L : List UInt8} {us : List (List UInt8)} {wo : List UInt8} {i : Nat} (h : RInv L us wo i) (hi : i < L.length) (hp : plB L[i] = true) : RInv L us (wo ++ [L[i]]) (i + 1) := by
  have := h.at hi
  rw [wd_cons, if_pos hp] at this
  exact Or.inl ⟨by omega, this⟩
theorem RInv.parts {L : List UInt8} {us : List (List UInt8)} {wo : List UInt8} {i : Nat} (h : RInv L us wo i) (hi : i < L.length) (hp : plB L[i] = false) : us ++ (fl wo ++ (br L[i] ++ wd (L[i] == 35) [] (L.drop (i + 1)))) = wd false [] L := by
  have := h.at hi
  rw [wd_cons, hp, if_neg (by decide)] at this
  exact this
theorem RInv.last {L : List UInt8} {us : List (List UInt8)} {wo : List UInt8} (h : RInv L us wo L.length) : RInv L (us ++ fl wo) [] (L.length + 1) := by
  rcases h with ⟨_, h⟩ | ⟨h, _⟩
  · rw [List.drop_length, wd_nil] at h
    exact Or.inr ⟨rfl, h⟩
  · omega
theorem wd_out {r : List UInt8} (h : r = [] ∨ ∃ x, r = 10 :: x) : wd false [] r = wd true [] r := by
  rcases h with rfl | ⟨x, rfl⟩
  · rfl
  · rfl
theorem wd_in {c : UInt8} (h : c ≠ 10) (r : List UInt8) : wd true [] (c :: r) = wd true [] r := by
  rw [wd_rem, if_neg (by simpa using h)]
theorem RInv.ten {L : List UInt8} {us : List (List UInt8)} {m : Nat} (h : us ++ wd true [] (L.drop (m + 1)) = wd false [] L) (hm : m + 1 < L.length) (e : L[m + 1] = 10) : RInv L us [] (m + 1) := by
  refine Or.inl ⟨by omega, ?_⟩
  rw [wd_out (Or.inr ⟨L.drop (m + 1 + 1), by rw [List.drop_eq_getElem_cons hm, e]⟩)]
  exact h
theorem RInv.over {L : List UInt8} {us : List (List UInt8)} {m : Nat} (h : us ++ wd true [] (L.drop (m + 1)) = wd false [] L) (hm : m + 1 = L.length) : RInv L us [] (m + 1) := by
  refine Or.inl ⟨by omega, ?_⟩
  rw [wd_out (Or.inl (by rw [hm, List.drop_length]))]
  exact h
theorem rem_next {L : List UInt8} {us : List (List UInt8)} {m : Nat} (h : us ++ wd true [] (L.drop (m + 1)) = wd false [] L) (hm : m + 1 < L.length) (e : L[m + 1] ≠ 10) : us ++ wd true [] (L.drop (m + 1 + 1)) = wd false [] L := by
  rw [← h, List.drop_eq_getElem_cons hm, wd_in e]
theorem wrap_next {m : Nat} (h : m ≤ 1000000) : wrap64 ((m : Int) + 1) = (m : Int) + 1 := by unfold wrap64; omega
theorem byte_ten {b : UInt8} (h : (b.toNat : Int) = 10) : b = 10 := UInt8.toNat_inj.1 (by show b.toNat = 10; omega)
theorem byte_not {b : UInt8} (h : ¬ (b.toNat : Int) = 10) : b ≠ 10 := fun e => h (by rw [e]; rfl)
theorem pl_byte {b : UInt8} (h : plB b = true) : ¬ (b.toNat : Int) = 32 ∧ ¬ (b.toNat : Int) = 10 ∧ ¬ (b.toNat : Int) = 35 ∧ ¬ (b.toNat : Int) = 40 ∧ ¬ (b.toNat : Int) = 41 := by
  unfold plB at h
  simp only [Bool.and_eq_true, bne_iff_ne] at h
  obtain ⟨⟨⟨⟨h1, h2⟩, h3⟩, h4⟩, h5⟩ := h
  have key : ∀ c : UInt8, b ≠ c → ¬ (b.toNat : Int) = (c.toNat : Int) := fun c hc e => hc (UInt8.toNat_inj.1 (by omega))
  exact ⟨key 32 h2, key 10 h1, key 35 h5, key 40 h3, key 41 h4⟩
theorem pl_others {b : UInt8} (h : plB b = false) : b = 10 ∨ b = 32 ∨ b = 40 ∨ b = 41 ∨ b = 35 := by
  by_cases h1 : b = 10
  · exact Or.inl h1
  by_cases h2 : b = 32
  · exact Or.inr (Or.inl h2)
  by_cases h3 : b = 40
  · exact Or.inr (Or.inr (Or.inl h3))
  by_cases h4 : b = 41
  · exact Or.inr (Or.inr (Or.inr (Or.inl h4)))
  by_cases h5 : b = 35
  · exact Or.inr (Or.inr (Or.inr (Or.inr h5)))
  · have : plB b = true := by simp [plB, h1, h2, h3, h4, h5]
    rw [h] at this; cases this
theorem get_eq (s : ByteArray) (L : List UInt8) (h : s.data.toList = L) (i : Nat) (hi : i < s.size) (hl : i < L.length) : s[i] = L[i] := by
  subst h
  show s.data[i]'hi = _
  simp
theorem ne_bool {x y : Int} (h : ¬ x = y) : (x == y) = false ∧ (x != y) = true := by
  constructor
  · rw [beq_eq_false_iff_ne]; exact h
  · rw [bne_iff_ne]; exact h

end Go.Proofs.YtgjhpmkahicnkaaGreatDoor.Lx
