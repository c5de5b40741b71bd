/- The contracts of firstSize and appendWords: a line's words behind others. -/
import Derived.Test.YtmbjonfiphnlaaaDoorBase
namespace Go.Proofs.YtmbjonfiphnlaaaDoor
open Go.RowKit
set_option linter.unusedVariables false

/-- All that lay is as it lay, but rows of texts from n₀ on. -/
structure Oth (n₀ : Nat) (W W' : World) : Prop where
  os : W'.os = W.os
  tape : W'.tape = W.tape
  output : W'.output = W.output
  size : W.heap.size ≤ W'.heap.size
  block : ∀ j o, W.heap[j]? = some o → (n₀ ≤ j → ∀ cs fz, o ≠ .cells cs 9 fz) → W'.heap[j]? = some o

theorem Oth.refl (n₀ : Nat) (W : World) : Oth n₀ W W := ⟨rfl, rfl, rfl, Nat.le_refl _, fun _ _ h _ => h⟩
theorem Oth.trans {n₀ : Nat} {A B C : World} (h : Oth n₀ A B) (k : Oth n₀ B C) : Oth n₀ A C :=
  ⟨k.os.trans h.os, k.tape.trans h.tape, k.output.trans h.output, Nat.le_trans h.size k.size, fun j o ho hn => k.block j o (h.block j o ho hn) hn⟩
theorem Oth.of_below {n₀ : Nat} {A B : World} (h : Below A.heap.size A B) : Oth n₀ A B :=
  ⟨h.os, h.tape, h.output, h.size, fun j o ho _ => (h.block j (Array.getElem?_eq_some_iff.1 ho).1).trans ho⟩
theorem Oth.of_grown {n₀ : Nat} {A B : World} {v : Value} {k : Nat} {xs : List Value} (hown : A.ownsRow n₀ 9 1 v k xs) (hg : A.grownBy B v.ownBlock) : Oth n₀ A B :=
  ⟨hg.os, hg.tape, hg.output, hg.size, fun j o ho hn => (hg.block j (Array.getElem?_eq_some_iff.1 ho).1 (fun e => by
    rcases hown.2 with ⟨rfl, _⟩ | ⟨g, cap, cur, rfl, hb, hgg, _⟩
    · cases e
    · have e' : j = g := Option.some.inj e
      subst e'
      rw [hgg] at ho
      exact hn hb _ _ (Option.some.inj ho).symm)).trans ho⟩
theorem Oth.below {n₀ : Nat} {A B : World} (h : Oth n₀ A B) (hn : n₀ ≤ A.heap.size) : Below n₀ A B :=
  ⟨h.os, h.tape, h.output, h.size, fun j hj => by
    have hlt : j < A.heap.size := Nat.lt_of_lt_of_le hj hn
    rw [h.block j _ (Array.getElem?_eq_getElem hlt) (fun h' => absurd h' (by omega)), Array.getElem?_eq_getElem hlt]⟩

/-- A step: the word with which a line begins. -/
def Stp (l : List UInt8) (k : Nat) : Prop := 0 < k ∧ k ≤ l.length ∧ wd false [] l = l.take k :: wd false [] (l.drop k)
theorem pl_of {b : UInt8} (h1 : b ≠ 10) (h2 : b ≠ 35) (h3 : ([32, 40, 41] : List UInt8).contains b = false) : plB b = true := by
  have h4 : b ≠ 32 ∧ b ≠ 40 ∧ b ≠ 41 := by simpa using h3
  simp [plB, h1, h2, h4]
theorem pl_not {b : UInt8} (h : ([32, 40, 41] : List UInt8).contains b = true) : plB b = false := by
  have h4 : b = 32 ∨ b = 40 ∨ b = 41 := by simpa using h
  rcases h4 with rfl | rfl | rfl <;> rfl
theorem stp_all {l : List UInt8} (hne : l ≠ []) (hl : ∀ b ∈ l, b ≠ 10 ∧ b ≠ 35) (h : ∀ b ∈ l, ([32, 40, 41] : List UInt8).contains b = false) : Stp l l.length := by
  have hlen : 0 < l.length := by cases l with | nil => exact absurd rfl hne | cons => simp
  refine ⟨hlen, Nat.le_refl _, ?_⟩
  have e := wd_more [] l [] (fun b hb => pl_of (hl b hb).1 (hl b hb).2 (h b hb))
  rw [List.append_nil, List.nil_append, wd_nil, fl_ne hne] at e
  rw [e, List.take_length, List.drop_length]
  rfl
theorem stp_one {d : UInt8} {x : List UInt8} (hd : ([32, 40, 41] : List UInt8).contains d = true) (hb : d ≠ 32) : Stp (d :: x) 1 := by
  have h4 : d = 40 ∨ d = 41 := by
    have : d = 32 ∨ d = 40 ∨ d = 41 := by simpa using hd
    rcases this with h | h
    · exact absurd h hb
    · exact h
  exact ⟨by omega, by simp, wd_bracket h4 x⟩
theorem stp_more {p x : List UInt8} {d : UInt8} (hne : p ≠ []) (hl : ∀ b ∈ p, b ≠ 10 ∧ b ≠ 35) (h : ∀ b ∈ p, ([32, 40, 41] : List UInt8).contains b = false) (hd : ([32, 40, 41] : List UInt8).contains d = true) : Stp (p ++ d :: x) p.length := by
  have hlen : 0 < p.length := by cases p with | nil => exact absurd rfl hne | cons => simp
  refine ⟨hlen, by simp, ?_⟩
  rw [wd_more _ p [] (fun b hb => pl_of (hl b hb).1 (hl b hb).2 (h b hb)), List.nil_append, wd_ends hne (pl_not hd)]
  simp

/-- What a line holds that has no remark any more. -/
def lineB (l : List UInt8) : Prop := ∀ b ∈ l, b.toNat < 128 ∧ b ≠ 10 ∧ b ≠ 35

set_option maxHeartbeats 400000 in
theorem first_any (s : ByteArray) (w : World) (hs : s.size ≤ 2048) (hl : lineB s.data.toList) (hne : s.data.toList ≠ []) (hh : s.data.toList.head? ≠ some 32) :
    Calls Tryd.prog 23 #[.string s] w fun e w' => (∃ k : Nat, e = .returned (.int .i64 (k : Int)) ∧ Stp s.data.toList k) ∧ Below w.heap.size w w' := by
  have hix := ixany_any s w hs (fun b hb => (hl b hb).1)
  have hlen : s.size = s.data.toList.length := ba_size s.data.toList
  rcases ia_cases [32, 40, 41] s.data.toList with ⟨h1, h2⟩ | ⟨p, d, x, h1, h2, h3, h4⟩
  · rw [h1] at hix
    have HS : Hid (Stp s.data.toList s.size) := by
      show Stp _ _
      rw [hlen]; exact stp_all hne (fun b hb => (hl b hb).2) h2
    clear hl hne hh h2 h1 hlen
    go_enter Tryd.func23, Tryd.ntmps23
    go_wp2_with fail
    refine hix.mono ?_
    rintro e w1 ⟨rfl, hb⟩
    go_wp2_with fail
    go_ret
    exact ⟨⟨s.size, rfl, HS.out⟩, hb⟩
  · rw [h4] at hix
    cases p with
    | nil =>
      have HS : Hid (Stp s.data.toList 1) := by
        show Stp _ _
        rw [h1] at hh ⊢
        exact stp_one h3 (fun e => hh (by subst e; rfl))
      clear hl hne hh h2 h1 hlen h4
      go_enter Tryd.func23, Tryd.ntmps23
      go_wp2_with fail
      refine hix.mono ?_
      rintro e w1 ⟨rfl, hb⟩
      go_wp2_with fail
      go_ret
      exact ⟨⟨1, rfl, HS.out⟩, hb⟩
    | cons c p =>
      obtain ⟨k, hk⟩ : ∃ k, k = (c :: p).length := ⟨_, rfl⟩
      rw [← hk] at hix
      have hk0 : 0 < k := by rw [hk]; simp
      have HS : Hid (Stp s.data.toList k) := by
        show Stp _ _
        rw [h1, hk]
        exact stp_more (by simp) (fun b hb => (hl b (by rw [h1]; exact List.mem_append_left _ hb)).2) h2 h3
      clear hl hne hh h2 h1 hlen h4 hk
      have e1 : ((k : Int) == -1) = false := by rw [beq_eq_false_iff_ne]; omega
      have e2 : ((k : Int) == 0) = false := by rw [beq_eq_false_iff_ne]; omega
      go_enter Tryd.func23, Tryd.ntmps23
      go_wp2_with fail
      refine hix.mono ?_
      rintro e w1 ⟨rfl, hb⟩
      go_wp2_with fail
      go_ret
      exact ⟨⟨k, rfl, HS.out⟩, hb⟩
end Go.Proofs.YtmbjonfiphnlaaaDoor
