/- The contracts of package parse's leaves: number, digits, digitsBehind, single, head. · Package parse's reader in memory: its words, its body; what is kept; the contract of next. · The contract of readRest, out of readPart's. -/
import Derived.Test.YtighcikiaddfcaaGreatDoorMPlain
import Derived.Test.YtighcikiaddfcaaGreatDoorMTerm
import Derived.Test.YtighcikiaddfcaaGreatDoorMBody
import Derived.Test.YtighcikiaddfcaaGreatDoorMLex
import Derived.Deep.AppendLies

namespace Go.Proofs.YtighcikiaddfcaaGreatDoor
open Go.RowKit
set_option linter.unusedVariables false

/-- What a walk asks of the package-level variables. -/
abbrev Lw := Tm.Lw

set_option maxHeartbeats 400000 in
theorem number_any (s : ByteArray) (w : World) (hs : s.size ≤ 140737488355328) (hw : Lw w) :
    Calls Tryz.prog 83 #[.string s] w fun e w' => ∃ x b, e = .returned (.tuple #[.int .i64 x, .bool b]) ∧ Below w.heap.size w w' ∧ ((b = true ∧ nb s.data.toList = some x) ∨ (b = false ∧ nb s.data.toList = none)) := by
  go_enter Tryz.func83, Tryz.ntmps83
  go_wp2_with fail
  refine (Tm.cut_any Tm.atoi_said Tm.itoa_said Tm.clone_said s _ hs hw).mono ?_
  rintro e w1 ⟨k, x, v, er, rfl, ⟨g, n, c, rfl⟩, hb, hg⟩
  cases hW : Tm.whole s.data.toList with
  | none =>
    rw [hW] at hg
    obtain ⟨rfl, rfl, _, rfl⟩ := hg
    have hn : Hid (nb s.data.toList = none) := by show nb s.data.toList = none; unfold nb; rw [hW]
    clear hW
    go_wp2
    go_ret2
    exact ⟨_, _, rfl, hb, Or.inr ⟨rfl, hn.out⟩⟩
  | some y =>
    obtain ⟨k', x', ks⟩ := y
    rw [hW] at hg
    obtain ⟨rfl, rfl, rfl, _⟩ := hg
    by_cases hk : k = 1
    · subst hk
      have hn : Hid (nb s.data.toList = some x) := by show nb s.data.toList = some x; unfold nb; rw [hW]; rfl
      clear hW
      go_wp2
      go_ret2
      exact ⟨_, _, rfl, hb, Or.inl ⟨rfl, hn.out⟩⟩
    · have hn : Hid (nb s.data.toList = none) := by show nb s.data.toList = none; unfold nb; rw [hW]; simp [hk]
      have hk' : (k == 1) = false := by simpa using hk
      clear hW
      go_wp2
      go_ret2
      exact ⟨_, _, rfl, hb, Or.inr ⟨rfl, hn.out⟩⟩

/-- What digits and digitsBehind answer. -/
def DgQ (o : Option Int) (w : World) (e : Ending) (w' : World) : Prop := Below w.heap.size w w' ∧ match o with
  | none => e = .returned (.tuple #[.int .i64 0, .bool false])
  | some x => e = .returned (.tuple #[.int .i64 x, .bool true])
theorem dg_some {w : Wd} {x : Int} (h : nb w = some x) (h0 : ¬ x < 0) : dg w = some x := by unfold dg; rw [h]; simp [h0]
theorem dg_neg {w : Wd} {x : Int} (h : nb w = some x) (h0 : x < 0) : dg w = none := by unfold dg; rw [h]; simp [h0]
theorem dg_none {w : Wd} (h : nb w = none) : dg w = none := by unfold dg; rw [h]

theorem DgQ.yes {o : Option Int} {x : Int} {w w' : World} (h : o = some x) (hb : Below w.heap.size w w') : DgQ o w (.returned (.tuple #[.int .i64 x, .bool true])) w' := by subst h; exact ⟨hb, rfl⟩
theorem DgQ.no {o : Option Int} {w w' : World} (h : o = none) (hb : Below w.heap.size w w') : DgQ o w (.returned (.tuple #[.int .i64 0, .bool false])) w' := by subst h; exact ⟨hb, rfl⟩

set_option maxHeartbeats 400000 in
theorem digits_any (s : ByteArray) (w : World) (hs : s.size ≤ 140737488355328) (hw : Lw w) :
    Calls Tryz.prog 62 #[.string s] w fun e w' => DgQ (dg s.data.toList) w e w' := by
  go_enter Tryz.func62, Tryz.ntmps62
  go_wp2_with fail
  refine (number_any s _ hs hw).mono ?_
  rintro e w1 ⟨x, b, rfl, hb, ⟨rfl, hn⟩ | ⟨rfl, hn⟩⟩
  · by_cases h0 : x < 0
    · have hd : Hid (dg s.data.toList = none) := dg_neg hn h0
      clear hn
      go_wp2
      go_ret2
      exact DgQ.no hd.out hb
    · have hd : Hid (dg s.data.toList = some x) := dg_some hn h0
      clear hn
      go_wp2
      go_ret2
      exact DgQ.yes hd.out hb
  · have hd : Hid (dg s.data.toList = none) := dg_none hn
    clear hn
    go_wp2
    go_ret2
    exact DgQ.no hd.out hb

/-- Does it open with that byte? -/
def opn (c : UInt8) (l : List UInt8) : Bool := l.head? == some c
theorem opn_ext (c : UInt8) (s : ByteArray) (h : 1 ≤ s.size) : ((s.extract 0 1).toList == [c]) = opn c s.data.toList := by
  rw [Lib.toList_data, Lib.extract_data]
  have hl : s.data.toList.length = s.size := rfl
  cases hs : s.data.toList with
  | nil => rw [hs] at hl; simp at hl; omega
  | cons a r => simp [opn]
theorem opn_short (c : UInt8) (s : ByteArray) (h : s.size < 1) : opn c s.data.toList = false := by
  have hl : s.data.toList.length = s.size := rfl
  cases hs : s.data.toList with
  | nil => rfl
  | cons a r => rw [hs] at hl; simp at hl; omega
set_option maxHeartbeats 400000 in
theorem hasPrefix_any (c : UInt8) (s : ByteArray) (w : World) (hs : s.size ≤ 140737488355328) :
    Calls Tryz.prog 120 #[.string s, .string ⟨#[c]⟩] w fun e w' => e = .returned (.bool (opn c s.data.toList)) ∧ w = w' := by
  go_enter Tryz.func120, Tryz.ntmps120
  go_wp2
  · rename_i h
    go_ret
    exact ⟨by rw [opn_ext c s (by omega)]; rfl, rfl⟩
  · rename_i h
    go_ret
    exact ⟨by rw [opn_short c s (by omega)]; rfl, rfl⟩
set_option maxHeartbeats 400000 in
theorem slCutPrefix_any (c : UInt8) (s : ByteArray) (w : World) (hs : s.size ≤ 140737488355328) :
    Calls Tryz.prog 116 #[.string s, .string ⟨#[c]⟩] w fun e w' => e = .returned (.tuple #[.string (if opn c s.data.toList then s.extract 1 s.size else s), .bool (opn c s.data.toList)]) ∧ w = w' := by
  obtain ⟨b, hb⟩ : ∃ b, opn c s.data.toList = b := ⟨_, rfl⟩
  have hp := hasPrefix_any c s w hs
  rw [hb] at hp ⊢
  cases b with
  | false =>
    go_enter Tryz.func116, Tryz.ntmps116
    go_wp2_with (go_at_call 120; refine hp.mono ?_; rintro e w' ⟨rfl, rfl⟩)
    go_ret2
    exact ⟨rfl, rfl⟩
  | true =>
    have h1 : 1 ≤ s.size := by
      rcases Nat.lt_or_ge s.size 1 with h | h
      · rw [opn_short c s h] at hb; cases hb
      · exact h
    have h2 : (1 : Int) ≤ (s.size : Int) := by omega
    go_enter Tryz.func116, Tryz.ntmps116
    go_wp2_with (go_at_call 120; refine hp.mono ?_; rintro e w' ⟨rfl, rfl⟩)
    go_ret2
    exact ⟨rfl, rfl⟩
set_option maxHeartbeats 400000 in
theorem cutPrefix_any (c : UInt8) (s : ByteArray) (w : World) (hs : s.size ≤ 140737488355328) :
    Calls Tryz.prog 114 #[.string s, .string ⟨#[c]⟩] w fun e w' => e = .returned (.tuple #[.string (if opn c s.data.toList then s.extract 1 s.size else s), .bool (opn c s.data.toList)]) ∧ w = w' := by
  obtain ⟨b, hb⟩ : ∃ b, opn c s.data.toList = b := ⟨_, rfl⟩
  have hp := slCutPrefix_any c s w hs
  rw [hb] at hp ⊢
  obtain ⟨t, ht⟩ : ∃ t, (if b = true then s.extract 1 s.size else s) = t := ⟨_, rfl⟩
  rw [ht] at hp ⊢
  go_enter Tryz.func114, Tryz.ntmps114
  go_wp2_with (go_at_call 116; refine hp.mono ?_; rintro e w' ⟨rfl, rfl⟩)
  go_ret2
  exact ⟨rfl, rfl⟩
theorem db_no {c : UInt8} {l : Wd} (h : opn c l = false) : db c l = none := by
  cases l with
  | nil => rfl
  | cons a r => unfold db; simp [opn] at h; simp [h]
theorem db_yes {c : UInt8} {l : Wd} (h : opn c l = true) : db c l = dg (l.drop 1) := by
  cases l with
  | nil => simp [opn] at h
  | cons a r => unfold db; simp [opn] at h; simp [h]
set_option maxHeartbeats 400000 in
theorem behind_any (c : UInt8) (s : ByteArray) (w : World) (hs : s.size ≤ 140737488355328) (hw : Lw w) :
    Calls Tryz.prog 105 #[.string ⟨#[c]⟩, .string s] w fun e w' => DgQ (db c s.data.toList) w e w' := by
  obtain ⟨b, hb⟩ : ∃ b, opn c s.data.toList = b := ⟨_, rfl⟩
  have hp := cutPrefix_any c s w hs
  rw [hb] at hp
  obtain ⟨t, ht⟩ : ∃ t, (if b = true then s.extract 1 s.size else s) = t := ⟨_, rfl⟩
  rw [ht] at hp
  cases b with
  | false =>
    have hd : Hid (db c s.data.toList = none) := db_no hb
    go_enter Tryz.func105, Tryz.ntmps105
    go_wp2_with (go_at_call 114; refine hp.mono ?_; rintro e w' ⟨rfl, rfl⟩)
    go_ret2
    exact DgQ.no hd.out (Below.refl _ _)
  | true =>
    have hl : t.data.toList = s.data.toList.drop 1 := by
      rw [← ht, if_pos rfl, Lib.extract_data]
      apply List.take_of_length_le
      rw [List.length_drop]
      exact Nat.le_refl _
    have htz : t.size ≤ 140737488355328 := by
      have h1 : t.size = t.data.toList.length := rfl
      have h2 : s.size = s.data.toList.length := rfl
      rw [h1, hl, List.length_drop]; omega
    have hd : Hid (db c s.data.toList = dg t.data.toList) := by show _ = _; rw [db_yes hb, hl]
    clear hl
    go_enter Tryz.func105, Tryz.ntmps105
    go_wp2_with (go_at_call 114; refine hp.mono ?_; rintro e w' ⟨rfl, rfl⟩)
    refine (digits_any t _ htz hw).mono ?_
    rintro e w1 ⟨hb1, he⟩
    cases ho : dg t.data.toList with
    | none =>
      rw [ho] at he
      subst he
      have hd' : Hid (db c s.data.toList = none) := hd.out.trans ho
      clear ho
      go_wp2_with fail
      go_ret2
      exact DgQ.no hd'.out hb1
    | some x =>
      rw [ho] at he
      subst he
      have hd' : Hid (db c s.data.toList = some x) := hd.out.trans ho
      clear ho
      go_wp2_with fail
      go_ret2
      exact DgQ.yes hd'.out hb1

/-- What single and head answer. -/
def SgQ (o : Option Ex) (w : World) (e : Ending) (w' : World) : Prop := ∃ (x : Ex) (b : Bool), e = .returned (.tuple #[.agg #[.int .i64 x.kind, .int .i64 x.num, .int .i64 x.bind, .slice none 0 0], .bool b]) ∧ x.kids = [] ∧ Below w.heap.size w w' ∧ ((b = true ∧ o = some x) ∨ (b = false ∧ o = none))

theorem low {w w1 : World} {o : Obj} (h : Below (w.alloc o).heap.size (w.alloc o) w1) : Below w.heap.size w w1 := ((Below.refl _ _).alloc (Nat.le_refl _) _).trans (h.mono (by simp))
set_option maxHeartbeats 1600000 in
theorem single_any (s : ByteArray) (w : World) (hs : s.size ≤ 140737488355328) (hw : Lw w) :
    Calls Tryz.prog 85 #[.string s] w fun e w' => SgQ (sg s.data.toList) w e w' := by
  have hw0 : ∀ o : Obj, Lw (w.alloc o) := fun o => hw.on ((Below.refl _ _).alloc (Nat.le_refl _) _)
  by_cases he0 : s.data.toList = [101, 114, 114, 111, 114]
  · have hq0 : (s.toList == [101, 114, 114, 111, 114]) = true := by rw [Lib.toList_data, he0]; rfl
    have ho : Hid (sg s.data.toList = some ⟨7, 0, 0, []⟩) := by show _ = _; rw [he0]; decide
    clear he0
    go_enter Tryz.func85, Tryz.ntmps85
    go_wp2
    refine bodyPost_ret (v := .tuple #[.agg #[.int .i64 7, .int .i64 0, .int .i64 0, .slice none 0 0], .bool true]) (by simp [results, Tryz.results85, go_sem]) rfl ⟨⟨7, 0, 0, []⟩, true, rfl, rfl, ?_, Or.inl ⟨rfl, ho.out⟩⟩
    exact (Below.refl _ _).alloc (Nat.le_refl _) _
  have hq0 : (s.toList == [101, 114, 114, 111, 114]) = false := by rw [Lib.toList_data]; simpa using he0
  have hS : Hid (sg s.data.toList = match db 36 s.data.toList with | some x => some ⟨1, x, 0, []⟩ | none => (match db 64 s.data.toList with | some x => some ⟨3, x, 0, []⟩ | none => (match nb s.data.toList with | some x => some ⟨0, x, 0, []⟩ | none => none))) := by show _ = _; unfold sg; rw [if_neg he0]; rfl
  clear he0
  go_enter Tryz.func85, Tryz.ntmps85
  go_wp2_with fail
  refine (behind_any 36 s _ hs (hw0 _)).mono ?_
  rintro e w0 ⟨hb0, hd0⟩
  cases hm0 : db 36 s.data.toList with
  | some x =>
    rw [hm0] at hd0
    subst hd0
    have ho : Hid (sg s.data.toList = some ⟨1, x, 0, []⟩) := by show _ = _; rw [hS.out, hm0]
    clear hm0
    obtain ⟨hc, hfz⟩ := Tm.bcell hb0
    have hz : w.heap.size < w0.heap.size := by have := hb0.size; simp at this; omega
    have h01 := low hb0
    go_wp2_with fail
    refine bodyPost_ret (v := .tuple #[.agg #[.int .i64 1, .int .i64 x, .int .i64 0, .slice none 0 0], .bool true]) (by simp [results, Tryz.results85, go_sem, hc]) rfl ⟨⟨1, x, 0, []⟩, true, rfl, rfl, ?_, Or.inl ⟨rfl, ho.out⟩⟩
    exact (((h01.setCell (Nat.le_refl _) _).setCell (Nat.le_refl _) _).setCell (Nat.le_refl _) _).setCell (Nat.le_refl _) _
  | none =>
    rw [hm0] at hd0
    subst hd0
    go_wp2_with fail
    refine (behind_any 64 s _ hs (hw.on (low hb0))).mono ?_
    rintro e w1 ⟨hb1, hd1⟩
    replace hb1 := below_next hb0 hb1
    clear hb0
    cases hm1 : db 64 s.data.toList with
    | some x =>
      rw [hm1] at hd1
      subst hd1
      have ho : Hid (sg s.data.toList = some ⟨3, x, 0, []⟩) := by show _ = _; rw [hS.out, hm0, hm1]
      clear hm0 hm1
      obtain ⟨hc, hfz⟩ := Tm.bcell hb1
      have hz : w.heap.size < w1.heap.size := by have := hb1.size; simp at this; omega
      have h01 := low hb1
      go_wp2_with fail
      refine bodyPost_ret (v := .tuple #[.agg #[.int .i64 3, .int .i64 x, .int .i64 0, .slice none 0 0], .bool true]) (by simp [results, Tryz.results85, go_sem, hc]) rfl ⟨⟨3, x, 0, []⟩, true, rfl, rfl, ?_, Or.inl ⟨rfl, ho.out⟩⟩
      exact (((h01.setCell (Nat.le_refl _) _).setCell (Nat.le_refl _) _).setCell (Nat.le_refl _) _).setCell (Nat.le_refl _) _
    | none =>
      rw [hm1] at hd1
      subst hd1
      go_wp2_with fail
      refine (number_any s _ hs (hw.on (low hb1))).mono ?_
      rintro e w2 ⟨x, b, rfl, hb2, hd2⟩
      replace hb2 := below_next hb1 hb2
      clear hb1
      have ho : Hid ((b = true ∧ sg s.data.toList = some ⟨0, x, 0, []⟩) ∨ (b = false ∧ sg s.data.toList = none)) := by
        show _ ∨ _
        rw [hS.out, hm0, hm1]
        rcases hd2 with ⟨rfl, h⟩ | ⟨rfl, h⟩
        · exact Or.inl ⟨rfl, by rw [h]⟩
        · exact Or.inr ⟨rfl, by rw [h]⟩
      clear hd2 hm0 hm1
      obtain ⟨hc, hfz⟩ := Tm.bcell hb2
      have hz : w.heap.size < w2.heap.size := by have := hb2.size; simp at this; omega
      have h01 := low hb2
      go_wp2_with fail
      refine bodyPost_ret (v := .tuple #[.agg #[.int .i64 0, .int .i64 x, .int .i64 0, .slice none 0 0], .bool b]) (by simp [results, Tryz.results85, go_sem, hc]) rfl ⟨⟨0, x, 0, []⟩, b, rfl, rfl, ?_, ho.out⟩
      exact (((h01.setCell (Nat.le_refl _) _).setCell (Nat.le_refl _) _).setCell (Nat.le_refl _) _).setCell (Nat.le_refl _) _

set_option maxHeartbeats 1600000 in
theorem head_any (s : ByteArray) (w : World) (hs : s.size ≤ 140737488355328) (hw : Lw w) :
    Calls Tryz.prog 103 #[.string s] w fun e w' => SgQ (hdw s.data.toList) w e w' := by
  have hw0 : ∀ o : Obj, Lw (w.alloc o) := fun o => hw.on ((Below.refl _ _).alloc (Nat.le_refl _) _)
  by_cases he0 : s.data.toList = [43]
  · have hq0 : (s.toList == [43]) = true := by rw [Lib.toList_data, he0]; rfl
    have ho : Hid (hdw s.data.toList = some ⟨4, 0, 0, []⟩) := by show _ = _; rw [he0]; decide
    clear he0
    go_enter Tryz.func103, Tryz.ntmps103
    go_wp2
    refine bodyPost_ret (v := .tuple #[.agg #[.int .i64 4, .int .i64 0, .int .i64 0, .slice none 0 0], .bool true]) (by simp [results, Tryz.results103, go_sem]) rfl ⟨⟨4, 0, 0, []⟩, true, rfl, rfl, ?_, Or.inl ⟨rfl, ho.out⟩⟩
    exact (Below.refl _ _).alloc (Nat.le_refl _) _
  by_cases he1 : s.data.toList = [45]
  · have hq1 : (s.toList == [45]) = true := by rw [Lib.toList_data, he1]; rfl
    have hq0 : (s.toList == [43]) = false := by rw [Lib.toList_data, he1]; rfl
    have ho : Hid (hdw s.data.toList = some ⟨4, 1, 0, []⟩) := by show _ = _; rw [he1]; decide
    clear he0 he1
    go_enter Tryz.func103, Tryz.ntmps103
    go_wp2
    refine bodyPost_ret (v := .tuple #[.agg #[.int .i64 4, .int .i64 1, .int .i64 0, .slice none 0 0], .bool true]) (by simp [results, Tryz.results103, go_sem]) rfl ⟨⟨4, 1, 0, []⟩, true, rfl, rfl, ?_, Or.inl ⟨rfl, ho.out⟩⟩
    exact (Below.refl _ _).alloc (Nat.le_refl _) _
  by_cases he2 : s.data.toList = [42]
  · have hq2 : (s.toList == [42]) = true := by rw [Lib.toList_data, he2]; rfl
    have hq0 : (s.toList == [43]) = false := by rw [Lib.toList_data, he2]; rfl
    have hq1 : (s.toList == [45]) = false := by rw [Lib.toList_data, he2]; rfl
    have ho : Hid (hdw s.data.toList = some ⟨4, 2, 0, []⟩) := by show _ = _; rw [he2]; decide
    clear he0 he1 he2
    go_enter Tryz.func103, Tryz.ntmps103
    go_wp2
    refine bodyPost_ret (v := .tuple #[.agg #[.int .i64 4, .int .i64 2, .int .i64 0, .slice none 0 0], .bool true]) (by simp [results, Tryz.results103, go_sem]) rfl ⟨⟨4, 2, 0, []⟩, true, rfl, rfl, ?_, Or.inl ⟨rfl, ho.out⟩⟩
    exact (Below.refl _ _).alloc (Nat.le_refl _) _
  by_cases he3 : s.data.toList = [61]
  · have hq3 : (s.toList == [61]) = true := by rw [Lib.toList_data, he3]; rfl
    have hq0 : (s.toList == [43]) = false := by rw [Lib.toList_data, he3]; rfl
    have hq1 : (s.toList == [45]) = false := by rw [Lib.toList_data, he3]; rfl
    have hq2 : (s.toList == [42]) = false := by rw [Lib.toList_data, he3]; rfl
    have ho : Hid (hdw s.data.toList = some ⟨4, 3, 0, []⟩) := by show _ = _; rw [he3]; decide
    clear he0 he1 he2 he3
    go_enter Tryz.func103, Tryz.ntmps103
    go_wp2
    refine bodyPost_ret (v := .tuple #[.agg #[.int .i64 4, .int .i64 3, .int .i64 0, .slice none 0 0], .bool true]) (by simp [results, Tryz.results103, go_sem]) rfl ⟨⟨4, 3, 0, []⟩, true, rfl, rfl, ?_, Or.inl ⟨rfl, ho.out⟩⟩
    exact (Below.refl _ _).alloc (Nat.le_refl _) _
  by_cases he4 : s.data.toList = [60]
  · have hq4 : (s.toList == [60]) = true := by rw [Lib.toList_data, he4]; rfl
    have hq0 : (s.toList == [43]) = false := by rw [Lib.toList_data, he4]; rfl
    have hq1 : (s.toList == [45]) = false := by rw [Lib.toList_data, he4]; rfl
    have hq2 : (s.toList == [42]) = false := by rw [Lib.toList_data, he4]; rfl
    have hq3 : (s.toList == [61]) = false := by rw [Lib.toList_data, he4]; rfl
    have ho : Hid (hdw s.data.toList = some ⟨4, 4, 0, []⟩) := by show _ = _; rw [he4]; decide
    clear he0 he1 he2 he3 he4
    go_enter Tryz.func103, Tryz.ntmps103
    go_wp2
    refine bodyPost_ret (v := .tuple #[.agg #[.int .i64 4, .int .i64 4, .int .i64 0, .slice none 0 0], .bool true]) (by simp [results, Tryz.results103, go_sem]) rfl ⟨⟨4, 4, 0, []⟩, true, rfl, rfl, ?_, Or.inl ⟨rfl, ho.out⟩⟩
    exact (Below.refl _ _).alloc (Nat.le_refl _) _
  by_cases he5 : s.data.toList = [108, 101, 116]
  · have hq5 : (s.toList == [108, 101, 116]) = true := by rw [Lib.toList_data, he5]; rfl
    have hq0 : (s.toList == [43]) = false := by rw [Lib.toList_data, he5]; rfl
    have hq1 : (s.toList == [45]) = false := by rw [Lib.toList_data, he5]; rfl
    have hq2 : (s.toList == [42]) = false := by rw [Lib.toList_data, he5]; rfl
    have hq3 : (s.toList == [61]) = false := by rw [Lib.toList_data, he5]; rfl
    have hq4 : (s.toList == [60]) = false := by rw [Lib.toList_data, he5]; rfl
    have ho : Hid (hdw s.data.toList = some ⟨6, 0, 0, []⟩) := by show _ = _; rw [he5]; decide
    clear he0 he1 he2 he3 he4 he5
    go_enter Tryz.func103, Tryz.ntmps103
    go_wp2
    refine bodyPost_ret (v := .tuple #[.agg #[.int .i64 6, .int .i64 0, .int .i64 0, .slice none 0 0], .bool true]) (by simp [results, Tryz.results103, go_sem]) rfl ⟨⟨6, 0, 0, []⟩, true, rfl, rfl, ?_, Or.inl ⟨rfl, ho.out⟩⟩
    exact (Below.refl _ _).alloc (Nat.le_refl _) _
  have hq0 : (s.toList == [43]) = false := by rw [Lib.toList_data]; simpa using he0
  have hq1 : (s.toList == [45]) = false := by rw [Lib.toList_data]; simpa using he1
  have hq2 : (s.toList == [42]) = false := by rw [Lib.toList_data]; simpa using he2
  have hq3 : (s.toList == [61]) = false := by rw [Lib.toList_data]; simpa using he3
  have hq4 : (s.toList == [60]) = false := by rw [Lib.toList_data]; simpa using he4
  have hq5 : (s.toList == [108, 101, 116]) = false := by rw [Lib.toList_data]; simpa using he5
  have hS : Hid (hdw s.data.toList = match db 102 s.data.toList with | some x => some ⟨2, x, 0, []⟩ | none => (match db 64 s.data.toList with | some x => some ⟨3, x, 0, []⟩ | none => none)) := by show _ = _; unfold hdw; rw [if_neg he0, if_neg he1, if_neg he2, if_neg he3, if_neg he4, if_neg he5]; rfl
  clear he0 he1 he2 he3 he4 he5
  go_enter Tryz.func103, Tryz.ntmps103
  go_wp2_with fail
  refine (behind_any 102 s _ hs (hw0 _)).mono ?_
  rintro e w0 ⟨hb0, hd0⟩
  cases hm0 : db 102 s.data.toList with
  | some x =>
    rw [hm0] at hd0
    subst hd0
    have ho : Hid (hdw s.data.toList = some ⟨2, x, 0, []⟩) := by show _ = _; rw [hS.out, hm0]
    clear hm0
    obtain ⟨hc, hfz⟩ := Tm.bcell hb0
    have hz : w.heap.size < w0.heap.size := by have := hb0.size; simp at this; omega
    have h01 := low hb0
    go_wp2_with fail
    refine bodyPost_ret (v := .tuple #[.agg #[.int .i64 2, .int .i64 x, .int .i64 0, .slice none 0 0], .bool true]) (by simp [results, Tryz.results103, go_sem, hc]) rfl ⟨⟨2, x, 0, []⟩, true, rfl, rfl, ?_, Or.inl ⟨rfl, ho.out⟩⟩
    exact (((h01.setCell (Nat.le_refl _) _).setCell (Nat.le_refl _) _).setCell (Nat.le_refl _) _).setCell (Nat.le_refl _) _
  | none =>
    rw [hm0] at hd0
    subst hd0
    go_wp2_with fail
    refine (behind_any 64 s _ hs (hw.on (low hb0))).mono ?_
    rintro e w1 ⟨hb1, hd1⟩
    replace hb1 := below_next hb0 hb1
    clear hb0
    cases hm1 : db 64 s.data.toList with
    | some x =>
      rw [hm1] at hd1
      subst hd1
      have ho : Hid (hdw s.data.toList = some ⟨3, x, 0, []⟩) := by show _ = _; rw [hS.out, hm0, hm1]
      clear hm0 hm1
      obtain ⟨hc, hfz⟩ := Tm.bcell hb1
      have hz : w.heap.size < w1.heap.size := by have := hb1.size; simp at this; omega
      have h01 := low hb1
      go_wp2_with fail
      refine bodyPost_ret (v := .tuple #[.agg #[.int .i64 3, .int .i64 x, .int .i64 0, .slice none 0 0], .bool true]) (by simp [results, Tryz.results103, go_sem, hc]) rfl ⟨⟨3, x, 0, []⟩, true, rfl, rfl, ?_, Or.inl ⟨rfl, ho.out⟩⟩
      exact (((h01.setCell (Nat.le_refl _) _).setCell (Nat.le_refl _) _).setCell (Nat.le_refl _) _).setCell (Nat.le_refl _) _
    | none =>
      rw [hm1] at hd1
      subst hd1
      have ho : Hid (hdw s.data.toList = none) := by show _ = _; rw [hS.out, hm0, hm1]
      clear hm0 hm1
      obtain ⟨hc, hfz⟩ := Tm.bcell hb1
      have hz : w.heap.size < w1.heap.size := by have := hb1.size; simp at this; omega
      have h01 := low hb1
      go_wp2_with fail
      refine bodyPost_ret (v := .tuple #[.agg #[.int .i64 3, .int .i64 0, .int .i64 0, .slice none 0 0], .bool false]) (by simp [results, Tryz.results103, go_sem, hc]) rfl ⟨⟨3, 0, 0, []⟩, false, rfl, rfl, ?_, Or.inr ⟨rfl, ho.out⟩⟩
      exact (((h01.setCell (Nat.le_refl _) _).setCell (Nat.le_refl _) _).setCell (Nat.le_refl _) _).setCell (Nat.le_refl _) _

end Go.Proofs.YtighcikiaddfcaaGreatDoor

namespace Go.Proofs.YtighcikiaddfcaaGreatDoor
open Go.RowKit
set_option linter.unusedVariables false

/-- The reader's two cells. -/
def Rdr (W : World) (z : Nat) (v b : Value) : Prop := W.heap[z]? = some (.cells #[v, b] 78 (0, 0))
theorem Rdr.lt {w : World} {z : Nat} {p v : Value} (h : Rdr w z p v) : z < w.heap.size := (Array.getElem?_eq_some_iff.1 h).1
theorem Rdr.c0 {w : World} {z : Nat} {p v : Value} (h : Rdr w z p v) : w.cell? ⟨z, 0, none⟩ = some p := by
  unfold World.cell?; simp only [show w.heap[z]? = _ from h]; rfl
theorem Rdr.c1 {w : World} {z : Nat} {p v : Value} (h : Rdr w z p v) : w.cell? ⟨z, 1, none⟩ = some v := by
  unfold World.cell?; simp only [show w.heap[z]? = _ from h]; rfl
theorem Rdr.frozen {w : World} {z : Nat} {p v : Value} (h : Rdr w z p v) (j : Nat) : w.frozen? ⟨z, j, none⟩ = false := by
  simp [World.frozen?, show w.heap[z]? = _ from h]
theorem Rdr.set0 {w : World} {z : Nat} {p v : Value} (h : Rdr w z p v) (u : Value) : Rdr (w.setCell ⟨z, 0, none⟩ u) z u v := by
  obtain ⟨hlt, hk⟩ := Array.getElem?_eq_some_iff.1 h
  show (w.heap.modify z _)[z]? = _
  rw [Array.getElem?_eq_getElem (by rw [Array.size_modify]; exact hlt), Array.getElem_modify_self, hk]
  rfl
theorem Rdr.set1 {w : World} {z : Nat} {p v : Value} (h : Rdr w z p v) (u : Value) : Rdr (w.setCell ⟨z, 1, none⟩ u) z p u := by
  obtain ⟨hlt, hk⟩ := Array.getElem?_eq_some_iff.1 h
  show (w.heap.modify z _)[z]? = _
  rw [Array.getElem?_eq_getElem (by rw [Array.size_modify]; exact hlt), Array.getElem_modify_self, hk]
  rfl

/-- All that lay is as it lay, but for the block z and this row. -/
structure Kp (z : Nat) (row : Option Nat) (W W' : World) : Prop where
  os : W'.os = W.os
  tape : W'.tape = W.tape
  output : W'.output = W.output
  size : W.heap.size ≤ W'.heap.size
  block : ∀ k, k < W.heap.size → k ≠ z → some k ≠ row → W'.heap[k]? = W.heap[k]?
theorem Kp.refl (z : Nat) (row : Option Nat) (W : World) : Kp z row W W := ⟨rfl, rfl, rfl, Nat.le_refl _, fun _ _ _ _ => rfl⟩
theorem Kp.of_below {z : Nat} {row : Option Nat} {W W' : World} (h : Below W.heap.size W W') : Kp z row W W' := ⟨h.os, h.tape, h.output, h.size, fun k hk _ _ => h.block k hk⟩
theorem Kp.of_set (z : Nat) (row : Option Nat) (W : World) (j : Nat) (v : Value) : Kp z row W (W.setCell ⟨z, j, none⟩ v) :=
  ⟨rfl, rfl, rfl, (KeepsWalks.setCell W _ v).size, fun k _ hk _ => Below.heap_setCell _ _ _ k (fun e => hk e)⟩
theorem Kp.of_grown {z : Nat} {row : Option Nat} {W W' : World} (h : W.grownBy W' row) : Kp z row W W' := ⟨h.os, h.tape, h.output, h.size, fun k hk _ hr => h.block k hk hr⟩
theorem Kp.below {z : Nat} {row : Option Nat} {W W' : World} (h : Kp z row W W') (hr : ∀ k, row = some k → z ≤ k) (hz : z ≤ W.heap.size) : Below z W W' :=
  ⟨h.os, h.tape, h.output, h.size, fun k hk => h.block k (by omega) (by omega) (fun e => by have := hr k e.symm; omega)⟩
/-- The next row is the same, or a new one. -/
def Nx (W : World) (r r' : Option Nat) : Prop := r' = r ∨ ∀ k, r' = some k → W.heap.size ≤ k
theorem Nx.refl (W : World) (r : Option Nat) : Nx W r r := Or.inl rfl
theorem Nx.trans {W W1 : World} {r r1 r2 : Option Nat} (h : Nx W r r1) (h1 : Nx W1 r1 r2) (hs : W.heap.size ≤ W1.heap.size) : Nx W r r2 := by
  rcases h1 with rfl | h1
  · exact h
  · exact Or.inr fun k hk => Nat.le_trans hs (h1 k hk)
theorem Kp.trans {z : Nat} {r r1 : Option Nat} {W W1 W2 : World} (h : Kp z r W W1) (hn : Nx W r r1) (h1 : Kp z r1 W1 W2) : Kp z r W W2 :=
  ⟨h1.os.trans h.os, h1.tape.trans h.tape, h1.output.trans h.output, Nat.le_trans h.size h1.size, fun k hk hz hr => by
    rw [h1.block k (Nat.lt_of_lt_of_le hk h.size) hz ?_, h.block k hk hz hr]
    rcases hn with rfl | hn
    · exact hr
    · intro e; have := hn k e.symm; omega⟩
theorem Kp.next {z : Nat} {r : Option Nat} {W W1 W2 : World} (h : Kp z r W W1) (h1 : Kp z r W1 W2) : Kp z r W W2 := h.trans (Nx.refl _ _) h1
theorem Kp.cell {z : Nat} {r : Option Nat} {W W' : World} (h : Kp z r W W') {k j : Nat} (hk : k < W.heap.size) (hz : k ≠ z) (hr : some k ≠ r) : W'.cell? ⟨k, j, none⟩ = W.cell? ⟨k, j, none⟩ := by
  unfold World.cell?; simp only [h.block k hk hz hr]
theorem Kp.frozen {z : Nat} {r : Option Nat} {W W' : World} (h : Kp z r W W') {k j : Nat} (hk : k < W.heap.size) (hz : k ≠ z) (hr : some k ≠ r) : W'.frozen? ⟨k, j, none⟩ = W.frozen? ⟨k, j, none⟩ := by
  unfold World.frozen?; simp only [h.block k hk hz hr]
/-- A row that is owned is kept where its block is. -/
theorem own_keep {W W' : World} {B e size n : Nat} {v : Value} {xs : List Value} (h : W.ownsRow B e size v n xs) (hk : ∀ k, B ≤ k → k < W.heap.size → v.ownBlock = some k → W'.heap[k]? = W.heap[k]?) : W'.ownsRow B e size v n xs := by
  refine ⟨h.1, ?_⟩
  rcases h.2 with h2 | ⟨g, cap, cur, hv, hg, hh, r⟩
  · exact Or.inl h2
  · refine Or.inr ⟨g, cap, cur, hv, hg, ?_, r⟩
    rw [hk g hg (Array.getElem?_eq_some_iff.1 hh).1 (by subst hv; rfl)]; exact hh
theorem own_rebase {W : World} {B B' e size n : Nat} {v : Value} {xs : List Value} (h : W.ownsRow B e size v n xs) (hB : ∀ k, v.ownBlock = some k → B' ≤ k) : W.ownsRow B' e size v n xs := by
  refine ⟨h.1, ?_⟩
  rcases h.2 with h2 | ⟨g, cap, cur, hv, hg, r⟩
  · exact Or.inl h2
  · exact Or.inr ⟨g, cap, cur, hv, hB g (by subst hv; rfl), r⟩
theorem Kp.own {z : Nat} {r : Option Nat} {W W' : World} (h : Kp z r W W') {B e size n : Nat} {v : Value} {xs : List Value} (ho : W.ownsRow B e size v n xs) (hz : z < B) (hr : v.ownBlock = none ∨ v.ownBlock ≠ r) : W'.ownsRow B e size v n xs :=
  own_keep ho fun k hB hk hv => h.block k hk (by omega) (by
    rcases hr with hr | hr
    · rw [hr] at hv; cases hv
    · rw [← hv]; exact hr)

/-- Words in a slice that lies below z. -/
def WTx (W : World) (z : Nat) (g : Option Addr) (ws : List Wd) : Prop :=
  ws = [] ∨ ∃ bk o, g = some ⟨bk, o, none⟩ ∧ bk < z ∧ ∀ (j : Nat) x, ws[j]? = some x → W.cell? ⟨bk, o + j, none⟩ = some (.string (Lx.ba x))
theorem WTx.on {W W' : World} {z : Nat} {g : Option Addr} {ws : List Wd} (h : WTx W z g ws) (hb : ∀ k, k < z → W'.heap[k]? = W.heap[k]?) : WTx W' z g ws := by
  rcases h with h | ⟨bk, o, h1, h2, h3⟩
  · exact Or.inl h
  · refine Or.inr ⟨bk, o, h1, h2, fun j x hx => ?_⟩
    rw [← h3 j x hx]
    unfold World.cell?; simp only [hb bk h2]
theorem WTx.tail {W : World} {z : Nat} {g : Option Addr} {w : Wd} {ws : List Wd} {c : Nat} (h : WTx W z g (w :: ws)) (hc : ws.length + 1 ≤ c) : WTx W z (if c = 1 then g else g.map (·.add 1)) ws := by
  rcases h with h | ⟨bk, o, rfl, h2, h3⟩
  · cases h
  · by_cases h1 : c = 1
    · left
      have : ws.length = 0 := by omega
      exact List.length_eq_zero_iff.1 this
    · right
      rw [if_neg h1]
      refine ⟨bk, o + 1, by simp [Addr.add], h2, fun j x hx => ?_⟩
      have := h3 (j + 1) x (by simpa using hx)
      rw [← this, Nat.add_assoc, Nat.add_comm 1 j]
/-- The reader at these words, with this body in that row. -/
def St (W : World) (z : Nat) (ws : List Wd) (ps : List Pt) (r : Option Nat) : Prop :=
  ∃ (g : Option Addr) (c : Nat) (bv : Value), Rdr W z (.slice g ws.length c) bv ∧ WTx W z g ws ∧ ws.length ≤ c ∧ BdO W (z + 1) bv ps ∧ bv.ownBlock = r
theorem St.lt {W : World} {z : Nat} {ws : List Wd} {ps : List Pt} {r : Option Nat} (h : St W z ws ps r) : z < W.heap.size := by
  obtain ⟨g, c, bv, h1, _⟩ := h
  exact h1.lt
theorem St.row {W : World} {z : Nat} {ws : List Wd} {ps : List Pt} {r : Option Nat} (h : St W z ws ps r) : ∀ k, r = some k → z + 1 ≤ k ∧ k < W.heap.size := by
  obtain ⟨g, c, bv, _, _, _, h4, h5⟩ := h
  intro k hk
  subst hk
  exact h4.own.lt k h5
/-- Whatever is done elsewhere. -/
theorem St.on {W W' : World} {z : Nat} {ws : List Wd} {ps : List Pt} {r : Option Nat} (h : St W z ws ps r) (hb : ∀ k, k < W.heap.size → W'.heap[k]? = W.heap[k]?) : St W' z ws ps r := by
  have hz := h.lt
  obtain ⟨g, c, bv, h1, h2, h3, h4, h5⟩ := h
  refine ⟨g, c, bv, (hb z hz).trans h1, h2.on (fun k hk => hb k (by omega)), h3, ⟨own_keep h4.own fun k _ hk _ => hb k hk, fun p hp => own_keep (h4.kids p hp) fun k _ hk _ => hb k hk⟩, h5⟩
theorem St.below {W W' : World} {z : Nat} {ws : List Wd} {ps : List Pt} {r : Option Nat} (h : St W z ws ps r) (hb : Below W.heap.size W W') : St W' z ws ps r := h.on hb.block

set_option maxHeartbeats 400000 in
theorem next_some (z : Nat) (w : Wd) (ws : List Wd) (ps : List Pt) (r : Option Nat) (W : World) (h : St W z (w :: ws) ps r) (hn : ws.length ≤ 4096) :
    Calls Tryz.prog 61 #[.pointer (some ⟨z, 0, none⟩)] W fun e W' => e = .returned (.string (Lx.ba w)) ∧ St W' z ws ps r ∧ Kp z none W W' ∧ W'.heap.size = W.heap.size := by
  obtain ⟨g, c, bv, h1, h2, h3, h4, h5⟩ := h
  have c0 := h1.c0
  have f0 := h1.frozen 0
  have hlt := h1.lt
  rw [List.length_cons] at c0 h3
  have hx : ∃ bk o, g = some ⟨bk, o, none⟩ ∧ bk < z ∧ W.cell? ⟨bk, o, none⟩ = some (.string (Lx.ba w)) := by
    rcases h2 with h | ⟨bk, o, e1, e2, e3⟩
    · cases h
    · exact ⟨bk, o, e1, e2, e3 0 w rfl⟩
  obtain ⟨bk, o, rfl, hbk, hcell⟩ := hx
  have HS : Hid (St (W.setCell ⟨z, 0, none⟩ (sliced (some ⟨bk, o, none⟩) 1 (ws.length + 1) c 1)) z ws ps r) := by
    refine ⟨_, c - 1, bv, h1.set0 _, ?_, by omega, ⟨own_far h4.own ?_ _ _, fun p hp => own_far (h4.kids p hp) ?_ _ _⟩, h5⟩
    · have := h2.tail h3
      refine this.on fun k hk => Below.heap_setCell _ _ _ k (fun e => by simp at e; omega)
    · intro e; have := (h4.own.lt z e).1; omega
    · intro e; have := (World.ownsRow.lt (h4.kids p hp) z e).1; omega
  have HK : Hid (Kp z none W (W.setCell ⟨z, 0, none⟩ (sliced (some ⟨bk, o, none⟩) 1 (ws.length + 1) c 1))) := Kp.of_set _ _ _ _ _
  clear h1 h2 h4 h5
  have hl : ((ws.length : Int) + 1 == 0) = false := by simp; omega
  go_enter Tryz.func61, Tryz.ntmps61
  go_wp2
  all_goals
    go_ret
    refine ⟨rfl, ?_, ?_, by simp⟩
    · have h := HS.out
      simpa [sliced, Addr.add, *] using h
    · have h := HK.out
      simpa [sliced, Addr.add, *] using h
set_option maxHeartbeats 400000 in
theorem next_none (z : Nat) (ps : List Pt) (r : Option Nat) (W : World) (h : St W z [] ps r) :
    Calls Tryz.prog 61 #[.pointer (some ⟨z, 0, none⟩)] W fun e W' => e = .returned (.string (Lx.ba [])) ∧ W = W' := by
  obtain ⟨g, c, bv, h1, h2, h3, h4, h5⟩ := h
  have c0 := h1.c0
  clear h1 h2 h4 h5
  simp only [List.length_nil] at c0
  go_enter Tryz.func61, Tryz.ntmps61
  go_wp2
  go_ret
  exact ⟨rfl, rfl⟩
/-- The next word, an empty one at the end, and what is left. -/
def nxt (ws : List Wd) : Wd × List Wd := match ws with
  | [] => ([], [])
  | w :: ws => (w, ws)
theorem next_any (z : Nat) (ws : List Wd) (ps : List Pt) (r : Option Nat) (W : World) (h : St W z ws ps r) (hn : ws.length ≤ 4096) :
    Calls Tryz.prog 61 #[.pointer (some ⟨z, 0, none⟩)] W fun e W' => e = .returned (.string (Lx.ba (nxt ws).1)) ∧ St W' z (nxt ws).2 ps r ∧ Kp z none W W' ∧ W'.heap.size = W.heap.size := by
  cases ws with
  | nil =>
    refine (next_none z ps r W h).mono ?_
    rintro e W' ⟨rfl, rfl⟩
    exact ⟨rfl, h, Kp.refl _ _ _, rfl⟩
  | cons w ws => exact next_some z w ws ps r W h (by simp at hn; omega)
theorem nxt_len (ws : List Wd) : (nxt ws).2.length = ws.length - 1 := by cases ws <;> simp [nxt]
end Go.Proofs.YtighcikiaddfcaaGreatDoor

namespace Go.Proofs.YtighcikiaddfcaaGreatDoor
open Go.RowKit
set_option linter.unusedVariables false

/-- The variables read as they are laid in every world that is the same below z. -/
def LwB (z : Nat) (W : World) : Prop := ∀ W', Below z W W' → Lw W'
theorem LwB.lw {z : Nat} {W : World} (h : LwB z W) : Lw W := h W (Below.refl _ _)
theorem LwB.on {z : Nat} {W W' : World} (h : LwB z W) (hb : Below z W W') : LwB z W' := fun X hX => h X (hb.trans hX)
theorem LwB.kp {z : Nat} {W W' : World} {r : Option Nat} (h : LwB z W) (hk : Kp z r W W') (hr : ∀ k, r = some k → z ≤ k) (hz : z ≤ W.heap.size) : LwB z W' := h.on (hk.below hr hz)
/-- Not too many words, none too long. -/
def Sz (ws : List Wd) (ps : List Pt) : Prop := ws.length + ps.length ≤ 4096 ∧ ∀ w ∈ ws, w.length ≤ 4096
theorem Sz.on {ws ws' : List Wd} {ps ps' : List Pt} (h : Sz ws ps) (hs : ws' <:+ ws) (hl : ws'.length + ps'.length ≤ ws.length + ps.length) : Sz ws' ps' :=
  ⟨Nat.le_trans hl h.1, fun w hw => h.2 w (hs.subset hw)⟩
abbrev ptr (z : Nat) : Value := .pointer (some ⟨z, 0, none⟩)
abbrev I64 (ks : List Int) : List Value := ks.map (Value.int .i64)
/-- How readPart ends. -/
def PartQ (o : Option (List Wd × List Ex)) (z : Nat) (r : Option Nat) (W : World) (ps : List Pt) (e : Ending) (W' : World) : Prop :=
  Kp z r W W' ∧ match o with
  | none => e = .returned (.tuple #[.int .i64 0, .bool false])
  | some (ws', b') => e = .returned (.tuple #[.int .i64 (lastAt b'), .bool true]) ∧ ∃ qs r', St W' z ws' (ps ++ qs) r' ∧ (ps ++ qs).map (·.1) = b' ∧ (∀ q ∈ qs, KdO W' W.heap.size q) ∧ Nx W r r'
def PartSaid (n : Nat) : Prop := ∀ (ws : List Wd) (ps : List Pt) (r : Option Nat) (W : World) (z : Nat), ws.length ≤ n → Sz ws ps → St W z ws ps r → LwB z W →
  Calls Tryz.prog 63 #[ptr z] W fun e W' => PartQ (rp n ws (ps.map (·.1))) z r W ps e W'
/-- None of these parts' kids lie in that row. -/
def Apt (qs : List Pt) (kv : Value) : Prop := ∀ q ∈ qs, (Value.slice q.2.1 q.1.kids.length q.2.2).ownBlock = none ∨ (Value.slice q.2.1 q.1.kids.length q.2.2).ownBlock ≠ kv.ownBlock
/-- How readRest ends. -/
def RestQ (o : Option (List Wd × List Ex × List Int)) (z : Nat) (r0 : Option Nat) (W0 : World) (ps : List Pt) (e : Ending) (W' : World) : Prop :=
  Kp z r0 W0 W' ∧ match o with
  | none => ∃ g n c, e = .returned (.tuple #[.slice g n c, .bool false])
  | some (ws', b', ks') => ∃ g c qs r', e = .returned (.tuple #[.slice g ks'.length c, .bool true]) ∧ St W' z ws' (ps ++ qs) r' ∧ (ps ++ qs).map (·.1) = b' ∧ (∀ q ∈ qs, KdO W' W0.heap.size q) ∧ Nx W0 r0 r' ∧ W'.ownsRow W0.heap.size 3 1 (.slice g ks'.length c) ks'.length (I64 ks')
/-- What readRest starts from. -/
structure Rs (z : Nat) (r0 : Option Nat) (W0 : World) (ps : List Pt) (W : World) (ws : List Wd) (qs : List Pt) (r : Option Nat) (kv : Value) (ks : List Int) : Prop where
  kp : Kp z r0 W0 W
  nx : Nx W0 r0 r
  st : St W z ws (ps ++ qs) r
  fresh : ∀ q ∈ qs, KdO W W0.heap.size q
  kids : W.ownsRow W0.heap.size 3 1 kv ks.length (I64 ks)
  apt : Apt qs kv
  sz : Sz ws (ps ++ qs)
  few : ks.length + ws.length ≤ 4096
/-- What holds of all of it. -/
structure Up (z : Nat) (r0 : Option Nat) (W0 : World) (ps : List Pt) : Prop where
  old : ∀ p ∈ ps, KdO W0 (z + 1) p
  lt : z < W0.heap.size
  row : ∀ k, r0 = some k → z + 1 ≤ k ∧ k < W0.heap.size
  lw : LwB z W0
def RestSaid (n : Nat) : Prop := ∀ (m : Nat) (z : Nat) (r0 : Option Nat) (W0 : World) (ps : List Pt) (W : World) (ws : List Wd) (qs : List Pt) (r : Option Nat) (kv : Value) (ks : List Int), Up z r0 W0 ps → Rs z r0 W0 ps W ws qs r kv ks → ws.length ≤ n → ws.length < m →
  Calls Tryz.prog 104 #[ptr z, kv] W fun e W' => RestQ (rr (rp n) m ks ws ((ps ++ qs).map (·.1))) z r0 W0 ps e W'

theorem app_kid {W : World} {ops : Array Oper} {rest : List Oper} {o : Oper} {a : Act} {Q : Exit → Act → World → Prop} (hgd : o.guard = none) (s x : Operand)
    (ho : o.op = .call { callee := .builtin .append, args := #[s, x], argTypes := #[39, 39] }) (base : Nat) (v : Value) (ks : List Int) (k : Int) (hs : a.eval s = v) (z : Nat) (hz : W.heap.size = z) (hx : a.eval x = .slice (some ⟨z, 0, none⟩) 1 1)
    (hown : W.ownsRow base 3 1 v ks.length (I64 ks)) (hb : base ≤ W.heap.size) (hlen : ks.length ≤ 8192)
    (h : ∀ g cap w', w'.ownsRow base 3 1 (.slice (some ⟨g, 0, none⟩) (ks ++ [k]).length cap) (ks ++ [k]).length (I64 (ks ++ [k])) → W.grownBy w' v.ownBlock → (v.ownBlock = some g ∨ W.heap.size ≤ g) → wpList Tryz.prog ops Q rest (a.put o.dst (.slice (some ⟨g, 0, none⟩) (ks.length + 1) cap)) w') : wpList Tryz.prog ops Q (o :: rest) a (W.alloc (.cells #[.int .i64 k] 3)) := by
  subst hz
  obtain ⟨i0, hi, hz0, hz1, hz2⟩ := info_parts Tryz.info3p
  refine wpList_plain hgd fun _ hK => wp_append_lies _ s x 39 ho base 3 i0 _ 1 8 Tryz.underlying39 hi hz0 hz1 hz2 rfl (by decide) v _ _ hs (hown.alloc _) ⟨W.heap.size, 0, none⟩ 1 1 [.int .i64 k] hx rfl ?_ (fun u hu => by rw [List.mem_singleton] at hu; subst hu; rfl) (by decide) (by unfold maxLen; omega) (by omega) (by rw [World.size_alloc]; omega) _ rfl ?_
  · intro j u hj
    rw [Addr.add_lit, Nat.zero_add]
    refine cell_new W #[.int .i64 k] 3 j u ?_
    simpa using hj
  · intro g cap w' h1 h2 h3 _
    refine hK _ _ (h g cap w' ?_ ?_ ?_)
    · rw [List.length_append, show I64 (ks ++ [k]) = I64 ks ++ [Value.int .i64 k] from List.map_append]; exact h1
    · refine ⟨h2.os, h2.tape, h2.output, ?_, ?_⟩
      · exact Nat.le_trans (by rw [World.size_alloc]; omega) h2.size
      · intro k' hk hr
        rw [h2.block k' (by rw [World.size_alloc]; omega) hr]
        exact Below.heap_alloc W _ k' hk
    · rcases h3 with h3 | h3
      · exact Or.inl h3
      · right; rw [h3, World.size_alloc]; omega

theorem Kp.wide {z : Nat} {W W' : World} (h : Kp z none W W') (r : Option Nat) : Kp z r W W' := ⟨h.os, h.tape, h.output, h.size, fun k hk hz _ => h.block k hk hz (by simp)⟩
theorem Up.on {z : Nat} {r0 : Option Nat} {W0 W : World} {ps : List Pt} (h : Up z r0 W0 ps) (hk : Kp z r0 W0 W) : LwB z W := h.lw.kp hk (fun k e => by have := h.row k e; omega) (by have := h.lt; omega)
/-- One more part has been read. -/
theorem Rs.part {z : Nat} {r0 : Option Nat} {W0 : World} {ps : List Pt} {wr : World} {w1 : Wd} {ws1 : List Wd} {qs1 : List Pt} {r1 : Option Nat} {kv : Value} {ks1 : List Int} {ws2 : List Wd} {b2 : List Ex} {w2 : World} {qs2 : List Pt} {r2 : Option Nat}
    (h : Rs z r0 W0 ps wr (w1 :: ws1) qs1 r1 kv ks1) (hU : Up z r0 W0 ps)
    (hg : ws2 <:+ w1 :: ws1 ∧ ws2.length < (w1 :: ws1).length ∧ ws2.length + b2.length ≤ (w1 :: ws1).length + ((ps ++ qs1).map (·.1)).length ∧ (ps ++ qs1).map (·.1) <+: b2 ∧ ((ps ++ qs1).map (·.1)).length < b2.length)
    (hK : Kp z r1 wr w2) (hS : St w2 z ws2 (ps ++ qs1 ++ qs2) r2) (hm : (ps ++ qs1 ++ qs2).map (·.1) = b2) (hf : ∀ q ∈ qs2, KdO w2 wr.heap.size q) (hN : Nx wr r1 r2) :
    Rs z r0 W0 ps w2 ws2 (qs1 ++ qs2) r2 kv ks1 ∧ (ps ++ (qs1 ++ qs2)).map (·.1) = b2 ∧ ws2.length < ws1.length + 1 ∧ ws2 <:+ w1 :: ws1 ∧ wr.heap.size ≤ w2.heap.size := by
  rw [List.append_assoc] at hS hm
  obtain ⟨g1, g2, g3, g4, g5⟩ := hg
  have hlen : b2.length = (ps ++ (qs1 ++ qs2)).length := by rw [← hm, List.length_map]
  rw [List.length_map] at g3
  have hrow : ∀ k, r1 = some k → wr.heap.size ≤ k ∨ (∃ cs, wr.heap[k]? = some (.cells cs 41 (0, 0))) := fun k hk => by
    obtain ⟨g, c, bv, _, _, _, h4, h5⟩ := h.st
    rcases h4.own.2 with ⟨h6, _⟩ | ⟨gb, cap, cur, hv, _, hh, _⟩
    · rw [h6] at h5; rw [hk] at h5; cases h5
    · subst hv
      rw [hk] at h5
      have e : gb = k := Option.some.inj h5
      subst e
      exact Or.inr ⟨cur, hh⟩
  have keep : ∀ {v : Value} {k : List Int}, wr.ownsRow W0.heap.size 3 1 v k.length (I64 k) → w2.ownsRow W0.heap.size 3 1 v k.length (I64 k) := fun {v k} ho => by
    refine hK.own ho hU.lt ?_
    rcases ho.2 with ⟨h6, _⟩ | ⟨gb, cap, cur, hv, _, hh, _⟩
    · left; rw [h6]; rfl
    · right
      subst hv
      intro e
      rcases hrow gb e.symm with h7 | ⟨cs, h7⟩
      · have := (Array.getElem?_eq_some_iff.1 hh).1; omega
      · rw [hh] at h7; cases h7
  refine ⟨⟨h.kp.trans h.nx hK, h.nx.trans hN h.kp.size, hS, ?_, keep h.kids, ?_, h.sz.on g1 ?_, ?_⟩, hm, by simpa using g2, g1, hK.size⟩
  · intro q hq
    rcases List.mem_append.1 hq with hq | hq
    · exact keep (h.fresh q hq)
    · exact Lx.own_base (hf q hq) h.kp.size
  · intro q hq
    rcases List.mem_append.1 hq with hq | hq
    · exact h.apt q hq
    · have h8 := hf q hq
      cases e : (Value.slice q.2.1 q.1.kids.length q.2.2).ownBlock with
      | none => exact .inl rfl
      | some k =>
        right
        have h9 := (World.ownsRow.lt h8 k e).1
        intro e'
        have := (World.ownsRow.lt h.kids k e'.symm).2
        omega
  · rw [← hlen]; exact g3
  · have := h.few
    simp only [List.length_cons] at this g2
    omega
/-- A kid has been put behind the others. -/
theorem Rs.kid {z : Nat} {r0 : Option Nat} {W0 : World} {ps : List Pt} {w2 w3 : World} {ws : List Wd} {qs : List Pt} {r : Option Nat} {kv v' : Value} {ks ks' : List Int} {g : Nat}
    (h : Rs z r0 W0 ps w2 ws qs r kv ks) (hU : Up z r0 W0 ps) (ho : w3.ownsRow W0.heap.size 3 1 v' ks'.length (I64 ks')) (hg : w2.grownBy w3 kv.ownBlock) (hv : v'.ownBlock = some g) (hx : kv.ownBlock = some g ∨ w2.heap.size ≤ g) (hk : ks'.length + ws.length ≤ 4096) :
    Rs z r0 W0 ps w3 ws qs r v' ks' := by
  have hlt := hU.lt
  have hkv : ∀ k, kv.ownBlock = some k → W0.heap.size ≤ k ∧ k < w2.heap.size := fun k e => World.ownsRow.lt h.kids k e
  have old : ∀ p ∈ ps ++ qs, (Value.slice p.2.1 p.1.kids.length p.2.2).ownBlock = none ∨ (Value.slice p.2.1 p.1.kids.length p.2.2).ownBlock ≠ kv.ownBlock := fun p hp => by
    rcases List.mem_append.1 hp with hp | hp
    · cases e : (Value.slice p.2.1 p.1.kids.length p.2.2).ownBlock with
      | none => exact .inl rfl
      | some k =>
        right
        intro e'
        have h1 := (World.ownsRow.lt (hU.old p hp) k e).2
        have h2 := (hkv k e'.symm).1
        omega
    · exact h.apt p hp
  have low : ∀ k, k < W0.heap.size → w3.heap[k]? = w2.heap[k]? := fun k hk => hg.block k (Nat.lt_of_lt_of_le hk h.kp.size) (fun e => by have := (hkv k e.symm).1; omega)
  have kk : Kp z r0 W0 w3 := ⟨hg.os.trans h.kp.os, hg.tape.trans h.kp.tape, hg.output.trans h.kp.output, Nat.le_trans h.kp.size hg.size, fun k hk hz hr => (low k hk).trans (h.kp.block k hk hz hr)⟩
  refine ⟨kk, h.nx, ?_, fun q hq => ?_, ho, fun q hq => ?_, h.sz, hk⟩
  · obtain ⟨gw, c, bv, h1, h2, h3, h4, h5⟩ := h.st
    refine ⟨gw, c, bv, (low z hlt).trans h1, h2.on (fun k hk => low k (by omega)), h3, ⟨?_, fun p hp => World.ownsRow.kept (h4.kids p hp) hg (old p hp)⟩, h5⟩
    refine h4.own.kept hg ?_
    rcases h4.own.2 with ⟨h6, _⟩ | ⟨gb, cap, cur, hv2, _, hh, _⟩
    · left; rw [h6]; rfl
    · right
      subst hv2
      intro e
      rcases h.kids.2 with ⟨h7, _⟩ | ⟨gk, cap', cur', h7, _, hh', _⟩
      · rw [h7] at e; cases e
      · rw [h7] at e
        have e2 : gb = gk := Option.some.inj e
        subst e2
        rw [hh] at hh'; cases hh'
  · exact World.ownsRow.kept (h.fresh q hq) hg (h.apt q hq)
  · rcases h.apt q hq with h1 | h1
    · exact .inl h1
    · cases e : (Value.slice q.2.1 q.1.kids.length q.2.2).ownBlock with
      | none => exact .inl rfl
      | some k =>
        right
        rw [hv]
        intro e'
        have e2 : k = g := Option.some.inj e'
        subst e2
        rcases hx with hx | hx
        · exact h1 (e.trans hx.symm)
        · have := (World.ownsRow.lt (h.fresh q hq) k e).2
          omega
/-- How many words are left. -/
def leftOf (z : Nat) (W : World) : Nat := match W.cell? ⟨z, 0, none⟩ with
  | some (.slice _ n _) => n
  | _ => 0
theorem St.left {W : World} {z : Nat} {ws : List Wd} {ps : List Pt} {r : Option Nat} (h : St W z ws ps r) : leftOf z W = ws.length := by
  obtain ⟨g, c, bv, h1, _⟩ := h
  unfold leftOf; rw [h1.c0]
theorem St.words {W : World} {z : Nat} {ws : List Wd} {ps : List Pt} {r : Option Nat} (h : St W z ws ps r) : ∃ g c, W.cell? ⟨z, 0, none⟩ = some (.slice g ws.length c) := by
  obtain ⟨g, c, bv, h1, _⟩ := h
  exact ⟨g, c, h1.c0⟩
theorem St.first {W : World} {z : Nat} {w : Wd} {ws : List Wd} {ps : List Pt} {r : Option Nat} (h : St W z (w :: ws) ps r) : ∃ bk o c, W.cell? ⟨z, 0, none⟩ = some (.slice (some ⟨bk, o, none⟩) (ws.length + 1) c) ∧ W.cell? ⟨bk, o, none⟩ = some (.string (Lx.ba w)) := by
  obtain ⟨g, c, bv, h1, h2, _⟩ := h
  rcases h2 with h2 | ⟨bk, o, rfl, _, h3⟩
  · cases h2
  · exact ⟨bk, o, c, h1.c0, h3 0 w rfl⟩
theorem ba_is (w l : Wd) : ((Lx.ba w).toList == l) = (w == l) := by rw [Lib.toList_data]; rfl
theorem rr_done {f : Rf} {m : Nat} {ks : List Int} {ws : List Wd} {b : List Ex} (hm : ws.length + 1 < m) : rr f m ks ([41] :: ws) b = some (ws, b, ks) := by
  cases m with
  | zero => omega
  | succ m => rw [rr, if_pos rfl]
theorem rr_nil {f : Rf} {m : Nat} {ks : List Int} {b : List Ex} : rr f m ks [] b = none := by cases m <;> rfl
theorem rr_no {f : Rf} {m : Nat} {ks : List Int} {w : Wd} {ws : List Wd} {b : List Ex} (hw : w ≠ [41]) (h : f (w :: ws) b = none) : rr f m ks (w :: ws) b = none := by
  cases m with
  | zero => rfl
  | succ m => rw [rr, if_neg hw, h]
theorem rr_on {f : Rf} {m : Nat} {ks : List Int} {w : Wd} {ws : List Wd} {b : List Ex} {ws' : List Wd} {b' : List Ex} (hw : w ≠ [41]) (h : f (w :: ws) b = some (ws', b')) : rr f (m + 1) ks (w :: ws) b = rr f m (ks ++ [lastAt b']) ws' b' := by
  rw [rr, if_neg hw, h]

set_option maxHeartbeats 2000000 in
set_option maxRecDepth 100000 in
theorem rest_of (n : Nat) (hP : PartSaid n) : RestSaid n := by
  intro m z r0 W0 ps W ws qs r kv ks hU hR hn hm
  obtain ⟨O, hO⟩ : ∃ O, rr (rp n) m ks ws ((ps ++ qs).map (·.1)) = O := ⟨_, rfl⟩
  rw [hO]
  have HO : Hid (rr (rp n) m ks ws ((ps ++ qs).map (·.1)) = O) := hO
  have HR : Hid (Rs z r0 W0 ps W ws qs r kv ks) := hR
  have HU : Hid (Up z r0 W0 ps) := hU
  clear hO hR hU
  go_enter Tryz.func104, Tryz.ntmps104
  go_wp2_with fail
  go_loopw [1] (fun v wr => ∃ (ws1 : List Wd) (qs1 : List Pt) (r1 : Option Nat) (ks1 : List Int) (m1 : Nat), Rs z r0 W0 ps wr ws1 qs1 r1 v ks1 ∧ ws1.length ≤ n ∧ ws1.length < m1 ∧ rr (rp n) m1 ks1 ws1 ((ps ++ qs1).map (·.1)) = O)
    (fun _ wr => leftOf z wr)
  case atStart => exact ⟨ws, qs, r, ks, m, HR.out, hn, hm, HO.out⟩
  case round =>
    clear HO HR hn hm
    obtain ⟨ws1, qs1, r1, ks1, m1, hRs, hn1, hm1, hO1⟩ := hrel
    obtain ⟨gv, cv, rfl, _⟩ := Lx.own_len hRs.kids
    have HR : Hid (Rs z r0 W0 ps wr ws1 qs1 r1 (.slice gv ks1.length cv) ks1) := hRs
    have HO : Hid (rr (rp n) m1 ks1 ws1 ((ps ++ qs1).map (·.1)) = O) := hO1
    clear hRs hO1
    cases ws1 with
    | nil =>
      obtain ⟨g, c, c0⟩ := HR.out.st.words
      rw [List.length_nil] at c0
      go_wp2_with fail
      refine (next_any z [] _ _ wr HR.out.st (by simp)).mono ?_
      rintro e w1 ⟨rfl, _, hK, _⟩
      have hq : ((Lx.ba (nxt []).1).toList == [41]) = false := by rw [ba_is]; rfl
      go_wp2_with fail
      go_ret2
      refine ⟨HR.out.kp.trans HR.out.nx (hK.wide _), ?_⟩
      rw [← HO.out, rr_nil]
      exact ⟨_, _, _, rfl⟩
    | cons w1 ws1 =>
      obtain ⟨bk, o, c, c0, c1⟩ := HR.out.st.first
      have HL : Hid (ws1.length + 1 ≤ n ∧ ws1.length + 1 < m1 ∧ ks1.length + (ws1.length + 1) ≤ 4096) := ⟨hn1, hm1, HR.out.few⟩
      have hl0 : (0 : Int) < (ws1.length : Int) + 1 := by omega
      clear hn1 hm1
      by_cases hw : w1 = [41]
      · subst hw
        have hq : ((Lx.ba [41]).toList == [41]) = true := by rw [ba_is]; rfl
        have hq' : ((Lx.ba [41]).toList != [41]) = false := by rw [bne, hq]; rfl
        go_wp2_with fail
        refine (next_any z ([41] :: ws1) _ _ wr HR.out.st (by have := HL.out.2.2; simp; omega)).mono ?_
        rintro e w1 ⟨rfl, hS, hK, _⟩
        have HS : Hid (St w1 z ws1 (ps ++ qs1) r1) := hS
        clear hS
        have hq2 : ((Lx.ba (nxt ([41] :: ws1)).1).toList == [41]) = true := by rw [ba_is]; rfl
        go_wp2_with fail
        go_ret2
        refine ⟨HR.out.kp.trans HR.out.nx (hK.wide _), ?_⟩
        rw [← HO.out, rr_done HL.out.2.1]
        refine ⟨gv, cv, qs1, r1, rfl, HS.out, rfl, fun q hq => (hK.wide none).own (HR.out.fresh q hq) HU.out.lt ?_, HR.out.nx, (hK.wide none).own HR.out.kids HU.out.lt ?_⟩
        · cases (Value.slice q.2.1 q.1.kids.length q.2.2).ownBlock with
          | none => exact .inl rfl
          | some k => exact .inr (by simp)
        · cases (Value.slice gv ks1.length cv).ownBlock with
          | none => exact .inl rfl
          | some k => exact .inr (by simp)
      · have hq : ((Lx.ba w1).toList == [41]) = false := by rw [ba_is]; simpa using hw
        have hq' : ((Lx.ba w1).toList != [41]) = true := by rw [bne, hq]; rfl
        have HW : Hid (w1 ≠ [41]) := hw
        clear hw
        go_wp2_with fail
        refine (hP (w1 :: ws1) (ps ++ qs1) r1 wr z HL.out.1 HR.out.sz HR.out.st (HU.out.on HR.out.kp)).mono ?_
        rintro e w2 ⟨hK, hQ⟩
        cases hp : rp n (w1 :: ws1) ((ps ++ qs1).map (·.1)) with
        | none =>
          rw [hp] at hQ
          subst hQ
          have HP : Hid (rp n (w1 :: ws1) ((ps ++ qs1).map (·.1)) = none) := hp
          clear hp
          go_wp2_with fail
          go_ret2
          refine ⟨HR.out.kp.trans HR.out.nx hK, ?_⟩
          rw [← HO.out, rr_no HW.out HP.out]
          exact ⟨_, _, _, rfl⟩
        | some y =>
          obtain ⟨ws2, b2⟩ := y
          rw [hp] at hQ
          obtain ⟨rfl, qs2, r2, hS2, hm2, hf2, hN2⟩ := hQ
          have HP : Hid (rp n (w1 :: ws1) ((ps ++ qs1).map (·.1)) = some (ws2, b2)) := hp
          have HN : Hid (Rs z r0 W0 ps w2 ws2 (qs1 ++ qs2) r2 (.slice gv ks1.length cv) ks1 ∧ (ps ++ (qs1 ++ qs2)).map (·.1) = b2 ∧ ws2.length < ws1.length + 1 ∧ ws2 <:+ w1 :: ws1 ∧ wr.heap.size ≤ w2.heap.size) := HR.out.part HU.out (rp_gd n _ _ _ _ hp) hK hS2 hm2 hf2 hN2
          clear hp hK hS2 hm2 hf2 hN2
          obtain ⟨kid, hkid⟩ : ∃ kid, lastAt b2 = kid := ⟨_, rfl⟩
          have HD : Hid (lastAt b2 = kid) := hkid
          rw [hkid]
          clear hkid
          have hkl : ks1.length ≤ 8192 := by have := HL.out.2.2; omega
          have hbase : W0.heap.size ≤ w2.heap.size := HN.out.1.kp.size
          go_wp2_with (at_builtin; refine app_kid rfl _ _ rfl W0.heap.size (.slice gv ks1.length cv) ks1 kid rfl w2.heap.size rfl rfl HN.out.1.kids hbase hkl ?_)
          intro g' cap' w3 ho3 hg3 hx3
          have HZ : Hid (Rs z r0 W0 ps w3 ws2 (qs1 ++ qs2) r2 (.slice (some ⟨g', 0, none⟩) (ks1.length + 1) cap') (ks1 ++ [kid])) := by
            obtain ⟨hN, hm2, hl2, hsf, _⟩ := HN.out
            have hl4 := HL.out.2.2
            refine hN.kid HU.out (g := g') ?_ hg3 rfl hx3 (by rw [List.length_append, List.length_singleton]; omega)
            rw [List.length_append, show I64 (ks1 ++ [kid]) = List.map (Value.int .i64) ks1 ++ [Value.int .i64 kid] from List.map_append]
            exact ho3
          clear ho3 hg3 hx3
          go_wp2_with fail
          go_roundw
          case rel =>
            obtain ⟨hN, hm2, hl2, hsf, _⟩ := HN.out
            obtain ⟨hl1, hl3, hl4⟩ := HL.out
            refine ⟨ws2, qs1 ++ qs2, r2, ks1 ++ [kid], m1 - 1, HZ.out, by omega, by omega, ?_⟩
            obtain ⟨m', rfl⟩ : ∃ m', m1 = m' + 1 := ⟨m1 - 1, by omega⟩
            rw [← HO.out, rr_on HW.out HP.out, HD.out, hm2, Nat.add_sub_cancel]
          case measure =>
            have hl2 := HN.out.2.2.1
            rw [HR.out.st.left, HZ.out.st.left]
            simp only [List.length_cons]
            omega
end Go.Proofs.YtighcikiaddfcaaGreatDoor
