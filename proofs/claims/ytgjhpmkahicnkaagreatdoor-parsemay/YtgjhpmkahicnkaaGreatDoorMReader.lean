/- The contracts of package parse's leaves: number, digits, digitsBehind, single, head. · Package parse's reader in memory: its words, its body; what is kept; the contract of next. · The contract of readRest, out of readPart's. · The contract of readCase, out of readPart's. · The contract of readBracket, out of readPart's. · The contract of readPart. · The contract of readDef. · The contracts of readProgram and Parse. · The contract of Parse. -/
import Derived.Test.YtgjhpmkahicnkaaGreatDoorMPlain
import Derived.Test.YtgjhpmkahicnkaaGreatDoorMTerm
import Derived.Test.YtgjhpmkahicnkaaGreatDoorMCopy
import Derived.Test.YtgjhpmkahicnkaaGreatDoorMLex
import Derived.Deep.AppendLies

namespace Go.Proofs.YtgjhpmkahicnkaaGreatDoor
open Go.RowKit
set_option linter.unusedVariables false

/-- What a walk asks of the package-level variables. -/
abbrev Lw := Tm.Lw

set_option maxHeartbeats 400000 in
theorem number_any (s : ByteArray) (w : World) (hs : s.size ≤ 140737488355328) (hw : Lw w) :
    Calls Tryz.prog 60 #[.string s] w fun e w' => ∃ x b, e = .returned (.tuple #[.int .i64 x, .bool b]) ∧ Below w.heap.size w w' ∧ ((b = true ∧ nb s.data.toList = some x) ∨ (b = false ∧ nb s.data.toList = none)) := by
  go_enter Tryz.func60, Tryz.ntmps60
  go_wp2_with fail
  refine (Tm.cut_any Tm.atoi_said Tm.itoa_said Tm.clone_said s _ hs hw).mono ?_
  rintro e w1 ⟨k, x, v, er, rfl, ⟨g, n, c, rfl⟩, hb, hg⟩
  cases hW : Tm.whole s.data.toList with
  | none =>
    rw [hW] at hg
    obtain ⟨rfl, rfl, _, rfl⟩ := hg
    have hn : Hid (nb s.data.toList = none) := by show nb s.data.toList = none; unfold nb; rw [hW]
    clear hW
    go_wp2
    go_ret2
    exact ⟨_, _, rfl, hb, Or.inr ⟨rfl, hn.out⟩⟩
  | some y =>
    obtain ⟨k', x', ks⟩ := y
    rw [hW] at hg
    obtain ⟨rfl, rfl, rfl, _⟩ := hg
    by_cases hk : k = 1
    · subst hk
      have hn : Hid (nb s.data.toList = some x) := by show nb s.data.toList = some x; unfold nb; rw [hW]; rfl
      clear hW
      go_wp2
      go_ret2
      exact ⟨_, _, rfl, hb, Or.inl ⟨rfl, hn.out⟩⟩
    · have hn : Hid (nb s.data.toList = none) := by show nb s.data.toList = none; unfold nb; rw [hW]; simp [hk]
      have hk' : (k == 1) = false := by simpa using hk
      clear hW
      go_wp2
      go_ret2
      exact ⟨_, _, rfl, hb, Or.inr ⟨rfl, hn.out⟩⟩

/-- What digits and digitsBehind answer. -/
def DgQ (o : Option Int) (w : World) (e : Ending) (w' : World) : Prop := Below w.heap.size w w' ∧ match o with
  | none => e = .returned (.tuple #[.int .i64 0, .bool false])
  | some x => e = .returned (.tuple #[.int .i64 x, .bool true])
theorem dg_some {w : Wd} {x : Int} (h : nb w = some x) (h0 : ¬ x < 0) : dg w = some x := by unfold dg; rw [h]; simp [h0]
theorem dg_neg {w : Wd} {x : Int} (h : nb w = some x) (h0 : x < 0) : dg w = none := by unfold dg; rw [h]; simp [h0]
theorem dg_none {w : Wd} (h : nb w = none) : dg w = none := by unfold dg; rw [h]

theorem DgQ.yes {o : Option Int} {x : Int} {w w' : World} (h : o = some x) (hb : Below w.heap.size w w') : DgQ o w (.returned (.tuple #[.int .i64 x, .bool true])) w' := by subst h; exact ⟨hb, rfl⟩
theorem DgQ.no {o : Option Int} {w w' : World} (h : o = none) (hb : Below w.heap.size w w') : DgQ o w (.returned (.tuple #[.int .i64 0, .bool false])) w' := by subst h; exact ⟨hb, rfl⟩

set_option maxHeartbeats 400000 in
theorem digits_any (s : ByteArray) (w : World) (hs : s.size ≤ 140737488355328) (hw : Lw w) :
    Calls Tryz.prog 42 #[.string s] w fun e w' => DgQ (dg s.data.toList) w e w' := by
  go_enter Tryz.func42, Tryz.ntmps42
  go_wp2_with fail
  refine (number_any s _ hs hw).mono ?_
  rintro e w1 ⟨x, b, rfl, hb, ⟨rfl, hn⟩ | ⟨rfl, hn⟩⟩
  · by_cases h0 : x < 0
    · have hd : Hid (dg s.data.toList = none) := dg_neg hn h0
      clear hn
      go_wp2
      go_ret2
      exact DgQ.no hd.out hb
    · have hd : Hid (dg s.data.toList = some x) := dg_some hn h0
      clear hn
      go_wp2
      go_ret2
      exact DgQ.yes hd.out hb
  · have hd : Hid (dg s.data.toList = none) := dg_none hn
    clear hn
    go_wp2
    go_ret2
    exact DgQ.no hd.out hb

/-- Does it open with that byte? -/
def opn (c : UInt8) (l : List UInt8) : Bool := l.head? == some c
theorem opn_ext (c : UInt8) (s : ByteArray) (h : 1 ≤ s.size) : ((s.extract 0 1).toList == [c]) = opn c s.data.toList := by
  rw [Lib.toList_data, Lib.extract_data]
  have hl : s.data.toList.length = s.size := rfl
  cases hs : s.data.toList with
  | nil => rw [hs] at hl; simp at hl; omega
  | cons a r => simp [opn]
theorem opn_short (c : UInt8) (s : ByteArray) (h : s.size < 1) : opn c s.data.toList = false := by
  have hl : s.data.toList.length = s.size := rfl
  cases hs : s.data.toList with
  | nil => rfl
  | cons a r => rw [hs] at hl; simp at hl; omega
set_option maxHeartbeats 400000 in
theorem hasPrefix_any (c : UInt8) (s : ByteArray) (w : World) (hs : s.size ≤ 140737488355328) :
    Calls Tryz.prog 95 #[.string s, .string ⟨#[c]⟩] w fun e w' => e = .returned (.bool (opn c s.data.toList)) ∧ w = w' := by
  go_enter Tryz.func95, Tryz.ntmps95
  go_wp2
  · rename_i h
    go_ret
    exact ⟨by rw [opn_ext c s (by omega)]; rfl, rfl⟩
  · rename_i h
    go_ret
    exact ⟨by rw [opn_short c s (by omega)]; rfl, rfl⟩
set_option maxHeartbeats 400000 in
theorem slCutPrefix_any (c : UInt8) (s : ByteArray) (w : World) (hs : s.size ≤ 140737488355328) :
    Calls Tryz.prog 91 #[.string s, .string ⟨#[c]⟩] w fun e w' => e = .returned (.tuple #[.string (if opn c s.data.toList then s.extract 1 s.size else s), .bool (opn c s.data.toList)]) ∧ w = w' := by
  obtain ⟨b, hb⟩ : ∃ b, opn c s.data.toList = b := ⟨_, rfl⟩
  have hp := hasPrefix_any c s w hs
  rw [hb] at hp ⊢
  cases b with
  | false =>
    go_enter Tryz.func91, Tryz.ntmps91
    go_wp2_with (go_at_call 95; refine hp.mono ?_; rintro e w' ⟨rfl, rfl⟩)
    go_ret2
    exact ⟨rfl, rfl⟩
  | true =>
    have h1 : 1 ≤ s.size := by
      rcases Nat.lt_or_ge s.size 1 with h | h
      · rw [opn_short c s h] at hb; cases hb
      · exact h
    have h2 : (1 : Int) ≤ (s.size : Int) := by omega
    go_enter Tryz.func91, Tryz.ntmps91
    go_wp2_with (go_at_call 95; refine hp.mono ?_; rintro e w' ⟨rfl, rfl⟩)
    go_ret2
    exact ⟨rfl, rfl⟩
set_option maxHeartbeats 400000 in
theorem cutPrefix_any (c : UInt8) (s : ByteArray) (w : World) (hs : s.size ≤ 140737488355328) :
    Calls Tryz.prog 89 #[.string s, .string ⟨#[c]⟩] w fun e w' => e = .returned (.tuple #[.string (if opn c s.data.toList then s.extract 1 s.size else s), .bool (opn c s.data.toList)]) ∧ w = w' := by
  obtain ⟨b, hb⟩ : ∃ b, opn c s.data.toList = b := ⟨_, rfl⟩
  have hp := slCutPrefix_any c s w hs
  rw [hb] at hp ⊢
  obtain ⟨t, ht⟩ : ∃ t, (if b = true then s.extract 1 s.size else s) = t := ⟨_, rfl⟩
  rw [ht] at hp ⊢
  go_enter Tryz.func89, Tryz.ntmps89
  go_wp2_with (go_at_call 91; refine hp.mono ?_; rintro e w' ⟨rfl, rfl⟩)
  go_ret2
  exact ⟨rfl, rfl⟩
theorem db_no {c : UInt8} {l : Wd} (h : opn c l = false) : db c l = none := by
  cases l with
  | nil => rfl
  | cons a r => unfold db; simp [opn] at h; simp [h]
theorem db_yes {c : UInt8} {l : Wd} (h : opn c l = true) : db c l = dg (l.drop 1) := by
  cases l with
  | nil => simp [opn] at h
  | cons a r => unfold db; simp [opn] at h; simp [h]
set_option maxHeartbeats 400000 in
theorem behind_any (c : UInt8) (s : ByteArray) (w : World) (hs : s.size ≤ 140737488355328) (hw : Lw w) :
    Calls Tryz.prog 80 #[.string ⟨#[c]⟩, .string s] w fun e w' => DgQ (db c s.data.toList) w e w' := by
  obtain ⟨b, hb⟩ : ∃ b, opn c s.data.toList = b := ⟨_, rfl⟩
  have hp := cutPrefix_any c s w hs
  rw [hb] at hp
  obtain ⟨t, ht⟩ : ∃ t, (if b = true then s.extract 1 s.size else s) = t := ⟨_, rfl⟩
  rw [ht] at hp
  cases b with
  | false =>
    have hd : Hid (db c s.data.toList = none) := db_no hb
    go_enter Tryz.func80, Tryz.ntmps80
    go_wp2_with (go_at_call 89; refine hp.mono ?_; rintro e w' ⟨rfl, rfl⟩)
    go_ret2
    exact DgQ.no hd.out (Below.refl _ _)
  | true =>
    have hl : t.data.toList = s.data.toList.drop 1 := by
      rw [← ht, if_pos rfl, Lib.extract_data]
      apply List.take_of_length_le
      rw [List.length_drop]
      exact Nat.le_refl _
    have htz : t.size ≤ 140737488355328 := by
      have h1 : t.size = t.data.toList.length := rfl
      have h2 : s.size = s.data.toList.length := rfl
      rw [h1, hl, List.length_drop]; omega
    have hd : Hid (db c s.data.toList = dg t.data.toList) := by show _ = _; rw [db_yes hb, hl]
    clear hl
    go_enter Tryz.func80, Tryz.ntmps80
    go_wp2_with (go_at_call 89; refine hp.mono ?_; rintro e w' ⟨rfl, rfl⟩)
    refine (digits_any t _ htz hw).mono ?_
    rintro e w1 ⟨hb1, he⟩
    cases ho : dg t.data.toList with
    | none =>
      rw [ho] at he
      subst he
      have hd' : Hid (db c s.data.toList = none) := hd.out.trans ho
      clear ho
      go_wp2_with fail
      go_ret2
      exact DgQ.no hd'.out hb1
    | some x =>
      rw [ho] at he
      subst he
      have hd' : Hid (db c s.data.toList = some x) := hd.out.trans ho
      clear ho
      go_wp2_with fail
      go_ret2
      exact DgQ.yes hd'.out hb1

/-- What single and head answer. -/
def SgQ (o : Option Ex) (w : World) (e : Ending) (w' : World) : Prop := ∃ (x : Ex) (b : Bool), e = .returned (.tuple #[.agg #[.int .i64 x.kind, .int .i64 x.num, .int .i64 x.bind, .slice none 0 0], .bool b]) ∧ x.kids = [] ∧ Below w.heap.size w w' ∧ ((b = true ∧ o = some x) ∨ (b = false ∧ o = none))

theorem low {w w1 : World} {o : Obj} (h : Below (w.alloc o).heap.size (w.alloc o) w1) : Below w.heap.size w w1 := ((Below.refl _ _).alloc (Nat.le_refl _) _).trans (h.mono (by simp))
set_option maxHeartbeats 1600000 in
theorem single_any (s : ByteArray) (w : World) (hs : s.size ≤ 140737488355328) (hw : Lw w) :
    Calls Tryz.prog 62 #[.string s] w fun e w' => SgQ (sg s.data.toList) w e w' := by
  have hw0 : ∀ o : Obj, Lw (w.alloc o) := fun o => hw.on ((Below.refl _ _).alloc (Nat.le_refl _) _)
  by_cases he0 : s.data.toList = [101, 114, 114, 111, 114]
  · have hq0 : (s.toList == [101, 114, 114, 111, 114]) = true := by rw [Lib.toList_data, he0]; rfl
    have ho : Hid (sg s.data.toList = some ⟨7, 0, 0, []⟩) := by show _ = _; rw [he0]; decide
    clear he0
    go_enter Tryz.func62, Tryz.ntmps62
    go_wp2
    refine bodyPost_ret (v := .tuple #[.agg #[.int .i64 7, .int .i64 0, .int .i64 0, .slice none 0 0], .bool true]) (by simp [results, Tryz.results62, go_sem]) rfl ⟨⟨7, 0, 0, []⟩, true, rfl, rfl, ?_, Or.inl ⟨rfl, ho.out⟩⟩
    exact (Below.refl _ _).alloc (Nat.le_refl _) _
  have hq0 : (s.toList == [101, 114, 114, 111, 114]) = false := by rw [Lib.toList_data]; simpa using he0
  have hS : Hid (sg s.data.toList = match db 36 s.data.toList with | some x => some ⟨1, x, 0, []⟩ | none => (match db 64 s.data.toList with | some x => some ⟨3, x, 0, []⟩ | none => (match nb s.data.toList with | some x => some ⟨0, x, 0, []⟩ | none => none))) := by show _ = _; unfold sg; rw [if_neg he0]; rfl
  clear he0
  go_enter Tryz.func62, Tryz.ntmps62
  go_wp2_with fail
  refine (behind_any 36 s _ hs (hw0 _)).mono ?_
  rintro e w0 ⟨hb0, hd0⟩
  cases hm0 : db 36 s.data.toList with
  | some x =>
    rw [hm0] at hd0
    subst hd0
    have ho : Hid (sg s.data.toList = some ⟨1, x, 0, []⟩) := by show _ = _; rw [hS.out, hm0]
    clear hm0
    obtain ⟨hc, hfz⟩ := Tm.bcell hb0
    have hz : w.heap.size < w0.heap.size := by have := hb0.size; simp at this; omega
    have h01 := low hb0
    go_wp2_with fail
    refine bodyPost_ret (v := .tuple #[.agg #[.int .i64 1, .int .i64 x, .int .i64 0, .slice none 0 0], .bool true]) (by simp [results, Tryz.results62, go_sem, hc]) rfl ⟨⟨1, x, 0, []⟩, true, rfl, rfl, ?_, Or.inl ⟨rfl, ho.out⟩⟩
    exact (((h01.setCell (Nat.le_refl _) _).setCell (Nat.le_refl _) _).setCell (Nat.le_refl _) _).setCell (Nat.le_refl _) _
  | none =>
    rw [hm0] at hd0
    subst hd0
    go_wp2_with fail
    refine (behind_any 64 s _ hs (hw.on (low hb0))).mono ?_
    rintro e w1 ⟨hb1, hd1⟩
    replace hb1 := below_next hb0 hb1
    clear hb0
    cases hm1 : db 64 s.data.toList with
    | some x =>
      rw [hm1] at hd1
      subst hd1
      have ho : Hid (sg s.data.toList = some ⟨3, x, 0, []⟩) := by show _ = _; rw [hS.out, hm0, hm1]
      clear hm0 hm1
      obtain ⟨hc, hfz⟩ := Tm.bcell hb1
      have hz : w.heap.size < w1.heap.size := by have := hb1.size; simp at this; omega
      have h01 := low hb1
      go_wp2_with fail
      refine bodyPost_ret (v := .tuple #[.agg #[.int .i64 3, .int .i64 x, .int .i64 0, .slice none 0 0], .bool true]) (by simp [results, Tryz.results62, go_sem, hc]) rfl ⟨⟨3, x, 0, []⟩, true, rfl, rfl, ?_, Or.inl ⟨rfl, ho.out⟩⟩
      exact (((h01.setCell (Nat.le_refl _) _).setCell (Nat.le_refl _) _).setCell (Nat.le_refl _) _).setCell (Nat.le_refl _) _
    | none =>
      rw [hm1] at hd1
      subst hd1
      go_wp2_with fail
      refine (number_any s _ hs (hw.on (low hb1))).mono ?_
      rintro e w2 ⟨x, b, rfl, hb2, hd2⟩
      replace hb2 := below_next hb1 hb2
      clear hb1
      have ho : Hid ((b = true ∧ sg s.data.toList = some ⟨0, x, 0, []⟩) ∨ (b = false ∧ sg s.data.toList = none)) := by
        show _ ∨ _
        rw [hS.out, hm0, hm1]
        rcases hd2 with ⟨rfl, h⟩ | ⟨rfl, h⟩
        · exact Or.inl ⟨rfl, by rw [h]⟩
        · exact Or.inr ⟨rfl, by rw [h]⟩
      clear hd2 hm0 hm1
      obtain ⟨hc, hfz⟩ := Tm.bcell hb2
      have hz : w.heap.size < w2.heap.size := by have := hb2.size; simp at this; omega
      have h01 := low hb2
      go_wp2_with fail
      refine bodyPost_ret (v := .tuple #[.agg #[.int .i64 0, .int .i64 x, .int .i64 0, .slice none 0 0], .bool b]) (by simp [results, Tryz.results62, go_sem, hc]) rfl ⟨⟨0, x, 0, []⟩, b, rfl, rfl, ?_, ho.out⟩
      exact (((h01.setCell (Nat.le_refl _) _).setCell (Nat.le_refl _) _).setCell (Nat.le_refl _) _).setCell (Nat.le_refl _) _

set_option maxHeartbeats 1600000 in
theorem head_any (s : ByteArray) (w : World) (hs : s.size ≤ 140737488355328) (hw : Lw w) :
    Calls Tryz.prog 78 #[.string s] w fun e w' => SgQ (hdw s.data.toList) w e w' := by
  have hw0 : ∀ o : Obj, Lw (w.alloc o) := fun o => hw.on ((Below.refl _ _).alloc (Nat.le_refl _) _)
  by_cases he0 : s.data.toList = [43]
  · have hq0 : (s.toList == [43]) = true := by rw [Lib.toList_data, he0]; rfl
    have ho : Hid (hdw s.data.toList = some ⟨4, 0, 0, []⟩) := by show _ = _; rw [he0]; decide
    clear he0
    go_enter Tryz.func78, Tryz.ntmps78
    go_wp2
    refine bodyPost_ret (v := .tuple #[.agg #[.int .i64 4, .int .i64 0, .int .i64 0, .slice none 0 0], .bool true]) (by simp [results, Tryz.results78, go_sem]) rfl ⟨⟨4, 0, 0, []⟩, true, rfl, rfl, ?_, Or.inl ⟨rfl, ho.out⟩⟩
    exact (Below.refl _ _).alloc (Nat.le_refl _) _
  by_cases he1 : s.data.toList = [45]
  · have hq1 : (s.toList == [45]) = true := by rw [Lib.toList_data, he1]; rfl
    have hq0 : (s.toList == [43]) = false := by rw [Lib.toList_data, he1]; rfl
    have ho : Hid (hdw s.data.toList = some ⟨4, 1, 0, []⟩) := by show _ = _; rw [he1]; decide
    clear he0 he1
    go_enter Tryz.func78, Tryz.ntmps78
    go_wp2
    refine bodyPost_ret (v := .tuple #[.agg #[.int .i64 4, .int .i64 1, .int .i64 0, .slice none 0 0], .bool true]) (by simp [results, Tryz.results78, go_sem]) rfl ⟨⟨4, 1, 0, []⟩, true, rfl, rfl, ?_, Or.inl ⟨rfl, ho.out⟩⟩
    exact (Below.refl _ _).alloc (Nat.le_refl _) _
  by_cases he2 : s.data.toList = [42]
  · have hq2 : (s.toList == [42]) = true := by rw [Lib.toList_data, he2]; rfl
    have hq0 : (s.toList == [43]) = false := by rw [Lib.toList_data, he2]; rfl
    have hq1 : (s.toList == [45]) = false := by rw [Lib.toList_data, he2]; rfl
    have ho : Hid (hdw s.data.toList = some ⟨4, 2, 0, []⟩) := by show _ = _; rw [he2]; decide
    clear he0 he1 he2
    go_enter Tryz.func78, Tryz.ntmps78
    go_wp2
    refine bodyPost_ret (v := .tuple #[.agg #[.int .i64 4, .int .i64 2, .int .i64 0, .slice none 0 0], .bool true]) (by simp [results, Tryz.results78, go_sem]) rfl ⟨⟨4, 2, 0, []⟩, true, rfl, rfl, ?_, Or.inl ⟨rfl, ho.out⟩⟩
    exact (Below.refl _ _).alloc (Nat.le_refl _) _
  by_cases he3 : s.data.toList = [61]
  · have hq3 : (s.toList == [61]) = true := by rw [Lib.toList_data, he3]; rfl
    have hq0 : (s.toList == [43]) = false := by rw [Lib.toList_data, he3]; rfl
    have hq1 : (s.toList == [45]) = false := by rw [Lib.toList_data, he3]; rfl
    have hq2 : (s.toList == [42]) = false := by rw [Lib.toList_data, he3]; rfl
    have ho : Hid (hdw s.data.toList = some ⟨4, 3, 0, []⟩) := by show _ = _; rw [he3]; decide
    clear he0 he1 he2 he3
    go_enter Tryz.func78, Tryz.ntmps78
    go_wp2
    refine bodyPost_ret (v := .tuple #[.agg #[.int .i64 4, .int .i64 3, .int .i64 0, .slice none 0 0], .bool true]) (by simp [results, Tryz.results78, go_sem]) rfl ⟨⟨4, 3, 0, []⟩, true, rfl, rfl, ?_, Or.inl ⟨rfl, ho.out⟩⟩
    exact (Below.refl _ _).alloc (Nat.le_refl _) _
  by_cases he4 : s.data.toList = [60]
  · have hq4 : (s.toList == [60]) = true := by rw [Lib.toList_data, he4]; rfl
    have hq0 : (s.toList == [43]) = false := by rw [Lib.toList_data, he4]; rfl
    have hq1 : (s.toList == [45]) = false := by rw [Lib.toList_data, he4]; rfl
    have hq2 : (s.toList == [42]) = false := by rw [Lib.toList_data, he4]; rfl
    have hq3 : (s.toList == [61]) = false := by rw [Lib.toList_data, he4]; rfl
    have ho : Hid (hdw s.data.toList = some ⟨4, 4, 0, []⟩) := by show _ = _; rw [he4]; decide
    clear he0 he1 he2 he3 he4
    go_enter Tryz.func78, Tryz.ntmps78
    go_wp2
    refine bodyPost_ret (v := .tuple #[.agg #[.int .i64 4, .int .i64 4, .int .i64 0, .slice none 0 0], .bool true]) (by simp [results, Tryz.results78, go_sem]) rfl ⟨⟨4, 4, 0, []⟩, true, rfl, rfl, ?_, Or.inl ⟨rfl, ho.out⟩⟩
    exact (Below.refl _ _).alloc (Nat.le_refl _) _
  by_cases he5 : s.data.toList = [108, 101, 116]
  · have hq5 : (s.toList == [108, 101, 116]) = true := by rw [Lib.toList_data, he5]; rfl
    have hq0 : (s.toList == [43]) = false := by rw [Lib.toList_data, he5]; rfl
    have hq1 : (s.toList == [45]) = false := by rw [Lib.toList_data, he5]; rfl
    have hq2 : (s.toList == [42]) = false := by rw [Lib.toList_data, he5]; rfl
    have hq3 : (s.toList == [61]) = false := by rw [Lib.toList_data, he5]; rfl
    have hq4 : (s.toList == [60]) = false := by rw [Lib.toList_data, he5]; rfl
    have ho : Hid (hdw s.data.toList = some ⟨6, 0, 0, []⟩) := by show _ = _; rw [he5]; decide
    clear he0 he1 he2 he3 he4 he5
    go_enter Tryz.func78, Tryz.ntmps78
    go_wp2
    refine bodyPost_ret (v := .tuple #[.agg #[.int .i64 6, .int .i64 0, .int .i64 0, .slice none 0 0], .bool true]) (by simp [results, Tryz.results78, go_sem]) rfl ⟨⟨6, 0, 0, []⟩, true, rfl, rfl, ?_, Or.inl ⟨rfl, ho.out⟩⟩
    exact (Below.refl _ _).alloc (Nat.le_refl _) _
  have hq0 : (s.toList == [43]) = false := by rw [Lib.toList_data]; simpa using he0
  have hq1 : (s.toList == [45]) = false := by rw [Lib.toList_data]; simpa using he1
  have hq2 : (s.toList == [42]) = false := by rw [Lib.toList_data]; simpa using he2
  have hq3 : (s.toList == [61]) = false := by rw [Lib.toList_data]; simpa using he3
  have hq4 : (s.toList == [60]) = false := by rw [Lib.toList_data]; simpa using he4
  have hq5 : (s.toList == [108, 101, 116]) = false := by rw [Lib.toList_data]; simpa using he5
  have hS : Hid (hdw s.data.toList = match db 102 s.data.toList with | some x => some ⟨2, x, 0, []⟩ | none => (match db 64 s.data.toList with | some x => some ⟨3, x, 0, []⟩ | none => none)) := by show _ = _; unfold hdw; rw [if_neg he0, if_neg he1, if_neg he2, if_neg he3, if_neg he4, if_neg he5]; rfl
  clear he0 he1 he2 he3 he4 he5
  go_enter Tryz.func78, Tryz.ntmps78
  go_wp2_with fail
  refine (behind_any 102 s _ hs (hw0 _)).mono ?_
  rintro e w0 ⟨hb0, hd0⟩
  cases hm0 : db 102 s.data.toList with
  | some x =>
    rw [hm0] at hd0
    subst hd0
    have ho : Hid (hdw s.data.toList = some ⟨2, x, 0, []⟩) := by show _ = _; rw [hS.out, hm0]
    clear hm0
    obtain ⟨hc, hfz⟩ := Tm.bcell hb0
    have hz : w.heap.size < w0.heap.size := by have := hb0.size; simp at this; omega
    have h01 := low hb0
    go_wp2_with fail
    refine bodyPost_ret (v := .tuple #[.agg #[.int .i64 2, .int .i64 x, .int .i64 0, .slice none 0 0], .bool true]) (by simp [results, Tryz.results78, go_sem, hc]) rfl ⟨⟨2, x, 0, []⟩, true, rfl, rfl, ?_, Or.inl ⟨rfl, ho.out⟩⟩
    exact (((h01.setCell (Nat.le_refl _) _).setCell (Nat.le_refl _) _).setCell (Nat.le_refl _) _).setCell (Nat.le_refl _) _
  | none =>
    rw [hm0] at hd0
    subst hd0
    go_wp2_with fail
    refine (behind_any 64 s _ hs (hw.on (low hb0))).mono ?_
    rintro e w1 ⟨hb1, hd1⟩
    replace hb1 := below_next hb0 hb1
    clear hb0
    cases hm1 : db 64 s.data.toList with
    | some x =>
      rw [hm1] at hd1
      subst hd1
      have ho : Hid (hdw s.data.toList = some ⟨3, x, 0, []⟩) := by show _ = _; rw [hS.out, hm0, hm1]
      clear hm0 hm1
      obtain ⟨hc, hfz⟩ := Tm.bcell hb1
      have hz : w.heap.size < w1.heap.size := by have := hb1.size; simp at this; omega
      have h01 := low hb1
      go_wp2_with fail
      refine bodyPost_ret (v := .tuple #[.agg #[.int .i64 3, .int .i64 x, .int .i64 0, .slice none 0 0], .bool true]) (by simp [results, Tryz.results78, go_sem, hc]) rfl ⟨⟨3, x, 0, []⟩, true, rfl, rfl, ?_, Or.inl ⟨rfl, ho.out⟩⟩
      exact (((h01.setCell (Nat.le_refl _) _).setCell (Nat.le_refl _) _).setCell (Nat.le_refl _) _).setCell (Nat.le_refl _) _
    | none =>
      rw [hm1] at hd1
      subst hd1
      have ho : Hid (hdw s.data.toList = none) := by show _ = _; rw [hS.out, hm0, hm1]
      clear hm0 hm1
      obtain ⟨hc, hfz⟩ := Tm.bcell hb1
      have hz : w.heap.size < w1.heap.size := by have := hb1.size; simp at this; omega
      have h01 := low hb1
      go_wp2_with fail
      refine bodyPost_ret (v := .tuple #[.agg #[.int .i64 3, .int .i64 0, .int .i64 0, .slice none 0 0], .bool false]) (by simp [results, Tryz.results78, go_sem, hc]) rfl ⟨⟨3, 0, 0, []⟩, false, rfl, rfl, ?_, Or.inr ⟨rfl, ho.out⟩⟩
      exact (((h01.setCell (Nat.le_refl _) _).setCell (Nat.le_refl _) _).setCell (Nat.le_refl _) _).setCell (Nat.le_refl _) _

end Go.Proofs.YtgjhpmkahicnkaaGreatDoor

namespace Go.Proofs.YtgjhpmkahicnkaaGreatDoor
open Go.RowKit
set_option linter.unusedVariables false

/-- The reader's two cells. -/
def Rdr (W : World) (z : Nat) (v b : Value) : Prop := W.heap[z]? = some (.cells #[v, b] 61 (0, 0))
theorem Rdr.lt {w : World} {z : Nat} {p v : Value} (h : Rdr w z p v) : z < w.heap.size := (Array.getElem?_eq_some_iff.1 h).1
theorem Rdr.c0 {w : World} {z : Nat} {p v : Value} (h : Rdr w z p v) : w.cell? ⟨z, 0, none⟩ = some p := by
  unfold World.cell?; simp only [show w.heap[z]? = _ from h]; rfl
theorem Rdr.c1 {w : World} {z : Nat} {p v : Value} (h : Rdr w z p v) : w.cell? ⟨z, 1, none⟩ = some v := by
  unfold World.cell?; simp only [show w.heap[z]? = _ from h]; rfl
theorem Rdr.frozen {w : World} {z : Nat} {p v : Value} (h : Rdr w z p v) (j : Nat) : w.frozen? ⟨z, j, none⟩ = false := by
  simp [World.frozen?, show w.heap[z]? = _ from h]
theorem Rdr.set0 {w : World} {z : Nat} {p v : Value} (h : Rdr w z p v) (u : Value) : Rdr (w.setCell ⟨z, 0, none⟩ u) z u v := by
  obtain ⟨hlt, hk⟩ := Array.getElem?_eq_some_iff.1 h
  show (w.heap.modify z _)[z]? = _
  rw [Array.getElem?_eq_getElem (by rw [Array.size_modify]; exact hlt), Array.getElem_modify_self, hk]
  rfl
theorem Rdr.set1 {w : World} {z : Nat} {p v : Value} (h : Rdr w z p v) (u : Value) : Rdr (w.setCell ⟨z, 1, none⟩ u) z p u := by
  obtain ⟨hlt, hk⟩ := Array.getElem?_eq_some_iff.1 h
  show (w.heap.modify z _)[z]? = _
  rw [Array.getElem?_eq_getElem (by rw [Array.size_modify]; exact hlt), Array.getElem_modify_self, hk]
  rfl

/-- All that lay is as it lay, but for the block z and this row. -/
structure Kp (z : Nat) (row : Option Nat) (W W' : World) : Prop where
  os : W'.os = W.os
  tape : W'.tape = W.tape
  output : W'.output = W.output
  size : W.heap.size ≤ W'.heap.size
  block : ∀ k, k < W.heap.size → k ≠ z → some k ≠ row → W'.heap[k]? = W.heap[k]?
theorem Kp.refl (z : Nat) (row : Option Nat) (W : World) : Kp z row W W := ⟨rfl, rfl, rfl, Nat.le_refl _, fun _ _ _ _ => rfl⟩
theorem Kp.of_below {z : Nat} {row : Option Nat} {W W' : World} (h : Below W.heap.size W W') : Kp z row W W' := ⟨h.os, h.tape, h.output, h.size, fun k hk _ _ => h.block k hk⟩
theorem Kp.of_set (z : Nat) (row : Option Nat) (W : World) (j : Nat) (v : Value) : Kp z row W (W.setCell ⟨z, j, none⟩ v) :=
  ⟨rfl, rfl, rfl, (KeepsWalks.setCell W _ v).size, fun k _ hk _ => Below.heap_setCell _ _ _ k (fun e => hk e)⟩
theorem Kp.of_grown {z : Nat} {row : Option Nat} {W W' : World} (h : W.grownBy W' row) : Kp z row W W' := ⟨h.os, h.tape, h.output, h.size, fun k hk _ hr => h.block k hk hr⟩
theorem Kp.below {z : Nat} {row : Option Nat} {W W' : World} (h : Kp z row W W') (hr : ∀ k, row = some k → z ≤ k) (hz : z ≤ W.heap.size) : Below z W W' :=
  ⟨h.os, h.tape, h.output, h.size, fun k hk => h.block k (by omega) (by omega) (fun e => by have := hr k e.symm; omega)⟩
/-- The next row is the same, or a new one. -/
def Nx (W : World) (r r' : Option Nat) : Prop := r' = r ∨ ∀ k, r' = some k → W.heap.size ≤ k
theorem Nx.refl (W : World) (r : Option Nat) : Nx W r r := Or.inl rfl
theorem Nx.trans {W W1 : World} {r r1 r2 : Option Nat} (h : Nx W r r1) (h1 : Nx W1 r1 r2) (hs : W.heap.size ≤ W1.heap.size) : Nx W r r2 := by
  rcases h1 with rfl | h1
  · exact h
  · exact Or.inr fun k hk => Nat.le_trans hs (h1 k hk)
theorem Kp.trans {z : Nat} {r r1 : Option Nat} {W W1 W2 : World} (h : Kp z r W W1) (hn : Nx W r r1) (h1 : Kp z r1 W1 W2) : Kp z r W W2 :=
  ⟨h1.os.trans h.os, h1.tape.trans h.tape, h1.output.trans h.output, Nat.le_trans h.size h1.size, fun k hk hz hr => by
    rw [h1.block k (Nat.lt_of_lt_of_le hk h.size) hz ?_, h.block k hk hz hr]
    rcases hn with rfl | hn
    · exact hr
    · intro e; have := hn k e.symm; omega⟩
theorem Kp.next {z : Nat} {r : Option Nat} {W W1 W2 : World} (h : Kp z r W W1) (h1 : Kp z r W1 W2) : Kp z r W W2 := h.trans (Nx.refl _ _) h1
theorem Kp.cell {z : Nat} {r : Option Nat} {W W' : World} (h : Kp z r W W') {k j : Nat} (hk : k < W.heap.size) (hz : k ≠ z) (hr : some k ≠ r) : W'.cell? ⟨k, j, none⟩ = W.cell? ⟨k, j, none⟩ := by
  unfold World.cell?; simp only [h.block k hk hz hr]
theorem Kp.frozen {z : Nat} {r : Option Nat} {W W' : World} (h : Kp z r W W') {k j : Nat} (hk : k < W.heap.size) (hz : k ≠ z) (hr : some k ≠ r) : W'.frozen? ⟨k, j, none⟩ = W.frozen? ⟨k, j, none⟩ := by
  unfold World.frozen?; simp only [h.block k hk hz hr]
/-- A row that is owned is kept where its block is. -/
theorem own_keep {W W' : World} {B e size n : Nat} {v : Value} {xs : List Value} (h : W.ownsRow B e size v n xs) (hk : ∀ k, B ≤ k → k < W.heap.size → v.ownBlock = some k → W'.heap[k]? = W.heap[k]?) : W'.ownsRow B e size v n xs := by
  refine ⟨h.1, ?_⟩
  rcases h.2 with h2 | ⟨g, cap, cur, hv, hg, hh, r⟩
  · exact Or.inl h2
  · refine Or.inr ⟨g, cap, cur, hv, hg, ?_, r⟩
    rw [hk g hg (Array.getElem?_eq_some_iff.1 hh).1 (by subst hv; rfl)]; exact hh
theorem own_rebase {W : World} {B B' e size n : Nat} {v : Value} {xs : List Value} (h : W.ownsRow B e size v n xs) (hB : ∀ k, v.ownBlock = some k → B' ≤ k) : W.ownsRow B' e size v n xs := by
  refine ⟨h.1, ?_⟩
  rcases h.2 with h2 | ⟨g, cap, cur, hv, hg, r⟩
  · exact Or.inl h2
  · exact Or.inr ⟨g, cap, cur, hv, hB g (by subst hv; rfl), r⟩
theorem Kp.own {z : Nat} {r : Option Nat} {W W' : World} (h : Kp z r W W') {B e size n : Nat} {v : Value} {xs : List Value} (ho : W.ownsRow B e size v n xs) (hz : z < B) (hr : v.ownBlock = none ∨ v.ownBlock ≠ r) : W'.ownsRow B e size v n xs :=
  own_keep ho fun k hB hk hv => h.block k hk (by omega) (by
    rcases hr with hr | hr
    · rw [hr] at hv; cases hv
    · rw [← hv]; exact hr)

/-- Words in a slice that lies below z. -/
def WTx (W : World) (z : Nat) (g : Option Addr) (ws : List Wd) : Prop :=
  ws = [] ∨ ∃ bk o, g = some ⟨bk, o, none⟩ ∧ bk < z ∧ ∀ (j : Nat) x, ws[j]? = some x → W.cell? ⟨bk, o + j, none⟩ = some (.string (Lx.ba x))
theorem WTx.on {W W' : World} {z : Nat} {g : Option Addr} {ws : List Wd} (h : WTx W z g ws) (hb : ∀ k, k < z → W'.heap[k]? = W.heap[k]?) : WTx W' z g ws := by
  rcases h with h | ⟨bk, o, h1, h2, h3⟩
  · exact Or.inl h
  · refine Or.inr ⟨bk, o, h1, h2, fun j x hx => ?_⟩
    rw [← h3 j x hx]
    unfold World.cell?; simp only [hb bk h2]
theorem WTx.tail {W : World} {z : Nat} {g : Option Addr} {w : Wd} {ws : List Wd} {c : Nat} (h : WTx W z g (w :: ws)) (hc : ws.length + 1 ≤ c) : WTx W z (if c = 1 then g else g.map (·.add 1)) ws := by
  rcases h with h | ⟨bk, o, rfl, h2, h3⟩
  · cases h
  · by_cases h1 : c = 1
    · left
      have : ws.length = 0 := by omega
      exact List.length_eq_zero_iff.1 this
    · right
      rw [if_neg h1]
      refine ⟨bk, o + 1, by simp [Addr.add], h2, fun j x hx => ?_⟩
      have := h3 (j + 1) x (by simpa using hx)
      rw [← this, Nat.add_assoc, Nat.add_comm 1 j]
/-- The reader at these words, with this body in that row. -/
def St (W : World) (z : Nat) (ws : List Wd) (ps : List Pt) (r : Option Nat) : Prop :=
  ∃ (g : Option Addr) (c : Nat) (bv : Value), Rdr W z (.slice g ws.length c) bv ∧ WTx W z g ws ∧ ws.length ≤ c ∧ BdO W (z + 1) bv ps ∧ bv.ownBlock = r
theorem St.lt {W : World} {z : Nat} {ws : List Wd} {ps : List Pt} {r : Option Nat} (h : St W z ws ps r) : z < W.heap.size := by
  obtain ⟨g, c, bv, h1, _⟩ := h
  exact h1.lt
theorem St.row {W : World} {z : Nat} {ws : List Wd} {ps : List Pt} {r : Option Nat} (h : St W z ws ps r) : ∀ k, r = some k → z + 1 ≤ k ∧ k < W.heap.size := by
  obtain ⟨g, c, bv, _, _, _, h4, h5⟩ := h
  intro k hk
  subst hk
  exact h4.own.lt k h5
/-- Whatever is done elsewhere. -/
theorem St.on {W W' : World} {z : Nat} {ws : List Wd} {ps : List Pt} {r : Option Nat} (h : St W z ws ps r) (hb : ∀ k, k < W.heap.size → W'.heap[k]? = W.heap[k]?) : St W' z ws ps r := by
  have hz := h.lt
  obtain ⟨g, c, bv, h1, h2, h3, h4, h5⟩ := h
  refine ⟨g, c, bv, (hb z hz).trans h1, h2.on (fun k hk => hb k (by omega)), h3, ⟨own_keep h4.own fun k _ hk _ => hb k hk, fun p hp => own_keep (h4.kids p hp) fun k _ hk _ => hb k hk⟩, h5⟩
theorem St.below {W W' : World} {z : Nat} {ws : List Wd} {ps : List Pt} {r : Option Nat} (h : St W z ws ps r) (hb : Below W.heap.size W W') : St W' z ws ps r := h.on hb.block

set_option maxHeartbeats 400000 in
theorem next_some (z : Nat) (w : Wd) (ws : List Wd) (ps : List Pt) (r : Option Nat) (W : World) (h : St W z (w :: ws) ps r) (hn : ws.length ≤ 4096) :
    Calls Tryz.prog 41 #[.pointer (some ⟨z, 0, none⟩)] W fun e W' => e = .returned (.string (Lx.ba w)) ∧ St W' z ws ps r ∧ Kp z none W W' ∧ W'.heap.size = W.heap.size := by
  obtain ⟨g, c, bv, h1, h2, h3, h4, h5⟩ := h
  have c0 := h1.c0
  have f0 := h1.frozen 0
  have hlt := h1.lt
  rw [List.length_cons] at c0 h3
  have hx : ∃ bk o, g = some ⟨bk, o, none⟩ ∧ bk < z ∧ W.cell? ⟨bk, o, none⟩ = some (.string (Lx.ba w)) := by
    rcases h2 with h | ⟨bk, o, e1, e2, e3⟩
    · cases h
    · exact ⟨bk, o, e1, e2, e3 0 w rfl⟩
  obtain ⟨bk, o, rfl, hbk, hcell⟩ := hx
  have HS : Hid (St (W.setCell ⟨z, 0, none⟩ (sliced (some ⟨bk, o, none⟩) 1 (ws.length + 1) c 1)) z ws ps r) := by
    refine ⟨_, c - 1, bv, h1.set0 _, ?_, by omega, ⟨own_far h4.own ?_ _ _, fun p hp => own_far (h4.kids p hp) ?_ _ _⟩, h5⟩
    · have := h2.tail h3
      refine this.on fun k hk => Below.heap_setCell _ _ _ k (fun e => by simp at e; omega)
    · intro e; have := (h4.own.lt z e).1; omega
    · intro e; have := (World.ownsRow.lt (h4.kids p hp) z e).1; omega
  have HK : Hid (Kp z none W (W.setCell ⟨z, 0, none⟩ (sliced (some ⟨bk, o, none⟩) 1 (ws.length + 1) c 1))) := Kp.of_set _ _ _ _ _
  clear h1 h2 h4 h5
  have hl : ((ws.length : Int) + 1 == 0) = false := by simp; omega
  go_enter Tryz.func41, Tryz.ntmps41
  go_wp2
  all_goals
    go_ret
    refine ⟨rfl, ?_, ?_, by simp⟩
    · have h := HS.out
      simpa [sliced, Addr.add, *] using h
    · have h := HK.out
      simpa [sliced, Addr.add, *] using h
set_option maxHeartbeats 400000 in
theorem next_none (z : Nat) (ps : List Pt) (r : Option Nat) (W : World) (h : St W z [] ps r) :
    Calls Tryz.prog 41 #[.pointer (some ⟨z, 0, none⟩)] W fun e W' => e = .returned (.string (Lx.ba [])) ∧ W = W' := by
  obtain ⟨g, c, bv, h1, h2, h3, h4, h5⟩ := h
  have c0 := h1.c0
  clear h1 h2 h4 h5
  simp only [List.length_nil] at c0
  go_enter Tryz.func41, Tryz.ntmps41
  go_wp2
  go_ret
  exact ⟨rfl, rfl⟩
/-- The next word, an empty one at the end, and what is left. -/
def nxt (ws : List Wd) : Wd × List Wd := match ws with
  | [] => ([], [])
  | w :: ws => (w, ws)
theorem next_any (z : Nat) (ws : List Wd) (ps : List Pt) (r : Option Nat) (W : World) (h : St W z ws ps r) (hn : ws.length ≤ 4096) :
    Calls Tryz.prog 41 #[.pointer (some ⟨z, 0, none⟩)] W fun e W' => e = .returned (.string (Lx.ba (nxt ws).1)) ∧ St W' z (nxt ws).2 ps r ∧ Kp z none W W' ∧ W'.heap.size = W.heap.size := by
  cases ws with
  | nil =>
    refine (next_none z ps r W h).mono ?_
    rintro e W' ⟨rfl, rfl⟩
    exact ⟨rfl, h, Kp.refl _ _ _, rfl⟩
  | cons w ws => exact next_some z w ws ps r W h (by simp at hn; omega)
theorem nxt_len (ws : List Wd) : (nxt ws).2.length = ws.length - 1 := by cases ws <;> simp [nxt]
end Go.Proofs.YtgjhpmkahicnkaaGreatDoor

namespace Go.Proofs.YtgjhpmkahicnkaaGreatDoor
open Go.RowKit
set_option linter.unusedVariables false

/-- The variables read as they are laid in every world that is the same below z. -/
def LwB (z : Nat) (W : World) : Prop := ∀ W', Below z W W' → Lw W'
theorem LwB.lw {z : Nat} {W : World} (h : LwB z W) : Lw W := h W (Below.refl _ _)
theorem LwB.on {z : Nat} {W W' : World} (h : LwB z W) (hb : Below z W W') : LwB z W' := fun X hX => h X (hb.trans hX)
theorem LwB.kp {z : Nat} {W W' : World} {r : Option Nat} (h : LwB z W) (hk : Kp z r W W') (hr : ∀ k, r = some k → z ≤ k) (hz : z ≤ W.heap.size) : LwB z W' := h.on (hk.below hr hz)
/-- Not too many words, none too long. -/
def Sz (ws : List Wd) (ps : List Pt) : Prop := ws.length + ps.length ≤ 4096 ∧ ∀ w ∈ ws, w.length ≤ 4096
theorem Sz.on {ws ws' : List Wd} {ps ps' : List Pt} (h : Sz ws ps) (hs : ws' <:+ ws) (hl : ws'.length + ps'.length ≤ ws.length + ps.length) : Sz ws' ps' :=
  ⟨Nat.le_trans hl h.1, fun w hw => h.2 w (hs.subset hw)⟩
abbrev ptr (z : Nat) : Value := .pointer (some ⟨z, 0, none⟩)
abbrev I64 (ks : List Int) : List Value := ks.map (Value.int .i64)
/-- How readPart ends. -/
def PartQ (o : Option (List Wd × List Ex)) (z : Nat) (r : Option Nat) (W : World) (ps : List Pt) (e : Ending) (W' : World) : Prop :=
  Kp z r W W' ∧ match o with
  | none => e = .returned (.tuple #[.int .i64 0, .bool false])
  | some (ws', b') => e = .returned (.tuple #[.int .i64 (lastAt b'), .bool true]) ∧ ∃ qs r', St W' z ws' (ps ++ qs) r' ∧ (ps ++ qs).map (·.1) = b' ∧ (∀ q ∈ qs, KdO W' W.heap.size q) ∧ Nx W r r'
def PartSaid (n : Nat) : Prop := ∀ (ws : List Wd) (ps : List Pt) (r : Option Nat) (W : World) (z : Nat), ws.length ≤ n → Sz ws ps → St W z ws ps r → LwB z W →
  Calls Tryz.prog 43 #[ptr z] W fun e W' => PartQ (rp n ws (ps.map (·.1))) z r W ps e W'
/-- None of these parts' kids lie in that row. -/
def Apt (qs : List Pt) (kv : Value) : Prop := ∀ q ∈ qs, (Value.slice q.2.1 q.1.kids.length q.2.2).ownBlock = none ∨ (Value.slice q.2.1 q.1.kids.length q.2.2).ownBlock ≠ kv.ownBlock
/-- How readRest ends. -/
def RestQ (o : Option (List Wd × List Ex × List Int)) (z : Nat) (r0 : Option Nat) (W0 : World) (ps : List Pt) (e : Ending) (W' : World) : Prop :=
  Kp z r0 W0 W' ∧ match o with
  | none => ∃ g n c, e = .returned (.tuple #[.slice g n c, .bool false])
  | some (ws', b', ks') => ∃ g c qs r', e = .returned (.tuple #[.slice g ks'.length c, .bool true]) ∧ St W' z ws' (ps ++ qs) r' ∧ (ps ++ qs).map (·.1) = b' ∧ (∀ q ∈ qs, KdO W' W0.heap.size q) ∧ Nx W0 r0 r' ∧ W'.ownsRow W0.heap.size 3 1 (.slice g ks'.length c) ks'.length (I64 ks')
/-- What readRest starts from. -/
structure Rs (z : Nat) (r0 : Option Nat) (W0 : World) (ps : List Pt) (W : World) (ws : List Wd) (qs : List Pt) (r : Option Nat) (kv : Value) (ks : List Int) : Prop where
  kp : Kp z r0 W0 W
  nx : Nx W0 r0 r
  st : St W z ws (ps ++ qs) r
  fresh : ∀ q ∈ qs, KdO W W0.heap.size q
  kids : W.ownsRow W0.heap.size 3 1 kv ks.length (I64 ks)
  apt : Apt qs kv
  sz : Sz ws (ps ++ qs)
  few : ks.length + ws.length ≤ 4096
/-- What holds of all of it. -/
structure Up (z : Nat) (r0 : Option Nat) (W0 : World) (ps : List Pt) : Prop where
  old : ∀ p ∈ ps, KdO W0 (z + 1) p
  lt : z < W0.heap.size
  row : ∀ k, r0 = some k → z + 1 ≤ k ∧ k < W0.heap.size
  lw : LwB z W0
def RestSaid (n : Nat) : Prop := ∀ (m : Nat) (z : Nat) (r0 : Option Nat) (W0 : World) (ps : List Pt) (W : World) (ws : List Wd) (qs : List Pt) (r : Option Nat) (kv : Value) (ks : List Int), Up z r0 W0 ps → Rs z r0 W0 ps W ws qs r kv ks → ws.length ≤ n → ws.length < m →
  Calls Tryz.prog 79 #[ptr z, kv] W fun e W' => RestQ (rr (rp n) m ks ws ((ps ++ qs).map (·.1))) z r0 W0 ps e W'

theorem app_kid {W : World} {ops : Array Oper} {rest : List Oper} {o : Oper} {a : Act} {Q : Exit → Act → World → Prop} (hgd : o.guard = none) (s x : Operand)
    (ho : o.op = .call { callee := .builtin .append, args := #[s, x], argTypes := #[49, 49] }) (base : Nat) (v : Value) (ks : List Int) (k : Int) (hs : a.eval s = v) (z : Nat) (hz : W.heap.size = z) (hx : a.eval x = .slice (some ⟨z, 0, none⟩) 1 1)
    (hown : W.ownsRow base 3 1 v ks.length (I64 ks)) (hb : base ≤ W.heap.size) (hlen : ks.length ≤ 8192)
    (h : ∀ g cap w', w'.ownsRow base 3 1 (.slice (some ⟨g, 0, none⟩) (ks ++ [k]).length cap) (ks ++ [k]).length (I64 (ks ++ [k])) → W.grownBy w' v.ownBlock → (v.ownBlock = some g ∨ W.heap.size ≤ g) → wpList Tryz.prog ops Q rest (a.put o.dst (.slice (some ⟨g, 0, none⟩) (ks.length + 1) cap)) w') : wpList Tryz.prog ops Q (o :: rest) a (W.alloc (.cells #[.int .i64 k] 3)) := by
  subst hz
  obtain ⟨i0, hi, hz0, hz1, hz2⟩ := info_parts Tryz.info3p
  refine wpList_plain hgd fun _ hK => wp_append_lies _ s x 49 ho base 3 i0 _ 1 8 Tryz.underlying49 hi hz0 hz1 hz2 rfl (by decide) v _ _ hs (hown.alloc _) ⟨W.heap.size, 0, none⟩ 1 1 [.int .i64 k] hx rfl ?_ (fun u hu => by rw [List.mem_singleton] at hu; subst hu; rfl) (by decide) (by unfold maxLen; omega) (by omega) (by rw [World.size_alloc]; omega) _ rfl ?_
  · intro j u hj
    rw [Addr.add_lit, Nat.zero_add]
    refine cell_new W #[.int .i64 k] 3 j u ?_
    simpa using hj
  · intro g cap w' h1 h2 h3 _
    refine hK _ _ (h g cap w' ?_ ?_ ?_)
    · rw [List.length_append, show I64 (ks ++ [k]) = I64 ks ++ [Value.int .i64 k] from List.map_append]; exact h1
    · refine ⟨h2.os, h2.tape, h2.output, ?_, ?_⟩
      · exact Nat.le_trans (by rw [World.size_alloc]; omega) h2.size
      · intro k' hk hr
        rw [h2.block k' (by rw [World.size_alloc]; omega) hr]
        exact Below.heap_alloc W _ k' hk
    · rcases h3 with h3 | h3
      · exact Or.inl h3
      · right; rw [h3, World.size_alloc]; omega

theorem Kp.wide {z : Nat} {W W' : World} (h : Kp z none W W') (r : Option Nat) : Kp z r W W' := ⟨h.os, h.tape, h.output, h.size, fun k hk hz _ => h.block k hk hz (by simp)⟩
theorem Up.on {z : Nat} {r0 : Option Nat} {W0 W : World} {ps : List Pt} (h : Up z r0 W0 ps) (hk : Kp z r0 W0 W) : LwB z W := h.lw.kp hk (fun k e => by have := h.row k e; omega) (by have := h.lt; omega)
/-- One more part has been read. -/
theorem Rs.part {z : Nat} {r0 : Option Nat} {W0 : World} {ps : List Pt} {wr : World} {w1 : Wd} {ws1 : List Wd} {qs1 : List Pt} {r1 : Option Nat} {kv : Value} {ks1 : List Int} {ws2 : List Wd} {b2 : List Ex} {w2 : World} {qs2 : List Pt} {r2 : Option Nat}
    (h : Rs z r0 W0 ps wr (w1 :: ws1) qs1 r1 kv ks1) (hU : Up z r0 W0 ps)
    (hg : ws2 <:+ w1 :: ws1 ∧ ws2.length < (w1 :: ws1).length ∧ ws2.length + b2.length ≤ (w1 :: ws1).length + ((ps ++ qs1).map (·.1)).length ∧ (ps ++ qs1).map (·.1) <+: b2 ∧ ((ps ++ qs1).map (·.1)).length < b2.length)
    (hK : Kp z r1 wr w2) (hS : St w2 z ws2 (ps ++ qs1 ++ qs2) r2) (hm : (ps ++ qs1 ++ qs2).map (·.1) = b2) (hf : ∀ q ∈ qs2, KdO w2 wr.heap.size q) (hN : Nx wr r1 r2) :
    Rs z r0 W0 ps w2 ws2 (qs1 ++ qs2) r2 kv ks1 ∧ (ps ++ (qs1 ++ qs2)).map (·.1) = b2 ∧ ws2.length < ws1.length + 1 ∧ ws2 <:+ w1 :: ws1 ∧ wr.heap.size ≤ w2.heap.size := by
  rw [List.append_assoc] at hS hm
  obtain ⟨g1, g2, g3, g4, g5⟩ := hg
  have hlen : b2.length = (ps ++ (qs1 ++ qs2)).length := by rw [← hm, List.length_map]
  rw [List.length_map] at g3
  have hrow : ∀ k, r1 = some k → wr.heap.size ≤ k ∨ (∃ cs, wr.heap[k]? = some (.cells cs 51 (0, 0))) := fun k hk => by
    obtain ⟨g, c, bv, _, _, _, h4, h5⟩ := h.st
    rcases h4.own.2 with ⟨h6, _⟩ | ⟨gb, cap, cur, hv, _, hh, _⟩
    · rw [h6] at h5; rw [hk] at h5; cases h5
    · subst hv
      rw [hk] at h5
      have e : gb = k := Option.some.inj h5
      subst e
      exact Or.inr ⟨cur, hh⟩
  have keep : ∀ {v : Value} {k : List Int}, wr.ownsRow W0.heap.size 3 1 v k.length (I64 k) → w2.ownsRow W0.heap.size 3 1 v k.length (I64 k) := fun {v k} ho => by
    refine hK.own ho hU.lt ?_
    rcases ho.2 with ⟨h6, _⟩ | ⟨gb, cap, cur, hv, _, hh, _⟩
    · left; rw [h6]; rfl
    · right
      subst hv
      intro e
      rcases hrow gb e.symm with h7 | ⟨cs, h7⟩
      · have := (Array.getElem?_eq_some_iff.1 hh).1; omega
      · rw [hh] at h7; cases h7
  refine ⟨⟨h.kp.trans h.nx hK, h.nx.trans hN h.kp.size, hS, ?_, keep h.kids, ?_, h.sz.on g1 ?_, ?_⟩, hm, by simpa using g2, g1, hK.size⟩
  · intro q hq
    rcases List.mem_append.1 hq with hq | hq
    · exact keep (h.fresh q hq)
    · exact Lx.own_base (hf q hq) h.kp.size
  · intro q hq
    rcases List.mem_append.1 hq with hq | hq
    · exact h.apt q hq
    · have h8 := hf q hq
      cases e : (Value.slice q.2.1 q.1.kids.length q.2.2).ownBlock with
      | none => exact .inl rfl
      | some k =>
        right
        have h9 := (World.ownsRow.lt h8 k e).1
        intro e'
        have := (World.ownsRow.lt h.kids k e'.symm).2
        omega
  · rw [← hlen]; exact g3
  · have := h.few
    simp only [List.length_cons] at this g2
    omega
/-- A kid has been put behind the others. -/
theorem Rs.kid {z : Nat} {r0 : Option Nat} {W0 : World} {ps : List Pt} {w2 w3 : World} {ws : List Wd} {qs : List Pt} {r : Option Nat} {kv v' : Value} {ks ks' : List Int} {g : Nat}
    (h : Rs z r0 W0 ps w2 ws qs r kv ks) (hU : Up z r0 W0 ps) (ho : w3.ownsRow W0.heap.size 3 1 v' ks'.length (I64 ks')) (hg : w2.grownBy w3 kv.ownBlock) (hv : v'.ownBlock = some g) (hx : kv.ownBlock = some g ∨ w2.heap.size ≤ g) (hk : ks'.length + ws.length ≤ 4096) :
    Rs z r0 W0 ps w3 ws qs r v' ks' := by
  have hlt := hU.lt
  have hkv : ∀ k, kv.ownBlock = some k → W0.heap.size ≤ k ∧ k < w2.heap.size := fun k e => World.ownsRow.lt h.kids k e
  have old : ∀ p ∈ ps ++ qs, (Value.slice p.2.1 p.1.kids.length p.2.2).ownBlock = none ∨ (Value.slice p.2.1 p.1.kids.length p.2.2).ownBlock ≠ kv.ownBlock := fun p hp => by
    rcases List.mem_append.1 hp with hp | hp
    · cases e : (Value.slice p.2.1 p.1.kids.length p.2.2).ownBlock with
      | none => exact .inl rfl
      | some k =>
        right
        intro e'
        have h1 := (World.ownsRow.lt (hU.old p hp) k e).2
        have h2 := (hkv k e'.symm).1
        omega
    · exact h.apt p hp
  have low : ∀ k, k < W0.heap.size → w3.heap[k]? = w2.heap[k]? := fun k hk => hg.block k (Nat.lt_of_lt_of_le hk h.kp.size) (fun e => by have := (hkv k e.symm).1; omega)
  have kk : Kp z r0 W0 w3 := ⟨hg.os.trans h.kp.os, hg.tape.trans h.kp.tape, hg.output.trans h.kp.output, Nat.le_trans h.kp.size hg.size, fun k hk hz hr => (low k hk).trans (h.kp.block k hk hz hr)⟩
  refine ⟨kk, h.nx, ?_, fun q hq => ?_, ho, fun q hq => ?_, h.sz, hk⟩
  · obtain ⟨gw, c, bv, h1, h2, h3, h4, h5⟩ := h.st
    refine ⟨gw, c, bv, (low z hlt).trans h1, h2.on (fun k hk => low k (by omega)), h3, ⟨?_, fun p hp => World.ownsRow.kept (h4.kids p hp) hg (old p hp)⟩, h5⟩
    refine h4.own.kept hg ?_
    rcases h4.own.2 with ⟨h6, _⟩ | ⟨gb, cap, cur, hv2, _, hh, _⟩
    · left; rw [h6]; rfl
    · right
      subst hv2
      intro e
      rcases h.kids.2 with ⟨h7, _⟩ | ⟨gk, cap', cur', h7, _, hh', _⟩
      · rw [h7] at e; cases e
      · rw [h7] at e
        have e2 : gb = gk := Option.some.inj e
        subst e2
        rw [hh] at hh'; cases hh'
  · exact World.ownsRow.kept (h.fresh q hq) hg (h.apt q hq)
  · rcases h.apt q hq with h1 | h1
    · exact .inl h1
    · cases e : (Value.slice q.2.1 q.1.kids.length q.2.2).ownBlock with
      | none => exact .inl rfl
      | some k =>
        right
        rw [hv]
        intro e'
        have e2 : k = g := Option.some.inj e'
        subst e2
        rcases hx with hx | hx
        · exact h1 (e.trans hx.symm)
        · have := (World.ownsRow.lt (h.fresh q hq) k e).2
          omega
/-- How many words are left. -/
def leftOf (z : Nat) (W : World) : Nat := match W.cell? ⟨z, 0, none⟩ with
  | some (.slice _ n _) => n
  | _ => 0
theorem St.left {W : World} {z : Nat} {ws : List Wd} {ps : List Pt} {r : Option Nat} (h : St W z ws ps r) : leftOf z W = ws.length := by
  obtain ⟨g, c, bv, h1, _⟩ := h
  unfold leftOf; rw [h1.c0]
theorem St.words {W : World} {z : Nat} {ws : List Wd} {ps : List Pt} {r : Option Nat} (h : St W z ws ps r) : ∃ g c, W.cell? ⟨z, 0, none⟩ = some (.slice g ws.length c) := by
  obtain ⟨g, c, bv, h1, _⟩ := h
  exact ⟨g, c, h1.c0⟩
theorem St.first {W : World} {z : Nat} {w : Wd} {ws : List Wd} {ps : List Pt} {r : Option Nat} (h : St W z (w :: ws) ps r) : ∃ bk o c, W.cell? ⟨z, 0, none⟩ = some (.slice (some ⟨bk, o, none⟩) (ws.length + 1) c) ∧ W.cell? ⟨bk, o, none⟩ = some (.string (Lx.ba w)) := by
  obtain ⟨g, c, bv, h1, h2, _⟩ := h
  rcases h2 with h2 | ⟨bk, o, rfl, _, h3⟩
  · cases h2
  · exact ⟨bk, o, c, h1.c0, h3 0 w rfl⟩
theorem ba_is (w l : Wd) : ((Lx.ba w).toList == l) = (w == l) := by rw [Lib.toList_data]; rfl
theorem rr_done {f : Rf} {m : Nat} {ks : List Int} {ws : List Wd} {b : List Ex} (hm : ws.length + 1 < m) : rr f m ks ([41] :: ws) b = some (ws, b, ks) := by
  cases m with
  | zero => omega
  | succ m => rw [rr, if_pos rfl]
theorem rr_nil {f : Rf} {m : Nat} {ks : List Int} {b : List Ex} : rr f m ks [] b = none := by cases m <;> rfl
theorem rr_no {f : Rf} {m : Nat} {ks : List Int} {w : Wd} {ws : List Wd} {b : List Ex} (hw : w ≠ [41]) (h : f (w :: ws) b = none) : rr f m ks (w :: ws) b = none := by
  cases m with
  | zero => rfl
  | succ m => rw [rr, if_neg hw, h]
theorem rr_on {f : Rf} {m : Nat} {ks : List Int} {w : Wd} {ws : List Wd} {b : List Ex} {ws' : List Wd} {b' : List Ex} (hw : w ≠ [41]) (h : f (w :: ws) b = some (ws', b')) : rr f (m + 1) ks (w :: ws) b = rr f m (ks ++ [lastAt b']) ws' b' := by
  rw [rr, if_neg hw, h]

set_option maxHeartbeats 2000000 in
set_option maxRecDepth 100000 in
theorem rest_of (n : Nat) (hP : PartSaid n) : RestSaid n := by
  intro m z r0 W0 ps W ws qs r kv ks hU hR hn hm
  obtain ⟨O, hO⟩ : ∃ O, rr (rp n) m ks ws ((ps ++ qs).map (·.1)) = O := ⟨_, rfl⟩
  rw [hO]
  have HO : Hid (rr (rp n) m ks ws ((ps ++ qs).map (·.1)) = O) := hO
  have HR : Hid (Rs z r0 W0 ps W ws qs r kv ks) := hR
  have HU : Hid (Up z r0 W0 ps) := hU
  clear hO hR hU
  go_enter Tryz.func79, Tryz.ntmps79
  go_wp2_with fail
  go_loopw [1] (fun v wr => ∃ (ws1 : List Wd) (qs1 : List Pt) (r1 : Option Nat) (ks1 : List Int) (m1 : Nat), Rs z r0 W0 ps wr ws1 qs1 r1 v ks1 ∧ ws1.length ≤ n ∧ ws1.length < m1 ∧ rr (rp n) m1 ks1 ws1 ((ps ++ qs1).map (·.1)) = O)
    (fun _ wr => leftOf z wr)
  case atStart => exact ⟨ws, qs, r, ks, m, HR.out, hn, hm, HO.out⟩
  case round =>
    clear HO HR hn hm
    obtain ⟨ws1, qs1, r1, ks1, m1, hRs, hn1, hm1, hO1⟩ := hrel
    obtain ⟨gv, cv, rfl, _⟩ := Lx.own_len hRs.kids
    have HR : Hid (Rs z r0 W0 ps wr ws1 qs1 r1 (.slice gv ks1.length cv) ks1) := hRs
    have HO : Hid (rr (rp n) m1 ks1 ws1 ((ps ++ qs1).map (·.1)) = O) := hO1
    clear hRs hO1
    cases ws1 with
    | nil =>
      obtain ⟨g, c, c0⟩ := HR.out.st.words
      rw [List.length_nil] at c0
      go_wp2_with fail
      refine (next_any z [] _ _ wr HR.out.st (by simp)).mono ?_
      rintro e w1 ⟨rfl, _, hK, _⟩
      have hq : ((Lx.ba (nxt []).1).toList == [41]) = false := by rw [ba_is]; rfl
      go_wp2_with fail
      go_ret2
      refine ⟨HR.out.kp.trans HR.out.nx (hK.wide _), ?_⟩
      rw [← HO.out, rr_nil]
      exact ⟨_, _, _, rfl⟩
    | cons w1 ws1 =>
      obtain ⟨bk, o, c, c0, c1⟩ := HR.out.st.first
      have HL : Hid (ws1.length + 1 ≤ n ∧ ws1.length + 1 < m1 ∧ ks1.length + (ws1.length + 1) ≤ 4096) := ⟨hn1, hm1, HR.out.few⟩
      have hl0 : (0 : Int) < (ws1.length : Int) + 1 := by omega
      clear hn1 hm1
      by_cases hw : w1 = [41]
      · subst hw
        have hq : ((Lx.ba [41]).toList == [41]) = true := by rw [ba_is]; rfl
        have hq' : ((Lx.ba [41]).toList != [41]) = false := by rw [bne, hq]; rfl
        go_wp2_with fail
        refine (next_any z ([41] :: ws1) _ _ wr HR.out.st (by have := HL.out.2.2; simp; omega)).mono ?_
        rintro e w1 ⟨rfl, hS, hK, _⟩
        have HS : Hid (St w1 z ws1 (ps ++ qs1) r1) := hS
        clear hS
        have hq2 : ((Lx.ba (nxt ([41] :: ws1)).1).toList == [41]) = true := by rw [ba_is]; rfl
        go_wp2_with fail
        go_ret2
        refine ⟨HR.out.kp.trans HR.out.nx (hK.wide _), ?_⟩
        rw [← HO.out, rr_done HL.out.2.1]
        refine ⟨gv, cv, qs1, r1, rfl, HS.out, rfl, fun q hq => (hK.wide none).own (HR.out.fresh q hq) HU.out.lt ?_, HR.out.nx, (hK.wide none).own HR.out.kids HU.out.lt ?_⟩
        · cases (Value.slice q.2.1 q.1.kids.length q.2.2).ownBlock with
          | none => exact .inl rfl
          | some k => exact .inr (by simp)
        · cases (Value.slice gv ks1.length cv).ownBlock with
          | none => exact .inl rfl
          | some k => exact .inr (by simp)
      · have hq : ((Lx.ba w1).toList == [41]) = false := by rw [ba_is]; simpa using hw
        have hq' : ((Lx.ba w1).toList != [41]) = true := by rw [bne, hq]; rfl
        have HW : Hid (w1 ≠ [41]) := hw
        clear hw
        go_wp2_with fail
        refine (hP (w1 :: ws1) (ps ++ qs1) r1 wr z HL.out.1 HR.out.sz HR.out.st (HU.out.on HR.out.kp)).mono ?_
        rintro e w2 ⟨hK, hQ⟩
        cases hp : rp n (w1 :: ws1) ((ps ++ qs1).map (·.1)) with
        | none =>
          rw [hp] at hQ
          subst hQ
          have HP : Hid (rp n (w1 :: ws1) ((ps ++ qs1).map (·.1)) = none) := hp
          clear hp
          go_wp2_with fail
          go_ret2
          refine ⟨HR.out.kp.trans HR.out.nx hK, ?_⟩
          rw [← HO.out, rr_no HW.out HP.out]
          exact ⟨_, _, _, rfl⟩
        | some y =>
          obtain ⟨ws2, b2⟩ := y
          rw [hp] at hQ
          obtain ⟨rfl, qs2, r2, hS2, hm2, hf2, hN2⟩ := hQ
          have HP : Hid (rp n (w1 :: ws1) ((ps ++ qs1).map (·.1)) = some (ws2, b2)) := hp
          have HN : Hid (Rs z r0 W0 ps w2 ws2 (qs1 ++ qs2) r2 (.slice gv ks1.length cv) ks1 ∧ (ps ++ (qs1 ++ qs2)).map (·.1) = b2 ∧ ws2.length < ws1.length + 1 ∧ ws2 <:+ w1 :: ws1 ∧ wr.heap.size ≤ w2.heap.size) := HR.out.part HU.out (rp_gd n _ _ _ _ hp) hK hS2 hm2 hf2 hN2
          clear hp hK hS2 hm2 hf2 hN2
          obtain ⟨kid, hkid⟩ : ∃ kid, lastAt b2 = kid := ⟨_, rfl⟩
          have HD : Hid (lastAt b2 = kid) := hkid
          rw [hkid]
          clear hkid
          have hkl : ks1.length ≤ 8192 := by have := HL.out.2.2; omega
          have hbase : W0.heap.size ≤ w2.heap.size := HN.out.1.kp.size
          go_wp2_with (at_builtin; refine app_kid rfl _ _ rfl W0.heap.size (.slice gv ks1.length cv) ks1 kid rfl w2.heap.size rfl rfl HN.out.1.kids hbase hkl ?_)
          intro g' cap' w3 ho3 hg3 hx3
          have HZ : Hid (Rs z r0 W0 ps w3 ws2 (qs1 ++ qs2) r2 (.slice (some ⟨g', 0, none⟩) (ks1.length + 1) cap') (ks1 ++ [kid])) := by
            obtain ⟨hN, hm2, hl2, hsf, _⟩ := HN.out
            have hl4 := HL.out.2.2
            refine hN.kid HU.out (g := g') ?_ hg3 rfl hx3 (by rw [List.length_append, List.length_singleton]; omega)
            rw [List.length_append, show I64 (ks1 ++ [kid]) = List.map (Value.int .i64) ks1 ++ [Value.int .i64 kid] from List.map_append]
            exact ho3
          clear ho3 hg3 hx3
          go_wp2_with fail
          go_roundw
          case rel =>
            obtain ⟨hN, hm2, hl2, hsf, _⟩ := HN.out
            obtain ⟨hl1, hl3, hl4⟩ := HL.out
            refine ⟨ws2, qs1 ++ qs2, r2, ks1 ++ [kid], m1 - 1, HZ.out, by omega, by omega, ?_⟩
            obtain ⟨m', rfl⟩ : ∃ m', m1 = m' + 1 := ⟨m1 - 1, by omega⟩
            rw [← HO.out, rr_on HW.out HP.out, HD.out, hm2, Nat.add_sub_cancel]
          case measure =>
            have hl2 := HN.out.2.2.1
            rw [HR.out.st.left, HZ.out.st.left]
            simp only [List.length_cons]
            omega
end Go.Proofs.YtgjhpmkahicnkaaGreatDoor

namespace Go.Proofs.YtgjhpmkahicnkaaGreatDoor
open Go.RowKit
set_option linter.unusedVariables false

/-- How readCase and readBracket end. -/
def BrQ (o : Option (List Wd × List Ex × Ex)) (z : Nat) (r : Option Nat) (W : World) (ps : List Pt) (e : Ending) (W' : World) : Prop :=
  Kp z r W W' ∧ match o with
  | none => ∃ a b c g n k, e = .returned (.tuple #[.agg #[.int .i64 a, .int .i64 b, .int .i64 c, .slice g n k], .bool false])
  | some (ws', b', x) => ∃ g c qs r', e = .returned (.tuple #[eV x g c, .bool true]) ∧ St W' z ws' (ps ++ qs) r' ∧ (ps ++ qs).map (·.1) = b' ∧ (∀ q ∈ qs, KdO W' W.heap.size q) ∧ Nx W r r' ∧ KdO W' W.heap.size (x, g, c)
theorem BrQ.no {o : Option (List Wd × List Ex × Ex)} {z : Nat} {r : Option Nat} {W W' : World} {ps : List Pt} (h : o = none) (hk : Kp z r W W') (a b c : Int) (g : Option Addr) (n k : Nat) :
    BrQ o z r W ps (.returned (.tuple #[.agg #[.int .i64 a, .int .i64 b, .int .i64 c, .slice g n k], .bool false])) W' := by subst h; exact ⟨hk, a, b, c, g, n, k, rfl⟩
theorem BrQ.yes {o : Option (List Wd × List Ex × Ex)} {z : Nat} {r : Option Nat} {W W' : World} {ps : List Pt} {ws' : List Wd} {b' : List Ex} {x : Ex} (h : o = some (ws', b', x)) (hk : Kp z r W W') (g : Option Addr) (c : Nat) (qs : List Pt) (r' : Option Nat)
    (hS : St W' z ws' (ps ++ qs) r') (hm : (ps ++ qs).map (·.1) = b') (hf : ∀ q ∈ qs, KdO W' W.heap.size q) (hN : Nx W r r') (hx : KdO W' W.heap.size (x, g, c)) :
    BrQ o z r W ps (.returned (.tuple #[eV x g c, .bool true])) W' := by subst h; exact ⟨hk, g, c, qs, r', rfl, hS, hm, hf, hN, hx⟩
def CaseSaid (n : Nat) : Prop := ∀ (ws : List Wd) (ps : List Pt) (r : Option Nat) (W : World) (z : Nat), ws.length ≤ n → Sz ws ps → St W z ws ps r → LwB z W →
  Calls Tryz.prog 77 #[ptr z] W fun e W' => BrQ (rc (rp n) (n + 1) ws (ps.map (·.1))) z r W ps e W'

/-! The box of a part, beside the reader. -/
theorem Rw.kp {z : Nat} {r : Option Nat} {W W' : World} {b : Nat} {cs : Array Value} (h : Rw W b cs) (hk : Kp z r W W') (hz : b ≠ z) (hr : some b ≠ r) : Rw W' b cs := (hk.block b h.lt hz hr).trans h
theorem St.box {W : World} {z : Nat} {ws : List Wd} {ps : List Pt} {r : Option Nat} (h : St W z ws ps r) {b : Nat} {cs : Array Value} (hb : Rw W b cs) (hz : z < b) (hr : r ≠ some b) (j : Nat) (v : Value) : St (W.setCell ⟨b, j, none⟩ v) z ws ps r := by
  obtain ⟨g, c, bv, h1, h2, h3, h4, h5⟩ := h
  refine ⟨g, c, bv, (Below.heap_setCell W _ _ z (fun e => by have e' : z = b := e; omega)).trans h1, h2.on (fun k hk => Below.heap_setCell W _ _ k (fun e => by have e' : k = b := e; omega)), h3, ⟨own_far h4.own (by rw [h5]; exact hr) _ _, fun p hp => own_far (h4.kids p hp) (own3_not_box (h4.kids p hp) hb) _ _⟩, h5⟩
theorem Kp.far {z : Nat} {r : Option Nat} {W W' : World} (h : Kp z r W W') {b : Nat} (hb : W.heap.size ≤ b) (j : Nat) (v : Value) : Kp z r W (W'.setCell ⟨b, j, none⟩ v) :=
  ⟨h.os, h.tape, h.output, Nat.le_trans h.size (KeepsWalks.setCell W' _ v).size, fun k hk hz hr => (Below.heap_setCell W' _ _ k (fun e => by have e' : k = b := e; omega)).trans (h.block k hk hz hr)⟩
theorem KdO.box {W : World} {base : Nat} {p : Pt} (h : KdO W base p) {b : Nat} {cs : Array Value} (hb : Rw W b cs) (j : Nat) (v : Value) : KdO (W.setCell ⟨b, j, none⟩ v) base p := own_far h (own3_not_box h hb) _ _
/-- All four cells of a part's box are written. -/
def put4 (W : World) (b : Nat) (v0 v1 v2 v3 : Value) : World := (((W.setCell ⟨b, 0, none⟩ v0).setCell ⟨b, 1, none⟩ v1).setCell ⟨b, 2, none⟩ v2).setCell ⟨b, 3, none⟩ v3
theorem Rw.put4 {W : World} {b : Nat} {u0 u1 u2 u3 : Value} (h : Rw W b #[u0, u1, u2, u3]) (v0 v1 v2 v3 : Value) : Rw (put4 W b v0 v1 v2 v3) b #[v0, v1, v2, v3] := (((h.set 0 v0).set 1 v1).set 2 v2).set 3 v3
theorem St.put4 {W : World} {z : Nat} {ws : List Wd} {ps : List Pt} {r : Option Nat} (h : St W z ws ps r) {b : Nat} {cs : Array Value} (hb : Rw W b cs) (hz : z < b) (hr : r ≠ some b) (v0 v1 v2 v3 : Value) : St (put4 W b v0 v1 v2 v3) z ws ps r :=
  (((h.box hb hz hr 0 v0).box (hb.set 0 v0) hz hr 1 v1).box ((hb.set 0 v0).set 1 v1) hz hr 2 v2).box (((hb.set 0 v0).set 1 v1).set 2 v2) hz hr 3 v3
theorem Kp.put4 {z : Nat} {r : Option Nat} {W W' : World} (h : Kp z r W W') {b : Nat} (hb : W.heap.size ≤ b) (v0 v1 v2 v3 : Value) : Kp z r W (put4 W' b v0 v1 v2 v3) :=
  (((h.far hb 0 v0).far hb 1 v1).far hb 2 v2).far hb 3 v3
theorem KdO.put4 {W : World} {base : Nat} {p : Pt} (h : KdO W base p) {b : Nat} {cs : Array Value} (hb : Rw W b cs) (v0 v1 v2 v3 : Value) : KdO (put4 W b v0 v1 v2 v3) base p :=
  (((h.box hb 0 v0).box (hb.set 0 v0) 1 v1).box ((hb.set 0 v0).set 1 v1) 2 v2).box (((hb.set 0 v0).set 1 v1).set 2 v2) 3 v3
theorem put4_size (W : World) (b : Nat) (v0 v1 v2 v3 : Value) : (put4 W b v0 v1 v2 v3).heap.size = W.heap.size := by simp [put4]

/-! What readRest starts from, beside a box. -/
theorem Rs.below {z : Nat} {r0 : Option Nat} {W0 : World} {ps : List Pt} {W W' : World} {ws : List Wd} {qs : List Pt} {r : Option Nat} {kv : Value} {ks : List Int} (h : Rs z r0 W0 ps W ws qs r kv ks) (hb : Below W.heap.size W W') : Rs z r0 W0 ps W' ws qs r kv ks :=
  ⟨h.kp.trans (Nx.refl _ _) ((Kp.of_below hb : Kp z r0 W W')), h.nx, h.st.below hb, fun q hq => own_keep (h.fresh q hq) (fun k _ hk _ => hb.block k hk), own_keep h.kids (fun k _ hk _ => hb.block k hk), h.apt, h.sz, h.few⟩
theorem Rs.next {z : Nat} {r0 : Option Nat} {W0 : World} {ps : List Pt} {W W' : World} {ws : List Wd} {qs : List Pt} {r : Option Nat} {kv : Value} {ks : List Int} (h : Rs z r0 W0 ps W ws qs r kv ks) (hz : z < W0.heap.size) (hS : St W' z (nxt ws).2 (ps ++ qs) r) (hK : Kp z none W W') : Rs z r0 W0 ps W' (nxt ws).2 qs r kv ks := by
  have hl := nxt_len ws
  have hsf : (nxt ws).2 <:+ ws := by
    cases ws with
    | nil => exact List.suffix_refl _
    | cons w ws => exact List.suffix_cons _ _
  have keep : ∀ {B e size n : Nat} {v : Value} {xs : List Value}, W.ownsRow B e size v n xs → z < B → W'.ownsRow B e size v n xs := fun {B e size n v xs} ho hB => hK.own ho hB (by
    cases v.ownBlock with
    | none => exact .inl rfl
    | some k => exact .inr (by simp))
  exact ⟨h.kp.trans (Nx.refl _ _) (hK.wide _), h.nx, hS, fun q hq => keep (h.fresh q hq) hz, keep h.kids hz, h.apt, h.sz.on hsf (by omega), by have := h.few; omega⟩
/-- A first kid in a row of its own. -/
theorem Rs.one {z : Nat} {r0 : Option Nat} {W0 : World} {ps : List Pt} {W : World} {ws : List Wd} {qs : List Pt} {r : Option Nat} {kv : Value} {ks : List Int} (h : Rs z r0 W0 ps W ws qs r kv ks) (k : Int) (hl : ws.length + 1 ≤ 4096) : Rs z r0 W0 ps (W.alloc (.cells #[.int .i64 k] 3)) ws qs r (.slice (some ⟨W.heap.size, 0, none⟩) 1 1) [k] := by
  have hb := h.below ((Below.refl _ W).alloc (Nat.le_refl _) (.cells #[.int .i64 k] 3))
  refine ⟨hb.kp, hb.nx, hb.st, hb.fresh, World.ownsRow_lit W #[.int .i64 k] 1 h.kp.size (by decide) rfl, fun q hq => ?_, hb.sz, by simp; omega⟩
  cases e : (Value.slice q.2.1 q.1.kids.length q.2.2).ownBlock with
  | none => exact .inl rfl
  | some b =>
    right
    have := (World.ownsRow.lt (h.fresh q hq) b e).2
    simp [Value.ownBlock]
    omega
theorem Rs.start {z : Nat} {W : World} {ws : List Wd} {ps : List Pt} {r : Option Nat} (hS : St W z ws ps r) (hs : Sz ws ps) : Rs z r W ps W ws [] r (.slice none 0 0) [] :=
  ⟨Kp.refl _ _ _, Nx.refl _ _, by rw [List.append_nil]; exact hS, (fun q hq => by cases hq), World.ownsRow_nil _ _ _ _, (fun q hq => by cases hq), by rw [List.append_nil]; exact hs, by have := hs.1; simp; omega⟩
theorem Up.start {z : Nat} {W : World} {ws : List Wd} {ps : List Pt} {r : Option Nat} (hS : St W z ws ps r) (hL : LwB z W) : Up z r W ps := by
  refine ⟨fun p hp => ?_, hS.lt, hS.row, hL⟩
  obtain ⟨g, c, bv, _, _, _, h4, _⟩ := hS
  exact h4.kids p hp
theorem LwB.alloc {z : Nat} {W : World} (h : LwB z W) (hz : z ≤ W.heap.size) (o : Obj) : LwB z (W.alloc o) := h.on (((Below.refl _ W).alloc (Nat.le_refl _) o).mono hz)
theorem Sz.word {ws : List Wd} {ps : List Pt} (h : Sz ws ps) : (Lx.ba (nxt ws).1).size ≤ 140737488355328 := by
  cases ws with
  | nil => decide
  | cons w ws =>
    have h1 := h.2 w (by simp)
    have h2 : (Lx.ba (nxt (w :: ws)).1).size = w.length := rfl
    omega
theorem ba_list (w : Wd) : (Lx.ba w).data.toList = w := rfl
theorem dg_nil : dg [] = none := by decide +kernel

theorem next_at {z : Nat} {ws : List Wd} {ps : List Pt} {r : Option Nat} {W : World} {t : Wd} {v : List Wd} (hx : nxt ws = (t, v)) (h : St W z ws ps r) (hn : ws.length ≤ 4096) :
    Calls Tryz.prog 41 #[.pointer (some ⟨z, 0, none⟩)] W fun e W' => e = .returned (.string (Lx.ba t)) ∧ St W' z v ps r ∧ Kp z none W W' := by
  refine (next_any z ws ps r W h hn).mono ?_
  rintro e W' ⟨h1, h2, h3, _⟩
  rw [hx] at h1 h2
  exact ⟨h1, h2, h3⟩
theorem Rs.next_at {z : Nat} {r0 : Option Nat} {W0 : World} {ps : List Pt} {W W' : World} {ws : List Wd} {qs : List Pt} {r : Option Nat} {kv : Value} {ks : List Int} {t : Wd} {v : List Wd} (hx : nxt ws = (t, v)) (h : Rs z r0 W0 ps W ws qs r kv ks) (hz : z < W0.heap.size) (hS : St W' z v (ps ++ qs) r) (hK : Kp z none W W') :
    Rs z r0 W0 ps W' v qs r kv ks ∧ (Lx.ba t).size ≤ 140737488355328 ∧ v.length ≤ ws.length := by
  have h1 := h.sz.word
  have h2 := nxt_len ws
  rw [hx] at h1 h2
  refine ⟨?_, h1, by dsimp only at h2; omega⟩
  have h3 := h.next hz (W' := W') (by rw [hx]; exact hS) hK
  rw [hx] at h3
  exact h3

/-! readCase on words. -/
theorem rc_no {f : Rf} {m : Nat} {ws : List Wd} {b : List Ex} (h : f ws b = none) : rc f m ws b = none := by unfold rc; rw [h]
theorem rc_tag {f : Rf} {m : Nat} {ws ws1 : List Wd} {b b1 : List Ex} (h : f ws b = some (ws1, b1)) (ht : db 64 (nxt ws1).1 = none) : rc f m ws b = none := by
  unfold rc; rw [h]
  cases ws1 with
  | nil => rfl
  | cons t ws2 => simp only [nxt] at ht; simp [ht]
theorem rc_bind {f : Rf} {m : Nat} {ws ws1 : List Wd} {b b1 : List Ex} {tag : Int} (h : f ws b = some (ws1, b1)) (ht : db 64 (nxt ws1).1 = some tag) (hd : dg (nxt (nxt ws1).2).1 = none) : rc f m ws b = none := by
  unfold rc; rw [h]
  cases ws1 with
  | nil => rfl
  | cons t ws2 =>
    simp only [nxt] at ht
    cases ws2 with
    | nil => simp [ht]
    | cons v ws3 => simp only [nxt] at hd; simp [ht, hd]
theorem rc_on {f : Rf} {m : Nat} {ws ws1 : List Wd} {b b1 : List Ex} {tag bind : Int} (h : f ws b = some (ws1, b1)) (ht : db 64 (nxt ws1).1 = some tag) (hd : dg (nxt (nxt ws1).2).1 = some bind) :
    rc f m ws b = match rr f m [lastAt b1] (nxt (nxt ws1).2).2 b1 with
      | none => none
      | some (ws4, b4, ks) => some (ws4, b4, ⟨5, tag, bind, ks⟩) := by
  unfold rc; rw [h]
  cases ws1 with
  | nil => simp [nxt, db] at ht
  | cons t ws2 =>
    simp only [nxt] at ht
    cases ws2 with
    | nil => simp [nxt, dg_nil] at hd
    | cons v ws3 =>
      simp only [nxt] at hd ⊢
      simp only [ht, hd]
      rcases rr f m [lastAt b1] ws3 b1 with _ | ⟨a, b, c⟩ <;> rfl

set_option maxHeartbeats 2000000 in
set_option maxRecDepth 100000 in
theorem case_of (n : Nat) (hP : PartSaid n) : CaseSaid n := by
  intro ws ps r W z hn hs hS hL
  have hRest := rest_of n hP
  obtain ⟨O, hO⟩ : ∃ O, rc (rp n) (n + 1) ws (ps.map (·.1)) = O := ⟨_, rfl⟩
  rw [hO]
  have hzlt := hS.lt
  have hrow := hS.row
  obtain ⟨W1, hW1⟩ : ∃ W1, W.alloc (.cells #[.int .i64 0, .int .i64 0, .int .i64 0, .slice none 0 0] 51) = W1 := ⟨_, rfl⟩
  have hb1 : Below W.heap.size W W1 := by rw [← hW1]; exact (Below.refl _ W).alloc (Nat.le_refl _) _
  have hX1 : Rw W1 W.heap.size #[.int .i64 0, .int .i64 0, .int .i64 0, .slice none 0 0] := by rw [← hW1]; exact World.alloc_heap_new W _
  have hS1 := hS.below hb1
  have hL1 : LwB z W1 := hL.on (hb1.mono (Nat.le_of_lt hzlt))
  have HU : Hid (Up z r W1 ps) := Up.start hS1 hL1
  have HR1 : Hid (Rs z r W1 ps W1 ws [] r (.slice none 0 0) []) := Rs.start hS1 hs
  have HX1 : Hid (Rw W1 W.heap.size #[.int .i64 0, .int .i64 0, .int .i64 0, .slice none 0 0]) := hX1
  have HB1 : Hid (Below W.heap.size W W1 ∧ W.heap.size < W1.heap.size ∧ z < W.heap.size ∧ (∀ k, r = some k → k < W.heap.size)) := ⟨hb1, hX1.lt, hzlt, fun k hk => (hrow k hk).2⟩
  have HO : Hid (rc (rp n) (n + 1) ws (ps.map (·.1)) = O) := hO
  have HK : ∀ {W' : World}, Kp z r W1 W' → Kp z r W W' := fun h => (Kp.of_below HB1.out.1).trans (Nx.refl _ _) h
  have HXK : ∀ {W' : World}, Kp z r W1 W' → Rw W' W.heap.size #[.int .i64 0, .int .i64 0, .int .i64 0, .slice none 0 0] := fun h => HX1.out.kp h (by have := HB1.out.2.2.1; omega) (fun e => by have := HB1.out.2.2.2 _ e.symm; omega)
  have hcall := hP ws ps r W1 z hn hs hS1 hL1
  clear hO hS hL hS1 hL1 hb1 hX1 hrow hzlt
  go_enter Tryz.func77, Tryz.ntmps77
  go_wp2_with fail
  clear hW1
  refine hcall.mono ?_
  clear hcall
  rintro e w2 ⟨hK2, hQ⟩
  cases hp : rp n ws (ps.map (·.1)) with
  | none =>
    rw [hp] at hQ
    subst hQ
    have HP : Hid (rp n ws (ps.map (·.1)) = none) := hp
    have HX := HXK hK2
    have hXl := HX.lt
    have c0 := HX.cell 0 _ rfl
    have c1 := HX.cell 1 _ rfl
    have c2 := HX.cell 2 _ rfl
    have c3 := HX.cell 3 _ rfl
    have hf := HX.frozen
    have HK2 : Hid (Kp z r W w2) := HK hK2
    clear hp HX hK2
    go_wp2_with fail
    refine bodyPost_ret (v := .tuple #[.agg #[.int .i64 0, .int .i64 0, .int .i64 0, .slice none 0 0], .bool false]) (by simp [results, Tryz.results77, go_sem, c0, c1, c2, c3]) rfl ?_
    exact BrQ.no (by rw [← HO.out]; exact rc_no HP.out) (HK2.out.put4 (Nat.le_refl _) _ _ _ _) _ _ _ _ _ _
  | some y =>
    obtain ⟨ws2, b2⟩ := y
    rw [hp] at hQ
    obtain ⟨rfl, qs, r2, hS2, hm2, hf2, hN2⟩ := hQ
    have HP : Hid (rp n ws (ps.map (·.1)) = some (ws2, b2)) := hp
    have HN : Hid (Rs z r W1 ps w2 ws2 qs r2 (.slice none 0 0) [] ∧ (ps ++ qs).map (·.1) = b2 ∧ ws2.length + 1 ≤ ws.length ∧ ws.length ≤ 4096) := by
      obtain ⟨w1, ws1, rfl⟩ : ∃ w1 ws1, ws = w1 :: ws1 := by
        cases ws with
        | nil => cases n <;> simp [rp] at hp
        | cons w ws => exact ⟨w, ws, rfl⟩
      have h := HR1.out.part (qs2 := qs) (b2 := b2) HU.out (by rw [List.append_nil]; exact rp_gd n _ _ _ _ hp) hK2 (by rw [List.append_nil]; exact hS2) (by rw [List.append_nil]; exact hm2) hf2 hN2
      simp only [List.nil_append] at h
      have hl := hs.1
      exact ⟨h.1, h.2.1, by have := h.2.2.1; simp only [List.length_cons]; omega, by omega⟩
    obtain ⟨kid, hkid⟩ : ∃ kid, lastAt b2 = kid := ⟨_, rfl⟩
    have HD : Hid (lastAt b2 = kid) := hkid
    rw [hkid]
    obtain ⟨t2, v2, hx2⟩ : ∃ t2 v2, nxt ws2 = (t2, v2) := ⟨_, _, rfl⟩
    have HT2 : Hid (nxt ws2 = (t2, v2)) := hx2
    clear hkid hp hK2 hS2 hm2 hf2 hN2 hx2 hs
    go_wp2_with fail
    refine (next_at HT2.out HN.out.1.st (by have := HN.out.2.2; omega)).mono ?_
    rintro e w3 ⟨rfl, hS3, hK3⟩
    have HN3 : Hid (Rs z r W1 ps w3 v2 qs r2 (.slice none 0 0) [] ∧ (Lx.ba t2).size ≤ 140737488355328 ∧ v2.length ≤ ws2.length) := HN.out.1.next_at HT2.out HU.out.lt hS3 hK3
    clear hS3 hK3
    go_wp2_with fail
    refine (behind_any 64 (Lx.ba t2) w3 HN3.out.2.1 (HU.out.on HN3.out.1.kp).lw).mono ?_
    rintro e w4 ⟨hb4, hd⟩
    rw [ba_list] at hd
    have HN4 : Hid (Rs z r W1 ps w4 v2 qs r2 (.slice none 0 0) []) := HN3.out.1.below hb4
    clear hb4
    cases ht : db 64 t2 with
    | none =>
      rw [ht] at hd
      subst hd
      have HT : Hid (db 64 (nxt ws2).1 = none) := by show _ = _; rw [HT2.out]; exact ht
      clear ht
      have HX := HXK HN4.out.kp
      have hXl := HX.lt
      have c0 := HX.cell 0 _ rfl
      have c1 := HX.cell 1 _ rfl
      have c2 := HX.cell 2 _ rfl
      have c3 := HX.cell 3 _ rfl
      have hf := HX.frozen
      have HK2 : Hid (Kp z r W w4) := HK HN4.out.kp
      clear HX
      go_wp2_with fail
      refine bodyPost_ret (v := .tuple #[.agg #[.int .i64 0, .int .i64 0, .int .i64 0, .slice none 0 0], .bool false]) (by simp [results, Tryz.results77, go_sem, c0, c1, c2, c3]) rfl ?_
      exact BrQ.no (by rw [← HO.out]; exact rc_tag HP.out HT.out) (HK2.out.put4 (Nat.le_refl _) _ _ _ _) _ _ _ _ _ _
    | some tag =>
      rw [ht] at hd
      subst hd
      have HT : Hid (db 64 (nxt ws2).1 = some tag) := by show _ = _; rw [HT2.out]; exact ht
      clear ht
      obtain ⟨t3, v3, hx3⟩ : ∃ t3 v3, nxt v2 = (t3, v3) := ⟨_, _, rfl⟩
      have HT3 : Hid (nxt v2 = (t3, v3)) := hx3
      clear hx3
      go_wp2_with fail
      refine (next_at HT3.out HN4.out.st (by have h1 := HN.out.2.2; have h2 := HN3.out.2.2; omega)).mono ?_
      rintro e w5 ⟨rfl, hS5, hK5⟩
      have HN5 : Hid (Rs z r W1 ps w5 v3 qs r2 (.slice none 0 0) [] ∧ (Lx.ba t3).size ≤ 140737488355328 ∧ v3.length ≤ v2.length) := HN4.out.next_at HT3.out HU.out.lt hS5 hK5
      clear hS5 hK5
      go_wp2_with fail
      refine (digits_any (Lx.ba t3) w5 HN5.out.2.1 (HU.out.on HN5.out.1.kp).lw).mono ?_
      rintro e w6 ⟨hb6, hd⟩
      rw [ba_list] at hd
      have HN6 : Hid (Rs z r W1 ps w6 v3 qs r2 (.slice none 0 0) []) := HN5.out.1.below hb6
      clear hb6
      have HT5 : Hid ((nxt (nxt ws2).2).1 = t3 ∧ (nxt (nxt ws2).2).2 = v3) := by show _ ∧ _; rw [HT2.out, HT3.out]; exact ⟨rfl, rfl⟩
      cases ht : dg t3 with
      | none =>
        rw [ht] at hd
        subst hd
        have HG : Hid (dg (nxt (nxt ws2).2).1 = none) := by show _ = _; rw [HT5.out.1]; exact ht
        clear ht
        have HX := HXK HN6.out.kp
        have hXl := HX.lt
        have c0 := HX.cell 0 _ rfl
        have c1 := HX.cell 1 _ rfl
        have c2 := HX.cell 2 _ rfl
        have c3 := HX.cell 3 _ rfl
        have hf := HX.frozen
        have HK2 : Hid (Kp z r W w6) := HK HN6.out.kp
        clear HX
        go_wp2_with fail
        refine bodyPost_ret (v := .tuple #[.agg #[.int .i64 0, .int .i64 0, .int .i64 0, .slice none 0 0], .bool false]) (by simp [results, Tryz.results77, go_sem, c0, c1, c2, c3]) rfl ?_
        exact BrQ.no (by rw [← HO.out]; exact rc_bind HP.out HT.out HG.out) (HK2.out.put4 (Nat.le_refl _) _ _ _ _) _ _ _ _ _ _
      | some bind =>
        rw [ht] at hd
        subst hd
        have HG : Hid (dg (nxt (nxt ws2).2).1 = some bind) := by show _ = _; rw [HT5.out.1]; exact ht
        clear ht
        go_wp2_with fail
        refine (hRest (n + 1) z r W1 ps _ v3 qs r2 _ [kid] HU.out (HN6.out.one kid (by have h1 := HN.out.2.2; have h2 := HN3.out.2.2; have h3 := HN5.out.2.2; omega)) (by have h1 := HN.out.2.2; have h2 := HN3.out.2.2; have h3 := HN5.out.2.2; omega) (by have h1 := HN.out.2.2; have h2 := HN3.out.2.2; have h3 := HN5.out.2.2; omega)).mono ?_
        rintro e w8 ⟨hK8, hQ8⟩
        have HE : Hid (rc (rp n) (n + 1) ws (ps.map (·.1)) = match rr (rp n) (n + 1) [kid] v3 ((ps ++ qs).map (·.1)) with
          | none => none
          | some (ws4, b4, ks) => some (ws4, b4, ⟨5, tag, bind, ks⟩)) := by
          show _ = _
          rw [rc_on HP.out HT.out HG.out, HD.out, HT5.out.2, HN.out.2.1]
        cases hq : rr (rp n) (n + 1) [kid] v3 ((ps ++ qs).map (·.1)) with
        | none =>
          rw [hq] at hQ8
          obtain ⟨g8, n8, c8, rfl⟩ := hQ8
          have HE2 : Hid (O = none) := by show _ = _; rw [← HO.out, HE.out, hq]
          clear hq HE
          have HX := HXK hK8
          have hXl := HX.lt
          have c0 := HX.cell 0 _ rfl
          have c1 := HX.cell 1 _ rfl
          have c2 := HX.cell 2 _ rfl
          have c3 := HX.cell 3 _ rfl
          have hf := HX.frozen
          have HK2 : Hid (Kp z r W w8) := HK hK8
          clear HX
          go_wp2_with fail
          refine bodyPost_ret (v := .tuple #[.agg #[.int .i64 5, .int .i64 tag, .int .i64 bind, .slice g8 n8 c8], .bool false]) (by simp [results, Tryz.results77, go_sem, c0, c1, c2, c3]) rfl ?_
          exact BrQ.no HE2.out (HK2.out.put4 (Nat.le_refl _) _ _ _ _) _ _ _ _ _ _
        | some y =>
          obtain ⟨ws8, b8, ks8⟩ := y
          rw [hq] at hQ8
          obtain ⟨g8, c8, qs8, r8, rfl, hS8, hm8, hf8, hN8, ho8⟩ := hQ8
          have HE2 : Hid (O = some (ws8, b8, ⟨5, tag, bind, ks8⟩)) := by show _ = _; rw [← HO.out, HE.out, hq]
          have HH : Hid (St w8 z ws8 (ps ++ qs8) r8 ∧ (ps ++ qs8).map (·.1) = b8 ∧ (∀ q ∈ qs8, KdO w8 W1.heap.size q) ∧ Nx W1 r r8 ∧ KdO w8 W1.heap.size (⟨5, tag, bind, ks8⟩, g8, c8)) := ⟨hS8, hm8, hf8, hN8, ho8⟩
          have HX8 : Hid (Rw w8 W.heap.size #[.int .i64 0, .int .i64 0, .int .i64 0, .slice none 0 0]) := HXK hK8
          clear hq HE hS8 hm8 hf8 hN8 ho8
          have HX := HXK hK8
          have hXl := HX.lt
          have c0 := HX.cell 0 _ rfl
          have c1 := HX.cell 1 _ rfl
          have c2 := HX.cell 2 _ rfl
          have c3 := HX.cell 3 _ rfl
          have hf := HX.frozen
          have HK2 : Hid (Kp z r W w8) := HK hK8
          clear HX
          go_wp2_with fail
          refine bodyPost_ret (v := .tuple #[.agg #[.int .i64 5, .int .i64 tag, .int .i64 bind, .slice g8 ks8.length c8], .bool true]) (by simp [results, Tryz.results77, go_sem, c0, c1, c2, c3]) rfl ?_
          obtain ⟨hS8, hm8, hf8, hN8, ho8⟩ := HH.out
          have hlow : W.heap.size ≤ W1.heap.size := Nat.le_of_lt HB1.out.2.1
          refine BrQ.yes HE2.out (HK2.out.put4 (Nat.le_refl _) _ _ _ _) g8 c8 qs8 r8 (hS8.put4 HX8.out HB1.out.2.2.1 ?_ _ _ _ _) hm8 (fun q hq => KdO.put4 (Lx.own_base (hf8 q hq) hlow) HX8.out _ _ _ _) ?_ (KdO.put4 (p := (⟨5, tag, bind, ks8⟩, g8, c8)) (Lx.own_base ho8 hlow) HX8.out _ _ _ _)
          · rintro rfl
            rcases hN8 with h | h
            · have := HB1.out.2.2.2 _ h.symm; omega
            · have := h _ rfl; have := HB1.out.2.1; omega
          · rcases hN8 with h | h
            · exact Or.inl h
            · exact Or.inr fun k hk => Nat.le_trans hlow (h k hk)
end Go.Proofs.YtgjhpmkahicnkaaGreatDoor

namespace Go.Proofs.YtgjhpmkahicnkaaGreatDoor
open Go.RowKit
set_option linter.unusedVariables false

def BrackSaid (n : Nat) : Prop := ∀ (ws : List Wd) (ps : List Pt) (r : Option Nat) (W : World) (z : Nat), ws.length ≤ n → Sz ws ps → St W z ws ps r → LwB z W →
  Calls Tryz.prog 61 #[ptr z] W fun e W' => BrQ (rb (rp n) (n + 1) ws (ps.map (·.1))) z r W ps e W'
theorem rb_case {f : Rf} {m : Nat} {ws v : List Wd} {b : List Ex} (hx : nxt ws = ([99, 97, 115, 101], v)) : rb f m ws b = rc f m v b := by
  cases ws with
  | nil => simp [nxt] at hx
  | cons w ws => simp only [nxt, Prod.mk.injEq] at hx; obtain ⟨rfl, rfl⟩ := hx; rfl
theorem rb_no {f : Rf} {m : Nat} {ws v : List Wd} {t : Wd} {b : List Ex} (hx : nxt ws = (t, v)) (hc : t ≠ [99, 97, 115, 101]) (hh : hdw t = none) : rb f m ws b = none := by
  cases ws with
  | nil => rfl
  | cons w ws => simp only [nxt, Prod.mk.injEq] at hx; obtain ⟨rfl, rfl⟩ := hx; simp only [rb, if_neg hc, hh]
theorem rb_on {f : Rf} {m : Nat} {ws v : List Wd} {t : Wd} {b : List Ex} {x : Ex} (hx : nxt ws = (t, v)) (hc : t ≠ [99, 97, 115, 101]) (hh : hdw t = some x) : rb f m ws b = match rr f m [] v b with
      | none => none
      | some (ws', b', ks) => if x.kind = 3 ∧ ks = [] then none else some (ws', b', { x with kids := ks }) := by
  cases ws with
  | nil =>
    simp only [nxt, Prod.mk.injEq] at hx; obtain ⟨rfl, rfl⟩ := hx
    have h0 : hdw [] = none := by decide +kernel
    rw [h0] at hh; cases hh
  | cons w ws =>
    simp only [nxt, Prod.mk.injEq] at hx; obtain ⟨rfl, rfl⟩ := hx; simp only [rb, if_neg hc, hh]
    rcases rr f m [] ws b with _ | ⟨a, b, c⟩ <;> rfl

/-- The last world of readBracket: the part's list is put in, then all of it is put where the answer lies. -/
def fin (W : World) (E b : Nat) (v0 v1 v2 v3 : Value) : World := (put4 (W.setCell ⟨E, 3, none⟩ v3) b v0 v1 v2 v3).drew
theorem Kp.fin {z : Nat} {r : Option Nat} {W W' : World} (h : Kp z r W W') {b E : Nat} (hb : W.heap.size ≤ b) (hE : W.heap.size ≤ E) (v0 v1 v2 v3 : Value) : Kp z r W (fin W' E b v0 v1 v2 v3) :=
  ((h.far hE 3 v3).put4 hb v0 v1 v2 v3).trans (Nx.refl _ _) (Kp.of_below (Below.refl _ _).drew)
theorem St.fin {W : World} {z : Nat} {ws : List Wd} {ps : List Pt} {r : Option Nat} (h : St W z ws ps r) {b E : Nat} {cs ds : Array Value} (hE : Rw W E ds) (hb : Rw W b cs) (hzE : z < E) (hz : z < b) (hrE : r ≠ some E) (hr : r ≠ some b) (hne : b ≠ E) (v0 v1 v2 v3 : Value) : St (fin W E b v0 v1 v2 v3) z ws ps r :=
  ((h.box hE hzE hrE 3 v3).put4 (hb.other 3 v3 hne) hz hr v0 v1 v2 v3).below (Below.refl _ _).drew
theorem KdO.fin {W : World} {base : Nat} {p : Pt} (h : KdO W base p) {b E : Nat} {cs ds : Array Value} (hE : Rw W E ds) (hb : Rw W b cs) (hne : b ≠ E) (v0 v1 v2 v3 : Value) : KdO (fin W E b v0 v1 v2 v3) base p :=
  own_keep ((h.box hE 3 v3).put4 (hb.other 3 v3 hne) v0 v1 v2 v3) (fun k _ hk _ => (Below.refl _ _).drew.block k hk)

set_option maxHeartbeats 2000000 in
set_option maxRecDepth 100000 in
theorem brack_of (n : Nat) (hP : PartSaid n) : BrackSaid n := by
  intro ws ps r W z hn hs hS hL
  have hRest := rest_of n hP
  have hCase := case_of n hP
  obtain ⟨O, hO⟩ : ∃ O, rb (rp n) (n + 1) ws (ps.map (·.1)) = O := ⟨_, rfl⟩
  rw [hO]
  have hzlt := hS.lt
  have hrow := hS.row
  obtain ⟨W1, hW1⟩ : ∃ W1, W.alloc (.cells #[.int .i64 0, .int .i64 0, .int .i64 0, .slice none 0 0] 51) = W1 := ⟨_, rfl⟩
  have hb1 : Below W.heap.size W W1 := by rw [← hW1]; exact (Below.refl _ W).alloc (Nat.le_refl _) _
  have hX1 : Rw W1 W.heap.size #[.int .i64 0, .int .i64 0, .int .i64 0, .slice none 0 0] := by rw [← hW1]; exact World.alloc_heap_new W _
  have hS1 := hS.below hb1
  have hL1 : LwB z W1 := hL.on (hb1.mono (Nat.le_of_lt hzlt))
  have HU : Hid (Up z r W1 ps) := Up.start hS1 hL1
  have HX1 : Hid (Rw W1 W.heap.size #[.int .i64 0, .int .i64 0, .int .i64 0, .slice none 0 0]) := hX1
  have HB1 : Hid (Below W.heap.size W W1 ∧ W.heap.size < W1.heap.size ∧ z < W.heap.size ∧ (∀ k, r = some k → k < W.heap.size)) := ⟨hb1, hX1.lt, hzlt, fun k hk => (hrow k hk).2⟩
  have HO : Hid (rb (rp n) (n + 1) ws (ps.map (·.1)) = O) := hO
  have HK : ∀ {W' : World}, Kp z r W1 W' → Kp z r W W' := fun h => (Kp.of_below HB1.out.1).trans (Nx.refl _ _) h
  have HXK : ∀ {W' : World}, Kp z r W1 W' → Rw W' W.heap.size #[.int .i64 0, .int .i64 0, .int .i64 0, .slice none 0 0] := fun h => HX1.out.kp h (by have := HB1.out.2.2.1; omega) (fun e => by have := HB1.out.2.2.2 _ e.symm; omega)
  obtain ⟨t, v, hx⟩ : ∃ t v, nxt ws = (t, v) := ⟨_, _, rfl⟩
  have HT : Hid (nxt ws = (t, v)) := hx
  have HV : Hid (v.length ≤ n ∧ Sz v ps ∧ (Lx.ba t).size ≤ 140737488355328) := by
    have h2 := nxt_len ws
    have h3 := hs.word
    have hsf : (nxt ws).2 <:+ ws := by
      cases ws with
      | nil => exact List.suffix_refl _
      | cons w ws => exact List.suffix_cons _ _
    have h4 := hs.on (ps' := ps) hsf (by omega)
    rw [hx] at h2 h3 h4
    dsimp only at h2
    exact ⟨by omega, h4, h3⟩
  have hcall := next_at hx hS1 (by have := hs.1; omega)
  clear hO hS hL hS1 hL1 hb1 hX1 hrow hzlt hx hs hn
  go_enter Tryz.func61, Tryz.ntmps61
  go_wp2_with fail
  clear hW1
  refine hcall.mono ?_
  clear hcall
  rintro e w2 ⟨rfl, hS2, hK2⟩
  have HS2 : Hid (St w2 z v ps r) := hS2
  have HK2 : Hid (Kp z r W1 w2) := hK2.wide r
  clear hS2 hK2
  by_cases hc : t = [99, 97, 115, 101]
  · have hq : ((Lx.ba t).toList == [99, 97, 115, 101]) = true := by rw [ba_is, hc]; rfl
    have HE : Hid (rb (rp n) (n + 1) ws (ps.map (·.1)) = rc (rp n) (n + 1) v (ps.map (·.1))) := rb_case (by rw [← hc]; exact HT.out)
    clear hc
    go_wp2_with fail
    refine (hCase v ps r w2 z HV.out.1 HV.out.2.1 HS2.out (HU.out.on HK2.out)).mono ?_
    rintro e w3 ⟨hK3, hQ⟩
    have HK3 : Hid (Kp z r W1 w3) := HK2.out.trans (Nx.refl _ _) hK3
    cases hp : rc (rp n) (n + 1) v (ps.map (·.1)) with
    | none =>
      rw [hp] at hQ
      obtain ⟨a3, b3, k3, g3, n3, j3, rfl⟩ := hQ
      have HE2 : Hid (O = none) := by show _ = _; rw [← HO.out, HE.out, hp]
      clear hp hK3
      have HX := HXK (HK3.out)
      have hXl := HX.lt
      have c0 := HX.cell 0 _ rfl
      have c1 := HX.cell 1 _ rfl
      have c2 := HX.cell 2 _ rfl
      have c3 := HX.cell 3 _ rfl
      have hf := HX.frozen
      have HK2 : Hid (Kp z r W w3) := HK (HK3.out)
      clear HX
      go_wp2_with fail
      refine bodyPost_ret (v := .tuple #[.agg #[.int .i64 a3, .int .i64 b3, .int .i64 k3, .slice g3 n3 j3], .bool false]) (by simp [results, Tryz.results61, go_sem, c0, c1, c2, c3]) rfl ?_
      exact BrQ.no HE2.out (HK2.out.put4 (Nat.le_refl _) _ _ _ _) _ _ _ _ _ _
    | some y =>
      obtain ⟨ws3, b3, x3⟩ := y
      rw [hp] at hQ
      obtain ⟨g3, j3, qs3, r3, rfl, hS3, hm3, hf3, hN3, ho3⟩ := hQ
      have HE2 : Hid (O = some (ws3, b3, x3)) := by show _ = _; rw [← HO.out, HE.out, hp]
      have HH : Hid (St w3 z ws3 (ps ++ qs3) r3 ∧ (ps ++ qs3).map (·.1) = b3 ∧ (∀ q ∈ qs3, KdO w3 w2.heap.size q) ∧ Nx w2 r r3 ∧ KdO w3 w2.heap.size (x3, g3, j3)) := ⟨hS3, hm3, hf3, hN3, ho3⟩
      have HX8 : Hid (Rw w3 W.heap.size #[.int .i64 0, .int .i64 0, .int .i64 0, .slice none 0 0]) := HXK HK3.out
      have HSZ : Hid (W1.heap.size ≤ w2.heap.size) := HK2.out.size
      clear hp hK3 hS3 hm3 hf3 hN3 ho3 HK2
      have HX := HXK (HK3.out)
      have hXl := HX.lt
      have c0 := HX.cell 0 _ rfl
      have c1 := HX.cell 1 _ rfl
      have c2 := HX.cell 2 _ rfl
      have c3 := HX.cell 3 _ rfl
      have hf := HX.frozen
      have HK2 : Hid (Kp z r W w3) := HK (HK3.out)
      clear HX
      go_wp2_with fail
      refine bodyPost_ret (v := .tuple #[.agg #[.int .i64 x3.kind, .int .i64 x3.num, .int .i64 x3.bind, .slice g3 x3.kids.length j3], .bool true]) (by simp [results, Tryz.results61, go_sem, c0, c1, c2, c3]) rfl ?_
      obtain ⟨hS8, hm8, hf8, hN8, ho8⟩ := HH.out
      have hlow : W.heap.size ≤ w2.heap.size := Nat.le_trans (Nat.le_of_lt HB1.out.2.1) HSZ.out
      refine BrQ.yes HE2.out (HK2.out.put4 (Nat.le_refl _) _ _ _ _) g3 j3 qs3 r3 (hS8.put4 HX8.out HB1.out.2.2.1 ?_ _ _ _ _) hm8 (fun q hq => KdO.put4 (Lx.own_base (hf8 q hq) hlow) HX8.out _ _ _ _) ?_ (KdO.put4 (p := (x3, g3, j3)) (Lx.own_base ho8 hlow) HX8.out _ _ _ _)
      · rintro rfl
        rcases hN8 with h | h
        · have := HB1.out.2.2.2 _ h.symm; omega
        · have h1 := h _ rfl; have h2 := HB1.out.2.1; have h3 := HSZ.out; omega
      · rcases hN8 with h | h
        · exact Or.inl h
        · exact Or.inr fun k hk => Nat.le_trans hlow (h k hk)
  · have hq : ((Lx.ba t).toList == [99, 97, 115, 101]) = false := by rw [ba_is]; simpa using hc
    have HC : Hid (t ≠ [99, 97, 115, 101]) := hc
    clear hc
    go_wp2_with fail
    refine (head_any (Lx.ba t) w2 HV.out.2.2 (HU.out.on HK2.out).lw).mono ?_
    rintro e w3 ⟨x, b, rfl, hxk, hb3, hd⟩
    rw [ba_list] at hd
    have HK3 : Hid (Kp z r W1 w3) := HK2.out.trans (Nx.refl _ _) (Kp.of_below hb3)
    have HS3 : Hid (St w3 z v ps r) := HS2.out.below hb3
    rcases hd with ⟨rfl, hd⟩ | ⟨rfl, hd⟩
    · have HHD : Hid (hdw t = some x ∧ x.kids = []) := ⟨hd, hxk⟩
      clear hd hxk hb3
      go_wp2_with fail
      obtain ⟨w4, hw4⟩ : ∃ w4, w3.alloc (.cells #[.int .i64 x.kind, .int .i64 x.num, .int .i64 x.bind, .slice none 0 0] 51) = w4 := ⟨_, rfl⟩
      have hb4 : Below w3.heap.size w3 w4 := by rw [← hw4]; exact (Below.refl _ w3).alloc (Nat.le_refl _) _
      have hE4 : Rw w4 w3.heap.size #[.int .i64 x.kind, .int .i64 x.num, .int .i64 x.bind, .slice none 0 0] := by rw [← hw4]; exact World.alloc_heap_new w3 _
      have HK4 : Hid (Kp z r W1 w4) := HK3.out.trans (Nx.refl _ _) (Kp.of_below hb4)
      have HS4 : Hid (St w4 z v ps r) := HS3.out.below hb4
      have HE4 : Hid (Rw w4 w3.heap.size #[.int .i64 x.kind, .int .i64 x.num, .int .i64 x.bind, .slice none 0 0]) := hE4
      have HZ : Hid (W.heap.size < w3.heap.size ∧ W1.heap.size ≤ w3.heap.size ∧ w3.heap.size < w4.heap.size) := ⟨(HXK HK3.out).lt, HK3.out.size, hE4.lt⟩
      have hcall := hRest (n + 1) z r w4 ps w4 v [] r (.slice none 0 0) [] (Up.start HS4.out (HU.out.on HK4.out)) (Rs.start HS4.out HV.out.2.1) HV.out.1 (Nat.lt_succ_of_le HV.out.1)
      rw [List.append_nil] at hcall
      rw [hw4]
      clear hb4 hE4 HS3 HS2 HK2 hw4
      refine hcall.mono ?_
      clear hcall
      rintro e w5 ⟨hK5, hQ⟩
      have HK5 : Hid (Kp z r W1 w5) := HK4.out.trans (Nx.refl _ _) hK5
      have hE5 : Rw w5 w3.heap.size #[.int .i64 x.kind, .int .i64 x.num, .int .i64 x.bind, .slice none 0 0] := HE4.out.kp hK5 (by have h1 := HZ.out.1; have h2 := HB1.out.2.2.1; omega) (fun e => by have h1 := HB1.out.2.2.2 _ e.symm; have h2 := HZ.out.1; omega)
      have HE5 : Hid (Rw w5 w3.heap.size #[.int .i64 x.kind, .int .i64 x.num, .int .i64 x.bind, .slice none 0 0]) := hE5
      have HK5w : Hid (Kp z r W w5) := HK HK5.out
      have HX5 : Hid (Rw w5 W.heap.size #[.int .i64 0, .int .i64 0, .int .i64 0, .slice none 0 0]) := HXK HK5.out
      have HRB : Hid (rb (rp n) (n + 1) ws (ps.map (·.1)) = match rr (rp n) (n + 1) [] v (ps.map (·.1)) with
          | none => none
          | some (ws', b', ks) => if x.kind = 3 ∧ ks = [] then none else some (ws', b', { x with kids := ks })) := rb_on HT.out HC.out HHD.out.1
      have HX := HXK (HK5.out)
      have hXl := HX.lt
      have c0 := HX.cell 0 _ rfl
      have c1 := HX.cell 1 _ rfl
      have c2 := HX.cell 2 _ rfl
      have c3 := HX.cell 3 _ rfl
      have hf := HX.frozen
      clear HX
      have d0 := hE5.cell 0 _ rfl
      have d1 := hE5.cell 1 _ rfl
      have d2 := hE5.cell 2 _ rfl
      have d3 := hE5.cell 3 _ rfl
      have hg := hE5.frozen
      have hEl := hE5.lt
      have hne : W.heap.size ≠ w3.heap.size := by have h1 := HZ.out.1; omega
      have hne' : w3.heap.size ≠ W.heap.size := fun h => hne h.symm
      clear hE5
      cases hp : rr (rp n) (n + 1) [] v (ps.map (·.1)) with
      | none =>
        rw [hp] at hQ
        obtain ⟨g5, n5, k5, rfl⟩ := hQ
        have HE2 : Hid (O = none) := by show _ = _; rw [← HO.out, HRB.out, hp]
        clear hp HRB hK5
        go_wp2_with fail
        go_region
        all_goals
          go_wp2_with fail
          refine bodyPost_ret (v := .tuple #[.agg #[.int .i64 x.kind, .int .i64 x.num, .int .i64 x.bind, .slice g5 n5 k5], .bool false]) (by simp [results, Tryz.results61, go_sem, c0, c1, c2, c3]) rfl ?_
          exact BrQ.no HE2.out (Kp.fin HK5w.out (Nat.le_refl _) (Nat.le_of_lt HZ.out.1) _ _ _ _) _ _ _ _ _ _
      | some y =>
        obtain ⟨ws5, b5, ks5⟩ := y
        rw [hp] at hQ
        obtain ⟨g5, k5, qs5, r5, rfl, hS5, hm5, hf5, hN5, ho5⟩ := hQ
        have HH : Hid (St w5 z ws5 (ps ++ qs5) r5 ∧ (ps ++ qs5).map (·.1) = b5 ∧ (∀ q ∈ qs5, KdO w5 w4.heap.size q) ∧ Nx w4 r r5 ∧ KdO w5 w4.heap.size ({ x with kids := ks5 }, g5, k5)) := ⟨hS5, hm5, hf5, hN5, ho5⟩
        have HRB2 : Hid (O = if x.kind = 3 ∧ ks5 = [] then none else some (ws5, b5, { x with kids := ks5 })) := by show _ = _; rw [← HO.out, HRB.out, hp]
        clear hp HRB hK5 hS5 hm5 hf5 hN5 ho5
        by_cases hk3 : x.kind = 3
        · have hk : (x.kind != 3) = false := by simp [hk3]
          by_cases hks : ks5 = []
          · have HE2 : Hid (O = none) := by show _ = _; rw [HRB2.out, if_pos ⟨hk3, hks⟩]
            have hl : decide ((0 : Int) < (ks5.length : Int)) = false := by rw [hks]; rfl
            have HKS : Hid (ks5 = []) := hks
            clear HRB2 hk3 hks
            go_wp2_with fail
            go_region
            all_goals
              go_wp2_with fail
              refine bodyPost_ret (v := .tuple #[.agg #[.int .i64 x.kind, .int .i64 x.num, .int .i64 x.bind, .slice g5 ks5.length k5], .bool false]) (by simp [results, Tryz.results61, go_sem, c0, c1, c2, c3]; exact HKS.out) rfl ?_
              exact BrQ.no HE2.out (Kp.fin HK5w.out (Nat.le_refl _) (Nat.le_of_lt HZ.out.1) _ _ _ _) _ _ _ _ _ _
          · have HE2 : Hid (O = some (ws5, b5, { x with kids := ks5 })) := by show _ = _; rw [HRB2.out, if_neg (fun h => hks h.2)]
            have hl : decide ((0 : Int) < (ks5.length : Int)) = true := by
              have := List.length_pos_iff.2 hks
              exact decide_eq_true (by omega)
            have HKS : Hid (0 < ks5.length) := List.length_pos_iff.2 hks
            clear HRB2 hk3 hks
            go_wp2_with fail
            go_region
            all_goals
              go_wp2_with fail
              refine bodyPost_ret (v := .tuple #[.agg #[.int .i64 x.kind, .int .i64 x.num, .int .i64 x.bind, .slice g5 ks5.length k5], .bool true]) (by simp [results, Tryz.results61, go_sem, c0, c1, c2, c3]; exact HKS.out) rfl ?_
              obtain ⟨hS8, hm8, hf8, hN8, ho8⟩ := HH.out
              have hlow : W.heap.size ≤ w4.heap.size := by have h1 := HZ.out; omega
              refine BrQ.yes HE2.out (Kp.fin HK5w.out (Nat.le_refl _) (Nat.le_of_lt HZ.out.1) _ _ _ _) g5 k5 qs5 r5 (St.fin hS8 HE5.out HX5.out (by have h1 := HZ.out.1; have h2 := HB1.out.2.2.1; omega) HB1.out.2.2.1 ?_ ?_ hne _ _ _ _) hm8 (fun q hq => KdO.fin (Lx.own_base (hf8 q hq) hlow) HE5.out HX5.out hne _ _ _ _) ?_ (KdO.fin (p := ({ x with kids := ks5 }, g5, k5)) (Lx.own_base ho8 hlow) HE5.out HX5.out hne _ _ _ _)
              · rintro rfl
                rcases hN8 with h | h
                · have h1 := HB1.out.2.2.2 _ h.symm; have h2 := HZ.out.1; omega
                · have h1 := h _ rfl; have h2 := HZ.out.2.2; omega
              · rintro rfl
                rcases hN8 with h | h
                · have := HB1.out.2.2.2 _ h.symm; omega
                · have h1 := h _ rfl; have h2 := HZ.out; omega
              · rcases hN8 with h | h
                · exact Or.inl h
                · exact Or.inr fun k hk => Nat.le_trans hlow (h k hk)
        · have hk : (x.kind != 3) = true := by simp [hk3]
          have HE2 : Hid (O = some (ws5, b5, { x with kids := ks5 })) := by show _ = _; rw [HRB2.out, if_neg (fun h => hk3 h.1)]
          clear HRB2 hk3
          go_wp2_with fail
          go_region
          all_goals
            go_wp2_with fail
            refine bodyPost_ret (v := .tuple #[.agg #[.int .i64 x.kind, .int .i64 x.num, .int .i64 x.bind, .slice g5 ks5.length k5], .bool true]) (by simp [results, Tryz.results61, go_sem, c0, c1, c2, c3]) rfl ?_
            obtain ⟨hS8, hm8, hf8, hN8, ho8⟩ := HH.out
            have hlow : W.heap.size ≤ w4.heap.size := by have h1 := HZ.out; omega
            refine BrQ.yes HE2.out (Kp.fin HK5w.out (Nat.le_refl _) (Nat.le_of_lt HZ.out.1) _ _ _ _) g5 k5 qs5 r5 (St.fin hS8 HE5.out HX5.out (by have h1 := HZ.out.1; have h2 := HB1.out.2.2.1; omega) HB1.out.2.2.1 ?_ ?_ hne _ _ _ _) hm8 (fun q hq => KdO.fin (Lx.own_base (hf8 q hq) hlow) HE5.out HX5.out hne _ _ _ _) ?_ (KdO.fin (p := ({ x with kids := ks5 }, g5, k5)) (Lx.own_base ho8 hlow) HE5.out HX5.out hne _ _ _ _)
            · rintro rfl
              rcases hN8 with h | h
              · have h1 := HB1.out.2.2.2 _ h.symm; have h2 := HZ.out.1; omega
              · have h1 := h _ rfl; have h2 := HZ.out.2.2; omega
            · rintro rfl
              rcases hN8 with h | h
              · have := HB1.out.2.2.2 _ h.symm; omega
              · have h1 := h _ rfl; have h2 := HZ.out; omega
            · rcases hN8 with h | h
              · exact Or.inl h
              · exact Or.inr fun k hk => Nat.le_trans hlow (h k hk)
    · have HE2 : Hid (O = none) := by show _ = _; rw [← HO.out, rb_no HT.out HC.out hd]
      clear hd hb3
      have HX := HXK (HK3.out)
      have hXl := HX.lt
      have c0 := HX.cell 0 _ rfl
      have c1 := HX.cell 1 _ rfl
      have c2 := HX.cell 2 _ rfl
      have c3 := HX.cell 3 _ rfl
      have hf := HX.frozen
      clear HX
      go_wp2_with fail
      refine bodyPost_ret (v := .tuple #[.agg #[.int .i64 0, .int .i64 0, .int .i64 0, .slice none 0 0], .bool false]) (by simp [results, Tryz.results61, go_sem, c0, c1, c2, c3, hXl]) rfl ?_
      exact BrQ.no HE2.out (((HK HK3.out).put4 (Nat.le_refl _) _ _ _ _).trans (Nx.refl _ _) (Kp.of_below ((Below.refl _ _).alloc (Nat.le_refl _) _))) _ _ _ _ _ _
end Go.Proofs.YtgjhpmkahicnkaaGreatDoor

namespace Go.Proofs.YtgjhpmkahicnkaaGreatDoor
open Go.RowKit
set_option linter.unusedVariables false

/-- A part is put behind a body, within a region that draws its order. -/
theorem step_exO {W : World} {ops : Array Oper} {o : Oper} {a : Act} {K : Act → World → Prop} {Q : Exit → Act → World → Prop} {E : Prop} (hgd : o.guard = none) (s x : Operand)
    (ho : o.op = .call { callee := .builtin .append, args := #[s, x], argTypes := #[42, 42] }) (base : Nat) (v : Value) (ps : List Pt) (q : Pt) (cs : Array Value) (hcs : cs.toList = c4 q) (hs : a.eval s = v) (z : Nat) (hz : W.heap.size = z) (hx : a.eval x = .slice (some ⟨z, 0, none⟩) 1 1)
    (hbd : BdO W base v ps) (hq : KdO W base q) (hb : base ≤ W.heap.size) (hlen : (ps.length + 1) * 48 ≤ 140737488355328)
    (h : ∀ g cap w', BdO w' base (.slice (some ⟨g, 0, none⟩) (ps.length + 1) cap) (ps ++ [q]) → (W.alloc (.cells cs 51)).grownBy w' v.ownBlock → (v.ownBlock = some g ∨ W.heap.size ≤ g) → K (a.put o.dst (.slice (some ⟨g, 0, none⟩) (ps.length + 1) cap)) w') : if Region.wanted o (yielded ops a.tmps) = true then Oper.wp Tryz.prog o a (W.alloc (.cells cs 51)).drew K Q else E := by
  subst hz
  obtain ⟨i0, hi, hz0, hz1, hz2⟩ := info_parts Tryz.info51
  refine step_append_lies _ hgd s x 42 ho base 51 i0 _ 4 48 Tryz.underlying42 hi hz0 hz1 hz2 rfl (by decide) v _ _ hs ((hbd.own.alloc _).drew) ⟨W.heap.size, 0, none⟩ 1 1 (c4 q) hx rfl ?_ (fun u hu => one_c4 [q] u (by simpa using hu)) (by decide) (by unfold maxLen; omega) hlen (by show _ ≤ (W.alloc (.cells cs 51)).heap.size; rw [World.size_alloc]; omega) _ rfl ?_
  · intro j u hj
    rw [Addr.add_lit, Nat.zero_add]
    show (W.alloc (.cells cs 51)).cell? _ = _
    refine cell_new W cs 51 j u ?_
    rw [← hcs] at hj
    simpa using hj
  · intro g cap w' h1 h2' h3 _
    have h2 : (W.alloc (.cells cs 51)).grownBy w' v.ownBlock := ⟨h2'.os, h2'.tape, h2'.output, h2'.size, h2'.block⟩
    refine h g cap w' ⟨by rw [List.length_append, List.flatMap_append]; simpa using h1, fun p hp => ?_⟩ h2 ?_
    · have hk : KdO (W.alloc (.cells cs 51)) base p := by
        rcases List.mem_append.1 hp with hp | hp
        · exact World.ownsRow.alloc (hbd.kids p hp) _
        · rw [List.mem_singleton] at hp; subst hp; exact World.ownsRow.alloc hq _
      exact World.ownsRow.kept hk h2 (rows_apart hk (hbd.own.alloc _))
    · rcases h3 with h3 | h3
      · exact Or.inl h3
      · right
        have h4 : (W.alloc (.cells cs 51)).drew.heap.size = W.heap.size + 1 := by show (W.alloc (.cells cs 51)).heap.size = _; rw [World.size_alloc]
        omega
/-- The reader behind that append and the store of the new list. -/
theorem St.put {W w' : World} {z : Nat} {ws : List Wd} {ps : List Pt} {q : Pt} {gw : Option Addr} {cw : Nat} {bv : Value} {cs : Array Value} {g cap : Nat}
    (h1 : Rdr W z (.slice gw ws.length cw) bv) (h2 : WTx W z gw ws) (h3 : ws.length ≤ cw) (h4 : BdO W (z + 1) bv ps)
    (hB : BdO w' (z + 1) (.slice (some ⟨g, 0, none⟩) (ps.length + 1) cap) (ps ++ [q])) (hg : (W.alloc (.cells cs 51)).grownBy w' bv.ownBlock) (hx : bv.ownBlock = some g ∨ W.heap.size ≤ g) :
    Rdr w' z (.slice gw ws.length cw) bv ∧ St (w'.setCell ⟨z, 1, none⟩ (.slice (some ⟨g, 0, none⟩) (ps.length + 1) cap)) z ws (ps ++ [q]) (some g) ∧ Kp z bv.ownBlock W (w'.setCell ⟨z, 1, none⟩ (.slice (some ⟨g, 0, none⟩) (ps.length + 1) cap)) ∧ Nx W bv.ownBlock (some g) := by
  have hlt := h1.lt
  have hrow : ∀ k, bv.ownBlock = some k → z + 1 ≤ k ∧ k < W.heap.size := fun k hk => h4.own.lt k hk
  have low : ∀ k, k < W.heap.size → some k ≠ bv.ownBlock → w'.heap[k]? = W.heap[k]? := fun k hk hr => (hg.block k (by rw [World.size_alloc]; omega) hr).trans (Below.heap_alloc W _ k hk)
  have hr' : Rdr w' z (.slice gw ws.length cw) bv := (low z hlt (fun e => by have := hrow z e.symm; omega)).trans h1
  refine ⟨hr', ⟨gw, cw, _, hr'.set1 _, ?_, h3, ⟨own_far hB.own (fun e => by have := (hB.own.lt z e).1; omega) _ _, fun p hp => own_far (hB.kids p hp) (fun e => by have := (World.ownsRow.lt (hB.kids p hp) z e).1; omega) _ _⟩, rfl⟩, ?_, ?_⟩
  · refine h2.on fun k hk => (Below.heap_setCell w' _ _ k (fun e => by have e' : k = z := e; omega)).trans (low k (by omega) (fun e => by have := hrow k e.symm; omega))
  · refine ⟨hg.os, hg.tape, hg.output, ?_, fun k hk hz hr => (Below.heap_setCell w' _ _ k (fun e => hz e)).trans (low k hk hr)⟩
    have h5 := hg.size
    rw [World.size_alloc] at h5
    exact Nat.le_trans (by omega) (KeepsWalks.setCell w' _ _).size
  · rcases hx with hx | hx
    · exact Or.inl hx.symm
    · exact Or.inr fun k hk => by cases hk; exact hx
/-- What stands ahead of the append. -/
structure Ahead (z : Nat) (r : Option Nat) (W : World) (ps : List Pt) (W5 : World) (ws : List Wd) (qs : List Pt) (gw : Option Addr) (cw : Nat) (bv : Value) (q : Pt) : Prop where
  kp : Kp z r W W5
  nx : Nx W r bv.ownBlock
  rdr : Rdr W5 z (.slice gw ws.length cw) bv
  words : WTx W5 z gw ws
  cap : ws.length ≤ cw
  body : BdO W5 (z + 1) bv (ps ++ qs)
  fresh : ∀ q ∈ qs, KdO W5 W.heap.size q
  kids : KdO W5 W.heap.size q
  lt : z < W.heap.size
theorem Ahead.of {z : Nat} {r r' : Option Nat} {W W5 : World} {ps qs : List Pt} {ws : List Wd} {q : Pt} (hk : Kp z r W W5) (hN : Nx W r r') (hS : St W5 z ws (ps ++ qs) r') (hf : ∀ q ∈ qs, KdO W5 W.heap.size q) (hq : KdO W5 W.heap.size q) (hz : z < W.heap.size) :
    ∃ gw cw gb cb, Ahead z r W ps W5 ws qs gw cw (.slice gb (ps ++ qs).length cb) q := by
  obtain ⟨g, c, bv, h1, h2, h3, h4, h5⟩ := hS
  obtain ⟨gb, cb, rfl⟩ := h4.val
  exact ⟨g, c, gb, cb, hk, by rw [h5]; exact hN, h1, h2, h3, h4, hf, hq, hz⟩
theorem Ahead.low {z : Nat} {r : Option Nat} {W W5 : World} {ps qs : List Pt} {ws : List Wd} {gw : Option Addr} {cw : Nat} {bv : Value} {q : Pt} (h : Ahead z r W ps W5 ws qs gw cw bv q) : KdO W5 (z + 1) q := Lx.own_base h.kids (by have := h.lt; omega)
/-- All of it, behind the store. -/
theorem Ahead.put {z : Nat} {r : Option Nat} {W W5 w' : World} {ps qs : List Pt} {ws : List Wd} {gw : Option Addr} {cw : Nat} {bv : Value} {q : Pt} {cs : Array Value} {g cap : Nat} (h : Ahead z r W ps W5 ws qs gw cw bv q)
    (hB : BdO w' (z + 1) (.slice (some ⟨g, 0, none⟩) ((ps ++ qs).length + 1) cap) (ps ++ qs ++ [q])) (hg : (W5.alloc (.cells cs 51)).grownBy w' bv.ownBlock) (hx : bv.ownBlock = some g ∨ W5.heap.size ≤ g) :
    Rdr w' z (.slice gw ws.length cw) bv ∧ PartQ (some (ws, (ps ++ qs ++ [q]).map (·.1))) z r W ps (.returned (.tuple #[.int .i64 (((ps ++ qs).length : Nat) : Int), .bool true])) (w'.setCell ⟨z, 1, none⟩ (.slice (some ⟨g, 0, none⟩) ((ps ++ qs).length + 1) cap)) := by
  obtain ⟨h1, h2, h3, h4⟩ := St.put h.rdr h.words h.cap h.body hB hg hx
  refine ⟨h1, h.kp.trans h.nx h3, ?_, qs ++ [q], some g, ?_, ?_, ?_, h.nx.trans h4 h.kp.size⟩
  · have hl : lastAt ((ps ++ qs ++ [q]).map (·.1)) = (((ps ++ qs).length : Nat) : Int) := by
      unfold lastAt
      simp only [List.length_map, List.length_append, List.length_singleton]
      omega
    rw [hl]
  · rw [← List.append_assoc]; exact h2
  · rw [← List.append_assoc]
  · have key : ∀ p, KdO W5 W.heap.size p → KdO (w'.setCell ⟨z, 1, none⟩ (.slice (some ⟨g, 0, none⟩) ((ps ++ qs).length + 1) cap)) W.heap.size p := fun p hp => by
      refine h3.own hp h.lt ?_
      exact rows_apart hp h.body.own
    intro p hp
    rcases List.mem_append.1 hp with hp | hp
    · exact key p (h.fresh p hp)
    · rw [List.mem_singleton] at hp; subst hp; exact key _ h.kids
theorem rp_brack {n : Nat} {ws v : List Wd} {b : List Ex} (hx : nxt ws = ([40], v)) : rp (n + 1) ws b = match rb (rp n) (n + 1) v b with
      | none => none
      | some (ws', b', e) => some (ws', b' ++ [e]) := by
  cases ws with
  | nil => simp [nxt] at hx
  | cons w ws => simp only [nxt, Prod.mk.injEq] at hx; obtain ⟨rfl, rfl⟩ := hx; rw [rp, if_pos rfl]; rfl
theorem sg_nil : sg [] = none := by decide +kernel
theorem rp_one {n : Nat} {ws v : List Wd} {t : Wd} {b : List Ex} (hx : nxt ws = (t, v)) (ht : t ≠ [40]) : rp (n + 1) ws b = match sg t with
      | none => none
      | some e => some (v, b ++ [e]) := by
  cases ws with
  | nil => simp only [nxt, Prod.mk.injEq] at hx; obtain ⟨rfl, rfl⟩ := hx; rw [sg_nil]; rfl
  | cons w ws => simp only [nxt, Prod.mk.injEq] at hx; obtain ⟨rfl, rfl⟩ := hx; rw [rp, if_neg ht]; rfl
theorem rp_len0 {n : Nat} {b : List Ex} : rp n [] b = none := by cases n <;> rfl

set_option maxHeartbeats 2000000 in
set_option maxRecDepth 100000 in
theorem part_walk (n : Nat) (ws : List Wd) (ps : List Pt) (r : Option Nat) (W : World) (z : Nat) (hBr0 : ws ≠ [] → BrackSaid n) (hn : ws.length ≤ n + 1) (hs : Sz ws ps) (hS : St W z ws ps r) (hL : LwB z W) :
    Calls Tryz.prog 43 #[ptr z] W fun e W' => PartQ (rp (n + 1) ws (ps.map (·.1))) z r W ps e W' := by
  obtain ⟨O, hO⟩ : ∃ O, rp (n + 1) ws (ps.map (·.1)) = O := ⟨_, rfl⟩
  rw [hO]
  have hzlt := hS.lt
  have hrow := hS.row
  obtain ⟨W1, hW1⟩ : ∃ W1, W.alloc (.cells #[.int .i64 0, .int .i64 0, .int .i64 0, .slice none 0 0] 51) = W1 := ⟨_, rfl⟩
  have hb1 : Below W.heap.size W W1 := by rw [← hW1]; exact (Below.refl _ W).alloc (Nat.le_refl _) _
  have hX1 : Rw W1 W.heap.size #[.int .i64 0, .int .i64 0, .int .i64 0, .slice none 0 0] := by rw [← hW1]; exact World.alloc_heap_new W _
  have hS1 := hS.below hb1
  have hL1 : LwB z W1 := hL.on (hb1.mono (Nat.le_of_lt hzlt))
  have HU : Hid (Up z r W1 ps) := Up.start hS1 hL1
  have HX1 : Hid (Rw W1 W.heap.size #[.int .i64 0, .int .i64 0, .int .i64 0, .slice none 0 0]) := hX1
  have HB1 : Hid (Below W.heap.size W W1 ∧ W.heap.size < W1.heap.size ∧ z < W.heap.size ∧ (∀ k, r = some k → k < W.heap.size)) := ⟨hb1, hX1.lt, hzlt, fun k hk => (hrow k hk).2⟩
  have HO : Hid (rp (n + 1) ws (ps.map (·.1)) = O) := hO
  have HK : ∀ {W' : World}, Kp z r W1 W' → Kp z r W W' := fun h => (Kp.of_below HB1.out.1).trans (Nx.refl _ _) h
  have HXK : ∀ {W' : World}, Kp z r W1 W' → Rw W' W.heap.size #[.int .i64 0, .int .i64 0, .int .i64 0, .slice none 0 0] := fun h => HX1.out.kp h (by have := HB1.out.2.2.1; omega) (fun e => by have := HB1.out.2.2.2 _ e.symm; omega)
  obtain ⟨t, v, hx⟩ : ∃ t v, nxt ws = (t, v) := ⟨_, _, rfl⟩
  have HT : Hid (nxt ws = (t, v)) := hx
  have HV : Hid (v.length ≤ n ∧ Sz v ps ∧ (Lx.ba t).size ≤ 140737488355328 ∧ ws.length + ps.length ≤ 4096) := by
    have h2 := nxt_len ws
    have h3 := hs.word
    have hsf : (nxt ws).2 <:+ ws := by
      cases ws with
      | nil => exact List.suffix_refl _
      | cons w ws => exact List.suffix_cons _ _
    have h4 := hs.on (ps' := ps) hsf (by omega)
    rw [hx] at h2 h3 h4
    dsimp only at h2
    exact ⟨by omega, h4, h3, hs.1⟩
  have hcall := next_at hx hS1 (by have := hs.1; omega)
  clear hO hS hL hS1 hL1 hb1 hX1 hrow hzlt hx hs hn
  go_enter Tryz.func43, Tryz.ntmps43
  go_wp2_with fail
  clear hW1
  refine hcall.mono ?_
  clear hcall
  rintro e w2 ⟨rfl, hS2, hK2⟩
  have HS2 : Hid (St w2 z v ps r) := hS2
  have HK2 : Hid (Kp z r W1 w2) := hK2.wide r
  have hXl2 := (HXK (hK2.wide r)).lt
  clear hS2 hK2
  by_cases hc : t = [40]
  · have hq : ((Lx.ba t).toList == [40]) = true := by rw [ba_is, hc]; rfl
    have HE : Hid (rp (n + 1) ws (ps.map (·.1)) = match rb (rp n) (n + 1) v (ps.map (·.1)) with
      | none => none
      | some (ws', b', e) => some (ws', b' ++ [e])) := rp_brack (by rw [← hc]; exact HT.out)
    have hBr : BrackSaid n := hBr0 (by
      rintro rfl
      have h := HT.out
      simp only [nxt, Prod.mk.injEq] at h
      rw [hc] at h; cases h.1)
    clear hc
    go_wp2_with fail
    refine (hBr v ps r w2 z HV.out.1 HV.out.2.1 HS2.out (HU.out.on HK2.out)).mono ?_
    rintro e w3 ⟨hK3, hQ⟩
    have HK3 : Hid (Kp z r W1 w3) := HK2.out.trans (Nx.refl _ _) hK3
    have HX := HXK HK3.out
    have hXl := HX.lt
    have c0 := HX.cell 0 _ rfl
    have c1 := HX.cell 1 _ rfl
    have c2 := HX.cell 2 _ rfl
    have c3 := HX.cell 3 _ rfl
    have hf := HX.frozen
    have HX3 : Hid (Rw w3 W.heap.size #[.int .i64 0, .int .i64 0, .int .i64 0, .slice none 0 0]) := HX
    clear HX
    cases hp : rb (rp n) (n + 1) v (ps.map (·.1)) with
    | none =>
      rw [hp] at hQ
      obtain ⟨a3, b3, k3, g3, n3, j3, rfl⟩ := hQ
      have HE2 : Hid (O = none) := by show _ = _; rw [← HO.out, HE.out, hp]
      clear hp hK3
      go_wp2_with fail
      go_ret2
      rw [HE2.out]
      exact ⟨(HK HK3.out).put4 (Nat.le_refl _) _ _ _ _, rfl⟩
    | some y =>
      obtain ⟨ws3, b3, x3⟩ := y
      rw [hp] at hQ
      obtain ⟨g3, j3, qs3, r3, rfl, hS3, hm3, hf3, hN3, ho3⟩ := hQ
      have HE2 : Hid (O = some (ws3, (ps ++ qs3 ++ [((x3, g3, j3) : Pt)]).map (·.1))) := by
        show _ = _
        rw [← HO.out, HE.out, hp, List.map_append, hm3]; rfl
      have HH : Hid (∃ gw cw gb cb, Ahead z r W ps (put4 w3 W.heap.size (.int .i64 x3.kind) (.int .i64 x3.num) (.int .i64 x3.bind) (.slice g3 x3.kids.length j3)) ws3 qs3 gw cw (.slice gb (ps ++ qs3).length cb) (x3, g3, j3)) := by
        have hlow : W.heap.size ≤ w2.heap.size := Nat.le_trans (Nat.le_of_lt HB1.out.2.1) HK2.out.size
        have hNW : Nx W r r3 := by
          rcases hN3 with h | h
          · exact Or.inl h
          · exact Or.inr fun k hk => Nat.le_trans hlow (h k hk)
        refine Ahead.of ((HK HK3.out).put4 (Nat.le_refl _) _ _ _ _) hNW (hS3.put4 HX3.out HB1.out.2.2.1 ?_ _ _ _ _) (fun q hq => KdO.put4 (Lx.own_base (hf3 q hq) hlow) HX3.out _ _ _ _) (KdO.put4 (p := (x3, g3, j3)) (Lx.own_base ho3 hlow) HX3.out _ _ _ _) HB1.out.2.2.1
        rintro rfl
        rcases hN3 with h | h
        · have := HB1.out.2.2.2 _ h.symm; omega
        · have h1 := h _ rfl; have h2 := HB1.out.2.1; have h3 := HK2.out.size; omega
      have HL : Hid ((ps ++ qs3).length + 1 ≤ 4096) := by
        have h1 := (rb_gd (rp_gd n) hp).2.2.1
        have h2 : b3.length = (ps ++ qs3).length := by rw [← hm3, List.length_map]
        have h3 := HV.out; have h4 := nxt_len ws; rw [HT.out] at h4; rw [List.length_map] at h1; show _ ≤ _; dsimp only at h4; omega
      obtain ⟨gw, cw, gb, cb, hA⟩ := HH.out
      clear hp hK3 hS3 hm3 hf3 hN3 ho3 HH
      go_wp2_with fail
      obtain ⟨W5, hW5⟩ : ∃ W5, (((w3.setCell ⟨W.heap.size, 0, none⟩ (.int .i64 x3.kind)).setCell ⟨W.heap.size, 1, none⟩ (.int .i64 x3.num)).setCell ⟨W.heap.size, 2, none⟩ (.int .i64 x3.bind)).setCell ⟨W.heap.size, 3, none⟩ (.slice g3 x3.kids.length j3) = W5 := ⟨_, rfl⟩
      have hX5 : Rw W5 W.heap.size #[.int .i64 x3.kind, .int .i64 x3.num, .int .i64 x3.bind, .slice g3 x3.kids.length j3] := by rw [← hW5]; exact HX3.out.put4 _ _ _ _
      replace hA : Ahead z r W ps W5 ws3 qs3 gw cw (.slice gb (ps ++ qs3).length cb) (x3, g3, j3) := by rw [← hW5]; exact hA
      rw [hW5]
      have HA : Hid (Ahead z r W ps W5 ws3 qs3 gw cw (.slice gb (ps ++ qs3).length cb) (x3, g3, j3)) := hA
      have b0 := hA.rdr.c1
      have b1 := hA.rdr.frozen 1
      have bl := hA.rdr.lt
      have x0 := hX5.cell 0 _ rfl
      have x1 := hX5.cell 1 _ rfl
      have x2 := hX5.cell 2 _ rfl
      have x3' := hX5.cell 3 _ rfl
      obtain ⟨m, hm⟩ : ∃ m, (ps ++ qs3).length = m := ⟨_, rfl⟩
      have HM : Hid ((ps ++ qs3).length = m) := hm
      have hmm : m + 1 ≤ 4096 := by rw [← hm]; exact HL.out
      rw [hm] at b0
      clear hW5 hA hX5 c0 c1 c2 c3 hf hXl hm HX3
      go_wp2_with fail
      go_region_law
        (refine step_exO rfl _ _ rfl (z + 1) (.slice gb m cb) (ps ++ qs3) (x3, g3, j3) _ rfl rfl W5.heap.size rfl rfl (by rw [← HM.out]; exact HA.out.body) HA.out.low (by have h1 := HA.out.rdr.lt; omega) (by have h1 := HL.out; omega) ?_; intro g7 k7 w7 hB7 hg7 hx7; have hg7' : (W5.alloc (.cells #[.int .i64 x3.kind, .int .i64 x3.num, .int .i64 x3.bind, .slice g3 x3.kids.length j3] 51)).grownBy w7 (Value.slice gb m cb).ownBlock := hg7; have hx7' := hx7; rw [← HM.out] at hg7' hx7'; have h7 := HA.out.put hB7 hg7' hx7'; have y0 := h7.1.frozen 1; have y1 := h7.1.c1; have yl := h7.1.lt; have H7 : Hid (PartQ _ z r W ps _ _) := h7.2; rw [HM.out] at H7 ⊢; clear hB7 hg7 hx7 h7 hg7' hx7')
      all_goals
        go_wp2_with fail
        go_ret2
        rw [HE2.out]
        exact H7.out
  · have hq : ((Lx.ba t).toList == [40]) = false := by rw [ba_is]; simpa using hc
    have HE : Hid (rp (n + 1) ws (ps.map (·.1)) = match sg t with
      | none => none
      | some e => some (v, ps.map (·.1) ++ [e])) := rp_one HT.out hc
    have HC : Hid (t ≠ [40]) := hc
    clear hc
    go_wp2_with fail
    refine (single_any (Lx.ba t) w2 HV.out.2.2.1 (HU.out.on HK2.out).lw).mono ?_
    rintro e w3 ⟨x, b, rfl, hxk, hb3, hd⟩
    rw [ba_list] at hd
    obtain ⟨xk, xn, xb, xs⟩ := x
    dsimp only at hxk
    subst hxk
    dsimp only
    have HK3 : Hid (Kp z r W1 w3) := HK2.out.trans (Nx.refl _ _) (Kp.of_below hb3)
    have HS3 : Hid (St w3 z v ps r) := HS2.out.below hb3
    have HX := HXK HK3.out
    have hXl := HX.lt
    have c0 := HX.cell 0 _ rfl
    have c1 := HX.cell 1 _ rfl
    have c2 := HX.cell 2 _ rfl
    have c3 := HX.cell 3 _ rfl
    have hf := HX.frozen
    have HX3 : Hid (Rw w3 W.heap.size #[.int .i64 0, .int .i64 0, .int .i64 0, .slice none 0 0]) := HX
    clear HX hb3
    rcases hd with ⟨rfl, hd⟩ | ⟨rfl, hd⟩
    · have HE2 : Hid (O = some (v, (ps ++ ([] : List Pt) ++ [((⟨xk, xn, xb, []⟩, none, 0) : Pt)]).map (·.1))) := by
        show _ = _
        rw [← HO.out, HE.out, hd, List.append_nil, List.map_append]; rfl
      have HH : Hid (∃ gw cw gb cb, Ahead z r W ps (put4 w3 W.heap.size (.int .i64 xk) (.int .i64 xn) (.int .i64 xb) (.slice none 0 0)) v ([] : List Pt) gw cw (.slice gb (ps ++ ([] : List Pt)).length cb) (⟨xk, xn, xb, []⟩, none, 0)) := by
        refine Ahead.of ((HK HK3.out).put4 (Nat.le_refl _) _ _ _ _) (Nx.refl _ _) (by rw [List.append_nil]; exact HS3.out.put4 HX3.out HB1.out.2.2.1 (fun e => by have := HB1.out.2.2.2 _ e; omega) _ _ _ _) (fun q hq => by cases hq) (World.ownsRow_nil _ _ _ _) HB1.out.2.2.1
      have HL : Hid ((ps ++ ([] : List Pt)).length + 1 ≤ 4096) := by
        have h3 := HV.out.2.2.2
        have h5 : 0 < ws.length := by
          cases ws with
          | nil =>
            have h6 := HT.out
            simp only [nxt, Prod.mk.injEq] at h6
            rw [← h6.1, sg_nil] at hd; cases hd
          | cons w ws => simp
        show _ ≤ _
        rw [List.append_nil]; omega
      obtain ⟨gw, cw, gb, cb, hA⟩ := HH.out
      clear hd HH HE
      go_wp2_with fail
      obtain ⟨W5, hW5⟩ : ∃ W5, (((w3.setCell ⟨W.heap.size, 0, none⟩ (.int .i64 xk)).setCell ⟨W.heap.size, 1, none⟩ (.int .i64 xn)).setCell ⟨W.heap.size, 2, none⟩ (.int .i64 xb)).setCell ⟨W.heap.size, 3, none⟩ (.slice none 0 0) = W5 := ⟨_, rfl⟩
      have hX5 : Rw W5 W.heap.size #[.int .i64 xk, .int .i64 xn, .int .i64 xb, .slice none 0 0] := by rw [← hW5]; exact HX3.out.put4 _ _ _ _
      replace hA : Ahead z r W ps W5 v ([] : List Pt) gw cw (.slice gb (ps ++ ([] : List Pt)).length cb) ((⟨xk, xn, xb, []⟩ : Ex), none, 0) := by rw [← hW5]; exact hA
      rw [hW5]
      have HA : Hid (Ahead z r W ps W5 v ([] : List Pt) gw cw (.slice gb (ps ++ ([] : List Pt)).length cb) ((⟨xk, xn, xb, []⟩ : Ex), none, 0)) := hA
      have b0 := hA.rdr.c1
      have b1 := hA.rdr.frozen 1
      have bl := hA.rdr.lt
      have x0 := hX5.cell 0 _ rfl
      have x1 := hX5.cell 1 _ rfl
      have x2 := hX5.cell 2 _ rfl
      have x3' := hX5.cell 3 _ rfl
      obtain ⟨m, hm⟩ : ∃ m, (ps ++ ([] : List Pt)).length = m := ⟨_, rfl⟩
      have HM : Hid ((ps ++ ([] : List Pt)).length = m) := hm
      have hmm : m + 1 ≤ 4096 := by rw [← hm]; exact HL.out
      rw [hm] at b0
      clear hW5 hA hX5 c0 c1 c2 c3 hf hXl hm HX3
      go_wp2_with fail
      go_region_law
        (refine step_exO rfl _ _ rfl (z + 1) (.slice gb m cb) (ps ++ ([] : List Pt)) ((⟨xk, xn, xb, []⟩ : Ex), none, 0) _ rfl rfl W5.heap.size rfl rfl (by rw [← HM.out]; exact HA.out.body) HA.out.low (by have h1 := HA.out.rdr.lt; omega) (by have h1 := HL.out; omega) ?_; intro g7 k7 w7 hB7 hg7 hx7; have hg7' : (W5.alloc (.cells #[.int .i64 xk, .int .i64 xn, .int .i64 xb, .slice none 0 0] 51)).grownBy w7 (Value.slice gb m cb).ownBlock := hg7; have hx7' := hx7; rw [← HM.out] at hg7' hx7'; have h7 := HA.out.put hB7 hg7' hx7'; have y0 := h7.1.frozen 1; have y1 := h7.1.c1; have yl := h7.1.lt; have H7 : Hid (PartQ _ z r W ps _ _) := h7.2; rw [HM.out] at H7 ⊢; clear hB7 hg7 hx7 h7 hg7' hx7')
      all_goals
        go_wp2_with fail
        go_ret2
        rw [HE2.out]
        exact H7.out
    · have HE2 : Hid (O = none) := by show _ = _; rw [← HO.out, HE.out, hd]
      clear hd
      go_wp2_with fail
      go_ret2
      rw [HE2.out]
      exact ⟨(HK HK3.out).put4 (Nat.le_refl _) _ _ _ _, rfl⟩
theorem part_any : ∀ n, PartSaid n
  | 0 => fun ws ps r W z hn hs hS hL => by
    obtain rfl : ws = [] := List.length_eq_zero_iff.1 (by omega)
    have h := part_walk 0 [] ps r W z (fun h => absurd rfl h) (by simp) hs hS hL
    rw [rp_len0] at h ⊢
    exact h
  | n + 1 => fun ws ps r W z hn hs hS hL => part_walk n ws ps r W z (fun _ => brack_of n (part_any n)) hn hs hS hL
end Go.Proofs.YtgjhpmkahicnkaaGreatDoor

namespace Go.Proofs.YtgjhpmkahicnkaaGreatDoor
open Go.RowKit
set_option linter.unusedVariables false

/-- How readDef ends. -/
def DefQ (o : Option (List Wd × Df)) (z : Nat) (W : World) (e : Ending) (W' : World) : Prop :=
  Kp z none W W' ∧ match o with
  | none => ∃ p g n k, e = .returned (.tuple #[.agg #[.int .i64 p, .slice g n k], .bool false])
  | some (ws', d) => ∃ g c qs r', e = .returned (.tuple #[.agg #[.int .i64 d.params, .slice g d.body.length c], .bool true]) ∧ St W' z ws' qs r' ∧ qs.map (·.1) = d.body ∧ BdO W' W.heap.size (.slice g d.body.length c) qs
theorem DefQ.no {o : Option (List Wd × Df)} {z : Nat} {W W' : World} (h : o = none) (hk : Kp z none W W') (p : Int) (g : Option Addr) (n k : Nat) : DefQ o z W (.returned (.tuple #[.agg #[.int .i64 p, .slice g n k], .bool false])) W' := by subst h; exact ⟨hk, p, g, n, k, rfl⟩
theorem own_not {W : World} {base e size n b : Nat} {v : Value} {xs : List Value} {cs : Array Value} {t : TypeId} (h : W.ownsRow base e size v n xs) (hb : W.heap[b]? = some (.cells cs t (0, 0))) (ht : t ≠ e) : v.ownBlock ≠ some b := by
  rcases h.2 with ⟨rfl, _⟩ | ⟨b', cap, cur, rfl, _, hh, _⟩
  · simp [Value.ownBlock]
  · intro e'
    obtain rfl : b' = b := by simpa [Value.ownBlock] using e'
    have := hb.symm.trans hh
    simp at this
    exact ht this.2
theorem Bx2.kp {z : Nat} {r : Option Nat} {W W' : World} {b : Nat} {p : Int} {v : Value} (h : Bx2 W b p v) (hk : Kp z r W W') (hz : b ≠ z) (hr : some b ≠ r) : Bx2 W' b p v := (hk.block b h.lt hz hr).trans h
theorem BdO.box2 {W : World} {base : Nat} {v : Value} {ps : List Pt} (h : BdO W base v ps) {b : Nat} {p : Int} {u : Value} (hb : Bx2 W b p u) (j : Nat) (x : Value) : BdO (W.setCell ⟨b, j, none⟩ x) base v ps :=
  ⟨own_far h.own (own_not h.own hb (by decide)) _ _, fun q hq => own_far (h.kids q hq) (own_not (h.kids q hq) hb (by decide)) _ _⟩
theorem St.box2 {W : World} {z : Nat} {ws : List Wd} {ps : List Pt} {r : Option Nat} (h : St W z ws ps r) {b : Nat} {p : Int} {u : Value} (hb : Bx2 W b p u) (hz : z < b) (j : Nat) (v : Value) : St (W.setCell ⟨b, j, none⟩ v) z ws ps r := by
  obtain ⟨g, c, bv, h1, h2, h3, h4, h5⟩ := h
  exact ⟨g, c, bv, (Below.heap_setCell W _ _ z (fun e => by have e' : z = b := e; omega)).trans h1, h2.on (fun k hk => Below.heap_setCell W _ _ k (fun e => by have e' : k = b := e; omega)), h3, h4.box2 hb _ _, h5⟩
def put2 (W : World) (b : Nat) (v0 v1 : Value) : World := (W.setCell ⟨b, 0, none⟩ v0).setCell ⟨b, 1, none⟩ v1
theorem Kp.put2 {z : Nat} {r : Option Nat} {W W' : World} (h : Kp z r W W') {b : Nat} (hb : W.heap.size ≤ b) (v0 v1 : Value) : Kp z r W (put2 W' b v0 v1) := (h.far hb 0 v0).far hb 1 v1
theorem St.put2 {W : World} {z : Nat} {ws : List Wd} {ps : List Pt} {r : Option Nat} (h : St W z ws ps r) {b : Nat} {p q : Int} {u : Value} (hb : Bx2 W b p u) (hz : z < b) (v1 : Value) : St (put2 W b (.int .i64 q) v1) z ws ps r :=
  (h.box2 hb hz 0 _).box2 (hb.set0 q) hz 1 v1
theorem BdO.put2 {W : World} {base : Nat} {v : Value} {ps : List Pt} (h : BdO W base v ps) {b : Nat} {p q : Int} {u : Value} (hb : Bx2 W b p u) (v1 : Value) : BdO (put2 W b (.int .i64 q) v1) base v ps :=
  (h.box2 hb 0 _).box2 (hb.set0 q) 1 v1
/-- The reader with an empty body. -/
theorem St.clear {W : World} {z : Nat} {ws : List Wd} {ps : List Pt} {r : Option Nat} (h : St W z ws ps r) : St (W.setCell ⟨z, 1, none⟩ (.slice none 0 0)) z ws [] none := by
  obtain ⟨g, c, bv, h1, h2, h3, h4, h5⟩ := h
  exact ⟨g, c, _, h1.set1 _, h2.on (fun k hk => Below.heap_setCell W _ _ k (fun e => by have e' : k = z := e; omega)), h3, BdO.nil _ _, rfl⟩
theorem St.free {W : World} {z : Nat} {ws : List Wd} {ps : List Pt} {r : Option Nat} (h : St W z ws ps r) (j : Nat) : W.frozen? ⟨z, j, none⟩ = false := by
  obtain ⟨g, c, bv, h1, _⟩ := h
  exact h1.frozen j
theorem St.body {W : World} {z : Nat} {ws : List Wd} {ps : List Pt} {r : Option Nat} (h : St W z ws ps r) : ∃ g c, W.cell? ⟨z, 1, none⟩ = some (.slice g ps.length c) ∧ BdO W (z + 1) (.slice g ps.length c) ps ∧ (Value.slice g ps.length c).ownBlock = r := by
  obtain ⟨g, c, bv, h1, h2, h3, h4, h5⟩ := h
  obtain ⟨gb, cb, rfl⟩ := h4.val
  exact ⟨gb, cb, h1.c1, h4, h5⟩
theorem BdO.rebase {W : World} {b b' : Nat} {v : Value} {ps : List Pt} (h : BdO W b v ps) (hv : ∀ k, v.ownBlock = some k → b' ≤ k) (hk : ∀ p ∈ ps, KdO W b' p) : BdO W b' v ps := ⟨own_rebase h.own hv, hk⟩

theorem rdf_eq {n : Nat} {ws : List Wd} {t1 t2 t3 : Wd} {v1 v2 v3 : List Wd} (h1 : nxt ws = (t1, v1)) (h2 : nxt v1 = (t2, v2)) (h3 : nxt v2 = (t3, v3)) :
    rdf n ws = if t1 = [40] then (if t2 = [100, 101, 102] then (match dg t3 with
      | none => none
      | some x => match rp n v3 [] with
        | none => none
        | some (ws', b) => if (nxt ws').1 = [41] then some ((nxt ws').2, ⟨x, b⟩) else none) else none) else none := by
  cases ws with
  | nil => simp only [nxt, Prod.mk.injEq] at h1; obtain ⟨rfl, rfl⟩ := h1; rfl
  | cons a ws =>
    simp only [nxt, Prod.mk.injEq] at h1; obtain ⟨rfl, rfl⟩ := h1
    cases ws with
    | nil => simp only [nxt, Prod.mk.injEq] at h2; obtain ⟨rfl, rfl⟩ := h2; simp [rdf]
    | cons d ws =>
      simp only [nxt, Prod.mk.injEq] at h2; obtain ⟨rfl, rfl⟩ := h2
      cases ws with
      | nil => simp only [nxt, Prod.mk.injEq] at h3; obtain ⟨rfl, rfl⟩ := h3; simp [rdf, dg_nil]
      | cons p ws =>
        simp only [nxt, Prod.mk.injEq] at h3; obtain ⟨rfl, rfl⟩ := h3
        by_cases ha : a = [40]
        · by_cases hd : d = [100, 101, 102]
          · simp only [rdf, if_pos ha, if_pos hd]
            rcases dg p with _ | x
            · rfl
            · rcases rp n ws [] with _ | ⟨ws', b⟩
              · rfl
              · cases ws' with
                | nil => simp [nxt]
                | cons c ws'' => rfl
          · simp only [rdf, if_pos ha, if_neg hd]
        · simp only [rdf, if_neg ha]

set_option maxHeartbeats 2000000 in
set_option maxRecDepth 100000 in
theorem def_any (n : Nat) (ws : List Wd) (ps : List Pt) (r : Option Nat) (W : World) (z : Nat) (hn : ws.length ≤ n) (hs : Sz ws []) (hS : St W z ws ps r) (hL : LwB z W) :
    Calls Tryz.prog 25 #[ptr z] W fun e W' => DefQ (rdf n ws) z W e W' := by
  have hPart := part_any n
  obtain ⟨O, hO⟩ : ∃ O, rdf n ws = O := ⟨_, rfl⟩
  rw [hO]
  have hzlt := hS.lt
  obtain ⟨W1, hW1⟩ : ∃ W1, W.alloc (.cells #[.int .i64 0, .slice none 0 0] 44) = W1 := ⟨_, rfl⟩
  have hb1 : Below W.heap.size W W1 := by rw [← hW1]; exact (Below.refl _ W).alloc (Nat.le_refl _) _
  have hX1 : Bx2 W1 W.heap.size 0 (.slice none 0 0) := by rw [← hW1]; exact Bx2.new W 0 _
  have hS1 := hS.below hb1
  have HL1 : Hid (LwB z W1) := hL.on (hb1.mono (Nat.le_of_lt hzlt))
  have HX1 : Hid (Bx2 W1 W.heap.size 0 (.slice none 0 0)) := hX1
  have HB1 : Hid (Below W.heap.size W W1 ∧ W.heap.size < W1.heap.size ∧ z < W.heap.size) := ⟨hb1, hX1.lt, hzlt⟩
  have HK : ∀ {W' : World}, Kp z none W1 W' → Kp z none W W' := fun h => (Kp.of_below HB1.out.1).trans (Nx.refl _ _) h
  have HXK : ∀ {W' : World}, Kp z none W1 W' → Bx2 W' W.heap.size 0 (.slice none 0 0) := fun h => HX1.out.kp h (by have := HB1.out.2.2; omega) (by simp)
  have HLK : ∀ {W' : World}, Kp z none W1 W' → LwB z W' := fun h => HL1.out.kp h (fun k e => by cases e) (by have := HB1.out; omega)
  obtain ⟨t1, v1, hx1⟩ : ∃ t v, nxt ws = (t, v) := ⟨_, _, rfl⟩
  obtain ⟨t2, v2, hx2⟩ : ∃ t v, nxt v1 = (t, v) := ⟨_, _, rfl⟩
  obtain ⟨t3, v3, hx3⟩ : ∃ t v, nxt v2 = (t, v) := ⟨_, _, rfl⟩
  have HE := rdf_eq (n := n) hx1 hx2 hx3
  rw [hO] at HE
  have HE : Hid _ := HE
  have HV : Hid (ws.length ≤ 4096 ∧ v1.length ≤ 4096 ∧ v2.length ≤ 4096 ∧ v3.length ≤ n ∧ v3.length + 3 ≤ ws.length + 3 ∧ Sz v3 [] ∧ (Lx.ba t3).size ≤ 140737488355328) := by
    have l1 := nxt_len ws
    have l2 := nxt_len v1
    have l3 := nxt_len v2
    have sf : ∀ ws : List Wd, (nxt ws).2 <:+ ws := fun ws => by
      cases ws with
      | nil => exact List.suffix_refl _
      | cons w ws => exact List.suffix_cons _ _
    have s1 := hs.on (ps' := []) (sf ws) (by omega)
    rw [hx1] at l1 s1
    dsimp only at l1 s1
    have s2 := s1.on (ps' := []) (sf v1) (by omega)
    rw [hx2] at l2 s2
    dsimp only at l2 s2
    have s3 := s2.on (ps' := []) (sf v2) (by omega)
    have s4 := s2.word
    rw [hx3] at l3 s3 s4
    dsimp only at l3 s3 s4
    have h0 := hs.1
    rw [List.length_nil] at h0
    exact ⟨by omega, by omega, by omega, by omega, by omega, s3, s4⟩
  have hcall := next_at hx1 hS1 HV.out.1
  have HT2 : Hid (nxt v1 = (t2, v2)) := hx2
  have HT3 : Hid (nxt v2 = (t3, v3)) := hx3
  clear hO hS hL hS1 hb1 hX1 hzlt hx1 hx2 hx3 hs hn
  go_enter Tryz.func25, Tryz.ntmps25
  go_wp2_with fail
  clear hW1
  refine hcall.mono ?_
  clear hcall
  rintro e w2 ⟨rfl, hS2, hK2⟩
  have HS2 : Hid (St w2 z v1 ps r) := hS2
  have HK2 : Hid (Kp z none W1 w2) := hK2
  clear hS2 hK2
  by_cases hc1 : t1 = [40]
  · have hq1 : ((Lx.ba t1).toList == [40]) = true := by rw [ba_is, hc1]; rfl
    have hq1' : ((Lx.ba t1).toList != [40]) = false := by rw [bne, hq1]; rfl
    have HC1 : Hid (t1 = [40]) := hc1
    clear hc1
    go_wp2_with fail
    refine (next_at HT2.out HS2.out HV.out.2.1).mono ?_
    rintro e w3 ⟨rfl, hS3, hK3⟩
    have HS3 : Hid (St w3 z v2 ps r) := hS3
    have HK3 : Hid (Kp z none W1 w3) := HK2.out.next hK3
    clear hS3 hK3 HS2 HK2
    by_cases hc2 : t2 = [100, 101, 102]
    · have hq2 : ((Lx.ba t2).toList == [100, 101, 102]) = true := by rw [ba_is, hc2]; rfl
      have hq2' : ((Lx.ba t2).toList != [100, 101, 102]) = false := by rw [bne, hq2]; rfl
      have HE1 : Hid (O = match dg t3 with
        | none => none
        | some x => match rp n v3 [] with
          | none => none
          | some (ws', b) => if (nxt ws').1 = [41] then some ((nxt ws').2, ⟨x, b⟩) else none) := by show _ = _; rw [HE.out, if_pos HC1.out, if_pos hc2]
      clear HE hc2
      go_wp2_with fail
      refine (next_at HT3.out HS3.out HV.out.2.2.1).mono ?_
      rintro e w4 ⟨rfl, hS4, hK4⟩
      have HS4 : Hid (St w4 z v3 ps r) := hS4
      have HK4 : Hid (Kp z none W1 w4) := HK3.out.next hK4
      clear hS4 hK4 HS3 HK3
      go_wp2_with fail
      refine (digits_any (Lx.ba t3) w4 HV.out.2.2.2.2.2.2 (HLK HK4.out).lw).mono ?_
      rintro e w5 ⟨hb5, hd⟩
      rw [ba_list] at hd
      have HS5 : Hid (St w5 z v3 ps r) := HS4.out.below hb5
      have HK5 : Hid (Kp z none W1 w5) := HK4.out.next (Kp.of_below hb5)
      clear hb5 HS4 HK4
      cases hg : dg t3 with
      | none =>
        rw [hg] at hd
        subst hd
        have HE2 : Hid (O = none) := by show _ = _; rw [HE1.out, hg]
        clear hg HE1
        have HX := HXK (HK5.out)
        have hXl := HX.lt
        have c0 := HX.c0
        have c1 := HX.c1
        have hf := HX.frozen
        have HKw : Hid (Kp z none W w5) := HK (HK5.out)
        clear HX
        go_wp2_with fail
        refine bodyPost_ret (v := .tuple #[.agg #[.int .i64 0, .slice none 0 0], .bool false]) (by simp [results, Tryz.results25, go_sem, c0, c1]) rfl ?_
        exact DefQ.no HE2.out (HKw.out.put2 (Nat.le_refl _) _ _) _ _ _ _
      | some x =>
        rw [hg] at hd
        subst hd
        have HE2 : Hid (O = match rp n v3 [] with
          | none => none
          | some (ws', b) => if (nxt ws').1 = [41] then some ((nxt ws').2, ⟨x, b⟩) else none) := by show _ = _; rw [HE1.out, hg]
        have hzf := HS5.out.free 1
        obtain ⟨gb5, cb5, hz5, _⟩ := HS5.out.body
        have hzl := HS5.out.lt
        clear hg HE1
        go_wp2_with fail
        obtain ⟨w6, hw6⟩ : ∃ w6, w5.setCell ⟨z, 1, none⟩ (.slice none 0 0) = w6 := ⟨_, rfl⟩
        have HS6 : Hid (St w6 z v3 [] none) := by rw [← hw6]; exact HS5.out.clear
        have HK6 : Hid (Kp z none W1 w6) := by rw [← hw6]; exact HK5.out.next (Kp.of_set _ _ _ _ _)
        rw [hw6]
        clear hw6 hz5 hzf hzl HS5 HK5
        refine (hPart v3 [] none w6 z HV.out.2.2.2.1 HV.out.2.2.2.2.2.1 HS6.out (HLK HK6.out)).mono ?_
        rintro e w7 ⟨hK7, hQ⟩
        have HK7 : Hid (Kp z none W1 w7) := HK6.out.next hK7
        clear hK7
        simp only [List.map_nil, List.nil_append] at hQ
        cases hp : rp n v3 [] with
        | none =>
          rw [hp] at hQ
          subst hQ
          have HE3 : Hid (O = none) := by show _ = _; rw [HE2.out, hp]
          clear hp HE2
          have HE2 := HE3
          have HX := HXK (HK7.out)
          have hXl := HX.lt
          have c0 := HX.c0
          have c1 := HX.c1
          have hf := HX.frozen
          have HKw : Hid (Kp z none W w7) := HK (HK7.out)
          clear HX
          go_wp2_with fail
          refine bodyPost_ret (v := .tuple #[.agg #[.int .i64 0, .slice none 0 0], .bool false]) (by simp [results, Tryz.results25, go_sem, c0, c1]) rfl ?_
          exact DefQ.no HE2.out (HKw.out.put2 (Nat.le_refl _) _ _) _ _ _ _
        | some y =>
          obtain ⟨ws7, b7⟩ := y
          rw [hp] at hQ
          obtain ⟨rfl, qs, r7, hS7, hm7, hf7, hN7⟩ := hQ
          obtain ⟨t7, v7, hx7⟩ : ∃ t v, nxt ws7 = (t, v) := ⟨_, _, rfl⟩
          have HT7 : Hid (nxt ws7 = (t7, v7)) := hx7
          have HE3 : Hid (O = if t7 = [41] then some (v7, ⟨x, b7⟩) else none) := by show _ = _; rw [HE2.out, hp]; dsimp only; rw [hx7]
          have HH : Hid (St w7 z ws7 qs r7 ∧ qs.map (·.1) = b7 ∧ (∀ q ∈ qs, KdO w7 w6.heap.size q) ∧ Nx w6 none r7 ∧ ws7.length ≤ 4096) := ⟨hS7, hm7, hf7, hN7, by have h1 := (rp_gd n _ _ _ _ hp).2.1; have h2 := HV.out; omega⟩
          obtain ⟨kid, hkid⟩ : ∃ kid, lastAt b7 = kid := ⟨_, rfl⟩
          rw [hkid]
          clear hp HE2 hS7 hm7 hf7 hN7 hx7 hkid
          go_wp2_with fail
          refine (next_at HT7.out HH.out.1 HH.out.2.2.2.2).mono ?_
          rintro e w8 ⟨rfl, hS8, hK8⟩
          have HK8 : Hid (Kp z none W1 w8) := HK7.out.next hK8
          by_cases hc7 : t7 = [41]
          · have hq7 : ((Lx.ba t7).toList == [41]) = true := by rw [ba_is, hc7]; rfl
            have hq7' : ((Lx.ba t7).toList != [41]) = false := by rw [bne, hq7]; rfl
            have HE2 : Hid (O = some (v7, ⟨x, b7⟩)) := by show _ = _; rw [HE3.out, if_pos hc7]
            obtain ⟨g8, c8, z1, hB8, ho8⟩ := hS8.body
            have hl8 : qs.length = b7.length := by rw [← HH.out.2.1, List.length_map]
            rw [hl8] at z1 hB8 ho8
            have hf8 : ∀ q ∈ qs, KdO w8 w6.heap.size q := fun q hq => hK8.own (HH.out.2.2.1 q hq) HS6.out.lt (by
              cases (Value.slice q.2.1 q.1.kids.length q.2.2).ownBlock with
              | none => exact .inl rfl
              | some k => exact .inr (by simp))
            have hlow : W.heap.size ≤ w6.heap.size := Nat.le_trans (Nat.le_of_lt HB1.out.2.1) HK6.out.size
            have hB : BdO w8 W.heap.size (.slice g8 b7.length c8) qs := hB8.rebase (fun k hk => by
              rcases HH.out.2.2.2.1 with h | h
              · rw [h] at ho8; rw [ho8] at hk; cases hk
              · rw [ho8] at hk; exact Nat.le_trans hlow (h k hk)) (fun q hq => Lx.own_base (hf8 q hq) hlow)
            have HB8 : Hid (BdO w8 W.heap.size (.slice g8 b7.length c8) qs ∧ St w8 z v7 qs r7 ∧ qs.map (·.1) = b7) := ⟨hB, hS8, HH.out.2.1⟩
            have HXb : Hid (Bx2 w8 W.heap.size 0 (.slice none 0 0)) := HXK HK8.out
            have hzl := hS8.lt
            clear hB hS8 hf8 hB8 ho8 hl8 hK8 HE3 hc7 HH
            have HX := HXK (HK8.out)
            have hXl := HX.lt
            have c0 := HX.c0
            have c1 := HX.c1
            have hf := HX.frozen
            have HKw : Hid (Kp z none W w8) := HK (HK8.out)
            clear HX
            go_wp2_with fail
            refine bodyPost_ret (v := .tuple #[.agg #[.int .i64 x, .slice g8 b7.length c8], .bool true]) (by simp [results, Tryz.results25, go_sem, c0, c1]) rfl ?_
            refine ⟨?_, ?_⟩
            · exact HKw.out.put2 (Nat.le_refl _) _ _
            · rw [HE2.out]
              exact ⟨g8, c8, qs, r7, rfl, HB8.out.2.1.put2 HXb.out HB1.out.2.2 _, HB8.out.2.2, HB8.out.1.put2 HXb.out _⟩
          · have hq7 : ((Lx.ba t7).toList == [41]) = false := by rw [ba_is]; simpa using hc7
            have hq7' : ((Lx.ba t7).toList != [41]) = true := by rw [bne, hq7]; rfl
            have HE2 : Hid (O = none) := by show _ = _; rw [HE3.out, if_neg hc7]
            clear hS8 hK8 HE3 hc7 HH
            have HX := HXK (HK8.out)
            have hXl := HX.lt
            have c0 := HX.c0
            have c1 := HX.c1
            have hf := HX.frozen
            have HKw : Hid (Kp z none W w8) := HK (HK8.out)
            clear HX
            go_wp2_with fail
            refine bodyPost_ret (v := .tuple #[.agg #[.int .i64 0, .slice none 0 0], .bool false]) (by simp [results, Tryz.results25, go_sem, c0, c1]) rfl ?_
            exact DefQ.no HE2.out (HKw.out.put2 (Nat.le_refl _) _ _) _ _ _ _

    · have hq2 : ((Lx.ba t2).toList == [100, 101, 102]) = false := by rw [ba_is]; simpa using hc2
      have hq2' : ((Lx.ba t2).toList != [100, 101, 102]) = true := by rw [bne, hq2]; rfl
      have HE2 : Hid (O = none) := by show _ = _; rw [HE.out, if_pos HC1.out, if_neg hc2]
      clear HE hc2
      have HX := HXK (HK3.out)
      have hXl := HX.lt
      have c0 := HX.c0
      have c1 := HX.c1
      have hf := HX.frozen
      have HKw : Hid (Kp z none W w3) := HK (HK3.out)
      clear HX
      go_wp2_with fail
      refine bodyPost_ret (v := .tuple #[.agg #[.int .i64 0, .slice none 0 0], .bool false]) (by simp [results, Tryz.results25, go_sem, c0, c1]) rfl ?_
      exact DefQ.no HE2.out (HKw.out.put2 (Nat.le_refl _) _ _) _ _ _ _

  · have hq1 : ((Lx.ba t1).toList == [40]) = false := by rw [ba_is]; simpa using hc1
    have hq1' : ((Lx.ba t1).toList != [40]) = true := by rw [bne, hq1]; rfl
    have HE2 : Hid (O = none) := by show _ = _; rw [HE.out, if_neg hc1]
    clear HE hc1
    have HX := HXK (HK2.out)
    have hXl := HX.lt
    have c0 := HX.c0
    have c1 := HX.c1
    have hf := HX.frozen
    have HKw : Hid (Kp z none W w2) := HK (HK2.out)
    clear HX
    go_wp2_with fail
    refine bodyPost_ret (v := .tuple #[.agg #[.int .i64 0, .slice none 0 0], .bool false]) (by simp [results, Tryz.results25, go_sem, c0, c1]) rfl ?_
    exact DefQ.no HE2.out (HKw.out.put2 (Nat.le_refl _) _ _) _ _ _ _

end Go.Proofs.YtgjhpmkahicnkaaGreatDoor

namespace Go.Proofs.YtgjhpmkahicnkaaGreatDoor
open Go.RowKit
set_option linter.unusedVariables false

/-! Rows of parts and numbers beside the reader's box. -/
theorem NumsT.off {W W' : World} {z : Nat} {g : Option Addr} {ks : List Int} {u v : Value} (h : NumsT W g ks) (hr : Rdr W z u v) (hk : Kp z none W W') : NumsT W' g ks := by
  rcases h with h | ⟨b, cs, h1, h2, h3⟩
  · exact Or.inl h
  · refine Or.inr ⟨b, cs, h1, (hk.block b (Array.getElem?_eq_some_iff.1 h2).1 (fun e => ?_) (by simp)).trans h2, h3⟩
    subst e
    have := h2.symm.trans hr
    simp at this
theorem ExsT.off {W W' : World} {z : Nat} {g : Option Addr} {xs : List Ex} {u v : Value} (h : ExsT W g xs) (hr : Rdr W z u v) (hk : Kp z none W W') : ExsT W' g xs := by
  rcases h with h | ⟨b, cs, h1, h2, h3⟩
  · exact Or.inl h
  · refine Or.inr ⟨b, cs, h1, (hk.block b h2.lt (fun e => ?_) (by simp)).trans h2, fun j x hx => ?_⟩
    · subst e
      have := (show W.heap[b]? = _ from h2).symm.trans hr
      simp at this
    · obtain ⟨gk, ck, a0, a1, a2, a3, a4, a5⟩ := h3 j x hx
      exact ⟨gk, ck, a0, a1, a2, a3, a4.off hr hk, a5⟩
theorem Pd.off {W W' : World} {base z : Nat} {v a b : Value} {qs : List Dt} (h : Pd W base v qs) (hr : Rdr W z a b) (hk : Kp z none W W') (hz : z < base) : Pd W' base v qs := by
  refine ⟨hk.own h.own hz ?_, fun q hq => (h.bodies q hq).off hr hk⟩
  cases v.ownBlock with
  | none => exact .inl rfl
  | some k => exact .inr (by simp)
theorem St.rdr {W : World} {z : Nat} {ws : List Wd} {ps : List Pt} {r : Option Nat} (h : St W z ws ps r) : ∃ u v, Rdr W z u v := by
  obtain ⟨g, c, bv, h1, _⟩ := h
  exact ⟨_, _, h1⟩
/-- Whatever is appended to a row of definitions, or put into a program's box, the reader stays. -/
theorem St.grown {W W' : World} {z : Nat} {ws : List Wd} {ps : List Pt} {r row : Option Nat} (h : St W z ws ps r) (hg : W.grownBy W' row) (hr : Only36 W row) (hz : ∀ k, row = some k → z < k) : St W' z ws ps r := by
  have hlt := h.lt
  obtain ⟨g, c, bv, h1, h2, h3, h4, h5⟩ := h
  have keep : ∀ {base e size n : Nat} {u : Value} {xs : List Value}, e ≠ 44 → W.ownsRow base e size u n xs → W'.ownsRow base e size u n xs := fun {base e size n u xs} he ho => by
    refine ho.kept hg ?_
    cases hu : u.ownBlock with
    | none => exact .inl rfl
    | some k =>
      right
      intro e'
      rcases ho.2 with ⟨rfl, _⟩ | ⟨b, cap, cur, rfl, _, hb, _⟩
      · cases hu
      · cases hu
        exact only_ne hr hb he e'
  exact ⟨g, c, bv, (hg.block z hlt (fun e => by have := hz z e.symm; omega)).trans h1, h2.on (fun k hk => hg.block k (by omega) (fun e => by have := hz k e.symm; omega)), h3, ⟨keep (by decide) h4.own, fun p hp => keep (by decide) (h4.kids p hp)⟩, h5⟩
theorem WTx.box1 {W : World} {z : Nat} {g : Option Addr} {ws : List Wd} (h : WTx W z g ws) {b : Nat} {gb : Option Addr} {nb cb : Nat} (hb : Bx1 W b (.slice gb nb cb)) (j : Nat) (v : Value) : WTx (W.setCell ⟨b, j, none⟩ v) z g ws := by
  cases ws with
  | nil => exact Or.inl rfl
  | cons w ws =>
    rcases h with h | ⟨bk, o, h1, h2, h3⟩
    · cases h
    · have hne : bk ≠ b := by
        rintro rfl
        have h4 := h3 0 w rfl
        unfold World.cell? at h4
        simp only [show W.heap[bk]? = _ from hb] at h4
        obtain ⟨h5, h6⟩ := Array.getElem?_eq_some_iff.1 h4
        have h7 : o + 0 = 0 := by
          have h8 : o + 0 < 1 := h5
          omega
        simp [h7] at h6
      refine Or.inr ⟨bk, o, h1, h2, fun i x hx => ?_⟩
      rw [← h3 i x hx]
      unfold World.cell?
      simp only [Below.heap_setCell W ⟨b, j, none⟩ v bk hne]
theorem St.box1 {W : World} {z : Nat} {ws : List Wd} {ps : List Pt} {r : Option Nat} (h : St W z ws ps r) {b : Nat} {gb : Option Addr} {nb cb : Nat} (hb : Bx1 W b (.slice gb nb cb)) (j : Nat) (v : Value) : St (W.setCell ⟨b, j, none⟩ v) z ws ps r := by
  obtain ⟨g, c, bv, h1, h2, h3, h4, h5⟩ := h
  have hz : z ≠ b := by
    rintro rfl
    have := (show W.heap[z]? = _ from hb).symm.trans h1
    simp at this
  exact ⟨g, c, bv, (Below.heap_setCell W _ _ z (fun e => hz e)).trans h1, h2.box1 hb j v, h3, ⟨own_far h4.own (own_not h4.own hb (by decide)) _ _, fun p hp => own_far (h4.kids p hp) (own_not (h4.kids p hp) hb (by decide)) _ _⟩, h5⟩
theorem Bx1.kp {z : Nat} {r : Option Nat} {W W' : World} {b : Nat} {v : Value} (h : Bx1 W b v) (hk : Kp z r W W') (hz : b ≠ z) (hr : some b ≠ r) : Bx1 W' b v := (hk.block b h.lt hz hr).trans h
theorem Bx1.far {W : World} {b : Nat} {v : Value} (h : Bx1 W b v) {b' : Nat} (hne : b ≠ b') (j : Nat) (u : Value) : Bx1 (W.setCell ⟨b', j, none⟩ u) b v := (Below.heap_setCell W _ _ b hne).trans h

/-- How readProgram ends. -/
def ProgQ (o : Option (List Df)) (w : World) (e : Ending) (w' : World) : Prop :=
  Below w.heap.size w w' ∧ match o with
  | none => e = .returned (.tuple #[.agg #[.slice none 0 0], .bool false])
  | some ds => ∃ g c qs, e = .returned (.tuple #[.agg #[.slice g ds.length c], .bool true]) ∧ qs.map (·.1) = ds ∧ Pd w' w.heap.size (.slice g ds.length c) qs
/-- What stands ahead of each definition. -/
structure Rpl (w : World) (wr : World) (ws : List Wd) (ps : List Pt) (r : Option Nat) (g : Option Addr) (c : Nat) (qs : List Dt) : Prop where
  st : St wr (w.heap.size + 2) ws ps r
  pd : Pd wr (w.heap.size + 3) (.slice g qs.length c) qs
  box : Bx1 wr (w.heap.size + 1) (.slice g qs.length c)
  out : Bx1 wr w.heap.size (.slice none 0 0)
  low : Below w.heap.size w wr
  few : qs.length + ws.length ≤ 4096
theorem Rpl.words {w wr : World} {ws : List Wd} {ps : List Pt} {r : Option Nat} {g : Option Addr} {c : Nat} {qs : List Dt} (h : Rpl w wr ws ps r g c qs) : ∃ g' c', wr.cell? ⟨w.heap.size + 2, 0, none⟩ = some (.slice g' ws.length c') := h.st.words
theorem Kp.low {w W W' : World} {z : Nat} (h : Below w.heap.size w W) (hk : Kp z none W W') (hz : w.heap.size ≤ z) : Below w.heap.size w W' :=
  ⟨hk.os.trans h.os, hk.tape.trans h.tape, hk.output.trans h.output, Nat.le_trans h.size hk.size, fun k hk' => (hk.block k (Nat.lt_of_lt_of_le hk' h.size) (by omega) (by simp)).trans (h.block k hk')⟩
/-- A definition has been read. -/
theorem Rpl.read {w wr w2 : World} {ws ws2 : List Wd} {ps qs2 : List Pt} {r r2 : Option Nat} {g g2 : Option Addr} {c c2 : Nat} {qs : List Dt} {d : Df} (h : Rpl w wr ws ps r g c qs) (hK : Kp (w.heap.size + 2) none wr w2)
    (hS : St w2 (w.heap.size + 2) ws2 qs2 r2) (hm : qs2.map (·.1) = d.body) (hB : BdO w2 wr.heap.size (.slice g2 d.body.length c2) qs2) (hl : ws2.length < ws.length) :
    Pd w2 (w.heap.size + 3) (.slice g qs.length c) qs ∧ ExsT w2 g2 d.body ∧ Bx1 w2 (w.heap.size + 1) (.slice g qs.length c) ∧ Bx1 w2 w.heap.size (.slice none 0 0) ∧ Below w.heap.size w w2 ∧ St w2 (w.heap.size + 2) ws2 qs2 r2 ∧ qs.length + 1 + ws2.length ≤ 4096 ∧ w.heap.size + 3 ≤ w2.heap.size := by
  obtain ⟨u, v, hr⟩ := h.st.rdr
  have hlen : qs2.length = d.body.length := by rw [← hm, List.length_map]
  rw [← hlen] at hB
  have hE := hB.exsT
  rw [hm] at hE
  have hz := hS.lt
  have hf := h.few
  exact ⟨h.pd.off hr hK (by omega), hE, h.box.kp hK (by omega) (by simp), h.out.kp hK (by omega) (by simp), Kp.low h.low hK (by omega), hS, by omega, by omega⟩
/-- The definition has been put behind the others. -/
theorem Rpl.put {w w2 w3 : World} {ws2 : List Wd} {qs2 : List Pt} {r2 : Option Nat} {g g2 g3 : Option Addr} {c c2 c3 : Nat} {qs : List Dt} {d : Df} {o o' : Obj}
    (h : Pd w2 (w.heap.size + 3) (.slice g qs.length c) qs ∧ ExsT w2 g2 d.body ∧ Bx1 w2 (w.heap.size + 1) (.slice g qs.length c) ∧ Bx1 w2 w.heap.size (.slice none 0 0) ∧ Below w.heap.size w w2 ∧ St w2 (w.heap.size + 2) ws2 qs2 r2 ∧ qs.length + 1 + ws2.length ≤ 4096 ∧ w.heap.size + 3 ≤ w2.heap.size)
    (hP : Pd w3 (w.heap.size + 3) (.slice g3 (qs ++ [(d, g2, c2)]).length c3) (qs ++ [(d, g2, c2)])) (hg : ((w2.alloc o).alloc o').grownBy w3 (Value.slice g qs.length c).ownBlock) :
    Bx1 w3 (w.heap.size + 1) (.slice g qs.length c) ∧ Rpl w (w3.setCell ⟨w.heap.size + 1, 0, none⟩ (.slice g3 (qs ++ [(d, g2, c2)]).length c3)) ws2 qs2 r2 g3 c3 (qs ++ [(d, g2, c2)]) := by
  obtain ⟨h1, h2, h3, h4, h5, h6, h7, h8⟩ := h
  have hb : Below w2.heap.size w2 ((w2.alloc o).alloc o') := ((Below.refl _ w2).alloc (Nat.le_refl _) o).alloc (by simp) o'
  have hP2 := h1.on hb
  have hrow : ∀ k, (Value.slice g qs.length c).ownBlock = some k → w.heap.size + 3 ≤ k := fun k hk => (h1.own.lt k hk).1
  have ho : Only36 ((w2.alloc o).alloc o') (Value.slice g qs.length c).ownBlock := only_own hP2.own
  have b1 : Bx1 w3 (w.heap.size + 1) (.slice g qs.length c) := (h3.on hb).kept hg (hP2.not_box (h3.on hb))
  have b0 : Bx1 w3 w.heap.size (.slice none 0 0) := (h4.on hb).kept hg (hP2.not_box (h4.on hb))
  have s1 := ((h6.below hb).grown hg ho (fun k hk => by have := hrow k hk; omega)).box1 b1 0 (.slice g3 (qs ++ [(d, g2, c2)]).length c3)
  have hl : Below w.heap.size w w3 := (h5.trans (hb.mono (by omega))).grown hg (by have := hb.size; omega) (fun k hk => by have := hrow k hk; omega)
  refine ⟨b1, s1, hP.far b1 0 _, b1.set0 _, b0.far (by omega) 0 _, hl.setCell (p := ⟨w.heap.size + 1, 0, none⟩) (Nat.le_succ _) _, ?_⟩
  rw [List.length_append, List.length_singleton]; omega

theorem rdf_gd {n : Nat} {ws ws' : List Wd} {d : Df} (h : rdf n ws = some (ws', d)) : ws' <:+ ws ∧ ws'.length < ws.length := by
  obtain ⟨t1, v1, hx1⟩ : ∃ t v, nxt ws = (t, v) := ⟨_, _, rfl⟩
  obtain ⟨t2, v2, hx2⟩ : ∃ t v, nxt v1 = (t, v) := ⟨_, _, rfl⟩
  obtain ⟨t3, v3, hx3⟩ : ∃ t v, nxt v2 = (t, v) := ⟨_, _, rfl⟩
  have l1 := nxt_len ws
  have l2 := nxt_len v1
  have l3 := nxt_len v2
  have sf : ∀ ws : List Wd, (nxt ws).2 <:+ ws := fun ws => by
    cases ws with
    | nil => exact List.suffix_refl _
    | cons w ws => exact List.suffix_cons _ _
  have s1 := sf ws
  have s2 := sf v1
  have s3 := sf v2
  rw [rdf_eq hx1 hx2 hx3] at h
  rw [hx1] at l1 s1
  rw [hx2] at l2 s2
  rw [hx3] at l3 s3
  dsimp only at l1 l2 l3 s1 s2 s3
  split at h
  · split at h
    · split at h
      · cases h
      · split at h
        · cases h
        · rename_i ws1 b1 h1
          split at h
          · cases h
            obtain ⟨g1, g2, _⟩ := rp_gd n _ _ _ _ h1
            have l4 := nxt_len ws1
            exact ⟨(((sf ws1).trans g1).trans s3).trans (s2.trans s1), by omega⟩
          · cases h
    · cases h
  · cases h
theorem rpg_end {n m : Nat} {ds : List Df} (h : 0 < m) : rpg n m ds [] = some ds := by
  cases m with
  | zero => omega
  | succ m => rfl
theorem rpg_no {n m : Nat} {ds : List Df} {w : Wd} {ws : List Wd} (h : rdf n (w :: ws) = none) : rpg n m ds (w :: ws) = none := by
  cases m with
  | zero => rfl
  | succ m => rw [rpg, h]
theorem rpg_on {n m : Nat} {ds : List Df} {w : Wd} {ws ws' : List Wd} {d : Df} (h : rdf n (w :: ws) = some (ws', d)) : rpg n (m + 1) ds (w :: ws) = rpg n m (ds ++ [d]) ws' := by
  rw [rpg, h]

set_option maxHeartbeats 2000000 in
set_option maxRecDepth 100000 in
theorem prog_any (n m0 : Nat) (g : Option Addr) (c : Nat) (ws : List Wd) (w : World) (hn : ws.length ≤ n) (hm0 : ws.length < m0) (hs : Sz ws []) (hc : ws.length ≤ c) (hT : WTx w w.heap.size g ws) (hL : Lw w) :
    Calls Tryz.prog 13 #[.slice g ws.length c] w fun e w' => ProgQ (rpg n m0 [] ws) w e w' := by
  obtain ⟨O, hO⟩ : ∃ O, rpg n m0 [] ws = O := ⟨_, rfl⟩
  rw [hO]
  have HL : Hid (LwB w.heap.size w) := fun W' h => hL.on h
  have HO : Hid (rpg n m0 [] ws = O) := hO
  have HS0 : Hid (Sz ws []) := hs
  have HI : Hid (Rpl w (((w.alloc (.cells #[.slice none 0 0] 25)).alloc (.cells #[.slice none 0 0] 25)).alloc (.cells #[.slice g ws.length c, .slice none 0 0] 61)) ws [] none none 0 []) := by
    have hb : Below w.heap.size w (((w.alloc (.cells #[.slice none 0 0] 25)).alloc (.cells #[.slice none 0 0] 25)).alloc (.cells #[.slice g ws.length c, .slice none 0 0] 61)) := (((Below.refl _ w).alloc (Nat.le_refl _) _).alloc (by simp) _).alloc (by simp; omega) _
    have h3 := World.alloc_heap_new ((w.alloc (.cells #[.slice none 0 0] 25)).alloc (.cells #[.slice none 0 0] 25)) (.cells #[.slice g ws.length c, .slice none 0 0] 61)
    rw [World.size_alloc, World.size_alloc] at h3
    have h2 := Bx1.new (w.alloc (.cells #[.slice none 0 0] 25)) (.slice none 0 0)
    rw [World.size_alloc] at h2
    refine ⟨⟨g, c, _, h3, ?_, hc, BdO.nil _ _, rfl⟩, Pd.nil _ _, h2.alloc _, ((Bx1.new w _).alloc _).alloc _, hb, by have := hs.1; simp at this ⊢; omega⟩
    rcases hT.on (fun k hk => hb.block k hk) with h | ⟨bk, o, e1, e2, e3⟩
    · exact Or.inl h
    · exact Or.inr ⟨bk, o, e1, by omega, e3⟩
  clear hO hs hT hL hc
  go_enter Tryz.func13, Tryz.ntmps13
  go_wp2_with fail
  obtain ⟨W3, hW3⟩ : ∃ W3, ((w.alloc (.cells #[.slice none 0 0] 25)).alloc (.cells #[.slice none 0 0] 25)).alloc (.cells #[.slice g ws.length c, .slice none 0 0] 61) = W3 := ⟨_, rfl⟩
  rw [hW3] at HI ⊢
  clear hW3
  go_loopw [6, 7] (fun _ _ wr => ∃ (ws1 : List Wd) (ps1 : List Pt) (r1 : Option Nat) (g1 : Option Addr) (c1 : Nat) (qs1 : List Dt) (m1 : Nat), Hid (Rpl w wr ws1 ps1 r1 g1 c1 qs1) ∧ Hid (ws1.length ≤ n ∧ ws1.length < m1 ∧ ws1 <:+ ws ∧ rpg n m1 (qs1.map (·.1)) ws1 = O))
    (fun _ _ wr => leftOf (w.heap.size + 2) wr)
  case atStart => exact ⟨ws, [], none, none, 0, [], m0, HI, ⟨hn, hm0, List.suffix_refl _, HO.out⟩⟩
  case round =>
    clear HI HO hn hm0
    obtain ⟨ws1, ps1, r1, g1, c1, qs1, m1, HR, HN⟩ := hrel
    have p0 := HR.out.box.c0
    have pf := HR.out.box.frozen 0
    have o0 := HR.out.out.c0
    have of := HR.out.out.frozen 0
    have hlt := HR.out.st.lt
    cases ws1 with
    | nil =>
      obtain ⟨gw, cw, c0⟩ := HR.out.words
      rw [List.length_nil] at c0
      have HE : Hid (O = some (qs1.map (·.1))) := by show _ = _; rw [← HN.out.2.2.2, rpg_end HN.out.2.1]
      go_wp2_with fail
      refine bodyPost_ret (v := .tuple #[.agg #[.slice g1 qs1.length c1], .bool true]) (by simp [results, Tryz.results13, go_sem, o0]) rfl ?_
      refine ⟨HR.out.low.setCell (p := ⟨w.heap.size, 0, none⟩) (Nat.le_refl _) _, ?_⟩
      rw [HE.out]
      have hp := HR.out.pd.far HR.out.out 0 (.slice g1 qs1.length c1)
      refine ⟨g1, c1, qs1, by simp, rfl, ?_⟩
      rw [List.length_map]
      exact ⟨own_rebase hp.own (fun k hk => by have := (hp.own.lt k hk).1; omega), hp.bodies⟩
    | cons w1 ws1 =>
      obtain ⟨gw, cw, c0⟩ := HR.out.words
      rw [List.length_cons] at c0
      have hl0 : (0 : Int) < (ws1.length : Int) + 1 := by omega
      have hcall := def_any n (w1 :: ws1) ps1 r1 wr (w.heap.size + 2) HN.out.1 (HS0.out.on HN.out.2.2.1 (by have := HN.out.2.2.1.length_le; simp at this ⊢; omega)) HR.out.st (fun X hX => HL.out X (HR.out.low.trans (hX.mono (by omega))))
      go_wp2_with fail
      refine hcall.mono ?_
      rintro e w2 ⟨hK, hQ⟩
      cases hp : rdf n (w1 :: ws1) with
      | none =>
        rw [hp] at hQ
        obtain ⟨p2, g2, n2, k2, rfl⟩ := hQ
        have HE : Hid (O = none) := by show _ = _; rw [← HN.out.2.2.2, rpg_no hp]
        have o2 := HR.out.out.kp hK (by omega) (by simp)
        have o0 := o2.c0
        have of := o2.frozen 0
        have ol := o2.lt
        have HLW : Hid (Below w.heap.size w w2) := Kp.low HR.out.low hK (by omega)
        clear hp hcall c0 p0 pf o2
        go_wp2_with fail
        refine bodyPost_ret (v := .tuple #[.agg #[.slice none 0 0], .bool false]) (by simp [results, Tryz.results13, go_sem, o0, ol]) rfl ?_
        refine ⟨(HLW.out.setCell (p := ⟨w.heap.size, 0, none⟩) (Nat.le_refl _) _).alloc (by have := HLW.out.size; simp; omega) _, ?_⟩
        rw [HE.out]
      | some y =>
        obtain ⟨ws2, d⟩ := y
        rw [hp] at hQ
        obtain ⟨g2, c2, qs2, r2, rfl, hS2, hm2, hB2⟩ := hQ
        obtain ⟨gd1, gd2⟩ := rdf_gd hp
        have HH : Hid _ := HR.out.read hK hS2 hm2 hB2 gd2
        have HN2 : Hid (ws2.length ≤ n ∧ ws2.length < m1 - 1 ∧ ws2 <:+ ws ∧ rpg n (m1 - 1) (qs1.map (·.1) ++ [d]) ws2 = O ∧ ws2.length < ws1.length + 1) := by
          obtain ⟨h1, h2, h3, h4⟩ := HN.out
          simp only [List.length_cons] at h1 h2 gd2
          obtain ⟨m', rfl⟩ : ∃ m', m1 = m' + 1 := ⟨m1 - 1, by omega⟩
          rw [rpg_on hp] at h4
          rw [Nat.add_sub_cancel]
          exact ⟨by omega, by omega, gd1.trans h3, h4, by omega⟩
        have p0 := HH.out.2.2.1.c0
        have hlt2 := HH.out.2.2.1.lt
        have hlen : (qs1.length + 1) * 32 ≤ 140737488355328 := by have := HH.out.2.2.2.2.2.2.1; omega
        have HLF : Hid (leftOf (w.heap.size + 2) wr = ws1.length + 1) := HR.out.st.left
        clear hp hcall c0 pf o0 of hK hS2 hm2 hB2 gd1 gd2 HR HN hlt
        go_wp2_with (at_builtin; refine app_df rfl _ _ rfl (w.heap.size + 3) (.slice g1 qs1.length c1) qs1 (d, g2, c2) _ rfl rfl (w2.heap.size + 1) (by simp) rfl (HH.out.1.alloc _) (HH.out.2.1.alloc _) (by have := HH.out.2.2.2.2.2.2.2; simp; omega) hlen ?_)
        intro v3 w3 hP3 hg3
        obtain ⟨g3, k3, rfl⟩ := hP3.val
        obtain ⟨hb3, hR3⟩ := Rpl.put HH.out hP3 hg3
        have HR3 : Hid _ := hR3
        have q0 := hb3.c0
        have qf := hb3.frozen 0
        have ql := hb3.lt
        have hl3 : (qs1 ++ [((d, g2, c2) : Dt)]).length = qs1.length + 1 := by rw [List.length_append]; rfl
        rw [hl3] at HR3 ⊢
        clear hP3 hg3 hb3 hR3 HH hl3
        go_wp2_with fail
        go_roundw
        case rel => exact ⟨ws2, qs2, r2, g3, k3, qs1 ++ [(d, g2, c2)], m1 - 1, HR3, ⟨HN2.out.1, HN2.out.2.1, HN2.out.2.2.1, by rw [List.map_append]; exact HN2.out.2.2.2.1⟩⟩
        case measure =>
          rw [HR3.out.st.left, HLF.out]
          exact HN2.out.2.2.2.2
end Go.Proofs.YtgjhpmkahicnkaaGreatDoor

namespace Go.Proofs.YtgjhpmkahicnkaaGreatDoor
open Go.RowKit
set_option linter.unusedVariables false

/-- A program's value. -/
abbrev pV (g : Option Addr) (n c : Nat) : Value := .agg #[.slice g n c]
/-- How Parse ends. -/
def ParseQ (o : Option (List Df)) (w : World) (e : Ending) (w' : World) : Prop :=
  Below w.heap.size w w' ∧ match o with
  | none => e = .returned (.tuple #[pV none 0 0, .int .i64 700])
  | some ds => ∃ g c qs, e = .returned (.tuple #[pV g ds.length c, .int .i64 0]) ∧ qs.map (·.1) = ds ∧ Pd w' w.heap.size (.slice g ds.length c) qs
theorem ParseQ.no {o : Option (List Df)} {w w' : World} (h : o = none) (hb : Below w.heap.size w w') : ParseQ o w (.returned (.tuple #[pV none 0 0, .int .i64 700])) w' := by subst h; exact ⟨hb, rfl⟩
theorem sz_words {s : List UInt8} (h : Lx.good s = true) : Sz (Lx.wd false [] s) [] ∧ (Lx.wd false [] s).length ≤ 2048 := by
  have hl : s.length ≤ 2048 := by
    unfold Lx.good at h
    simp at h
    exact h.1
  have h1 := Lx.wd_short s
  refine ⟨⟨by simp; omega, fun x hx => ?_⟩, by omega⟩
  have := (Lx.wd_shape s false [] (by simp) x hx).2.1
  simp at this; omega
theorem wtx_own {w : World} {B : Nat} {g : Option Addr} {n c : Nat} {ks : List Wd} (h : w.ownsRow B 9 1 (.slice g n c) ks.length (ks.map Lx.S)) : WTx w w.heap.size g ks ∧ ks.length ≤ c := by
  rcases h.2 with ⟨_, h3⟩ | ⟨b, cap, cur, hv, _, hh, hc, _⟩
  · rw [h3]; exact ⟨Or.inl (List.length_eq_zero_iff.1 h3), Nat.zero_le _⟩
  · simp at hv
    obtain ⟨rfl, rfl, rfl⟩ := hv
    refine ⟨Or.inr ⟨b, 0, rfl, (Array.getElem?_eq_some_iff.1 hh).1, fun j x hx => ?_⟩, hc⟩
    have h1 := h.cells (g := b) rfl j (Lx.S x) (by rw [List.getElem?_map, hx]; rfl)
    rw [Addr.add_lit] at h1
    exact h1
theorem pp_bad {s : List UInt8} (h : Lx.good s = false) : pp s = none := by unfold pp; rw [h]; rfl
theorem pp_no {s : List UInt8} (h : Lx.good s = true) (hr : rpg 2049 2049 [] (Lx.wd false [] s) = none) : pp s = none := by unfold pp; rw [h, hr]; rfl
theorem pp_may {s : List UInt8} {ds : List Df} (h : Lx.good s = true) (hr : rpg 2049 2049 [] (Lx.wd false [] s) = some ds) (hm : pmay ds = false) : pp s = none := by unfold pp; rw [h, hr]; simp [hm]
theorem pp_yes {s : List UInt8} {ds : List Df} (h : Lx.good s = true) (hr : rpg 2049 2049 [] (Lx.wd false [] s) = some ds) (hm : pmay ds = true) : pp s = some ds := by unfold pp; rw [h, hr]; simp [hm]

set_option maxHeartbeats 2000000 in
set_option maxRecDepth 100000 in
theorem parse_any (s : ByteArray) (w : World) (hL : Lw w) : Calls Tryz.prog 5 #[.string s] w fun e w' => ParseQ (pp s.data.toList) w e w' := by
  obtain ⟨O, hO⟩ : ∃ O, pp s.data.toList = O := ⟨_, rfl⟩
  rw [hO]
  have HO : Hid (pp s.data.toList = O) := hO
  have hX1 := Bx1.new w (.slice none 0 0)
  have HL1 : Hid (Lw (w.alloc (.cells #[.slice none 0 0] 25))) := hL.on ((Below.refl _ w).alloc (Nat.le_refl _) _)
  have hb1 : Below w.heap.size w (w.alloc (.cells #[.slice none 0 0] 25)) := (Below.refl _ w).alloc (Nat.le_refl _) _
  clear hO hL
  cases hg : Lx.good s.data.toList with
  | false =>
    have HE : Hid (O = none) := by show _ = _; rw [← HO.out, pp_bad hg]
    have hcall := Lx.words_bad s (w.alloc (.cells #[.slice none 0 0] 25)) hg
    obtain ⟨W1, hW1⟩ : ∃ W1, w.alloc (.cells #[.slice none 0 0] 25) = W1 := ⟨_, rfl⟩
    rw [hW1] at hcall hX1 HL1 hb1
    clear hg
    go_enter Tryz.func5, Tryz.ntmps5
    go_wp2_with fail
    clear hW1
    refine hcall.mono ?_
    rintro e w2 ⟨rfl, hb2⟩
    have hX2 := hX1.on hb2
    have x0 := hX2.c0
    have xf := hX2.frozen 0
    have xl := hX2.lt
    have HB : Hid (Below w.heap.size w w2) := below_next hb1 hb2
    clear hcall hX2 hX1 hb1 hb2
    go_wp2_with fail
    refine bodyPost_ret (v := .tuple #[pV none 0 0, .int .i64 700]) (by simp [results, Tryz.results5, go_sem, x0]) rfl ?_
    exact ParseQ.no HE.out (HB.out.setCell (p := ⟨w.heap.size, 0, none⟩) (Nat.le_refl _) _)
  | true =>
    have HG : Hid (Lx.good s.data.toList = true) := hg
    have hcall := Lx.words_good s (w.alloc (.cells #[.slice none 0 0] 25)) hg
    obtain ⟨hsz, hsl⟩ := sz_words hg
    obtain ⟨ws, hws⟩ : ∃ ws, Lx.wd false [] s.data.toList = ws := ⟨_, rfl⟩
    have HW : Hid (Lx.wd false [] s.data.toList = ws) := hws
    rw [hws] at hcall hsz hsl
    obtain ⟨W1, hW1⟩ : ∃ W1, w.alloc (.cells #[.slice none 0 0] 25) = W1 := ⟨_, rfl⟩
    rw [hW1] at hcall hX1 HL1 hb1
    clear hg hws
    go_enter Tryz.func5, Tryz.ntmps5
    go_wp2_with fail
    clear hW1
    refine hcall.mono ?_
    rintro e w2 ⟨g, c, rfl, ho2, hb2⟩
    obtain ⟨hT2, hc2⟩ := wtx_own ho2
    have hP := prog_any 2049 2049 g c ws w2 (by omega) (by omega) hsz hc2 hT2 (HL1.out.on hb2)
    have HX2 : Hid (Bx1 w2 w.heap.size (.slice none 0 0)) := hX1.on hb2
    have HB2 : Hid (Below w.heap.size w w2) := below_next hb1 hb2
    clear hcall hX1 hb1 hb2 ho2 hT2 hc2 hsz hsl
    go_wp2_with fail
    refine hP.mono ?_
    clear hP
    rintro e w3 ⟨hb3, hQ⟩
    have HX3 : Hid (Bx1 w3 w.heap.size (.slice none 0 0)) := HX2.out.on hb3
    have HB3 : Hid (Below w.heap.size w w3) := below_next HB2.out hb3
    have HZ : Hid (w.heap.size ≤ w2.heap.size) := HB2.out.size
    have x0 := HX3.out.c0
    have xf := HX3.out.frozen 0
    have xl := HX3.out.lt
    clear HX2 HB2 hb3
    cases hr : rpg 2049 2049 [] ws with
    | none =>
      rw [hr] at hQ
      subst hQ
      have HE : Hid (O = none) := by show _ = _; rw [← HO.out, pp_no HG.out (by rw [HW.out]; exact hr)]
      clear hr
      go_wp2_with fail
      refine bodyPost_ret (v := .tuple #[pV none 0 0, .int .i64 700]) (by simp [results, Tryz.results5, go_sem, x0, xl]) rfl ?_
      exact ParseQ.no HE.out ((HB3.out.setCell (p := ⟨w.heap.size, 0, none⟩) (Nat.le_refl _) _).alloc (by have := HB3.out.size; simp; omega) _)
    | some ds =>
      rw [hr] at hQ
      obtain ⟨g3, c3, qs, rfl, hq3, hP3⟩ := hQ
      have hl3 : ds.length = qs.length := by rw [← hq3, List.length_map]
      have hd3 : Defs Exs w3 g3 ds := by
        have h := hP3
        rw [hl3] at h
        have h := h.defs
        rwa [hq3] at h
      have hM := pmay_any g3 c3 ds (w3.alloc (.cells #[.slice g3 ds.length c3] 25)) (hd3.on ((Below.refl _ w3).alloc (Nat.le_refl _) _))
      have HM : Hid (pmay ds = true → O = some ds) := fun h => by rw [← HO.out, pp_yes HG.out (by rw [HW.out]; exact hr) h]
      have HM2 : Hid (pmay ds = false → O = none) := fun h => by rw [← HO.out, pp_may HG.out (by rw [HW.out]; exact hr) h]
      have HX4 : Hid (Bx1 (w3.alloc (.cells #[.slice g3 ds.length c3] 25)) w.heap.size (.slice none 0 0)) := HX3.out.alloc _
      have HY4 : Hid (Bx1 (w3.alloc (.cells #[.slice g3 ds.length c3] 25)) w3.heap.size (.slice g3 ds.length c3)) := Bx1.new w3 _
      have HB4 : Hid (Below w.heap.size w (w3.alloc (.cells #[.slice g3 ds.length c3] 25))) := HB3.out.alloc HB3.out.size _
      have HP4 : Hid (Pd (w3.alloc (.cells #[.slice g3 ds.length c3] 25)) w2.heap.size (.slice g3 ds.length c3) qs ∧ qs.map (·.1) = ds) := ⟨hP3.alloc _, hq3⟩
      obtain ⟨b, hb⟩ : ∃ b, pmay ds = b := ⟨_, rfl⟩
      rw [hb] at hM HM HM2
      clear hr hq3 hl3 hP3 hd3 hb
      go_wp2_with fail
      obtain ⟨W4, hW4⟩ : ∃ W4, w3.alloc (.cells #[.slice g3 ds.length c3] 25) = W4 := ⟨_, rfl⟩
      rw [hW4] at hM HX4 HY4 HB4 HP4 ⊢
      clear hW4
      refine hM.mono ?_
      clear hM
      rintro e w5 ⟨rfl, hb5⟩
      have hX5 := HX4.out.on hb5
      have hY5 := HY4.out.on hb5
      have x5 := hX5.c0
      have y5 := hY5.c0
      have f5 := hX5.frozen 0
      have l5 := hX5.lt
      have HX5 : Hid (Bx1 w5 w.heap.size (.slice none 0 0)) := hX5
      have HB5 : Hid (Below w.heap.size w w5) := below_next HB4.out hb5
      have HP5 : Hid (Pd w5 w2.heap.size (.slice g3 ds.length c3) qs ∧ qs.map (·.1) = ds) := ⟨HP4.out.1.on hb5, HP4.out.2⟩
      clear hX5 hY5 hb5 HX4 HY4 HB4 HP4 x0 xf xl HX3 HB3
      cases b with
      | false =>
        go_wp2_with fail
        refine bodyPost_ret (v := .tuple #[pV none 0 0, .int .i64 700]) (by simp [results, Tryz.results5, go_sem, x5]) rfl ?_
        exact ParseQ.no (HM2.out (by first | rfl | trivial)) (HB5.out.setCell (p := ⟨w.heap.size, 0, none⟩) (Nat.le_refl _) _)
      | true =>
        go_wp2_with fail
        refine bodyPost_ret (v := .tuple #[pV g3 ds.length c3, .int .i64 0]) (by simp [results, Tryz.results5, go_sem, x5]) rfl ?_
        refine ⟨HB5.out.setCell (p := ⟨w.heap.size, 0, none⟩) (Nat.le_refl _) _, ?_⟩
        rw [HM.out (by first | rfl | trivial)]
        have hp := HP5.out.1.far HX5.out 0 (.slice g3 ds.length c3)
        exact ⟨g3, c3, qs, rfl, HP5.out.2, own_rebase hp.own (fun k hk => by have h1 := (hp.own.lt k hk).1; have h2 := HZ.out; omega), hp.bodies⟩
end Go.Proofs.YtgjhpmkahicnkaaGreatDoor
