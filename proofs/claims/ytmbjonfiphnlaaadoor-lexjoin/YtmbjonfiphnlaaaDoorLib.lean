/- What the walks ask of the library: Cut at one byte, TrimLeft at a blank, IndexAny, Clone. -/
import Derived.Shelf.Strings.Cut
import Derived.Deep.RegionHeld3
import Derived.Deep.Light
import Derived.Test.YtmbjonfiphnlaaaDoorShelf
import Derived.Test.YtmbjonfiphnlaaaDoorPure
namespace Go.Proofs.YtmbjonfiphnlaaaDoor
open Go.RowKit
set_option linter.unusedVariables false

/-- A text as a value's bytes. -/
def ba (l : List UInt8) : ByteArray := ⟨l.toArray⟩
theorem ba_size (l : List UInt8) : (ba l).size = l.length := by simp [ba, ByteArray.size]
theorem ba_list (l : List UInt8) : (ba l).data.toList = l := rfl
theorem ba_back (s : ByteArray) : ba s.data.toList = s := rfl

theorem ib_cases (c : UInt8) : ∀ l : List UInt8, (Lib.indexByte l c = -1 ∧ ∀ b ∈ l, b ≠ c) ∨ ∃ p x, l = p ++ c :: x ∧ (∀ b ∈ p, b ≠ c) ∧ Lib.indexByte l c = (p.length : Int)
  | [] => Or.inl ⟨rfl, by simp⟩
  | b :: l => by
    by_cases hb : b = c
    · subst hb
      exact Or.inr ⟨[], l, rfl, by simp, by simp [Lib.indexByte]⟩
    · have hb' : (b == c) = false := by simpa using hb
      rcases ib_cases c l with ⟨h1, h2⟩ | ⟨p, x, h1, h2, h3⟩
      · refine Or.inl ⟨by simp [Lib.indexByte, hb', h1], ?_⟩
        intro d hd
        rcases List.mem_cons.1 hd with rfl | hd
        · exact hb
        · exact h2 d hd
      · refine Or.inr ⟨b :: p, x, by simp [h1], ?_, ?_⟩
        · intro d hd
          rcases List.mem_cons.1 hd with rfl | hd
          · exact hb
          · exact h2 d hd
        · have h4 : (Lib.indexByte l c == -1) = false := by rw [h3, beq_eq_false_iff_ne]; omega
          simp only [Lib.indexByte, hb', h3]
          simp

theorem ia_cases (cs : List UInt8) : ∀ l : List UInt8, (Lib.indexAny l cs = -1 ∧ ∀ b ∈ l, cs.contains b = false) ∨ ∃ p d x, l = p ++ d :: x ∧ (∀ b ∈ p, cs.contains b = false) ∧ cs.contains d = true ∧ Lib.indexAny l cs = (p.length : Int)
  | [] => Or.inl ⟨rfl, by simp⟩
  | b :: l => by
    cases hb : cs.contains b
    · rcases ia_cases cs l with ⟨h1, h2⟩ | ⟨p, d, x, h1, h2, h3, h4⟩
      · refine Or.inl ⟨by simp only [Lib.indexAny, hb, h1]; rfl, ?_⟩
        intro d hd
        rcases List.mem_cons.1 hd with rfl | hd
        · exact hb
        · exact h2 d hd
      · refine Or.inr ⟨b :: p, d, x, by simp [h1], ?_, h3, ?_⟩
        · intro d hd
          rcases List.mem_cons.1 hd with rfl | hd
          · exact hb
          · exact h2 d hd
        · have h5 : (Lib.indexAny l cs == -1) = false := by rw [h4, beq_eq_false_iff_ne]; omega
          simp only [Lib.indexAny, hb, h4]
          simp
    · exact Or.inr ⟨[], b, l, rfl, by simp, hb, by simp only [Lib.indexAny, hb]; rfl⟩

/-- What Cut answers at one byte. -/
def CutQ (l : List UInt8) (c : UInt8) (e : Ending) : Prop :=
  ((∀ b ∈ l, b ≠ c) ∧ e = .returned (.tuple #[.string (ba l), .string ⟨#[]⟩, .bool false])) ∨
  ∃ p x, l = p ++ c :: x ∧ (∀ b ∈ p, b ≠ c) ∧ e = .returned (.tuple #[.string (ba p), .string (ba x), .bool true])

set_option maxHeartbeats 2000000 in
set_option maxRecDepth 100000 in
theorem slcut_any (s : ByteArray) (c : UInt8) (w : World) (hs : s.size ≤ 2048) :
    Calls Tryd.prog 21 #[.string s, .string ⟨#[c]⟩] w fun e w' => CutQ s.data.toList c e ∧ ∃ n, w' = w.drewN n := by
  rcases ib_cases c s.data.toList with ⟨hix, hno⟩ | ⟨p, x, hl, hp, hix⟩
  · have HN : Hid (∀ b ∈ s.data.toList, b ≠ c) := hno
    clear hno
    go_enter Tryd.func21, Tryd.ntmps21
    go_wp2_with (go_at_call 26; refine (Any.stringslite_Index_one Tryd.lays219 s c _).mono ?_; rintro e w' ⟨rfl, rfl⟩; rw [hix])
    go_ret3
    exact ⟨Or.inl ⟨HN.out, rfl⟩, 0, rfl⟩
  · have hsz : s.size = p.length + 1 + x.length := by
      rw [← ba_back s, ba_size, hl]; simp; omega
    have c1 : (0 : Int) ≤ (p.length : Int) := by omega
    have c2 : (p.length : Int) ≤ (s.size : Int) := by omega
    have c3 : (0 : Int) ≤ (p.length : Int) + 1 := by omega
    have c4 : (p.length : Int) + 1 ≤ (s.size : Int) := by omega
    have e1 : s.extract 0 p.length = ba p := by
      rw [← ba_back s, hl]; unfold ba; rw [Lib.extract_mk]; simp
    have e2 : s.extract (p.length + 1) s.size = ba x := by
      rw [hsz, ← ba_back s, hl]; unfold ba; rw [Lib.extract_mk]; simp
    have HL : Hid (s.data.toList = p ++ c :: x ∧ ∀ b ∈ p, b ≠ c) := ⟨hl, hp⟩
    have hw : wrap64 ((p.length : Int) + 1) = (p.length : Int) + 1 := by unfold wrap64; omega
    clear hl hp hsz
    go_enter Tryd.func21, Tryd.ntmps21
    go_wp2_with (go_at_call 26; refine (Any.stringslite_Index_one Tryd.lays219 s c _).mono ?_; rintro e w' ⟨rfl, rfl⟩; rw [hix])
    go_region
    go_wp2
    go_ret3

    exact ⟨Or.inr ⟨p, x, HL.out.1, HL.out.2, rfl⟩, 1, rfl⟩

set_option maxHeartbeats 400000 in
theorem cut_any (s : ByteArray) (c : UInt8) (w : World) (hs : s.size ≤ 2048) :
    Calls Tryd.prog 16 #[.string s, .string ⟨#[c]⟩] w fun e w' => CutQ s.data.toList c e ∧ ∃ n, w' = w.drewN n := by
  go_enter Tryd.func16, Tryd.ntmps16
  go_wp2_with fail
  refine (slcut_any s c w hs).mono ?_
  rintro e w1 ⟨⟨hno, rfl⟩ | ⟨p, x, hl, hp, rfl⟩, n, rfl⟩
  · have HN : Hid (∀ b ∈ s.data.toList, b ≠ c) := hno
    clear hno
    go_wp2_with fail
    go_ret3
    exact ⟨Or.inl ⟨HN.out, rfl⟩, n, rfl⟩
  · have HL : Hid (s.data.toList = p ++ c :: x ∧ ∀ b ∈ p, b ≠ c) := ⟨hl, hp⟩
    clear hl hp
    go_wp2_with fail
    go_ret3
    exact ⟨Or.inr ⟨p, x, HL.out.1, HL.out.2, rfl⟩, n, rfl⟩

theorem trim_any (s : ByteArray) (w : World) :
    Calls Tryd.prog 22 #[.string s, .string ⟨#[32]⟩] w fun e w' => e = .returned (.string (ba (s.data.toList.dropWhile (· == 32)))) ∧ w = w' := by
  refine (Any.strings_TrimLeft_one Tryd.lays161 s 32 (by decide) w).mono ?_
  rintro e w1 ⟨rfl, rfl⟩
  exact ⟨rfl, rfl⟩

theorem ascii_set : (Tryd.prog.info? (Tryd.lays153_ren.t 116)).map (fun i => (i.zero, i.size)) = some (some (.agg (Array.replicate 256 (.bool false))), 256) := by kernel_rfl

theorem ixany_any (s : ByteArray) (w : World) (hs : s.size ≤ 2048) (ha : ∀ b ∈ s.data.toList, b.toNat < 128) :
    Calls Tryd.prog 31 #[.string s, .string ⟨#[32, 40, 41]⟩] w fun e w' => e = .returned (.int .i64 (Lib.indexAny s.data.toList [32, 40, 41])) ∧ Below w.heap.size w w' :=
  Any.strings_IndexAny_laid Tryd.lays153 ascii_set s ⟨#[32, 40, 41]⟩ w (by omega) (by decide) (fun j b h => ha b (List.mem_of_getElem? h))
    (fun j b h => by
      have hm : b ∈ ([32, 40, 41] : List UInt8) := List.mem_of_getElem? h
      simp at hm
      rcases hm with rfl | rfl | rfl <;> decide)

set_option maxHeartbeats 400000 in
theorem clone_any (s : ByteArray) (w : World) (hs : s.size ≤ 281474976710656) :
    Calls Tryd.prog 24 #[.string s] w fun e w' => e = .returned (.string s) ∧ Below w.heap.size w w' := by
  go_enter Tryd.func24, Tryd.ntmps24
  go_wp2_with fail
  refine (Any.stringslite_Clone Tryd.laysM316 s w hs).mono ?_
  rintro e w1 ⟨rfl, hb⟩
  go_wp2_with fail
  go_ret
  exact ⟨rfl, hb⟩
end Go.Proofs.YtmbjonfiphnlaaaDoor
