/- The contract of appendWords: a line's words behind others. -/
import Derived.Test.YtmbjonfiphnlaaaDoorLine
namespace Go.Proofs.YtmbjonfiphnlaaaDoor
open Go.RowKit
set_option linter.unusedVariables false

theorem head_drop (l : List UInt8) : (l.dropWhile (· == 32)).head? ≠ some 32 := by
  induction l with
  | nil => simp
  | cons c l ih =>
    by_cases hc : c = 32
    · subst hc; rw [List.dropWhile_cons_of_pos (by decide)]; exact ih
    · rw [List.dropWhile_cons_of_neg (by simpa using hc)]; simpa using hc
theorem drop_mem {l : List UInt8} {b : UInt8} (h : b ∈ l.dropWhile (· == 32)) : b ∈ l := (List.dropWhile_sublist _).subset h
theorem drop_len (l : List UInt8) : (l.dropWhile (· == 32)).length ≤ l.length := (List.dropWhile_sublist _).length_le

set_option maxHeartbeats 1600000 in
set_option maxRecDepth 100000 in
theorem more_any (n₀ : Nat) (v : Value) (ws : List (List UInt8)) (s : ByteArray) (w : World) (hown : w.ownsRow n₀ 9 1 v ws.length (ws.map S)) (hn₀ : n₀ ≤ w.heap.size) (hs : s.size ≤ 2048) (hl : lineB s.data.toList)
    (hws : ws.length ≤ 1073741824) :
    Calls Tryd.prog 17 #[v, .string s] w fun e w' => ∃ v', e = .returned v' ∧ w'.ownsRow n₀ 9 1 v' (ws ++ wd false [] s.data.toList).length ((ws ++ wd false [] s.data.toList).map S) ∧ Oth n₀ w w' := by
  obtain ⟨i0, hi, hz0, hz1, hz2⟩ := info_parts Tryd.info9
  obtain ⟨g, c, rfl, _⟩ := own_len hown
  have hlen : s.size = s.data.toList.length := ba_size s.data.toList
  obtain ⟨L, hL⟩ : ∃ L, s.data.toList = L := ⟨_, rfl⟩
  have htr := trim_any s w
  rw [hL] at hl hlen htr ⊢
  have hlL : L.length ≤ 2048 := by omega
  clear hlen hL
  go_enter Tryd.func17, Tryd.ntmps17
  go_wp2_with fail
  refine htr.mono ?_
  rintro e w1 ⟨rfl, rfl⟩
  go_wp2_with fail
  go_loopw [0, 5, 6] (fun s0 s5 _ wr => ∃ (us : List (List UInt8)) (r : List UInt8), s5 = .string (ba r) ∧ wr.ownsRow n₀ 9 1 s0 us.length (us.map S) ∧ us ++ wd false [] r = ws ++ wd false [] L ∧ r.head? ≠ some 32 ∧ lineB r ∧
      r.length + us.length ≤ L.length + ws.length ∧ r.length ≤ L.length ∧ Oth n₀ w wr)
    (fun _ s5 _ _ => Lib.strSize s5)
  case atStart => exact ⟨ws, L.dropWhile (· == 32), rfl, hown, by rw [wd_blank], head_drop L, fun b hb => hl b (drop_mem hb), by have := drop_len L; omega, drop_len L, Oth.refl _ _⟩
  case round =>
    obtain ⟨us, r, rfl, ho, he, hh, hlr, hle, hrL, hoth⟩ := hrel
    obtain ⟨gv, cv, rfl, _⟩ := own_len ho
    have HE : Hid (us ++ wd false [] r = ws ++ wd false [] L) := he
    clear he
    by_cases hr : r = []
    · subst hr
      rw [show ba [] = (⟨#[]⟩ : ByteArray) from rfl]
      have e := HE.out
      rw [show wd false [] ([] : List UInt8) = [] from rfl, List.append_nil] at e
      have HF : Hid (wr.ownsRow n₀ 9 1 (.slice gv us.length cv) us.length (us.map S)) := ho
      have HO : Hid (Oth n₀ w wr) := hoth
      clear ho hoth hlr hh
      go_wp2_with fail
      go_ret
      rw [← e]
      exact ⟨_, rfl, HF.out, HO.out⟩
    · have hrl : 0 < r.length := List.length_pos_iff.2 hr
      have hrne : r ≠ [] := hr
      clear hr
      obtain ⟨t, ht⟩ : ∃ t, t = ba r := ⟨_, rfl⟩
      have htl : t.data.toList = r := by rw [ht]; rfl
      have htsz : t.size = r.length := by rw [ht, ba_size]
      rw [← ht]
      have hfs := first_any t wr (by omega) (by rw [htl]; exact hlr) (by rw [htl]; exact hrne) (by rw [htl]; exact hh)
      have q1 : ¬ t.toList = [] := by rw [Lib.toList_data, htl]; exact hrne
      have q2 : t.toList.isEmpty = false := by rw [Lib.toList_data, htl]; exact List.isEmpty_eq_false_iff.2 hrne
      have HT : Hid (t = ba r) := ht
      rw [htl] at hfs
      have HTL : Hid (t.data.toList = r) := htl
      have HO : Hid (Oth n₀ w wr) := hoth
      have HR : Hid (r ≠ [] ∧ r.head? ≠ some 32 ∧ lineB r) := ⟨hrne, hh, hlr⟩
      have HZ : Hid (t.size = r.length) := htsz
      clear ht htl hoth hrne hh hlr htsz
      go_wp2_with fail
      refine hfs.mono ?_
      rintro e w2 ⟨⟨k, rfl, hst⟩, hb2⟩
      clear hfs
      have k1 : (0 : Int) ≤ (k : Int) := by omega
      have k2 : (k : Int) ≤ (t.size : Int) := by have := hst.2.1; have := HZ.out; omega
      have e1 : t.extract 0 k = ba (r.take k) := by rw [Lib.extract_upto, HTL.out]; rfl
      have e2 : t.extract k t.size = ba (r.drop k) := by rw [Lib.extract_from, HTL.out]; rfl
      have HST : Hid (Stp r k) := hst
      clear hst
      go_wp2_with fail
      refine (clone_any _ _ ?_).mono ?_
      · rw [ba_size, List.length_take]; omega
      rintro e w3 ⟨rfl, hb3⟩
      have hown3 : w3.ownsRow n₀ 9 1 _ us.length (us.map S) := own_below (own_below ho hb2) hb3
      have HO3 : Hid (Oth n₀ w w3) := (HO.out.trans (Oth.of_below hb2)).trans (Oth.of_below hb3)
      have hz3 : n₀ ≤ w3.heap.size := Nat.le_trans hn₀ HO3.out.size
      clear ho hb2 hb3 HO
      go_wp2_with (at_builtin; refine wpList_append_own _ rfl _ _ 22 rfl n₀ 9 i0 (.string ⟨#[]⟩) 1 16 Tryd.underlying22 hi hz0 hz1 hz2 rfl (by decide) _ us.length _ rfl (hown3.alloc _) ⟨w3.heap.size, 0, none⟩ 1 1 [.string (ba (r.take k))] rfl rfl ?c1 ?c2 ?c3 ?c4 ?c5 ?_)
      case c1 =>
        intro j u hj
        match j, hj with
        | 0, hj => simp at hj; subst hj; simp [Addr.add]
      case c2 => intro u hu; simp at hu; subst hu; rfl
      case c3 => unfold maxLen; omega
      case c4 => omega
      case c5 => simp; omega
      intro v' w4 hown4 hgrow _
      have HO4 : Hid (Oth n₀ w w4) := HO3.out.trans ((Oth.of_below ((Below.refl _ w3).alloc (Nat.le_refl _) _)).trans (Oth.of_grown (hown3.alloc _) hgrow))
      have hown5 : w4.ownsRow n₀ 9 1 v' (us ++ [r.take k]).length ((us ++ [r.take k]).map S) := by
        rw [List.length_append, List.map_append]; exact hown4
      clear hown4 hgrow hown3 HO3
      obtain ⟨gv', cv', rfl, _⟩ := own_len hown5
      have htr2 := trim_any (ba (r.drop k)) w4
      rw [ba_list] at htr2
      have HW5 : Hid (w4.ownsRow n₀ 9 1 (.slice gv' (us ++ [r.take k]).length cv') (us ++ [r.take k]).length ((us ++ [r.take k]).map S)) := hown5
      clear hown5
      go_wp2_with fail
      refine htr2.mono ?_
      rintro e w5 ⟨rfl, rfl⟩
      clear htr2
      go_wp2_with fail
      go_roundw
      case rel =>
        have h5 := HW5.out
        refine ⟨us ++ [r.take k], (r.drop k).dropWhile (· == 32), rfl, by simpa using h5, ?_, head_drop _, ?_, ?_, ?_, HO4.out⟩
        · rw [wd_blank, ← HE.out, HST.out.2.2]; simp
        · exact fun b hb => HR.out.2.2 b (List.mem_of_mem_drop (drop_mem hb))
        · have h1 := drop_len (r.drop k)
          have h2 := HST.out.1
          rw [List.length_drop] at h1
          simp only [List.length_append, List.length_cons, List.length_nil]
          omega
        · have h1 := drop_len (r.drop k)
          rw [List.length_drop] at h1
          omega
      case measure =>
        have h1 := drop_len (r.drop k)
        have h2 := HST.out.1
        rw [List.length_drop] at h1
        show Lib.strSize (.string (ba _)) < Lib.strSize (.string t)
        have h3 := HZ.out
        rw [Lib.strSize_string, Lib.strSize_string, ba_size]
        omega
end Go.Proofs.YtmbjonfiphnlaaaDoor
