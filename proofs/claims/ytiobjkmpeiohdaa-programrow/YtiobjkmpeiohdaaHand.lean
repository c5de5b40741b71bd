/- The contract of expr.handDown: the kids get their levels. -/
import Derived.Test.YtiobjkmpeiohdaaMem
namespace Go.Proofs.Ytiobjkmpeiohdaa
open Go.RowKit
set_option linter.unusedVariables false

theorem hd_nil {n : Nat} {e : Ex} {t : Int} {i : Nat} {L : List Int} : hd n e t i [] L = some L := rfl
theorem hd_no {n : Nat} {e : Ex} {t : Int} {i : Nat} {k : Int} {ks L : List Int} (h : withB k 0 ((n : Int) - 1) = false) : hd n e t i (k :: ks) L = none := by
  rw [hd, if_neg]
  intro hc
  exact withB_not.1 h ⟨hc.1, hc.2.1⟩
theorem hd_taken {n : Nat} {e : Ex} {t : Int} {i : Nat} {k : Int} {ks L : List Int} {v : Int} (h : L[k.toNat]? = some v) (hv : v ≠ -1) : hd n e t i (k :: ks) L = none := by
  rw [hd, if_neg]
  intro hc
  rw [h] at hc
  exact hv (Option.some.inj hc.2.2)
theorem hd_far {n : Nat} {e : Ex} {t : Int} {i : Nat} {k : Int} {ks L : List Int} (h8 : t + e.bd i > 8) : hd n e t i (k :: ks) L = none := by
  rw [hd]
  split
  · first | rfl | rw [if_pos h8]
  · rfl
theorem hd_on {n : Nat} {e : Ex} {t : Int} {i : Nat} {k : Int} {ks L : List Int} (h : withB k 0 ((n : Int) - 1) = true) (hv : L[k.toNat]? = some (-1)) (h8 : ¬ t + e.bd i > 8) : hd n e t i (k :: ks) L = hd n e t (i + 1) ks (L.set k.toNat (t + e.bd i)) := by
  have hw := withB_iff.1 h
  rw [hd, if_pos ⟨hw.1, hw.2, hv⟩, if_neg h8]

set_option maxHeartbeats 1600000 in
set_option maxRecDepth 100000 in
theorem hand_any (e : Ex) (g : Option Addr) (c : Nat) (t : Int) (b n cap : Nat) (L : List Int) (w0 w : World) (hL : Lv w b L) (hn : n ≤ L.length) (hn24 : n ≤ 24) (hk : Nums w0 g e.kids) (hb : Below w0.heap.size w0 w) (hlb : w0.heap.size ≤ b)
    (ht0 : 0 ≤ t) (ht8 : t ≤ 8) (hbd : ∀ i, 0 ≤ e.bd i ∧ e.bd i ≤ 3) (hkl : e.kids.length ≤ 3) :
    Calls Try.prog 27 #[eV e g c, .int .i64 t, .slice (some ⟨b, 0, none⟩) n cap] w fun x w' => x = .returned (.bool (hd n e t 0 e.kids L).isSome) ∧ w.grownBy w' (some b) ∧ ∀ L', hd n e t 0 e.kids L = some L' → Lv w' b L' := by
  obtain ⟨R, hR⟩ : ∃ R, hd n e t 0 e.kids L = R := ⟨_, rfl⟩
  rw [hR]
  have hbw := hL.lt
  have HB : Hid (∀ i : Int, 0 ≤ e.bd i ∧ e.bd i ≤ 3) := hbd
  have HLB : Hid (w0.heap.size ≤ b) := hlb
  have HBW : Hid (Below w0.heap.size w0 w) := hb
  have HHL : Hid (Lv w b L) := hL
  clear hbd hlb hb hL
  obtain ⟨kd, nm, bd, kids⟩ := e
  have fin : ∀ {W' : World}, (w.alloc (.cells #[.int .i64 kd, .int .i64 nm, .int .i64 bd, .slice g kids.length c] 33)).grownBy W' (some b) → w.grownBy W' (some b) := fun h => (World.grownBy_alloc w _ (some b)).trans h
  have FIN : Hid _ := @fin
  clear fin
  go_enter Try.func27, Try.ntmps27
  go_wp2_with fail
  go_loopw [7, 8, 12] (fun _ _ s12 wr => ∃ (j : Nat) (L1 : List Int), j ≤ kids.length ∧ s12 = .int .i64 (j : Int) ∧ Hid (Lv wr b L1) ∧ Hid (hd n ⟨kd, nm, bd, kids⟩ t j (kids.drop j) L1 = R) ∧ L1.length = L.length ∧
      Hid ((w.alloc (.cells #[.int .i64 kd, .int .i64 nm, .int .i64 bd, .slice g kids.length c] 33)).grownBy wr (some b)))
    (fun _ _ s12 _ => kids.length - (intOf s12).toNat)
  case atStart =>
    exact ⟨0, L, Nat.zero_le _, rfl, HHL.out.alloc _, hR, rfl, World.grownBy.refl _ _⟩
  case round =>
    obtain ⟨j, L1, hj, rfl, HL1, HR, hl1, HG⟩ := hrel
    have sz := HG.out.size
    rw [World.size_alloc] at sz
    by_cases hlt : j < kids.length
    · have hlt' : (j : Int) < (kids.length : Int) := by omega
      obtain ⟨bk, o, rfl, hbk, hcell0⟩ := hk.at hlt
      obtain ⟨k, hke⟩ : ∃ k, kids[j] = k := ⟨_, rfl⟩
      rw [hke] at hcell0
      have hd1 : kids.drop j = k :: kids.drop (j + 1) := by rw [List.drop_eq_getElem_cons hlt, hke]
      have HR1 : Hid (hd n ⟨kd, nm, bd, kids⟩ t j (k :: kids.drop (j + 1)) L1 = R) := by
        show _ = _
        rw [← hd1]; exact HR.out
      have hw0 := HBW.out.size
      have hcell : wr.cell? ⟨bk, o + j, none⟩ = some (.int .i64 k) := by
        have h1 : w.cell? ⟨bk, o + j, none⟩ = some (.int .i64 k) := (HBW.out.cell (p := ⟨bk, o + j, none⟩) hbk).trans hcell0
        refine HG.out.cell (a := ⟨bk, o + j, none⟩) ?_ ?_
        · rw [World.cell?_alloc_lt _ _ _ (by show bk < _; omega)]; exact h1
        · intro e; have := Option.some.inj e; have := HLB.out; simp at *; omega
      clear hcell0 hke hd1 HR hR
      cases hwi : withB k 0 ((n : Int) - 1) with
      | false =>
        have HN : Hid (R = none) := by
          show _ = _
          rw [← HR1.out]; exact hd_no hwi
        go_wp2_with (go_at_call 23; refine (within_any _ _ _ _).mono ?_; rintro e w1 ⟨rfl, rfl⟩)
        go_ret
        rw [HN.out]
        exact ⟨rfl, FIN.out HG.out, fun L' h => by cases h⟩
      | true =>
        have hwr := withB_iff.1 hwi
        obtain ⟨kn, rfl⟩ : ∃ kn : Nat, k = (kn : Int) := ⟨k.toNat, by omega⟩
        have hkn : kn < n := by omega
        have hkn' : (kn : Int) < (n : Int) := by omega
        obtain ⟨v, hv⟩ : ∃ v, L1[kn]? = some v := ⟨_, List.getElem?_eq_getElem (by omega)⟩
        have hcv := HL1.out.cell hv
        have hfz := HL1.out.frozen kn
        have HV : Hid (L1[kn]? = some v) := hv
        clear hv hwr
        by_cases h1 : v = -1
        · subst h1
          have hb1 := bound_any kd nm bd (j : Int) (some ⟨bk, o, none⟩) kids.length c wr
          have hbj := HB.out (j : Int)
          have hbe : Ex.bd ⟨kd, nm, bd, kids⟩ (j : Int) = bnd kd bd (j : Int) := rfl
          rw [hbe] at hbj
          obtain ⟨y, hy⟩ : ∃ y, bnd kd bd (j : Int) = y := ⟨_, rfl⟩
          rw [hy] at hb1 hbj
          have HY : Hid (Ex.bd ⟨kd, nm, bd, kids⟩ (j : Int) = y) := hbe.trans hy
          clear hbe hy
          have q0 : wr.cell? ⟨w.heap.size, 0, none⟩ = some (.int .i64 kd) := HG.out.cell (a := ⟨w.heap.size, 0, none⟩) (by simp) (by simp; omega)
          have q1 : wr.cell? ⟨w.heap.size, 1, none⟩ = some (.int .i64 nm) := HG.out.cell (a := ⟨w.heap.size, 1, none⟩) (by simp) (by simp; omega)
          have q2 : wr.cell? ⟨w.heap.size, 2, none⟩ = some (.int .i64 bd) := HG.out.cell (a := ⟨w.heap.size, 2, none⟩) (by simp) (by simp; omega)
          have q3 : wr.cell? ⟨w.heap.size, 3, none⟩ = some (.slice (some ⟨bk, o, none⟩) kids.length c) := HG.out.cell (a := ⟨w.heap.size, 3, none⟩) (by simp) (by simp; omega)
          by_cases h8 : t + y > 8
          · have HN : Hid (R = none) := by
              show _ = _
              rw [← HR1.out]; exact hd_far (by rw [HY.out]; exact h8)
            have h8' : (8 : Int) < t + y := h8
            go_wp2_with (first | (go_at_call 23; refine (within_any _ _ _ _).mono ?_; rintro e w1 ⟨rfl, rfl⟩) | (go_at_call 35; refine hb1.mono ?_; rintro e w2 ⟨rfl, hb2⟩; have c2 := (hb2.cell (p := ⟨b, kn, none⟩) (by show b < _; omega)).trans hcv; have f2 := (hb2.frozen (p := ⟨b, kn, none⟩) (by show b < _; omega)).trans hfz))
            go_ret
            rw [HN.out]
            exact ⟨rfl, (FIN.out HG.out).trans ((grown_of_below hb2 (some b)).trans (grown_set _ b kn _)), fun L' h => by cases h⟩
          · have HN : Hid (hd n ⟨kd, nm, bd, kids⟩ t (j + 1) (kids.drop (j + 1)) (L1.set kn (t + y)) = R) := by
              show _ = _
              rw [← HR1.out, hd_on hwi HV.out (by rw [HY.out]; exact h8), HY.out]; rfl
            have h8' : ¬ (8 : Int) < t + y := h8
            go_wp2_with (first | (go_at_call 23; refine (within_any _ _ _ _).mono ?_; rintro e w1 ⟨rfl, rfl⟩) | (go_at_call 35; refine hb1.mono ?_; rintro e w2 ⟨rfl, hb2⟩; have c2 := (hb2.cell (p := ⟨b, kn, none⟩) (by show b < _; omega)).trans hcv; have f2 := (hb2.frozen (p := ⟨b, kn, none⟩) (by show b < _; omega)).trans hfz))
            go_roundw
            case rel =>
              exact ⟨j + 1, L1.set kn (t + y), by omega, by go_num, (HL1.out.on hb2 (by omega)).set kn (t + y), HN, by rw [List.length_set]; exact hl1, HG.out.trans ((grown_of_below hb2 (some b)).trans (grown_set _ b kn _))⟩
            case measure => simp [intOf]; omega
        · have HN : Hid (R = none) := by
            show _ = _
            rw [← HR1.out]; exact hd_taken HV.out h1
          have e1 : (v == -1) = false := by simpa using h1
          have e2 : (v != -1) = true := by simpa using h1
          go_wp2_with (go_at_call 23; refine (within_any _ _ _ _).mono ?_; rintro e w1 ⟨rfl, rfl⟩)
          go_ret
          rw [HN.out]
          exact ⟨rfl, FIN.out HG.out, fun L' h => by cases h⟩
    · have hlt' : ¬ (j : Int) < (kids.length : Int) := by omega
      have HN : Hid (R = some L1) := by
        show _ = _
        rw [← HR.out, List.drop_eq_nil_of_le (by omega)]; rfl
      go_wp2_with fail
      go_ret
      rw [HN.out]
      exact ⟨rfl, FIN.out HG.out, fun L' h => by cases h; exact HL1.out⟩
end Go.Proofs.Ytiobjkmpeiohdaa
