/- The contract of the document's ProgramMay. -/
import Derived.Test.YtiobjkmpeiohdaaRDef
import Derived.Test.YtiobjkmpeiohdaaPMay
namespace Go.Proofs.Ytiobjkmpeiohdaa
open Go.RowKit
set_option linter.unusedVariables false

theorem cell_on {wc w' : World} {p : Addr} {x : Value} (h : wc.cell? p = some x) (hb : Below wc.heap.size wc w') : w'.cell? p = some x := by
  rw [hb.cell (World.block_lt_of_cell? wc p h)]; exact h
theorem pmay_within {ds : List Df} (h : withB (ds.length : Int) 1 8 = false) : pmay ds = false := by
  rw [withB_not] at h
  unfold pmay; rw [decide_eq_false (by omega)]; rfl

set_option maxHeartbeats 3200000 in
set_option maxRecDepth 100000 in
theorem rprog_any (g : Option Addr) (c : Nat) (ds : List Df) (w : World) (hd : Defs Exs w g ds) :
    Calls Try.prog 9 #[.agg #[.slice g ds.length c]] w fun r w' => r = .returned (.bool (pmay ds)) ∧ Below w.heap.size w w' := by
  have hb0 : Below w.heap.size w (w.alloc (.cells #[.slice g ds.length c] 24)) := (Below.refl _ w).alloc (Nat.le_refl _) _
  have hX0 := Bx1.new w (.slice g ds.length c)
  have hd0 := hd.on hb0
  have hup := upto_any (ds.length : Int) 1 8
  cases hw : withB (ds.length : Int) 1 8 with
  | false =>
    rw [hw] at hup
    rw [pmay_within hw]
    clear hd hd0 hX0
    go_enter Try.func9, Try.ntmps9
    go_wp2_with (go_at_call 20; refine (hup _).mono ?_; rintro e w' ⟨rfl, rfl⟩)
    go_ret
    exact ⟨rfl, hb0⟩
  | true =>
    rw [hw] at hup
    have hl8 : ds.length ≤ 8 := by rw [withB_iff] at hw; omega
    have hl : 0 < ds.length := by rw [withB_iff] at hw; omega
    obtain ⟨bk, o, rfl, hbk, gk, ck, q0, q1, q2⟩ := hd0.at hl
    simp only [Nat.zero_mul, Nat.add_zero] at q0 q1
    clear q1 q2 hw
    by_cases h3 : ds[0].params = 0
    · have e3 : (ds[0].params != 0) = false := by simpa using h3
      have HP : Hid (pmay ds = ds.all (dOk ds)) := pmay_all hl hl8 h3
      rw [h3] at q0 e3
      have HD : Hid (Defs Exs (w.alloc (.cells #[.slice (some ⟨bk, o, none⟩) ds.length c] 24)) (some ⟨bk, o, none⟩) ds) := hd0
      have HX : Hid (Bx1 (w.alloc (.cells #[.slice (some ⟨bk, o, none⟩) ds.length c] 24)) w.heap.size (.slice (some ⟨bk, o, none⟩) ds.length c)) := hX0
      have HB0 : Hid (Below w.heap.size w (w.alloc (.cells #[.slice (some ⟨bk, o, none⟩) ds.length c] 24))) := hb0
      clear hd hd0 hX0 h3 hb0
      go_enter Try.func9, Try.ntmps9
      go_wp2_with (go_at_call 20; refine (hup _).mono ?_; rintro e w' ⟨rfl, rfl⟩)
      clear q0 e3 hup
      obtain ⟨W0, hW0⟩ : ∃ W0, w.alloc (.cells #[.slice (some ⟨bk, o, none⟩) ds.length c] 24) = W0 := ⟨_, rfl⟩
      rw [hW0] at HD HX HB0 hbk ⊢
      clear hW0
      go_loopw [3, 4, 5] (fun s3 _ _ wr => ∃ k : Nat, k ≤ ds.length ∧ s3 = .int .i64 (k : Int) ∧ Hid (Below W0.heap.size W0 wr) ∧ Hid ((ds.take k).all (dOk ds) = true))
        (fun s3 _ _ _ => ds.length - (intOf s3).toNat)
      case atStart => exact ⟨0, Nat.zero_le _, rfl, Below.refl _ _, by show ([] : List Df).all (dOk ds) = true; rfl⟩
      case round =>
        obtain ⟨k, hk, rfl, HB, H⟩ := hrel
        have x0 := (HX.out.on HB.out).c0
        by_cases hlt : k < ds.length
        · have hlt' : (k : Int) < (ds.length : Int) := by omega
          obtain ⟨bk2, o2, hge, hbk2, gk, ck, q0, q1, q2⟩ := (HD.out.on HB.out).at hlt
          cases hge
          obtain ⟨d, he⟩ : ∃ d, d = ds[k] := ⟨_, rfl⟩
          rw [← he] at q0 q1 q2
          have HE : Hid (d = ds[k]) := he
          clear he
          obtain ⟨pp, xs⟩ := d
          dsimp only at q0 q1 q2
          have hm := defmay_any pp gk ck xs _ q2
          rw [← may_rmay] at hm
          have HQ : Hid (Exs wr gk xs) := q2
          clear q2
          cases hq : may pp xs with
          | false =>
            rw [hq] at hm
            have hr : pmay ds = false := by
              rw [HP.out, List.all_eq_false]
              exact ⟨⟨pp, xs⟩, by rw [HE.out]; exact List.getElem_mem hlt, by simp [dOk, hq]⟩
            go_wp2_with (go_at_call 21; refine hm.mono ?_; rintro r w3 ⟨rfl, hb3⟩)
            have hb4 := below_next HB0.out (below_next HB.out hb3)
            go_ret
            exact ⟨by first | rfl | (rw [hr]; rfl), hb4⟩
          | true =>
            rw [hq] at hm
            have hx24 := may_len hq
            have HM : Hid (may pp xs = true) := hq
            clear hq
            go_wp2_with (go_at_call 21; refine hm.mono ?_; rintro r w3 ⟨rfl, hb3⟩; have x0 := cell_on x0 hb3; have q1 := cell_on q1 hb3; have HB3 : Hid (Below wr.heap.size wr w3) := hb3; clear hb3)
            have HX3 : Hid (Bx1 w3 w.heap.size (.slice (some ⟨bk, o, none⟩) ds.length c)) := HX.out.on (below_next HB.out HB3.out)
            have HD3 : Hid (Defs Exs w3 (some ⟨bk, o, none⟩) ds) := HD.out.on (below_next HB.out HB3.out)
            have HQ3 : Hid (Exs w3 gk xs) := HQ.out.on HB3.out
            have HC3 : Hid (w3.cell? ⟨bk, o + k * 2 + 1, none⟩ = some (.slice gk xs.length ck)) := q1
            have HB5 : Hid (Below W0.heap.size W0 w3) := below_next HB.out HB3.out
            have HBE : Hid (⟨pp, xs⟩ ∈ ds) := by show _ ∈ _; rw [HE.out]; exact List.getElem_mem hlt
            clear HQ HB HB3 HX HD x0 q1 q0 hm hbk2
            go_loopw [4, 5] (fun s4 _ wi => ∃ m : Nat, m ≤ xs.length ∧ s4 = .int .i64 (m : Int) ∧ Hid (Below w3.heap.size w3 wi) ∧ Hid ((xs.take m).any (wrong ds) = false))
              (fun s4 _ _ => xs.length - (intOf s4).toNat)
            case atStart => exact ⟨0, Nat.zero_le _, rfl, Below.refl _ _, by show ([] : List Ex).any (wrong ds) = false; rfl⟩
            case round =>
              obtain ⟨m, hmm, rfl, HBi, Hi⟩ := hrel
              have x1 := (HX3.out.on HBi.out).c0
              have xl := (HX3.out.on HBi.out).lt
              have c1 := cell_on HC3.out HBi.out
              by_cases hlm : m < xs.length
              · have hlm' : (m : Int) < (xs.length : Int) := by omega
                obtain ⟨b3, o3, rfl, hb3, gk3, ck3, a0, a1, a2, a3, an⟩ := (HQ3.out.on HBi.out).at hlm
                have h7 : xs[m].kind = 2 → 0 ≤ xs[m].num := fun h => may_call HM.out (List.getElem_mem hlm) h
                have HT : Hid (xs.take (m + 1) = xs.take m ++ [xs[m]]) := List.take_succ_eq_append_getElem hlm
                have HME : Hid (xs[m] ∈ xs) := List.getElem_mem hlm
                obtain ⟨e, he⟩ : ∃ e, xs[m] = e := ⟨_, rfl⟩
                rw [he] at a0 a1 a2 a3 h7 HT HME
                clear he an
                by_cases hk2 : e.kind = 2
                · have h70 := h7 hk2
                  clear h7
                  by_cases hnl : e.num < (ds.length : Int)
                  · have hn : e.num.toNat < ds.length := by omega
                    obtain ⟨bk4, o4, hge4, hbk4, gk4, ck4, p0, p1, p2⟩ := (HD3.out.on HBi.out).at hn
                    clear p1 p2
                    cases hge4
                    have HW : Hid (wrong ds e = !((e.kids.length : Int) == ds[e.num.toNat].params)) := by
                      show _ = _
                      unfold wrong; rw [decide_eq_true hk2, takes_at h70 hn]; rfl
                    obtain ⟨P, hP⟩ : ∃ P, ds[e.num.toNat].params = P := ⟨_, rfl⟩
                    rw [hP] at p0 HW
                    clear hP
                    obtain ⟨nm, hnm⟩ : ∃ nm : Nat, e.num = (nm : Int) := ⟨e.num.toNat, by omega⟩
                    rw [hnm, Int.toNat_natCast] at p0
                    rw [hnm] at a1 hnl h70
                    rw [hk2] at a0
                    have hge5 : decide ((ds.length : Int) ≤ (nm : Int)) = false := by simp; omega
                    have hge6 : decide (ds.length ≤ nm) = false := by simp; omega
                    have hge7 : ¬ ds.length ≤ nm := by omega
                    by_cases hkp : (e.kids.length : Int) = P
                    · have ekp : ((e.kids.length : Int) != P) = false := by simpa using hkp
                      have HW2 : Hid (wrong ds e = false) := by show _ = _; rw [HW.out]; simp [hkp]
                      have HKP : Hid ((e.kids.length : Int) = P) := hkp
                      clear hkp HW hn hk2 hnm
                      go_wp2_with fail
                      go_quiet (fail)
                      go_wp2_with fail
                      go_roundw
                      case rel => exact ⟨m + 1, by omega, by go_num, (HBi.out.alloc HBi.out.size _).trans (below_drewN _ _ _), by show (xs.take (m + 1)).any (wrong ds) = false; rw [HT.out, List.any_append, Hi.out]; simp [HW2.out]⟩
                      case measure => simp [intOf]; omega
                    · have ekp : ((e.kids.length : Int) != P) = true := by simpa using hkp
                      have hr : pmay ds = false := by
                        rw [HP.out, List.all_eq_false]
                        refine ⟨_, HBE.out, ?_⟩
                        have : xs.any (wrong ds) = true := List.any_eq_true.2 ⟨e, HME.out, by rw [HW.out]; simpa using hkp⟩
                        simp [dOk, this]
                      clear hkp HW hn hk2 hnm
                      have hb9 := below_next HB0.out (below_next HB5.out HBi.out)
                      have hb8 := (hb9.alloc hb9.size (.cells #[.int .i64 2, .int .i64 (nm : Int), .int .i64 e.bind, .slice gk3 e.kids.length ck3] 33))
                      clear hb9
                      go_wp2_with fail
                      go_quiet (fail)
                      go_wp2_with fail
                      go_ret
                      exact ⟨by first | rfl | (rw [hr]; rfl), hb8.trans (below_drewN _ _ _)⟩
                  · have hge5 : decide ((ds.length : Int) ≤ e.num) = true := by simp; omega
                    have hr : pmay ds = false := by
                      rw [HP.out, List.all_eq_false]
                      refine ⟨_, HBE.out, ?_⟩
                      have : xs.any (wrong ds) = true := List.any_eq_true.2 ⟨e, HME.out, by unfold wrong; rw [decide_eq_true hk2, takes_hi h70 hnl]; rfl⟩
                      simp [dOk, this]
                    rw [hk2] at a0
                    clear hk2
                    have hb9 := below_next HB0.out (below_next HB5.out HBi.out)
                    have hb8 := (hb9.alloc hb9.size (.cells #[.int .i64 2, .int .i64 e.num, .int .i64 e.bind, .slice gk3 e.kids.length ck3] 33))
                    clear hb9
                    go_wp2_with fail
                    go_quiet (fail)
                    go_wp2_with fail
                    go_ret
                    exact ⟨by first | rfl | (rw [hr]; rfl), hb8.trans (below_drewN _ _ _)⟩
                · have ek : (e.kind == 2) = false := by simpa using hk2
                  have HW2 : Hid (wrong ds e = false) := by show _ = _; unfold wrong; rw [decide_eq_false hk2]; rfl
                  clear h7
                  go_wp2_with fail
                  go_quiet (fail)
                  go_wp2_with fail
                  go_roundw
                  case rel => exact ⟨m + 1, by omega, by go_num, (HBi.out.alloc HBi.out.size _).trans (below_drewN _ _ _), by show (xs.take (m + 1)).any (wrong ds) = false; rw [HT.out, List.any_append, Hi.out]; simp [HW2.out]⟩
                  case measure => simp [intOf]; omega
              · have hlm' : ¬ (m : Int) < (xs.length : Int) := by omega
                have hb8 := below_next HB5.out HBi.out
                have HN : Hid ((ds.take (k + 1)).all (dOk ds) = true) := by
                  show (ds.take (k + 1)).all (dOk ds) = true
                  have h := Hi.out
                  rw [show m = xs.length by omega, List.take_length] at h
                  rw [List.take_add_one, List.getElem?_eq_getElem hlt, List.all_append, H.out, ← HE.out]
                  simp only [Option.toList, List.all_cons, List.all_nil, dOk, HM.out, h]
                  decide
                go_wp2_with fail
                go_roundw
                case rel => exact ⟨k + 1, by omega, by go_num, hb8, HN⟩
                case measure => simp [intOf]; omega
        · have hlt' : ¬ (k : Int) < (ds.length : Int) := by omega
          have hb7 := below_next HB0.out HB.out
          have hr : pmay ds = true := by
            have h := H.out
            rw [show k = ds.length by omega, List.take_length] at h
            rw [HP.out, h]
          go_wp2_with fail
          go_ret
          exact ⟨by first | rfl | (rw [hr]; rfl), hb7⟩
    · have e3 : (ds[0].params != 0) = true := by simpa using h3
      rw [pmay_main hl h3]
      clear hd hd0 hX0 h3
      generalize ds[0].params = P at *
      go_enter Try.func9, Try.ntmps9
      go_wp2_with (go_at_call 20; refine (hup _).mono ?_; rintro e w' ⟨rfl, rfl⟩)
      go_ret
      exact ⟨rfl, hb0⟩
end Go.Proofs.Ytiobjkmpeiohdaa
