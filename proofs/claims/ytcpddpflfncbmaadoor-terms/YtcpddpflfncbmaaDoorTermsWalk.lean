/- Whatever the text, the kind, the number and the parts are, Cut, Make and May answer as the document's own answers do; what Cut took apart Make puts together again; the parts that were lent stay as they were, with the room behind them, also when what Cut handed back is written over. -/
import Derived.Test.YtcpddpflfncbmaaDoorTexts
namespace Go.Proofs.YtcpddpflfncbmaaDoor.terms
open Go.RowKit
set_option linter.unusedVariables false

set_option maxHeartbeats 3200000 in
set_option maxRecDepth 100000 in
/- The walk: the law's Go text returns true. -/
theorem walk (s : ByteArray) (kind num : Int) (g : Option Addr) (xs : List ByteArray) (c : Nat) (w : World) (hs : s.size ≤ 140737488355328) (n0 : -9223372036854775808 ≤ num) (n1 : num ≤ 9223372036854775807)
    (hin : Inc w g xs c) (hn : xs.length * 16 ≤ 140737488351232) (hxs : ∀ x ∈ xs, x.size ≤ 140737488355328) (hw : Lw w) :
    Calls Tryd.prog 3 #[.string s, .int .i64 kind, .int .i64 num, .slice g xs.length c] w fun e w' => e = .returned (.bool true) ∧ Below w.heap.size w w' := by
  have HXS : Hid (∀ x ∈ xs, x.size ≤ 140737488355328) := hxs
  have HTX : Hid (Txts w g xs) := hin.txts
  have HIN : Hid (Inc w g xs c) := hin
  clear hxs hin
  go_enter Tryd.func3, Tryd.ntmps3
  go_wp2_with fail
  refine (lend_any g xs c _ HIN.out hn).mono ?_
  rintro e w1 ⟨gb, cap, rfl, hlent, h01⟩
  have HL : Hid (Lent w1 w.heap.size gb cap xs) := hlent
  have hw1 := hw.on h01
  clear hlent HIN
  go_wp2_with fail
  refine (cut_any atoi_said itoa_said clone_said s _ hs hw1).mono ?_
  rintro e w2 ⟨k, x, v, er, rfl, ⟨vg, vn, vc, rfl⟩, h12, hgot⟩
  have HG : Hid (GotC w1.heap.size w2 (whole s.data.toList) k x (.slice vg vn vc) er) := hgot
  clear hgot
  go_wp2_with fail
  refine (rcut_any s _ hs).mono ?_
  rintro e w3 ⟨k', x', v', er', rfl, ⟨vg', vn', vc', rfl⟩, h23, hgot⟩
  have HG' : Hid (GotC w2.heap.size w3 (whole s.data.toList) k' x' (.slice vg' vn' vc') er') := hgot
  clear hgot
  have h13 := below_next h12 h23
  go_wp2_with fail
  have hl3 := HL.out.on h13
  have hcap : xs.length ≤ cap := by have := hl3.1; omega
  refine (make_at kind num _ xs.length xs cap _ rfl n0 n1 hl3.txts HXS.out (by omega) hcap (hw1.on h13)).mono ?_
  rintro e w4 ⟨rfl, h34⟩
  have h14 := below_next h13 h34
  clear hl3 hcap
  generalize ho : mk kind num (lst xs) = o at *
  have HO : Hid (mk kind num (lst xs) = o) := ho
  clear ho
  generalize hT : mkT o = tt at *
  generalize hE : mkE o = ee at *
  have HT : Hid (mkT o = tt) := hT
  have HE : Hid (mkE o = ee) := hE
  clear hT hE
  simp only [S]
  go_wp2_with fail
  refine (rmake_any kind num g xs.length xs c _ rfl (HTX.out.on (below_next h01 h14)) (by omega) HXS.out).mono ?_
  rintro e w5 ⟨rfl, h45⟩
  rw [HO.out, HT.out, HE.out]
  have h15 := below_next h14 h45
  have h25 : Below w2.heap.size w2 w5 := below_next h23 (below_next h34 h45)
  have h35 : Below w3.heap.size w3 w5 := below_next h34 h45
  clear h14 h13 h45 h34 HO HT HE
  simp only [S]
  cases hW : whole s.data.toList with
  | none =>
    have hg1 := HG.out
    have hg2 := HG'.out
    rw [hW] at hg1 hg2
    obtain ⟨rfl, rfl, ev, rfl⟩ := hg1
    obtain ⟨rfl, rfl, ev', rfl⟩ := hg2
    cases ev
    cases ev'
    have HW : Hid (whole s.data.toList = none) := hW
    clear hW HG HG' h25 h35 h12 h23
    go_wp2_with (go_at_call 15; refine (num_any _ _).mono ?_; rintro e w' ⟨rfl, rfl⟩)
    refine (same_at none none 0 0 [] [] 0 0 _ rfl rfl (Or.inl rfl) (Or.inl rfl) (by decide) (by decide)).mono ?_
    rintro e w6 ⟨rfl, h56⟩
    rw [show sameB [] [] = true from rfl]
    have h16 := below_next h15 h56
    clear h56 h15
    go_wp2_with (go_at_call 15; refine (num_any _ _).mono ?_; rintro e w' ⟨rfl, rfl⟩)
    refine (tmay_any atoi_said itoa_said s _ hs (hw1.on h16)).mono ?_
    rintro e w7 ⟨rfl, h67⟩
    rw [HW.out]
    have h17 := below_next h16 h67
    clear h67 h16
    simp only [Option.isSome_none]
    go_wp2_with fail
    refine (rmay_any s _ hs).mono ?_
    rintro e w8 ⟨rfl, h78⟩
    rw [HW.out]
    have h18 := below_next h17 h78
    clear h78 h17
    simp only [Option.isSome_none]
    go_wp2_with (go_at_call 15; refine (num_any _ _).mono ?_; rintro e w' ⟨rfl, rfl⟩)
    refine (spoil_any (.slice none 0 0) [] w1.heap.size _ ⟨_, _, _, rfl⟩ (World.ownsRow_nil _ _ _ _) (by decide) (by simp)).mono ?_
    rintro e w9 ⟨rfl, h89⟩
    have h19 : Below w1.heap.size w1 w9 := h18.trans h89
    clear h18 h89
    go_wp2_with fail
    refine (kept_any gb cap g xs c w.heap.size _ (HL.out.on h19) (HTX.out.on (below_next h01 h19)) hn).mono ?_
    rintro e wa ⟨rfl, h9a⟩
    have h1a := below_next h19 h9a
    clear h19 h9a
    go_wp2_with fail
    refine (awake_any _ (hw1.on h1a)).mono ?_
    rintro e wb ⟨rfl, hab⟩
    have h0b := below_next h01 (below_next h1a hab)
    go_wp2_with fail
    go_ret
    exact ⟨rfl, h0b⟩
  | some y =>
    obtain ⟨ky, xy, ks⟩ := y
    have hg1 := HG.out
    have hg2 := HG'.out
    rw [hW] at hg1 hg2
    obtain ⟨rfl, rfl, rfl, hown⟩ := hg1
    obtain ⟨ek, ex, rfl, hown'⟩ := hg2
    have ek' := ek.symm
    have ex' := ex.symm
    clear ek ex
    subst ek' ex'
    have hw_parts := whole_parts hW
    have hk3 := hw_parts.2.2
    have hsl := (whole_some hW).1
    have HM : Hid (mk k x ks = some s.data.toList) := whole_mkd hW
    have HKL : Hid (∀ t ∈ ks, t.length ≤ 1024) := fun t ht => by have := (hw_parts.1 t ht).2; omega
    obtain ⟨g1, c1, e1, htx1, hc1⟩ := own_txts hown
    obtain ⟨g2, c2, e2, htx2, _⟩ := own_txts hown'
    have ea : vg = g1 := by cases e1; rfl
    have eb : vn = (ks.map ba).length := by cases e1; rfl
    have ec : vc = c1 := by cases e1; rfl
    have ea' : vg' = g2 := by cases e2; rfl
    have eb' : vn' = (ks.map ba).length := by cases e2; rfl
    clear e1 e2
    subst ea ec ea'
    have hkl : (ks.map ba).length = ks.length := by simp
    rw [hkl] at eb eb'
    subst eb eb'
    have HT1 : Hid (Txts w2 vg (ks.map ba)) := htx1
    have HT2 : Hid (Txts w3 vg' (ks.map ba)) := htx2
    have HOW : Hid (w2.ownsRow w1.heap.size 9 1 (.slice vg ks.length vc) ks.length (ks.map S)) := hown
    have HW : Hid ((whole s.data.toList).isSome = true) := by show (whole s.data.toList).isSome = true; rw [hW]; rfl
    have hq1 : (k != k) = false := by simp
    have hq2 : (x != x) = false := by simp
    clear hW HG HG' hown hown' htx1 htx2 hw_parts h12 h23
    go_wp2_with (go_at_call 15; refine (num_any _ _).mono ?_; rintro e w' ⟨rfl, rfl⟩)
    refine (same_at _ _ _ _ (ks.map ba) (ks.map ba) _ _ _ hkl.symm hkl.symm (HT1.out.on h25) (HT2.out.on h35) (by omega) (by omega)).mono ?_
    rintro e w6 ⟨rfl, h56⟩
    rw [show sameB (ks.map ba) (ks.map ba) = true from decide_eq_true rfl]
    have h16 := below_next h15 h56
    have h26 := below_next h25 h56
    clear h56 h15 h25 h35 HT2
    go_wp2_with (go_at_call 15; refine (num_any _ _).mono ?_; rintro e w' ⟨rfl, rfl⟩)
    refine (tmay_any atoi_said itoa_said s _ hs (hw1.on h16)).mono ?_
    rintro e w7 ⟨rfl, h67⟩
    rw [HW.out]
    have h17 := below_next h16 h67
    have h27 := below_next h26 h67
    clear h67 h16 h26
    go_wp2_with fail
    refine (rmay_any s _ hs).mono ?_
    rintro e w8 ⟨rfl, h78⟩
    rw [HW.out]
    have h18 := below_next h17 h78
    have h28 := below_next h27 h78
    clear h78 h17 h27
    go_wp2_with (go_at_call 15; refine (num_any _ _).mono ?_; rintro e w' ⟨rfl, rfl⟩)
    have hxr : -9223372036854775808 ≤ x ∧ x ≤ 9223372036854775807 := by
      cases hu : uptoB x (-32768) 32767 with
      | false => have := HM.out; rw [mk_upto hu] at this; cases this
      | true =>
        have hr : -32768 ≤ x ∧ x ≤ 32767 := by unfold uptoB at hu; simpa using hu
        omega
    refine (make_at k x _ _ (ks.map ba) _ _ hkl.symm hxr.1 hxr.2 (HT1.out.on h28) ?_ (by omega) (by omega) (hw1.on h18)).mono ?_
    · intro z hz
      obtain ⟨t, ht, rfl⟩ := List.mem_map.1 hz
      have := HKL.out t ht
      show t.length ≤ _
      omega
    rintro e w9 ⟨rfl, h89⟩
    rw [lst_ba, HM.out]
    have h19 := below_next h18 h89
    have h29 := below_next h28 h89
    clear h89 h18 h28 HM HT1 hxr
    simp only [mkT, mkE, S]
    have hss : (⟨s.data.toList.toArray⟩ : ByteArray) = s := ba_list s
    rw [hss]
    go_wp2_with (go_at_call 15; refine (num_any _ _).mono ?_; rintro e w' ⟨rfl, rfl⟩)
    refine (spoil_any _ ks w1.heap.size _ ⟨_, _, _, rfl⟩ (own_below HOW.out h29) hk3 HKL.out).mono ?_
    rintro e wa ⟨rfl, h9a⟩
    have h1a : Below w1.heap.size w1 wa := h19.trans h9a
    clear h19 h9a h29 HOW
    go_wp2_with fail
    refine (kept_any gb cap g xs c w.heap.size _ (HL.out.on h1a) (HTX.out.on (below_next h01 h1a)) hn).mono ?_
    rintro e wb ⟨rfl, hab⟩
    have h1b := below_next h1a hab
    clear h1a hab
    go_wp2_with fail
    refine (awake_any _ (hw1.on h1b)).mono ?_
    rintro e wc ⟨rfl, hbc⟩
    have h0c := below_next h01 (below_next h1b hbc)
    go_wp2_with fail
    go_ret
    exact ⟨rfl, h0c⟩
end Go.Proofs.YtcpddpflfncbmaaDoor.terms
