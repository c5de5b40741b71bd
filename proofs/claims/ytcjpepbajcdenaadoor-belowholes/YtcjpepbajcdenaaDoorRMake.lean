/- The contract of the reference's Make: it hands back what package term's Make does. -/
import Derived.Test.YtcjpepbajcdenaaDoorRJoin
import Derived.Test.YtcjpepbajcdenaaDoorMakesA
namespace Go.Proofs.YtcjpepbajcdenaaDoor
open Go.RowKit
set_option linter.unusedVariables false

set_option maxHeartbeats 800000 in
set_option maxRecDepth 100000 in
theorem rcut_wide (s : ByteArray) (w : World) (hs : s.size ≤ 4611686018427387904) :
    Calls Tryd.prog 18 #[.string s] w fun e w' => ∃ k x v er, e = .returned (.tuple #[.int .i64 k, .int .i64 x, v, .int .i64 er]) ∧ (∃ g n c, v = .slice g n c) ∧
      Below w.heap.size w w' ∧ GotC w.heap.size w' (whole s.data.toList) k x v er := by
  by_cases hbig : 1024 < s.size
  · have hb' : (1024 : Int) < (s.size : Int) := by omega
    have HW : Hid (whole s.data.toList = none) := whole_big (by simpa using hbig)
    go_enter Tryd.func18, Tryd.ntmps18
    go_wp2_with fail
    refine bodyPost_ret (v := .tuple #[.int .i64 0, .int .i64 0, .slice none 0 0, .int .i64 200]) (by simp [results, Tryd.results18, go_sem]) rfl ⟨0, 0, _, 200, rfl, ⟨_, _, _, rfl⟩, Below.refl _ _, ?_⟩
    rw [HW.out]; exact ⟨rfl, rfl, rfl, rfl⟩
  · exact rcut_any s w (by omega)

/-- The text that the reference tries. -/
def rtext (kind num : Int) (kids : List (List UInt8)) : List UInt8 :=
  if kind = 0 then [95] else if kind = 3 then [33] else if kind = 1 then Lib.itoa num else if kind = 2 then 64 :: (Lib.itoa num ++ tail kids) else []
theorem rtext_mk {kind num : Int} {kids : List (List UInt8)} {s : List UInt8} (h : mk kind num kids = some s) : s = rtext kind num kids := by
  unfold mk at h
  cases hh : head kind num with
  | none => rw [hh] at h; cases h
  | some t =>
    rw [hh] at h
    simp only at h
    by_cases hb : behind kind kids = true
    · rw [if_pos hb] at h
      by_cases hl : (t ++ tail kids).length ≤ 1024
      · rw [if_pos hl] at h
        have e := Option.some.inj h
        subst e
        have hn : kind ≠ 2 → tail kids = [] := fun h2 => by
          by_cases hk : kids = []
          · subst hk; rfl
          · exact absurd (behind_some hk hb).1 h2
        unfold head at hh
        unfold rtext
        by_cases k0 : kind = 0
        · rw [if_pos k0] at hh ⊢
          split at hh
          · rw [← Option.some.inj hh, hn (by omega)]; rfl
          · cases hh
        · rw [if_neg k0] at hh ⊢
          by_cases k3 : kind = 3
          · rw [if_pos k3] at hh ⊢
            split at hh
            · rw [← Option.some.inj hh, hn (by omega)]; rfl
            · cases hh
          · rw [if_neg k3] at hh ⊢
            by_cases k1 : kind = 1
            · rw [if_pos k1] at hh ⊢
              split at hh
              · rw [← Option.some.inj hh, hn (by omega)]; simp
              · cases hh
            · rw [if_neg k1] at hh ⊢
              by_cases k2 : kind = 2
              · rw [if_pos k2] at hh ⊢
                split at hh
                · rw [← Option.some.inj hh]; rfl
                · cases hh
              · rw [if_neg k2] at hh; cases hh
      · rw [if_neg hl] at h; cases h
    · rw [if_neg hb] at h; cases h
theorem rmk_no {kind num : Int} {kids : List (List UInt8)} {s : List UInt8} (hs : s = rtext kind num kids) (h : whole s ≠ some (kind, num, kids)) : mk kind num kids = none := by
  cases hm : mk kind num kids with
  | none => rfl
  | some t =>
    have e := rtext_mk hm
    subst e; subst hs
    exact absurd (mkd_whole hm) h
theorem mk_three {kind num : Int} {kids : List (List UInt8)} (h : 3 < kids.length) : mk kind num kids = none := termMakes.none_kids (behind_bad (fun e => by rw [e] at h; simp at h) (Or.inr h))
theorem mk_upto {kind num : Int} {kids : List (List UInt8)} (h : uptoB num (-32768) 32767 = false) : mk kind num kids = none := by
  have h' : num < -32768 ∨ 32767 < num := by
    unfold uptoB at h
    simp only [Bool.and_eq_false_iff, decide_eq_false_iff_not] at h
    omega
  refine mk_head_none kids ?_
  unfold head
  rw [termMakes.may_no h', termMakes.tag_no (by omega)]
  split
  · rw [if_neg (by omega)]
  · split
    · rw [if_neg (by omega)]
    · split
      · rfl
      · split <;> rfl
theorem lst_inj {xs ys : List ByteArray} (h : lst xs = lst ys) : xs = ys := by
  have key : ∀ zs : List ByteArray, (lst zs).map ba = zs := fun zs => by
    unfold lst ba; rw [List.map_map]
    have : ((fun l : List UInt8 => (⟨l.toArray⟩ : ByteArray)) ∘ fun x : ByteArray => x.data.toList) = id := by funext x; simp
    rw [this, List.map_id]
  rw [← key xs, h, key]

set_option maxHeartbeats 1600000 in
set_option maxRecDepth 100000 in
theorem rmake_zero (num : Int) (g : Option Addr) (xs : List ByteArray) (c : Nat) (w : World) (n1 : -32768 ≤ num) (n2 : num ≤ 32767)
    (hx : Txts w g xs) (h3 : xs.length ≤ 3) (hxs : ∀ x ∈ xs, x.size ≤ 140737488355328) :
    Calls Tryd.prog 14 #[.int .i64 0, .int .i64 num, .slice g xs.length c] w fun e w' => MakeQ (mk 0 num (lst xs)) w e w' := by
  have hu : uptoB num (-32768) 32767 = true := by unfold uptoB; simp; omega
  have HU : Hid (uptoB num (-32768) 32767 = true) := hu
  clear hu
  go_enter Tryd.func14, Tryd.ntmps14
  go_wp2_with fail
  refine (upto_any _ _ _ _).mono ?_
  rintro e w1 ⟨rfl, rfl⟩
  rw [HU.out]
  go_wp2_with fail
  obtain ⟨s, hse⟩ : ∃ s : ByteArray, s = ⟨#[95]⟩ := ⟨_, rfl⟩
  rw [← hse]
  have hs : s.size ≤ 4611686018427387904 := by rw [hse]; exact (by decide)
  have HR : Hid (s.data.toList = rtext 0 num (lst xs)) := by rw [hse]; exact rfl
  clear hse
  refine (rcut_wide s _ hs).mono ?_
  rintro e w2 ⟨k, x, v, er, rfl, ⟨g', n', c', rfl⟩, hb2, hgot⟩
  have h02 := below_next (Below.refl w.heap.size w) hb2
  cases hW : whole s.data.toList with
  | none =>
    rw [hW] at hgot
    obtain ⟨rfl, rfl, ev, rfl⟩ := hgot
    have HK : Hid (mk 0 num (lst xs) = none) := rmk_no HR.out (by rw [hW]; simp)
    clear hW hb2 ev
    go_wp2_with fail
    go_ret2
    exact makeQ_none HK.out h02
  | some y =>
    obtain ⟨k', x', ks⟩ := y
    rw [hW] at hgot
    obtain ⟨rfl, rfl, rfl, hown⟩ := hgot
    have hp3 := (whole_parts hW).2.2
    obtain ⟨g2, c2, ev, htx, _⟩ := own_txts hown
    have eg : g' = g2 := by cases ev; rfl
    have en : n' = (ks.map ba).length := by cases ev; rfl
    have HTX : Hid (Txts w2 g' (ks.map ba)) := by rw [eg]; exact htx
    subst en
    clear ev eg
    have hkl : (ks.map ba).length = ks.length := by simp
    clear hown htx
    by_cases hkk : k = 0
    · subst hkk
      by_cases hxn : x = num
      · subst hxn
        have hq1 : (0 != 0) = false := by simp
        have hq2 : (x != x) = false := by simp
        have hxw : Txts w2 g xs := hx.on h02
        have HXW : Hid (Txts w2 g xs) := hxw
        clear hxw hb2
        by_cases hsm : ks.map ba = xs
        · have HK : Hid (mk 0 x (lst xs) = some s.data.toList) := by
            show _ = _
            rw [← hsm, lst_ba]; exact whole_mkd hW
          have HS : Hid (sameB (ks.map ba) xs = true) := decide_eq_true hsm
          clear hsm hW
          go_wp2_with fail
          refine (rsame_at _ _ _ _ (ks.map ba) xs _ _ _ (by simp) rfl HTX.out HXW.out (by rw [hkl]; omega) (by omega)).mono ?_
          rintro e w3 ⟨rfl, hb3⟩
          rw [HS.out]
          have h03 := below_next h02 hb3
          clear hb3 h02
          go_wp2_with fail
          go_ret2
          exact makeQ_some HK.out (by simp) h03
        · have HK : Hid (mk 0 x (lst xs) = none) := rmk_no HR.out (by
            rw [hW]
            intro e
            refine hsm (lst_inj ?_)
            rw [lst_ba]; simpa using e)
          have HS : Hid (sameB (ks.map ba) xs = false) := decide_eq_false hsm
          clear hsm hW
          go_wp2_with fail
          refine (rsame_at _ _ _ _ (ks.map ba) xs _ _ _ (by simp) rfl HTX.out HXW.out (by rw [hkl]; omega) (by omega)).mono ?_
          rintro e w3 ⟨rfl, hb3⟩
          rw [HS.out]
          have h03 := below_next h02 hb3
          clear hb3 h02
          go_wp2_with fail
          go_ret2
          exact makeQ_none HK.out h03
      · have hq1 : (0 != 0) = false := by simp
        have hq2 : (x != num) = true := by simp [hxn]
        have HK : Hid (mk 0 num (lst xs) = none) := rmk_no HR.out (by rw [hW]; intro e; exact hxn (by simpa using congrArg (fun o => (o.map (·.2.1)).getD 0) e))
        clear hW hxn hb2
        go_wp2_with fail
        go_ret2
        exact makeQ_none HK.out h02
    · have hq1 : (k != 0) = true := by simp [hkk]
      have HK : Hid (mk 0 num (lst xs) = none) := rmk_no HR.out (by rw [hW]; intro e; exact hkk (by simpa using congrArg (fun o => (o.map (·.1)).getD 0) e))
      clear hW hkk hb2
      go_wp2_with fail
      go_ret2
      exact makeQ_none HK.out h02

set_option maxHeartbeats 1600000 in
set_option maxRecDepth 100000 in
theorem rmake_three (num : Int) (g : Option Addr) (xs : List ByteArray) (c : Nat) (w : World) (n1 : -32768 ≤ num) (n2 : num ≤ 32767)
    (hx : Txts w g xs) (h3 : xs.length ≤ 3) (hxs : ∀ x ∈ xs, x.size ≤ 140737488355328) :
    Calls Tryd.prog 14 #[.int .i64 3, .int .i64 num, .slice g xs.length c] w fun e w' => MakeQ (mk 3 num (lst xs)) w e w' := by
  have hu : uptoB num (-32768) 32767 = true := by unfold uptoB; simp; omega
  have HU : Hid (uptoB num (-32768) 32767 = true) := hu
  clear hu
  go_enter Tryd.func14, Tryd.ntmps14
  go_wp2_with fail
  refine (upto_any _ _ _ _).mono ?_
  rintro e w1 ⟨rfl, rfl⟩
  rw [HU.out]
  go_wp2_with fail
  obtain ⟨s, hse⟩ : ∃ s : ByteArray, s = ⟨#[33]⟩ := ⟨_, rfl⟩
  rw [← hse]
  have hs : s.size ≤ 4611686018427387904 := by rw [hse]; exact (by decide)
  have HR : Hid (s.data.toList = rtext 3 num (lst xs)) := by rw [hse]; exact rfl
  clear hse
  refine (rcut_wide s _ hs).mono ?_
  rintro e w2 ⟨k, x, v, er, rfl, ⟨g', n', c', rfl⟩, hb2, hgot⟩
  have h02 := below_next (Below.refl w.heap.size w) hb2
  cases hW : whole s.data.toList with
  | none =>
    rw [hW] at hgot
    obtain ⟨rfl, rfl, ev, rfl⟩ := hgot
    have HK : Hid (mk 3 num (lst xs) = none) := rmk_no HR.out (by rw [hW]; simp)
    clear hW hb2 ev
    go_wp2_with fail
    go_ret2
    exact makeQ_none HK.out h02
  | some y =>
    obtain ⟨k', x', ks⟩ := y
    rw [hW] at hgot
    obtain ⟨rfl, rfl, rfl, hown⟩ := hgot
    have hp3 := (whole_parts hW).2.2
    obtain ⟨g2, c2, ev, htx, _⟩ := own_txts hown
    have eg : g' = g2 := by cases ev; rfl
    have en : n' = (ks.map ba).length := by cases ev; rfl
    have HTX : Hid (Txts w2 g' (ks.map ba)) := by rw [eg]; exact htx
    subst en
    clear ev eg
    have hkl : (ks.map ba).length = ks.length := by simp
    clear hown htx
    by_cases hkk : k = 3
    · subst hkk
      by_cases hxn : x = num
      · subst hxn
        have hq1 : (3 != 3) = false := by simp
        have hq2 : (x != x) = false := by simp
        have hxw : Txts w2 g xs := hx.on h02
        have HXW : Hid (Txts w2 g xs) := hxw
        clear hxw hb2
        by_cases hsm : ks.map ba = xs
        · have HK : Hid (mk 3 x (lst xs) = some s.data.toList) := by
            show _ = _
            rw [← hsm, lst_ba]; exact whole_mkd hW
          have HS : Hid (sameB (ks.map ba) xs = true) := decide_eq_true hsm
          clear hsm hW
          go_wp2_with fail
          refine (rsame_at _ _ _ _ (ks.map ba) xs _ _ _ (by simp) rfl HTX.out HXW.out (by rw [hkl]; omega) (by omega)).mono ?_
          rintro e w3 ⟨rfl, hb3⟩
          rw [HS.out]
          have h03 := below_next h02 hb3
          clear hb3 h02
          go_wp2_with fail
          go_ret2
          exact makeQ_some HK.out (by simp) h03
        · have HK : Hid (mk 3 x (lst xs) = none) := rmk_no HR.out (by
            rw [hW]
            intro e
            refine hsm (lst_inj ?_)
            rw [lst_ba]; simpa using e)
          have HS : Hid (sameB (ks.map ba) xs = false) := decide_eq_false hsm
          clear hsm hW
          go_wp2_with fail
          refine (rsame_at _ _ _ _ (ks.map ba) xs _ _ _ (by simp) rfl HTX.out HXW.out (by rw [hkl]; omega) (by omega)).mono ?_
          rintro e w3 ⟨rfl, hb3⟩
          rw [HS.out]
          have h03 := below_next h02 hb3
          clear hb3 h02
          go_wp2_with fail
          go_ret2
          exact makeQ_none HK.out h03
      · have hq1 : (3 != 3) = false := by simp
        have hq2 : (x != num) = true := by simp [hxn]
        have HK : Hid (mk 3 num (lst xs) = none) := rmk_no HR.out (by rw [hW]; intro e; exact hxn (by simpa using congrArg (fun o => (o.map (·.2.1)).getD 0) e))
        clear hW hxn hb2
        go_wp2_with fail
        go_ret2
        exact makeQ_none HK.out h02
    · have hq1 : (k != 3) = true := by simp [hkk]
      have HK : Hid (mk 3 num (lst xs) = none) := rmk_no HR.out (by rw [hW]; intro e; exact hkk (by simpa using congrArg (fun o => (o.map (·.1)).getD 0) e))
      clear hW hkk hb2
      go_wp2_with fail
      go_ret2
      exact makeQ_none HK.out h02

set_option maxHeartbeats 1600000 in
set_option maxRecDepth 100000 in
theorem rmake_other (kind num : Int) (g : Option Addr) (xs : List ByteArray) (c : Nat) (w : World) (n1 : -32768 ≤ num) (n2 : num ≤ 32767)
    (hx : Txts w g xs) (h3 : xs.length ≤ 3) (hxs : ∀ x ∈ xs, x.size ≤ 140737488355328) (k0 : kind ≠ 0) (k3 : kind ≠ 3) (k1 : kind ≠ 1) (k2 : kind ≠ 2) :
    Calls Tryd.prog 14 #[.int .i64 kind, .int .i64 num, .slice g xs.length c] w fun e w' => MakeQ (mk kind num (lst xs)) w e w' := by
  have hu : uptoB num (-32768) 32767 = true := by unfold uptoB; simp; omega
  have HU : Hid (uptoB num (-32768) 32767 = true) := hu
  clear hu
  have e0 : (kind == 0) = false := by simp [k0]
  have e1 : (kind == 1) = false := by simp [k1]
  have e2 : (kind == 2) = false := by simp [k2]
  have e3 : (kind == 3) = false := by simp [k3]
  go_enter Tryd.func14, Tryd.ntmps14
  go_wp2_with fail
  refine (upto_any _ _ _ _).mono ?_
  rintro e w1 ⟨rfl, rfl⟩
  rw [HU.out]
  go_wp2_with fail
  refine (rcut_wide ⟨#[]⟩ _ (by decide)).mono ?_
  rintro e w2 ⟨k, x, v, er, rfl, ⟨g', n', c', rfl⟩, hb2, hgot⟩
  rw [show whole (⟨#[]⟩ : ByteArray).data.toList = none by decide +kernel] at hgot
  obtain ⟨rfl, rfl, ev, rfl⟩ := hgot
  have HK : Hid (mk kind num (lst xs) = none) := mk_head_none _ (head_other num k0 k1 k2 k3)
  clear ev
  go_wp2_with fail
  go_ret2
  exact makeQ_none HK.out hb2

set_option maxHeartbeats 1600000 in
set_option maxRecDepth 100000 in
theorem rmake_one (num : Int) (g : Option Addr) (xs : List ByteArray) (c : Nat) (w : World) (n1 : -32768 ≤ num) (n2 : num ≤ 32767)
    (hx : Txts w g xs) (h3 : xs.length ≤ 3) (hxs : ∀ x ∈ xs, x.size ≤ 140737488355328) :
    Calls Tryd.prog 14 #[.int .i64 1, .int .i64 num, .slice g xs.length c] w fun e w' => MakeQ (mk 1 num (lst xs)) w e w' := by
  have hu : uptoB num (-32768) 32767 = true := by unfold uptoB; simp; omega
  have HU : Hid (uptoB num (-32768) 32767 = true) := hu
  clear hu
  go_enter Tryd.func14, Tryd.ntmps14
  go_wp2_with fail
  refine (upto_any _ _ _ _).mono ?_
  rintro e w1 ⟨rfl, rfl⟩
  rw [HU.out]
  go_wp2_with fail
  refine (decimal_any num _ n1 n2).mono ?_
  rintro e w1 ⟨rfl, hb1⟩
  have hil : (Lib.itoa num).length ≤ 21 := Lib.itoa_length_le num (by omega) (by omega)
  go_wp2_with fail
  obtain ⟨s, hse⟩ : ∃ s : ByteArray, s = ⟨(Lib.itoa num).toArray⟩ := ⟨_, rfl⟩
  rw [← hse]
  have hs : s.size ≤ 4611686018427387904 := by rw [hse]; exact (by show (Lib.itoa num).length ≤ _; omega)
  have HR : Hid (s.data.toList = rtext 1 num (lst xs)) := by rw [hse]; exact rfl
  clear hse
  refine (rcut_wide s _ hs).mono ?_
  rintro e w2 ⟨k, x, v, er, rfl, ⟨g', n', c', rfl⟩, hb2, hgot⟩
  have h02 := below_next hb1 hb2
  cases hW : whole s.data.toList with
  | none =>
    rw [hW] at hgot
    obtain ⟨rfl, rfl, ev, rfl⟩ := hgot
    have HK : Hid (mk 1 num (lst xs) = none) := rmk_no HR.out (by rw [hW]; simp)
    clear hW hb2 ev
    go_wp2_with fail
    go_ret2
    exact makeQ_none HK.out h02
  | some y =>
    obtain ⟨k', x', ks⟩ := y
    rw [hW] at hgot
    obtain ⟨rfl, rfl, rfl, hown⟩ := hgot
    have hp3 := (whole_parts hW).2.2
    obtain ⟨g2, c2, ev, htx, _⟩ := own_txts hown
    have eg : g' = g2 := by cases ev; rfl
    have en : n' = (ks.map ba).length := by cases ev; rfl
    have HTX : Hid (Txts w2 g' (ks.map ba)) := by rw [eg]; exact htx
    subst en
    clear ev eg
    have hkl : (ks.map ba).length = ks.length := by simp
    clear hown htx
    by_cases hkk : k = 1
    · subst hkk
      by_cases hxn : x = num
      · subst hxn
        have hq1 : (1 != 1) = false := by simp
        have hq2 : (x != x) = false := by simp
        have hxw : Txts w2 g xs := hx.on h02
        have HXW : Hid (Txts w2 g xs) := hxw
        clear hxw hb2
        by_cases hsm : ks.map ba = xs
        · have HK : Hid (mk 1 x (lst xs) = some s.data.toList) := by
            show _ = _
            rw [← hsm, lst_ba]; exact whole_mkd hW
          have HS : Hid (sameB (ks.map ba) xs = true) := decide_eq_true hsm
          clear hsm hW
          go_wp2_with fail
          refine (rsame_at _ _ _ _ (ks.map ba) xs _ _ _ (by simp) rfl HTX.out HXW.out (by rw [hkl]; omega) (by omega)).mono ?_
          rintro e w3 ⟨rfl, hb3⟩
          rw [HS.out]
          have h03 := below_next h02 hb3
          clear hb3 h02
          go_wp2_with fail
          go_ret2
          exact makeQ_some HK.out (by simp) h03
        · have HK : Hid (mk 1 x (lst xs) = none) := rmk_no HR.out (by
            rw [hW]
            intro e
            refine hsm (lst_inj ?_)
            rw [lst_ba]; simpa using e)
          have HS : Hid (sameB (ks.map ba) xs = false) := decide_eq_false hsm
          clear hsm hW
          go_wp2_with fail
          refine (rsame_at _ _ _ _ (ks.map ba) xs _ _ _ (by simp) rfl HTX.out HXW.out (by rw [hkl]; omega) (by omega)).mono ?_
          rintro e w3 ⟨rfl, hb3⟩
          rw [HS.out]
          have h03 := below_next h02 hb3
          clear hb3 h02
          go_wp2_with fail
          go_ret2
          exact makeQ_none HK.out h03
      · have hq1 : (1 != 1) = false := by simp
        have hq2 : (x != num) = true := by simp [hxn]
        have HK : Hid (mk 1 num (lst xs) = none) := rmk_no HR.out (by rw [hW]; intro e; exact hxn (by simpa using congrArg (fun o => (o.map (·.2.1)).getD 0) e))
        clear hW hxn hb2
        go_wp2_with fail
        go_ret2
        exact makeQ_none HK.out h02
    · have hq1 : (k != 1) = true := by simp [hkk]
      have HK : Hid (mk 1 num (lst xs) = none) := rmk_no HR.out (by rw [hW]; intro e; exact hkk (by simpa using congrArg (fun o => (o.map (·.1)).getD 0) e))
      clear hW hkk hb2
      go_wp2_with fail
      go_ret2
      exact makeQ_none HK.out h02

set_option maxHeartbeats 1600000 in
set_option maxRecDepth 100000 in
theorem rmake_two (num : Int) (g : Option Addr) (xs : List ByteArray) (c : Nat) (w : World) (n1 : -32768 ≤ num) (n2 : num ≤ 32767)
    (hx : Txts w g xs) (h3 : xs.length ≤ 3) (hxs : ∀ x ∈ xs, x.size ≤ 140737488355328) (hnil : xs = []) :
    Calls Tryd.prog 14 #[.int .i64 2, .int .i64 num, .slice g xs.length c] w fun e w' => MakeQ (mk 2 num (lst xs)) w e w' := by
  have hu : uptoB num (-32768) 32767 = true := by unfold uptoB; simp; omega
  have HU : Hid (uptoB num (-32768) 32767 = true) := hu
  clear hu
  subst hnil
  go_enter Tryd.func14, Tryd.ntmps14
  go_wp2_with fail
  refine (upto_any _ _ _ _).mono ?_
  rintro e w1 ⟨rfl, rfl⟩
  rw [HU.out]
  go_wp2_with fail
  refine (decimal_any num _ n1 n2).mono ?_
  rintro e w1 ⟨rfl, hb1⟩
  have hil : (Lib.itoa num).length ≤ 21 := Lib.itoa_length_le num (by omega) (by omega)
  have HT : Hid ((⟨#[64]⟩ : ByteArray) ++ ⟨(Lib.itoa num).toArray⟩ = ⟨(64 :: Lib.itoa num).toArray⟩) := by
    show _ = _
    rw [show (⟨#[64]⟩ : ByteArray) = ⟨[64].toArray⟩ from rfl, bytes_add]; rfl
  go_wp2_with fail
  rw [HT.out]
  obtain ⟨s, hse⟩ : ∃ s : ByteArray, s = ⟨(64 :: Lib.itoa num).toArray⟩ := ⟨_, rfl⟩
  rw [← hse]
  have hs : s.size ≤ 4611686018427387904 := by rw [hse]; exact (by show (64 :: Lib.itoa num).length ≤ _; simp; omega)
  have HR : Hid (s.data.toList = rtext 2 num (lst [])) := by rw [hse]; exact (by show 64 :: Lib.itoa num = 64 :: (Lib.itoa num ++ []); rw [List.append_nil])
  clear hse
  refine (rcut_wide s _ hs).mono ?_
  rintro e w2 ⟨k, x, v, er, rfl, ⟨g', n', c', rfl⟩, hb2, hgot⟩
  have h02 := below_next hb1 hb2
  cases hW : whole s.data.toList with
  | none =>
    rw [hW] at hgot
    obtain ⟨rfl, rfl, ev, rfl⟩ := hgot
    have HK : Hid (mk 2 num (lst []) = none) := rmk_no HR.out (by rw [hW]; simp)
    clear hW hb2 ev
    go_wp2_with fail
    go_ret2
    exact makeQ_none HK.out h02
  | some y =>
    obtain ⟨k', x', ks⟩ := y
    rw [hW] at hgot
    obtain ⟨rfl, rfl, rfl, hown⟩ := hgot
    have hp3 := (whole_parts hW).2.2
    obtain ⟨g2, c2, ev, htx, _⟩ := own_txts hown
    have eg : g' = g2 := by cases ev; rfl
    have en : n' = (ks.map ba).length := by cases ev; rfl
    have HTX : Hid (Txts w2 g' (ks.map ba)) := by rw [eg]; exact htx
    subst en
    clear ev eg
    have hkl : (ks.map ba).length = ks.length := by simp
    clear hown htx
    by_cases hkk : k = 2
    · subst hkk
      by_cases hxn : x = num
      · subst hxn
        have hq1 : (2 != 2) = false := by simp
        have hq2 : (x != x) = false := by simp
        have hxw : Txts w2 g [] := hx.on h02
        have HXW : Hid (Txts w2 g []) := hxw
        clear hxw hb2
        by_cases hsm : ks.map ba = []
        · have HK : Hid (mk 2 x (lst []) = some s.data.toList) := by
            show _ = _
            rw [← hsm, lst_ba]; exact whole_mkd hW
          have HS : Hid (sameB (ks.map ba) [] = true) := decide_eq_true hsm
          clear hsm hW
          go_wp2_with fail
          refine (rsame_at _ _ _ _ (ks.map ba) [] _ _ _ (by simp) rfl HTX.out HXW.out (by rw [hkl]; omega) (by omega)).mono ?_
          rintro e w3 ⟨rfl, hb3⟩
          rw [HS.out]
          have h03 := below_next h02 hb3
          clear hb3 h02
          go_wp2_with fail
          go_ret2
          exact makeQ_some HK.out (by simp) h03
        · have HK : Hid (mk 2 x (lst []) = none) := rmk_no HR.out (by
            rw [hW]
            intro e
            refine hsm (lst_inj ?_)
            rw [lst_ba]; simpa using e)
          have HS : Hid (sameB (ks.map ba) [] = false) := decide_eq_false hsm
          clear hsm hW
          go_wp2_with fail
          refine (rsame_at _ _ _ _ (ks.map ba) [] _ _ _ (by simp) rfl HTX.out HXW.out (by rw [hkl]; omega) (by omega)).mono ?_
          rintro e w3 ⟨rfl, hb3⟩
          rw [HS.out]
          have h03 := below_next h02 hb3
          clear hb3 h02
          go_wp2_with fail
          go_ret2
          exact makeQ_none HK.out h03
      · have hq1 : (2 != 2) = false := by simp
        have hq2 : (x != num) = true := by simp [hxn]
        have HK : Hid (mk 2 num (lst []) = none) := rmk_no HR.out (by rw [hW]; intro e; exact hxn (by simpa using congrArg (fun o => (o.map (·.2.1)).getD 0) e))
        clear hW hxn hb2
        go_wp2_with fail
        go_ret2
        exact makeQ_none HK.out h02
    · have hq1 : (k != 2) = true := by simp [hkk]
      have HK : Hid (mk 2 num (lst []) = none) := rmk_no HR.out (by rw [hW]; intro e; exact hkk (by simpa using congrArg (fun o => (o.map (·.1)).getD 0) e))
      clear hW hkk hb2
      go_wp2_with fail
      go_ret2
      exact makeQ_none HK.out h02

set_option maxHeartbeats 1600000 in
set_option maxRecDepth 100000 in
theorem rmake_kids (num : Int) (g : Option Addr) (xs : List ByteArray) (c : Nat) (w : World) (n1 : -32768 ≤ num) (n2 : num ≤ 32767)
    (hx : Txts w g xs) (h3 : xs.length ≤ 3) (hxs : ∀ x ∈ xs, x.size ≤ 140737488355328) (hne : xs ≠ []) :
    Calls Tryd.prog 14 #[.int .i64 2, .int .i64 num, .slice g xs.length c] w fun e w' => MakeQ (mk 2 num (lst xs)) w e w' := by
  have hu : uptoB num (-32768) 32767 = true := by unfold uptoB; simp; omega
  have HU : Hid (uptoB num (-32768) 32767 = true) := hu
  clear hu
  have hpos : 0 < xs.length := List.length_pos_iff.2 hne
  have hpos' : (0 : Int) < (xs.length : Int) := by omega
  have HN : Hid (lst xs ≠ []) := by show lst xs ≠ []; unfold lst; simpa using hne
  go_enter Tryd.func14, Tryd.ntmps14
  go_wp2_with fail
  refine (upto_any _ _ _ _).mono ?_
  rintro e w1 ⟨rfl, rfl⟩
  rw [HU.out]
  go_wp2_with fail
  refine (decimal_any num _ n1 n2).mono ?_
  rintro e w1 ⟨rfl, hb1⟩
  have hil : (Lib.itoa num).length ≤ 21 := Lib.itoa_length_le num (by omega) (by omega)
  have hjl := jn_le (lst xs) 140737488355328 (fun s hs => by
    unfold lst at hs
    obtain ⟨y, hy, rfl⟩ := List.mem_map.1 hs
    have := hxs y hy
    simpa using this)
  have hll : (lst xs).length = xs.length := by unfold lst; simp
  rw [hll] at hjl
  have hjl2 : (jn (lst xs)).length ≤ 3 * 140737488355329 := Nat.le_trans hjl (Nat.mul_le_mul_right _ h3)
  have HX1 : Hid (Txts w1 g xs) := hx.on hb1
  have HT : Hid ((⟨#[64]⟩ : ByteArray) ++ ⟨(Lib.itoa num).toArray⟩ ++ ⟨#[40]⟩ ++ ⟨(jn (lst xs)).toArray⟩ ++ ⟨#[41]⟩ = ⟨(64 :: (Lib.itoa num ++ tail (lst xs))).toArray⟩) := by
    show _ = _
    rw [show (⟨#[64]⟩ : ByteArray) = ⟨[64].toArray⟩ from rfl, show (⟨#[40]⟩ : ByteArray) = ⟨[40].toArray⟩ from rfl, show (⟨#[41]⟩ : ByteArray) = ⟨[41].toArray⟩ from rfl, bytes_add, bytes_add, bytes_add, bytes_add, tail, if_neg HN.out]
    simp
  have hTl : (64 :: (Lib.itoa num ++ tail (lst xs))).length ≤ 4611686018427387904 := by
    rw [tail, if_neg HN.out]; simp; omega
  clear hll hjl
  go_wp2_with fail
  refine (rjoin_any g xs c _ HX1.out h3 hxs).mono ?_
  rintro e w' ⟨rfl, rfl⟩
  go_wp2_with fail
  rw [HT.out]
  obtain ⟨s, hse⟩ : ∃ s : ByteArray, s = ⟨(64 :: (Lib.itoa num ++ tail (lst xs))).toArray⟩ := ⟨_, rfl⟩
  rw [← hse]
  have hs : s.size ≤ 4611686018427387904 := by rw [hse]; exact hTl
  have HR : Hid (s.data.toList = rtext 2 num (lst xs)) := by rw [hse]; exact rfl
  clear hse
  refine (rcut_wide s _ hs).mono ?_
  rintro e w2 ⟨k, x, v, er, rfl, ⟨g', n', c', rfl⟩, hb2, hgot⟩
  have h02 := below_next hb1 hb2
  cases hW : whole s.data.toList with
  | none =>
    rw [hW] at hgot
    obtain ⟨rfl, rfl, ev, rfl⟩ := hgot
    have HK : Hid (mk 2 num (lst xs) = none) := rmk_no HR.out (by rw [hW]; simp)
    clear hW hb2 ev
    go_wp2_with fail
    go_ret2
    exact makeQ_none HK.out h02
  | some y =>
    obtain ⟨k', x', ks⟩ := y
    rw [hW] at hgot
    obtain ⟨rfl, rfl, rfl, hown⟩ := hgot
    have hp3 := (whole_parts hW).2.2
    obtain ⟨g2, c2, ev, htx, _⟩ := own_txts hown
    have eg : g' = g2 := by cases ev; rfl
    have en : n' = (ks.map ba).length := by cases ev; rfl
    have HTX : Hid (Txts w2 g' (ks.map ba)) := by rw [eg]; exact htx
    subst en
    clear ev eg
    have hkl : (ks.map ba).length = ks.length := by simp
    clear hown htx
    by_cases hkk : k = 2
    · subst hkk
      by_cases hxn : x = num
      · subst hxn
        have hq1 : (2 != 2) = false := by simp
        have hq2 : (x != x) = false := by simp
        have hxw : Txts w2 g xs := hx.on h02
        have HXW : Hid (Txts w2 g xs) := hxw
        clear hxw hb2
        by_cases hsm : ks.map ba = xs
        · have HK : Hid (mk 2 x (lst xs) = some s.data.toList) := by
            show _ = _
            rw [← hsm, lst_ba]; exact whole_mkd hW
          have HS : Hid (sameB (ks.map ba) xs = true) := decide_eq_true hsm
          clear hsm hW
          go_wp2_with fail
          refine (rsame_at _ _ _ _ (ks.map ba) xs _ _ _ (by simp) rfl HTX.out HXW.out (by rw [hkl]; omega) (by omega)).mono ?_
          rintro e w3 ⟨rfl, hb3⟩
          rw [HS.out]
          have h03 := below_next h02 hb3
          clear hb3 h02
          go_wp2_with fail
          go_ret2
          exact makeQ_some HK.out (by simp) h03
        · have HK : Hid (mk 2 x (lst xs) = none) := rmk_no HR.out (by
            rw [hW]
            intro e
            refine hsm (lst_inj ?_)
            rw [lst_ba]; simpa using e)
          have HS : Hid (sameB (ks.map ba) xs = false) := decide_eq_false hsm
          clear hsm hW
          go_wp2_with fail
          refine (rsame_at _ _ _ _ (ks.map ba) xs _ _ _ (by simp) rfl HTX.out HXW.out (by rw [hkl]; omega) (by omega)).mono ?_
          rintro e w3 ⟨rfl, hb3⟩
          rw [HS.out]
          have h03 := below_next h02 hb3
          clear hb3 h02
          go_wp2_with fail
          go_ret2
          exact makeQ_none HK.out h03
      · have hq1 : (2 != 2) = false := by simp
        have hq2 : (x != num) = true := by simp [hxn]
        have HK : Hid (mk 2 num (lst xs) = none) := rmk_no HR.out (by rw [hW]; intro e; exact hxn (by simpa using congrArg (fun o => (o.map (·.2.1)).getD 0) e))
        clear hW hxn hb2
        go_wp2_with fail
        go_ret2
        exact makeQ_none HK.out h02
    · have hq1 : (k != 2) = true := by simp [hkk]
      have HK : Hid (mk 2 num (lst xs) = none) := rmk_no HR.out (by rw [hW]; intro e; exact hkk (by simpa using congrArg (fun o => (o.map (·.1)).getD 0) e))
      clear hW hkk hb2
      go_wp2_with fail
      go_ret2
      exact makeQ_none HK.out h02

set_option maxHeartbeats 800000 in
theorem rmake_many (kind num : Int) (g : Option Addr) (xs : List ByteArray) (c : Nat) (w : World) (h3 : 3 < xs.length) (hn : xs.length ≤ 4611686018427387904) :
    Calls Tryd.prog 14 #[.int .i64 kind, .int .i64 num, .slice g xs.length c] w fun e w' => MakeQ (mk kind num (lst xs)) w e w' := by
  have HK : Hid (mk kind num (lst xs) = none) := mk_three (by unfold lst; simpa using h3)
  have h3' : (3 : Int) < (xs.length : Int) := by omega
  go_enter Tryd.func14, Tryd.ntmps14
  go_wp2_with fail
  go_ret2
  exact makeQ_none HK.out (Below.refl _ _)
set_option maxHeartbeats 800000 in
theorem rmake_far (kind num : Int) (g : Option Addr) (xs : List ByteArray) (c : Nat) (w : World) (h3 : xs.length ≤ 3) (hu : uptoB num (-32768) 32767 = false) :
    Calls Tryd.prog 14 #[.int .i64 kind, .int .i64 num, .slice g xs.length c] w fun e w' => MakeQ (mk kind num (lst xs)) w e w' := by
  have HK : Hid (mk kind num (lst xs) = none) := mk_upto hu
  have HU : Hid (uptoB num (-32768) 32767 = false) := hu
  clear hu
  go_enter Tryd.func14, Tryd.ntmps14
  go_wp2_with fail
  refine (upto_any _ _ _ _).mono ?_
  rintro e w1 ⟨rfl, rfl⟩
  rw [HU.out]
  go_wp2_with fail
  go_ret2
  exact makeQ_none HK.out (Below.refl _ _)


theorem rmake_any (kind num : Int) (g : Option Addr) (n : Nat) (xs : List ByteArray) (c : Nat) (w : World) (hl : n = xs.length)
    (hx : Txts w g xs) (hn : xs.length ≤ 4611686018427387904) (hxs : ∀ x ∈ xs, x.size ≤ 140737488355328) :
    Calls Tryd.prog 14 #[.int .i64 kind, .int .i64 num, .slice g n c] w fun e w' => MakeQ (mk kind num (lst xs)) w e w' := by
  subst hl
  by_cases h3 : xs.length ≤ 3
  · cases hu : uptoB num (-32768) 32767 with
    | false => exact rmake_far kind num g xs c w h3 hu
    | true =>
      have hr : -32768 ≤ num ∧ num ≤ 32767 := by unfold uptoB at hu; simpa using hu
      by_cases k0 : kind = 0
      · subst k0; exact rmake_zero num g xs c w hr.1 hr.2 hx h3 hxs
      by_cases k3 : kind = 3
      · subst k3; exact rmake_three num g xs c w hr.1 hr.2 hx h3 hxs
      by_cases k1 : kind = 1
      · subst k1; exact rmake_one num g xs c w hr.1 hr.2 hx h3 hxs
      by_cases k2 : kind = 2
      · subst k2
        by_cases hnil : xs = []
        · exact rmake_two num g xs c w hr.1 hr.2 hx h3 hxs hnil
        · exact rmake_kids num g xs c w hr.1 hr.2 hx h3 hxs hnil
      exact rmake_other kind num g xs c w hr.1 hr.2 hx h3 hxs k0 k3 k1 k2
  · exact rmake_many kind num g xs c w (by omega) hn
end Go.Proofs.YtcjpepbajcdenaaDoor
