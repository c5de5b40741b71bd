/- A value's head; which questions may be asked; Head of package name. · Which questions may be asked; Head of package name. · Call of package byname: a call that may be asked for, not evaluated so far, and the Run that it is to be evaluated in. -/
import Derived.Test.YtjamknejllbmkaaGreatDoorMNOp
import Derived.Test.YtjamknejllbmkaaGreatDoorMNEv
import Derived.Test.YtjamknejllbmkaaGreatDoorMProg
import Derived.Test.YtjamknejllbmkaaGreatDoorMTerm

namespace Go.Proofs.YtjamknejllbmkaaGreatDoor
open Go.RowKit
set_option linter.unusedVariables false
attribute [local go_sem ↓] Go.wp_at_zero Go.wp_at_succ

set_option maxHeartbeats 1600000 in
set_option maxRecDepth 100000 in
theorem rep_any (bx cx n : Nat) (w : World) (hx : w.cell? ⟨bx, 0, none⟩ = some (.string ⟨#[95]⟩)) (hn : n ≤ 3) :
    Calls Tryz.prog 26 #[.slice (some ⟨bx, 0, none⟩) 1 cx, .int .i64 (n : Int)] w fun e w' => ∃ g c, e = .returned (.slice g n c) ∧ n ≤ c ∧ Tm.Txts w' g (List.replicate n ⟨#[95]⟩) ∧ Below w.heap.size w w' := by
  by_cases h0 : n = 0
  · subst h0
    have hmk : ∀ W : World, (Instr.makeSlice 24 (.int .i64 0) (.int .i64 0)).run Tryz.prog W = .ok (.slice (some ⟨W.heap.size, 0, none⟩) 0 0) (W.alloc (.cells (madeCells #[.string ⟨#[]⟩] 0) 9)) := fun W => run_make_row' (P := Tryz.prog) 24 9 (.string ⟨#[]⟩) 16 Tryz.underlying24 Tm.Tryz.info9 rfl .i64 .i64 0 (by omega) (by omega) W
    go_enter Tryz.func26, Tryz.ntmps26
    go_wp2_with (first | (go_at_call 48; refine (mul_any 0 (by omega) _).mono ?_; rintro e w' ⟨rfl, rfl⟩) | ((refine wpList_copy_nothing (by rfl) _ _ 24 24 (by rfl) 9 Tryz.underlying24 Rs.size9 (some ⟨w.heap.size, 0, none⟩) (some ⟨bx, 0, none⟩) 0 0 1 cx (by rfl) (by rfl) (by rfl) ?_)))
    go_loopw [8] (fun s8 wr => s8 = .int .i64 0 ∧ Below w.heap.size w wr) (fun _ _ => 0)
    case atStart => exact ⟨rfl, (Below.refl _ _).alloc (Nat.le_refl _) _⟩
    case round =>
      obtain ⟨rfl, hB⟩ := hrel
      go_wp2_with fail
      go_ret
      exact ⟨_, _, rfl, Nat.le_refl _, Or.inl rfl, hB⟩
  · refine (Rs.repeat_any bx cx n w hx (by omega) (by omega)).mono ?_
    rintro e w' ⟨rfl, h1, h2⟩
    refine ⟨_, _, rfl, Nat.le_refl _, Or.inr ⟨w.heap.size, 0, rfl, h1.lt, fun j x hj => ?_⟩, h2⟩
    rw [Nat.zero_add]
    refine h1.cell j _ ?_
    have hlt := (List.getElem?_eq_some_iff.1 hj).1
    rw [List.getElem?_replicate, if_pos (by simpa using hlt)] at hj
    cases hj
    simp at hlt
    simp [hlt]

/-- The text of a value's head. -/
def hdS (k num : Int) (m : Nat) : Wdn := (Tm.mk k num (List.replicate m [95])).getD []
set_option maxHeartbeats 4000000 in
set_option maxRecDepth 100000 in
theorem vhead_any (k num : Int) (g : Option Addr) (m c : Nat) (w : World) (hw : Tm.Lw w) (h0 : -9223372036854775808 ≤ num) (h1 : num ≤ 9223372036854775807) (hm : m ≤ 3) :
    Calls Tryz.prog 15 #[vV k num (.slice g m c)] w fun e w' => e = .returned (.string ⟨(hdS k num m).toArray⟩) ∧ Below w.heap.size w w' := by
  have HV : Hid (Bx 47 (w.alloc (Obj.cells #[.int .i64 k, .int .i64 num, .slice g m c] 47)) w.heap.size #[.int .i64 k, .int .i64 num, .slice g m c]) := Bx.new _ _ _
  have hHW : Below w.heap.size w (w.alloc (Obj.cells #[.int .i64 k, .int .i64 num, .slice g m c] 47)) := (Below.refl _ w).alloc (Nat.le_refl _) _
  have HR : Hid (∀ W1 q, W1.cell? ⟨q, 0, none⟩ = some (.string ⟨#[95]⟩) → Calls Tryz.prog 26 #[.slice (some ⟨q, 0, none⟩) 1 1, .int .i64 (m : Int)] W1 fun e w' => ∃ g' c', e = .returned (.slice g' m c') ∧ (m ≤ c' ∧ Tm.Txts w' g' (List.replicate m ⟨#[95]⟩)) ∧ Below W1.heap.size W1 w') := by
    intro W1 q hq
    refine (rep_any q 1 m W1 hq hm).mono ?_
    rintro e w' ⟨g', c', rfl, h2, h3, h4⟩
    exact ⟨g', c', rfl, ⟨h2, h3⟩, h4⟩
  have HMK : Hid (∀ W1 g' c', Below w.heap.size w W1 → m ≤ c' → Tm.Txts W1 g' (List.replicate m ⟨#[95]⟩) → Calls Tryz.prog 25 #[.int .i64 k, .int .i64 num, .slice g' m c'] W1 fun e w' => ∃ er, e = .returned (.tuple #[.string ⟨(hdS k num m).toArray⟩, .int .i64 er]) ∧ Below W1.heap.size W1 w') := by
    intro W1 g' c' hb hc ht
    refine (Tm.make_at k num g' m (List.replicate m ⟨#[95]⟩) c' W1 (by simp) h0 h1 ht (fun x hx => by rw [List.eq_of_mem_replicate hx] <;> decide) (by rw [List.length_replicate] <;> omega) (by simpa using hc) (Tm.Lw.on hw hb)).mono ?_
    rintro e w' ⟨rfl, hb2⟩
    refine ⟨Tm.mkE (Tm.mk k num (Tm.lst (List.replicate m ⟨#[95]⟩))), ?_, hb2⟩
    have el : Tm.lst (List.replicate m ⟨#[95]⟩) = List.replicate m [95] := by unfold Tm.lst; rw [List.map_replicate]
    rw [el]
    have : Tm.mkT (Tm.mk k num (List.replicate m [95])) = hdS k num m := by
      unfold hdS
      cases Tm.mk k num (List.replicate m [95]) <;> rfl
    rw [this]
  obtain ⟨T, hT⟩ : ∃ T : ByteArray, (⟨(hdS k num m).toArray⟩ : ByteArray) = T := ⟨_, rfl⟩
  rw [hT] at HMK ⊢
  clear hw h0 h1 hm hT
  go_enter Tryz.func15, Tryz.ntmps15
  go_wp2_with fail
  refine grabW (fun W => Below w.heap.size w W ∧ Bx 47 W w.heap.size #[.int .i64 k, .int .i64 num, .slice g m c]) ⟨hHW, HV.out⟩ (fun W hW => ?_)
  have HW := hid hW
  have hall : ∀ W', Below W.heap.size W W' → Below W.heap.size W W' ∧ W'.cell? ⟨w.heap.size, 0, none⟩ = some (.int .i64 k) ∧ W'.cell? ⟨w.heap.size, 1, none⟩ = some (.int .i64 num) ∧ W'.cell? ⟨w.heap.size, 2, none⟩ = some (.slice g m c) := fun W' h => by
    have hb := HW.out.2.next h
    exact ⟨h, hb.cell 0 _ rfl, hb.cell 1 _ rfl, hb.cell 2 _ rfl⟩
  have HA := hid hall
  have H00 : Hid (Below W.heap.size W W) := Below.refl _ _
  clear hall hW hHW HV
  obtain ⟨_, e0, e1, e2⟩ := HA.out W H00.out
  go_region_held3 (fun W' => Below W.heap.size W W' ∧ W'.cell? ⟨w.heap.size, 0, none⟩ = some (.int .i64 k) ∧ W'.cell? ⟨w.heap.size, 1, none⟩ = some (.int .i64 num) ∧ W'.cell? ⟨w.heap.size, 2, none⟩ = some (.slice g m c))
    (exact HA.out _ (by first | exact HB5.out | exact HB4.out | exact H00.out | exact H00.out.drew | exact (H00.out.alloc (Nat.le_refl _) _) | exact (H00.out.alloc (Nat.le_refl _) _).drew | exact H00.out.drew.alloc (Nat.le_refl _) _))
    ((first | (go_at_call 26; refine (HR.out _ _ ((Bx.newd 9 W #[.string ⟨#[95]⟩]).cell 0 _ rfl)).mono ?_; rintro e w4 ⟨g4, c4, rfl, hx4, hb4⟩; have HB4 : Hid (Below W.heap.size W w4) := ((Below.refl _ W).alloc (Nat.le_refl _) (Obj.cells #[.string ⟨#[95]⟩] 9)).trans ((show Below (W.heap.size + 1) (W.alloc (Obj.cells #[.string ⟨#[95]⟩] 9)) w4 from ⟨hb4.os, hb4.tape, hb4.output, by have := hb4.size; simpa using this, fun k hk => hb4.block k (by simpa using hk)⟩).mono (Nat.le_succ _)); have HX4 := hid hx4; clear hx4 hb4) | (go_at_call 25; refine (HMK.out _ _ _ (HW.out.1.trans (HB4.out.mono HW.out.1.size)) HX4.out.1 HX4.out.2).mono ?_; rintro e w5 ⟨er, rfl, hb5⟩; have HB5 : Hid (Below W.heap.size W w5) := HB4.out.trans (hb5.mono HB4.out.size); clear hb5)))
  all_goals
    go_wp2_with fail
    go_ret
    exact ⟨rfl, HW.out.1.trans (HB5.out.mono HW.out.1.size)⟩

/-! Which questions may be asked. -/
theorem sz_whole (s : ByteArray) : (Tm.whole s.data.toList).isSome = true → s.size ≤ 1024 := by
  intro h
  obtain ⟨⟨k, x, ks⟩, hy⟩ := Option.isSome_iff_exists.1 h
  have := (Tm.whole_some hy).1
  simpa using this
set_option maxHeartbeats 400000 in
theorem mayNot_any (s : ByteArray) (w : World) (hs : s.size ≤ 140737488355328) (hw : Tm.Lw w) :
    Calls Tryz.prog 41 #[.string s] w fun e w' => e = .returned (.bool (!(Tm.whole s.data.toList).isSome)) ∧ Below w.heap.size w w' := by
  have h := Tm.tmay_any Tm.atoi_said Tm.itoa_said s w hs hw
  obtain ⟨b, hb⟩ : ∃ b, (Tm.whole s.data.toList).isSome = b := ⟨_, rfl⟩
  rw [hb] at h ⊢
  clear hb hw hs
  cases b
  all_goals
    go_enter Tryz.func41, Tryz.ntmps41
    go_wp2_with fail
    refine h.mono ?_
    rintro e w1 ⟨rfl, hb1⟩
    go_wp2_with fail
    go_ret
    exact ⟨rfl, hb1⟩
/-- A text that is no term. -/
def noT (s : ByteArray) : Bool := !(Tm.whole s.data.toList).isSome
set_option maxHeartbeats 800000 in
set_option maxRecDepth 100000 in
theorem ixs_any (g : Option Addr) (c : Nat) (xs : List ByteArray) (w : World) (hn : xs.length ≤ 24) (hx : Tm.Txts w g xs) (hs : ∀ x ∈ xs, x.size ≤ 140737488355328) (hw : Tm.Lw w) :
    Calls Tryz.prog 61 #[.slice g xs.length c, .func (.func 41) #[] #[]] w fun r w' => (∃ i : Int, r = .returned (.int .i64 i) ∧ decide (0 ≤ i) = xs.any noT) ∧ Below w.heap.size w w' := by
  have HZ : Hid (Tm.Txts w g xs ∧ (∀ x ∈ xs, x.size ≤ 140737488355328) ∧ Tm.Lw w) := ⟨hx, hs, hw⟩
  clear hx hs hw
  go_enter Tryz.func61, Tryz.ntmps61
  go_wp2_with fail
  go_loopw [5, 8] (fun _ s8 wr => ∃ k : Nat, k ≤ xs.length ∧ s8 = .int .i64 (k : Int) ∧ Hid (Below w.heap.size w wr) ∧ Hid ((xs.take k).any noT = false))
    (fun _ s8 _ => xs.length - (intOf s8).toNat)
  case atStart => exact ⟨0, Nat.zero_le _, rfl, Below.refl _ _, by show ([] : List ByteArray).any noT = false; rfl⟩
  case round =>
    obtain ⟨k, hk, rfl, HB, H⟩ := hrel
    by_cases hlt : k < xs.length
    · have hlt' : (k : Int) < (xs.length : Int) := by omega
      obtain ⟨bk, o, rfl, hbk, hE⟩ := txts_cellAt (HZ.out.1.on HB.out) hlt
      have hcall := mayNot_any xs[k] wr (HZ.out.2.1 _ (List.getElem_mem hlt)) (Tm.Lw.on HZ.out.2.2 HB.out)
      obtain ⟨e, he⟩ : ∃ e, e = xs[k] := ⟨_, rfl⟩
      rw [← he] at hE hcall
      have HE : Hid (e = xs[k]) := he
      clear he
      change Calls Tryz.prog 41 #[.string e] wr fun e' w' => e' = .returned (.bool (noT e)) ∧ Below wr.heap.size wr w' at hcall
      cases hq : noT e with
      | false =>
        rw [hq] at hcall
        go_wp2_with (go_at_call 41; refine hcall.mono ?_; rintro r w' ⟨rfl, hb'⟩)
        have hb2 := below_next HB.out hb'
        go_roundw
        case rel =>
          refine ⟨k + 1, by omega, by go_num, hb2, ?_⟩
          show (xs.take (k + 1)).any noT = false
          rw [List.take_add_one, List.getElem?_eq_getElem hlt, List.any_append, H.out, ← HE.out]
          simp [hq]
        case measure => simp [intOf]; omega
      | true =>
        rw [hq] at hcall
        go_wp2_with (go_at_call 41; refine hcall.mono ?_; rintro r w' ⟨rfl, hb'⟩)
        have hb2 := below_next HB.out hb'
        go_ret
        refine ⟨⟨_, rfl, ?_⟩, hb2⟩
        have hf : xs.any noT = true := by
          rw [List.any_eq_true]
          exact ⟨e, by rw [HE.out]; exact List.getElem_mem hlt, hq⟩
        rw [hf]
        simp
    · have hlt' : ¬ (k : Int) < (xs.length : Int) := by omega
      go_wp2_with fail
      go_ret
      refine ⟨⟨_, rfl, ?_⟩, HB.out⟩
      have e : k = xs.length := by omega
      have := H.out
      rw [e, List.take_length] at this
      rw [this]
      rfl
set_option maxHeartbeats 400000 in
theorem cfs_any (g : Option Addr) (c : Nat) (xs : List ByteArray) (w : World) (hn : xs.length ≤ 24) (hx : Tm.Txts w g xs) (hs : ∀ x ∈ xs, x.size ≤ 140737488355328) (hw : Tm.Lw w) :
    Calls Tryz.prog 44 #[.slice g xs.length c, .func (.func 41) #[] #[]] w fun r w' => r = .returned (.bool (xs.any noT)) ∧ Below w.heap.size w w' := by
  have h := ixs_any g c xs w hn hx hs hw
  clear hx hs hw
  go_enter Tryz.func44, Tryz.ntmps44
  go_wp2_with fail
  refine h.mono ?_
  rintro r w1 ⟨⟨i, rfl, hi⟩, hb⟩
  go_wp2_with fail
  go_ret
  exact ⟨by rw [← hi]; rfl, hb⟩
end Go.Proofs.YtjamknejllbmkaaGreatDoor

namespace Go.Proofs.YtjamknejllbmkaaGreatDoor
open Go.RowKit
set_option linter.unusedVariables false

theorem all_noT (xs : List ByteArray) : (Tm.lst xs).all (fun s => (Tm.whole s).isSome) = !(xs.any noT) := by
  unfold Tm.lst
  induction xs with
  | nil => rfl
  | cons x xs ih => simp only [List.map_cons, List.all_cons, List.any_cons, ih, noT]; cases (Tm.whole x.data.toList).isSome <;> simp
theorem lst_len (xs : List ByteArray) : (Tm.lst xs).length = xs.length := by unfold Tm.lst; simp
set_option maxHeartbeats 4000000 in
set_option maxRecDepth 100000 in
theorem ask_any (g : Option Addr) (c : Nat) (ds : List Df) (fn : Int) (ga : Option Addr) (ca : Nat) (xs : List ByteArray) (fuel : Int) (w : World) (hd : Defs Exs w g ds) (hx : Tm.Txts w ga xs) (hs : ∀ x ∈ xs, x.size ≤ 140737488355328) (hw : Tm.Lw w) (hlx : xs.length ≤ 4611686018427387904) :
    Calls Tryz.prog 22 #[.agg #[.slice g ds.length c], .int .i64 fn, .slice ga xs.length ca, .int .i64 fuel] w fun e w' => e = .returned (.bool (askB ds fn (Tm.lst xs) fuel)) ∧ Below w.heap.size w w' := by
  have HD : Hid (Defs Exs w g ds ∧ Tm.Txts w ga xs ∧ (∀ x ∈ xs, x.size ≤ 140737488355328) ∧ Tm.Lw w) := ⟨hd, hx, hs, hw⟩
  obtain ⟨Q, hQ⟩ : ∃ Q, askB ds fn (Tm.lst xs) fuel = Q := ⟨_, rfl⟩
  rw [hQ]
  have HQ0 := hid hQ
  have hX0 := Bx1.new w (.slice g ds.length c)
  have hb0 : Below w.heap.size w (w.alloc (.cells #[.slice g ds.length c] 30)) := (Below.refl _ w).alloc (Nat.le_refl _) _
  have HPM : Hid (Calls Tryz.prog 43 #[.agg #[.slice g ds.length c]] (w.alloc (.cells #[.slice g ds.length c] 30)) fun r w' => r = .returned (.bool (pmay ds)) ∧ Below (w.alloc (.cells #[.slice g ds.length c] 30)).heap.size (w.alloc (.cells #[.slice g ds.length c] 30)) w') := pmay_any g c ds _ (hd.on hb0)
  have HX0 := hid hX0
  have HB0 := hid hb0
  obtain ⟨n, hn⟩ : ∃ n, ds.length = n := ⟨_, rfl⟩
  have HN := hid hn
  obtain ⟨m, hm⟩ : ∃ m, xs.length = m := ⟨_, rfl⟩
  have HM := hid hm
  obtain ⟨pm, hpm⟩ : ∃ b, pmay ds = b := ⟨_, rfl⟩
  have HP := hid hpm
  rw [hpm, hn] at HPM
  rw [hn] at HX0 HB0 ⊢
  rw [hm] at hlx ⊢
  clear hd hx hs hw hQ hX0 hb0 hn hm hpm
  go_enter Tryz.func22, Tryz.ntmps22
  go_wp2_with fail
  refine HPM.out.mono ?_
  rintro e w1 ⟨rfl, hb1⟩
  have HB1 : Hid (Below w.heap.size w w1) := HB0.out.trans (hb1.mono (by simp))
  have x0 := (HX0.out.on hb1).c0
  have xl : w.heap.size < w1.heap.size := (HX0.out.on hb1).lt
  clear hb1 HPM
  cases pm with
  | false =>
    have HQ : Hid (false = Q) := by show false = Q; rw [← HQ0.out]; unfold askB; rw [HP.out]; rfl
    go_wp2_with fail
    go_ret
    exact ⟨by rw [← HQ.out]; rfl, HB1.out⟩
  | true =>
    by_cases h1 : (0 : Int) ≤ fn
    · have d1 : decide ((0 : Int) ≤ fn) = true := by simp [h1]
      by_cases h2 : fn < (n : Int)
      · have d2 : decide (fn < (n : Int)) = true := by simp [h2]
        obtain ⟨j, hj⟩ : ∃ j, fn.toNat = j := ⟨_, rfl⟩
        obtain rfl : fn = (j : Int) := by omega
        have hjl : j < ds.length := by have := HN.out; omega
        obtain ⟨bk, o, rfl, hbk, gk, ck, hdf⟩ := (HD.out.1.on HB1.out).at hjl
        obtain ⟨df, hdfe⟩ : ∃ df, ds[j] = df := ⟨_, rfl⟩
        rw [hdfe] at hdf
        have HDF : Hid (ds[j]? = some df) := by show _ = _; rw [List.getElem?_eq_getElem hjl, hdfe]
        have k0 := hdf.1
        obtain ⟨pr, hpr⟩ : ∃ pr, df.params = pr := ⟨_, rfl⟩
        have HPR := hid hpr
        rw [hpr] at k0
        have hask : ∀ b : Bool, askB ds (j : Int) (Tm.lst xs) fuel = (decide ((xs.length : Int) = df.params) && !(xs.any noT) && decide (0 ≤ fuel ∧ fuel ≤ 400)) := by
          intro _
          have hd := HDF.out
          unfold askB
          rw [HP.out, all_noT, lst_len]
          simp only [Int.toNat_natCast, hd]
          simp
        have HASK := hid (hask true)
        have hp3 : pr ≤ 3 := by
          have h := (pmay_ok HP.out HDF.out).1
          have := (may_lvl h).2.1
          rw [hpr] at this; exact this
        clear hask hdf hdfe hpr hj
        by_cases h3 : (m : Int) = pr
        · have d3 : ((m : Int) == pr) = true := by simp [h3]
          have HCF : Hid (Calls Tryz.prog 44 #[.slice ga m ca, .func (.func 41) #[] #[]] w1 fun r w' => r = .returned (.bool (xs.any noT)) ∧ Below w1.heap.size w1 w') := by
            have h := cfs_any ga ca xs w1 (by have := HM.out; omega) (HD.out.2.1.on HB1.out) HD.out.2.2.1 (Tm.Lw.on HD.out.2.2.2 HB1.out)
            rw [HM.out] at h
            exact h
          obtain ⟨nt, hnt⟩ : ∃ b, xs.any noT = b := ⟨_, rfl⟩
          have HNT := hid hnt
          rw [hnt] at HCF
          clear hnt hp3
          go_wp2_with (go_at_call 44; refine HCF.out.mono ?_)
          rintro e w2 ⟨rfl, hb2⟩
          have HB2 : Hid (Below w.heap.size w w2) := HB1.out.trans (hb2.mono HB1.out.size)
          clear hb2
          have HQ1 : Hid (Q = (!nt && decide (0 ≤ fuel ∧ fuel ≤ 400))) := by
            show _ = _
            rw [← HQ0.out, HASK.out, HNT.out, HM.out, HPR.out]; simp [h3]
          cases nt with
          | true =>
            have HQ : Hid (false = Q) := by show false = Q; rw [HQ1.out]; rfl
            go_wp2_with fail
            go_ret
            exact ⟨by rw [← HQ.out]; rfl, HB2.out⟩
          | false =>
            by_cases h4 : (0 : Int) ≤ fuel
            · have d4 : decide ((0 : Int) ≤ fuel) = true := by simp [h4]
              by_cases h5 : fuel ≤ 400
              · have d5 : decide (fuel ≤ (400 : Int)) = true := by simp [h5]
                have HQ : Hid (true = Q) := by show true = Q; rw [HQ1.out]; simp [h4, h5]
                go_wp2_with fail
                go_ret
                exact ⟨by rw [← HQ.out]; rfl, HB2.out⟩
              · have d5 : decide (fuel ≤ (400 : Int)) = false := by simp; omega
                have HQ : Hid (false = Q) := by show false = Q; rw [HQ1.out]; simp [h5]
                go_wp2_with fail
                go_ret
                exact ⟨by rw [← HQ.out]; rfl, HB2.out⟩
            · have d4 : decide ((0 : Int) ≤ fuel) = false := by simp; omega
              have HQ : Hid (false = Q) := by show false = Q; rw [HQ1.out]; simp [h4]
              go_wp2_with fail
              go_ret
              exact ⟨by rw [← HQ.out]; rfl, HB2.out⟩
        · have d3 : ((m : Int) == pr) = false := by simp [h3]
          have HQ : Hid (false = Q) := by show false = Q; rw [← HQ0.out, HASK.out, HM.out, HPR.out]; simp [h3]
          go_wp2_with fail
          go_ret
          exact ⟨by rw [← HQ.out]; rfl, HB1.out⟩
      · have d2 : decide (fn < (n : Int)) = false := by simp; omega
        have HQ : Hid (false = Q) := by
          show false = Q
          rw [← HQ0.out]
          unfold askB
          have : ds[fn.toNat]? = none := by rw [List.getElem?_eq_none_iff]; have := HN.out; omega
          rw [this]; simp
        go_wp2_with fail
        go_ret
        exact ⟨by rw [← HQ.out]; rfl, HB1.out⟩
    · have d1 : decide ((0 : Int) ≤ fn) = false := by simp; omega
      have HQ : Hid (false = Q) := by show false = Q; rw [← HQ0.out]; unfold askB; simp [h1]
      go_wp2_with fail
      go_ret
      exact ⟨by rw [← HQ.out]; rfl, HB1.out⟩
end Go.Proofs.YtjamknejllbmkaaGreatDoor

namespace Go.Proofs.YtjamknejllbmkaaGreatDoor
open Go.RowKit
set_option linter.unusedVariables false

/-- How Call ends: refused, or a call and its Run. -/
def CallQ (w : World) (g : Option Addr) (c : Nat) (ds : List Df) (d : Nat) (args : List Wdn) (f : Nat) (ak : Bool) (e : Ending) (w' : World) : Prop :=
  (ak = false ∧ e = .returned (.tuple #[.nilIface, .pointer none, .bool false]) ∧ Below w.heap.size w w') ∨
  (ak = true ∧ ∃ z gb nb cb a gl ml cl, e = .returned (.tuple #[.iface 77 (prtV (.slice gb nb cb) a (.slice gl ml cl)), .pointer (some ⟨z, 0, none⟩), .bool true]) ∧
    PtAt w ds (Zz z) w' (prtV (.slice gb nb cb) a (.slice gl ml cl)) d ((bodyAt ds d).length - 1) (args.map .giv) ∧ Es w g ds c z w' f ∧ Below w.heap.size w w')
theorem CallQ.no {w w' : World} {g : Option Addr} {c : Nat} {ds : List Df} {d : Nat} {args : List Wdn} {f : Nat} (h : Below w.heap.size w w') : CallQ w g c ds d args f false (.returned (.tuple #[.nilIface, .pointer none, .bool false])) w' := Or.inl ⟨rfl, rfl, h⟩
theorem CallQ.yes {w w' : World} {g : Option Addr} {c : Nat} {ds : List Df} {d : Nat} {args : List Wdn} {f : Nat} {z nb cb a ml cl : Nat} {gb gl : Option Addr} (h1 : PtAt w ds (Zz z) w' (prtV (.slice gb nb cb) a (.slice gl ml cl)) d ((bodyAt ds d).length - 1) (args.map .giv)) (h2 : Es w g ds c z w' f) (h3 : Below w.heap.size w w') :
    CallQ w g c ds d args f true (.returned (.tuple #[.iface 77 (prtV (.slice gb nb cb) a (.slice gl ml cl)), .pointer (some ⟨z, 0, none⟩), .bool true])) w' := Or.inr ⟨rfl, z, gb, nb, cb, a, gl, ml, cl, rfl, h1, h2, h3⟩

set_option maxHeartbeats 4000000 in
set_option maxRecDepth 100000 in
theorem call_any (g : Option Addr) (c : Nat) (ds : List Df) (fn : Int) (ga : Option Addr) (ca : Nat) (xs : List ByteArray) (fuel : Int) (w : World) (hd : Defs Exs w g ds) (hx : Tm.Txts w ga xs) (hs : ∀ x ∈ xs, x.size ≤ 140737488355328) (hw : Tm.Lw w) (hlx : xs.length ≤ 4611686018427387904) :
    Calls Tryz.prog 14 #[.agg #[.slice g ds.length c], .int .i64 fn, .slice ga xs.length ca, .int .i64 fuel] w fun e w' => CallQ w g c ds fn.toNat (Tm.lst xs) fuel.toNat (askB ds fn (Tm.lst xs) fuel) e w' := by
  have HD : Hid (Defs Exs w g ds ∧ Tm.Txts w ga xs ∧ Tm.Lw w) := ⟨hd, hx, hw⟩
  have hX0 := Bx1.new w (.slice g ds.length c)
  have hb0 : Below w.heap.size w (w.alloc (.cells #[.slice g ds.length c] 30)) := (Below.refl _ w).alloc (Nat.le_refl _) _
  have HAS := hid (ask_any g c ds fn ga ca xs fuel _ (hd.on hb0) (hx.on hb0) hs (Tm.Lw.on hw hb0) hlx)
  have HX0 := hid hX0
  have HB0 := hid hb0
  obtain ⟨n, hn⟩ : ∃ n, ds.length = n := ⟨_, rfl⟩
  have HN := hid hn
  obtain ⟨m, hm⟩ : ∃ m, xs.length = m := ⟨_, rfl⟩
  have HM := hid hm
  obtain ⟨ak, hak⟩ : ∃ b, askB ds fn (Tm.lst xs) fuel = b := ⟨_, rfl⟩
  have HAK := hid hak
  rw [hn, hm, hak] at HAS
  rw [hak]
  rw [hn] at HX0 HB0 ⊢
  rw [hm] at hlx ⊢
  clear hd hx hs hw hX0 hb0 hn hm hak
  go_enter Tryz.func14, Tryz.ntmps14
  go_wp2_with fail
  refine HAS.out.mono ?_
  rintro e w1 ⟨rfl, hb1⟩
  have HB1 : Hid (Below w.heap.size w w1) := HB0.out.trans (hb1.mono (by simp))
  have x0 := (HX0.out.on hb1).c0
  have xl : w.heap.size < w1.heap.size := (HX0.out.on hb1).lt
  clear hb1 HAS
  cases ak with
  | false =>
    go_wp2_with fail
    refine bodyPost_ret (v := .tuple #[.nilIface, .pointer none, .bool false]) (by simp [results, Tryz.results14, go_sem]) rfl ?_
    exact CallQ.no HB1.out
  | true =>
    obtain ⟨hp, hf0, ⟨df, hdf, hpar⟩, hal, hu0, hu4, hwf⟩ := ask_parts HAK.out
    obtain ⟨f, hf⟩ : ∃ f, fuel.toNat = f := ⟨_, rfl⟩
    obtain ⟨d, hd⟩ : ∃ d, fn.toNat = d := ⟨_, rfl⟩
    obtain rfl : fuel = (f : Int) := by omega
    obtain rfl : fn = (d : Int) := by omega
    rw [hd] at hdf hwf
    have hdl := may_lvl (pmay_ok hp hdf).1
    have HF : Hid (f ≤ 400 ∧ ds[d]? = some df ∧ (1 ≤ df.body.length ∧ df.body.length ≤ 24) ∧ Wf ds (callT ds d (Tm.lst xs)) ∧ m ≤ 3 ∧ pmay ds = true) :=
      ⟨by omega, hdf, ⟨hdl.2.2.1, hdl.2.2.2.1⟩, hwf, by have h1 := HM.out; have h2 := hdl.2.1; rw [lst_len] at hpar; omega, hp⟩
    clear hp hf0 hdf hpar hal hu0 hu4 hwf hf hd hdl
    have HGV : Hid (∀ W, Below w1.heap.size w1 W → w1.heap.size < W.heap.size → Calls Tryz.prog 24 #[.slice ga m ca] W fun e w' => ∃ gl cl, e = .returned (.slice gl m cl) ∧ LsAt w ds (Zz w1.heap.size) w' (.slice gl m cl) ((Tm.lst xs).map .giv) ∧ Below W.heap.size W w') := by
      intro W hW hz
      have h := givens_at (W0 := w) (P := ds) (A := Zz w1.heap.size) (W := W) (g := ga) (c := ca) xs (fun k e => by rw [e]; exact hz) ((HD.out.2.1.on HB1.out).on hW) (by have := HM.out; have := HF.out.2.2.2.2.1; omega)
      rw [HM.out] at h
      refine h.mono ?_
      rintro e w' ⟨v, rfl, h1, h2⟩
      obtain ⟨gl, cl, rfl⟩ := h1.val
      rw [List.length_map, lst_len, HM.out] at h1 ⊢
      exact ⟨gl, cl, rfl, h1, h2⟩
    have HES : Hid (Es w g ds c w1.heap.size (w1.alloc (Obj.cells #[.slice g n c, .int .i64 (f : Int)] 75)) f) := by
      have h1 := Bx.new 75 w1 #[.slice g n c, .int .i64 (f : Int)]
      rw [← HN.out] at h1 ⊢
      exact ⟨⟨HD.out.1, HF.out.2.2.2.2.2⟩, HB1.out.alloc HB1.out.size _, HB1.out.size, h1, HD.out.2.2⟩
    go_wp2_with fail
    refine (HGV.out _ ((Below.refl _ w1).alloc (Nat.le_refl _) _) (by simp)).mono ?_
    rintro e w2 ⟨gl, cl, rfl, hl2, hb2⟩
    have HE2 : Hid (Es w g ds c w1.heap.size w2 f ∧ Below w.heap.size w w2) := ⟨HES.out.next hb2, HB1.out.trans ((((Below.refl _ w1).alloc (Nat.le_refl _) _).trans (hb2.mono (by simp))).mono HB1.out.size)⟩
    have HBO : Hid (Calls Tryz.prog 23 #[.pointer (some ⟨w1.heap.size, 0, none⟩), .int .i64 (d : Int), .slice gl m cl] w2 fun e w' => ∃ gb4 nb4 cb4 gl4 ml4 cl4 a4, e = .returned (prtV (.slice gb4 nb4 cb4) a4 (.slice gl4 ml4 cl4)) ∧ PtAt w ds (Zz w1.heap.size) w' (prtV (.slice gb4 nb4 cb4) a4 (.slice gl4 ml4 cl4)) d ((bodyAt ds d).length - 1) ((Tm.lst xs).map .giv) ∧ Below w2.heap.size w2 w') := by
      refine (bodyOf_at (d := d) HE2.out.1.prg HE2.out.1.low HF.out.2.1 HF.out.2.2.1.1 HE2.out.1.box hl2 (by have := HF.out.2.2.1.2; omega)).mono ?_
      rintro e w' ⟨v, rfl, h3, h4⟩
      obtain ⟨gb4, nb4, cb4, gl4, ml4, cl4, rfl⟩ := h3.valN
      exact ⟨_, _, _, _, _, _, _, rfl, h3, h4⟩
    clear hl2 hb2 HGV HES
    go_wp2_with fail
    refine HBO.out.mono ?_
    rintro e w3 ⟨gb4, nb4, cb4, gl4, ml4, cl4, a4, rfl, hp3, hb3⟩
    have HE3 : Hid (Es w g ds c w1.heap.size w3 f ∧ Below w.heap.size w w3) := ⟨HE2.out.1.next hb3, HE2.out.2.trans (hb3.mono HE2.out.2.size)⟩
    have HP3 := hid hp3
    clear hp3 hb3 HBO
    go_wp2_with fail
    refine bodyPost_ret (v := .tuple #[.iface 77 (prtV (.slice gb4 nb4 cb4) a4 (.slice gl4 ml4 cl4)), .pointer (some ⟨w1.heap.size, 0, none⟩), .bool true]) (by simp [results, Tryz.results14, go_sem]) rfl ?_
    exact CallQ.yes HP3.out HE3.out.1 HE3.out.2
end Go.Proofs.YtjamknejllbmkaaGreatDoor
