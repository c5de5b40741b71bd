/- Which questions the document's own Head may be asked. · The document's own Head, at any question. -/
import Derived.Test.YtjamknejllbmkaaGreatDoorMNRf
import Derived.Test.YtjamknejllbmkaaGreatDoorMNTop
import Derived.Test.YtjamknejllbmkaaGreatDoorMProg
import Derived.Test.YtjamknejllbmkaaGreatDoorMRef
import Derived.Test.YtjamknejllbmkaaGreatDoorMNRw
import Derived.Test.YtjamknejllbmkaaGreatDoorMRMake
import Derived.Test.YtjamknejllbmkaaGreatDoorMTerm

namespace Go.Proofs.YtjamknejllbmkaaGreatDoor
open Go.RowKit
set_option linter.unusedVariables false
set_option maxHeartbeats 4000000 in
set_option maxRecDepth 100000 in
theorem rask_any (g : Option Addr) (c : Nat) (ds : List Df) (fn : Int) (ga : Option Addr) (ca : Nat) (xs : List ByteArray) (fuel : Int) (w : World) (hd : Defs Exs w g ds) (hx : Tm.Txts w ga xs) (hs : ∀ x ∈ xs, x.size ≤ 140737488355328) (hlx : xs.length ≤ 4611686018427387904) :
    Calls Tryz.prog 18 #[.agg #[.slice g ds.length c], .int .i64 fn, .slice ga xs.length ca, .int .i64 fuel] w fun e w' => e = .returned (.bool (askB ds fn (Tm.lst xs) fuel)) ∧ Below w.heap.size w w' := by
  have HD : Hid (Defs Exs w g ds ∧ Tm.Txts w ga xs ∧ (∀ x ∈ xs, x.size ≤ 140737488355328)) := ⟨hd, hx, hs⟩
  obtain ⟨Q, hQ⟩ : ∃ Q, askB ds fn (Tm.lst xs) fuel = Q := ⟨_, rfl⟩
  rw [hQ]
  have HQ0 := hid hQ
  have hX0 := Bx1.new w (.slice g ds.length c)
  have hb0 : Below w.heap.size w (w.alloc (.cells #[.slice g ds.length c] 30)) := (Below.refl _ w).alloc (Nat.le_refl _) _
  have HPM : Hid (Calls Tryz.prog 31 #[.agg #[.slice g ds.length c]] (w.alloc (.cells #[.slice g ds.length c] 30)) fun r w' => r = .returned (.bool (pmay ds)) ∧ Below (w.alloc (.cells #[.slice g ds.length c] 30)).heap.size (w.alloc (.cells #[.slice g ds.length c] 30)) w') := rprog_any g c ds _ (hd.on hb0)
  have HX0 := hid hX0
  have HB0 := hid hb0
  obtain ⟨n, hn⟩ : ∃ n, ds.length = n := ⟨_, rfl⟩
  have HN := hid hn
  obtain ⟨m, hm⟩ : ∃ m, xs.length = m := ⟨_, rfl⟩
  have HM := hid hm
  obtain ⟨pm, hpm⟩ : ∃ b, pmay ds = b := ⟨_, rfl⟩
  have HP := hid hpm
  rw [hpm, hn] at HPM
  rw [hn] at HX0 HB0 ⊢
  rw [hm] at hlx ⊢
  clear hd hx hs hQ hX0 hb0 hn hm hpm
  go_enter Tryz.func18, Tryz.ntmps18
  go_wp2_with fail
  refine HPM.out.mono ?_
  rintro e w1 ⟨rfl, hb1⟩
  have HB1 : Hid (Below w.heap.size w w1) := HB0.out.trans (hb1.mono (by simp))
  have x0 := (HX0.out.on hb1).c0
  have xl : w.heap.size < w1.heap.size := (HX0.out.on hb1).lt
  clear hb1 HPM
  cases pm with
  | false =>
    have HQ : Hid (false = Q) := by show false = Q; rw [← HQ0.out]; unfold askB; rw [HP.out]; rfl
    go_wp2_with fail
    go_ret
    exact ⟨by rw [← HQ.out]; rfl, HB1.out⟩
  | true =>
    by_cases h1 : fn < (0 : Int)
    · have d1 : decide (fn < (0 : Int)) = true := by simp [h1]
      have HQ : Hid (false = Q) := by show false = Q; rw [← HQ0.out]; unfold askB; simp; intro _ h; omega
      go_wp2_with fail
      go_ret
      exact ⟨by rw [← HQ.out]; rfl, HB1.out⟩
    · have d1 : decide (fn < (0 : Int)) = false := by simp; omega
      by_cases h2 : (n : Int) ≤ fn
      · have d2 : decide ((n : Int) ≤ fn) = true := by simp [h2]
        have d2' : decide (fn < (n : Int)) = false := by simp; omega
        have HQ : Hid (false = Q) := by
          show false = Q
          rw [← HQ0.out]
          unfold askB
          have : ds[fn.toNat]? = none := by rw [List.getElem?_eq_none_iff]; have := HN.out; omega
          rw [this]; simp
        go_wp2_with fail
        go_ret
        exact ⟨by rw [← HQ.out]; rfl, HB1.out⟩
      · have d2 : decide ((n : Int) ≤ fn) = false := by simp; omega
        have d2' : decide (fn < (n : Int)) = true := by simp; omega
        obtain ⟨j, hj⟩ : ∃ j, fn.toNat = j := ⟨_, rfl⟩
        obtain rfl : fn = (j : Int) := by omega
        have h2' : (j : Int) < (n : Int) := by omega
        have hj0 : (0 : Int) ≤ (j : Int) := by omega
        have hjl : j < ds.length := by have := HN.out; omega
        have hnj : ¬ n ≤ j := by omega
        have d2n : decide (n ≤ j) = false := by simp; omega
        obtain ⟨bk, o, rfl, hbk, gk, ck, hdf⟩ := (HD.out.1.on HB1.out).at hjl
        obtain ⟨df, hdfe⟩ : ∃ df, ds[j] = df := ⟨_, rfl⟩
        rw [hdfe] at hdf
        have HDF : Hid (ds[j]? = some df) := by show _ = _; rw [List.getElem?_eq_getElem hjl, hdfe]
        have k0 := hdf.1
        obtain ⟨pr, hpr⟩ : ∃ pr, df.params = pr := ⟨_, rfl⟩
        have HPR := hid hpr
        rw [hpr] at k0
        have hask : ∀ b : Bool, askB ds (j : Int) (Tm.lst xs) fuel = (decide ((xs.length : Int) = df.params) && !(xs.any noT) && decide (0 ≤ fuel ∧ fuel ≤ 400)) := by
          intro _
          have hd := HDF.out
          unfold askB
          rw [HP.out, all_noT, lst_len]
          simp only [Int.toNat_natCast, hd]
          simp
        have HASK := hid (hask true)
        have hp3 : pr ≤ 3 := by
          have h := (pmay_ok HP.out HDF.out).1
          have := (may_lvl h).2.1
          rw [hpr] at this; exact this
        clear hask hdf hdfe hpr hj
        by_cases h3 : (m : Int) = pr
        · subst h3
          have d3 : ((m : Int) != (m : Int)) = false := by simp
          have d3' : ((m : Int) == (m : Int)) = true := by simp
          by_cases h4 : fuel < (0 : Int)
          · have d4 : decide (fuel < (0 : Int)) = true := by simp [h4]
            have HQ : Hid (false = Q) := by show false = Q; rw [← HQ0.out, HASK.out]; simp; intro _ _ h; omega
            go_wp2_with fail
            go_ret
            exact ⟨by rw [← HQ.out]; rfl, HB1.out⟩
          · have d4 : decide (fuel < (0 : Int)) = false := by simp; omega
            by_cases h5 : (400 : Int) < fuel
            · have d5 : decide ((400 : Int) < fuel) = true := by simp [h5]
              have HQ : Hid (false = Q) := by show false = Q; rw [← HQ0.out, HASK.out]; simp; intro _ _ h; omega
              go_wp2_with fail
              go_ret
              exact ⟨by rw [← HQ.out]; rfl, HB1.out⟩
            · have d5 : decide ((400 : Int) < fuel) = false := by simp; omega
              have HQ1 : Hid (Q = !(xs.any noT)) := by
                show _ = _
                rw [← HQ0.out, HASK.out, HM.out, HPR.out]
                have : 0 ≤ fuel ∧ fuel ≤ 400 := by omega
                simp [this]
              have hm3 : m ≤ 3 := by omega
              clear hp3 HASK
              go_wp2_with fail
              go_loopw [8, 9] (fun s8 s5 wr => s8 = .bool false ∧ ∃ i : Nat, i ≤ m ∧ s5 = .int .i64 (i : Int) ∧ Hid (Below w.heap.size w wr) ∧ Hid (∀ (k : Nat) (x : ByteArray), k < i → xs[k]? = some x → noT x = false)) (fun _ s5 _ => m - (intOf s5).toNat)
              case atStart => exact ⟨rfl, 0, Nat.zero_le _, rfl, HB1.out, fun k x h => absurd h (Nat.not_lt_zero _)⟩
              case round =>
                obtain ⟨rfl, i, hi, rfl, HB, HALL⟩ := hrel
                clear HB1 x0 xl k0
                by_cases hlt : i < m
                · have hlt' : (i : Int) < (m : Int) := by omega
                  obtain ⟨bt, ot, e, hbt, hc⟩ := txts_cellR HD.out.2.1 (j := i) (by have := HM.out; omega)
                  obtain ⟨q, hq⟩ : ∃ q, xs[i]'(by have := HM.out; omega) = q := ⟨_, rfl⟩
                  have HSS : Hid (xs[i]? = some q) := by
                    have : xs[i]? = some (xs[i]'(by have := HM.out; omega)) := List.getElem?_eq_getElem _
                    rw [hq] at this; exact this
                  rw [hq] at hc
                  subst e
                  have hc' := (HB.out.cell (p := ⟨bt, ot + i, none⟩) hbt).trans hc
                  have hbt' : bt < wr.heap.size := Nat.lt_of_lt_of_le hbt HB.out.size
                  obtain ⟨b, hb⟩ : ∃ b, (Tm.whole q.data.toList).isSome = b := ⟨_, rfl⟩
                  have HBB := hid hb
                  have HC : Hid (Calls Tryz.prog 32 #[.string q] wr fun e w' => e = .returned (.bool b) ∧ Below wr.heap.size wr w') := by
                    have h := Tm.rmay_any q wr (HD.out.2.2 q (List.mem_of_getElem? HSS.out))
                    rw [hb] at h; exact h
                  clear hq hc hb
                  go_wp2_with fail
                  refine HC.out.mono ?_
                  rintro e w2 ⟨rfl, hb2⟩
                  have HB2 : Hid (Below w.heap.size w w2) := HB.out.trans (hb2.mono HB.out.size)
                  clear hb2 HC
                  cases b with
                  | false =>
                    have HQ : Hid (false = Q) := by
                      show false = Q
                      have : xs.any noT = true := List.any_eq_true.2 ⟨q, List.mem_of_getElem? HSS.out, by unfold noT; rw [HBB.out]; rfl⟩
                      rw [HQ1.out, this]; rfl
                    go_wp2_with fail
                    go_ret
                    exact ⟨by rw [← HQ.out]; rfl, HB2.out⟩
                  | true =>
                    go_wp2_with fail
                    go_roundw
                    case rel =>
                      refine ⟨rfl, i + 1, by omega, by go_num, HB2.out, fun k x hk hx => ?_⟩
                      by_cases e : k = i
                      · subst e
                        rw [HSS.out] at hx
                        obtain rfl := Option.some.inj hx
                        unfold noT; rw [HBB.out]; rfl
                      · exact HALL.out k x (by omega) hx
                    case measure => simp [intOf]; omega
                · have hlt' : ¬ (i : Int) < (m : Int) := by omega
                  obtain rfl : i = m := by omega
                  have HQ : Hid (true = Q) := by
                    show true = Q
                    have : xs.any noT = false := by
                      rw [List.any_eq_false]
                      intro x hx
                      obtain ⟨k, hk⟩ := List.getElem?_of_mem hx
                      have hl := (List.getElem?_eq_some_iff.1 hk).1
                      have := HALL.out k x (by have := HM.out; omega) hk
                      simp [this]
                    rw [HQ1.out, this]; rfl
                  go_wp2_with fail
                  go_ret
                  exact ⟨by rw [← HQ.out]; rfl, HB.out⟩
        · have d3 : ((m : Int) != pr) = true := by simp [h3]
          have d3' : ((m : Int) == pr) = false := by simp [h3]
          have HQ : Hid (false = Q) := by show false = Q; rw [← HQ0.out, HASK.out, HM.out, HPR.out]; simp [h3]
          go_wp2_with fail
          go_ret
          exact ⟨by rw [← HQ.out]; rfl, HB1.out⟩
end Go.Proofs.YtjamknejllbmkaaGreatDoor

namespace Go.Proofs.YtjamknejllbmkaaGreatDoor
open Go.RowKit
set_option linter.unusedVariables false
theorem tx_mk {o : Oc} (h : erO o = 0) : Tm.mkT (Tm.mk (ocK o) (ocN o) (List.replicate (ocP o).length [95])) = txO o := by
  have hg : ∀ y : Option (List UInt8), Tm.mkT y = y.getD [] := fun y => by cases y <;> rfl
  cases o with
  | fuel => cases h
  | hole => cases h
  | fail => decide +kernel
  | num m => exact hg _
  | con c ps => exact hg _
theorem tx_no {o : Oc} (h : erO o ≠ 0) : txO o = [] := by
  cases o with
  | fuel => rfl
  | hole => rfl
  | fail => exact absurd rfl h
  | num m => exact absurd rfl h
  | con c ps => exact absurd rfl h
theorem ocP_le {P : List Df} {o : Oc} (h : o.Wf P) : (ocP o).length ≤ 3 := by
  cases o with
  | con c ps => exact h.2.2.1
  | _ => exact Nat.zero_le _
set_option maxHeartbeats 4000000 in
set_option maxRecDepth 100000 in
theorem rhead_any (g : Option Addr) (c : Nat) (ds : List Df) (fn : Int) (ga : Option Addr) (ca : Nat) (xs : List ByteArray) (fuel : Int) (w : World) (hd : Defs Exs w g ds) (hx : Tm.Txts w ga xs) (hs : ∀ x ∈ xs, x.size ≤ 140737488355328) (hlx : xs.length ≤ 4611686018427387904) :
    Calls Tryz.prog 12 #[.agg #[.slice g ds.length c], .int .i64 fn, .slice ga xs.length ca, .int .i64 fuel] w fun e w' => e = .returned (.tuple #[.string ⟨(hdT ds fn (Tm.lst xs) fuel).toArray⟩, .int .i64 (hdE ds fn (Tm.lst xs) fuel)]) ∧ Below w.heap.size w w' := by
  have HD : Hid (Defs Exs w g ds ∧ Tm.Txts w ga xs) := ⟨hd, hx⟩
  have hX0 := Bx1.new w (.slice g ds.length c)
  have hb0 : Below w.heap.size w (w.alloc (.cells #[.slice g ds.length c] 30)) := (Below.refl _ w).alloc (Nat.le_refl _) _
  have HAS := hid (rask_any g c ds fn ga ca xs fuel _ (hd.on hb0) (hx.on hb0) hs hlx)
  have HX0 := hid hX0
  have HB0 := hid hb0
  obtain ⟨T, hT⟩ : ∃ T : ByteArray, (⟨(hdT ds fn (Tm.lst xs) fuel).toArray⟩ : ByteArray) = T := ⟨_, rfl⟩
  obtain ⟨E, hE⟩ : ∃ E, hdE ds fn (Tm.lst xs) fuel = E := ⟨_, rfl⟩
  rw [hT, hE]
  have HTE : Hid ((⟨(hdT ds fn (Tm.lst xs) fuel).toArray⟩ : ByteArray) = T ∧ hdE ds fn (Tm.lst xs) fuel = E) := ⟨hT, hE⟩
  obtain ⟨n, hn⟩ : ∃ n, ds.length = n := ⟨_, rfl⟩
  have HN := hid hn
  obtain ⟨m, hm⟩ : ∃ m, xs.length = m := ⟨_, rfl⟩
  have HM := hid hm
  obtain ⟨ak, hak⟩ : ∃ b, askB ds fn (Tm.lst xs) fuel = b := ⟨_, rfl⟩
  have HAK := hid hak
  rw [hn, hm, hak] at HAS
  rw [hn] at HX0 HB0 ⊢
  rw [hm] at hlx ⊢
  clear hd hx hs hX0 hb0 hT hE hn hm hak
  go_enter Tryz.func12, Tryz.ntmps12
  go_wp2_with fail
  refine HAS.out.mono ?_
  rintro e w1 ⟨rfl, hb1⟩
  have HB1 : Hid (Below w.heap.size w w1) := HB0.out.trans (hb1.mono (by simp))
  have x0 := (HX0.out.on hb1).c0
  have xl : w.heap.size < w1.heap.size := (HX0.out.on hb1).lt
  clear hb1 HAS
  cases ak with
  | false =>
    have HR : Hid (T = ⟨#[]⟩ ∧ E = 900) := by
      refine ⟨?_, ?_⟩
      · rw [← HTE.out.1]; unfold hdT; rw [HAK.out]; rfl
      · rw [← HTE.out.2]; unfold hdE; rw [HAK.out]; rfl
    go_wp2_with fail
    go_ret2
    exact ⟨by rw [HR.out.1, HR.out.2]; rfl, HB1.out⟩
  | true =>
    obtain ⟨hp, hf0, ⟨df, hdf, hpar⟩, hal, hu0, hu4, hwf⟩ := ask_parts HAK.out
    obtain ⟨f, hf⟩ : ∃ f, fuel.toNat = f := ⟨_, rfl⟩
    obtain ⟨d, hd⟩ : ∃ d, fn.toNat = d := ⟨_, rfl⟩
    obtain rfl : fuel = (f : Int) := by omega
    obtain rfl : fn = (d : Int) := by omega
    rw [hd] at hdf hwf
    have hdl := may_lvl (pmay_ok hp hdf).1
    have HF : Hid (f ≤ 400 ∧ ds[d]? = some df ∧ (1 ≤ df.body.length ∧ df.body.length ≤ 24) ∧ Wf ds (callT ds d (Tm.lst xs)) ∧ m ≤ 3 ∧ pmay ds = true) :=
      ⟨by omega, hdf, ⟨hdl.2.2.1, hdl.2.2.2.1⟩, hwf, by have h1 := HM.out; have h2 := hdl.2.1; rw [lst_len] at hpar; omega, hp⟩
    have HO : Hid (hdO ds (d : Int) (Tm.lst xs) (f : Int) = (ev ds 400 f (callT ds d (Tm.lst xs))).1) := by
      show _ = _
      unfold hdO; rfl
    clear hp hf0 hdf hpar hal hu0 hu4 hwf hf hd hdl
    have HCA : Hid (∀ W, Below w1.heap.size w1 W → w1.heap.size < W.heap.size → Calls Tryz.prog 20 #[.agg #[.slice g n c], .int .i64 (d : Int), .slice ga m ca] W fun e w' => ∃ gl cl, e = .returned (thV d (df.body.length - 1) (.slice gl m cl)) ∧ RLs (Zz w1.heap.size) w' (.slice gl m cl) ((Tm.lst xs).map .giv) ∧ Below W.heap.size W w') := by
      intro W hW hz
      have h := rcalled_at (A := Zz w1.heap.size) (W := W) (P := ds) (gp := g) (cp := c) (d := d) (df := df) ga ca xs (fun k e => by have e' : k = w1.heap.size := e; omega) ((HD.out.1.on HB1.out).on hW) HF.out.2.1 HF.out.2.2.1.1 (by have := HF.out.2.2.1.2; omega) ((HD.out.2.on HB1.out).on hW) (by have := HM.out; have := HF.out.2.2.2.2.1; omega)
      rw [HM.out, HN.out] at h
      exact h
    have HES : Hid (Rs w1 g ds c w1.heap.size (w1.alloc (Obj.cells #[.slice g n c, .int .i64 (f : Int), .int .i64 0] 63)) f) := by
      have h1 := Bx.new 63 w1 #[.slice g n c, .int .i64 (f : Int), .int .i64 0]
      rw [← HN.out] at h1 ⊢
      exact ⟨⟨HD.out.1.on HB1.out, HF.out.2.2.2.2.2⟩, (Below.refl _ w1).alloc (Nat.le_refl _) _, Nat.le_refl _, h1⟩
    go_wp2_with fail
    refine (HCA.out _ ((Below.refl _ w1).alloc (Nat.le_refl _) _) (by simp)).mono ?_
    rintro e w2 ⟨gl, cl, rfl, hl2, hb2⟩
    have HE2 : Hid (Rs w1 g ds c w1.heap.size w2 f ∧ Below w.heap.size w w2) := ⟨HES.out.next hb2, HB1.out.trans ((((Below.refl _ w1).alloc (Nat.le_refl _) _).trans (hb2.mono (by simp))).mono HB1.out.size)⟩
    have HEV : Hid (Calls Tryz.prog 19 #[.pointer (some ⟨w1.heap.size, 0, none⟩), thV d (df.body.length - 1) (.slice gl m cl)] w2 fun e W' => RvQ g ds c w1.heap.size (Zz w1.heap.size) w2 (ev ds 400 f (callT ds d (Tm.lst xs))) e W') := by
      have e : callT ds d (Tm.lst xs) = .prt d (df.body.length - 1) ((Tm.lst xs).map .giv) := by
        unfold callT bodyAt; rw [HF.out.2.1]
      obtain ⟨vs, v1, v2, v3⟩ := hl2
      have hth : RTh (Zz w1.heap.size) w2 [.bool false, .string ⟨#[]⟩, .int .i64 (d : Int), .int .i64 ((df.body.length - 1 : Nat) : Int), .slice gl m cl] (callT ds d (Tm.lst xs)) := by
        rw [e]; exact .prt d _ _ _ vs v1 v2 v3
      exact rv_said 400 (by decide) f _ w2 _ _ HF.out.1 HE2.out.1 rfl (fun k e => by have e' : k = w1.heap.size := e; have := HE2.out.1.lt; omega) HF.out.2.2.2.1 hth
    obtain ⟨bn, hbn⟩ : ∃ bn, df.body.length - 1 = bn := ⟨_, rfl⟩
    rw [hbn] at HEV
    simp only [hbn]
    clear hl2 hb2 HCA HES hbn
    go_wp2_with fail
    refine HEV.out.mono ?_
    obtain ⟨⟨o, f2⟩, hr⟩ : ∃ r, ev ds 400 f (callT ds d (Tm.lst xs)) = r := ⟨_, rfl⟩
    rw [hr]
    have hwf := ev_wf HF.out.2.2.2.2.2 400 f (callT ds d (Tm.lst xs)) HF.out.2.2.2.1
    rw [hr] at hwf HO
    rintro e w4 ⟨gk, ck, rfl, _, hbx, hk4⟩
    have HP3 : Hid ((ocP o).length ≤ 3) := ocP_le hwf.1
    have hEE : erO o = E := by rw [← HTE.out.2]; unfold hdE; rw [HAK.out, if_pos rfl, HO.out]
    have hTT : (⟨(txO o).toArray⟩ : ByteArray) = T := by rw [← HTE.out.1]; unfold hdT; rw [HAK.out, if_pos rfl, HO.out]
    have HB4 : Hid (Below w.heap.size w w4) := HE2.out.2.trans (hk4.below HE2.out.2.size (fun k e => by have e' : k = w1.heap.size := e; have := HB1.out.size; omega))
    have HTX : Hid (E ≠ 0 → T = ⟨#[]⟩) := fun h => by rw [← hTT, tx_no (by rw [hEE]; exact h)]
    have HMK : Hid (E = 0 → ByteArray.mk (Tm.mkT (Tm.mk (ocK o) (ocN o) (List.replicate (ocP o).length [95]))).toArray = T) := fun h => by rw [tx_mk (by rw [hEE]; exact h), hTT]
    simp only at hbx
    rw [hEE] at hbx
    have z2 : w4.cell? ⟨w1.heap.size, 2, none⟩ = some (.int .i64 E) := hbx.cell 2 _ rfl
    have zl := hbx.lt
    simp only
    obtain ⟨kd, hkd⟩ : ∃ kd, ocK o = kd := ⟨_, rfl⟩
    obtain ⟨nm, hnm⟩ : ∃ nm, ocN o = nm := ⟨_, rfl⟩
    obtain ⟨mk, hmk⟩ : ∃ mk, (ocP o).length = mk := ⟨_, rfl⟩
    rw [hkd, hnm, hmk] at HMK
    rw [hmk] at HP3
    rw [hkd, hnm, hmk]
    clear hbx hk4 hwf hr HEV hEE hTT hkd hnm hmk HE2
    by_cases h0 : E = 0
    · subst h0
      have HMT : Hid (ByteArray.mk (Tm.mkT (Tm.mk kd nm (List.replicate mk [95]))).toArray = T) := HMK.out rfl
      have hm3 : mk ≤ 3 := HP3.out
      obtain ⟨i0, hi, hi0, hi1, hi2⟩ := info_parts Tm.Tryz.info9
      go_wp2_with fail
      obtain ⟨Y, hY⟩ : ∃ Y, w4.heap.size = Y := ⟨_, rfl⟩
      refine grabW (fun U => Hid (Below w.heap.size w U) ∧ Hid (Bx 66 U Y #[.int .i64 kd, .int .i64 nm, .slice gk mk ck])) ⟨HB4.out.alloc HB4.out.size _, by rw [← hY]; exact Bx.new 66 w4 _⟩ (fun U hU => ?_)
      obtain ⟨HU, HY⟩ := hU
      simp only [hY]
      clear z2 zl hY HB4 HTX HMK
      go_loopw [12, 13] (fun s12 s13 wr => ∃ (j : Nat) (g1 : Option Addr) (c1 : Nat), j ≤ mk ∧ s13 = .int .i64 (j : Int) ∧ s12 = .slice g1 j c1 ∧ Hid (wr.ownsRow U.heap.size 9 1 (.slice g1 j c1) (List.replicate j ([95] : List UInt8)).length ((List.replicate j ([95] : List UInt8)).map Tm.S)) ∧ Hid (Below U.heap.size U wr)) (fun _ s13 _ => mk - (intOf s13).toNat)
      case atStart => exact ⟨0, none, 0, Nat.zero_le _, rfl, rfl, World.ownsRow_nil _ _ _ _, Below.refl _ _⟩
      case round =>
        obtain ⟨j, g1, c1, hj, rfl, rfl, HO, HB⟩ := hrel
        have hyb := HY.out.next HB.out
        have y0 : wr.cell? ⟨Y, 0, none⟩ = some (.int .i64 kd) := hyb.cell 0 _ rfl
        have y1 : wr.cell? ⟨Y, 1, none⟩ = some (.int .i64 nm) := hyb.cell 1 _ rfl
        have y2 : wr.cell? ⟨Y, 2, none⟩ = some (.slice gk mk ck) := hyb.cell 2 _ rfl
        have yl := hyb.lt
        clear hyb
        by_cases hlt : j < mk
        · have hlt' : (j : Int) < (mk : Int) := by omega
          have HO2 : Hid (∀ o : Obj, (wr.alloc o).ownsRow U.heap.size 9 1 (.slice g1 j c1) (List.replicate j ([95] : List UInt8)).length ((List.replicate j ([95] : List UInt8)).map Tm.S)) := fun o => HO.out.alloc o
          have HBZ := HB.out.size
          go_wp2_with (at_builtin; refine wpList_append_own _ rfl _ _ 24 rfl U.heap.size 9 i0 (.string ⟨#[]⟩) 1 16 Tryz.underlying24 hi hi0 hi1 hi2 rfl (by decide) _ (List.replicate j ([95] : List UInt8)).length _ rfl (HO2.out _) ⟨wr.heap.size, 0, none⟩ 1 1 [.string ⟨#[95]⟩] rfl rfl ?c1 ?c2 ?c3 ?c4 ?c5 ?_)
          case c1 =>
            intro j u hj
            match j, hj with
            | 0, hj => cases hj; rw [Lib.add_plain, Nat.zero_add, World.cell?_alloc_new]; rfl
            | j + 1, hj => simp at hj
          case c2 => intro u hu; simp at hu; subst hu; rfl
          case c3 => unfold maxLen; simp; omega
          case c4 => simp; omega
          case c5 => rw [World.size_alloc]; omega
          intro v' w2' hown2 hgrow _
          have hrep : List.replicate j ([95] : List UInt8) ++ [[95]] = List.replicate (j + 1) [95] := by rw [List.replicate_succ']
          have hown3 : w2'.ownsRow U.heap.size 9 1 v' (List.replicate (j + 1) ([95] : List UInt8)).length ((List.replicate (j + 1) ([95] : List UInt8)).map Tm.S) := by
            rw [← hrep, List.length_append, List.map_append, List.map_replicate, List.length_replicate]; exact hown2
          obtain ⟨g2, c2, e2, _⟩ := Lx.own_len hown3
          subst e2
          have HO3 : Hid (w2'.ownsRow U.heap.size 9 1 (.slice g2 (j + 1) c2) (List.replicate (j + 1) ([95] : List UInt8)).length ((List.replicate (j + 1) ([95] : List UInt8)).map Tm.S)) := by
            have h := hown3
            rw [List.length_replicate] at h
            show World.ownsRow _ _ _ _ _ _ _
            rw [List.length_replicate]; exact h
          have HB3 : Hid (Below U.heap.size U w2') := (HB.out.alloc HB.out.size _).grown hgrow (by rw [World.size_alloc]; omega) (fun k hk => (World.ownsRow.lt HO.out k hk).1)
          simp only [List.length_replicate]
          clear hown2 hown3 hgrow hrep HO HO2
          go_wp2_with fail
          go_roundw
          case rel => exact ⟨j + 1, g2, c2, by omega, by go_num, rfl, HO3.out, HB3.out⟩
          case measure => simp [intOf]; omega
        · have hlt' : ¬ (j : Int) < (mk : Int) := by omega
          obtain rfl : j = mk := by omega
          have HMA : Hid (Calls Tryz.prog 21 #[.int .i64 kd, .int .i64 nm, .slice g1 j c1] wr fun e w' => e = .returned (.tuple #[.string T, .int .i64 (Tm.mkE (Tm.mk kd nm (List.replicate j [95])))]) ∧ Below wr.heap.size wr w') := by
            obtain ⟨g', c', e', htx, _⟩ := Tm.own_txts HO.out
            have hg : g1 = g' := by simp only [Value.slice.injEq] at e'; exact e'.1
            subst hg
            have h := Tm.rmake_any kd nm g1 j ((List.replicate j ([95] : List UInt8)).map Tm.ba) c1 wr (by simp) htx (by simp; omega) (fun x hx => by
              obtain ⟨y, hy, rfl⟩ := List.mem_map.1 hx
              rw [(List.mem_replicate.1 hy).2]; decide)
            rw [Tm.lst_ba] at h
            refine h.mono ?_
            rintro e w' ⟨rfl, hb⟩
            exact ⟨by rw [← HMT.out], hb⟩
          clear HO
          go_wp2_with fail
          refine HMA.out.mono ?_
          rintro e w6 ⟨rfl, hb6⟩
          have HB6 : Hid (Below w.heap.size w w6) := (HU.out.trans (HB.out.mono HU.out.size)).trans (hb6.mono (Nat.le_trans HU.out.size HB.out.size))
          clear hb6 HMA
          go_wp2_with fail
          go_ret2
          exact ⟨rfl, HB6.out⟩
    · have h0' : (E == 0) = false := by simp [h0]
      have h0'' : (E != 0) = true := by simp [h0]
      obtain rfl : T = ⟨#[]⟩ := HTX.out h0
      go_wp2_with fail
      go_region_law fail
      all_goals
        go_wp2_with fail
        go_ret2
        exact ⟨rfl, (HB4.out.alloc HB4.out.size _).drew⟩
end Go.Proofs.YtjamknejllbmkaaGreatDoor
