/- The document's Holds, at any node. -/
import Derived.Test.YtgajnmcjnkfblaaGreatDoorMHRf
import Derived.Test.YtgajnmcjnkfblaaGreatDoorMNRh

namespace Go.Proofs.YtgajnmcjnkfblaaGreatDoor
open Go.RowKit
set_option linter.unusedVariables false
theorem Lk.all4 {b1 b2 b3 b4 j1 j2 j3 j4 : Nat} {v1 v2 v3 v4 : Value} {V : World} (h : Lk [(b1, j1, v1), (b2, j2, v2), (b3, j3, v3), (b4, j4, v4)] V) : Lk [(b1, j1, v1), (b2, j2, v2), (b3, j3, v3), (b4, j4, v4)] V ∧ V.cell? ⟨b1, j1, none⟩ = some v1 ∧ V.cell? ⟨b2, j2, none⟩ = some v2 ∧ V.cell? ⟨b3, j3, none⟩ = some v3 ∧ V.cell? ⟨b4, j4, none⟩ = some v4 :=
  ⟨h, (h (b1, j1, v1) (by simp)).2, (h (b2, j2, v2) (by simp)).2, (h (b3, j3, v3) (by simp)).2, (h (b4, j4, v4) (by simp)).2⟩
set_option maxHeartbeats 4000000 in
set_option maxRecDepth 100000 in
theorem rholds_any (g : Option Addr) (c : Nat) (ds : List Df) (fn par : Int) (ga : Option Addr) (ca : Nat) (xs : List ByteArray) (res : ByteArray) (fuel : Int) (w : World) (hd : Defs Exs w g ds) (hx : Tm.Txts w ga xs) (hs : ∀ x ∈ xs, x.size ≤ 140737488355328) (hlx : xs.length ≤ 4611686018427387904) (hrs : res.size ≤ 140737488355328) :
    Calls Tryz.prog 22 #[.agg #[.slice g ds.length c], .agg #[.int .i64 fn, .int .i64 par, .slice ga xs.length ca, .string res], .int .i64 fuel] w fun e w' => e = .returned (.tuple #[.bool (hdsB ds fn (Tm.lst xs) res.data.toList fuel), .int .i64 (hdsE ds fn (Tm.lst xs) res.data.toList fuel)]) ∧ Below w.heap.size w w' := by
  have HD : Hid (Defs Exs w g ds ∧ Tm.Txts w ga xs) := ⟨hd, hx⟩
  have HMY : Hid (∀ W, Below w.heap.size w W → Calls Tryz.prog 30 #[.agg #[.slice g ds.length c], .int .i64 fn, .slice ga xs.length ca, .int .i64 fuel] W fun e w' => e = .returned (.bool (askB ds fn (Tm.lst xs) fuel)) ∧ Below W.heap.size W w') := fun W h => rask_any g c ds fn ga ca xs fuel W (hd.on h) (hx.on h) hs hlx
  have HTM : Hid (∀ W, Calls Tryz.prog 17 #[.string res] W fun e w' => e = .returned (.bool (Tm.whole res.data.toList).isSome) ∧ Below W.heap.size W w') := fun W => Tm.rmay_any res W hrs
  have HBP : Hid (∀ o : Obj, Bx 24 ((w.alloc (.cells #[.slice g ds.length c] 24)).alloc o) w.heap.size #[.slice g ds.length c]) := fun o => (Bx.new 24 w _).alloc o
  have HBN : Hid (∀ o : Obj, Bx 52 ((w.alloc o).alloc (.cells #[.int .i64 fn, .int .i64 par, .slice ga xs.length ca, .string res] 52)) (w.heap.size + 1) #[.int .i64 fn, .int .i64 par, .slice ga xs.length ca, .string res]) := fun o => by
    have h := Bx.new 52 (w.alloc o) #[.int .i64 fn, .int .i64 par, .slice ga xs.length ca, .string res]
    rw [World.size_alloc] at h; exact h
  have HB0 : Hid (∀ o1 o2 : Obj, Below w.heap.size w ((w.alloc o1).alloc o2)) := fun o1 o2 => ((Below.refl _ w).alloc (Nat.le_refl _) _).alloc (by simp) _
  obtain ⟨B, hB⟩ : ∃ B, hdsB ds fn (Tm.lst xs) res.data.toList fuel = B := ⟨_, rfl⟩
  obtain ⟨E, hE⟩ : ∃ E, hdsE ds fn (Tm.lst xs) res.data.toList fuel = E := ⟨_, rfl⟩
  rw [hB, hE]
  have HBE : Hid (hdsB ds fn (Tm.lst xs) res.data.toList fuel = B ∧ hdsE ds fn (Tm.lst xs) res.data.toList fuel = E) := ⟨hB, hE⟩
  obtain ⟨n, hn⟩ : ∃ n, ds.length = n := ⟨_, rfl⟩
  have HN := hid hn
  obtain ⟨m, hm⟩ : ∃ m, xs.length = m := ⟨_, rfl⟩
  have HM := hid hm
  obtain ⟨ak, hak⟩ : ∃ b, askB ds fn (Tm.lst xs) fuel = b := ⟨_, rfl⟩
  have HAK := hid hak
  obtain ⟨tk, htk⟩ : ∃ b, (Tm.whole res.data.toList).isSome = b := ⟨_, rfl⟩
  have HTK := hid htk
  rw [hn, hm, hak] at HMY
  rw [hn] at HBP ⊢
  rw [hm] at HBN ⊢
  rw [htk] at HTM
  clear hd hx hs hlx hrs hB hE hn hm hak htk
  go_enter Tryz.func22, Tryz.ntmps22
  go_wp2_with fail
  refine grabK (fun U => Hid (Below w.heap.size w U) ∧ Hid (Bx 24 U w.heap.size #[.slice g n c]) ∧ Hid (Bx 52 U (w.heap.size + 1) #[.int .i64 fn, .int .i64 par, .slice ga m ca, .string res])) ⟨HB0.out _ _, HBP.out _, HBN.out _⟩ (fun U hU => ?_)
  obtain ⟨HU, HPB, HNB⟩ := hU
  refine (HMY.out _ HU.out).mono ?_
  rintro e w1 ⟨rfl, hb1⟩
  have HB1 : Hid (Below w.heap.size w w1) := HU.out.trans (hb1.mono HU.out.size)
  have HP1 := hid (HPB.out.next hb1)
  have HN1 := hid (HNB.out.next hb1)
  have p0 : w1.cell? ⟨w.heap.size, 0, none⟩ = some (.slice g n c) := HP1.out.cell 0 _ rfl
  have pl := HP1.out.lt
  have x0 : w1.cell? ⟨w.heap.size + 1, 0, none⟩ = some (.int .i64 fn) := HN1.out.cell 0 _ rfl
  have x1 : w1.cell? ⟨w.heap.size + 1, 1, none⟩ = some (.int .i64 par) := HN1.out.cell 1 _ rfl
  have x2 : w1.cell? ⟨w.heap.size + 1, 2, none⟩ = some (.slice ga m ca) := HN1.out.cell 2 _ rfl
  have x3 : w1.cell? ⟨w.heap.size + 1, 3, none⟩ = some (.string res) := HN1.out.cell 3 _ rfl
  have xl := HN1.out.lt
  clear hb1 HMY HU HPB HNB HBP HBN HB0
  cases ak with
  | false =>
    have HR : Hid (B = false ∧ E = 1000) := by
      refine ⟨?_, ?_⟩
      · rw [← HBE.out.1]; unfold hdsB hdsA; rw [HAK.out]; rfl
      · rw [← HBE.out.2]; unfold hdsE hdsA; rw [HAK.out]; rfl
    go_wp2_with fail
    go_ret2
    exact ⟨by rw [HR.out.1, HR.out.2]; rfl, HB1.out⟩
  | true =>
    go_wp2_with fail
    refine (HTM.out w1).mono ?_
    rintro e w2 ⟨rfl, hb2⟩
    have HB2 : Hid (Below w.heap.size w w2) := HB1.out.trans (hb2.mono HB1.out.size)
    have HP2 := hid (HP1.out.next hb2)
    have HN2 := hid (HN1.out.next hb2)
    have p0 : w2.cell? ⟨w.heap.size, 0, none⟩ = some (.slice g n c) := HP2.out.cell 0 _ rfl
    have pl := HP2.out.lt
    have x0 : w2.cell? ⟨w.heap.size + 1, 0, none⟩ = some (.int .i64 fn) := HN2.out.cell 0 _ rfl
    have x1 : w2.cell? ⟨w.heap.size + 1, 1, none⟩ = some (.int .i64 par) := HN2.out.cell 1 _ rfl
    have x2 : w2.cell? ⟨w.heap.size + 1, 2, none⟩ = some (.slice ga m ca) := HN2.out.cell 2 _ rfl
    have x3 : w2.cell? ⟨w.heap.size + 1, 3, none⟩ = some (.string res) := HN2.out.cell 3 _ rfl
    have xl := HN2.out.lt
    clear hb2 HTM HP1 HN1
    cases tk with
    | false =>
      have HR : Hid (B = false ∧ E = 1000) := by
        refine ⟨?_, ?_⟩
        · rw [← HBE.out.1]; unfold hdsB hdsA; rw [HAK.out, HTK.out]; rfl
        · rw [← HBE.out.2]; unfold hdsE hdsA; rw [HAK.out, HTK.out]; rfl
      go_wp2_with fail
      go_ret2
      exact ⟨by rw [HR.out.1, HR.out.2]; rfl, HB2.out⟩
    | true =>
      obtain ⟨hp, hf0, ⟨df, hdf, hpar⟩, hal, hu0, hu4, hwf⟩ := ask_parts HAK.out
      obtain ⟨f, hf⟩ : ∃ f, fuel.toNat = f := ⟨_, rfl⟩
      obtain ⟨d, hd⟩ : ∃ d, fn.toNat = d := ⟨_, rfl⟩
      obtain rfl : fuel = (f : Int) := by omega
      obtain rfl : fn = (d : Int) := by omega
      rw [hd] at hdf hwf
      have hdl := may_lvl (pmay_ok hp hdf).1
      have HF : Hid (f ≤ 400 ∧ ds[d]? = some df ∧ (1 ≤ df.body.length ∧ df.body.length ≤ 24) ∧ Wf ds (callT ds d (Tm.lst xs)) ∧ m ≤ 3 ∧ pmay ds = true) :=
        ⟨by omega, hdf, ⟨hdl.2.2.1, hdl.2.2.2.1⟩, hwf, by have h1 := HM.out; have h2 := hdl.2.1; rw [lst_len] at hpar; omega, hp⟩
      have HO : Hid (hdsO ds (d : Int) (Tm.lst xs) res.data.toList (f : Int) = (mt ds 1025 f res.data.toList (callT ds d (Tm.lst xs))).1) := by
        show _ = _
        unfold hdsO; rfl
      have hrl : res.data.toList.length < 1025 := by
        obtain ⟨⟨k, x, ks⟩, hy⟩ := Option.isSome_iff_exists.1 HTK.out
        have := (Tm.whole_some hy).1
        omega
      have HRL := hid hrl
      clear hp hf0 hdf hpar hal hu0 hu4 hwf hf hd hdl hrl
      have HCA : Hid (∀ W, Below w2.heap.size w2 W → w2.heap.size < W.heap.size → Calls Tryz.prog 32 #[.agg #[.slice g n c], .int .i64 (d : Int), .slice ga m ca] W fun e w' => ∃ gl cl, e = .returned (thV d (df.body.length - 1) (.slice gl m cl)) ∧ RLs (Zz w2.heap.size) w' (.slice gl m cl) ((Tm.lst xs).map .giv) ∧ Below W.heap.size W w') := by
        intro W hW hz
        have h := rcalled_at (A := Zz w2.heap.size) (W := W) (P := ds) (gp := g) (cp := c) (d := d) (df := df) ga ca xs (fun k e => by have e' : k = w2.heap.size := e; omega) ((HD.out.1.on HB2.out).on hW) HF.out.2.1 HF.out.2.2.1.1 (by have := HF.out.2.2.1.2; omega) ((HD.out.2.on HB2.out).on hW) (by have := HM.out; have := HF.out.2.2.2.2.1; omega)
        rw [HM.out, HN.out] at h
        exact h
      have HES : Hid (Rs w2 g ds c w2.heap.size (w2.alloc (Obj.cells #[.slice g n c, .int .i64 (f : Int), .int .i64 0] 77)) f) := by
        have h1 := Bx.new 77 w2 #[.slice g n c, .int .i64 (f : Int), .int .i64 0]
        rw [← HN.out] at h1 ⊢
        exact ⟨⟨HD.out.1.on HB2.out, HF.out.2.2.2.2.2⟩, (Below.refl _ w2).alloc (Nat.le_refl _) _, Nat.le_refl _, h1⟩
      obtain ⟨bn, hbn⟩ : ∃ bn, df.body.length - 1 = bn := ⟨_, rfl⟩
      have HBN : Hid (df.body.length - 1 = bn) := hbn
      simp only [hbn] at HCA
      obtain ⟨⟨oq, fq⟩, hq⟩ : ∃ q, mt ds 1025 f res.data.toList (callT ds d (Tm.lst xs)) = q := ⟨_, rfl⟩
      obtain ⟨bq, hbq⟩ : ∃ bq, moB oq = bq := ⟨_, rfl⟩
      obtain ⟨mc, hmc⟩ : ∃ mc, mcode oq = mc := ⟨_, rfl⟩
      have HR : Hid ((mc = 0 → B = bq ∧ E = 0) ∧ (mc ≠ 0 → B = false ∧ E = 1001)) := by
        have eB : moB oq = B := by rw [← HBE.out.1]; unfold hdsB hdsA; rw [HAK.out, HTK.out, HO.out, hq]; rfl
        have eE : moE oq = E := by rw [← HBE.out.2]; unfold hdsE hdsA; rw [HAK.out, HTK.out, HO.out, hq]; rfl
        refine ⟨fun h => ?_, fun h => ?_⟩
        · cases oq with
          | yes => exact ⟨by rw [← eB, ← hbq], eE.symm⟩
          | no => exact ⟨by rw [← eB, ← hbq], eE.symm⟩
          | out => rw [← hmc] at h; cases h
        · cases oq with
          | yes => exact absurd hmc.symm h
          | no => exact absurd hmc.symm h
          | out => exact ⟨eB.symm, eE.symm⟩
      have HME : Hid (∀ V gl cl, Rs w2 g ds c w2.heap.size V f → RLs (Zz w2.heap.size) V (.slice gl m cl) ((Tm.lst xs).map .giv) → Calls Tryz.prog 43 #[.pointer (some ⟨w2.heap.size, 0, none⟩), .string res, thV d bn (.slice gl m cl)] V fun e W' => e = .returned (.bool bq) ∧ Bx 77 W' w2.heap.size (nmC g n c (fq : Int) mc) ∧ Ka (Zz w2.heap.size) V W') := by
        intro V gl cl hrs hl
        have e : callT ds d (Tm.lst xs) = .prt d bn ((Tm.lst xs).map .giv) := by
          unfold callT bodyAt; rw [HF.out.2.1, ← hbn]
        have h := meets_said HF.out.2.2.2.2.2 1025 f (Zz w2.heap.size) V res _ (callT ds d (Tm.lst xs)) HF.out.1 HRL.out HTK.out hrs rfl (fun k e => by have e' : k = w2.heap.size := e; have := hrs.lt; omega) HF.out.2.2.2.1 (by rw [e]; exact hl.prt d bn)
        rw [hq] at h
        refine h.mono ?_
        rintro e w' ⟨rfl, h1, h2⟩
        refine ⟨by rw [← hbq], ?_, h2⟩
        rw [← HN.out, ← hmc]; exact h1
      have HLK0 : Hid (Lk [(w.heap.size, 0, .slice g n c), (w.heap.size + 1, 0, .int .i64 (d : Int)), (w.heap.size + 1, 2, .slice ga m ca), (w.heap.size + 1, 3, .string res)] w2 ∧ ∀ q ∈ ([(w.heap.size, 0, .slice g n c), (w.heap.size + 1, 0, .int .i64 (d : Int)), (w.heap.size + 1, 2, .slice ga m ca), (w.heap.size + 1, 3, .string res)] : List (Nat × Nat × Value)), ¬ Zz w2.heap.size q.1) := by
        refine ⟨fun q hq => ?_, fun q hq => ?_⟩
        · simp only [List.mem_cons, List.not_mem_nil, or_false] at hq
          rcases hq with rfl | rfl | rfl | rfl
          · exact ⟨pl, p0⟩
          · exact ⟨xl, x0⟩
          · exact ⟨xl, x2⟩
          · exact ⟨xl, x3⟩
        · simp only [List.mem_cons, List.not_mem_nil, or_false] at hq
          rcases hq with rfl | rfl | rfl | rfl
          · exact fun e => by have e' : w.heap.size = w2.heap.size := e; omega
          all_goals exact fun e => by have e' : w.heap.size + 1 = w2.heap.size := e; omega
      clear hq hbq hmc hbn
      go_wp2_with fail
      refine grabW (fun U => Hid (Rs w2 g ds c w2.heap.size U f) ∧ Hid (Below w2.heap.size w2 U)) ⟨HES.out, (Below.refl _ w2).alloc (Nat.le_refl _) _⟩ (fun U hU => ?_)
      obtain ⟨HRU, HBU⟩ := hU
      have HLK : Hid (Lk [(w.heap.size, 0, .slice g n c), (w.heap.size + 1, 0, .int .i64 (d : Int)), (w.heap.size + 1, 2, .slice ga m ca), (w.heap.size + 1, 3, .string res)] U) := HLK0.out.1.below HBU.out
      have HZU : Hid (w2.heap.size < U.heap.size) := HRU.out.lt
      clear p0 pl x0 x1 x2 x3 xl HES HP2 HN2
      obtain ⟨_, e1, e2, e3, e4⟩ := HLK.out.all4
      go_region_held3 (fun V => Lk [(w.heap.size, 0, .slice g n c), (w.heap.size + 1, 0, .int .i64 (d : Int)), (w.heap.size + 1, 2, .slice ga m ca), (w.heap.size + 1, 3, .string res)] V ∧ V.cell? ⟨w.heap.size, 0, none⟩ = some (.slice g n c) ∧ V.cell? ⟨w.heap.size + 1, 0, none⟩ = some (.int .i64 (d : Int)) ∧ V.cell? ⟨w.heap.size + 1, 2, none⟩ = some (.slice ga m ca) ∧ V.cell? ⟨w.heap.size + 1, 3, none⟩ = some (.string res))
        (exact Lk.all4 (by repeat (first | exact HL3.out | exact HL1.out | exact HLK.out | (with_reducible refine Lk.drew ?_))))
        ((first | (go_at_call 32; refine (HCA.out _ HBU.out.drew HZU.out).mono ?_; rintro e w3 ⟨gl, cl, rfl, hl3, hb3⟩; have HB3 : Hid (Below U.heap.size U w3) := (Below.refl _ U).drew.trans hb3; have HLS := hid hl3; have HL1 : Hid (Lk [(w.heap.size, 0, .slice g n c), (w.heap.size + 1, 0, .int .i64 (d : Int)), (w.heap.size + 1, 2, .slice ga m ca), (w.heap.size + 1, 3, .string res)] w3) := HLK.out.below HB3.out; clear hl3 hb3) | (go_at_call 43; refine (HME.out _ _ _ (HRU.out.next HB3.out) HLS.out).mono ?_; rintro e w6 ⟨rfl, hb6, hk6⟩; have HB6 := hid hb6; have HK6 := hid hk6; have HL3 : Hid (Lk [(w.heap.size, 0, .slice g n c), (w.heap.size + 1, 0, .int .i64 (d : Int)), (w.heap.size + 1, 2, .slice ga m ca), (w.heap.size + 1, 3, .string res)] w6) := HL1.out.ka hk6 HLK0.out.2; clear hb6 hk6)))
      all_goals
        have HBW : Hid (Below w.heap.size w w6) := (HB2.out.trans ((HBU.out.trans (HB3.out.mono HBU.out.size)).mono HB2.out.size)).trans (HK6.out.below (Nat.le_trans HB2.out.size (Nat.le_trans HBU.out.size HB3.out.size)) (fun k e => by have e' : k = w2.heap.size := e; have := HB2.out.size; omega))
        have z2 : w6.cell? ⟨w2.heap.size, 2, none⟩ = some (.int .i64 mc) := HB6.out.cell 2 _ rfl
        have zl := HB6.out.lt
        clear e1 e2 e3 e4 HLK HL1 HL3 HCA HME HLK0
        by_cases h0 : mc = 0
        · obtain ⟨r1, r2⟩ := HR.out.1 h0
          subst h0
          have HRR := hid (And.intro r1 r2)
          clear r1 r2
          go_wp2_with fail
          go_ret2
          exact ⟨by rw [HRR.out.1, HRR.out.2]; rfl, HBW.out⟩
        · obtain ⟨r1, r2⟩ := HR.out.2 h0
          have HRR := hid (And.intro r1 r2)
          have b1 : (mc != 0) = true := by simp [h0]
          have b2 : (mc == 0) = false := by simp [h0]
          clear r1 r2
          go_wp2_with fail
          go_ret2
          exact ⟨by rw [HRR.out.1, HRR.out.2]; rfl, HBW.out⟩
end Go.Proofs.YtgajnmcjnkfblaaGreatDoor
