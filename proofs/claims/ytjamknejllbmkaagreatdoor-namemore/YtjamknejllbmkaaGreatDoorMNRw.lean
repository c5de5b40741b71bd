/- The document's eval: a prim. · The document's eval: a let. · The document's eval: a case. · The document's eval, however many steps are left, at a term or at a part. -/
import Derived.Test.YtjamknejllbmkaaGreatDoorMNRv

namespace Go.Proofs.YtjamknejllbmkaaGreatDoor
open Go.RowKit
set_option linter.unusedVariables false
attribute [local go_sem ↓] Go.wp_at_zero Go.wp_at_succ

set_option maxHeartbeats 8000000 in
set_option maxRecDepth 100000 in
theorem rv_prim {W0 : World} {gp : Option Addr} {P : List Df} {cp z n : Nat} (hEv : RvSaid W0 gp P cp z n) (f : Nat) (A : Nat → Prop) (W : World) (d a : Nat) (ls : List Th) (x : Ex) (gl : Option Addr) (cl : Nat) (hf : f ≤ n) (hfb : f ≤ 100000) (hs : Rs W0 gp P cp z W (f + 1)) (hz : A z) (hA : ∀ k, A k → k < W.heap.size)
    (hx : Pd1 P d a ls x) (hwf : Wf P (.prt d a ls)) (hl : RLs A W (.slice gl ls.length cl) ls) (hk : x.kind = 4) :
    Calls Tryz.prog 19 #[.pointer (some ⟨z, 0, none⟩), thV d a (.slice gl ls.length cl)] W fun e W' => RvQ gp P cp z A W (ev P (n + 1) (f + 1) (.prt d a ls)) e W' := by
  have HX : Hid (Pd1 P d a ls x ∧ pmay P = true ∧ Wf P (.prt d a ls)) := ⟨hx, hs.prg.may, hwf⟩
  have HS := hid hs
  have HA : Hid (A z ∧ (∀ k, A k → k < W.heap.size) ∧ f ≤ n) := ⟨hz, hA, hf⟩
  have HL := hid hl
  obtain ⟨df, hdf, hbx, hb24, hab⟩ := hx.df
  obtain ⟨pb, po, bg, bc, hgp, hpb0, pc1, _, hbd⟩ := hs.prg.body (Below.refl _ _) hdf
  have hpb : pb < W.heap.size := Nat.lt_of_lt_of_le hpb0 hs.low.size
  have pc1 := (hs.low.cell (p := ⟨pb, po + d * 2 + 1, none⟩) hpb0).trans pc1
  obtain ⟨bk, o, nb, cb, gk, ck, ebv, han, hbk0, _, hx0, hx1, hx2, hx3, hx4⟩ := hbd.part (Below.refl _ _) hx.body
  have hbk : bk < W.heap.size := Nat.lt_of_lt_of_le hbk0 hs.low.size
  have hx0 := (hs.low.cell (p := ⟨bk, o + a * 4, none⟩) hbk0).trans hx0
  have hx1 := (hs.low.cell (p := ⟨bk, o + a * 4 + 1, none⟩) hbk0).trans hx1
  have hx2 := (hs.low.cell (p := ⟨bk, o + a * 4 + 2, none⟩) hbk0).trans hx2
  have hx3 := (hs.low.cell (p := ⟨bk, o + a * 4 + 3, none⟩) hbk0).trans hx3
  rw [ebv] at pc1
  have hdl : d < P.length := (List.getElem?_eq_some_iff.1 hdf).1
  have hd0 : (0 : Int) ≤ (d : Int) := by omega
  have hdl' : (d : Int) < (P.length : Int) := by omega
  have han' : (a : Int) < (nb : Int) := by omega
  have ha0 : (0 : Int) ≤ (a : Int) := by omega
  have hzz := hs.lt
  have hzb : bk ≠ z := by have := hs.z0; omega
  have hzp : pb ≠ z := by have := hs.z0; omega
  have z1 : W.cell? ⟨z, 1, none⟩ = some (.int .i64 ((f : Int) + 1)) := hs.box.cell 1 _ (by show some (Value.int .i64 ((f + 1 : Nat) : Int)) = _; rw [show ((f + 1 : Nat) : Int) = (f : Int) + 1 by omega])
  have zf := hs.box.frozen 1
  have f0' : ((f : Int) + 1 == 0) = false := by simp; omega
  have fb : (f : Int) ≤ 100000 := by omega
  have fb0 : (0 : Int) ≤ (f : Int) := by omega
  obtain ⟨nm, hnm⟩ : ∃ nm, x.num = nm := ⟨_, rfl⟩
  obtain ⟨bn, hbn⟩ : ∃ bn, x.bind = bn := ⟨_, rfl⟩
  obtain ⟨nk, hnk⟩ : ∃ nk, x.kids.length = nk := ⟨_, rfl⟩
  obtain ⟨pn, hpn⟩ : ∃ pn, P.length = pn := ⟨_, rfl⟩
  obtain ⟨ml, hml⟩ : ∃ ml, ls.length = ml := ⟨_, rfl⟩
  rw [hk] at hx0
  rw [hnm] at hx1
  rw [hbn] at hx2
  rw [hnk] at hx3
  rw [hpn] at hdl'
  obtain ⟨r0, hr0⟩ : ∃ r, ev P (n + 1) (f + 1) (.prt d a ls) = r := ⟨_, rfl⟩
  rw [hr0, hml]
  have HN : Hid (x.num = nm ∧ x.bind = bn ∧ x.kids.length = nk ∧ x.kind = 4 ∧ P.length = pn ∧ ls.length = ml) := ⟨hnm, hbn, hnk, hk, hpn, hml⟩
  have HR0 := hid hr0
  have HEv := hid hEv
  have HX4 : Hid (Nums W0 gk x.kids) := hx4
  have HGP := hid hgp
  subst hgp
  have hnk3 : nk ≤ 3 := by have h := hx.ok; unfold Ex.ok okE at h; rw [hk, hnk] at h; simp at h; omega
  clear hx hs hz hA hf hbd hl hk hnm hbn hnk hr0 hEv hwf hx4 hfb hdf hbx hb24 hab hpb0 ebv hbk0 hdl hpn hml
  go_enter Tryz.func19, Tryz.ntmps19
  go_wp2_with fail
  have HUF := u_facts HS.out #[.bool false, .string ⟨#[]⟩, .int .i64 (d : Int), .int .i64 (a : Int), .slice gl ml cl] #[.int .i64 0, .int .i64 0, .slice none 0 0]
  refine grabW (fun U => Hid (Ka (Zz z) W U) ∧ Hid (Rs W0 (some ⟨pb, po, none⟩) P cp z U f) ∧ Hid (Bx 69 U W.heap.size #[.bool false, .string ⟨#[]⟩, .int .i64 (d : Int), .int .i64 (a : Int), .slice gl ml cl]) ∧ Hid (Bx 66 U (W.heap.size + 1) #[.int .i64 0, .int .i64 0, .slice none 0 0])) HUF (fun U hU => ?_)
  obtain ⟨HK, HRS, HT, HR⟩ := hU
  clear HUF z1 zf f0' fb fb0
  have hall : ∀ V : World, Below U.heap.size U V → Below U.heap.size U V ∧ V.cell? ⟨z, 0, none⟩ = some (.slice (some ⟨pb, po, none⟩) pn cp) ∧ V.cell? ⟨pb, po + d * 2 + 1, none⟩ = some (.slice (some ⟨bk, o, none⟩) nb cb) ∧ V.cell? ⟨bk, o + a * 4, none⟩ = some (.int .i64 4) ∧ V.cell? ⟨bk, o + a * 4 + 1, none⟩ = some (.int .i64 nm) ∧ V.cell? ⟨bk, o + a * 4 + 2, none⟩ = some (.int .i64 bn) ∧ V.cell? ⟨bk, o + a * 4 + 3, none⟩ = some (.slice gk nk ck)
      ∧ V.cell? ⟨W.heap.size, 2, none⟩ = some (.int .i64 (d : Int)) ∧ V.cell? ⟨W.heap.size, 3, none⟩ = some (.int .i64 (a : Int)) := by
    intro V h
    have hbkU : bk < U.heap.size := Nat.lt_of_lt_of_le hbk HK.out.size
    have hpbU : pb < U.heap.size := Nat.lt_of_lt_of_le hpb HK.out.size
    have k0 : U.cell? ⟨z, 0, none⟩ = some (.slice (some ⟨pb, po, none⟩) pn cp) := by have h := HRS.out.box.cell 0 _ rfl; rw [← HN.out.2.2.2.2.1]; exact h
    exact ⟨h, (h.cell (p := ⟨z, 0, none⟩) HRS.out.lt).trans k0, (h.cell (p := ⟨pb, po + d * 2 + 1, none⟩) hpbU).trans ((HK.out.cell hpb hzp).trans pc1), (h.cell (p := ⟨bk, o + a * 4, none⟩) hbkU).trans ((HK.out.cell hbk hzb).trans hx0), (h.cell (p := ⟨bk, o + a * 4 + 1, none⟩) hbkU).trans ((HK.out.cell hbk hzb).trans hx1),
      (h.cell (p := ⟨bk, o + a * 4 + 2, none⟩) hbkU).trans ((HK.out.cell hbk hzb).trans hx2), (h.cell (p := ⟨bk, o + a * 4 + 3, none⟩) hbkU).trans ((HK.out.cell hbk hzb).trans hx3), (h.cell (p := ⟨W.heap.size, 2, none⟩) HT.out.lt).trans (HT.out.cell 2 _ rfl), (h.cell (p := ⟨W.heap.size, 3, none⟩) HT.out.lt).trans (HT.out.cell 3 _ rfl)⟩
  have HALL := hid hall
  have HBU : Hid (Below U.heap.size U U) := Below.refl _ _
  clear hall pc1 hx0 hx1 hx2 hx3
  obtain ⟨_, e0, e1, e2, e3, e4, e5, e6, e7⟩ := HALL.out U HBU.out
  go_region_held3 (fun V => Below U.heap.size U V ∧ V.cell? ⟨z, 0, none⟩ = some (.slice (some ⟨pb, po, none⟩) pn cp) ∧ V.cell? ⟨pb, po + d * 2 + 1, none⟩ = some (.slice (some ⟨bk, o, none⟩) nb cb) ∧ V.cell? ⟨bk, o + a * 4, none⟩ = some (.int .i64 4) ∧ V.cell? ⟨bk, o + a * 4 + 1, none⟩ = some (.int .i64 nm) ∧ V.cell? ⟨bk, o + a * 4 + 2, none⟩ = some (.int .i64 bn) ∧ V.cell? ⟨bk, o + a * 4 + 3, none⟩ = some (.slice gk nk ck)
      ∧ V.cell? ⟨W.heap.size, 2, none⟩ = some (.int .i64 (d : Int)) ∧ V.cell? ⟨W.heap.size, 3, none⟩ = some (.int .i64 (a : Int)))
    (exact HALL.out _ (by repeat (first | exact HBU.out | (with_reducible refine Below.drew ?_) | (with_reducible refine Below.alloc ?_ (Nat.le_refl _) _)))) (fail)
  clear e0 e1 e2 e3 e4 e5 e6 e7 HALL HBU
  obtain ⟨X, hX⟩ : ∃ X, U.heap.size = X := ⟨_, rfl⟩
  have hWX : W.heap.size + 1 < X := by have := HR.out.lt; omega
  refine grabE (fun V => Hid (Below U.heap.size U V) ∧ Hid (Bx 55 V X #[.int .i64 4, .int .i64 nm, .int .i64 bn, .slice gk nk ck])) ⟨((Below.refl _ U).alloc (Nat.le_refl _) _).drew, by rw [← hX]; exact Bx.newd 55 U _⟩ (fun V hV => ?_)
  obtain ⟨HUV, HXB⟩ := hV
  have HRV : Hid (Rs W0 (some ⟨pb, po, none⟩) P cp z V f) := HRS.out.next HUV.out
  have HKV : Hid (Ka (Zz z) W V) := HK.out.next (Ka.of_below HUV.out)
  have HTV : Hid (Bx 69 V W.heap.size #[.bool false, .string ⟨#[]⟩, .int .i64 (d : Int), .int .i64 (a : Int), .slice gl ml cl]) := HT.out.next HUV.out
  have HRBV : Hid (Bx 66 V (W.heap.size + 1) #[.int .i64 0, .int .i64 0, .slice none 0 0]) := HR.out.next HUV.out
  have HZW : Hid (z < W.heap.size ∧ W.heap.size < X) := ⟨hzz, by omega⟩
  have HLV : Hid (RLs (orR A (W.heap.size + 1)) V (.slice gl ml cl) ls) := by
    have h := HL.out
    rw [HN.out.2.2.2.2.2] at h
    refine (h.avoid (B := orR A (W.heap.size + 1)) ?_).kp (HKV.out.mono fun k _ e => by have e' : k = z := e; subst e'; exact Or.inl HA.out.1)
    rintro k (hk | hk)
    · exact Or.inl hk
    · right; omega
  have HKD : Hid (Calls Tryz.prog 35 #[thV d a (.slice gl ml cl), .slice gk nk ck] V fun e w' => ∃ g c, e = .returned (.slice g nk c) ∧ RLs (orR A (W.heap.size + 1)) w' (.slice g nk c) (kidsT d ls x) ∧ Below V.heap.size V w') := by
    have h := rkids_at (A := orR A (W.heap.size + 1)) (W := V) d a gl cl ls x.kids gk ck (by
      rintro k (hk | hk)
      · exact Nat.lt_of_lt_of_le (HA.out.2.1 k hk) HKV.out.size
      · rw [hk]; exact HRBV.out.lt) (by rw [HN.out.2.2.2.2.2]; exact HLV.out) (HX4.out.on HRV.out.low) (fun k hk => by
        obtain ⟨i, hi⟩ := List.getElem?_of_mem hk
        exact (HX.out.1.kid i k hi).1) (by rw [HN.out.2.2.1]; exact hnk3)
    rw [HN.out.2.2.1, HN.out.2.2.2.2.2] at h
    exact h
  have t0 : V.cell? ⟨W.heap.size, 0, none⟩ = some (.bool false) := HTV.out.cell 0 _ rfl
  have t1 : V.cell? ⟨W.heap.size, 1, none⟩ = some (.string ⟨#[]⟩) := HTV.out.cell 1 _ rfl
  have t2 : V.cell? ⟨W.heap.size, 2, none⟩ = some (.int .i64 (d : Int)) := HTV.out.cell 2 _ rfl
  have t3 : V.cell? ⟨W.heap.size, 3, none⟩ = some (.int .i64 (a : Int)) := HTV.out.cell 3 _ rfl
  have t4 : V.cell? ⟨W.heap.size, 4, none⟩ = some (.slice gl ml cl) := HTV.out.cell 4 _ rfl
  have x3 : V.cell? ⟨X, 3, none⟩ = some (.slice gk nk ck) := HXB.out.cell 3 _ rfl
  rw [hX]
  clear HK HRS HT HR HUV hX hbk hpb hzb hzp
  go_wp2_with fail
  refine HKD.out.mono ?_
  rintro e w1 ⟨gq, cq, rfl, hkv, hb1⟩
  have HC1 : Hid (Rc z A W #[.bool false, .string ⟨#[]⟩, .int .i64 (d : Int), .int .i64 (a : Int), .slice gl ml cl] #[.int .i64 4, .int .i64 nm, .int .i64 bn, .slice gk nk ck] X (.slice gl ml cl) ls (.slice gq nk cq) (kidsT d ls x) w1) := ⟨HKV.out.next (Ka.of_below hb1), HTV.out.next hb1, HRBV.out.next hb1, HXB.out.next hb1, HLV.out.kp (Ka.of_below hb1), hkv⟩
  have HRS1 : Hid (Rs W0 (some ⟨pb, po, none⟩) P cp z w1 f) := HRV.out.next hb1
  have t4 : w1.cell? ⟨W.heap.size, 4, none⟩ = some (.slice gl ml cl) := HC1.out.tb.cell 4 _ rfl
  have t2 : w1.cell? ⟨W.heap.size, 2, none⟩ = some (.int .i64 (d : Int)) := HC1.out.tb.cell 2 _ rfl
  have x0 : w1.cell? ⟨X, 0, none⟩ = some (.int .i64 4) := HC1.out.xb.cell 0 _ rfl
  have x1 : w1.cell? ⟨X, 1, none⟩ = some (.int .i64 nm) := HC1.out.xb.cell 1 _ rfl
  have x2 : w1.cell? ⟨X, 2, none⟩ = some (.int .i64 bn) := HC1.out.xb.cell 2 _ rfl
  have x3 : w1.cell? ⟨X, 3, none⟩ = some (.slice gk nk ck) := HC1.out.xb.cell 3 _ rfl
  obtain ⟨rl, ⟨r0', r1', r2'⟩, fz0, fz1, fz2⟩ := celsR HC1.out.rb
  clear t0 t1 t3 hkv hb1 HKD HKV HTV HRBV HXB HLV HRV
  have hkl : x.kids.length = 2 := by have := ok_kind HX.out.1.ok; have := HN.out; omega
  obtain rfl : nk = 2 := by have := HN.out.2.2.1; omega
  have HW0 : Hid (Wf P (kidT d ls x 0) ∧ Wf P (kidT d ls x 1)) := ⟨HX.out.1.kidW (by omega) (bd_ne (by decide)), HX.out.1.kidW (by omega) (bd_none (by have := HN.out; omega) (by have := HN.out; omega) _)⟩
  have hop : 0 ≤ nm ∧ nm ≤ 4 := by have := ok_kind HX.out.1.ok; have := HN.out; omega
  obtain ⟨bq, oq, cq2, u0, u1, u2, u3, u4, evq, hbqu, _, ⟨du0, du1, du2, du3, du4⟩, hthu⟩ := HC1.out.kv.pick (kidsT_at (d := d) (ls := ls) (x := x) (i := 0) (by have := HN.out; omega))
  obtain ⟨rfl, rfl⟩ : gq = some ⟨bq, oq, none⟩ ∧ cq = cq2 := by simp only [Value.slice.injEq] at evq; exact ⟨evq.1, evq.2.2⟩
  simp only [Nat.zero_mul, Nat.add_zero] at du0 du1 du2 du3 du4
  clear evq
  have HCALL : Hid (Calls Tryz.prog 19 #[.pointer (some ⟨z, 0, none⟩), .agg #[u0, u1, u2, u3, u4]] w1 fun e W' => RvQ (some ⟨pb, po, none⟩) P cp z (orR A (W.heap.size + 1)) w1 (ev P n f (kidT d ls x 0)) e W') :=
    HEv.out f (orR A (W.heap.size + 1)) w1 [u0, u1, u2, u3, u4] _ HA.out.2.2 HRS1.out (Or.inl HA.out.1) (by
      rintro k (hk | hk)
      · exact Nat.lt_of_lt_of_le (HA.out.2.1 k hk) HC1.out.kp.size
      · rw [hk]; exact HC1.out.rb.lt) HW0.out.1 hthu
  obtain ⟨⟨o1, f1⟩, hr1⟩ : ∃ r, ev P n f (kidT d ls x 0) = r := ⟨_, rfl⟩
  have HR1 := hid hr1
  have hwf1 := ev_wf HX.out.2.1 n f (kidT d ls x 0) HW0.out.1
  rw [hr1] at HCALL hwf1
  clear hr1 hthu
  go_wp2_with fail
  refine HCALL.out.mono ?_
  rintro e w2 ⟨g1, c1, rfl, hl1, hb1, hk1⟩
  have HC2 := hid (HC1.out.call HA.out.1 HZW.out.1 HZW.out.2 hk1)
  have HBX2 := hid hb1
  have HK1 := hid hk1
  have z2 := hb1.cell 2 _ rfl
  have hz2 := hb1.lt
  have x1 : w2.cell? ⟨X, 1, none⟩ = some (.int .i64 nm) := HC2.out.xb.cell 1 _ rfl
  have hX2 := HC2.out.xb.lt
  obtain ⟨rl, ⟨r0', r1', r2'⟩, g0', g1', g2'⟩ := celsR HC2.out.rb
  clear hl1 hb1 hk1 HCALL t4 t2 x0 x2 x3 du0 du1 du2 du3 du4 hbqu fz0 fz1 fz2
  cases o1 with
  | fuel =>
    go_wp2_with fail
    refine grabK (fun V => Hid (Below w2.heap.size w2 V)) (((Below.refl _ _).alloc (Nat.le_refl _) _)) (fun V8 hV8 => ?_)
    refine (rfail_any V8).mono ?_
    rintro e9 w9 ⟨rfl, hw9⟩
    have hb9 : Below w2.heap.size w2 w9 := hV8.out.trans (Below.mono (by rw [hw9]; exact (Below.refl _ _).alloc (Nat.le_refl _) _) hV8.out.size)
    have HC9 := hid (HC2.out.next hb9)
    have HB9 := hid (HBX2.out.next hb9)
    obtain ⟨rl9, ⟨r90, r91, r92⟩, g90, g91, g92⟩ := celsR HC9.out.rb
    clear hw9 hb9 hV8
    go_wp2_with fail
    refine grabPost (fun W9 => Bx 66 W9 (W.heap.size + 1) #[.int .i64 3, .int .i64 0, .slice none 0 0] ∧ Bx 63 W9 z (nmC (some ⟨pb, po, none⟩) P.length cp (f1 : Int) 901) ∧ Ka (Zz z) W W9 ∧ RLs A W9 (.slice none 0 0) []) (Rc.fin HC9.out HZW.out.1 HB9.out (RLs.nil _ _) _ _ _) (fun W9 h9 => ?_)
    obtain ⟨ql, ⟨q0, q1, q2⟩, _⟩ := celsR h9.1
    refine bodyPost_ret (v := hV 3 0 (.slice none 0 0)) (by simp [results, Tryz.results19, go_sem, q0, q1, q2]) rfl ?_
    exact RvQ.mk (o := .fuel) (f := f1) (by rw [← HR0.out]; rw [ev_4r HX.out.1 HN.out.2.2.2.1, HR1.out]) rfl rfl rfl rfl h9.2
  | hole =>
    go_wp2_with fail
    refine grabK (fun V => Hid (Below w2.heap.size w2 V)) (((Below.refl _ _).alloc (Nat.le_refl _) _)) (fun V8 hV8 => ?_)
    refine (rfail_any V8).mono ?_
    rintro e9 w9 ⟨rfl, hw9⟩
    have hb9 : Below w2.heap.size w2 w9 := hV8.out.trans (Below.mono (by rw [hw9]; exact (Below.refl _ _).alloc (Nat.le_refl _) _) hV8.out.size)
    have HC9 := hid (HC2.out.next hb9)
    have HB9 := hid (HBX2.out.next hb9)
    obtain ⟨rl9, ⟨r90, r91, r92⟩, g90, g91, g92⟩ := celsR HC9.out.rb
    clear hw9 hb9 hV8
    go_wp2_with fail
    refine grabPost (fun W9 => Bx 66 W9 (W.heap.size + 1) #[.int .i64 3, .int .i64 0, .slice none 0 0] ∧ Bx 63 W9 z (nmC (some ⟨pb, po, none⟩) P.length cp (f1 : Int) 902) ∧ Ka (Zz z) W W9 ∧ RLs A W9 (.slice none 0 0) []) (Rc.fin HC9.out HZW.out.1 HB9.out (RLs.nil _ _) _ _ _) (fun W9 h9 => ?_)
    obtain ⟨ql, ⟨q0, q1, q2⟩, _⟩ := celsR h9.1
    refine bodyPost_ret (v := hV 3 0 (.slice none 0 0)) (by simp [results, Tryz.results19, go_sem, q0, q1, q2]) rfl ?_
    exact RvQ.mk (o := .hole) (f := f1) (by rw [← HR0.out]; rw [ev_4r HX.out.1 HN.out.2.2.2.1, HR1.out]) rfl rfl rfl rfl h9.2
  | fail =>
    go_wp2_with fail
    refine grabK (fun V => Hid (Below w2.heap.size w2 V)) (((Below.refl _ _).alloc (Nat.le_refl _) _)) (fun V8 hV8 => ?_)
    refine (rfail_any V8).mono ?_
    rintro e9 w9 ⟨rfl, hw9⟩
    have hb9 : Below w2.heap.size w2 w9 := hV8.out.trans (Below.mono (by rw [hw9]; exact (Below.refl _ _).alloc (Nat.le_refl _) _) hV8.out.size)
    have HC9 := hid (HC2.out.next hb9)
    have HB9 := hid (HBX2.out.next hb9)
    obtain ⟨rl9, ⟨r90, r91, r92⟩, g90, g91, g92⟩ := celsR HC9.out.rb
    clear hw9 hb9 hV8
    go_wp2_with fail
    refine grabPost (fun W9 => Bx 66 W9 (W.heap.size + 1) #[.int .i64 3, .int .i64 0, .slice none 0 0] ∧ Bx 63 W9 z (nmC (some ⟨pb, po, none⟩) P.length cp (f1 : Int) 0) ∧ Ka (Zz z) W W9 ∧ RLs A W9 (.slice none 0 0) []) (Rc.fin HC9.out HZW.out.1 HB9.out (RLs.nil _ _) _ _ _) (fun W9 h9 => ?_)
    obtain ⟨ql, ⟨q0, q1, q2⟩, _⟩ := celsR h9.1
    refine bodyPost_ret (v := hV 3 0 (.slice none 0 0)) (by simp [results, Tryz.results19, go_sem, q0, q1, q2]) rfl ?_
    exact RvQ.mk (o := .fail) (f := f1) (by rw [← HR0.out]; rw [ev_4r HX.out.1 HN.out.2.2.2.1, HR1.out]) rfl rfl rfl rfl h9.2
  | con tg ps =>
    go_wp2_with fail
    refine grabK (fun V => Hid (Below w2.heap.size w2 V)) (((Below.refl _ _).alloc (Nat.le_refl _) _)) (fun V8 hV8 => ?_)
    refine (rfail_any V8).mono ?_
    rintro e9 w9 ⟨rfl, hw9⟩
    have hb9 : Below w2.heap.size w2 w9 := hV8.out.trans (Below.mono (by rw [hw9]; exact (Below.refl _ _).alloc (Nat.le_refl _) _) hV8.out.size)
    have HC9 := hid (HC2.out.next hb9)
    have HB9 := hid (HBX2.out.next hb9)
    obtain ⟨rl9, ⟨r90, r91, r92⟩, g90, g91, g92⟩ := celsR HC9.out.rb
    clear hw9 hb9 hV8
    go_wp2_with fail
    refine grabPost (fun W9 => Bx 66 W9 (W.heap.size + 1) #[.int .i64 3, .int .i64 0, .slice none 0 0] ∧ Bx 63 W9 z (nmC (some ⟨pb, po, none⟩) P.length cp (f1 : Int) 0) ∧ Ka (Zz z) W W9 ∧ RLs A W9 (.slice none 0 0) []) (Rc.fin HC9.out HZW.out.1 HB9.out (RLs.nil _ _) _ _ _) (fun W9 h9 => ?_)
    obtain ⟨ql, ⟨q0, q1, q2⟩, _⟩ := celsR h9.1
    refine bodyPost_ret (v := hV 3 0 (.slice none 0 0)) (by simp [results, Tryz.results19, go_sem, q0, q1, q2]) rfl ?_
    exact RvQ.mk (o := .fail) (f := f1) (by rw [← HR0.out]; rw [ev_4r HX.out.1 HN.out.2.2.2.1, HR1.out]) rfl rfl rfl rfl h9.2
  | num m =>
    dsimp only [ocK, ocN, ocP, List.length_nil]
    have z2 : w2.cell? ⟨z, 2, none⟩ = some (.int .i64 0) := HBX2.out.cell 2 _ rfl
    have hm : -32768 ≤ m ∧ m ≤ 32767 := hwf1.1
    have hA2 : ∀ k, orR A (W.heap.size + 1) k → k < w2.heap.size := by
      rintro k (hk | hk)
      · exact Nat.lt_of_lt_of_le (HA.out.2.1 k hk) HC2.out.kp.size
      · rw [hk]; exact HC2.out.rb.lt
    have hf1 : f1 ≤ n := by have h1 := hwf1.2; have h2 := HA.out.2.2; first | omega | (simp only at h1; omega)
    have HRS2 : Hid (Rs W0 (some ⟨pb, po, none⟩) P cp z w2 f1) := HRS1.out.kp HK1.out HBX2.out
    obtain ⟨bqv, oqv, cqv, v0, v1, v2, v3, v4, evq, hbqv, _, ⟨dv0, dv1, dv2, dv3, dv4⟩, hthv⟩ := HC2.out.kv.pick (kidsT_at (d := d) (ls := ls) (x := x) (i := 1) (by have := HN.out; omega))
    obtain ⟨rfl, rfl⟩ : bq = bqv ∧ oq = oqv := by injection evq with h1; injection h1 with h1; injection h1 with h1 h2; exact ⟨h1, h2⟩
    simp only [Nat.one_mul] at dv0 dv1 dv2 dv3 dv4
    clear evq
    have HCALL : Hid (∀ V, Below w2.heap.size w2 V → Calls Tryz.prog 19 #[.pointer (some ⟨z, 0, none⟩), .agg #[v0, v1, v2, v3, v4]] V fun e W' => RvQ (some ⟨pb, po, none⟩) P cp z (orR A (W.heap.size + 1)) V (ev P n f1 (kidT d ls x 1)) e W') := fun V hV =>
      HEv.out f1 (orR A (W.heap.size + 1)) V [v0, v1, v2, v3, v4] _ hf1 (HRS2.out.next hV) (Or.inl HA.out.1) (fun k hk => Nat.lt_of_lt_of_le (hA2 k hk) hV.size) HW0.out.2 (hthv.kp (Ka.of_below hV))
    obtain ⟨⟨o2, f2⟩, hr2⟩ : ∃ r, ev P n f1 (kidT d ls x 1) = r := ⟨_, rfl⟩
    have HR2 := hid hr2
    have hwf2 := ev_wf HX.out.2.1 n f1 (kidT d ls x 1) HW0.out.2
    rw [hr2] at HCALL hwf2
    have HY0 := hid (Bx.new 66 w2 #[.int .i64 1, .int .i64 m, .slice g1 0 c1])
    clear hr2 hthv hA2
    go_wp2_with fail
    obtain ⟨Y, hY⟩ : ∃ Y, w2.heap.size = Y := ⟨_, rfl⟩
    have hYz : Y ≠ z := by omega
    have hYX : Y ≠ X := by omega
    have hYR : Y ≠ W.heap.size + 1 := by omega
    refine (HCALL.out _ ((Below.refl _ _).alloc (Nat.le_refl _) _)).mono ?_
    rintro e w3 ⟨g3, c3, rfl, hl3, hb3, hk3⟩
    have HC3 := hid ((HC2.out.next ((Below.refl _ _).alloc (Nat.le_refl _) _)).call HA.out.1 HZW.out.1 HZW.out.2 hk3)
    have HBX3 := hid hb3
    have z2 := hb3.cell 2 _ rfl
    have hz3 := hb3.lt
    have x1 : w3.cell? ⟨X, 1, none⟩ = some (.int .i64 nm) := HC3.out.xb.cell 1 _ rfl
    have hX3 := HC3.out.xb.lt
    have HY := hid (HY0.out.kp hk3 (by rw [hY]; exact hYz))
    rw [hY] at HY
    have y0 : w3.cell? ⟨Y, 0, none⟩ = some (.int .i64 1) := HY.out.cell 0 _ rfl
    have y1 : w3.cell? ⟨Y, 1, none⟩ = some (.int .i64 m) := HY.out.cell 1 _ rfl
    have y2 : w3.cell? ⟨Y, 2, none⟩ = some (.slice g1 0 c1) := HY.out.cell 2 _ rfl
    have yl := HY.out.lt
    simp only [hY]
    obtain ⟨rl, ⟨r0', r1', r2'⟩, g0', g1', g2'⟩ := celsR HC3.out.rb
    clear hl3 hb3 hk3 HCALL dv0 dv1 dv2 dv3 dv4 hbqv hY HY0 HRS2 HC2 HBX2 hz2 hX2
    cases o2 with
    | fuel =>
      go_wp2_with fail
      refine grabK (fun V => Hid (Below w3.heap.size w3 V)) (((Below.refl _ _).alloc (Nat.le_refl _) _)) (fun V8 hV8 => ?_)
      refine (rfail_any V8).mono ?_
      rintro e9 w9 ⟨rfl, hw9⟩
      have hb9 : Below w3.heap.size w3 w9 := hV8.out.trans (Below.mono (by rw [hw9]; exact (Below.refl _ _).alloc (Nat.le_refl _) _) hV8.out.size)
      have HC9 := hid (HC3.out.next hb9)
      have HB9 := hid (HBX3.out.next hb9)
      obtain ⟨rl9, ⟨r90, r91, r92⟩, g90, g91, g92⟩ := celsR HC9.out.rb
      clear hw9 hb9 hV8
      go_wp2_with fail
      refine grabPost (fun W9 => Bx 66 W9 (W.heap.size + 1) #[.int .i64 3, .int .i64 0, .slice none 0 0] ∧ Bx 63 W9 z (nmC (some ⟨pb, po, none⟩) P.length cp (f2 : Int) 901) ∧ Ka (Zz z) W W9 ∧ RLs A W9 (.slice none 0 0) []) (Rc.fin HC9.out HZW.out.1 HB9.out (RLs.nil _ _) _ _ _) (fun W9 h9 => ?_)
      obtain ⟨ql, ⟨q0, q1, q2⟩, _⟩ := celsR h9.1
      refine bodyPost_ret (v := hV 3 0 (.slice none 0 0)) (by simp [results, Tryz.results19, go_sem, q0, q1, q2]) rfl ?_
      exact RvQ.mk (o := .fuel) (f := f2) (by rw [← HR0.out]; rw [ev_4r HX.out.1 HN.out.2.2.2.1, HR1.out]; simp only; rw [HR2.out]) rfl rfl rfl rfl h9.2
    | hole =>
      go_wp2_with fail
      refine grabK (fun V => Hid (Below w3.heap.size w3 V)) (((Below.refl _ _).alloc (Nat.le_refl _) _)) (fun V8 hV8 => ?_)
      refine (rfail_any V8).mono ?_
      rintro e9 w9 ⟨rfl, hw9⟩
      have hb9 : Below w3.heap.size w3 w9 := hV8.out.trans (Below.mono (by rw [hw9]; exact (Below.refl _ _).alloc (Nat.le_refl _) _) hV8.out.size)
      have HC9 := hid (HC3.out.next hb9)
      have HB9 := hid (HBX3.out.next hb9)
      obtain ⟨rl9, ⟨r90, r91, r92⟩, g90, g91, g92⟩ := celsR HC9.out.rb
      clear hw9 hb9 hV8
      go_wp2_with fail
      refine grabPost (fun W9 => Bx 66 W9 (W.heap.size + 1) #[.int .i64 3, .int .i64 0, .slice none 0 0] ∧ Bx 63 W9 z (nmC (some ⟨pb, po, none⟩) P.length cp (f2 : Int) 902) ∧ Ka (Zz z) W W9 ∧ RLs A W9 (.slice none 0 0) []) (Rc.fin HC9.out HZW.out.1 HB9.out (RLs.nil _ _) _ _ _) (fun W9 h9 => ?_)
      obtain ⟨ql, ⟨q0, q1, q2⟩, _⟩ := celsR h9.1
      refine bodyPost_ret (v := hV 3 0 (.slice none 0 0)) (by simp [results, Tryz.results19, go_sem, q0, q1, q2]) rfl ?_
      exact RvQ.mk (o := .hole) (f := f2) (by rw [← HR0.out]; rw [ev_4r HX.out.1 HN.out.2.2.2.1, HR1.out]; simp only; rw [HR2.out]) rfl rfl rfl rfl h9.2
    | fail =>
      go_wp2_with fail
      refine grabK (fun V => Hid (Below w3.heap.size w3 V)) ((Below.refl _ _).alloc (Nat.le_refl _) _) (fun V8 hV8 => ?_)
      refine (rprim_bad nm m 3 0 g1 g3 0 0 c1 c3 V8 (by decide)).mono ?_
      rintro e9 w9 ⟨rfl, hw9⟩
      have hb9 : Below w3.heap.size w3 w9 := hV8.out.trans (hw9.mono hV8.out.size)
      have HC9 := hid (HC3.out.next hb9)
      have HB9 := hid (HBX3.out.next hb9)
      obtain ⟨rl9, ⟨r90, r91, r92⟩, g90, g91, g92⟩ := celsR HC9.out.rb
      clear hw9 hb9 hV8
      go_wp2_with fail
      refine grabPost (fun W9 => Bx 66 W9 (W.heap.size + 1) #[.int .i64 3, .int .i64 0, .slice none 0 0] ∧ Bx 63 W9 z (nmC (some ⟨pb, po, none⟩) P.length cp (f2 : Int) 0) ∧ Ka (Zz z) W W9 ∧ RLs A W9 (.slice none 0 0) []) (Rc.fin HC9.out HZW.out.1 HB9.out (RLs.nil _ _) _ _ _) (fun W9 h9 => ?_)
      obtain ⟨ql, ⟨q0, q1, q2⟩, _⟩ := celsR h9.1
      refine bodyPost_ret (v := hV 3 0 (.slice none 0 0)) (by simp [results, Tryz.results19, go_sem, q0, q1, q2]) rfl ?_
      exact RvQ.mk (o := .fail) (f := f2) (by rw [← HR0.out]; rw [ev_4r HX.out.1 HN.out.2.2.2.1, HR1.out]; simp only; rw [HR2.out]) rfl rfl rfl rfl h9.2
    | con tg ps =>
      go_wp2_with fail
      refine grabK (fun V => Hid (Below w3.heap.size w3 V)) ((Below.refl _ _).alloc (Nat.le_refl _) _) (fun V8 hV8 => ?_)
      refine (rprim_bad nm m 2 tg g1 g3 0 _ c1 c3 V8 (by decide)).mono ?_
      rintro e9 w9 ⟨rfl, hw9⟩
      have hb9 : Below w3.heap.size w3 w9 := hV8.out.trans (hw9.mono hV8.out.size)
      have HC9 := hid (HC3.out.next hb9)
      have HB9 := hid (HBX3.out.next hb9)
      obtain ⟨rl9, ⟨r90, r91, r92⟩, g90, g91, g92⟩ := celsR HC9.out.rb
      clear hw9 hb9 hV8
      go_wp2_with fail
      refine grabPost (fun W9 => Bx 66 W9 (W.heap.size + 1) #[.int .i64 3, .int .i64 0, .slice none 0 0] ∧ Bx 63 W9 z (nmC (some ⟨pb, po, none⟩) P.length cp (f2 : Int) 0) ∧ Ka (Zz z) W W9 ∧ RLs A W9 (.slice none 0 0) []) (Rc.fin HC9.out HZW.out.1 HB9.out (RLs.nil _ _) _ _ _) (fun W9 h9 => ?_)
      obtain ⟨ql, ⟨q0, q1, q2⟩, _⟩ := celsR h9.1
      refine bodyPost_ret (v := hV 3 0 (.slice none 0 0)) (by simp [results, Tryz.results19, go_sem, q0, q1, q2]) rfl ?_
      exact RvQ.mk (o := .fail) (f := f2) (by rw [← HR0.out]; rw [ev_4r HX.out.1 HN.out.2.2.2.1, HR1.out]; simp only; rw [HR2.out]) rfl rfl rfl rfl h9.2
    | num k =>
      have hk : -32768 ≤ k ∧ k ≤ 32767 := hwf2.1
      go_wp2_with fail
      refine grabK (fun V => Hid (Below w3.heap.size w3 V)) ((Below.refl _ _).alloc (Nat.le_refl _) _) (fun V8 hV8 => ?_)
      refine (rprim_num nm m k g1 g3 0 0 c1 c3 V8 hop hm hk).mono ?_
      rintro e9 w9 ⟨rfl, hw9⟩
      have hb9 : Below w3.heap.size w3 w9 := hV8.out.trans (hw9.mono hV8.out.size)
      have HC9 := hid (HC3.out.next hb9)
      have HB9 := hid (HBX3.out.next hb9)
      obtain ⟨rl9, ⟨r90, r91, r92⟩, g90, g91, g92⟩ := celsR HC9.out.rb
      clear hw9 hb9 hV8
      go_wp2_with fail
      refine grabPost (fun W9 => Bx 66 W9 (W.heap.size + 1) #[.int .i64 1, .int .i64 (prm nm m k), .slice none 0 0] ∧ Bx 63 W9 z (nmC (some ⟨pb, po, none⟩) P.length cp (f2 : Int) 0) ∧ Ka (Zz z) W W9 ∧ RLs A W9 (.slice none 0 0) []) (Rc.fin HC9.out HZW.out.1 HB9.out (RLs.nil _ _) _ _ _) (fun W9 h9 => ?_)
      obtain ⟨ql, ⟨q0, q1, q2⟩, _⟩ := celsR h9.1
      refine bodyPost_ret (v := hV 1 (prm nm m k) (.slice none 0 0)) (by simp [results, Tryz.results19, go_sem, q0, q1, q2]) rfl ?_
      exact RvQ.mk (o := (.num (prm nm m k))) (f := f2) (by rw [← HR0.out]; rw [ev_4r HX.out.1 HN.out.2.2.2.1, HR1.out]; simp only; rw [HR2.out]; simp only; rw [HN.out.1]) rfl rfl rfl rfl h9.2
end Go.Proofs.YtjamknejllbmkaaGreatDoor

namespace Go.Proofs.YtjamknejllbmkaaGreatDoor
open Go.RowKit
set_option linter.unusedVariables false
attribute [local go_sem ↓] Go.wp_at_zero Go.wp_at_succ

set_option maxHeartbeats 8000000 in
set_option maxRecDepth 100000 in
theorem rv_let {W0 : World} {gp : Option Addr} {P : List Df} {cp z n : Nat} (hEv : RvSaid W0 gp P cp z n) (f : Nat) (A : Nat → Prop) (W : World) (d a : Nat) (ls : List Th) (x : Ex) (gl : Option Addr) (cl : Nat) (hf : f ≤ n) (hfb : f ≤ 100000) (hs : Rs W0 gp P cp z W (f + 1)) (hz : A z) (hA : ∀ k, A k → k < W.heap.size)
    (hx : Pd1 P d a ls x) (hwf : Wf P (.prt d a ls)) (hl : RLs A W (.slice gl ls.length cl) ls) (hk : x.kind = 6) :
    Calls Tryz.prog 19 #[.pointer (some ⟨z, 0, none⟩), thV d a (.slice gl ls.length cl)] W fun e W' => RvQ gp P cp z A W (ev P (n + 1) (f + 1) (.prt d a ls)) e W' := by
  have HX : Hid (Pd1 P d a ls x ∧ pmay P = true ∧ Wf P (.prt d a ls)) := ⟨hx, hs.prg.may, hwf⟩
  have HS := hid hs
  have HA : Hid (A z ∧ (∀ k, A k → k < W.heap.size) ∧ f ≤ n) := ⟨hz, hA, hf⟩
  have HL := hid hl
  obtain ⟨df, hdf, hbx, hb24, hab⟩ := hx.df
  obtain ⟨pb, po, bg, bc, hgp, hpb0, pc1, _, hbd⟩ := hs.prg.body (Below.refl _ _) hdf
  have hpb : pb < W.heap.size := Nat.lt_of_lt_of_le hpb0 hs.low.size
  have pc1 := (hs.low.cell (p := ⟨pb, po + d * 2 + 1, none⟩) hpb0).trans pc1
  obtain ⟨bk, o, nb, cb, gk, ck, ebv, han, hbk0, _, hx0, hx1, hx2, hx3, hx4⟩ := hbd.part (Below.refl _ _) hx.body
  have hbk : bk < W.heap.size := Nat.lt_of_lt_of_le hbk0 hs.low.size
  have hx0 := (hs.low.cell (p := ⟨bk, o + a * 4, none⟩) hbk0).trans hx0
  have hx1 := (hs.low.cell (p := ⟨bk, o + a * 4 + 1, none⟩) hbk0).trans hx1
  have hx2 := (hs.low.cell (p := ⟨bk, o + a * 4 + 2, none⟩) hbk0).trans hx2
  have hx3 := (hs.low.cell (p := ⟨bk, o + a * 4 + 3, none⟩) hbk0).trans hx3
  rw [ebv] at pc1
  have hdl : d < P.length := (List.getElem?_eq_some_iff.1 hdf).1
  have hd0 : (0 : Int) ≤ (d : Int) := by omega
  have hdl' : (d : Int) < (P.length : Int) := by omega
  have han' : (a : Int) < (nb : Int) := by omega
  have ha0 : (0 : Int) ≤ (a : Int) := by omega
  have hzz := hs.lt
  have hzb : bk ≠ z := by have := hs.z0; omega
  have hzp : pb ≠ z := by have := hs.z0; omega
  have z1 : W.cell? ⟨z, 1, none⟩ = some (.int .i64 ((f : Int) + 1)) := hs.box.cell 1 _ (by show some (Value.int .i64 ((f + 1 : Nat) : Int)) = _; rw [show ((f + 1 : Nat) : Int) = (f : Int) + 1 by omega])
  have zf := hs.box.frozen 1
  have f0' : ((f : Int) + 1 == 0) = false := by simp; omega
  have fb : (f : Int) ≤ 100000 := by omega
  have fb0 : (0 : Int) ≤ (f : Int) := by omega
  obtain ⟨nm, hnm⟩ : ∃ nm, x.num = nm := ⟨_, rfl⟩
  obtain ⟨bn, hbn⟩ : ∃ bn, x.bind = bn := ⟨_, rfl⟩
  obtain ⟨nk, hnk⟩ : ∃ nk, x.kids.length = nk := ⟨_, rfl⟩
  obtain ⟨pn, hpn⟩ : ∃ pn, P.length = pn := ⟨_, rfl⟩
  obtain ⟨ml, hml⟩ : ∃ ml, ls.length = ml := ⟨_, rfl⟩
  rw [hk] at hx0
  rw [hnm] at hx1
  rw [hbn] at hx2
  rw [hnk] at hx3
  rw [hpn] at hdl'
  obtain ⟨r0, hr0⟩ : ∃ r, ev P (n + 1) (f + 1) (.prt d a ls) = r := ⟨_, rfl⟩
  rw [hr0, hml]
  have HN : Hid (x.num = nm ∧ x.bind = bn ∧ x.kids.length = nk ∧ x.kind = 6 ∧ P.length = pn ∧ ls.length = ml) := ⟨hnm, hbn, hnk, hk, hpn, hml⟩
  have HR0 := hid hr0
  have HEv := hid hEv
  have HX4 : Hid (Nums W0 gk x.kids) := hx4
  have HGP := hid hgp
  subst hgp
  have hnk3 : nk ≤ 3 := by have h := hx.ok; unfold Ex.ok okE at h; rw [hk, hnk] at h; simp at h; omega
  clear hx hs hz hA hf hbd hl hk hnm hbn hnk hr0 hEv hwf hx4 hfb hdf hbx hb24 hab hpb0 ebv hbk0 hdl hpn hml
  go_enter Tryz.func19, Tryz.ntmps19
  go_wp2_with fail
  have HUF := u_facts HS.out #[.bool false, .string ⟨#[]⟩, .int .i64 (d : Int), .int .i64 (a : Int), .slice gl ml cl] #[.int .i64 0, .int .i64 0, .slice none 0 0]
  refine grabW (fun U => Hid (Ka (Zz z) W U) ∧ Hid (Rs W0 (some ⟨pb, po, none⟩) P cp z U f) ∧ Hid (Bx 69 U W.heap.size #[.bool false, .string ⟨#[]⟩, .int .i64 (d : Int), .int .i64 (a : Int), .slice gl ml cl]) ∧ Hid (Bx 66 U (W.heap.size + 1) #[.int .i64 0, .int .i64 0, .slice none 0 0])) HUF (fun U hU => ?_)
  obtain ⟨HK, HRS, HT, HR⟩ := hU
  clear HUF z1 zf f0' fb fb0
  have hall : ∀ V : World, Below U.heap.size U V → Below U.heap.size U V ∧ V.cell? ⟨z, 0, none⟩ = some (.slice (some ⟨pb, po, none⟩) pn cp) ∧ V.cell? ⟨pb, po + d * 2 + 1, none⟩ = some (.slice (some ⟨bk, o, none⟩) nb cb) ∧ V.cell? ⟨bk, o + a * 4, none⟩ = some (.int .i64 6) ∧ V.cell? ⟨bk, o + a * 4 + 1, none⟩ = some (.int .i64 nm) ∧ V.cell? ⟨bk, o + a * 4 + 2, none⟩ = some (.int .i64 bn) ∧ V.cell? ⟨bk, o + a * 4 + 3, none⟩ = some (.slice gk nk ck)
      ∧ V.cell? ⟨W.heap.size, 2, none⟩ = some (.int .i64 (d : Int)) ∧ V.cell? ⟨W.heap.size, 3, none⟩ = some (.int .i64 (a : Int)) := by
    intro V h
    have hbkU : bk < U.heap.size := Nat.lt_of_lt_of_le hbk HK.out.size
    have hpbU : pb < U.heap.size := Nat.lt_of_lt_of_le hpb HK.out.size
    have k0 : U.cell? ⟨z, 0, none⟩ = some (.slice (some ⟨pb, po, none⟩) pn cp) := by have h := HRS.out.box.cell 0 _ rfl; rw [← HN.out.2.2.2.2.1]; exact h
    exact ⟨h, (h.cell (p := ⟨z, 0, none⟩) HRS.out.lt).trans k0, (h.cell (p := ⟨pb, po + d * 2 + 1, none⟩) hpbU).trans ((HK.out.cell hpb hzp).trans pc1), (h.cell (p := ⟨bk, o + a * 4, none⟩) hbkU).trans ((HK.out.cell hbk hzb).trans hx0), (h.cell (p := ⟨bk, o + a * 4 + 1, none⟩) hbkU).trans ((HK.out.cell hbk hzb).trans hx1),
      (h.cell (p := ⟨bk, o + a * 4 + 2, none⟩) hbkU).trans ((HK.out.cell hbk hzb).trans hx2), (h.cell (p := ⟨bk, o + a * 4 + 3, none⟩) hbkU).trans ((HK.out.cell hbk hzb).trans hx3), (h.cell (p := ⟨W.heap.size, 2, none⟩) HT.out.lt).trans (HT.out.cell 2 _ rfl), (h.cell (p := ⟨W.heap.size, 3, none⟩) HT.out.lt).trans (HT.out.cell 3 _ rfl)⟩
  have HALL := hid hall
  have HBU : Hid (Below U.heap.size U U) := Below.refl _ _
  clear hall pc1 hx0 hx1 hx2 hx3
  obtain ⟨_, e0, e1, e2, e3, e4, e5, e6, e7⟩ := HALL.out U HBU.out
  go_region_held3 (fun V => Below U.heap.size U V ∧ V.cell? ⟨z, 0, none⟩ = some (.slice (some ⟨pb, po, none⟩) pn cp) ∧ V.cell? ⟨pb, po + d * 2 + 1, none⟩ = some (.slice (some ⟨bk, o, none⟩) nb cb) ∧ V.cell? ⟨bk, o + a * 4, none⟩ = some (.int .i64 6) ∧ V.cell? ⟨bk, o + a * 4 + 1, none⟩ = some (.int .i64 nm) ∧ V.cell? ⟨bk, o + a * 4 + 2, none⟩ = some (.int .i64 bn) ∧ V.cell? ⟨bk, o + a * 4 + 3, none⟩ = some (.slice gk nk ck)
      ∧ V.cell? ⟨W.heap.size, 2, none⟩ = some (.int .i64 (d : Int)) ∧ V.cell? ⟨W.heap.size, 3, none⟩ = some (.int .i64 (a : Int)))
    (exact HALL.out _ (by repeat (first | exact HBU.out | (with_reducible refine Below.drew ?_) | (with_reducible refine Below.alloc ?_ (Nat.le_refl _) _)))) (fail)
  clear e0 e1 e2 e3 e4 e5 e6 e7 HALL HBU
  obtain ⟨X, hX⟩ : ∃ X, U.heap.size = X := ⟨_, rfl⟩
  have hWX : W.heap.size + 1 < X := by have := HR.out.lt; omega
  refine grabE (fun V => Hid (Below U.heap.size U V) ∧ Hid (Bx 55 V X #[.int .i64 6, .int .i64 nm, .int .i64 bn, .slice gk nk ck])) ⟨((Below.refl _ U).alloc (Nat.le_refl _) _).drew, by rw [← hX]; exact Bx.newd 55 U _⟩ (fun V hV => ?_)
  obtain ⟨HUV, HXB⟩ := hV
  have HRV : Hid (Rs W0 (some ⟨pb, po, none⟩) P cp z V f) := HRS.out.next HUV.out
  have HKV : Hid (Ka (Zz z) W V) := HK.out.next (Ka.of_below HUV.out)
  have HTV : Hid (Bx 69 V W.heap.size #[.bool false, .string ⟨#[]⟩, .int .i64 (d : Int), .int .i64 (a : Int), .slice gl ml cl]) := HT.out.next HUV.out
  have HRBV : Hid (Bx 66 V (W.heap.size + 1) #[.int .i64 0, .int .i64 0, .slice none 0 0]) := HR.out.next HUV.out
  have HZW : Hid (z < W.heap.size ∧ W.heap.size < X) := ⟨hzz, by omega⟩
  have HLV : Hid (RLs (orR A (W.heap.size + 1)) V (.slice gl ml cl) ls) := by
    have h := HL.out
    rw [HN.out.2.2.2.2.2] at h
    refine (h.avoid (B := orR A (W.heap.size + 1)) ?_).kp (HKV.out.mono fun k _ e => by have e' : k = z := e; subst e'; exact Or.inl HA.out.1)
    rintro k (hk | hk)
    · exact Or.inl hk
    · right; omega
  have HKD : Hid (Calls Tryz.prog 35 #[thV d a (.slice gl ml cl), .slice gk nk ck] V fun e w' => ∃ g c, e = .returned (.slice g nk c) ∧ RLs (orR A (W.heap.size + 1)) w' (.slice g nk c) (kidsT d ls x) ∧ Below V.heap.size V w') := by
    have h := rkids_at (A := orR A (W.heap.size + 1)) (W := V) d a gl cl ls x.kids gk ck (by
      rintro k (hk | hk)
      · exact Nat.lt_of_lt_of_le (HA.out.2.1 k hk) HKV.out.size
      · rw [hk]; exact HRBV.out.lt) (by rw [HN.out.2.2.2.2.2]; exact HLV.out) (HX4.out.on HRV.out.low) (fun k hk => by
        obtain ⟨i, hi⟩ := List.getElem?_of_mem hk
        exact (HX.out.1.kid i k hi).1) (by rw [HN.out.2.2.1]; exact hnk3)
    rw [HN.out.2.2.1, HN.out.2.2.2.2.2] at h
    exact h
  have t0 : V.cell? ⟨W.heap.size, 0, none⟩ = some (.bool false) := HTV.out.cell 0 _ rfl
  have t1 : V.cell? ⟨W.heap.size, 1, none⟩ = some (.string ⟨#[]⟩) := HTV.out.cell 1 _ rfl
  have t2 : V.cell? ⟨W.heap.size, 2, none⟩ = some (.int .i64 (d : Int)) := HTV.out.cell 2 _ rfl
  have t3 : V.cell? ⟨W.heap.size, 3, none⟩ = some (.int .i64 (a : Int)) := HTV.out.cell 3 _ rfl
  have t4 : V.cell? ⟨W.heap.size, 4, none⟩ = some (.slice gl ml cl) := HTV.out.cell 4 _ rfl
  have x3 : V.cell? ⟨X, 3, none⟩ = some (.slice gk nk ck) := HXB.out.cell 3 _ rfl
  rw [hX]
  clear HK HRS HT HR HUV hX hbk hpb hzb hzp
  go_wp2_with fail
  refine HKD.out.mono ?_
  rintro e w1 ⟨gq, cq, rfl, hkv, hb1⟩
  have HC1 : Hid (Rc z A W #[.bool false, .string ⟨#[]⟩, .int .i64 (d : Int), .int .i64 (a : Int), .slice gl ml cl] #[.int .i64 6, .int .i64 nm, .int .i64 bn, .slice gk nk ck] X (.slice gl ml cl) ls (.slice gq nk cq) (kidsT d ls x) w1) := ⟨HKV.out.next (Ka.of_below hb1), HTV.out.next hb1, HRBV.out.next hb1, HXB.out.next hb1, HLV.out.kp (Ka.of_below hb1), hkv⟩
  have HRS1 : Hid (Rs W0 (some ⟨pb, po, none⟩) P cp z w1 f) := HRV.out.next hb1
  have t4 : w1.cell? ⟨W.heap.size, 4, none⟩ = some (.slice gl ml cl) := HC1.out.tb.cell 4 _ rfl
  have t2 : w1.cell? ⟨W.heap.size, 2, none⟩ = some (.int .i64 (d : Int)) := HC1.out.tb.cell 2 _ rfl
  have x0 : w1.cell? ⟨X, 0, none⟩ = some (.int .i64 6) := HC1.out.xb.cell 0 _ rfl
  have x1 : w1.cell? ⟨X, 1, none⟩ = some (.int .i64 nm) := HC1.out.xb.cell 1 _ rfl
  have x2 : w1.cell? ⟨X, 2, none⟩ = some (.int .i64 bn) := HC1.out.xb.cell 2 _ rfl
  have x3 : w1.cell? ⟨X, 3, none⟩ = some (.slice gk nk ck) := HC1.out.xb.cell 3 _ rfl
  obtain ⟨rl, ⟨r0', r1', r2'⟩, fz0, fz1, fz2⟩ := celsR HC1.out.rb
  clear t0 t1 t3 hkv hb1 HKD HKV HTV HRBV HXB HLV HRV
  have hkl : x.kids.length = 2 := by have := ok_kind HX.out.1.ok; have := HN.out; omega
  obtain rfl : nk = 2 := by have := HN.out.2.2.1; omega
  obtain ⟨kb, ko, hgk, hkb0, hkc⟩ := HX4.out.at (j := 1) (by have := HN.out; omega)
  subst hgk
  obtain ⟨b, hb⟩ : ∃ b : Nat, x.kids[1]'(by have := HN.out; omega) = (b : Int) := ⟨_, (Int.toNat_of_nonneg (HX.out.1.kid 1 _ (List.getElem?_eq_getElem _)).1).symm⟩
  have hke : x.kids[1]? = some (b : Int) := by rw [← hb]; exact List.getElem?_eq_getElem _
  rw [hb] at hkc
  have hkd : (x.kids[1]?.getD 0).toNat = b := by rw [hke]; rfl
  have hk1i : (1 : Int) < 2 := by omega
  have hwr : Wf P (.prt d b (ls ++ [kidT d ls x 0])) := by
    have h := HX.out.1.wf 1 _ hke [kidT d ls x 0] (by rw [show ((1 : Nat) : Int) = 1 from rfl, bd_six HN.out.2.2.2.1]; rfl) (fun l hl => by rw [List.mem_singleton] at hl; subst hl; exact HX.out.1.kidW (by omega) (bd_ne (by decide)))
    rw [Int.toNat_natCast] at h; exact h
  have hev := ev_6 (n := n) (f := f) HX.out.1 HN.out.2.2.2.1
  rw [hkd] at hev
  obtain ⟨bq, oq, cq2, u0, u1, u2, u3, u4, evq, hbqu, _, ⟨du0, du1, du2, du3, du4⟩, hthu⟩ := HC1.out.kv.pick (kidsT_at (d := d) (ls := ls) (x := x) (i := 0) (by have := HN.out; omega))
  obtain ⟨rfl, rfl⟩ : gq = some ⟨bq, oq, none⟩ ∧ cq = cq2 := by simp only [Value.slice.injEq] at evq; exact ⟨evq.1, evq.2.2⟩
  simp only [Nat.zero_mul, Nat.add_zero] at du0 du1 du2 du3 du4
  clear evq
  have HUU := hid (And.intro hthu hbqu)
  have hcat : ∀ V, Below w1.heap.size w1 V → V = w1 → RGr (orR A (W.heap.size + 1)) V.heap.size (V.alloc (Obj.cells #[] 69)) (.slice (some ⟨V.heap.size, 0, none⟩) 0 0) [] ∧ RLs (orO (orR A (W.heap.size + 1)) (.slice (some ⟨V.heap.size, 0, none⟩) 0 0)) (V.alloc (Obj.cells #[] 69)) (.slice gl ml cl) ls := by
    rintro V hV rfl
    have h1 := RGr.none (orR A (W.heap.size + 1)) V.heap.size V (Nat.le_refl _)
    exact ⟨h1, RLs.by h1 HC1.out.lv ((Below.refl _ _).alloc (Nat.le_refl _) _) rfl⟩
  have HCAT := hid (hcat w1 (Below.refl _ _) rfl)
  have tlE := HC1.out.tb.lt
  have tcE : w1.cell? ⟨W.heap.size, 4, none⟩ = some (.slice gl ml cl) := HC1.out.tb.cell 4 _ rfl
  clear hcat
  go_wp2_with (at_builtin; refine wpList_cat5 (A := orR A (W.heap.size + 1)) rfl _ _ rfl w1.heap.size (.slice (some ⟨w1.heap.size, 0, none⟩) 0 0) (.slice gl ml cl) [] ls rfl rfl HCAT.out.1 HCAT.out.2 (by simp) (by have h1 := HX.out.1.le; simp only [List.length_nil]; omega) ?_)
  intro ga ca wa hGa hBa
  have HBa : Hid (Below w1.heap.size w1 wa) := Below.trans ((Below.refl _ _).alloc (Nat.le_refl _) _) hBa
  have hGa' : RGr (orR A (W.heap.size + 1)) w1.heap.size wa (.slice ga ml ca) ls := by
    have h := hGa
    rw [HN.out.2.2.2.2.2] at h
    exact h
  have HGa := hid hGa'
  have hlm : ls.length = ml := HN.out.2.2.2.2.2
  simp only [hlm]
  clear hGa hBa hGa' hlm HCAT tlE tcE
  have cu0 := (HBa.out.cell (p := ⟨bq, oq, none⟩) HUU.out.2).trans du0
  have cu1 := (HBa.out.cell (p := ⟨bq, oq + 1, none⟩) HUU.out.2).trans du1
  have cu2 := (HBa.out.cell (p := ⟨bq, oq + 2, none⟩) HUU.out.2).trans du2
  have cu3 := (HBa.out.cell (p := ⟨bq, oq + 3, none⟩) HUU.out.2).trans du3
  have cu4 := (HBa.out.cell (p := ⟨bq, oq + 4, none⟩) HUU.out.2).trans du4
  have x0a : wa.cell? ⟨X, 0, none⟩ = some (.int .i64 6) := (HC1.out.next HBa.out).xb.cell 0 _ rfl
  have hXa := (HC1.out.next HBa.out).xb.lt
  have hbqa : bq < wa.heap.size := Nat.lt_of_lt_of_le HUU.out.2 HBa.out.size
  have hls8 := HX.out.1.le
  go_wp2_with (at_builtin; refine wpList_put5 (A := orR A (W.heap.size + 1)) rfl _ _ rfl w1.heap.size (.slice ga ml ca) #[u0, u1, u2, u3, u4] [u0, u1, u2, u3, u4] rfl ls (kidT d ls x 0) rfl HGa.out (RTh.by HGa.out HUU.out.1 HBa.out rfl) HBa.out.size (by omega) _ rfl rfl ?_)
  intro gb cb wb hGb hBb
  have HLOW : Hid (Below W0.heap.size W0 wb) := (HRS1.out.low.trans (HBa.out.mono HRS1.out.low.size)).trans (hBb.mono HRS1.out.low.size)
  have HC4 := hid (HC1.out.next (HBa.out.trans hBb))
  have HRS4 : Hid (Rs W0 (some ⟨pb, po, none⟩) P cp z wb f) := HRS1.out.next (HBa.out.trans hBb)
  have HLS : Hid (RLs (orR A (W.heap.size + 1)) wb (.slice gb (ml + 1) cb) (ls ++ [kidT d ls x 0])) := by
    have h := hGb
    rw [HN.out.2.2.2.2.2] at h
    refine h.ls ?_
    rintro k (hk | hk)
    · exact Nat.lt_of_lt_of_le (HA.out.2.1 k hk) HC1.out.kp.size
    · rw [hk]; exact HC1.out.rb.lt
  have hlm : ls.length = ml := HN.out.2.2.2.2.2
  simp only [hlm]
  obtain ⟨⟨o6, f6⟩, hr6⟩ : ∃ r, r0 = r := ⟨_, rfl⟩
  obtain ⟨k6, hk6'⟩ : ∃ k6, ocK o6 = k6 := ⟨_, rfl⟩
  obtain ⟨n6, hn6⟩ : ∃ n6, ocN o6 = n6 := ⟨_, rfl⟩
  obtain ⟨m6, hm6⟩ : ∃ m6, (ocP o6).length = m6 := ⟨_, rfl⟩
  obtain ⟨e6, he6⟩ : ∃ e6, erO o6 = e6 := ⟨_, rfl⟩
  have H6 : Hid (ocK o6 = k6 ∧ ocN o6 = n6 ∧ (ocP o6).length = m6 ∧ erO o6 = e6) := ⟨hk6', hn6, hm6, he6⟩
  have HR6 : Hid (r0 = (o6, f6)) := hr6
  clear hk6' hn6 hm6 he6 hr6
  have hA1 : ∀ k, orR A (W.heap.size + 1) k → k < wb.heap.size := by
    rintro k (hk | hk)
    · exact Nat.lt_of_lt_of_le (HA.out.2.1 k hk) HC4.out.kp.size
    · rw [hk]; exact HC4.out.rb.lt
  have heo : ∀ V, Below wb.heap.size wb V → Calls Tryz.prog 19 #[.pointer (some ⟨z, 0, none⟩), .agg #[.bool false, .string ⟨#[]⟩, .int .i64 (d : Int), .int .i64 (b : Int), .slice gb (ml + 1) cb]] V fun e W' => RvQ (some ⟨pb, po, none⟩) P cp z (orR A (W.heap.size + 1)) V (o6, f6) e W' := by
    intro V hV
    have h := HEv.out f (orR A (W.heap.size + 1)) V _ _ HA.out.2.2 (HRS4.out.next hV) (Or.inl HA.out.1) (fun k hk => Nat.lt_of_lt_of_le (hA1 k hk) hV.size) hwr ((HLS.out.kp (Ka.of_below hV)).prt d b)
    rw [← hev, HR0.out, HR6.out] at h
    exact h
  have hkz : kb ≠ z := by have h1 := hkb0; have h2 := HRS1.out.z0; omega
  have hlr1 : W.heap.size ≠ W.heap.size + 1 ∧ W.heap.size < wb.heap.size ∧ wb.cell? ⟨W.heap.size, 2, none⟩ = some (.int .i64 (d : Int)) := ⟨by omega, HC4.out.tb.lt, HC4.out.tb.cell 2 _ rfl⟩
  have hlr2 : X ≠ W.heap.size + 1 ∧ X < wb.heap.size ∧ wb.cell? ⟨X, 3, none⟩ = some (.slice (some ⟨kb, ko, none⟩) 2 ck) := ⟨by omega, HC4.out.xb.lt, HC4.out.xb.cell 3 _ rfl⟩
  have hlr3 : kb ≠ W.heap.size + 1 ∧ kb < wb.heap.size ∧ wb.cell? ⟨kb, ko + 1, none⟩ = some (.int .i64 (b : Int)) := ⟨by have h1 := hkb0; have h2 := HRS1.out.z0; have h3 := HZW.out.1; omega, Nat.lt_of_lt_of_le hkb0 HLOW.out.size, (HLOW.out.cell (p := ⟨kb, ko + 1, none⟩) hkb0).trans hkc⟩
  have hs1 : ∀ w' : World, Ka (Zz z) wb w' → Bx 63 w' z (nmC (some ⟨pb, po, none⟩) P.length cp (f6 : Int) e6) → w'.cell? ⟨W.heap.size, 2, none⟩ = some (.int .i64 (d : Int)) := fun w' hk hb => (hk.cell hlr1.2.1 (fun e => by have e' : W.heap.size = z := e; have := HZW.out; omega)).trans hlr1.2.2
  have hs2 : ∀ w' : World, Ka (Zz z) wb w' → Bx 63 w' z (nmC (some ⟨pb, po, none⟩) P.length cp (f6 : Int) e6) → w'.cell? ⟨X, 3, none⟩ = some (.slice (some ⟨kb, ko, none⟩) 2 ck) := fun w' hk hb => (hk.cell hlr2.2.1 (fun e => by have e' : X = z := e; have := HZW.out; omega)).trans hlr2.2.2
  have hs3 : ∀ w' : World, Ka (Zz z) wb w' → Bx 63 w' z (nmC (some ⟨pb, po, none⟩) P.length cp (f6 : Int) e6) → w'.cell? ⟨kb, ko + 1, none⟩ = some (.int .i64 (b : Int)) := fun w' hk hb => (hk.cell hlr3.2.1 (fun e => hkz e)).trans hlr3.2.2
  clear hkz hA1 hGb hBb hlm hkb0 hkc hke hkd hb hwr hev t4 t2 x1 x2 x3 x0 du0 du1 du2 du3 du4 cu0 cu1 cu2 cu3 cu4 hbqu hthu x0a hXa hbqa rl
  have HLR : Hid (Lr (W.heap.size + 1) [(W.heap.size, 2, .int .i64 (d : Int)), (X, 3, .slice (some ⟨kb, ko, none⟩) 2 ck), (kb, ko + 1, .int .i64 (b : Int))] wb) := by
    refine ⟨fun q hq => ?_, _, _, _, HC4.out.rb⟩
    simp only [List.mem_cons, List.not_mem_nil, or_false] at hq
    rcases hq with rfl | rfl | rfl
    · exact hlr1
    · exact hlr2
    · exact hlr3
  have HEO : Hid (∀ V, Below wb.heap.size wb V → Calls Tryz.prog 19 #[.pointer (some ⟨z, 0, none⟩), .agg #[.bool false, .string ⟨#[]⟩, .int .i64 (d : Int), .int .i64 (b : Int), .slice gb (ml + 1) cb]] V fun e w' => ∃ g6 c6, e = .returned (hV k6 n6 (.slice g6 m6 c6)) ∧ RLs (orR A (W.heap.size + 1)) w' (.slice g6 m6 c6) (ocP o6) ∧ Bx 63 w' z (nmC (some ⟨pb, po, none⟩) P.length cp (f6 : Int) e6) ∧ Ka (Zz z) wb w' ∧ Lr (W.heap.size + 1) [(W.heap.size, 2, .int .i64 (d : Int)), (X, 3, .slice (some ⟨kb, ko, none⟩) 2 ck), (kb, ko + 1, .int .i64 (b : Int))] w') := by
    intro V hV
    refine (heo V hV).mono ?_
    rintro e w' ⟨g6, c6, rfl, hl6, hb6, hk6⟩
    simp only at hl6 hb6
    rw [H6.out.2.2.1] at hl6
    rw [H6.out.2.2.2] at hb6
    simp only [H6.out.1, H6.out.2.1, H6.out.2.2.1]
    have hk7 : Ka (Zz z) wb w' := (Ka.of_below hV).next hk6
    have hc7 := HC4.out.call HA.out.1 HZW.out.1 HZW.out.2 hk7
    refine ⟨g6, c6, rfl, hl6, hb6, hk7, fun q hq => ?_, _, _, _, hc7.rb⟩
    simp only [List.mem_cons, List.not_mem_nil, or_false] at hq
    rcases hq with rfl | rfl | rfl
    · exact ⟨hlr1.1, Nat.lt_of_lt_of_le hlr1.2.1 hk7.size, hs1 w' hk7 hb6⟩
    · exact ⟨hlr2.1, Nat.lt_of_lt_of_le hlr2.2.1 hk7.size, hs2 w' hk7 hb6⟩
    · exact ⟨hlr3.1, Nat.lt_of_lt_of_le hlr3.2.1 hk7.size, hs3 w' hk7 hb6⟩
  clear heo hlr1 hlr2 hlr3 hs1 hs2 hs3 r0' r1' r2' fz0 fz1 fz2
  obtain ⟨_, e1, e2, e3, e4, e5, e6', e7, e8, e9⟩ := HLR.out.all
  go_wp2_with fail
  go_region_held3 (fun V => Lr (W.heap.size + 1) [(W.heap.size, 2, .int .i64 (d : Int)), (X, 3, .slice (some ⟨kb, ko, none⟩) 2 ck), (kb, ko + 1, .int .i64 (b : Int))] V ∧ V.cell? ⟨W.heap.size, 2, none⟩ = some (.int .i64 (d : Int)) ∧ V.cell? ⟨X, 3, none⟩ = some (.slice (some ⟨kb, ko, none⟩) 2 ck) ∧ V.cell? ⟨kb, ko + 1, none⟩ = some (.int .i64 (b : Int))
      ∧ V.cell? ⟨W.heap.size + 1, 0, none⟩ = some (cel V ⟨W.heap.size + 1, 0, none⟩) ∧ V.cell? ⟨W.heap.size + 1, 1, none⟩ = some (cel V ⟨W.heap.size + 1, 1, none⟩) ∧ V.cell? ⟨W.heap.size + 1, 2, none⟩ = some (cel V ⟨W.heap.size + 1, 2, none⟩) ∧ V.frozen? ⟨W.heap.size + 1, 0, none⟩ = false ∧ V.frozen? ⟨W.heap.size + 1, 1, none⟩ = false ∧ V.frozen? ⟨W.heap.size + 1, 2, none⟩ = false)
    (exact Lr.all (by repeat (first | exact HL3.out | exact HLR.out | (with_reducible refine Lr.set0 ?_ _) | (with_reducible refine Lr.set1 ?_ _) | (with_reducible refine Lr.set2 ?_ _) | (with_reducible refine Lr.alloc ?_ _) | (with_reducible refine Lr.drew ?_))))
    ((go_at_call 19; refine (HEO.out _ (Below.refl _ _).drew).mono ?_; rintro e w6 ⟨g6, c6, rfl, hl6, hb6, hk6, hlr6⟩; have HL3 : Hid (Lr (W.heap.size + 1) [(W.heap.size, 2, .int .i64 (d : Int)), (X, 3, .slice (some ⟨kb, ko, none⟩) 2 ck), (kb, ko + 1, .int .i64 (b : Int))] w6) := hlr6; have HL6 := hid hl6; have HB6 := hid hb6; have HC6 := hid (HC4.out.call HA.out.1 HZW.out.1 HZW.out.2 hk6); clear hl6 hb6 hk6 hlr6))
  all_goals
    refine grabE (fun W9 => Bx 66 W9 (W.heap.size + 1) #[.int .i64 k6, .int .i64 n6, .slice g6 m6 c6] ∧ Bx 63 W9 z (nmC (some ⟨pb, po, none⟩) P.length cp (f6 : Int) e6) ∧ Ka (Zz z) W W9 ∧ RLs A W9 (.slice g6 m6 c6) (ocP o6)) (Rc.fin HC6.out HZW.out.1 HB6.out HL6.out _ _ _) (fun W9 h9 => ?_)
    clear e1 e2 e3 e4 e5 e6' e7 e8 e9
    obtain ⟨ql, ⟨q0, q1, q2⟩, _⟩ := celsR h9.1
    go_wp2_with fail
    refine bodyPost_ret (v := hV k6 n6 (.slice g6 m6 c6)) (by simp [results, Tryz.results19, go_sem, q0, q1, q2]) rfl ?_
    exact RvQ.mk (o := o6) (f := f6) (by rw [← HR0.out]; rw [HR0.out]; exact HR6.out.symm) H6.out.1 H6.out.2.1 H6.out.2.2.1 H6.out.2.2.2 h9.2
end Go.Proofs.YtjamknejllbmkaaGreatDoor

namespace Go.Proofs.YtjamknejllbmkaaGreatDoor
open Go.RowKit
set_option linter.unusedVariables false
attribute [local go_sem ↓] Go.wp_at_zero Go.wp_at_succ

set_option maxHeartbeats 8000000 in
set_option maxRecDepth 100000 in
theorem rv_case {W0 : World} {gp : Option Addr} {P : List Df} {cp z n : Nat} (hEv : RvSaid W0 gp P cp z n) (f : Nat) (A : Nat → Prop) (W : World) (d a : Nat) (ls : List Th) (x : Ex) (gl : Option Addr) (cl : Nat) (hf : f ≤ n) (hfb : f ≤ 100000) (hs : Rs W0 gp P cp z W (f + 1)) (hz : A z) (hA : ∀ k, A k → k < W.heap.size)
    (hx : Pd1 P d a ls x) (hwf : Wf P (.prt d a ls)) (hl : RLs A W (.slice gl ls.length cl) ls) (hk : x.kind = 5) :
    Calls Tryz.prog 19 #[.pointer (some ⟨z, 0, none⟩), thV d a (.slice gl ls.length cl)] W fun e W' => RvQ gp P cp z A W (ev P (n + 1) (f + 1) (.prt d a ls)) e W' := by
  have HX : Hid (Pd1 P d a ls x ∧ pmay P = true ∧ Wf P (.prt d a ls)) := ⟨hx, hs.prg.may, hwf⟩
  have HS := hid hs
  have HA : Hid (A z ∧ (∀ k, A k → k < W.heap.size) ∧ f ≤ n) := ⟨hz, hA, hf⟩
  have HL := hid hl
  obtain ⟨df, hdf, hbx, hb24, hab⟩ := hx.df
  obtain ⟨pb, po, bg, bc, hgp, hpb0, pc1, _, hbd⟩ := hs.prg.body (Below.refl _ _) hdf
  have hpb : pb < W.heap.size := Nat.lt_of_lt_of_le hpb0 hs.low.size
  have pc1 := (hs.low.cell (p := ⟨pb, po + d * 2 + 1, none⟩) hpb0).trans pc1
  obtain ⟨bk, o, nb, cb, gk, ck, ebv, han, hbk0, _, hx0, hx1, hx2, hx3, hx4⟩ := hbd.part (Below.refl _ _) hx.body
  have hbk : bk < W.heap.size := Nat.lt_of_lt_of_le hbk0 hs.low.size
  have hx0 := (hs.low.cell (p := ⟨bk, o + a * 4, none⟩) hbk0).trans hx0
  have hx1 := (hs.low.cell (p := ⟨bk, o + a * 4 + 1, none⟩) hbk0).trans hx1
  have hx2 := (hs.low.cell (p := ⟨bk, o + a * 4 + 2, none⟩) hbk0).trans hx2
  have hx3 := (hs.low.cell (p := ⟨bk, o + a * 4 + 3, none⟩) hbk0).trans hx3
  rw [ebv] at pc1
  have hdl : d < P.length := (List.getElem?_eq_some_iff.1 hdf).1
  have hd0 : (0 : Int) ≤ (d : Int) := by omega
  have hdl' : (d : Int) < (P.length : Int) := by omega
  have han' : (a : Int) < (nb : Int) := by omega
  have ha0 : (0 : Int) ≤ (a : Int) := by omega
  have hzz := hs.lt
  have hzb : bk ≠ z := by have := hs.z0; omega
  have hzp : pb ≠ z := by have := hs.z0; omega
  have z1 : W.cell? ⟨z, 1, none⟩ = some (.int .i64 ((f : Int) + 1)) := hs.box.cell 1 _ (by show some (Value.int .i64 ((f + 1 : Nat) : Int)) = _; rw [show ((f + 1 : Nat) : Int) = (f : Int) + 1 by omega])
  have zf := hs.box.frozen 1
  have f0' : ((f : Int) + 1 == 0) = false := by simp; omega
  have fb : (f : Int) ≤ 100000 := by omega
  have fb0 : (0 : Int) ≤ (f : Int) := by omega
  obtain ⟨nm, hnm⟩ : ∃ nm, x.num = nm := ⟨_, rfl⟩
  obtain ⟨bn, hbn⟩ : ∃ bn, x.bind = bn := ⟨_, rfl⟩
  obtain ⟨nk, hnk⟩ : ∃ nk, x.kids.length = nk := ⟨_, rfl⟩
  obtain ⟨pn, hpn⟩ : ∃ pn, P.length = pn := ⟨_, rfl⟩
  obtain ⟨ml, hml⟩ : ∃ ml, ls.length = ml := ⟨_, rfl⟩
  rw [hk] at hx0
  rw [hnm] at hx1
  rw [hbn] at hx2
  rw [hnk] at hx3
  rw [hpn] at hdl'
  obtain ⟨r0, hr0⟩ : ∃ r, ev P (n + 1) (f + 1) (.prt d a ls) = r := ⟨_, rfl⟩
  rw [hr0, hml]
  have HN : Hid (x.num = nm ∧ x.bind = bn ∧ x.kids.length = nk ∧ x.kind = 5 ∧ P.length = pn ∧ ls.length = ml) := ⟨hnm, hbn, hnk, hk, hpn, hml⟩
  have HR0 := hid hr0
  have HEv := hid hEv
  have HX4 : Hid (Nums W0 gk x.kids) := hx4
  have HGP := hid hgp
  subst hgp
  have hnk3 : nk ≤ 3 := by have h := hx.ok; unfold Ex.ok okE at h; rw [hk, hnk] at h; simp at h; omega
  clear hx hs hz hA hf hbd hl hk hnm hbn hnk hr0 hEv hwf hx4 hfb hdf hbx hb24 hab hpb0 ebv hbk0 hdl hpn hml
  go_enter Tryz.func19, Tryz.ntmps19
  go_wp2_with fail
  have HUF := u_facts HS.out #[.bool false, .string ⟨#[]⟩, .int .i64 (d : Int), .int .i64 (a : Int), .slice gl ml cl] #[.int .i64 0, .int .i64 0, .slice none 0 0]
  refine grabW (fun U => Hid (Ka (Zz z) W U) ∧ Hid (Rs W0 (some ⟨pb, po, none⟩) P cp z U f) ∧ Hid (Bx 69 U W.heap.size #[.bool false, .string ⟨#[]⟩, .int .i64 (d : Int), .int .i64 (a : Int), .slice gl ml cl]) ∧ Hid (Bx 66 U (W.heap.size + 1) #[.int .i64 0, .int .i64 0, .slice none 0 0])) HUF (fun U hU => ?_)
  obtain ⟨HK, HRS, HT, HR⟩ := hU
  clear HUF z1 zf f0' fb fb0
  have hall : ∀ V : World, Below U.heap.size U V → Below U.heap.size U V ∧ V.cell? ⟨z, 0, none⟩ = some (.slice (some ⟨pb, po, none⟩) pn cp) ∧ V.cell? ⟨pb, po + d * 2 + 1, none⟩ = some (.slice (some ⟨bk, o, none⟩) nb cb) ∧ V.cell? ⟨bk, o + a * 4, none⟩ = some (.int .i64 5) ∧ V.cell? ⟨bk, o + a * 4 + 1, none⟩ = some (.int .i64 nm) ∧ V.cell? ⟨bk, o + a * 4 + 2, none⟩ = some (.int .i64 bn) ∧ V.cell? ⟨bk, o + a * 4 + 3, none⟩ = some (.slice gk nk ck)
      ∧ V.cell? ⟨W.heap.size, 2, none⟩ = some (.int .i64 (d : Int)) ∧ V.cell? ⟨W.heap.size, 3, none⟩ = some (.int .i64 (a : Int)) := by
    intro V h
    have hbkU : bk < U.heap.size := Nat.lt_of_lt_of_le hbk HK.out.size
    have hpbU : pb < U.heap.size := Nat.lt_of_lt_of_le hpb HK.out.size
    have k0 : U.cell? ⟨z, 0, none⟩ = some (.slice (some ⟨pb, po, none⟩) pn cp) := by have h := HRS.out.box.cell 0 _ rfl; rw [← HN.out.2.2.2.2.1]; exact h
    exact ⟨h, (h.cell (p := ⟨z, 0, none⟩) HRS.out.lt).trans k0, (h.cell (p := ⟨pb, po + d * 2 + 1, none⟩) hpbU).trans ((HK.out.cell hpb hzp).trans pc1), (h.cell (p := ⟨bk, o + a * 4, none⟩) hbkU).trans ((HK.out.cell hbk hzb).trans hx0), (h.cell (p := ⟨bk, o + a * 4 + 1, none⟩) hbkU).trans ((HK.out.cell hbk hzb).trans hx1),
      (h.cell (p := ⟨bk, o + a * 4 + 2, none⟩) hbkU).trans ((HK.out.cell hbk hzb).trans hx2), (h.cell (p := ⟨bk, o + a * 4 + 3, none⟩) hbkU).trans ((HK.out.cell hbk hzb).trans hx3), (h.cell (p := ⟨W.heap.size, 2, none⟩) HT.out.lt).trans (HT.out.cell 2 _ rfl), (h.cell (p := ⟨W.heap.size, 3, none⟩) HT.out.lt).trans (HT.out.cell 3 _ rfl)⟩
  have HALL := hid hall
  have HBU : Hid (Below U.heap.size U U) := Below.refl _ _
  clear hall pc1 hx0 hx1 hx2 hx3
  obtain ⟨_, e0, e1, e2, e3, e4, e5, e6, e7⟩ := HALL.out U HBU.out
  go_region_held3 (fun V => Below U.heap.size U V ∧ V.cell? ⟨z, 0, none⟩ = some (.slice (some ⟨pb, po, none⟩) pn cp) ∧ V.cell? ⟨pb, po + d * 2 + 1, none⟩ = some (.slice (some ⟨bk, o, none⟩) nb cb) ∧ V.cell? ⟨bk, o + a * 4, none⟩ = some (.int .i64 5) ∧ V.cell? ⟨bk, o + a * 4 + 1, none⟩ = some (.int .i64 nm) ∧ V.cell? ⟨bk, o + a * 4 + 2, none⟩ = some (.int .i64 bn) ∧ V.cell? ⟨bk, o + a * 4 + 3, none⟩ = some (.slice gk nk ck)
      ∧ V.cell? ⟨W.heap.size, 2, none⟩ = some (.int .i64 (d : Int)) ∧ V.cell? ⟨W.heap.size, 3, none⟩ = some (.int .i64 (a : Int)))
    (exact HALL.out _ (by repeat (first | exact HBU.out | (with_reducible refine Below.drew ?_) | (with_reducible refine Below.alloc ?_ (Nat.le_refl _) _)))) (fail)
  clear e0 e1 e2 e3 e4 e5 e6 e7 HALL HBU
  obtain ⟨X, hX⟩ : ∃ X, U.heap.size = X := ⟨_, rfl⟩
  have hWX : W.heap.size + 1 < X := by have := HR.out.lt; omega
  refine grabE (fun V => Hid (Below U.heap.size U V) ∧ Hid (Bx 55 V X #[.int .i64 5, .int .i64 nm, .int .i64 bn, .slice gk nk ck])) ⟨((Below.refl _ U).alloc (Nat.le_refl _) _).drew, by rw [← hX]; exact Bx.newd 55 U _⟩ (fun V hV => ?_)
  obtain ⟨HUV, HXB⟩ := hV
  have HRV : Hid (Rs W0 (some ⟨pb, po, none⟩) P cp z V f) := HRS.out.next HUV.out
  have HKV : Hid (Ka (Zz z) W V) := HK.out.next (Ka.of_below HUV.out)
  have HTV : Hid (Bx 69 V W.heap.size #[.bool false, .string ⟨#[]⟩, .int .i64 (d : Int), .int .i64 (a : Int), .slice gl ml cl]) := HT.out.next HUV.out
  have HRBV : Hid (Bx 66 V (W.heap.size + 1) #[.int .i64 0, .int .i64 0, .slice none 0 0]) := HR.out.next HUV.out
  have HZW : Hid (z < W.heap.size ∧ W.heap.size < X) := ⟨hzz, by omega⟩
  have HLV : Hid (RLs (orR A (W.heap.size + 1)) V (.slice gl ml cl) ls) := by
    have h := HL.out
    rw [HN.out.2.2.2.2.2] at h
    refine (h.avoid (B := orR A (W.heap.size + 1)) ?_).kp (HKV.out.mono fun k _ e => by have e' : k = z := e; subst e'; exact Or.inl HA.out.1)
    rintro k (hk | hk)
    · exact Or.inl hk
    · right; omega
  have HKD : Hid (Calls Tryz.prog 35 #[thV d a (.slice gl ml cl), .slice gk nk ck] V fun e w' => ∃ g c, e = .returned (.slice g nk c) ∧ RLs (orR A (W.heap.size + 1)) w' (.slice g nk c) (kidsT d ls x) ∧ Below V.heap.size V w') := by
    have h := rkids_at (A := orR A (W.heap.size + 1)) (W := V) d a gl cl ls x.kids gk ck (by
      rintro k (hk | hk)
      · exact Nat.lt_of_lt_of_le (HA.out.2.1 k hk) HKV.out.size
      · rw [hk]; exact HRBV.out.lt) (by rw [HN.out.2.2.2.2.2]; exact HLV.out) (HX4.out.on HRV.out.low) (fun k hk => by
        obtain ⟨i, hi⟩ := List.getElem?_of_mem hk
        exact (HX.out.1.kid i k hi).1) (by rw [HN.out.2.2.1]; exact hnk3)
    rw [HN.out.2.2.1, HN.out.2.2.2.2.2] at h
    exact h
  have t0 : V.cell? ⟨W.heap.size, 0, none⟩ = some (.bool false) := HTV.out.cell 0 _ rfl
  have t1 : V.cell? ⟨W.heap.size, 1, none⟩ = some (.string ⟨#[]⟩) := HTV.out.cell 1 _ rfl
  have t2 : V.cell? ⟨W.heap.size, 2, none⟩ = some (.int .i64 (d : Int)) := HTV.out.cell 2 _ rfl
  have t3 : V.cell? ⟨W.heap.size, 3, none⟩ = some (.int .i64 (a : Int)) := HTV.out.cell 3 _ rfl
  have t4 : V.cell? ⟨W.heap.size, 4, none⟩ = some (.slice gl ml cl) := HTV.out.cell 4 _ rfl
  have x3 : V.cell? ⟨X, 3, none⟩ = some (.slice gk nk ck) := HXB.out.cell 3 _ rfl
  rw [hX]
  clear HK HRS HT HR HUV hX hbk hpb hzb hzp
  go_wp2_with fail
  refine HKD.out.mono ?_
  rintro e w1 ⟨gq, cq, rfl, hkv, hb1⟩
  have HC1 : Hid (Rc z A W #[.bool false, .string ⟨#[]⟩, .int .i64 (d : Int), .int .i64 (a : Int), .slice gl ml cl] #[.int .i64 5, .int .i64 nm, .int .i64 bn, .slice gk nk ck] X (.slice gl ml cl) ls (.slice gq nk cq) (kidsT d ls x) w1) := ⟨HKV.out.next (Ka.of_below hb1), HTV.out.next hb1, HRBV.out.next hb1, HXB.out.next hb1, HLV.out.kp (Ka.of_below hb1), hkv⟩
  have HRS1 : Hid (Rs W0 (some ⟨pb, po, none⟩) P cp z w1 f) := HRV.out.next hb1
  have t4 : w1.cell? ⟨W.heap.size, 4, none⟩ = some (.slice gl ml cl) := HC1.out.tb.cell 4 _ rfl
  have t2 : w1.cell? ⟨W.heap.size, 2, none⟩ = some (.int .i64 (d : Int)) := HC1.out.tb.cell 2 _ rfl
  have x0 : w1.cell? ⟨X, 0, none⟩ = some (.int .i64 5) := HC1.out.xb.cell 0 _ rfl
  have x1 : w1.cell? ⟨X, 1, none⟩ = some (.int .i64 nm) := HC1.out.xb.cell 1 _ rfl
  have x2 : w1.cell? ⟨X, 2, none⟩ = some (.int .i64 bn) := HC1.out.xb.cell 2 _ rfl
  have x3 : w1.cell? ⟨X, 3, none⟩ = some (.slice gk nk ck) := HC1.out.xb.cell 3 _ rfl
  obtain ⟨rl, ⟨r0', r1', r2'⟩, fz0, fz1, fz2⟩ := celsR HC1.out.rb
  clear t0 t1 t3 hkv hb1 HKD HKV HTV HRBV HXB HLV HRV
  have hkl : x.kids.length = 3 := by have := ok_kind HX.out.1.ok; have := HN.out; omega
  obtain rfl : nk = 3 := by have := HN.out.2.2.1; omega
  have HW0 : Hid (Wf P (kidT d ls x 0) ∧ Wf P (kidT d ls x 2)) := ⟨HX.out.1.kidW (by omega) (bd_ne (by decide)), HX.out.1.kidW (by omega) (bd_ne (by decide))⟩
  obtain ⟨bq, oq, cq2, u0, u1, u2, u3, u4, evq, hbqu, _, ⟨du0, du1, du2, du3, du4⟩, hthu⟩ := HC1.out.kv.pick (kidsT_at (d := d) (ls := ls) (x := x) (i := 0) (by have := HN.out; omega))
  obtain ⟨rfl, rfl⟩ : gq = some ⟨bq, oq, none⟩ ∧ cq = cq2 := by simp only [Value.slice.injEq] at evq; exact ⟨evq.1, evq.2.2⟩
  simp only [Nat.zero_mul, Nat.add_zero] at du0 du1 du2 du3 du4
  clear evq
  have HCALL : Hid (Calls Tryz.prog 19 #[.pointer (some ⟨z, 0, none⟩), .agg #[u0, u1, u2, u3, u4]] w1 fun e W' => RvQ (some ⟨pb, po, none⟩) P cp z (orR A (W.heap.size + 1)) w1 (ev P n f (kidT d ls x 0)) e W') :=
    HEv.out f (orR A (W.heap.size + 1)) w1 [u0, u1, u2, u3, u4] _ HA.out.2.2 HRS1.out (Or.inl HA.out.1) (by
      rintro k (hk | hk)
      · exact Nat.lt_of_lt_of_le (HA.out.2.1 k hk) HC1.out.kp.size
      · rw [hk]; exact HC1.out.rb.lt) HW0.out.1 hthu
  obtain ⟨⟨o1, f1⟩, hr1⟩ : ∃ r, ev P n f (kidT d ls x 0) = r := ⟨_, rfl⟩
  have HR1 := hid hr1
  have hwf1 := ev_wf HX.out.2.1 n f (kidT d ls x 0) HW0.out.1
  rw [hr1] at HCALL hwf1
  have hf1 : f1 ≤ n := by have h1 := hwf1.2; have h2 := HA.out.2.2; first | omega | (simp only at h1; omega)
  clear hr1 hthu
  go_wp2_with fail
  refine HCALL.out.mono ?_
  rintro e w2 ⟨g1, c1, rfl, hl1, hb1, hk1⟩
  have HC2 := hid (HC1.out.call HA.out.1 HZW.out.1 HZW.out.2 hk1)
  have HBX2 := hid hb1
  have HK1 := hid hk1
  have HL1 := hid hl1
  have z2 := hb1.cell 2 _ rfl
  have hz2 := hb1.lt
  have x1 : w2.cell? ⟨X, 1, none⟩ = some (.int .i64 nm) := HC2.out.xb.cell 1 _ rfl
  have x2 : w2.cell? ⟨X, 2, none⟩ = some (.int .i64 bn) := HC2.out.xb.cell 2 _ rfl
  have hX2 := HC2.out.xb.lt
  have hA2 : ∀ k, orR A (W.heap.size + 1) k → k < w2.heap.size := by
    rintro k (hk | hk)
    · exact Nat.lt_of_lt_of_le (HA.out.2.1 k hk) HC2.out.kp.size
    · rw [hk]; exact HC2.out.rb.lt
  clear rl r0' r1' r2' fz0 fz1 fz2
  obtain ⟨rl, ⟨r0', r1', r2'⟩, fz0, fz1, fz2⟩ := celsR HC2.out.rb
  clear hl1 hb1 hk1 HCALL t4 t2 x0 x3 du0 du1 du2 du3 du4 hbqu
  cases o1 with
  | fuel =>
    go_wp2_with fail
    refine grabK (fun V => Hid (Below w2.heap.size w2 V)) (((Below.refl _ _).alloc (Nat.le_refl _) _)) (fun V8 hV8 => ?_)
    refine (rfail_any V8).mono ?_
    rintro e9 w9 ⟨rfl, hw9⟩
    have hb9 : Below w2.heap.size w2 w9 := hV8.out.trans (Below.mono (by rw [hw9]; exact (Below.refl _ _).alloc (Nat.le_refl _) _) hV8.out.size)
    have HC9 := hid (HC2.out.next hb9)
    have HB9 := hid (HBX2.out.next hb9)
    obtain ⟨rl9, ⟨r90, r91, r92⟩, g90, g91, g92⟩ := celsR HC9.out.rb
    clear hw9 hb9 hV8
    go_wp2_with fail
    refine grabPost (fun W9 => Bx 66 W9 (W.heap.size + 1) #[.int .i64 3, .int .i64 0, .slice none 0 0] ∧ Bx 63 W9 z (nmC (some ⟨pb, po, none⟩) P.length cp (f1 : Int) 901) ∧ Ka (Zz z) W W9 ∧ RLs A W9 (.slice none 0 0) []) (Rc.fin HC9.out HZW.out.1 HB9.out (RLs.nil _ _) _ _ _) (fun W9 h9 => ?_)
    obtain ⟨ql, ⟨q0, q1, q2⟩, _⟩ := celsR h9.1
    refine bodyPost_ret (v := hV 3 0 (.slice none 0 0)) (by simp [results, Tryz.results19, go_sem, q0, q1, q2]) rfl ?_
    exact RvQ.mk (o := .fuel) (f := f1) (by rw [← HR0.out]; rw [ev_5r HX.out.1 HN.out.2.2.2.1, HR1.out]) rfl rfl rfl rfl h9.2
  | hole =>
    go_wp2_with fail
    refine grabK (fun V => Hid (Below w2.heap.size w2 V)) (((Below.refl _ _).alloc (Nat.le_refl _) _)) (fun V8 hV8 => ?_)
    refine (rfail_any V8).mono ?_
    rintro e9 w9 ⟨rfl, hw9⟩
    have hb9 : Below w2.heap.size w2 w9 := hV8.out.trans (Below.mono (by rw [hw9]; exact (Below.refl _ _).alloc (Nat.le_refl _) _) hV8.out.size)
    have HC9 := hid (HC2.out.next hb9)
    have HB9 := hid (HBX2.out.next hb9)
    obtain ⟨rl9, ⟨r90, r91, r92⟩, g90, g91, g92⟩ := celsR HC9.out.rb
    clear hw9 hb9 hV8
    go_wp2_with fail
    refine grabPost (fun W9 => Bx 66 W9 (W.heap.size + 1) #[.int .i64 3, .int .i64 0, .slice none 0 0] ∧ Bx 63 W9 z (nmC (some ⟨pb, po, none⟩) P.length cp (f1 : Int) 902) ∧ Ka (Zz z) W W9 ∧ RLs A W9 (.slice none 0 0) []) (Rc.fin HC9.out HZW.out.1 HB9.out (RLs.nil _ _) _ _ _) (fun W9 h9 => ?_)
    obtain ⟨ql, ⟨q0, q1, q2⟩, _⟩ := celsR h9.1
    refine bodyPost_ret (v := hV 3 0 (.slice none 0 0)) (by simp [results, Tryz.results19, go_sem, q0, q1, q2]) rfl ?_
    exact RvQ.mk (o := .hole) (f := f1) (by rw [← HR0.out]; rw [ev_5r HX.out.1 HN.out.2.2.2.1, HR1.out]) rfl rfl rfl rfl h9.2
  | fail =>
    have z2 : w2.cell? ⟨z, 2, none⟩ = some (.int .i64 0) := HBX2.out.cell 2 _ rfl
    go_wp2_with fail
    refine grabK (fun V => Hid (Below w2.heap.size w2 V)) (((Below.refl _ _).alloc (Nat.le_refl _) _)) (fun V8 hV8 => ?_)
    refine (rfail_any V8).mono ?_
    rintro e9 w9 ⟨rfl, hw9⟩
    have hb9 : Below w2.heap.size w2 w9 := hV8.out.trans (Below.mono (by rw [hw9]; exact (Below.refl _ _).alloc (Nat.le_refl _) _) hV8.out.size)
    have HC9 := hid (HC2.out.next hb9)
    have HB9 := hid (HBX2.out.next hb9)
    obtain ⟨rl9, ⟨r90, r91, r92⟩, g90, g91, g92⟩ := celsR HC9.out.rb
    clear hw9 hb9 hV8
    go_wp2_with fail
    refine grabPost (fun W9 => Bx 66 W9 (W.heap.size + 1) #[.int .i64 3, .int .i64 0, .slice none 0 0] ∧ Bx 63 W9 z (nmC (some ⟨pb, po, none⟩) P.length cp (f1 : Int) 0) ∧ Ka (Zz z) W W9 ∧ RLs A W9 (.slice none 0 0) []) (Rc.fin HC9.out HZW.out.1 HB9.out (RLs.nil _ _) _ _ _) (fun W9 h9 => ?_)
    obtain ⟨ql, ⟨q0, q1, q2⟩, _⟩ := celsR h9.1
    refine bodyPost_ret (v := hV 3 0 (.slice none 0 0)) (by simp [results, Tryz.results19, go_sem, q0, q1, q2]) rfl ?_
    exact RvQ.mk (o := .fail) (f := f1) (by rw [← HR0.out]; rw [ev_5r HX.out.1 HN.out.2.2.2.1, HR1.out]) rfl rfl rfl rfl h9.2
  | num m =>
    dsimp only [ocK, ocN, ocP, List.length_nil]
    have z2 : w2.cell? ⟨z, 2, none⟩ = some (.int .i64 0) := HBX2.out.cell 2 _ rfl
    have HRS2 : Hid (Rs W0 (some ⟨pb, po, none⟩) P cp z w2 f1) := HRS1.out.kp HK1.out HBX2.out
    obtain ⟨bqv, oqv, cqv, v0, v1, v2, v3, v4, evq, hbqv, _, ⟨dv0, dv1, dv2, dv3, dv4⟩, hthv⟩ := HC2.out.kv.pick (kidsT_at (d := d) (ls := ls) (x := x) (i := 2) (by have := HN.out; omega))
    obtain ⟨rfl, rfl⟩ : bq = bqv ∧ oq = oqv := by injection evq with h1; injection h1 with h1; injection h1 with h1 h2; exact ⟨h1, h2⟩
    simp only [Nat.reduceMul] at dv0 dv1 dv2 dv3 dv4
    clear evq
    have HCALL : Hid (∀ V, Below w2.heap.size w2 V → Calls Tryz.prog 19 #[.pointer (some ⟨z, 0, none⟩), .agg #[v0, v1, v2, v3, v4]] V fun e W' => RvQ (some ⟨pb, po, none⟩) P cp z (orR A (W.heap.size + 1)) V (ev P n f1 (kidT d ls x 2)) e W') := fun V hV =>
      HEv.out f1 (orR A (W.heap.size + 1)) V [v0, v1, v2, v3, v4] _ hf1 (HRS2.out.next hV) (Or.inl HA.out.1) (fun k hk => Nat.lt_of_lt_of_le (hA2 k hk) hV.size) HW0.out.2 (hthv.kp (Ka.of_below hV))
    obtain ⟨⟨o6, f6⟩, hr6⟩ : ∃ r, ev P n f1 (kidT d ls x 2) = r := ⟨_, rfl⟩
    have HR6 := hid hr6
    rw [hr6] at HCALL
    have h12 : (1 : Int) < 3 := by omega
    clear hr6 hthv hA2
    go_wp2_with fail
    refine (HCALL.out _ ((Below.refl _ _).alloc (Nat.le_refl _) _)).mono ?_
    rintro e w6 ⟨g6, c6, rfl, hl6, hb6, hk6⟩
    obtain ⟨k6, hk6'⟩ : ∃ k6, ocK o6 = k6 := ⟨_, rfl⟩
    obtain ⟨n6, hn6⟩ : ∃ n6, ocN o6 = n6 := ⟨_, rfl⟩
    obtain ⟨m6, hm6⟩ : ∃ m6, (ocP o6).length = m6 := ⟨_, rfl⟩
    obtain ⟨e6, he6⟩ : ∃ e6, erO o6 = e6 := ⟨_, rfl⟩
    simp only at hl6 hb6
    rw [hm6] at hl6
    rw [he6] at hb6
    simp only [hk6', hn6, hm6]
    have HC6 := hid ((HC2.out.next ((Below.refl _ _).alloc (Nat.le_refl _) _)).call HA.out.1 HZW.out.1 HZW.out.2 hk6)
    have H6 : Hid (ocK o6 = k6 ∧ ocN o6 = n6 ∧ (ocP o6).length = m6 ∧ erO o6 = e6) := ⟨hk6', hn6, hm6, he6⟩
    have HL6 := hid hl6
    have HB6 := hid hb6
    clear rl r0' r1' r2' fz0 fz1 fz2
    obtain ⟨rl6, ⟨r60, r61, r62⟩, g60, g61, g62⟩ := celsR HC6.out.rb
    clear hk6 hk6' hn6 hm6 he6 hl6 hb6 dv0 dv1 dv2 dv3 dv4 HCALL hbqv x1 x2
    go_wp2_with fail
    refine grabPost (fun W9 => Bx 66 W9 (W.heap.size + 1) #[.int .i64 k6, .int .i64 n6, .slice g6 m6 c6] ∧ Bx 63 W9 z (nmC (some ⟨pb, po, none⟩) P.length cp (f6 : Int) e6) ∧ Ka (Zz z) W W9 ∧ RLs A W9 (.slice g6 m6 c6) (ocP o6)) (Rc.fin HC6.out HZW.out.1 HB6.out HL6.out _ _ _) (fun W9 h9 => ?_)
    obtain ⟨ql, ⟨q0, q1, q2⟩, _⟩ := celsR h9.1
    refine bodyPost_ret (v := hV k6 n6 (.slice g6 m6 c6)) (by simp [results, Tryz.results19, go_sem, q0, q1, q2]) rfl ?_
    exact RvQ.mk (o := o6) (f := f6) (by rw [← HR0.out]; rw [ev_5r HX.out.1 HN.out.2.2.2.1, HR1.out]; exact HR6.out.symm) H6.out.1 H6.out.2.1 H6.out.2.2.1 H6.out.2.2.2 h9.2
  | con tg ps =>
    dsimp only [ocK, ocN, ocP]
    have z2 : w2.cell? ⟨z, 2, none⟩ = some (.int .i64 0) := HBX2.out.cell 2 _ rfl
    have HRS2 : Hid (Rs W0 (some ⟨pb, po, none⟩) P cp z w2 f1) := HRS1.out.kp HK1.out HBX2.out
    obtain ⟨mp, hmp⟩ : ∃ mp, ps.length = mp := ⟨_, rfl⟩
    have HMP := hid hmp
    have hmp3 : mp ≤ 3 := by have h := hwf1.1.2.2.1; omega
    have HPS : Hid (∀ p ∈ ps, Wf P p) := hwf1.1.2.2.2
    rw [hmp]
    clear hmp
    by_cases htg : tg = nm
    · subst htg
      by_cases hbm : (mp : Int) = bn
      · subst hbm
        have hc1 : ((mp : Int) != (mp : Int)) = false := by simp
        have HLK : Hid (RLs (orR A (W.heap.size + 1)) w2 (.slice g1 mp c1) ps) := by
          have h := HL1.out
          dsimp only [ocP] at h
          rw [HMP.out] at h; exact h
        obtain ⟨kb, ko, hgk, hkb0, hkc⟩ := HX4.out.at (j := 1) (by have := HN.out; omega)
        subst hgk
        obtain ⟨b, hb⟩ : ∃ b : Nat, x.kids[1]'(by have := HN.out; omega) = (b : Int) := ⟨_, (Int.toNat_of_nonneg (HX.out.1.kid 1 _ (List.getElem?_eq_getElem _)).1).symm⟩
        have hke : x.kids[1]? = some (b : Int) := by rw [← hb]; exact List.getElem?_eq_getElem _
        rw [hb] at hkc
        have hkd : (x.kids[1]?.getD 0).toNat = b := by rw [hke]; rfl
        have hwr : Wf P (.prt d b (ls ++ ps)) := by
          have h := HX.out.1.wf 1 _ hke ps (by rw [show ((1 : Nat) : Int) = 1 from rfl, bd_five HN.out.2.2.2.1, HMP.out, HN.out.2.1]) HPS.out
          rw [Int.toNat_natCast] at h; exact h
        have hev : ev P (n + 1) (f + 1) (.prt d a ls) = ev P n f1 (.prt d b (ls ++ ps)) := by
          rw [ev_5r HX.out.1 HN.out.2.2.2.1, HR1.out]
          simp only
          rw [if_pos ⟨HN.out.1.symm, by rw [HMP.out, HN.out.2.1]⟩, hkd]
        have hcat : RGr (orR A (W.heap.size + 1)) (w2.heap.size + 1) ((w2.alloc (Obj.cells #[.int .i64 2, .int .i64 tg, .slice g1 mp c1] 66)).alloc (Obj.cells #[] 69)) (.slice (some ⟨w2.heap.size + 1, 0, none⟩) 0 0) [] ∧ RLs (orO (orR A (W.heap.size + 1)) (.slice (some ⟨w2.heap.size + 1, 0, none⟩) 0 0)) ((w2.alloc (Obj.cells #[.int .i64 2, .int .i64 tg, .slice g1 mp c1] 66)).alloc (Obj.cells #[] 69)) (.slice gl ml cl) ls := by
          have h1 := RGr.none (orR A (W.heap.size + 1)) (w2.alloc (Obj.cells #[.int .i64 2, .int .i64 tg, .slice g1 mp c1] 66)).heap.size (w2.alloc (Obj.cells #[.int .i64 2, .int .i64 tg, .slice g1 mp c1] 66)) (Nat.le_refl _)
          have h2 := RLs.by h1 (HC2.out.next ((Below.refl _ _).alloc (Nat.le_refl _) _)).lv ((Below.refl _ _).alloc (Nat.le_refl _) _) rfl
          rw [World.size_alloc] at h1 h2
          exact ⟨h1, h2⟩
        have HCAT := hid hcat
        clear hcat
        have tlE := HC2.out.tb.lt
        have tcE : w2.cell? ⟨W.heap.size, 4, none⟩ = some (.slice gl ml cl) := HC2.out.tb.cell 4 _ rfl
        have hls8 := HX.out.1.le
        go_wp2_with (at_builtin; refine wpList_cat5 (A := orR A (W.heap.size + 1)) rfl _ _ rfl (w2.heap.size + 1) (.slice (some ⟨w2.heap.size + 1, 0, none⟩) 0 0) (.slice gl ml cl) [] ls rfl rfl HCAT.out.1 HCAT.out.2 (by simp) (by simp only [List.length_nil]; omega) ?_)
        intro ga ca wa hGa hBa
        have HBa : Hid (Below (w2.heap.size + 1) (w2.alloc (Obj.cells #[.int .i64 2, .int .i64 tg, .slice g1 mp c1] 66)) wa) := Below.trans ((Below.refl _ _).alloc (by rw [World.size_alloc]; exact Nat.le_refl _) _) hBa
        have hGa' : RGr (orR A (W.heap.size + 1)) (w2.heap.size + 1) wa (.slice ga ml ca) ls := by
          have h := hGa
          rw [HN.out.2.2.2.2.2] at h
          exact h
        have HGa := hid hGa'
        have hBw : Below w2.heap.size w2 wa := (Below.trans ((Below.refl _ _).alloc (Nat.le_refl _) _) (HBa.out.mono (Nat.le_succ _)))
        have HBW := hid hBw
        have hlm : ls.length = ml := HN.out.2.2.2.2.2
        simp only [hlm]
        have hyb := (Bx.new 66 w2 #[.int .i64 2, .int .i64 tg, .slice g1 mp c1]).on HBa.out (Nat.lt_succ_self _)
        have y2 : wa.cell? ⟨w2.heap.size, 2, none⟩ = some (.slice g1 mp c1) := hyb.cell 2 _ rfl
        have yl := hyb.lt
        have HLK2 : Hid (RLs (orO (orR A (W.heap.size + 1)) (.slice ga ml ca)) wa (.slice g1 mp c1) ps) := RLs.by HGa.out (HLK.out.kp (Ka.of_below ((Below.refl _ w2).alloc (Nat.le_refl _) _))) HBa.out (by rw [World.size_alloc])
        obtain ⟨Y, hY⟩ : ∃ Y, w2.heap.size = Y := ⟨_, rfl⟩
        rw [hY] at y2 yl
        simp only [hY]
        clear hGa hBa hGa' hlm HCAT tlE tcE hyb hBw
        go_wp2_with (at_builtin; refine wpList_cat5 (A := orR A (W.heap.size + 1)) rfl _ _ rfl (w2.heap.size + 1) (.slice ga ml ca) (.slice g1 mp c1) ls ps rfl rfl HGa.out HLK2.out (by have h := HBa.out.size; rw [World.size_alloc] at h; exact h) (by have := HMP.out; omega) ?_)
        intro gb cb wb hGb hBb
        have hBB : Below w2.heap.size w2 wb := HBW.out.trans (hBb.mono (by omega))
        have HC4 := hid (HC2.out.next hBB)
        have HRS4 : Hid (Rs W0 (some ⟨pb, po, none⟩) P cp z wb f1) := HRS2.out.next hBB
        have HLOW : Hid (Below W0.heap.size W0 wb) := HRS4.out.low
        have HLS : Hid (RLs (orR A (W.heap.size + 1)) wb (.slice gb (ml + mp) cb) (ls ++ ps)) := by
          have h := hGb
          rw [HN.out.2.2.2.2.2, HMP.out] at h
          exact h.ls (fun k hk => by have h1 := hA2 k hk; omega)
        have hlm : ls.length = ml := HN.out.2.2.2.2.2
        have hlp : ps.length = mp := HMP.out
        simp only [hlm, hlp]
        have h13 : (1 : Int) < 3 := by omega
        obtain ⟨⟨o6, f6⟩, hr6⟩ : ∃ r, r0 = r := ⟨_, rfl⟩
        obtain ⟨k6, hk6'⟩ : ∃ k6, ocK o6 = k6 := ⟨_, rfl⟩
        obtain ⟨n6, hn6⟩ : ∃ n6, ocN o6 = n6 := ⟨_, rfl⟩
        obtain ⟨m6, hm6⟩ : ∃ m6, (ocP o6).length = m6 := ⟨_, rfl⟩
        obtain ⟨e6, he6⟩ : ∃ e6, erO o6 = e6 := ⟨_, rfl⟩
        have H6 : Hid (ocK o6 = k6 ∧ ocN o6 = n6 ∧ (ocP o6).length = m6 ∧ erO o6 = e6) := ⟨hk6', hn6, hm6, he6⟩
        have HR6 : Hid (r0 = (o6, f6)) := hr6
        clear hk6' hn6 hm6 he6 hr6
        have hA1 : ∀ k, orR A (W.heap.size + 1) k → k < wb.heap.size := by
          rintro k (hk | hk)
          · exact Nat.lt_of_lt_of_le (HA.out.2.1 k hk) HC4.out.kp.size
          · rw [hk]; exact HC4.out.rb.lt
        have heo : ∀ V, Below wb.heap.size wb V → Calls Tryz.prog 19 #[.pointer (some ⟨z, 0, none⟩), .agg #[.bool false, .string ⟨#[]⟩, .int .i64 (d : Int), .int .i64 (b : Int), .slice gb (ml + mp) cb]] V fun e W' => RvQ (some ⟨pb, po, none⟩) P cp z (orR A (W.heap.size + 1)) V (o6, f6) e W' := by
          intro V hV
          have h := HEv.out f1 (orR A (W.heap.size + 1)) V _ _ hf1 (HRS4.out.next hV) (Or.inl HA.out.1) (fun k hk => Nat.lt_of_lt_of_le (hA1 k hk) hV.size) hwr ((HLS.out.kp (Ka.of_below hV)).prt d b)
          rw [← hev, HR0.out, HR6.out] at h
          exact h
        have hkz : kb ≠ z := by have h1 := hkb0; have h2 := HRS1.out.z0; omega
        have hlr1 : W.heap.size ≠ W.heap.size + 1 ∧ W.heap.size < wb.heap.size ∧ wb.cell? ⟨W.heap.size, 2, none⟩ = some (.int .i64 (d : Int)) := ⟨by omega, HC4.out.tb.lt, HC4.out.tb.cell 2 _ rfl⟩
        have hlr2 : X ≠ W.heap.size + 1 ∧ X < wb.heap.size ∧ wb.cell? ⟨X, 3, none⟩ = some (.slice (some ⟨kb, ko, none⟩) 3 ck) := ⟨by omega, HC4.out.xb.lt, HC4.out.xb.cell 3 _ rfl⟩
        have hlr3 : kb ≠ W.heap.size + 1 ∧ kb < wb.heap.size ∧ wb.cell? ⟨kb, ko + 1, none⟩ = some (.int .i64 (b : Int)) := ⟨by have h1 := hkb0; have h2 := HRS1.out.z0; have h3 := HZW.out.1; omega, Nat.lt_of_lt_of_le hkb0 HLOW.out.size, (HLOW.out.cell (p := ⟨kb, ko + 1, none⟩) hkb0).trans hkc⟩
        have hs1 : ∀ w' : World, Ka (Zz z) wb w' → Bx 63 w' z (nmC (some ⟨pb, po, none⟩) P.length cp (f6 : Int) e6) → w'.cell? ⟨W.heap.size, 2, none⟩ = some (.int .i64 (d : Int)) := fun w' hk hb => (hk.cell hlr1.2.1 (fun e => by have e' : W.heap.size = z := e; have := HZW.out; omega)).trans hlr1.2.2
        have hs2 : ∀ w' : World, Ka (Zz z) wb w' → Bx 63 w' z (nmC (some ⟨pb, po, none⟩) P.length cp (f6 : Int) e6) → w'.cell? ⟨X, 3, none⟩ = some (.slice (some ⟨kb, ko, none⟩) 3 ck) := fun w' hk hb => (hk.cell hlr2.2.1 (fun e => by have e' : X = z := e; have := HZW.out; omega)).trans hlr2.2.2
        have hs3 : ∀ w' : World, Ka (Zz z) wb w' → Bx 63 w' z (nmC (some ⟨pb, po, none⟩) P.length cp (f6 : Int) e6) → w'.cell? ⟨kb, ko + 1, none⟩ = some (.int .i64 (b : Int)) := fun w' hk hb => (hk.cell hlr3.2.1 (fun e => hkz e)).trans hlr3.2.2
        clear hkz hA1 hGb hBb hlm hlp hBB hkb0 hkc hke hkd hb hwr hev x1 x2 y2 yl rl hA2 z2 hz2 hX2
        have HLR : Hid (Lr (W.heap.size + 1) [(W.heap.size, 2, .int .i64 (d : Int)), (X, 3, .slice (some ⟨kb, ko, none⟩) 3 ck), (kb, ko + 1, .int .i64 (b : Int))] wb) := by
          refine ⟨fun q hq => ?_, _, _, _, HC4.out.rb⟩
          simp only [List.mem_cons, List.not_mem_nil, or_false] at hq
          rcases hq with rfl | rfl | rfl
          · exact hlr1
          · exact hlr2
          · exact hlr3
        have HEO : Hid (∀ V, Below wb.heap.size wb V → Calls Tryz.prog 19 #[.pointer (some ⟨z, 0, none⟩), .agg #[.bool false, .string ⟨#[]⟩, .int .i64 (d : Int), .int .i64 (b : Int), .slice gb (ml + mp) cb]] V fun e w' => ∃ g6 c6, e = .returned (hV k6 n6 (.slice g6 m6 c6)) ∧ RLs (orR A (W.heap.size + 1)) w' (.slice g6 m6 c6) (ocP o6) ∧ Bx 63 w' z (nmC (some ⟨pb, po, none⟩) P.length cp (f6 : Int) e6) ∧ Ka (Zz z) wb w' ∧ Lr (W.heap.size + 1) [(W.heap.size, 2, .int .i64 (d : Int)), (X, 3, .slice (some ⟨kb, ko, none⟩) 3 ck), (kb, ko + 1, .int .i64 (b : Int))] w') := by
          intro V hV
          refine (heo V hV).mono ?_
          rintro e w' ⟨g6, c6, rfl, hl6, hb6, hk6⟩
          simp only at hl6 hb6
          rw [H6.out.2.2.1] at hl6
          rw [H6.out.2.2.2] at hb6
          simp only [H6.out.1, H6.out.2.1, H6.out.2.2.1]
          have hk7 : Ka (Zz z) wb w' := (Ka.of_below hV).next hk6
          have hc7 := HC4.out.call HA.out.1 HZW.out.1 HZW.out.2 hk7
          refine ⟨g6, c6, rfl, hl6, hb6, hk7, fun q hq => ?_, _, _, _, hc7.rb⟩
          simp only [List.mem_cons, List.not_mem_nil, or_false] at hq
          rcases hq with rfl | rfl | rfl
          · exact ⟨hlr1.1, Nat.lt_of_lt_of_le hlr1.2.1 hk7.size, hs1 w' hk7 hb6⟩
          · exact ⟨hlr2.1, Nat.lt_of_lt_of_le hlr2.2.1 hk7.size, hs2 w' hk7 hb6⟩
          · exact ⟨hlr3.1, Nat.lt_of_lt_of_le hlr3.2.1 hk7.size, hs3 w' hk7 hb6⟩
        clear heo hlr1 hlr2 hlr3 hs1 hs2 hs3 r0' r1' r2' fz0 fz1 fz2
        obtain ⟨_, e1, e2, e3, e4, e5, e6', e7, e8, e9⟩ := HLR.out.all
        go_wp2_with fail
        go_region_held3 (fun V => Lr (W.heap.size + 1) [(W.heap.size, 2, .int .i64 (d : Int)), (X, 3, .slice (some ⟨kb, ko, none⟩) 3 ck), (kb, ko + 1, .int .i64 (b : Int))] V ∧ V.cell? ⟨W.heap.size, 2, none⟩ = some (.int .i64 (d : Int)) ∧ V.cell? ⟨X, 3, none⟩ = some (.slice (some ⟨kb, ko, none⟩) 3 ck) ∧ V.cell? ⟨kb, ko + 1, none⟩ = some (.int .i64 (b : Int))
            ∧ V.cell? ⟨W.heap.size + 1, 0, none⟩ = some (cel V ⟨W.heap.size + 1, 0, none⟩) ∧ V.cell? ⟨W.heap.size + 1, 1, none⟩ = some (cel V ⟨W.heap.size + 1, 1, none⟩) ∧ V.cell? ⟨W.heap.size + 1, 2, none⟩ = some (cel V ⟨W.heap.size + 1, 2, none⟩) ∧ V.frozen? ⟨W.heap.size + 1, 0, none⟩ = false ∧ V.frozen? ⟨W.heap.size + 1, 1, none⟩ = false ∧ V.frozen? ⟨W.heap.size + 1, 2, none⟩ = false)
          (exact Lr.all (by repeat (first | exact HL3.out | exact HLR.out | (with_reducible refine Lr.set0 ?_ _) | (with_reducible refine Lr.set1 ?_ _) | (with_reducible refine Lr.set2 ?_ _) | (with_reducible refine Lr.alloc ?_ _) | (with_reducible refine Lr.drew ?_))))
          ((go_at_call 19; refine (HEO.out _ (Below.refl _ _).drew).mono ?_; rintro e w6 ⟨g6, c6, rfl, hl6, hb6, hk6, hlr6⟩; have HL3 : Hid (Lr (W.heap.size + 1) [(W.heap.size, 2, .int .i64 (d : Int)), (X, 3, .slice (some ⟨kb, ko, none⟩) 3 ck), (kb, ko + 1, .int .i64 (b : Int))] w6) := hlr6; have HL6 := hid hl6; have HB6 := hid hb6; have HC6 := hid (HC4.out.call HA.out.1 HZW.out.1 HZW.out.2 hk6); clear hl6 hb6 hk6 hlr6))
        all_goals
          refine grabE (fun W9 => Bx 66 W9 (W.heap.size + 1) #[.int .i64 k6, .int .i64 n6, .slice g6 m6 c6] ∧ Bx 63 W9 z (nmC (some ⟨pb, po, none⟩) P.length cp (f6 : Int) e6) ∧ Ka (Zz z) W W9 ∧ RLs A W9 (.slice g6 m6 c6) (ocP o6)) (Rc.fin HC6.out HZW.out.1 HB6.out HL6.out _ _ _) (fun W9 h9 => ?_)
          clear e1 e2 e3 e4 e5 e6' e7 e8 e9
          obtain ⟨ql, ⟨q0, q1, q2⟩, _⟩ := celsR h9.1
          go_wp2_with fail
          refine bodyPost_ret (v := hV k6 n6 (.slice g6 m6 c6)) (by simp [results, Tryz.results19, go_sem, q0, q1, q2]) rfl ?_
          exact RvQ.mk (o := o6) (f := f6) (by rw [← HR0.out]; rw [HR0.out]; exact HR6.out.symm) H6.out.1 H6.out.2.1 H6.out.2.2.1 H6.out.2.2.2 h9.2
      · have hc1 : ((mp : Int) != bn) = true := by simp [hbm]
        have hc2 : ((mp : Int) == bn) = false := by simp [hbm]
        obtain ⟨bqv, oqv, cqv, v0, v1, v2, v3, v4, evq, hbqv, _, ⟨dv0, dv1, dv2, dv3, dv4⟩, hthv⟩ := HC2.out.kv.pick (kidsT_at (d := d) (ls := ls) (x := x) (i := 2) (by have := HN.out; omega))
        obtain ⟨rfl, rfl⟩ : bq = bqv ∧ oq = oqv := by injection evq with h1; injection h1 with h1; injection h1 with h1 h2; exact ⟨h1, h2⟩
        simp only [Nat.reduceMul] at dv0 dv1 dv2 dv3 dv4
        clear evq
        have HCALL : Hid (∀ V, Below w2.heap.size w2 V → Calls Tryz.prog 19 #[.pointer (some ⟨z, 0, none⟩), .agg #[v0, v1, v2, v3, v4]] V fun e W' => RvQ (some ⟨pb, po, none⟩) P cp z (orR A (W.heap.size + 1)) V (ev P n f1 (kidT d ls x 2)) e W') := fun V hV =>
          HEv.out f1 (orR A (W.heap.size + 1)) V [v0, v1, v2, v3, v4] _ hf1 (HRS2.out.next hV) (Or.inl HA.out.1) (fun k hk => Nat.lt_of_lt_of_le (hA2 k hk) hV.size) HW0.out.2 (hthv.kp (Ka.of_below hV))
        obtain ⟨⟨o6, f6⟩, hr6⟩ : ∃ r, ev P n f1 (kidT d ls x 2) = r := ⟨_, rfl⟩
        have HR6 := hid hr6
        rw [hr6] at HCALL
        have h12 : (1 : Int) < 3 := by omega
        clear hr6 hthv hA2
        go_wp2_with fail
        refine (HCALL.out _ ((Below.refl _ _).alloc (Nat.le_refl _) _)).mono ?_
        rintro e w6 ⟨g6, c6, rfl, hl6, hb6, hk6⟩
        obtain ⟨k6, hk6'⟩ : ∃ k6, ocK o6 = k6 := ⟨_, rfl⟩
        obtain ⟨n6, hn6⟩ : ∃ n6, ocN o6 = n6 := ⟨_, rfl⟩
        obtain ⟨m6, hm6⟩ : ∃ m6, (ocP o6).length = m6 := ⟨_, rfl⟩
        obtain ⟨e6, he6⟩ : ∃ e6, erO o6 = e6 := ⟨_, rfl⟩
        simp only at hl6 hb6
        rw [hm6] at hl6
        rw [he6] at hb6
        simp only [hk6', hn6, hm6]
        have HC6 := hid ((HC2.out.next ((Below.refl _ _).alloc (Nat.le_refl _) _)).call HA.out.1 HZW.out.1 HZW.out.2 hk6)
        have H6 : Hid (ocK o6 = k6 ∧ ocN o6 = n6 ∧ (ocP o6).length = m6 ∧ erO o6 = e6) := ⟨hk6', hn6, hm6, he6⟩
        have HL6 := hid hl6
        have HB6 := hid hb6
        clear rl r0' r1' r2' fz0 fz1 fz2
        obtain ⟨rl6, ⟨r60, r61, r62⟩, g60, g61, g62⟩ := celsR HC6.out.rb
        clear hk6 hk6' hn6 hm6 he6 hl6 hb6 dv0 dv1 dv2 dv3 dv4 HCALL hbqv x1 x2
        go_wp2_with fail
        refine grabPost (fun W9 => Bx 66 W9 (W.heap.size + 1) #[.int .i64 k6, .int .i64 n6, .slice g6 m6 c6] ∧ Bx 63 W9 z (nmC (some ⟨pb, po, none⟩) P.length cp (f6 : Int) e6) ∧ Ka (Zz z) W W9 ∧ RLs A W9 (.slice g6 m6 c6) (ocP o6)) (Rc.fin HC6.out HZW.out.1 HB6.out HL6.out _ _ _) (fun W9 h9 => ?_)
        obtain ⟨ql, ⟨q0, q1, q2⟩, _⟩ := celsR h9.1
        refine bodyPost_ret (v := hV k6 n6 (.slice g6 m6 c6)) (by simp [results, Tryz.results19, go_sem, q0, q1, q2]) rfl ?_
        exact RvQ.mk (o := o6) (f := f6) (by rw [← HR0.out]; rw [ev_5r HX.out.1 HN.out.2.2.2.1, HR1.out]; simp only; rw [if_neg (fun h => hbm (by rw [HMP.out, HN.out.2.1] at h; exact h.2))]; exact HR6.out.symm) H6.out.1 H6.out.2.1 H6.out.2.2.1 H6.out.2.2.2 h9.2
    · have hc1 : (tg != nm) = true := by simp [htg]
      have hc2 : (tg == nm) = false := by simp [htg]
      obtain ⟨bqv, oqv, cqv, v0, v1, v2, v3, v4, evq, hbqv, _, ⟨dv0, dv1, dv2, dv3, dv4⟩, hthv⟩ := HC2.out.kv.pick (kidsT_at (d := d) (ls := ls) (x := x) (i := 2) (by have := HN.out; omega))
      obtain ⟨rfl, rfl⟩ : bq = bqv ∧ oq = oqv := by injection evq with h1; injection h1 with h1; injection h1 with h1 h2; exact ⟨h1, h2⟩
      simp only [Nat.reduceMul] at dv0 dv1 dv2 dv3 dv4
      clear evq
      have HCALL : Hid (∀ V, Below w2.heap.size w2 V → Calls Tryz.prog 19 #[.pointer (some ⟨z, 0, none⟩), .agg #[v0, v1, v2, v3, v4]] V fun e W' => RvQ (some ⟨pb, po, none⟩) P cp z (orR A (W.heap.size + 1)) V (ev P n f1 (kidT d ls x 2)) e W') := fun V hV =>
        HEv.out f1 (orR A (W.heap.size + 1)) V [v0, v1, v2, v3, v4] _ hf1 (HRS2.out.next hV) (Or.inl HA.out.1) (fun k hk => Nat.lt_of_lt_of_le (hA2 k hk) hV.size) HW0.out.2 (hthv.kp (Ka.of_below hV))
      obtain ⟨⟨o6, f6⟩, hr6⟩ : ∃ r, ev P n f1 (kidT d ls x 2) = r := ⟨_, rfl⟩
      have HR6 := hid hr6
      rw [hr6] at HCALL
      have h12 : (1 : Int) < 3 := by omega
      clear hr6 hthv hA2
      go_wp2_with fail
      refine (HCALL.out _ ((Below.refl _ _).alloc (Nat.le_refl _) _)).mono ?_
      rintro e w6 ⟨g6, c6, rfl, hl6, hb6, hk6⟩
      obtain ⟨k6, hk6'⟩ : ∃ k6, ocK o6 = k6 := ⟨_, rfl⟩
      obtain ⟨n6, hn6⟩ : ∃ n6, ocN o6 = n6 := ⟨_, rfl⟩
      obtain ⟨m6, hm6⟩ : ∃ m6, (ocP o6).length = m6 := ⟨_, rfl⟩
      obtain ⟨e6, he6⟩ : ∃ e6, erO o6 = e6 := ⟨_, rfl⟩
      simp only at hl6 hb6
      rw [hm6] at hl6
      rw [he6] at hb6
      simp only [hk6', hn6, hm6]
      have HC6 := hid ((HC2.out.next ((Below.refl _ _).alloc (Nat.le_refl _) _)).call HA.out.1 HZW.out.1 HZW.out.2 hk6)
      have H6 : Hid (ocK o6 = k6 ∧ ocN o6 = n6 ∧ (ocP o6).length = m6 ∧ erO o6 = e6) := ⟨hk6', hn6, hm6, he6⟩
      have HL6 := hid hl6
      have HB6 := hid hb6
      clear rl r0' r1' r2' fz0 fz1 fz2
      obtain ⟨rl6, ⟨r60, r61, r62⟩, g60, g61, g62⟩ := celsR HC6.out.rb
      clear hk6 hk6' hn6 hm6 he6 hl6 hb6 dv0 dv1 dv2 dv3 dv4 HCALL hbqv x1 x2
      go_wp2_with fail
      refine grabPost (fun W9 => Bx 66 W9 (W.heap.size + 1) #[.int .i64 k6, .int .i64 n6, .slice g6 m6 c6] ∧ Bx 63 W9 z (nmC (some ⟨pb, po, none⟩) P.length cp (f6 : Int) e6) ∧ Ka (Zz z) W W9 ∧ RLs A W9 (.slice g6 m6 c6) (ocP o6)) (Rc.fin HC6.out HZW.out.1 HB6.out HL6.out _ _ _) (fun W9 h9 => ?_)
      obtain ⟨ql, ⟨q0, q1, q2⟩, _⟩ := celsR h9.1
      refine bodyPost_ret (v := hV k6 n6 (.slice g6 m6 c6)) (by simp [results, Tryz.results19, go_sem, q0, q1, q2]) rfl ?_
      exact RvQ.mk (o := o6) (f := f6) (by rw [← HR0.out]; rw [ev_5r HX.out.1 HN.out.2.2.2.1, HR1.out]; simp only; rw [if_neg (fun h => htg (by rw [HN.out.1] at h; exact h.1))]; exact HR6.out.symm) H6.out.1 H6.out.2.1 H6.out.2.2.1 H6.out.2.2.2 h9.2
end Go.Proofs.YtjamknejllbmkaaGreatDoor

namespace Go.Proofs.YtjamknejllbmkaaGreatDoor
open Go.RowKit
set_option linter.unusedVariables false
attribute [local go_sem ↓] Go.wp_at_zero Go.wp_at_succ
set_option maxHeartbeats 4000000 in
set_option maxRecDepth 100000 in
theorem rv_giv {W0 : World} {gp : Option Addr} {P : List Df} {cp z n : Nat} (f : Nat) (A : Nat → Prop) (W : World) (s : Wdn) (hs : Rs W0 gp P cp z W f) (hz : A z) (hA : ∀ k, A k → k < W.heap.size) (hw : (Tm.whole s).isSome = true) :
    Calls Tryz.prog 19 #[.pointer (some ⟨z, 0, none⟩), .agg #[.bool true, .string ⟨s.toArray⟩, .int .i64 0, .int .i64 0, .slice none 0 0]] W fun e W' => RvQ gp P cp z A W (ev P n f (.giv s)) e W' := by
  have er : ev P n f (.giv s) = (givO s, f) := by unfold ev; rfl
  rw [er]
  clear er
  obtain ⟨r0, hr0⟩ : ∃ r0, ((givO s, f) : Oc × Nat) = r0 := ⟨_, rfl⟩
  rw [hr0]
  have HR0 : Hid ((givO s, f) = r0) := hr0
  clear hr0
  obtain ⟨⟨k, x, ks⟩, hy⟩ := Option.isSome_iff_exists.1 hw
  have hsz : (⟨s.toArray⟩ : ByteArray).size ≤ 140737488355328 := by
    have := (Tm.whole_some hy).1
    show s.toArray.size ≤ _
    rw [List.size_toArray]; omega
  have h3 := (Tm.whole_parts hy).2.2
  have hzW := hs.lt
  have b1 : ∀ o1 o2 : Obj, Below W.heap.size W ((W.alloc o1).alloc o2) := fun o1 o2 => ((Below.refl _ W).alloc (Nat.le_refl _) _).alloc (by simp) _
  have c1 : ∀ (o1 : Obj) (rc : Array Value), Bx 66 ((W.alloc o1).alloc (Obj.cells rc 66)) (W.heap.size + 1) rc := fun o1 rc => by
    have h := Bx.new 66 (W.alloc o1) rc
    rw [World.size_alloc] at h; exact h
  have HB := hid b1
  have HC := hid c1
  have HS := hid hs
  have HA : Hid (A z ∧ (∀ k, A k → k < W.heap.size) ∧ z < W.heap.size) := ⟨hz, hA, hzW⟩
  have HY : Hid (Tm.whole s = some (k, x, ks) ∧ (⟨s.toArray⟩ : ByteArray).size ≤ 140737488355328 ∧ ks.length ≤ 3) := ⟨hy, hsz, h3⟩
  clear hs hz hA hw hy hsz h3 b1 c1
  go_enter Tryz.func19, Tryz.ntmps19
  go_wp2_with fail
  refine grabK (fun U => Hid (Below W.heap.size W U) ∧ Hid (Bx 66 U (W.heap.size + 1) #[.int .i64 0, .int .i64 0, .slice none 0 0])) ⟨HB.out _ _, HC.out _ _⟩ (fun U hU => ?_)
  obtain ⟨HU, HR⟩ := hU
  have HBX := hid (HS.out.next HU.out).box
  clear HB HC
  by_cases h0 : k = 0
  · subst h0
    have eo : givO s = .hole := by unfold givO; rw [HY.out.1]; rfl
    have HEO := hid eo
    refine (rread_hole ⟨s.toArray⟩ HY.out.2.1 HBX.out HY.out.1).mono ?_
    rintro e w1 ⟨rfl, hb1, hk1⟩
    have HB1 := hid hb1
    have HK1 : Hid (Ka (Zz z) W w1) := (Ka.of_below HU.out).next hk1
    have HR1 := hid (HR.out.kp hk1 (fun e => by have e' : W.heap.size + 1 = z := e; omega))
    obtain ⟨rl, ⟨r0', r1', r2'⟩, fz0, fz1, fz2⟩ := celsR HR1.out
    clear hb1 hk1 eo
    go_wp2_with fail
    refine grabPost (fun W9 => Bx 66 W9 (W.heap.size + 1) #[.int .i64 3, .int .i64 0, .slice none 0 0] ∧ Bx 63 W9 z (nmC gp P.length cp (f : Int) 902) ∧ Ka (Zz z) W W9 ∧ RLs A W9 (.slice none 0 0) []) (Rc.fin0 HK1.out HR1.out HA.out.2.2 HB1.out (RLs.nil _ _) _ _ _) (fun W9 h9 => ?_)
    obtain ⟨ql, ⟨q0, q1, q2⟩, _⟩ := celsR h9.1
    refine bodyPost_ret (v := hV 3 0 (.slice none 0 0)) (by simp [results, Tryz.results19, go_sem, q0, q1, q2]) rfl ?_
    exact RvQ.mk (o := .hole) (f := f) (by rw [← HR0.out, HEO.out]) rfl rfl rfl rfl h9.2
  · obtain ⟨ps, hps⟩ : ∃ ps, givO s = ps := ⟨_, rfl⟩
    have HPP := hid hps
    have HPS : Hid (ocK ps = k ∧ ocN ps = x ∧ ocP ps = ks.map .giv ∧ erO ps = 0) := by
      show _ ∧ _
      rw [← hps]
      unfold givO
      rw [HY.out.1]
      rcases whole_kind HY.out.1 with h | ⟨rfl, rfl⟩ | rfl | ⟨rfl, rfl, rfl⟩
      · exact absurd h h0
      · exact ⟨rfl, rfl, rfl, rfl⟩
      · exact ⟨rfl, rfl, rfl, rfl⟩
      · exact ⟨rfl, rfl, rfl, rfl⟩
    refine (rread_got (A := orR A (W.heap.size + 1)) ⟨s.toArray⟩ HY.out.2.1 (by
      rintro k (hk | hk)
      · exact Nat.lt_of_lt_of_le (HA.out.2.1 k hk) HU.out.size
      · rw [hk]; exact HR.out.lt) HY.out.1 h0 (by have := HY.out.2.2; omega)).mono ?_
    rintro e w1 ⟨gl, cl, rfl, hl1, hb1⟩
    have HK1 : Hid (Ka (Zz z) W w1) := (Ka.of_below HU.out).next (Ka.of_below hb1)
    have HB1 := hid (HBX.out.next hb1)
    have HL1 := hid hl1
    have HR1 := hid (HR.out.next hb1)
    obtain ⟨rl, ⟨r0', r1', r2'⟩, fz0, fz1, fz2⟩ := celsR HR1.out
    obtain ⟨mk, hmk⟩ : ∃ mk, ks.length = mk := ⟨_, rfl⟩
    rw [hmk] at HL1
    rw [hmk]
    have HM : Hid ((ocP ps).length = mk) := by show _ = _; rw [HPS.out.2.2.1, List.length_map, hmk]
    clear hl1 hb1 hps hmk h0
    go_wp2_with fail
    refine grabPost (fun W9 => Bx 66 W9 (W.heap.size + 1) #[.int .i64 k, .int .i64 x, .slice gl mk cl] ∧ Bx 63 W9 z (nmC gp P.length cp (f : Int) 0) ∧ Ka (Zz z) W W9 ∧ RLs A W9 (.slice gl mk cl) (ocP ps)) (Rc.fin0 HK1.out HR1.out HA.out.2.2 HB1.out (by rw [HPS.out.2.2.1]; exact HL1.out) _ _ _) (fun W9 h9 => ?_)
    obtain ⟨ql, ⟨q0, q1, q2⟩, _⟩ := celsR h9.1
    refine bodyPost_ret (v := hV k x (.slice gl mk cl)) (by simp [results, Tryz.results19, go_sem, q0, q1, q2]) rfl ?_
    exact RvQ.mk (o := ps) (f := f) (by rw [← HR0.out, HPP.out]) HPS.out.1 HPS.out.2.1 HM.out HPS.out.2.2.2 h9.2
set_option maxHeartbeats 4000000 in
set_option maxRecDepth 100000 in
theorem rv_zero {W0 : World} {gp : Option Addr} {P : List Df} {cp z n : Nat} (A : Nat → Prop) (W : World) (d a : Nat) (ls : List Th) (lv : Value) (hs : Rs W0 gp P cp z W 0) (hz : A z) (hl : RLs A W lv ls) :
    Calls Tryz.prog 19 #[.pointer (some ⟨z, 0, none⟩), thV d a lv] W fun e W' => RvQ gp P cp z A W (ev P n 0 (.prt d a ls)) e W' := by
  have er : ev P n 0 (.prt d a ls) = (.fuel, 0) := by
    cases n with
    | zero => rw [ev]
    | succ n => rw [ev, if_pos rfl]
  rw [er]
  obtain ⟨gl, cl, rfl⟩ := hl.val
  have hzW := hs.lt
  have z1 : W.cell? ⟨z, 1, none⟩ = some (.int .i64 0) := hs.box.cell 1 _ rfl
  have zf := hs.box.frozen 2
  have z2 : W.cell? ⟨z, 2, none⟩ = some (.int .i64 0) := hs.box.cell 2 _ rfl
  have HS := hid hs
  have HZ := hid hzW
  have HF : Hid (∀ o1 rc, Bx 63 (((W.setCell ⟨z, 2, none⟩ (.int .i64 901)).alloc o1).alloc (Obj.cells rc 66)) z (nmC gp P.length cp 0 901) ∧ Bx 66 (((W.setCell ⟨z, 2, none⟩ (.int .i64 901)).alloc o1).alloc (Obj.cells rc 66)) (W.heap.size + 1) rc ∧ Ka (Zz z) W (((W.setCell ⟨z, 2, none⟩ (.int .i64 901)).alloc o1).alloc (Obj.cells rc 66))) := by
    intro o1 rc
    have h := Bx.new 66 ((W.setCell ⟨z, 2, none⟩ (.int .i64 901)).alloc o1) rc
    have k0 : Ka (Zz z) W (W.setCell ⟨z, 2, none⟩ (.int .i64 901)) := Ka.of_grown (grown_set W z 2 _) (fun k e => (Option.some.inj e).symm)
    rw [World.size_alloc, show (W.setCell ⟨z, 2, none⟩ (.int .i64 901)).heap.size = W.heap.size by simp] at h
    exact ⟨((HS.out.box.set 2 (.int .i64 901)).alloc _).alloc _, h, k0.next (Ka.of_below (((Below.refl _ _).alloc (Nat.le_refl _) _).alloc (by simp) _))⟩
  clear hs hl er hz
  go_enter Tryz.func19, Tryz.ntmps19
  go_wp2_with fail
  refine grabK (fun U => Bx 63 U z (nmC gp P.length cp 0 901) ∧ Bx 66 U (W.heap.size + 1) #[.int .i64 0, .int .i64 0, .slice none 0 0] ∧ Ka (Zz z) W U) (HF.out _ _) (fun U hU => ?_)
  refine (rfail_any U).mono ?_
  rintro e9 w9 ⟨rfl, hw9⟩
  have hb9 : Below U.heap.size U w9 := by rw [hw9]; exact (Below.refl _ _).alloc (Nat.le_refl _) _
  have HB9 := hid (hU.1.next hb9)
  have HR9 := hid (hU.2.1.next hb9)
  have HK9 := hid (hU.2.2.next (Ka.of_below hb9))
  obtain ⟨rl, ⟨r0', r1', r2'⟩, fz0, fz1, fz2⟩ := celsR HR9.out
  clear hb9 hw9 hU HF z1 zf z2
  go_wp2_with fail
  refine grabPost (fun W9 => Bx 66 W9 (W.heap.size + 1) #[.int .i64 3, .int .i64 0, .slice none 0 0] ∧ Bx 63 W9 z (nmC gp P.length cp 0 901) ∧ Ka (Zz z) W W9 ∧ RLs A W9 (.slice none 0 0) []) (Rc.fin0 HK9.out HR9.out HZ.out HB9.out (RLs.nil _ _) _ _ _) (fun W9 h9 => ?_)
  obtain ⟨ql, ⟨q0, q1, q2⟩, _⟩ := celsR h9.1
  refine bodyPost_ret (v := hV 3 0 (.slice none 0 0)) (by simp [results, Tryz.results19, go_sem, q0, q1, q2]) rfl ?_
  exact RvQ.mk (o := .fuel) (f := 0) rfl rfl rfl rfl rfl h9.2
/-- eval, however many steps are left. -/
theorem rv_said {W0 : World} {gp : Option Addr} {P : List Df} {cp z : Nat} : ∀ n, n ≤ 100000 → RvSaid W0 gp P cp z n := by
  intro n
  induction n with
  | zero =>
    intro _ f A W us t hf hs hz hA hwf hth
    obtain rfl : f = 0 := by omega
    cases hth with
    | giv s => cases hwf with | giv _ h => exact rv_giv 0 A W s hs hz hA h
    | prt d a ls lv vs h1 h2 h3 => exact rv_zero A W d a ls lv hs hz ⟨vs, h1, h2, h3⟩
  | succ n ih =>
    intro hn f A W us t hf hs hz hA hwf hth
    cases hth with
    | giv s => cases hwf with | giv _ h => exact rv_giv f A W s hs hz hA h
    | prt d a ls lv vs h1 h2 h3 =>
      have hl : RLs A W lv ls := ⟨vs, h1, h2, h3⟩
      clear h1 h2 h3
      cases f with
      | zero => exact rv_zero A W d a ls lv hs hz hl
      | succ f =>
        have hE := ih (by omega)
        obtain ⟨x, hx⟩ := hwf.part hs.prg.may
        obtain ⟨gl, cl, rfl⟩ := hl.val
        have hf' : f ≤ n := by omega
        have hfb : f ≤ 100000 := by omega
        rcases ok_kind hx.ok with h | h | h | h | h | h | h | h
        · exact rv_num hE f A W d a ls x gl cl hf' hfb hs hz hA hx hwf hl h.1
        · exact rv_var hE f A W d a ls x gl cl hf' hfb hs hz hA hx hwf hl h.1
        · exact rv_call hE f A W d a ls x gl cl hf' hfb hs hz hA hx hwf hl h.1
        · exact rv_con hE f A W d a ls x gl cl hf' hfb hs hz hA hx hwf hl h.1
        · exact rv_prim hE f A W d a ls x gl cl hf' hfb hs hz hA hx hwf hl h.1
        · exact rv_case hE f A W d a ls x gl cl hf' hfb hs hz hA hx hwf hl h.1
        · exact rv_let hE f A W d a ls x gl cl hf' hfb hs hz hA hx hwf hl h.1
        · exact rv_err hE f A W d a ls x gl cl hf' hfb hs hz hA hx hwf hl h
end Go.Proofs.YtjamknejllbmkaaGreatDoor
