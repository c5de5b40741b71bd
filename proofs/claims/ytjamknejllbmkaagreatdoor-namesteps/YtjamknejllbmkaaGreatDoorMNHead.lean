/- Head of package name, at any question: the call of package byname, evaluated, and its head. · What every program answers that is one: awake. -/
import Derived.Test.YtjamknejllbmkaaGreatDoorMNTop
import Derived.Test.YtjamknejllbmkaaGreatDoorMSmall
import Derived.Test.YtjamknejllbmkaaGreatDoorMLex

namespace Go.Proofs.YtjamknejllbmkaaGreatDoor
open Go.RowKit
set_option linter.unusedVariables false

theorem hdS_fail : hdS 3 0 0 = [33] := by decide +kernel
set_option maxHeartbeats 4000000 in
set_option maxRecDepth 100000 in
theorem head_any (g : Option Addr) (c : Nat) (ds : List Df) (fn : Int) (ga : Option Addr) (ca : Nat) (xs : List ByteArray) (fuel : Int) (w : World) (hd : Defs Exs w g ds) (hx : Tm.Txts w ga xs) (hs : ∀ x ∈ xs, x.size ≤ 140737488355328) (hw : Tm.Lw w) (hlx : xs.length ≤ 4611686018427387904) :
    Calls Tryz.prog 8 #[.agg #[.slice g ds.length c], .int .i64 fn, .slice ga xs.length ca, .int .i64 fuel] w fun e w' => e = .returned (.tuple #[.string ⟨(hdT ds fn (Tm.lst xs) fuel).toArray⟩, .int .i64 (hdE ds fn (Tm.lst xs) fuel)]) ∧ Below w.heap.size w w' := by
  have hb0 : Below w.heap.size w (w.alloc (.cells #[.slice g ds.length c] 30)) := (Below.refl _ w).alloc (Nat.le_refl _) _
  have HB0 := hid hb0
  have HCA : Hid (∀ W, Below w.heap.size w W → Calls Tryz.prog 14 #[.agg #[.slice g ds.length c], .int .i64 fn, .slice ga xs.length ca, .int .i64 fuel] W fun e w' => CallQ W g c ds fn.toNat (Tm.lst xs) fuel.toNat (askB ds fn (Tm.lst xs) fuel) e w') := fun W h => call_any g c ds fn ga ca xs fuel W (hd.on h) (hx.on h) hs (Tm.Lw.on hw h) hlx
  have HM : Hid (xs.length ≤ 4611686018427387904 ∧ Tm.Lw w) := ⟨hlx, hw⟩
  obtain ⟨T, hT⟩ : ∃ T : ByteArray, (⟨(hdT ds fn (Tm.lst xs) fuel).toArray⟩ : ByteArray) = T := ⟨_, rfl⟩
  obtain ⟨E, hE⟩ : ∃ E, hdE ds fn (Tm.lst xs) fuel = E := ⟨_, rfl⟩
  rw [hT, hE]
  have HTE : Hid ((⟨(hdT ds fn (Tm.lst xs) fuel).toArray⟩ : ByteArray) = T ∧ hdE ds fn (Tm.lst xs) fuel = E) := ⟨hT, hE⟩
  obtain ⟨n, hn⟩ : ∃ n, ds.length = n := ⟨_, rfl⟩
  obtain ⟨m, hm⟩ : ∃ m, xs.length = m := ⟨_, rfl⟩
  rw [hn] at HB0
  rw [hn, hm] at HCA ⊢
  clear hd hx hs hw hb0 hT hE hn hm hlx
  go_enter Tryz.func8, Tryz.ntmps8
  go_wp2_with fail
  refine grabK (fun U => Hid (Below w.heap.size w U)) HB0.out (fun U HU => ?_)
  refine (HCA.out _ HU.out).mono ?_
  rintro e w1 (⟨hak, rfl, hb1⟩ | ⟨hak, z, gb, nb, cb, a, gl, ml, cl, rfl, hp, hes, hb1⟩)
  · have HB1 : Hid (Below w.heap.size w w1) := HU.out.trans (hb1.mono HU.out.size)
    have HR : Hid (T = ⟨#[]⟩ ∧ E = 900) := by
      refine ⟨?_, ?_⟩
      · rw [← HTE.out.1]; unfold hdT; rw [hak]; rfl
      · rw [← HTE.out.2]; unfold hdE; rw [hak]; rfl
    clear hb1 HCA hak
    go_wp2_with fail
    go_ret2
    exact ⟨by rw [HR.out.1, HR.out.2]; rfl, HB1.out⟩
  · have HAK := hid hak
    have HB1 : Hid (Below w.heap.size w w1) := HU.out.trans (hb1.mono HU.out.size)
    have HES := hid hes
    have hzw : w.heap.size ≤ z := Nat.le_trans HU.out.size hes.z0
    have HZW := hid hzw
    obtain ⟨hpm, hf0, ⟨df, hdf, hpar⟩, hal, hu0, hu4, hwf⟩ := ask_parts HAK.out
    obtain ⟨f, hf⟩ : ∃ f, fuel.toNat = f := ⟨_, rfl⟩
    obtain ⟨d, hd⟩ : ∃ d, fn.toNat = d := ⟨_, rfl⟩
    obtain rfl : fuel = (f : Int) := by omega
    obtain rfl : fn = (d : Int) := by omega
    rw [hd] at hwf hp
    rw [hf] at hes
    have HF : Hid (f ≤ 400 ∧ Wf ds (callT ds d (Tm.lst xs)) ∧ pmay ds = true) := ⟨by omega, hwf, hpm⟩
    have HO : Hid (hdO ds (d : Int) (Tm.lst xs) (f : Int) = (ev ds 400 f (callT ds d (Tm.lst xs))).1) := by
      show _ = _
      unfold hdO; rfl
    have HEV : Hid (Calls Tryz.prog 137 #[prtV (.slice gb nb cb) a (.slice gl ml cl), .pointer (some ⟨z, 0, none⟩)] w1 fun e W' => EvQ U g ds c z (Zz z) w1 (ev ds 400 f (callT ds d (Tm.lst xs))) e W') :=
      ev_said 400 (by decide) f _ w1 _ _ _ _ HF.out.1 hes rfl hes.zA HF.out.2.1 hp
    have hm56 := meth56
    clear hpm hf0 hdf hpar hal hu0 hu4 hwf hf hd hes hp hb1 HCA hzw HES hak
    go_wp2_with fail
    clear hm56
    refine HEV.out.mono ?_
    rintro e w4 ⟨v, rfl, ho, hs4, hk4⟩
    have hwf := ev_wf HF.out.2.2 400 f (callT ds d (Tm.lst xs)) HF.out.2.1
    obtain ⟨⟨o, f2⟩, hr⟩ : ∃ r, ev ds 400 f (callT ds d (Tm.lst xs)) = r := ⟨_, rfl⟩
    rw [hr] at ho hs4 hwf HO
    have HWF := hid hwf
    have hEE : erO o = E := by rw [← HTE.out.2]; unfold hdE; rw [HAK.out, if_pos rfl, HO.out]
    have HTT : Hid ((⟨(txO o).toArray⟩ : ByteArray) = T) := by show _ = T; rw [← HTE.out.1]; unfold hdT; rw [HAK.out, if_pos rfl, HO.out]
    obtain ⟨kd, nm, gk, mk, ck, hv⟩ := ho.val
    have HOC := hid ho
    have HB4 : Hid (Below w.heap.size w w4 ∧ Tm.Lw w4) := ⟨HB1.out.trans (hk4.below HB1.out.size (fun k e => by have e' : k = z := e; have := HZW.out; omega)), hs4.lwW⟩
    subst hv
    rw [hr]
    simp only
    rw [hEE]
    have HEE := hid hEE
    clear ho hs4 hk4 hwf hr HEV hEE
    have hfin : ∀ (k num : Int) (gk : Option Addr) (mk ck : Nat), E = 0 → (⟨(hdS k num mk).toArray⟩ : ByteArray) = T → -9223372036854775808 ≤ num → num ≤ 9223372036854775807 → mk ≤ 3 → ∀ W, Below w4.heap.size w4 W → Calls Tryz.prog 15 #[.agg #[.int .i64 k, .int .i64 num, .slice gk mk ck]] W fun e w' => e = .returned (.string T) ∧ Below W.heap.size W w' := by
      intro k num gk mk ck _ h1 h2 h3 h4 W hW
      have h := vhead_any k num gk mk ck W (Tm.Lw.on HB4.out.2 hW) h2 h3 h4
      rw [h1] at h
      exact h
    have HFIN := hid hfin
    clear hfin
    cases o with
    | fuel =>
      obtain rfl : E = 901 := HEE.out.symm
      have HR : Hid (T = ⟨#[]⟩) := HTT.out.symm
      go_wp2_with fail
      go_ret2
      exact ⟨by rw [HR.out]; rfl, HB4.out.1.alloc HB4.out.1.size _⟩
    | hole =>
      obtain rfl : E = 902 := HEE.out.symm
      have HR : Hid (T = ⟨#[]⟩) := HTT.out.symm
      go_wp2_with fail
      go_ret2
      exact ⟨by rw [HR.out]; rfl, HB4.out.1.alloc HB4.out.1.size _⟩
    | fail =>
      obtain rfl : E = 0 := HEE.out.symm
      obtain ⟨rfl, rfl, rfl⟩ : kd = 3 ∧ nm = 0 ∧ mk = 0 := by
        obtain ⟨lv', ev', hl'⟩ := HOC.out
        obtain ⟨g', c', rfl⟩ := hl'.val
        have h := ev'; simp only [Value.agg.injEq] at h; simp at h; exact ⟨h.1, h.2.1, h.2.2.2.1⟩
      have HC := hid (HFIN.out 3 0 gk 0 ck rfl (by rw [hdS_fail]; exact HTT.out) (by omega) (by omega) (by omega) _ ((Below.refl _ w4).alloc (Nat.le_refl _) (Obj.cells #[.int .i64 3, .int .i64 0, .slice gk 0 ck] 47)))
      go_wp2_with fail
      refine HC.out.mono ?_
      rintro e w5 ⟨rfl, hb5⟩
      have HB5 : Hid (Below w.heap.size w w5) := (HB4.out.1.alloc HB4.out.1.size _).trans (hb5.mono (by have := HB4.out.1.size; simp; omega))
      clear hb5 HC
      go_wp2_with fail
      go_ret2
      exact ⟨rfl, HB5.out⟩
    | num x =>
      obtain rfl : E = 0 := HEE.out.symm
      obtain ⟨rfl, rfl, rfl⟩ : kd = 1 ∧ nm = x ∧ mk = 0 := by
        obtain ⟨lv', ev', hl'⟩ := HOC.out
        obtain ⟨g', c', rfl⟩ := hl'.val
        have h := ev'; simp only [Value.agg.injEq] at h; simp at h; exact ⟨h.1, h.2.1, h.2.2.2.1⟩
      have hb := HWF.out.1
      have HC := hid (HFIN.out 1 nm gk 0 ck rfl HTT.out (by have := hb.1; omega) (by have := hb.2; omega) (by omega) _ ((Below.refl _ w4).alloc (Nat.le_refl _) (Obj.cells #[.int .i64 1, .int .i64 nm, .slice gk 0 ck] 47)))
      clear hb
      go_wp2_with fail
      refine HC.out.mono ?_
      rintro e w5 ⟨rfl, hb5⟩
      have HB5 : Hid (Below w.heap.size w w5) := (HB4.out.1.alloc HB4.out.1.size _).trans (hb5.mono (by have := HB4.out.1.size; simp; omega))
      clear hb5 HC
      go_wp2_with fail
      go_ret2
      exact ⟨rfl, HB5.out⟩
    | con x ps =>
      obtain rfl : E = 0 := HEE.out.symm
      obtain ⟨rfl, rfl, hmk⟩ : kd = 2 ∧ nm = x ∧ mk = ps.length := by
        obtain ⟨lv', ev', hl'⟩ := HOC.out
        obtain ⟨g', c', rfl⟩ := hl'.val
        have h := ev'; simp only [Value.agg.injEq] at h; simp at h; exact ⟨h.1, h.2.1, h.2.2.2.1⟩
      have hb := HWF.out.1
      have HC := hid (HFIN.out 2 nm gk mk ck rfl (by rw [hmk]; exact HTT.out) (by have := hb.1; omega) (by have := hb.2.1; omega) (by have := hb.2.2.1; omega) _ ((Below.refl _ w4).alloc (Nat.le_refl _) (Obj.cells #[.int .i64 2, .int .i64 nm, .slice gk mk ck] 47)))
      clear hb hmk
      go_wp2_with fail
      refine HC.out.mono ?_
      rintro e w5 ⟨rfl, hb5⟩
      have HB5 : Hid (Below w.heap.size w w5) := (HB4.out.1.alloc HB4.out.1.size _).trans (hb5.mono (by have := HB4.out.1.size; simp; omega))
      clear hb5 HC
      go_wp2_with fail
      go_ret2
      exact ⟨rfl, HB5.out⟩
end Go.Proofs.YtjamknejllbmkaaGreatDoor

namespace Go.Proofs.YtjamknejllbmkaaGreatDoor
open Go.RowKit
set_option linter.unusedVariables false

/-- Head at the small program. -/
theorem head_small (B : Nat) (fn : Int) (ga : Option Addr) (na ca : Nat) (xs : List ByteArray) (fuel : Int) (T : Wdn) (E : Int) (w : World) (hB : SmallAt w B) (hna : xs.length = na) (hx : Tm.Txts w ga xs) (hs : ∀ x ∈ xs, x.size ≤ 1000) (hl : xs.length ≤ 3) (hw : Tm.Lw w) (hT : hdT smallL fn (Tm.lst xs) fuel = T) (hE : hdE smallL fn (Tm.lst xs) fuel = E) :
    Calls Tryz.prog 8 #[.agg #[.slice (some ⟨B + 10, 0, none⟩) 2 2], .int .i64 fn, .slice ga na ca, .int .i64 fuel] w fun e w' => e = .returned (.tuple #[.string ⟨T.toArray⟩, .int .i64 E]) ∧ Below w.heap.size w w' := by
  subst hna
  have h := head_any (some ⟨B + 10, 0, none⟩) 2 smallL fn ga ca xs fuel w hB.defs hx (fun x h => Nat.le_trans (hs x h) (by decide)) hw (by omega)
  rw [hT, hE] at h
  exact h
theorem wk0 : hdT smallL 0 (Tm.lst []) 50 = [57] ∧ hdE smallL 0 (Tm.lst []) 50 = 0 := by decide +kernel
theorem wk1 : hdT smallL 1 (Tm.lst [⟨#[64, 55, 40, 95, 32, 52, 41]⟩, ⟨#[53]⟩]) 50 = [57] ∧ hdE smallL 1 (Tm.lst [⟨#[64, 55, 40, 95, 32, 52, 41]⟩, ⟨#[53]⟩]) 50 = 0 := by decide +kernel
theorem wk2 : hdT smallL 1 (Tm.lst [⟨#[64, 55, 40, 49, 32, 33, 41]⟩, ⟨#[53]⟩]) 50 = [33] ∧ hdE smallL 1 (Tm.lst [⟨#[64, 55, 40, 49, 32, 33, 41]⟩, ⟨#[53]⟩]) 50 = 0 := by decide +kernel
theorem wk3 : hdT smallL 1 (Tm.lst [⟨#[95]⟩, ⟨#[53]⟩]) 50 = [] ∧ hdE smallL 1 (Tm.lst [⟨#[95]⟩, ⟨#[53]⟩]) 50 = 902 := by decide +kernel
theorem wk4 : hdT smallL 0 (Tm.lst []) 3 = [] ∧ hdE smallL 0 (Tm.lst []) 3 = 901 := by decide +kernel
theorem wk5 : hdT smallL 1 (Tm.lst [⟨#[53]⟩]) 50 = [] ∧ hdE smallL 1 (Tm.lst [⟨#[53]⟩]) 50 = 900 := by decide +kernel

set_option maxHeartbeats 4000000 in
set_option maxRecDepth 100000 in
theorem awake9 (w : World) (hw : Tm.Lw w) : Calls Tryz.prog 7 #[] w fun e w' => e = .returned (.bool true) ∧ Below w.heap.size w w' := by
  have HB0 : Hid (Below w.heap.size w w) := Below.refl _ _
  have HW := hid hw
  clear hw
  go_enter Tryz.func7, Tryz.ntmps7
  go_wp2_with fail
  refine (small_any _).mono ?_
  rintro e u0 ⟨rfl, hs0, hb0, hz0⟩
  have HS0 := hid hs0
  have HU0 : Hid (Below w.heap.size w u0) := HB0.out.trans (hb0.mono HB0.out.size)
  clear hs0 hb0 hz0
  go_wp2_with fail
  refine (head_small _ 0 none 0 0 [] 50 _ _ u0 HS0.out rfl (Or.inl rfl) (fun x h => by cases h) (by decide) (Tm.Lw.on HW.out HU0.out) wk0.1 wk0.2).mono ?_
  rintro e v0 ⟨rfl, hb0⟩
  have HB1 : Hid (Below w.heap.size w v0) := HU0.out.trans (hb0.mono HU0.out.size)
  clear hb0
  go_wp2_with fail
  refine (small_any _).mono ?_
  rintro e u1 ⟨rfl, hs1, hb1, hz1⟩
  have HS1 := hid hs1
  have HU1 : Hid (Below w.heap.size w u1) := HB1.out.trans (hb1.mono HB1.out.size)
  clear hs1 hb1 hz1
  go_wp2_with fail
  have HT1 : Hid (Below w.heap.size w (u1.alloc (Obj.cells #[.string ⟨#[64, 55, 40, 95, 32, 52, 41]⟩, .string ⟨#[53]⟩] 9))) := HU1.out.alloc HU1.out.size _
  refine (head_small _ 1 (some ⟨u1.heap.size, 0, none⟩) 2 2 [⟨#[64, 55, 40, 95, 32, 52, 41]⟩, ⟨#[53]⟩] 50 _ _ (u1.alloc (Obj.cells #[.string ⟨#[64, 55, 40, 95, 32, 52, 41]⟩, .string ⟨#[53]⟩] 9)) (HS1.out.on ((Below.refl _ _).alloc (Nat.le_refl _) _)) rfl (Tm.new_txts u1 [⟨#[64, 55, 40, 95, 32, 52, 41]⟩, ⟨#[53]⟩]) (by decide) (by decide) (Tm.Lw.on HW.out HT1.out) wk1.1 wk1.2).mono ?_
  rintro e v1 ⟨rfl, hb1⟩
  have HB2 : Hid (Below w.heap.size w v1) := HT1.out.trans (hb1.mono HT1.out.size)
  clear hb1
  go_wp2_with fail
  refine (small_any _).mono ?_
  rintro e u2 ⟨rfl, hs2, hb2, hz2⟩
  have HS2 := hid hs2
  have HU2 : Hid (Below w.heap.size w u2) := HB2.out.trans (hb2.mono HB2.out.size)
  clear hs2 hb2 hz2
  go_wp2_with fail
  have HT2 : Hid (Below w.heap.size w (u2.alloc (Obj.cells #[.string ⟨#[64, 55, 40, 49, 32, 33, 41]⟩, .string ⟨#[53]⟩] 9))) := HU2.out.alloc HU2.out.size _
  refine (head_small _ 1 (some ⟨u2.heap.size, 0, none⟩) 2 2 [⟨#[64, 55, 40, 49, 32, 33, 41]⟩, ⟨#[53]⟩] 50 _ _ (u2.alloc (Obj.cells #[.string ⟨#[64, 55, 40, 49, 32, 33, 41]⟩, .string ⟨#[53]⟩] 9)) (HS2.out.on ((Below.refl _ _).alloc (Nat.le_refl _) _)) rfl (Tm.new_txts u2 [⟨#[64, 55, 40, 49, 32, 33, 41]⟩, ⟨#[53]⟩]) (by decide) (by decide) (Tm.Lw.on HW.out HT2.out) wk2.1 wk2.2).mono ?_
  rintro e v2 ⟨rfl, hb2⟩
  have HB3 : Hid (Below w.heap.size w v2) := HT2.out.trans (hb2.mono HT2.out.size)
  clear hb2
  go_wp2_with fail
  refine (small_any _).mono ?_
  rintro e u3 ⟨rfl, hs3, hb3, hz3⟩
  have HS3 := hid hs3
  have HU3 : Hid (Below w.heap.size w u3) := HB3.out.trans (hb3.mono HB3.out.size)
  clear hs3 hb3 hz3
  go_wp2_with fail
  have HT3 : Hid (Below w.heap.size w (u3.alloc (Obj.cells #[.string ⟨#[95]⟩, .string ⟨#[53]⟩] 9))) := HU3.out.alloc HU3.out.size _
  refine (head_small _ 1 (some ⟨u3.heap.size, 0, none⟩) 2 2 [⟨#[95]⟩, ⟨#[53]⟩] 50 _ _ (u3.alloc (Obj.cells #[.string ⟨#[95]⟩, .string ⟨#[53]⟩] 9)) (HS3.out.on ((Below.refl _ _).alloc (Nat.le_refl _) _)) rfl (Tm.new_txts u3 [⟨#[95]⟩, ⟨#[53]⟩]) (by decide) (by decide) (Tm.Lw.on HW.out HT3.out) wk3.1 wk3.2).mono ?_
  rintro e v3 ⟨rfl, hb3⟩
  have HB4 : Hid (Below w.heap.size w v3) := HT3.out.trans (hb3.mono HT3.out.size)
  clear hb3
  go_wp2_with fail
  refine (small_any _).mono ?_
  rintro e u4 ⟨rfl, hs4, hb4, hz4⟩
  have HS4 := hid hs4
  have HU4 : Hid (Below w.heap.size w u4) := HB4.out.trans (hb4.mono HB4.out.size)
  clear hs4 hb4 hz4
  go_wp2_with fail
  refine (head_small _ 0 none 0 0 [] 3 _ _ u4 HS4.out rfl (Or.inl rfl) (fun x h => by cases h) (by decide) (Tm.Lw.on HW.out HU4.out) wk4.1 wk4.2).mono ?_
  rintro e v4 ⟨rfl, hb4⟩
  have HB5 : Hid (Below w.heap.size w v4) := HU4.out.trans (hb4.mono HU4.out.size)
  clear hb4
  go_wp2_with fail
  refine (small_any _).mono ?_
  rintro e u5 ⟨rfl, hs5, hb5, hz5⟩
  have HS5 := hid hs5
  have HU5 : Hid (Below w.heap.size w u5) := HB5.out.trans (hb5.mono HB5.out.size)
  clear hs5 hb5 hz5
  go_wp2_with fail
  have HT5 : Hid (Below w.heap.size w (u5.alloc (Obj.cells #[.string ⟨#[53]⟩] 9))) := HU5.out.alloc HU5.out.size _
  refine (head_small _ 1 (some ⟨u5.heap.size, 0, none⟩) 1 1 [⟨#[53]⟩] 50 _ _ (u5.alloc (Obj.cells #[.string ⟨#[53]⟩] 9)) (HS5.out.on ((Below.refl _ _).alloc (Nat.le_refl _) _)) rfl (Tm.new_txts u5 [⟨#[53]⟩]) (by decide) (by decide) (Tm.Lw.on HW.out HT5.out) wk5.1 wk5.2).mono ?_
  rintro e v5 ⟨rfl, hb5⟩
  have HB6 : Hid (Below w.heap.size w v5) := HT5.out.trans (hb5.mono HT5.out.size)
  clear hb5
  go_wp2_with (go_at_call 10; refine (Lx.num_any _ _).mono ?_; rintro e w5 ⟨rfl, rfl⟩)
  go_ret
  exact ⟨rfl, HB6.out⟩
end Go.Proofs.YtjamknejllbmkaaGreatDoor
