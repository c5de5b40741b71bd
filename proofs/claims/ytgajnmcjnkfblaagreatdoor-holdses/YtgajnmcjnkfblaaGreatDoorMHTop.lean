/- Is of package holds, at any node: a term held against what comes of a thing. -/
import Derived.Test.YtgajnmcjnkfblaaGreatDoorMNTop
import Derived.Test.YtgajnmcjnkfblaaGreatDoorMNPure

namespace Go.Proofs.YtgajnmcjnkfblaaGreatDoor
open Go.RowKit
set_option linter.unusedVariables false
attribute [local go_sem ↓] Go.wp_at_zero Go.wp_at_succ

/-- How isMet ends. -/
def HmQ (W0 : World) (gp : Option Addr) (P : List Df) (cp z : Nat) (W : World) (q : Mo × Nat) (e : Ending) (W' : World) : Prop :=
  e = .returned (.tuple #[.bool (moB q.1), .int .i64 (moE q.1)]) ∧ Es W0 gp P cp z W' q.2 ∧ Ka (Zz z) W W'
theorem HmQ.mk {W0 : World} {gp : Option Addr} {P : List Df} {cp z : Nat} {W W' : World} {q : Mo × Nat} {o : Mo} {f : Nat} {b : Bool} {c : Int} (eq : (o, f) = q) (hb : moB o = b) (hc : moE o = c) (h1 : Es W0 gp P cp z W' f) (h2 : Ka (Zz z) W W') : HmQ W0 gp P cp z W q (.returned (.tuple #[.bool b, .int .i64 c])) W' := by
  subst eq hb hc
  exact ⟨rfl, h1, h2⟩
def HmSaid (W0 : World) (gp : Option Addr) (P : List Df) (cp z m : Nat) : Prop := ∀ (f : Nat) (A : Nat → Prop) (W : World) (r : ByteArray) (u : Value) (t : Th), f ≤ 400 → r.data.toList.length < m → (Tm.whole r.data.toList).isSome = true → Es W0 gp P cp z W f → A z → (∀ k, A k → k < W.heap.size) →
  Wf P t → ThAt W0 P A W u t → Calls Tryz.prog 42 #[.string r, u, .pointer (some ⟨z, 0, none⟩)] W fun e W' => HmQ W0 gp P cp z W (mt P m f r.data.toList t) e W'
theorem mts_yesT {R : Nat → Wdn → Th → Mo × Nat} {f f1 j : Nat} {ks : List Wdn} {ps : List Th} {k : Wdn} {p : Th} (hk : ks[j]? = some k) (hp : ps[j]? = some p) (hq : R f k p = (.yes, f1)) : mts R f (ks.drop j) (ps.drop j) = mts R f1 (ks.drop (j + 1)) (ps.drop (j + 1)) := by
  obtain ⟨h1, e1⟩ := List.getElem?_eq_some_iff.1 hk
  obtain ⟨h2, e2⟩ := List.getElem?_eq_some_iff.1 hp
  rw [List.drop_eq_getElem_cons h1, List.drop_eq_getElem_cons h2, e1, e2, mts, hq]
theorem mts_stopT {R : Nat → Wdn → Th → Mo × Nat} {f f1 j : Nat} {ks : List Wdn} {ps : List Th} {k : Wdn} {p : Th} {o : Mo} (hk : ks[j]? = some k) (hp : ps[j]? = some p) (hq : R f k p = (o, f1)) (ho : moB o = false) : mts R f (ks.drop j) (ps.drop j) = (o, f1) := by
  obtain ⟨h1, e1⟩ := List.getElem?_eq_some_iff.1 hk
  obtain ⟨h2, e2⟩ := List.getElem?_eq_some_iff.1 hp
  rw [List.drop_eq_getElem_cons h1, List.drop_eq_getElem_cons h2, e1, e2, mts, hq]
  cases o with
  | yes => cases ho
  | no => rfl
  | out => rfl
/-- The texts of parts, in a row that is none of A's blocks. -/
def TxB (A : Nat → Prop) (W : World) (g : Option Addr) (ks : List Wdn) : Prop := ∀ (j : Nat) k, ks[j]? = some k → ∃ bk o, g = some ⟨bk, o, none⟩ ∧ bk < W.heap.size ∧ ¬ A bk ∧ W.cell? ⟨bk, o + j, none⟩ = some (.string ⟨k.toArray⟩)
theorem TxB.kp {A : Nat → Prop} {W W' : World} {g : Option Addr} {ks : List Wdn} (h : TxB A W g ks) (hk : Ka A W W') : TxB A W' g ks := by
  intro j k hj
  obtain ⟨bk, o, e, h1, h2, h3⟩ := h j k hj
  exact ⟨bk, o, e, Nat.lt_of_lt_of_le h1 hk.size, h2, (hk.cell h1 h2).trans h3⟩
theorem erO_toldT {o : Oc} (h : told o) : erO o = 0 := by
  cases o with
  | fuel => exact absurd rfl h.1
  | hole => exact absurd rfl h.2
  | _ => rfl

set_option maxHeartbeats 8000000 in
set_option maxRecDepth 100000 in
/-- areMet, out of isMet at shorter terms. -/
theorem are_any {W0 : World} {gp : Option Addr} {P : List Df} {cp z m : Nat} (hP : pmay P = true) (hM : HmSaid W0 gp P cp z m) {f n c cl : Nat} {A : Nat → Prop} {W : World} {g gl : Option Addr} (ks : List Wdn) (ps : List Th) (hf : f ≤ 400)
    (hl : ∀ k ∈ ks, k.length < m ∧ (Tm.whole k).isSome = true) (hn : ks.length = n) (hp : ps.length = n) (hn3 : n ≤ 3) (hs : Es W0 gp P cp z W f) (hz : A z) (hA : ∀ k, A k → k < W.heap.size) (hwf : ∀ p ∈ ps, Wf P p) (htx : TxB (Zz z) W g ks) (hls : LsAt W0 P A W (.slice gl n cl) ps) :
    Calls Tryz.prog 64 #[.slice g n c, .slice gl n cl, .pointer (some ⟨z, 0, none⟩)] W fun e W' => HmQ W0 gp P cp z W (mts (mt P m) f ks ps) e W' := by
  have HA : Hid (A z ∧ (∀ k, A k → k < W.heap.size) ∧ f ≤ 400) := ⟨hz, hA, hf⟩
  have HL : Hid ((∀ k ∈ ks, k.length < m ∧ (Tm.whole k).isSome = true) ∧ ks.length = n ∧ ps.length = n ∧ ∀ p ∈ ps, Wf P p) := ⟨hl, hn, hp, hwf⟩
  have HPM : Hid (pmay P = true) := hP
  have HM := hid hM
  have HS := hid hs
  have HTX := hid htx
  have HLS := hid hls
  obtain ⟨q0, hq0⟩ : ∃ q, mts (mt P m) f ks ps = q := ⟨_, rfl⟩
  rw [hq0]
  have HQ0 : Hid (mts (mt P m) f ks ps = q0) := hq0
  clear hP hM hf hl hn hp hs hz hA hwf htx hls hq0
  go_enter Tryz.func64, Tryz.ntmps64
  go_wp2_with fail
  go_loopw [8, 9, 10, 11, 14] (fun _ _ _ _ si wr => ∃ (j fj : Nat), j ≤ n ∧ si = .int .i64 (j : Int) ∧ fj ≤ 400 ∧ mts (mt P m) fj (ks.drop j) (ps.drop j) = q0 ∧ Hid (Es W0 gp P cp z wr fj) ∧ Hid (Ka (Zz z) W wr)) (fun _ _ _ _ si _ => n - (intOf si).toNat)
  case atStart => exact ⟨0, f, Nat.zero_le _, rfl, HA.out.2.2, HQ0.out, HS.out, Ka.refl _ _⟩
  case round =>
    obtain ⟨j, fj, hj, rfl, hfj, hmts, HRJ, HKJ⟩ := hrel
    have HMTS := hid hmts
    clear hmts
    by_cases hlt : j < n
    · have hlt' : (j : Int) < (n : Int) := by omega
      obtain ⟨kj, hkj⟩ : ∃ kj, ks[j]? = some kj := ⟨_, List.getElem?_eq_getElem (by have := HL.out.2.1; omega)⟩
      obtain ⟨pj, hpj⟩ : ∃ pj, ps[j]? = some pj := ⟨_, List.getElem?_eq_getElem (by have := HL.out.2.2.1; omega)⟩
      obtain ⟨bt, ot, e, hbt, hbtz, hc⟩ := (HTX.out.kp HKJ.out) j kj hkj
      subst e
      obtain ⟨bl, ol, cl', u, evv, hbl, hblA, hcu, hthj⟩ := (HLS.out.kp (HKJ.out.mono fun k _ e => by have e' : k = z := e; subst e'; exact HA.out.1)).at hpj
      obtain ⟨rfl, rfl⟩ : gl = some ⟨bl, ol, none⟩ ∧ cl = cl' := by simp only [Value.slice.injEq] at evv; exact ⟨evv.1, evv.2.2⟩
      obtain ⟨⟨oq, fq⟩, hq⟩ : ∃ q, mt P m fj kj pj = q := ⟨_, rfl⟩
      obtain ⟨bq, hbq⟩ : ∃ bq, moB oq = bq := ⟨_, rfl⟩
      obtain ⟨eq', heq⟩ : ∃ eq', moE oq = eq' := ⟨_, rfl⟩
      have HBQ : Hid (moB oq = bq ∧ moE oq = eq') := ⟨hbq, heq⟩
      have HCALL : Hid (Calls Tryz.prog 42 #[.string ⟨kj.toArray⟩, u, .pointer (some ⟨z, 0, none⟩)] wr fun e W' => e = .returned (.tuple #[.bool bq, .int .i64 eq']) ∧ Es W0 gp P cp z W' fq ∧ Ka (Zz z) wr W') := by
        have hp := HL.out.1 kj (List.mem_of_getElem? hkj)
        have h := HM.out fj A wr ⟨kj.toArray⟩ u pj hfj hp.1 hp.2 HRJ.out HA.out.1 (fun k hk => Nat.lt_of_lt_of_le (HA.out.2.1 k hk) HKJ.out.size) (HL.out.2.2.2 pj (List.mem_of_getElem? hpj)) hthj
        rw [show (⟨kj.toArray⟩ : ByteArray).data.toList = kj from rfl, hq] at h
        refine h.mono ?_
        rintro e w' ⟨rfl, h1, h2⟩
        exact ⟨by rw [← hbq, ← heq], h1, h2⟩
      have HFQ : Hid ((bq = true → fq ≤ 400 ∧ mts (mt P m) fq (ks.drop (j + 1)) (ps.drop (j + 1)) = q0) ∧ (bq = false → (oq, fq) = q0)) := by
        refine ⟨fun h => ?_, fun h => ?_⟩
        · have ho : oq = .yes := by cases oq with
            | yes => rfl
            | no => rw [h] at hbq; cases hbq
            | out => rw [h] at hbq; cases hbq
          subst ho
          exact ⟨Nat.le_trans (mt_le HPM.out m fj kj pj fq (HL.out.2.2.2 pj (List.mem_of_getElem? hpj)) hq) hfj, by rw [← mts_yesT hkj hpj hq]; exact HMTS.out⟩
        · rw [← mts_stopT hkj hpj hq (hbq.trans h)]; exact HMTS.out
      clear hq hkj hpj evv hthj hbq heq hblA hbtz
      go_wp2_with fail
      refine HCALL.out.mono ?_
      rintro e w6 ⟨rfl, hb6, hk6⟩
      have HB6 := hid hb6
      have HK6 := hid hk6
      clear hb6 hk6 HCALL hc hcu hbl hbt
      cases bq with
      | true =>
        obtain ⟨f4, f5⟩ := HFQ.out.1 rfl
        have HF := hid f5
        clear f5
        go_wp2_with fail
        go_roundw
        case rel => exact ⟨j + 1, fq, by omega, by go_num, f4, HF.out, HB6.out, HKJ.out.next HK6.out⟩
        case measure => simp [intOf]; omega
      | false =>
        have eq := HFQ.out.2 rfl
        go_wp2_with fail
        go_ret2
        exact HmQ.mk eq HBQ.out.1 HBQ.out.2 HB6.out (HKJ.out.next HK6.out)
    · have hlt' : ¬ (j : Int) < (n : Int) := by omega
      obtain rfl : j = n := by omega
      have eq : (.yes, fj) = q0 := by
        rw [← HMTS.out, List.drop_of_length_le (by have := HL.out.2.1; omega), List.drop_of_length_le (by have := HL.out.2.2.1; omega)]
        rfl
      go_wp2_with fail
      go_ret2
      exact HmQ.mk eq rfl rfl HRJ.out HKJ.out
theorem own_txT {A : Nat → Prop} {W : World} {B : Nat} {v : Value} {ks : List Wdn} (h : W.ownsRow B 9 1 v ks.length (ks.map Tm.S)) (hA : ∀ k, A k → k < B) : ∃ g c, v = .slice g ks.length c ∧ TxB A W g ks := by
  obtain ⟨g', c', e, hb⟩ := Lx.own_len h
  obtain ⟨g, c, e2, htx, _⟩ := Tm.own_txts h
  rw [List.length_map] at e2
  subst e2
  obtain rfl : g = g' := by simp only [Value.slice.injEq] at e; exact e.1
  refine ⟨g, c, rfl, fun j k hj => ?_⟩
  rcases htx with h1 | ⟨bk, o, h1, h2, h3⟩
  · have : ks = [] := by simpa using h1
    subst this; simp at hj
  · subst h1
    exact ⟨bk, o, rfl, h2, fun ha => by have := (hb bk rfl).1; have := hA bk ha; omega, h3 j _ (by rw [List.getElem?_map, hj]; rfl)⟩
theorem OcV.told {W0 : World} {P : List Df} {A : Nat → Prop} {W : World} {o : Oc} {v : Value} (h : OcV W0 P A W o v) (ht : told o) : ∃ g c, v = vV (ocK o) (ocN o) (.slice g (ocP o).length c) ∧ LsAt W0 P A W (.slice g (ocP o).length c) (ocP o) := by
  cases o with
  | fuel => exact absurd rfl ht.1
  | hole => exact absurd rfl ht.2
  | fail => obtain ⟨lv, rfl, hl⟩ := h; obtain ⟨g, c, rfl⟩ := hl.val; exact ⟨g, c, rfl, hl⟩
  | num m => obtain ⟨lv, rfl, hl⟩ := h; obtain ⟨g, c, rfl⟩ := hl.val; exact ⟨g, c, rfl, hl⟩
  | con x ps => obtain ⟨lv, rfl, hl⟩ := h; obtain ⟨g, c, rfl⟩ := hl.val; exact ⟨g, c, rfl, hl⟩
/-- A thing, evaluated, by its kind. -/
theorem thing_ev {W0 : World} {gp : Option Addr} {P : List Df} {cp z f : Nat} {A : Nat → Prop} {W : World} {u : Value} {t : Th} (hf : f ≤ 400) (hs : Es W0 gp P cp z W f) (hz : A z) (hA : ∀ k, A k → k < W.heap.size) (hwf : Wf P t) (hth : ThAt W0 P A W u t) :
    (∃ s, u = .iface 126 (.string s) ∧ Calls Tryz.prog 162 #[.string s, .pointer (some ⟨z, 0, none⟩)] W fun e W' => EvQ W0 gp P cp z A W (ev P 400 f t) e W') ∨
    (∃ gb nb cb a gl ml cl, u = .iface 98 (prtV (.slice gb nb cb) a (.slice gl ml cl)) ∧ Calls Tryz.prog 152 #[prtV (.slice gb nb cb) a (.slice gl ml cl), .pointer (some ⟨z, 0, none⟩)] W fun e W' => EvQ W0 gp P cp z A W (ev P 400 f t) e W') := by
  rcases hth.cases with ⟨s, rfl, rfl⟩ | ⟨pv, d, a, ls, rfl, rfl, hp⟩
  · refine Or.inl ⟨_, rfl, ?_⟩
    have hw : (Tm.whole s).isSome = true := by cases hwf with | giv _ h => exact h
    have h := given_at (A := A) s hs hA hw
    have e : ev P 400 f (.giv s) = (givO s, f) := by unfold ev; rfl
    rw [e]; exact h
  · obtain ⟨gb, nb, cb, gl, ml, cl, rfl⟩ := hp.valN
    exact Or.inr ⟨_, _, _, _, _, _, _, rfl, ev_said 400 (by decide) f A W _ d a ls hf hs hz hA hwf hp⟩

set_option maxHeartbeats 8000000 in
set_option maxRecDepth 100000 in
theorem met_step {W0 : World} {gp : Option Addr} {P : List Df} {cp z m : Nat} (hP : pmay P = true) (hM : HmSaid W0 gp P cp z m) : HmSaid W0 gp P cp z (m + 1) := by
  intro f A W r u t hf hl hr hs hz hA hwf hth
  obtain ⟨⟨k, x, ks⟩, hw⟩ := Option.isSome_iff_exists.1 hr
  have hsz : r.size ≤ 140737488355328 := by
    have h := (Tm.whole_some hw).1
    rw [Array.length_toList] at h
    show r.data.size ≤ _
    omega
  have hzW := hs.lt
  have HCU : Hid (Calls Tryz.prog 63 #[.string r] W fun e w' => ∃ g c, e = .returned (.tuple #[.int .i64 k, .int .i64 x, .slice g ks.length c, .int .i64 0]) ∧ TxB (Zz z) w' g ks ∧ Below W.heap.size W w') := by
    refine (Tm.cut_any Tm.atoi_said Tm.itoa_said Tm.clone_said r W hsz hs.lwW).mono ?_
    rintro e w' ⟨k', x', v, er, rfl, _, hb, hg⟩
    rw [hw] at hg
    obtain ⟨rfl, rfl, rfl, ho⟩ := hg
    obtain ⟨g, c, rfl, htx⟩ := own_txT (A := Zz z) ho (fun k e => by have e' : k = z := e; omega)
    exact ⟨g, c, rfl, htx, hb⟩
  have HW : Hid (Tm.whole r.data.toList = some (k, x, ks) ∧ r.data.toList.length < m + 1) := ⟨hw, hl⟩
  have HA : Hid (A z ∧ (∀ k, A k → k < W.heap.size) ∧ f ≤ 400 ∧ z < W.heap.size) := ⟨hz, hA, hf, hzW⟩
  have HWF := hid hwf
  have HS := hid hs
  have HTH := hid hth
  have HM := hid hM
  have HPM : Hid (pmay P = true) := hP
  obtain ⟨q0, hq0⟩ : ∃ q, mt P (m + 1) f r.data.toList t = q := ⟨_, rfl⟩
  rw [hq0]
  have HQ0 : Hid (mt P (m + 1) f r.data.toList t = q0) := hq0
  obtain ⟨n, hn⟩ : ∃ n, ks.length = n := ⟨_, rfl⟩
  have HN := hid hn
  rw [hn] at HCU
  have hn3 : n ≤ 3 := by have h := (Tm.whole_parts hw).2.2; omega
  clear hf hl hr hs hz hA hwf hth hw hsz hM hP hq0 hn hzW
  go_enter Tryz.func42, Tryz.ntmps42
  go_wp2_with fail
  refine HCU.out.mono ?_
  rintro e w1 ⟨g, c, rfl, htx, hb1⟩
  have HB1 := hid hb1
  have HTX := hid htx
  have HS1 := hid (HS.out.next HB1.out)
  clear htx hb1 HCU
  by_cases h0 : k = 0
  · subst h0
    have eq : (.yes, f) = q0 := by rw [← HQ0.out, mt_hole HW.out.1]
    go_wp2_with fail
    go_ret2
    exact HmQ.mk eq rfl rfl HS1.out (Ka.of_below HB1.out)
  · have h0' : (k == 0) = false := by simp [h0]
    have hev := thing_ev HA.out.2.2.1 HS1.out HA.out.1 (fun k hk => Nat.lt_of_lt_of_le (HA.out.2.1 k hk) HB1.out.size) HWF.out (HTH.out.kp (Ka.of_below HB1.out))
    have hwf2 := ev_wf HPM.out 400 f t HWF.out
    obtain ⟨⟨o, f1⟩, he⟩ : ∃ q, ev P 400 f t = q := ⟨_, rfl⟩
    have HE : Hid (ev P 400 f t = (o, f1)) := he
    rw [he] at hev hwf2
    have HWO : Hid (o.Wf P ∧ f1 ≤ f) := hwf2
    have HK0 : Hid (k ≠ 0) := h0
    clear he hwf2 h0
    rcases hev with ⟨s, rfl, hev⟩ | ⟨gb, nb, cb, a, gl, ml, cl, rfl, hev⟩
    all_goals
      have HEV := hid hev
      have hm85 := meth85
      have hm56 := meth56
      clear hev
      go_wp2_with fail
      clear hm85 hm56
      refine HEV.out.mono ?_
      rintro e w2 ⟨v, rfl, ho, hs2, hk1⟩
      simp only at ho hs2
      simp only
      have HK1 : Hid (Ka (Zz z) W w2) := (Ka.of_below HB1.out).next hk1
      have HTX2 := hid (HTX.out.kp hk1)
      have HS2 := hid hs2
      clear hk1 HTX HEV hs2
      have HEN : Hid (∀ o : Obj, Es W0 gp P cp z (w2.alloc o) f1 ∧ Ka (Zz z) W (w2.alloc o)) := fun o => ⟨HS2.out.next ((Below.refl _ w2).alloc (Nat.le_refl _) _), HK1.out.next (Ka.of_below ((Below.refl _ w2).alloc (Nat.le_refl _) _))⟩
      by_cases hu : o = .fuel
      · subst hu
        obtain rfl : v = vV 0 0 (.slice none 0 0) := ho
        have eq : (.out, f1) = q0 := by rw [← HQ0.out, mt, HW.out.1]; simp only; rw [if_neg HK0.out, HE.out]
        have he1 : erO .fuel = 901 := rfl
        rw [he1]
        go_wp2_with fail
        go_ret2
        exact HmQ.mk eq rfl rfl (HEN.out _).1 (HEN.out _).2
      · by_cases hh : o = .hole
        · subst hh
          obtain rfl : v = vV 0 0 (.slice none 0 0) := ho
          have eq : (.no, f1) = q0 := by rw [← HQ0.out, mt, HW.out.1]; simp only; rw [if_neg HK0.out, HE.out]
          have he1 : erO .hole = 902 := rfl
          rw [he1]
          go_wp2_with fail
          go_ret2
          exact HmQ.mk eq rfl rfl (HEN.out _).1 (HEN.out _).2
        · have ht : told o := ⟨hu, hh⟩
          obtain ⟨g1, c1, rfl, hls⟩ := ho.told ht
          rw [erO_toldT ht]
          have hno : ¬ (ocK o = k ∧ ocN o = x ∧ (ocP o).length = n) → (.no, f1) = q0 := fun h => by
            rw [← HQ0.out, mt_told HW.out.1 HK0.out HE.out ht, if_neg]
            rw [HN.out]; exact h
          have hyes : ocK o = k ∧ ocN o = x ∧ (ocP o).length = n → mts (mt P m) f1 ks (ocP o) = q0 := fun h => by
            rw [← HQ0.out, mt_told HW.out.1 HK0.out HE.out ht, if_pos]
            rw [HN.out]; exact h
          have HARE : Hid ((ocP o).length = n → ∀ V, Below w2.heap.size w2 V → Calls Tryz.prog 64 #[.slice g n c, .slice g1 n c1, .pointer (some ⟨z, 0, none⟩)] V fun e W' => HmQ W0 gp P cp z V (mts (mt P m) f1 ks (ocP o)) e W') := by
            intro hlen V hV
            rw [hlen] at hls
            exact are_any HPM.out HM.out ks (ocP o) (Nat.le_trans HWO.out.2 HA.out.2.2.1) (fun k hk => by
              have h := (Tm.whole_parts HW.out.1).1 k hk
              have h2 := HW.out.2
              exact ⟨by have := h.2; omega, h.1⟩) HN.out hlen hn3 (HS2.out.next hV) HA.out.1 (fun k hk => Nat.lt_of_lt_of_le (Nat.lt_of_lt_of_le (HA.out.2.1 k hk) HK1.out.size) hV.size) (ocP_wf HWO.out.1) (HTX2.out.kp (Ka.of_below hV)) (hls.kp (Ka.of_below hV))
          have HNO := hid hno
          have HYES := hid hyes
          obtain ⟨kd, hkd⟩ : ∃ kd, ocK o = kd := ⟨_, rfl⟩
          obtain ⟨nm, hnm⟩ : ∃ nm, ocN o = nm := ⟨_, rfl⟩
          obtain ⟨mk, hmk⟩ : ∃ mk, (ocP o).length = mk := ⟨_, rfl⟩
          rw [hkd, hnm, hmk] at HNO HYES ⊢
          rw [hmk] at HARE
          clear ho hu hh ht hls hno hyes hkd hnm hmk
          by_cases c1' : kd = k
          · subst c1'
            have b1 : (kd != kd) = false := by simp
            have b1' : (kd == kd) = true := by simp
            by_cases c2' : nm = x
            · subst c2'
              have b2 : (nm != nm) = false := by simp
              have b2' : (nm == nm) = true := by simp
              by_cases c3' : mk = n
              · subst c3'
                have HC := hid (HARE.out rfl _ ((Below.refl _ w2).alloc (Nat.le_refl _) (Obj.cells #[.int .i64 kd, .int .i64 nm, .slice g1 mk c1] 71)))
                have hqy := HYES.out ⟨rfl, rfl, rfl⟩
                rw [hqy] at HC
                clear HARE HNO HYES hqy
                go_wp2_with fail
                refine HC.out.mono ?_
                rintro e w6 ⟨rfl, hs6, hk6⟩
                have HS6 : Hid (Es W0 gp P cp z w6 q0.2 ∧ Ka (Zz z) W w6) := ⟨hs6, (HEN.out _).2.next hk6⟩
                clear hs6 hk6 HC
                go_wp2_with fail
                go_ret2
                exact ⟨rfl, HS6.out.1, HS6.out.2⟩
              · have b3 : ((mk : Int) != (n : Int)) = true := by simp; omega
                have b3' : ((mk : Int) == (n : Int)) = false := by simp; omega
                have b3n : (mk == n) = false := by simp [c3']
                have eq := HNO.out (fun h => c3' h.2.2)
                go_wp2_with fail
                go_ret2
                exact HmQ.mk eq rfl rfl (HEN.out _).1 (HEN.out _).2
            · have b2 : (nm != x) = true := by simp [c2']
              have b2' : (nm == x) = false := by simp [c2']
              have eq := HNO.out (fun h => c2' h.2.1)
              go_wp2_with fail
              go_ret2
              exact HmQ.mk eq rfl rfl (HEN.out _).1 (HEN.out _).2
          · have b1 : (kd != k) = true := by simp [c1']
            have b1' : (kd == k) = false := by simp [c1']
            have eq := HNO.out (fun h => c1' h.1)
            go_wp2_with fail
            go_ret2
            exact HmQ.mk eq rfl rfl (HEN.out _).1 (HEN.out _).2
/-- isMet, whatever the term's length. -/
theorem met_said {W0 : World} {gp : Option Addr} {P : List Df} {cp z : Nat} (hP : pmay P = true) : ∀ m, HmSaid W0 gp P cp z m
  | 0 => fun f A W r u t _ hl => absurd hl (Nat.not_lt_zero _)
  | m + 1 => met_step hP (met_said hP m)

set_option maxHeartbeats 4000000 in
set_option maxRecDepth 100000 in
/-- Is, at any node. -/
theorem holds_any (g : Option Addr) (c : Nat) (ds : List Df) (fn par : Int) (ga : Option Addr) (ca : Nat) (xs : List ByteArray) (res : ByteArray) (fuel : Int) (w : World) (hd : Defs Exs w g ds) (hx : Tm.Txts w ga xs) (hs : ∀ x ∈ xs, x.size ≤ 140737488355328) (hlx : xs.length ≤ 4611686018427387904) (hrs : res.size ≤ 140737488355328) (hw : Tm.Lw w) :
    Calls Tryz.prog 21 #[.agg #[.slice g ds.length c], .agg #[.int .i64 fn, .int .i64 par, .slice ga xs.length ca, .string res], .int .i64 fuel] w fun e w' => e = .returned (.tuple #[.bool (hdsB ds fn (Tm.lst xs) res.data.toList fuel), .int .i64 (hdsE ds fn (Tm.lst xs) res.data.toList fuel)]) ∧ Below w.heap.size w w' := by
  have HCA : Hid (∀ W, Below w.heap.size w W → Calls Tryz.prog 28 #[.agg #[.slice g ds.length c], .int .i64 fn, .slice ga xs.length ca, .int .i64 fuel] W fun e w' => CallQ W g c ds fn.toNat (Tm.lst xs) fuel.toNat (askB ds fn (Tm.lst xs) fuel) e w') := fun W h => call_any g c ds fn ga ca xs fuel W (hd.on h) (hx.on h) hs (Tm.Lw.on hw h) hlx
  have HTM : Hid (∀ W, Below w.heap.size w W → Calls Tryz.prog 41 #[.string res] W fun e w' => e = .returned (.bool (Tm.whole res.data.toList).isSome) ∧ Below W.heap.size W w') := fun W h => Tm.tmay_any Tm.atoi_said Tm.itoa_said res W hrs (Tm.Lw.on hw h)
  have HBP : Hid (∀ o : Obj, Bx 24 ((w.alloc (.cells #[.slice g ds.length c] 24)).alloc o) w.heap.size #[.slice g ds.length c]) := fun o => (Bx.new 24 w _).alloc o
  have HBN : Hid (∀ o : Obj, Bx 52 ((w.alloc o).alloc (.cells #[.int .i64 fn, .int .i64 par, .slice ga xs.length ca, .string res] 52)) (w.heap.size + 1) #[.int .i64 fn, .int .i64 par, .slice ga xs.length ca, .string res]) := fun o => by
    have h := Bx.new 52 (w.alloc o) #[.int .i64 fn, .int .i64 par, .slice ga xs.length ca, .string res]
    rw [World.size_alloc] at h; exact h
  have HB0 : Hid (∀ o1 o2 : Obj, Below w.heap.size w ((w.alloc o1).alloc o2)) := fun o1 o2 => ((Below.refl _ w).alloc (Nat.le_refl _) _).alloc (by simp) _
  obtain ⟨B, hB⟩ : ∃ B, hdsB ds fn (Tm.lst xs) res.data.toList fuel = B := ⟨_, rfl⟩
  obtain ⟨E, hE⟩ : ∃ E, hdsE ds fn (Tm.lst xs) res.data.toList fuel = E := ⟨_, rfl⟩
  rw [hB, hE]
  have HBE : Hid (hdsB ds fn (Tm.lst xs) res.data.toList fuel = B ∧ hdsE ds fn (Tm.lst xs) res.data.toList fuel = E) := ⟨hB, hE⟩
  obtain ⟨n, hn⟩ : ∃ n, ds.length = n := ⟨_, rfl⟩
  obtain ⟨m, hm⟩ : ∃ m, xs.length = m := ⟨_, rfl⟩
  obtain ⟨tk, htk⟩ : ∃ b, (Tm.whole res.data.toList).isSome = b := ⟨_, rfl⟩
  have HTK := hid htk
  rw [hn, hm] at HCA
  rw [hn] at HBP ⊢
  rw [hm] at HBN ⊢
  rw [htk] at HTM
  clear hd hx hs hlx hrs hB hE hn hm htk hw
  go_enter Tryz.func21, Tryz.ntmps21
  go_wp2_with fail
  refine grabK (fun U => Hid (Below w.heap.size w U) ∧ Hid (Bx 24 U w.heap.size #[.slice g n c]) ∧ Hid (Bx 52 U (w.heap.size + 1) #[.int .i64 fn, .int .i64 par, .slice ga m ca, .string res])) ⟨HB0.out _ _, HBP.out _, HBN.out _⟩ (fun U hU => ?_)
  obtain ⟨HU, HPB, HNB⟩ := hU
  refine (HCA.out _ HU.out).mono ?_
  rintro e w1 (⟨hak, rfl, hb1⟩ | ⟨hak, z, gb, nb, cb, a, gl, ml, cl, rfl, hp, hes, hb1⟩)
  all_goals
    have HB1 : Hid (Below w.heap.size w w1) := HU.out.trans (hb1.mono HU.out.size)
    have HN1 := hid (HNB.out.next hb1)
    have x0 : w1.cell? ⟨w.heap.size + 1, 0, none⟩ = some (.int .i64 fn) := HN1.out.cell 0 _ rfl
    have x2 : w1.cell? ⟨w.heap.size + 1, 2, none⟩ = some (.slice ga m ca) := HN1.out.cell 2 _ rfl
    have x3 : w1.cell? ⟨w.heap.size + 1, 3, none⟩ = some (.string res) := HN1.out.cell 3 _ rfl
    have xl := HN1.out.lt
    have HAK := hid hak
  · have HR : Hid (B = false ∧ E = 1000) := by
      refine ⟨?_, ?_⟩
      · rw [← HBE.out.1]; unfold hdsB hdsA; rw [hak]; rfl
      · rw [← HBE.out.2]; unfold hdsE hdsA; rw [hak]; rfl
    clear hb1 HCA hak HBP HBN HB0 HTM
    go_wp2_with fail
    go_ret2
    exact ⟨by rw [HR.out.1, HR.out.2]; rfl, HB1.out⟩
  · obtain ⟨hpm, hf0, ⟨df, hdf, hpar⟩, hal, hu0, hu4, hwf⟩ := ask_parts HAK.out
    obtain ⟨f, hf⟩ : ∃ f, fuel.toNat = f := ⟨_, rfl⟩
    obtain ⟨d, hdd⟩ : ∃ d, fn.toNat = d := ⟨_, rfl⟩
    obtain rfl : fuel = (f : Int) := by omega
    obtain rfl : fn = (d : Int) := by omega
    rw [hdd] at hwf hp
    rw [hf] at hes
    have HES := hid hes
    have HPT := hid hp
    have HF : Hid (f ≤ 400 ∧ Wf ds (callT ds d (Tm.lst xs)) ∧ pmay ds = true ∧ w.heap.size ≤ z) := ⟨by omega, hwf, hpm, Nat.le_trans HU.out.size hes.z0⟩
    have HO : Hid (hdsO ds (d : Int) (Tm.lst xs) res.data.toList (f : Int) = (mt ds 1025 f res.data.toList (callT ds d (Tm.lst xs))).1) := by
      show _ = _
      unfold hdsO; rfl
    have HEY : Hid (w.heap.size + 1 < z) := by
      have h1 := HNB.out.lt
      have h2 := hes.z0
      show _ < _
      omega
    clear hpm hf0 hdf hpar hal hu0 hu4 hwf hf hdd hes hp hb1 HCA hak HBP HBN HB0
    go_wp2_with fail
    refine (HTM.out w1 HB1.out).mono ?_
    rintro e w2 ⟨rfl, hb2⟩
    have HB2 : Hid (Below w.heap.size w w2) := HB1.out.trans (hb2.mono HB1.out.size)
    have HN2 := hid (HN1.out.next hb2)
    have HES2 := hid (HES.out.next hb2)
    have HPT2 := hid (HPT.out.kp (Ka.of_below hb2))
    have x0 : w2.cell? ⟨w.heap.size + 1, 0, none⟩ = some (.int .i64 (d : Int)) := HN2.out.cell 0 _ rfl
    have x2 : w2.cell? ⟨w.heap.size + 1, 2, none⟩ = some (.slice ga m ca) := HN2.out.cell 2 _ rfl
    have x3 : w2.cell? ⟨w.heap.size + 1, 3, none⟩ = some (.string res) := HN2.out.cell 3 _ rfl
    have xl := HN2.out.lt
    clear hb2 HTM HES HPT HN1
    cases tk with
    | false =>
      have HR : Hid (B = false ∧ E = 1000) := by
        refine ⟨?_, ?_⟩
        · rw [← HBE.out.1]; unfold hdsB hdsA; rw [HAK.out, HTK.out]; rfl
        · rw [← HBE.out.2]; unfold hdsE hdsA; rw [HAK.out, HTK.out]; rfl
      go_wp2_with fail
      go_ret2
      exact ⟨by rw [HR.out.1, HR.out.2]; rfl, HB2.out⟩
    | true =>
      have hrl : res.data.toList.length < 1025 := by
        obtain ⟨⟨k, x, ks⟩, hy⟩ := Option.isSome_iff_exists.1 HTK.out
        have := (Tm.whole_some hy).1
        omega
      have HC := hid (met_said HF.out.2.2.1 1025 f (Zz z) w2 res _ (callT ds d (Tm.lst xs)) HF.out.1 hrl HTK.out HES2.out rfl HES2.out.zA HF.out.2.1 HPT2.out.thing)
      have HR : Hid (moB (mt ds 1025 f res.data.toList (callT ds d (Tm.lst xs))).1 = B ∧ moE (mt ds 1025 f res.data.toList (callT ds d (Tm.lst xs))).1 = E) := by
        refine ⟨?_, ?_⟩
        · rw [← HBE.out.1]; unfold hdsB hdsA; rw [HAK.out, HTK.out, HO.out]; rfl
        · rw [← HBE.out.2]; unfold hdsE hdsA; rw [HAK.out, HTK.out, HO.out]; rfl
      clear hrl HES2 HPT2
      go_wp2_with fail
      refine HC.out.mono ?_
      rintro e w6 ⟨rfl, hs6, hk6⟩
      have HB6 : Hid (Below w.heap.size w w6) := HB2.out.trans (hk6.below HB2.out.size (fun k e => by have e' : k = z := e; have := HF.out.2.2.2; omega))
      rw [HR.out.1, HR.out.2]
      clear hs6 hk6 HC
      go_wp2_with fail
      go_ret2
      exact ⟨rfl, HB6.out⟩
end Go.Proofs.YtgajnmcjnkfblaaGreatDoor
