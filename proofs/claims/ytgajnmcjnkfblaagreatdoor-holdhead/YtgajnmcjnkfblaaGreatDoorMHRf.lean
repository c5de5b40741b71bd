/- The document's meets: a term held against a thing. · Nodes in memory; CopyNodes and SameNode of the laws. · A node that comes in, and a list of nodes: plain data, with the bounds that the sized condition gives. -/
import Derived.Test.YtgajnmcjnkfblaaGreatDoorMNRw
import Derived.Test.YtgajnmcjnkfblaaGreatDoorMNPure
import Derived.Test.YtgajnmcjnkfblaaGreatDoorMTerm
import Derived.Deep.AppendLies
import Derived.Test.YtgajnmcjnkfblaaGreatDoorMCopy
import Derived.SizedLaws
import Derived.ChangeMaps5
import Derived.Carry
import Derived.OpenShut
import Derived.Deep.Strs

namespace Go.Proofs.YtgajnmcjnkfblaaGreatDoor
open Go.RowKit
set_option linter.unusedVariables false
attribute [local go_sem ↓] Go.wp_at_zero Go.wp_at_succ

/-- Texts in a row, in none of A's blocks. -/
def TxA (A : Nat → Prop) (W : World) (g : Option Addr) (xs : List ByteArray) : Prop := xs = [] ∨ ∃ bk o, g = some ⟨bk, o, none⟩ ∧ bk < W.heap.size ∧ ¬ A bk ∧ ∀ (j : Nat) x, xs[j]? = some x → W.cell? ⟨bk, o + j, none⟩ = some (.string x)
theorem TxA.kp {A : Nat → Prop} {W W' : World} {g : Option Addr} {xs : List ByteArray} (h : TxA A W g xs) (hk : Ka A W W') : TxA A W' g xs := by
  rcases h with h | ⟨bk, o, e, h1, h2, h3⟩
  · exact Or.inl h
  · exact Or.inr ⟨bk, o, e, Nat.lt_of_lt_of_le h1 hk.size, h2, fun j x hx => (hk.cell h1 h2).trans (h3 j x hx)⟩
theorem TxA.sub {A B : Nat → Prop} {W : World} {g : Option Addr} {xs : List ByteArray} (h : TxA A W g xs) (hab : ∀ k, B k → A k) : TxA B W g xs := by
  rcases h with h | ⟨bk, o, e, h1, h2, h3⟩
  · exact Or.inl h
  · exact Or.inr ⟨bk, o, e, h1, fun hb => h2 (hab bk hb), h3⟩
theorem TxA.at {A : Nat → Prop} {W : World} {g : Option Addr} {xs : List ByteArray} (h : TxA A W g xs) {j : Nat} {x : ByteArray} (hj : xs[j]? = some x) : ∃ bk o, g = some ⟨bk, o, none⟩ ∧ bk < W.heap.size ∧ ¬ A bk ∧ W.cell? ⟨bk, o + j, none⟩ = some (.string x) := by
  rcases h with h | ⟨bk, o, h1, h2, ha, h3⟩
  · subst h; simp at hj
  · exact ⟨bk, o, h1, h2, ha, h3 j x hj⟩
theorem own_txA {A : Nat → Prop} {W : World} {B n c : Nat} {g : Option Addr} {ks : List Wdn} (h : W.ownsRow B 9 1 (.slice g n c) ks.length (ks.map Tm.S)) (hA : ∀ k, A k → k < B) : n = ks.length ∧ TxA A W g (ks.map fun k => (⟨k.toArray⟩ : ByteArray)) := by
  obtain ⟨g', c', e, hb⟩ := Lx.own_len h
  have en : n = ks.length := by cases e; simp
  refine ⟨en, ?_⟩
  rcases (own_txtsS h).2 with h1 | ⟨bk, o, h1, h2, h3⟩
  · exact Or.inl h1
  · by_cases h0 : ks = []
    · left; subst h0; rfl
    · refine Or.inr ⟨bk, o, h1, h2, fun ha => ?_, h3⟩
      subst h1
      have := (hb bk rfl).1
      have := hA bk ha
      omega
theorem ka_set {z : Nat} (U : World) (j : Nat) (v : Value) : Ka (Zz z) U (U.setCell ⟨z, j, none⟩ v) := Ka.of_grown (grown_set U z j v) (fun k e => (Option.some.inj e).symm)
def mcode : Mo → Int
  | .out => 901
  | _ => 0
/-- How it ends. -/
def MtQ (gp : Option Addr) (P : List Df) (cp z : Nat) (W : World) (q : Mo × Nat) (e : Ending) (W' : World) : Prop :=
  e = .returned (.bool (moB q.1)) ∧ Bx 77 W' z (nmC gp P.length cp (q.2 : Int) (mcode q.1)) ∧ Ka (Zz z) W W'
theorem MtQ.mk {gp : Option Addr} {P : List Df} {cp z : Nat} {W W' : World} {q : Mo × Nat} {o : Mo} {f : Nat} {b : Bool} {c : Int} (eq : (o, f) = q) (hb : moB o = b) (hc : mcode o = c) (h1 : Bx 77 W' z (nmC gp P.length cp (f : Int) c)) (h2 : Ka (Zz z) W W') : MtQ gp P cp z W q (.returned (.bool b)) W' := by
  subst eq hb hc
  exact ⟨rfl, h1, h2⟩
def MtSaid (W0 : World) (gp : Option Addr) (P : List Df) (cp z m : Nat) : Prop := ∀ (f : Nat) (A : Nat → Prop) (W : World) (r : ByteArray) (us : List Value) (t : Th), f ≤ 400 → r.data.toList.length < m → (Tm.whole r.data.toList).isSome = true → Rs W0 gp P cp z W f → A z → (∀ k, A k → k < W.heap.size) →
  Wf P t → RTh A W us t → Calls Tryz.prog 43 #[.pointer (some ⟨z, 0, none⟩), .string r, .agg us.toArray] W fun e W' => MtQ gp P cp z W (mt P m f r.data.toList t) e W'
theorem erO_told {o : Oc} (h : told o) : erO o = 0 := by
  cases o with
  | fuel => exact absurd rfl h.1
  | hole => exact absurd rfl h.2
  | _ => rfl
theorem mts_yes {R : Nat → Wdn → Th → Mo × Nat} {f f1 j : Nat} {ks : List Wdn} {ps : List Th} {k : Wdn} {p : Th} (hk : ks[j]? = some k) (hp : ps[j]? = some p) (hq : R f k p = (.yes, f1)) : mts R f (ks.drop j) (ps.drop j) = mts R f1 (ks.drop (j + 1)) (ps.drop (j + 1)) := by
  obtain ⟨h1, e1⟩ := List.getElem?_eq_some_iff.1 hk
  obtain ⟨h2, e2⟩ := List.getElem?_eq_some_iff.1 hp
  rw [List.drop_eq_getElem_cons h1, List.drop_eq_getElem_cons h2, e1, e2, mts, hq]
theorem mts_stop {R : Nat → Wdn → Th → Mo × Nat} {f f1 j : Nat} {ks : List Wdn} {ps : List Th} {k : Wdn} {p : Th} {o : Mo} (hk : ks[j]? = some k) (hp : ps[j]? = some p) (hq : R f k p = (o, f1)) (ho : moB o = false) : mts R f (ks.drop j) (ps.drop j) = (o, f1) := by
  obtain ⟨h1, e1⟩ := List.getElem?_eq_some_iff.1 hk
  obtain ⟨h2, e2⟩ := List.getElem?_eq_some_iff.1 hp
  rw [List.drop_eq_getElem_cons h1, List.drop_eq_getElem_cons h2, e1, e2, mts, hq]
  cases o with
  | yes => cases ho
  | no => rfl
  | out => rfl
/-- Cells that stay. -/
def Lk (L : List (Nat × Nat × Value)) (V : World) : Prop := ∀ q ∈ L, q.1 < V.heap.size ∧ V.cell? ⟨q.1, q.2.1, none⟩ = some q.2.2
theorem Lk.below {L : List (Nat × Nat × Value)} {V V' : World} (h : Lk L V) (hb : Below V.heap.size V V') : Lk L V' := fun q hq =>
  ⟨Nat.lt_of_lt_of_le (h q hq).1 hb.size, (hb.cell (p := ⟨q.1, q.2.1, none⟩) (h q hq).1).trans (h q hq).2⟩
theorem Lk.drew {L : List (Nat × Nat × Value)} {V : World} (h : Lk L V) : Lk L V.drew := h.below (Below.refl _ V).drew
theorem Lk.ka {A : Nat → Prop} {L : List (Nat × Nat × Value)} {V V' : World} (h : Lk L V) (hk : Ka A V V') (hn : ∀ q ∈ L, ¬ A q.1) : Lk L V' := fun q hq =>
  ⟨Nat.lt_of_lt_of_le (h q hq).1 hk.size, (hk.cell (h q hq).1 (hn q hq)).trans (h q hq).2⟩
theorem Lk.all {b1 b2 b3 b4 b5 b6 b7 j1 j2 j3 j4 j5 j6 j7 : Nat} {v1 v2 v3 v4 v5 v6 v7 : Value} {V : World} (h : Lk [(b1, j1, v1), (b2, j2, v2), (b3, j3, v3), (b4, j4, v4), (b5, j5, v5), (b6, j6, v6), (b7, j7, v7)] V) : Lk [(b1, j1, v1), (b2, j2, v2), (b3, j3, v3), (b4, j4, v4), (b5, j5, v5), (b6, j6, v6), (b7, j7, v7)] V ∧ V.cell? ⟨b1, j1, none⟩ = some v1 ∧ V.cell? ⟨b2, j2, none⟩ = some v2 ∧ V.cell? ⟨b3, j3, none⟩ = some v3 ∧ V.cell? ⟨b4, j4, none⟩ = some v4 ∧ V.cell? ⟨b5, j5, none⟩ = some v5 ∧ V.cell? ⟨b6, j6, none⟩ = some v6 ∧ V.cell? ⟨b7, j7, none⟩ = some v7 :=
  ⟨h, (h (b1, j1, v1) (by simp)).2, (h (b2, j2, v2) (by simp)).2, (h (b3, j3, v3) (by simp)).2, (h (b4, j4, v4) (by simp)).2, (h (b5, j5, v5) (by simp)).2, (h (b6, j6, v6) (by simp)).2, (h (b7, j7, v7) (by simp)).2⟩
set_option maxHeartbeats 8000000 in
set_option maxRecDepth 100000 in
theorem meets_step {W0 : World} {gp : Option Addr} {P : List Df} {cp z m : Nat} (hP : pmay P = true) (hM : MtSaid W0 gp P cp z m) : MtSaid W0 gp P cp z (m + 1) := by
  intro f A W r us t hf hl hr hs hz hA hwf hth
  obtain ⟨⟨k, x, ks⟩, hw⟩ := Option.isSome_iff_exists.1 hr
  obtain ⟨u0, u1, u2, u3, u4, rfl⟩ := five hth.five
  have hsz : r.size ≤ 140737488355328 := by
    have h := (Tm.whole_some hw).1
    rw [Array.length_toList] at h
    show r.data.size ≤ _
    omega
  obtain ⟨bas, hbas⟩ : ∃ bas : List ByteArray, (ks.map fun k => (⟨k.toArray⟩ : ByteArray)) = bas := ⟨_, rfl⟩
  have HBAS : Hid ((ks.map fun k => (⟨k.toArray⟩ : ByteArray)) = bas) := hbas
  have HCU : Hid (∀ V, Calls Tryz.prog 18 #[.string r] V fun e w' => ∃ g c, e = .returned (.tuple #[.int .i64 k, .int .i64 x, .slice g ks.length c, .int .i64 0]) ∧ TxA (fun b => b < V.heap.size) w' g bas ∧ Below V.heap.size V w') := by
    intro V
    refine (Tm.rcut_any r V hsz).mono ?_
    rintro e w' ⟨k', x', v, er, rfl, ⟨g, n, c, rfl⟩, hb, hg⟩
    rw [hw] at hg
    obtain ⟨rfl, rfl, rfl, ho⟩ := hg
    obtain ⟨rfl, htx⟩ := own_txA (A := fun b => b < V.heap.size) ho (fun k h => h)
    rw [hbas] at htx
    exact ⟨g, c, rfl, htx, hb⟩
  have hzW := hs.lt
  have HW : Hid (Tm.whole r.data.toList = some (k, x, ks) ∧ r.data.toList.length < m + 1) := ⟨hw, hl⟩
  have HA : Hid (A z ∧ (∀ k, A k → k < W.heap.size) ∧ f ≤ 400 ∧ z < W.heap.size) := ⟨hz, hA, hf, hzW⟩
  have HWF := hid hwf
  have HS := hid hs
  have HTH := hid hth
  have HM := hid hM
  have HPM : Hid (pmay P = true) := hP
  obtain ⟨q0, hq0⟩ : ∃ q, mt P (m + 1) f r.data.toList t = q := ⟨_, rfl⟩
  rw [hq0]
  have HQ0 : Hid (mt P (m + 1) f r.data.toList t = q0) := hq0
  obtain ⟨n, hn⟩ : ∃ n, ks.length = n := ⟨_, rfl⟩
  have HN := hid hn
  rw [hn] at HCU
  have hn3 : n ≤ 3 := by have h := (Tm.whole_parts hw).2.2; omega
  have HB0 : Hid (Below W.heap.size W (W.alloc (Obj.cells #[u0, u1, u2, u3, u4] 83))) := (Below.refl _ W).alloc (Nat.le_refl _) _
  have HT0 := hid (Bx.new 83 W #[u0, u1, u2, u3, u4])
  clear hbas hf hl hr hs hz hA hwf hth hw hsz hM hP hq0 hn
  go_enter Tryz.func43, Tryz.ntmps43
  go_wp2_with fail
  refine (HCU.out _).mono ?_
  rintro e w1 ⟨g, c, rfl, htx, hb1⟩
  have HB1 : Hid (Below W.heap.size W w1) := HB0.out.trans (hb1.mono HB0.out.size)
  have HT1 := hid (HT0.out.next hb1)
  have HTX : Hid (TxA (Zz z) w1 g bas) := htx.sub (fun b e => by have e' : b = z := e; have h1 := HA.out.2.2.2; have h2 := HB0.out.size; omega)
  have HS1 := hid (HS.out.next HB1.out)
  have t0 := HT1.out.cell 0 u0 rfl
  have t1 := HT1.out.cell 1 u1 rfl
  have t2 := HT1.out.cell 2 u2 rfl
  have t3 := HT1.out.cell 3 u3 rfl
  have t4 := HT1.out.cell 4 u4 rfl
  have tl := HT1.out.lt
  clear htx hb1 HCU HT0
  by_cases h0 : k = 0
  · subst h0
    have eq : (.yes, f) = q0 := by rw [← HQ0.out, mt_hole HW.out.1]
    go_wp2_with fail
    go_ret
    exact MtQ.mk eq rfl rfl HS1.out.box (Ka.of_below HB1.out)
  · have h0' : (k == 0) = false := by simp [h0]
    have HEV : Hid (Calls Tryz.prog 31 #[.pointer (some ⟨z, 0, none⟩), .agg #[u0, u1, u2, u3, u4]] w1 fun e W' => RvQ gp P cp z A w1 (ev P 400 f t) e W') :=
      rv_said 400 (by decide) f A w1 [u0, u1, u2, u3, u4] t HA.out.2.2.1 HS1.out HA.out.1 (fun k hk => Nat.lt_of_lt_of_le (HA.out.2.1 k hk) HB1.out.size) HWF.out (HTH.out.kp (Ka.of_below HB1.out))
    have hwf2 := ev_wf HPM.out 400 f t HWF.out
    obtain ⟨⟨o, f1⟩, he⟩ : ∃ q, ev P 400 f t = q := ⟨_, rfl⟩
    have HE : Hid (ev P 400 f t = (o, f1)) := he
    rw [he] at HEV hwf2
    have HWO : Hid (o.Wf P ∧ f1 ≤ f) := hwf2
    have HK0 : Hid (k ≠ 0) := h0
    clear he hwf2 h0
    go_wp2_with fail
    refine HEV.out.mono ?_
    rintro e w2 ⟨g1, c1, rfl, hl1, hbx, hk1⟩
    simp only at hl1 hbx
    obtain ⟨kd, hkd⟩ : ∃ kd, ocK o = kd := ⟨_, rfl⟩
    obtain ⟨nm, hnm⟩ : ∃ nm, ocN o = nm := ⟨_, rfl⟩
    obtain ⟨mk, hmk⟩ : ∃ mk, (ocP o).length = mk := ⟨_, rfl⟩
    rw [hmk] at hl1
    simp only [hkd, hnm, hmk]
    have HL1 := hid hl1
    have HBX := hid hbx
    have HK1 : Hid (Ka (Zz z) W w2) := (Ka.of_below HB1.out).next hk1
    have HTX2 := hid (HTX.out.kp hk1)
    have HON : Hid (ocK o = kd ∧ ocN o = nm ∧ (ocP o).length = mk) := ⟨hkd, hnm, hmk⟩
    have zl := hbx.lt
    clear hl1 hbx hk1 HTX HT1 t0 t1 t2 t3 t4 tl HEV hkd hnm hmk
    by_cases hh : o = .hole
    · subst hh
      have z2 : w2.cell? ⟨z, 2, none⟩ = some (.int .i64 902) := HBX.out.cell 2 _ rfl
      have zf := HBX.out.frozen 2
      have eq : (.no, f1) = q0 := by rw [← HQ0.out, mt, HW.out.1]; simp only; rw [if_neg HK0.out, HE.out]
      go_wp2_with fail
      go_ret
      refine MtQ.mk eq rfl rfl ?_ ?_
      · first | exact (HBX.out.alloc _).set 2 _ | exact (HBX.out.set 2 _).alloc _
      · first | exact (HK1.out.next (Ka.of_below ((Below.refl _ w2).alloc (Nat.le_refl _) _))).next (ka_set _ _ _) | exact (HK1.out.next (ka_set _ _ _)).next (Ka.of_below ((Below.refl _ _).alloc (Nat.le_refl _) _))
    · by_cases hu : o = .fuel
      · subst hu
        have z2 : w2.cell? ⟨z, 2, none⟩ = some (.int .i64 901) := HBX.out.cell 2 _ rfl
        have eq : (.out, f1) = q0 := by rw [← HQ0.out, mt, HW.out.1]; simp only; rw [if_neg HK0.out, HE.out]
        go_wp2_with fail
        go_ret
        exact MtQ.mk eq rfl rfl (HBX.out.alloc _) (HK1.out.next (Ka.of_below ((Below.refl _ w2).alloc (Nat.le_refl _) _)))
      · have ht : told o := ⟨hu, hh⟩
        have z2 : w2.cell? ⟨z, 2, none⟩ = some (.int .i64 0) := HBX.out.cell 2 _ (by show some (Value.int .i64 (erO o)) = _; rw [erO_told ht])
        have HRS2 : Hid (Rs W0 gp P cp z w2 f1) := HS.out.kp HK1.out (by have h := HBX.out; rw [erO_told ht] at h; exact h)
        have HTO := hid ht
        clear ht hh hu HBX
        have hno : ¬ (kd = k ∧ nm = x ∧ mk = n) → (.no, f1) = q0 := fun h => by
          rw [← HQ0.out, mt_told HW.out.1 HK0.out HE.out HTO.out, if_neg]
          rw [HON.out.1, HON.out.2.1, HON.out.2.2, HN.out]; exact h
        have HNO := hid hno
        have HEN : Hid (Bx 77 (w2.alloc (Obj.cells #[.int .i64 kd, .int .i64 nm, .slice g1 mk c1] 80)) z (nmC gp P.length cp (f1 : Int) 0) ∧ Ka (Zz z) W (w2.alloc (Obj.cells #[.int .i64 kd, .int .i64 nm, .slice g1 mk c1] 80))) := ⟨HRS2.out.box.alloc _, HK1.out.next (Ka.of_below ((Below.refl _ w2).alloc (Nat.le_refl _) _))⟩
        clear hno
        by_cases c1' : kd = k
        · subst c1'
          have b1 : (kd != kd) = false := by simp
          have b1' : (kd == kd) = true := by simp
          by_cases c2' : nm = x
          · subst c2'
            have b2 : (nm != nm) = false := by simp
            have b2' : (nm == nm) = true := by simp
            by_cases c3' : mk = n
            · subst c3'
              have hyes : mts (mt P m) f1 ks (ocP o) = q0 := by
                rw [← HQ0.out, mt_told HW.out.1 HK0.out HE.out HTO.out, if_pos ⟨HON.out.1, HON.out.2.1, HON.out.2.2.trans HN.out.symm⟩]
              have HYES := hid hyes
              have HY0 := hid (Bx.new 80 w2 #[.int .i64 kd, .int .i64 nm, .slice g1 mk c1])
              have hal := (Below.refl w2.heap.size w2).alloc (Nat.le_refl _) (Obj.cells #[.int .i64 kd, .int .i64 nm, .slice g1 mk c1] 80)
              have HU0 : Hid (Rs W0 gp P cp z (w2.alloc (Obj.cells #[.int .i64 kd, .int .i64 nm, .slice g1 mk c1] 80)) f1 ∧ Ka (Zz z) W (w2.alloc (Obj.cells #[.int .i64 kd, .int .i64 nm, .slice g1 mk c1] 80)) ∧ TxA (Zz z) (w2.alloc (Obj.cells #[.int .i64 kd, .int .i64 nm, .slice g1 mk c1] 80)) g bas ∧ RLs A (w2.alloc (Obj.cells #[.int .i64 kd, .int .i64 nm, .slice g1 mk c1] 80)) (.slice g1 mk c1) (ocP o)) :=
                ⟨HRS2.out.next hal, HK1.out.next (Ka.of_below hal), HTX2.out.kp (Ka.of_below hal), HL1.out.kp (Ka.of_below hal)⟩
              clear hyes hal HNO HEN
              go_wp2_with fail
              obtain ⟨Y, hY⟩ : ∃ Y, w2.heap.size = Y := ⟨_, rfl⟩
              have hYz : Y ≠ z := by omega
              rw [hY] at HY0
              refine grabW (fun U => Hid (Rs W0 gp P cp z U f1) ∧ Hid (Ka (Zz z) W U) ∧ Hid (Bx 80 U Y #[.int .i64 kd, .int .i64 nm, .slice g1 mk c1]) ∧ Hid (TxA (Zz z) U g bas) ∧ Hid (RLs A U (.slice g1 mk c1) (ocP o))) ⟨HU0.out.1, HU0.out.2.1, HY0, HU0.out.2.2.1, HU0.out.2.2.2⟩ (fun U hU => ?_)
              obtain ⟨HRU, HKU, HYU, HTU, HLU⟩ := hU
              simp only [hY]
              clear hY HY0 HU0 z2 zl HRS2 HTX2 HL1 HK1 b1 b1' b2 b2'
              go_loopw [6, 12] (fun s6 si wr => s6 = .bool false ∧ ∃ (j fj : Nat), j ≤ mk ∧ si = .int .i64 (j : Int) ∧ fj ≤ 400 ∧ mts (mt P m) fj (ks.drop j) ((ocP o).drop j) = q0 ∧ Hid (Rs W0 gp P cp z wr fj) ∧ Hid (Ka (Zz z) U wr)) (fun _ si _ => mk - (intOf si).toNat)
              case atStart => exact ⟨rfl, 0, f1, Nat.zero_le _, rfl, Nat.le_trans HWO.out.2 HA.out.2.2.1, HYES.out, HRU.out, Ka.refl _ _⟩
              case round =>
                obtain ⟨rfl, j, fj, hj, rfl, hfj, hmts, HRJ, HKJ⟩ := hrel
                have hyb := HYU.out.kp HKJ.out (fun e => hYz e)
                have y0 : wr.cell? ⟨Y, 0, none⟩ = some (.int .i64 kd) := hyb.cell 0 _ rfl
                have y1 : wr.cell? ⟨Y, 1, none⟩ = some (.int .i64 nm) := hyb.cell 1 _ rfl
                have y2 : wr.cell? ⟨Y, 2, none⟩ = some (.slice g1 mk c1) := hyb.cell 2 _ rfl
                have yl := hyb.lt
                clear hyb
                have HMTS := hid hmts
                clear hmts
                by_cases hlt : j < mk
                · have hlt' : (j : Int) < (mk : Int) := by omega
                  obtain ⟨kj, hkj⟩ : ∃ kj, ks[j]? = some kj := ⟨_, List.getElem?_eq_getElem (by have := HN.out; omega)⟩
                  obtain ⟨pj, hpj⟩ : ∃ pj, (ocP o)[j]? = some pj := ⟨_, List.getElem?_eq_getElem (by have := HON.out.2.2; omega)⟩
                  obtain ⟨bt, ot, e, hbt, hbtz, hc⟩ := (HTU.out.kp HKJ.out).at (j := j) (x := ⟨kj.toArray⟩) (by rw [← HBAS.out, List.getElem?_map, hkj]; rfl)
                  subst e
                  obtain ⟨bl, ol, cl, v0, v1, v2, v3, v4, evv, hbl, hblA, ⟨d0, d1, d2, d3, d4⟩, hthj⟩ := (HLU.out.kp (HKJ.out.mono fun k _ e => by have e' : k = z := e; subst e'; exact HA.out.1)).pick hpj
                  obtain ⟨rfl, rfl⟩ : g1 = some ⟨bl, ol, none⟩ ∧ c1 = cl := by simp only [Value.slice.injEq] at evv; exact ⟨evv.1, evv.2.2⟩
                  obtain ⟨⟨oq, fq⟩, hq⟩ : ∃ q, mt P m fj kj pj = q := ⟨_, rfl⟩
                  obtain ⟨bq, hbq⟩ : ∃ bq, moB oq = bq := ⟨_, rfl⟩
                  have HBQ := hid hbq
                  have HCALL : Hid (∀ V, Below wr.heap.size wr V → Calls Tryz.prog 43 #[.pointer (some ⟨z, 0, none⟩), .string ⟨kj.toArray⟩, .agg #[v0, v1, v2, v3, v4]] V fun e W' => e = .returned (.bool bq) ∧ Bx 77 W' z (nmC gp P.length cp (fq : Int) (mcode oq)) ∧ Ka (Zz z) wr W') := by
                    intro V hV
                    have hp := (Tm.whole_parts HW.out.1).1 kj (List.mem_of_getElem? hkj)
                    have h := HM.out fj A V ⟨kj.toArray⟩ [v0, v1, v2, v3, v4] pj hfj (by have h1 := hp.2; have h2 := HW.out.2; show kj.length < m; omega) hp.1 (HRJ.out.next hV) HA.out.1 (fun k hk => Nat.lt_of_lt_of_le (Nat.lt_of_lt_of_le (Nat.lt_of_lt_of_le (HA.out.2.1 k hk) HKU.out.size) HKJ.out.size) hV.size) (ocP_wf HWO.out.1 pj (List.mem_of_getElem? hpj)) (hthj.kp (Ka.of_below hV))
                    rw [show (⟨kj.toArray⟩ : ByteArray).data.toList = kj from rfl, hq] at h
                    refine h.mono ?_
                    rintro e w' ⟨rfl, h1, h2⟩
                    exact ⟨by rw [← hbq], h1, (Ka.of_below hV).next h2⟩
                  have HLK : Hid (Lk [(Y, 2, .slice (some ⟨bl, ol, none⟩) mk c1), (bt, ot + j, .string ⟨kj.toArray⟩), (bl, ol + j * 5, v0), (bl, ol + j * 5 + 1, v1), (bl, ol + j * 5 + 2, v2), (bl, ol + j * 5 + 3, v3), (bl, ol + j * 5 + 4, v4)] wr ∧ ∀ q ∈ ([(Y, 2, .slice (some ⟨bl, ol, none⟩) mk c1), (bt, ot + j, .string ⟨kj.toArray⟩), (bl, ol + j * 5, v0), (bl, ol + j * 5 + 1, v1), (bl, ol + j * 5 + 2, v2), (bl, ol + j * 5 + 3, v3), (bl, ol + j * 5 + 4, v4)] : List (Nat × Nat × Value)), ¬ Zz z q.1) := by
                    have hz1 : ¬ Zz z Y := fun e => hYz e
                    have hz2 : ¬ Zz z bl := fun e => hblA (by have e' : bl = z := e; rw [e']; exact HA.out.1)
                    refine ⟨fun q hq => ?_, fun q hq => ?_⟩
                    · simp only [List.mem_cons, List.not_mem_nil, or_false] at hq
                      rcases hq with rfl | rfl | rfl | rfl | rfl | rfl | rfl
                      · exact ⟨yl, y2⟩
                      · exact ⟨hbt, hc⟩
                      · exact ⟨hbl, d0⟩
                      · exact ⟨hbl, d1⟩
                      · exact ⟨hbl, d2⟩
                      · exact ⟨hbl, d3⟩
                      · exact ⟨hbl, d4⟩
                    · simp only [List.mem_cons, List.not_mem_nil, or_false] at hq
                      rcases hq with rfl | rfl | rfl | rfl | rfl | rfl | rfl
                      · exact hz1
                      · exact hbtz
                      all_goals exact hz2
                  have HFQ : Hid ((bq = true → fq ≤ 400 ∧ mts (mt P m) fq (ks.drop (j + 1)) ((ocP o).drop (j + 1)) = q0 ∧ mcode oq = 0) ∧ (bq = false → (oq, fq) = q0)) := by
                    refine ⟨fun h => ?_, fun h => ?_⟩
                    · have ho : oq = .yes := by cases oq with
                        | yes => rfl
                        | no => rw [h] at hbq; cases hbq
                        | out => rw [h] at hbq; cases hbq
                      subst ho
                      exact ⟨Nat.le_trans (mt_le HPM.out m fj kj pj fq (ocP_wf HWO.out.1 pj (List.mem_of_getElem? hpj)) hq) hfj, by rw [← mts_yes hkj hpj hq]; exact HMTS.out, rfl⟩
                    · rw [← mts_stop hkj hpj hq (hbq.trans h)]; exact HMTS.out
                  clear hq hkj hpj evv hthj hbq hbl hblA hbt hbtz y0 y1 y2 hc d0 d1 d2 d3 d4
                  obtain ⟨_, e1, e2, e3, e4, e5, e6, e7⟩ := HLK.out.1.all
                  go_wp2_with fail
                  go_region_held3 (fun V => Lk [(Y, 2, .slice (some ⟨bl, ol, none⟩) mk c1), (bt, ot + j, .string ⟨kj.toArray⟩), (bl, ol + j * 5, v0), (bl, ol + j * 5 + 1, v1), (bl, ol + j * 5 + 2, v2), (bl, ol + j * 5 + 3, v3), (bl, ol + j * 5 + 4, v4)] V ∧ V.cell? ⟨Y, 2, none⟩ = some (.slice (some ⟨bl, ol, none⟩) mk c1) ∧ V.cell? ⟨bt, ot + j, none⟩ = some (.string ⟨kj.toArray⟩) ∧ V.cell? ⟨bl, ol + j * 5, none⟩ = some v0 ∧ V.cell? ⟨bl, ol + j * 5 + 1, none⟩ = some v1 ∧ V.cell? ⟨bl, ol + j * 5 + 2, none⟩ = some v2 ∧ V.cell? ⟨bl, ol + j * 5 + 3, none⟩ = some v3 ∧ V.cell? ⟨bl, ol + j * 5 + 4, none⟩ = some v4)
                    (exact Lk.all (by repeat (first | exact HL3.out | exact HLK.out.1 | (with_reducible refine Lk.drew ?_))))
                    ((go_at_call 43; refine (HCALL.out _ (Below.refl _ _).drew).mono ?_; rintro e w6 ⟨rfl, hb6, hk6⟩; have HL3 : Hid (Lk [(Y, 2, .slice (some ⟨bl, ol, none⟩) mk c1), (bt, ot + j, .string ⟨kj.toArray⟩), (bl, ol + j * 5, v0), (bl, ol + j * 5 + 1, v1), (bl, ol + j * 5 + 2, v2), (bl, ol + j * 5 + 3, v3), (bl, ol + j * 5 + 4, v4)] w6) := HLK.out.1.ka hk6 HLK.out.2; have HB6 := hid hb6; have HK6 := hid hk6; clear hb6 hk6))
                  all_goals
                    clear e1 e2 e3 e4 e5 e6 e7 HLK HL3 HCALL
                    cases bq with
                    | true =>
                      obtain ⟨f4, f5, f6⟩ := HFQ.out.1 rfl
                      have HF := hid f5
                      have HC6 := hid f6
                      clear f5 f6
                      go_wp2_with fail
                      go_roundw
                      case rel => exact ⟨rfl, j + 1, fq, by omega, by go_num, f4, HF.out, HRJ.out.kp HK6.out (by rw [← HC6.out]; exact HB6.out), HKJ.out.next HK6.out⟩
                      case measure => simp [intOf]; omega
                    | false =>
                      have eq := HFQ.out.2 rfl
                      go_wp2_with fail
                      go_ret
                      exact MtQ.mk eq HBQ.out rfl HB6.out (HKU.out.next (HKJ.out.next HK6.out))
                · have hlt' : ¬ (j : Int) < (mk : Int) := by omega
                  obtain rfl : j = mk := by omega
                  have eq : (.yes, fj) = q0 := by
                    rw [← HMTS.out, List.drop_of_length_le (by have := HN.out; omega), List.drop_of_length_le (by have := HON.out.2.2; omega)]
                    rfl
                  go_wp2_with fail
                  go_ret
                  exact MtQ.mk eq rfl rfl HRJ.out.box (HKU.out.next HKJ.out)
            · have b3 : ((mk : Int) != (n : Int)) = true := by simp; omega
              have b3' : ((mk : Int) == (n : Int)) = false := by simp; omega
              have b3n : (mk == n) = false := by simp [c3']
              have eq := HNO.out (fun h => c3' h.2.2)
              go_wp2_with fail
              go_ret
              exact MtQ.mk eq rfl rfl HEN.out.1 HEN.out.2
          · have b2 : (nm != x) = true := by simp [c2']
            have b2' : (nm == x) = false := by simp [c2']
            have eq := HNO.out (fun h => c2' h.2.1)
            go_wp2_with fail
            go_ret
            exact MtQ.mk eq rfl rfl HEN.out.1 HEN.out.2
        · have b1 : (kd != k) = true := by simp [c1']
          have b1' : (kd == k) = false := by simp [c1']
          have eq := HNO.out (fun h => c1' h.1)
          go_wp2_with fail
          go_ret
          exact MtQ.mk eq rfl rfl HEN.out.1 HEN.out.2
/-- meets, whatever the term's length. -/
theorem meets_said {W0 : World} {gp : Option Addr} {P : List Df} {cp z : Nat} (hP : pmay P = true) : ∀ m, MtSaid W0 gp P cp z m
  | 0 => fun f A W r us t _ hl => absurd hl (Nat.not_lt_zero _)
  | m + 1 => meets_step hP (meets_said hP m)
end Go.Proofs.YtgajnmcjnkfblaaGreatDoor

namespace Go.Proofs.YtgajnmcjnkfblaaGreatDoor
open Go.RowKit
set_option linter.unusedVariables false
attribute [local go_sem ↓] Go.wp_at_zero Go.wp_at_succ

/-- A node, in plain words. -/
structure Nd where
  fn : Int
  par : Int
  args : List ByteArray
  res : ByteArray
theorem Tryz.infoNn : (Tryz.prog.info? 52).map (fun i => (i.zero, i.size, i.bytes)) = some (some (.agg #[.int .i64 0, .int .i64 0, .slice none 0 0, .string ⟨#[]⟩]), 4, 56) := by kernel_rfl
theorem Tryz.info9n : (Tryz.prog.info? 9).map (fun i => (i.zero, i.size, i.bytes)) = some (some (.string ⟨#[]⟩), 1, 16) := by kernel_rfl
/-- A list of texts that comes in. -/
def StI (w : World) (g : Option Addr) (xs : List ByteArray) (c : Nat) : Prop :=
  (g = none ∧ xs = [] ∧ c = 0) ∨ (xs = [] ∧ ∃ a, g = some a) ∨ ∃ bk o, g = some ⟨bk, o, none⟩ ∧ bk < w.heap.size ∧ ∀ (j : Nat) x, xs[j]? = some x → w.cell? ⟨bk, o + j, none⟩ = some (.string x)
theorem StI.on {w w' : World} {g : Option Addr} {xs : List ByteArray} {c : Nat} (h : StI w g xs c) (hb : Below w.heap.size w w') : StI w' g xs c := by
  rcases h with h | h | ⟨bk, o, e, h1, h2⟩
  · exact Or.inl h
  · exact Or.inr (Or.inl h)
  · exact Or.inr (Or.inr ⟨bk, o, e, Nat.lt_of_lt_of_le h1 hb.size, fun j x hx => (hb.cell (p := ⟨bk, o + j, none⟩) h1).trans (h2 j x hx)⟩)
theorem StI.txts {w : World} {g : Option Addr} {xs : List ByteArray} {c : Nat} (h : StI w g xs c) : Tm.Txts w g xs := by
  rcases h with ⟨_, e, _⟩ | ⟨e, _⟩ | h
  · exact Or.inl e
  · exact Or.inl e
  · exact Or.inr h
theorem TxA.txts {A : Nat → Prop} {W : World} {g : Option Addr} {xs : List ByteArray} (h : TxA A W g xs) : Tm.Txts W g xs := by
  rcases h with h | ⟨bk, o, h1, h2, _, h3⟩
  · exact Or.inl h
  · exact Or.inr ⟨bk, o, h1, h2, h3⟩
/-- A node's four cells. -/
def NdA (A : Nat → Prop) (W : World) (us : List Value) (n : Nd) : Prop := ∃ ga ca, us = [.int .i64 n.fn, .int .i64 n.par, .slice ga n.args.length ca, .string n.res] ∧ TxA A W ga n.args
theorem NdA.kp {A : Nat → Prop} {W W' : World} {us : List Value} {n : Nd} (h : NdA A W us n) (hk : Ka A W W') : NdA A W' us n := by
  obtain ⟨ga, ca, e, h⟩ := h
  exact ⟨ga, ca, e, h.kp hk⟩
theorem NdA.avoid {A B : Nat → Prop} {W : World} {us : List Value} {n : Nd} (h : NdA A W us n) (hab : ∀ k, B k → A k ∨ W.heap.size ≤ k) : NdA B W us n := by
  obtain ⟨ga, ca, e, h⟩ := h
  refine ⟨ga, ca, e, ?_⟩
  rcases h with h | ⟨bk, o, h1, h2, h3, h4⟩
  · exact Or.inl h
  · exact Or.inr ⟨bk, o, h1, h2, fun hb => by rcases hab bk hb with h | h; exact h3 h; omega, h4⟩
theorem NdA.four {A : Nat → Prop} {W : World} {us : List Value} {n : Nd} (h : NdA A W us n) : us.length = 4 := by obtain ⟨_, _, rfl, _⟩ := h; rfl
theorem NdA.ones {A : Nat → Prop} {W : World} {us : List Value} {n : Nd} (h : NdA A W us n) : ∀ u ∈ us, u.oneCell' = true := by
  obtain ⟨ga, ca, rfl, _⟩ := h
  intro u hu
  simp only [List.mem_cons, List.not_mem_nil, or_false] at hu
  rcases hu with rfl | rfl | rfl | rfl <;> rfl
/-- Nodes told in an own row, while it grows. -/
def NGr (B : Nat) (W : World) (v : Value) (ns : List Nd) : Prop :=
  ∃ us : List (List Value), W.ownsRow B 52 4 v us.length us.flatten ∧ us.length = ns.length ∧ ∀ (j : Nat) u n, us[j]? = some u → ns[j]? = some n → NdA (fun k => v.ownBlock = some k ∨ k < B) W u n
theorem NGr.nil (B : Nat) (W : World) : NGr B W (.slice none 0 0) [] := ⟨[], World.ownsRow_nil _ _ _ _, rfl, fun j u n hu => by simp at hu⟩
theorem NGr.next {B : Nat} {W W' : World} {v : Value} {ns : List Nd} (h : NGr B W v ns) (hb : Below W.heap.size W W') : NGr B W' v ns := by
  obtain ⟨us, h1, h2, h3⟩ := h
  exact ⟨us, Lx.own_below h1 hb, h2, fun j u n hu hn => (h3 j u n hu hn).kp (Ka.of_below hb)⟩
theorem NGr.val {B : Nat} {W : World} {v : Value} {ns : List Nd} (h : NGr B W v ns) : ∃ g c, v = .slice g ns.length c := by
  obtain ⟨us, h1, h2, _⟩ := h
  obtain ⟨g, c, e, _⟩ := Lx.own_len h1
  rw [h2] at e
  exact ⟨g, c, e⟩
theorem flat4_at : ∀ {us : List (List Value)}, (∀ u ∈ us, u.length = 4) → ∀ {j : Nat} {u : List Value}, us[j]? = some u → ∀ {i : Nat} {x : Value}, u[i]? = some x → us.flatten[j * 4 + i]? = some x
  | [], _, j, u, h, i, x, _ => by simp at h
  | v :: us, h4, 0, u, h, i, x, hx => by
    have e : v = u := by simpa using h
    subst e
    rw [List.flatten_cons, Nat.zero_mul, Nat.zero_add, List.getElem?_append_left (List.getElem?_eq_some_iff.1 hx).1]
    exact hx
  | v :: us, h4, j + 1, u, h, i, x, hx => by
    have hv : v.length = 4 := h4 v (by simp)
    rw [List.flatten_cons, List.getElem?_append_right (by omega), hv, show (j + 1) * 4 + i - 4 = j * 4 + i by omega]
    exact flat4_at (fun y hy => h4 y (by simp [hy])) (by simpa using h) hx
/-- A node of an own row: its cells. -/
theorem NGr.at {B : Nat} {W : World} {v : Value} {ns : List Nd} (h : NGr B W v ns) {j : Nat} {n : Nd} (hj : ns[j]? = some n) :
    ∃ bk c ga ca, v = .slice (some ⟨bk, 0, none⟩) ns.length c ∧ bk < W.heap.size ∧ (W.cell? ⟨bk, j * 4, none⟩ = some (.int .i64 n.fn) ∧ W.cell? ⟨bk, j * 4 + 1, none⟩ = some (.int .i64 n.par) ∧ W.cell? ⟨bk, j * 4 + 2, none⟩ = some (.slice ga n.args.length ca) ∧ W.cell? ⟨bk, j * 4 + 3, none⟩ = some (.string n.res)) ∧ Tm.Txts W ga n.args := by
  obtain ⟨us, h1, h2, h3⟩ := h
  have hlt : j < us.length := by rw [h2]; exact (List.getElem?_eq_some_iff.1 hj).1
  have hu : us[j]? = some us[j] := List.getElem?_eq_getElem hlt
  have h4 : ∀ u ∈ us, u.length = 4 := by
    intro u hu
    obtain ⟨i, hi⟩ := List.getElem?_of_mem hu
    have hl : i < ns.length := by rw [← h2]; exact (List.getElem?_eq_some_iff.1 hi).1
    exact (h3 i u _ hi (List.getElem?_eq_getElem hl)).four
  obtain ⟨ga, ca, e, ht⟩ := h3 j _ n hu hj
  rw [e] at hu
  have hc := h1
  rcases h1.2 with ⟨_, hm⟩ | ⟨b, cap, cur, ev, hb, hh, _⟩
  · have hl := flat4_at h4 hu (i := 0) rfl
    have : us.flatten.length = 0 := by
      have := congrArg List.length (List.length_eq_zero_iff.1 (show us.length = 0 by first | exact hm | (have := List.length_eq_zero_iff.2 hm; omega)))
      omega
    omega
  · subst ev
    have hk : ∀ i x, ([.int .i64 n.fn, .int .i64 n.par, .slice ga n.args.length ca, .string n.res] : List Value)[i]? = some x → W.cell? ⟨b, j * 4 + i, none⟩ = some x := fun i x hx => by
      have := hc.cells (g := b) rfl _ _ (flat4_at h4 hu hx)
      rw [Lib.add_plain, Nat.zero_add] at this
      exact this
    refine ⟨b, cap, ga, ca, by rw [h2], (Array.getElem?_eq_some_iff.1 hh).1, ⟨hk 0 _ rfl, hk 1 _ rfl, hk 2 _ rfl, hk 3 _ rfl⟩, ht.txts⟩
theorem NGr.put {B : Nat} {W W' : World} {v v' : Value} {u : List Value} {us : List (List Value)} {ns : List Nd} {n : Nd} (h2 : us.length = ns.length) (h3 : ∀ (j : Nat) u n, us[j]? = some u → ns[j]? = some n → NdA (fun k => v.ownBlock = some k ∨ k < B) W u n)
    (hu : NdA (fun k => v.ownBlock = some k ∨ k < B) W u n) (h4 : W'.ownsRow B 52 4 v' (us ++ [u]).length (us ++ [u]).flatten) (hg : W.grownBy W' v.ownBlock) (hv : v'.ownBlock = v.ownBlock ∨ v'.ownBlock = some W.heap.size) : NGr B W' v' (ns ++ [n]) := by
  have hk : ∀ {x : List Value} {l : Nd}, NdA (fun k => v.ownBlock = some k ∨ k < B) W x l → NdA (fun k => v'.ownBlock = some k ∨ k < B) W' x l := by
    intro x l hx
    refine ((hx.avoid (B := fun k => (v.ownBlock = some k ∨ k < B) ∨ v'.ownBlock = some k) ?_).kp (Ka.of_grown hg (fun k hk => Or.inl (Or.inl hk)))).avoid (fun k hk => hk.elim (fun h => Or.inl (Or.inr h)) (fun h => Or.inl (Or.inl (Or.inr h))))
    rintro k (hk | hk)
    · exact Or.inl hk
    · rcases hv with e | e
      · exact Or.inl (Or.inl (by rw [← e]; exact hk))
      · rw [e] at hk; have := Option.some.inj hk; right; omega
  refine ⟨us ++ [u], h4, by simp [h2], fun j x l hx hl => ?_⟩
  by_cases hj : j < us.length
  · rw [List.getElem?_append_left hj] at hx
    rw [List.getElem?_append_left (by omega)] at hl
    exact hk (h3 j x l hx hl)
  · rw [List.getElem?_append_right (by omega)] at hx
    rw [List.getElem?_append_right (by omega), ← h2] at hl
    cases hm : j - us.length with
    | zero => rw [hm] at hx hl; simp at hx hl; subst hx; subst hl; exact hk hu
    | succ m => rw [hm] at hx; simp at hx
/-- The append of one node that lies in a new block. -/
theorem wpList_putN {W : World} {ops : Array Oper} {rest : List Oper} {o : Oper} {a : Act} {Q : Exit → Act → World → Prop} (hgd : o.guard = none) (s x : Operand)
    (ho : o.op = .call { callee := .builtin .append, args := #[s, x], argTypes := #[53, 53] }) (B : Nat) (v : Value) (cs : Array Value) (u : List Value) (hcs : cs.toList = u) (ns : List Nd) (n : Nd) (hs : a.eval s = v) (hG : NGr B W v ns) (hu : NdA (fun k => v.ownBlock = some k ∨ k < B) W u n) (hB : B ≤ W.heap.size) (hlen : (ns.length + 1) * 56 ≤ 140737488355328)
    (q : Nat) (hq : W.heap.size = q) (hx : a.eval x = .slice (some ⟨q, 0, none⟩) 1 1)
    (h : ∀ g c w', NGr B w' (.slice g (ns.length + 1) c) (ns ++ [n]) → Below B W w' → wpList Tryz.prog ops Q rest (a.put o.dst (.slice g (ns.length + 1) c)) w') : wpList Tryz.prog ops Q (o :: rest) a (W.alloc (.cells cs 52)) := by
  subst hq
  obtain ⟨i0, hi, hz0, hz1, hz2⟩ := info_parts Tryz.infoNn
  obtain ⟨us, h1, h2, h3⟩ := hG
  have ha : Below W.heap.size W (W.alloc (.cells cs 52)) := (Below.refl _ W).alloc (Nat.le_refl _) _
  refine wpList_append_own_at _ hgd s x 53 ho B 52 i0 _ 4 56 Tryz.underlying53 hi hz0 hz1 hz2 rfl (by decide) v us.length us.flatten hs (h1.alloc _) ⟨W.heap.size, 0, none⟩ 1 1 u hx (by rw [hu.four]) (fun j y hj => ?_) hu.ones (by unfold maxLen; omega) (by omega) (by rw [World.size_alloc]; omega) ?_
  · rw [Lib.add_plain, Nat.zero_add]
    refine cell_new W cs 52 j y ?_
    rw [← hcs] at hj
    simpa using hj
  · intro v' w' h5 h6 _ h7
    obtain ⟨g, c', e, _⟩ := Lx.own_len h5
    subst e
    have e1 : us.flatten ++ u = (us ++ [u]).flatten := by simp
    have e2 : us.length + 1 = (us ++ [u]).length := by simp
    have hgr : NGr B w' (.slice g (us.length + 1) c') (ns ++ [n]) := by
      refine NGr.put (W := W.alloc (.cells cs 52)) h2 (fun j u l hu hl => (h3 j u l hu hl).kp (Ka.of_below ha)) (hu.kp (Ka.of_below ha)) ?_ h6 h7
      rw [← e1, ← e2]
      exact h5
    have hbel : Below B W w' := (ha.mono hB).grown h6 (by rw [World.size_alloc]; omega) (fun k hk => (World.ownsRow.lt h1 k hk).1)
    have := h g c' w' (by rw [← h2]; exact hgr) hbel
    rw [← h2] at this
    exact this
/-- A list of texts put behind an own one. -/
theorem wp_cat9 {W : World} {o : Oper} {a : Act} {K : Act → World → Prop} {Q : Exit → Act → World → Prop} (s x : Operand)
    (ho : o.op = .call { callee := .builtin .append, args := #[s, x], argTypes := #[25, 25] }) (B : Nat) (v : Value) (ga : Option Addr) (ca : Nat) (ys : List ByteArray) (hs : a.eval s = v) (hx : a.eval x = .slice ga ys.length ca) (hG : W.ownsRow B 9 1 v 0 []) (hi' : StI W ga ys ca) (hB : B ≤ W.heap.size) (hlen : ys.length * 16 ≤ 140737488351232)
    (h : ∀ g c w', w'.ownsRow B 9 1 (.slice g ys.length c) ys.length (ys.map Value.string) → Below B W w' → K (a.put o.dst (.slice g ys.length c)) w') : Oper.wp Tryz.prog o a W K Q := by
  obtain ⟨i0, hi, hz0, hz1, hz2⟩ := info_parts Tryz.info9n
  rcases hi' with ⟨rfl, rfl, rfl⟩ | h2
  · have hrun := run_append_owned_none (P := Tryz.prog) (w := W) B 25 o.type 9 i0 1 Tryz.underlying25 hi v 0 [] hG
    obtain ⟨g, c, e, _⟩ := Lx.own_len hG
    have hx' : a.eval x = .slice none 0 0 := hx
    unfold Oper.wp
    simp [execOp, ho, resolve, invoke, builtin, hs, hx', hrun, Result.andThen]
    subst e
    exact h g c W hG (Below.refl _ _)
  · have hcells : ∃ ad : Addr, ga = some ad ∧ ∀ j u, (ys.map Value.string)[j]? = some u → W.cell? (ad.add j) = some u := by
      rcases h2 with ⟨rfl, ad, rfl⟩ | ⟨bk, of, rfl, k1, k2⟩
      · exact ⟨ad, rfl, fun j u hu => by simp at hu⟩
      · refine ⟨⟨bk, of, none⟩, rfl, fun j u hu => ?_⟩
        rw [List.getElem?_map] at hu
        cases hy : ys[j]? with
        | none => rw [hy] at hu; cases hu
        | some y => rw [hy] at hu; cases hu; rw [Lib.add_plain]; exact k2 j y hy
    obtain ⟨ad, rfl, hc⟩ := hcells
    obtain ⟨v', w', hr, q1, q2, q3, q4⟩ := run_append_own_at (P := Tryz.prog) W B 25 o.type 9 i0 _ 1 16 Tryz.underlying25 hi hz0 hz1 hz2 rfl (by decide) v 0 [] hG ad ys.length ca (ys.map Value.string) (by simp) hc (fun u hu => by obtain ⟨y, _, rfl⟩ := List.mem_map.1 hu; rfl) (by unfold maxLen; omega) (by omega) hB
    unfold Oper.wp execOp
    simp only [ho, resolve, invoke, builtin, Sem.run_bind, Sem.run_pure, Result.andThen_ok, List.map_toArray, List.map_cons, List.map_nil, hs, hx, hr]
    obtain ⟨g, c', e, _⟩ := Lx.own_len q1
    subst e
    have hbel : Below B W w' := (Below.refl B W).grown q2 hB (fun k hk => (World.ownsRow.lt hG k hk).1)
    rw [Nat.zero_add, List.nil_append] at q1
    have := h g c' w' q1 hbel
    rw [Nat.zero_add]
    exact this
theorem step_cat9 {W : World} {ops : Array Oper} {o : Oper} {a : Act} {K : Act → World → Prop} {Q : Exit → Act → World → Prop} {E : Prop} (hgd : o.guard = none) (s x : Operand)
    (ho : o.op = .call { callee := .builtin .append, args := #[s, x], argTypes := #[25, 25] }) (B : Nat) (v : Value) (ga : Option Addr) (ca : Nat) (ys : List ByteArray) (hs : a.eval s = v) (hx : a.eval x = .slice ga ys.length ca) (hG : W.ownsRow B 9 1 v 0 []) (hi' : StI W ga ys ca) (hB : B ≤ W.heap.size) (hlen : ys.length * 16 ≤ 140737488351232)
    (h : ∀ g c w', w'.ownsRow B 9 1 (.slice g ys.length c) ys.length (ys.map Value.string) → Below B W w' → K (a.put o.dst (.slice g ys.length c)) w') : if Region.wanted o (yielded ops a.tmps) = true then Oper.wp Tryz.prog o a W K Q else E := by
  rw [if_pos (by simp [Region.wanted, hgd])]
  exact wp_cat9 s x ho B v ga ca ys hs hx hG hi' hB hlen h
theorem wpList_cat9 {W : World} {ops : Array Oper} {rest : List Oper} {o : Oper} {a : Act} {Q : Exit → Act → World → Prop} (hgd : o.guard = none) (s x : Operand)
    (ho : o.op = .call { callee := .builtin .append, args := #[s, x], argTypes := #[25, 25] }) (B : Nat) (v : Value) (ga : Option Addr) (ca : Nat) (ys : List ByteArray) (hs : a.eval s = v) (hx : a.eval x = .slice ga ys.length ca) (hG : W.ownsRow B 9 1 v 0 []) (hi' : StI W ga ys ca) (hB : B ≤ W.heap.size) (hlen : ys.length * 16 ≤ 140737488351232)
    (h : ∀ g c w', w'.ownsRow B 9 1 (.slice g ys.length c) ys.length (ys.map Value.string) → Below B W w' → wpList Tryz.prog ops Q rest (a.put o.dst (.slice g ys.length c)) w') : wpList Tryz.prog ops Q (o :: rest) a W :=
  wpList_plain hgd fun K hK => wp_cat9 s x ho B v ga ca ys hs hx hG hi' hB hlen (fun g c w' h1 h2 => hK _ _ (h g c w' h1 h2))
set_option maxHeartbeats 4000000 in
set_option maxRecDepth 100000 in
theorem samenode_any (fn par : Int) (ga gb : Option Addr) (ca cb : Nat) (xs : List ByteArray) (res : ByteArray) (w : World) (ha : Tm.Txts w ga xs) (hb : Tm.Txts w gb xs) (hn : xs.length ≤ 4611686018427387904) :
    Calls Tryz.prog 23 #[.agg #[.int .i64 fn, .int .i64 par, .slice ga xs.length ca, .string res], .agg #[.int .i64 fn, .int .i64 par, .slice gb xs.length cb, .string res]] w fun e w' => e = .returned (.bool true) ∧ Below w.heap.size w w' := by
  have h1 : (fn == fn) = true := beq_self_eq_true _
  have h2 : (par == par) = true := beq_self_eq_true _
  have h3 : (res.toList == res.toList) = true := beq_self_eq_true _
  have HS : Hid (∀ W, Below w.heap.size w W → Calls Tryz.prog 34 #[.slice ga xs.length ca, .slice gb xs.length cb] W fun e w' => e = .returned (.bool true) ∧ Below W.heap.size W w') := fun W h => by
    have h := Tm.same_at ga gb xs.length xs.length xs xs ca cb W rfl rfl (ha.on h) (hb.on h) hn hn
    rw [show Tm.sameB xs xs = true by unfold Tm.sameB; simp] at h
    exact h
  obtain ⟨n, hnn⟩ : ∃ n, xs.length = n := ⟨_, rfl⟩
  rw [hnn] at HS ⊢
  clear ha hb hn hnn
  have HBA : Hid (∀ o : Obj, Bx 52 ((w.alloc (Obj.cells #[.int .i64 fn, .int .i64 par, .slice ga n ca, .string res] 52)).alloc o) w.heap.size #[.int .i64 fn, .int .i64 par, .slice ga n ca, .string res]) := fun o => (Bx.new 52 w _).alloc o
  have HBB : Hid (∀ o : Obj, Bx 52 ((w.alloc o).alloc (Obj.cells #[.int .i64 fn, .int .i64 par, .slice gb n cb, .string res] 52)) (w.heap.size + 1) #[.int .i64 fn, .int .i64 par, .slice gb n cb, .string res]) := fun o => by
    have h := Bx.new 52 (w.alloc o) #[.int .i64 fn, .int .i64 par, .slice gb n cb, .string res]
    rw [World.size_alloc] at h; exact h
  have HB0 : Hid (∀ o1 o2 : Obj, Below w.heap.size w ((w.alloc o1).alloc o2)) := fun o1 o2 => ((Below.refl _ w).alloc (Nat.le_refl _) _).alloc (by simp) _
  go_enter Tryz.func23, Tryz.ntmps23
  go_wp2_with fail
  refine grabK (fun U => Hid (Below w.heap.size w U) ∧ Hid (Bx 52 U w.heap.size #[.int .i64 fn, .int .i64 par, .slice ga n ca, .string res]) ∧ Hid (Bx 52 U (w.heap.size + 1) #[.int .i64 fn, .int .i64 par, .slice gb n cb, .string res])) ⟨HB0.out _ _, HBA.out _, HBB.out _⟩ (fun U hU => ?_)
  obtain ⟨HU, HA, HB⟩ := hU
  refine (HS.out _ HU.out).mono ?_
  rintro e w1 ⟨rfl, hb1⟩
  have HB1 : Hid (Below w.heap.size w w1) := HU.out.trans (hb1.mono HU.out.size)
  have ha := HA.out.next hb1
  have hb := HB.out.next hb1
  have a3 : w1.cell? ⟨w.heap.size, 3, none⟩ = some (.string res) := ha.cell 3 _ rfl
  have b3 : w1.cell? ⟨w.heap.size + 1, 3, none⟩ = some (.string res) := hb.cell 3 _ rfl
  have al := ha.lt
  have bl := hb.lt
  clear ha hb hb1 HU HA HB HBA HBB HB0 HS
  go_wp2_with fail
  go_ret
  exact ⟨rfl, HB1.out⟩
/-- Nodes in a slice, wherever it lies. -/
def Nds (W : World) (g : Option Addr) (ns : List Nd) : Prop := ns = [] ∨ ∃ bk o, g = some ⟨bk, o, none⟩ ∧ bk < W.heap.size ∧ ∀ (j : Nat) n, ns[j]? = some n → ∃ ga ca, W.cell? ⟨bk, o + j * 4, none⟩ = some (.int .i64 n.fn) ∧ W.cell? ⟨bk, o + j * 4 + 1, none⟩ = some (.int .i64 n.par) ∧ W.cell? ⟨bk, o + j * 4 + 2, none⟩ = some (.slice ga n.args.length ca) ∧ W.cell? ⟨bk, o + j * 4 + 3, none⟩ = some (.string n.res) ∧ StI W ga n.args ca
theorem Nds.on {W W' : World} {g : Option Addr} {ns : List Nd} (h : Nds W g ns) (hb : Below W.heap.size W W') : Nds W' g ns := by
  rcases h with h | ⟨bk, o, e, h1, h2⟩
  · exact Or.inl h
  · refine Or.inr ⟨bk, o, e, Nat.lt_of_lt_of_le h1 hb.size, fun j n hj => ?_⟩
    obtain ⟨ga, ca, k0, k1, k2, k3, k4⟩ := h2 j n hj
    exact ⟨ga, ca, (hb.cell (p := ⟨bk, o + j * 4, none⟩) h1).trans k0, (hb.cell (p := ⟨bk, o + j * 4 + 1, none⟩) h1).trans k1, (hb.cell (p := ⟨bk, o + j * 4 + 2, none⟩) h1).trans k2, (hb.cell (p := ⟨bk, o + j * 4 + 3, none⟩) h1).trans k3, k4.on hb⟩
theorem own_txB {A : Nat → Prop} {W : World} {B n c : Nat} {g : Option Addr} {ys : List ByteArray} (h : W.ownsRow B 9 1 (.slice g n c) ys.length (ys.map Value.string)) (hA : ∀ k, A k → k < B) : TxA A W g ys := by
  rcases h.2 with ⟨e1, e2⟩ | ⟨b, cap, cur, e1, hb, hh, _⟩
  · left
    cases ys with
    | nil => rfl
    | cons k ks => simp at e2
  · cases e1
    refine Or.inr ⟨b, 0, rfl, (Array.getElem?_eq_some_iff.1 hh).1, fun ha => by have := hA b ha; omega, fun j x hx => ?_⟩
    have hc := h.cells (g := b) rfl j (.string x) (by rw [List.getElem?_map, hx]; rfl)
    rw [Lib.add_plain] at hc
    exact hc
set_option maxHeartbeats 4000000 in
set_option maxRecDepth 100000 in
theorem copynodes_any (g : Option Addr) (c : Nat) (ns : List Nd) (w : World) (hd : Nds w g ns) (hn : ns.length * 56 ≤ 140737488351232) (ha : ∀ n ∈ ns, n.args.length * 16 ≤ 140737488351232) :
    Calls Tryz.prog 20 #[.slice g ns.length c] w fun e w' => ∃ g' c', e = .returned (.slice g' ns.length c') ∧ NGr w.heap.size w' (.slice g' ns.length c') ns ∧ Below w.heap.size w w' := by
  have HD : Hid (Nds w g ns ∧ (∀ n ∈ ns, n.args.length * 16 ≤ 140737488351232) ∧ ns.length * 56 ≤ 140737488351232) := ⟨hd, ha, hn⟩
  obtain ⟨m, hm⟩ : ∃ m, ns.length = m := ⟨_, rfl⟩
  have HM := hid hm
  rw [hm] at hn ⊢
  clear hd ha hm
  go_enter Tryz.func20, Tryz.ntmps20
  go_wp2_with fail
  go_loopw [3, 4] (fun s2 s3 wr => ∃ (j : Nat) (g1 : Option Addr) (c1 : Nat), j ≤ m ∧ s3 = .int .i64 (j : Int) ∧ s2 = .slice g1 j c1 ∧ Hid (NGr w.heap.size wr (.slice g1 j c1) (ns.take j)) ∧ Hid (Below w.heap.size w wr)) (fun _ s3 _ => m - (intOf s3).toNat)
  case atStart => exact ⟨0, none, 0, Nat.zero_le _, rfl, rfl, NGr.nil _ _, Below.refl _ _⟩
  case round =>
    obtain ⟨j, g1, c1, hj, rfl, rfl, HG, HB⟩ := hrel
    by_cases hlt : j < m
    · have hlt' : (j : Int) < (m : Int) := by omega
      obtain ⟨x, hx⟩ : ∃ x, ns[j]? = some x := ⟨_, List.getElem?_eq_getElem (by have := HM.out; omega)⟩
      have hcs : ∃ bk o, g = some ⟨bk, o, none⟩ ∧ bk < w.heap.size ∧ ∃ ga ca, w.cell? ⟨bk, o + j * 4, none⟩ = some (.int .i64 x.fn) ∧ w.cell? ⟨bk, o + j * 4 + 1, none⟩ = some (.int .i64 x.par) ∧ w.cell? ⟨bk, o + j * 4 + 2, none⟩ = some (.slice ga x.args.length ca) ∧ w.cell? ⟨bk, o + j * 4 + 3, none⟩ = some (.string x.res) ∧ StI w ga x.args ca := by
        rcases HD.out.1 with h | ⟨bk, o, e, h1, h2⟩
        · rw [h] at hx; simp at hx
        · exact ⟨bk, o, e, h1, h2 j x hx⟩
      obtain ⟨bk, o, e, hbk, ga, ca, k0, k1, k2, k3, hst⟩ := hcs
      subst e
      have k0 := (HB.out.cell (p := ⟨bk, o + j * 4, none⟩) hbk).trans k0
      have k1 := (HB.out.cell (p := ⟨bk, o + j * 4 + 1, none⟩) hbk).trans k1
      have k2 := (HB.out.cell (p := ⟨bk, o + j * 4 + 2, none⟩) hbk).trans k2
      have k3 := (HB.out.cell (p := ⟨bk, o + j * 4 + 3, none⟩) hbk).trans k3
      have hbk' : bk < wr.heap.size := Nat.lt_of_lt_of_le hbk HB.out.size
      have HST := hid (hst.on HB.out)
      obtain ⟨fn, hfn⟩ : ∃ a, x.fn = a := ⟨_, rfl⟩
      obtain ⟨par, hpar⟩ : ∃ a, x.par = a := ⟨_, rfl⟩
      obtain ⟨res, hres⟩ : ∃ a, x.res = a := ⟨_, rfl⟩
      obtain ⟨na, hna⟩ : ∃ a, x.args.length = a := ⟨_, rfl⟩
      rw [hfn] at k0
      rw [hpar] at k1
      rw [hna] at k2
      rw [hres] at k3
      have HX : Hid (ns[j]? = some x ∧ x.fn = fn ∧ x.par = par ∧ x.res = res ∧ x.args.length = na) := ⟨hx, hfn, hpar, hres, hna⟩
      clear hx hst hfn hpar hres hna
      have HW1 : Hid ((wr.alloc (Obj.cells #[.int .i64 fn, .int .i64 par, .slice ga na ca, .string res] 52)).alloc (Obj.cells #[] 9) |>.ownsRow (wr.heap.size + 1) 9 1 (.slice (some ⟨wr.heap.size + 1, 0, none⟩) 0 0) 0 []) := by
        have h := World.ownsRow_lit (wr.alloc (Obj.cells #[.int .i64 fn, .int .i64 par, .slice ga na ca, .string res] 52)) (e := 9) (size := 1) #[] 0 (Nat.le_refl _) (Nat.zero_le _) rfl
        rw [World.size_alloc] at h
        exact h
      have hbel := ((Below.refl wr.heap.size wr).alloc (Nat.le_refl _) (Obj.cells #[.int .i64 fn, .int .i64 par, .slice ga na ca, .string res] 52)).alloc (by simp) (Obj.cells #[] 9)
      have HST2 : Hid (StI ((wr.alloc (Obj.cells #[.int .i64 fn, .int .i64 par, .slice ga na ca, .string res] 52)).alloc (Obj.cells #[] 9)) ga x.args ca) := HST.out.on hbel
      have HBEL := hid hbel
      have HBX : Hid (Bx 52 ((wr.alloc (Obj.cells #[.int .i64 fn, .int .i64 par, .slice ga na ca, .string res] 52)).alloc (Obj.cells #[] 9)) wr.heap.size #[.int .i64 fn, .int .i64 par, .slice ga na ca, .string res]) := (Bx.new 52 wr _).alloc _
      have HNA : Hid (na * 16 ≤ 140737488351232) := by show _ ≤ _; rw [← HX.out.2.2.2.2]; exact HD.out.2.1 x (List.mem_of_getElem? HX.out.1)
      clear hbel
      go_wp2_with (at_builtin; refine wpList_cat9 rfl _ _ rfl (wr.heap.size + 1) (.slice (some ⟨wr.heap.size + 1, 0, none⟩) 0 0) ga ca x.args rfl (by rw [HX.out.2.2.2.2]; rfl) HW1.out HST2.out (by simp) (by rw [HX.out.2.2.2.2]; exact HNA.out) ?_)
      intro g7 c7 w7 ho7 hb7
      obtain ⟨Y, hY⟩ : ∃ Y, wr.heap.size = Y := ⟨_, rfl⟩
      have hYw : Y < w7.heap.size := by have h := hb7.size; simp at h; omega
      rw [hY] at ho7 hb7
      simp only [hY, HX.out.2.2.2.2]
      have HO7 := hid ho7
      have HB7 := hid hb7
      have hbx := HBX.out.on (n := Y + 1) hb7 (by omega)
      rw [hY] at hbx
      have HBX7 := hid hbx
      have hbel7 : Below Y wr w7 := by
        have h := HBEL.out
        rw [hY] at h
        exact h.trans (hb7.mono (Nat.le_succ _))
      have HBEL7 := hid hbel7
      have HYY := hid hY
      have f2 := hbx.frozen 2
      have y0 : w7.cell? ⟨Y, 0, none⟩ = some (.int .i64 fn) := hbx.cell 0 _ rfl
      have y1 : w7.cell? ⟨Y, 1, none⟩ = some (.int .i64 par) := hbx.cell 1 _ rfl
      have y2 : w7.cell? ⟨Y, 2, none⟩ = some (.slice ga na ca) := hbx.cell 2 _ rfl
      have y3 : w7.cell? ⟨Y, 3, none⟩ = some (.string res) := hbx.cell 3 _ rfl
      have hb8 : Below Y wr (w7.setCell ⟨Y, 2, none⟩ (.slice g7 na c7)) := hbel7.setCell (p := ⟨Y, 2, none⟩) (Nat.le_refl _) _
      have HG8 : Hid (NGr w.heap.size (w7.setCell ⟨Y, 2, none⟩ (.slice g7 na c7)) (.slice g1 j c1) (ns.take j)) := HG.out.next (by rw [HYY.out]; exact hb8)
      have HB8 : Hid (Below w.heap.size w (w7.setCell ⟨Y, 2, none⟩ (.slice g7 na c7))) := HB.out.trans (hb8.mono (by rw [← HYY.out]; exact HB.out.size))
      have HNA8 : Hid (NdA (fun k => (Value.slice g1 j c1).ownBlock = some k ∨ k < w.heap.size) (w7.setCell ⟨Y, 2, none⟩ (.slice g7 na c7)) [.int .i64 fn, .int .i64 par, .slice g7 na c7, .string res] x) := by
        obtain ⟨us, ho, _⟩ := HG.out
        have hlt : ∀ k, (Value.slice g1 j c1).ownBlock = some k → k < Y := fun k hk => by rw [← HYY.out]; exact (World.ownsRow.lt ho k hk).2
        have ho7' : w7.ownsRow (Y + 1) 9 1 (.slice g7 x.args.length c7) x.args.length (x.args.map Value.string) := HO7.out
        have htx := own_txB (A := fun k => k = Y ∨ ((Value.slice g1 j c1).ownBlock = some k ∨ k < w.heap.size)) ho7' (fun k hk => by
          rcases hk with hk | hk | hk
          · omega
          · have := hlt k hk; omega
          · have := HB.out.size; have := HYY.out; omega)
        have hset : Ka (fun k => k = Y ∨ ((Value.slice g1 j c1).ownBlock = some k ∨ k < w.heap.size)) w7 (w7.setCell ⟨Y, 2, none⟩ (.slice g7 na c7)) := Ka.of_grown (grown_set w7 Y 2 _) (fun k e => Or.inl (Option.some.inj e).symm)
        refine ⟨g7, c7, by rw [HX.out.2.1, HX.out.2.2.1, HX.out.2.2.2.1, HX.out.2.2.2.2], (htx.kp hset).sub (fun k hk => Or.inr hk)⟩
      have hlen : (ns.take j).length = j := by rw [List.length_take]; have := HM.out; omega
      have HLN := hid hlen
      clear ho7 hb7 hbx hbel7 hY HW1 HST2 HBX HBEL hb8 hlen HO7
      go_wp2_with (at_builtin; refine wpList_putN rfl _ _ rfl w.heap.size (.slice g1 j c1) #[.int .i64 fn, .int .i64 par, .slice g7 na c7, .string res] [.int .i64 fn, .int .i64 par, .slice g7 na c7, .string res] rfl (ns.take j) x rfl HG8.out HNA8.out HB8.out.size (by have := HLN.out; omega) w7.heap.size (by simp) (by rfl) ?_)
      intro g9 c9 w9 hG9 hb9
      have ht : ns.take j ++ [x] = ns.take (j + 1) := by rw [List.take_add_one, HX.out.1]; rfl
      have HG9 : Hid (NGr w.heap.size w9 (.slice g9 (j + 1) c9) (ns.take (j + 1)) ∧ Below w.heap.size w w9) := by
        rw [ht] at hG9
        have hmn : min j ns.length = j := by have := HLN.out; rw [List.length_take] at this; exact this
        rw [hmn] at hG9
        exact ⟨hG9, HB8.out.trans hb9⟩
      have hmn : min j ns.length = j := by have := HLN.out; rw [List.length_take] at this; exact this
      simp only [hmn]
      clear hG9 hb9 ht HG8 HNA8 HB8 y0 y1 y2 y3 f2 k0 k1 k2 k3 hmn
      go_wp2_with fail
      go_roundw
      case rel => exact ⟨j + 1, g9, c9, by omega, by go_num, rfl, HG9.out.1, HG9.out.2⟩
      case measure => simp [intOf]; omega
    · have hlt' : ¬ (j : Int) < (m : Int) := by omega
      obtain rfl : j = m := by omega
      have ht : ns.take j = ns := List.take_of_length_le (by have := HM.out; omega)
      go_wp2_with fail
      go_ret
      exact ⟨g1, c1, rfl, by have h := HG.out; rw [ht] at h; exact h, HB.out⟩
/-- A store in an elder block leaves a growing row of nodes. -/
theorem NGr.far {B : Nat} {W : World} {v : Value} {ns : List Nd} (h : NGr B W v ns) {z : Nat} (hz : z < B) (j : Nat) (u : Value) : NGr B (W.setCell ⟨z, j, none⟩ u) v ns := by
  obtain ⟨us, h1, h2, h3⟩ := h
  refine ⟨us, h1.kept (grown_set W z j u) ?_, h2, fun i x n hx hn => (h3 i x n hx hn).kp (Ka.of_grown (grown_set W z j u) (fun k e => Or.inr (by have := Option.some.inj e; omega)))⟩
  cases hv : v.ownBlock with
  | none => exact Or.inl rfl
  | some k => right; intro e; have := (World.ownsRow.lt h1 k hv).1; have := Option.some.inj e; omega
/-- A node's four cells at the front of a block. -/
def ArrC (W : World) (b : Nat) (fn par : Int) (ga : Option Addr) (na ca : Nat) (res : ByteArray) : Prop :=
  b < W.heap.size ∧ W.cell? ⟨b, 0, none⟩ = some (.int .i64 fn) ∧ W.cell? ⟨b, 1, none⟩ = some (.int .i64 par) ∧ W.cell? ⟨b, 2, none⟩ = some (.slice ga na ca) ∧ W.cell? ⟨b, 3, none⟩ = some (.string res)
theorem ArrC.new (W : World) (fn par : Int) (ga : Option Addr) (na ca : Nat) (res : ByteArray) : ArrC (W.alloc (.cells #[.int .i64 fn, .int .i64 par, .slice ga na ca, .string res] 52)) W.heap.size fn par ga na ca res := by
  have h := Bx.new 52 W #[.int .i64 fn, .int .i64 par, .slice ga na ca, .string res]
  exact ⟨h.lt, h.cell 0 _ rfl, h.cell 1 _ rfl, h.cell 2 _ rfl, h.cell 3 _ rfl⟩
theorem ArrC.on {W W' : World} {b : Nat} {fn par : Int} {ga : Option Addr} {na ca : Nat} {res : ByteArray} (h : ArrC W b fn par ga na ca res) (hb : Below W.heap.size W W') : ArrC W' b fn par ga na ca res :=
  ⟨Nat.lt_of_lt_of_le h.1 hb.size, (hb.cell (p := ⟨b, 0, none⟩) h.1).trans h.2.1, (hb.cell (p := ⟨b, 1, none⟩) h.1).trans h.2.2.1, (hb.cell (p := ⟨b, 2, none⟩) h.1).trans h.2.2.2.1, (hb.cell (p := ⟨b, 3, none⟩) h.1).trans h.2.2.2.2⟩
theorem ArrC.alloc {W : World} {b : Nat} {fn par : Int} {ga : Option Addr} {na ca : Nat} {res : ByteArray} (h : ArrC W b fn par ga na ca res) (o : Obj) : ArrC (W.alloc o) b fn par ga na ca res := h.on ((Below.refl _ W).alloc (Nat.le_refl _) o)
theorem ArrC.drew {W : World} {b : Nat} {fn par : Int} {ga : Option Addr} {na ca : Nat} {res : ByteArray} (h : ArrC W b fn par ga na ca res) : ArrC W.drew b fn par ga na ca res := h.on (Below.refl _ W).drew
theorem ArrC.set {W : World} {b z : Nat} {fn par : Int} {ga : Option Addr} {na ca : Nat} {res : ByteArray} (h : ArrC W b fn par ga na ca res) (hz : z ≠ b) (j : Nat) (u : Value) : ArrC (W.setCell ⟨z, j, none⟩ u) b fn par ga na ca res := by
  have hs : (W.setCell ⟨z, j, none⟩ u).heap.size = W.heap.size := by simp
  have hk : ∀ i, (W.setCell ⟨z, j, none⟩ u).cell? ⟨b, i, none⟩ = W.cell? ⟨b, i, none⟩ := fun i => Ka.cell (A := fun k => k = z) (Ka.of_grown (grown_set W z j u) (fun k e => (Option.some.inj e).symm)) h.1 (fun e => hz e.symm)
  refine ⟨by rw [hs]; exact h.1, ?_, ?_, ?_, ?_⟩
  · rw [hk]; exact h.2.1
  · rw [hk]; exact h.2.2.1
  · rw [hk]; exact h.2.2.2.1
  · rw [hk]; exact h.2.2.2.2
theorem ArrC.nds {W : World} {b : Nat} {fn par : Int} {ga : Option Addr} {ca : Nat} {xs : List ByteArray} {res : ByteArray} (h : ArrC W b fn par ga xs.length ca res) (hs : StI W ga xs ca) : Nds W (some ⟨b, 0, none⟩) [⟨fn, par, xs, res⟩] := by
  refine Or.inr ⟨b, 0, rfl, h.1, fun j n hj => ?_⟩
  cases j with
  | zero =>
    have e : n = ⟨fn, par, xs, res⟩ := by simpa using hj.symm
    subst e
    exact ⟨ga, ca, h.2.1, h.2.2.1, h.2.2.2.1, h.2.2.2.2, hs⟩
  | succ j => simp at hj
end Go.Proofs.YtgajnmcjnkfblaaGreatDoor

namespace Go.Proofs.YtgajnmcjnkfblaaGreatDoor
open Go.RowKit Go.ChangeShapes Go.WideShapes Go.ChangeAt Go.ChangeMaps Go.Deep
set_option linter.unusedVariables false

theorem bytes9n : Tryz.prog.bytesOf 9 = 16 := by kernel_rfl
theorem cells9n : Tryz.prog.cellsOf 9 = 1 := by kernel_rfl
theorem cells25n : Tryz.prog.cellsOf 25 = 1 := by kernel_rfl
theorem cells27n : Tryz.prog.cellsOf 52 = 4 := by kernel_rfl
theorem bytes27n : Tryz.prog.bytesOf 52 = 56 := by kernel_rfl
theorem open_texts {H : Type} {enc : TypeId × Value → H} {W : World} {cs : List Value} {fuel : Nat} {y : DataW H × List MemPlace}
    (hf : DataW.trod enc Tryz.prog W 0 (fun _ => true) true fuel 25 cs = some y) (hw : ∀ n ∈ DataW.weights Tryz.prog 25 y.1, n ≤ reachBytes) :
    ∃ (g : Option Addr) (xs : List ByteArray) (c : Nat), cs = [.slice g xs.length c] ∧ StI W g xs c ∧ xs.length * 16 ≤ reachBytes ∧ ∀ x ∈ xs, x.size ≤ reachBytes := by
  rcases open_strs Tryz.underlying25 Tryz.underlying9 cells9n hf with ⟨hcs, hx⟩ | ⟨a, len', cap', m, Sx, hcs, _, hl, hm, hmm, hx, hcell⟩
  · exact ⟨none, [], 0, hcs, Or.inl ⟨rfl, rfl, rfl⟩, by simp, by simp⟩
  · simp only [if_true] at hmm
    subst hx
    have hwl := hw _ (by rw [DataW.weights, Tryz.underlying25]; exact List.mem_cons_self)
    rw [bytes9n] at hwl
    simp only [List.length_map, List.length_range] at hwl
    refine ⟨some a, (List.range len').map Sx, cap', by rw [hcs]; simp, ?_, by simp; omega, ?_⟩
    · by_cases h0 : len' = 0
      · subst h0; exact Or.inr (Or.inl ⟨rfl, a, rfl⟩)
      · obtain ⟨b, off, spot⟩ := a
        have hspot : spot = none := by simpa [Addr.add] using World.cell?_spot (hcell 0 (by omega)).1
        subst hspot
        refine Or.inr (Or.inr ⟨b, off, rfl, ?_, fun j x hx => ?_⟩)
        · have := (hcell 0 (by omega)).1
          rw [Lib.add_plain] at this
          exact World.block_lt_of_cell? _ _ this
        · have hj : j < len' := by
            have := (List.getElem?_eq_some_iff.1 hx).1
            simpa using this
          have e : x = Sx j := by
            rw [List.getElem?_map, List.getElem?_range hj] at hx
            exact (Option.some.inj hx).symm
          subst e
          rw [← Lib.add_plain]; exact (hcell j (by omega)).1
    · intro x hx
      obtain ⟨i, hi, rfl⟩ := List.mem_map.1 hx
      have h := hw (Sx i).data.toList.length (by
        rw [DataW.weights, Tryz.underlying25]
        refine List.mem_cons_of_mem _ (List.mem_append_left _ (mem_weightsAll (d := .lit (.string (Sx i).data.toList)) (by simp [DataW.weights]) ?_))
        exact List.mem_map.2 ⟨i, hi, rfl⟩)
      have e : (Sx i).data.toList.length = (Sx i).size := by simp
      rw [e] at h; exact h
/-- The bounds of a node. -/
def NBd (n : Nd) : Prop := n.args.length * 16 ≤ reachBytes ∧ (∀ x ∈ n.args, x.size ≤ reachBytes) ∧ n.res.size ≤ reachBytes
theorem open_nodeC {H : Type} {enc : TypeId × Value → H} {W : World} {cs : List Value} {fuel : Nat} {y : DataW H × List MemPlace}
    (hf : DataW.trod enc Tryz.prog W 0 (fun _ => true) true fuel 52 cs = some y) (hw : ∀ n ∈ DataW.weights Tryz.prog 52 y.1, n ≤ reachBytes) :
    ∃ (n : Nd) (g : Option Addr) (c : Nat), cs = [.int .i64 n.fn, .int .i64 n.par, .slice g n.args.length c, .string n.res] ∧ StI W g n.args c ∧ NBd n := by
  obtain ⟨ys, n, _, rfl, hl, hlen, hfs⟩ := DataW.trod_struct Tryz.underlying52 hf
  obtain ⟨c0, c1, c2, c3, rfl⟩ := list4 (hl.trans cells27n)
  obtain ⟨y0, y1, y2, y3, rfl⟩ := list4 (show ys.length = 4 from hlen)
  have h0 := hfs 0 _ rfl
  have h1 := hfs 1 _ rfl
  have h2 := hfs 2 _ rfl
  have h3 := hfs 3 _ rfl
  simp [cells3, cells25n, cells9n] at h0 h1 h2 h3
  obtain ⟨n0, e0, _, _⟩ := DataW.trod_int Tryz.underlying3 h0
  obtain ⟨n1, e1, _, _⟩ := DataW.trod_int Tryz.underlying3 h1
  obtain ⟨g, xs, c, e2, hi, hb, hk⟩ := open_texts h2 (fun m hm => hw m (by
    rw [List.map_cons, List.map_cons, List.map_cons, List.map_cons, List.map_nil, DataW.weights, Tryz.underlying52]
    exact DataW.weights_mem_each (j := 2) rfl rfl m hm))
  obtain ⟨s, e3, ex, _⟩ := DataW.trod_string Tryz.underlying9 h3
  have hs := hw s.data.toList.length (by
    rw [List.map_cons, List.map_cons, List.map_cons, List.map_cons, List.map_nil, DataW.weights, Tryz.underlying52]
    refine DataW.weights_mem_each (j := 3) rfl rfl _ ?_
    rw [ex]; simp [DataW.weights])
  simp at e0 e1 e2 e3
  subst e0 e1 e2 e3
  refine ⟨⟨n0, n1, xs, s⟩, g, c, rfl, hi, hb, hk, ?_⟩
  have e : s.data.toList.length = s.size := by simp
  rw [e] at hs; exact hs
set_option maxRecDepth 100000 in
theorem open_node {H : Type} {enc : TypeId × Value → H} {W : World} {r : Reach} {b0 : Nat} {v : Value} {d : DataW H} {ps : List MemPlace} {ts : List TypeId} {ds : List (DataW H)} {j : Nat}
    (hval : Value.okWide Tryz.prog W r b0 52 v) (h : DataW.Trod enc Tryz.prog W 0 (fun _ => true) true 52 v d ps)
    (hsz : (DataW.weightsEach Tryz.prog ts ds).all (· ≤ reachBytes) = true) (ht : ts[j]? = some 52) (hd : ds[j]? = some d) :
    ∃ (n : Nd) (g : Option Addr) (c : Nat), v = .agg #[.int .i64 n.fn, .int .i64 n.par, .slice g n.args.length c, .string n.res] ∧ StI W g n.args c ∧ NBd n := by
  have hw : ∀ n ∈ DataW.weights Tryz.prog 52 d, n ≤ reachBytes := fun n hn => by
    have := List.all_eq_true.1 hsz n (DataW.weights_mem_each ht hd n hn)
    simpa using this
  obtain ⟨⟨l⟩, rfl, hs⟩ := okWide_struct Tryz.underlying52 hval
  obtain ⟨fuel, hf⟩ := h
  obtain ⟨n, g, c, e, h1, h2⟩ := open_nodeC hf hw
  have e' : l = [.int .i64 n.fn, .int .i64 n.par, .slice g n.args.length c, .string n.res] := by simpa [Value.cells] using e
  subst e'
  exact ⟨n, g, c, rfl, h1, h2⟩
end Go.Proofs.YtgajnmcjnkfblaaGreatDoor
