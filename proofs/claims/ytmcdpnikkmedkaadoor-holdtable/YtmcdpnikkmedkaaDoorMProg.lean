/- Definitions in memory; the contracts of hasTaker, of the function that May hands on, of slices.IndexFunc and slices.ContainsFunc with it. · The contracts of the function that May hands on, and of slices.IndexFunc and slices.ContainsFunc with it. · The contract of program.May. -/
import Derived.Test.YtmcdpnikkmedkaaDoorMExpr
import Derived.Test.YtmcdpnikkmedkaaDoorMPlain
import Derived.BigQuiet

namespace Go.Proofs.YtmcdpnikkmedkaaDoor
open Go.RowKit
set_option linter.unusedVariables false

/-- A definition's two cells; its body lies as E says. -/
def DfAt (E : World → Option Addr → List Ex → Prop) (w : World) (bk o : Nat) (d : Df) (g : Option Addr) (c : Nat) : Prop :=
  w.cell? ⟨bk, o, none⟩ = some (.int .i64 d.params) ∧ w.cell? ⟨bk, o + 1, none⟩ = some (.slice g d.body.length c) ∧ E w g d.body
/-- Definitions in a slice, wherever it lies. -/
def Defs (E : World → Option Addr → List Ex → Prop) (w : World) (g : Option Addr) (ds : List Df) : Prop :=
  ds = [] ∨ ∃ bk o, g = some ⟨bk, o, none⟩ ∧ bk < w.heap.size ∧ ∀ (j : Nat) d, ds[j]? = some d → ∃ gk ck, DfAt E w bk (o + j * 2) d gk ck
theorem Defs.at {E : World → Option Addr → List Ex → Prop} {w : World} {g : Option Addr} {ds : List Df} (h : Defs E w g ds) {j : Nat} (hj : j < ds.length) : ∃ bk o, g = some ⟨bk, o, none⟩ ∧ bk < w.heap.size ∧ ∃ gk ck, DfAt E w bk (o + j * 2) ds[j] gk ck := by
  rcases h with h | ⟨bk, o, h1, h2, h3⟩
  · subst h; simp at hj
  · exact ⟨bk, o, h1, h2, h3 j _ (List.getElem?_eq_getElem hj)⟩
theorem Defs.onE {E E' : World → Option Addr → List Ex → Prop} {w w' : World} {g : Option Addr} {ds : List Df} (h : Defs E w g ds) (hb : Below w.heap.size w w') (hE : ∀ g xs, E w g xs → E' w' g xs) : Defs E' w' g ds := by
  rcases h with h | ⟨bk, o, h1, h2, h3⟩
  · exact Or.inl h
  · refine Or.inr ⟨bk, o, h1, Nat.lt_of_lt_of_le h2 hb.size, fun j d hd => ?_⟩
    obtain ⟨gk, ck, k0, k1, k2⟩ := h3 j d hd
    exact ⟨gk, ck, (hb.cell (p := ⟨bk, o + j * 2, none⟩) h2).trans k0, (hb.cell (p := ⟨bk, o + j * 2 + 1, none⟩) h2).trans k1, hE _ _ k2⟩
theorem Defs.on {w w' : World} {g : Option Addr} {ds : List Df} (h : Defs Exs w g ds) (hb : Below w.heap.size w w') : Defs Exs w' g ds := h.onE hb (fun _ _ k => k.on hb)

theorem takes_lo {ds : List Df} {e : Ex} (h : ¬ 0 ≤ e.num) : takes ds e = false := by unfold takes; rw [decide_eq_false h]; rfl
theorem takes_hi {ds : List Df} {e : Ex} (h0 : 0 ≤ e.num) (h : ¬ e.num < (ds.length : Int)) : takes ds e = false := by
  unfold takes; rw [List.getElem?_eq_none (by omega)]; simp
theorem takes_at {ds : List Df} {e : Ex} (h0 : 0 ≤ e.num) (h : e.num.toNat < ds.length) : takes ds e = ((e.kids.length : Int) == ds[e.num.toNat].params) := by
  unfold takes; rw [List.getElem?_eq_getElem h, decide_eq_true h0]; simp only [Bool.true_and]; rw [Bool.eq_iff_iff]; simp

set_option maxHeartbeats 800000 in
set_option maxRecDepth 100000 in
theorem taker_any (e : Ex) (gk : Option Addr) (ck : Nat) (g : Option Addr) (c : Nat) (ds : List Df) (w : World) (hd : Defs Exs w g ds) :
    Calls Tryd.prog 50 #[eV e gk ck, .slice g ds.length c] w fun r w' => r = .returned (.bool (takes ds e)) ∧ Below w.heap.size w w' := by
  have hd' := hd.on ((Below.refl _ w).alloc (Nat.le_refl _) (.cells #[.int .i64 e.kind, .int .i64 e.num, .int .i64 e.bind, .slice gk e.kids.length ck] 51))
  have hR := World.alloc_heap_new w (.cells #[.int .i64 e.kind, .int .i64 e.num, .int .i64 e.bind, .slice gk e.kids.length ck] 51)
  by_cases h0 : 0 ≤ e.num
  · by_cases h1 : e.num < (ds.length : Int)
    · have hn : e.num.toNat < ds.length := by omega
      obtain ⟨bk, o, rfl, hbk, gb, cb, q0, q1, q2⟩ := hd'.at hn
      rw [takes_at h0 hn]
      obtain ⟨P, hP⟩ : ∃ P, ds[e.num.toNat].params = P := ⟨_, rfl⟩
      rw [hP] at q0 ⊢
      obtain ⟨m, hm⟩ : ∃ m : Nat, e.num = (m : Int) := ⟨e.num.toNat, by omega⟩
      rw [hm] at h1 h0 q0
      simp only [Int.toNat_natCast] at q0
      obtain ⟨kd, nm, bd, ks⟩ := e
      dsimp only at hm ⊢
      subst hm
      clear hP q1 q2 hd hd' hR hn
      go_enter Tryd.func50, Tryd.ntmps50
      go_wp2_with fail
      go_quiet (fail)
      go_wp2_with fail
      go_ret
      exact ⟨rfl, ((Below.refl _ w).alloc (Nat.le_refl _) _).trans (below_drewN _ _ _)⟩
    · rw [takes_hi h0 h1]
      have e1 : decide (e.num < (ds.length : Int)) = false := decide_eq_false h1
      have e0 : decide (0 ≤ e.num) = true := decide_eq_true h0
      clear hd hd' hR
      go_enter Tryd.func50, Tryd.ntmps50
      go_wp2_with fail
      go_quiet (fail)
      go_wp2_with fail
      go_ret
      exact ⟨rfl, ((Below.refl _ w).alloc (Nat.le_refl _) _).trans (below_drewN _ _ _)⟩
  · rw [takes_lo h0]
    have e0 : decide (0 ≤ e.num) = false := decide_eq_false h0
    clear hd hd' hR
    go_enter Tryd.func50, Tryd.ntmps50
    go_wp2_with fail
    go_quiet (fail)
    go_wp2_with fail
    go_ret
    exact ⟨rfl, ((Below.refl _ w).alloc (Nat.le_refl _) _).trans (below_drewN _ _ _)⟩
end Go.Proofs.YtmcdpnikkmedkaaDoor

namespace Go.Proofs.YtmcdpnikkmedkaaDoor
open Go.RowKit
set_option linter.unusedVariables false

theorem wrong_call {ds : List Df} {e : Ex} (h : e.kind = 2) : wrong ds e = !takes ds e := by unfold wrong; rw [decide_eq_true h]; rfl
theorem wrong_other {ds : List Df} {e : Ex} (h : ¬ e.kind = 2) : wrong ds e = false := by unfold wrong; rw [decide_eq_false h]; rfl

set_option maxHeartbeats 800000 in
set_option maxRecDepth 100000 in
/-- A call that nobody takes? The program lies in the box z. -/
theorem wrong_any (e : Ex) (gk : Option Addr) (ck : Nat) (g : Option Addr) (c z : Nat) (ds : List Df) (w : World) (hz : w.cell? ⟨z, 0, none⟩ = some (.slice g ds.length c)) (hd : Defs Exs w g ds) :
    Calls Tryd.prog 49 #[eV e gk ck, .pointer (some ⟨z, 0, none⟩)] w fun r w' => r = .returned (.bool (wrong ds e)) ∧ Below w.heap.size w w' := by
  have hb : Below w.heap.size w (w.alloc (.cells #[.int .i64 e.kind, .int .i64 e.num, .int .i64 e.bind, .slice gk e.kids.length ck] 51)) := (Below.refl _ w).alloc (Nat.le_refl _) _
  have hlz : z < w.heap.size := World.block_lt_of_cell? w _ hz
  have hz1 := (hb.cell (p := ⟨z, 0, none⟩) hlz).trans hz
  have hd1 := hd.on hb
  by_cases hk : e.kind = 2
  · rw [wrong_call hk]
    obtain ⟨kd, nm, bd, ks⟩ := e
    dsimp only at hk hb hz1 hd1 ⊢
    subst hk
    have e1 : ((2 : Int) == 2) = true := rfl
    generalize hT : takes ds ⟨2, nm, bd, ks⟩ = T
    have HT := taker_any ⟨2, nm, bd, ks⟩ gk ck g c ds _ hd1
    rw [hT] at HT
    clear hT
    clear hd hd1 hz
    go_enter Tryd.func49, Tryd.ntmps49
    go_wp2_with fail
    refine HT.mono ?_
    rintro r w1 ⟨rfl, hb1⟩
    have h2 := below_next hb hb1
    cases T
    · go_wp2_with fail
      go_ret
      exact ⟨rfl, h2⟩
    · go_wp2_with fail
      go_ret
      exact ⟨rfl, h2⟩
  · rw [wrong_other hk]
    have e1 : (e.kind == 2) = false := by simpa using hk
    clear hd hd1 hz
    go_enter Tryd.func49, Tryd.ntmps49
    go_wp2_with fail
    go_ret
    exact ⟨rfl, hb⟩

set_option maxHeartbeats 800000 in
set_option maxRecDepth 100000 in
theorem ixf_any (gb : Option Addr) (cb : Nat) (xs : List Ex) (g : Option Addr) (c z : Nat) (ds : List Df) (w : World) (hn : xs.length ≤ 24) (hx : Exs w gb xs) (hz : w.cell? ⟨z, 0, none⟩ = some (.slice g ds.length c)) (hd : Defs Exs w g ds) :
    Calls Tryd.prog 71 #[.slice gb xs.length cb, .func (.func 49) #[] #[.pointer (some ⟨z, 0, none⟩)]] w fun r w' => (∃ i : Int, r = .returned (.int .i64 i) ∧ decide (0 ≤ i) = xs.any (wrong ds)) ∧ Below w.heap.size w w' := by
  have HZ : Hid (z < w.heap.size ∧ w.cell? ⟨z, 0, none⟩ = some (.slice g ds.length c) ∧ Defs Exs w g ds ∧ Exs w gb xs) := ⟨World.block_lt_of_cell? w _ hz, hz, hd, hx⟩
  clear hz hd hx
  go_enter Tryd.func71, Tryd.ntmps71
  go_wp2_with fail
  go_loopw [5, 8] (fun _ s8 wr => ∃ k : Nat, k ≤ xs.length ∧ s8 = .int .i64 (k : Int) ∧ Hid (Below w.heap.size w wr) ∧ Hid ((xs.take k).any (wrong ds) = false))
    (fun _ s8 _ => xs.length - (intOf s8).toNat)
  case atStart => exact ⟨0, Nat.zero_le _, rfl, Below.refl _ _, by show ([] : List Ex).any (wrong ds) = false; rfl⟩
  case round =>
    obtain ⟨k, hk, rfl, HB, H⟩ := hrel
    by_cases hlt : k < xs.length
    · have hlt' : (k : Int) < (xs.length : Int) := by omega
      obtain ⟨bk, o, rfl, hbk, gk, ck, hE⟩ := (HZ.out.2.2.2.on HB.out).at hlt
      have hcall := wrong_any xs[k] gk ck g c z ds wr ((HB.out.cell (p := ⟨z, 0, none⟩) HZ.out.1).trans HZ.out.2.1) (HZ.out.2.2.1.on HB.out)
      obtain ⟨e, he⟩ : ∃ e, e = xs[k] := ⟨_, rfl⟩
      rw [← he] at hE hcall
      have HE : Hid (e = xs[k]) := he
      clear he
      obtain ⟨a0, a1, a2, a3, an⟩ := hE
      clear an
      cases hq : wrong ds e with
      | false =>
        rw [hq] at hcall
        go_wp2_with (go_at_call 49; refine hcall.mono ?_; rintro r w' ⟨rfl, hb'⟩)
        have hb2 := below_next HB.out hb'
        go_roundw
        case rel =>
          refine ⟨k + 1, by omega, by go_num, hb2, ?_⟩
          show (xs.take (k + 1)).any (wrong ds) = false
          rw [List.take_add_one, List.getElem?_eq_getElem hlt, List.any_append, H.out, ← HE.out]
          simp [hq]
        case measure => simp [intOf]; omega
      | true =>
        rw [hq] at hcall
        go_wp2_with (go_at_call 49; refine hcall.mono ?_; rintro r w' ⟨rfl, hb'⟩)
        have hb2 := below_next HB.out hb'
        go_ret
        refine ⟨⟨_, rfl, ?_⟩, hb2⟩
        have hf : xs.any (wrong ds) = true := by
          rw [List.any_eq_true]
          exact ⟨e, by rw [HE.out]; exact List.getElem_mem hlt, hq⟩
        rw [hf]
        simp
    · have hlt' : ¬ (k : Int) < (xs.length : Int) := by omega
      go_wp2_with fail
      go_ret
      refine ⟨⟨_, rfl, ?_⟩, HB.out⟩
      have e : k = xs.length := by omega
      have := H.out
      rw [e, List.take_length] at this
      rw [this]
      rfl

set_option maxHeartbeats 400000 in
theorem cf_any (gb : Option Addr) (cb : Nat) (xs : List Ex) (g : Option Addr) (c z : Nat) (ds : List Df) (w : World) (hn : xs.length ≤ 24) (hx : Exs w gb xs) (hz : w.cell? ⟨z, 0, none⟩ = some (.slice g ds.length c)) (hd : Defs Exs w g ds) :
    Calls Tryd.prog 52 #[.slice gb xs.length cb, .func (.func 49) #[] #[.pointer (some ⟨z, 0, none⟩)]] w fun r w' => r = .returned (.bool (xs.any (wrong ds))) ∧ Below w.heap.size w w' := by
  have h := ixf_any gb cb xs g c z ds w hn hx hz hd
  clear hx hz hd
  go_enter Tryd.func52, Tryd.ntmps52
  go_wp2_with fail
  refine h.mono ?_
  rintro r w1 ⟨⟨i, rfl, hi⟩, hb⟩
  go_wp2_with fail
  go_ret
  exact ⟨by rw [← hi]; rfl, hb⟩
end Go.Proofs.YtmcdpnikkmedkaaDoor

namespace Go.Proofs.YtmcdpnikkmedkaaDoor
open Go.RowKit
set_option linter.unusedVariables false

/-- A program's box. -/
def Bx1 (w : World) (z : Nat) (v : Value) : Prop := w.heap[z]? = some (.cells #[v] 25 (0, 0))
theorem Bx1.lt {w : World} {z : Nat} {v : Value} (h : Bx1 w z v) : z < w.heap.size := (Array.getElem?_eq_some_iff.1 h).1
theorem Bx1.c0 {w : World} {z : Nat} {v : Value} (h : Bx1 w z v) : w.cell? ⟨z, 0, none⟩ = some v := by
  unfold World.cell?; simp only [show w.heap[z]? = _ from h]; rfl
theorem Bx1.frozen {w : World} {z : Nat} {v : Value} (h : Bx1 w z v) (j : Nat) : w.frozen? ⟨z, j, none⟩ = false := by
  simp [World.frozen?, show w.heap[z]? = _ from h]
theorem Bx1.kept {w w' : World} {row : Option Nat} {z : Nat} {v : Value} (h : Bx1 w z v) (hg : w.grownBy w' row) (hne : some z ≠ row) : Bx1 w' z v := (hg.block z h.lt hne).trans h
theorem Bx1.on {w w' : World} {z : Nat} {v : Value} (h : Bx1 w z v) (hb : Below w.heap.size w w') : Bx1 w' z v := (hb.block z h.lt).trans h
theorem Bx1.alloc {w : World} {z : Nat} {v : Value} (h : Bx1 w z v) (o : Obj) : Bx1 (w.alloc o) z v := (Below.heap_alloc w o z h.lt).trans h
theorem Bx1.new (w : World) (v : Value) : Bx1 (w.alloc (.cells #[v] 25)) w.heap.size v := World.alloc_heap_new w _
theorem Bx1.set0 {w : World} {z : Nat} {v : Value} (h : Bx1 w z v) (u : Value) : Bx1 (w.setCell ⟨z, 0, none⟩ u) z u := by
  obtain ⟨hlt, hk⟩ := Array.getElem?_eq_some_iff.1 h
  show (w.heap.modify z _)[z]? = _
  rw [Array.getElem?_eq_getElem (by rw [Array.size_modify]; exact hlt), Array.getElem_modify_self, hk]
  rfl

theorem pmay_few {ds : List Df} (h : (ds.length : Int) < 1) : pmay ds = false := by
  unfold pmay; rw [decide_eq_false (by omega)]; rfl
theorem pmay_many {ds : List Df} (h : (8 : Int) < (ds.length : Int)) : pmay ds = false := by
  unfold pmay; rw [decide_eq_false (by omega)]; rfl
theorem pmay_main {ds : List Df} (h : 0 < ds.length) (h0 : ¬ ds[0].params = 0) : pmay ds = false := by
  unfold pmay; rw [List.getElem?_eq_getElem h]; simp [h0]
theorem pmay_all {ds : List Df} (h : 0 < ds.length) (h8 : ds.length ≤ 8) (h0 : ds[0].params = 0) : pmay ds = ds.all (dOk ds) := by
  unfold pmay; rw [List.getElem?_eq_getElem h, decide_eq_true ⟨h, h8⟩]; simp [h0]

set_option maxHeartbeats 1600000 in
set_option maxRecDepth 100000 in
theorem pmay_any (g : Option Addr) (c : Nat) (ds : List Df) (w : World) (hd : Defs Exs w g ds) :
    Calls Tryd.prog 41 #[.agg #[.slice g ds.length c]] w fun r w' => r = .returned (.bool (pmay ds)) ∧ Below w.heap.size w w' := by
  have hb0 : Below w.heap.size w (w.alloc (.cells #[.slice g ds.length c] 25)) := (Below.refl _ w).alloc (Nat.le_refl _) _
  have hX0 := Bx1.new w (.slice g ds.length c)
  have hd0 := hd.on hb0
  by_cases h1 : (ds.length : Int) < 1
  · have e1 : decide ((ds.length : Int) < 1) = true := decide_eq_true h1
    rw [pmay_few h1]
    clear hd hd0 hX0
    go_enter Tryd.func41, Tryd.ntmps41
    go_wp2_with fail
    go_ret
    exact ⟨rfl, hb0⟩
  · have e1 : decide ((ds.length : Int) < 1) = false := decide_eq_false h1
    by_cases h2 : (8 : Int) < (ds.length : Int)
    · have e2 : decide ((8 : Int) < (ds.length : Int)) = true := decide_eq_true h2
      rw [pmay_many h2]
      clear hd hd0 hX0
      go_enter Tryd.func41, Tryd.ntmps41
      go_wp2_with fail
      go_ret
      exact ⟨rfl, hb0⟩
    · have e2 : decide ((8 : Int) < (ds.length : Int)) = false := decide_eq_false h2
      have hl : 0 < ds.length := by omega
      obtain ⟨bk, o, rfl, hbk, gk, ck, q0, q1, q2⟩ := hd0.at hl
      simp only [Nat.zero_mul, Nat.add_zero] at q0 q1
      clear q1 q2
      by_cases h3 : ds[0].params = 0
      · have e3 : (ds[0].params != 0) = false := by simpa using h3
        have HP : Hid (pmay ds = ds.all (dOk ds)) := pmay_all hl (by omega) h3
        rw [h3] at q0 e3
        have HD : Hid (Defs Exs (w.alloc (.cells #[.slice (some ⟨bk, o, none⟩) ds.length c] 25)) (some ⟨bk, o, none⟩) ds) := hd0
        have HX : Hid (Bx1 (w.alloc (.cells #[.slice (some ⟨bk, o, none⟩) ds.length c] 25)) w.heap.size (.slice (some ⟨bk, o, none⟩) ds.length c)) := hX0
        have HB0 : Hid (Below w.heap.size w (w.alloc (.cells #[.slice (some ⟨bk, o, none⟩) ds.length c] 25))) := hb0
        clear hd hd0 hX0 h3 hb0
        go_enter Tryd.func41, Tryd.ntmps41
        go_wp2_with fail
        clear q0 e3 e1 e2
        obtain ⟨W0, hW0⟩ : ∃ W0, w.alloc (.cells #[.slice (some ⟨bk, o, none⟩) ds.length c] 25) = W0 := ⟨_, rfl⟩
        rw [hW0] at HD HX HB0 hbk ⊢
        clear hW0
        go_loopw [5, 28] (fun _ s wr => ∃ k : Nat, k ≤ ds.length ∧ s = .int .i64 (k : Int) ∧ Hid (Below W0.heap.size W0 wr) ∧ Hid ((ds.take k).all (dOk ds) = true))
          (fun _ s _ => ds.length - (intOf s).toNat)
        case atStart => exact ⟨0, Nat.zero_le _, rfl, Below.refl _ _, by show ([] : List Df).all (dOk ds) = true; rfl⟩
        case round =>
          obtain ⟨k, hk, rfl, HB, H⟩ := hrel
          by_cases hlt : k < ds.length
          · have hlt' : (k : Int) < (ds.length : Int) := by omega
            obtain ⟨bk2, o2, hge, hbk2, gk, ck, q0, q1, q2⟩ := (HD.out.on HB.out).at hlt
            cases hge
            obtain ⟨d, he⟩ : ∃ d, d = ds[k] := ⟨_, rfl⟩
            rw [← he] at q0 q1 q2
            have HE : Hid (d = ds[k]) := he
            clear he
            obtain ⟨pp, xs⟩ := d
            dsimp only at q0 q1 q2
            have hb1 : Below wr.heap.size wr (wr.alloc (.cells #[.int .i64 pp, .slice gk xs.length ck] 33)) := (Below.refl _ wr).alloc (Nat.le_refl _) _
            have hb2 := below_next HB.out hb1
            have hm := may_any pp gk ck xs _ (q2.on hb1)
            have hx3 := cell_new wr #[.int .i64 pp, .slice gk xs.length ck] 33 1 _ rfl
            have HQ : Hid (Exs wr gk xs) := q2
            have HB1 : Hid (Below W0.heap.size W0 (wr.alloc (.cells #[.int .i64 pp, .slice gk xs.length ck] 33))) := hb2
            have HC1 : Hid (wr.heap.size < (wr.alloc (.cells #[.int .i64 pp, .slice gk xs.length ck] 33)).heap.size ∧ (wr.alloc (.cells #[.int .i64 pp, .slice gk xs.length ck] 33)).cell? ⟨wr.heap.size, 1, none⟩ = some (.slice gk xs.length ck) ∧ Below wr.heap.size wr (wr.alloc (.cells #[.int .i64 pp, .slice gk xs.length ck] 33))) := ⟨by simp, hx3, hb1⟩
            clear q2 hb1 hb2 hx3
            cases hq : may pp xs with
            | false =>
              rw [hq] at hm
              go_wp2_with (go_at_call 51; refine hm.mono ?_; rintro r w3 ⟨rfl, hb3⟩)
              have hb4 := below_next HB0.out (below_next HB1.out hb3)
              have hr : pmay ds = false := by
                rw [HP.out, List.all_eq_false]
                exact ⟨⟨pp, xs⟩, by rw [HE.out]; exact List.getElem_mem hlt, by simp [dOk, hq]⟩
              go_ret
              exact ⟨by first | rfl | (rw [hr]; rfl), hb4⟩
            | true =>
              rw [hq] at hm
              have hx24 := may_len hq
              go_wp2_with (go_at_call 51; refine hm.mono ?_; rintro r w3 ⟨rfl, hb3⟩; have hc3 := (hb3.cell (p := ⟨wr.heap.size, 1, none⟩) HC1.out.1).trans HC1.out.2.1; have hb5 := below_next HB1.out hb3; have hcf := cf_any gk ck xs _ c w.heap.size ds w3 hx24 (HQ.out.on (below_next HC1.out.2.2 hb3)) (HX.out.on hb5).c0 (HD.out.on hb5))
              cases hw : xs.any (wrong ds) with
              | true =>
                rw [hw] at hcf
                refine hcf.mono ?_
                rintro r w4 ⟨rfl, hb6⟩
                have hb7 := below_next HB0.out (below_next hb5 hb6)
                have hr : pmay ds = false := by
                  rw [HP.out, List.all_eq_false]
                  exact ⟨⟨pp, xs⟩, by rw [HE.out]; exact List.getElem_mem hlt, by simp only [dOk, hq, hw]; decide⟩
                go_wp2_with fail
                go_ret
                exact ⟨by first | rfl | (rw [hr]; rfl), hb7⟩
              | false =>
                rw [hw] at hcf
                refine hcf.mono ?_
                rintro r w4 ⟨rfl, hb6⟩
                have hb7 := below_next hb5 hb6
                go_wp2_with fail
                go_roundw
                case rel =>
                  refine ⟨k + 1, by omega, by go_num, hb7, ?_⟩
                  show (ds.take (k + 1)).all (dOk ds) = true
                  rw [List.take_add_one, List.getElem?_eq_getElem hlt, List.all_append, H.out, ← HE.out]
                  simp only [Option.toList, List.all_cons, List.all_nil, dOk, hq, hw]
                  decide
                case measure => simp [intOf]; omega
          · have hlt' : ¬ (k : Int) < (ds.length : Int) := by omega
            have hb7 := below_next HB0.out HB.out
            have hr : pmay ds = true := by
              have h := H.out
              rw [show k = ds.length by omega, List.take_length] at h
              rw [HP.out, h]
            go_wp2_with fail
            go_ret
            exact ⟨by first | rfl | (rw [hr]; rfl), hb7⟩
      · have e3 : (ds[0].params != 0) = true := by simpa using h3
        rw [pmay_main hl h3]
        clear hd hd0 hX0 h3
        generalize ds[0].params = P at *
        go_enter Tryd.func41, Tryd.ntmps41
        go_wp2_with fail
        go_ret
        exact ⟨rfl, hb0⟩
end Go.Proofs.YtmcdpnikkmedkaaDoor
