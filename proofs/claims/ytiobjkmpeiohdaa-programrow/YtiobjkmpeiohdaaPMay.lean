/- The contract of program.May. -/
import Derived.Test.YtiobjkmpeiohdaaCalls
namespace Go.Proofs.Ytiobjkmpeiohdaa
open Go.RowKit
set_option linter.unusedVariables false

/-- A program's box. -/
def Bx1 (w : World) (z : Nat) (v : Value) : Prop := w.heap[z]? = some (.cells #[v] 24 (0, 0))
theorem Bx1.lt {w : World} {z : Nat} {v : Value} (h : Bx1 w z v) : z < w.heap.size := (Array.getElem?_eq_some_iff.1 h).1
theorem Bx1.c0 {w : World} {z : Nat} {v : Value} (h : Bx1 w z v) : w.cell? ⟨z, 0, none⟩ = some v := by
  unfold World.cell?; simp only [show w.heap[z]? = _ from h]; rfl
theorem Bx1.frozen {w : World} {z : Nat} {v : Value} (h : Bx1 w z v) (j : Nat) : w.frozen? ⟨z, j, none⟩ = false := by
  simp [World.frozen?, show w.heap[z]? = _ from h]
theorem Bx1.kept {w w' : World} {row : Option Nat} {z : Nat} {v : Value} (h : Bx1 w z v) (hg : w.grownBy w' row) (hne : some z ≠ row) : Bx1 w' z v := (hg.block z h.lt hne).trans h
theorem Bx1.on {w w' : World} {z : Nat} {v : Value} (h : Bx1 w z v) (hb : Below w.heap.size w w') : Bx1 w' z v := (hb.block z h.lt).trans h
theorem Bx1.alloc {w : World} {z : Nat} {v : Value} (h : Bx1 w z v) (o : Obj) : Bx1 (w.alloc o) z v := (Below.heap_alloc w o z h.lt).trans h
theorem Bx1.new (w : World) (v : Value) : Bx1 (w.alloc (.cells #[v] 24)) w.heap.size v := World.alloc_heap_new w _
theorem Bx1.set0 {w : World} {z : Nat} {v : Value} (h : Bx1 w z v) (u : Value) : Bx1 (w.setCell ⟨z, 0, none⟩ u) z u := by
  obtain ⟨hlt, hk⟩ := Array.getElem?_eq_some_iff.1 h
  show (w.heap.modify z _)[z]? = _
  rw [Array.getElem?_eq_getElem (by rw [Array.size_modify]; exact hlt), Array.getElem_modify_self, hk]
  rfl

theorem pmay_few {ds : List Df} (h : (ds.length : Int) < 1) : pmay ds = false := by
  unfold pmay; rw [decide_eq_false (by omega)]; rfl
theorem pmay_many {ds : List Df} (h : (8 : Int) < (ds.length : Int)) : pmay ds = false := by
  unfold pmay; rw [decide_eq_false (by omega)]; rfl
theorem pmay_main {ds : List Df} (h : 0 < ds.length) (h0 : ¬ ds[0].params = 0) : pmay ds = false := by
  unfold pmay; rw [List.getElem?_eq_getElem h]; simp [h0]
theorem pmay_all {ds : List Df} (h : 0 < ds.length) (h8 : ds.length ≤ 8) (h0 : ds[0].params = 0) : pmay ds = ds.all (dOk ds) := by
  unfold pmay; rw [List.getElem?_eq_getElem h, decide_eq_true ⟨h, h8⟩]; simp [h0]

set_option maxHeartbeats 1600000 in
set_option maxRecDepth 100000 in
theorem pmay_any (g : Option Addr) (c : Nat) (ds : List Df) (w : World) (hd : Defs Exs w g ds) :
    Calls Try.prog 8 #[.agg #[.slice g ds.length c]] w fun r w' => r = .returned (.bool (pmay ds)) ∧ Below w.heap.size w w' := by
  have hb0 : Below w.heap.size w (w.alloc (.cells #[.slice g ds.length c] 24)) := (Below.refl _ w).alloc (Nat.le_refl _) _
  have hX0 := Bx1.new w (.slice g ds.length c)
  have hd0 := hd.on hb0
  by_cases h1 : (ds.length : Int) < 1
  · have e1 : decide ((ds.length : Int) < 1) = true := decide_eq_true h1
    rw [pmay_few h1]
    clear hd hd0 hX0
    go_enter Try.func8, Try.ntmps8
    go_wp2_with fail
    go_ret
    exact ⟨rfl, hb0⟩
  · have e1 : decide ((ds.length : Int) < 1) = false := decide_eq_false h1
    by_cases h2 : (8 : Int) < (ds.length : Int)
    · have e2 : decide ((8 : Int) < (ds.length : Int)) = true := decide_eq_true h2
      rw [pmay_many h2]
      clear hd hd0 hX0
      go_enter Try.func8, Try.ntmps8
      go_wp2_with fail
      go_ret
      exact ⟨rfl, hb0⟩
    · have e2 : decide ((8 : Int) < (ds.length : Int)) = false := decide_eq_false h2
      have hl : 0 < ds.length := by omega
      obtain ⟨bk, o, rfl, hbk, gk, ck, q0, q1, q2⟩ := hd0.at hl
      simp only [Nat.zero_mul, Nat.add_zero] at q0 q1
      clear q1 q2
      by_cases h3 : ds[0].params = 0
      · have e3 : (ds[0].params != 0) = false := by simpa using h3
        have HP : Hid (pmay ds = ds.all (dOk ds)) := pmay_all hl (by omega) h3
        rw [h3] at q0 e3
        have HD : Hid (Defs Exs (w.alloc (.cells #[.slice (some ⟨bk, o, none⟩) ds.length c] 24)) (some ⟨bk, o, none⟩) ds) := hd0
        have HX : Hid (Bx1 (w.alloc (.cells #[.slice (some ⟨bk, o, none⟩) ds.length c] 24)) w.heap.size (.slice (some ⟨bk, o, none⟩) ds.length c)) := hX0
        have HB0 : Hid (Below w.heap.size w (w.alloc (.cells #[.slice (some ⟨bk, o, none⟩) ds.length c] 24))) := hb0
        clear hd hd0 hX0 h3 hb0
        go_enter Try.func8, Try.ntmps8
        go_wp2_with fail
        clear q0 e3 e1 e2
        obtain ⟨W0, hW0⟩ : ∃ W0, w.alloc (.cells #[.slice (some ⟨bk, o, none⟩) ds.length c] 24) = W0 := ⟨_, rfl⟩
        rw [hW0] at HD HX HB0 hbk ⊢
        clear hW0
        go_loopw [5, 28] (fun _ s wr => ∃ k : Nat, k ≤ ds.length ∧ s = .int .i64 (k : Int) ∧ Hid (Below W0.heap.size W0 wr) ∧ Hid ((ds.take k).all (dOk ds) = true))
          (fun _ s _ => ds.length - (intOf s).toNat)
        case atStart => exact ⟨0, Nat.zero_le _, rfl, Below.refl _ _, by show ([] : List Df).all (dOk ds) = true; rfl⟩
        case round =>
          obtain ⟨k, hk, rfl, HB, H⟩ := hrel
          by_cases hlt : k < ds.length
          · have hlt' : (k : Int) < (ds.length : Int) := by omega
            obtain ⟨bk2, o2, hge, hbk2, gk, ck, q0, q1, q2⟩ := (HD.out.on HB.out).at hlt
            cases hge
            obtain ⟨d, he⟩ : ∃ d, d = ds[k] := ⟨_, rfl⟩
            rw [← he] at q0 q1 q2
            have HE : Hid (d = ds[k]) := he
            clear he
            obtain ⟨pp, xs⟩ := d
            dsimp only at q0 q1 q2
            have hb1 : Below wr.heap.size wr (wr.alloc (.cells #[.int .i64 pp, .slice gk xs.length ck] 36)) := (Below.refl _ wr).alloc (Nat.le_refl _) _
            have hb2 := below_next HB.out hb1
            have hm := may_any pp gk ck xs _ (q2.on hb1)
            have hx3 := cell_new wr #[.int .i64 pp, .slice gk xs.length ck] 36 1 _ rfl
            have HQ : Hid (Exs wr gk xs) := q2
            have HB1 : Hid (Below W0.heap.size W0 (wr.alloc (.cells #[.int .i64 pp, .slice gk xs.length ck] 36))) := hb2
            have HC1 : Hid (wr.heap.size < (wr.alloc (.cells #[.int .i64 pp, .slice gk xs.length ck] 36)).heap.size ∧ (wr.alloc (.cells #[.int .i64 pp, .slice gk xs.length ck] 36)).cell? ⟨wr.heap.size, 1, none⟩ = some (.slice gk xs.length ck) ∧ Below wr.heap.size wr (wr.alloc (.cells #[.int .i64 pp, .slice gk xs.length ck] 36))) := ⟨by simp, hx3, hb1⟩
            clear q2 hb1 hb2 hx3
            cases hq : may pp xs with
            | false =>
              rw [hq] at hm
              go_wp2_with (go_at_call 18; refine hm.mono ?_; rintro r w3 ⟨rfl, hb3⟩)
              have hb4 := below_next HB0.out (below_next HB1.out hb3)
              have hr : pmay ds = false := by
                rw [HP.out, List.all_eq_false]
                exact ⟨⟨pp, xs⟩, by rw [HE.out]; exact List.getElem_mem hlt, by simp [dOk, hq]⟩
              go_ret
              exact ⟨by first | rfl | (rw [hr]; rfl), hb4⟩
            | true =>
              rw [hq] at hm
              have hx24 := may_len hq
              go_wp2_with (go_at_call 18; refine hm.mono ?_; rintro r w3 ⟨rfl, hb3⟩; have hc3 := (hb3.cell (p := ⟨wr.heap.size, 1, none⟩) HC1.out.1).trans HC1.out.2.1; have hb5 := below_next HB1.out hb3; have hcf := cf_any gk ck xs _ c w.heap.size ds w3 hx24 (HQ.out.on (below_next HC1.out.2.2 hb3)) (HX.out.on hb5).c0 (HD.out.on hb5))
              cases hw : xs.any (wrong ds) with
              | true =>
                rw [hw] at hcf
                refine hcf.mono ?_
                rintro r w4 ⟨rfl, hb6⟩
                have hb7 := below_next HB0.out (below_next hb5 hb6)
                have hr : pmay ds = false := by
                  rw [HP.out, List.all_eq_false]
                  exact ⟨⟨pp, xs⟩, by rw [HE.out]; exact List.getElem_mem hlt, by simp only [dOk, hq, hw]; decide⟩
                go_wp2_with fail
                go_ret
                exact ⟨by first | rfl | (rw [hr]; rfl), hb7⟩
              | false =>
                rw [hw] at hcf
                refine hcf.mono ?_
                rintro r w4 ⟨rfl, hb6⟩
                have hb7 := below_next hb5 hb6
                go_wp2_with fail
                go_roundw
                case rel =>
                  refine ⟨k + 1, by omega, by go_num, hb7, ?_⟩
                  show (ds.take (k + 1)).all (dOk ds) = true
                  rw [List.take_add_one, List.getElem?_eq_getElem hlt, List.all_append, H.out, ← HE.out]
                  simp only [Option.toList, List.all_cons, List.all_nil, dOk, hq, hw]
                  decide
                case measure => simp [intOf]; omega
          · have hlt' : ¬ (k : Int) < (ds.length : Int) := by omega
            have hb7 := below_next HB0.out HB.out
            have hr : pmay ds = true := by
              have h := H.out
              rw [show k = ds.length by omega, List.take_length] at h
              rw [HP.out, h]
            go_wp2_with fail
            go_ret
            exact ⟨by first | rfl | (rw [hr]; rfl), hb7⟩
      · have e3 : (ds[0].params != 0) = true := by simpa using h3
        rw [pmay_main hl h3]
        clear hd hd0 hX0 h3
        generalize ds[0].params = P at *
        go_enter Try.func8, Try.ntmps8
        go_wp2_with fail
        go_ret
        exact ⟨rfl, hb0⟩
end Go.Proofs.Ytiobjkmpeiohdaa
