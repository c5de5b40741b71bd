/- sleuthlaw6.ProgramRow returns true at every input: where two definitions behind main change places, with their calls turned, May answers as before; the input is as it was. No condition but the row's own: no list that comes in takes more than 2^47 - 4096 bytes. -/
import Derived.Test.YtiobjkmpeiohdaaSwap
import Derived.Test.YtiobjkmpeiohdaaRProg
import Derived.Test.YtiobjkmpeiohdaaSameP
import Derived.WalkKit
import Derived.ProofKit
import Derived.OpenShut
namespace Go.Proofs.Ytiobjkmpeiohdaa.programRow
open Go.ChangeShapes Go.WideShapes Go.ChangeAt Go.RowKit
set_option linter.unusedVariables false

theorem own : ownKnob Try.prog.godebug = none := by kernel_rfl

theorem umod (x : Int) (n : Nat) (h : 0 < n) (hn : n ≤ 4611686018427387904) : ∃ m : Nat, wrap64 ((IntKind.u64.wrap x).tmod (n : Int)) = (m : Int) ∧ m < n := by
  have h0 : 0 ≤ IntKind.u64.wrap x := by rw [IntKind.wrap_u64]; omega
  rw [Int.tmod_eq_emod_of_nonneg h0]
  have h1 := Int.emod_nonneg (IntKind.u64.wrap x) (show (n : Int) ≠ 0 by omega)
  have h2 := Int.emod_lt_of_pos (IntKind.u64.wrap x) (show (0 : Int) < n by omega)
  refine ⟨(IntKind.u64.wrap x % (n : Int)).toNat, ?_, by omega⟩
  unfold wrap64
  omega
theorem keep1_drew {w0 wc : World} {p0 : Addr} {x0 : Value} (h : Below w0.heap.size w0 wc ∧ wc.cell? p0 = some x0) :
    Below w0.heap.size w0 wc.drew ∧ wc.drew.cell? p0 = some x0 := ⟨h.1.drew, h.2⟩
theorem keep1_next {w0 wc w' : World} {p0 : Addr} {x0 : Value} (h : Below w0.heap.size w0 wc ∧ wc.cell? p0 = some x0) (hb : Below wc.heap.size wc w') :
    Below w0.heap.size w0 w' ∧ w'.cell? p0 = some x0 := ⟨below_next h.1 hb, cell_next h.2 hb⟩
theorem keep2_drew {w0 wc : World} {p0 q0 : Addr} {x0 y0 : Value} (h : Below w0.heap.size w0 wc ∧ wc.cell? p0 = some x0 ∧ wc.cell? q0 = some y0) :
    Below w0.heap.size w0 wc.drew ∧ wc.drew.cell? p0 = some x0 ∧ wc.drew.cell? q0 = some y0 := ⟨h.1.drew, h.2⟩
theorem keep2_next {w0 wc w' : World} {p0 q0 : Addr} {x0 y0 : Value} (h : Below w0.heap.size w0 wc ∧ wc.cell? p0 = some x0 ∧ wc.cell? q0 = some y0) (hb : Below wc.heap.size wc w') :
    Below w0.heap.size w0 w' ∧ w'.cell? p0 = some x0 ∧ w'.cell? q0 = some y0 := by
  obtain ⟨h0, h1, h2⟩ := h
  exact ⟨below_next h0 hb, cell_next h1 hb, cell_next h2 hb⟩
theorem grabE {K : Act → World → Prop} {Q : Exit → Act → World → Prop} {a : Act} {W : World} (P : World → Prop) (h : P W) (k : ∀ W', P W' → Exit.then K Q .normal a W') : Exit.then K Q .normal a W := k W h

set_option maxRecDepth 100000 in
set_option maxHeartbeats 3200000 in
/-- The walk: the law's Go text returns true. -/
theorem walk (g : Option Addr) (c : Nat) (ds : List Df) (a1 a2 : Int) (w : World) (hd : Defs ExsN w g ds) (hb : ds.length * 32 ≤ 140737488351232) (hk : ∀ d ∈ ds, DBd d) :
    Calls Try.prog 6 #[.agg #[.slice g ds.length c], .int .i64 a1, .int .i64 a2] w fun e w' => e = .returned (.bool true) ∧ Below w.heap.size w w' := by
  have ha : Below w.heap.size w (w.alloc (.cells #[.slice g ds.length c] 24)) := (Below.refl _ w).alloc (Nat.le_refl _) _
  have hX0 := Bx1.new w (.slice g ds.length c)
  have hd0 : Defs ExsN (w.alloc (.cells #[.slice g ds.length c] 24)) g ds := hd.onE ha (fun _ _ k => k.on ha)
  go_enter Try.func6, Try.ntmps6
  go_wp2_with fail
  refine (awake_any _).mono ?_
  rintro e w1 ⟨rfl, hb1⟩
  have hX1 := hX0.on hb1
  have hd1 : Defs ExsN w1 g ds := hd0.onE hb1 (fun _ _ k => k.on hb1)
  have hx1 : Defs Exs w1 g ds := hd1.onE (Below.refl _ _) (fun _ _ k => k.exs)
  have h01 := below_next ha hb1
  have x0 := hX1.c0
  have xl := hX1.lt
  have HX1 : Hid (Bx1 w1 w.heap.size (.slice g ds.length c)) := hX1
  have HD1 : Hid (Defs ExsN w1 g ds ∧ Defs Exs w1 g ds) := ⟨hd1, hx1⟩
  have H01 : Hid (Below w.heap.size w w1) := h01
  have HK : Hid (∀ d ∈ ds, DBd d) := hk
  clear hb1 ha hd hd0 hd1 hx1 h01 hX0 hX1 hk
  by_cases h3 : (ds.length : Int) - 1 < 2
  · obtain ⟨M, hM⟩ : ∃ M, pmay ds = M := ⟨_, rfl⟩
    have mM : ∀ W, Below w1.heap.size w1 W → Calls Try.prog 8 #[.agg #[.slice g ds.length c]] W fun e w' => e = .returned (.bool M) ∧ Below W.heap.size W w' := fun W h => by
      rw [← hM]; exact pmay_any g c ds W (HD1.out.2.on h)
    have dM : ∀ W, Below w1.heap.size w1 W → Calls Try.prog 9 #[.agg #[.slice g ds.length c]] W fun e w' => e = .returned (.bool M) ∧ Below W.heap.size W w' := fun W h => by
      rw [← hM]; exact rprog_any g c ds W (HD1.out.2.on h)
    have hMM : (M == M) = true := by simp
    clear hM
    go_wp2_with fail
    go_region_held3 (fun w' => Below w1.heap.size w1 w' ∧ w'.cell? ⟨w.heap.size, 0, none⟩ = some (.slice g ds.length c))
      (first | assumption | (exact keep1_drew (by first | assumption | exact ⟨Below.refl _ _, x0⟩)) | (exact keep1_next (by assumption) (by assumption)))
      (first | (go_at_call 8; refine (mM _ (And.left (by assumption))).mono ?_; rintro e w4 ⟨rfl, hb4⟩) | (go_at_call 9; refine (dM _ (And.left (by assumption))).mono ?_; rintro e w5 ⟨rfl, hb5⟩))
    all_goals
      have h05 : Below w.heap.size w w5 := below_next H01.out (And.left (by assumption))
      go_wp2_with fail
      go_ret
      exact ⟨rfl, h05⟩
  · obtain ⟨kk, hkk⟩ : ∃ kk : Nat, (ds.length : Int) - 1 = (kk : Int) := ⟨ds.length - 1, by omega⟩
    have hkk2 : 2 ≤ kk := by omega
    obtain ⟨m1, hm1, hm1l⟩ := umod a1 kk (by omega) (by omega)
    obtain ⟨m2, hm2, hm2l⟩ := umod a2 kk (by omega) (by omega)
    have hwk : IntKind.u64.wrap (kk : Int) = (kk : Int) := by rw [IntKind.wrap_u64]; omega
    have hk0 : ¬ (kk : Int) = 0 := by omega
    have hk2 : ¬ (kk : Int) < 2 := by omega
    obtain ⟨x, hx⟩ : ∃ x : Nat, x = 1 + m1 := ⟨_, rfl⟩
    obtain ⟨y, hy⟩ : ∃ y : Nat, y = 1 + m2 := ⟨_, rfl⟩
    have HW : Hid (wrap64 (1 + wrap64 ((IntKind.u64.wrap a1).tmod (kk : Int))) = (x : Int) ∧ wrap64 (1 + wrap64 ((IntKind.u64.wrap a2).tmod (kk : Int))) = (y : Int)) := by
      rw [hm1, hm2]
      unfold wrap64
      exact ⟨by omega, by omega⟩
    have hwn : wrap64 ((ds.length : Int) - 1) = (kk : Int) := by rw [hkk]; unfold wrap64; omega
    have HXY : Hid (1 ≤ x ∧ x < ds.length ∧ 1 ≤ y ∧ y < ds.length) := ⟨by omega, by omega, by omega, by omega⟩
    have HBD : Hid (ds.length * 32 ≤ 140737488351232) := hb
    clear h3 hm1 hm2 hm1l hm2l hx hy
    go_wp2_with fail
    clear hwn hk2 hkk2 hb hkk
    go_quiet (fail)
    go_wp2_with fail
    rw [HW.out.1, HW.out.2]
    have hbq : Below w1.heap.size w1 (w1.drewN nq) := below_drewN _ _ _
    refine (copyprog_any g c ds _ (HD1.out.1.onE (E' := ExsN) hbq (fun _ _ k => k.on hbq)) HBD.out HK.out).mono ?_
    rintro e w2 ⟨g2, k2, rfl, ⟨qs, hqs, hql, hP2, hA2, hlo2⟩, hb2'⟩
    have hb2 : Below w1.heap.size w1 w2 := ⟨hb2'.os, hb2'.tape, hb2'.output, hb2'.size, hb2'.block⟩
    obtain ⟨r, cap, hv, hbr, hrl⟩ := hP2.own.form (by rw [hql]; have := HXY.out; omega)
    simp only [Value.slice.injEq] at hv
    obtain ⟨rfl, hnn, rfl⟩ := hv
    clear hnn
    have hP3 : Pd w2 (w1.heap.size + 2) (.slice (some ⟨r, 0, none⟩) ds.length k2) qs := hP2
    have hqx : x < qs.length := by rw [hql]; exact HXY.out.2.1
    have hqy : y < qs.length := by rw [hql]; exact HXY.out.2.2.2
    obtain ⟨qx, hqxe⟩ : ∃ q, qs[x]? = some q := ⟨_, List.getElem?_eq_getElem hqx⟩
    obtain ⟨qy, hqye⟩ : ∃ q, qs[y]? = some q := ⟨_, List.getElem?_eq_getElem hqy⟩
    have hX2 := HX1.out.on hb2
    obtain ⟨cx0, cx1⟩ := hP3.at hqxe
    obtain ⟨cy0, cy1⟩ := hP3.at hqye
    obtain ⟨rl, rB, rf⟩ := hP3.row
    have rl1 : r < w2.heap.size + 1 := by omega
    have hxi : (x : Int) < (ds.length : Int) := by have := HXY.out; omega
    have hyi : (y : Int) < (ds.length : Int) := by have := HXY.out; omega
    have H1 : Hid (P1 w1 ((((w2.setCell ⟨r, x * 2, none⟩ (.int .i64 qy.1.params)).setCell ⟨r, x * 2 + 1, none⟩ (.slice qy.2.1 qy.1.body.length qy.2.2)).alloc (.cells #[.slice (some ⟨r, 0, none⟩) ds.length k2] 24)).alloc (.cells #[.int .i64 qx.1.params, .slice qx.2.1 qx.1.body.length qx.2.2] 36)) (w1.heap.size + 2) r ds.length k2 w.heap.size w2.heap.size (.slice g ds.length c) (qs.set x qy) qx) :=
      swap1 rfl hP3 hqx (hP3.bodies qx (List.mem_of_getElem? hqxe)) (hP3.bodies qy (List.mem_of_getElem? hqye)) hX2 hb2 (by omega)
    have HQ : Hid (qs[x]? = some qx ∧ qs[y]? = some qy ∧ qs.map (·.1) = ds ∧ qs.length = ds.length ∧ Apart qs ∧ Lo w1.heap.size qs ∧ x < qs.length ∧ y < qs.length) := ⟨hqxe, hqye, hqs, hql, hA2, hlo2, hqx, hqy⟩
    clear hb2' hb2 hbq hbr hrl hP2 hP3 hqxe hqye hqs hql hA2 hlo2 hqx hqy hX2 x0 xl rB HX1 hwk hk0
    obtain ⟨⟨px, bx⟩, gx, kx⟩ := qx
    obtain ⟨⟨py, by_⟩, gy, ky⟩ := qy
    dsimp only at cx0 cx1 cy0 cy1 H1
    go_wp2_with fail
    go_region
    all_goals
      refine grabE (fun W => P1 w1 W (w1.heap.size + 2) r ds.length k2 w.heap.size w2.heap.size (.slice g ds.length c) (qs.set x (⟨py, by_⟩, gy, ky)) (⟨px, bx⟩, gx, kx)) H1.out.drew (fun W4 h4 => ?_)
    have z0 := h4.q.c0
    have d0 := h4.d.c0
    have d1 := h4.d.c1
    obtain ⟨qz, hqz⟩ : ∃ q, (qs.set x ((⟨py, by_⟩, gy, ky) : Dt))[y]? = some q := ⟨_, List.getElem?_eq_getElem (by rw [List.length_set]; exact HQ.out.2.2.2.2.2.2.2)⟩
    obtain ⟨e0, e1⟩ := h4.pd.at hqz
    have ef := h4.pd.row.2.2
    obtain ⟨rs, hrs⟩ : ∃ rs, swl x y qs = rs := ⟨_, rfl⟩
    have h20 : P2 w1 ((W4.setCell ⟨r, y * 2, none⟩ (.int .i64 px)).setCell ⟨r, y * 2 + 1, none⟩ (.slice gx bx.length kx)) (w1.heap.size + 2) r ds.length k2 w.heap.size w2.heap.size (.slice g ds.length c) (stt (x : Int) (y : Int) 0 0 rs) := by
      rw [stt_zero, ← hrs]
      exact swap2 h4 HQ.out.1 HQ.out.2.1 (by omega)
    have H20 : Hid (P2 w1 ((W4.setCell ⟨r, y * 2, none⟩ (.int .i64 px)).setCell ⟨r, y * 2 + 1, none⟩ (.slice gx bx.length kx)) (w1.heap.size + 2) r ds.length k2 w.heap.size w2.heap.size (.slice g ds.length c) (stt (x : Int) (y : Int) 0 0 rs)) := h20
    have HRS : Hid (rs.map (·.1) = swl x y ds ∧ rs.length = ds.length ∧ Apart rs ∧ Lo w1.heap.size rs) := by
      rw [← hrs]
      refine ⟨by rw [swl_map, HQ.out.2.2.1], by rw [swl_len, HQ.out.2.2.2.1], swl_apart HQ.out.2.2.2.2.2.2.1 HQ.out.2.2.2.2.2.2.2 HQ.out.2.2.2.2.1, swl_lo HQ.out.2.2.2.2.2.2.1 HQ.out.2.2.2.2.2.2.2 HQ.out.2.2.2.2.2.1⟩
    have HBL : Hid (∀ q ∈ rs, q.1.body.length ≤ 4611686018427387904) := by
      intro q hq
      have h1 : q.1 ∈ ds := by
        have h2 : q.1 ∈ rs.map (·.1) := List.mem_map.2 ⟨q, hq, rfl⟩
        rw [HRS.out.1] at h2
        exact (swl_mem HXY.out.2.1 HXY.out.2.2.2 _).1 h2
      have h3 : q.1.body.length * 48 ≤ 140737488351232 := (HK.out _ h1).1
      show _ ≤ _
      omega
    have hdl : ds.length ≤ 4611686018427387904 := by have := HBD.out; omega
    clear h4 h20 hqz hrs H1 HQ cx0 cx1 cy0 cy1 rl rl1 rf HK HW
    go_wp2_with fail
    clear z0 d0 d1 e0 e1 ef
    go_loopw [12, 13, 14] (fun s12 _ _ wr => ∃ i : Nat, i ≤ ds.length ∧ s12 = .int .i64 (i : Int) ∧ Hid (P2 w1 wr (w1.heap.size + 2) r ds.length k2 w.heap.size w2.heap.size (.slice g ds.length c) (stt (x : Int) (y : Int) i 0 rs)))
      (fun s12 _ _ _ => ds.length - (intOf s12).toNat)
    case atStart => exact ⟨0, Nat.zero_le _, rfl, H20⟩
    case round =>
      obtain ⟨i, hi, rfl, H⟩ := hrel
      have z0 := H.out.q.c0
      clear H20
      by_cases hlt : i < ds.length
      · have hlt' : (i : Int) < (ds.length : Int) := by omega
        obtain ⟨q, hq⟩ : ∃ q, rs[i]? = some q := ⟨_, List.getElem?_eq_getElem (by rw [HRS.out.2.1]; exact hlt)⟩
        have hbl := HBL.out q (List.mem_of_getElem? hq)
        have HQI : Hid (rs[i]? = some q) := hq
        clear hq
        go_wp2_with fail
        clear z0
        go_loopw [13, 14] (fun s13 _ wi => ∃ m : Nat, m ≤ q.1.body.length ∧ s13 = .int .i64 (m : Int) ∧ Hid (P2 w1 wi (w1.heap.size + 2) r ds.length k2 w.heap.size w2.heap.size (.slice g ds.length c) (stt (x : Int) (y : Int) i m rs)))
          (fun s13 _ _ => q.1.body.length - (intOf s13).toNat)
        case atStart => exact ⟨0, Nat.zero_le _, rfl, H⟩
        case round =>
          obtain ⟨m, hm, rfl, Hm⟩ := hrel
          have z1 := Hm.out.q.c0
          have c1 := (Hm.out.pd.at (stt_here HQI.out)).2
          dsimp only at c1
          rw [tn_len] at c1
          clear H
          by_cases hlm : m < q.1.body.length
          · have hlm' : (m : Int) < (q.1.body.length : Int) := by omega
            obtain ⟨b, cs, hgb, hRw, k0, k1⟩ := (Hm.out.pd.bodies _ (List.mem_of_getElem? (stt_here HQI.out))).at (tn_at hlm)
            dsimp only at hgb
            rw [hgb] at c1
            have kf := hRw.frozen (m * 4 + 1)
            have hstep := fun v hv => Hm.out.step HRS.out.2.2.1 HRS.out.2.2.2 HQI.out hgb hlm v hv
            have hpass := fun hv => Hm.out.pass HQI.out hlm hv
            have HST : Hid (∀ v, q.1.body[m].sw (x : Int) (y : Int) = { q.1.body[m] with num := v } → P2 w1 (wr.setCell ⟨b, m * 4 + 1, none⟩ (.int .i64 v)) (w1.heap.size + 2) r ds.length k2 w.heap.size w2.heap.size (.slice g ds.length c) (stt (x : Int) (y : Int) i (m + 1) rs)) := hstep
            have HPA : Hid (q.1.body[m].sw (x : Int) (y : Int) = q.1.body[m] → P2 w1 wr (w1.heap.size + 2) r ds.length k2 w.heap.size w2.heap.size (.slice g ds.length c) (stt (x : Int) (y : Int) i (m + 1) rs)) := hpass
            clear hstep hpass hRw hgb Hm
            obtain ⟨e, he⟩ : ∃ e, q.1.body[m] = e := ⟨_, rfl⟩
            rw [he] at k0 k1 HST HPA
            clear he
            by_cases hk2 : e.kind = 2
            · by_cases hnx : e.num = (x : Int)
              · have H' : Hid (P2 w1 (wr.setCell ⟨b, m * 4 + 1, none⟩ (.int .i64 (y : Int))) (w1.heap.size + 2) r ds.length k2 w.heap.size w2.heap.size (.slice g ds.length c) (stt (x : Int) (y : Int) i (m + 1) rs)) := HST.out y (by unfold Ex.sw swp; rw [if_pos hk2, if_pos hnx])
                rw [hk2] at k0
                rw [hnx] at k1
                clear HST HPA hk2 hnx
                go_wp2_with fail
                go_roundw
                case rel => exact ⟨m + 1, by omega, by go_num, H'⟩
                case measure => simp [intOf]; omega
              · have enx : (e.num == (x : Int)) = false := by simpa using hnx
                by_cases hny : e.num = (y : Int)
                · have H' : Hid (P2 w1 (wr.setCell ⟨b, m * 4 + 1, none⟩ (.int .i64 (x : Int))) (w1.heap.size + 2) r ds.length k2 w.heap.size w2.heap.size (.slice g ds.length c) (stt (x : Int) (y : Int) i (m + 1) rs)) := HST.out x (by unfold Ex.sw swp; rw [if_pos hk2, if_neg hnx, if_pos hny])
                  rw [hk2] at k0
                  rw [hny] at k1 enx
                  clear HST HPA hk2 hny hnx
                  go_wp2_with fail
                  go_roundw
                  case rel => exact ⟨m + 1, by omega, by go_num, H'⟩
                  case measure => simp [intOf]; omega
                · have eny : (e.num == (y : Int)) = false := by simpa using hny
                  have H' : Hid (P2 w1 wr (w1.heap.size + 2) r ds.length k2 w.heap.size w2.heap.size (.slice g ds.length c) (stt (x : Int) (y : Int) i (m + 1) rs)) := HPA.out (by unfold Ex.sw swp; rw [if_pos hk2, if_neg hnx, if_neg hny])
                  rw [hk2] at k0
                  clear HST HPA hk2 hny hnx
                  go_wp2_with fail
                  go_roundw
                  case rel => exact ⟨m + 1, by omega, by go_num, H'⟩
                  case measure => simp [intOf]; omega
            · have ek : (e.kind == 2) = false := by simpa using hk2
              have H' : Hid (P2 w1 wr (w1.heap.size + 2) r ds.length k2 w.heap.size w2.heap.size (.slice g ds.length c) (stt (x : Int) (y : Int) i (m + 1) rs)) := HPA.out (by unfold Ex.sw; rw [if_neg hk2])
              clear HST HPA hk2
              go_wp2_with fail
              go_roundw
              case rel => exact ⟨m + 1, by omega, by go_num, H'⟩
              case measure => simp [intOf]; omega
          · have hlm' : ¬ (m : Int) < (q.1.body.length : Int) := by omega
            have H' : Hid (P2 w1 wr (w1.heap.size + 2) r ds.length k2 w.heap.size w2.heap.size (.slice g ds.length c) (stt (x : Int) (y : Int) (i + 1) 0 rs)) := by
              have h := Hm.out
              rw [show m = q.1.body.length by omega, stt_next HQI.out] at h
              exact h
            clear Hm
            go_wp2_with fail
            go_roundw
            case rel => exact ⟨i + 1, by omega, by go_num, H'⟩
            case measure => simp [intOf]; omega
      · have hlt' : ¬ (i : Int) < (ds.length : Int) := by omega
        obtain rfl : i = ds.length := by omega
        have y0 := H.out.p.c0
        have hdq : Defs Exs wr (some ⟨r, 0, none⟩) (swP x y ds) := by
          have h := H.out.pd
          have hl : ds.length = (stt (x : Int) (y : Int) ds.length 0 rs).length := by rw [stt_len, HRS.out.2.1]
          have h2 : Pd wr (w1.heap.size + 2) (.slice (some ⟨r, 0, none⟩) (stt (x : Int) (y : Int) ds.length 0 rs).length k2) (stt (x : Int) (y : Int) ds.length 0 rs) := by rw [← hl]; exact h
          have h3 := h2.defs
          rw [← HRS.out.2.1, stt_all, HRS.out.1] at h3
          exact h3
        have hmq := fun W (h : Below wr.heap.size wr W) => pmay_any (some ⟨r, 0, none⟩) k2 (swP x y ds) W (hdq.on h)
        have hmp := fun W (h : Below wr.heap.size wr W) => pmay_any g c ds W ((HD1.out.2.on H.out.below).on h)
        simp only [swP_len, sw_pmay HXY.out.2.1 HXY.out.2.2.2 HXY.out.1 HXY.out.2.2.1] at hmq
        obtain ⟨M, hM⟩ : ∃ M, pmay ds = M := ⟨_, rfl⟩
        rw [hM] at hmp
        simp only [hM] at hmq
        have hMM : (M == M) = true := by simp
        have HBW : Hid (Below w.heap.size w wr) := below_next H01.out H.out.below
        have hfd : ∀ (b : Nat) (W : World), (Instr.field 24 (.agg #[.slice (some ⟨b, 0, none⟩) 2 2]) 0).run Try.prog W = .ok (.slice (some ⟨b, 0, none⟩) 2 2) W := fun _ _ => by kernel_rfl
        have hm8 : ∀ W, Below wr.heap.size wr W → ∀ v, (v = Value.agg #[.slice (some ⟨r, 0, none⟩) ds.length k2] ∨ v = Value.agg #[.slice g ds.length c]) → Calls Try.prog 8 #[v] W fun e w' => e = .returned (.bool M) ∧ Below W.heap.size W w' := by
          rintro W h v (rfl | rfl)
          · exact hmq W h
          · exact hmp W h
        clear hM hdq H HRS HBL hmq hmp
        go_wp2_with fail
        go_region_held3 (fun w' => Below wr.heap.size wr w' ∧ w'.cell? ⟨w2.heap.size, 0, none⟩ = some (.slice (some ⟨r, 0, none⟩) ds.length k2) ∧ w'.cell? ⟨w.heap.size, 0, none⟩ = some (.slice g ds.length c))
          (first | assumption | (exact keep2_drew (by first | assumption | exact ⟨Below.refl _ _, z0, y0⟩)) | (exact keep2_next (by assumption) (by assumption)))
          (first | (go_at_call 8; refine (hm8 _ (And.left (by assumption)) _ (by first | exact Or.inl rfl | exact Or.inr rfl)).mono ?_; rintro e w4 ⟨rfl, hb4⟩) | (go_at_call 12; refine (small_any _).mono ?_; rintro e w6 ⟨rfl, _, hb6, _⟩))
        all_goals
          have h06 : Below w.heap.size w w6 := below_next HBW.out (And.left (by assumption))
          go_wp2_with fail
          go_ret
          exact ⟨rfl, h06⟩

/- The row's step. -/
set_option maxRecDepth 100000 in
theorem lifted (os : Os) (started : os.Started) (H : Type) (enc : TypeId × Value → H) :
    ReturnsInHanded {} Try.checked os 6 .any (Rows.programRowSpec.pre6 enc Try.prog Try.f6 Rows.programRowRow.domain false) (Rows.programRowSpec.post enc Try.prog Try.f6 false true false false) := by
  refine returnsInHanded_of_change_sized (C := Try.checked) own started (by kernel_rfl) Try.func6
    (ChangeSpec.witness6 (enc := enc) (C := Try.checked) false ⟨#[], #[.agg #[.slice none 0 0], .int .i64 0, .int .i64 0], []⟩ 8 (by kernel_rfl) (by kernel_rfl) (by kernel_rfl) (by kernel_rfl)) ?_
  intro W base args ds gs before hval0 hW hcnd hsz _
  have hval : ∀ (j : Nat) t v, Try.f6.params[j]? = some t → args[j]? = some v → Value.okWide Try.prog W .any base t v := hval0
  have hW' := hW
  obtain ⟨p, q, hA0, hV, rfl, hfz, hnd⟩ := hW
  have hA : DataW.TrodAll enc Try.prog W 0 (fun _ => true) true Try.f6.params.toList args.toList ds p := hA0
  rw [Try.params6] at hA hval
  obtain ⟨v0, vs0, d0, ds0, p0, q0, hargs, rfl, rfl, h0, r0⟩ := trodAll_cons hA
  obtain ⟨v1, vs1, d1, ds1, p1, q1, rfl, rfl, rfl, h1, r1⟩ := trodAll_cons r0
  obtain ⟨v2, vs2, d2, ds2, p2, q2, rfl, rfl, rfl, h2, r2⟩ := trodAll_cons r1
  obtain ⟨rfl, rfl, rfl⟩ := trodAll_nil r2
  obtain rfl : args = #[v0, v1, v2] := by cases args; simp_all
  obtain ⟨rfl, rfl⟩ := trodVars_none hV
  obtain ⟨g, fs, c, rfl, hx, hb, hk⟩ := open_program (j := 0) (hval 0 24 v0 rfl rfl) h0 hsz rfl rfl
  obtain ⟨a1, rfl, rfl, rfl, w1⟩ := open_int Try.underlying3 (hval 1 3 v1 rfl rfl) h1
  obtain ⟨a2, rfl, rfl, rfl, w2⟩ := open_int Try.underlying3 (hval 2 3 v2 rfl rfl) h2
  clear hA0 hval0
  simp only [List.append_nil] at hW'
  have hlt0 : ∀ x ∈ p0, x.block < W.heap.size := fun x hx => by simpa using hW'.lt x hx
  refine (walk g c fs a1 a2 W hx hb hk).mono fun e W' ⟨he, hg⟩ => ?_
  subst he
  exact ⟨_, rfl, _, _, _, [], (p0 ++ ([] ++ ([] ++ []))), [], hW', trodAll_cons_mk (shut_bool Try.underlying4 _) trodAll_mk0, trodAll_cons_mk (Below.trod laidOut (by kernel_rfl) (of_decide_eq_true (by kernel_rfl)) h0 hg hlt0) (trodAll_cons_mk (shut_int Try.underlying3 w1) (trodAll_cons_mk (shut_int Try.underlying3 w2) trodAll_mk0)), rfl, hg.frame _, fun h => by cases h⟩

theorem over : Rows.programRowRow.holds Try.pinned (OpenSpec.ofChange Rows.programRowSpec) :=
  OpenClaim.holds_of_wide 6 Try.f6 rfl rfl rfl rfl rfl rfl rfl ⟨rfl, rfl, rfl, rfl, rfl⟩ rfl rfl rfl rfl rfl (by kernel_rfl) Try.func6 (by kernel_rfl)
    (of_decide_eq_true (by kernel_rfl)) (by unfold Func.isWrapper; first | (rw [if_pos (by decide +kernel)]; kernel_rfl) | (rw [if_neg (by decide +kernel)]; exact ⟨rfl, rfl⟩))
    (fun os started H enc _ => lifted os started H enc)

/-- The given statement. -/
theorem proved : Rows.ProgramRowSaid :=
  over
end Go.Proofs.Ytiobjkmpeiohdaa.programRow
namespace Go.Proofs.Ytiobjkmpeiohdaa
theorem programRow_holds : Rows.ProgramRowSaid := programRow.proved
end Go.Proofs.Ytiobjkmpeiohdaa
