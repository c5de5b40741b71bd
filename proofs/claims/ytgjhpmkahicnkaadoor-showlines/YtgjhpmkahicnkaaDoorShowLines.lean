/- sleuthlaw8.ShowLines returns true at every input: a text has a line for each definition, that begins with its parameters; the input is as it was. Conditions: the three listed variables of Go's library read as their texts lay them; the row's own bound on the lists that come in. -/
import Derived.Test.YtgjhpmkahicnkaaDoorMLaid
import Derived.Laws.OwnMore
import Derived.Laws.IdiomStrings
import Derived.Deep.OwnRows
import Derived.SizedLaws
import Derived.ChangeMaps5
import Derived.WalkKit
import Derived.ProofKit
import Derived.OpenShut
import Derived.Test.YtgjhpmkahicnkaaDoorShNl
import Derived.Test.YtgjhpmkahicnkaaDoorMLex
import Derived.Test.YtgjhpmkahicnkaaDoorMCopy
import Derived.Lib.TrimByte
import Derived.Deep.DrawnRows
namespace Go.Proofs.YtgjhpmkahicnkaaDoor.showLines
open Go.RowKit
set_option linter.unusedVariables false
attribute [local go_sem ↓] Go.wp_at_zero Go.wp_at_succ

theorem ix_eq (a r : Nat) : ((a : Int) + (r : Int)).toNat - 1 = a + r - 1 := by omega
theorem k2_drew {w0 wc : World} {p0 q0 : Addr} {x0 y0 : Value} (h : Below w0.heap.size w0 wc ∧ wc.cell? p0 = some x0 ∧ wc.cell? q0 = some y0) :
    Below w0.heap.size w0 wc.drew ∧ wc.drew.cell? p0 = some x0 ∧ wc.drew.cell? q0 = some y0 := ⟨h.1.drew, h.2⟩
theorem ckeep {wc w' : World} {p : Addr} {x : Value} (h : wc.cell? p = some x) (hb : Below wc.heap.size wc w') : w'.cell? p = some x := by
  rw [hb.cell (by
    rcases Nat.lt_or_ge p.block wc.heap.size with h' | h'
    · exact h'
    · unfold World.cell? at h; rw [Array.getElem?_eq_none h'] at h; cases h)]
  exact h
theorem k2_next {w0 wc w' : World} {p0 q0 : Addr} {x0 y0 : Value} (h : Below w0.heap.size w0 wc ∧ wc.cell? p0 = some x0 ∧ wc.cell? q0 = some y0) (hb : Below wc.heap.size wc w') :
    Below w0.heap.size w0 w' ∧ w'.cell? p0 = some x0 ∧ w'.cell? q0 = some y0 := ⟨Lx.below_next h.1 hb, ckeep h.2.1 hb, ckeep h.2.2 hb⟩
set_option maxRecDepth 100000 in
set_option maxHeartbeats 1600000 in
/-- The walk: the law's Go text returns true. -/
theorem walk (g : Option Addr) (ds : List Df) (c : Nat) (w : World) (hd : Defs ExsN w g ds) (hb : ds.length * 32 ≤ 140737488351232) (hk : ∀ d ∈ ds, DBd d) (hw : Tm.Lw w) :
    Calls Tryd.prog 6 #[.agg #[.slice g ds.length c]] w fun e w' => e = .returned (.bool true) ∧ Below w.heap.size w w' := by
  have ha : Below w.heap.size w (w.alloc (.cells #[.slice g ds.length c] 24)) := (Below.refl _ w).alloc (Nat.le_refl _) _
  have hdx : Defs Exs (w.alloc (.cells #[.slice g ds.length c] 24)) g ds := hd.onE ha (fun _ _ k => k.exs.on ha)
  have HX0 := hid (Bx1.new w (.slice g ds.length c))
  have HD := hid hdx
  have HDW : Hid (Defs Exs w g ds) := hd.onE (Below.refl _ w) (fun _ _ k => k.exs)
  have HA := hid ha
  have HW := hid hw
  obtain ⟨A, hA⟩ : ∃ A, Lx.ba (txS ds) = A := ⟨_, rfl⟩
  have HAE := hid hA
  clear hA hdx ha hw hd hb hk
  go_enter Tryd.func6, Tryd.ntmps6
  go_wp2_with (go_at_call 12; refine (awake_any _ (Tm.Lw.on HW.out HA.out)).mono ?_)
  rintro e w1 ⟨rfl, hb1⟩
  have HX1 : Hid (Bx1 w1 w.heap.size (.slice g ds.length c)) := HX0.out.on hb1
  have HB1 := hid (Lx.below_next HA.out hb1)
  have HD1 := hid (HD.out.on hb1)
  have x1 := HX1.out.c0
  clear hb1 HX0 HD
  go_wp2_with (go_at_call 8; refine (text_any g c ds w1 HD1.out (Tm.Lw.on HW.out HB1.out)).mono ?_)
  rintro e w2 ⟨rfl, hb2⟩
  rw [HAE.out]
  have HX2 : Hid (Bx1 w2 w.heap.size (.slice g ds.length c)) := HX1.out.on hb2
  have HB2 := hid (Lx.below_next HB1.out hb2)
  have HD2 := hid (HD1.out.on hb2)
  clear hb2 HX1 HD1 x1
  go_wp2_with (go_at_call 10; refine (Lx.num_any (erS ds) w2).mono ?_)
  rintro e w3 ⟨rfl, rfl⟩
  by_cases hok : okS ds = true
  · have e1 : erS ds = 0 := by unfold erS; rw [hok]; rfl
    have htx : txS ds = showS ds := by unfold txS; rw [hok, if_pos rfl]
    have hpm : pmay ds = true ∧ (showS ds).length ≤ 2048 := by
      unfold okS at hok
      rw [Bool.and_eq_true] at hok
      exact ⟨hok.1, of_decide_eq_true hok.2⟩
    rw [e1]
    have hAs : A.size = (showS ds).length := by rw [← HAE.out, Lx.ba_size, htx]
    have hal : A.size ≤ 2048 := by omega
    have HAL : Hid (A.data.toList = showS ds) := by show _ = _; rw [← HAE.out, htx]; rfl
    have HAS := hid hAs
    have HPM := hid hpm.1
    have HM := hid (pmay_mays hpm.1)
    have h8 : ds.length ≤ 8 := by
      have h := hpm.1
      unfold pmay at h
      simp only [Bool.and_eq_true] at h
      have := of_decide_eq_true h.1.1
      omega
    clear hok e1 htx hpm hAs
    go_wp2_with fail
    go_loopw [5, 6, 7] (fun s4 s5 s6 wr => ∃ (k r : Nat), k ≤ ds.length ∧ s4 = .int .i64 (k : Int) ∧ s5 = .int .i64 (pos ds k : Int) ∧ s6 = .int .i64 ((pos ds k + r : Nat) : Int) ∧ Hid ((k = ds.length → r = 0) ∧ ∀ h : k < ds.length, r ≤ (dfS ds[k]).length) ∧ Hid (Bx1 wr w.heap.size (.slice g ds.length c)) ∧ Hid (Below w.heap.size w wr))
      (fun _ _ s6 _ => A.size - (intOf s6).toNat)
    case atStart => exact ⟨0, 0, Nat.zero_le _, rfl, rfl, rfl, ⟨fun _ => rfl, fun _ => Nat.zero_le _⟩, HX2, HB2⟩
    case round =>
      obtain ⟨k, r, hk, rfl, rfl, rfl, HR, HX, HB⟩ := hrel
      have x0 := HX.out.c0
      have hple := pos_le (ds := ds) hk
      obtain ⟨a, hpa⟩ : ∃ a, pos ds k = a := ⟨_, rfl⟩
      have HPA := hid hpa
      have hal2 : a ≤ A.size := by have := HAS.out; omega
      rw [hpa]
      by_cases hlt : a + r < A.size
      · have hlt' : ((a + r : Nat) : Int) < (A.size : Int) := by omega
        have hk1 : k < ds.length := by
          rcases Nat.lt_or_ge k ds.length with h | h
          · exact h
          · have e : k = ds.length := by omega
            have := HR.out.1 e
            have h2 := pos_end ds
            rw [← e, hpa] at h2
            have := HAS.out
            omega
        have hr := HR.out.2 hk1
        obtain ⟨b, hbb⟩ : ∃ b, A[a + r]'hlt = b := ⟨_, rfl⟩
        have hby : (dfS ds[k] ++ [10])[r]? = some b := by
          rw [← byte_at hk1 r hr, hpa, ← HAL.out, ← hbb, List.getElem?_eq_getElem (by simpa using hlt)]
          rfl
        clear hple hpa
        by_cases hrl : r < (dfS ds[k]).length
        · have hb10 : b ≠ 10 := by
            rw [List.getElem?_append_left hrl] at hby
            exact nl_df ds[k] b (List.mem_of_getElem? hby)
          have hn10 : ((A[a + r]'hlt).toNat : Int) ≠ 10 := by
            rw [hbb]; intro e
            apply hb10
            have : b.toNat = 10 := by omega
            exact UInt8.toNat_inj.1 this
          obtain ⟨n1, n2⟩ := Lx.ne_bool hn10
          have HR2 : Hid ((k = ds.length → r + 1 = 0) ∧ ∀ h : k < ds.length, r + 1 ≤ (dfS ds[k]).length) := ⟨fun e => absurd e (by omega), fun _ => hrl⟩
          clear hby hb10 hbb HR
          go_wp2_with fail
          go_roundw
          case rel => exact ⟨k, r + 1, hk, rfl, by rw [HPA.out], by rw [HPA.out]; first | rfl | (congr 1; omega) | go_num, HR2, HX, HB⟩
          case measure => simp [intOf]; omega
        · have er : r = (dfS ds[k]).length := by omega
          have hb10 : b = 10 := by
            rw [er, List.getElem?_append_right (Nat.le_refl _), Nat.sub_self] at hby
            exact (Option.some.inj hby).symm
          have hk10 : ((A[a + r]'hlt).toNat : Int) = 10 := by rw [hbb, hb10]; rfl
          have n1 : (((A[a + r]'hlt).toNat : Int) == 10) = true := by rw [hk10]; rfl
          have n2 : (((A[a + r]'hlt).toNat : Int) != 10) = false := by rw [hk10]; rfl
          have hmk := HM.out ds[k] (List.getElem_mem hk1)
          obtain ⟨ch, u, hit, hu, hsh⟩ := df_shape hmk
          have hr8 : 8 ≤ r := by
            have h0 : 0 < u.length := List.length_pos_iff.2 hu
            rw [er, hsh]; simp <;> omega
          have hdrop : (showS ds).drop a = (40 :: 100 :: 101 :: 102 :: 32 :: ch :: 32 :: (u ++ [41])) ++ ([10] ++ showS (ds.drop (k + 1))) := by
            rw [pos_split hk1, hsh]
            have : (showS (ds.take k)).length = a := HPA.out
            rw [← this, List.drop_left']
            · simp
            · rfl
          have hAba : A = ⟨(showS ds).toArray⟩ := by
            have := HAL.out
            rw [← this]
          have hs1 : ∀ W, (Instr.slice 9 (.string A) (some (.int .i64 (a : Int))) (some (.int .i64 ((a : Int) + 5))) none).run Tryd.prog W = .ok (.string ⟨#[40, 100, 101, 102, 32]⟩) W := fun W =>
            (run_slice_string_if (P := Tryd.prog) (w := W) (t := 9) (s := A) (k := .i64) (k' := .i64) (i := (a : Int)) (j := (a : Int) + 5) Tryd.underlying9).trans (by
              rw [if_pos ⟨by omega, by omega⟩, if_pos ⟨by omega, by omega⟩]
              rw [show ((a : Int) + 5).toNat = a + 5 by omega, Int.toNat_natCast, hAba, Lib.extract_mk, hdrop, show a + 5 - a = 5 by omega]
              rfl)
          have hs2 : ∀ W, (Instr.slice 9 (.string A) (some (.int .i64 ((a : Int) + 5))) (some (.int .i64 ((a : Int) + 6))) none).run Tryd.prog W = .ok (.string (Lx.ba [ch])) W := fun W =>
            (run_slice_string_if (P := Tryd.prog) (w := W) (t := 9) (s := A) (k := .i64) (k' := .i64) (i := (a : Int) + 5) (j := (a : Int) + 6) Tryd.underlying9).trans (by
              rw [if_pos ⟨by omega, by omega⟩, if_pos ⟨by omega, by omega⟩]
              rw [show ((a : Int) + 5).toNat = a + 5 by omega, show ((a : Int) + 6).toNat = a + 6 by omega, hAba, Lib.extract_mk, ← List.drop_drop, hdrop, show a + 6 - (a + 5) = 1 by omega]
              rfl)
          have h41 : A[a + r - 1]'(by omega) = 41 := by
            have h := byte_at hk1 (r - 1) (by omega)
            rw [HPA.out, show a + (r - 1) = a + r - 1 by omega, List.getElem?_append_left (by omega), ← HAL.out, List.getElem?_eq_getElem (by simp; omega)] at h
            have h2 : (dfS ds[k])[r - 1]? = some 41 := by
              rw [er, hsh]
              simp
            rw [h2] at h
            exact Option.some.inj h
          have h42 : A[((a : Int) + (r : Int)).toNat - 1]'(by omega) = 41 := by simpa only [ix_eq] using h41
          have m1 : (((A[((a : Int) + (r : Int)).toNat - 1]'(by omega)).toNat : Int) == 41) = true := by rw [h42]; rfl
          have m2 : (((A[((a : Int) + (r : Int)).toNat - 1]'(by omega)).toNat : Int) != 41) = false := by rw [h42]; rfl
          obtain ⟨bk, o, rfl, hbk, gk, ck, k0, k1, hE⟩ := HDW.out.at hk1
          obtain ⟨pp, hpp⟩ : ∃ pp, ds[k].params = pp := ⟨_, rfl⟩
          obtain ⟨P, hP⟩ : ∃ P, Lx.ba [ch] = P := ⟨_, rfl⟩
          rw [hpp] at k0 hit
          rw [hP] at hs2
          have q0 : wr.cell? ⟨bk, o + k * 2, none⟩ = some (.int .i64 pp) := (HB.out.cell (p := ⟨bk, o + k * 2, none⟩) hbk).trans k0
          have n3 := may_ne hmk
          rw [hpp] at n3
          have HDC : Hid (∀ W : World, Calls Tryd.prog 17 #[.int .i64 pp] W fun e w' => e = .returned (.string P) ∧ Below W.heap.size W w') := fun W => by
            refine (Tm.decimal_any pp W (by omega) (by omega)).mono ?_
            rintro e w' ⟨rfl, hb⟩
            exact ⟨by rw [hit, ← hP]; rfl, hb⟩
          have hPP : (P.toList == P.toList) = true := beq_self_eq_true _
          have t1 : decide ((ds.length : Int) ≤ (k : Int)) = false := decide_eq_false (by omega)
          have t2 : decide (ds.length ≤ k) = false := decide_eq_false (by omega)
          have t3 : IntKind.i64.wrap ((a : Int) + (r : Int) - (a : Int)) = (r : Int) := by rw [IntKind.wrap_i64]; omega
          have t4 : decide ((r : Int) < 8) = false := decide_eq_false (by omega)
          have t5 : decide (r < 8) = false := decide_eq_false (by omega)
          have t6 : IntKind.i64.wrap ((a : Int) + 5) = (a : Int) + 5 := by rw [IntKind.wrap_i64]; omega
          have t7 : IntKind.i64.wrap ((a : Int) + 6) = (a : Int) + 6 := by rw [IntKind.wrap_i64]; omega
          have t8 : IntKind.i64.wrap ((a : Int) + (r : Int) - 1) = (a : Int) + (r : Int) - 1 := by rw [IntKind.wrap_i64]; omega
          have hk1' : (k : Int) < (ds.length : Int) := by omega
          have HNX : Hid (pos ds (k + 1) = a + r + 1) := by show _ = _; rw [pos_step hk1, HPA.out, ← er]
          have HV := hid (And.intro (Below.refl wr.heap.size wr) (And.intro x0 q0))
          have HX9 := HX
          clear hby er hb10 hk10 hbb HR hit hu hsh hdrop hAba h41 h42 k0 k1 hE hpp hP hbk hmk n3
          go_wp2_with fail
          clear n1 n2 q0 x0 HAE HAL HAS HPM HM HDW HA HW HB1 HB2 HX2 HD2 hk hal2
          go_region_held3 (fun w' => Below wr.heap.size wr w' ∧ w'.cell? ⟨w.heap.size, 0, none⟩ = some (.slice (some ⟨bk, o, none⟩) ds.length c) ∧ w'.cell? ⟨bk, o + k * 2, none⟩ = some (.int .i64 pp))
            (first | assumption | (exact k2_drew (by first | assumption | exact HV.out)) | (exact k2_next (by assumption) (by assumption)))
            (first | (go_at_call 17; refine (HDC.out _).mono ?_; rintro e w8 ⟨rfl, hb8⟩))
          all_goals
            have hb9 : Below wr.heap.size wr w8 := And.left (by assumption)
            have HB9 : Hid (Below w.heap.size w w8) := HB.out.trans (Below.mono hb9 HB.out.size)
            have HX10 : Hid (Bx1 w8 w.heap.size (.slice (some ⟨bk, o, none⟩) ds.length c)) := HX9.out.on hb9
            clear hb9
            go_wp2_with fail
            go_roundw
            case rel => exact ⟨k + 1, 0, by omega, by first | rfl | (congr 1; omega) | go_num, by rw [HNX.out]; first | rfl | (congr 1; omega) | go_num, by rw [HNX.out]; first | rfl | (congr 1; omega) | go_num, ⟨fun _ => rfl, fun _ => Nat.zero_le _⟩, HX10, HB9⟩
            case measure => simp [intOf]; omega
      · have ek : k = ds.length := by
          rcases Nat.lt_or_ge k ds.length with h | h
          · have h1 := HR.out.2 h
            have h2 := pos_step h
            have h3 := pos_le (ds := ds) (k := k + 1) (by omega)
            have := HAS.out
            omega
          · omega
        have er : r = 0 := HR.out.1 ek
        subst ek er
        have ea : a = A.size := by
          have h2 := pos_end ds
          have := HAS.out
          omega
        subst ea
        obtain ⟨S, hS⟩ : ∃ S, Lx.ba srcS = S := ⟨_, rfl⟩
        have hS1 : (S.toList == []) = false := by rw [← hS, Lib.toList_data]; rfl
        have hS2 : ¬ S.toList = [] := by rw [← hS, Lib.toList_data]; decide
        have HSS := hid hS
        have hfd : ∀ (b : Nat) (W : World), (Instr.field 24 (.agg #[.slice (some ⟨b, 0, none⟩) 2 2]) 0).run Tryd.prog W = .ok (.slice (some ⟨b, 0, none⟩) 2 2) W := fun _ _ => by kernel_rfl
        clear hS hlt hple hpa HR
        go_wp2_with (go_at_call 15; refine (rprog_any g c ds wr (HDW.out.on HB.out)).mono ?_)
        rintro e w3 ⟨rfl, hb3⟩
        rw [HPM.out]
        have HB3 := hid (Lx.below_next HB.out hb3)
        clear hb3 x0
        go_wp2_with (go_at_call 14; refine (small_any w3).mono ?_)
        rintro e w4 ⟨rfl, _, hb4, _⟩
        have HB4 := hid (Lx.below_next HB3.out hb4)
        clear hb4
        go_wp2_with (go_at_call 16; refine (source_any w4).mono ?_)
        rintro e w5 ⟨rfl, rfl⟩
        rw [HSS.out]
        go_wp2
        go_ret
        exact ⟨rfl, HB4.out⟩
  · have hok' : okS ds = false := by simpa using hok
    have e1 : erS ds = 800 := by unfold erS; rw [hok']; rfl
    have e2 : Lx.ba (txS ds) = ⟨#[]⟩ := by unfold txS; rw [hok']; rfl
    rw [e1]
    have e3 : A = ⟨#[]⟩ := by rw [← HAE.out, e2]
    subst e3
    clear hok hok' e1 e2
    go_wp2
    go_ret
    exact ⟨rfl, HB2.out⟩
open Go.ChangeShapes Go.WideShapes Go.ChangeAt
set_option maxRecDepth 100000 in
/-- What the walk gives, for every argument and every world that holds the list. -/
theorem contract (H : Type) (enc : TypeId × Value → H) (W : World) (base : Nat) (args : Array Value) (ds gs : List (DataW H)) (before : List MemPlace)
    (hval : ∀ (j : Nat) t v, Tryd.f6.params[j]? = some t → args[j]? = some v → Value.okWide Tryd.prog W .any base t v)
    (hW : DataW.Whole enc Tryd.prog Tryd.f6.params.toList Rows.showLinesSpec.vars false W args.toList ds gs before)
    (hsz0 : (DataW.weightsEach Tryd.prog (Tryd.f6.params.toList ++ (OpenSpec.ofChange Rows.showLinesSpec).bare.plain.varTypes Tryd.prog) (ds ++ gs)).all (· ≤ reachBytes) = true) (hL : laidMetH Tryd.prog Rows.showLinesRow.laid W) :
    Calls Tryd.prog 6 args W fun e W' => ∃ v, e = .returned v ∧ Rows.showLinesSpec.post enc Tryd.prog Tryd.f6 false true false false W args v W' := by
  have hW' := hW
  obtain ⟨p, q, hA0, hV, rfl, hfz, hnd⟩ := hW
  have hA : DataW.TrodAll enc Tryd.prog W 0 (fun _ => true) true Tryd.f6.params.toList args.toList ds p := hA0
  rw [Tryd.params6] at hA hval hsz0
  obtain ⟨v0, vs0, d0, ds0, p0, q0, hargs, rfl, rfl, h0, r0⟩ := trodAll_cons hA
  obtain ⟨rfl, rfl, rfl⟩ := trodAll_nil r0
  obtain rfl : args = #[v0] := by cases args; simp_all
  obtain ⟨rfl, rfl⟩ := trodVars_none hV
  have k0 := h0
  obtain ⟨g0, xs0, c0, rfl, hin0, hbd0, hkd0⟩ := open_program (j := 0) (hval 0 24 v0 rfl rfl) h0 hsz0 rfl rfl
  clear hA0
  simp only [List.append_nil] at hW'
  have hlt0 : ∀ x ∈ p0, x.block < W.heap.size := fun x hx => by simpa using hW'.lt x hx
  refine (walk g0 xs0 c0 W hin0 hbd0 hkd0 (lw_of hL)).mono fun e W' ⟨he, hg⟩ => ?_
  subst he
  exact ⟨_, rfl, _, _, _, [], (p0 ++ []), [], hW', trodAll_cons_mk (shut_bool Tryd.underlying4 _) trodAll_mk0, trodAll_cons_mk (Below.trod laidOut (by kernel_rfl) (of_decide_eq_true (by kernel_rfl)) k0 hg hlt0) trodAll_mk0, rfl, hg.frame _, fun h => by cases h⟩

theorem reads (os : Os) {H : Type} (enc : TypeId × Value → H) : ∃ places, DataW.whole enc Tryd.prog ((World.laidAll Tryd.prog os Rows.showLinesRow.laid).forCall (fun _ _ => 0) ⟨#[], #[.agg #[.slice none 0 0]], []⟩).memory Tryd.f6.params.toList Rows.showLinesSpec.vars false #[Value.agg #[.slice none 0 0]].toList 8 = some ([.agg [.nil]], [], places) :=
  ⟨[], by kernel_rfl⟩

set_option maxRecDepth 100000 in
theorem lifted (os : Os) (started : os.Started) (H : Type) (enc : TypeId × Value → H) (F : Stop.Interp) :
    ReturnsInHanded {} Tryd.checked os 6 .any ((OpenSpec.ofChange Rows.showLinesSpec).preRow enc Tryd.prog Tryd.f6 Rows.showLinesRow.domain false Rows.showLinesRow.laid) (((OpenSpec.ofChange Rows.showLinesSpec).at F).post enc Tryd.prog Tryd.f6 false true false false) := by
  obtain ⟨places, hx⟩ := reads os enc
  refine returnsInHanded_of_row (C := Tryd.checked) (s := OpenSpec.ofChange Rows.showLinesSpec) own started (by kernel_rfl) Tryd.func6
    (witness_row_atRef (enc := enc) (C := Tryd.checked) false (World.laidAll Tryd.prog os Rows.showLinesRow.laid) #[.agg #[.slice none 0 0]] (World.laidAll_os _ _ _) (by kernel_rfl) (by kernel_rfl) (by kernel_rfl)
      (OpenSpec.preRow_of_cond 8 hx (by kernel_rfl) (fun k hk => by cases hk) (by kernel_rfl) (door_met os _))) ?_
  intro W base args ds gs before hval hW _ _ hsz hL _ _
  exact contract H enc W base args ds gs before hval hW hsz hL

theorem said : Rows.ShowLinesSaid :=
  OpenClaim.holds_of_cond 6 Tryd.f6 rfl rfl rfl rfl rfl rfl rfl ⟨rfl, rfl, rfl, rfl, rfl⟩ rfl rfl rfl rfl rfl (by kernel_rfl) Tryd.func6 (by kernel_rfl)
    (of_decide_eq_true (by kernel_rfl)) (by unfold Func.isWrapper; first | (rw [if_pos (by decide +kernel)]; kernel_rfl) | (rw [if_neg (by decide +kernel)]; exact ⟨rfl, rfl⟩))
    (fun os started H enc _ F => by rw [OpenClaim.pre_eq_preRow]; exact lifted os started H enc F)

theorem plain (f : FuncId) (fn : Func) (hf : Tryd.pinned.checked.prog.funcNamed "sleuth/sleuthlaw8.ShowLines" = some f) (hfn : Tryd.pinned.checked.prog.funcs[f]? = some fn) :
    false = Tryd.pinned.checked.prog.looks [] ∧ ∀ (j : Nat) t, fn.params[j]? = some t → Tryd.pinned.checked.prog.wantsStandIn t = false := by
  obtain rfl : f = 6 := Option.some.inj ((show Tryd.prog.funcNamed "sleuth/sleuthlaw8.ShowLines" = some 6 by kernel_rfl).symm.trans hf) |>.symm
  obtain rfl : fn = Tryd.f6 := (Option.some.inj (Tryd.func6.symm.trans hfn)).symm
  refine ⟨by kernel_rfl, fun j t ht => ?_⟩
  rw [Tryd.params6] at ht
  have hm : t ∈ [24] := by simpa using Array.mem_of_getElem? ht
  have hall : ([24].all fun u => !Tryd.prog.wantsStandIn u) = true := by kernel_rfl
  exact (show Tryd.prog.wantsStandIn t = false by simpa using List.all_eq_true.1 hall t hm)

/-- The given statement. -/
theorem card : Rows.ShowLinesCardSaid :=
  Claim7.holds_tied_plain_at .later [] _ _ _ _ said (fun _ h => by cases h) (by kernel_rfl) (fun _ h => by cases h) showLines_row_tie rfl ⟨rfl, rfl⟩ (by kernel_rfl) rfl plain (by kernel_rfl)
end Go.Proofs.YtgjhpmkahicnkaaDoor.showLines
namespace Go.Proofs.YtgjhpmkahicnkaaDoor
theorem showLines_holds : Rows.ShowLinesCardSaid := showLines.card
end Go.Proofs.YtgjhpmkahicnkaaDoor
