/- sleuthlaw9.Heads returns true at every input: Head of package name answers for a copy and lent arguments what the document's own Head answers; the copy and the lent arguments stay as they are; the input is as it was. Conditions: the five listed tables and variables of Go's library read as the program's text lays them; the row's own bound on the lists that come in. -/
import Derived.Test.YtgajnmcjnkfblaaGreatDoorMLaid
import Derived.Laws.OwnMore
import Derived.Laws.IdiomStrings
import Derived.Deep.OwnRows
import Derived.SizedLaws
import Derived.ChangeMaps5
import Derived.WalkKit
import Derived.ProofKit
import Derived.OpenShut
import Derived.Test.YtgajnmcjnkfblaaGreatDoorMNRh
import Derived.Test.YtgajnmcjnkfblaaGreatDoorMNHead
import Derived.Test.YtgajnmcjnkfblaaGreatDoorMCopy
import Derived.Test.YtgajnmcjnkfblaaGreatDoorMSame
import Derived.Test.YtgajnmcjnkfblaaGreatDoorMKids
namespace Go.Proofs.YtgajnmcjnkfblaaGreatDoor.heads
open Go.RowKit
set_option linter.unusedVariables false

theorem inc_on {w w' : World} {g : Option Addr} {xs : List ByteArray} {c : Nat} (h : Tm.Inc w g xs c) (hb : Below w.heap.size w w') : Tm.Inc w' g xs c := by
  rcases h with h | h | ⟨bk, o, e, h1, h2⟩
  · exact Or.inl h
  · exact Or.inr (Or.inl h)
  · exact Or.inr (Or.inr ⟨bk, o, e, Nat.lt_of_lt_of_le h1 hb.size, fun j x hx => (hb.cell (p := ⟨bk, o + j, none⟩) h1).trans (h2 j x hx)⟩)
set_option maxRecDepth 100000 in
set_option maxHeartbeats 1600000 in
/-- The walk: the law's Go text returns true. -/
theorem walk (g : Option Addr) (ds : List Df) (c : Nat) (fn : Int) (ga : Option Addr) (xs : List ByteArray) (ca : Nat) (fuel : Int) (w : World) (hd : Defs ExsN w g ds) (hb : ds.length * 32 ≤ 140737488351232) (hk : ∀ d ∈ ds, DBd d)
    (hin : Tm.Inc w ga xs ca) (hn : xs.length * 16 ≤ 140737488351232) (hxs : ∀ x ∈ xs, x.size ≤ 140737488355328) (hw : Tm.Lw w) :
    Calls Tryz.prog 3 #[.agg #[.slice g ds.length c], .int .i64 fn, .slice ga xs.length ca, .int .i64 fuel] w fun e w' => e = .returned (.bool true) ∧ Below w.heap.size w w' := by
  have HN : Hid (ds.length ≤ 4611686018427387904 ∧ ∀ d ∈ ds, d.body.length ≤ 4611686018427387904 ∧ ∀ x ∈ d.body, x.kids.length ≤ 4611686018427387904) := by
    refine ⟨by omega, fun d h => ?_⟩
    have h1 : d.body.length * 48 ≤ 140737488351232 := (hk d h).1
    refine ⟨by omega, fun x hx => ?_⟩
    have h2 : x.kids.length * 8 ≤ 140737488351232 := (hk d h).2 x hx
    omega
  have ha : Below w.heap.size w (w.alloc (.cells #[.slice g ds.length c] 24)) := (Below.refl _ w).alloc (Nat.le_refl _) _
  have HCP := hid (copyprog_any g c ds _ (hd.onE (E' := ExsN) ha (fun _ _ k => k.on ha)) hb hk)
  have HDX : Hid (Defs Exs (w.alloc (.cells #[.slice g ds.length c] 24)) g ds ∧ Tm.Inc w ga xs ca ∧ xs.length * 16 ≤ 140737488351232 ∧ ∀ x ∈ xs, x.size ≤ 140737488355328) := ⟨hd.onE ha (fun _ _ k => k.exs.on ha), hin, hn, hxs⟩
  have HW := hid hw
  have HX0 := hid (Bx1.new w (.slice g ds.length c))
  have HA0 := hid ha
  obtain ⟨A, hA⟩ : ∃ A : ByteArray, (⟨(hdT ds fn (Tm.lst xs) fuel).toArray⟩ : ByteArray) = A := ⟨_, rfl⟩
  obtain ⟨E, hE⟩ : ∃ E, hdE ds fn (Tm.lst xs) fuel = E := ⟨_, rfl⟩
  have HAE : Hid ((⟨(hdT ds fn (Tm.lst xs) fuel).toArray⟩ : ByteArray) = A ∧ hdE ds fn (Tm.lst xs) fuel = E) := ⟨hA, hE⟩
  have hAA : (A.toList == A.toList) = true := beq_self_eq_true _
  have hEE : (E == E) = true := beq_self_eq_true _
  obtain ⟨n, hnn⟩ : ∃ n, ds.length = n := ⟨_, rfl⟩
  have HNN := hid hnn
  obtain ⟨m, hmm⟩ : ∃ m, xs.length = m := ⟨_, rfl⟩
  have HMM := hid hmm
  rw [hnn] at HCP HX0 HA0 ⊢
  rw [hmm]
  clear hA hE hw hd hb hk hin hn hxs ha hnn hmm
  go_enter Tryz.func3, Tryz.ntmps3
  go_wp2_with fail
  refine HCP.out.mono ?_
  rintro e w1 ⟨g1, c1, rfl, ⟨qs, hqs, hql, hP1, _, _⟩, hb1⟩
  have h01 := Lx.below_next HA0.out hb1
  have hE1 : Defs Exs w1 g1 ds := by
    have h := hP1
    rw [← hql] at h
    have h := h.defs
    rwa [hqs] at h
  have HE1 := hid hE1
  have HB1 := hid h01
  have HX1 := hid (HX0.out.on hb1)
  have HD1 : Hid (Defs Exs w1 g ds) := by
    have h := HDX.out.1
    rw [HNN.out] at h
    exact h.on hb1
  have x0 := HX1.out.c0
  have xl := HX1.out.lt
  clear hb1 h01 hE1 hP1 hqs hql
  go_wp2_with fail
  have HLE := hid (Tm.lend_any ga xs ca w1 (inc_on HDX.out.2.1 HB1.out) HDX.out.2.2.1)
  rw [HMM.out] at HLE
  refine HLE.out.mono ?_
  clear HLE
  rintro e w2 ⟨gb, cap, rfl, hL, hb2⟩
  have HL2 := hid hL
  have HB2 := hid hb2
  have HX2 := hid (HX1.out.on hb2)
  have x0 := HX2.out.c0
  have xl := HX2.out.lt
  clear hL hb2 HX1
  have HM : Hid (∀ W, Below w2.heap.size w2 W → Calls Tryz.prog 11 #[.agg #[.slice g1 n c1], .int .i64 fn, .slice (some ⟨gb, 0, none⟩) m cap, .int .i64 fuel] W fun e w' => e = .returned (.tuple #[.string A, .int .i64 E]) ∧ Below W.heap.size W w') := fun W h => by
    have := head_any g1 c1 ds fn (some ⟨gb, 0, none⟩) cap xs fuel W ((HE1.out.on HB2.out).on h) ((HL2.out.on h).txts) HDX.out.2.2.2 (Tm.Lw.on (Tm.Lw.on (Tm.Lw.on HW.out HB1.out) HB2.out) h) (by have := HDX.out.2.2.1; omega)
    rw [HAE.out.1, HAE.out.2, HNN.out, HMM.out] at this
    exact this
  have HRM : Hid (∀ W, Below w2.heap.size w2 W → Calls Tryz.prog 12 #[.agg #[.slice g n c], .int .i64 fn, .slice ga m ca, .int .i64 fuel] W fun e w' => e = .returned (.tuple #[.string A, .int .i64 E]) ∧ Below W.heap.size W w') := fun W h => by
    have := rhead_any g c ds fn ga ca xs fuel W ((HD1.out.on HB2.out).on h) ((((HDX.out.2.1).txts.on HB1.out).on HB2.out).on h) HDX.out.2.2.2 (by have := HDX.out.2.2.1; omega)
    rw [HAE.out.1, HAE.out.2, HNN.out, HMM.out] at this
    exact this
  have HSM : Hid (∀ W, Below w2.heap.size w2 W → Calls Tryz.prog 14 #[.agg #[.slice g1 n c1], .agg #[.slice g n c]] W fun e w' => e = .returned (.bool true) ∧ Below W.heap.size W w') := fun W h => by
    have := program_same g1 g ds c1 c W ((HE1.out.on HB2.out).on h) ((HD1.out.on HB2.out).on h) HN.out.1 HN.out.2
    rw [HNN.out] at this
    exact this
  have HKM : Hid (∀ W, Below w2.heap.size w2 W → Calls Tryz.prog 15 #[.slice (some ⟨gb, 0, none⟩) m cap, .slice ga m ca] W fun e w' => e = .returned (.bool true) ∧ Below W.heap.size W w') := fun W h => by
    have := Tm.kept_any gb cap ga xs ca w1.heap.size W (HL2.out.on h) ((((HDX.out.2.1).txts.on HB1.out).on HB2.out).on h) HDX.out.2.2.1
    rw [HMM.out] at this
    exact this
  go_wp2_with fail
  refine (HM.out _ (by first | exact Below.refl _ _ | exact (Below.refl _ _).alloc (Nat.le_refl _) _ | exact ((Below.refl _ _).alloc (Nat.le_refl _) _).drew)).mono ?_
  rintro e w3 ⟨rfl, hb3⟩
  obtain ⟨Y, hY⟩ : ∃ Y, w2.heap.size = Y := ⟨_, rfl⟩
  have HB3 : Hid (Below w2.heap.size w2 w3) := Lx.below_next ((Below.refl _ _).alloc (Nat.le_refl _) _) hb3
  have HY3 : Hid (Bx1 w3 Y (.slice g1 n c1)) := by
    have h := (Bx1.new w2 (.slice g1 n c1)).on hb3
    rw [hY] at h; exact h
  have HX3 := hid ((HX2.out.alloc _).on hb3)
  have x0 := HX3.out.c0
  have xl := HX3.out.lt
  have y0 := HY3.out.c0
  have yl := HY3.out.lt
  simp only [hY]
  clear hb3 hY HX2
  go_wp2_with (go_at_call 12; refine (HRM.out w3 HB3.out).mono ?_)
  rintro e w4 ⟨rfl, hb4⟩
  have HB4 := hid (Lx.below_next HB3.out hb4)
  have HX4 := hid (HX3.out.on hb4)
  have HY4 := hid (HY3.out.on hb4)
  have x0 := HX4.out.c0
  have xl := HX4.out.lt
  have y0 := HY4.out.c0
  have yl := HY4.out.lt
  clear hb4 HX3 HY3
  go_wp2_with (go_at_call 13; refine (Lx.num_any E w4).mono ?_)
  rintro e w5 ⟨rfl, rfl⟩
  go_wp2_with (go_at_call 14; refine (HSM.out w4 HB4.out).mono ?_)
  rintro e w5 ⟨rfl, hb5⟩
  have HB5 := hid (Lx.below_next HB4.out hb5)
  clear hb5
  go_wp2_with (go_at_call 15; refine (HKM.out w5 HB5.out).mono ?_)
  rintro e w6 ⟨rfl, hb6⟩
  have HB6 := hid (Lx.below_next HB1.out (Lx.below_next HB2.out (Lx.below_next HB5.out hb6)))
  clear hb6
  go_wp2_with (go_at_call 16; refine (awake9 w6 (Tm.Lw.on HW.out HB6.out)).mono ?_)
  rintro e w7 ⟨rfl, hb7⟩
  have HB7 := hid (Lx.below_next HB6.out hb7)
  clear hb7
  go_wp2
  go_ret
  exact ⟨rfl, HB7.out⟩
open Go.ChangeShapes Go.WideShapes Go.ChangeAt 
set_option maxRecDepth 100000 in
/-- What the walk gives, for every argument and every world that holds the list. -/
theorem contract (H : Type) (enc : TypeId × Value → H) (W : World) (base : Nat) (args : Array Value) (ds gs : List (DataW H)) (before : List MemPlace)
    (hval : ∀ (j : Nat) t v, Tryz.f3.params[j]? = some t → args[j]? = some v → Value.okWide Tryz.prog W .any base t v)
    (hW : DataW.Whole enc Tryz.prog Tryz.f3.params.toList Rows.headsSpec.vars false W args.toList ds gs before)
    (hsz0 : (DataW.weightsEach Tryz.prog (Tryz.f3.params.toList ++ (OpenSpec.ofChange Rows.headsSpec).bare.plain.varTypes Tryz.prog) (ds ++ gs)).all (· ≤ reachBytes) = true) (hL : laidMetH Tryz.prog Rows.headsRow.laid W) :
    Calls Tryz.prog 3 args W fun e W' => ∃ v, e = .returned v ∧ Rows.headsSpec.post enc Tryz.prog Tryz.f3 false true false false W args v W' := by
  have hW' := hW
  obtain ⟨p, q, hA0, hV, rfl, hfz, hnd⟩ := hW
  have hA : DataW.TrodAll enc Tryz.prog W 0 (fun _ => true) true Tryz.f3.params.toList args.toList ds p := hA0
  rw [Tryz.params3] at hA hval hsz0
  obtain ⟨v0, vs0, d0, ds0, p0, q0, hargs, rfl, rfl, h0, r0⟩ := trodAll_cons hA
  obtain ⟨v1, vs1, d1, ds1, p1, q1, rfl, rfl, rfl, h1, r1⟩ := trodAll_cons r0
  obtain ⟨v2, vs2, d2, ds2, p2, q2, rfl, rfl, rfl, h2, r2⟩ := trodAll_cons r1
  obtain ⟨v3, vs3, d3, ds3, p3, q3, rfl, rfl, rfl, h3, r3⟩ := trodAll_cons r2
  obtain ⟨rfl, rfl, rfl⟩ := trodAll_nil r3
  obtain rfl : args = #[v0, v1, v2, v3] := by cases args; simp_all
  obtain ⟨rfl, rfl⟩ := trodVars_none hV
  have k0 := h0
  obtain ⟨g0, xs0, c0, rfl, hin0, hbd0, hkd0⟩ := open_program (j := 0) (hval 0 24 v0 rfl rfl) h0 hsz0 rfl rfl
  obtain ⟨a1, rfl, rfl, rfl, w1⟩ := open_int Tryz.underlying3 (hval 1 3 v1 rfl rfl) h1
  obtain ⟨g2, n2, c2, rfl⟩ := okWide_slice Tryz.underlying25 (hval 2 25 v2 rfl rfl)
  have k2 := h2
  obtain ⟨fuel2, f2⟩ := h2
  obtain ⟨xs2, rfl, hin2, hn2, hxs2⟩ := open_kids (j := 2) f2 hsz0 rfl rfl
  obtain ⟨a3, rfl, rfl, rfl, w3⟩ := open_int Tryz.underlying3 (hval 3 3 v3 rfl rfl) h3
  clear hA0
  simp only [List.append_nil, List.nil_append] at hW'
  have hlt0 : ∀ x ∈ p0, x.block < W.heap.size := fun x hx => by simpa using hW'.lt x (List.mem_append_left _ hx)
  have hlt2 : ∀ x ∈ p2, x.block < W.heap.size := fun x hx => by simpa using hW'.lt x (List.mem_append_right _ hx)
  refine (walk g0 xs0 c0 a1 g2 xs2 c2 a3 W hin0 hbd0 hkd0 hin2 hn2 hxs2 (lw_of hL)).mono fun e W' ⟨he, hg⟩ => ?_
  subst he
  exact ⟨_, rfl, _, _, _, [], (p0 ++ ([] ++ (p2 ++ ([] ++ [])))), [], hW', trodAll_cons_mk (shut_bool Tryz.underlying4 _) trodAll_mk0, trodAll_cons_mk (Below.trod laidOut (by kernel_rfl) (of_decide_eq_true (by kernel_rfl)) k0 hg hlt0) (trodAll_cons_mk (shut_int Tryz.underlying3 w1) (trodAll_cons_mk (Below.trod laidOut (by kernel_rfl) (of_decide_eq_true (by kernel_rfl)) k2 hg hlt2) (trodAll_cons_mk (shut_int Tryz.underlying3 w3) trodAll_mk0))), rfl, hg.frame _, fun h => by cases h⟩

theorem reads (os : Os) {H : Type} (enc : TypeId × Value → H) : ∃ places, DataW.whole enc Tryz.prog ((World.doorLaid Tryz.prog 62 os).forCall (fun _ _ => 0) ⟨#[], #[.agg #[.slice none 0 0], .int .i64 0, .slice none 0 0, .int .i64 0], []⟩).memory Tryz.f3.params.toList Rows.headsSpec.vars false #[Value.agg #[.slice none 0 0], .int .i64 0, .slice none 0 0, .int .i64 0].toList 8 = some ([.agg [.nil], .lit (.int .i64 0), .nil, .lit (.int .i64 0)], [], places) :=
  ⟨[], by kernel_rfl⟩

set_option maxRecDepth 100000 in
theorem lifted (os : Os) (started : os.Started) (H : Type) (enc : TypeId × Value → H) (F : Stop.Interp) :
    ReturnsInHanded {} Tryz.checked os 3 .any ((OpenSpec.ofChange Rows.headsSpec).preRow enc Tryz.prog Tryz.f3 Rows.headsRow.domain false Rows.headsRow.laid) (((OpenSpec.ofChange Rows.headsSpec).at F).post enc Tryz.prog Tryz.f3 false true false false) := by
  obtain ⟨places, hx⟩ := reads os enc
  refine returnsInHanded_of_row (C := Tryz.checked) (s := OpenSpec.ofChange Rows.headsSpec) own started (by kernel_rfl) Tryz.func3
    (witness_row_atRef (enc := enc) (C := Tryz.checked) false (World.doorLaid Tryz.prog 62 os) #[.agg #[.slice none 0 0], .int .i64 0, .slice none 0 0, .int .i64 0] rfl (by kernel_rfl) (by kernel_rfl) (by kernel_rfl)
      (OpenSpec.preRow_of_cond 8 hx (by kernel_rfl) (fun k hk => by cases hk) (by kernel_rfl) (door_met os _))) ?_
  intro W base args ds gs before hval hW _ _ hsz hL _ _
  exact contract H enc W base args ds gs before hval hW hsz hL

theorem said : Rows.HeadsSaid :=
  OpenClaim.holds_of_cond 3 Tryz.f3 rfl rfl rfl rfl rfl rfl rfl ⟨rfl, rfl, rfl, rfl, rfl⟩ rfl rfl rfl rfl rfl (by kernel_rfl) Tryz.func3 (by kernel_rfl)
    (of_decide_eq_true (by kernel_rfl)) (by unfold Func.isWrapper; first | (rw [if_pos (by decide +kernel)]; kernel_rfl) | (rw [if_neg (by decide +kernel)]; exact ⟨rfl, rfl⟩))
    (fun os started H enc _ F => by rw [OpenClaim.pre_eq_preRow]; exact lifted os started H enc F)

theorem plain (f : FuncId) (fn : Func) (hf : Tryz.pinned.checked.prog.funcNamed "sleuth/sleuthlaw9.Heads" = some f) (hfn : Tryz.pinned.checked.prog.funcs[f]? = some fn) :
    true = Tryz.pinned.checked.prog.looks [] ∧ ∀ (j : Nat) t, fn.params[j]? = some t → Tryz.pinned.checked.prog.wantsStandIn t = false := by
  obtain rfl : f = 3 := Option.some.inj ((show Tryz.prog.funcNamed "sleuth/sleuthlaw9.Heads" = some 3 by kernel_rfl).symm.trans hf) |>.symm
  obtain rfl : fn = Tryz.f3 := (Option.some.inj (Tryz.func3.symm.trans hfn)).symm
  refine ⟨by kernel_rfl, fun j t ht => ?_⟩
  rw [Tryz.params3] at ht
  have hm : t ∈ [24, 3, 25, 3] := by simpa using Array.mem_of_getElem? ht
  have hall : ([24, 3, 25, 3].all fun u => !Tryz.prog.wantsStandIn u) = true := by kernel_rfl
  exact (show Tryz.prog.wantsStandIn t = false by simpa using List.all_eq_true.1 hall t hm)

/-- The given statement. -/
theorem card : Rows.HeadsCardSaid :=
  Claim7.holds_tied_plain_at .later [] _ _ _ _ said (fun _ h => by cases h) (by kernel_rfl) (fun _ h => by cases h) heads_row_tie rfl ⟨rfl, rfl⟩ (by kernel_rfl) rfl plain (by kernel_rfl)
end Go.Proofs.YtgajnmcjnkfblaaGreatDoor.heads
namespace Go.Proofs.YtgajnmcjnkfblaaGreatDoor
theorem heads_holds : Rows.HeadsCardSaid := heads.card
end Go.Proofs.YtgajnmcjnkfblaaGreatDoor
