/- sleuthlaw10.HoldHead returns true at every program, node and fuel: what is met has the head that is meant. The condition is the card's own: the five listed tables and variables of Go's library read as the program's text lays them; a program, node or text that comes in is no larger than the claim's bound. -/
import Derived.Test.YtgajnmcjnkfblaaGreatDoorMLaid
import Derived.Laws.OwnMore
import Derived.Laws.IdiomStrings
import Derived.Deep.OwnRows
import Derived.SizedLaws
import Derived.ChangeMaps5
import Derived.WalkKit
import Derived.ProofKit
import Derived.OpenShut
import Derived.Test.YtgajnmcjnkfblaaGreatDoorMHRf
import Derived.Test.YtgajnmcjnkfblaaGreatDoorMHLaw
import Derived.Test.YtgajnmcjnkfblaaGreatDoorMNPure
import Derived.Test.YtgajnmcjnkfblaaGreatDoorMNRh
import Derived.Test.YtgajnmcjnkfblaaGreatDoorMRLess
import Derived.Test.YtgajnmcjnkfblaaGreatDoorMCopy
namespace Go.Proofs.YtgajnmcjnkfblaaGreatDoor.holdHead
open Go.RowKit
set_option linter.unusedVariables false
set_option maxRecDepth 100000 in
set_option maxHeartbeats 1600000 in
/-- The walk: the law's Go text returns true. -/
theorem walk (g : Option Addr) (ds : List Df) (c : Nat) (n : Nd) (ga : Option Addr) (ca : Nat) (fuel : Int) (w : World) (hd : Defs ExsN w g ds) (hb : ds.length * 32 ≤ 140737488351232) (hk : ∀ d ∈ ds, DBd d) (hi : StI w ga n.args ca) (hbn : NBd n) (hw : Tm.Lw w) :
    Calls Tryz.prog 7 #[.agg #[.slice g ds.length c], .agg #[.int .i64 n.fn, .int .i64 n.par, .slice ga n.args.length ca, .string n.res], .int .i64 fuel] w fun e w' => e = .returned (.bool true) ∧ Below w.heap.size w w' := by
  obtain ⟨fn, par, xs, res⟩ := n
  simp only [] at hi ⊢
  obtain ⟨j, hj, hjl⟩ := umod10 fuel 401 (by decide)
  have hj : (IntKind.u64.wrap fuel).tmod 401 = (j : Int) := hj
  have HB : Hid (xs.length * 16 ≤ 140737488351232 ∧ (∀ x ∈ xs, x.size ≤ 140737488355328) ∧ res.size ≤ 140737488355328) := ⟨hbn.1, fun x h => Nat.le_trans (hbn.2.1 x h) (by decide), Nat.le_trans hbn.2.2 (by decide)⟩
  have HD : Hid (Defs Exs w g ds) := hd.onE (E' := Exs) (Below.refl _ w) (fun _ _ k => k.exs)
  have HI := hid hi
  have HW := hid hw
  obtain ⟨q, hq⟩ : ∃ q, hdsB ds fn (Tm.lst xs) res.data.toList (j : Int) = q := ⟨_, rfl⟩
  obtain ⟨E, hE⟩ : ∃ E, hdsE ds fn (Tm.lst xs) res.data.toList (j : Int) = E := ⟨_, rfl⟩
  have HQE : Hid (hdsB ds fn (Tm.lst xs) res.data.toList (j : Int) = q ∧ hdsE ds fn (Tm.lst xs) res.data.toList (j : Int) = E) := ⟨hq, hE⟩
  have HIS : Hid (∀ W, Below w.heap.size w W → Calls Tryz.prog 21 #[.agg #[.slice g ds.length c], .agg #[.int .i64 fn, .int .i64 par, .slice ga xs.length ca, .string res], .int .i64 (j : Int)] W fun e w' => e = .returned (.tuple #[.bool q, .int .i64 E]) ∧ Below W.heap.size W w') := fun W h => by
    have := holds_any g c ds fn par ga ca xs res (j : Int) W (HD.out.on h) ((HI.out.on h).txts) HB.out.2.1 (by have := HB.out.1; omega) HB.out.2.2 (Tm.Lw.on HW.out h)
    rw [hq, hE] at this
    exact this
  have HRH : Hid (∀ W, Below w.heap.size w W → Calls Tryz.prog 12 #[.agg #[.slice g ds.length c], .int .i64 fn, .slice ga xs.length ca, .int .i64 (j : Int)] W fun e w' => e = .returned (.tuple #[.string ⟨(hdT ds fn (Tm.lst xs) (j : Int)).toArray⟩, .int .i64 (hdE ds fn (Tm.lst xs) (j : Int))]) ∧ Below W.heap.size W w') := fun W h =>
    rhead_any g c ds fn ga ca xs (j : Int) W (HD.out.on h) ((HI.out.on h).txts) HB.out.2.1 (by have := HB.out.1; omega)
  obtain ⟨m, hm⟩ : ∃ m, xs.length = m := ⟨_, rfl⟩
  obtain ⟨k, hk2⟩ : ∃ k, ds.length = k := ⟨_, rfl⟩
  simp only [hm, hk2] at HIS HRH ⊢
  clear hd hb hk hi hbn hw hq hE hm hk2
  go_enter Tryz.func7, Tryz.ntmps7
  go_wp2_with fail
  refine grabK (fun U => Hid (Below w.heap.size w U) ∧ Hid (PX w.heap.size U g k c fn par ga m ca res)) ⟨((Below.refl _ w).alloc (Nat.le_refl _) _).alloc (by simp) _, PX.new w g k c fn par ga m ca res⟩ (fun U hU => ?_)
  obtain ⟨HU, HPX⟩ := hU
  refine (awake10 U (Tm.Lw.on HW.out HU.out)).mono ?_
  rintro e w1 ⟨rfl, hb1⟩
  have HB1 : Hid (Below w.heap.size w w1) := bu_next HU.out hb1
  have HP1 := hid (HPX.out.next hb1)
  obtain ⟨p0, x0, x1, x2, x3, pl, xl⟩ := HP1.out.cells
  clear hb1 HPX HU
  go_wp2_with fail
  refine (HIS.out w1 HB1.out).mono ?_
  rintro e w2 ⟨rfl, hb2⟩
  have HB2 : Hid (Below w.heap.size w w2) := bu_next HB1.out hb2
  have HP2 := hid (HP1.out.next hb2)
  clear p0 x0 x1 x2 x3 pl xl
  obtain ⟨p0, x0, x1, x2, x3, pl, xl⟩ := HP2.out.cells
  clear hb2 HP1 HB1
  by_cases h0 : E = 0
  · subst h0
    cases q with
    | false =>
      go_wp2_with (go_at_call 13; refine (Lx.num_any 0 _).mono ?_; rintro e w5 ⟨rfl, rfl⟩)
      go_ret
      exact ⟨rfl, HB2.out⟩
    | true =>
      cases hr : (res.toList == [95]) with
      | true =>
        go_wp2_with (go_at_call 13; refine (Lx.num_any 0 _).mono ?_; rintro e w5 ⟨rfl, rfl⟩)
        go_ret
        exact ⟨rfl, HB2.out⟩
      | false =>
        have hne : res.data.toList ≠ [95] := by
          intro e
          rw [ByteArray.toList_eq, e] at hr
          cases hr
        obtain ⟨f1, f2, f3, f4⟩ := hds_head HQE.out.1 hne
        obtain ⟨T, hT⟩ : ∃ T : ByteArray, (⟨(hdT ds fn (Tm.lst xs) (j : Int)).toArray⟩ : ByteArray) = T := ⟨_, rfl⟩
        have hTd : T.data.toList = hdT ds fn (Tm.lst xs) (j : Int) := by rw [← hT]
        have HBL : Hid (∀ W, Calls Tryz.prog 25 #[.string T, .string res] W fun e w' => e = .returned (.tuple #[.bool true, .int .i64 0]) ∧ Below W.heap.size W w') := fun W => by
          have hsz : T.size ≤ 140737488355328 := Nat.le_trans (Tm.whole_size (by rw [hTd]; exact f2)) (by decide)
          have := Tm.rbelow_any T res W hsz HB.out.2.2
          rw [hTd, show Tm.isB (hdT ds fn (Tm.lst xs) (j : Int)) res.data.toList = true by unfold Tm.isB; rw [f2, f3, f4]; rfl, show Tm.isE (hdT ds fn (Tm.lst xs) (j : Int)) res.data.toList = 0 by unfold Tm.isE; rw [f2, f3]; rfl] at this
          exact this
        rw [hT, f1] at HRH
        clear hT hTd f1 f2 f3 f4 hne
        go_wp2_with (go_at_call 13; refine (Lx.num_any 0 _).mono ?_; rintro e w5 ⟨rfl, rfl⟩)
        refine (HRH.out w2 HB2.out).mono ?_
        rintro e w3 ⟨rfl, hb3⟩
        have HB3 : Hid (Below w.heap.size w w3) := bu_next HB2.out hb3
        have HP3 := hid (HP2.out.next hb3)
        clear p0 x0 x1 x2 x3 pl xl
        obtain ⟨p0, x0, x1, x2, x3, pl, xl⟩ := HP3.out.cells
        clear hb3
        go_wp2_with fail
        refine (HBL.out w3).mono ?_
        rintro e w4 ⟨rfl, hb4⟩
        have HB4 : Hid (Below w.heap.size w w4) := bu_next HB3.out hb4
        clear hb4
        go_wp2_with fail
        go_ret
        exact ⟨rfl, HB4.out⟩
  · have HN : Hid (q = false) := by
      show _ = _
      rw [← HQE.out.1]; exact hds_no (by rw [HQE.out.2]; exact h0)
    obtain rfl : q = false := HN.out
    have e1 : (E == 0) = false := by simp [h0]
    have e2 : (E != 0) = true := by simp [h0]
    go_wp2_with (go_at_call 13; refine (Lx.num_any E _).mono ?_; rintro e w5 ⟨rfl, rfl⟩)
    go_ret
    exact ⟨rfl, HB2.out⟩
open Go.ChangeShapes Go.WideShapes Go.ChangeAt 
set_option maxRecDepth 100000 in
/-- What the walk gives, for every argument and every world that holds the list. -/
theorem contract (H : Type) (enc : TypeId × Value → H) (W : World) (base : Nat) (args : Array Value) (ds gs : List (DataW H)) (before : List MemPlace)
    (hval : ∀ (j : Nat) t v, Tryz.f7.params[j]? = some t → args[j]? = some v → Value.okWide Tryz.prog W .any base t v)
    (hW : DataW.Whole enc Tryz.prog Tryz.f7.params.toList Rows.holdHeadSpec.vars false W args.toList ds gs before)
    (hsz0 : (DataW.weightsEach Tryz.prog (Tryz.f7.params.toList ++ (OpenSpec.ofChange Rows.holdHeadSpec).bare.plain.varTypes Tryz.prog) (ds ++ gs)).all (· ≤ reachBytes) = true) (hL : laidMetH Tryz.prog Rows.holdHeadRow.laid W) :
    Calls Tryz.prog 7 args W fun e W' => ∃ v, e = .returned v ∧ Rows.holdHeadSpec.post enc Tryz.prog Tryz.f7 false true false false W args v W' := by
  have hW' := hW
  obtain ⟨p, q, hA0, hV, rfl, hfz, hnd⟩ := hW
  have hA : DataW.TrodAll enc Tryz.prog W 0 (fun _ => true) true Tryz.f7.params.toList args.toList ds p := hA0
  rw [Tryz.params7] at hA hval hsz0
  obtain ⟨v0, vs0, d0, ds0, p0, q0, hargs, rfl, rfl, h0, r0⟩ := trodAll_cons hA
  obtain ⟨v1, vs1, d1, ds1, p1, q1, rfl, rfl, rfl, h1, r1⟩ := trodAll_cons r0
  obtain ⟨v2, vs2, d2, ds2, p2, q2, rfl, rfl, rfl, h2, r2⟩ := trodAll_cons r1
  obtain ⟨rfl, rfl, rfl⟩ := trodAll_nil r2
  obtain rfl : args = #[v0, v1, v2] := by cases args; simp_all
  obtain ⟨rfl, rfl⟩ := trodVars_none hV
  have k0 := h0
  obtain ⟨g0, xs0, c0, rfl, hin0, hbd0, hkd0⟩ := open_program (j := 0) (hval 0 24 v0 rfl rfl) h0 hsz0 rfl rfl
  have k1 := h1
  obtain ⟨n1, g1, c1, rfl, hin1, hbd1⟩ := open_node (j := 1) (hval 1 52 v1 rfl rfl) h1 hsz0 rfl rfl
  obtain ⟨a2, rfl, rfl, rfl, w2⟩ := open_int Tryz.underlying3 (hval 2 3 v2 rfl rfl) h2
  clear hA0
  simp only [List.append_nil] at hW'
  have hlt0 : ∀ x ∈ p0, x.block < W.heap.size := fun x hx => by simpa using hW'.lt x (List.mem_append_left _ hx)
  have hlt1 : ∀ x ∈ p1, x.block < W.heap.size := fun x hx => by simpa using hW'.lt x (List.mem_append_right _ hx)
  refine (walk g0 xs0 c0 n1 g1 c1 a2 W hin0 hbd0 hkd0 hin1 hbd1 (lw_of hL)).mono fun e W' ⟨he, hg⟩ => ?_
  subst he
  exact ⟨_, rfl, _, _, _, [], (p0 ++ (p1 ++ ([] ++ []))), [], hW', trodAll_cons_mk (shut_bool Tryz.underlying4 _) trodAll_mk0, trodAll_cons_mk (Below.trod laidOut (by kernel_rfl) (of_decide_eq_true (by kernel_rfl)) k0 hg hlt0) (trodAll_cons_mk (Below.trod laidOut (by kernel_rfl) (of_decide_eq_true (by kernel_rfl)) k1 hg hlt1) (trodAll_cons_mk (shut_int Tryz.underlying3 w2) trodAll_mk0)), rfl, hg.frame _, fun h => by cases h⟩

theorem reads (os : Os) {H : Type} (enc : TypeId × Value → H) : ∃ places, DataW.whole enc Tryz.prog ((World.doorLaid Tryz.prog 62 os).forCall (fun _ _ => 0) ⟨#[], #[.agg #[.slice none 0 0], .agg #[.int .i64 0, .int .i64 0, .slice none 0 0, .string ⟨#[]⟩], .int .i64 0], []⟩).memory Tryz.f7.params.toList Rows.holdHeadSpec.vars false #[Value.agg #[.slice none 0 0], .agg #[.int .i64 0, .int .i64 0, .slice none 0 0, .string ⟨#[]⟩], .int .i64 0].toList 8 = some ([.agg [.nil], .agg [.lit (.int .i64 0), .lit (.int .i64 0), .nil, .lit (.string [])], .lit (.int .i64 0)], [], places) :=
  ⟨[], by kernel_rfl⟩

set_option maxRecDepth 100000 in
theorem lifted (os : Os) (started : os.Started) (H : Type) (enc : TypeId × Value → H) (F : Stop.Interp) :
    ReturnsInHanded {} Tryz.checked os 7 .any ((OpenSpec.ofChange Rows.holdHeadSpec).preRow enc Tryz.prog Tryz.f7 Rows.holdHeadRow.domain false Rows.holdHeadRow.laid) (((OpenSpec.ofChange Rows.holdHeadSpec).at F).post enc Tryz.prog Tryz.f7 false true false false) := by
  obtain ⟨places, hx⟩ := reads os enc
  refine returnsInHanded_of_row (C := Tryz.checked) (s := OpenSpec.ofChange Rows.holdHeadSpec) own started (by kernel_rfl) Tryz.func7
    (witness_row_atRef (enc := enc) (C := Tryz.checked) false (World.doorLaid Tryz.prog 62 os) #[.agg #[.slice none 0 0], .agg #[.int .i64 0, .int .i64 0, .slice none 0 0, .string ⟨#[]⟩], .int .i64 0] rfl (by kernel_rfl) (by kernel_rfl) (by kernel_rfl)
      (OpenSpec.preRow_of_cond 8 hx (by kernel_rfl) (fun k hk => by cases hk) (by kernel_rfl) (door_met os _))) ?_
  intro W base args ds gs before hval hW _ _ hsz hL _ _
  exact contract H enc W base args ds gs before hval hW hsz hL

theorem said : Rows.HoldHeadSaid :=
  OpenClaim.holds_of_cond 7 Tryz.f7 rfl rfl rfl rfl rfl rfl rfl ⟨rfl, rfl, rfl, rfl, rfl⟩ rfl rfl rfl rfl rfl (by kernel_rfl) Tryz.func7 (by kernel_rfl)
    (of_decide_eq_true (by kernel_rfl)) (by unfold Func.isWrapper; first | (rw [if_pos (by decide +kernel)]; kernel_rfl) | (rw [if_neg (by decide +kernel)]; exact ⟨rfl, rfl⟩))
    (fun os started H enc _ F => by rw [OpenClaim.pre_eq_preRow]; exact lifted os started H enc F)

theorem plain (f : FuncId) (fn : Func) (hf : Tryz.pinned.checked.prog.funcNamed "sleuth/sleuthlaw10.HoldHead" = some f) (hfn : Tryz.pinned.checked.prog.funcs[f]? = some fn) :
    true = Tryz.pinned.checked.prog.looks [] ∧ ∀ (j : Nat) t, fn.params[j]? = some t → Tryz.pinned.checked.prog.wantsStandIn t = false := by
  obtain rfl : f = 7 := Option.some.inj ((show Tryz.prog.funcNamed "sleuth/sleuthlaw10.HoldHead" = some 7 by kernel_rfl).symm.trans hf) |>.symm
  obtain rfl : fn = Tryz.f7 := (Option.some.inj (Tryz.func7.symm.trans hfn)).symm
  refine ⟨by kernel_rfl, fun j t ht => ?_⟩
  rw [Tryz.params7] at ht
  have hm : t ∈ [24, 52, 3] := by simpa using Array.mem_of_getElem? ht
  have hall : ([24, 52, 3].all fun u => !Tryz.prog.wantsStandIn u) = true := by kernel_rfl
  exact (show Tryz.prog.wantsStandIn t = false by simpa using List.all_eq_true.1 hall t hm)

/-- The given statement. -/
theorem card : Rows.HoldHeadCardSaid :=
  Claim7.holds_tied_plain_at .later [] _ _ _ _ said (fun _ h => by cases h) (by kernel_rfl) (fun _ h => by cases h) holdHead_row_tie rfl ⟨rfl, rfl⟩ (by kernel_rfl) rfl plain (by kernel_rfl)
end Go.Proofs.YtgajnmcjnkfblaaGreatDoor.holdHead
namespace Go.Proofs.YtgajnmcjnkfblaaGreatDoor
theorem holdHead_holds : Rows.HoldHeadCardSaid := holdHead.card
end Go.Proofs.YtgajnmcjnkfblaaGreatDoor
