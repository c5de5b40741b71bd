/- sleuthlaw10.HoldParent returns true at every program, node and fuel: whose call a node stands in does not count. The condition is the card's own: the five listed tables and variables of Go's library read as the program's text lays them; a program, node or text that comes in is no larger than the claim's bound. -/
import Derived.Test.YtmcdpnikkmedkaaDoorMLaid
import Derived.Laws.OwnMore
import Derived.Laws.IdiomStrings
import Derived.Deep.OwnRows
import Derived.SizedLaws
import Derived.ChangeMaps5
import Derived.WalkKit
import Derived.ProofKit
import Derived.OpenShut
import Derived.Test.YtmcdpnikkmedkaaDoorMHRf
import Derived.Test.YtmcdpnikkmedkaaDoorMHLaw
import Derived.Test.YtmcdpnikkmedkaaDoorMCopy
namespace Go.Proofs.YtmcdpnikkmedkaaDoor.holdParent
open Go.RowKit
set_option linter.unusedVariables false
set_option maxRecDepth 100000 in
set_option maxHeartbeats 1600000 in
/-- The walk: the law's Go text returns true. -/
theorem walk (g : Option Addr) (ds : List Df) (c : Nat) (n : Nd) (ga : Option Addr) (ca : Nat) (fuel par2 : Int) (w : World) (hd : Defs ExsN w g ds) (hb : ds.length * 32 ≤ 140737488351232) (hk : ∀ d ∈ ds, DBd d) (hi : StI w ga n.args ca) (hbn : NBd n) (hw : Tm.Lw w) :
    Calls Tryd.prog 6 #[.agg #[.slice g ds.length c], .agg #[.int .i64 n.fn, .int .i64 n.par, .slice ga n.args.length ca, .string n.res], .int .i64 fuel, .int .i64 par2] w fun e w' => e = .returned (.bool true) ∧ Below w.heap.size w w' := by
  obtain ⟨fn, par, xs, res⟩ := n
  simp only [] at hi ⊢
  have HB : Hid (xs.length * 16 ≤ 140737488351232 ∧ (∀ x ∈ xs, x.size ≤ 140737488355328) ∧ res.size ≤ 140737488355328) := ⟨hbn.1, fun x h => Nat.le_trans (hbn.2.1 x h) (by decide), Nat.le_trans hbn.2.2 (by decide)⟩
  have HD : Hid (Defs Exs w g ds) := hd.onE (E' := Exs) (Below.refl _ w) (fun _ _ k => k.exs)
  have HI := hid hi
  have HW := hid hw
  obtain ⟨q, hq⟩ : ∃ q, hdsB ds fn (Tm.lst xs) res.data.toList fuel = q := ⟨_, rfl⟩
  obtain ⟨E, hE⟩ : ∃ E, hdsE ds fn (Tm.lst xs) res.data.toList fuel = E := ⟨_, rfl⟩
  have HIS : Hid (∀ W pr, Below w.heap.size w W → Calls Tryd.prog 10 #[.agg #[.slice g ds.length c], .agg #[.int .i64 fn, .int .i64 pr, .slice ga xs.length ca, .string res], .int .i64 fuel] W fun e w' => e = .returned (.tuple #[.bool q, .int .i64 E]) ∧ Below W.heap.size W w') := fun W pr h => by
    have := holds_any g c ds fn pr ga ca xs res fuel W (HD.out.on h) ((HI.out.on h).txts) HB.out.2.1 (by have := HB.out.1; omega) HB.out.2.2 (Tm.Lw.on HW.out h)
    rw [hq, hE] at this
    exact this
  have hqq : (q == q) = true := beq_self_eq_true _
  have hEE : (E == E) = true := beq_self_eq_true _
  obtain ⟨m, hm⟩ : ∃ m, xs.length = m := ⟨_, rfl⟩
  obtain ⟨k, hk2⟩ : ∃ k, ds.length = k := ⟨_, rfl⟩
  simp only [hm, hk2] at HIS ⊢
  clear hd hb hk hi hbn hw hq hE hm hk2
  go_enter Tryd.func6, Tryd.ntmps6
  go_wp2_with fail
  refine grabK (fun U => Hid (Below w.heap.size w U) ∧ Hid (PX w.heap.size U g k c fn par ga m ca res)) ⟨((Below.refl _ w).alloc (Nat.le_refl _) _).alloc (by simp) _, PX.new w g k c fn par ga m ca res⟩ (fun U hU => ?_)
  obtain ⟨HU, HPX⟩ := hU
  refine (awake10 U (Tm.Lw.on HW.out HU.out)).mono ?_
  rintro e w1 ⟨rfl, hb1⟩
  have HB1 : Hid (Below w.heap.size w w1) := bu_next HU.out hb1
  have HP1 := hid (HPX.out.next hb1)
  obtain ⟨p0, x0, x1, x2, x3, pl, xl⟩ := HP1.out.cells
  clear hb1 HPX HU
  go_wp2_with fail
  obtain ⟨y, hy⟩ : ∃ y, w1.heap.size = y := ⟨_, rfl⟩
  refine grabK (fun U => Hid (Below w.heap.size w U) ∧ Hid (PX w.heap.size U g k c fn par ga m ca res) ∧ Hid (Bx 29 U y #[.int .i64 fn, .int .i64 par2, .slice ga m ca, .string res])) ⟨HB1.out.alloc HB1.out.size _, HP1.out.next ((Below.refl _ w1).alloc (Nat.le_refl _) _), by rw [← hy]; exact Bx.new 29 w1 _⟩ (fun U hU => ?_)
  simp only [hy]
  obtain ⟨HU, HPX, HY⟩ := hU
  clear p0 x0 x1 x2 x3 pl xl hy HP1 HB1
  refine (HIS.out U par HU.out).mono ?_
  rintro e w2 ⟨rfl, hb2⟩
  have HB2 : Hid (Below w.heap.size w w2) := bu_next HU.out hb2
  have HP2 := hid (HPX.out.next hb2)
  have HY2 := hid (HY.out.next hb2)
  obtain ⟨p0, x0, x1, x2, x3, pl, xl⟩ := HP2.out.cells
  have y0 : w2.cell? ⟨y, 0, none⟩ = some (.int .i64 fn) := HY2.out.cell 0 _ rfl
  have y1 : w2.cell? ⟨y, 1, none⟩ = some (.int .i64 par2) := HY2.out.cell 1 _ rfl
  have y2 : w2.cell? ⟨y, 2, none⟩ = some (.slice ga m ca) := HY2.out.cell 2 _ rfl
  have y3 : w2.cell? ⟨y, 3, none⟩ = some (.string res) := HY2.out.cell 3 _ rfl
  have yl := HY2.out.lt
  clear hb2 HU HPX HY
  go_wp2_with fail
  refine (HIS.out w2 par2 HB2.out).mono ?_
  rintro e w3 ⟨rfl, hb3⟩
  have HB3 : Hid (Below w.heap.size w w3) := bu_next HB2.out hb3
  clear hb3 p0 x0 x1 x2 x3 pl xl y0 y1 y2 y3 yl
  go_wp2_with (go_at_call 11; refine (Lx.num_any E _).mono ?_; rintro e w5 ⟨rfl, rfl⟩)
  go_ret
  exact ⟨rfl, HB3.out⟩
open Go.ChangeShapes Go.WideShapes Go.ChangeAt 
set_option maxRecDepth 100000 in
/-- What the walk gives, for every argument and every world that holds the list. -/
theorem contract (H : Type) (enc : TypeId × Value → H) (W : World) (base : Nat) (args : Array Value) (ds gs : List (DataW H)) (before : List MemPlace)
    (hval : ∀ (j : Nat) t v, Tryd.f6.params[j]? = some t → args[j]? = some v → Value.okWide Tryd.prog W .any base t v)
    (hW : DataW.Whole enc Tryd.prog Tryd.f6.params.toList Rows.holdParentSpec.vars false W args.toList ds gs before)
    (hsz0 : (DataW.weightsEach Tryd.prog (Tryd.f6.params.toList ++ (OpenSpec.ofChange Rows.holdParentSpec).bare.plain.varTypes Tryd.prog) (ds ++ gs)).all (· ≤ reachBytes) = true) (hL : laidMetH Tryd.prog Rows.holdParentRow.laid W) :
    Calls Tryd.prog 6 args W fun e W' => ∃ v, e = .returned v ∧ Rows.holdParentSpec.post enc Tryd.prog Tryd.f6 false true false false W args v W' := by
  have hW' := hW
  obtain ⟨p, q, hA0, hV, rfl, hfz, hnd⟩ := hW
  have hA : DataW.TrodAll enc Tryd.prog W 0 (fun _ => true) true Tryd.f6.params.toList args.toList ds p := hA0
  rw [Tryd.params6] at hA hval hsz0
  obtain ⟨v0, vs0, d0, ds0, p0, q0, hargs, rfl, rfl, h0, r0⟩ := trodAll_cons hA
  obtain ⟨v1, vs1, d1, ds1, p1, q1, rfl, rfl, rfl, h1, r1⟩ := trodAll_cons r0
  obtain ⟨v2, vs2, d2, ds2, p2, q2, rfl, rfl, rfl, h2, r2⟩ := trodAll_cons r1
  obtain ⟨v3, vs3, d3, ds3, p3, q3, rfl, rfl, rfl, h3, r3⟩ := trodAll_cons r2
  obtain ⟨rfl, rfl, rfl⟩ := trodAll_nil r3
  obtain rfl : args = #[v0, v1, v2, v3] := by cases args; simp_all
  obtain ⟨rfl, rfl⟩ := trodVars_none hV
  have k0 := h0
  obtain ⟨g0, xs0, c0, rfl, hin0, hbd0, hkd0⟩ := open_program (j := 0) (hval 0 25 v0 rfl rfl) h0 hsz0 rfl rfl
  have k1 := h1
  obtain ⟨n1, g1, c1, rfl, hin1, hbd1⟩ := open_node (j := 1) (hval 1 29 v1 rfl rfl) h1 hsz0 rfl rfl
  obtain ⟨a2, rfl, rfl, rfl, w2⟩ := open_int Tryd.underlying3 (hval 2 3 v2 rfl rfl) h2
  obtain ⟨a3, rfl, rfl, rfl, w3⟩ := open_int Tryd.underlying3 (hval 3 3 v3 rfl rfl) h3
  clear hA0
  simp only [List.append_nil] at hW'
  have hlt0 : ∀ x ∈ p0, x.block < W.heap.size := fun x hx => by simpa using hW'.lt x (List.mem_append_left _ hx)
  have hlt1 : ∀ x ∈ p1, x.block < W.heap.size := fun x hx => by simpa using hW'.lt x (List.mem_append_right _ hx)
  refine (walk g0 xs0 c0 n1 g1 c1 a2 a3 W hin0 hbd0 hkd0 hin1 hbd1 (lw_of hL)).mono fun e W' ⟨he, hg⟩ => ?_
  subst he
  exact ⟨_, rfl, _, _, _, [], (p0 ++ (p1 ++ ([] ++ ([] ++ [])))), [], hW', trodAll_cons_mk (shut_bool Tryd.underlying4 _) trodAll_mk0, trodAll_cons_mk (Below.trod laidOut (by kernel_rfl) (of_decide_eq_true (by kernel_rfl)) k0 hg hlt0) (trodAll_cons_mk (Below.trod laidOut (by kernel_rfl) (of_decide_eq_true (by kernel_rfl)) k1 hg hlt1) (trodAll_cons_mk (shut_int Tryd.underlying3 w2) (trodAll_cons_mk (shut_int Tryd.underlying3 w3) trodAll_mk0))), rfl, hg.frame _, fun h => by cases h⟩

theorem reads (os : Os) {H : Type} (enc : TypeId × Value → H) : ∃ places, DataW.whole enc Tryd.prog ((World.doorLaid Tryd.prog 62 os).forCall (fun _ _ => 0) ⟨#[], #[.agg #[.slice none 0 0], .agg #[.int .i64 0, .int .i64 0, .slice none 0 0, .string ⟨#[]⟩], .int .i64 0, .int .i64 0], []⟩).memory Tryd.f6.params.toList Rows.holdParentSpec.vars false #[Value.agg #[.slice none 0 0], .agg #[.int .i64 0, .int .i64 0, .slice none 0 0, .string ⟨#[]⟩], .int .i64 0, .int .i64 0].toList 8 = some ([.agg [.nil], .agg [.lit (.int .i64 0), .lit (.int .i64 0), .nil, .lit (.string [])], .lit (.int .i64 0), .lit (.int .i64 0)], [], places) :=
  ⟨[], by kernel_rfl⟩

set_option maxRecDepth 100000 in
theorem lifted (os : Os) (started : os.Started) (H : Type) (enc : TypeId × Value → H) (F : Stop.Interp) :
    ReturnsInHanded {} Tryd.checked os 6 .any ((OpenSpec.ofChange Rows.holdParentSpec).preRow enc Tryd.prog Tryd.f6 Rows.holdParentRow.domain false Rows.holdParentRow.laid) (((OpenSpec.ofChange Rows.holdParentSpec).at F).post enc Tryd.prog Tryd.f6 false true false false) := by
  obtain ⟨places, hx⟩ := reads os enc
  refine returnsInHanded_of_row (C := Tryd.checked) (s := OpenSpec.ofChange Rows.holdParentSpec) own started (by kernel_rfl) Tryd.func6
    (witness_row_atRef (enc := enc) (C := Tryd.checked) false (World.doorLaid Tryd.prog 62 os) #[.agg #[.slice none 0 0], .agg #[.int .i64 0, .int .i64 0, .slice none 0 0, .string ⟨#[]⟩], .int .i64 0, .int .i64 0] rfl (by kernel_rfl) (by kernel_rfl) (by kernel_rfl)
      (OpenSpec.preRow_of_cond 8 hx (by kernel_rfl) (fun k hk => by cases hk) (by kernel_rfl) (door_met os _))) ?_
  intro W base args ds gs before hval hW _ _ hsz hL _ _
  exact contract H enc W base args ds gs before hval hW hsz hL

theorem said : Rows.HoldParentSaid :=
  OpenClaim.holds_of_cond 6 Tryd.f6 rfl rfl rfl rfl rfl rfl rfl ⟨rfl, rfl, rfl, rfl, rfl⟩ rfl rfl rfl rfl rfl (by kernel_rfl) Tryd.func6 (by kernel_rfl)
    (of_decide_eq_true (by kernel_rfl)) (by unfold Func.isWrapper; first | (rw [if_pos (by decide +kernel)]; kernel_rfl) | (rw [if_neg (by decide +kernel)]; exact ⟨rfl, rfl⟩))
    (fun os started H enc _ F => by rw [OpenClaim.pre_eq_preRow]; exact lifted os started H enc F)

theorem plain (f : FuncId) (fn : Func) (hf : Tryd.pinned.checked.prog.funcNamed "sleuth/sleuthlaw10.HoldParent" = some f) (hfn : Tryd.pinned.checked.prog.funcs[f]? = some fn) :
    true = Tryd.pinned.checked.prog.looks [] ∧ ∀ (j : Nat) t, fn.params[j]? = some t → Tryd.pinned.checked.prog.wantsStandIn t = false := by
  obtain rfl : f = 6 := Option.some.inj ((show Tryd.prog.funcNamed "sleuth/sleuthlaw10.HoldParent" = some 6 by kernel_rfl).symm.trans hf) |>.symm
  obtain rfl : fn = Tryd.f6 := (Option.some.inj (Tryd.func6.symm.trans hfn)).symm
  refine ⟨by kernel_rfl, fun j t ht => ?_⟩
  rw [Tryd.params6] at ht
  have hm : t ∈ [25, 29, 3, 3] := by simpa using Array.mem_of_getElem? ht
  have hall : ([25, 29, 3, 3].all fun u => !Tryd.prog.wantsStandIn u) = true := by kernel_rfl
  exact (show Tryd.prog.wantsStandIn t = false by simpa using List.all_eq_true.1 hall t hm)

/-- The given statement. -/
theorem card : Rows.HoldParentCardSaid :=
  Claim7.holds_tied_plain_at .later [] _ _ _ _ said (fun _ h => by cases h) (by kernel_rfl) (fun _ h => by cases h) holdParent_row_tie rfl ⟨rfl, rfl⟩ (by kernel_rfl) rfl plain (by kernel_rfl)
end Go.Proofs.YtmcdpnikkmedkaaDoor.holdParent
namespace Go.Proofs.YtmcdpnikkmedkaaDoor
theorem holdParent_holds : Rows.HoldParentCardSaid := holdParent.card
end Go.Proofs.YtmcdpnikkmedkaaDoor
