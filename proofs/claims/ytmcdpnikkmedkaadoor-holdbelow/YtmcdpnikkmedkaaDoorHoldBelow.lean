/- sleuthlaw10.HoldBelow returns true at every program, node, fuel and place: what is met is met too with one of its parts turned into a hole. The condition is the card's own: the five listed tables and variables of Go's library read as the program's text lays them; a program, node or text that comes in is no larger than the claim's bound. -/
import Derived.Test.YtmcdpnikkmedkaaDoorMLaid
import Derived.Laws.OwnMore
import Derived.Laws.IdiomStrings
import Derived.Deep.OwnRows
import Derived.SizedLaws
import Derived.ChangeMaps5
import Derived.WalkKit
import Derived.ProofKit
import Derived.OpenShut
import Derived.Test.YtmcdpnikkmedkaaDoorMHRf
import Derived.Test.YtmcdpnikkmedkaaDoorMHLaw
import Derived.Test.YtmcdpnikkmedkaaDoorMNPure
import Derived.Test.YtmcdpnikkmedkaaDoorMRMake
import Derived.Test.YtmcdpnikkmedkaaDoorMCopy
namespace Go.Proofs.YtmcdpnikkmedkaaDoor.holdBelow
open Go.RowKit
set_option linter.unusedVariables false
set_option maxRecDepth 100000 in
theorem own_txtsS {W : World} {B n c : Nat} {g : Option Addr} {ks : List Wdn} (h : W.ownsRow B 9 1 (.slice g n c) ks.length (ks.map Tm.S)) : n = ks.length ∧ Tm.Txts W g (ks.map fun k => (⟨k.toArray⟩ : ByteArray)) := by
  obtain ⟨g', c', e, _⟩ := Lx.own_len h
  have en : n = ks.length := by cases e; simp
  refine ⟨en, ?_⟩
  rcases h.2 with ⟨e1, e2⟩ | ⟨b, cap, cur, e1, hb, hh, _⟩
  · left
    cases ks with
    | nil => rfl
    | cons k ks => simp at e2
  · cases e1
    refine Or.inr ⟨b, 0, rfl, (Array.getElem?_eq_some_iff.1 hh).1, fun j x hx => ?_⟩
    have hc := h.cells (g := b) rfl j (.string x) (by
      rw [List.getElem?_map] at hx ⊢
      cases hk : ks[j]? with
      | none => rw [hk] at hx; cases hx
      | some k => rw [hk] at hx; cases hx; rfl)
    rw [Lib.add_plain] at hc
    exact hc
theorem lst_back (ks : List Wdn) : Tm.lst (ks.map fun k => (⟨k.toArray⟩ : ByteArray)) = ks := by
  unfold Tm.lst
  rw [List.map_map]
  exact List.map_id'' (fun k => by simp) ks

set_option maxHeartbeats 1600000 in
/-- The walk: the law's Go text returns true. -/
theorem walk (g : Option Addr) (ds : List Df) (c : Nat) (n : Nd) (ga : Option Addr) (ca : Nat) (fuel at' : Int) (w : World) (hd : Defs ExsN w g ds) (hb : ds.length * 32 ≤ 140737488351232) (hk : ∀ d ∈ ds, DBd d) (hi : StI w ga n.args ca) (hbn : NBd n) (hw : Tm.Lw w) :
    Calls Tryd.prog 4 #[.agg #[.slice g ds.length c], .agg #[.int .i64 n.fn, .int .i64 n.par, .slice ga n.args.length ca, .string n.res], .int .i64 fuel, .int .i64 at'] w fun e w' => e = .returned (.bool true) ∧ Below w.heap.size w w' := by
  obtain ⟨fn, par, xs, res⟩ := n
  simp only [] at hi ⊢
  obtain ⟨j, hj, hjl⟩ := umod10 fuel 401 (by decide)
  have hj : (IntKind.u64.wrap fuel).tmod 401 = (j : Int) := hj
  have HB : Hid (xs.length * 16 ≤ 140737488351232 ∧ (∀ x ∈ xs, x.size ≤ 140737488355328) ∧ res.size ≤ 140737488355328) := ⟨hbn.1, fun x h => Nat.le_trans (hbn.2.1 x h) (by decide), Nat.le_trans hbn.2.2 (by decide)⟩
  have HD : Hid (Defs Exs w g ds) := hd.onE (E' := Exs) (Below.refl _ w) (fun _ _ k => k.exs)
  have HI := hid hi
  have HW := hid hw
  have HIS : Hid (∀ W pr (r : ByteArray), Below w.heap.size w W → r.size ≤ 140737488355328 → Calls Tryd.prog 10 #[.agg #[.slice g ds.length c], .agg #[.int .i64 fn, .int .i64 pr, .slice ga xs.length ca, .string r], .int .i64 (j : Int)] W fun e w' => e = .returned (.tuple #[.bool (hdsB ds fn (Tm.lst xs) r.data.toList (j : Int)), .int .i64 (hdsE ds fn (Tm.lst xs) r.data.toList (j : Int))]) ∧ Below W.heap.size W w') := fun W pr r h hr =>
    holds_any g c ds fn pr ga ca xs r (j : Int) W (HD.out.on h) ((HI.out.on h).txts) HB.out.2.1 (by have := HB.out.1; omega) hr (Tm.Lw.on HW.out h)
  obtain ⟨q, hq⟩ : ∃ q, hdsB ds fn (Tm.lst xs) res.data.toList (j : Int) = q := ⟨_, rfl⟩
  obtain ⟨E, hE⟩ : ∃ E, hdsE ds fn (Tm.lst xs) res.data.toList (j : Int) = E := ⟨_, rfl⟩
  have HQE : Hid (hdsB ds fn (Tm.lst xs) res.data.toList (j : Int) = q ∧ hdsE ds fn (Tm.lst xs) res.data.toList (j : Int) = E) := ⟨hq, hE⟩
  obtain ⟨m, hm⟩ : ∃ m, xs.length = m := ⟨_, rfl⟩
  obtain ⟨k, hk2⟩ : ∃ k, ds.length = k := ⟨_, rfl⟩
  simp only [hm, hk2] at HIS ⊢
  clear hd hb hk hi hbn hw hq hE hm hk2
  go_enter Tryd.func4, Tryd.ntmps4
  go_wp2_with fail
  refine grabK (fun U => Hid (Below w.heap.size w U) ∧ Hid (PX w.heap.size U g k c fn par ga m ca res)) ⟨((Below.refl _ w).alloc (Nat.le_refl _) _).alloc (by simp) _, PX.new w g k c fn par ga m ca res⟩ (fun U hU => ?_)
  obtain ⟨HU, HPX⟩ := hU
  refine (awake10 U (Tm.Lw.on HW.out HU.out)).mono ?_
  rintro e w1 ⟨rfl, hb1⟩
  have HB1 : Hid (Below w.heap.size w w1) := bu_next HU.out hb1
  have HP1 := hid (HPX.out.next hb1)
  obtain ⟨p0, x0, x1, x2, x3, pl, xl⟩ := HP1.out.cells
  clear hb1 HPX HU
  go_wp2_with fail
  refine (HIS.out w1 par res HB1.out HB.out.2.2).mono ?_
  rintro e w2 ⟨rfl, hb2⟩
  rw [HQE.out.1, HQE.out.2]
  have HB2 : Hid (Below w.heap.size w w2) := bu_next HB1.out hb2
  have HP2 := hid (HP1.out.next hb2)
  clear p0 x0 x1 x2 x3 pl xl
  obtain ⟨p0, x0, x1, x2, x3, pl, xl⟩ := HP2.out.cells
  clear hb2 HP1 HB1
  by_cases h0 : E = 0
  · subst h0
    cases q with
    | false =>
      go_wp2_with (go_at_call 11; refine (Lx.num_any 0 _).mono ?_; rintro e w5 ⟨rfl, rfl⟩)
      go_ret
      exact ⟨rfl, HB2.out⟩
    | true =>
      go_wp2_with (go_at_call 11; refine (Lx.num_any 0 _).mono ?_; rintro e w5 ⟨rfl, rfl⟩)
      obtain ⟨hA, hA2, _⟩ := hds_yes HQE.out.1
      obtain ⟨⟨kk, kx, ks⟩, hwh⟩ := Option.isSome_iff_exists.1 (hds_parts hA).2
      obtain ⟨o1, o2⟩ := hds_hole HQE.out.1
      have HWH := hid hwh
      have hcu := fun W => Tm.rcut_any res W HB.out.2.2
      rw [hwh] at hcu
      have HCU := hid hcu
      have hh := HIS.out (w2.alloc (.cells #[.int .i64 fn, .int .i64 0, .slice ga m ca, .string ⟨#[95]⟩] 29)) 0 ⟨#[95]⟩ (HB2.out.alloc HB2.out.size _) (by decide)
      rw [show (⟨#[95]⟩ : ByteArray).data.toList = [95] from rfl, o1, o2] at hh
      refine hh.mono ?_
      rintro e w3 ⟨rfl, hb3⟩
      have hb3' : Below w2.heap.size w2 w3 := bu_next ((Below.refl _ w2).alloc (Nat.le_refl _) _) hb3
      have HB3 : Hid (Below w.heap.size w w3) := bu_next HB2.out hb3'
      have HP3 := hid (HP2.out.next hb3')
      clear p0 x0 x1 x2 x3 pl xl hb3 hb3' hh hcu hwh hA hA2 o1 o2
      obtain ⟨p0, x0, x1, x2, x3, pl, xl⟩ := HP3.out.cells
      go_wp2_with fail
      refine (HCU.out w3).mono ?_
      rintro e w4 ⟨k4, x4, v4, er4, rfl, ⟨gv, nv, cv, rfl⟩, hb4, hg4⟩
      obtain ⟨rfl, rfl, rfl, hown⟩ := hg4
      have HB4 : Hid (Below w.heap.size w w4) := bu_next HB3.out hb4
      have HB34 := hid hb4
      have HP4 := hid (HP3.out.next hb4)
      have HSZ4 : Hid (w.heap.size ≤ w3.heap.size) := HB3.out.size
      clear p0 x0 x1 x2 x3 pl xl hb4
      obtain ⟨p0, x0, x1, x2, x3, pl, xl⟩ := HP4.out.cells
      obtain ⟨e1, htx⟩ := own_txtsS hown
      subst e1
      have HOWN := hid hown
      clear hown
      cases hks : ks with
      | nil =>
        have HN : Hid (ks.length = 0) := by show _ = _; rw [hks]; rfl
        rw [← hks]
        simp only [HN.out]
        go_wp2_with (go_at_call 11; refine (Lx.num_any 0 _).mono ?_; rintro e w5 ⟨rfl, rfl⟩)
        go_ret
        exact ⟨rfl, HB4.out⟩
      | cons k0 kr =>
        obtain ⟨l, hl⟩ : ∃ l, ks.length = l := ⟨_, rfl⟩
        have hl0 : 0 < l := by rw [← hl, hks]; simp
        rw [← hks]
        have hl3 : l ≤ 3 := by rw [← hl]; exact (Tm.whole_parts HWH.out).2.2
        have hll : IntKind.u64.wrap (l : Int) = (l : Int) := by rw [IntKind.wrap_u64]; omega
        obtain ⟨i, hi1, hi2⟩ := umod10 at' l hl0
        obtain ⟨B, hB, n1, n2⟩ := hds_set HQE.out.1 HWH.out (i := i) (by rw [hl]; exact hi2)
        obtain ⟨gb, cb, ev, _⟩ := Lx.own_len HOWN.out
        have hgv : ∃ bk, gv = some ⟨bk, 0, none⟩ := by
          rcases HOWN.out.2 with ⟨_, hm⟩ | ⟨b, cap, cur, e, _, _, _⟩
          · exfalso; first | omega | (simp at hm; rw [hm] at hl; simp at hl; omega)
          · injection e with e1
            exact ⟨b, e1⟩
        obtain ⟨bk, rfl⟩ := hgv
        have hbk := (World.ownsRow.lt HOWN.out bk rfl)
        obtain ⟨t0, ht0⟩ : ∃ t0, ks[i]? = some t0 := ⟨_, List.getElem?_eq_getElem (by rw [hl]; exact hi2)⟩
        have c0 : w4.cell? ⟨bk, i, none⟩ = some (.string ⟨t0.toArray⟩) := by
          have h := World.ownsRow.cellAt HOWN.out i (by rw [hl]; omega)
          rw [h, List.getElem?_map, ht0]; rfl
        have f0 := World.ownsRow.frozenAt HOWN.out i
        have hst := (World.ownsRow.stored HOWN.out i (.string ⟨#[95]⟩)).1
        rw [show (ks.map Tm.S).set i (.string ⟨#[95]⟩) = (ks.set i [95]).map Tm.S by rw [List.map_set]] at hst
        have hst2 := hst
        rw [show ks.length = (ks.set i [95]).length by simp] at hst2
        obtain ⟨_, htx5⟩ := own_txtsS hst2
        have HB5 : Hid (Below w3.heap.size w3 (w4.setCell ⟨bk, i, none⟩ (.string ⟨#[95]⟩))) := HB34.out.setCell (p := ⟨bk, i, none⟩) hbk.1 _
        have HMK : Hid (∀ W, Below (w4.setCell ⟨bk, i, none⟩ (.string ⟨#[95]⟩)).heap.size (w4.setCell ⟨bk, i, none⟩ (.string ⟨#[95]⟩)) W → Calls Tryd.prog 13 #[.int .i64 k4, .int .i64 x4, .slice (some ⟨bk, 0, none⟩) l cv] W fun e w' => e = .returned (.tuple #[.string ⟨B.toArray⟩, .int .i64 0]) ∧ Below W.heap.size W w') := fun W h => by
          have := Tm.rmake_any k4 x4 (some ⟨bk, 0, none⟩) l ((ks.set i [95]).map fun k => (⟨k.toArray⟩ : ByteArray)) cv W (by simp [hl]) (htx5.on h) (by simp [hl]; omega) (fun x hx => by
            obtain ⟨y, hy, rfl⟩ := List.mem_map.1 hx
            have hlen : y.length ≤ 1024 := by
              rcases List.mem_or_eq_of_mem_set hy with h | h
              · have := ((Tm.whole_parts HWH.out).1 y h).2; have := (Tm.whole_some HWH.out).1; omega
              · subst h; decide
            show (y.toArray).size ≤ _
            simp; omega)
          rw [lst_back, hB] at this
          exact this
        have HN12 : Hid (B.length ≤ 1024 ∧ hdsB ds fn (Tm.lst xs) B (j : Int) = true ∧ hdsE ds fn (Tm.lst xs) B (j : Int) = 0) := ⟨(Tm.whole_some (Tm.mkd_whole hB)).1, n1, n2⟩
        rw [hl]
        have hlz : ((l : Int) == 0) = false := by simp; omega
        have hlp : bk < w4.heap.size := hbk.2
        clear hst hst2 htx5 hB n1 n2 ev hks hl htx hbk ht0
        go_wp2_with (go_at_call 11; refine (Lx.num_any 0 _).mono ?_; rintro e w5 ⟨rfl, rfl⟩)
        refine (HMK.out _ (Below.refl _ _)).mono ?_
        rintro e w6 ⟨rfl, hb6⟩
        have HB6 : Hid (Below w3.heap.size w3 w6) := bu_next HB5.out hb6
        have HP6 := hid (HP3.out.next HB6.out)
        have HW6 : Hid (Below w.heap.size w w6) := bu_next HB3.out HB6.out
        clear p0 x0 x1 x2 x3 pl xl hb6 c0 f0 hlp
        obtain ⟨p0, x0, x1, x2, x3, pl, xl⟩ := HP6.out.cells
        go_wp2_with fail
        have hi6 := HIS.out w6 0 ⟨B.toArray⟩ HW6.out (by show (B.toArray).size ≤ _; simp; have := HN12.out.1; omega)
        rw [show (⟨B.toArray⟩ : ByteArray).data.toList = B by simp, HN12.out.2.1, HN12.out.2.2] at hi6
        refine hi6.mono ?_
        rintro e w7 ⟨rfl, hb7⟩
        have HB7 : Hid (Below w.heap.size w w7) := bu_next HW6.out hb7
        clear hb7 hi6 p0 x0 x1 x2 x3 pl xl
        go_wp2_with (go_at_call 11; refine (Lx.num_any 0 _).mono ?_; rintro e w5 ⟨rfl, rfl⟩)
        go_ret
        exact ⟨rfl, HB7.out⟩
  · have HN : Hid (q = false) := by
      show _ = _
      rw [← HQE.out.1]; exact hds_no (by rw [HQE.out.2]; exact h0)
    obtain rfl : q = false := HN.out
    have e1 : (E == 0) = false := by simp [h0]
    have e2 : (E != 0) = true := by simp [h0]
    go_wp2_with (go_at_call 11; refine (Lx.num_any E _).mono ?_; rintro e w5 ⟨rfl, rfl⟩)
    go_ret
    exact ⟨rfl, HB2.out⟩
open Go.ChangeShapes Go.WideShapes Go.ChangeAt 
set_option maxRecDepth 100000 in
/-- What the walk gives, for every argument and every world that holds the list. -/
theorem contract (H : Type) (enc : TypeId × Value → H) (W : World) (base : Nat) (args : Array Value) (ds gs : List (DataW H)) (before : List MemPlace)
    (hval : ∀ (j : Nat) t v, Tryd.f4.params[j]? = some t → args[j]? = some v → Value.okWide Tryd.prog W .any base t v)
    (hW : DataW.Whole enc Tryd.prog Tryd.f4.params.toList Rows.holdBelowSpec.vars false W args.toList ds gs before)
    (hsz0 : (DataW.weightsEach Tryd.prog (Tryd.f4.params.toList ++ (OpenSpec.ofChange Rows.holdBelowSpec).bare.plain.varTypes Tryd.prog) (ds ++ gs)).all (· ≤ reachBytes) = true) (hL : laidMetH Tryd.prog Rows.holdBelowRow.laid W) :
    Calls Tryd.prog 4 args W fun e W' => ∃ v, e = .returned v ∧ Rows.holdBelowSpec.post enc Tryd.prog Tryd.f4 false true false false W args v W' := by
  have hW' := hW
  obtain ⟨p, q, hA0, hV, rfl, hfz, hnd⟩ := hW
  have hA : DataW.TrodAll enc Tryd.prog W 0 (fun _ => true) true Tryd.f4.params.toList args.toList ds p := hA0
  rw [Tryd.params4] at hA hval hsz0
  obtain ⟨v0, vs0, d0, ds0, p0, q0, hargs, rfl, rfl, h0, r0⟩ := trodAll_cons hA
  obtain ⟨v1, vs1, d1, ds1, p1, q1, rfl, rfl, rfl, h1, r1⟩ := trodAll_cons r0
  obtain ⟨v2, vs2, d2, ds2, p2, q2, rfl, rfl, rfl, h2, r2⟩ := trodAll_cons r1
  obtain ⟨v3, vs3, d3, ds3, p3, q3, rfl, rfl, rfl, h3, r3⟩ := trodAll_cons r2
  obtain ⟨rfl, rfl, rfl⟩ := trodAll_nil r3
  obtain rfl : args = #[v0, v1, v2, v3] := by cases args; simp_all
  obtain ⟨rfl, rfl⟩ := trodVars_none hV
  have k0 := h0
  obtain ⟨g0, xs0, c0, rfl, hin0, hbd0, hkd0⟩ := open_program (j := 0) (hval 0 25 v0 rfl rfl) h0 hsz0 rfl rfl
  have k1 := h1
  obtain ⟨n1, g1, c1, rfl, hin1, hbd1⟩ := open_node (j := 1) (hval 1 29 v1 rfl rfl) h1 hsz0 rfl rfl
  obtain ⟨a2, rfl, rfl, rfl, w2⟩ := open_int Tryd.underlying3 (hval 2 3 v2 rfl rfl) h2
  obtain ⟨a3, rfl, rfl, rfl, w3⟩ := open_int Tryd.underlying3 (hval 3 3 v3 rfl rfl) h3
  clear hA0
  simp only [List.append_nil] at hW'
  have hlt0 : ∀ x ∈ p0, x.block < W.heap.size := fun x hx => by simpa using hW'.lt x (List.mem_append_left _ hx)
  have hlt1 : ∀ x ∈ p1, x.block < W.heap.size := fun x hx => by simpa using hW'.lt x (List.mem_append_right _ hx)
  refine (walk g0 xs0 c0 n1 g1 c1 a2 a3 W hin0 hbd0 hkd0 hin1 hbd1 (lw_of hL)).mono fun e W' ⟨he, hg⟩ => ?_
  subst he
  exact ⟨_, rfl, _, _, _, [], (p0 ++ (p1 ++ ([] ++ ([] ++ [])))), [], hW', trodAll_cons_mk (shut_bool Tryd.underlying4 _) trodAll_mk0, trodAll_cons_mk (Below.trod laidOut (by kernel_rfl) (of_decide_eq_true (by kernel_rfl)) k0 hg hlt0) (trodAll_cons_mk (Below.trod laidOut (by kernel_rfl) (of_decide_eq_true (by kernel_rfl)) k1 hg hlt1) (trodAll_cons_mk (shut_int Tryd.underlying3 w2) (trodAll_cons_mk (shut_int Tryd.underlying3 w3) trodAll_mk0))), rfl, hg.frame _, fun h => by cases h⟩

theorem reads (os : Os) {H : Type} (enc : TypeId × Value → H) : ∃ places, DataW.whole enc Tryd.prog ((World.doorLaid Tryd.prog 62 os).forCall (fun _ _ => 0) ⟨#[], #[.agg #[.slice none 0 0], .agg #[.int .i64 0, .int .i64 0, .slice none 0 0, .string ⟨#[]⟩], .int .i64 0, .int .i64 0], []⟩).memory Tryd.f4.params.toList Rows.holdBelowSpec.vars false #[Value.agg #[.slice none 0 0], .agg #[.int .i64 0, .int .i64 0, .slice none 0 0, .string ⟨#[]⟩], .int .i64 0, .int .i64 0].toList 8 = some ([.agg [.nil], .agg [.lit (.int .i64 0), .lit (.int .i64 0), .nil, .lit (.string [])], .lit (.int .i64 0), .lit (.int .i64 0)], [], places) :=
  ⟨[], by kernel_rfl⟩

set_option maxRecDepth 100000 in
theorem lifted (os : Os) (started : os.Started) (H : Type) (enc : TypeId × Value → H) (F : Stop.Interp) :
    ReturnsInHanded {} Tryd.checked os 4 .any ((OpenSpec.ofChange Rows.holdBelowSpec).preRow enc Tryd.prog Tryd.f4 Rows.holdBelowRow.domain false Rows.holdBelowRow.laid) (((OpenSpec.ofChange Rows.holdBelowSpec).at F).post enc Tryd.prog Tryd.f4 false true false false) := by
  obtain ⟨places, hx⟩ := reads os enc
  refine returnsInHanded_of_row (C := Tryd.checked) (s := OpenSpec.ofChange Rows.holdBelowSpec) own started (by kernel_rfl) Tryd.func4
    (witness_row_atRef (enc := enc) (C := Tryd.checked) false (World.doorLaid Tryd.prog 62 os) #[.agg #[.slice none 0 0], .agg #[.int .i64 0, .int .i64 0, .slice none 0 0, .string ⟨#[]⟩], .int .i64 0, .int .i64 0] rfl (by kernel_rfl) (by kernel_rfl) (by kernel_rfl)
      (OpenSpec.preRow_of_cond 8 hx (by kernel_rfl) (fun k hk => by cases hk) (by kernel_rfl) (door_met os _))) ?_
  intro W base args ds gs before hval hW _ _ hsz hL _ _
  exact contract H enc W base args ds gs before hval hW hsz hL

theorem said : Rows.HoldBelowSaid :=
  OpenClaim.holds_of_cond 4 Tryd.f4 rfl rfl rfl rfl rfl rfl rfl ⟨rfl, rfl, rfl, rfl, rfl⟩ rfl rfl rfl rfl rfl (by kernel_rfl) Tryd.func4 (by kernel_rfl)
    (of_decide_eq_true (by kernel_rfl)) (by unfold Func.isWrapper; first | (rw [if_pos (by decide +kernel)]; kernel_rfl) | (rw [if_neg (by decide +kernel)]; exact ⟨rfl, rfl⟩))
    (fun os started H enc _ F => by rw [OpenClaim.pre_eq_preRow]; exact lifted os started H enc F)

theorem plain (f : FuncId) (fn : Func) (hf : Tryd.pinned.checked.prog.funcNamed "sleuth/sleuthlaw10.HoldBelow" = some f) (hfn : Tryd.pinned.checked.prog.funcs[f]? = some fn) :
    true = Tryd.pinned.checked.prog.looks [] ∧ ∀ (j : Nat) t, fn.params[j]? = some t → Tryd.pinned.checked.prog.wantsStandIn t = false := by
  obtain rfl : f = 4 := Option.some.inj ((show Tryd.prog.funcNamed "sleuth/sleuthlaw10.HoldBelow" = some 4 by kernel_rfl).symm.trans hf) |>.symm
  obtain rfl : fn = Tryd.f4 := (Option.some.inj (Tryd.func4.symm.trans hfn)).symm
  refine ⟨by kernel_rfl, fun j t ht => ?_⟩
  rw [Tryd.params4] at ht
  have hm : t ∈ [25, 29, 3, 3] := by simpa using Array.mem_of_getElem? ht
  have hall : ([25, 29, 3, 3].all fun u => !Tryd.prog.wantsStandIn u) = true := by kernel_rfl
  exact (show Tryd.prog.wantsStandIn t = false by simpa using List.all_eq_true.1 hall t hm)

/-- The given statement. -/
theorem card : Rows.HoldBelowCardSaid :=
  Claim7.holds_tied_plain_at .later [] _ _ _ _ said (fun _ h => by cases h) (by kernel_rfl) (fun _ h => by cases h) holdBelow_row_tie rfl ⟨rfl, rfl⟩ (by kernel_rfl) rfl plain (by kernel_rfl)
end Go.Proofs.YtmcdpnikkmedkaaDoor.holdBelow
namespace Go.Proofs.YtmcdpnikkmedkaaDoor
theorem holdBelow_holds : Rows.HoldBelowCardSaid := holdBelow.card
end Go.Proofs.YtmcdpnikkmedkaaDoor
