/- sleuthlaw9.NameMore returns true at every input: with more fuel the head is the same; the input is as it was. Conditions: the five listed tables and variables of Go's library read as the program's text lays them; the row's own bound on the lists that come in. -/
import Derived.Test.YtjamknejllbmkaaGreatDoorMLaid
import Derived.Laws.OwnMore
import Derived.Laws.IdiomStrings
import Derived.Deep.OwnRows
import Derived.SizedLaws
import Derived.ChangeMaps5
import Derived.WalkKit
import Derived.ProofKit
import Derived.OpenShut
import Derived.Test.YtjamknejllbmkaaGreatDoorMNRh
import Derived.Test.YtjamknejllbmkaaGreatDoorMNHead
import Derived.Test.YtjamknejllbmkaaGreatDoorMNPure
import Derived.Test.YtjamknejllbmkaaGreatDoorMCopy
import Derived.Test.YtjamknejllbmkaaGreatDoorMKids
namespace Go.Proofs.YtjamknejllbmkaaGreatDoor.nameMore
open Go.RowKit
set_option linter.unusedVariables false

theorem umod9 (x : Int) (n : Nat) (h : 0 < n) : ∃ m : Nat, (IntKind.u64.wrap x).tmod (n : Int) = (m : Int) ∧ m < n := by
  have h0 : 0 ≤ IntKind.u64.wrap x := by rw [IntKind.wrap_u64]; omega
  rw [Int.tmod_eq_emod_of_nonneg h0]
  have h1 := Int.emod_nonneg (IntKind.u64.wrap x) (show (n : Int) ≠ 0 by omega)
  have h2 := Int.emod_lt_of_pos (IntKind.u64.wrap x) (show (0 : Int) < n by omega)
  exact ⟨(IntKind.u64.wrap x % (n : Int)).toNat, by omega, by omega⟩
theorem hd_901 {ds : List Df} {fn : Int} {args : List Wdn} {f : Int} (h : hdE ds fn args f = 901) : hdT ds fn args f = [] := by
  unfold hdT hdE at *
  split
  · rename_i hk
    rw [if_pos hk] at h
    cases ho : hdO ds fn args f with
    | fuel => rfl
    | hole => rfl
    | fail => rw [ho] at h; cases h
    | num m => rw [ho] at h; cases h
    | con c ps => rw [ho] at h; cases h
  · rfl
set_option maxRecDepth 100000 in
set_option maxHeartbeats 1600000 in
/-- The walk: the law's Go text returns true. -/
theorem walk (g : Option Addr) (ds : List Df) (c : Nat) (fn : Int) (ga : Option Addr) (xs : List ByteArray) (ca : Nat) (a b : Int) (w : World) (hd : Defs ExsN w g ds) (hb : ds.length * 32 ≤ 140737488351232) (hk : ∀ d ∈ ds, DBd d)
    (hin : Tm.Inc w ga xs ca) (hn : xs.length * 16 ≤ 140737488351232) (hxs : ∀ x ∈ xs, x.size ≤ 140737488355328) (hw : Tm.Lw w) :
    Calls Tryz.prog 5 #[.agg #[.slice g ds.length c], .int .i64 fn, .slice ga xs.length ca, .int .i64 a, .int .i64 b] w fun e w' => e = .returned (.bool true) ∧ Below w.heap.size w w' := by
  obtain ⟨j, hj, hjl⟩ := umod9 a 401 (by decide)
  obtain ⟨k, hkk, hkl⟩ := umod9 b 401 (by decide)
  have hj : (IntKind.u64.wrap a).tmod 401 = (j : Int) := hj
  have hkk : (IntKind.u64.wrap b).tmod 401 = (k : Int) := hkk
  have hdx : Defs Exs w g ds := hd.onE (Below.refl _ w) (fun _ _ k => k.exs)
  have HW := hid hw
  have HX0 := hid (Bx1.new w (.slice g ds.length c))
  have HA0 : Hid (Below w.heap.size w (w.alloc (.cells #[.slice g ds.length c] 30))) := (Below.refl _ w).alloc (Nat.le_refl _) _
  have HM : Hid (∀ W (f : Nat), Below w.heap.size w W → Calls Tryz.prog 8 #[.agg #[.slice g ds.length c], .int .i64 fn, .slice ga xs.length ca, .int .i64 (f : Int)] W fun e w' => e = .returned (.tuple #[.string ⟨(hdT ds fn (Tm.lst xs) (f : Int)).toArray⟩, .int .i64 (hdE ds fn (Tm.lst xs) (f : Int))]) ∧ Below W.heap.size W w') := fun W f h =>
    head_any g c ds fn ga ca xs (f : Int) W (hdx.on h) (hin.txts.on h) hxs (Tm.Lw.on hw h) (by omega)
  have HRM : Hid (∀ W, Below w.heap.size w W → Calls Tryz.prog 12 #[.agg #[.slice g ds.length c], .int .i64 fn, .slice ga xs.length ca, .int .i64 400] W fun e w' => e = .returned (.tuple #[.string ⟨(hdT ds fn (Tm.lst xs) 400).toArray⟩, .int .i64 (hdE ds fn (Tm.lst xs) 400)]) ∧ Below W.heap.size W w') := fun W h =>
    rhead_any g c ds fn ga ca xs 400 W (hdx.on h) (hin.txts.on h) hxs (by omega)
  have HMO : Hid (∀ (x y : Nat), x ≤ y → y ≤ 400 → hdE ds fn (Tm.lst xs) (x : Int) ≠ 901 → hdT ds fn (Tm.lst xs) (y : Int) = hdT ds fn (Tm.lst xs) (x : Int) ∧ hdE ds fn (Tm.lst xs) (y : Int) = hdE ds fn (Tm.lst xs) (x : Int)) := fun x y h1 h2 h3 => hd_more (by omega) (by omega) (by omega) h3
  have H901 : Hid (∀ f : Int, hdE ds fn (Tm.lst xs) f = 901 → hdT ds fn (Tm.lst xs) f = []) := fun f h => hd_901 h
  obtain ⟨T, hT⟩ : ∃ T : Int → Wdn, hdT ds fn (Tm.lst xs) = T := ⟨_, rfl⟩
  obtain ⟨E, hE⟩ : ∃ E : Int → Int, hdE ds fn (Tm.lst xs) = E := ⟨_, rfl⟩
  rw [hT, hE] at HM HRM HMO
  rw [hE, hT] at H901
  obtain ⟨n, hnn⟩ : ∃ n, ds.length = n := ⟨_, rfl⟩
  obtain ⟨m, hmm⟩ : ∃ m, xs.length = m := ⟨_, rfl⟩
  rw [hnn, hmm] at HM HRM
  rw [hnn] at HX0 HA0 ⊢
  rw [hmm]
  clear hT hE hw hd hb hk hin hn hxs hnn hmm hdx
  have HAW := hid (awake9 _ (Tm.Lw.on HW.out HA0.out))
  go_enter Tryz.func5, Tryz.ntmps5
  go_wp2_with fail
  refine HAW.out.mono ?_
  rintro e w1 ⟨rfl, hb1⟩
  have HB1 := hid (Lx.below_next HA0.out hb1)
  have HX1 := hid (HX0.out.on hb1)
  have x0 := HX1.out.c0
  have xl := HX1.out.lt
  clear hb1 HAW HX0
  have hlo : min (j : Int) (k : Int) = ((min j k : Nat) : Int) := by omega
  have hhi : max (j : Int) (k : Int) = ((max j k : Nat) : Int) := by omega
  have HLH : Hid (min j k ≤ max j k ∧ max j k ≤ 400 ∧ min j k ≤ 400) := ⟨by omega, by omega, by omega⟩
  obtain ⟨lo, elo⟩ : ∃ lo, min j k = lo := ⟨_, rfl⟩
  obtain ⟨hi, ehi⟩ : ∃ hi, max j k = hi := ⟨_, rfl⟩
  rw [elo] at hlo
  rw [ehi] at hhi
  rw [elo, ehi] at HLH
  have HLO : Hid (E (lo : Int) = 901 → T (lo : Int) = []) := H901.out (lo : Int)
  have HHI : Hid (E (lo : Int) ≠ 901 → T (hi : Int) = T (lo : Int) ∧ E (hi : Int) = E (lo : Int)) := HMO.out lo hi HLH.out.1 HLH.out.2.1
  have H4 : Hid (E (lo : Int) ≠ 901 → E 400 = E (lo : Int)) := fun h => (HMO.out lo 400 HLH.out.2.2 (by omega) h).2
  have HM1 : Hid (∀ W, Below w1.heap.size w1 W → Calls Tryz.prog 8 #[.agg #[.slice g n c], .int .i64 fn, .slice ga m ca, .int .i64 (lo : Int)] W fun e w' => e = .returned (.tuple #[.string ⟨(T (lo : Int)).toArray⟩, .int .i64 (E (lo : Int))]) ∧ Below W.heap.size W w') := fun W h => HM.out W lo (Lx.below_next HB1.out h)
  have HM2 : Hid (∀ W, Below w1.heap.size w1 W → Calls Tryz.prog 8 #[.agg #[.slice g n c], .int .i64 fn, .slice ga m ca, .int .i64 (hi : Int)] W fun e w' => e = .returned (.tuple #[.string ⟨(T (hi : Int)).toArray⟩, .int .i64 (E (hi : Int))]) ∧ Below W.heap.size W w') := fun W h => HM.out W hi (Lx.below_next HB1.out h)
  have HM3 : Hid (∀ W, Below w1.heap.size w1 W → Calls Tryz.prog 12 #[.agg #[.slice g n c], .int .i64 fn, .slice ga m ca, .int .i64 400] W fun e w' => e = .returned (.tuple #[.string ⟨(T 400).toArray⟩, .int .i64 (E 400)]) ∧ Below W.heap.size W w') := fun W h => HRM.out W (Lx.below_next HB1.out h)
  obtain ⟨t1, ht1⟩ : ∃ t, T (lo : Int) = t := ⟨_, rfl⟩
  obtain ⟨t2, ht2⟩ : ∃ t, T (hi : Int) = t := ⟨_, rfl⟩
  obtain ⟨e1, he1⟩ : ∃ t, E (lo : Int) = t := ⟨_, rfl⟩
  obtain ⟨e2, he2⟩ : ∃ t, E (hi : Int) = t := ⟨_, rfl⟩
  obtain ⟨e3, he3⟩ : ∃ t, E 400 = t := ⟨_, rfl⟩
  obtain ⟨t3, ht3⟩ : ∃ t, T 400 = t := ⟨_, rfl⟩
  rw [ht1, he1] at HM1 HLO
  rw [ht2, he2] at HM2
  rw [he3, ht3] at HM3
  rw [ht1, he1, ht2, he2] at HHI
  rw [he1, he3] at H4
  clear ht1 ht2 he1 he2 he3 ht3 HM HRM HMO H901 elo ehi
  go_wp2_with fail
  refine (HM1.out _ (Below.refl _ _)).mono ?_
  rintro e w2 ⟨rfl, hb2⟩
  have HB2 := hid hb2
  have HX2 := hid (HX1.out.on hb2)
  have x0 := HX2.out.c0
  have xl := HX2.out.lt
  clear hb2 HX1
  go_wp2_with fail
  refine (HM2.out _ HB2.out).mono ?_
  rintro e w3 ⟨rfl, hb3⟩
  have HB3 := hid (Lx.below_next HB2.out hb3)
  have HX3 := hid (HX2.out.on hb3)
  have x0 := HX3.out.c0
  have xl := HX3.out.lt
  clear hb3 HX2
  go_wp2_with (go_at_call 10; refine (Lx.num_any e1 w3).mono ?_)
  rintro e w4 ⟨rfl, rfl⟩
  by_cases h9 : e1 = 901
  · obtain rfl : t1 = [] := HLO.out h9
    subst h9
    go_wp2_with fail
    go_ret
    exact ⟨rfl, Lx.below_next HB1.out HB3.out⟩
  · have h9' : (e1 == 901) = false := by simp [h9]
    obtain ⟨rfl, rfl⟩ := HHI.out h9
    obtain rfl := H4.out h9
    have hTT : ∀ B : ByteArray, (B.toList == B.toList) = true := fun B => beq_self_eq_true _
    go_wp2_with fail
    refine (HM3.out _ HB3.out).mono ?_
    rintro e w4 ⟨rfl, hb4⟩
    have HB4 := hid (Lx.below_next HB3.out hb4)
    clear hb4
    go_wp2_with (go_at_call 10; refine (Lx.num_any e3 w4).mono ?_)
    rintro e w5 ⟨rfl, rfl⟩
    go_wp2_with (go_at_call 10; refine (Lx.num_any e3 w4).mono ?_)
    rintro e w5 ⟨rfl, rfl⟩
    go_wp2_with (go_at_call 10; refine (Lx.num_any e3 w4).mono ?_)
    rintro e w5 ⟨rfl, rfl⟩
    go_wp2
    go_ret
    exact ⟨rfl, Lx.below_next HB1.out HB4.out⟩
open Go.ChangeShapes Go.WideShapes Go.ChangeAt 
set_option maxRecDepth 100000 in
/-- What the walk gives, for every argument and every world that holds the list. -/
theorem contract (H : Type) (enc : TypeId × Value → H) (W : World) (base : Nat) (args : Array Value) (ds gs : List (DataW H)) (before : List MemPlace)
    (hval : ∀ (j : Nat) t v, Tryz.f5.params[j]? = some t → args[j]? = some v → Value.okWide Tryz.prog W .any base t v)
    (hW : DataW.Whole enc Tryz.prog Tryz.f5.params.toList Rows.nameMoreSpec.vars false W args.toList ds gs before)
    (hsz0 : (DataW.weightsEach Tryz.prog (Tryz.f5.params.toList ++ (OpenSpec.ofChange Rows.nameMoreSpec).bare.plain.varTypes Tryz.prog) (ds ++ gs)).all (· ≤ reachBytes) = true) (hL : laidMetH Tryz.prog Rows.nameMoreRow.laid W) :
    Calls Tryz.prog 5 args W fun e W' => ∃ v, e = .returned v ∧ Rows.nameMoreSpec.post enc Tryz.prog Tryz.f5 false true false false W args v W' := by
  have hW' := hW
  obtain ⟨p, q, hA0, hV, rfl, hfz, hnd⟩ := hW
  have hA : DataW.TrodAll enc Tryz.prog W 0 (fun _ => true) true Tryz.f5.params.toList args.toList ds p := hA0
  rw [Tryz.params5] at hA hval hsz0
  obtain ⟨v0, vs0, d0, ds0, p0, q0, hargs, rfl, rfl, h0, r0⟩ := trodAll_cons hA
  obtain ⟨v1, vs1, d1, ds1, p1, q1, rfl, rfl, rfl, h1, r1⟩ := trodAll_cons r0
  obtain ⟨v2, vs2, d2, ds2, p2, q2, rfl, rfl, rfl, h2, r2⟩ := trodAll_cons r1
  obtain ⟨v3, vs3, d3, ds3, p3, q3, rfl, rfl, rfl, h3, r3⟩ := trodAll_cons r2
  obtain ⟨v4, vs4, d4, ds4, p4, q4, rfl, rfl, rfl, h4, r4⟩ := trodAll_cons r3
  obtain ⟨rfl, rfl, rfl⟩ := trodAll_nil r4
  obtain rfl : args = #[v0, v1, v2, v3, v4] := by cases args; simp_all
  obtain ⟨rfl, rfl⟩ := trodVars_none hV
  have k0 := h0
  obtain ⟨g0, xs0, c0, rfl, hin0, hbd0, hkd0⟩ := open_program (j := 0) (hval 0 30 v0 rfl rfl) h0 hsz0 rfl rfl
  obtain ⟨a1, rfl, rfl, rfl, w1⟩ := open_int Tryz.underlying3 (hval 1 3 v1 rfl rfl) h1
  obtain ⟨g2, n2, c2, rfl⟩ := okWide_slice Tryz.underlying24 (hval 2 24 v2 rfl rfl)
  have k2 := h2
  obtain ⟨fuel2, f2⟩ := h2
  obtain ⟨xs2, rfl, hin2, hn2, hxs2⟩ := open_kids (j := 2) f2 hsz0 rfl rfl
  obtain ⟨a3, rfl, rfl, rfl, w3⟩ := open_int Tryz.underlying3 (hval 3 3 v3 rfl rfl) h3
  obtain ⟨a4, rfl, rfl, rfl, w4⟩ := open_int Tryz.underlying3 (hval 4 3 v4 rfl rfl) h4
  clear hA0
  simp only [List.append_nil, List.nil_append] at hW'
  have hlt0 : ∀ x ∈ p0, x.block < W.heap.size := fun x hx => by simpa using hW'.lt x (List.mem_append_left _ hx)
  have hlt2 : ∀ x ∈ p2, x.block < W.heap.size := fun x hx => by simpa using hW'.lt x (List.mem_append_right _ hx)
  refine (walk g0 xs0 c0 a1 g2 xs2 c2 a3 a4 W hin0 hbd0 hkd0 hin2 hn2 hxs2 (lw_of hL)).mono fun e W' ⟨he, hg⟩ => ?_
  subst he
  exact ⟨_, rfl, _, _, _, [], (p0 ++ ([] ++ (p2 ++ ([] ++ ([] ++ []))))), [], hW', trodAll_cons_mk (shut_bool Tryz.underlying4 _) trodAll_mk0, trodAll_cons_mk (Below.trod laidOut (by kernel_rfl) (of_decide_eq_true (by kernel_rfl)) k0 hg hlt0) (trodAll_cons_mk (shut_int Tryz.underlying3 w1) (trodAll_cons_mk (Below.trod laidOut (by kernel_rfl) (of_decide_eq_true (by kernel_rfl)) k2 hg hlt2) (trodAll_cons_mk (shut_int Tryz.underlying3 w3) (trodAll_cons_mk (shut_int Tryz.underlying3 w4) trodAll_mk0)))), rfl, hg.frame _, fun h => by cases h⟩

theorem reads (os : Os) {H : Type} (enc : TypeId × Value → H) : ∃ places, DataW.whole enc Tryz.prog ((World.doorLaid Tryz.prog 62 os).forCall (fun _ _ => 0) ⟨#[], #[.agg #[.slice none 0 0], .int .i64 0, .slice none 0 0, .int .i64 0, .int .i64 0], []⟩).memory Tryz.f5.params.toList Rows.nameMoreSpec.vars false #[Value.agg #[.slice none 0 0], .int .i64 0, .slice none 0 0, .int .i64 0, .int .i64 0].toList 8 = some ([.agg [.nil], .lit (.int .i64 0), .nil, .lit (.int .i64 0), .lit (.int .i64 0)], [], places) :=
  ⟨[], by kernel_rfl⟩

set_option maxRecDepth 100000 in
theorem lifted (os : Os) (started : os.Started) (H : Type) (enc : TypeId × Value → H) (F : Stop.Interp) :
    ReturnsInHanded {} Tryz.checked os 5 .any ((OpenSpec.ofChange Rows.nameMoreSpec).preRow enc Tryz.prog Tryz.f5 Rows.nameMoreRow.domain false Rows.nameMoreRow.laid) (((OpenSpec.ofChange Rows.nameMoreSpec).at F).post enc Tryz.prog Tryz.f5 false true false false) := by
  obtain ⟨places, hx⟩ := reads os enc
  refine returnsInHanded_of_row (C := Tryz.checked) (s := OpenSpec.ofChange Rows.nameMoreSpec) own started (by kernel_rfl) Tryz.func5
    (witness_row_atRef (enc := enc) (C := Tryz.checked) false (World.doorLaid Tryz.prog 62 os) #[.agg #[.slice none 0 0], .int .i64 0, .slice none 0 0, .int .i64 0, .int .i64 0] rfl (by kernel_rfl) (by kernel_rfl) (by kernel_rfl)
      (OpenSpec.preRow_of_cond 8 hx (by kernel_rfl) (fun k hk => by cases hk) (by kernel_rfl) (door_met os _))) ?_
  intro W base args ds gs before hval hW _ _ hsz hL _ _
  exact contract H enc W base args ds gs before hval hW hsz hL

theorem said : Rows.NameMoreSaid :=
  OpenClaim.holds_of_cond 5 Tryz.f5 rfl rfl rfl rfl rfl rfl rfl ⟨rfl, rfl, rfl, rfl, rfl⟩ rfl rfl rfl rfl rfl (by kernel_rfl) Tryz.func5 (by kernel_rfl)
    (of_decide_eq_true (by kernel_rfl)) (by unfold Func.isWrapper; first | (rw [if_pos (by decide +kernel)]; kernel_rfl) | (rw [if_neg (by decide +kernel)]; exact ⟨rfl, rfl⟩))
    (fun os started H enc _ F => by rw [OpenClaim.pre_eq_preRow]; exact lifted os started H enc F)

theorem plain (f : FuncId) (fn : Func) (hf : Tryz.pinned.checked.prog.funcNamed "sleuth/sleuthlaw9.NameMore" = some f) (hfn : Tryz.pinned.checked.prog.funcs[f]? = some fn) :
    true = Tryz.pinned.checked.prog.looks [] ∧ ∀ (j : Nat) t, fn.params[j]? = some t → Tryz.pinned.checked.prog.wantsStandIn t = false := by
  obtain rfl : f = 5 := Option.some.inj ((show Tryz.prog.funcNamed "sleuth/sleuthlaw9.NameMore" = some 5 by kernel_rfl).symm.trans hf) |>.symm
  obtain rfl : fn = Tryz.f5 := (Option.some.inj (Tryz.func5.symm.trans hfn)).symm
  refine ⟨by kernel_rfl, fun j t ht => ?_⟩
  rw [Tryz.params5] at ht
  have hm : t ∈ [30, 3, 24, 3, 3] := by simpa using Array.mem_of_getElem? ht
  have hall : ([30, 3, 24, 3, 3].all fun u => !Tryz.prog.wantsStandIn u) = true := by kernel_rfl
  exact (show Tryz.prog.wantsStandIn t = false by simpa using List.all_eq_true.1 hall t hm)

/-- The given statement. -/
theorem card : Rows.NameMoreCardSaid :=
  Claim7.holds_tied_plain_at .later [] _ _ _ _ said (fun _ h => by cases h) (by kernel_rfl) (fun _ h => by cases h) nameMore_row_tie rfl ⟨rfl, rfl⟩ (by kernel_rfl) rfl plain (by kernel_rfl)
end Go.Proofs.YtjamknejllbmkaaGreatDoor.nameMore
namespace Go.Proofs.YtjamknejllbmkaaGreatDoor
theorem nameMore_holds : Rows.NameMoreCardSaid := nameMore.card
end Go.Proofs.YtjamknejllbmkaaGreatDoor
