/- Whatever the int tag and the lists of texts as and bs are: where the document's own answer makes a constructor of each, Is says that the one is below the other just if there are as many parts and each part is below its other one; the condition is the card's own: the listed variables of the library read as their initialisers lay them. -/
import Derived.Test.YtcjpepbajcdenaaDoorKeep
import Derived.Test.YtcjpepbajcdenaaDoorKids
namespace Go.Proofs.YtcjpepbajcdenaaDoor.belowParts
open Go.ChangeShapes Go.WideShapes Go.ChangeAt Go.RowKit Go.ChangeMaps Go.Deep
set_option linter.unusedVariables false

/-- What a made constructor is. -/
theorem made {t : Int} {ks : List (List UInt8)} {A : List UInt8} (h : mk 2 t ks = some A) : whole A = some (2, t, ks) ∧ A.length ≤ 1024 ∧ (∀ p ∈ ks, (whole p).isSome = true) := by
  obtain ⟨hd, _, _, _, hl⟩ := mk_cases h
  have hw := mkd_whole h
  exact ⟨hw, hl, fun p hp => ((whole_parts hw).1 p hp).1⟩
theorem made_is {t : Int} {ks ms : List (List UInt8)} {A B : List UInt8} (ha : mk 2 t ks = some A) (hb : mk 2 t ms = some B) : isB A B = pw fl ks ms ∧ isE A B = 0 := by
  have wa := (made ha).1
  have wb := (made hb).1
  unfold isB isE
  rw [fl_parts wa wb, wa, wb]
  simp
theorem pw_len {R : List UInt8 → List UInt8 → Bool} : ∀ {ks ms : List (List UInt8)}, ks.length ≠ ms.length → pw R ks ms = false
  | [], [], h => absurd rfl h
  | [], b :: s, _ => rfl
  | a :: r, [], _ => rfl
  | a :: r, b :: s, h => by rw [pw, pw_len (fun e => h (by simp [e])), Bool.and_false]
theorem pw_at {R : List UInt8 → List UInt8 → Bool} {ks ms : List (List UInt8)} {j : Nat} (h1 : j < ks.length) (h2 : j < ms.length) : pw R (ks.drop j) (ms.drop j) = (R ks[j] ms[j] && pw R (ks.drop (j + 1)) (ms.drop (j + 1))) := by
  rw [List.drop_eq_getElem_cons h1, List.drop_eq_getElem_cons h2, pw]
theorem lst_len (xs : List ByteArray) : (lst xs).length = xs.length := by unfold lst; simp
theorem lst_at {xs : List ByteArray} {j : Nat} (h : j < xs.length) : (lst xs)[j]'(by rw [lst_len]; exact h) = xs[j].data.toList := by unfold lst; simp
theorem is_yes {a b : List UInt8} (ha : (whole a).isSome = true) (hb : (whole b).isSome = true) : isB a b = fl a b ∧ isE a b = 0 := by unfold isB isE; rw [ha, hb]; exact ⟨rfl, rfl⟩

set_option maxHeartbeats 1600000 in
set_option maxRecDepth 100000 in
/- The walk: the law's Go text returns true. -/
theorem walk (tag : Int) (ga : Option Addr) (xs : List ByteArray) (ca : Nat) (gb : Option Addr) (ys : List ByteArray) (cb : Nat) (w : World)
    (hia : Inc w ga xs ca) (hna : xs.length * 16 ≤ 140737488351232) (hxs : ∀ x ∈ xs, x.size ≤ 140737488355328)
    (hib : Inc w gb ys cb) (hnb : ys.length * 16 ≤ 140737488351232) (hys : ∀ x ∈ ys, x.size ≤ 140737488355328) (hw : Lw w) :
    Calls Tryd.prog 8 #[.int .i64 tag, .slice ga xs.length ca, .slice gb ys.length cb] w fun e w' => e = .returned (.bool true) ∧ Below w.heap.size w w' := by
  obtain ⟨t, ht, htl⟩ : ∃ m : Nat, wrap64 ((IntKind.u64.wrap tag).tmod 100) = (m : Int) ∧ m < 100 := umod tag 100 (by decide) (by decide)
  have HXS : Hid (∀ x ∈ xs, x.size ≤ 140737488355328) := hxs
  have HYS : Hid (∀ x ∈ ys, x.size ≤ 140737488355328) := hys
  have HTA : Hid (Txts w ga xs) := hia.txts
  have HTB : Hid (Txts w gb ys) := hib.txts
  clear hxs hys hia hib
  go_enter Tryd.func8, Tryd.ntmps8
  go_wp2_with fail
  refine (awake_any _ hw).mono ?_
  rintro e w1 ⟨rfl, h01⟩
  go_wp2_with fail
  refine (rmake_any 2 (t : Int) ga xs.length xs ca _ rfl (HTA.out.on h01) (by omega) HXS.out).mono ?_
  rintro e w2 ⟨rfl, h⟩
  have h02 := below_next h01 h
  clear h01 h
  cases hma : mk 2 (t : Int) (lst xs) with
  | none =>
    simp only [mkT, mkE, S]
    clear hma
    go_wp2_with fail
    refine (rmake_any 2 (t : Int) gb ys.length ys cb _ rfl (HTB.out.on h02) (by omega) HYS.out).mono ?_
    rintro e w3 ⟨rfl, h⟩
    have h03 := below_next h02 h
    clear h02 h
    generalize mkE (mk 2 (t : Int) (lst ys)) = ee at *
    generalize mkT (mk 2 (t : Int) (lst ys)) = tt at *
    simp only [S]
    go_wp2_with fail
    go_ret
    exact ⟨rfl, h03⟩
  | some A =>
    simp only [mkT, mkE, S]
    have HA : Hid (mk 2 (t : Int) (lst xs) = some A) := hma
    clear hma
    obtain ⟨P, hP⟩ : ∃ P, P = ba A := ⟨_, rfl⟩
    rw [show (⟨A.toArray⟩ : ByteArray) = P by rw [hP]; rfl]
    have HP : Hid (P = ba A) := hP
    clear hP
    go_wp2_with fail
    refine (rmake_any 2 (t : Int) gb ys.length ys cb _ rfl (HTB.out.on h02) (by omega) HYS.out).mono ?_
    rintro e w3 ⟨rfl, h⟩
    have h03 := below_next h02 h
    clear h02 h
    cases hmb : mk 2 (t : Int) (lst ys) with
    | none =>
      simp only [mkT, mkE, S]
      clear hmb
      go_wp2_with fail
      go_ret
      exact ⟨rfl, h03⟩
    | some B =>
      simp only [mkT, mkE, S]
      have HB : Hid (mk 2 (t : Int) (lst ys) = some B) := hmb
      clear hmb
      obtain ⟨Q, hQ⟩ : ∃ Q, Q = ba B := ⟨_, rfl⟩
      rw [show (⟨B.toArray⟩ : ByteArray) = Q by rw [hQ]; rfl]
      obtain ⟨R, hR⟩ : ∃ R, pw fl (lst xs) (lst ys) = R := ⟨_, rfl⟩
      have HI : Hid (isB P.data.toList Q.data.toList = R ∧ isE P.data.toList Q.data.toList = 0) := by
        show isB P.data.toList Q.data.toList = R ∧ isE P.data.toList Q.data.toList = 0
        rw [HP.out, hQ, ← hR]; exact made_is HA.out HB.out
      have HR : Hid (pw fl (lst xs) (lst ys) = R) := hR
      have HKA : Hid (∀ p ∈ lst xs, (whole p).isSome = true) := (made HA.out).2.2
      have HKB : Hid (∀ p ∈ lst ys, (whole p).isSome = true) := (made HB.out).2.2
      have zP : P.size ≤ 140737488355328 := by rw [HP.out]; exact Nat.le_trans (made HA.out).2.1 (by decide)
      have zQ : Q.size ≤ 140737488355328 := by rw [hQ]; exact Nat.le_trans (made HB.out).2.1 (by decide)
      clear hR HP hQ HA HB A B
      go_wp2_with fail
      refine (is_at P Q _ _ _ HI.out zP zQ (hw.on h03)).mono ?_
      rintro e w4 ⟨rfl, h⟩
      have h04 := below_next h03 h
      clear h03 h HI
      have HT1 : Hid (Txts w4 ga xs) := HTA.out.on h04
      have HT2 : Hid (Txts w4 gb ys) := HTB.out.on h04
      have hw4 := hw.on h04
      clear HTA HTB
      by_cases hl : xs.length = ys.length
      · have q3 : ((xs.length : Int) == (ys.length : Int)) = true := by simp [hl]
        have HL : Hid (xs.length = ys.length) := hl
        clear hl
        go_wp2_with fail
        go_loopw [14, 15] (fun v i wr => ∃ (j : Nat) (b : Bool), j ≤ xs.length ∧ v = .bool b ∧ i = .int .i64 (j : Int) ∧ ((b = true ∧ pw fl ((lst xs).drop j) ((lst ys).drop j) = R) ∨ (b = false ∧ R = false)) ∧ Below w4.heap.size w4 wr) (fun _ i _ => xs.length - (intOf i).toNat)
        case atStart => exact ⟨0, true, Nat.zero_le _, rfl, rfl, Or.inl ⟨rfl, by rw [List.drop_zero, List.drop_zero]; exact HR.out⟩, Below.refl _ _⟩
        case round =>
          obtain ⟨j, b, hj, rfl, rfl, hd, hbr⟩ := hrel
          clear HR
          by_cases hlt : j < xs.length
          · rcases hd with ⟨rfl, he⟩ | ⟨rfl, rfl⟩
            · have hlt2 : j < ys.length := by have := HL.out; omega
              have hlt2' : (j : Int) < (ys.length : Int) := by omega
              rw [pw_at (by rw [lst_len]; exact hlt) (by rw [lst_len]; exact hlt2), lst_at hlt, lst_at hlt2] at he
              obtain ⟨b1, o1, rfl, hc1⟩ := txts_at (HT1.out.on hbr) hlt
              obtain ⟨b2, o2, rfl, hc2⟩ := txts_at (HT2.out.on hbr) hlt2
              have hpa : (whole xs[j].data.toList).isSome = true := HKA.out _ (by unfold lst; exact List.mem_map.2 ⟨_, List.getElem_mem hlt, rfl⟩)
              have hpb : (whole ys[j].data.toList).isSome = true := HKB.out _ (by unfold lst; exact List.mem_map.2 ⟨_, List.getElem_mem hlt2, rfl⟩)
              have zp := HXS.out xs[j] (List.getElem_mem hlt)
              have zq := HYS.out ys[j] (List.getElem_mem hlt2)
              generalize xs[j] = p at *
              generalize ys[j] = q at *
              have HIJ := is_yes hpa hpb
              obtain ⟨y, hy⟩ : ∃ y, fl p.data.toList q.data.toList = y := ⟨_, rfl⟩
              rw [hy] at HIJ he
              have HI : Hid (isB p.data.toList q.data.toList = y ∧ isE p.data.toList q.data.toList = 0) := HIJ
              have HE : Hid ((y && pw fl ((lst xs).drop (j + 1)) ((lst ys).drop (j + 1))) = R) := he
              clear HIJ he hy hpa hpb
              have hS : Below wr.heap.size wr wr ∧ wr.cell? ⟨b1, o1 + j, none⟩ = some (.string p) ∧ wr.cell? ⟨b2, o2 + j, none⟩ = some (.string q) := ⟨Below.refl _ _, hc1, hc2⟩
              have hwr := hw4.on hbr
              go_wp2_with fail
              go_region_held3 (fun w' => Below wr.heap.size wr w' ∧ w'.cell? ⟨b1, o1 + j, none⟩ = some (.string p) ∧ w'.cell? ⟨b2, o2 + j, none⟩ = some (.string q)) (first | assumption | (exact keep_drew (by assumption)) | (exact keep_next (by assumption) (by assumption)))
                (first | (go_at_call 9; refine (is_at p q _ _ _ HI.out zp zq (hwr.on (And.left (by assumption)))).mono ?_; rintro e w5 ⟨rfl, hb5⟩))
              all_goals
                go_wp2_with (go_at_call 11; refine (num_any _ _).mono ?_; rintro e w' ⟨rfl, rfl⟩)
                go_roundw
                case rel =>
                  have hbn : Below w4.heap.size w4 w5 := below_next hbr (by first | assumption | (exact And.left (by assumption)) | (exact And.left (keep_next (by assumption) (by assumption))))
                  refine ⟨j + 1, y, by omega, rfl, by go_num, ?_, hbn⟩
                  have e := HE.out
                  cases y with
                  | true => exact Or.inl ⟨rfl, e⟩
                  | false => exact Or.inr ⟨rfl, e.symm⟩
                case measure => simp [intOf]; omega
            · go_wp2_with (go_at_call 11; refine (num_any _ _).mono ?_; rintro e w' ⟨rfl, rfl⟩)
              go_ret
              exact ⟨rfl, below_next h04 hbr⟩
          · have ej : j = xs.length := by omega
            have hb : b = R := by
              rcases hd with ⟨rfl, he⟩ | ⟨rfl, rfl⟩
              · rw [List.drop_of_length_le (by rw [lst_len]; omega), List.drop_of_length_le (by rw [lst_len, ← HL.out]; omega)] at he
                exact he
              · rfl
            subst hb
            clear hd
            have hq : (b == b) = true := by simp
            go_wp2_with (go_at_call 11; refine (num_any _ _).mono ?_; rintro e w' ⟨rfl, rfl⟩)
            go_ret
            first
              | exact ⟨rfl, below_next h04 hbr⟩
              | (rw [hq]; exact ⟨rfl, below_next h04 hbr⟩)
      · have q3 : ((xs.length : Int) == (ys.length : Int)) = false := by simp; omega
        have eR : R = false := by rw [← HR.out]; exact pw_len (by rw [lst_len, lst_len]; exact hl)
        subst eR
        clear hl HR
        go_wp2_with fail
        go_loopw [14, 15] (fun v i wr => v = .bool false ∧ i = .int .i64 0 ∧ wr = w4) (fun _ _ _ => 0)
        case atStart => exact ⟨rfl, rfl, rfl⟩
        case round =>
          obtain ⟨rfl, rfl, rfl⟩ := hrel
          by_cases hlt : (0 : Int) < (xs.length : Int)
          · go_wp2_with (go_at_call 11; refine (num_any _ _).mono ?_; rintro e w' ⟨rfl, rfl⟩)
            go_ret
            exact ⟨rfl, h04⟩
          · go_wp2_with (go_at_call 11; refine (num_any _ _).mono ?_; rintro e w' ⟨rfl, rfl⟩)
            go_ret
            exact ⟨rfl, h04⟩

set_option maxRecDepth 100000 in
/-- What the walk gives, for every argument and every world that holds the list. -/
theorem contract (H : Type) (enc : TypeId × Value → H) (W : World) (base : Nat) (args : Array Value) (ds gs : List (DataW H)) (before : List MemPlace)
    (hval : ∀ (j : Nat) t v, Tryd.f8.params[j]? = some t → args[j]? = some v → Value.okWide Tryd.prog W .any base t v)
    (hW : DataW.Whole enc Tryd.prog Tryd.f8.params.toList Rows.belowPartsSpec.vars false W args.toList ds gs before)
    (hsz0 : (DataW.weightsEach Tryd.prog (Tryd.f8.params.toList ++ (OpenSpec.ofChange Rows.belowPartsSpec).bare.plain.varTypes Tryd.prog) (ds ++ gs)).all (· ≤ reachBytes) = true) (hL : laidMetH Tryd.prog Rows.belowPartsRow.laid W) :
    Calls Tryd.prog 8 args W fun e W' => ∃ v, e = .returned v ∧ Rows.belowPartsSpec.post enc Tryd.prog Tryd.f8 false true false false W args v W' := by
  have hW' := hW
  obtain ⟨p, q, hA0, hV, rfl, hfz, hnd⟩ := hW
  have hA : DataW.TrodAll enc Tryd.prog W 0 (fun _ => true) true Tryd.f8.params.toList args.toList ds p := hA0
  rw [Tryd.params8] at hA hval hsz0
  obtain ⟨v0, vs0, d0, ds0, p0, q0, hargs, rfl, rfl, h0, r0⟩ := trodAll_cons hA
  obtain ⟨v1, vs1, d1, ds1, p1, q1, rfl, rfl, rfl, h1, r1⟩ := trodAll_cons r0
  obtain ⟨v2, vs2, d2, ds2, p2, q2, rfl, rfl, rfl, h2, r2⟩ := trodAll_cons r1
  obtain ⟨rfl, rfl, rfl⟩ := trodAll_nil r2
  obtain rfl : args = #[v0, v1, v2] := by cases args; simp_all
  obtain ⟨rfl, rfl⟩ := trodVars_none hV
  obtain ⟨a0, rfl, rfl, rfl, w0⟩ := open_int Tryd.underlying3 (hval 0 3 v0 rfl rfl) h0
  obtain ⟨g1, n1, c1, rfl⟩ := okWide_slice Tryd.underlying32 (hval 1 32 v1 rfl rfl)
  have k1 := h1
  obtain ⟨fuel1, f1⟩ := h1
  obtain ⟨xs1, rfl, hin1, hn1, hxs1⟩ := open_kids (j := 1) f1 hsz0 rfl rfl
  obtain ⟨g2, n2, c2, rfl⟩ := okWide_slice Tryd.underlying32 (hval 2 32 v2 rfl rfl)
  have k2 := h2
  obtain ⟨fuel2, f2⟩ := h2
  obtain ⟨xs2, rfl, hin2, hn2, hxs2⟩ := open_kids (j := 2) f2 hsz0 rfl rfl
  clear hA0
  simp only [List.append_nil, List.nil_append] at hW'
  have hlt1 : ∀ x ∈ p1, x.block < W.heap.size := fun x hx => by simpa using hW'.lt x (List.mem_append_left _ hx)
  have hlt2 : ∀ x ∈ p2, x.block < W.heap.size := fun x hx => by simpa using hW'.lt x (List.mem_append_right _ hx)
  refine (walk a0 g1 xs1 c1 g2 xs2 c2 W hin1 hn1 hxs1 hin2 hn2 hxs2 (lw_of hL)).mono fun e W' ⟨he, hg⟩ => ?_
  subst he
  exact ⟨_, rfl, _, _, _, [], ([] ++ (p1 ++ (p2 ++ []))), [], hW', trodAll_cons_mk (shut_bool Tryd.underlying4 _) trodAll_mk0, trodAll_cons_mk (shut_int Tryd.underlying3 w0) (trodAll_cons_mk (Below.trod laidOut (by kernel_rfl) (of_decide_eq_true (by kernel_rfl)) k1 hg hlt1) (trodAll_cons_mk (Below.trod laidOut (by kernel_rfl) (of_decide_eq_true (by kernel_rfl)) k2 hg hlt2) trodAll_mk0)), rfl, hg.frame _, fun h => by cases h⟩

theorem reads (os : Os) {H : Type} (enc : TypeId × Value → H) : ∃ places, DataW.whole enc Tryd.prog ((World.doorLaid Tryd.prog 62 os).forCall (fun _ _ => 0) ⟨#[], #[.int .i64 0, .slice none 0 0, .slice none 0 0], []⟩).memory Tryd.f8.params.toList Rows.belowPartsSpec.vars false #[Value.int .i64 0, .slice none 0 0, .slice none 0 0].toList 8 = some ([.lit (.int .i64 0), .nil, .nil], [], places) :=
  ⟨[], by kernel_rfl⟩

set_option maxRecDepth 100000 in
theorem lifted (os : Os) (started : os.Started) (H : Type) (enc : TypeId × Value → H) (F : Stop.Interp) :
    ReturnsInHanded {} Tryd.checked os 8 .any ((OpenSpec.ofChange Rows.belowPartsSpec).preRow enc Tryd.prog Tryd.f8 Rows.belowPartsRow.domain false Rows.belowPartsRow.laid) (((OpenSpec.ofChange Rows.belowPartsSpec).at F).post enc Tryd.prog Tryd.f8 false true false false) := by
  obtain ⟨places, hx⟩ := reads os enc
  refine returnsInHanded_of_row (C := Tryd.checked) (s := OpenSpec.ofChange Rows.belowPartsSpec) own started (by kernel_rfl) Tryd.func8
    (witness_row_atRef (enc := enc) (C := Tryd.checked) false (World.doorLaid Tryd.prog 62 os) #[.int .i64 0, .slice none 0 0, .slice none 0 0] rfl (by kernel_rfl) (by kernel_rfl) (by kernel_rfl)
      (OpenSpec.preRow_of_cond 8 hx (by kernel_rfl) (fun k hk => by cases hk) (by kernel_rfl) (door_met os _))) ?_
  intro W base args ds gs before hval hW _ _ hsz hL _ _
  exact contract H enc W base args ds gs before hval hW hsz hL

theorem said : Rows.BelowPartsSaid :=
  OpenClaim.holds_of_cond 8 Tryd.f8 rfl rfl rfl rfl rfl rfl rfl ⟨rfl, rfl, rfl, rfl, rfl⟩ rfl rfl rfl rfl rfl (by kernel_rfl) Tryd.func8 (by kernel_rfl)
    (of_decide_eq_true (by kernel_rfl)) (by unfold Func.isWrapper; first | (rw [if_pos (by decide +kernel)]; kernel_rfl) | (rw [if_neg (by decide +kernel)]; exact ⟨rfl, rfl⟩))
    (fun os started H enc _ F => by rw [OpenClaim.pre_eq_preRow]; exact lifted os started H enc F)

theorem plain (f : FuncId) (fn : Func) (hf : Tryd.pinned.checked.prog.funcNamed "sleuth/sleuthlaw3.BelowParts" = some f) (hfn : Tryd.pinned.checked.prog.funcs[f]? = some fn) :
    true = Tryd.pinned.checked.prog.looks [] ∧ ∀ (j : Nat) t, fn.params[j]? = some t → Tryd.pinned.checked.prog.wantsStandIn t = false := by
  obtain rfl : f = 8 := Option.some.inj ((show Tryd.prog.funcNamed "sleuth/sleuthlaw3.BelowParts" = some 8 by kernel_rfl).symm.trans hf) |>.symm
  obtain rfl : fn = Tryd.f8 := (Option.some.inj (Tryd.func8.symm.trans hfn)).symm
  refine ⟨by kernel_rfl, fun j t ht => ?_⟩
  rw [Tryd.params8] at ht
  have hm : t ∈ [3, 32, 32] := by simpa using Array.mem_of_getElem? ht
  have hall : ([3, 32, 32].all fun u => !Tryd.prog.wantsStandIn u) = true := by kernel_rfl
  exact (show Tryd.prog.wantsStandIn t = false by simpa using List.all_eq_true.1 hall t hm)

/-- The given statement. -/
theorem card : Rows.BelowPartsCardSaid :=
  Claim7.holds_tied_plain_at .later [] _ _ _ _ said (fun _ h => by cases h) (by kernel_rfl) (fun _ h => by cases h) belowParts_row_tie rfl ⟨rfl, rfl⟩ (by kernel_rfl) rfl plain (by kernel_rfl)
end Go.Proofs.YtcjpepbajcdenaaDoor.belowParts
namespace Go.Proofs.YtcjpepbajcdenaaDoor
theorem belowParts_holds : Rows.BelowPartsCardSaid := belowParts.card
end Go.Proofs.YtcjpepbajcdenaaDoor
