/- Whatever the ints tag and at and the list of texts kids are: where the document's own answer makes a constructor of kids, and one of its parts is turned into a hole, Is says that what comes of it is below the first one, and that the first one is below it just if that part was a hole; the condition is the card's own: the listed variables of the library read as their initialisers lay them. -/
import Derived.Test.YtcjpepbajcdenaaDoorKeep
import Derived.Test.YtcjpepbajcdenaaDoorKids
namespace Go.Proofs.YtcjpepbajcdenaaDoor.belowHoles
open Go.ChangeShapes Go.WideShapes Go.ChangeAt Go.RowKit Go.ChangeMaps Go.Deep
set_option linter.unusedVariables false

theorem jn_set : ∀ (ks : List (List UInt8)) (k : Nat), (∀ p ∈ ks, 1 ≤ p.length) → (jn (ks.set k [95])).length ≤ (jn ks).length
  | [], k, _ => by simp
  | [a], 0, h => by have := h a (by simp); simp [jn]; omega
  | [a], k + 1, h => by simp
  | a :: b :: r, 0, h => by have := h a (by simp); simp [jn]; omega
  | a :: b :: r, k + 1, h => by
    have ih := jn_set (b :: r) k (fun p hp => h p (List.mem_cons_of_mem _ hp))
    rw [List.set_cons_succ]
    cases hs : (b :: r).set k [95] with
    | nil => have := congrArg List.length hs; simp at this
    | cons c s =>
      rw [hs] at ih
      simp only [jn, List.length_append, List.length_cons] at ih ⊢
      omega
theorem whole_pos {p : List UInt8} (h : (whole p).isSome = true) : 1 ≤ p.length := by
  cases p with
  | nil => simp [whole, T, numT, numPart, canon] at h
  | cons c p => simp

/-- A part turned into a hole. -/
theorem mk_set {t : Int} {ks : List (List UInt8)} {A : List UInt8} (h : mk 2 t ks = some A) {k : Nat} (hk : k < ks.length) : ∃ B, mk 2 t (ks.set k [95]) = some B := by
  obtain ⟨hd, hh, e, hb, hl⟩ := mk_cases h
  have hne : ks ≠ [] := fun e => by rw [e] at hk; simp at hk
  have hne2 : ks.set k [95] ≠ [] := fun e => by have := congrArg List.length e; simp at this; exact hne this
  have hw := mkd_whole h
  have hp := whole_parts hw
  have hbs : behind 2 (ks.set k [95]) = true := by
    rw [behind_all hne2 (by rw [List.length_set]; exact hp.2.2), List.all_eq_true]
    intro p hm
    rcases List.mem_or_eq_of_mem_set hm with h | h
    · exact (hp.1 p h).1
    · subst h; rw [whole_of_hole]; rfl
  refine ⟨hd ++ tail (ks.set k [95]), mk_yes hh hbs ?_⟩
  have hj := jn_set ks k (fun p hm => whole_pos (hp.1 p hm).1)
  rw [e] at hl
  unfold tail at hl ⊢
  rw [if_neg hne] at hl
  rw [if_neg hne2]
  simp only [List.length_append, List.length_cons, List.length_nil] at hl ⊢
  omega

theorem pw_set_less {ks : List (List UInt8)} (h : ∀ p ∈ ks, (whole p).isSome = true) : ∀ k, pw fl (ks.set k [95]) ks = true := by
  induction ks with
  | nil => intro k; rfl
  | cons a r ih =>
    intro k
    have ha := h a (by simp)
    have hr := fun p hp => h p (List.mem_cons_of_mem _ hp)
    cases k with
    | zero =>
      rw [List.set_cons_zero, pw, fl_of_hole a ha, pw_refl r (fun p hp => fl_refl _ p (Nat.lt_succ_self _) (hr p hp))]; rfl
    | succ k => rw [List.set_cons_succ, pw, fl_refl _ a (Nat.lt_succ_self _) ha, ih hr k]; rfl
theorem pw_set_more {ks : List (List UInt8)} (h : ∀ p ∈ ks, (whole p).isSome = true) : ∀ k (hk : k < ks.length), pw fl ks (ks.set k [95]) = decide (ks[k] = [95]) := by
  induction ks with
  | nil => intro k hk; simp at hk
  | cons a r ih =>
    intro k hk
    have ha := h a (by simp)
    have hr := fun p hp => h p (List.mem_cons_of_mem _ hp)
    cases k with
    | zero =>
      rw [List.set_cons_zero, pw, fl_to_hole a ha, pw_refl r (fun p hp => fl_refl _ p (Nat.lt_succ_self _) (hr p hp)), Bool.and_true]; rfl
    | succ k => rw [List.set_cons_succ, pw, fl_refl _ a (Nat.lt_succ_self _) ha, ih hr k (by simpa using hk)]; rfl

theorem made_is {t : Int} {ks ms : List (List UInt8)} {A B : List UInt8} (ha : mk 2 t ks = some A) (hb : mk 2 t ms = some B) : isB A B = pw fl ks ms ∧ isE A B = 0 := by
  have wa := mkd_whole ha
  have wb := mkd_whole hb
  unfold isB isE
  rw [fl_parts wa wb, wa, wb]
  simp
theorem made_len {t : Int} {ks : List (List UInt8)} {A : List UInt8} (h : mk 2 t ks = some A) : (ba A).size ≤ 140737488355328 := by
  obtain ⟨hd, _, _, _, hl⟩ := mk_cases h
  exact Nat.le_trans hl (by decide)
theorem lst_len (xs : List ByteArray) : (lst xs).length = xs.length := by unfold lst; simp
theorem lst_S (xs : List ByteArray) : (lst xs).map S = xs.map Value.string := by unfold lst; simp

set_option maxHeartbeats 1600000 in
set_option maxRecDepth 100000 in
/- The walk: the law's Go text returns true. -/
theorem walk (tag : Int) (g : Option Addr) (xs : List ByteArray) (c : Nat) (at0 : Int) (w : World)
    (hi : Inc w g xs c) (hn : xs.length * 16 ≤ 140737488351232) (hxs : ∀ x ∈ xs, x.size ≤ 140737488355328) (hw : Lw w) :
    Calls Tryd.prog 6 #[.int .i64 tag, .slice g xs.length c, .int .i64 at0] w fun e w' => e = .returned (.bool true) ∧ Below w.heap.size w w' := by
  obtain ⟨t, ht, htl⟩ : ∃ m : Nat, wrap64 ((IntKind.u64.wrap tag).tmod 100) = (m : Int) ∧ m < 100 := umod tag 100 (by decide) (by decide)
  have HXS : Hid (∀ x ∈ xs, x.size ≤ 140737488355328) := hxs
  have HTX : Hid (Txts w g xs) := hi.txts
  clear hxs
  obtain ⟨i0, hif, hz0, hz1, hz2⟩ := info_parts Tryd.info9
  go_enter Tryd.func6, Tryd.ntmps6
  go_wp2_with fail
  refine (awake_any _ hw).mono ?_
  rintro e w1 ⟨rfl, h01⟩
  go_wp2_with fail
  refine (rmake_any 2 (t : Int) g xs.length xs c _ rfl (HTX.out.on h01) (by omega) HXS.out).mono ?_
  rintro e w2 ⟨rfl, h⟩
  have h02 := below_next h01 h
  clear h01 h
  cases hma : mk 2 (t : Int) (lst xs) with
  | none =>
    simp only [mkT, mkE, S]
    clear hma
    go_wp2_with fail
    go_ret
    exact ⟨rfl, h02⟩
  | some A =>
    simp only [mkT, mkE, S]
    have HA : Hid (mk 2 (t : Int) (lst xs) = some A) := hma
    clear hma
    obtain ⟨P, hP⟩ : ∃ P, P = ba A := ⟨_, rfl⟩
    rw [show (⟨A.toArray⟩ : ByteArray) = P by rw [hP]; rfl]
    have HP : Hid (P = ba A) := hP
    clear hP
    by_cases hnil : xs = []
    · subst hnil
      go_wp2_with fail
      go_ret
      exact ⟨rfl, h02⟩
    · have hpos : 0 < xs.length := List.length_pos_iff.2 hnil
      have hz : ((xs.length : Int) == 0) = false := by simp; omega
      have hwl : IntKind.u64.wrap (xs.length : Int) = (xs.length : Int) := by rw [IntKind.wrap_u64]; omega
      obtain ⟨k, hk, hkl⟩ := umod at0 xs.length hpos (by omega)
      obtain ⟨bk, o, rfl, hbk, hcl⟩ : ∃ bk o, g = some ⟨bk, o, none⟩ ∧ bk < w.heap.size ∧ ∀ (j : Nat) x, xs[j]? = some x → w.cell? ⟨bk, o + j, none⟩ = some (.string x) := by
        rcases hi with ⟨_, e, _⟩ | ⟨e, _⟩ | h
        · exact absurd e hnil
        · exact absurd e hnil
        · exact h
      have hck : w.cell? ⟨bk, o + k, none⟩ = some (.string xs[k]) := hcl k _ (List.getElem?_eq_getElem hkl)
      have hbk2 : bk < w2.heap.size := Nat.lt_of_lt_of_le hbk h02.size
      have HC : Hid (∀ (j : Nat) u, (xs.map Value.string)[j]? = some u → w2.cell? ⟨bk, o + j, none⟩ = some u) := by
        intro j u hj
        rw [List.getElem?_map] at hj
        cases hx : xs[j]? with
        | none => rw [hx] at hj; cases hj
        | some x => rw [hx] at hj; cases hj; rw [h02.cell (p := ⟨bk, o + j, none⟩) hbk]; exact hcl j x hx
      have hkd : Hid ((lst xs)[k]'(by rw [lst_len]; exact hkl) = xs[k].data.toList) := by unfold lst; show _ = _; simp
      obtain ⟨B, hB⟩ := mk_set HA.out (k := k) (by rw [lst_len]; exact hkl)
      have HB : Hid (mk 2 (t : Int) ((lst xs).set k [95]) = some B) := hB
      clear hi hcl hB
      go_wp2_with (at_builtin; refine wpList_append_own _ rfl _ _ 32 rfl w2.heap.size 9 i0 (.string ⟨#[]⟩) 1 16 Tryd.underlying32 hif hz0 hz1 hz2 rfl (by decide) _ 0 _ rfl (own_none w2 w2.heap.size (Nat.le_refl _)) ⟨bk, o, none⟩ xs.length c (xs.map Value.string) rfl ?c0 ?c1 ?c2 ?c3 ?c4 ?c5 ?_)
      case c0 => simp
      case c1 =>
        intro j u hj
        first
          | rw [Lib.add_plain, World.cell?_alloc_lt _ _ _ hbk2]
          | rw [World.cell?_alloc_lt _ _ _ hbk2]
          | skip
        exact HC.out j u hj
      case c2 => exact strs_one xs
      case c3 => unfold maxLen; omega
      case c4 => omega
      case c5 => first | omega | (simp; omega) | simp
      intro v' w3 hown hgrow _
      have h23 : Below w2.heap.size w2 w3 := ((Below.refl _ _).alloc (Nat.le_refl _) _).grown hgrow (by rw [World.size_alloc]; omega) (fun k e => by cases e; exact Nat.le_refl _)
      have ho : w3.ownsRow w2.heap.size 9 1 v' (lst xs).length ((lst xs).map S) := by
        rw [lst_len, lst_S]; simpa using hown
      clear hown hgrow HC
      obtain ⟨gb, cb, rfl, hBB, hlt⟩ := ho.form (by rw [lst_len]; omega)
      rw [lst_len] at ho
      have hst := (ho.stored k (S [95])).1
      have HST : Hid ((w3.setCell ⟨gb, k, none⟩ (S [95])).ownsRow w2.heap.size 9 1 (.slice (some ⟨gb, 0, none⟩) xs.length cb) ((lst xs).set k [95]).length (((lst xs).set k [95]).map S)) := by
        show (w3.setCell ⟨gb, k, none⟩ (S [95])).ownsRow w2.heap.size 9 1 (.slice (some ⟨gb, 0, none⟩) xs.length cb) ((lst xs).set k [95]).length (((lst xs).set k [95]).map S)
        rw [List.map_set, List.length_set, lst_len]; exact hst
      have hcc : ∃ u, w3.cell? ⟨gb, k, none⟩ = some (.string u) := ⟨_, by rw [ho.cellAt k (by omega), List.getElem?_map, List.getElem?_eq_getElem (by rw [lst_len]; exact hkl)]; rfl⟩
      obtain ⟨u, hc⟩ := hcc
      have hf : w3.frozen? ⟨gb, k, none⟩ = false := ho.frozenAt k
      have H24 : Hid (Below w2.heap.size w2 (w3.setCell ⟨gb, k, none⟩ (.string ⟨#[95]⟩))) := h23.setCell hBB _
      rw [lst_len]
      clear hst ho h23
      go_wp2_with fail
      obtain ⟨g2, c2, ev, htx, _⟩ := own_txts HST.out
      have eg : g2 = some ⟨gb, 0, none⟩ := by injection ev with h1 h2 h3; exact h1.symm
      subst eg
      clear ev HST
      refine (rmake_any 2 (t : Int) _ xs.length (((lst xs).set k [95]).map ba) cb _ (by rw [List.length_map, List.length_set, lst_len]) htx (by rw [List.length_map, List.length_set, lst_len]; omega) ?_).mono ?_
      · intro x hx
        obtain ⟨l, hl, rfl⟩ := List.mem_map.1 hx
        rcases List.mem_or_eq_of_mem_set hl with h | h
        · unfold lst at h
          obtain ⟨y, hy, rfl⟩ := List.mem_map.1 h
          have := HXS.out y hy
          have e : (ba y.data.toList).size = y.size := by unfold ba; simp
          omega
        · subst h; decide
      rintro e w4 ⟨rfl, h⟩
      have h24 := below_next H24.out h
      have h04 := below_next h02 h24
      clear H24 h htx
      rw [lst_ba, HB.out]
      simp only [mkT, mkE, S]
      obtain ⟨Q, hQ⟩ : ∃ Q, Q = ba B := ⟨_, rfl⟩
      rw [show (⟨B.toArray⟩ : ByteArray) = Q by rw [hQ]; rfl]
      have hwk := fun p hp => ((whole_parts (mkd_whole HA.out)).1 p hp).1
      have HI : Hid (isB Q.data.toList P.data.toList = true ∧ isE Q.data.toList P.data.toList = 0) := by
        show isB Q.data.toList P.data.toList = true ∧ isE Q.data.toList P.data.toList = 0
        have := made_is HB.out HA.out
        rw [pw_set_less hwk] at this
        rw [HP.out, hQ]; exact this
      obtain ⟨y, hy⟩ : ∃ y, decide (xs[k].data.toList = [95]) = y := ⟨_, rfl⟩
      have HJ : Hid (isB P.data.toList Q.data.toList = y ∧ isE P.data.toList Q.data.toList = 0) := by
        show isB P.data.toList Q.data.toList = y ∧ isE P.data.toList Q.data.toList = 0
        have := made_is HA.out HB.out
        rw [pw_set_more hwk k (by rw [lst_len]; exact hkl), hkd.out, hy] at this
        rw [HP.out, hQ]; exact this
      have zP : P.size ≤ 140737488355328 := by rw [HP.out]; exact made_len HA.out
      have zQ : Q.size ≤ 140737488355328 := by rw [hQ]; exact made_len HB.out
      have hq : (xs[k].toList == [95]) = y := by
        rw [← hy, Lib.toList_data]
        by_cases e : xs[k].data.toList = [95]
        · rw [e]; rfl
        · rw [decide_eq_false e, beq_eq_false_iff_ne]; exact e
      clear hQ hwk hy hkd HA HB HP
      go_wp2_with fail
      refine (is_at Q P _ _ _ HI.out zQ zP (hw.on h04)).mono ?_
      rintro e w5 ⟨rfl, h⟩
      have h05 := below_next h04 h
      clear h04 h HI
      go_wp2_with fail
      refine (is_at P Q _ _ _ HJ.out zP zQ (hw.on h05)).mono ?_
      rintro e w6 ⟨rfl, h⟩
      have h06 := below_next h05 h
      clear h05 h HJ
      have hck6 : w6.cell? ⟨bk, o + k, none⟩ = some (.string xs[k]) := by rw [h06.cell (p := ⟨bk, o + k, none⟩) hbk]; exact hck
      generalize xs[k] = z at *
      go_wp2_with (go_at_call 11; refine (num_any _ _).mono ?_; rintro e w' ⟨rfl, rfl⟩)
      go_ret
      have hyy : (y == y) = true := by simp
      first
        | exact ⟨rfl, h06⟩
        | (rw [hq, hyy]; exact ⟨rfl, h06⟩)
        | (rw [hyy]; exact ⟨rfl, h06⟩)

set_option maxRecDepth 100000 in
/-- What the walk gives, for every argument and every world that holds the list. -/
theorem contract (H : Type) (enc : TypeId × Value → H) (W : World) (base : Nat) (args : Array Value) (ds gs : List (DataW H)) (before : List MemPlace)
    (hval : ∀ (j : Nat) t v, Tryd.f6.params[j]? = some t → args[j]? = some v → Value.okWide Tryd.prog W .any base t v)
    (hW : DataW.Whole enc Tryd.prog Tryd.f6.params.toList Rows.belowHolesSpec.vars false W args.toList ds gs before)
    (hsz0 : (DataW.weightsEach Tryd.prog (Tryd.f6.params.toList ++ (OpenSpec.ofChange Rows.belowHolesSpec).bare.plain.varTypes Tryd.prog) (ds ++ gs)).all (· ≤ reachBytes) = true) (hL : laidMetH Tryd.prog Rows.belowHolesRow.laid W) :
    Calls Tryd.prog 6 args W fun e W' => ∃ v, e = .returned v ∧ Rows.belowHolesSpec.post enc Tryd.prog Tryd.f6 false true false false W args v W' := by
  have hW' := hW
  obtain ⟨p, q, hA0, hV, rfl, hfz, hnd⟩ := hW
  have hA : DataW.TrodAll enc Tryd.prog W 0 (fun _ => true) true Tryd.f6.params.toList args.toList ds p := hA0
  rw [Tryd.params6] at hA hval hsz0
  obtain ⟨v0, vs0, d0, ds0, p0, q0, hargs, rfl, rfl, h0, r0⟩ := trodAll_cons hA
  obtain ⟨v1, vs1, d1, ds1, p1, q1, rfl, rfl, rfl, h1, r1⟩ := trodAll_cons r0
  obtain ⟨v2, vs2, d2, ds2, p2, q2, rfl, rfl, rfl, h2, r2⟩ := trodAll_cons r1
  obtain ⟨rfl, rfl, rfl⟩ := trodAll_nil r2
  obtain rfl : args = #[v0, v1, v2] := by cases args; simp_all
  obtain ⟨rfl, rfl⟩ := trodVars_none hV
  obtain ⟨a0, rfl, rfl, rfl, w0⟩ := open_int Tryd.underlying3 (hval 0 3 v0 rfl rfl) h0
  obtain ⟨g1, n1, c1, rfl⟩ := okWide_slice Tryd.underlying32 (hval 1 32 v1 rfl rfl)
  have k1 := h1
  obtain ⟨fuel1, f1⟩ := h1
  obtain ⟨xs1, rfl, hin1, hn1, hxs1⟩ := open_kids (j := 1) f1 hsz0 rfl rfl
  obtain ⟨a2, rfl, rfl, rfl, w2⟩ := open_int Tryd.underlying3 (hval 2 3 v2 rfl rfl) h2
  clear hA0
  simp only [List.append_nil, List.nil_append] at hW'
  have hlt1 : ∀ x ∈ p1, x.block < W.heap.size := fun x hx => by simpa using hW'.lt x hx
  refine (walk a0 g1 xs1 c1 a2 W hin1 hn1 hxs1 (lw_of hL)).mono fun e W' ⟨he, hg⟩ => ?_
  subst he
  exact ⟨_, rfl, _, _, _, [], ([] ++ (p1 ++ ([] ++ []))), [], hW', trodAll_cons_mk (shut_bool Tryd.underlying4 _) trodAll_mk0, trodAll_cons_mk (shut_int Tryd.underlying3 w0) (trodAll_cons_mk (Below.trod laidOut (by kernel_rfl) (of_decide_eq_true (by kernel_rfl)) k1 hg hlt1) (trodAll_cons_mk (shut_int Tryd.underlying3 w2) trodAll_mk0)), rfl, hg.frame _, fun h => by cases h⟩

theorem reads (os : Os) {H : Type} (enc : TypeId × Value → H) : ∃ places, DataW.whole enc Tryd.prog ((World.doorLaid Tryd.prog 62 os).forCall (fun _ _ => 0) ⟨#[], #[.int .i64 0, .slice none 0 0, .int .i64 0], []⟩).memory Tryd.f6.params.toList Rows.belowHolesSpec.vars false #[Value.int .i64 0, .slice none 0 0, .int .i64 0].toList 8 = some ([.lit (.int .i64 0), .nil, .lit (.int .i64 0)], [], places) :=
  ⟨[], by kernel_rfl⟩

set_option maxRecDepth 100000 in
theorem lifted (os : Os) (started : os.Started) (H : Type) (enc : TypeId × Value → H) (F : Stop.Interp) :
    ReturnsInHanded {} Tryd.checked os 6 .any ((OpenSpec.ofChange Rows.belowHolesSpec).preRow enc Tryd.prog Tryd.f6 Rows.belowHolesRow.domain false Rows.belowHolesRow.laid) (((OpenSpec.ofChange Rows.belowHolesSpec).at F).post enc Tryd.prog Tryd.f6 false true false false) := by
  obtain ⟨places, hx⟩ := reads os enc
  refine returnsInHanded_of_row (C := Tryd.checked) (s := OpenSpec.ofChange Rows.belowHolesSpec) own started (by kernel_rfl) Tryd.func6
    (witness_row_atRef (enc := enc) (C := Tryd.checked) false (World.doorLaid Tryd.prog 62 os) #[.int .i64 0, .slice none 0 0, .int .i64 0] rfl (by kernel_rfl) (by kernel_rfl) (by kernel_rfl)
      (OpenSpec.preRow_of_cond 8 hx (by kernel_rfl) (fun k hk => by cases hk) (by kernel_rfl) (door_met os _))) ?_
  intro W base args ds gs before hval hW _ _ hsz hL _ _
  exact contract H enc W base args ds gs before hval hW hsz hL

theorem said : Rows.BelowHolesSaid :=
  OpenClaim.holds_of_cond 6 Tryd.f6 rfl rfl rfl rfl rfl rfl rfl ⟨rfl, rfl, rfl, rfl, rfl⟩ rfl rfl rfl rfl rfl (by kernel_rfl) Tryd.func6 (by kernel_rfl)
    (of_decide_eq_true (by kernel_rfl)) (by unfold Func.isWrapper; first | (rw [if_pos (by decide +kernel)]; kernel_rfl) | (rw [if_neg (by decide +kernel)]; exact ⟨rfl, rfl⟩))
    (fun os started H enc _ F => by rw [OpenClaim.pre_eq_preRow]; exact lifted os started H enc F)

theorem plain (f : FuncId) (fn : Func) (hf : Tryd.pinned.checked.prog.funcNamed "sleuth/sleuthlaw3.BelowHoles" = some f) (hfn : Tryd.pinned.checked.prog.funcs[f]? = some fn) :
    true = Tryd.pinned.checked.prog.looks [] ∧ ∀ (j : Nat) t, fn.params[j]? = some t → Tryd.pinned.checked.prog.wantsStandIn t = false := by
  obtain rfl : f = 6 := Option.some.inj ((show Tryd.prog.funcNamed "sleuth/sleuthlaw3.BelowHoles" = some 6 by kernel_rfl).symm.trans hf) |>.symm
  obtain rfl : fn = Tryd.f6 := (Option.some.inj (Tryd.func6.symm.trans hfn)).symm
  refine ⟨by kernel_rfl, fun j t ht => ?_⟩
  rw [Tryd.params6] at ht
  have hm : t ∈ [3, 32, 3] := by simpa using Array.mem_of_getElem? ht
  have hall : ([3, 32, 3].all fun u => !Tryd.prog.wantsStandIn u) = true := by kernel_rfl
  exact (show Tryd.prog.wantsStandIn t = false by simpa using List.all_eq_true.1 hall t hm)

/-- The given statement. -/
theorem card : Rows.BelowHolesCardSaid :=
  Claim7.holds_tied_plain_at .later [] _ _ _ _ said (fun _ h => by cases h) (by kernel_rfl) (fun _ h => by cases h) belowHoles_row_tie rfl ⟨rfl, rfl⟩ (by kernel_rfl) rfl plain (by kernel_rfl)
end Go.Proofs.YtcjpepbajcdenaaDoor.belowHoles
namespace Go.Proofs.YtcjpepbajcdenaaDoor
theorem belowHoles_holds : Rows.BelowHolesCardSaid := belowHoles.card
end Go.Proofs.YtcjpepbajcdenaaDoor
