/- Whatever the ints x and tag are, the number that x picks has the one text that the references' Decimal tells, Make and Cut undo each other at it and at the constructor of the tag that tag picks round it; the condition is the card's own: the listed variables of the library read as their initialisers lay them. -/
import Derived.Test.YtcpddpflfncbmaaDoorLaid
import Derived.Test.YtcpddpflfncbmaaDoorDecimal
import Derived.Test.YtcpddpflfncbmaaDoorMakesA
namespace Go.Proofs.YtcpddpflfncbmaaDoor.termNumbers
open Go.ChangeShapes Go.WideShapes Go.ChangeAt Go.RowKit
set_option linter.unusedVariables false

theorem and_65535 (x : Int) : ∃ m : Int, bits .and .i64 x 65535 = m + 32768 ∧ -32768 ≤ m ∧ m ≤ 32767 := by
  refine ⟨x % 65536 - 32768, ?_, by omega, by omega⟩
  have hb : (BitVec.ofInt 64 65535).toNat = 65535 := by decide
  have h : bits .and .i64 x 65535 = IntKind.i64.wrap (((BitVec.ofInt 64 x &&& BitVec.ofInt 64 65535).toNat : Nat) : Int) := rfl
  rw [h, BitVec.toNat_and, hb, BitVec.toNat_ofInt, show (65535 : Nat) = 2 ^ 16 - 1 from rfl, Nat.and_two_pow_sub_one_eq_mod, IntKind.wrap_i64]
  simp only [show ((2 : Nat) ^ 64) = 18446744073709551616 from rfl, show ((2 : Nat) ^ 16) = 65536 from rfl]
  omega
theorem wrap_u64 (x : Int) : ∃ m : Int, IntKind.u64.wrap x = m ∧ 0 ≤ m ∧ m ≤ 18446744073709551615 := ⟨_, rfl, by rw [IntKind.wrap_u64]; omega, by rw [IntKind.wrap_u64]; omega⟩

theorem itoa_six {v : Int} (h1 : -32768 ≤ v) (h2 : v ≤ 32767) : (Lib.itoa v).length ≤ 21 := Lib.itoa_length_le v (by omega) (by omega)
theorem mk_num {v : Int} (h1 : -32768 ≤ v) (h2 : v ≤ 32767) : mk 1 v [] = some (Lib.itoa v) := by
  have hl := itoa_six h1 h2
  have := mk_yes (kind := 1) (num := v) (kids := []) (t := Lib.itoa v) (by rw [head_one, if_pos (by unfold mayB; simp; omega)]) rfl (by simp [tail]; omega)
  rw [this]; simp [tail]
theorem mk_con {v t : Int} (h1 : -32768 ≤ v) (h2 : v ≤ 32767) (t1 : 0 ≤ t) (t2 : t ≤ 99) : mk 2 t [Lib.itoa v] = some (64 :: (Lib.itoa t ++ 40 :: (Lib.itoa v ++ [41]))) := by
  have hl := itoa_six h1 h2
  have hl2 := itoa_six (v := t) (by omega) (by omega)
  have hw := mkd_whole (mk_num h1 h2)
  have := mk_yes (kind := 2) (num := t) (kids := [Lib.itoa v]) (t := 64 :: Lib.itoa t) (by rw [head_two, if_pos (by unfold tagB; simp; omega)]) (by unfold behind; simp [hw]) (by simp [tail, jn]; omega)
  rw [this]; simp [tail, jn]

set_option maxHeartbeats 1600000 in
set_option maxRecDepth 100000 in
/- The walk: the law's Go text returns true. -/
theorem walk (a0 a1 : Int) (w : World) (hw : Lw w) :
    Calls Tryd.prog 7 #[.int .i64 a0, .int .i64 a1] w fun e w' => e = .returned (.bool true) ∧ Below w.heap.size w w' := by
  obtain ⟨v, hk, v1, v2⟩ := and_65535 a0
  obtain ⟨q, hq, q1, q2⟩ := wrap_u64 a1
  go_enter Tryd.func7, Tryd.ntmps7
  go_wp2_with fail
  refine (awake_any _ hw).mono ?_
  rintro e w1 ⟨rfl, hb1⟩
  have hw1 := hw.on hb1
  go_wp2_with fail
  generalize ht : q % 100 = t at *
  have t1 : 0 ≤ t := by omega
  have t2 : t ≤ 99 := by omega
  clear ht
  have M1 : Hid (mk 1 v [] = some (Lib.itoa v)) := mk_num v1 v2
  have M2 : Hid (mk 2 t [Lib.itoa v] = some (64 :: (Lib.itoa t ++ 40 :: (Lib.itoa v ++ [41])))) := mk_con v1 v2 t1 t2
  have hsl := itoa_six v1 v2
  have htl := itoa_six (v := t) (by omega) (by omega)
  refine (make_at 1 v _ 0 [] 0 _ rfl (by omega) (by omega) (Or.inl rfl) (by decide) (by decide) (by decide) hw1).mono ?_
  rintro e w2 ⟨rfl, hb2⟩
  rw [show lst [] = [] from rfl, M1.out]
  simp only [mkT, mkE, S]
  have hw2 := hw1.on hb2
  have h02 := below_next hb1 hb2
  clear hb1 hb2 hw1
  go_wp2_with fail
  refine (cut_any atoi_said itoa_said clone_said ⟨(Lib.itoa v).toArray⟩ _ (by show (Lib.itoa v).length ≤ _; omega) hw2).mono ?_
  rintro e w3 ⟨k, x, vv, er, rfl, _, hb3, hgot⟩
  rw [show whole (⟨(Lib.itoa v).toArray⟩ : ByteArray).data.toList = _ from mkd_whole M1.out] at hgot
  obtain ⟨rfl, rfl, rfl, hown⟩ := hgot
  obtain ⟨g, c, rfl, htx, _⟩ := own_txts hown
  have hw3 := hw2.on hb3
  have h03 := below_next h02 hb3
  clear hb3 hw2 h02 hown htx
  go_wp2_with fail
  refine (make_at 2 t _ 1 ([Lib.itoa x].map ba) 1 _ rfl (by omega) (by omega) ?_ ?_ (by simp) (by simp) ?_).mono ?_
  · exact new_txts w3 ([Lib.itoa x].map ba)
  · intro z hz
    rw [List.map_cons, List.map_nil, List.mem_singleton] at hz
    subst hz; show (Lib.itoa x).length ≤ _; omega
  · exact hw3.on ((Below.refl _ _).alloc (Nat.le_refl _) _)
  rintro e w4 ⟨rfl, hb4⟩
  rw [lst_ba, M2.out]
  simp only [mkT, mkE, S]
  have h34 : Below w3.heap.size w3 w4 := ((Below.refl _ _).alloc (Nat.le_refl _) _).trans (hb4.mono (by simp))
  have hw4 := hw3.on h34
  have h04 := below_next h03 h34
  clear hb4 hw3 h34 h03
  have W2 : Hid (whole (64 :: (Lib.itoa t ++ 40 :: (Lib.itoa x ++ [41]))) = some (2, t, [Lib.itoa x])) := mkd_whole M2.out
  have hul : (64 :: (Lib.itoa t ++ 40 :: (Lib.itoa x ++ [41]))).length ≤ 1024 := by simp; omega
  have HU : Hid ((⟨#[64]⟩ : ByteArray) ++ ⟨(Lib.itoa t).toArray⟩ ++ ⟨#[40]⟩ ++ ⟨(Lib.itoa x).toArray⟩ ++ ⟨#[41]⟩ = ⟨(64 :: (Lib.itoa t ++ 40 :: (Lib.itoa x ++ [41]))).toArray⟩) := by
    show _ = _
    have := bytes_add [64] (Lib.itoa t)
    rw [show (⟨#[64]⟩ : ByteArray) = ⟨[64].toArray⟩ from rfl, show (⟨#[40]⟩ : ByteArray) = ⟨[40].toArray⟩ from rfl, show (⟨#[41]⟩ : ByteArray) = ⟨[41].toArray⟩ from rfl, bytes_add, bytes_add, bytes_add, bytes_add]
    simp
  clear M1 M2
  generalize hU : (64 :: (Lib.itoa t ++ 40 :: (Lib.itoa x ++ [41]))) = u at *
  clear hU
  go_wp2_with fail
  refine (cut_any atoi_said itoa_said clone_said ⟨u.toArray⟩ _ (by show u.length ≤ _; omega) hw4).mono ?_
  rintro e w5 ⟨k', z, vv, er, rfl, _, hb5, hgot⟩
  rw [show whole (⟨u.toArray⟩ : ByteArray).data.toList = _ from W2.out] at hgot
  obtain ⟨rfl, rfl, rfl, hown⟩ := hgot
  obtain ⟨g2, c2, rfl, htx, _⟩ := own_txts hown
  have hw5 := hw4.on hb5
  have h05 := below_next h04 hb5
  clear hb5 hw4 h04 hown W2
  have HT2 : Hid (Txts w5 g2 ([Lib.itoa x].map ba)) := htx
  clear htx
  go_wp2_with (go_at_call 15; refine (num_any _ _).mono ?_; rintro e w' ⟨rfl, rfl⟩)
  refine (decimal_any x _ v1 v2).mono ?_
  rintro e w6 ⟨rfl, hb6⟩
  have HT6 : Hid (Txts w6 g2 ([Lib.itoa x].map ba)) := HT2.out.on hb6
  have h06 := below_next h05 hb6
  clear hb6 HT2 h05 hw5
  go_wp2_with (go_at_call 15; refine (num_any _ _).mono ?_; rintro e w' ⟨rfl, rfl⟩)
  refine (same_at _ _ 1 1 ([Lib.itoa x].map ba) ([Lib.itoa x].map ba) _ _ _ rfl rfl ?_ ?_ (by simp) (by simp)).mono ?_
  · exact HT6.out.on ((Below.refl _ _).alloc (Nat.le_refl _) _)
  · exact new_txts w6 ([Lib.itoa x].map ba)
  rintro e w7 ⟨rfl, hb7⟩
  have h67 : Below w6.heap.size w6 w7 := ((Below.refl _ _).alloc (Nat.le_refl _) _).trans (hb7.mono (by simp))
  have h07 := below_next h06 h67
  clear hb7 h06 h67 HT6
  rw [show sameB ([Lib.itoa x].map ba) ([Lib.itoa x].map ba) = true from decide_eq_true rfl]
  go_wp2_with fail
  refine (decimal_any _ _ (by omega) (by omega)).mono ?_
  rintro e w8 ⟨rfl, hb8⟩
  have h08 := below_next h07 hb8
  clear hb8 h07
  go_wp2_with fail
  rw [HU.out]
  go_ret
  exact ⟨by simp, h08⟩

set_option maxRecDepth 100000 in
/-- What the walk gives, for every argument and every world that holds the list. -/
theorem contract (H : Type) (enc : TypeId × Value → H) (W : World) (base : Nat) (args : Array Value) (ds gs : List (DataW H)) (before : List MemPlace)
    (hval : ∀ (j : Nat) t v, Tryd.f7.params[j]? = some t → args[j]? = some v → Value.okWide Tryd.prog W .any base t v)
    (hW : DataW.Whole enc Tryd.prog Tryd.f7.params.toList Rows.termNumbersSpec.vars false W args.toList ds gs before) (hL : laidMetH Tryd.prog Rows.termNumbersRow.laid W) :
    Calls Tryd.prog 7 args W fun e W' => ∃ v, e = .returned v ∧ Rows.termNumbersSpec.post enc Tryd.prog Tryd.f7 false true false false W args v W' := by
  have hW' := hW
  obtain ⟨p, q, hA0, hV, rfl, hfz, hnd⟩ := hW
  have hA : DataW.TrodAll enc Tryd.prog W 0 (fun _ => true) true Tryd.f7.params.toList args.toList ds p := hA0
  rw [Tryd.params7] at hA hval
  obtain ⟨v0, vs0, d0, ds0, p0, q0, hargs, rfl, rfl, h0, r0⟩ := trodAll_cons hA
  obtain ⟨v1, vs1, d1, ds1, p1, q1, rfl, rfl, rfl, h1, r1⟩ := trodAll_cons r0
  obtain ⟨rfl, rfl, rfl⟩ := trodAll_nil r1
  obtain rfl : args = #[v0, v1] := by cases args; simp_all
  obtain ⟨rfl, rfl⟩ := trodVars_none hV
  obtain ⟨a0, rfl, rfl, rfl, w0⟩ := open_int Tryd.underlying3 (hval 0 3 v0 rfl rfl) h0
  obtain ⟨a1, rfl, rfl, rfl, w1⟩ := open_int Tryd.underlying3 (hval 1 3 v1 rfl rfl) h1
  clear hA0
  simp only [List.append_nil] at hW'
  refine (walk a0 a1 W (lw_of hL)).mono fun e W' ⟨he, hg⟩ => ?_
  subst he
  exact ⟨_, rfl, _, _, _, [], [], [], hW', trodAll_cons_mk (shut_bool Tryd.underlying4 _) trodAll_mk0, trodAll_cons_mk (shut_int Tryd.underlying3 w0) (trodAll_cons_mk (shut_int Tryd.underlying3 w1) trodAll_mk0), rfl, hg.frame _, fun h => by cases h⟩

theorem reads (os : Os) {H : Type} (enc : TypeId × Value → H) : ∃ places, DataW.whole enc Tryd.prog ((World.doorLaid Tryd.prog 62 os).forCall (fun _ _ => 0) ⟨#[], #[.int .i64 0, .int .i64 0], []⟩).memory Tryd.f7.params.toList Rows.termNumbersSpec.vars false #[Value.int .i64 0, .int .i64 0].toList 8 = some ([.lit (.int .i64 0), .lit (.int .i64 0)], [], places) :=
  ⟨[], by kernel_rfl⟩

set_option maxRecDepth 100000 in
theorem lifted (os : Os) (started : os.Started) (H : Type) (enc : TypeId × Value → H) (F : Stop.Interp) :
    ReturnsInHanded {} Tryd.checked os 7 .any ((OpenSpec.ofChange Rows.termNumbersSpec).preRow enc Tryd.prog Tryd.f7 Rows.termNumbersRow.domain false Rows.termNumbersRow.laid) (((OpenSpec.ofChange Rows.termNumbersSpec).at F).post enc Tryd.prog Tryd.f7 false true false false) := by
  obtain ⟨places, hx⟩ := reads os enc
  refine returnsInHanded_of_row (C := Tryd.checked) (s := OpenSpec.ofChange Rows.termNumbersSpec) own started (by kernel_rfl) Tryd.func7
    (witness_row_atRef (enc := enc) (C := Tryd.checked) false (World.doorLaid Tryd.prog 62 os) #[.int .i64 0, .int .i64 0] rfl (by kernel_rfl) (by kernel_rfl) (by kernel_rfl)
      (OpenSpec.preRow_of_cond 8 hx (by kernel_rfl) (fun k hk => by cases hk) (by kernel_rfl) (door_met os _))) ?_
  intro W base args ds gs before hval hW _ _ _ hL _ _
  exact contract H enc W base args ds gs before hval hW hL

theorem said : Rows.TermNumbersSaid :=
  OpenClaim.holds_of_cond 7 Tryd.f7 rfl rfl rfl rfl rfl rfl rfl ⟨rfl, rfl, rfl, rfl, rfl⟩ rfl rfl rfl rfl rfl (by kernel_rfl) Tryd.func7 (by kernel_rfl)
    (of_decide_eq_true (by kernel_rfl)) (by unfold Func.isWrapper; first | (rw [if_pos (by decide +kernel)]; kernel_rfl) | (rw [if_neg (by decide +kernel)]; exact ⟨rfl, rfl⟩))
    (fun os started H enc _ F => by rw [OpenClaim.pre_eq_preRow]; exact lifted os started H enc F)

theorem plain (f : FuncId) (fn : Func) (hf : Tryd.pinned.checked.prog.funcNamed "sleuth/sleuthlaw2.TermNumbers" = some f) (hfn : Tryd.pinned.checked.prog.funcs[f]? = some fn) :
    true = Tryd.pinned.checked.prog.looks [] ∧ ∀ (j : Nat) t, fn.params[j]? = some t → Tryd.pinned.checked.prog.wantsStandIn t = false := by
  obtain rfl : f = 7 := Option.some.inj ((show Tryd.prog.funcNamed "sleuth/sleuthlaw2.TermNumbers" = some 7 by kernel_rfl).symm.trans hf) |>.symm
  obtain rfl : fn = Tryd.f7 := (Option.some.inj (Tryd.func7.symm.trans hfn)).symm
  refine ⟨by kernel_rfl, fun j t ht => ?_⟩
  rw [Tryd.params7] at ht
  have hm : t ∈ [3, 3] := by simpa using Array.mem_of_getElem? ht
  have hall : ([3, 3].all fun u => !Tryd.prog.wantsStandIn u) = true := by kernel_rfl
  exact (show Tryd.prog.wantsStandIn t = false by simpa using List.all_eq_true.1 hall t hm)

/-- The given statement. -/
theorem card : Rows.TermNumbersCardSaid :=
  Claim7.holds_tied_plain_at .later [] _ _ _ _ said (fun _ h => by cases h) (by kernel_rfl) (fun _ h => by cases h) termNumbers_row_tie rfl ⟨rfl, rfl⟩ (by kernel_rfl) rfl plain (by kernel_rfl)
end Go.Proofs.YtcpddpflfncbmaaDoor.termNumbers
namespace Go.Proofs.YtcpddpflfncbmaaDoor
theorem termNumbers_holds : Rows.TermNumbersCardSaid := termNumbers.card
end Go.Proofs.YtcpddpflfncbmaaDoor
