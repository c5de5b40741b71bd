/- sleuthlaw4.LexForms returns true at every input: texts with a byte that may not be and texts that are too long are refused, and the longest word is told; the inputs are as they were. The condition is the card's own: the two listed tables of unicode/utf8 read as their texts lay them. -/
import Derived.Test.YtmbjonfiphnlaaaDoorLaid
import Derived.Laws.OwnMore
import Derived.Laws.IdiomStrings
import Derived.Deep.OwnRows
import Derived.SizedLaws
import Derived.ChangeMaps5
namespace Go.Proofs.YtmbjonfiphnlaaaDoor.lexForms
open Go.ChangeShapes Go.WideShapes Go.ChangeAt Go.RowKit Go.ChangeMaps
set_option linter.unusedVariables false

theorem and_7 (x : Int) : ∃ m : Nat, bits .and .i64 x 7 = (m : Int) ∧ m < 8 := by
  refine ⟨(x % 8).toNat, ?_, by omega⟩
  have hb : (BitVec.ofInt 64 7).toNat = 7 := by decide
  have h : bits .and .i64 x 7 = IntKind.i64.wrap (((BitVec.ofInt 64 x &&& BitVec.ofInt 64 7).toNat : Nat) : Int) := rfl
  rw [h, BitVec.toNat_and, hb, BitVec.toNat_ofInt, show (7 : Nat) = 2 ^ 3 - 1 from rfl, Nat.and_two_pow_sub_one_eq_mod, IntKind.wrap_i64]
  simp only [show ((2 : Nat) ^ 64) = 18446744073709551616 from rfl, show ((2 : Nat) ^ 3) = 8 from rfl]
  omega
theorem and_1023 (x : Int) : ∃ m : Nat, bits .and .i64 x 1023 = (m : Int) ∧ m ≤ 1023 := by
  refine ⟨(x % 1024).toNat, ?_, by omega⟩
  have hb : (BitVec.ofInt 64 1023).toNat = 1023 := by decide
  have h : bits .and .i64 x 1023 = IntKind.i64.wrap (((BitVec.ofInt 64 x &&& BitVec.ofInt 64 1023).toNat : Nat) : Int) := rfl
  rw [h, BitVec.toNat_and, hb, BitVec.toNat_ofInt, show (1023 : Nat) = 2 ^ 10 - 1 from rfl, Nat.and_two_pow_sub_one_eq_mod, IntKind.wrap_i64]
  simp only [show ((2 : Nat) ^ 64) = 18446744073709551616 from rfl, show ((2 : Nat) ^ 10) = 1024 from rfl]
  omega
def forms : List (List UInt8) := [[9], [13], [0], [127], [255], [31], [195, 169], [11]]
theorem forms_bad : (forms.all fun l => !good (97 :: l) && decide (l.length ≤ 2)) = true := by decide +kernel
theorem forms_at (m : Nat) (h : m < 8) : ∃ s : ByteArray, ([.string ⟨#[9]⟩, .string ⟨#[13]⟩, .string ⟨#[0]⟩, .string ⟨#[127]⟩, .string ⟨#[255]⟩, .string ⟨#[31]⟩, .string ⟨#[195, 169]⟩, .string ⟨#[11]⟩] : List Value)[m]? = some (.string s) ∧
    good (97 :: s.data.toList) = false ∧ s.size ≤ 2 := by
  have hl : forms.length = 8 := rfl
  obtain ⟨l, hf⟩ : ∃ l, forms[m]? = some l := ⟨_, List.getElem?_eq_getElem (by omega)⟩
  have hm := List.all_eq_true.1 forms_bad _ (List.mem_of_getElem? hf)
  simp only [Bool.and_eq_true, decide_eq_true_eq, Bool.not_eq_true'] at hm
  refine ⟨ba l, ?_, hm.1, by rw [ba_size]; exact hm.2⟩
  show (forms.map fun l => Value.string (ba l))[m]? = _
  rw [List.getElem?_map, hf]; rfl
theorem q_facts (n : Nat) : (List.replicate n (113 : UInt8)).all okB = true := by
  rw [List.all_eq_true]
  intro b hb
  have := List.eq_of_mem_replicate hb
  subst this; decide
theorem q_good : good (List.replicate 2048 113) = true := by
  unfold good
  rw [q_facts, List.length_replicate]; rfl
theorem q_wd : wd false [] (List.replicate 2048 113) = [List.replicate 2048 113] := by
  have hp : ∀ b ∈ List.replicate 2048 (113 : UInt8), plB b = true := fun b hb => by
    have := List.eq_of_mem_replicate hb
    subst this; decide
  have h := wd_more [] (List.replicate 2048 113) [] hp
  rw [List.append_nil, List.nil_append, wd_nil, fl_ne (fun e => by have := congrArg List.length e; rw [List.length_replicate] at this; cases this)] at h
  exact h
theorem q_long (n : Nat) (h : 2048 < n) : good (List.replicate n 113) = false := by
  unfold good
  rw [List.length_replicate]
  have : decide (n ≤ 2048) = false := by simp; omega
  rw [this]; rfl
theorem info5 : (Tryd.prog.info? 5).map (fun i => (i.zero, i.size, i.bytes)) = some (some (.int .u8 0), 1, 1) := by kernel_rfl
theorem back {W : World} {g n c : Nat} (h : ∀ k, k < n → W.cell? ⟨g, k, none⟩ = some (.int .u8 113)) : (convert 33 9 (.slice (some ⟨g, 0, none⟩) n c)).run Tryd.prog W = .ok (.string (ba (List.replicate n 113))) W := by
  have e := run_convert_bytes_back (P := Tryd.prog) W 33 9 5 ⟨g, 0, none⟩ c (List.replicate n 113) Tryd.underlying33 Tryd.underlying5 Tryd.underlying9 (fun j hj => by
    rw [Addr.add_lit, Nat.zero_add, h j (by simpa using hj)]
    simp)
  rw [List.length_replicate] at e
  exact e

set_option maxHeartbeats 1600000 in
set_option maxRecDepth 100000 in
theorem walk (a0 a1 : Int) (w : World) :
    Calls Tryd.prog 4 #[.int .i64 a0, .int .i64 a1] w fun e w' => e = .returned (.bool true) ∧ Below w.heap.size w w' := by
  obtain ⟨m, hm, hlt⟩ := and_7 a0
  obtain ⟨x, hx, hlx⟩ := and_1023 a1
  obtain ⟨t, hs0, hgt, htz⟩ := forms_at m hlt
  have hs : ∀ h : m < 8, ([.string ⟨#[9]⟩, .string ⟨#[13]⟩, .string ⟨#[0]⟩, .string ⟨#[127]⟩, .string ⟨#[255]⟩, .string ⟨#[31]⟩, .string ⟨#[195, 169]⟩, .string ⟨#[11]⟩] : List Value)[m]'h = .string t := fun h => by
    rw [List.getElem?_eq_getElem h] at hs0
    exact Option.some.inj hs0
  clear hs0
  obtain ⟨u, hu⟩ : ∃ u, (⟨#[97]⟩ : ByteArray) ++ t = u := ⟨_, rfl⟩
  have HU : Hid (good u.data.toList = false) := by
    show good u.data.toList = false
    rw [← hu, ByteArray.data_append]
    have e : (#[97] ++ t.data : Array UInt8).toList = 97 :: t.data.toList := by simp
    rw [e]; exact hgt
  clear hgt
  obtain ⟨n, hn, hn1, hn2⟩ : ∃ n : Nat, (n : Int) = 2048 + (1 + (x : Int)) ∧ 2048 < n ∧ n ≤ 3072 := ⟨2048 + (1 + x), by omega, by omega, by omega⟩
  have hmk := run_make_row' (P := Tryd.prog) 33 5 (.int .u8 0) 1 Tryd.underlying33 info5 rfl .i64 .i64 n (by omega) (by omega)
  rw [hn] at hmk
  clear hn
  go_enter Tryd.func4, Tryd.ntmps4
  go_wp2_with fail
  refine (awake_any _).mono ?_
  rintro e w1 ⟨rfl, hb1⟩
  go_wp2_with fail
  clear hs hm hx
  refine (words_bad u _ HU.out).mono ?_
  rintro e w2 ⟨rfl, hb2⟩
  have h02 : Below w.heap.size w w2 := (hb1.alloc hb1.size _).trans (hb2.mono (by have := hb1.size; simp; omega))
  clear hb1 hb2
  go_wp2_with fail
  clear hmk
  have hz2 := h02.size
  have hn1' : (2048 : Int) < (n : Int) := by omega
  have hn2' : (2048 : Int) ≤ (n : Int) := by omega
  have hrow : (w2.alloc (.cells (madeCells #[.int .u8 0] n) 5)).ownsRow w.heap.size 5 1 (.slice (some ⟨w2.heap.size, 0, none⟩) n n) n (madeCells #[.int .u8 0] n).toList :=
    World.ownsRow_lit w2 _ n hz2 (by unfold maxLen; omega) (by rw [size_madeCells, Nat.mul_one])
  have hb3 : Below w.heap.size w (w2.alloc (.cells (madeCells #[.int .u8 0] n) 5)) := h02.alloc hz2 _
  clear h02
  go_loopw [9] (fun i wr => ∃ (j : Nat) (xs : List Value), j ≤ n ∧ i = .int .i64 (j : Int) ∧ wr.ownsRow w.heap.size 5 1 (.slice (some ⟨w2.heap.size, 0, none⟩) n n) n xs ∧ Hid (∀ k, k < j → xs[k]? = some (.int .u8 113)) ∧ Below w.heap.size w wr)
    (fun i _ => n - (intOf i).toNat)
  case atStart => exact ⟨0, _, Nat.zero_le _, rfl, hrow, (fun k hk => absurd hk (Nat.not_lt_zero _)), hb3⟩
  case round =>
    obtain ⟨j, xs, hj, rfl, ho, HX, hbr⟩ := hrel
    clear hrow hb3
    by_cases hjn : j < n
    · have hjn' : (j : Int) < (n : Int) := by omega
      have hxl : xs.length = n := by have := ho.1; omega
      obtain ⟨y, hy⟩ : ∃ y, xs[j]? = some y := ⟨_, List.getElem?_eq_getElem (by omega)⟩
      have hc : wr.cell? ⟨w2.heap.size, j, none⟩ = some y := by rw [ho.cellAt j (by omega), hy]
      have hf : wr.frozen? ⟨w2.heap.size, j, none⟩ = false := ho.frozenAt j
      have HO : Hid _ := (ho.stored j (.int .u8 113)).1
      have HB : Hid (Below w.heap.size w (wr.setCell ⟨w2.heap.size, j, none⟩ (.int .u8 113))) := hbr.setCell hz2 _
      have HN : Hid (∀ k, k < j + 1 → (xs.set j (.int .u8 113))[k]? = some (.int .u8 113)) := fun k hk => by
        rw [List.getElem?_set]
        by_cases e : j = k
        · rw [if_pos e, if_pos (by omega)]
        · rw [if_neg e]; exact HX.out k (by omega)
      clear ho hbr HX hxl hy
      go_wp2_with fail
      go_roundw
      case rel => exact ⟨j + 1, _, by omega, by go_num, HO.out, HN, HB.out⟩
      case measure => simp [intOf]; omega
    · have hjn' : ¬ (j : Int) < (n : Int) := by omega
      have hall : ∀ k, k < n → wr.cell? ⟨w2.heap.size, k, none⟩ = some (.int .u8 113) := fun k hk => by
        rw [ho.cellAt k (by omega)]; exact HX.out k (by omega)
      have hgl : w2.heap.size < wr.heap.size := by
        have := (own_len ho).choose_spec.choose_spec.2 _ rfl
        exact this.2
      have hcv := back (c := n) hall
      have HB3 : Hid (Below w.heap.size w wr) := hbr
      clear ho HX hbr
      go_wp2_with fail
      refine (words_bad (ba (List.replicate n 113)) wr (q_long n hn1)).mono ?_
      rintro e w4 ⟨rfl, hb4⟩
      have hall4 : ∀ k, k < 2048 → w4.cell? ⟨w2.heap.size, k, none⟩ = some (.int .u8 113) := fun k hk => by
        rw [hb4.cell (p := ⟨w2.heap.size, k, none⟩) hgl]; exact hall k (by omega)
      have hcv4 := back (c := n) hall4
      have hqg := q_good
      have hqw := q_wd
      have hql : (ba (List.replicate 2048 113)).size = 2048 := by rw [ba_size, List.length_replicate]
      have h04 : Below w.heap.size w w4 := below_next HB3.out hb4
      clear hcv hall hall4 hb4 HB3
      generalize List.replicate 2048 (113 : UInt8) = q at hcv4 hqg hqw hql
      have hwg := words_good (ba q) w4 hqg
      rw [ba_list, hqw] at hwg
      clear hqg hqw
      go_wp2_with fail
      refine hwg.mono ?_
      rintro e w5 ⟨g5, c5, rfl, ho5, hb5⟩
      have h05 := below_next h04 hb5
      obtain ⟨bk, o, rfl, hc5⟩ := txts_at (own_ba ho5).2 (show 0 < ([q].map ba).length by simp)
      have hc6 : w5.cell? ⟨bk, o, none⟩ = some (.string (ba q)) := hc5
      clear h04 hb5 hwg hcv4 ho5 hc5
      go_wp2_with (go_at_call 11; refine (num_any _ _).mono ?_; rintro e w' ⟨rfl, rfl⟩)
      go_ret
      exact ⟨rfl, h05⟩

set_option maxRecDepth 100000 in
/-- What the walk gives, for every argument and every world that holds the list. -/
theorem contract (H : Type) (enc : TypeId × Value → H) (W : World) (base : Nat) (args : Array Value) (ds gs : List (DataW H)) (before : List MemPlace)
    (hval : ∀ (j : Nat) t v, Tryd.f4.params[j]? = some t → args[j]? = some v → Value.okWide Tryd.prog W .any base t v)
    (hW : DataW.Whole enc Tryd.prog Tryd.f4.params.toList Rows.lexFormsSpec.vars false W args.toList ds gs before)
    (hL : laidMetH Tryd.prog Rows.lexFormsRow.laid W) :
    Calls Tryd.prog 4 args W fun e W' => ∃ v, e = .returned v ∧ Rows.lexFormsSpec.post enc Tryd.prog Tryd.f4 false true false false W args v W' := by
  have hW' := hW
  obtain ⟨p, q, hA0, hV, rfl, hfz, hnd⟩ := hW
  have hA : DataW.TrodAll enc Tryd.prog W 0 (fun _ => true) true Tryd.f4.params.toList args.toList ds p := hA0
  rw [Tryd.params4] at hA hval
  obtain ⟨v0, vs0, d0, ds0, p0, q0, hargs, rfl, rfl, h0, r0⟩ := trodAll_cons hA
  obtain ⟨v1, vs1, d1, ds1, p1, q1, rfl, rfl, rfl, h1, r1⟩ := trodAll_cons r0
  obtain ⟨rfl, rfl, rfl⟩ := trodAll_nil r1
  obtain rfl : args = #[v0, v1] := by cases args; simp_all
  obtain ⟨rfl, rfl⟩ := trodVars_none hV
  obtain ⟨a0, rfl, rfl, rfl, w0⟩ := open_int Tryd.underlying3 (hval 0 3 v0 rfl rfl) h0
  obtain ⟨a1, rfl, rfl, rfl, w1⟩ := open_int Tryd.underlying3 (hval 1 3 v1 rfl rfl) h1
  clear hA0
  simp only [List.append_nil] at hW'
  refine (walk a0 a1 W ).mono fun e W' ⟨he, hg⟩ => ?_
  subst he
  exact ⟨_, rfl, _, _, _, [], [], [], hW', trodAll_cons_mk (shut_bool Tryd.underlying4 _) trodAll_mk0, trodAll_cons_mk (shut_int Tryd.underlying3 w0) (trodAll_cons_mk (shut_int Tryd.underlying3 w1) trodAll_mk0), rfl, hg.frame _, fun h => by cases h⟩

theorem reads (os : Os) {H : Type} (enc : TypeId × Value → H) : ∃ places, DataW.whole enc Tryd.prog ((World.laidAll Tryd.prog os Rows.lexFormsRow.laid).forCall (fun _ _ => 0) ⟨#[], #[.int .i64 0, .int .i64 0], []⟩).memory Tryd.f4.params.toList Rows.lexFormsSpec.vars false #[Value.int .i64 0, .int .i64 0].toList 8 = some ([.lit (.int .i64 0), .lit (.int .i64 0)], [], places) :=
  ⟨[], by kernel_rfl⟩

set_option maxRecDepth 100000 in
theorem lifted (os : Os) (started : os.Started) (H : Type) (enc : TypeId × Value → H) (F : Stop.Interp) :
    ReturnsInHanded {} Tryd.checked os 4 .any ((OpenSpec.ofChange Rows.lexFormsSpec).preRow enc Tryd.prog Tryd.f4 Rows.lexFormsRow.domain false Rows.lexFormsRow.laid) (((OpenSpec.ofChange Rows.lexFormsSpec).at F).post enc Tryd.prog Tryd.f4 false true false false) := by
  obtain ⟨places, hx⟩ := reads os enc
  refine returnsInHanded_of_row (C := Tryd.checked) (s := OpenSpec.ofChange Rows.lexFormsSpec) own started (by kernel_rfl) Tryd.func4
    (witness_row_atRef (enc := enc) (C := Tryd.checked) false (World.laidAll Tryd.prog os Rows.lexFormsRow.laid) #[.int .i64 0, .int .i64 0] (World.laidAll_os _ _ _) (by kernel_rfl) (by kernel_rfl) (by kernel_rfl)
      (OpenSpec.preRow_of_cond 8 hx (by kernel_rfl) (fun k hk => by cases hk) (by kernel_rfl) (door_met os _))) ?_
  intro W base args ds gs before hval hW _ _ _ hL _ _
  exact contract H enc W base args ds gs before hval hW hL

theorem said : Rows.LexFormsSaid :=
  OpenClaim.holds_of_cond 4 Tryd.f4 rfl rfl rfl rfl rfl rfl rfl ⟨rfl, rfl, rfl, rfl, rfl⟩ rfl rfl rfl rfl rfl (by kernel_rfl) Tryd.func4 (by kernel_rfl)
    (of_decide_eq_true (by kernel_rfl)) (by unfold Func.isWrapper; first | (rw [if_pos (by decide +kernel)]; kernel_rfl) | (rw [if_neg (by decide +kernel)]; exact ⟨rfl, rfl⟩))
    (fun os started H enc _ F => by rw [OpenClaim.pre_eq_preRow]; exact lifted os started H enc F)

theorem plain (f : FuncId) (fn : Func) (hf : Tryd.pinned.checked.prog.funcNamed "sleuth/sleuthlaw4.LexForms" = some f) (hfn : Tryd.pinned.checked.prog.funcs[f]? = some fn) :
    false = Tryd.pinned.checked.prog.looks [] ∧ ∀ (j : Nat) t, fn.params[j]? = some t → Tryd.pinned.checked.prog.wantsStandIn t = false := by
  obtain rfl : f = 4 := Option.some.inj ((show Tryd.prog.funcNamed "sleuth/sleuthlaw4.LexForms" = some 4 by kernel_rfl).symm.trans hf) |>.symm
  obtain rfl : fn = Tryd.f4 := (Option.some.inj (Tryd.func4.symm.trans hfn)).symm
  refine ⟨by kernel_rfl, fun j t ht => ?_⟩
  rw [Tryd.params4] at ht
  have hm : t ∈ [3, 3] := by simpa using Array.mem_of_getElem? ht
  have hall : ([3, 3].all fun u => !Tryd.prog.wantsStandIn u) = true := by kernel_rfl
  exact (show Tryd.prog.wantsStandIn t = false by simpa using List.all_eq_true.1 hall t hm)

/-- The given statement. -/
theorem card : Rows.LexFormsCardSaid :=
  Claim7.holds_tied_plain_at .later [] _ _ _ _ said (fun _ h => by cases h) (by kernel_rfl) (fun _ h => by cases h) lexForms_row_tie rfl ⟨rfl, rfl⟩ (by kernel_rfl) rfl plain (by kernel_rfl)
end Go.Proofs.YtmbjonfiphnlaaaDoor.lexForms
namespace Go.Proofs.YtmbjonfiphnlaaaDoor
theorem lexForms_holds : Rows.LexFormsCardSaid := lexForms.card
end Go.Proofs.YtmbjonfiphnlaaaDoor
