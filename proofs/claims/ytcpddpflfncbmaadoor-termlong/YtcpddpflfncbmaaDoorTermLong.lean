/- Whatever the int more is, the term of 254 brackets in brackets round the text that it picks may be, by May and by the document's own answer, just if it has at most 1024 bytes; the condition is the card's own: the listed variables of the library read as their initialisers lay them. -/
import Derived.Test.YtcpddpflfncbmaaDoorLaid
import Derived.Test.YtcpddpflfncbmaaDoorRCut
import Derived.Test.YtcpddpflfncbmaaDoorMakesA
namespace Go.Proofs.YtcpddpflfncbmaaDoor.termLong
open Go.ChangeShapes Go.WideShapes Go.ChangeAt Go.RowKit
set_option linter.unusedVariables false

/-- A text so often. -/
def rep : Nat → List UInt8 → List UInt8
  | 0, _ => []
  | n + 1, l => l ++ rep n l
theorem rep_len : ∀ (n : Nat) (l : List UInt8), (rep n l).length = n * l.length
  | 0, l => by simp [rep]
  | n + 1, l => by simp only [rep, List.length_append, rep_len n l]; rw [Nat.add_mul]; omega
theorem rep_snoc : ∀ (n : Nat) (l : List UInt8), rep (n + 1) l = rep n l ++ l
  | 0, l => by simp [rep]
  | n + 1, l => by
    show l ++ rep (n + 1) l = (l ++ rep n l) ++ l
    rw [rep_snoc n l, List.append_assoc]

theorem nest_one {f : Nat} {m : List UInt8} (h : isW (T f) m) : isW (T (f + 1)) ([64, 49, 40] ++ m ++ [41]) := by
  have hp := Tp_made (T_loc f) 3 [m] [] (by simp) (by simp) (fun s hs => by rw [List.mem_singleton] at hs; subst hs; exact h)
  have en : numPart (49 :: 40 :: (m ++ [41])) = [49] := numPart_app [49] (40 :: (m ++ [41])) (by decide) (fun c hc => by simp at hc; subst hc; decide)
  refine ⟨(2, 1, [m], 1 + 1 + 1 + (m.length + 1)), ?_, by simp; omega⟩
  have e : [64, 49, 40] ++ m ++ [41] = 64 :: 49 :: 40 :: (m ++ [41]) := by simp
  rw [e, T_con rfl]
  show conT (T f) (49 :: 40 :: (m ++ [41])) = _
  have := conT_full (rd := T f) (r := 49 :: 40 :: (m ++ [41])) (v := 1) (ks := [m]) (m := m.length + 1) (by rw [en]; decide) (by decide) (by rw [en]; rfl) (by rw [en]; simpa [jn] using hp)
  rw [this, en]; rfl
theorem nest_many {m : List UInt8} : ∀ (n f : Nat), isW (T f) m → isW (T (f + n)) (rep n [64, 49, 40] ++ m ++ rep n [41])
  | 0, f, h => by simpa [rep] using h
  | n + 1, f, h => by
    have ih := nest_one (nest_many n f h)
    have e : rep (n + 1) [64, 49, 40] ++ m ++ rep (n + 1) [41] = [64, 49, 40] ++ (rep n [64, 49, 40] ++ m ++ rep n [41]) ++ [41] := by
      rw [rep_snoc n [41]]
      simp only [rep, List.append_assoc]
    rw [e]; exact ih

/-- What is put between. -/
def mids : List (List UInt8) := [[49], [49, 50], [49, 50, 51], [49, 50, 51, 52], [49, 50, 51, 52, 53], [45, 49, 50, 51, 52, 53], [64, 49, 40, 49, 50, 51, 41], [64, 49, 40, 49, 50, 51, 52, 41], [64, 49, 40, 49, 50, 51, 52, 53, 41], [64, 49, 40, 49, 32, 50, 32, 51, 41], [64, 49, 40, 45, 49, 50, 51, 52, 53, 41], [64, 49, 40, 49, 32, 50, 41], [64, 57, 57, 40, 49, 41], [64, 57, 57, 40, 49, 50, 41], [64, 57, 57, 40, 49, 50, 51, 41], [64, 57, 57, 40, 49, 50, 51, 52, 41]]
def isWB (m : List UInt8) : Bool := match T 771 m with
  | none => false
  | some x => decide (x.2.2.2 = m.length)
theorem mids_w : mids.all (fun m => isWB m && decide (m.length ≤ 20)) = true := by decide +kernel
theorem isWB_w {m : List UInt8} (h : isWB m = true) : isW (T 771) m := by
  unfold isWB at h
  cases hT : T 771 m with
  | none => rw [hT] at h; cases h
  | some x => rw [hT] at h; exact ⟨x, hT, by simpa using h⟩

/-- The whole text. -/
def long (m : List UInt8) : List UInt8 := rep 254 [64, 49, 40] ++ m ++ rep 254 [41]
theorem long_len (m : List UInt8) : (long m).length = 1016 + m.length := by
  unfold long; rw [List.length_append, List.length_append, rep_len, rep_len]; simp; omega
theorem long_whole {m : List UInt8} (h : isWB m = true) : (whole (long m)).isSome = decide ((long m).length ≤ 1024) := by
  by_cases hl : (long m).length ≤ 1024
  · obtain ⟨x, hx, hn⟩ := nest_many 254 771 (isWB_w h)
    obtain ⟨a, b, c, n⟩ := x
    simp only at hn
    rw [show whole (long m) = some (a, b, c) from whole_mk hl (by rw [hn] at hx; exact hx), decide_eq_true hl]; rfl
  · rw [whole_big (by omega), decide_eq_false hl]; rfl

theorem mids_at (k : Nat) (h : k < 16) : ∃ m : List UInt8, ((mids.map S).toArray)[k]? = some (S m) ∧ isWB m = true ∧ m.length ≤ 20 := by
  have hl : mids.length = 16 := rfl
  obtain ⟨l, hf⟩ : ∃ l, mids[k]? = some l := ⟨_, List.getElem?_eq_getElem (by omega)⟩
  have hm := List.all_eq_true.1 mids_w _ (List.mem_of_getElem? hf)
  simp only [Bool.and_eq_true, decide_eq_true_eq] at hm
  refine ⟨l, ?_, hm.1, hm.2⟩
  simp [hf]

set_option maxHeartbeats 1600000 in
set_option maxRecDepth 100000 in
/- The walk: the law's Go text returns true. -/
theorem walk (a0 : Int) (w : World) (hw : Lw w) :
    Calls Tryd.prog 6 #[.int .i64 a0] w fun e w' => e = .returned (.bool true) ∧ Below w.heap.size w w' := by
  obtain ⟨k, hk, hlt⟩ := termMakes.and_15 a0
  obtain ⟨m, hs0, hmw, hml⟩ := mids_at k hlt
  have hs : ∀ h : k < 16, ([.string ⟨#[49]⟩, .string ⟨#[49, 50]⟩, .string ⟨#[49, 50, 51]⟩, .string ⟨#[49, 50, 51, 52]⟩, .string ⟨#[49, 50, 51, 52, 53]⟩, .string ⟨#[45, 49, 50, 51, 52, 53]⟩, .string ⟨#[64, 49, 40, 49, 50, 51, 41]⟩, .string ⟨#[64, 49, 40, 49, 50, 51, 52, 41]⟩, .string ⟨#[64, 49, 40, 49, 50, 51, 52, 53, 41]⟩, .string ⟨#[64, 49, 40, 49, 32, 50, 32, 51, 41]⟩, .string ⟨#[64, 49, 40, 45, 49, 50, 51, 52, 53, 41]⟩, .string ⟨#[64, 49, 40, 49, 32, 50, 41]⟩, .string ⟨#[64, 57, 57, 40, 49, 41]⟩, .string ⟨#[64, 57, 57, 40, 49, 50, 41]⟩, .string ⟨#[64, 57, 57, 40, 49, 50, 51, 41]⟩, .string ⟨#[64, 57, 57, 40, 49, 50, 51, 52, 41]⟩] : List Value)[k]'h = .string ⟨m.toArray⟩ := fun h => by
    have e : ([.string ⟨#[49]⟩, .string ⟨#[49, 50]⟩, .string ⟨#[49, 50, 51]⟩, .string ⟨#[49, 50, 51, 52]⟩, .string ⟨#[49, 50, 51, 52, 53]⟩, .string ⟨#[45, 49, 50, 51, 52, 53]⟩, .string ⟨#[64, 49, 40, 49, 50, 51, 41]⟩, .string ⟨#[64, 49, 40, 49, 50, 51, 52, 41]⟩, .string ⟨#[64, 49, 40, 49, 50, 51, 52, 53, 41]⟩, .string ⟨#[64, 49, 40, 49, 32, 50, 32, 51, 41]⟩, .string ⟨#[64, 49, 40, 45, 49, 50, 51, 52, 53, 41]⟩, .string ⟨#[64, 49, 40, 49, 32, 50, 41]⟩, .string ⟨#[64, 57, 57, 40, 49, 41]⟩, .string ⟨#[64, 57, 57, 40, 49, 50, 41]⟩, .string ⟨#[64, 57, 57, 40, 49, 50, 51, 41]⟩, .string ⟨#[64, 57, 57, 40, 49, 50, 51, 52, 41]⟩] : List Value)[k]? = some (.string ⟨m.toArray⟩) := by rw [← hs0]; exact (List.getElem?_toArray).symm
    rw [List.getElem?_eq_getElem h] at e
    exact Option.some.inj e
  clear hs0
  have HW : Hid ((whole (long m)).isSome = decide ((long m).length ≤ 1024)) := long_whole hmw
  clear hmw
  go_enter Tryd.func6, Tryd.ntmps6
  go_wp2_with fail
  refine (awake_any _ hw).mono ?_
  rintro e w1 ⟨rfl, hb1⟩
  have hw1 := hw.on hb1
  go_wp2_with fail
  go_loop [3, 4, 5] (fun a b i => ∃ j : Nat, j ≤ 254 ∧ i = .int .i64 (j : Int) ∧ a = .string ⟨(rep j [64, 49, 40]).toArray⟩ ∧ b = .string ⟨(rep j [41]).toArray⟩) (fun _ _ i => 254 - (intOf i).toNat)
  case atStart => exact ⟨0, Nat.zero_le _, rfl, rfl, rfl⟩
  case round =>
    obtain ⟨j, hj, rfl, rfl, rfl⟩ := hrel
    have hl1 := rep_len j [64, 49, 40]
    have hl2 := rep_len j [41]
    simp only [List.length_cons, List.length_nil] at hl1 hl2
    by_cases hj4 : j < 254
    · have e1 : (⟨(rep j [64, 49, 40]).toArray⟩ : ByteArray) ++ ⟨#[64, 49, 40]⟩ = ⟨(rep (j + 1) [64, 49, 40]).toArray⟩ := by rw [rep_snoc]; exact bytes_add _ _
      have e2 : (⟨(rep j [41]).toArray⟩ : ByteArray) ++ ⟨#[41]⟩ = ⟨(rep (j + 1) [41]).toArray⟩ := by rw [rep_snoc]; exact bytes_add _ _
      have E1 : Hid _ := e1
      have E2 : Hid _ := e2
      clear e1 e2
      go_wp2_with fail
      go_round
      case rel => exact ⟨j + 1, by omega, by go_num, congrArg Value.string E1.out, congrArg Value.string E2.out⟩
      case measure => simp [intOf]; omega
    · have ej : j = 254 := by omega
      subst ej
      have hT : (⟨(rep 254 [64, 49, 40]).toArray⟩ : ByteArray) ++ ⟨m.toArray⟩ ++ ⟨(rep 254 [41]).toArray⟩ = ⟨(long m).toArray⟩ := by rw [bytes_add, bytes_add]; rfl
      have HTT : Hid _ := hT
      have hll := long_len m
      have HLL : Hid ((long m).length = 1016 + m.length) := hll
      clear hT hll
      go_wp2_with (go_at_call 15; refine (num_any _ _).mono ?_; rintro e w' ⟨rfl, rfl⟩)
      rw [HTT.out]
      have hlb : (long m).length ≤ 1040 := by have := HLL.out; omega
      clear hl1 hl2
      generalize hgl : long m = lm at *
      have hw2 := hw1.on ((Below.refl w1.heap.size w1).alloc (Nat.le_refl _) (Obj.cells #[.string ⟨#[49]⟩, .string ⟨#[49, 50]⟩, .string ⟨#[49, 50, 51]⟩, .string ⟨#[49, 50, 51, 52]⟩, .string ⟨#[49, 50, 51, 52, 53]⟩, .string ⟨#[45, 49, 50, 51, 52, 53]⟩, .string ⟨#[64, 49, 40, 49, 50, 51, 41]⟩, .string ⟨#[64, 49, 40, 49, 50, 51, 52, 41]⟩, .string ⟨#[64, 49, 40, 49, 50, 51, 52, 53, 41]⟩, .string ⟨#[64, 49, 40, 49, 32, 50, 32, 51, 41]⟩, .string ⟨#[64, 49, 40, 45, 49, 50, 51, 52, 53, 41]⟩, .string ⟨#[64, 49, 40, 49, 32, 50, 41]⟩, .string ⟨#[64, 57, 57, 40, 49, 41]⟩, .string ⟨#[64, 57, 57, 40, 49, 50, 41]⟩, .string ⟨#[64, 57, 57, 40, 49, 50, 51, 41]⟩, .string ⟨#[64, 57, 57, 40, 49, 50, 51, 52, 41]⟩] 9))
      have hsz : (⟨lm.toArray⟩ : ByteArray).size ≤ 140737488355328 := by show lm.length ≤ _; omega
      by_cases hL : lm.length ≤ 1024
      · have hL' : (lm.length : Int) ≤ 1024 := by omega
        have hv : (whole lm).isSome = true := by rw [HW.out]; exact decide_eq_true hL
        have HV : Hid _ := hv
        clear hv HW HLL HTT hgl hL
        refine (tmay_any atoi_said itoa_said ⟨lm.toArray⟩ _ hsz hw2).mono ?_
        rintro e w3 ⟨rfl, hb3⟩
        rw [show (whole (⟨lm.toArray⟩ : ByteArray).data.toList).isSome = true from HV.out]
        have h03 : Below w.heap.size w w3 := below_next (hb1.alloc hb1.size _) hb3
        clear hb3 hw2
        go_wp2_with fail
        refine (rmay_any ⟨lm.toArray⟩ _ hsz).mono ?_
        rintro e w4 ⟨rfl, hb4⟩
        rw [show (whole (⟨lm.toArray⟩ : ByteArray).data.toList).isSome = true from HV.out]
        have h04 := below_next h03 hb4
        clear hb4 h03
        go_wp2_with fail
        go_ret
        exact ⟨rfl, h04⟩
      · have hL' : (1024 : Int) < (lm.length : Int) := by omega
        have hv : (whole lm).isSome = false := by rw [HW.out]; exact decide_eq_false hL
        have HV : Hid _ := hv
        clear hv HW HLL HTT hgl hL
        refine (tmay_any atoi_said itoa_said ⟨lm.toArray⟩ _ hsz hw2).mono ?_
        rintro e w3 ⟨rfl, hb3⟩
        rw [show (whole (⟨lm.toArray⟩ : ByteArray).data.toList).isSome = false from HV.out]
        have h03 : Below w.heap.size w w3 := below_next (hb1.alloc hb1.size _) hb3
        clear hb3 hw2
        go_wp2_with fail
        refine (rmay_any ⟨lm.toArray⟩ _ hsz).mono ?_
        rintro e w4 ⟨rfl, hb4⟩
        rw [show (whole (⟨lm.toArray⟩ : ByteArray).data.toList).isSome = false from HV.out]
        have h04 := below_next h03 hb4
        clear hb4 h03
        have hLd : decide ((lm.length : Int) ≤ 1024) = false := decide_eq_false (by omega)
        go_wp2_with fail
        go_ret
        exact ⟨by simp, h04⟩

set_option maxRecDepth 100000 in
/-- What the walk gives, for every argument and every world that holds the list. -/
theorem contract (H : Type) (enc : TypeId × Value → H) (W : World) (base : Nat) (args : Array Value) (ds gs : List (DataW H)) (before : List MemPlace)
    (hval : ∀ (j : Nat) t v, Tryd.f6.params[j]? = some t → args[j]? = some v → Value.okWide Tryd.prog W .any base t v)
    (hW : DataW.Whole enc Tryd.prog Tryd.f6.params.toList Rows.termLongSpec.vars false W args.toList ds gs before) (hL : laidMetH Tryd.prog Rows.termLongRow.laid W) :
    Calls Tryd.prog 6 args W fun e W' => ∃ v, e = .returned v ∧ Rows.termLongSpec.post enc Tryd.prog Tryd.f6 false true false false W args v W' := by
  have hW' := hW
  obtain ⟨p, q, hA0, hV, rfl, hfz, hnd⟩ := hW
  have hA : DataW.TrodAll enc Tryd.prog W 0 (fun _ => true) true Tryd.f6.params.toList args.toList ds p := hA0
  rw [Tryd.params6] at hA hval
  obtain ⟨v0, vs0, d0, ds0, p0, q0, hargs, rfl, rfl, h0, r0⟩ := trodAll_cons hA
  obtain ⟨rfl, rfl, rfl⟩ := trodAll_nil r0
  obtain rfl : args = #[v0] := by cases args; simp_all
  obtain ⟨rfl, rfl⟩ := trodVars_none hV
  obtain ⟨a0, rfl, rfl, rfl, w0⟩ := open_int Tryd.underlying3 (hval 0 3 v0 rfl rfl) h0
  clear hA0
  simp only [List.append_nil] at hW'
  refine (walk a0 W (lw_of hL)).mono fun e W' ⟨he, hg⟩ => ?_
  subst he
  exact ⟨_, rfl, _, _, _, [], [], [], hW', trodAll_cons_mk (shut_bool Tryd.underlying4 _) trodAll_mk0, trodAll_cons_mk (shut_int Tryd.underlying3 w0) trodAll_mk0, rfl, hg.frame _, fun h => by cases h⟩

theorem reads (os : Os) {H : Type} (enc : TypeId × Value → H) : ∃ places, DataW.whole enc Tryd.prog ((World.doorLaid Tryd.prog 62 os).forCall (fun _ _ => 0) ⟨#[], #[.int .i64 0], []⟩).memory Tryd.f6.params.toList Rows.termLongSpec.vars false #[Value.int .i64 0].toList 8 = some ([.lit (.int .i64 0)], [], places) :=
  ⟨[], by kernel_rfl⟩

set_option maxRecDepth 100000 in
theorem lifted (os : Os) (started : os.Started) (H : Type) (enc : TypeId × Value → H) (F : Stop.Interp) :
    ReturnsInHanded {} Tryd.checked os 6 .any ((OpenSpec.ofChange Rows.termLongSpec).preRow enc Tryd.prog Tryd.f6 Rows.termLongRow.domain false Rows.termLongRow.laid) (((OpenSpec.ofChange Rows.termLongSpec).at F).post enc Tryd.prog Tryd.f6 false true false false) := by
  obtain ⟨places, hx⟩ := reads os enc
  refine returnsInHanded_of_row (C := Tryd.checked) (s := OpenSpec.ofChange Rows.termLongSpec) own started (by kernel_rfl) Tryd.func6
    (witness_row_atRef (enc := enc) (C := Tryd.checked) false (World.doorLaid Tryd.prog 62 os) #[.int .i64 0] rfl (by kernel_rfl) (by kernel_rfl) (by kernel_rfl)
      (OpenSpec.preRow_of_cond 8 hx (by kernel_rfl) (fun k hk => by cases hk) (by kernel_rfl) (door_met os _))) ?_
  intro W base args ds gs before hval hW _ _ _ hL _ _
  exact contract H enc W base args ds gs before hval hW hL

theorem said : Rows.TermLongSaid :=
  OpenClaim.holds_of_cond 6 Tryd.f6 rfl rfl rfl rfl rfl rfl rfl ⟨rfl, rfl, rfl, rfl, rfl⟩ rfl rfl rfl rfl rfl (by kernel_rfl) Tryd.func6 (by kernel_rfl)
    (of_decide_eq_true (by kernel_rfl)) (by unfold Func.isWrapper; first | (rw [if_pos (by decide +kernel)]; kernel_rfl) | (rw [if_neg (by decide +kernel)]; exact ⟨rfl, rfl⟩))
    (fun os started H enc _ F => by rw [OpenClaim.pre_eq_preRow]; exact lifted os started H enc F)

theorem plain (f : FuncId) (fn : Func) (hf : Tryd.pinned.checked.prog.funcNamed "sleuth/sleuthlaw2.TermLong" = some f) (hfn : Tryd.pinned.checked.prog.funcs[f]? = some fn) :
    true = Tryd.pinned.checked.prog.looks [] ∧ ∀ (j : Nat) t, fn.params[j]? = some t → Tryd.pinned.checked.prog.wantsStandIn t = false := by
  obtain rfl : f = 6 := Option.some.inj ((show Tryd.prog.funcNamed "sleuth/sleuthlaw2.TermLong" = some 6 by kernel_rfl).symm.trans hf) |>.symm
  obtain rfl : fn = Tryd.f6 := (Option.some.inj (Tryd.func6.symm.trans hfn)).symm
  refine ⟨by kernel_rfl, fun j t ht => ?_⟩
  rw [Tryd.params6] at ht
  have hm : t ∈ [3] := by simpa using Array.mem_of_getElem? ht
  have hall : ([3].all fun u => !Tryd.prog.wantsStandIn u) = true := by kernel_rfl
  exact (show Tryd.prog.wantsStandIn t = false by simpa using List.all_eq_true.1 hall t hm)

/-- The given statement. -/
theorem card : Rows.TermLongCardSaid :=
  Claim7.holds_tied_plain_at .later [] _ _ _ _ said (fun _ h => by cases h) (by kernel_rfl) (fun _ h => by cases h) termLong_row_tie rfl ⟨rfl, rfl⟩ (by kernel_rfl) rfl plain (by kernel_rfl)
end Go.Proofs.YtcpddpflfncbmaaDoor.termLong
namespace Go.Proofs.YtcpddpflfncbmaaDoor
theorem termLong_holds : Rows.TermLongCardSaid := termLong.card
end Go.Proofs.YtcpddpflfncbmaaDoor
