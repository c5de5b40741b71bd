/- sleuthlaw9.NameSteps returns true at every input: a main that is so many steps is told with just as much fuel, and not with one less; the input is as it was. The condition is the card's own: the five listed tables and variables of Go's library read as the program's text lays them. -/
import Derived.Test.YtjamknejllbmkaaGreatDoorMLaid
import Derived.Laws.OwnMore
import Derived.Laws.IdiomStrings
import Derived.Deep.OwnRows
import Derived.SizedLaws
import Derived.ChangeMaps5
import Derived.WalkKit
import Derived.ProofKit
import Derived.OpenShut
import Derived.Test.YtjamknejllbmkaaGreatDoorMNOne
namespace Go.Proofs.YtjamknejllbmkaaGreatDoor.nameSteps
open Go.RowKit
set_option linter.unusedVariables false


/-- The sum of so many ones more. -/
def st : Nat → Wdn
  | 0 => [49]
  | k + 1 => [40, 43, 32] ++ st k ++ [32, 49, 41]
def sB (k : Nat) : ByteArray := ⟨(st k).toArray⟩
theorem sB_next (k : Nat) : (⟨#[40, 43, 32]⟩ : ByteArray) ++ sB k ++ (⟨#[32, 49, 41]⟩ : ByteArray) = sB (k + 1) := by
  unfold sB
  rw [show (⟨#[40, 43, 32]⟩ : ByteArray) = ⟨([40, 43, 32] : List UInt8).toArray⟩ from rfl, show (⟨#[32, 49, 41]⟩ : ByteArray) = ⟨([32, 49, 41] : List UInt8).toArray⟩ from rfl, Tm.bytes_add, Tm.bytes_add]
  rfl
def sD (k : Nat) : List Df := (pp (oneT (st k))).getD []
theorem s_all : ∀ k, k < 8 → (sB k).size ≤ 100 ∧ pp (oneT (sB k).data.toList) = some (sD k) ∧ (hdT (sD k) 0 [] (2 * (k : Int) + 1) = Lib.itoa ((k : Int) + 1) ∧ hdE (sD k) 0 [] (2 * (k : Int) + 1) = 0) ∧ hdT (sD k) 0 [] (2 * (k : Int)) = [] ∧ hdE (sD k) 0 [] (2 * (k : Int)) = 901 := by decide +kernel

set_option maxHeartbeats 4000000 in
set_option maxRecDepth 100000 in
theorem walk (a0 : Int) (w : World) (hw : Tm.Lw w) :
    Calls Tryz.prog 6 #[.int .i64 a0] w fun e w' => e = .returned (.bool true) ∧ Below w.heap.size w w' := by
  obtain ⟨k, hk, hlt⟩ := and_7 a0
  have HW := hid hw
  have HK := hid hlt
  have HA := hid (s_all k hlt)
  have hk7 : (k : Int) ≤ 7 := by omega
  have hk0 : (0 : Int) ≤ (k : Int) := by omega
  have hcall := awake9 w hw
  clear hw hlt
  go_enter Tryz.func6, Tryz.ntmps6
  go_wp2_with fail
  refine hcall.mono ?_
  clear hcall
  rintro e w1 ⟨rfl, hb1⟩
  have HB1 := hid hb1
  clear hb1
  go_wp2_with fail
  go_loopw [4, 5] (fun s4 s5 wr => ∃ j : Nat, j ≤ k ∧ s4 = .string (sB j) ∧ s5 = .int .i64 (j : Int) ∧ w1 = wr) (fun _ s5 _ => k - (intOf s5).toNat)
  case atStart => exact ⟨0, Nat.zero_le _, rfl, rfl, rfl⟩
  case round =>
    obtain ⟨j, hj, rfl, rfl, rfl⟩ := hrel
    by_cases hlt : j < k
    · have hlt' : (j : Int) < (k : Int) := by omega
      have HN := hid (sB_next j)
      have HSZ : Hid ((sB j).size ≤ 100) := (s_all j (by have := HK.out; omega)).1
      obtain ⟨T, hT⟩ : ∃ T, sB j = T := ⟨_, rfl⟩
      obtain ⟨U, hU⟩ : ∃ U, (⟨#[40, 43, 32]⟩ : ByteArray) ++ T = U := ⟨_, rfl⟩
      obtain ⟨V, hV⟩ : ∃ V, U ++ (⟨#[32, 49, 41]⟩ : ByteArray) = V := ⟨_, rfl⟩
      have HV : Hid (V = sB (j + 1)) := by show V = _; rw [← HN.out, ← hV, ← hU, hT]
      have stz : T.size ≤ 100 := by rw [← hT]; exact HSZ.out
      have su : U.size ≤ 200 := by rw [← hU, ByteArray.size_append]; have h1 : (⟨#[40, 43, 32]⟩ : ByteArray).size = 3 := rfl; have h2 := HSZ.out; rw [hT] at h2; omega
      have sv : V.size ≤ 300 := by rw [← hV, ByteArray.size_append]; have h1 : (⟨#[32, 49, 41]⟩ : ByteArray).size = 3 := rfl; omega
      rw [hT]
      clear hT HN
      go_wp2_with fail
      go_roundw
      case rel => exact ⟨j + 1, by omega, by rw [HV.out], by go_num, trivial⟩
      case measure => simp [intOf]; omega
    · have hlt' : ¬ (j : Int) < (k : Int) := by omega
      obtain rfl : j = k := by omega
      obtain ⟨S, hS⟩ : ∃ S, sB j = S := ⟨_, rfl⟩
      have HS : Hid (S.size ≤ 1000 ∧ pp (oneT S.data.toList) = some (sD j)) := by
        have h := HA.out
        rw [hS] at h
        exact ⟨by omega, h.2.1⟩
      rw [hS]
      obtain ⟨T, hT⟩ : ∃ T, Lib.itoa ((j : Int) + 1) = T := ⟨_, rfl⟩
      have HH := hid HA.out.2.2
      rw [hT] at HH
      obtain ⟨n, hn⟩ : ∃ n, (sD j).length = n := ⟨_, rfl⟩
      have HNL := hid hn
      have HONE : Hid (∀ W, Calls Tryz.prog 9 #[.string S] W fun e w' => ∃ g c, e = .returned (.agg #[.slice g n c]) ∧ Defs Exs w' g (sD j) ∧ Below W.heap.size W w') := by
        intro W
        have h := one_any S (sD j) W HS.out.1 HS.out.2
        rw [HNL.out] at h
        exact h
      have HDEC : Hid (∀ W, Calls Tryz.prog 13 #[.int .i64 ((j : Int) + 1)] W fun e w' => e = .returned (.string ⟨T.toArray⟩) ∧ Below W.heap.size W w') := by
        intro W
        have h := Tm.decimal_any ((j : Int) + 1) W (by omega) (by omega)
        rw [hT] at h
        exact h
      obtain ⟨TB, hTB⟩ : ∃ TB : ByteArray, (⟨T.toArray⟩ : ByteArray) = TB := ⟨_, rfl⟩
      have HTB := hid hTB
      rw [hTB] at HDEC
      have hbe : (TB.toList == TB.toList) = true := beq_self_eq_true _
      clear hS hT hn hlt hlt' hj hTB
      go_wp2_with fail
      refine (HONE.out _).mono ?_
      rintro e w2 ⟨g, c, rfl, hd, hb2⟩
      have HB2 : Hid (Below w.heap.size w w2) := HB1.out.trans (hb2.mono HB1.out.size)
      have hcall := head_one (sD j) g n c (2 * (j : Int) + 1) T 0 w2 HNL.out hd (Tm.Lw.on HW.out HB2.out) HH.out.1.1 HH.out.1.2
      rw [HTB.out] at hcall
      clear hd hb2
      go_wp2_with fail
      refine hcall.mono ?_
      clear hcall
      rintro e w3 ⟨rfl, hb3⟩
      have HB3 : Hid (Below w.heap.size w w3) := HB2.out.trans (hb3.mono HB2.out.size)
      clear hb3
      go_wp2_with fail
      refine (HONE.out _).mono ?_
      rintro e w4 ⟨g4, c4, rfl, hd, hb4⟩
      have HB4 : Hid (Below w.heap.size w w4) := HB3.out.trans (hb4.mono HB3.out.size)
      have hcall := head_one (sD j) g4 n c4 (2 * (j : Int)) [] 901 w4 HNL.out hd (Tm.Lw.on HW.out HB4.out) HH.out.2.1 HH.out.2.2
      clear hd hb4
      go_wp2_with fail
      refine hcall.mono ?_
      clear hcall
      rintro e w5 ⟨rfl, hb5⟩
      have HB5 : Hid (Below w.heap.size w w5) := HB4.out.trans (hb5.mono HB4.out.size)
      clear hb5
      go_wp2_with (first | (go_at_call 10; refine (Lx.num_any _ _).mono ?_; rintro e w6 ⟨rfl, rfl⟩) | (go_at_call 13; refine (HDEC.out _).mono ?_; rintro e w7 ⟨rfl, hb7⟩; have HB7 : Hid (Below w.heap.size w w7) := HB5.out.trans (hb7.mono HB5.out.size); clear hb7))
      go_ret
      exact ⟨rfl, HB7.out⟩
open Go.ChangeShapes Go.WideShapes Go.ChangeAt 
set_option maxRecDepth 100000 in
/-- What the walk gives, for every argument and every world that holds the list. -/
theorem contract (H : Type) (enc : TypeId × Value → H) (W : World) (base : Nat) (args : Array Value) (ds gs : List (DataW H)) (before : List MemPlace)
    (hval : ∀ (j : Nat) t v, Tryz.f6.params[j]? = some t → args[j]? = some v → Value.okWide Tryz.prog W .any base t v)
    (hW : DataW.Whole enc Tryz.prog Tryz.f6.params.toList Rows.nameStepsSpec.vars false W args.toList ds gs before)
    (hL : laidMetH Tryz.prog Rows.nameStepsRow.laid W) :
    Calls Tryz.prog 6 args W fun e W' => ∃ v, e = .returned v ∧ Rows.nameStepsSpec.post enc Tryz.prog Tryz.f6 false true false false W args v W' := by
  have hW' := hW
  obtain ⟨p, q, hA0, hV, rfl, hfz, hnd⟩ := hW
  have hA : DataW.TrodAll enc Tryz.prog W 0 (fun _ => true) true Tryz.f6.params.toList args.toList ds p := hA0
  rw [Tryz.params6] at hA hval
  obtain ⟨v0, vs0, d0, ds0, p0, q0, hargs, rfl, rfl, h0, r0⟩ := trodAll_cons hA
  obtain ⟨rfl, rfl, rfl⟩ := trodAll_nil r0
  obtain rfl : args = #[v0] := by cases args; simp_all
  obtain ⟨rfl, rfl⟩ := trodVars_none hV
  obtain ⟨a0, rfl, rfl, rfl, w0⟩ := open_int Tryz.underlying3 (hval 0 3 v0 rfl rfl) h0
  clear hA0
  simp only [List.append_nil] at hW'
  refine (walk a0 W (lw_of hL)).mono fun e W' ⟨he, hg⟩ => ?_
  subst he
  exact ⟨_, rfl, _, _, _, [], [], [], hW', trodAll_cons_mk (shut_bool Tryz.underlying4 _) trodAll_mk0, trodAll_cons_mk (shut_int Tryz.underlying3 w0) trodAll_mk0, rfl, hg.frame _, fun h => by cases h⟩

theorem reads (os : Os) {H : Type} (enc : TypeId × Value → H) : ∃ places, DataW.whole enc Tryz.prog ((World.doorLaid Tryz.prog 62 os).forCall (fun _ _ => 0) ⟨#[], #[.int .i64 0], []⟩).memory Tryz.f6.params.toList Rows.nameStepsSpec.vars false #[Value.int .i64 0].toList 8 = some ([.lit (.int .i64 0)], [], places) :=
  ⟨[], by kernel_rfl⟩

set_option maxRecDepth 100000 in
theorem lifted (os : Os) (started : os.Started) (H : Type) (enc : TypeId × Value → H) (F : Stop.Interp) :
    ReturnsInHanded {} Tryz.checked os 6 .any ((OpenSpec.ofChange Rows.nameStepsSpec).preRow enc Tryz.prog Tryz.f6 Rows.nameStepsRow.domain false Rows.nameStepsRow.laid) (((OpenSpec.ofChange Rows.nameStepsSpec).at F).post enc Tryz.prog Tryz.f6 false true false false) := by
  obtain ⟨places, hx⟩ := reads os enc
  refine returnsInHanded_of_row (C := Tryz.checked) (s := OpenSpec.ofChange Rows.nameStepsSpec) own started (by kernel_rfl) Tryz.func6
    (witness_row_atRef (enc := enc) (C := Tryz.checked) false (World.doorLaid Tryz.prog 62 os) #[.int .i64 0] rfl (by kernel_rfl) (by kernel_rfl) (by kernel_rfl)
      (OpenSpec.preRow_of_cond 8 hx (by kernel_rfl) (fun k hk => by cases hk) (by kernel_rfl) (door_met os _))) ?_
  intro W base args ds gs before hval hW _ _ _ hL _ _
  exact contract H enc W base args ds gs before hval hW hL

theorem said : Rows.NameStepsSaid :=
  OpenClaim.holds_of_cond 6 Tryz.f6 rfl rfl rfl rfl rfl rfl rfl ⟨rfl, rfl, rfl, rfl, rfl⟩ rfl rfl rfl rfl rfl (by kernel_rfl) Tryz.func6 (by kernel_rfl)
    (of_decide_eq_true (by kernel_rfl)) (by unfold Func.isWrapper; first | (rw [if_pos (by decide +kernel)]; kernel_rfl) | (rw [if_neg (by decide +kernel)]; exact ⟨rfl, rfl⟩))
    (fun os started H enc _ F => by rw [OpenClaim.pre_eq_preRow]; exact lifted os started H enc F)

theorem plain (f : FuncId) (fn : Func) (hf : Tryz.pinned.checked.prog.funcNamed "sleuth/sleuthlaw9.NameSteps" = some f) (hfn : Tryz.pinned.checked.prog.funcs[f]? = some fn) :
    true = Tryz.pinned.checked.prog.looks [] ∧ ∀ (j : Nat) t, fn.params[j]? = some t → Tryz.pinned.checked.prog.wantsStandIn t = false := by
  obtain rfl : f = 6 := Option.some.inj ((show Tryz.prog.funcNamed "sleuth/sleuthlaw9.NameSteps" = some 6 by kernel_rfl).symm.trans hf) |>.symm
  obtain rfl : fn = Tryz.f6 := (Option.some.inj (Tryz.func6.symm.trans hfn)).symm
  refine ⟨by kernel_rfl, fun j t ht => ?_⟩
  rw [Tryz.params6] at ht
  have hm : t ∈ [3] := by simpa using Array.mem_of_getElem? ht
  have hall : ([3].all fun u => !Tryz.prog.wantsStandIn u) = true := by kernel_rfl
  exact (show Tryz.prog.wantsStandIn t = false by simpa using List.all_eq_true.1 hall t hm)

/-- The given statement. -/
theorem card : Rows.NameStepsCardSaid :=
  Claim7.holds_tied_plain_at .later [] _ _ _ _ said (fun _ h => by cases h) (by kernel_rfl) (fun _ h => by cases h) nameSteps_row_tie rfl ⟨rfl, rfl⟩ (by kernel_rfl) rfl plain (by kernel_rfl)
end Go.Proofs.YtjamknejllbmkaaGreatDoor.nameSteps
namespace Go.Proofs.YtjamknejllbmkaaGreatDoor
theorem nameSteps_holds : Rows.NameStepsCardSaid := nameSteps.card
end Go.Proofs.YtjamknejllbmkaaGreatDoor
