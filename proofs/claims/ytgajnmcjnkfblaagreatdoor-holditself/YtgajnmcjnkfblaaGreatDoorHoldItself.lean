/- sleuthlaw10.HoldItself returns true at any two texts: a call that comes to its own argument is met just by what is below it. The condition is the card's own: the five listed tables and variables of Go's library read as the program's text lays them. -/
import Derived.Test.YtgajnmcjnkfblaaGreatDoorMLaid
import Derived.Laws.OwnMore
import Derived.Laws.IdiomStrings
import Derived.Deep.OwnRows
import Derived.SizedLaws
import Derived.ChangeMaps5
import Derived.WalkKit
import Derived.ProofKit
import Derived.OpenShut
import Derived.Test.YtgajnmcjnkfblaaGreatDoorMHLaw
import Derived.Test.YtgajnmcjnkfblaaGreatDoorMNPure
import Derived.Test.YtgajnmcjnkfblaaGreatDoorMSmall
import Derived.Test.YtgajnmcjnkfblaaGreatDoorMHRh
import Derived.Test.YtgajnmcjnkfblaaGreatDoorMRLess
namespace Go.Proofs.YtgajnmcjnkfblaaGreatDoor.holdItself
open Go.RowKit
set_option linter.unusedVariables false
theorem itself_at (w : World) : Defs Exs (((w.alloc (.cells #[.int .i64 0, .int .i64 0, .int .i64 0, .slice none 0 0] 45)).alloc (.cells #[.int .i64 1, .int .i64 0, .int .i64 0, .slice none 0 0] 45)).alloc (.cells #[.int .i64 0, .slice (some ⟨w.heap.size, 0, none⟩) 1 1, .int .i64 1, .slice (some ⟨w.heap.size + 1, 0, none⟩) 1 1] 48)) (some ⟨w.heap.size + 1 + 1, 0, none⟩) itself := by
  have h0 : Rw (w.alloc (.cells #[.int .i64 0, .int .i64 0, .int .i64 0, .slice none 0 0] 45)) w.heap.size #[.int .i64 0, .int .i64 0, .int .i64 0, .slice none 0 0] := World.alloc_heap_new w _
  have h1 : Rw ((w.alloc (.cells #[.int .i64 0, .int .i64 0, .int .i64 0, .slice none 0 0] 45)).alloc (.cells #[.int .i64 1, .int .i64 0, .int .i64 0, .slice none 0 0] 45)) (w.heap.size + 1) #[.int .i64 1, .int .i64 0, .int .i64 0, .slice none 0 0] := by
    have h := World.alloc_heap_new (w.alloc (.cells #[.int .i64 0, .int .i64 0, .int .i64 0, .slice none 0 0] 45)) (.cells #[.int .i64 1, .int .i64 0, .int .i64 0, .slice none 0 0] 45)
    rw [World.size_alloc] at h; exact h
  have h2 : Rd (((w.alloc (.cells #[.int .i64 0, .int .i64 0, .int .i64 0, .slice none 0 0] 45)).alloc (.cells #[.int .i64 1, .int .i64 0, .int .i64 0, .slice none 0 0] 45)).alloc (.cells #[.int .i64 0, .slice (some ⟨w.heap.size, 0, none⟩) 1 1, .int .i64 1, .slice (some ⟨w.heap.size + 1, 0, none⟩) 1 1] 48)) (w.heap.size + 1 + 1) #[.int .i64 0, .slice (some ⟨w.heap.size, 0, none⟩) 1 1, .int .i64 1, .slice (some ⟨w.heap.size + 1, 0, none⟩) 1 1] := by
    have h := World.alloc_heap_new ((w.alloc (.cells #[.int .i64 0, .int .i64 0, .int .i64 0, .slice none 0 0] 45)).alloc (.cells #[.int .i64 1, .int .i64 0, .int .i64 0, .slice none 0 0] 45)) (.cells #[.int .i64 0, .slice (some ⟨w.heap.size, 0, none⟩) 1 1, .int .i64 1, .slice (some ⟨w.heap.size + 1, 0, none⟩) 1 1] 48)
    rw [World.size_alloc, World.size_alloc] at h; exact h
  have g0 := (h0.alloc (.cells #[.int .i64 1, .int .i64 0, .int .i64 0, .slice none 0 0] 45)).alloc (.cells #[.int .i64 0, .slice (some ⟨w.heap.size, 0, none⟩) 1 1, .int .i64 1, .slice (some ⟨w.heap.size + 1, 0, none⟩) 1 1] 48)
  have g1 := h1.alloc (.cells #[.int .i64 0, .slice (some ⟨w.heap.size, 0, none⟩) 1 1, .int .i64 1, .slice (some ⟨w.heap.size + 1, 0, none⟩) 1 1] 48)
  exact h2.defs (ds := itself) ⟨rfl, ⟨_, _, rfl, exs_of_row g0 ⟨rfl, rfl, rfl, ⟨_, _, rfl, nums_nil _ _⟩, trivial⟩⟩, rfl, ⟨_, _, rfl, exs_of_row g1 ⟨rfl, rfl, rfl, ⟨_, _, rfl, nums_nil _ _⟩, trivial⟩⟩, trivial⟩
set_option maxRecDepth 100000 in
set_option maxHeartbeats 1600000 in
/-- The walk: the law's Go text returns true. -/
theorem walk (a b : ByteArray) (w : World) (ha : a.size ≤ 140737488355328) (hb : b.size ≤ 140737488355328) (hw : Tm.Lw w) :
    Calls Tryz.prog 8 #[.string a, .string b] w fun e w' => e = .returned (.bool true) ∧ Below w.heap.size w w' := by
  have HS : Hid (a.size ≤ 140737488355328 ∧ b.size ≤ 140737488355328) := ⟨ha, hb⟩
  have HW := hid hw
  clear ha hb hw
  go_enter Tryz.func8, Tryz.ntmps8
  go_wp2_with fail
  refine (awake10 w HW.out).mono ?_
  rintro e w1 ⟨rfl, hb1⟩
  have HB1 := hid hb1
  clear hb1
  go_wp2_with fail
  have hd0 := itself_at w1
  obtain ⟨W3, hW3⟩ : ∃ W3, (((w1.alloc (.cells #[.int .i64 0, .int .i64 0, .int .i64 0, .slice none 0 0] 45)).alloc (.cells #[.int .i64 1, .int .i64 0, .int .i64 0, .slice none 0 0] 45)).alloc (.cells #[.int .i64 0, .slice (some ⟨w1.heap.size, 0, none⟩) 1 1, .int .i64 1, .slice (some ⟨w1.heap.size + 1, 0, none⟩) 1 1] 48)) = W3 := ⟨_, rfl⟩
  have hz3 : W3.heap.size = w1.heap.size + 1 + 1 + 1 := by rw [← hW3]; simp
  have hb3 : Below w1.heap.size w1 W3 := by rw [← hW3]; exact (((Below.refl _ w1).alloc (Nat.le_refl _) _).alloc (by simp) _).alloc (by simp; omega) _
  rw [hW3] at hd0
  rw [hW3]
  have HD3 := hid hd0
  have HB3 : Hid (Below w.heap.size w W3) := bu_next HB1.out hb3
  clear hd0 hW3 hb3
  have hx5 := Tm.new_txts (W3.alloc (.cells #[.slice (some ⟨w1.heap.size + 1 + 1, 0, none⟩) 2 2] 24)) [a]
  have hb5 : Below W3.heap.size W3 ((W3.alloc (.cells #[.slice (some ⟨w1.heap.size + 1 + 1, 0, none⟩) 2 2] 24)).alloc (.cells #[.string a] 9)) := ((Below.refl _ W3).alloc (Nat.le_refl _) _).alloc (by simp) _
  have hp5 : Bx 24 ((W3.alloc (.cells #[.slice (some ⟨w1.heap.size + 1 + 1, 0, none⟩) 2 2] 24)).alloc (.cells #[.string a] 9)) W3.heap.size #[.slice (some ⟨w1.heap.size + 1 + 1, 0, none⟩) 2 2] := (Bx.new 24 W3 _).alloc _
  rw [World.size_alloc] at hx5
  rw [← hz3]
  obtain ⟨y, hy⟩ : ∃ y, w1.heap.size + 1 + 1 = y := ⟨_, rfl⟩
  rw [hy] at hx5 hb5 hp5 HD3 hz3 ⊢
  obtain ⟨q, hq⟩ : ∃ q, hdsB itself 1 (Tm.lst [a]) b.data.toList 5 = q := ⟨_, rfl⟩
  obtain ⟨E, hE⟩ : ∃ E, hdsE itself 1 (Tm.lst [a]) b.data.toList 5 = E := ⟨_, rfl⟩
  have HIS : Hid (∀ W (ga : Option Addr), Below W3.heap.size W3 W → Tm.Txts W ga [a] → Calls Tryz.prog 21 #[.agg #[.slice (some ⟨y, 0, none⟩) 2 2], .agg #[.int .i64 1, .int .i64 0, .slice ga 1 1, .string b], .int .i64 5] W fun e w' => e = .returned (.tuple #[.bool q, .int .i64 E]) ∧ Below W.heap.size W w') := fun W ga h hx => by
    have := holds_any (some ⟨y, 0, none⟩) 2 itself 1 0 ga 1 [a] b 5 W (HD3.out.on h) hx (fun x hx => by rw [List.mem_singleton.1 hx]; exact HS.out.1) (by simp) HS.out.2 (Tm.Lw.on HW.out (bu_next HB3.out h))
    rw [hq, hE] at this
    exact this
  have HRF : Hid (∀ W (ga : Option Addr), Below W3.heap.size W3 W → Tm.Txts W ga [a] → Calls Tryz.prog 22 #[.agg #[.slice (some ⟨y, 0, none⟩) 2 2], .agg #[.int .i64 1, .int .i64 0, .slice ga 1 1, .string b], .int .i64 5] W fun e w' => e = .returned (.tuple #[.bool q, .int .i64 E]) ∧ Below W.heap.size W w') := fun W ga h hx => by
    have := rholds_any (some ⟨y, 0, none⟩) 2 itself 1 0 ga 1 [a] b 5 W (HD3.out.on h) hx (fun x hx => by rw [List.mem_singleton.1 hx]; exact HS.out.1) (by simp) HS.out.2
    rw [hq, hE] at this
    exact this
  have HBL : Hid (∀ W, Calls Tryz.prog 25 #[.string b, .string a] W fun e w' => e = .returned (.tuple #[.bool (Tm.isB b.data.toList a.data.toList), .int .i64 (Tm.isE b.data.toList a.data.toList)]) ∧ Below W.heap.size W w') := fun W => Tm.rbelow_any b a W HS.out.2 HS.out.1
  refine (HIS.out _ (some ⟨W3.heap.size + 1, 0, none⟩) hb5 hx5).mono ?_
  rintro e w6 ⟨rfl, hb6⟩
  have HB6 : Hid (Below W3.heap.size W3 w6) := bu_next hb5 hb6
  have HP6 := hid (hp5.next hb6)
  have p0 : w6.cell? ⟨y + 1, 0, none⟩ = some (.slice (some ⟨y, 0, none⟩) 2 2) := by rw [← hz3]; exact HP6.out.cell 0 _ rfl
  have pl : y + 1 < w6.heap.size := by rw [← hz3]; exact HP6.out.lt
  clear hb6 hx5 hb5 hp5
  have hrl : Tm.lst [a] = [a.data.toList] := rfl
  rw [hrl] at hq hE
  cases hb2 : ((Tm.whole b.data.toList).isSome && (Tm.whole a.data.toList).isSome) with
  | false =>
    obtain ⟨n1, n2⟩ := itself_no a.data.toList b.data.toList hb2
    rw [n1] at hq; rw [n2] at hE
    subst hq hE
    have e2 : Tm.isE b.data.toList a.data.toList = 300 := by unfold Tm.isE; rw [hb2]; rfl
    rw [e2] at HBL
    go_wp2_with fail
    refine (HBL.out w6).mono ?_
    rintro e w7 ⟨rfl, hb7⟩
    have HB7 : Hid (Below W3.heap.size W3 w7) := bu_next HB6.out hb7
    clear hb7
    go_wp2_with (go_at_call 13; refine (Lx.num_any 1000 _).mono ?_; rintro e w5 ⟨rfl, rfl⟩)
    go_ret
    exact ⟨rfl, bu_next HB3.out HB7.out⟩
  | true =>
    obtain ⟨t1, t2⟩ := Bool.and_eq_true_iff.1 hb2
    obtain ⟨n1, n2⟩ := itself_yes a.data.toList b.data.toList t1 t2
    rw [n1] at hq; rw [n2] at hE
    subst hE
    have e2 : Tm.isE b.data.toList a.data.toList = 0 := by unfold Tm.isE; rw [hb2]; rfl
    have e1 : Tm.isB b.data.toList a.data.toList = q := by unfold Tm.isB; rw [t1, t2, hq]; rfl
    rw [e1, e2] at HBL
    have hqq : (q == q) = true := beq_self_eq_true _
    clear n1 n2 hq e1 e2
    go_wp2_with fail
    refine (HBL.out w6).mono ?_
    rintro e w7 ⟨rfl, hb7⟩
    have HB7 : Hid (Below W3.heap.size W3 w7) := bu_next HB6.out hb7
    have HP7 := hid (HP6.out.next hb7)
    clear p0 pl
    have p0 : w7.cell? ⟨y + 1, 0, none⟩ = some (.slice (some ⟨y, 0, none⟩) 2 2) := by rw [← hz3]; exact HP7.out.cell 0 _ rfl
    have pl : y + 1 < w7.heap.size := by rw [← hz3]; exact HP7.out.lt
    clear hb7
    go_wp2_with fail
    have hx8 := Tm.new_txts w7 [a]
    have hb8 : Below W3.heap.size W3 (w7.alloc (.cells #[.string a] 9)) := bu_next HB7.out ((Below.refl _ w7).alloc (Nat.le_refl _) _)
    refine (HRF.out _ _ hb8 hx8).mono ?_
    rintro e w9 ⟨rfl, hb9⟩
    have HB9 : Hid (Below W3.heap.size W3 w9) := bu_next hb8 hb9
    clear hb9 hx8 hb8 p0 pl
    go_wp2_with (go_at_call 13; refine (Lx.num_any 0 _).mono ?_; rintro e w5 ⟨rfl, rfl⟩)
    go_ret
    exact ⟨rfl, bu_next HB3.out HB9.out⟩
open Go.ChangeShapes Go.WideShapes Go.ChangeAt Go.ChangeMaps
set_option maxRecDepth 100000 in
/-- What the walk gives, for every argument and every world that holds the list. -/
theorem contract (H : Type) (enc : TypeId × Value → H) (W : World) (base : Nat) (args : Array Value) (ds gs : List (DataW H)) (before : List MemPlace)
    (hval : ∀ (j : Nat) t v, Tryz.f8.params[j]? = some t → args[j]? = some v → Value.okWide Tryz.prog W .any base t v)
    (hW : DataW.Whole enc Tryz.prog Tryz.f8.params.toList Rows.holdItselfSpec.vars false W args.toList ds gs before)
    (hsz0 : (DataW.weightsEach Tryz.prog (Tryz.f8.params.toList ++ (OpenSpec.ofChange Rows.holdItselfSpec).bare.plain.varTypes Tryz.prog) (ds ++ gs)).all (· ≤ reachBytes) = true) (hL : laidMetH Tryz.prog Rows.holdItselfRow.laid W) :
    Calls Tryz.prog 8 args W fun e W' => ∃ v, e = .returned v ∧ Rows.holdItselfSpec.post enc Tryz.prog Tryz.f8 false true false false W args v W' := by
  have hW' := hW
  obtain ⟨p, q, hA0, hV, rfl, hfz, hnd⟩ := hW
  have hA : DataW.TrodAll enc Tryz.prog W 0 (fun _ => true) true Tryz.f8.params.toList args.toList ds p := hA0
  rw [Tryz.params8] at hA hval hsz0
  obtain ⟨v0, vs0, d0, ds0, p0, q0, hargs, rfl, rfl, h0, r0⟩ := trodAll_cons hA
  obtain ⟨v1, vs1, d1, ds1, p1, q1, rfl, rfl, rfl, h1, r1⟩ := trodAll_cons r0
  obtain ⟨rfl, rfl, rfl⟩ := trodAll_nil r1
  obtain rfl : args = #[v0, v1] := by cases args; simp_all
  obtain ⟨rfl, rfl⟩ := trodVars_none hV
  obtain ⟨a0, rfl, rfl, rfl, w0⟩ := open_string Tryz.underlying9 (hval 0 9 v0 rfl rfl) h0
  have hbd0 : a0.size ≤ 140737488355328 := by
    have hb := sized_string hsz0 (j := 0) (t := 9) rfl rfl
    have e : a0.data.toList.length = a0.size := by simp
    have := reachBytes_lt
    omega
  obtain ⟨a1, rfl, rfl, rfl, w1⟩ := open_string Tryz.underlying9 (hval 1 9 v1 rfl rfl) h1
  have hbd1 : a1.size ≤ 140737488355328 := by
    have hb := sized_string hsz0 (j := 1) (t := 9) rfl rfl
    have e : a1.data.toList.length = a1.size := by simp
    have := reachBytes_lt
    omega
  clear hA0
  simp only [List.append_nil] at hW'
  refine (walk a0 a1 W hbd0 hbd1 (lw_of hL)).mono fun e W' ⟨he, hg⟩ => ?_
  subst he
  exact ⟨_, rfl, _, _, _, [], [], [], hW', trodAll_cons_mk (shut_bool Tryz.underlying4 _) trodAll_mk0, trodAll_cons_mk (shut_string Tryz.underlying9 w0) (trodAll_cons_mk (shut_string Tryz.underlying9 w1) trodAll_mk0), rfl, hg.frame _, fun h => by cases h⟩

theorem reads (os : Os) {H : Type} (enc : TypeId × Value → H) : ∃ places, DataW.whole enc Tryz.prog ((World.doorLaid Tryz.prog 62 os).forCall (fun _ _ => 0) ⟨#[], #[.string ⟨#[]⟩, .string ⟨#[]⟩], []⟩).memory Tryz.f8.params.toList Rows.holdItselfSpec.vars false #[Value.string ⟨#[]⟩, .string ⟨#[]⟩].toList 8 = some ([.lit (.string []), .lit (.string [])], [], places) :=
  ⟨[], by kernel_rfl⟩

set_option maxRecDepth 100000 in
theorem lifted (os : Os) (started : os.Started) (H : Type) (enc : TypeId × Value → H) (F : Stop.Interp) :
    ReturnsInHanded {} Tryz.checked os 8 .any ((OpenSpec.ofChange Rows.holdItselfSpec).preRow enc Tryz.prog Tryz.f8 Rows.holdItselfRow.domain false Rows.holdItselfRow.laid) (((OpenSpec.ofChange Rows.holdItselfSpec).at F).post enc Tryz.prog Tryz.f8 false true false false) := by
  obtain ⟨places, hx⟩ := reads os enc
  refine returnsInHanded_of_row (C := Tryz.checked) (s := OpenSpec.ofChange Rows.holdItselfSpec) own started (by kernel_rfl) Tryz.func8
    (witness_row_atRef (enc := enc) (C := Tryz.checked) false (World.doorLaid Tryz.prog 62 os) #[.string ⟨#[]⟩, .string ⟨#[]⟩] rfl (by kernel_rfl) (by kernel_rfl) (by kernel_rfl)
      (OpenSpec.preRow_of_cond 8 hx (by kernel_rfl) (fun k hk => by cases hk) (by kernel_rfl) (door_met os _))) ?_
  intro W base args ds gs before hval hW _ _ hsz hL _ _
  exact contract H enc W base args ds gs before hval hW hsz hL

theorem said : Rows.HoldItselfSaid :=
  OpenClaim.holds_of_cond 8 Tryz.f8 rfl rfl rfl rfl rfl rfl rfl ⟨rfl, rfl, rfl, rfl, rfl⟩ rfl rfl rfl rfl rfl (by kernel_rfl) Tryz.func8 (by kernel_rfl)
    (of_decide_eq_true (by kernel_rfl)) (by unfold Func.isWrapper; first | (rw [if_pos (by decide +kernel)]; kernel_rfl) | (rw [if_neg (by decide +kernel)]; exact ⟨rfl, rfl⟩))
    (fun os started H enc _ F => by rw [OpenClaim.pre_eq_preRow]; exact lifted os started H enc F)

theorem plain (f : FuncId) (fn : Func) (hf : Tryz.pinned.checked.prog.funcNamed "sleuth/sleuthlaw10.HoldItself" = some f) (hfn : Tryz.pinned.checked.prog.funcs[f]? = some fn) :
    true = Tryz.pinned.checked.prog.looks [] ∧ ∀ (j : Nat) t, fn.params[j]? = some t → Tryz.pinned.checked.prog.wantsStandIn t = false := by
  obtain rfl : f = 8 := Option.some.inj ((show Tryz.prog.funcNamed "sleuth/sleuthlaw10.HoldItself" = some 8 by kernel_rfl).symm.trans hf) |>.symm
  obtain rfl : fn = Tryz.f8 := (Option.some.inj (Tryz.func8.symm.trans hfn)).symm
  refine ⟨by kernel_rfl, fun j t ht => ?_⟩
  rw [Tryz.params8] at ht
  have hm : t ∈ [9, 9] := by simpa using Array.mem_of_getElem? ht
  have hall : ([9, 9].all fun u => !Tryz.prog.wantsStandIn u) = true := by kernel_rfl
  exact (show Tryz.prog.wantsStandIn t = false by simpa using List.all_eq_true.1 hall t hm)

/-- The given statement. -/
theorem card : Rows.HoldItselfCardSaid :=
  Claim7.holds_tied_plain_at .later [] _ _ _ _ said (fun _ h => by cases h) (by kernel_rfl) (fun _ h => by cases h) holdItself_row_tie rfl ⟨rfl, rfl⟩ (by kernel_rfl) rfl plain (by kernel_rfl)
end Go.Proofs.YtgajnmcjnkfblaaGreatDoor.holdItself
namespace Go.Proofs.YtgajnmcjnkfblaaGreatDoor
theorem holdItself_holds : Rows.HoldItselfCardSaid := holdItself.card
end Go.Proofs.YtgajnmcjnkfblaaGreatDoor
