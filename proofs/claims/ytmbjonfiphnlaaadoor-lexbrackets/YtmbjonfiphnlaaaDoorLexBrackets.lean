/- sleuthlaw4.LexBrackets returns true at every input: a word is not empty, bears no blank, no line end and no remark, and brackets alone; the input is as it was. The condition is the card's own: the two listed tables of unicode/utf8 read as their texts lay them. -/
import Derived.Test.YtmbjonfiphnlaaaDoorLaid
import Derived.SizedLaws
import Derived.ChangeMaps5
namespace Go.Proofs.YtmbjonfiphnlaaaDoor.lexBrackets
open Go.ChangeShapes Go.WideShapes Go.ChangeAt Go.RowKit Go.ChangeMaps
set_option linter.unusedVariables false

theorem words_shape {L x : List UInt8} (h : x ∈ wd false [] L) : (x ≠ [] ∧ x.length ≤ L.length) ∧ ((∀ b ∈ x, plB b = true) ∨ x = [40] ∨ x = [41]) := by
  obtain ⟨h1, h2, h3⟩ := wd_shape L false [] (by simp) x h
  exact ⟨⟨h1, by simpa using h2⟩, h3⟩
theorem pl_nums {b : UInt8} (h : plB b = true) : ¬ (b.toNat : Int) = 32 ∧ ¬ (b.toNat : Int) = 10 ∧ ¬ (b.toNat : Int) = 35 ∧ ¬ (b.toNat : Int) = 40 ∧ ¬ (b.toNat : Int) = 41 := by
  unfold plB at h
  simp only [Bool.and_eq_true, bne_iff_ne] at h
  obtain ⟨⟨⟨⟨h1, h2⟩, h3⟩, h4⟩, h5⟩ := h
  have key : ∀ c : UInt8, b ≠ c → ¬ (b.toNat : Int) = (c.toNat : Int) := fun c hc e => hc (UInt8.toNat_inj.1 (by omega))
  exact ⟨key 32 h2, key 10 h1, key 35 h5, key 40 h3, key 41 h4⟩
theorem at_mem (t : ByteArray) (i : Nat) (h : i < t.size) : t[i] ∈ t.data.toList := by
  have : t.data[i]'h ∈ t.data := Array.getElem_mem h
  first | exact Array.mem_toList_iff.2 this | exact Array.mem_toList.2 this | exact this.val

set_option maxHeartbeats 1600000 in
set_option maxRecDepth 100000 in
theorem walk (s : ByteArray) (w : World) :
    Calls Tryd.prog 7 #[.string s] w fun e w' => e = .returned (.bool true) ∧ Below w.heap.size w w' := by
  go_enter Tryd.func7, Tryd.ntmps7
  go_wp2_with fail
  refine (awake_any w).mono ?_
  rintro e w1 ⟨rfl, hb1⟩
  go_wp2_with fail
  cases hg : good s.data.toList with
  | false =>
    refine (words_bad s w1 hg).mono ?_
    rintro e w2 ⟨rfl, hb2⟩
    have h02 := below_next hb1 hb2
    clear hb1 hb2
    go_wp2_with (go_at_call 11; refine (num_any _ _).mono ?_; rintro e w' ⟨rfl, rfl⟩)
    go_ret
    exact ⟨rfl, h02⟩
  | true =>
    refine (words_good s w1 hg).mono ?_
    rintro e w2 ⟨g, c, rfl, hown, hb2⟩
    have h02 := below_next hb1 hb2
    have hL : s.data.toList.length ≤ 2048 := by
      unfold good at hg
      simpa using (Bool.and_eq_true_iff.1 hg).1
    have hlen : (wd false [] s.data.toList).length ≤ 2048 := by
      have h1 := wd_short s.data.toList
      omega
    have hshape : ∀ x ∈ wd false [] s.data.toList, (x ≠ [] ∧ x.length ≤ 2048) ∧ ((∀ b ∈ x, plB b = true) ∨ x = [40] ∨ x = [41]) := fun x hx => ⟨⟨(words_shape hx).1.1, Nat.le_trans (words_shape hx).1.2 hL⟩, (words_shape hx).2⟩
    have htx := (own_ba hown).2
    obtain ⟨ks, hks⟩ : ∃ ks, wd false [] s.data.toList = ks := ⟨_, rfl⟩
    rw [hks] at hlen hshape htx ⊢
    clear hb1 hb2 hown hg hks hL
    have HS : Hid (∀ x ∈ ks, (x ≠ [] ∧ x.length ≤ 2048) ∧ ((∀ b ∈ x, plB b = true) ∨ x = [40] ∨ x = [41])) := hshape
    clear hshape
    go_wp2_with (go_at_call 11; refine (num_any _ _).mono ?_; rintro e w' ⟨rfl, rfl⟩)
    go_loopw [5, 6, 7] (fun i _ _ wr => ∃ j : Nat, j ≤ ks.length ∧ i = .int .i64 (j : Int) ∧ w2 = wr) (fun i _ _ _ => ks.length - (intOf i).toNat)
    case atStart => exact ⟨0, Nat.zero_le _, rfl, rfl⟩
    case round =>
      obtain ⟨j, hj, rfl, rfl⟩ := hrel
      by_cases hlt : j < ks.length
      · have hlt' : (j : Int) < (ks.length : Int) := by omega
        obtain ⟨bk, o, rfl, hcell⟩ := txts_at htx (show j < (ks.map ba).length by simpa using hlt)
        obtain ⟨x, hx⟩ : ∃ x, x = ks[j] := ⟨_, rfl⟩
        have hsh := HS.out x (by rw [hx]; exact List.getElem_mem hlt)
        rw [List.getElem_map, ← hx] at hcell
        clear hx htx
        obtain ⟨t, ht⟩ : ∃ t, t = ba x := ⟨_, rfl⟩
        have htl : t.data.toList = x := by rw [ht]; rfl
        have htsz : t.size = x.length := by rw [ht, ba_size]
        rw [← ht] at hcell
        have q1 : ¬ t.toList = [] := by rw [Lib.toList_data, htl]; exact hsh.1.1
        have q2 : t.toList.isEmpty = false := by rw [Lib.toList_data, htl]; exact List.isEmpty_eq_false_iff.2 hsh.1.1
        have hts : t.size ≤ 2048 := by have := hsh.1.2; omega
        clear ht
        have HT : Hid (t.data.toList = x ∧ t.size = x.length ∧ x ≠ [] ∧ ((∀ b ∈ x, plB b = true) ∨ x = [40] ∨ x = [41])) := ⟨htl, htsz, hsh.1.1, hsh.2⟩
        clear htl htsz hsh
        go_wp2_with fail
        go_loopw [6, 7] (fun k _ wr => ∃ i : Nat, i ≤ t.size ∧ k = .int .i64 (i : Int) ∧ w2 = wr) (fun k _ _ => t.size - (intOf k).toNat)
        case atStart => exact ⟨0, Nat.zero_le _, rfl, rfl⟩
        case round =>
          obtain ⟨i, hi, rfl, rfl⟩ := hrel
          by_cases hit : i < t.size
          · have hit' : (i : Int) < (t.size : Int) := by omega
            have hm := at_mem t i hit
            obtain ⟨e1, e2, _, hsh⟩ := HT.out
            rw [e1] at hm
            rcases hsh with hp | hp | hp
            · obtain ⟨n1, n2, n3, n4, n5⟩ := pl_nums (hp _ hm)
              have m1 : (((t[i]).toNat : Int) == 32) = false := by rw [beq_eq_false_iff_ne]; exact n1
              have m2 : (((t[i]).toNat : Int) == 10) = false := by rw [beq_eq_false_iff_ne]; exact n2
              have m3 : (((t[i]).toNat : Int) == 35) = false := by rw [beq_eq_false_iff_ne]; exact n3
              have m4 : (((t[i]).toNat : Int) == 40) = false := by rw [beq_eq_false_iff_ne]; exact n4
              have m5 : (((t[i]).toNat : Int) == 41) = false := by rw [beq_eq_false_iff_ne]; exact n5
              clear hp hm e1 e2
              go_wp2_with fail
              go_roundw
              case rel => exact ⟨i + 1, by omega, by go_num, by first | rfl | trivial⟩
              case measure => simp [intOf]; omega
            · have hb : t[i] = 40 := by rw [hp] at hm; simpa using hm
              have n1 : ((t[i]).toNat : Int) = 40 := by rw [hb]; rfl
              have n2 : ¬ (1 : Int) < (t.size : Int) := by rw [e2, hp]; decide
              clear hp hm e1 e2 hb
              go_wp2_with fail
              go_roundw
              case rel => exact ⟨i + 1, by omega, by go_num, by first | rfl | trivial⟩
              case measure => simp [intOf]; omega
            · have hb : t[i] = 41 := by rw [hp] at hm; simpa using hm
              have n1 : ((t[i]).toNat : Int) = 41 := by rw [hb]; rfl
              have n2 : ¬ (1 : Int) < (t.size : Int) := by rw [e2, hp]; decide
              clear hp hm e1 e2 hb
              go_wp2_with fail
              go_roundw
              case rel => exact ⟨i + 1, by omega, by go_num, by first | rfl | trivial⟩
              case measure => simp [intOf]; omega
          · have hit' : ¬ (i : Int) < (t.size : Int) := by omega
            go_wp2_with fail
            go_roundw
            case rel => exact ⟨j + 1, by omega, by go_num, by first | rfl | trivial⟩
            case measure => simp [intOf]; omega
      · have hlt' : ¬ (j : Int) < (ks.length : Int) := by omega
        go_wp2_with fail
        go_ret
        exact ⟨rfl, h02⟩

set_option maxRecDepth 100000 in
/-- What the walk gives, for every argument and every world that holds the list. -/
theorem contract (H : Type) (enc : TypeId × Value → H) (W : World) (base : Nat) (args : Array Value) (ds gs : List (DataW H)) (before : List MemPlace)
    (hval : ∀ (j : Nat) t v, Tryd.f7.params[j]? = some t → args[j]? = some v → Value.okWide Tryd.prog W .any base t v)
    (hW : DataW.Whole enc Tryd.prog Tryd.f7.params.toList Rows.lexBracketsSpec.vars false W args.toList ds gs before)
    (hL : laidMetH Tryd.prog Rows.lexBracketsRow.laid W) :
    Calls Tryd.prog 7 args W fun e W' => ∃ v, e = .returned v ∧ Rows.lexBracketsSpec.post enc Tryd.prog Tryd.f7 false true false false W args v W' := by
  have hW' := hW
  obtain ⟨p, q, hA0, hV, rfl, hfz, hnd⟩ := hW
  have hA : DataW.TrodAll enc Tryd.prog W 0 (fun _ => true) true Tryd.f7.params.toList args.toList ds p := hA0
  rw [Tryd.params7] at hA hval
  obtain ⟨v0, vs0, d0, ds0, p0, q0, hargs, rfl, rfl, h0, r0⟩ := trodAll_cons hA
  obtain ⟨rfl, rfl, rfl⟩ := trodAll_nil r0
  obtain rfl : args = #[v0] := by cases args; simp_all
  obtain ⟨rfl, rfl⟩ := trodVars_none hV
  obtain ⟨a0, rfl, rfl, rfl, w0⟩ := open_string Tryd.underlying9 (hval 0 9 v0 rfl rfl) h0
  clear hA0
  simp only [List.append_nil] at hW'
  refine (walk a0 W ).mono fun e W' ⟨he, hg⟩ => ?_
  subst he
  exact ⟨_, rfl, _, _, _, [], [], [], hW', trodAll_cons_mk (shut_bool Tryd.underlying4 _) trodAll_mk0, trodAll_cons_mk (shut_string Tryd.underlying9 w0) trodAll_mk0, rfl, hg.frame _, fun h => by cases h⟩

theorem reads (os : Os) {H : Type} (enc : TypeId × Value → H) : ∃ places, DataW.whole enc Tryd.prog ((World.laidAll Tryd.prog os Rows.lexBracketsRow.laid).forCall (fun _ _ => 0) ⟨#[], #[.string ⟨#[]⟩], []⟩).memory Tryd.f7.params.toList Rows.lexBracketsSpec.vars false #[Value.string ⟨#[]⟩].toList 8 = some ([.lit (.string [])], [], places) :=
  ⟨[], by kernel_rfl⟩

set_option maxRecDepth 100000 in
theorem lifted (os : Os) (started : os.Started) (H : Type) (enc : TypeId × Value → H) (F : Stop.Interp) :
    ReturnsInHanded {} Tryd.checked os 7 .any ((OpenSpec.ofChange Rows.lexBracketsSpec).preRow enc Tryd.prog Tryd.f7 Rows.lexBracketsRow.domain false Rows.lexBracketsRow.laid) (((OpenSpec.ofChange Rows.lexBracketsSpec).at F).post enc Tryd.prog Tryd.f7 false true false false) := by
  obtain ⟨places, hx⟩ := reads os enc
  refine returnsInHanded_of_row (C := Tryd.checked) (s := OpenSpec.ofChange Rows.lexBracketsSpec) own started (by kernel_rfl) Tryd.func7
    (witness_row_atRef (enc := enc) (C := Tryd.checked) false (World.laidAll Tryd.prog os Rows.lexBracketsRow.laid) #[.string ⟨#[]⟩] (World.laidAll_os _ _ _) (by kernel_rfl) (by kernel_rfl) (by kernel_rfl)
      (OpenSpec.preRow_of_cond 8 hx (by kernel_rfl) (fun k hk => by cases hk) (by kernel_rfl) (door_met os _))) ?_
  intro W base args ds gs before hval hW _ _ _ hL _ _
  exact contract H enc W base args ds gs before hval hW hL

theorem said : Rows.LexBracketsSaid :=
  OpenClaim.holds_of_cond 7 Tryd.f7 rfl rfl rfl rfl rfl rfl rfl ⟨rfl, rfl, rfl, rfl, rfl⟩ rfl rfl rfl rfl rfl (by kernel_rfl) Tryd.func7 (by kernel_rfl)
    (of_decide_eq_true (by kernel_rfl)) (by unfold Func.isWrapper; first | (rw [if_pos (by decide +kernel)]; kernel_rfl) | (rw [if_neg (by decide +kernel)]; exact ⟨rfl, rfl⟩))
    (fun os started H enc _ F => by rw [OpenClaim.pre_eq_preRow]; exact lifted os started H enc F)

theorem plain (f : FuncId) (fn : Func) (hf : Tryd.pinned.checked.prog.funcNamed "sleuth/sleuthlaw4.LexBrackets" = some f) (hfn : Tryd.pinned.checked.prog.funcs[f]? = some fn) :
    false = Tryd.pinned.checked.prog.looks [] ∧ ∀ (j : Nat) t, fn.params[j]? = some t → Tryd.pinned.checked.prog.wantsStandIn t = false := by
  obtain rfl : f = 7 := Option.some.inj ((show Tryd.prog.funcNamed "sleuth/sleuthlaw4.LexBrackets" = some 7 by kernel_rfl).symm.trans hf) |>.symm
  obtain rfl : fn = Tryd.f7 := (Option.some.inj (Tryd.func7.symm.trans hfn)).symm
  refine ⟨by kernel_rfl, fun j t ht => ?_⟩
  rw [Tryd.params7] at ht
  have hm : t ∈ [9] := by simpa using Array.mem_of_getElem? ht
  have hall : ([9].all fun u => !Tryd.prog.wantsStandIn u) = true := by kernel_rfl
  exact (show Tryd.prog.wantsStandIn t = false by simpa using List.all_eq_true.1 hall t hm)

/-- The given statement. -/
theorem card : Rows.LexBracketsCardSaid :=
  Claim7.holds_tied_plain_at .later [] _ _ _ _ said (fun _ h => by cases h) (by kernel_rfl) (fun _ h => by cases h) lexBrackets_row_tie rfl ⟨rfl, rfl⟩ (by kernel_rfl) rfl plain (by kernel_rfl)
end Go.Proofs.YtmbjonfiphnlaaaDoor.lexBrackets
namespace Go.Proofs.YtmbjonfiphnlaaaDoor
theorem lexBrackets_holds : Rows.LexBracketsCardSaid := lexBrackets.card
end Go.Proofs.YtmbjonfiphnlaaaDoor
