/- Whatever the text s is, each part that Cut tells of it may be (by May and by the document's own answer), and is shorter than s; only a constructor has parts, and at most three; where Cut refuses s, nothing stands beside the error and May says no; the condition is the card's own: the listed variables of the library read as their initialisers lay them. -/
import Derived.Test.YtcpddpflfncbmaaDoorLaid
import Derived.Test.YtcpddpflfncbmaaDoorRCut
import Derived.SizedLaws
import Derived.ChangeMaps5
namespace Go.Proofs.YtcpddpflfncbmaaDoor.termParts
open Go.ChangeShapes Go.WideShapes Go.ChangeAt Go.RowKit Go.ChangeMaps
set_option linter.unusedVariables false

set_option maxHeartbeats 1600000 in
set_option maxRecDepth 100000 in
/- The walk: the law's Go text returns true. -/
theorem walk (s : ByteArray) (hs : s.size ≤ 140737488355328) (w : World) (hw : Lw w) :
    Calls Tryd.prog 8 #[.string s] w fun e w' => e = .returned (.bool true) ∧ Below w.heap.size w w' := by
  go_enter Tryd.func8, Tryd.ntmps8
  go_wp2_with fail
  refine (awake_any _ hw).mono ?_
  rintro e w1 ⟨rfl, hb1⟩
  have hw1 := hw.on hb1
  go_wp2_with fail
  refine (cut_any atoi_said itoa_said clone_said s _ hs hw1).mono ?_
  rintro e w2 ⟨k, x, v, er, rfl, _, hb2, hgot⟩
  have hw2 := hw1.on hb2
  have h02 := below_next hb1 hb2
  clear hb1 hw1
  cases hW : whole s.data.toList with
  | none =>
    rw [hW] at hgot
    obtain ⟨rfl, rfl, rfl, rfl⟩ := hgot
    have HW : Hid (whole s.data.toList = none) := hW
    clear hW hb2
    go_wp2_with (go_at_call 15; refine (num_any _ _).mono ?_; rintro e w' ⟨rfl, rfl⟩)
    refine (tmay_any atoi_said itoa_said s _ hs hw2).mono ?_
    rintro e w3 ⟨rfl, hb3⟩
    rw [HW.out]
    have h03 := below_next h02 hb3
    clear hb3 hw2 h02
    simp only [Option.isSome_none]
    go_wp2_with fail
    go_ret
    exact ⟨rfl, h03⟩
  | some y =>
    obtain ⟨k', x', ks⟩ := y
    rw [hW] at hgot
    obtain ⟨rfl, rfl, rfl, hown⟩ := hgot
    obtain ⟨hparts, hkind, hthree⟩ := whole_parts hW
    obtain ⟨g, c, rfl, htx, _⟩ := own_txts hown
    have HP : Hid (∀ p ∈ ks, (whole p).isSome = true ∧ p.length < s.data.toList.length) := hparts
    clear hparts hown hb2
    have hlen : (ks.map ba).length = ks.length := by simp
    rw [hlen]
    have hl3 : (ks.length : Int) ≤ 3 := by omega
    have HK : Hid (k = 2 ∨ ks = []) := hkind
    have HTX : Hid (Txts w2 g (ks.map ba)) := htx
    clear hkind htx hW
    go_wp2_with (go_at_call 15; refine (num_any _ _).mono ?_; rintro e w' ⟨rfl, rfl⟩)
    go_loopw [7] (fun i wr => ∃ j : Nat, j ≤ ks.length ∧ i = .int .i64 (j : Int) ∧ Below w2.heap.size w2 wr) (fun i _ => ks.length - (intOf i).toNat)
    case atStart => exact ⟨0, Nat.zero_le _, rfl, Below.refl _ _⟩
    case round =>
      obtain ⟨j, hj, rfl, hbr⟩ := hrel
      by_cases hlt : j < ks.length
      · obtain ⟨l, hl⟩ : ∃ l, l = ks[j] := ⟨_, rfl⟩
        obtain ⟨p1, p2⟩ := HP.out l (by rw [hl]; exact List.getElem_mem hlt)
        rcases HTX.out.on hbr with e | ⟨bk, o, rfl, hbk, hcells⟩
        · have : ks = [] := by simpa using e
          subst this; simp at hlt
        have hc := hcells j (ba l) (by rw [List.getElem?_map, List.getElem?_eq_getElem hlt, hl]; rfl)
        clear hcells
        have HL : Hid (l = ks[j]) := hl
        clear hl
        have hsz : (ba l).size = l.length := rfl
        have hszs : s.data.toList.length = s.size := by simp
        rw [hszs] at p2
        have hsl : ((ba l).size : Int) < (s.size : Int) := by omega
        clear hszs
        obtain ⟨z, hz⟩ : ∃ z, z = ba l := ⟨_, rfl⟩
        rw [← hz] at hc hsl hsz
        have hzw : Hid ((whole z.data.toList).isSome = true) := by rw [hz]; exact p1
        clear hz p1
        have hzs : z.size ≤ 140737488355328 := by omega
        have hwr := hw2.on hbr
        go_wp2_with fail
        refine (tmay_any atoi_said itoa_said z _ hzs hwr).mono ?_
        rintro e w3 ⟨rfl, hb3⟩
        rw [hzw.out]
        have hc3 : w3.cell? ⟨bk, o + j, none⟩ = some (.string z) := by rw [hb3.cell (p := ⟨bk, o + j, none⟩) hbk]; exact hc
        have hbr3 := below_next hbr hb3
        clear hb3 hc hwr hbr
        go_wp2_with fail
        refine (rmay_any z _ hzs).mono ?_
        rintro e w4 ⟨rfl, hb4⟩
        rw [hzw.out]
        have hbr4 := below_next hbr3 hb4
        clear hb4 hc3 hbr3
        go_wp2_with fail
        go_roundw
        case rel => exact ⟨j + 1, by omega, by go_num, hbr4⟩
        case measure => simp [intOf]; omega
      · rcases HK.out with rfl | rfl
        · go_wp2_with fail
          go_ret
          exact ⟨rfl, below_next h02 hbr⟩
        · cases hk2 : (k == 2) with
          | true =>
            go_wp2_with fail
            go_ret
            exact ⟨rfl, below_next h02 hbr⟩
          | false =>
            go_wp2_with fail
            go_ret
            exact ⟨rfl, below_next h02 hbr⟩

set_option maxRecDepth 100000 in
/-- What the walk gives, for every argument and every world that holds the list. -/
theorem contract (H : Type) (enc : TypeId × Value → H) (W : World) (base : Nat) (args : Array Value) (ds gs : List (DataW H)) (before : List MemPlace)
    (hval : ∀ (j : Nat) t v, Tryd.f8.params[j]? = some t → args[j]? = some v → Value.okWide Tryd.prog W .any base t v)
    (hW : DataW.Whole enc Tryd.prog Tryd.f8.params.toList Rows.termPartsSpec.vars false W args.toList ds gs before)
    (hsz0 : (DataW.weightsEach Tryd.prog (Tryd.f8.params.toList ++ (OpenSpec.ofChange Rows.termPartsSpec).bare.plain.varTypes Tryd.prog) (ds ++ gs)).all (· ≤ reachBytes) = true) (hL : laidMetH Tryd.prog Rows.termPartsRow.laid W) :
    Calls Tryd.prog 8 args W fun e W' => ∃ v, e = .returned v ∧ Rows.termPartsSpec.post enc Tryd.prog Tryd.f8 false true false false W args v W' := by
  have hW' := hW
  obtain ⟨p, q, hA0, hV, rfl, hfz, hnd⟩ := hW
  have hA : DataW.TrodAll enc Tryd.prog W 0 (fun _ => true) true Tryd.f8.params.toList args.toList ds p := hA0
  rw [Tryd.params8] at hA hval hsz0
  obtain ⟨v0, vs0, d0, ds0, p0, q0, hargs, rfl, rfl, h0, r0⟩ := trodAll_cons hA
  obtain ⟨rfl, rfl, rfl⟩ := trodAll_nil r0
  obtain rfl : args = #[v0] := by cases args; simp_all
  obtain ⟨rfl, rfl⟩ := trodVars_none hV
  obtain ⟨a0, rfl, rfl, rfl, w0⟩ := open_string Tryd.underlying9 (hval 0 9 v0 rfl rfl) h0
  have hbd := sized_string hsz0 (j := 0) (t := 9) rfl rfl
  have hbd' : a0.size ≤ 140737488355328 := by
    have e : a0.data.toList.length = a0.size := by simp
    have := reachBytes_lt
    omega
  clear hA0
  simp only [List.append_nil] at hW'
  refine (walk a0 hbd' W (lw_of hL)).mono fun e W' ⟨he, hg⟩ => ?_
  subst he
  exact ⟨_, rfl, _, _, _, [], [], [], hW', trodAll_cons_mk (shut_bool Tryd.underlying4 _) trodAll_mk0, trodAll_cons_mk (shut_string Tryd.underlying9 w0) trodAll_mk0, rfl, hg.frame _, fun h => by cases h⟩

theorem reads (os : Os) {H : Type} (enc : TypeId × Value → H) : ∃ places, DataW.whole enc Tryd.prog ((World.doorLaid Tryd.prog 62 os).forCall (fun _ _ => 0) ⟨#[], #[.string ⟨#[]⟩], []⟩).memory Tryd.f8.params.toList Rows.termPartsSpec.vars false #[Value.string ⟨#[]⟩].toList 8 = some ([.lit (.string [])], [], places) :=
  ⟨[], by kernel_rfl⟩

set_option maxRecDepth 100000 in
theorem lifted (os : Os) (started : os.Started) (H : Type) (enc : TypeId × Value → H) (F : Stop.Interp) :
    ReturnsInHanded {} Tryd.checked os 8 .any ((OpenSpec.ofChange Rows.termPartsSpec).preRow enc Tryd.prog Tryd.f8 Rows.termPartsRow.domain false Rows.termPartsRow.laid) (((OpenSpec.ofChange Rows.termPartsSpec).at F).post enc Tryd.prog Tryd.f8 false true false false) := by
  obtain ⟨places, hx⟩ := reads os enc
  refine returnsInHanded_of_row (C := Tryd.checked) (s := OpenSpec.ofChange Rows.termPartsSpec) own started (by kernel_rfl) Tryd.func8
    (witness_row_atRef (enc := enc) (C := Tryd.checked) false (World.doorLaid Tryd.prog 62 os) #[.string ⟨#[]⟩] rfl (by kernel_rfl) (by kernel_rfl) (by kernel_rfl)
      (OpenSpec.preRow_of_cond 8 hx (by kernel_rfl) (fun k hk => by cases hk) (by kernel_rfl) (door_met os _))) ?_
  intro W base args ds gs before hval hW _ _ hsz hL _ _
  exact contract H enc W base args ds gs before hval hW hsz hL

theorem said : Rows.TermPartsSaid :=
  OpenClaim.holds_of_cond 8 Tryd.f8 rfl rfl rfl rfl rfl rfl rfl ⟨rfl, rfl, rfl, rfl, rfl⟩ rfl rfl rfl rfl rfl (by kernel_rfl) Tryd.func8 (by kernel_rfl)
    (of_decide_eq_true (by kernel_rfl)) (by unfold Func.isWrapper; first | (rw [if_pos (by decide +kernel)]; kernel_rfl) | (rw [if_neg (by decide +kernel)]; exact ⟨rfl, rfl⟩))
    (fun os started H enc _ F => by rw [OpenClaim.pre_eq_preRow]; exact lifted os started H enc F)

theorem plain (f : FuncId) (fn : Func) (hf : Tryd.pinned.checked.prog.funcNamed "sleuth/sleuthlaw2.TermParts" = some f) (hfn : Tryd.pinned.checked.prog.funcs[f]? = some fn) :
    true = Tryd.pinned.checked.prog.looks [] ∧ ∀ (j : Nat) t, fn.params[j]? = some t → Tryd.pinned.checked.prog.wantsStandIn t = false := by
  obtain rfl : f = 8 := Option.some.inj ((show Tryd.prog.funcNamed "sleuth/sleuthlaw2.TermParts" = some 8 by kernel_rfl).symm.trans hf) |>.symm
  obtain rfl : fn = Tryd.f8 := (Option.some.inj (Tryd.func8.symm.trans hfn)).symm
  refine ⟨by kernel_rfl, fun j t ht => ?_⟩
  rw [Tryd.params8] at ht
  have hm : t ∈ [9] := by simpa using Array.mem_of_getElem? ht
  have hall : ([9].all fun u => !Tryd.prog.wantsStandIn u) = true := by kernel_rfl
  exact (show Tryd.prog.wantsStandIn t = false by simpa using List.all_eq_true.1 hall t hm)

/-- The given statement. -/
theorem card : Rows.TermPartsCardSaid :=
  Claim7.holds_tied_plain_at .later [] _ _ _ _ said (fun _ h => by cases h) (by kernel_rfl) (fun _ h => by cases h) termParts_row_tie rfl ⟨rfl, rfl⟩ (by kernel_rfl) rfl plain (by kernel_rfl)
end Go.Proofs.YtcpddpflfncbmaaDoor.termParts
namespace Go.Proofs.YtcpddpflfncbmaaDoor
theorem termParts_holds : Rows.TermPartsCardSaid := termParts.card
end Go.Proofs.YtcpddpflfncbmaaDoor
