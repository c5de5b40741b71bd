/- sleuthlaw7.ParseTwo returns true at every input: definitions that are put behind a program's text are its program's last ones, where they may be; the inputs are as they were. The condition is the card's own: the seven listed tables and variables of Go's library read as their texts lay them. -/
import Derived.Test.YtighcikiaddfcaaGreatDoorNLaid
import Derived.Test.YtighcikiaddfcaaGreatDoorMTwo
import Derived.Laws.OwnMore
import Derived.Laws.IdiomStrings
import Derived.Deep.OwnRows
import Derived.Deep.CutBlock
import Derived.SizedLaws
import Derived.ChangeMaps5
namespace Go.Proofs.YtighcikiaddfcaaGreatDoor.parseTwo
open Go.ChangeShapes Go.WideShapes Go.ChangeAt Go.RowKit Go.ChangeMaps
set_option linter.unusedVariables false

theorem ba_add (a b : List UInt8) : Lx.ba a ++ Lx.ba b = Lx.ba (a ++ b) := by
  apply ByteArray.ext
  rw [ByteArray.data_append]
  unfold Lx.ba
  simp
theorem Pd.defsN {W : World} {base : Nat} {g : Option Addr} {c : Nat} {qs : List Dt} {ds : List Df} (h : Pd W base (.slice g ds.length c) qs) (hq : qs.map (·.1) = ds) : Defs ExsN W g ds := by
  have hl : ds.length = qs.length := by rw [← hq, List.length_map]
  rw [hl] at h
  rcases h.own.2 with ⟨_, h3⟩ | ⟨b, cap, cur, hv, _, hh, _⟩
  · refine Or.inl ?_
    rw [← hq, List.length_eq_zero_iff.1 h3]; rfl
  · simp at hv
    obtain ⟨rfl, _⟩ := hv
    refine Or.inr ⟨b, 0, rfl, (Array.getElem?_eq_some_iff.1 hh).1, fun j d hd => ?_⟩
    rw [← hq, List.getElem?_map] at hd
    cases hx : qs[j]? with
    | none => rw [hx] at hd; cases hd
    | some q =>
      rw [hx] at hd
      cases hd
      obtain ⟨k0, k1⟩ := at_c2 qs j q hx
      have h0 := h.own.cells (g := b) rfl _ _ k0
      have h1 := h.own.cells (g := b) rfl _ _ k1
      rw [Addr.add_lit] at h0 h1
      refine ⟨q.2.1, q.2.2, h0, ?_, (h.bodies q (List.mem_of_getElem? hx)).exsN⟩
      rw [Nat.add_assoc]; exact h1
theorem one_exsT (W : World) : ExsT (W.alloc (.cells #[I 1, I 0, I 0, nilS] 41)) (some ⟨W.heap.size, 0, none⟩) oneD.body :=
  exsT_of_row (cs := #[I 1, I 0, I 0, nilS]) (World.alloc_heap_new W _) ⟨rfl, rfl, rfl, ⟨_, _, rfl, numsT_nil _ _, fun _ => rfl⟩, trivial⟩
/-- What stands ahead of each round. -/
structure Lo2 (w : World) (base B : Nat) (ds : List Df) (wr : World) (i : Nat) (g : Option Addr) (c : Nat) (qs : List Dt) : Prop where
  pd : Pd wr base (.slice g (ds.length + i) c) qs
  map : qs.map (·.1) = ds ++ List.replicate i oneD
  box : Bx1 wr B (.slice g (ds.length + i) c)
  low : Below w.heap.size w wr
  base : base ≤ wr.heap.size
theorem Lo2.len {w : World} {base B : Nat} {ds : List Df} {wr : World} {i : Nat} {g : Option Addr} {c : Nat} {qs : List Dt} (h : Lo2 w base B ds wr i g c qs) : qs.length = ds.length + i := by
  have := congrArg List.length h.map
  simpa using this
/-- One more has been put behind the others. -/
theorem Lo2.put {w : World} {base B : Nat} {ds : List Df} {wr w3 : World} {i : Nat} {g g3 : Option Addr} {c c3 : Nat} {qs : List Dt} {o o' : Obj} {a : Option Addr} {k : Nat} (h : Lo2 w base B ds wr i g c qs) (hw : w.heap.size ≤ base) (hB : w.heap.size ≤ B)
    (hP : Pd w3 base (.slice g3 (ds.length + i + 1) c3) (qs ++ [(oneD, a, k)])) (hg : ((wr.alloc o).alloc o').grownBy w3 (Value.slice g (ds.length + i) c).ownBlock) :
    Bx1 w3 B (.slice g (ds.length + i) c) ∧ Lo2 w base B ds (w3.setCell ⟨B, 0, none⟩ (.slice g3 (ds.length + i + 1) c3)) (i + 1) g3 c3 (qs ++ [(oneD, a, k)]) := by
  have hb : Below wr.heap.size wr ((wr.alloc o).alloc o') := ((Below.refl _ wr).alloc (Nat.le_refl _) o).alloc (by simp) o'
  have hP2 := h.pd.on hb
  have hrow : ∀ k, (Value.slice g (ds.length + i) c).ownBlock = some k → base ≤ k := fun k hk => (h.pd.own.lt k hk).1
  have b1 : Bx1 w3 B (.slice g (ds.length + i) c) := (h.box.on hb).kept hg (hP2.not_box (h.box.on hb))
  have hl : Below w.heap.size w w3 := (h.low.trans (hb.mono (by have := h.base; omega))).grown hg (by have h1 := hb.size; have h2 := h.base; omega) (fun k hk => by have := hrow k hk; omega)
  have hs := hg.size
  have hs2 := hb.size
  refine ⟨b1, ⟨?_, ?_, ?_, hl.setCell (p := ⟨B, 0, none⟩) hB _, ?_⟩⟩
  · rw [← Nat.add_assoc]; exact hP.far b1 0 _
  · rw [List.map_append, h.map, List.append_assoc, List.replicate_succ']; rfl
  · rw [← Nat.add_assoc]; exact b1.set0 _
  · have := h.base
    simp
    omega

set_option maxHeartbeats 2000000 in
set_option maxRecDepth 100000 in
theorem walk (s : ByteArray) (a1 : Int) (w : World) (hL : Lw w) :
    Calls Tryz.prog 8 #[.string s, .int .i64 a1] w fun e w' => e = .returned (.bool true) ∧ Below w.heap.size w w' := by
  obtain ⟨j, hj, hj4⟩ := and_3 a1
  have HL : Hid (Lw w) := hL
  go_enter Tryz.func8, Tryz.ntmps8
  go_wp2_with fail
  refine (awake_any w hL).mono ?_
  rintro e w1 ⟨rfl, hb1⟩
  have HB1 : Hid (Below w.heap.size w w1) := hb1
  have hcall := parse_any s w1 (hL.on hb1)
  clear hb1 hL
  go_wp2_with fail
  refine hcall.mono ?_
  clear hcall
  rintro e w2 ⟨hb2, hQ⟩
  have HB2 : Hid (Below w.heap.size w w2) := below_next HB1.out hb2
  cases hp : pp s.data.toList with
  | none =>
    rw [hp] at hQ
    subst hQ
    clear hp hb2
    go_wp2_with fail
    refine (num_any _ _).mono ?_
    rintro e w3 ⟨rfl, rfl⟩
    go_wp2_with fail
    go_ret
    exact ⟨rfl, HB2.out.alloc HB2.out.size _⟩
  | some ds =>
    rw [hp] at hQ
    obtain ⟨g, c, qs, rfl, hq, hP⟩ := hQ
    obtain ⟨L, hLe⟩ : ∃ L, s = Lx.ba L := ⟨s.data.toList, rfl⟩
    subst hLe
    rw [show (Lx.ba L).data.toList = L from rfl] at hp
    have hpm := pp_pm hp
    obtain ⟨hds8, hdsb⟩ := pm_small hpm
    have hLl : L.length ≤ 2048 := by
      have := (pp_parts hp).1
      unfold Lx.good at this
      simp at this
      exact this.1
    have HPP : Hid (∀ k, pp (tw L k) = if (tw L k).length ≤ 2048 then (if pmay (ds ++ List.replicate k oneD) then some (ds ++ List.replicate k oneD) else none) else none) := fun k => tw_pp hp k
    have hX3 : Bx1 (w2.alloc (.cells #[.slice g ds.length c] 24)) w2.heap.size (.slice g ds.length c) := Bx1.new w2 _
    have HB3 : Hid (Below w.heap.size w (w2.alloc (.cells #[.slice g ds.length c] 24))) := HB2.out.alloc HB2.out.size _
    have hD3 : Defs ExsN (w2.alloc (.cells #[.slice g ds.length c] 24)) g ds := (Pd.defsN hP hq).onE (E' := ExsN) ((Below.refl _ w2).alloc (Nat.le_refl _) _) (fun _ _ k => k.on ((Below.refl _ w2).alloc (Nat.le_refl _) _))
    have hcp := copyprog_any g c ds _ hD3 (by omega) (fun d hd => ⟨by have := (hdsb d hd).1; have := reachBytes_lt; unfold reachBytes; omega, fun x hx => by have := (hdsb d hd).2 x hx; unfold reachBytes; omega⟩)
    have HDS : Hid (ds.length ≤ 8) := hds8
    have HDP : Hid (1 ≤ ds.length) := by
      rcases Nat.lt_or_ge ds.length 1 with h | h
      · rw [pmay_few (by omega)] at hpm; cases hpm
      · exact h
    clear hb2 hp hpm hdsb hP hq hD3 hds8 hX3
    go_wp2_with fail
    refine (num_any _ _).mono ?_
    rintro e w3 ⟨rfl, rfl⟩
    go_wp2_with fail
    refine hcp.mono ?_
    clear hcp
    rintro e w4 ⟨g4, c4, rfl, ⟨qs4, hq4, hl4, hP4, _, _⟩, hb4⟩
    obtain ⟨W3, hW3⟩ : ∃ W3, w2.alloc (.cells #[.slice g ds.length c] 24) = W3 := ⟨_, rfl⟩
    rw [hW3] at hP4 hb4 HB3
    have hds := HDS.out
    have HI : Hid (Lo2 w (W3.heap.size + 2) w4.heap.size ds (w4.alloc (.cells #[.slice g4 ds.length c4] 24)) 0 g4 c4 qs4 ∧ w.heap.size ≤ W3.heap.size + 2 ∧ w.heap.size ≤ w4.heap.size) := by
      have h1 := HB3.out.size
      have h2 := hb4.size
      have h3 : W3.heap.size + 2 ≤ w4.heap.size := by
        rcases hP4.own.2 with ⟨h5, h6⟩ | ⟨b, cap, cur, hv, hb5, hh, _⟩
        · have := HDP.out; simp at h5; omega
        · have := (Array.getElem?_eq_some_iff.1 hh).1; omega
      refine ⟨⟨hP4.alloc _, by rw [hq4]; simp, Bx1.new w4 _, (below_next HB3.out hb4).alloc (by omega) _, by rw [World.size_alloc]; omega⟩, by omega, by omega⟩
    clear hW3 hP4 hq4 hl4 hb4 HB3 HB2 HB1
    go_wp2_with fail
    go_loopw [8, 10] (fun s8 s10 wr => ∃ (i : Nat) (g1 : Option Addr) (c1 : Nat) (qs1 : List Dt), i ≤ j ∧ s8 = .string (Lx.ba (tw L i)) ∧ s10 = .int .i64 (i : Int) ∧ Hid (Lo2 w (W3.heap.size + 2) w4.heap.size ds wr i g1 c1 qs1))
      (fun _ s10 _ => j - (intOf s10).toNat)
    case atStart => exact ⟨0, g4, c4, qs4, Nat.zero_le _, rfl, rfl, HI.out.1⟩
    case round =>
      obtain ⟨i, g1, c1, qs1, hi, rfl, rfl, HR⟩ := hrel
      have p0 := HR.out.box.c0
      have pl := HR.out.box.lt
      by_cases hlt : i < j
      · have hlt' : (i : Int) < (j : Int) := by omega
        obtain ⟨A, hA⟩ : ∃ A, tw L i = A := ⟨_, rfl⟩
        have z1 : (Lx.ba A).size ≤ 2092 := by show A.length ≤ 2092; rw [← hA, tw_len]; omega
        obtain ⟨D, hD⟩ : ∃ D, tw L (i + 1) = D := ⟨_, rfl⟩
        have e1 : Lx.ba A ++ ⟨#[10, 40, 100, 101, 102, 32, 49, 32, 36, 48, 41]⟩ = Lx.ba D := by
          rw [← hD, tw, hA]; exact ba_add A (10 :: oneL)
        have z2 : (Lx.ba D).size ≤ 2092 := by show D.length ≤ 2092; rw [← hD, tw_len]; omega
        have HD : Hid (tw L (i + 1) = D) := hD
        have hlen : (qs1.length + 1) * 32 ≤ 140737488355328 := by have h1 := HR.out.len; have h2 := HDS.out; omega
        rw [hA]
        clear hA hD hj
        go_upto_region 13 with fail
        clear z1 e1 hlt'
        go_wp2_with (at_builtin; refine app_df rfl _ _ rfl (W3.heap.size + 2) (.slice g1 (ds.length + i) c1) qs1 (oneD, some ⟨wr.heap.size, 0, none⟩, 1) _ rfl rfl (wr.heap.size + 1) (by simp) rfl (HR.out.pd.alloc _) (one_exsT wr) (by have := HR.out.base; simp; omega) hlen ?_)
        intro v3 w3 hP3 hg3
        obtain ⟨g3, k3, rfl⟩ := hP3.val
        have hl3 : (qs1 ++ [((oneD, some ⟨wr.heap.size, 0, none⟩, 1) : Dt)]).length = ds.length + i + 1 := by rw [List.length_append, HR.out.len]; rfl
        rw [hl3] at hP3 ⊢
        obtain ⟨hb3, hR3⟩ := Lo2.put HR.out HI.out.2.1 HI.out.2.2 hP3 hg3
        have HR3 : Hid _ := hR3
        have q0 := hb3.c0
        have qf := hb3.frozen 0
        have ql := hb3.lt
        clear hP3 hg3 hb3 hR3 hl3 p0 pl
        go_wp2_with fail
        go_roundw
        case rel => exact ⟨i + 1, g3, k3, _, by omega, by rw [HD.out], by go_num, HR3⟩
        case measure => simp [intOf]; omega
      · have hlt' : ¬ (i : Int) < (j : Int) := by omega
        obtain rfl : i = j := by omega
        obtain ⟨A, hA⟩ : ∃ A, tw L i = A := ⟨_, rfl⟩
        obtain ⟨E, hE⟩ : ∃ E, ds ++ List.replicate i oneD = E := ⟨_, rfl⟩
        have hEl : ds.length + i = E.length := by rw [← hE]; simp
        have z1 : (Lx.ba A).size ≤ 2092 := by show A.length ≤ 2092; rw [← hA, tw_len]; omega
        have hpA : pp A = if A.length ≤ 2048 then (if pmay E then some E else none) else none := by have h := HPP.out i; rw [hA, hE] at h; exact h
        have hbx := HR.out.box
        have hpd := HR.out.pd
        have hmp := HR.out.map
        rw [hEl] at hbx hpd
        rw [hE] at hmp
        have HX : Hid (Bx1 wr w4.heap.size (.slice g1 E.length c1)) := hbx
        have HD : Hid (Defs Exs wr g1 E) := hpd.defs' hmp
        have HB : Hid (Below w.heap.size w wr) := HR.out.low
        have hcall := parse_any (Lx.ba A) wr (HL.out.on HB.out)
        rw [show (Lx.ba A).data.toList = A from rfl, hpA] at hcall
        rw [hA]
        have hzA : (Lx.ba A).size = A.length := rfl
        clear hA hE hEl hpA hbx hpd hmp HR HI HPP HDS HDP hlt hlt' hi hj hj4 hLl p0 pl
        by_cases hlong : A.length ≤ 2048
        · have hl1 : decide ((2048 : Int) < ((Lx.ba A).size : Int)) = false := decide_eq_false (by omega)
          have hl2 : ¬ (2048 : Int) < ((Lx.ba A).size : Int) := by omega
          rw [if_pos hlong] at hcall
          clear hlong hzA
          obtain ⟨b, hb⟩ : ∃ b, pmay E = b := ⟨_, rfl⟩
          have HBE : Hid (pmay E = b) := hb
          rw [hb] at hcall
          clear hb
          go_wp2_with fail
          refine hcall.mono ?_
          clear hcall
          rintro e w5 ⟨hb5, hQ⟩
          have HX5 : Hid (Bx1 w5 w4.heap.size (.slice g1 E.length c1)) := HX.out.on hb5
          have HD5 : Hid (Defs Exs w5 g1 E) := HD.out.on hb5
          have HB5 : Hid (Below w.heap.size w w5) := below_next HB.out hb5
          have x5 := HX5.out.c0
          have l5 := HX5.out.lt
          have hrp : ∀ o : Obj, Calls Tryz.prog 19 #[.agg #[.slice g1 E.length c1]] (w5.alloc o) fun r w' => r = .returned (.bool b) ∧ Below (w5.alloc o).heap.size (w5.alloc o) w' := fun o => by rw [← HBE.out]; exact rprog_any g1 c1 E _ (HD5.out.on ((Below.refl _ w5).alloc (Nat.le_refl _) _))
          cases b with
          | false =>
            have hQ' : e = .returned (.tuple #[pV none 0 0, .int .i64 700]) := hQ
            subst hQ'
            clear hQ hb5 HX HD HB
            go_wp2_with fail
            refine (hrp _).mono ?_
            rintro e w6 ⟨rfl, hb6⟩
            have y6 := ((Bx1.new w5 (.slice none 0 0)).on hb6).c0
            have HB6 : Hid (Below w.heap.size w w6) := below_next (HB5.out.alloc HB5.out.size _) hb6
            clear hb6 hrp
            go_wp2_with fail
            refine (num_any _ _).mono ?_
            rintro e w7 ⟨rfl, rfl⟩
            go_wp2_with fail
            go_ret
            exact ⟨rfl, HB6.out⟩
          | true =>
            have hQ' : ∃ g c qs, e = .returned (.tuple #[pV g E.length c, .int .i64 0]) ∧ qs.map (·.1) = E ∧ Pd w5 wr.heap.size (.slice g E.length c) qs := hQ
            obtain ⟨g6, c6, qs6, rfl, hm6, hP6⟩ := hQ'
            have HQ5 : Hid (Defs Exs w5 g6 E) := hP6.defs' hm6
            clear hQ hm6 hP6 hb5 HX HD HB
            go_wp2_with fail
            refine (hrp _).mono ?_
            rintro e w6 ⟨rfl, hb6⟩
            have hbb : Below w5.heap.size w5 w6 := below_next ((Below.refl _ w5).alloc (Nat.le_refl _) _) hb6
            have y6 := ((Bx1.new w5 (.slice g6 E.length c6)).on hb6).c0
            have x6 := (HX5.out.on hbb).c0
            have HB6 : Hid (Below w.heap.size w w6) := below_next HB5.out hbb
            have hsm := same_may g6 g1 E c6 c1 w6 (HQ5.out.on hbb) (HD5.out.on hbb) HBE.out
            clear hb6 hbb hrp x5 HX5 HD5 HB5 HQ5
            go_wp2_with fail
            refine (num_any _ _).mono ?_
            rintro e w7 ⟨rfl, rfl⟩
            go_wp2_with fail
            refine hsm.mono ?_
            clear hsm
            rintro e w8 ⟨rfl, hb8⟩
            have HB8 : Hid (Below w.heap.size w w8) := below_next HB6.out hb8
            have hfd : ∀ (b : Nat) (W : World), (Instr.field 24 (.agg #[.slice (some ⟨b, 0, none⟩) 2 2]) 0).run Tryz.prog W = .ok (.slice (some ⟨b, 0, none⟩) 2 2) W := fun _ _ => by kernel_rfl
            clear hb8 HB6 y6 x6
            go_wp2_with fail
            refine (small_any _).mono ?_
            rintro e w9 ⟨rfl, _, hb9, _⟩
            have HB9 : Hid (Below w.heap.size w w9) := below_next HB8.out hb9
            obtain ⟨s0, hs0⟩ : ∃ s : ByteArray, s = Lx.ba srcL := ⟨_, rfl⟩
            have hsrc : Calls Tryz.prog 17 #[] w9 fun e w' => e = .returned (.string s0) ∧ w9 = w' := by rw [hs0]; exact source_any w9
            have hne : (s0.toList != []) = true := by rw [hs0, Lib.toList_data]; rfl
            have hne' : (s0.toList == []) = false := by rw [hs0, Lib.toList_data]; rfl
            clear hb9 HB8 hs0
            go_wp2_with fail
            refine hsrc.mono ?_
            rintro e w10 ⟨rfl, rfl⟩
            go_wp2_with fail
            go_ret
            exact ⟨by first | rfl | simp [hne], HB9.out⟩
        · have hl1 : decide ((2048 : Int) < ((Lx.ba A).size : Int)) = true := decide_eq_true (by omega)
          have hl2 : (2048 : Int) < ((Lx.ba A).size : Int) := by omega
          rw [if_neg hlong] at hcall
          clear hlong hzA HX HD
          go_wp2_with fail
          refine hcall.mono ?_
          clear hcall
          rintro e w5 ⟨hb5, hQ⟩
          have hQ' : e = .returned (.tuple #[pV none 0 0, .int .i64 700]) := hQ
          subst hQ'
          have HB5 : Hid (Below w.heap.size w w5) := below_next HB.out hb5
          clear hQ hb5 HB
          go_wp2_with fail
          refine (num_any _ _).mono ?_
          rintro e w7 ⟨rfl, rfl⟩
          go_wp2_with fail
          go_ret
          exact ⟨rfl, HB5.out.alloc HB5.out.size _⟩

set_option maxRecDepth 100000 in
/-- What the walk gives, for every argument and every world that holds the list. -/
theorem contract (H : Type) (enc : TypeId × Value → H) (W : World) (base : Nat) (args : Array Value) (ds gs : List (DataW H)) (before : List MemPlace)
    (hval : ∀ (j : Nat) t v, Tryz.f8.params[j]? = some t → args[j]? = some v → Value.okWide Tryz.prog W .any base t v)
    (hW : DataW.Whole enc Tryz.prog Tryz.f8.params.toList Rows.parseTwoSpec.vars false W args.toList ds gs before)
    (hL : laidMetH Tryz.prog Rows.parseTwoRow.laid W) :
    Calls Tryz.prog 8 args W fun e W' => ∃ v, e = .returned v ∧ Rows.parseTwoSpec.post enc Tryz.prog Tryz.f8 false true false false W args v W' := by
  have hW' := hW
  obtain ⟨p, q, hA0, hV, rfl, hfz, hnd⟩ := hW
  have hA : DataW.TrodAll enc Tryz.prog W 0 (fun _ => true) true Tryz.f8.params.toList args.toList ds p := hA0
  rw [Tryz.params8] at hA hval
  obtain ⟨v0, vs0, d0, ds0, p0, q0, hargs, rfl, rfl, h0, r0⟩ := trodAll_cons hA
  obtain ⟨v1, vs1, d1, ds1, p1, q1, rfl, rfl, rfl, h1, r1⟩ := trodAll_cons r0
  obtain ⟨rfl, rfl, rfl⟩ := trodAll_nil r1
  obtain rfl : args = #[v0, v1] := by cases args; simp_all
  obtain ⟨rfl, rfl⟩ := trodVars_none hV
  obtain ⟨a0, rfl, rfl, rfl, w0⟩ := open_string Tryz.underlying9 (hval 0 9 v0 rfl rfl) h0
  obtain ⟨a1, rfl, rfl, rfl, w1⟩ := open_int Tryz.underlying3 (hval 1 3 v1 rfl rfl) h1
  clear hA0
  simp only [List.append_nil] at hW'
  refine (walk a0 a1 W (lw_of hL)).mono fun e W' ⟨he, hg⟩ => ?_
  subst he
  exact ⟨_, rfl, _, _, _, [], [], [], hW', trodAll_cons_mk (shut_bool Tryz.underlying4 _) trodAll_mk0, trodAll_cons_mk (shut_string Tryz.underlying9 w0) (trodAll_cons_mk (shut_int Tryz.underlying3 w1) trodAll_mk0), rfl, hg.frame _, fun h => by cases h⟩

theorem reads (os : Os) {H : Type} (enc : TypeId × Value → H) : ∃ places, DataW.whole enc Tryz.prog ((World.laidAll Tryz.prog os Rows.parseTwoRow.laid).forCall (fun _ _ => 0) ⟨#[], #[.string ⟨#[]⟩, .int .i64 0], []⟩).memory Tryz.f8.params.toList Rows.parseTwoSpec.vars false #[Value.string ⟨#[]⟩, .int .i64 0].toList 8 = some ([.lit (.string []), .lit (.int .i64 0)], [], places) :=
  ⟨[], by kernel_rfl⟩

set_option maxRecDepth 100000 in
theorem lifted (os : Os) (started : os.Started) (H : Type) (enc : TypeId × Value → H) (F : Stop.Interp) :
    ReturnsInHanded {} Tryz.checked os 8 .any ((OpenSpec.ofChange Rows.parseTwoSpec).preRow enc Tryz.prog Tryz.f8 Rows.parseTwoRow.domain false Rows.parseTwoRow.laid) (((OpenSpec.ofChange Rows.parseTwoSpec).at F).post enc Tryz.prog Tryz.f8 false true false false) := by
  obtain ⟨places, hx⟩ := reads os enc
  refine returnsInHanded_of_row (C := Tryz.checked) (s := OpenSpec.ofChange Rows.parseTwoSpec) own started (by kernel_rfl) Tryz.func8
    (witness_row_atRef (enc := enc) (C := Tryz.checked) false (World.laidAll Tryz.prog os Rows.parseTwoRow.laid) #[.string ⟨#[]⟩, .int .i64 0] (World.laidAll_os _ _ _) (by kernel_rfl) (by kernel_rfl) (by kernel_rfl)
      (OpenSpec.preRow_of_cond 8 hx (by kernel_rfl) (fun k hk => by cases hk) (by kernel_rfl) (door_met os _))) ?_
  intro W base args ds gs before hval hW _ _ _ hL _ _
  exact contract H enc W base args ds gs before hval hW hL

theorem said : Rows.ParseTwoSaid :=
  OpenClaim.holds_of_cond 8 Tryz.f8 rfl rfl rfl rfl rfl rfl rfl ⟨rfl, rfl, rfl, rfl, rfl⟩ rfl rfl rfl rfl rfl (by kernel_rfl) Tryz.func8 (by kernel_rfl)
    (of_decide_eq_true (by kernel_rfl)) (by unfold Func.isWrapper; first | (rw [if_pos (by decide +kernel)]; kernel_rfl) | (rw [if_neg (by decide +kernel)]; exact ⟨rfl, rfl⟩))
    (fun os started H enc _ F => by rw [OpenClaim.pre_eq_preRow]; exact lifted os started H enc F)

theorem plain (f : FuncId) (fn : Func) (hf : Tryz.pinned.checked.prog.funcNamed "sleuth/sleuthlaw7.ParseTwo" = some f) (hfn : Tryz.pinned.checked.prog.funcs[f]? = some fn) :
    true = Tryz.pinned.checked.prog.looks [] ∧ ∀ (j : Nat) t, fn.params[j]? = some t → Tryz.pinned.checked.prog.wantsStandIn t = false := by
  obtain rfl : f = 8 := Option.some.inj ((show Tryz.prog.funcNamed "sleuth/sleuthlaw7.ParseTwo" = some 8 by kernel_rfl).symm.trans hf) |>.symm
  obtain rfl : fn = Tryz.f8 := (Option.some.inj (Tryz.func8.symm.trans hfn)).symm
  refine ⟨by kernel_rfl, fun j t ht => ?_⟩
  rw [Tryz.params8] at ht
  have hm : t ∈ [9, 3] := by simpa using Array.mem_of_getElem? ht
  have hall : ([9, 3].all fun u => !Tryz.prog.wantsStandIn u) = true := by kernel_rfl
  exact (show Tryz.prog.wantsStandIn t = false by simpa using List.all_eq_true.1 hall t hm)

/-- The given statement. -/
theorem card : Rows.ParseTwoCardSaid :=
  Claim7.holds_tied_plain_at .later [] _ _ _ _ said (fun _ h => by cases h) (by kernel_rfl) (fun _ h => by cases h) parseTwo_row_tie rfl ⟨rfl, rfl⟩ (by kernel_rfl) rfl plain (by kernel_rfl)
end Go.Proofs.YtighcikiaddfcaaGreatDoor.parseTwo
namespace Go.Proofs.YtighcikiaddfcaaGreatDoor
theorem parseTwo_holds : Rows.ParseTwoCardSaid := parseTwo.card
end Go.Proofs.YtighcikiaddfcaaGreatDoor
