/- sleuthlaw9.NameFilled returns true at every input: a head that touches no hole is the same whatever stands in the holes; the input is as it was. Conditions: the five listed tables and variables of Go's library read as the program's text lays them; the row's own bound on the lists and texts that come in. -/
import Derived.Test.YtgajnmcjnkfblaaGreatDoorMLaid
import Derived.Laws.OwnMore
import Derived.Laws.IdiomStrings
import Derived.Deep.OwnRows
import Derived.SizedLaws
import Derived.ChangeMaps5
import Derived.WalkKit
import Derived.ProofKit
import Derived.OpenShut
import Derived.Test.YtgajnmcjnkfblaaGreatDoorMNRh
import Derived.Test.YtgajnmcjnkfblaaGreatDoorMNHead
import Derived.Test.YtgajnmcjnkfblaaGreatDoorMNPure
import Derived.Test.YtgajnmcjnkfblaaGreatDoorMCopy
import Derived.Test.YtgajnmcjnkfblaaGreatDoorMKids
namespace Go.Proofs.YtgajnmcjnkfblaaGreatDoor.nameFilled
open Go.RowKit
set_option linter.unusedVariables false

theorem umod9 (x : Int) (n : Nat) (h : 0 < n) : ∃ m : Nat, (IntKind.u64.wrap x).tmod (n : Int) = (m : Int) ∧ m < n := by
  have h0 : 0 ≤ IntKind.u64.wrap x := by rw [IntKind.wrap_u64]; omega
  rw [Int.tmod_eq_emod_of_nonneg h0]
  have h1 := Int.emod_nonneg (IntKind.u64.wrap x) (show (n : Int) ≠ 0 by omega)
  have h2 := Int.emod_lt_of_pos (IntKind.u64.wrap x) (show (0 : Int) < n by omega)
  exact ⟨(IntKind.u64.wrap x % (n : Int)).toNat, by omega, by omega⟩
theorem hd_no {ds : List Df} {fn : Int} {args : List Wdn} {f : Int} (h : hdE ds fn args f ≠ 0) : hdT ds fn args f = [] := by
  unfold hdT hdE at *
  split
  · rename_i hk
    rw [if_pos hk] at h
    exact tx_no h
  · rfl
theorem hd_few {ds : List Df} {fn : Int} {args : List Wdn} {f : Int} (h : hdE ds fn args f = 0) : args.length ≤ 3 := by
  unfold hdE at h
  by_cases hk : askB ds fn args f = true
  · obtain ⟨h1, h2, ⟨d, h3, h4⟩, _⟩ := ask_parts hk
    have := (may_lvl (pmay_ok h1 h3).1).2.1
    omega
  · rw [if_neg hk] at h; cases h
set_option maxRecDepth 100000 in
set_option maxHeartbeats 3200000 in
/-- The walk: the law's Go text returns true. -/
theorem walk (g : Option Addr) (ds : List Df) (c : Nat) (fn : Int) (ga : Option Addr) (xs : List ByteArray) (ca : Nat) (a : Int) (s : ByteArray) (w : World) (hd : Defs ExsN w g ds) (hb : ds.length * 32 ≤ 140737488351232) (hk : ∀ d ∈ ds, DBd d)
    (hin : Tm.Inc w ga xs ca) (hn : xs.length * 16 ≤ 140737488351232) (hxs : ∀ x ∈ xs, x.size ≤ 140737488355328) (hs : s.size ≤ 140737488355328) (hw : Tm.Lw w) :
    Calls Tryz.prog 4 #[.agg #[.slice g ds.length c], .int .i64 fn, .slice ga xs.length ca, .int .i64 a, .string s] w fun e w' => e = .returned (.bool true) ∧ Below w.heap.size w w' := by
  obtain ⟨j, hj, hjl⟩ := umod9 a 401 (by decide)
  have hj : (IntKind.u64.wrap a).tmod 401 = (j : Int) := hj
  have hdx : Defs Exs w g ds := hd.onE (Below.refl _ w) (fun _ _ k => k.exs)
  have HW := hid hw
  have HX0 := hid (Bx1.new w (.slice g ds.length c))
  have HA0 : Hid (Below w.heap.size w (w.alloc (.cells #[.slice g ds.length c] 24))) := (Below.refl _ w).alloc (Nat.le_refl _) _
  have HD : Hid (Defs Exs w g ds ∧ Tm.Txts w ga xs ∧ (∀ x ∈ xs, x.size ≤ 140737488355328) ∧ s.size ≤ 140737488355328 ∧ j ≤ 400) := ⟨hdx, hin.txts, hxs, hs, by omega⟩
  have HM : Hid (∀ W, Below w.heap.size w W → Calls Tryz.prog 11 #[.agg #[.slice g ds.length c], .int .i64 fn, .slice ga xs.length ca, .int .i64 (j : Int)] W fun e w' => e = .returned (.tuple #[.string ⟨(hdT ds fn (Tm.lst xs) (j : Int)).toArray⟩, .int .i64 (hdE ds fn (Tm.lst xs) (j : Int))]) ∧ Below W.heap.size W w') := fun W h =>
    head_any g c ds fn ga ca xs (j : Int) W (hdx.on h) (hin.txts.on h) hxs (Tm.Lw.on hw h) (by omega)
  have HTM : Hid (∀ W, Calls Tryz.prog 17 #[.string s] W fun e w' => e = .returned (.bool (Tm.whole s.data.toList).isSome) ∧ Below W.heap.size W w') := fun W => Tm.rmay_any s W hs
  obtain ⟨T, hT⟩ : ∃ T : ByteArray, (⟨(hdT ds fn (Tm.lst xs) (j : Int)).toArray⟩ : ByteArray) = T := ⟨_, rfl⟩
  obtain ⟨E, hE⟩ : ∃ E, hdE ds fn (Tm.lst xs) (j : Int) = E := ⟨_, rfl⟩
  obtain ⟨mb, hmb⟩ : ∃ b, (Tm.whole s.data.toList).isSome = b := ⟨_, rfl⟩
  have HNO : Hid (E ≠ 0 → T = ⟨#[]⟩) := fun h => by rw [← hT, hd_no (by rw [hE]; exact h)]
  have HFEW : Hid (E = 0 → xs.length ≤ 3) := fun h => by have := hd_few (hE.trans h); rw [lst_len] at this; exact this
  have HF : Hid (E = 0 → mb = true → (⟨(hdT ds fn (fillW s.data.toList (Tm.lst xs)) (j : Int)).toArray⟩ : ByteArray) = T ∧ hdE ds fn (fillW s.data.toList (Tm.lst xs)) (j : Int) = 0) := fun h1 h2 => by
    obtain ⟨q1, q2⟩ := hd_fill (w := s.data.toList) (hmb.trans h2) (hE.trans h1)
    rw [q1, hT]; exact ⟨rfl, q2⟩
  rw [hT, hE] at HM
  rw [hmb] at HTM
  obtain ⟨n, hnn⟩ : ∃ n, ds.length = n := ⟨_, rfl⟩
  obtain ⟨m, hmm⟩ : ∃ m, xs.length = m := ⟨_, rfl⟩
  have HNM : Hid (ds.length = n ∧ xs.length = m) := ⟨hnn, hmm⟩
  rw [hnn, hmm] at HM
  rw [hmm] at HFEW
  rw [hnn] at HX0 HA0 ⊢
  rw [hmm]
  have hm47 : m ≤ 140737488351232 := by omega
  clear hT hE hw hd hb hk hin hn hxs hnn hmm hdx hmb hs
  have HAW := hid (awake9 _ (Tm.Lw.on HW.out HA0.out))
  go_enter Tryz.func4, Tryz.ntmps4
  go_wp2_with fail
  refine HAW.out.mono ?_
  rintro e w1 ⟨rfl, hb1⟩
  have HB1 := hid (Lx.below_next HA0.out hb1)
  have HX1 := hid (HX0.out.on hb1)
  have x0 := HX1.out.c0
  have xl := HX1.out.lt
  clear hb1 HAW HX0
  go_wp2_with fail
  refine (HM.out _ HB1.out).mono ?_
  rintro e w2 ⟨rfl, hb2⟩
  have HB2 := hid (Lx.below_next HB1.out hb2)
  have HX2 := hid (HX1.out.on hb2)
  have x0 := HX2.out.c0
  have xl := HX2.out.lt
  clear hb2 HX1 HM
  go_wp2_with (go_at_call 13; refine (Lx.num_any E w2).mono ?_)
  rintro e w3 ⟨rfl, rfl⟩
  by_cases h0 : E = 0
  · subst h0
    have hm3 : m ≤ 3 := HFEW.out rfl
    go_wp2_with (go_at_call 17; refine (HTM.out w2).mono ?_)
    rintro e w3 ⟨rfl, hb3⟩
    have HB3 := hid (Lx.below_next HB2.out hb3)
    have HX3 := hid (HX2.out.on hb3)
    have x0 := HX3.out.c0
    have xl := HX3.out.lt
    clear hb3 HX2 HTM
    cases mb with
    | false =>
      go_wp2_with (go_at_call 13; refine (Lx.num_any 0 w3).mono ?_)
      rintro e w4 ⟨rfl, rfl⟩
      go_wp2_with fail
      go_ret
      exact ⟨rfl, HB3.out⟩
    | true =>
      obtain ⟨hf1, hf2⟩ := HF.out (by first | rfl | trivial) (by first | rfl | trivial)
      have HFF : Hid ((⟨(hdT ds fn (fillW s.data.toList (Tm.lst xs)) (j : Int)).toArray⟩ : ByteArray) = T ∧ hdE ds fn (fillW s.data.toList (Tm.lst xs)) (j : Int) = 0) := ⟨hf1, hf2⟩
      clear hf1 hf2 HF HFEW HNO
      obtain ⟨F, hF⟩ : ∃ F : List Wdn, fillW s.data.toList (Tm.lst xs) = F := ⟨_, rfl⟩
      have hFl : F.length = m := by rw [← hF]; unfold fillW; rw [List.length_map, lst_len]; exact HNM.out.2
      have hFs : ∀ x ∈ F.map Tm.ba, x.size ≤ 140737488355328 := by
        intro x hx
        obtain ⟨y, hy, rfl⟩ := List.mem_map.1 hx
        rw [← hF] at hy
        unfold fillW Tm.lst at hy
        simp only [List.map_map, List.mem_map, Function.comp] at hy
        obtain ⟨q, hq, rfl⟩ := hy
        split
        · have h : (Tm.ba s.data.toList).size = s.size := by unfold Tm.ba; show s.data.toList.toArray.size = s.data.size; simp
          rw [h]; exact HD.out.2.2.2.1
        · have h : (Tm.ba q.data.toList).size = q.size := by unfold Tm.ba; show q.data.toList.toArray.size = q.data.size; simp
          rw [h]; exact HD.out.2.2.1 q hq
      have HFD : Hid (F.length = m ∧ ∀ x ∈ F.map Tm.ba, x.size ≤ 140737488355328) := ⟨hFl, hFs⟩
      have HFE := hid hF
      rw [hF] at HFF
      obtain ⟨i0, hi, hi0, hi1, hi2⟩ := info_parts Tm.Tryz.info9
      have HA9 : Hid (∀ {W : World} {g1 : Option Addr} {j c1 : Nat}, W.ownsRow w3.heap.size 9 1 (.slice g1 j c1) (F.take j).length ((F.take j).map Tm.S) → ∀ o : Obj, (W.alloc o).ownsRow w3.heap.size 9 1 (.slice g1 j c1) (F.take j).length ((F.take j).map Tm.S)) := fun h o => h.alloc o
      clear hF hFl hFs
      go_wp2_with fail
      go_loopw [14, 15, 16] (fun s14 s15 _ wr => ∃ (i : Nat) (g1 : Option Addr) (c1 : Nat), i ≤ m ∧ s15 = .int .i64 (i : Int) ∧ s14 = .slice g1 i c1 ∧ Hid (wr.ownsRow w3.heap.size 9 1 (.slice g1 i c1) (F.take i).length ((F.take i).map Tm.S)) ∧ Hid (Below w3.heap.size w3 wr)) (fun _ s15 _ _ => m - (intOf s15).toNat)
      case atStart => exact ⟨0, none, 0, Nat.zero_le _, rfl, rfl, World.ownsRow_nil _ _ _ _, Below.refl _ _⟩
      case round =>
        obtain ⟨i, g1, c1, hi', rfl, rfl, HO, HB⟩ := hrel
        by_cases hlt : i < m
        · have hlt' : (i : Int) < (m : Int) := by omega
          obtain ⟨bt, ot, e, hbt, hc⟩ := txts_cellR HD.out.2.1 (j := i) (by have := HNM.out.2; omega)
          obtain ⟨q, hq⟩ : ∃ q, xs[i]'(by have := HNM.out.2; omega) = q := ⟨_, rfl⟩
          have hxq : xs[i]? = some q := by
            have : xs[i]? = some (xs[i]'(by have := HNM.out.2; omega)) := List.getElem?_eq_getElem _
            rw [hq] at this; exact this
          have hFi : F[i]? = some (if q.data.toList = [95] then s.data.toList else q.data.toList) := by
            rw [← HFE.out]
            unfold fillW Tm.lst
            rw [List.map_map, List.getElem?_map, hxq]; rfl
          rw [hq] at hc
          subst e
          have hb3 : Below w.heap.size w wr := HB3.out.trans (HB.out.mono HB3.out.size)
          have hc' := (hb3.cell (p := ⟨bt, ot + i, none⟩) hbt).trans hc
          have hbt' : bt < wr.heap.size := Nat.lt_of_lt_of_le hbt hb3.size
          have hbz := HB.out.size
          have htk : (F.take i).length = i := by rw [List.length_take]; have := HFD.out.1; omega
          have HTK := hid htk
          clear hq hc hxq hb3 htk x0 xl
          by_cases h95 : q.data.toList = [95]
          · have hqe : q = ⟨#[95]⟩ := ByteArray.ext (Array.ext' h95)
            have HFI : Hid (F[i]? = some s.data.toList) := by show _ = _; rw [hFi, if_pos h95]
            subst hqe
            clear hFi h95
            go_wp2_with (at_builtin; refine wpList_append_own _ rfl _ _ 25 rfl w3.heap.size 9 i0 (.string ⟨#[]⟩) 1 16 Tryz.underlying25 hi hi0 hi1 hi2 rfl (by decide) _ (F.take i).length _ rfl (HO.out.alloc _) ⟨wr.heap.size, 0, none⟩ 1 1 [.string s] rfl rfl ?c1 ?c2 ?c3 ?c4 ?c5 ?_)
            case c1 =>
              intro j u hj
              match j, hj with
              | 0, hj => cases hj; rw [Lib.add_plain, Nat.zero_add, World.cell?_alloc_new]; rfl
              | j + 1, hj => simp at hj
            case c2 => intro u hu; simp at hu; subst hu; rfl
            case c3 => have := HTK.out; unfold maxLen; omega
            case c4 => have := HTK.out; omega
            case c5 => rw [World.size_alloc]; omega
            intro v' w2' hown2 hgrow _
            have hown3 : w2'.ownsRow w3.heap.size 9 1 v' (F.take (i + 1)).length ((F.take (i + 1)).map Tm.S) := by
              have h := hown2
              rw [← List.length_take, ← List.map_take] at h
              rw [List.take_add_one, HFI.out]
              simp only [Option.toList_some, List.length_append, List.map_append, List.length_cons, List.length_nil, List.map_cons, List.map_nil]
              exact h
            obtain ⟨g2, c2, e2, _⟩ := Lx.own_len hown3
            subst e2
            have htk2 : (F.take (i + 1)).length = i + 1 := by rw [List.length_take]; have := HFD.out.1; omega
            have HO3 : Hid (w2'.ownsRow w3.heap.size 9 1 (.slice g2 (i + 1) c2) (F.take (i + 1)).length ((F.take (i + 1)).map Tm.S)) := by
              have h := hown3
              rw [htk2] at h
              show World.ownsRow _ _ _ _ _ _ _
              rw [htk2]; exact h
            have HB5 : Hid (Below w3.heap.size w3 w2') := (HB.out.alloc HB.out.size _).grown hgrow (by rw [World.size_alloc]; omega) (fun k hk => (World.ownsRow.lt HO.out k hk).1)
            simp only [htk2]
            clear hown2 hown3 hgrow HO htk2
            go_wp2_with fail
            go_roundw
            case rel => exact ⟨i + 1, g2, c2, by omega, by go_num, rfl, HO3.out, HB5.out⟩
            case measure => simp [intOf]; omega
          · have hqn : (q.toList == (⟨#[95]⟩ : ByteArray).toList) = false := by
              rw [beq_eq_false_iff_ne]
              intro e
              rw [Lib.toList_data, Lib.toList_data] at e
              exact h95 e
            have hqn2 : (q.toList == [95]) = false := by
              rw [beq_eq_false_iff_ne]
              intro e
              rw [Lib.toList_data] at e
              exact h95 e
            have HFI : Hid (F[i]? = some q.data.toList) := by show _ = _; rw [hFi, if_neg h95]
            clear hFi h95
            go_wp2_with (at_builtin; refine wpList_append_own _ rfl _ _ 25 rfl w3.heap.size 9 i0 (.string ⟨#[]⟩) 1 16 Tryz.underlying25 hi hi0 hi1 hi2 rfl (by decide) _ (F.take i).length _ rfl (HO.out.alloc _) ⟨wr.heap.size, 0, none⟩ 1 1 [.string q] rfl rfl ?c1 ?c2 ?c3 ?c4 ?c5 ?_)
            case c1 =>
              intro j u hj
              match j, hj with
              | 0, hj => cases hj; rw [Lib.add_plain, Nat.zero_add, World.cell?_alloc_new]; rfl
              | j + 1, hj => simp at hj
            case c2 => intro u hu; simp at hu; subst hu; rfl
            case c3 => have := HTK.out; unfold maxLen; omega
            case c4 => have := HTK.out; omega
            case c5 => rw [World.size_alloc]; omega
            intro v' w2' hown2 hgrow _
            have hown3 : w2'.ownsRow w3.heap.size 9 1 v' (F.take (i + 1)).length ((F.take (i + 1)).map Tm.S) := by
              have h := hown2
              rw [← List.length_take, ← List.map_take] at h
              rw [List.take_add_one, HFI.out]
              simp only [Option.toList_some, List.length_append, List.map_append, List.length_cons, List.length_nil, List.map_cons, List.map_nil]
              exact h
            obtain ⟨g2, c2, e2, _⟩ := Lx.own_len hown3
            subst e2
            have htk2 : (F.take (i + 1)).length = i + 1 := by rw [List.length_take]; have := HFD.out.1; omega
            have HO3 : Hid (w2'.ownsRow w3.heap.size 9 1 (.slice g2 (i + 1) c2) (F.take (i + 1)).length ((F.take (i + 1)).map Tm.S)) := by
              have h := hown3
              rw [htk2] at h
              show World.ownsRow _ _ _ _ _ _ _
              rw [htk2]; exact h
            have HB5 : Hid (Below w3.heap.size w3 w2') := (HB.out.alloc HB.out.size _).grown hgrow (by rw [World.size_alloc]; omega) (fun k hk => (World.ownsRow.lt HO.out k hk).1)
            simp only [htk2]
            clear hown2 hown3 hgrow HO htk2
            go_wp2_with fail
            go_roundw
            case rel => exact ⟨i + 1, g2, c2, by omega, by go_num, rfl, HO3.out, HB5.out⟩
            case measure => simp [intOf]; omega
        · have hlt' : ¬ (i : Int) < (m : Int) := by omega
          obtain rfl : i = m := by omega
          have hta : F.take i = F := List.take_of_length_le (by have := HFD.out.1; omega)
          have ho : wr.ownsRow w3.heap.size 9 1 (.slice g1 i c1) F.length (F.map Tm.S) := by
            have h := HO.out
            rw [hta] at h; exact h
          obtain ⟨g', c', e', htx, _⟩ := Tm.own_txts ho
          have hg : g1 = g' := by simp only [Value.slice.injEq] at e'; exact e'.1
          subst hg
          have HTX := hid htx
          have HBW : Hid (Below w.heap.size w wr) := HB3.out.trans (HB.out.mono HB3.out.size)
          have HM2 : Hid (∀ W, Below wr.heap.size wr W → Calls Tryz.prog 11 #[.agg #[.slice g n c], .int .i64 fn, .slice g1 i c1, .int .i64 (j : Int)] W fun e w' => e = .returned (.tuple #[.string T, .int .i64 0]) ∧ Below W.heap.size W w') := fun W h => by
            have hh := head_any g c ds fn g1 c1 (F.map Tm.ba) (j : Int) W ((HD.out.1.on HBW.out).on h) (HTX.out.on h) HFD.out.2 (Tm.Lw.on (Tm.Lw.on HW.out HBW.out) h) (by rw [List.length_map]; have := HFD.out.1; omega)
            rw [Tm.lst_ba, HFF.out.1, HFF.out.2, List.length_map, HFD.out.1, HNM.out.1] at hh
            exact hh
          have HM3 : Hid (∀ W, Below wr.heap.size wr W → Calls Tryz.prog 12 #[.agg #[.slice g n c], .int .i64 fn, .slice g1 i c1, .int .i64 (j : Int)] W fun e w' => e = .returned (.tuple #[.string T, .int .i64 0]) ∧ Below W.heap.size W w') := fun W h => by
            have hh := rhead_any g c ds fn g1 c1 (F.map Tm.ba) (j : Int) W ((HD.out.1.on HBW.out).on h) (HTX.out.on h) HFD.out.2 (by rw [List.length_map]; have := HFD.out.1; omega)
            rw [Tm.lst_ba, HFF.out.1, HFF.out.2, List.length_map, HFD.out.1, HNM.out.1] at hh
            exact hh
          have HX4 := hid (HX3.out.on (show Below w3.heap.size w3 wr from HB.out))
          have x0 := HX4.out.c0
          have xl := HX4.out.lt
          have hTT : (T.toList == T.toList) = true := beq_self_eq_true _
          clear hta ho e' htx HO
          go_wp2_with fail
          refine (HM2.out _ (Below.refl _ _)).mono ?_
          rintro e w4 ⟨rfl, hb4⟩
          have HB4 := hid hb4
          have HX5 := hid (HX4.out.on hb4)
          have x0 := HX5.out.c0
          have xl := HX5.out.lt
          clear hb4
          go_wp2_with fail
          refine (HM3.out _ HB4.out).mono ?_
          rintro e w5 ⟨rfl, hb5⟩
          have HB5 := hid (Lx.below_next HBW.out (Lx.below_next HB4.out hb5))
          clear hb5
          go_wp2_with (go_at_call 13; refine (Lx.num_any 0 w5).mono ?_)
          rintro e w6 ⟨rfl, rfl⟩
          go_wp2_with fail
          go_ret
          exact ⟨rfl, HB5.out⟩
  · have h0' : (E == 0) = false := by simp [h0]
    have h0'' : (E != 0) = true := by simp [h0]
    obtain rfl : T = ⟨#[]⟩ := HNO.out h0
    go_wp2_with (go_at_call 13; refine (Lx.num_any E w2).mono ?_)
    rintro e w3 ⟨rfl, rfl⟩
    go_wp2_with fail
    go_ret
    exact ⟨rfl, HB2.out⟩
open Go.ChangeShapes Go.WideShapes Go.ChangeAt Go.ChangeMaps
set_option maxRecDepth 100000 in
/-- What the walk gives, for every argument and every world that holds the list. -/
theorem contract (H : Type) (enc : TypeId × Value → H) (W : World) (base : Nat) (args : Array Value) (ds gs : List (DataW H)) (before : List MemPlace)
    (hval : ∀ (j : Nat) t v, Tryz.f4.params[j]? = some t → args[j]? = some v → Value.okWide Tryz.prog W .any base t v)
    (hW : DataW.Whole enc Tryz.prog Tryz.f4.params.toList Rows.nameFilledSpec.vars false W args.toList ds gs before)
    (hsz0 : (DataW.weightsEach Tryz.prog (Tryz.f4.params.toList ++ (OpenSpec.ofChange Rows.nameFilledSpec).bare.plain.varTypes Tryz.prog) (ds ++ gs)).all (· ≤ reachBytes) = true) (hL : laidMetH Tryz.prog Rows.nameFilledRow.laid W) :
    Calls Tryz.prog 4 args W fun e W' => ∃ v, e = .returned v ∧ Rows.nameFilledSpec.post enc Tryz.prog Tryz.f4 false true false false W args v W' := by
  have hW' := hW
  obtain ⟨p, q, hA0, hV, rfl, hfz, hnd⟩ := hW
  have hA : DataW.TrodAll enc Tryz.prog W 0 (fun _ => true) true Tryz.f4.params.toList args.toList ds p := hA0
  rw [Tryz.params4] at hA hval hsz0
  obtain ⟨v0, vs0, d0, ds0, p0, q0, hargs, rfl, rfl, h0, r0⟩ := trodAll_cons hA
  obtain ⟨v1, vs1, d1, ds1, p1, q1, rfl, rfl, rfl, h1, r1⟩ := trodAll_cons r0
  obtain ⟨v2, vs2, d2, ds2, p2, q2, rfl, rfl, rfl, h2, r2⟩ := trodAll_cons r1
  obtain ⟨v3, vs3, d3, ds3, p3, q3, rfl, rfl, rfl, h3, r3⟩ := trodAll_cons r2
  obtain ⟨v4, vs4, d4, ds4, p4, q4, rfl, rfl, rfl, h4, r4⟩ := trodAll_cons r3
  obtain ⟨rfl, rfl, rfl⟩ := trodAll_nil r4
  obtain rfl : args = #[v0, v1, v2, v3, v4] := by cases args; simp_all
  obtain ⟨rfl, rfl⟩ := trodVars_none hV
  have k0 := h0
  obtain ⟨g0, xs0, c0, rfl, hin0, hbd0, hkd0⟩ := open_program (j := 0) (hval 0 24 v0 rfl rfl) h0 hsz0 rfl rfl
  obtain ⟨a1, rfl, rfl, rfl, w1⟩ := open_int Tryz.underlying3 (hval 1 3 v1 rfl rfl) h1
  obtain ⟨g2, n2, c2, rfl⟩ := okWide_slice Tryz.underlying25 (hval 2 25 v2 rfl rfl)
  have k2 := h2
  obtain ⟨fuel2, f2⟩ := h2
  obtain ⟨xs2, rfl, hin2, hn2, hxs2⟩ := open_kids (j := 2) f2 hsz0 rfl rfl
  obtain ⟨a3, rfl, rfl, rfl, w3⟩ := open_int Tryz.underlying3 (hval 3 3 v3 rfl rfl) h3
  obtain ⟨a4, rfl, rfl, rfl, w4⟩ := open_string Tryz.underlying9 (hval 4 9 v4 rfl rfl) h4
  have hbd4 : a4.size ≤ 140737488355328 := by
    have hb := sized_string hsz0 (j := 4) (t := 9) rfl rfl
    have e : a4.data.toList.length = a4.size := by simp
    have := reachBytes_lt
    omega
  clear hA0
  simp only [List.append_nil, List.nil_append] at hW'
  have hlt0 : ∀ x ∈ p0, x.block < W.heap.size := fun x hx => by simpa using hW'.lt x (List.mem_append_left _ hx)
  have hlt2 : ∀ x ∈ p2, x.block < W.heap.size := fun x hx => by simpa using hW'.lt x (List.mem_append_right _ hx)
  refine (walk g0 xs0 c0 a1 g2 xs2 c2 a3 a4 W hin0 hbd0 hkd0 hin2 hn2 hxs2 hbd4 (lw_of hL)).mono fun e W' ⟨he, hg⟩ => ?_
  subst he
  exact ⟨_, rfl, _, _, _, [], (p0 ++ ([] ++ (p2 ++ ([] ++ ([] ++ []))))), [], hW', trodAll_cons_mk (shut_bool Tryz.underlying4 _) trodAll_mk0, trodAll_cons_mk (Below.trod laidOut (by kernel_rfl) (of_decide_eq_true (by kernel_rfl)) k0 hg hlt0) (trodAll_cons_mk (shut_int Tryz.underlying3 w1) (trodAll_cons_mk (Below.trod laidOut (by kernel_rfl) (of_decide_eq_true (by kernel_rfl)) k2 hg hlt2) (trodAll_cons_mk (shut_int Tryz.underlying3 w3) (trodAll_cons_mk (shut_string Tryz.underlying9 w4) trodAll_mk0)))), rfl, hg.frame _, fun h => by cases h⟩

theorem reads (os : Os) {H : Type} (enc : TypeId × Value → H) : ∃ places, DataW.whole enc Tryz.prog ((World.doorLaid Tryz.prog 62 os).forCall (fun _ _ => 0) ⟨#[], #[.agg #[.slice none 0 0], .int .i64 0, .slice none 0 0, .int .i64 0, .string ⟨#[]⟩], []⟩).memory Tryz.f4.params.toList Rows.nameFilledSpec.vars false #[Value.agg #[.slice none 0 0], .int .i64 0, .slice none 0 0, .int .i64 0, .string ⟨#[]⟩].toList 8 = some ([.agg [.nil], .lit (.int .i64 0), .nil, .lit (.int .i64 0), .lit (.string [])], [], places) :=
  ⟨[], by kernel_rfl⟩

set_option maxRecDepth 100000 in
theorem lifted (os : Os) (started : os.Started) (H : Type) (enc : TypeId × Value → H) (F : Stop.Interp) :
    ReturnsInHanded {} Tryz.checked os 4 .any ((OpenSpec.ofChange Rows.nameFilledSpec).preRow enc Tryz.prog Tryz.f4 Rows.nameFilledRow.domain false Rows.nameFilledRow.laid) (((OpenSpec.ofChange Rows.nameFilledSpec).at F).post enc Tryz.prog Tryz.f4 false true false false) := by
  obtain ⟨places, hx⟩ := reads os enc
  refine returnsInHanded_of_row (C := Tryz.checked) (s := OpenSpec.ofChange Rows.nameFilledSpec) own started (by kernel_rfl) Tryz.func4
    (witness_row_atRef (enc := enc) (C := Tryz.checked) false (World.doorLaid Tryz.prog 62 os) #[.agg #[.slice none 0 0], .int .i64 0, .slice none 0 0, .int .i64 0, .string ⟨#[]⟩] rfl (by kernel_rfl) (by kernel_rfl) (by kernel_rfl)
      (OpenSpec.preRow_of_cond 8 hx (by kernel_rfl) (fun k hk => by cases hk) (by kernel_rfl) (door_met os _))) ?_
  intro W base args ds gs before hval hW _ _ hsz hL _ _
  exact contract H enc W base args ds gs before hval hW hsz hL

theorem said : Rows.NameFilledSaid :=
  OpenClaim.holds_of_cond 4 Tryz.f4 rfl rfl rfl rfl rfl rfl rfl ⟨rfl, rfl, rfl, rfl, rfl⟩ rfl rfl rfl rfl rfl (by kernel_rfl) Tryz.func4 (by kernel_rfl)
    (of_decide_eq_true (by kernel_rfl)) (by unfold Func.isWrapper; first | (rw [if_pos (by decide +kernel)]; kernel_rfl) | (rw [if_neg (by decide +kernel)]; exact ⟨rfl, rfl⟩))
    (fun os started H enc _ F => by rw [OpenClaim.pre_eq_preRow]; exact lifted os started H enc F)

theorem plain (f : FuncId) (fn : Func) (hf : Tryz.pinned.checked.prog.funcNamed "sleuth/sleuthlaw9.NameFilled" = some f) (hfn : Tryz.pinned.checked.prog.funcs[f]? = some fn) :
    true = Tryz.pinned.checked.prog.looks [] ∧ ∀ (j : Nat) t, fn.params[j]? = some t → Tryz.pinned.checked.prog.wantsStandIn t = false := by
  obtain rfl : f = 4 := Option.some.inj ((show Tryz.prog.funcNamed "sleuth/sleuthlaw9.NameFilled" = some 4 by kernel_rfl).symm.trans hf) |>.symm
  obtain rfl : fn = Tryz.f4 := (Option.some.inj (Tryz.func4.symm.trans hfn)).symm
  refine ⟨by kernel_rfl, fun j t ht => ?_⟩
  rw [Tryz.params4] at ht
  have hm : t ∈ [24, 3, 25, 3, 9] := by simpa using Array.mem_of_getElem? ht
  have hall : ([24, 3, 25, 3, 9].all fun u => !Tryz.prog.wantsStandIn u) = true := by kernel_rfl
  exact (show Tryz.prog.wantsStandIn t = false by simpa using List.all_eq_true.1 hall t hm)

/-- The given statement. -/
theorem card : Rows.NameFilledCardSaid :=
  Claim7.holds_tied_plain_at .later [] _ _ _ _ said (fun _ h => by cases h) (by kernel_rfl) (fun _ h => by cases h) nameFilled_row_tie rfl ⟨rfl, rfl⟩ (by kernel_rfl) rfl plain (by kernel_rfl)
end Go.Proofs.YtgajnmcjnkfblaaGreatDoor.nameFilled
namespace Go.Proofs.YtgajnmcjnkfblaaGreatDoor
theorem nameFilled_holds : Rows.NameFilledCardSaid := nameFilled.card
end Go.Proofs.YtgajnmcjnkfblaaGreatDoor
