/- The contract of the document's DefMay: which definitions may be. · Definitions in memory; the contracts of hasTaker, of the function that May hands on, of slices.IndexFunc and slices.ContainsFunc with it. · The contracts of the function that May hands on, and of slices.IndexFunc and slices.ContainsFunc with it. · The contract of program.May. · The contract of the document's ProgramMay. -/
import Derived.Test.YtjamknejllbmkaaGreatDoorMExpr
import Derived.Test.YtjamknejllbmkaaGreatDoorMPlain
import Derived.BigQuiet

namespace Go.Proofs.YtjamknejllbmkaaGreatDoor
open Go.RowKit
set_option linter.unusedVariables false

/-- What the document's levels may hold. -/
def FineR (M : List Int) : Prop := ∀ v ∈ M, 0 ≤ v ∧ v ≤ 12
theorem FineR.set {M : List Int} (h : FineR M) (j : Nat) {v : Int} (h1 : 0 ≤ v) (h2 : v ≤ 12) : FineR (M.set j v) := by
  intro u hu
  rcases List.mem_or_eq_of_mem_set hu with h' | h'
  · exact h u h'
  · subst h'; exact ⟨h1, h2⟩
theorem rstart_fine {p : Int} {n : Nat} (h0 : 0 ≤ p) (h3 : p ≤ 3) : FineR (rstart p n) := by
  unfold rstart
  refine FineR.set (fun v hv => ?_) _ (by omega) (by omega)
  rw [List.eq_of_mem_replicate hv]; omega
theorem rmay_no {p : Int} {xs : List Ex} (h : withB p 0 3 = false ∨ withB (xs.length : Int) 1 24 = false) : rmay p xs = false := by
  rw [← may_rmay]; exact may_no h
theorem rmay_yes {p : Int} {xs : List Ex} (h1 : withB p 0 3 = true) (h2 : withB (xs.length : Int) 1 24 = true) : rmay p xs = (rrun (rstart p xs.length) (backw xs)).isSome := by
  have h1 := withB_iff.1 h1
  have h2 := withB_iff.1 h2
  unfold rmay
  rw [if_pos ⟨h1.1, h1.2, by omega, by omega⟩]
theorem rrun_cons {M : List Int} {k : Nat} {e : Ex} {rest : List (Nat × Ex)} {t : Int} (ht : M[k]? = some t) :
    rrun M ((k, e) :: rest) = (if t = 0 then none else if t - 1 > 8 then none else if e.ok (t - 1) = false then none else rd k e t 0 e.kids M).bind fun M' => rrun M' rest := by
  rw [rrun]
  unfold rstp
  simp only [ht]
  split <;> rename_i h <;> rw [h] <;> rfl
theorem rd_no {n : Nat} {e : Ex} {t : Int} {i : Nat} {k : Int} {ks M : List Int} (h : withB k 0 ((n : Int) - 1) = false) : rd n e t i (k :: ks) M = none := by
  rw [rd, if_neg]
  intro hc
  exact withB_not.1 h ⟨hc.1, hc.2.1⟩
theorem rd_taken {n : Nat} {e : Ex} {t : Int} {i : Nat} {k : Int} {ks M : List Int} {v : Int} (h : M[k.toNat]? = some v) (hv : v ≠ 0) : rd n e t i (k :: ks) M = none := by
  rw [rd, if_neg]
  intro hc
  rw [h] at hc
  exact hv (Option.some.inj hc.2.2)
theorem rd_on {n : Nat} {e : Ex} {t : Int} {i : Nat} {k : Int} {ks M : List Int} (h : withB k 0 ((n : Int) - 1) = true) (hv : M[k.toNat]? = some 0) : rd n e t i (k :: ks) M = rd n e t (i + 1) ks (M.set k.toNat (t + e.bd i)) := by
  have hw := withB_iff.1 h
  rw [rd, if_pos ⟨hw.1, hw.2, hv⟩]
theorem backw_take {xs : List Ex} {k : Nat} (h : k < xs.length) : backw (xs.take (k + 1)) = (k, xs[k]) :: backw (xs.take k) := by
  rw [List.take_succ_eq_append_getElem h, backw_snoc, List.length_take, Nat.min_eq_left (by omega)]

theorem cell_set_other {W : World} {b j b' j' : Nat} {v u : Value} (h : W.cell? ⟨b', j', none⟩ = some u) (hne : b' ≠ b ∨ j' ≠ j) : (W.setCell ⟨b, j, none⟩ v).cell? ⟨b', j', none⟩ = some u := by
  rw [World.cell?_setCell_other _ _ _ _ (by intro e; injection e; omega)]; exact h
theorem half0 (n : Nat) : half 0 n = List.replicate n 0 := by simp [half]
theorem half0_at {n j : Nat} (h : j < n) : (half 0 n)[j]? = some 0 := by rw [half0, List.getElem?_replicate, if_pos h]
theorem rstart_cells {p : Int} {n nl : Nat} (h : nl + 1 = n) : (((half 0 n).map (Value.int .i64)).toArray).setIfInBounds nl (.int .i64 (p + 1)) = ((rstart p n).map (Value.int .i64)).toArray := by
  rw [half0]
  unfold rstart
  rw [show n - 1 = nl by omega, List.map_set, List.setIfInBounds_toArray]

set_option maxRecDepth 100000 in
set_option maxHeartbeats 2000000 in
theorem defmay_any (p : Int) (g : Option Addr) (c : Nat) (xs : List Ex) (w : World) (hx : Exs w g xs) :
    Calls Tryz.prog 53 #[.agg #[.int .i64 p, .slice g xs.length c]] w fun e w' => e = .returned (.bool (rmay p xs)) ∧ Below w.heap.size w w' := by
  cases hp : withB p 0 3 with
  | false =>
    have HM : Hid (rmay p xs = false) := rmay_no (.inl hp)
    go_enter Tryz.func53, Tryz.ntmps53
    go_wp2_with (go_at_call 37; refine (upto_any _ _ _ _).mono ?_; rintro e w1 ⟨rfl, rfl⟩)
    go_ret
    exact ⟨ret_bool HM.out.symm, (Below.refl _ _).alloc (Nat.le_refl _) _⟩
  | true =>
    cases hn : withB (xs.length : Int) 1 24 with
    | false =>
      have HM : Hid (rmay p xs = false) := rmay_no (.inr hn)
      go_enter Tryz.func53, Tryz.ntmps53
      go_wp2_with (go_at_call 37; refine (upto_any _ _ _ _).mono ?_; rintro e w1 ⟨rfl, rfl⟩)
      go_ret
      exact ⟨ret_bool HM.out.symm, (Below.refl _ _).alloc (Nat.le_refl _) _⟩
    | true =>
      have hp' := withB_iff.1 hp
      have hn' := withB_iff.1 hn
      obtain ⟨R, hR⟩ : ∃ R, rmay p xs = R := ⟨_, rfl⟩
      have HM : Hid ((rrun (rstart p xs.length) (backw xs)).isSome = R) := (rmay_yes hp hn).symm.trans hR
      rw [hR]
      clear hR
      have hmk := fun W => run_make_row' (P := Tryz.prog) 53 3 (.int .i64 0) 8 Tryz.underlying53 Tryz.info3 rfl .i64 .i64 xs.length (by omega) (by omega) W
      rw [made_half] at hmk
      obtain ⟨nl, hnl⟩ : ∃ nl : Nat, nl + 1 = xs.length := ⟨xs.length - 1, by omega⟩
      have HNL : Hid _ := hnl
      have hsub : (xs.length : Int) - 1 = (nl : Int) := by omega
      have hnlt : (nl : Int) < (xs.length : Int) := by omega
      have hmx : Tryz.prog.follows .mixedOrders = true := by kernel_rfl
      obtain ⟨cs0, hcs⟩ : ∃ cs0, cs0 = ((half 0 xs.length).map (Value.int .i64)).toArray := ⟨_, rfl⟩
      rw [← hcs] at hmk
      have hcl : cs0[nl]? = some (.int .i64 0) := by
        rw [hcs, List.getElem?_toArray, List.getElem?_map, half0_at (by omega)]; rfl
      have HCS : Hid _ := hcs
      clear hcs hnl
      go_enter Tryz.func53, Tryz.ntmps53
      go_wp2_with (go_at_call 37; refine (upto_any _ _ _ _).mono ?_; rintro e w1 ⟨rfl, rfl⟩)
      have hB0 : Below w.heap.size w ((w.alloc (.cells #[.int .i64 p, .slice g xs.length c] 58)).alloc (.cells (cs0.setIfInBounds nl (.int .i64 (p + 1))) 3)) := ((Below.refl _ w).alloc (Nat.le_refl _) _).alloc (by simp) _
      have bL : Lv ((w.alloc (.cells #[.int .i64 p, .slice g xs.length c] 58)).alloc (.cells (cs0.setIfInBounds nl (.int .i64 (p + 1))) 3)) (w.heap.size + 1) (rstart p xs.length) := by
        have h := Lv.new (w.alloc (.cells #[.int .i64 p, .slice g xs.length c] 58)) (rstart p xs.length)
        rw [World.size_alloc] at h
        rw [HCS.out, rstart_cells HNL.out]
        exact h
      have d1 := cell_old (.cells (cs0.setIfInBounds nl (.int .i64 (p + 1))) 3) (cell_new w #[.int .i64 p, .slice g xs.length c] 58 1 _ rfl)
      have hsz : ((w.alloc (.cells #[.int .i64 p, .slice g xs.length c] 58)).alloc (.cells (cs0.setIfInBounds nl (.int .i64 (p + 1))) 3)).heap.size = w.heap.size + 1 + 1 := by simp
      obtain ⟨W1, hW1⟩ : ∃ W1, (w.alloc (.cells #[.int .i64 p, .slice g xs.length c] 58)).alloc (.cells (cs0.setIfInBounds nl (.int .i64 (p + 1))) 3) = W1 := ⟨_, rfl⟩
      rw [hW1] at hB0 bL d1 hsz ⊢
      have HD1 : Hid (W1.cell? ⟨w.heap.size, 1, none⟩ = some (.slice g xs.length c)) := d1
      have HBL0 : Hid (Lv W1 (w.heap.size + 1) (rstart p xs.length)) := bL
      have HB0 : Hid (Below w.heap.size w W1) := hB0
      clear hW1 hmk HCS hcl d1 bL hB0
      go_loopw [4, 5, 6, 7] (fun s4 _ _ _ wr => ∃ (k : Nat) (M : List Int), k ≤ xs.length ∧ s4 = .int .i64 ((k : Int) - 1) ∧ Hid (Lv wr (w.heap.size + 1) M) ∧ Hid ((rrun M (backw (xs.take k))).isSome = R) ∧ M.length = xs.length ∧ Hid (FineR M) ∧ Hid (W1.grownBy wr (some (w.heap.size + 1))))
        (fun s4 _ _ _ _ => (intOf s4 + 1).toNat)
      case atStart =>
        refine ⟨xs.length, rstart p xs.length, Nat.le_refl _, by rw [hsub], HBL0, ?_, rstart_len _ _, rstart_fine hp'.1 hp'.2, World.grownBy.refl _ _⟩
        show _ = _
        rw [List.take_length]; exact HM.out
      case round =>
        obtain ⟨k, M, hk, rfl, HL, HR, hml, HF, HG⟩ := hrel
        have sz := HG.out.size
        have HBW : Hid (Below w.heap.size w wr) := HB0.out.grown HG.out (by omega) (fun k e => by cases e; omega)
        cases k with
        | zero =>
          have HN : Hid (R = true) := by
            show _ = _
            rw [← HR.out, List.take_zero]; rfl
          clear HR
          go_wp2_with fail
          go_ret
          exact ⟨ret_bool HN.out.symm, HBW.out⟩
        | succ k =>
          have hkx : k < xs.length := by omega
          have hkx' : (k : Int) < (xs.length : Int) := by omega
          have ek : ((k + 1 : Nat) : Int) - 1 = (k : Int) := by omega
          rw [ek]
          clear ek
          obtain ⟨bk, o, rfl, hbk, gk, ck, hex⟩ := hx.at hkx
          obtain ⟨e, hee⟩ : ∃ e, xs[k] = e := ⟨_, rfl⟩
          rw [hee] at hex
          have hbt := backw_take hkx
          rw [hee] at hbt
          obtain ⟨rest, hrest⟩ : ∃ rest, backw (xs.take k) = rest := ⟨_, rfl⟩
          obtain ⟨t, ht⟩ : ∃ t, M[k]? = some t := ⟨_, List.getElem?_eq_getElem (by omega)⟩
          have htf := HF.out t (List.mem_of_getElem? ht)
          have HR1 : Hid (((if t = 0 then none else if t - 1 > 8 then none else if e.ok (t - 1) = false then none else rd k e t 0 e.kids M).bind fun M' => rrun M' rest).isSome = R) := by
            show _ = _
            rw [← HR.out, hbt, hrest, rrun_cons ht]
          have hexw := hex.on hbk HBW.out
          have c0 := hexw.1
          have c1 := hexw.2.1
          have c2 := hexw.2.2.1
          have c3 := hexw.2.2.2.1
          have HK : Hid (Nums w gk e.kids) := hex.2.2.2.2
          have hd1 : wr.cell? ⟨w.heap.size, 1, none⟩ = some (.slice (some ⟨bk, o, none⟩) xs.length c) := HG.out.cell HD1.out (by simp)
          have cL := HL.out.cell ht
          have HT : Hid (M[k]? = some t) := ht
          have HRS : Hid _ := hrest
          have hwl : w.heap.size + 1 < wr.heap.size := by omega
          have hS0 := And.intro (cell_new wr #[.int .i64 e.kind, .int .i64 e.num, .int .i64 e.bind, .slice gk e.kids.length ck] 55 0 _ rfl) (And.intro (cell_new wr #[.int .i64 e.kind, .int .i64 e.num, .int .i64 e.bind, .slice gk e.kids.length ck] 55 1 _ rfl) (And.intro (cell_new wr #[.int .i64 e.kind, .int .i64 e.num, .int .i64 e.bind, .slice gk e.kids.length ck] 55 2 _ rfl) (And.intro (cell_new wr #[.int .i64 e.kind, .int .i64 e.num, .int .i64 e.bind, .slice gk e.kids.length ck] 55 3 _ rfl) (cell_old (.cells #[.int .i64 e.kind, .int .i64 e.num, .int .i64 e.bind, .slice gk e.kids.length ck] 55) cL))))
          have HS0 : Hid _ := hS0
          clear HR hbt hee hex hexw ht hrest hS0
          by_cases h0 : t = 0
          · subst h0
            have HN : Hid (R = false) := by
              show _ = _
              rw [← HR1.out, if_pos rfl]; rfl
            clear HR1
            go_wp2_with fail
            have hS0 := HS0.out
            refine wp_region_held (S := fun v => v.cell? ⟨wr.heap.size, 0, none⟩ = some (.int .i64 e.kind) ∧ v.cell? ⟨wr.heap.size, 1, none⟩ = some (.int .i64 e.num) ∧ v.cell? ⟨wr.heap.size, 2, none⟩ = some (.int .i64 e.bind) ∧ v.cell? ⟨wr.heap.size, 3, none⟩ = some (.slice gk e.kids.length ck) ∧ v.cell? ⟨w.heap.size + 1, k, none⟩ = some (.int .i64 0)) hmx ?_
            show wpAnyH _ _ _ _ _ 23 #[false, false, false, false, false, false, false, false, false, false, false, false, false, false, false, false, false, false, false, false, false, false, false] _ _
            refine takeH 0 (some 44) (.slice (some ⟨w.heap.size + 1, 0, none⟩) xs.length xs.length) rfl (by kernel_rfl) (by kernel_rfl) (by kernel_rfl) (fun _ _ _ h => h) (by rintro _ ⟨⟩; exact Or.inl ⟨by rfl, fun v hv => by obtain ⟨v0, v1, v2, v3, v4⟩ := hv; go_simp⟩) hS0 ?_
            simp only [Act.put, List.setIfInBounds_toArray, List.set_cons_zero, List.set_cons_succ]
            refine takeH 1 (some 45) (.int .i64 (k : Int)) rfl (by kernel_rfl) (by kernel_rfl) (by kernel_rfl) (fun _ _ _ h => h) (by rintro _ ⟨⟩; exact Or.inl ⟨by rfl, fun v hv => by obtain ⟨v0, v1, v2, v3, v4⟩ := hv; go_simp⟩) hS0 ?_
            simp only [Act.put, List.setIfInBounds_toArray, List.set_cons_zero, List.set_cons_succ]
            refine takeH 2 (some 46) (.pointer (some ⟨w.heap.size + 1, k, none⟩)) rfl (by kernel_rfl) (by kernel_rfl) (by kernel_rfl) (fun _ _ _ h => h) (by rintro _ ⟨⟩; exact Or.inl ⟨by rfl, fun v hv => by obtain ⟨v0, v1, v2, v3, v4⟩ := hv; go_simp⟩) hS0 ?_
            simp only [Act.put, List.setIfInBounds_toArray, List.set_cons_zero, List.set_cons_succ]
            refine takeH 3 (some 47) (.int .i64 0) rfl (by kernel_rfl) (by kernel_rfl) (by kernel_rfl) (fun _ _ _ h => h) (by rintro _ ⟨⟩; exact Or.inl ⟨by rfl, fun v hv => by obtain ⟨v0, v1, v2, v3, v4⟩ := hv; go_simp⟩) hS0 ?_
            simp only [Act.put, List.setIfInBounds_toArray, List.set_cons_zero, List.set_cons_succ]
            refine takeH 4 (some 48) (.bool true) rfl (by kernel_rfl) (by kernel_rfl) (by kernel_rfl) (fun _ _ _ h => h) (by rintro _ ⟨⟩; exact Or.inl ⟨by rfl, fun v hv => by obtain ⟨v0, v1, v2, v3, v4⟩ := hv; go_simp⟩) hS0 ?_
            simp only [Act.put, List.setIfInBounds_toArray, List.set_cons_zero, List.set_cons_succ]
            refine takeH 5 (some 49) (.bool true) rfl (by kernel_rfl) (by kernel_rfl) (by kernel_rfl) (fun _ _ _ h => h) (by rintro _ ⟨⟩; exact Or.inl ⟨by rfl, fun v hv => by obtain ⟨v0, v1, v2, v3, v4⟩ := hv; go_simp⟩) hS0 ?_
            simp only [Act.put, List.setIfInBounds_toArray, List.set_cons_zero, List.set_cons_succ]
            refine takeH 6 (some 50) (undef) rfl (by kernel_rfl) (by kernel_rfl) (by kernel_rfl) (fun _ _ _ h => h) (by rintro _ ⟨⟩; exact Or.inr ⟨by rfl, rfl⟩) hS0 ?_
            simp only [Act.put, List.setIfInBounds_toArray, List.set_cons_zero, List.set_cons_succ]
            refine takeH 7 (some 51) (undef) rfl (by kernel_rfl) (by kernel_rfl) (by kernel_rfl) (fun _ _ _ h => h) (by rintro _ ⟨⟩; exact Or.inr ⟨by rfl, rfl⟩) hS0 ?_
            simp only [Act.put, List.setIfInBounds_toArray, List.set_cons_zero, List.set_cons_succ]
            refine takeH 8 (some 52) (undef) rfl (by kernel_rfl) (by kernel_rfl) (by kernel_rfl) (fun _ _ _ h => h) (by rintro _ ⟨⟩; exact Or.inr ⟨by rfl, rfl⟩) hS0 ?_
            simp only [Act.put, List.setIfInBounds_toArray, List.set_cons_zero, List.set_cons_succ]
            refine takeH 9 (some 53) (undef) rfl (by kernel_rfl) (by kernel_rfl) (by kernel_rfl) (fun _ _ _ h => h) (by rintro _ ⟨⟩; exact Or.inr ⟨by rfl, rfl⟩) hS0 ?_
            simp only [Act.put, List.setIfInBounds_toArray, List.set_cons_zero, List.set_cons_succ]
            refine takeH 10 (some 54) (undef) rfl (by kernel_rfl) (by kernel_rfl) (by kernel_rfl) (fun _ _ _ h => h) (by rintro _ ⟨⟩; exact Or.inr ⟨by rfl, rfl⟩) hS0 ?_
            simp only [Act.put, List.setIfInBounds_toArray, List.set_cons_zero, List.set_cons_succ]
            refine takeH 11 (some 55) (undef) rfl (by kernel_rfl) (by kernel_rfl) (by kernel_rfl) (fun _ _ _ h => h) (by rintro _ ⟨⟩; exact Or.inr ⟨by rfl, rfl⟩) hS0 ?_
            simp only [Act.put, List.setIfInBounds_toArray, List.set_cons_zero, List.set_cons_succ]
            refine takeH 12 (some 56) (.bool true) rfl (by kernel_rfl) (by kernel_rfl) (by kernel_rfl) (fun _ _ _ h => h) (by rintro _ ⟨⟩; exact Or.inl ⟨by rfl, fun v hv => by obtain ⟨v0, v1, v2, v3, v4⟩ := hv; go_simp⟩) hS0 ?_
            simp only [Act.put, List.setIfInBounds_toArray, List.set_cons_zero, List.set_cons_succ]
            refine takeH 13 (some 57) (.bool true) rfl (by kernel_rfl) (by kernel_rfl) (by kernel_rfl) (fun _ _ _ h => h) (by rintro _ ⟨⟩; exact Or.inl ⟨by rfl, fun v hv => by obtain ⟨v0, v1, v2, v3, v4⟩ := hv; go_simp⟩) hS0 ?_
            simp only [Act.put, List.setIfInBounds_toArray, List.set_cons_zero, List.set_cons_succ]
            refine takeH 14 (some 58) (undef) rfl (by kernel_rfl) (by kernel_rfl) (by kernel_rfl) (fun _ _ _ h => h) (by rintro _ ⟨⟩; exact Or.inr ⟨by rfl, rfl⟩) hS0 ?_
            simp only [Act.put, List.setIfInBounds_toArray, List.set_cons_zero, List.set_cons_succ]
            refine takeH 15 (some 59) (undef) rfl (by kernel_rfl) (by kernel_rfl) (by kernel_rfl) (fun _ _ _ h => h) (by rintro _ ⟨⟩; exact Or.inr ⟨by rfl, rfl⟩) hS0 ?_
            simp only [Act.put, List.setIfInBounds_toArray, List.set_cons_zero, List.set_cons_succ]
            refine takeH 16 (some 60) (undef) rfl (by kernel_rfl) (by kernel_rfl) (by kernel_rfl) (fun _ _ _ h => h) (by rintro _ ⟨⟩; exact Or.inr ⟨by rfl, rfl⟩) hS0 ?_
            simp only [Act.put, List.setIfInBounds_toArray, List.set_cons_zero, List.set_cons_succ]
            refine takeH 17 (some 61) (undef) rfl (by kernel_rfl) (by kernel_rfl) (by kernel_rfl) (fun _ _ _ h => h) (by rintro _ ⟨⟩; exact Or.inr ⟨by rfl, rfl⟩) hS0 ?_
            simp only [Act.put, List.setIfInBounds_toArray, List.set_cons_zero, List.set_cons_succ]
            refine takeH 18 (some 62) (undef) rfl (by kernel_rfl) (by kernel_rfl) (by kernel_rfl) (fun _ _ _ h => h) (by rintro _ ⟨⟩; exact Or.inr ⟨by rfl, rfl⟩) hS0 ?_
            simp only [Act.put, List.setIfInBounds_toArray, List.set_cons_zero, List.set_cons_succ]
            refine takeH 19 (some 63) (undef) rfl (by kernel_rfl) (by kernel_rfl) (by kernel_rfl) (fun _ _ _ h => h) (by rintro _ ⟨⟩; exact Or.inr ⟨by rfl, rfl⟩) hS0 ?_
            simp only [Act.put, List.setIfInBounds_toArray, List.set_cons_zero, List.set_cons_succ]
            refine takeH 20 (some 64) (undef) rfl (by kernel_rfl) (by kernel_rfl) (by kernel_rfl) (fun _ _ _ h => h) (by rintro _ ⟨⟩; exact Or.inr ⟨by rfl, rfl⟩) hS0 ?_
            simp only [Act.put, List.setIfInBounds_toArray, List.set_cons_zero, List.set_cons_succ]
            refine takeH 21 (some 65) (undef) rfl (by kernel_rfl) (by kernel_rfl) (by kernel_rfl) (fun _ _ _ h => h) (by rintro _ ⟨⟩; exact Or.inr ⟨by rfl, rfl⟩) hS0 ?_
            simp only [Act.put, List.setIfInBounds_toArray, List.set_cons_zero, List.set_cons_succ]
            refine takeH 22 (some 66) (.bool true) rfl (by kernel_rfl) (by kernel_rfl) (by kernel_rfl) (fun _ _ _ h => h) (by rintro _ ⟨⟩; exact Or.inl ⟨by rfl, fun v hv => by obtain ⟨v0, v1, v2, v3, v4⟩ := hv; go_simp⟩) hS0 ?_
            simp only [Act.put, List.setIfInBounds_toArray, List.set_cons_zero, List.set_cons_succ]
            refine wpAnyH_done (by kernel_rfl) ?_ _
            go_wp2_with fail
            go_ret
            exact ⟨ret_bool HN.out.symm, (HBW.out.alloc (by omega) _).drew⟩
          · have e0 : (t == 0) = false := by simpa using h0
            obtain ⟨ht0, ht12⟩ := htf
            have hw1 : IntKind.i64.wrap (t - 1) = t - 1 := by rw [IntKind.wrap_i64]; omega
            by_cases h8 : t - 1 > 8
            · have d8 : decide ((8 : Int) < t - 1) = true := decide_eq_true h8
              have HN : Hid (R = false) := by
                show _ = _
                rw [← HR1.out, if_neg h0, if_pos h8]; rfl
              clear HR1
              go_wp2_with fail
              have hS0 := HS0.out
              refine wp_region_held (S := fun v => v.cell? ⟨wr.heap.size, 0, none⟩ = some (.int .i64 e.kind) ∧ v.cell? ⟨wr.heap.size, 1, none⟩ = some (.int .i64 e.num) ∧ v.cell? ⟨wr.heap.size, 2, none⟩ = some (.int .i64 e.bind) ∧ v.cell? ⟨wr.heap.size, 3, none⟩ = some (.slice gk e.kids.length ck) ∧ v.cell? ⟨w.heap.size + 1, k, none⟩ = some (.int .i64 t)) hmx ?_
              show wpAnyH _ _ _ _ _ 23 #[false, false, false, false, false, false, false, false, false, false, false, false, false, false, false, false, false, false, false, false, false, false, false] _ _
              refine takeH 0 (some 44) (.slice (some ⟨w.heap.size + 1, 0, none⟩) xs.length xs.length) rfl (by kernel_rfl) (by kernel_rfl) (by kernel_rfl) (fun _ _ _ h => h) (by rintro _ ⟨⟩; exact Or.inl ⟨by rfl, fun v hv => by obtain ⟨v0, v1, v2, v3, v4⟩ := hv; go_simp⟩) hS0 ?_
              simp only [Act.put, List.setIfInBounds_toArray, List.set_cons_zero, List.set_cons_succ]
              refine takeH 1 (some 45) (.int .i64 (k : Int)) rfl (by kernel_rfl) (by kernel_rfl) (by kernel_rfl) (fun _ _ _ h => h) (by rintro _ ⟨⟩; exact Or.inl ⟨by rfl, fun v hv => by obtain ⟨v0, v1, v2, v3, v4⟩ := hv; go_simp⟩) hS0 ?_
              simp only [Act.put, List.setIfInBounds_toArray, List.set_cons_zero, List.set_cons_succ]
              refine takeH 2 (some 46) (.pointer (some ⟨w.heap.size + 1, k, none⟩)) rfl (by kernel_rfl) (by kernel_rfl) (by kernel_rfl) (fun _ _ _ h => h) (by rintro _ ⟨⟩; exact Or.inl ⟨by rfl, fun v hv => by obtain ⟨v0, v1, v2, v3, v4⟩ := hv; go_simp⟩) hS0 ?_
              simp only [Act.put, List.setIfInBounds_toArray, List.set_cons_zero, List.set_cons_succ]
              refine takeH 3 (some 47) (.int .i64 t) rfl (by kernel_rfl) (by kernel_rfl) (by kernel_rfl) (fun _ _ _ h => h) (by rintro _ ⟨⟩; exact Or.inl ⟨by rfl, fun v hv => by obtain ⟨v0, v1, v2, v3, v4⟩ := hv; go_simp⟩) hS0 ?_
              simp only [Act.put, List.setIfInBounds_toArray, List.set_cons_zero, List.set_cons_succ]
              refine takeH 4 (some 48) (.bool false) rfl (by kernel_rfl) (by kernel_rfl) (by kernel_rfl) (fun _ _ _ h => h) (by rintro _ ⟨⟩; exact Or.inl ⟨by rfl, fun v hv => by obtain ⟨v0, v1, v2, v3, v4⟩ := hv; go_simp⟩) hS0 ?_
              simp only [Act.put, List.setIfInBounds_toArray, List.set_cons_zero, List.set_cons_succ]
              refine takeH 5 (some 49) (.bool false) rfl (by kernel_rfl) (by kernel_rfl) (by kernel_rfl) (fun _ _ _ h => h) (by rintro _ ⟨⟩; exact Or.inl ⟨by rfl, fun v hv => by obtain ⟨v0, v1, v2, v3, v4⟩ := hv; go_simp⟩) hS0 ?_
              simp only [Act.put, List.setIfInBounds_toArray, List.set_cons_zero, List.set_cons_succ]
              refine takeH 6 (some 50) (.slice (some ⟨w.heap.size + 1, 0, none⟩) xs.length xs.length) rfl (by kernel_rfl) (by kernel_rfl) (by kernel_rfl) (fun _ _ _ h => h) (by rintro _ ⟨⟩; exact Or.inl ⟨by rfl, fun v hv => by obtain ⟨v0, v1, v2, v3, v4⟩ := hv; go_simp⟩) hS0 ?_
              simp only [Act.put, List.setIfInBounds_toArray, List.set_cons_zero, List.set_cons_succ]
              refine takeH 7 (some 51) (.int .i64 (k : Int)) rfl (by kernel_rfl) (by kernel_rfl) (by kernel_rfl) (fun _ _ _ h => h) (by rintro _ ⟨⟩; exact Or.inl ⟨by rfl, fun v hv => by obtain ⟨v0, v1, v2, v3, v4⟩ := hv; go_simp⟩) hS0 ?_
              simp only [Act.put, List.setIfInBounds_toArray, List.set_cons_zero, List.set_cons_succ]
              refine takeH 8 (some 52) (.pointer (some ⟨w.heap.size + 1, k, none⟩)) rfl (by kernel_rfl) (by kernel_rfl) (by kernel_rfl) (fun _ _ _ h => h) (by rintro _ ⟨⟩; exact Or.inl ⟨by rfl, fun v hv => by obtain ⟨v0, v1, v2, v3, v4⟩ := hv; go_simp⟩) hS0 ?_
              simp only [Act.put, List.setIfInBounds_toArray, List.set_cons_zero, List.set_cons_succ]
              refine takeH 9 (some 53) (.int .i64 t) rfl (by kernel_rfl) (by kernel_rfl) (by kernel_rfl) (fun _ _ _ h => h) (by rintro _ ⟨⟩; exact Or.inl ⟨by rfl, fun v hv => by obtain ⟨v0, v1, v2, v3, v4⟩ := hv; go_simp⟩) hS0 ?_
              simp only [Act.put, List.setIfInBounds_toArray, List.set_cons_zero, List.set_cons_succ]
              refine takeH 10 (some 54) (.int .i64 (t - 1)) rfl (by kernel_rfl) (by kernel_rfl) (by kernel_rfl) (fun _ _ _ h => h) (by rintro _ ⟨⟩; exact Or.inl ⟨by rfl, fun v hv => by obtain ⟨v0, v1, v2, v3, v4⟩ := hv; go_simp⟩) hS0 ?_
              simp only [Act.put, List.setIfInBounds_toArray, List.set_cons_zero, List.set_cons_succ]
              refine takeH 11 (some 55) (.bool true) rfl (by kernel_rfl) (by kernel_rfl) (by kernel_rfl) (fun _ _ _ h => h) (by rintro _ ⟨⟩; exact Or.inl ⟨by rfl, fun v hv => by obtain ⟨v0, v1, v2, v3, v4⟩ := hv; go_simp⟩) hS0 ?_
              simp only [Act.put, List.setIfInBounds_toArray, List.set_cons_zero, List.set_cons_succ]
              refine takeH 12 (some 56) (.bool true) rfl (by kernel_rfl) (by kernel_rfl) (by kernel_rfl) (fun _ _ _ h => h) (by rintro _ ⟨⟩; exact Or.inl ⟨by rfl, fun v hv => by obtain ⟨v0, v1, v2, v3, v4⟩ := hv; go_simp⟩) hS0 ?_
              simp only [Act.put, List.setIfInBounds_toArray, List.set_cons_zero, List.set_cons_succ]
              refine takeH 13 (some 57) (.bool true) rfl (by kernel_rfl) (by kernel_rfl) (by kernel_rfl) (fun _ _ _ h => h) (by rintro _ ⟨⟩; exact Or.inl ⟨by rfl, fun v hv => by obtain ⟨v0, v1, v2, v3, v4⟩ := hv; go_simp⟩) hS0 ?_
              simp only [Act.put, List.setIfInBounds_toArray, List.set_cons_zero, List.set_cons_succ]
              refine takeH 14 (some 58) (undef) rfl (by kernel_rfl) (by kernel_rfl) (by kernel_rfl) (fun _ _ _ h => h) (by rintro _ ⟨⟩; exact Or.inr ⟨by rfl, rfl⟩) hS0 ?_
              simp only [Act.put, List.setIfInBounds_toArray, List.set_cons_zero, List.set_cons_succ]
              refine takeH 15 (some 59) (undef) rfl (by kernel_rfl) (by kernel_rfl) (by kernel_rfl) (fun _ _ _ h => h) (by rintro _ ⟨⟩; exact Or.inr ⟨by rfl, rfl⟩) hS0 ?_
              simp only [Act.put, List.setIfInBounds_toArray, List.set_cons_zero, List.set_cons_succ]
              refine takeH 16 (some 60) (undef) rfl (by kernel_rfl) (by kernel_rfl) (by kernel_rfl) (fun _ _ _ h => h) (by rintro _ ⟨⟩; exact Or.inr ⟨by rfl, rfl⟩) hS0 ?_
              simp only [Act.put, List.setIfInBounds_toArray, List.set_cons_zero, List.set_cons_succ]
              refine takeH 17 (some 61) (undef) rfl (by kernel_rfl) (by kernel_rfl) (by kernel_rfl) (fun _ _ _ h => h) (by rintro _ ⟨⟩; exact Or.inr ⟨by rfl, rfl⟩) hS0 ?_
              simp only [Act.put, List.setIfInBounds_toArray, List.set_cons_zero, List.set_cons_succ]
              refine takeH 18 (some 62) (undef) rfl (by kernel_rfl) (by kernel_rfl) (by kernel_rfl) (fun _ _ _ h => h) (by rintro _ ⟨⟩; exact Or.inr ⟨by rfl, rfl⟩) hS0 ?_
              simp only [Act.put, List.setIfInBounds_toArray, List.set_cons_zero, List.set_cons_succ]
              refine takeH 19 (some 63) (undef) rfl (by kernel_rfl) (by kernel_rfl) (by kernel_rfl) (fun _ _ _ h => h) (by rintro _ ⟨⟩; exact Or.inr ⟨by rfl, rfl⟩) hS0 ?_
              simp only [Act.put, List.setIfInBounds_toArray, List.set_cons_zero, List.set_cons_succ]
              refine takeH 20 (some 64) (undef) rfl (by kernel_rfl) (by kernel_rfl) (by kernel_rfl) (fun _ _ _ h => h) (by rintro _ ⟨⟩; exact Or.inr ⟨by rfl, rfl⟩) hS0 ?_
              simp only [Act.put, List.setIfInBounds_toArray, List.set_cons_zero, List.set_cons_succ]
              refine takeH 21 (some 65) (undef) rfl (by kernel_rfl) (by kernel_rfl) (by kernel_rfl) (fun _ _ _ h => h) (by rintro _ ⟨⟩; exact Or.inr ⟨by rfl, rfl⟩) hS0 ?_
              simp only [Act.put, List.setIfInBounds_toArray, List.set_cons_zero, List.set_cons_succ]
              refine takeH 22 (some 66) (.bool true) rfl (by kernel_rfl) (by kernel_rfl) (by kernel_rfl) (fun _ _ _ h => h) (by rintro _ ⟨⟩; exact Or.inl ⟨by rfl, fun v hv => by obtain ⟨v0, v1, v2, v3, v4⟩ := hv; go_simp⟩) hS0 ?_
              simp only [Act.put, List.setIfInBounds_toArray, List.set_cons_zero, List.set_cons_succ]
              refine wpAnyH_done (by kernel_rfl) ?_ _
              go_wp2_with fail
              go_ret
              exact ⟨ret_bool HN.out.symm, (HBW.out.alloc (by omega) _).drew⟩
            · have d8 : decide ((8 : Int) < t - 1) = false := decide_eq_false h8
              have hki := kinds_any e.kind e.num e.bind (t - 1) gk e.kids.length ck (wr.alloc (.cells #[.int .i64 e.kind, .int .i64 e.num, .int .i64 e.bind, .slice gk e.kids.length ck] 55)).drew (by omega) (by omega)
              cases hok : okE e.kind e.num e.bind e.kids.length (t - 1) with
              | false =>
                rw [hok] at hki
                have HN : Hid (R = false) := by
                  show _ = _
                  rw [← HR1.out, if_neg h0, if_neg h8, if_pos (show e.ok (t - 1) = false from hok)]; rfl
                clear HR1
                go_wp2_with fail
                have hS0 := HS0.out
                refine wp_region_held (S := fun v => v.cell? ⟨wr.heap.size, 0, none⟩ = some (.int .i64 e.kind) ∧ v.cell? ⟨wr.heap.size, 1, none⟩ = some (.int .i64 e.num) ∧ v.cell? ⟨wr.heap.size, 2, none⟩ = some (.int .i64 e.bind) ∧ v.cell? ⟨wr.heap.size, 3, none⟩ = some (.slice gk e.kids.length ck) ∧ v.cell? ⟨w.heap.size + 1, k, none⟩ = some (.int .i64 t)) hmx ?_
                show wpAnyH _ _ _ _ _ 23 #[false, false, false, false, false, false, false, false, false, false, false, false, false, false, false, false, false, false, false, false, false, false, false] _ _
                refine takeH 0 (some 44) (.slice (some ⟨w.heap.size + 1, 0, none⟩) xs.length xs.length) rfl (by kernel_rfl) (by kernel_rfl) (by kernel_rfl) (fun _ _ _ h => h) (by rintro _ ⟨⟩; exact Or.inl ⟨by rfl, fun v hv => by obtain ⟨v0, v1, v2, v3, v4⟩ := hv; go_simp⟩) hS0 ?_
                simp only [Act.put, List.setIfInBounds_toArray, List.set_cons_zero, List.set_cons_succ]
                refine takeH 1 (some 45) (.int .i64 (k : Int)) rfl (by kernel_rfl) (by kernel_rfl) (by kernel_rfl) (fun _ _ _ h => h) (by rintro _ ⟨⟩; exact Or.inl ⟨by rfl, fun v hv => by obtain ⟨v0, v1, v2, v3, v4⟩ := hv; go_simp⟩) hS0 ?_
                simp only [Act.put, List.setIfInBounds_toArray, List.set_cons_zero, List.set_cons_succ]
                refine takeH 2 (some 46) (.pointer (some ⟨w.heap.size + 1, k, none⟩)) rfl (by kernel_rfl) (by kernel_rfl) (by kernel_rfl) (fun _ _ _ h => h) (by rintro _ ⟨⟩; exact Or.inl ⟨by rfl, fun v hv => by obtain ⟨v0, v1, v2, v3, v4⟩ := hv; go_simp⟩) hS0 ?_
                simp only [Act.put, List.setIfInBounds_toArray, List.set_cons_zero, List.set_cons_succ]
                refine takeH 3 (some 47) (.int .i64 t) rfl (by kernel_rfl) (by kernel_rfl) (by kernel_rfl) (fun _ _ _ h => h) (by rintro _ ⟨⟩; exact Or.inl ⟨by rfl, fun v hv => by obtain ⟨v0, v1, v2, v3, v4⟩ := hv; go_simp⟩) hS0 ?_
                simp only [Act.put, List.setIfInBounds_toArray, List.set_cons_zero, List.set_cons_succ]
                refine takeH 4 (some 48) (.bool false) rfl (by kernel_rfl) (by kernel_rfl) (by kernel_rfl) (fun _ _ _ h => h) (by rintro _ ⟨⟩; exact Or.inl ⟨by rfl, fun v hv => by obtain ⟨v0, v1, v2, v3, v4⟩ := hv; go_simp⟩) hS0 ?_
                simp only [Act.put, List.setIfInBounds_toArray, List.set_cons_zero, List.set_cons_succ]
                refine takeH 5 (some 49) (.bool false) rfl (by kernel_rfl) (by kernel_rfl) (by kernel_rfl) (fun _ _ _ h => h) (by rintro _ ⟨⟩; exact Or.inl ⟨by rfl, fun v hv => by obtain ⟨v0, v1, v2, v3, v4⟩ := hv; go_simp⟩) hS0 ?_
                simp only [Act.put, List.setIfInBounds_toArray, List.set_cons_zero, List.set_cons_succ]
                refine takeH 6 (some 50) (.slice (some ⟨w.heap.size + 1, 0, none⟩) xs.length xs.length) rfl (by kernel_rfl) (by kernel_rfl) (by kernel_rfl) (fun _ _ _ h => h) (by rintro _ ⟨⟩; exact Or.inl ⟨by rfl, fun v hv => by obtain ⟨v0, v1, v2, v3, v4⟩ := hv; go_simp⟩) hS0 ?_
                simp only [Act.put, List.setIfInBounds_toArray, List.set_cons_zero, List.set_cons_succ]
                refine takeH 7 (some 51) (.int .i64 (k : Int)) rfl (by kernel_rfl) (by kernel_rfl) (by kernel_rfl) (fun _ _ _ h => h) (by rintro _ ⟨⟩; exact Or.inl ⟨by rfl, fun v hv => by obtain ⟨v0, v1, v2, v3, v4⟩ := hv; go_simp⟩) hS0 ?_
                simp only [Act.put, List.setIfInBounds_toArray, List.set_cons_zero, List.set_cons_succ]
                refine takeH 8 (some 52) (.pointer (some ⟨w.heap.size + 1, k, none⟩)) rfl (by kernel_rfl) (by kernel_rfl) (by kernel_rfl) (fun _ _ _ h => h) (by rintro _ ⟨⟩; exact Or.inl ⟨by rfl, fun v hv => by obtain ⟨v0, v1, v2, v3, v4⟩ := hv; go_simp⟩) hS0 ?_
                simp only [Act.put, List.setIfInBounds_toArray, List.set_cons_zero, List.set_cons_succ]
                refine takeH 9 (some 53) (.int .i64 t) rfl (by kernel_rfl) (by kernel_rfl) (by kernel_rfl) (fun _ _ _ h => h) (by rintro _ ⟨⟩; exact Or.inl ⟨by rfl, fun v hv => by obtain ⟨v0, v1, v2, v3, v4⟩ := hv; go_simp⟩) hS0 ?_
                simp only [Act.put, List.setIfInBounds_toArray, List.set_cons_zero, List.set_cons_succ]
                refine takeH 10 (some 54) (.int .i64 (t - 1)) rfl (by kernel_rfl) (by kernel_rfl) (by kernel_rfl) (fun _ _ _ h => h) (by rintro _ ⟨⟩; exact Or.inl ⟨by rfl, fun v hv => by obtain ⟨v0, v1, v2, v3, v4⟩ := hv; go_simp⟩) hS0 ?_
                simp only [Act.put, List.setIfInBounds_toArray, List.set_cons_zero, List.set_cons_succ]
                refine takeH 11 (some 55) (.bool false) rfl (by kernel_rfl) (by kernel_rfl) (by kernel_rfl) (fun _ _ _ h => h) (by rintro _ ⟨⟩; exact Or.inl ⟨by rfl, fun v hv => by obtain ⟨v0, v1, v2, v3, v4⟩ := hv; go_simp⟩) hS0 ?_
                simp only [Act.put, List.setIfInBounds_toArray, List.set_cons_zero, List.set_cons_succ]
                refine takeH 12 (some 56) (.bool false) rfl (by kernel_rfl) (by kernel_rfl) (by kernel_rfl) (fun _ _ _ h => h) (by rintro _ ⟨⟩; exact Or.inl ⟨by rfl, fun v hv => by obtain ⟨v0, v1, v2, v3, v4⟩ := hv; go_simp⟩) hS0 ?_
                simp only [Act.put, List.setIfInBounds_toArray, List.set_cons_zero, List.set_cons_succ]
                refine takeH 13 (some 57) (.bool false) rfl (by kernel_rfl) (by kernel_rfl) (by kernel_rfl) (fun _ _ _ h => h) (by rintro _ ⟨⟩; exact Or.inl ⟨by rfl, fun v hv => by obtain ⟨v0, v1, v2, v3, v4⟩ := hv; go_simp⟩) hS0 ?_
                simp only [Act.put, List.setIfInBounds_toArray, List.set_cons_zero, List.set_cons_succ]
                refine takeH 14 (some 58) (eV e gk ck) rfl (by kernel_rfl) (by kernel_rfl) (by kernel_rfl) (fun _ _ _ h => h) (by rintro _ ⟨⟩; exact Or.inl ⟨by rfl, fun v hv => by obtain ⟨v0, v1, v2, v3, v4⟩ := hv; go_simp⟩) hS0 ?_
                simp only [Act.put, List.setIfInBounds_toArray, List.set_cons_zero, List.set_cons_succ]
                refine takeH 15 (some 59) (.slice (some ⟨w.heap.size + 1, 0, none⟩) xs.length xs.length) rfl (by kernel_rfl) (by kernel_rfl) (by kernel_rfl) (fun _ _ _ h => h) (by rintro _ ⟨⟩; exact Or.inl ⟨by rfl, fun v hv => by obtain ⟨v0, v1, v2, v3, v4⟩ := hv; go_simp⟩) hS0 ?_
                simp only [Act.put, List.setIfInBounds_toArray, List.set_cons_zero, List.set_cons_succ]
                refine takeH 16 (some 60) (.int .i64 (k : Int)) rfl (by kernel_rfl) (by kernel_rfl) (by kernel_rfl) (fun _ _ _ h => h) (by rintro _ ⟨⟩; exact Or.inl ⟨by rfl, fun v hv => by obtain ⟨v0, v1, v2, v3, v4⟩ := hv; go_simp⟩) hS0 ?_
                simp only [Act.put, List.setIfInBounds_toArray, List.set_cons_zero, List.set_cons_succ]
                refine takeH 17 (some 61) (.pointer (some ⟨w.heap.size + 1, k, none⟩)) rfl (by kernel_rfl) (by kernel_rfl) (by kernel_rfl) (fun _ _ _ h => h) (by rintro _ ⟨⟩; exact Or.inl ⟨by rfl, fun v hv => by obtain ⟨v0, v1, v2, v3, v4⟩ := hv; go_simp⟩) hS0 ?_
                simp only [Act.put, List.setIfInBounds_toArray, List.set_cons_zero, List.set_cons_succ]
                refine takeH 18 (some 62) (.int .i64 t) rfl (by kernel_rfl) (by kernel_rfl) (by kernel_rfl) (fun _ _ _ h => h) (by rintro _ ⟨⟩; exact Or.inl ⟨by rfl, fun v hv => by obtain ⟨v0, v1, v2, v3, v4⟩ := hv; go_simp⟩) hS0 ?_
                simp only [Act.put, List.setIfInBounds_toArray, List.set_cons_zero, List.set_cons_succ]
                refine takeH 19 (some 63) (.int .i64 (t - 1)) rfl (by kernel_rfl) (by kernel_rfl) (by kernel_rfl) (fun _ _ _ h => h) (by rintro _ ⟨⟩; exact Or.inl ⟨by rfl, fun v hv => by obtain ⟨v0, v1, v2, v3, v4⟩ := hv; go_simp⟩) hS0 ?_
                simp only [Act.put, List.setIfInBounds_toArray, List.set_cons_zero, List.set_cons_succ]
                refine oneH 20 (by kernel_rfl) (callH 20 72 (some 64) #[eV e gk ck, .int .i64 (t - 1)] rfl (by rintro _ ⟨⟩; exact ⟨by rfl, by go_simp⟩) (hki.mono ?_))
                clear hki
                rintro x w5 ⟨rfl, hb5⟩
                have hb6 : Below (wr.alloc (.cells #[.int .i64 e.kind, .int .i64 e.num, .int .i64 e.bind, .slice gk e.kids.length ck] 55)).heap.size (wr.alloc (.cells #[.int .i64 e.kind, .int .i64 e.num, .int .i64 e.bind, .slice gk e.kids.length ck] 55)) w5 := ⟨hb5.os, hb5.tape, hb5.output, hb5.size, hb5.block⟩
                have HB5 : Hid (Below w.heap.size w w5) := (HBW.out.alloc (by omega) _).trans (hb6.mono (by rw [World.size_alloc]; omega))
                have hS5 := And.intro ((hb6.cell (p := ⟨wr.heap.size, 0, none⟩) (by rw [World.size_alloc]; show wr.heap.size < _; omega)).trans hS0.1) (And.intro ((hb6.cell (p := ⟨wr.heap.size, 1, none⟩) (by rw [World.size_alloc]; show wr.heap.size < _; omega)).trans hS0.2.1) (And.intro ((hb6.cell (p := ⟨wr.heap.size, 2, none⟩) (by rw [World.size_alloc]; show wr.heap.size < _; omega)).trans hS0.2.2.1) (And.intro ((hb6.cell (p := ⟨wr.heap.size, 3, none⟩) (by rw [World.size_alloc]; show wr.heap.size < _; omega)).trans hS0.2.2.2.1) ((hb6.cell (p := ⟨w.heap.size + 1, k, none⟩) (by rw [World.size_alloc]; show w.heap.size + 1 < _; omega)).trans hS0.2.2.2.2))))
                refine ⟨_, rfl, hS5, ?_⟩
                simp only [Act.put, List.setIfInBounds_toArray, List.set_cons_zero, List.set_cons_succ]
                refine takeH 21 (some 65) (.bool true) rfl (by kernel_rfl) (by kernel_rfl) (by kernel_rfl) (fun _ _ _ h => h) (by rintro _ ⟨⟩; exact Or.inl ⟨by rfl, fun v hv => by obtain ⟨v0, v1, v2, v3, v4⟩ := hv; go_simp⟩) hS5 ?_
                simp only [Act.put, List.setIfInBounds_toArray, List.set_cons_zero, List.set_cons_succ]
                refine takeH 22 (some 66) (.bool true) rfl (by kernel_rfl) (by kernel_rfl) (by kernel_rfl) (fun _ _ _ h => h) (by rintro _ ⟨⟩; exact Or.inl ⟨by rfl, fun v hv => by obtain ⟨v0, v1, v2, v3, v4⟩ := hv; go_simp⟩) hS5 ?_
                simp only [Act.put, List.setIfInBounds_toArray, List.set_cons_zero, List.set_cons_succ]
                refine wpAnyH_done (by kernel_rfl) ?_ _
                go_wp2_with fail
                go_ret
                exact ⟨ret_bool HN.out.symm, HB5.out⟩
              | true =>
                rw [hok] at hki
                have hbd : ∀ i, 0 ≤ e.bd i ∧ e.bd i ≤ 3 := fun i => bnd_le hok
                have HBD : Hid _ := hbd
                have hkl := okE_kids hok
                have HR2 : Hid (((rd k e t 0 e.kids M).bind fun M' => rrun M' rest).isSome = R) := by
                  show _ = _
                  rw [← HR1.out, if_neg h0, if_neg h8, if_neg (show ¬ e.ok (t - 1) = false by show ¬ okE _ _ _ _ _ = false; rw [hok]; simp)]
                clear HR1 hbd hok
                go_wp2_with fail
                have hS0 := HS0.out
                refine wp_region_held (S := fun v => v.cell? ⟨wr.heap.size, 0, none⟩ = some (.int .i64 e.kind) ∧ v.cell? ⟨wr.heap.size, 1, none⟩ = some (.int .i64 e.num) ∧ v.cell? ⟨wr.heap.size, 2, none⟩ = some (.int .i64 e.bind) ∧ v.cell? ⟨wr.heap.size, 3, none⟩ = some (.slice gk e.kids.length ck) ∧ v.cell? ⟨w.heap.size + 1, k, none⟩ = some (.int .i64 t)) hmx ?_
                show wpAnyH _ _ _ _ _ 23 #[false, false, false, false, false, false, false, false, false, false, false, false, false, false, false, false, false, false, false, false, false, false, false] _ _
                refine takeH 0 (some 44) (.slice (some ⟨w.heap.size + 1, 0, none⟩) xs.length xs.length) rfl (by kernel_rfl) (by kernel_rfl) (by kernel_rfl) (fun _ _ _ h => h) (by rintro _ ⟨⟩; exact Or.inl ⟨by rfl, fun v hv => by obtain ⟨v0, v1, v2, v3, v4⟩ := hv; go_simp⟩) hS0 ?_
                simp only [Act.put, List.setIfInBounds_toArray, List.set_cons_zero, List.set_cons_succ]
                refine takeH 1 (some 45) (.int .i64 (k : Int)) rfl (by kernel_rfl) (by kernel_rfl) (by kernel_rfl) (fun _ _ _ h => h) (by rintro _ ⟨⟩; exact Or.inl ⟨by rfl, fun v hv => by obtain ⟨v0, v1, v2, v3, v4⟩ := hv; go_simp⟩) hS0 ?_
                simp only [Act.put, List.setIfInBounds_toArray, List.set_cons_zero, List.set_cons_succ]
                refine takeH 2 (some 46) (.pointer (some ⟨w.heap.size + 1, k, none⟩)) rfl (by kernel_rfl) (by kernel_rfl) (by kernel_rfl) (fun _ _ _ h => h) (by rintro _ ⟨⟩; exact Or.inl ⟨by rfl, fun v hv => by obtain ⟨v0, v1, v2, v3, v4⟩ := hv; go_simp⟩) hS0 ?_
                simp only [Act.put, List.setIfInBounds_toArray, List.set_cons_zero, List.set_cons_succ]
                refine takeH 3 (some 47) (.int .i64 t) rfl (by kernel_rfl) (by kernel_rfl) (by kernel_rfl) (fun _ _ _ h => h) (by rintro _ ⟨⟩; exact Or.inl ⟨by rfl, fun v hv => by obtain ⟨v0, v1, v2, v3, v4⟩ := hv; go_simp⟩) hS0 ?_
                simp only [Act.put, List.setIfInBounds_toArray, List.set_cons_zero, List.set_cons_succ]
                refine takeH 4 (some 48) (.bool false) rfl (by kernel_rfl) (by kernel_rfl) (by kernel_rfl) (fun _ _ _ h => h) (by rintro _ ⟨⟩; exact Or.inl ⟨by rfl, fun v hv => by obtain ⟨v0, v1, v2, v3, v4⟩ := hv; go_simp⟩) hS0 ?_
                simp only [Act.put, List.setIfInBounds_toArray, List.set_cons_zero, List.set_cons_succ]
                refine takeH 5 (some 49) (.bool false) rfl (by kernel_rfl) (by kernel_rfl) (by kernel_rfl) (fun _ _ _ h => h) (by rintro _ ⟨⟩; exact Or.inl ⟨by rfl, fun v hv => by obtain ⟨v0, v1, v2, v3, v4⟩ := hv; go_simp⟩) hS0 ?_
                simp only [Act.put, List.setIfInBounds_toArray, List.set_cons_zero, List.set_cons_succ]
                refine takeH 6 (some 50) (.slice (some ⟨w.heap.size + 1, 0, none⟩) xs.length xs.length) rfl (by kernel_rfl) (by kernel_rfl) (by kernel_rfl) (fun _ _ _ h => h) (by rintro _ ⟨⟩; exact Or.inl ⟨by rfl, fun v hv => by obtain ⟨v0, v1, v2, v3, v4⟩ := hv; go_simp⟩) hS0 ?_
                simp only [Act.put, List.setIfInBounds_toArray, List.set_cons_zero, List.set_cons_succ]
                refine takeH 7 (some 51) (.int .i64 (k : Int)) rfl (by kernel_rfl) (by kernel_rfl) (by kernel_rfl) (fun _ _ _ h => h) (by rintro _ ⟨⟩; exact Or.inl ⟨by rfl, fun v hv => by obtain ⟨v0, v1, v2, v3, v4⟩ := hv; go_simp⟩) hS0 ?_
                simp only [Act.put, List.setIfInBounds_toArray, List.set_cons_zero, List.set_cons_succ]
                refine takeH 8 (some 52) (.pointer (some ⟨w.heap.size + 1, k, none⟩)) rfl (by kernel_rfl) (by kernel_rfl) (by kernel_rfl) (fun _ _ _ h => h) (by rintro _ ⟨⟩; exact Or.inl ⟨by rfl, fun v hv => by obtain ⟨v0, v1, v2, v3, v4⟩ := hv; go_simp⟩) hS0 ?_
                simp only [Act.put, List.setIfInBounds_toArray, List.set_cons_zero, List.set_cons_succ]
                refine takeH 9 (some 53) (.int .i64 t) rfl (by kernel_rfl) (by kernel_rfl) (by kernel_rfl) (fun _ _ _ h => h) (by rintro _ ⟨⟩; exact Or.inl ⟨by rfl, fun v hv => by obtain ⟨v0, v1, v2, v3, v4⟩ := hv; go_simp⟩) hS0 ?_
                simp only [Act.put, List.setIfInBounds_toArray, List.set_cons_zero, List.set_cons_succ]
                refine takeH 10 (some 54) (.int .i64 (t - 1)) rfl (by kernel_rfl) (by kernel_rfl) (by kernel_rfl) (fun _ _ _ h => h) (by rintro _ ⟨⟩; exact Or.inl ⟨by rfl, fun v hv => by obtain ⟨v0, v1, v2, v3, v4⟩ := hv; go_simp⟩) hS0 ?_
                simp only [Act.put, List.setIfInBounds_toArray, List.set_cons_zero, List.set_cons_succ]
                refine takeH 11 (some 55) (.bool false) rfl (by kernel_rfl) (by kernel_rfl) (by kernel_rfl) (fun _ _ _ h => h) (by rintro _ ⟨⟩; exact Or.inl ⟨by rfl, fun v hv => by obtain ⟨v0, v1, v2, v3, v4⟩ := hv; go_simp⟩) hS0 ?_
                simp only [Act.put, List.setIfInBounds_toArray, List.set_cons_zero, List.set_cons_succ]
                refine takeH 12 (some 56) (.bool false) rfl (by kernel_rfl) (by kernel_rfl) (by kernel_rfl) (fun _ _ _ h => h) (by rintro _ ⟨⟩; exact Or.inl ⟨by rfl, fun v hv => by obtain ⟨v0, v1, v2, v3, v4⟩ := hv; go_simp⟩) hS0 ?_
                simp only [Act.put, List.setIfInBounds_toArray, List.set_cons_zero, List.set_cons_succ]
                refine takeH 13 (some 57) (.bool false) rfl (by kernel_rfl) (by kernel_rfl) (by kernel_rfl) (fun _ _ _ h => h) (by rintro _ ⟨⟩; exact Or.inl ⟨by rfl, fun v hv => by obtain ⟨v0, v1, v2, v3, v4⟩ := hv; go_simp⟩) hS0 ?_
                simp only [Act.put, List.setIfInBounds_toArray, List.set_cons_zero, List.set_cons_succ]
                refine takeH 14 (some 58) (eV e gk ck) rfl (by kernel_rfl) (by kernel_rfl) (by kernel_rfl) (fun _ _ _ h => h) (by rintro _ ⟨⟩; exact Or.inl ⟨by rfl, fun v hv => by obtain ⟨v0, v1, v2, v3, v4⟩ := hv; go_simp⟩) hS0 ?_
                simp only [Act.put, List.setIfInBounds_toArray, List.set_cons_zero, List.set_cons_succ]
                refine takeH 15 (some 59) (.slice (some ⟨w.heap.size + 1, 0, none⟩) xs.length xs.length) rfl (by kernel_rfl) (by kernel_rfl) (by kernel_rfl) (fun _ _ _ h => h) (by rintro _ ⟨⟩; exact Or.inl ⟨by rfl, fun v hv => by obtain ⟨v0, v1, v2, v3, v4⟩ := hv; go_simp⟩) hS0 ?_
                simp only [Act.put, List.setIfInBounds_toArray, List.set_cons_zero, List.set_cons_succ]
                refine takeH 16 (some 60) (.int .i64 (k : Int)) rfl (by kernel_rfl) (by kernel_rfl) (by kernel_rfl) (fun _ _ _ h => h) (by rintro _ ⟨⟩; exact Or.inl ⟨by rfl, fun v hv => by obtain ⟨v0, v1, v2, v3, v4⟩ := hv; go_simp⟩) hS0 ?_
                simp only [Act.put, List.setIfInBounds_toArray, List.set_cons_zero, List.set_cons_succ]
                refine takeH 17 (some 61) (.pointer (some ⟨w.heap.size + 1, k, none⟩)) rfl (by kernel_rfl) (by kernel_rfl) (by kernel_rfl) (fun _ _ _ h => h) (by rintro _ ⟨⟩; exact Or.inl ⟨by rfl, fun v hv => by obtain ⟨v0, v1, v2, v3, v4⟩ := hv; go_simp⟩) hS0 ?_
                simp only [Act.put, List.setIfInBounds_toArray, List.set_cons_zero, List.set_cons_succ]
                refine takeH 18 (some 62) (.int .i64 t) rfl (by kernel_rfl) (by kernel_rfl) (by kernel_rfl) (fun _ _ _ h => h) (by rintro _ ⟨⟩; exact Or.inl ⟨by rfl, fun v hv => by obtain ⟨v0, v1, v2, v3, v4⟩ := hv; go_simp⟩) hS0 ?_
                simp only [Act.put, List.setIfInBounds_toArray, List.set_cons_zero, List.set_cons_succ]
                refine takeH 19 (some 63) (.int .i64 (t - 1)) rfl (by kernel_rfl) (by kernel_rfl) (by kernel_rfl) (fun _ _ _ h => h) (by rintro _ ⟨⟩; exact Or.inl ⟨by rfl, fun v hv => by obtain ⟨v0, v1, v2, v3, v4⟩ := hv; go_simp⟩) hS0 ?_
                simp only [Act.put, List.setIfInBounds_toArray, List.set_cons_zero, List.set_cons_succ]
                refine oneH 20 (by kernel_rfl) (callH 20 72 (some 64) #[eV e gk ck, .int .i64 (t - 1)] rfl (by rintro _ ⟨⟩; exact ⟨by rfl, by go_simp⟩) (hki.mono ?_))
                clear hki
                rintro x w5 ⟨rfl, hb5⟩
                have hb6 : Below (wr.alloc (.cells #[.int .i64 e.kind, .int .i64 e.num, .int .i64 e.bind, .slice gk e.kids.length ck] 55)).heap.size (wr.alloc (.cells #[.int .i64 e.kind, .int .i64 e.num, .int .i64 e.bind, .slice gk e.kids.length ck] 55)) w5 := ⟨hb5.os, hb5.tape, hb5.output, hb5.size, hb5.block⟩
                have HB5 : Hid (Below w.heap.size w w5) := (HBW.out.alloc (by omega) _).trans (hb6.mono (by rw [World.size_alloc]; omega))
                have hS5 := And.intro ((hb6.cell (p := ⟨wr.heap.size, 0, none⟩) (by rw [World.size_alloc]; show wr.heap.size < _; omega)).trans hS0.1) (And.intro ((hb6.cell (p := ⟨wr.heap.size, 1, none⟩) (by rw [World.size_alloc]; show wr.heap.size < _; omega)).trans hS0.2.1) (And.intro ((hb6.cell (p := ⟨wr.heap.size, 2, none⟩) (by rw [World.size_alloc]; show wr.heap.size < _; omega)).trans hS0.2.2.1) (And.intro ((hb6.cell (p := ⟨wr.heap.size, 3, none⟩) (by rw [World.size_alloc]; show wr.heap.size < _; omega)).trans hS0.2.2.2.1) ((hb6.cell (p := ⟨w.heap.size + 1, k, none⟩) (by rw [World.size_alloc]; show w.heap.size + 1 < _; omega)).trans hS0.2.2.2.2))))
                refine ⟨_, rfl, hS5, ?_⟩
                simp only [Act.put, List.setIfInBounds_toArray, List.set_cons_zero, List.set_cons_succ]
                refine takeH 21 (some 65) (.bool false) rfl (by kernel_rfl) (by kernel_rfl) (by kernel_rfl) (fun _ _ _ h => h) (by rintro _ ⟨⟩; exact Or.inl ⟨by rfl, fun v hv => by obtain ⟨v0, v1, v2, v3, v4⟩ := hv; go_simp⟩) hS5 ?_
                simp only [Act.put, List.setIfInBounds_toArray, List.set_cons_zero, List.set_cons_succ]
                refine takeH 22 (some 66) (.bool false) rfl (by kernel_rfl) (by kernel_rfl) (by kernel_rfl) (fun _ _ _ h => h) (by rintro _ ⟨⟩; exact Or.inl ⟨by rfl, fun v hv => by obtain ⟨v0, v1, v2, v3, v4⟩ := hv; go_simp⟩) hS5 ?_
                simp only [Act.put, List.setIfInBounds_toArray, List.set_cons_zero, List.set_cons_succ]
                refine wpAnyH_done (by kernel_rfl) ?_ _
                have HL5 : Hid (Lv w5 (w.heap.size + 1) M) := (HL.out.alloc _).on hb6 (by rw [World.size_alloc]; omega)
                have HG5 : Hid (W1.grownBy w5 (some (w.heap.size + 1))) := HG.out.trans ((World.grownBy_alloc wr _ _).trans (grown_of_below hb6 _))
                have hz5 : wr.heap.size < w5.heap.size := by have := hb6.size; rw [World.size_alloc] at this; omega
                have hz5' : w.heap.size + 1 < w5.heap.size := by omega
                clear hb5 hb6 hS0 HS0 c0 c1 c2 c3 hd1 cL
                go_wp2_with fail
                obtain ⟨Bx, hBx⟩ : ∃ Bx, wr.heap.size = Bx := ⟨_, rfl⟩
                rw [hBx] at hS5 hz5 hwl ⊢
                have HS5 : Hid _ := hS5
                clear hS5 hBx
                go_loopw [6, 7] (fun s6 _ w6 => ∃ (j : Nat) (M1 : List Int), j ≤ e.kids.length ∧ s6 = .int .i64 (j : Int) ∧ Hid (Lv w6 (w.heap.size + 1) M1) ∧ Hid (((rd k e t j (e.kids.drop j) M1).bind fun M' => rrun M' rest).isSome = R) ∧ M1.length = xs.length ∧ Hid (FineR M1) ∧ Hid (M1[k]? = some t) ∧ Hid (w5.grownBy w6 (some (w.heap.size + 1))))
                  (fun s6 _ _ => e.kids.length - (intOf s6).toNat)
                case atStart => exact ⟨0, M, Nat.zero_le _, rfl, HL5, HR2, hml, HF, HT, World.grownBy.refl _ _⟩
                case round =>
                  obtain ⟨j, M1, hj, rfl, HL6, HR6, hml6, HF6, HT6, HG6⟩ := hrel
                  have sz6 := HG6.out.size
                  have HB6 : Hid (Below w.heap.size w wr) := HB5.out.grown HG6.out (by omega) (fun k e => by cases e; omega)
                  have x0 : wr.cell? ⟨Bx, 0, none⟩ = some (.int .i64 e.kind) := HG6.out.cell HS5.out.1 (by intro e; have := Option.some.inj e; simp at this; omega)
                  have x1 : wr.cell? ⟨Bx, 1, none⟩ = some (.int .i64 e.num) := HG6.out.cell HS5.out.2.1 (by intro e; have := Option.some.inj e; simp at this; omega)
                  have x2 : wr.cell? ⟨Bx, 2, none⟩ = some (.int .i64 e.bind) := HG6.out.cell HS5.out.2.2.1 (by intro e; have := Option.some.inj e; simp at this; omega)
                  have x3 : wr.cell? ⟨Bx, 3, none⟩ = some (.slice gk e.kids.length ck) := HG6.out.cell HS5.out.2.2.2.1 (by intro e; have := Option.some.inj e; simp at this; omega)
                  have x4 := HL6.out.cell HT6.out
                  by_cases hlt : j < e.kids.length
                  · have hlt' : (j : Int) < (e.kids.length : Int) := by omega
                    obtain ⟨bk2, o2, rfl, hbk2, hcell0⟩ := HK.out.at hlt
                    obtain ⟨q, hqe⟩ : ∃ q, e.kids[j] = q := ⟨_, rfl⟩
                    rw [hqe] at hcell0
                    have hd1 : e.kids.drop j = q :: e.kids.drop (j + 1) := by rw [List.drop_eq_getElem_cons hlt, hqe]
                    have HR7 : Hid (((rd k e t j (q :: e.kids.drop (j + 1)) M1).bind fun M' => rrun M' rest).isSome = R) := by
                      show _ = _
                      rw [← hd1]; exact HR6.out
                    have hcell : wr.cell? ⟨bk2, o2 + j, none⟩ = some (.int .i64 q) := (HB6.out.cell (p := ⟨bk2, o2 + j, none⟩) hbk2).trans hcell0
                    clear hcell0 hqe hd1 HR6
                    cases hwi : withB q 0 ((k : Int) - 1) with
                    | false =>
                      have HN : Hid (R = false) := by
                        show _ = _
                        rw [← HR7.out, rd_no hwi]; rfl
                      clear HR7
                      go_wp2_with (go_at_call 37; refine (upto_any _ _ _ _).mono ?_; rintro e w1 ⟨rfl, rfl⟩)
                      go_ret
                      exact ⟨ret_bool HN.out.symm, HB6.out⟩
                    | true =>
                      have hwr := withB_iff.1 hwi
                      obtain ⟨kn, rfl⟩ : ∃ kn : Nat, q = (kn : Int) := ⟨q.toNat, by omega⟩
                      have hkn : kn < k := by omega
                      have hkn' : (kn : Int) < (xs.length : Int) := by omega
                      obtain ⟨v, hv⟩ : ∃ v, M1[kn]? = some v := ⟨_, List.getElem?_eq_getElem (by omega)⟩
                      have hcv := HL6.out.cell hv
                      have hfz := HL6.out.frozen kn
                      have HV : Hid (M1[kn]? = some v) := hv
                      clear hv hwr
                      by_cases h1 : v = 0
                      · subst h1
                        have hbj := HBD.out (j : Int)
                        have hde := deeper_any e.kind e.num e.bind (j : Int) (some ⟨bk2, o2, none⟩) e.kids.length ck wr.drew
                        obtain ⟨y, hy⟩ : ∃ y, bnd e.kind e.bind (j : Int) = y := ⟨_, rfl⟩
                        have HY : Hid (e.bd (j : Int) = y) := hy
                        rw [show e.bd (j : Int) = y from hy] at hbj
                        rw [hy] at hde
                        clear hy
                        have HN : Hid (((rd k e t (j + 1) (e.kids.drop (j + 1)) (M1.set kn (t + y))).bind fun M' => rrun M' rest).isSome = R) := by
                          show _ = _
                          rw [← HR7.out, rd_on hwi HV.out, HY.out]; rfl
                        clear HR7
                        obtain ⟨hy0, hy3⟩ := hbj
                        have hw2 : IntKind.i64.wrap (t + y) = t + y := by rw [IntKind.wrap_i64]; omega
                        have ht9 : t ≤ 9 := by omega
                        go_wp2_with (go_at_call 37; refine (upto_any _ _ _ _).mono ?_; rintro e w1 ⟨rfl, rfl⟩)
                        have hS6 := And.intro x0 (And.intro x1 (And.intro x2 (And.intro x3 x4)))
                        refine wp_region_held (S := fun v => v.cell? ⟨Bx, 0, none⟩ = some (.int .i64 e.kind) ∧ v.cell? ⟨Bx, 1, none⟩ = some (.int .i64 e.num) ∧ v.cell? ⟨Bx, 2, none⟩ = some (.int .i64 e.bind) ∧ v.cell? ⟨Bx, 3, none⟩ = some (.slice (some ⟨bk2, o2, none⟩) e.kids.length ck) ∧ v.cell? ⟨w.heap.size + 1, k, none⟩ = some (.int .i64 t)) hmx ?_
                        show wpAnyH _ _ _ _ _ 12 #[false, false, false, false, false, false, false, false, false, false, false, false] _ _
                        refine takeH 0 (some 91) (.slice (some ⟨w.heap.size + 1, 0, none⟩) xs.length xs.length) rfl (by kernel_rfl) (by kernel_rfl) (by kernel_rfl) (fun _ _ _ h => h) (by rintro _ ⟨⟩; exact Or.inl ⟨by rfl, fun v hv => by obtain ⟨v0, v1, v2, v3, v4⟩ := hv; go_simp⟩) hS6 ?_
                        simp only [Act.put, List.setIfInBounds_toArray, List.set_cons_zero, List.set_cons_succ]
                        refine takeH 1 (some 92) (.int .i64 (kn : Int)) rfl (by kernel_rfl) (by kernel_rfl) (by kernel_rfl) (fun _ _ _ h => h) (by rintro _ ⟨⟩; exact Or.inl ⟨by rfl, fun v hv => by obtain ⟨v0, v1, v2, v3, v4⟩ := hv; go_simp⟩) hS6 ?_
                        simp only [Act.put, List.setIfInBounds_toArray, List.set_cons_zero, List.set_cons_succ]
                        refine takeH 2 (some 93) (.slice (some ⟨w.heap.size + 1, 0, none⟩) xs.length xs.length) rfl (by kernel_rfl) (by kernel_rfl) (by kernel_rfl) (fun _ _ _ h => h) (by rintro _ ⟨⟩; exact Or.inl ⟨by rfl, fun v hv => by obtain ⟨v0, v1, v2, v3, v4⟩ := hv; go_simp⟩) hS6 ?_
                        simp only [Act.put, List.setIfInBounds_toArray, List.set_cons_zero, List.set_cons_succ]
                        refine takeH 3 (some 94) (.int .i64 (k : Int)) rfl (by kernel_rfl) (by kernel_rfl) (by kernel_rfl) (fun _ _ _ h => h) (by rintro _ ⟨⟩; exact Or.inl ⟨by rfl, fun v hv => by obtain ⟨v0, v1, v2, v3, v4⟩ := hv; go_simp⟩) hS6 ?_
                        simp only [Act.put, List.setIfInBounds_toArray, List.set_cons_zero, List.set_cons_succ]
                        refine takeH 4 (some 95) (.pointer (some ⟨w.heap.size + 1, k, none⟩)) rfl (by kernel_rfl) (by kernel_rfl) (by kernel_rfl) (fun _ _ _ h => h) (by rintro _ ⟨⟩; exact Or.inl ⟨by rfl, fun v hv => by obtain ⟨v0, v1, v2, v3, v4⟩ := hv; go_simp⟩) hS6 ?_
                        simp only [Act.put, List.setIfInBounds_toArray, List.set_cons_zero, List.set_cons_succ]
                        refine takeH 5 (some 96) (.int .i64 t) rfl (by kernel_rfl) (by kernel_rfl) (by kernel_rfl) (fun _ _ _ h => h) (by rintro _ ⟨⟩; exact Or.inl ⟨by rfl, fun v hv => by obtain ⟨v0, v1, v2, v3, v4⟩ := hv; go_simp⟩) hS6 ?_
                        simp only [Act.put, List.setIfInBounds_toArray, List.set_cons_zero, List.set_cons_succ]
                        refine takeH 6 (some 97) (eV e (some ⟨bk2, o2, none⟩) ck) rfl (by kernel_rfl) (by kernel_rfl) (by kernel_rfl) (fun _ _ _ h => h) (by rintro _ ⟨⟩; exact Or.inl ⟨by rfl, fun v hv => by obtain ⟨v0, v1, v2, v3, v4⟩ := hv; go_simp⟩) hS6 ?_
                        simp only [Act.put, List.setIfInBounds_toArray, List.set_cons_zero, List.set_cons_succ]
                        refine takeH 7 (some 98) (.int .i64 (j : Int)) rfl (by kernel_rfl) (by kernel_rfl) (by kernel_rfl) (fun _ _ _ h => h) (by rintro _ ⟨⟩; exact Or.inl ⟨by rfl, fun v hv => by obtain ⟨v0, v1, v2, v3, v4⟩ := hv; go_simp⟩) hS6 ?_
                        simp only [Act.put, List.setIfInBounds_toArray, List.set_cons_zero, List.set_cons_succ]
                        refine oneH 8 (by kernel_rfl) (callH 8 73 (some 99) #[eV e (some ⟨bk2, o2, none⟩) ck, .int .i64 (j : Int)] rfl (by rintro _ ⟨⟩; exact ⟨by rfl, by go_simp⟩) (hde.mono ?_))
                        clear hde
                        rintro x w8 ⟨rfl, hb8⟩
                        have hb8' : Below wr.heap.size wr w8 := ⟨hb8.os, hb8.tape, hb8.output, hb8.size, hb8.block⟩
                        have hlv := HL6.out.lt
                        have hxv : Bx < wr.heap.size := by omega
                        have hS8 := And.intro ((hb8'.cell (p := ⟨Bx, 0, none⟩) hxv).trans x0) (And.intro ((hb8'.cell (p := ⟨Bx, 1, none⟩) hxv).trans x1) (And.intro ((hb8'.cell (p := ⟨Bx, 2, none⟩) hxv).trans x2) (And.intro ((hb8'.cell (p := ⟨Bx, 3, none⟩) hxv).trans x3) ((hb8'.cell (p := ⟨w.heap.size + 1, k, none⟩) hlv).trans x4))))
                        have cv8 := (hb8'.cell (p := ⟨w.heap.size + 1, kn, none⟩) hlv).trans hcv
                        have fz8 := (hb8'.frozen (p := ⟨w.heap.size + 1, kn, none⟩) hlv).trans hfz
                        refine ⟨_, rfl, hS8, ?_⟩
                        simp only [Act.put, List.setIfInBounds_toArray, List.set_cons_zero, List.set_cons_succ]
                        refine takeH 9 (some 100) (.int .i64 (t + y)) rfl (by kernel_rfl) (by kernel_rfl) (by kernel_rfl) (fun _ _ _ h => h) (by rintro _ ⟨⟩; exact Or.inl ⟨by rfl, fun v hv => by obtain ⟨v0, v1, v2, v3, v4⟩ := hv; go_simp⟩) hS8 ?_
                        simp only [Act.put, List.setIfInBounds_toArray, List.set_cons_zero, List.set_cons_succ]
                        refine takeH 10 (some 101) (.pointer (some ⟨w.heap.size + 1, kn, none⟩)) rfl (by kernel_rfl) (by kernel_rfl) (by kernel_rfl) (fun _ _ _ h => h) (by rintro _ ⟨⟩; exact Or.inl ⟨by rfl, fun v hv => by obtain ⟨v0, v1, v2, v3, v4⟩ := hv; go_simp⟩) hS8 ?_
                        simp only [Act.put, List.setIfInBounds_toArray, List.set_cons_zero, List.set_cons_succ]
                        have hS9 := And.intro (cell_set_other (b := w.heap.size + 1) (j := kn) (v := .int .i64 (t + y)) hS8.1 (by omega)) (And.intro (cell_set_other (b := w.heap.size + 1) (j := kn) (v := .int .i64 (t + y)) hS8.2.1 (by omega)) (And.intro (cell_set_other (b := w.heap.size + 1) (j := kn) (v := .int .i64 (t + y)) hS8.2.2.1 (by omega)) (And.intro (cell_set_other (b := w.heap.size + 1) (j := kn) (v := .int .i64 (t + y)) hS8.2.2.2.1 (by omega)) (cell_set_other (b := w.heap.size + 1) (j := kn) (v := .int .i64 (t + y)) hS8.2.2.2.2 (by omega)))))
                        refine oneH 11 (by kernel_rfl) (skipH 11 none (w8.setCell ⟨w.heap.size + 1, kn, none⟩ (.int .i64 (t + y))) rfl (by rintro _ ⟨⟩; exact ⟨by rfl, by go_simp⟩) ⟨hS9, ?_⟩)
                        simp only [Act.put, List.setIfInBounds_toArray, List.set_cons_zero, List.set_cons_succ]
                        refine wpAnyH_done (by kernel_rfl) ?_ _
                        have HL9 : Hid (Lv (w8.setCell ⟨w.heap.size + 1, kn, none⟩ (.int .i64 (t + y))) (w.heap.size + 1) (M1.set kn (t + y))) := (HL6.out.on hb8' hlv).set kn (t + y)
                        have HG9 : Hid (w5.grownBy (w8.setCell ⟨w.heap.size + 1, kn, none⟩ (.int .i64 (t + y))) (some (w.heap.size + 1))) := HG6.out.trans ((grown_of_below hb8' _).trans (grown_set _ _ _ _))
                        go_wp2_with fail
                        go_roundw
                        case rel =>
                          refine ⟨j + 1, M1.set kn (t + y), by omega, by go_num, HL9, HN, by rw [List.length_set]; exact hml6, HF6.out.set kn (by omega) (by omega), ?_, HG9⟩
                          show _ = _
                          rw [List.getElem?_set_ne (by omega)]; exact HT6.out
                        case measure => simp [intOf]; omega
                      · have HN : Hid (R = false) := by
                          show _ = _
                          rw [← HR7.out, rd_taken HV.out h1]; rfl
                        clear HR7
                        have e1 : (v == 0) = false := by simpa using h1
                        have e2 : (v != 0) = true := by simpa using h1
                        go_wp2_with (go_at_call 37; refine (upto_any _ _ _ _).mono ?_; rintro e w1 ⟨rfl, rfl⟩)
                        go_ret
                        exact ⟨ret_bool HN.out.symm, HB6.out⟩
                  · have hlt' : ¬ (j : Int) < (e.kids.length : Int) := by omega
                    have HN : Hid ((rrun M1 (backw (xs.take k))).isSome = R) := by
                      show _ = _
                      rw [HRS.out, ← HR6.out, List.drop_eq_nil_of_le (by omega)]; rfl
                    clear HR6
                    go_wp2_with fail
                    go_roundw
                    case rel => exact ⟨k, M1, by omega, rfl, HL6, HN, hml6, HF6, HG5.out.trans HG6.out⟩
                    case measure => simp [intOf]
end Go.Proofs.YtjamknejllbmkaaGreatDoor

namespace Go.Proofs.YtjamknejllbmkaaGreatDoor
open Go.RowKit
set_option linter.unusedVariables false

/-- A definition's two cells; its body lies as E says. -/
def DfAt (E : World → Option Addr → List Ex → Prop) (w : World) (bk o : Nat) (d : Df) (g : Option Addr) (c : Nat) : Prop :=
  w.cell? ⟨bk, o, none⟩ = some (.int .i64 d.params) ∧ w.cell? ⟨bk, o + 1, none⟩ = some (.slice g d.body.length c) ∧ E w g d.body
/-- Definitions in a slice, wherever it lies. -/
def Defs (E : World → Option Addr → List Ex → Prop) (w : World) (g : Option Addr) (ds : List Df) : Prop :=
  ds = [] ∨ ∃ bk o, g = some ⟨bk, o, none⟩ ∧ bk < w.heap.size ∧ ∀ (j : Nat) d, ds[j]? = some d → ∃ gk ck, DfAt E w bk (o + j * 2) d gk ck
theorem Defs.at {E : World → Option Addr → List Ex → Prop} {w : World} {g : Option Addr} {ds : List Df} (h : Defs E w g ds) {j : Nat} (hj : j < ds.length) : ∃ bk o, g = some ⟨bk, o, none⟩ ∧ bk < w.heap.size ∧ ∃ gk ck, DfAt E w bk (o + j * 2) ds[j] gk ck := by
  rcases h with h | ⟨bk, o, h1, h2, h3⟩
  · subst h; simp at hj
  · exact ⟨bk, o, h1, h2, h3 j _ (List.getElem?_eq_getElem hj)⟩
theorem Defs.onE {E E' : World → Option Addr → List Ex → Prop} {w w' : World} {g : Option Addr} {ds : List Df} (h : Defs E w g ds) (hb : Below w.heap.size w w') (hE : ∀ g xs, E w g xs → E' w' g xs) : Defs E' w' g ds := by
  rcases h with h | ⟨bk, o, h1, h2, h3⟩
  · exact Or.inl h
  · refine Or.inr ⟨bk, o, h1, Nat.lt_of_lt_of_le h2 hb.size, fun j d hd => ?_⟩
    obtain ⟨gk, ck, k0, k1, k2⟩ := h3 j d hd
    exact ⟨gk, ck, (hb.cell (p := ⟨bk, o + j * 2, none⟩) h2).trans k0, (hb.cell (p := ⟨bk, o + j * 2 + 1, none⟩) h2).trans k1, hE _ _ k2⟩
theorem Defs.on {w w' : World} {g : Option Addr} {ds : List Df} (h : Defs Exs w g ds) (hb : Below w.heap.size w w') : Defs Exs w' g ds := h.onE hb (fun _ _ k => k.on hb)

theorem takes_lo {ds : List Df} {e : Ex} (h : ¬ 0 ≤ e.num) : takes ds e = false := by unfold takes; rw [decide_eq_false h]; rfl
theorem takes_hi {ds : List Df} {e : Ex} (h0 : 0 ≤ e.num) (h : ¬ e.num < (ds.length : Int)) : takes ds e = false := by
  unfold takes; rw [List.getElem?_eq_none (by omega)]; simp
theorem takes_at {ds : List Df} {e : Ex} (h0 : 0 ≤ e.num) (h : e.num.toNat < ds.length) : takes ds e = ((e.kids.length : Int) == ds[e.num.toNat].params) := by
  unfold takes; rw [List.getElem?_eq_getElem h, decide_eq_true h0]; simp only [Bool.true_and]; rw [Bool.eq_iff_iff]; simp

set_option maxHeartbeats 800000 in
set_option maxRecDepth 100000 in
theorem taker_any (e : Ex) (gk : Option Addr) (ck : Nat) (g : Option Addr) (c : Nat) (ds : List Df) (w : World) (hd : Defs Exs w g ds) :
    Calls Tryz.prog 58 #[eV e gk ck, .slice g ds.length c] w fun r w' => r = .returned (.bool (takes ds e)) ∧ Below w.heap.size w w' := by
  have hd' := hd.on ((Below.refl _ w).alloc (Nat.le_refl _) (.cells #[.int .i64 e.kind, .int .i64 e.num, .int .i64 e.bind, .slice gk e.kids.length ck] 55))
  have hR := World.alloc_heap_new w (.cells #[.int .i64 e.kind, .int .i64 e.num, .int .i64 e.bind, .slice gk e.kids.length ck] 55)
  by_cases h0 : 0 ≤ e.num
  · by_cases h1 : e.num < (ds.length : Int)
    · have hn : e.num.toNat < ds.length := by omega
      obtain ⟨bk, o, rfl, hbk, gb, cb, q0, q1, q2⟩ := hd'.at hn
      rw [takes_at h0 hn]
      obtain ⟨P, hP⟩ : ∃ P, ds[e.num.toNat].params = P := ⟨_, rfl⟩
      rw [hP] at q0 ⊢
      obtain ⟨m, hm⟩ : ∃ m : Nat, e.num = (m : Int) := ⟨e.num.toNat, by omega⟩
      rw [hm] at h1 h0 q0
      simp only [Int.toNat_natCast] at q0
      obtain ⟨kd, nm, bd, ks⟩ := e
      dsimp only at hm ⊢
      subst hm
      clear hP q1 q2 hd hd' hR hn
      go_enter Tryz.func58, Tryz.ntmps58
      go_wp2_with fail
      go_quiet (fail)
      go_wp2_with fail
      go_ret
      exact ⟨rfl, ((Below.refl _ w).alloc (Nat.le_refl _) _).trans (below_drewN _ _ _)⟩
    · rw [takes_hi h0 h1]
      have e1 : decide (e.num < (ds.length : Int)) = false := decide_eq_false h1
      have e0 : decide (0 ≤ e.num) = true := decide_eq_true h0
      clear hd hd' hR
      go_enter Tryz.func58, Tryz.ntmps58
      go_wp2_with fail
      go_quiet (fail)
      go_wp2_with fail
      go_ret
      exact ⟨rfl, ((Below.refl _ w).alloc (Nat.le_refl _) _).trans (below_drewN _ _ _)⟩
  · rw [takes_lo h0]
    have e0 : decide (0 ≤ e.num) = false := decide_eq_false h0
    clear hd hd' hR
    go_enter Tryz.func58, Tryz.ntmps58
    go_wp2_with fail
    go_quiet (fail)
    go_wp2_with fail
    go_ret
    exact ⟨rfl, ((Below.refl _ w).alloc (Nat.le_refl _) _).trans (below_drewN _ _ _)⟩
end Go.Proofs.YtjamknejllbmkaaGreatDoor

namespace Go.Proofs.YtjamknejllbmkaaGreatDoor
open Go.RowKit
set_option linter.unusedVariables false

theorem wrong_call {ds : List Df} {e : Ex} (h : e.kind = 2) : wrong ds e = !takes ds e := by unfold wrong; rw [decide_eq_true h]; rfl
theorem wrong_other {ds : List Df} {e : Ex} (h : ¬ e.kind = 2) : wrong ds e = false := by unfold wrong; rw [decide_eq_false h]; rfl

set_option maxHeartbeats 800000 in
set_option maxRecDepth 100000 in
/-- A call that nobody takes? The program lies in the box z. -/
theorem wrong_any (e : Ex) (gk : Option Addr) (ck : Nat) (g : Option Addr) (c z : Nat) (ds : List Df) (w : World) (hz : w.cell? ⟨z, 0, none⟩ = some (.slice g ds.length c)) (hd : Defs Exs w g ds) :
    Calls Tryz.prog 57 #[eV e gk ck, .pointer (some ⟨z, 0, none⟩)] w fun r w' => r = .returned (.bool (wrong ds e)) ∧ Below w.heap.size w w' := by
  have hb : Below w.heap.size w (w.alloc (.cells #[.int .i64 e.kind, .int .i64 e.num, .int .i64 e.bind, .slice gk e.kids.length ck] 55)) := (Below.refl _ w).alloc (Nat.le_refl _) _
  have hlz : z < w.heap.size := World.block_lt_of_cell? w _ hz
  have hz1 := (hb.cell (p := ⟨z, 0, none⟩) hlz).trans hz
  have hd1 := hd.on hb
  by_cases hk : e.kind = 2
  · rw [wrong_call hk]
    obtain ⟨kd, nm, bd, ks⟩ := e
    dsimp only at hk hb hz1 hd1 ⊢
    subst hk
    have e1 : ((2 : Int) == 2) = true := rfl
    generalize hT : takes ds ⟨2, nm, bd, ks⟩ = T
    have HT := taker_any ⟨2, nm, bd, ks⟩ gk ck g c ds _ hd1
    rw [hT] at HT
    clear hT
    clear hd hd1 hz
    go_enter Tryz.func57, Tryz.ntmps57
    go_wp2_with fail
    refine HT.mono ?_
    rintro r w1 ⟨rfl, hb1⟩
    have h2 := below_next hb hb1
    cases T
    · go_wp2_with fail
      go_ret
      exact ⟨rfl, h2⟩
    · go_wp2_with fail
      go_ret
      exact ⟨rfl, h2⟩
  · rw [wrong_other hk]
    have e1 : (e.kind == 2) = false := by simpa using hk
    clear hd hd1 hz
    go_enter Tryz.func57, Tryz.ntmps57
    go_wp2_with fail
    go_ret
    exact ⟨rfl, hb⟩

set_option maxHeartbeats 800000 in
set_option maxRecDepth 100000 in
theorem ixf_any (gb : Option Addr) (cb : Nat) (xs : List Ex) (g : Option Addr) (c z : Nat) (ds : List Df) (w : World) (hn : xs.length ≤ 24) (hx : Exs w gb xs) (hz : w.cell? ⟨z, 0, none⟩ = some (.slice g ds.length c)) (hd : Defs Exs w g ds) :
    Calls Tryz.prog 84 #[.slice gb xs.length cb, .func (.func 57) #[] #[.pointer (some ⟨z, 0, none⟩)]] w fun r w' => (∃ i : Int, r = .returned (.int .i64 i) ∧ decide (0 ≤ i) = xs.any (wrong ds)) ∧ Below w.heap.size w w' := by
  have HZ : Hid (z < w.heap.size ∧ w.cell? ⟨z, 0, none⟩ = some (.slice g ds.length c) ∧ Defs Exs w g ds ∧ Exs w gb xs) := ⟨World.block_lt_of_cell? w _ hz, hz, hd, hx⟩
  clear hz hd hx
  go_enter Tryz.func84, Tryz.ntmps84
  go_wp2_with fail
  go_loopw [5, 8] (fun _ s8 wr => ∃ k : Nat, k ≤ xs.length ∧ s8 = .int .i64 (k : Int) ∧ Hid (Below w.heap.size w wr) ∧ Hid ((xs.take k).any (wrong ds) = false))
    (fun _ s8 _ => xs.length - (intOf s8).toNat)
  case atStart => exact ⟨0, Nat.zero_le _, rfl, Below.refl _ _, by show ([] : List Ex).any (wrong ds) = false; rfl⟩
  case round =>
    obtain ⟨k, hk, rfl, HB, H⟩ := hrel
    by_cases hlt : k < xs.length
    · have hlt' : (k : Int) < (xs.length : Int) := by omega
      obtain ⟨bk, o, rfl, hbk, gk, ck, hE⟩ := (HZ.out.2.2.2.on HB.out).at hlt
      have hcall := wrong_any xs[k] gk ck g c z ds wr ((HB.out.cell (p := ⟨z, 0, none⟩) HZ.out.1).trans HZ.out.2.1) (HZ.out.2.2.1.on HB.out)
      obtain ⟨e, he⟩ : ∃ e, e = xs[k] := ⟨_, rfl⟩
      rw [← he] at hE hcall
      have HE : Hid (e = xs[k]) := he
      clear he
      obtain ⟨a0, a1, a2, a3, an⟩ := hE
      clear an
      cases hq : wrong ds e with
      | false =>
        rw [hq] at hcall
        go_wp2_with (go_at_call 57; refine hcall.mono ?_; rintro r w' ⟨rfl, hb'⟩)
        have hb2 := below_next HB.out hb'
        go_roundw
        case rel =>
          refine ⟨k + 1, by omega, by go_num, hb2, ?_⟩
          show (xs.take (k + 1)).any (wrong ds) = false
          rw [List.take_add_one, List.getElem?_eq_getElem hlt, List.any_append, H.out, ← HE.out]
          simp [hq]
        case measure => simp [intOf]; omega
      | true =>
        rw [hq] at hcall
        go_wp2_with (go_at_call 57; refine hcall.mono ?_; rintro r w' ⟨rfl, hb'⟩)
        have hb2 := below_next HB.out hb'
        go_ret
        refine ⟨⟨_, rfl, ?_⟩, hb2⟩
        have hf : xs.any (wrong ds) = true := by
          rw [List.any_eq_true]
          exact ⟨e, by rw [HE.out]; exact List.getElem_mem hlt, hq⟩
        rw [hf]
        simp
    · have hlt' : ¬ (k : Int) < (xs.length : Int) := by omega
      go_wp2_with fail
      go_ret
      refine ⟨⟨_, rfl, ?_⟩, HB.out⟩
      have e : k = xs.length := by omega
      have := H.out
      rw [e, List.take_length] at this
      rw [this]
      rfl

set_option maxHeartbeats 400000 in
theorem cf_any (gb : Option Addr) (cb : Nat) (xs : List Ex) (g : Option Addr) (c z : Nat) (ds : List Df) (w : World) (hn : xs.length ≤ 24) (hx : Exs w gb xs) (hz : w.cell? ⟨z, 0, none⟩ = some (.slice g ds.length c)) (hd : Defs Exs w g ds) :
    Calls Tryz.prog 60 #[.slice gb xs.length cb, .func (.func 57) #[] #[.pointer (some ⟨z, 0, none⟩)]] w fun r w' => r = .returned (.bool (xs.any (wrong ds))) ∧ Below w.heap.size w w' := by
  have h := ixf_any gb cb xs g c z ds w hn hx hz hd
  clear hx hz hd
  go_enter Tryz.func60, Tryz.ntmps60
  go_wp2_with fail
  refine h.mono ?_
  rintro r w1 ⟨⟨i, rfl, hi⟩, hb⟩
  go_wp2_with fail
  go_ret
  exact ⟨by rw [← hi]; rfl, hb⟩
end Go.Proofs.YtjamknejllbmkaaGreatDoor

namespace Go.Proofs.YtjamknejllbmkaaGreatDoor
open Go.RowKit
set_option linter.unusedVariables false

/-- A program's box. -/
def Bx1 (w : World) (z : Nat) (v : Value) : Prop := w.heap[z]? = some (.cells #[v] 30 (0, 0))
theorem Bx1.lt {w : World} {z : Nat} {v : Value} (h : Bx1 w z v) : z < w.heap.size := (Array.getElem?_eq_some_iff.1 h).1
theorem Bx1.c0 {w : World} {z : Nat} {v : Value} (h : Bx1 w z v) : w.cell? ⟨z, 0, none⟩ = some v := by
  unfold World.cell?; simp only [show w.heap[z]? = _ from h]; rfl
theorem Bx1.frozen {w : World} {z : Nat} {v : Value} (h : Bx1 w z v) (j : Nat) : w.frozen? ⟨z, j, none⟩ = false := by
  simp [World.frozen?, show w.heap[z]? = _ from h]
theorem Bx1.kept {w w' : World} {row : Option Nat} {z : Nat} {v : Value} (h : Bx1 w z v) (hg : w.grownBy w' row) (hne : some z ≠ row) : Bx1 w' z v := (hg.block z h.lt hne).trans h
theorem Bx1.on {w w' : World} {z : Nat} {v : Value} (h : Bx1 w z v) (hb : Below w.heap.size w w') : Bx1 w' z v := (hb.block z h.lt).trans h
theorem Bx1.alloc {w : World} {z : Nat} {v : Value} (h : Bx1 w z v) (o : Obj) : Bx1 (w.alloc o) z v := (Below.heap_alloc w o z h.lt).trans h
theorem Bx1.new (w : World) (v : Value) : Bx1 (w.alloc (.cells #[v] 30)) w.heap.size v := World.alloc_heap_new w _
theorem Bx1.set0 {w : World} {z : Nat} {v : Value} (h : Bx1 w z v) (u : Value) : Bx1 (w.setCell ⟨z, 0, none⟩ u) z u := by
  obtain ⟨hlt, hk⟩ := Array.getElem?_eq_some_iff.1 h
  show (w.heap.modify z _)[z]? = _
  rw [Array.getElem?_eq_getElem (by rw [Array.size_modify]; exact hlt), Array.getElem_modify_self, hk]
  rfl

theorem pmay_few {ds : List Df} (h : (ds.length : Int) < 1) : pmay ds = false := by
  unfold pmay; rw [decide_eq_false (by omega)]; rfl
theorem pmay_many {ds : List Df} (h : (8 : Int) < (ds.length : Int)) : pmay ds = false := by
  unfold pmay; rw [decide_eq_false (by omega)]; rfl
theorem pmay_main {ds : List Df} (h : 0 < ds.length) (h0 : ¬ ds[0].params = 0) : pmay ds = false := by
  unfold pmay; rw [List.getElem?_eq_getElem h]; simp [h0]
theorem pmay_all {ds : List Df} (h : 0 < ds.length) (h8 : ds.length ≤ 8) (h0 : ds[0].params = 0) : pmay ds = ds.all (dOk ds) := by
  unfold pmay; rw [List.getElem?_eq_getElem h, decide_eq_true ⟨h, h8⟩]; simp [h0]

set_option maxHeartbeats 1600000 in
set_option maxRecDepth 100000 in
theorem pmay_any (g : Option Addr) (c : Nat) (ds : List Df) (w : World) (hd : Defs Exs w g ds) :
    Calls Tryz.prog 43 #[.agg #[.slice g ds.length c]] w fun r w' => r = .returned (.bool (pmay ds)) ∧ Below w.heap.size w w' := by
  have hb0 : Below w.heap.size w (w.alloc (.cells #[.slice g ds.length c] 30)) := (Below.refl _ w).alloc (Nat.le_refl _) _
  have hX0 := Bx1.new w (.slice g ds.length c)
  have hd0 := hd.on hb0
  by_cases h1 : (ds.length : Int) < 1
  · have e1 : decide ((ds.length : Int) < 1) = true := decide_eq_true h1
    rw [pmay_few h1]
    clear hd hd0 hX0
    go_enter Tryz.func43, Tryz.ntmps43
    go_wp2_with fail
    go_ret
    exact ⟨rfl, hb0⟩
  · have e1 : decide ((ds.length : Int) < 1) = false := decide_eq_false h1
    by_cases h2 : (8 : Int) < (ds.length : Int)
    · have e2 : decide ((8 : Int) < (ds.length : Int)) = true := decide_eq_true h2
      rw [pmay_many h2]
      clear hd hd0 hX0
      go_enter Tryz.func43, Tryz.ntmps43
      go_wp2_with fail
      go_ret
      exact ⟨rfl, hb0⟩
    · have e2 : decide ((8 : Int) < (ds.length : Int)) = false := decide_eq_false h2
      have hl : 0 < ds.length := by omega
      obtain ⟨bk, o, rfl, hbk, gk, ck, q0, q1, q2⟩ := hd0.at hl
      simp only [Nat.zero_mul, Nat.add_zero] at q0 q1
      clear q1 q2
      by_cases h3 : ds[0].params = 0
      · have e3 : (ds[0].params != 0) = false := by simpa using h3
        have HP : Hid (pmay ds = ds.all (dOk ds)) := pmay_all hl (by omega) h3
        rw [h3] at q0 e3
        have HD : Hid (Defs Exs (w.alloc (.cells #[.slice (some ⟨bk, o, none⟩) ds.length c] 30)) (some ⟨bk, o, none⟩) ds) := hd0
        have HX : Hid (Bx1 (w.alloc (.cells #[.slice (some ⟨bk, o, none⟩) ds.length c] 30)) w.heap.size (.slice (some ⟨bk, o, none⟩) ds.length c)) := hX0
        have HB0 : Hid (Below w.heap.size w (w.alloc (.cells #[.slice (some ⟨bk, o, none⟩) ds.length c] 30))) := hb0
        clear hd hd0 hX0 h3 hb0
        go_enter Tryz.func43, Tryz.ntmps43
        go_wp2_with fail
        clear q0 e3 e1 e2
        obtain ⟨W0, hW0⟩ : ∃ W0, w.alloc (.cells #[.slice (some ⟨bk, o, none⟩) ds.length c] 30) = W0 := ⟨_, rfl⟩
        rw [hW0] at HD HX HB0 hbk ⊢
        clear hW0
        go_loopw [5, 28] (fun _ s wr => ∃ k : Nat, k ≤ ds.length ∧ s = .int .i64 (k : Int) ∧ Hid (Below W0.heap.size W0 wr) ∧ Hid ((ds.take k).all (dOk ds) = true))
          (fun _ s _ => ds.length - (intOf s).toNat)
        case atStart => exact ⟨0, Nat.zero_le _, rfl, Below.refl _ _, by show ([] : List Df).all (dOk ds) = true; rfl⟩
        case round =>
          obtain ⟨k, hk, rfl, HB, H⟩ := hrel
          by_cases hlt : k < ds.length
          · have hlt' : (k : Int) < (ds.length : Int) := by omega
            obtain ⟨bk2, o2, hge, hbk2, gk, ck, q0, q1, q2⟩ := (HD.out.on HB.out).at hlt
            cases hge
            obtain ⟨d, he⟩ : ∃ d, d = ds[k] := ⟨_, rfl⟩
            rw [← he] at q0 q1 q2
            have HE : Hid (d = ds[k]) := he
            clear he
            obtain ⟨pp, xs⟩ := d
            dsimp only at q0 q1 q2
            have hb1 : Below wr.heap.size wr (wr.alloc (.cells #[.int .i64 pp, .slice gk xs.length ck] 58)) := (Below.refl _ wr).alloc (Nat.le_refl _) _
            have hb2 := below_next HB.out hb1
            have hm := may_any pp gk ck xs _ (q2.on hb1)
            have hx3 := cell_new wr #[.int .i64 pp, .slice gk xs.length ck] 58 1 _ rfl
            have HQ : Hid (Exs wr gk xs) := q2
            have HB1 : Hid (Below W0.heap.size W0 (wr.alloc (.cells #[.int .i64 pp, .slice gk xs.length ck] 58))) := hb2
            have HC1 : Hid (wr.heap.size < (wr.alloc (.cells #[.int .i64 pp, .slice gk xs.length ck] 58)).heap.size ∧ (wr.alloc (.cells #[.int .i64 pp, .slice gk xs.length ck] 58)).cell? ⟨wr.heap.size, 1, none⟩ = some (.slice gk xs.length ck) ∧ Below wr.heap.size wr (wr.alloc (.cells #[.int .i64 pp, .slice gk xs.length ck] 58))) := ⟨by simp, hx3, hb1⟩
            clear q2 hb1 hb2 hx3
            cases hq : may pp xs with
            | false =>
              rw [hq] at hm
              go_wp2_with (go_at_call 59; refine hm.mono ?_; rintro r w3 ⟨rfl, hb3⟩)
              have hb4 := below_next HB0.out (below_next HB1.out hb3)
              have hr : pmay ds = false := by
                rw [HP.out, List.all_eq_false]
                exact ⟨⟨pp, xs⟩, by rw [HE.out]; exact List.getElem_mem hlt, by simp [dOk, hq]⟩
              go_ret
              exact ⟨by first | rfl | (rw [hr]; rfl), hb4⟩
            | true =>
              rw [hq] at hm
              have hx24 := may_len hq
              go_wp2_with (go_at_call 59; refine hm.mono ?_; rintro r w3 ⟨rfl, hb3⟩; have hc3 := (hb3.cell (p := ⟨wr.heap.size, 1, none⟩) HC1.out.1).trans HC1.out.2.1; have hb5 := below_next HB1.out hb3; have hcf := cf_any gk ck xs _ c w.heap.size ds w3 hx24 (HQ.out.on (below_next HC1.out.2.2 hb3)) (HX.out.on hb5).c0 (HD.out.on hb5))
              cases hw : xs.any (wrong ds) with
              | true =>
                rw [hw] at hcf
                refine hcf.mono ?_
                rintro r w4 ⟨rfl, hb6⟩
                have hb7 := below_next HB0.out (below_next hb5 hb6)
                have hr : pmay ds = false := by
                  rw [HP.out, List.all_eq_false]
                  exact ⟨⟨pp, xs⟩, by rw [HE.out]; exact List.getElem_mem hlt, by simp only [dOk, hq, hw]; decide⟩
                go_wp2_with fail
                go_ret
                exact ⟨by first | rfl | (rw [hr]; rfl), hb7⟩
              | false =>
                rw [hw] at hcf
                refine hcf.mono ?_
                rintro r w4 ⟨rfl, hb6⟩
                have hb7 := below_next hb5 hb6
                go_wp2_with fail
                go_roundw
                case rel =>
                  refine ⟨k + 1, by omega, by go_num, hb7, ?_⟩
                  show (ds.take (k + 1)).all (dOk ds) = true
                  rw [List.take_add_one, List.getElem?_eq_getElem hlt, List.all_append, H.out, ← HE.out]
                  simp only [Option.toList, List.all_cons, List.all_nil, dOk, hq, hw]
                  decide
                case measure => simp [intOf]; omega
          · have hlt' : ¬ (k : Int) < (ds.length : Int) := by omega
            have hb7 := below_next HB0.out HB.out
            have hr : pmay ds = true := by
              have h := H.out
              rw [show k = ds.length by omega, List.take_length] at h
              rw [HP.out, h]
            go_wp2_with fail
            go_ret
            exact ⟨by first | rfl | (rw [hr]; rfl), hb7⟩
      · have e3 : (ds[0].params != 0) = true := by simpa using h3
        rw [pmay_main hl h3]
        clear hd hd0 hX0 h3
        generalize ds[0].params = P at *
        go_enter Tryz.func43, Tryz.ntmps43
        go_wp2_with fail
        go_ret
        exact ⟨rfl, hb0⟩
end Go.Proofs.YtjamknejllbmkaaGreatDoor

namespace Go.Proofs.YtjamknejllbmkaaGreatDoor
open Go.RowKit
set_option linter.unusedVariables false

theorem cell_on {wc w' : World} {p : Addr} {x : Value} (h : wc.cell? p = some x) (hb : Below wc.heap.size wc w') : w'.cell? p = some x := by
  rw [hb.cell (World.block_lt_of_cell? wc p h)]; exact h
theorem pmay_within {ds : List Df} (h : withB (ds.length : Int) 1 8 = false) : pmay ds = false := by
  rw [withB_not] at h
  unfold pmay; rw [decide_eq_false (by omega)]; rfl

set_option maxHeartbeats 3200000 in
set_option maxRecDepth 100000 in
theorem rprog_any (g : Option Addr) (c : Nat) (ds : List Df) (w : World) (hd : Defs Exs w g ds) :
    Calls Tryz.prog 31 #[.agg #[.slice g ds.length c]] w fun r w' => r = .returned (.bool (pmay ds)) ∧ Below w.heap.size w w' := by
  have hb0 : Below w.heap.size w (w.alloc (.cells #[.slice g ds.length c] 30)) := (Below.refl _ w).alloc (Nat.le_refl _) _
  have hX0 := Bx1.new w (.slice g ds.length c)
  have hd0 := hd.on hb0
  have hup := upto_any (ds.length : Int) 1 8
  cases hw : withB (ds.length : Int) 1 8 with
  | false =>
    rw [hw] at hup
    rw [pmay_within hw]
    clear hd hd0 hX0
    go_enter Tryz.func31, Tryz.ntmps31
    go_wp2_with (go_at_call 37; refine (hup _).mono ?_; rintro e w' ⟨rfl, rfl⟩)
    go_ret
    exact ⟨rfl, hb0⟩
  | true =>
    rw [hw] at hup
    have hl8 : ds.length ≤ 8 := by rw [withB_iff] at hw; omega
    have hl : 0 < ds.length := by rw [withB_iff] at hw; omega
    obtain ⟨bk, o, rfl, hbk, gk, ck, q0, q1, q2⟩ := hd0.at hl
    simp only [Nat.zero_mul, Nat.add_zero] at q0 q1
    clear q1 q2 hw
    by_cases h3 : ds[0].params = 0
    · have e3 : (ds[0].params != 0) = false := by simpa using h3
      have HP : Hid (pmay ds = ds.all (dOk ds)) := pmay_all hl hl8 h3
      rw [h3] at q0 e3
      have HD : Hid (Defs Exs (w.alloc (.cells #[.slice (some ⟨bk, o, none⟩) ds.length c] 30)) (some ⟨bk, o, none⟩) ds) := hd0
      have HX : Hid (Bx1 (w.alloc (.cells #[.slice (some ⟨bk, o, none⟩) ds.length c] 30)) w.heap.size (.slice (some ⟨bk, o, none⟩) ds.length c)) := hX0
      have HB0 : Hid (Below w.heap.size w (w.alloc (.cells #[.slice (some ⟨bk, o, none⟩) ds.length c] 30))) := hb0
      clear hd hd0 hX0 h3 hb0
      go_enter Tryz.func31, Tryz.ntmps31
      go_wp2_with (go_at_call 37; refine (hup _).mono ?_; rintro e w' ⟨rfl, rfl⟩)
      clear q0 e3 hup
      obtain ⟨W0, hW0⟩ : ∃ W0, w.alloc (.cells #[.slice (some ⟨bk, o, none⟩) ds.length c] 30) = W0 := ⟨_, rfl⟩
      rw [hW0] at HD HX HB0 hbk ⊢
      clear hW0
      go_loopw [3, 4, 5] (fun s3 _ _ wr => ∃ k : Nat, k ≤ ds.length ∧ s3 = .int .i64 (k : Int) ∧ Hid (Below W0.heap.size W0 wr) ∧ Hid ((ds.take k).all (dOk ds) = true))
        (fun s3 _ _ _ => ds.length - (intOf s3).toNat)
      case atStart => exact ⟨0, Nat.zero_le _, rfl, Below.refl _ _, by show ([] : List Df).all (dOk ds) = true; rfl⟩
      case round =>
        obtain ⟨k, hk, rfl, HB, H⟩ := hrel
        have x0 := (HX.out.on HB.out).c0
        by_cases hlt : k < ds.length
        · have hlt' : (k : Int) < (ds.length : Int) := by omega
          obtain ⟨bk2, o2, hge, hbk2, gk, ck, q0, q1, q2⟩ := (HD.out.on HB.out).at hlt
          cases hge
          obtain ⟨d, he⟩ : ∃ d, d = ds[k] := ⟨_, rfl⟩
          rw [← he] at q0 q1 q2
          have HE : Hid (d = ds[k]) := he
          clear he
          obtain ⟨pp, xs⟩ := d
          dsimp only at q0 q1 q2
          have hm := defmay_any pp gk ck xs _ q2
          rw [← may_rmay] at hm
          have HQ : Hid (Exs wr gk xs) := q2
          clear q2
          cases hq : may pp xs with
          | false =>
            rw [hq] at hm
            have hr : pmay ds = false := by
              rw [HP.out, List.all_eq_false]
              exact ⟨⟨pp, xs⟩, by rw [HE.out]; exact List.getElem_mem hlt, by simp [dOk, hq]⟩
            go_wp2_with (go_at_call 53; refine hm.mono ?_; rintro r w3 ⟨rfl, hb3⟩)
            have hb4 := below_next HB0.out (below_next HB.out hb3)
            go_ret
            exact ⟨by first | rfl | (rw [hr]; rfl), hb4⟩
          | true =>
            rw [hq] at hm
            have hx24 := may_len hq
            have HM : Hid (may pp xs = true) := hq
            clear hq
            go_wp2_with (go_at_call 53; refine hm.mono ?_; rintro r w3 ⟨rfl, hb3⟩; have x0 := cell_on x0 hb3; have q1 := cell_on q1 hb3; have HB3 : Hid (Below wr.heap.size wr w3) := hb3; clear hb3)
            have HX3 : Hid (Bx1 w3 w.heap.size (.slice (some ⟨bk, o, none⟩) ds.length c)) := HX.out.on (below_next HB.out HB3.out)
            have HD3 : Hid (Defs Exs w3 (some ⟨bk, o, none⟩) ds) := HD.out.on (below_next HB.out HB3.out)
            have HQ3 : Hid (Exs w3 gk xs) := HQ.out.on HB3.out
            have HC3 : Hid (w3.cell? ⟨bk, o + k * 2 + 1, none⟩ = some (.slice gk xs.length ck)) := q1
            have HB5 : Hid (Below W0.heap.size W0 w3) := below_next HB.out HB3.out
            have HBE : Hid (⟨pp, xs⟩ ∈ ds) := by show _ ∈ _; rw [HE.out]; exact List.getElem_mem hlt
            clear HQ HB HB3 HX HD x0 q1 q0 hm hbk2
            go_loopw [4, 5] (fun s4 _ wi => ∃ m : Nat, m ≤ xs.length ∧ s4 = .int .i64 (m : Int) ∧ Hid (Below w3.heap.size w3 wi) ∧ Hid ((xs.take m).any (wrong ds) = false))
              (fun s4 _ _ => xs.length - (intOf s4).toNat)
            case atStart => exact ⟨0, Nat.zero_le _, rfl, Below.refl _ _, by show ([] : List Ex).any (wrong ds) = false; rfl⟩
            case round =>
              obtain ⟨m, hmm, rfl, HBi, Hi⟩ := hrel
              have x1 := (HX3.out.on HBi.out).c0
              have xl := (HX3.out.on HBi.out).lt
              have c1 := cell_on HC3.out HBi.out
              by_cases hlm : m < xs.length
              · have hlm' : (m : Int) < (xs.length : Int) := by omega
                obtain ⟨b3, o3, rfl, hb3, gk3, ck3, a0, a1, a2, a3, an⟩ := (HQ3.out.on HBi.out).at hlm
                have h7 : xs[m].kind = 2 → 0 ≤ xs[m].num := fun h => may_call HM.out (List.getElem_mem hlm) h
                have HT : Hid (xs.take (m + 1) = xs.take m ++ [xs[m]]) := List.take_succ_eq_append_getElem hlm
                have HME : Hid (xs[m] ∈ xs) := List.getElem_mem hlm
                obtain ⟨e, he⟩ : ∃ e, xs[m] = e := ⟨_, rfl⟩
                rw [he] at a0 a1 a2 a3 h7 HT HME
                clear he an
                by_cases hk2 : e.kind = 2
                · have h70 := h7 hk2
                  clear h7
                  by_cases hnl : e.num < (ds.length : Int)
                  · have hn : e.num.toNat < ds.length := by omega
                    obtain ⟨bk4, o4, hge4, hbk4, gk4, ck4, p0, p1, p2⟩ := (HD3.out.on HBi.out).at hn
                    clear p1 p2
                    cases hge4
                    have HW : Hid (wrong ds e = !((e.kids.length : Int) == ds[e.num.toNat].params)) := by
                      show _ = _
                      unfold wrong; rw [decide_eq_true hk2, takes_at h70 hn]; rfl
                    obtain ⟨P, hP⟩ : ∃ P, ds[e.num.toNat].params = P := ⟨_, rfl⟩
                    rw [hP] at p0 HW
                    clear hP
                    obtain ⟨nm, hnm⟩ : ∃ nm : Nat, e.num = (nm : Int) := ⟨e.num.toNat, by omega⟩
                    rw [hnm, Int.toNat_natCast] at p0
                    rw [hnm] at a1 hnl h70
                    rw [hk2] at a0
                    have hge5 : decide ((ds.length : Int) ≤ (nm : Int)) = false := by simp; omega
                    have hge6 : decide (ds.length ≤ nm) = false := by simp; omega
                    have hge7 : ¬ ds.length ≤ nm := by omega
                    by_cases hkp : (e.kids.length : Int) = P
                    · have ekp : ((e.kids.length : Int) != P) = false := by simpa using hkp
                      have HW2 : Hid (wrong ds e = false) := by show _ = _; rw [HW.out]; simp [hkp]
                      have HKP : Hid ((e.kids.length : Int) = P) := hkp
                      clear hkp HW hn hk2 hnm
                      go_wp2_with fail
                      go_quiet (fail)
                      go_wp2_with fail
                      go_roundw
                      case rel => exact ⟨m + 1, by omega, by go_num, (HBi.out.alloc HBi.out.size _).trans (below_drewN _ _ _), by show (xs.take (m + 1)).any (wrong ds) = false; rw [HT.out, List.any_append, Hi.out]; simp [HW2.out]⟩
                      case measure => simp [intOf]; omega
                    · have ekp : ((e.kids.length : Int) != P) = true := by simpa using hkp
                      have hr : pmay ds = false := by
                        rw [HP.out, List.all_eq_false]
                        refine ⟨_, HBE.out, ?_⟩
                        have : xs.any (wrong ds) = true := List.any_eq_true.2 ⟨e, HME.out, by rw [HW.out]; simpa using hkp⟩
                        simp [dOk, this]
                      clear hkp HW hn hk2 hnm
                      have hb9 := below_next HB0.out (below_next HB5.out HBi.out)
                      have hb8 := (hb9.alloc hb9.size (.cells #[.int .i64 2, .int .i64 (nm : Int), .int .i64 e.bind, .slice gk3 e.kids.length ck3] 55))
                      clear hb9
                      go_wp2_with fail
                      go_quiet (fail)
                      go_wp2_with fail
                      go_ret
                      exact ⟨by first | rfl | (rw [hr]; rfl), hb8.trans (below_drewN _ _ _)⟩
                  · have hge5 : decide ((ds.length : Int) ≤ e.num) = true := by simp; omega
                    have hr : pmay ds = false := by
                      rw [HP.out, List.all_eq_false]
                      refine ⟨_, HBE.out, ?_⟩
                      have : xs.any (wrong ds) = true := List.any_eq_true.2 ⟨e, HME.out, by unfold wrong; rw [decide_eq_true hk2, takes_hi h70 hnl]; rfl⟩
                      simp [dOk, this]
                    rw [hk2] at a0
                    clear hk2
                    have hb9 := below_next HB0.out (below_next HB5.out HBi.out)
                    have hb8 := (hb9.alloc hb9.size (.cells #[.int .i64 2, .int .i64 e.num, .int .i64 e.bind, .slice gk3 e.kids.length ck3] 55))
                    clear hb9
                    go_wp2_with fail
                    go_quiet (fail)
                    go_wp2_with fail
                    go_ret
                    exact ⟨by first | rfl | (rw [hr]; rfl), hb8.trans (below_drewN _ _ _)⟩
                · have ek : (e.kind == 2) = false := by simpa using hk2
                  have HW2 : Hid (wrong ds e = false) := by show _ = _; unfold wrong; rw [decide_eq_false hk2]; rfl
                  clear h7
                  go_wp2_with fail
                  go_quiet (fail)
                  go_wp2_with fail
                  go_roundw
                  case rel => exact ⟨m + 1, by omega, by go_num, (HBi.out.alloc HBi.out.size _).trans (below_drewN _ _ _), by show (xs.take (m + 1)).any (wrong ds) = false; rw [HT.out, List.any_append, Hi.out]; simp [HW2.out]⟩
                  case measure => simp [intOf]; omega
              · have hlm' : ¬ (m : Int) < (xs.length : Int) := by omega
                have hb8 := below_next HB5.out HBi.out
                have HN : Hid ((ds.take (k + 1)).all (dOk ds) = true) := by
                  show (ds.take (k + 1)).all (dOk ds) = true
                  have h := Hi.out
                  rw [show m = xs.length by omega, List.take_length] at h
                  rw [List.take_add_one, List.getElem?_eq_getElem hlt, List.all_append, H.out, ← HE.out]
                  simp only [Option.toList, List.all_cons, List.all_nil, dOk, HM.out, h]
                  decide
                go_wp2_with fail
                go_roundw
                case rel => exact ⟨k + 1, by omega, by go_num, hb8, HN⟩
                case measure => simp [intOf]; omega
        · have hlt' : ¬ (k : Int) < (ds.length : Int) := by omega
          have hb7 := below_next HB0.out HB.out
          have hr : pmay ds = true := by
            have h := H.out
            rw [show k = ds.length by omega, List.take_length] at h
            rw [HP.out, h]
          go_wp2_with fail
          go_ret
          exact ⟨by first | rfl | (rw [hr]; rfl), hb7⟩
    · have e3 : (ds[0].params != 0) = true := by simpa using h3
      rw [pmay_main hl h3]
      clear hd hd0 hX0 h3
      generalize ds[0].params = P at *
      go_enter Tryz.func31, Tryz.ntmps31
      go_wp2_with (go_at_call 37; refine (hup _).mono ?_; rintro e w' ⟨rfl, rfl⟩)
      go_ret
      exact ⟨rfl, hb0⟩
end Go.Proofs.YtjamknejllbmkaaGreatDoor
