/- The contract of the document's DefMay: which definitions may be. -/
import Derived.Test.YtiobjkmpeiohdaaMay
namespace Go.Proofs.Ytiobjkmpeiohdaa
open Go.RowKit
set_option linter.unusedVariables false

/-- What the document's levels may hold. -/
def FineR (M : List Int) : Prop := ∀ v ∈ M, 0 ≤ v ∧ v ≤ 12
theorem FineR.set {M : List Int} (h : FineR M) (j : Nat) {v : Int} (h1 : 0 ≤ v) (h2 : v ≤ 12) : FineR (M.set j v) := by
  intro u hu
  rcases List.mem_or_eq_of_mem_set hu with h' | h'
  · exact h u h'
  · subst h'; exact ⟨h1, h2⟩
theorem rstart_fine {p : Int} {n : Nat} (h0 : 0 ≤ p) (h3 : p ≤ 3) : FineR (rstart p n) := by
  unfold rstart
  refine FineR.set (fun v hv => ?_) _ (by omega) (by omega)
  rw [List.eq_of_mem_replicate hv]; omega
theorem rmay_no {p : Int} {xs : List Ex} (h : withB p 0 3 = false ∨ withB (xs.length : Int) 1 24 = false) : rmay p xs = false := by
  rw [← may_rmay]; exact may_no h
theorem rmay_yes {p : Int} {xs : List Ex} (h1 : withB p 0 3 = true) (h2 : withB (xs.length : Int) 1 24 = true) : rmay p xs = (rrun (rstart p xs.length) (backw xs)).isSome := by
  have h1 := withB_iff.1 h1
  have h2 := withB_iff.1 h2
  unfold rmay
  rw [if_pos ⟨h1.1, h1.2, by omega, by omega⟩]
theorem rrun_cons {M : List Int} {k : Nat} {e : Ex} {rest : List (Nat × Ex)} {t : Int} (ht : M[k]? = some t) :
    rrun M ((k, e) :: rest) = (if t = 0 then none else if t - 1 > 8 then none else if e.ok (t - 1) = false then none else rd k e t 0 e.kids M).bind fun M' => rrun M' rest := by
  rw [rrun]
  unfold rstp
  simp only [ht]
  split <;> rename_i h <;> rw [h] <;> rfl
theorem rd_no {n : Nat} {e : Ex} {t : Int} {i : Nat} {k : Int} {ks M : List Int} (h : withB k 0 ((n : Int) - 1) = false) : rd n e t i (k :: ks) M = none := by
  rw [rd, if_neg]
  intro hc
  exact withB_not.1 h ⟨hc.1, hc.2.1⟩
theorem rd_taken {n : Nat} {e : Ex} {t : Int} {i : Nat} {k : Int} {ks M : List Int} {v : Int} (h : M[k.toNat]? = some v) (hv : v ≠ 0) : rd n e t i (k :: ks) M = none := by
  rw [rd, if_neg]
  intro hc
  rw [h] at hc
  exact hv (Option.some.inj hc.2.2)
theorem rd_on {n : Nat} {e : Ex} {t : Int} {i : Nat} {k : Int} {ks M : List Int} (h : withB k 0 ((n : Int) - 1) = true) (hv : M[k.toNat]? = some 0) : rd n e t i (k :: ks) M = rd n e t (i + 1) ks (M.set k.toNat (t + e.bd i)) := by
  have hw := withB_iff.1 h
  rw [rd, if_pos ⟨hw.1, hw.2, hv⟩]
theorem backw_take {xs : List Ex} {k : Nat} (h : k < xs.length) : backw (xs.take (k + 1)) = (k, xs[k]) :: backw (xs.take k) := by
  rw [List.take_succ_eq_append_getElem h, backw_snoc, List.length_take, Nat.min_eq_left (by omega)]

theorem cell_set_other {W : World} {b j b' j' : Nat} {v u : Value} (h : W.cell? ⟨b', j', none⟩ = some u) (hne : b' ≠ b ∨ j' ≠ j) : (W.setCell ⟨b, j, none⟩ v).cell? ⟨b', j', none⟩ = some u := by
  rw [World.cell?_setCell_other _ _ _ _ (by intro e; injection e; omega)]; exact h
theorem half0 (n : Nat) : half 0 n = List.replicate n 0 := by simp [half]
theorem half0_at {n j : Nat} (h : j < n) : (half 0 n)[j]? = some 0 := by rw [half0, List.getElem?_replicate, if_pos h]
theorem rstart_cells {p : Int} {n nl : Nat} (h : nl + 1 = n) : (((half 0 n).map (Value.int .i64)).toArray).setIfInBounds nl (.int .i64 (p + 1)) = ((rstart p n).map (Value.int .i64)).toArray := by
  rw [half0]
  unfold rstart
  rw [show n - 1 = nl by omega, List.map_set, List.setIfInBounds_toArray]

set_option maxRecDepth 100000 in
set_option maxHeartbeats 2000000 in
theorem defmay_any (p : Int) (g : Option Addr) (c : Nat) (xs : List Ex) (w : World) (hx : Exs w g xs) :
    Calls Try.prog 21 #[.agg #[.int .i64 p, .slice g xs.length c]] w fun e w' => e = .returned (.bool (rmay p xs)) ∧ Below w.heap.size w w' := by
  cases hp : withB p 0 3 with
  | false =>
    have HM : Hid (rmay p xs = false) := rmay_no (.inl hp)
    go_enter Try.func21, Try.ntmps21
    go_wp2_with (go_at_call 20; refine (upto_any _ _ _ _).mono ?_; rintro e w1 ⟨rfl, rfl⟩)
    go_ret
    exact ⟨ret_bool HM.out.symm, (Below.refl _ _).alloc (Nat.le_refl _) _⟩
  | true =>
    cases hn : withB (xs.length : Int) 1 24 with
    | false =>
      have HM : Hid (rmay p xs = false) := rmay_no (.inr hn)
      go_enter Try.func21, Try.ntmps21
      go_wp2_with (go_at_call 20; refine (upto_any _ _ _ _).mono ?_; rintro e w1 ⟨rfl, rfl⟩)
      go_ret
      exact ⟨ret_bool HM.out.symm, (Below.refl _ _).alloc (Nat.le_refl _) _⟩
    | true =>
      have hp' := withB_iff.1 hp
      have hn' := withB_iff.1 hn
      obtain ⟨R, hR⟩ : ∃ R, rmay p xs = R := ⟨_, rfl⟩
      have HM : Hid ((rrun (rstart p xs.length) (backw xs)).isSome = R) := (rmay_yes hp hn).symm.trans hR
      rw [hR]
      clear hR
      have hmk := fun W => run_make_row' (P := Try.prog) 31 3 (.int .i64 0) 8 Try.underlying31 Try.info3 rfl .i64 .i64 xs.length (by omega) (by omega) W
      rw [made_half] at hmk
      obtain ⟨nl, hnl⟩ : ∃ nl : Nat, nl + 1 = xs.length := ⟨xs.length - 1, by omega⟩
      have HNL : Hid _ := hnl
      have hsub : (xs.length : Int) - 1 = (nl : Int) := by omega
      have hnlt : (nl : Int) < (xs.length : Int) := by omega
      have hmx : Try.prog.follows .mixedOrders = true := by kernel_rfl
      obtain ⟨cs0, hcs⟩ : ∃ cs0, cs0 = ((half 0 xs.length).map (Value.int .i64)).toArray := ⟨_, rfl⟩
      rw [← hcs] at hmk
      have hcl : cs0[nl]? = some (.int .i64 0) := by
        rw [hcs, List.getElem?_toArray, List.getElem?_map, half0_at (by omega)]; rfl
      have HCS : Hid _ := hcs
      clear hcs hnl
      go_enter Try.func21, Try.ntmps21
      go_wp2_with (go_at_call 20; refine (upto_any _ _ _ _).mono ?_; rintro e w1 ⟨rfl, rfl⟩)
      have hB0 : Below w.heap.size w ((w.alloc (.cells #[.int .i64 p, .slice g xs.length c] 36)).alloc (.cells (cs0.setIfInBounds nl (.int .i64 (p + 1))) 3)) := ((Below.refl _ w).alloc (Nat.le_refl _) _).alloc (by simp) _
      have bL : Lv ((w.alloc (.cells #[.int .i64 p, .slice g xs.length c] 36)).alloc (.cells (cs0.setIfInBounds nl (.int .i64 (p + 1))) 3)) (w.heap.size + 1) (rstart p xs.length) := by
        have h := Lv.new (w.alloc (.cells #[.int .i64 p, .slice g xs.length c] 36)) (rstart p xs.length)
        rw [World.size_alloc] at h
        rw [HCS.out, rstart_cells HNL.out]
        exact h
      have d1 := cell_old (.cells (cs0.setIfInBounds nl (.int .i64 (p + 1))) 3) (cell_new w #[.int .i64 p, .slice g xs.length c] 36 1 _ rfl)
      have hsz : ((w.alloc (.cells #[.int .i64 p, .slice g xs.length c] 36)).alloc (.cells (cs0.setIfInBounds nl (.int .i64 (p + 1))) 3)).heap.size = w.heap.size + 1 + 1 := by simp
      obtain ⟨W1, hW1⟩ : ∃ W1, (w.alloc (.cells #[.int .i64 p, .slice g xs.length c] 36)).alloc (.cells (cs0.setIfInBounds nl (.int .i64 (p + 1))) 3) = W1 := ⟨_, rfl⟩
      rw [hW1] at hB0 bL d1 hsz ⊢
      have HD1 : Hid (W1.cell? ⟨w.heap.size, 1, none⟩ = some (.slice g xs.length c)) := d1
      have HBL0 : Hid (Lv W1 (w.heap.size + 1) (rstart p xs.length)) := bL
      have HB0 : Hid (Below w.heap.size w W1) := hB0
      clear hW1 hmk HCS hcl d1 bL hB0
      go_loopw [4, 5, 6, 7] (fun s4 _ _ _ wr => ∃ (k : Nat) (M : List Int), k ≤ xs.length ∧ s4 = .int .i64 ((k : Int) - 1) ∧ Hid (Lv wr (w.heap.size + 1) M) ∧ Hid ((rrun M (backw (xs.take k))).isSome = R) ∧ M.length = xs.length ∧ Hid (FineR M) ∧ Hid (W1.grownBy wr (some (w.heap.size + 1))))
        (fun s4 _ _ _ _ => (intOf s4 + 1).toNat)
      case atStart =>
        refine ⟨xs.length, rstart p xs.length, Nat.le_refl _, by rw [hsub], HBL0, ?_, rstart_len _ _, rstart_fine hp'.1 hp'.2, World.grownBy.refl _ _⟩
        show _ = _
        rw [List.take_length]; exact HM.out
      case round =>
        obtain ⟨k, M, hk, rfl, HL, HR, hml, HF, HG⟩ := hrel
        have sz := HG.out.size
        have HBW : Hid (Below w.heap.size w wr) := HB0.out.grown HG.out (by omega) (fun k e => by cases e; omega)
        cases k with
        | zero =>
          have HN : Hid (R = true) := by
            show _ = _
            rw [← HR.out, List.take_zero]; rfl
          clear HR
          go_wp2_with fail
          go_ret
          exact ⟨ret_bool HN.out.symm, HBW.out⟩
        | succ k =>
          have hkx : k < xs.length := by omega
          have hkx' : (k : Int) < (xs.length : Int) := by omega
          have ek : ((k + 1 : Nat) : Int) - 1 = (k : Int) := by omega
          rw [ek]
          clear ek
          obtain ⟨bk, o, rfl, hbk, gk, ck, hex⟩ := hx.at hkx
          obtain ⟨e, hee⟩ : ∃ e, xs[k] = e := ⟨_, rfl⟩
          rw [hee] at hex
          have hbt := backw_take hkx
          rw [hee] at hbt
          obtain ⟨rest, hrest⟩ : ∃ rest, backw (xs.take k) = rest := ⟨_, rfl⟩
          obtain ⟨t, ht⟩ : ∃ t, M[k]? = some t := ⟨_, List.getElem?_eq_getElem (by omega)⟩
          have htf := HF.out t (List.mem_of_getElem? ht)
          have HR1 : Hid (((if t = 0 then none else if t - 1 > 8 then none else if e.ok (t - 1) = false then none else rd k e t 0 e.kids M).bind fun M' => rrun M' rest).isSome = R) := by
            show _ = _
            rw [← HR.out, hbt, hrest, rrun_cons ht]
          have hexw := hex.on hbk HBW.out
          have c0 := hexw.1
          have c1 := hexw.2.1
          have c2 := hexw.2.2.1
          have c3 := hexw.2.2.2.1
          have HK : Hid (Nums w gk e.kids) := hex.2.2.2.2
          have hd1 : wr.cell? ⟨w.heap.size, 1, none⟩ = some (.slice (some ⟨bk, o, none⟩) xs.length c) := HG.out.cell HD1.out (by simp)
          have cL := HL.out.cell ht
          have HT : Hid (M[k]? = some t) := ht
          have HRS : Hid _ := hrest
          have hwl : w.heap.size + 1 < wr.heap.size := by omega
          have hS0 := And.intro (cell_new wr #[.int .i64 e.kind, .int .i64 e.num, .int .i64 e.bind, .slice gk e.kids.length ck] 33 0 _ rfl) (And.intro (cell_new wr #[.int .i64 e.kind, .int .i64 e.num, .int .i64 e.bind, .slice gk e.kids.length ck] 33 1 _ rfl) (And.intro (cell_new wr #[.int .i64 e.kind, .int .i64 e.num, .int .i64 e.bind, .slice gk e.kids.length ck] 33 2 _ rfl) (And.intro (cell_new wr #[.int .i64 e.kind, .int .i64 e.num, .int .i64 e.bind, .slice gk e.kids.length ck] 33 3 _ rfl) (cell_old (.cells #[.int .i64 e.kind, .int .i64 e.num, .int .i64 e.bind, .slice gk e.kids.length ck] 33) cL))))
          have HS0 : Hid _ := hS0
          clear HR hbt hee hex hexw ht hrest hS0
          by_cases h0 : t = 0
          · subst h0
            have HN : Hid (R = false) := by
              show _ = _
              rw [← HR1.out, if_pos rfl]; rfl
            clear HR1
            go_wp2_with fail
            have hS0 := HS0.out
            refine wp_region_held (S := fun v => v.cell? ⟨wr.heap.size, 0, none⟩ = some (.int .i64 e.kind) ∧ v.cell? ⟨wr.heap.size, 1, none⟩ = some (.int .i64 e.num) ∧ v.cell? ⟨wr.heap.size, 2, none⟩ = some (.int .i64 e.bind) ∧ v.cell? ⟨wr.heap.size, 3, none⟩ = some (.slice gk e.kids.length ck) ∧ v.cell? ⟨w.heap.size + 1, k, none⟩ = some (.int .i64 0)) hmx ?_
            show wpAnyH _ _ _ _ _ 23 #[false, false, false, false, false, false, false, false, false, false, false, false, false, false, false, false, false, false, false, false, false, false, false] _ _
            refine takeH 0 (some 44) (.slice (some ⟨w.heap.size + 1, 0, none⟩) xs.length xs.length) rfl (by kernel_rfl) (by kernel_rfl) (by kernel_rfl) (fun _ _ _ h => h) (by rintro _ ⟨⟩; exact Or.inl ⟨by rfl, fun v hv => by obtain ⟨v0, v1, v2, v3, v4⟩ := hv; go_simp⟩) hS0 ?_
            simp only [Act.put, List.setIfInBounds_toArray, List.set_cons_zero, List.set_cons_succ]
            refine takeH 1 (some 45) (.int .i64 (k : Int)) rfl (by kernel_rfl) (by kernel_rfl) (by kernel_rfl) (fun _ _ _ h => h) (by rintro _ ⟨⟩; exact Or.inl ⟨by rfl, fun v hv => by obtain ⟨v0, v1, v2, v3, v4⟩ := hv; go_simp⟩) hS0 ?_
            simp only [Act.put, List.setIfInBounds_toArray, List.set_cons_zero, List.set_cons_succ]
            refine takeH 2 (some 46) (.pointer (some ⟨w.heap.size + 1, k, none⟩)) rfl (by kernel_rfl) (by kernel_rfl) (by kernel_rfl) (fun _ _ _ h => h) (by rintro _ ⟨⟩; exact Or.inl ⟨by rfl, fun v hv => by obtain ⟨v0, v1, v2, v3, v4⟩ := hv; go_simp⟩) hS0 ?_
            simp only [Act.put, List.setIfInBounds_toArray, List.set_cons_zero, List.set_cons_succ]
            refine takeH 3 (some 47) (.int .i64 0) rfl (by kernel_rfl) (by kernel_rfl) (by kernel_rfl) (fun _ _ _ h => h) (by rintro _ ⟨⟩; exact Or.inl ⟨by rfl, fun v hv => by obtain ⟨v0, v1, v2, v3, v4⟩ := hv; go_simp⟩) hS0 ?_
            simp only [Act.put, List.setIfInBounds_toArray, List.set_cons_zero, List.set_cons_succ]
            refine takeH 4 (some 48) (.bool true) rfl (by kernel_rfl) (by kernel_rfl) (by kernel_rfl) (fun _ _ _ h => h) (by rintro _ ⟨⟩; exact Or.inl ⟨by rfl, fun v hv => by obtain ⟨v0, v1, v2, v3, v4⟩ := hv; go_simp⟩) hS0 ?_
            simp only [Act.put, List.setIfInBounds_toArray, List.set_cons_zero, List.set_cons_succ]
            refine takeH 5 (some 49) (.bool true) rfl (by kernel_rfl) (by kernel_rfl) (by kernel_rfl) (fun _ _ _ h => h) (by rintro _ ⟨⟩; exact Or.inl ⟨by rfl, fun v hv => by obtain ⟨v0, v1, v2, v3, v4⟩ := hv; go_simp⟩) hS0 ?_
            simp only [Act.put, List.setIfInBounds_toArray, List.set_cons_zero, List.set_cons_succ]
            refine takeH 6 (some 50) (undef) rfl (by kernel_rfl) (by kernel_rfl) (by kernel_rfl) (fun _ _ _ h => h) (by rintro _ ⟨⟩; exact Or.inr ⟨by rfl, rfl⟩) hS0 ?_
            simp only [Act.put, List.setIfInBounds_toArray, List.set_cons_zero, List.set_cons_succ]
            refine takeH 7 (some 51) (undef) rfl (by kernel_rfl) (by kernel_rfl) (by kernel_rfl) (fun _ _ _ h => h) (by rintro _ ⟨⟩; exact Or.inr ⟨by rfl, rfl⟩) hS0 ?_
            simp only [Act.put, List.setIfInBounds_toArray, List.set_cons_zero, List.set_cons_succ]
            refine takeH 8 (some 52) (undef) rfl (by kernel_rfl) (by kernel_rfl) (by kernel_rfl) (fun _ _ _ h => h) (by rintro _ ⟨⟩; exact Or.inr ⟨by rfl, rfl⟩) hS0 ?_
            simp only [Act.put, List.setIfInBounds_toArray, List.set_cons_zero, List.set_cons_succ]
            refine takeH 9 (some 53) (undef) rfl (by kernel_rfl) (by kernel_rfl) (by kernel_rfl) (fun _ _ _ h => h) (by rintro _ ⟨⟩; exact Or.inr ⟨by rfl, rfl⟩) hS0 ?_
            simp only [Act.put, List.setIfInBounds_toArray, List.set_cons_zero, List.set_cons_succ]
            refine takeH 10 (some 54) (undef) rfl (by kernel_rfl) (by kernel_rfl) (by kernel_rfl) (fun _ _ _ h => h) (by rintro _ ⟨⟩; exact Or.inr ⟨by rfl, rfl⟩) hS0 ?_
            simp only [Act.put, List.setIfInBounds_toArray, List.set_cons_zero, List.set_cons_succ]
            refine takeH 11 (some 55) (undef) rfl (by kernel_rfl) (by kernel_rfl) (by kernel_rfl) (fun _ _ _ h => h) (by rintro _ ⟨⟩; exact Or.inr ⟨by rfl, rfl⟩) hS0 ?_
            simp only [Act.put, List.setIfInBounds_toArray, List.set_cons_zero, List.set_cons_succ]
            refine takeH 12 (some 56) (.bool true) rfl (by kernel_rfl) (by kernel_rfl) (by kernel_rfl) (fun _ _ _ h => h) (by rintro _ ⟨⟩; exact Or.inl ⟨by rfl, fun v hv => by obtain ⟨v0, v1, v2, v3, v4⟩ := hv; go_simp⟩) hS0 ?_
            simp only [Act.put, List.setIfInBounds_toArray, List.set_cons_zero, List.set_cons_succ]
            refine takeH 13 (some 57) (.bool true) rfl (by kernel_rfl) (by kernel_rfl) (by kernel_rfl) (fun _ _ _ h => h) (by rintro _ ⟨⟩; exact Or.inl ⟨by rfl, fun v hv => by obtain ⟨v0, v1, v2, v3, v4⟩ := hv; go_simp⟩) hS0 ?_
            simp only [Act.put, List.setIfInBounds_toArray, List.set_cons_zero, List.set_cons_succ]
            refine takeH 14 (some 58) (undef) rfl (by kernel_rfl) (by kernel_rfl) (by kernel_rfl) (fun _ _ _ h => h) (by rintro _ ⟨⟩; exact Or.inr ⟨by rfl, rfl⟩) hS0 ?_
            simp only [Act.put, List.setIfInBounds_toArray, List.set_cons_zero, List.set_cons_succ]
            refine takeH 15 (some 59) (undef) rfl (by kernel_rfl) (by kernel_rfl) (by kernel_rfl) (fun _ _ _ h => h) (by rintro _ ⟨⟩; exact Or.inr ⟨by rfl, rfl⟩) hS0 ?_
            simp only [Act.put, List.setIfInBounds_toArray, List.set_cons_zero, List.set_cons_succ]
            refine takeH 16 (some 60) (undef) rfl (by kernel_rfl) (by kernel_rfl) (by kernel_rfl) (fun _ _ _ h => h) (by rintro _ ⟨⟩; exact Or.inr ⟨by rfl, rfl⟩) hS0 ?_
            simp only [Act.put, List.setIfInBounds_toArray, List.set_cons_zero, List.set_cons_succ]
            refine takeH 17 (some 61) (undef) rfl (by kernel_rfl) (by kernel_rfl) (by kernel_rfl) (fun _ _ _ h => h) (by rintro _ ⟨⟩; exact Or.inr ⟨by rfl, rfl⟩) hS0 ?_
            simp only [Act.put, List.setIfInBounds_toArray, List.set_cons_zero, List.set_cons_succ]
            refine takeH 18 (some 62) (undef) rfl (by kernel_rfl) (by kernel_rfl) (by kernel_rfl) (fun _ _ _ h => h) (by rintro _ ⟨⟩; exact Or.inr ⟨by rfl, rfl⟩) hS0 ?_
            simp only [Act.put, List.setIfInBounds_toArray, List.set_cons_zero, List.set_cons_succ]
            refine takeH 19 (some 63) (undef) rfl (by kernel_rfl) (by kernel_rfl) (by kernel_rfl) (fun _ _ _ h => h) (by rintro _ ⟨⟩; exact Or.inr ⟨by rfl, rfl⟩) hS0 ?_
            simp only [Act.put, List.setIfInBounds_toArray, List.set_cons_zero, List.set_cons_succ]
            refine takeH 20 (some 64) (undef) rfl (by kernel_rfl) (by kernel_rfl) (by kernel_rfl) (fun _ _ _ h => h) (by rintro _ ⟨⟩; exact Or.inr ⟨by rfl, rfl⟩) hS0 ?_
            simp only [Act.put, List.setIfInBounds_toArray, List.set_cons_zero, List.set_cons_succ]
            refine takeH 21 (some 65) (undef) rfl (by kernel_rfl) (by kernel_rfl) (by kernel_rfl) (fun _ _ _ h => h) (by rintro _ ⟨⟩; exact Or.inr ⟨by rfl, rfl⟩) hS0 ?_
            simp only [Act.put, List.setIfInBounds_toArray, List.set_cons_zero, List.set_cons_succ]
            refine takeH 22 (some 66) (.bool true) rfl (by kernel_rfl) (by kernel_rfl) (by kernel_rfl) (fun _ _ _ h => h) (by rintro _ ⟨⟩; exact Or.inl ⟨by rfl, fun v hv => by obtain ⟨v0, v1, v2, v3, v4⟩ := hv; go_simp⟩) hS0 ?_
            simp only [Act.put, List.setIfInBounds_toArray, List.set_cons_zero, List.set_cons_succ]
            refine wpAnyH_done (by kernel_rfl) ?_ _
            go_wp2_with fail
            go_ret
            exact ⟨ret_bool HN.out.symm, (HBW.out.alloc (by omega) _).drew⟩
          · have e0 : (t == 0) = false := by simpa using h0
            obtain ⟨ht0, ht12⟩ := htf
            have hw1 : IntKind.i64.wrap (t - 1) = t - 1 := by rw [IntKind.wrap_i64]; omega
            by_cases h8 : t - 1 > 8
            · have d8 : decide ((8 : Int) < t - 1) = true := decide_eq_true h8
              have HN : Hid (R = false) := by
                show _ = _
                rw [← HR1.out, if_neg h0, if_pos h8]; rfl
              clear HR1
              go_wp2_with fail
              have hS0 := HS0.out
              refine wp_region_held (S := fun v => v.cell? ⟨wr.heap.size, 0, none⟩ = some (.int .i64 e.kind) ∧ v.cell? ⟨wr.heap.size, 1, none⟩ = some (.int .i64 e.num) ∧ v.cell? ⟨wr.heap.size, 2, none⟩ = some (.int .i64 e.bind) ∧ v.cell? ⟨wr.heap.size, 3, none⟩ = some (.slice gk e.kids.length ck) ∧ v.cell? ⟨w.heap.size + 1, k, none⟩ = some (.int .i64 t)) hmx ?_
              show wpAnyH _ _ _ _ _ 23 #[false, false, false, false, false, false, false, false, false, false, false, false, false, false, false, false, false, false, false, false, false, false, false] _ _
              refine takeH 0 (some 44) (.slice (some ⟨w.heap.size + 1, 0, none⟩) xs.length xs.length) rfl (by kernel_rfl) (by kernel_rfl) (by kernel_rfl) (fun _ _ _ h => h) (by rintro _ ⟨⟩; exact Or.inl ⟨by rfl, fun v hv => by obtain ⟨v0, v1, v2, v3, v4⟩ := hv; go_simp⟩) hS0 ?_
              simp only [Act.put, List.setIfInBounds_toArray, List.set_cons_zero, List.set_cons_succ]
              refine takeH 1 (some 45) (.int .i64 (k : Int)) rfl (by kernel_rfl) (by kernel_rfl) (by kernel_rfl) (fun _ _ _ h => h) (by rintro _ ⟨⟩; exact Or.inl ⟨by rfl, fun v hv => by obtain ⟨v0, v1, v2, v3, v4⟩ := hv; go_simp⟩) hS0 ?_
              simp only [Act.put, List.setIfInBounds_toArray, List.set_cons_zero, List.set_cons_succ]
              refine takeH 2 (some 46) (.pointer (some ⟨w.heap.size + 1, k, none⟩)) rfl (by kernel_rfl) (by kernel_rfl) (by kernel_rfl) (fun _ _ _ h => h) (by rintro _ ⟨⟩; exact Or.inl ⟨by rfl, fun v hv => by obtain ⟨v0, v1, v2, v3, v4⟩ := hv; go_simp⟩) hS0 ?_
              simp only [Act.put, List.setIfInBounds_toArray, List.set_cons_zero, List.set_cons_succ]
              refine takeH 3 (some 47) (.int .i64 t) rfl (by kernel_rfl) (by kernel_rfl) (by kernel_rfl) (fun _ _ _ h => h) (by rintro _ ⟨⟩; exact Or.inl ⟨by rfl, fun v hv => by obtain ⟨v0, v1, v2, v3, v4⟩ := hv; go_simp⟩) hS0 ?_
              simp only [Act.put, List.setIfInBounds_toArray, List.set_cons_zero, List.set_cons_succ]
              refine takeH 4 (some 48) (.bool false) rfl (by kernel_rfl) (by kernel_rfl) (by kernel_rfl) (fun _ _ _ h => h) (by rintro _ ⟨⟩; exact Or.inl ⟨by rfl, fun v hv => by obtain ⟨v0, v1, v2, v3, v4⟩ := hv; go_simp⟩) hS0 ?_
              simp only [Act.put, List.setIfInBounds_toArray, List.set_cons_zero, List.set_cons_succ]
              refine takeH 5 (some 49) (.bool false) rfl (by kernel_rfl) (by kernel_rfl) (by kernel_rfl) (fun _ _ _ h => h) (by rintro _ ⟨⟩; exact Or.inl ⟨by rfl, fun v hv => by obtain ⟨v0, v1, v2, v3, v4⟩ := hv; go_simp⟩) hS0 ?_
              simp only [Act.put, List.setIfInBounds_toArray, List.set_cons_zero, List.set_cons_succ]
              refine takeH 6 (some 50) (.slice (some ⟨w.heap.size + 1, 0, none⟩) xs.length xs.length) rfl (by kernel_rfl) (by kernel_rfl) (by kernel_rfl) (fun _ _ _ h => h) (by rintro _ ⟨⟩; exact Or.inl ⟨by rfl, fun v hv => by obtain ⟨v0, v1, v2, v3, v4⟩ := hv; go_simp⟩) hS0 ?_
              simp only [Act.put, List.setIfInBounds_toArray, List.set_cons_zero, List.set_cons_succ]
              refine takeH 7 (some 51) (.int .i64 (k : Int)) rfl (by kernel_rfl) (by kernel_rfl) (by kernel_rfl) (fun _ _ _ h => h) (by rintro _ ⟨⟩; exact Or.inl ⟨by rfl, fun v hv => by obtain ⟨v0, v1, v2, v3, v4⟩ := hv; go_simp⟩) hS0 ?_
              simp only [Act.put, List.setIfInBounds_toArray, List.set_cons_zero, List.set_cons_succ]
              refine takeH 8 (some 52) (.pointer (some ⟨w.heap.size + 1, k, none⟩)) rfl (by kernel_rfl) (by kernel_rfl) (by kernel_rfl) (fun _ _ _ h => h) (by rintro _ ⟨⟩; exact Or.inl ⟨by rfl, fun v hv => by obtain ⟨v0, v1, v2, v3, v4⟩ := hv; go_simp⟩) hS0 ?_
              simp only [Act.put, List.setIfInBounds_toArray, List.set_cons_zero, List.set_cons_succ]
              refine takeH 9 (some 53) (.int .i64 t) rfl (by kernel_rfl) (by kernel_rfl) (by kernel_rfl) (fun _ _ _ h => h) (by rintro _ ⟨⟩; exact Or.inl ⟨by rfl, fun v hv => by obtain ⟨v0, v1, v2, v3, v4⟩ := hv; go_simp⟩) hS0 ?_
              simp only [Act.put, List.setIfInBounds_toArray, List.set_cons_zero, List.set_cons_succ]
              refine takeH 10 (some 54) (.int .i64 (t - 1)) rfl (by kernel_rfl) (by kernel_rfl) (by kernel_rfl) (fun _ _ _ h => h) (by rintro _ ⟨⟩; exact Or.inl ⟨by rfl, fun v hv => by obtain ⟨v0, v1, v2, v3, v4⟩ := hv; go_simp⟩) hS0 ?_
              simp only [Act.put, List.setIfInBounds_toArray, List.set_cons_zero, List.set_cons_succ]
              refine takeH 11 (some 55) (.bool true) rfl (by kernel_rfl) (by kernel_rfl) (by kernel_rfl) (fun _ _ _ h => h) (by rintro _ ⟨⟩; exact Or.inl ⟨by rfl, fun v hv => by obtain ⟨v0, v1, v2, v3, v4⟩ := hv; go_simp⟩) hS0 ?_
              simp only [Act.put, List.setIfInBounds_toArray, List.set_cons_zero, List.set_cons_succ]
              refine takeH 12 (some 56) (.bool true) rfl (by kernel_rfl) (by kernel_rfl) (by kernel_rfl) (fun _ _ _ h => h) (by rintro _ ⟨⟩; exact Or.inl ⟨by rfl, fun v hv => by obtain ⟨v0, v1, v2, v3, v4⟩ := hv; go_simp⟩) hS0 ?_
              simp only [Act.put, List.setIfInBounds_toArray, List.set_cons_zero, List.set_cons_succ]
              refine takeH 13 (some 57) (.bool true) rfl (by kernel_rfl) (by kernel_rfl) (by kernel_rfl) (fun _ _ _ h => h) (by rintro _ ⟨⟩; exact Or.inl ⟨by rfl, fun v hv => by obtain ⟨v0, v1, v2, v3, v4⟩ := hv; go_simp⟩) hS0 ?_
              simp only [Act.put, List.setIfInBounds_toArray, List.set_cons_zero, List.set_cons_succ]
              refine takeH 14 (some 58) (undef) rfl (by kernel_rfl) (by kernel_rfl) (by kernel_rfl) (fun _ _ _ h => h) (by rintro _ ⟨⟩; exact Or.inr ⟨by rfl, rfl⟩) hS0 ?_
              simp only [Act.put, List.setIfInBounds_toArray, List.set_cons_zero, List.set_cons_succ]
              refine takeH 15 (some 59) (undef) rfl (by kernel_rfl) (by kernel_rfl) (by kernel_rfl) (fun _ _ _ h => h) (by rintro _ ⟨⟩; exact Or.inr ⟨by rfl, rfl⟩) hS0 ?_
              simp only [Act.put, List.setIfInBounds_toArray, List.set_cons_zero, List.set_cons_succ]
              refine takeH 16 (some 60) (undef) rfl (by kernel_rfl) (by kernel_rfl) (by kernel_rfl) (fun _ _ _ h => h) (by rintro _ ⟨⟩; exact Or.inr ⟨by rfl, rfl⟩) hS0 ?_
              simp only [Act.put, List.setIfInBounds_toArray, List.set_cons_zero, List.set_cons_succ]
              refine takeH 17 (some 61) (undef) rfl (by kernel_rfl) (by kernel_rfl) (by kernel_rfl) (fun _ _ _ h => h) (by rintro _ ⟨⟩; exact Or.inr ⟨by rfl, rfl⟩) hS0 ?_
              simp only [Act.put, List.setIfInBounds_toArray, List.set_cons_zero, List.set_cons_succ]
              refine takeH 18 (some 62) (undef) rfl (by kernel_rfl) (by kernel_rfl) (by kernel_rfl) (fun _ _ _ h => h) (by rintro _ ⟨⟩; exact Or.inr ⟨by rfl, rfl⟩) hS0 ?_
              simp only [Act.put, List.setIfInBounds_toArray, List.set_cons_zero, List.set_cons_succ]
              refine takeH 19 (some 63) (undef) rfl (by kernel_rfl) (by kernel_rfl) (by kernel_rfl) (fun _ _ _ h => h) (by rintro _ ⟨⟩; exact Or.inr ⟨by rfl, rfl⟩) hS0 ?_
              simp only [Act.put, List.setIfInBounds_toArray, List.set_cons_zero, List.set_cons_succ]
              refine takeH 20 (some 64) (undef) rfl (by kernel_rfl) (by kernel_rfl) (by kernel_rfl) (fun _ _ _ h => h) (by rintro _ ⟨⟩; exact Or.inr ⟨by rfl, rfl⟩) hS0 ?_
              simp only [Act.put, List.setIfInBounds_toArray, List.set_cons_zero, List.set_cons_succ]
              refine takeH 21 (some 65) (undef) rfl (by kernel_rfl) (by kernel_rfl) (by kernel_rfl) (fun _ _ _ h => h) (by rintro _ ⟨⟩; exact Or.inr ⟨by rfl, rfl⟩) hS0 ?_
              simp only [Act.put, List.setIfInBounds_toArray, List.set_cons_zero, List.set_cons_succ]
              refine takeH 22 (some 66) (.bool true) rfl (by kernel_rfl) (by kernel_rfl) (by kernel_rfl) (fun _ _ _ h => h) (by rintro _ ⟨⟩; exact Or.inl ⟨by rfl, fun v hv => by obtain ⟨v0, v1, v2, v3, v4⟩ := hv; go_simp⟩) hS0 ?_
              simp only [Act.put, List.setIfInBounds_toArray, List.set_cons_zero, List.set_cons_succ]
              refine wpAnyH_done (by kernel_rfl) ?_ _
              go_wp2_with fail
              go_ret
              exact ⟨ret_bool HN.out.symm, (HBW.out.alloc (by omega) _).drew⟩
            · have d8 : decide ((8 : Int) < t - 1) = false := decide_eq_false h8
              have hki := kinds_any e.kind e.num e.bind (t - 1) gk e.kids.length ck (wr.alloc (.cells #[.int .i64 e.kind, .int .i64 e.num, .int .i64 e.bind, .slice gk e.kids.length ck] 33)).drew (by omega) (by omega)
              cases hok : okE e.kind e.num e.bind e.kids.length (t - 1) with
              | false =>
                rw [hok] at hki
                have HN : Hid (R = false) := by
                  show _ = _
                  rw [← HR1.out, if_neg h0, if_neg h8, if_pos (show e.ok (t - 1) = false from hok)]; rfl
                clear HR1
                go_wp2_with fail
                have hS0 := HS0.out
                refine wp_region_held (S := fun v => v.cell? ⟨wr.heap.size, 0, none⟩ = some (.int .i64 e.kind) ∧ v.cell? ⟨wr.heap.size, 1, none⟩ = some (.int .i64 e.num) ∧ v.cell? ⟨wr.heap.size, 2, none⟩ = some (.int .i64 e.bind) ∧ v.cell? ⟨wr.heap.size, 3, none⟩ = some (.slice gk e.kids.length ck) ∧ v.cell? ⟨w.heap.size + 1, k, none⟩ = some (.int .i64 t)) hmx ?_
                show wpAnyH _ _ _ _ _ 23 #[false, false, false, false, false, false, false, false, false, false, false, false, false, false, false, false, false, false, false, false, false, false, false] _ _
                refine takeH 0 (some 44) (.slice (some ⟨w.heap.size + 1, 0, none⟩) xs.length xs.length) rfl (by kernel_rfl) (by kernel_rfl) (by kernel_rfl) (fun _ _ _ h => h) (by rintro _ ⟨⟩; exact Or.inl ⟨by rfl, fun v hv => by obtain ⟨v0, v1, v2, v3, v4⟩ := hv; go_simp⟩) hS0 ?_
                simp only [Act.put, List.setIfInBounds_toArray, List.set_cons_zero, List.set_cons_succ]
                refine takeH 1 (some 45) (.int .i64 (k : Int)) rfl (by kernel_rfl) (by kernel_rfl) (by kernel_rfl) (fun _ _ _ h => h) (by rintro _ ⟨⟩; exact Or.inl ⟨by rfl, fun v hv => by obtain ⟨v0, v1, v2, v3, v4⟩ := hv; go_simp⟩) hS0 ?_
                simp only [Act.put, List.setIfInBounds_toArray, List.set_cons_zero, List.set_cons_succ]
                refine takeH 2 (some 46) (.pointer (some ⟨w.heap.size + 1, k, none⟩)) rfl (by kernel_rfl) (by kernel_rfl) (by kernel_rfl) (fun _ _ _ h => h) (by rintro _ ⟨⟩; exact Or.inl ⟨by rfl, fun v hv => by obtain ⟨v0, v1, v2, v3, v4⟩ := hv; go_simp⟩) hS0 ?_
                simp only [Act.put, List.setIfInBounds_toArray, List.set_cons_zero, List.set_cons_succ]
                refine takeH 3 (some 47) (.int .i64 t) rfl (by kernel_rfl) (by kernel_rfl) (by kernel_rfl) (fun _ _ _ h => h) (by rintro _ ⟨⟩; exact Or.inl ⟨by rfl, fun v hv => by obtain ⟨v0, v1, v2, v3, v4⟩ := hv; go_simp⟩) hS0 ?_
                simp only [Act.put, List.setIfInBounds_toArray, List.set_cons_zero, List.set_cons_succ]
                refine takeH 4 (some 48) (.bool false) rfl (by kernel_rfl) (by kernel_rfl) (by kernel_rfl) (fun _ _ _ h => h) (by rintro _ ⟨⟩; exact Or.inl ⟨by rfl, fun v hv => by obtain ⟨v0, v1, v2, v3, v4⟩ := hv; go_simp⟩) hS0 ?_
                simp only [Act.put, List.setIfInBounds_toArray, List.set_cons_zero, List.set_cons_succ]
                refine takeH 5 (some 49) (.bool false) rfl (by kernel_rfl) (by kernel_rfl) (by kernel_rfl) (fun _ _ _ h => h) (by rintro _ ⟨⟩; exact Or.inl ⟨by rfl, fun v hv => by obtain ⟨v0, v1, v2, v3, v4⟩ := hv; go_simp⟩) hS0 ?_
                simp only [Act.put, List.setIfInBounds_toArray, List.set_cons_zero, List.set_cons_succ]
                refine takeH 6 (some 50) (.slice (some ⟨w.heap.size + 1, 0, none⟩) xs.length xs.length) rfl (by kernel_rfl) (by kernel_rfl) (by kernel_rfl) (fun _ _ _ h => h) (by rintro _ ⟨⟩; exact Or.inl ⟨by rfl, fun v hv => by obtain ⟨v0, v1, v2, v3, v4⟩ := hv; go_simp⟩) hS0 ?_
                simp only [Act.put, List.setIfInBounds_toArray, List.set_cons_zero, List.set_cons_succ]
                refine takeH 7 (some 51) (.int .i64 (k : Int)) rfl (by kernel_rfl) (by kernel_rfl) (by kernel_rfl) (fun _ _ _ h => h) (by rintro _ ⟨⟩; exact Or.inl ⟨by rfl, fun v hv => by obtain ⟨v0, v1, v2, v3, v4⟩ := hv; go_simp⟩) hS0 ?_
                simp only [Act.put, List.setIfInBounds_toArray, List.set_cons_zero, List.set_cons_succ]
                refine takeH 8 (some 52) (.pointer (some ⟨w.heap.size + 1, k, none⟩)) rfl (by kernel_rfl) (by kernel_rfl) (by kernel_rfl) (fun _ _ _ h => h) (by rintro _ ⟨⟩; exact Or.inl ⟨by rfl, fun v hv => by obtain ⟨v0, v1, v2, v3, v4⟩ := hv; go_simp⟩) hS0 ?_
                simp only [Act.put, List.setIfInBounds_toArray, List.set_cons_zero, List.set_cons_succ]
                refine takeH 9 (some 53) (.int .i64 t) rfl (by kernel_rfl) (by kernel_rfl) (by kernel_rfl) (fun _ _ _ h => h) (by rintro _ ⟨⟩; exact Or.inl ⟨by rfl, fun v hv => by obtain ⟨v0, v1, v2, v3, v4⟩ := hv; go_simp⟩) hS0 ?_
                simp only [Act.put, List.setIfInBounds_toArray, List.set_cons_zero, List.set_cons_succ]
                refine takeH 10 (some 54) (.int .i64 (t - 1)) rfl (by kernel_rfl) (by kernel_rfl) (by kernel_rfl) (fun _ _ _ h => h) (by rintro _ ⟨⟩; exact Or.inl ⟨by rfl, fun v hv => by obtain ⟨v0, v1, v2, v3, v4⟩ := hv; go_simp⟩) hS0 ?_
                simp only [Act.put, List.setIfInBounds_toArray, List.set_cons_zero, List.set_cons_succ]
                refine takeH 11 (some 55) (.bool false) rfl (by kernel_rfl) (by kernel_rfl) (by kernel_rfl) (fun _ _ _ h => h) (by rintro _ ⟨⟩; exact Or.inl ⟨by rfl, fun v hv => by obtain ⟨v0, v1, v2, v3, v4⟩ := hv; go_simp⟩) hS0 ?_
                simp only [Act.put, List.setIfInBounds_toArray, List.set_cons_zero, List.set_cons_succ]
                refine takeH 12 (some 56) (.bool false) rfl (by kernel_rfl) (by kernel_rfl) (by kernel_rfl) (fun _ _ _ h => h) (by rintro _ ⟨⟩; exact Or.inl ⟨by rfl, fun v hv => by obtain ⟨v0, v1, v2, v3, v4⟩ := hv; go_simp⟩) hS0 ?_
                simp only [Act.put, List.setIfInBounds_toArray, List.set_cons_zero, List.set_cons_succ]
                refine takeH 13 (some 57) (.bool false) rfl (by kernel_rfl) (by kernel_rfl) (by kernel_rfl) (fun _ _ _ h => h) (by rintro _ ⟨⟩; exact Or.inl ⟨by rfl, fun v hv => by obtain ⟨v0, v1, v2, v3, v4⟩ := hv; go_simp⟩) hS0 ?_
                simp only [Act.put, List.setIfInBounds_toArray, List.set_cons_zero, List.set_cons_succ]
                refine takeH 14 (some 58) (eV e gk ck) rfl (by kernel_rfl) (by kernel_rfl) (by kernel_rfl) (fun _ _ _ h => h) (by rintro _ ⟨⟩; exact Or.inl ⟨by rfl, fun v hv => by obtain ⟨v0, v1, v2, v3, v4⟩ := hv; go_simp⟩) hS0 ?_
                simp only [Act.put, List.setIfInBounds_toArray, List.set_cons_zero, List.set_cons_succ]
                refine takeH 15 (some 59) (.slice (some ⟨w.heap.size + 1, 0, none⟩) xs.length xs.length) rfl (by kernel_rfl) (by kernel_rfl) (by kernel_rfl) (fun _ _ _ h => h) (by rintro _ ⟨⟩; exact Or.inl ⟨by rfl, fun v hv => by obtain ⟨v0, v1, v2, v3, v4⟩ := hv; go_simp⟩) hS0 ?_
                simp only [Act.put, List.setIfInBounds_toArray, List.set_cons_zero, List.set_cons_succ]
                refine takeH 16 (some 60) (.int .i64 (k : Int)) rfl (by kernel_rfl) (by kernel_rfl) (by kernel_rfl) (fun _ _ _ h => h) (by rintro _ ⟨⟩; exact Or.inl ⟨by rfl, fun v hv => by obtain ⟨v0, v1, v2, v3, v4⟩ := hv; go_simp⟩) hS0 ?_
                simp only [Act.put, List.setIfInBounds_toArray, List.set_cons_zero, List.set_cons_succ]
                refine takeH 17 (some 61) (.pointer (some ⟨w.heap.size + 1, k, none⟩)) rfl (by kernel_rfl) (by kernel_rfl) (by kernel_rfl) (fun _ _ _ h => h) (by rintro _ ⟨⟩; exact Or.inl ⟨by rfl, fun v hv => by obtain ⟨v0, v1, v2, v3, v4⟩ := hv; go_simp⟩) hS0 ?_
                simp only [Act.put, List.setIfInBounds_toArray, List.set_cons_zero, List.set_cons_succ]
                refine takeH 18 (some 62) (.int .i64 t) rfl (by kernel_rfl) (by kernel_rfl) (by kernel_rfl) (fun _ _ _ h => h) (by rintro _ ⟨⟩; exact Or.inl ⟨by rfl, fun v hv => by obtain ⟨v0, v1, v2, v3, v4⟩ := hv; go_simp⟩) hS0 ?_
                simp only [Act.put, List.setIfInBounds_toArray, List.set_cons_zero, List.set_cons_succ]
                refine takeH 19 (some 63) (.int .i64 (t - 1)) rfl (by kernel_rfl) (by kernel_rfl) (by kernel_rfl) (fun _ _ _ h => h) (by rintro _ ⟨⟩; exact Or.inl ⟨by rfl, fun v hv => by obtain ⟨v0, v1, v2, v3, v4⟩ := hv; go_simp⟩) hS0 ?_
                simp only [Act.put, List.setIfInBounds_toArray, List.set_cons_zero, List.set_cons_succ]
                refine oneH 20 (by kernel_rfl) (callH 20 29 (some 64) #[eV e gk ck, .int .i64 (t - 1)] rfl (by rintro _ ⟨⟩; exact ⟨by rfl, by go_simp⟩) (hki.mono ?_))
                clear hki
                rintro x w5 ⟨rfl, hb5⟩
                have hb6 : Below (wr.alloc (.cells #[.int .i64 e.kind, .int .i64 e.num, .int .i64 e.bind, .slice gk e.kids.length ck] 33)).heap.size (wr.alloc (.cells #[.int .i64 e.kind, .int .i64 e.num, .int .i64 e.bind, .slice gk e.kids.length ck] 33)) w5 := ⟨hb5.os, hb5.tape, hb5.output, hb5.size, hb5.block⟩
                have HB5 : Hid (Below w.heap.size w w5) := (HBW.out.alloc (by omega) _).trans (hb6.mono (by rw [World.size_alloc]; omega))
                have hS5 := And.intro ((hb6.cell (p := ⟨wr.heap.size, 0, none⟩) (by rw [World.size_alloc]; show wr.heap.size < _; omega)).trans hS0.1) (And.intro ((hb6.cell (p := ⟨wr.heap.size, 1, none⟩) (by rw [World.size_alloc]; show wr.heap.size < _; omega)).trans hS0.2.1) (And.intro ((hb6.cell (p := ⟨wr.heap.size, 2, none⟩) (by rw [World.size_alloc]; show wr.heap.size < _; omega)).trans hS0.2.2.1) (And.intro ((hb6.cell (p := ⟨wr.heap.size, 3, none⟩) (by rw [World.size_alloc]; show wr.heap.size < _; omega)).trans hS0.2.2.2.1) ((hb6.cell (p := ⟨w.heap.size + 1, k, none⟩) (by rw [World.size_alloc]; show w.heap.size + 1 < _; omega)).trans hS0.2.2.2.2))))
                refine ⟨_, rfl, hS5, ?_⟩
                simp only [Act.put, List.setIfInBounds_toArray, List.set_cons_zero, List.set_cons_succ]
                refine takeH 21 (some 65) (.bool true) rfl (by kernel_rfl) (by kernel_rfl) (by kernel_rfl) (fun _ _ _ h => h) (by rintro _ ⟨⟩; exact Or.inl ⟨by rfl, fun v hv => by obtain ⟨v0, v1, v2, v3, v4⟩ := hv; go_simp⟩) hS5 ?_
                simp only [Act.put, List.setIfInBounds_toArray, List.set_cons_zero, List.set_cons_succ]
                refine takeH 22 (some 66) (.bool true) rfl (by kernel_rfl) (by kernel_rfl) (by kernel_rfl) (fun _ _ _ h => h) (by rintro _ ⟨⟩; exact Or.inl ⟨by rfl, fun v hv => by obtain ⟨v0, v1, v2, v3, v4⟩ := hv; go_simp⟩) hS5 ?_
                simp only [Act.put, List.setIfInBounds_toArray, List.set_cons_zero, List.set_cons_succ]
                refine wpAnyH_done (by kernel_rfl) ?_ _
                go_wp2_with fail
                go_ret
                exact ⟨ret_bool HN.out.symm, HB5.out⟩
              | true =>
                rw [hok] at hki
                have hbd : ∀ i, 0 ≤ e.bd i ∧ e.bd i ≤ 3 := fun i => bnd_le hok
                have HBD : Hid _ := hbd
                have hkl := okE_kids hok
                have HR2 : Hid (((rd k e t 0 e.kids M).bind fun M' => rrun M' rest).isSome = R) := by
                  show _ = _
                  rw [← HR1.out, if_neg h0, if_neg h8, if_neg (show ¬ e.ok (t - 1) = false by show ¬ okE _ _ _ _ _ = false; rw [hok]; simp)]
                clear HR1 hbd hok
                go_wp2_with fail
                have hS0 := HS0.out
                refine wp_region_held (S := fun v => v.cell? ⟨wr.heap.size, 0, none⟩ = some (.int .i64 e.kind) ∧ v.cell? ⟨wr.heap.size, 1, none⟩ = some (.int .i64 e.num) ∧ v.cell? ⟨wr.heap.size, 2, none⟩ = some (.int .i64 e.bind) ∧ v.cell? ⟨wr.heap.size, 3, none⟩ = some (.slice gk e.kids.length ck) ∧ v.cell? ⟨w.heap.size + 1, k, none⟩ = some (.int .i64 t)) hmx ?_
                show wpAnyH _ _ _ _ _ 23 #[false, false, false, false, false, false, false, false, false, false, false, false, false, false, false, false, false, false, false, false, false, false, false] _ _
                refine takeH 0 (some 44) (.slice (some ⟨w.heap.size + 1, 0, none⟩) xs.length xs.length) rfl (by kernel_rfl) (by kernel_rfl) (by kernel_rfl) (fun _ _ _ h => h) (by rintro _ ⟨⟩; exact Or.inl ⟨by rfl, fun v hv => by obtain ⟨v0, v1, v2, v3, v4⟩ := hv; go_simp⟩) hS0 ?_
                simp only [Act.put, List.setIfInBounds_toArray, List.set_cons_zero, List.set_cons_succ]
                refine takeH 1 (some 45) (.int .i64 (k : Int)) rfl (by kernel_rfl) (by kernel_rfl) (by kernel_rfl) (fun _ _ _ h => h) (by rintro _ ⟨⟩; exact Or.inl ⟨by rfl, fun v hv => by obtain ⟨v0, v1, v2, v3, v4⟩ := hv; go_simp⟩) hS0 ?_
                simp only [Act.put, List.setIfInBounds_toArray, List.set_cons_zero, List.set_cons_succ]
                refine takeH 2 (some 46) (.pointer (some ⟨w.heap.size + 1, k, none⟩)) rfl (by kernel_rfl) (by kernel_rfl) (by kernel_rfl) (fun _ _ _ h => h) (by rintro _ ⟨⟩; exact Or.inl ⟨by rfl, fun v hv => by obtain ⟨v0, v1, v2, v3, v4⟩ := hv; go_simp⟩) hS0 ?_
                simp only [Act.put, List.setIfInBounds_toArray, List.set_cons_zero, List.set_cons_succ]
                refine takeH 3 (some 47) (.int .i64 t) rfl (by kernel_rfl) (by kernel_rfl) (by kernel_rfl) (fun _ _ _ h => h) (by rintro _ ⟨⟩; exact Or.inl ⟨by rfl, fun v hv => by obtain ⟨v0, v1, v2, v3, v4⟩ := hv; go_simp⟩) hS0 ?_
                simp only [Act.put, List.setIfInBounds_toArray, List.set_cons_zero, List.set_cons_succ]
                refine takeH 4 (some 48) (.bool false) rfl (by kernel_rfl) (by kernel_rfl) (by kernel_rfl) (fun _ _ _ h => h) (by rintro _ ⟨⟩; exact Or.inl ⟨by rfl, fun v hv => by obtain ⟨v0, v1, v2, v3, v4⟩ := hv; go_simp⟩) hS0 ?_
                simp only [Act.put, List.setIfInBounds_toArray, List.set_cons_zero, List.set_cons_succ]
                refine takeH 5 (some 49) (.bool false) rfl (by kernel_rfl) (by kernel_rfl) (by kernel_rfl) (fun _ _ _ h => h) (by rintro _ ⟨⟩; exact Or.inl ⟨by rfl, fun v hv => by obtain ⟨v0, v1, v2, v3, v4⟩ := hv; go_simp⟩) hS0 ?_
                simp only [Act.put, List.setIfInBounds_toArray, List.set_cons_zero, List.set_cons_succ]
                refine takeH 6 (some 50) (.slice (some ⟨w.heap.size + 1, 0, none⟩) xs.length xs.length) rfl (by kernel_rfl) (by kernel_rfl) (by kernel_rfl) (fun _ _ _ h => h) (by rintro _ ⟨⟩; exact Or.inl ⟨by rfl, fun v hv => by obtain ⟨v0, v1, v2, v3, v4⟩ := hv; go_simp⟩) hS0 ?_
                simp only [Act.put, List.setIfInBounds_toArray, List.set_cons_zero, List.set_cons_succ]
                refine takeH 7 (some 51) (.int .i64 (k : Int)) rfl (by kernel_rfl) (by kernel_rfl) (by kernel_rfl) (fun _ _ _ h => h) (by rintro _ ⟨⟩; exact Or.inl ⟨by rfl, fun v hv => by obtain ⟨v0, v1, v2, v3, v4⟩ := hv; go_simp⟩) hS0 ?_
                simp only [Act.put, List.setIfInBounds_toArray, List.set_cons_zero, List.set_cons_succ]
                refine takeH 8 (some 52) (.pointer (some ⟨w.heap.size + 1, k, none⟩)) rfl (by kernel_rfl) (by kernel_rfl) (by kernel_rfl) (fun _ _ _ h => h) (by rintro _ ⟨⟩; exact Or.inl ⟨by rfl, fun v hv => by obtain ⟨v0, v1, v2, v3, v4⟩ := hv; go_simp⟩) hS0 ?_
                simp only [Act.put, List.setIfInBounds_toArray, List.set_cons_zero, List.set_cons_succ]
                refine takeH 9 (some 53) (.int .i64 t) rfl (by kernel_rfl) (by kernel_rfl) (by kernel_rfl) (fun _ _ _ h => h) (by rintro _ ⟨⟩; exact Or.inl ⟨by rfl, fun v hv => by obtain ⟨v0, v1, v2, v3, v4⟩ := hv; go_simp⟩) hS0 ?_
                simp only [Act.put, List.setIfInBounds_toArray, List.set_cons_zero, List.set_cons_succ]
                refine takeH 10 (some 54) (.int .i64 (t - 1)) rfl (by kernel_rfl) (by kernel_rfl) (by kernel_rfl) (fun _ _ _ h => h) (by rintro _ ⟨⟩; exact Or.inl ⟨by rfl, fun v hv => by obtain ⟨v0, v1, v2, v3, v4⟩ := hv; go_simp⟩) hS0 ?_
                simp only [Act.put, List.setIfInBounds_toArray, List.set_cons_zero, List.set_cons_succ]
                refine takeH 11 (some 55) (.bool false) rfl (by kernel_rfl) (by kernel_rfl) (by kernel_rfl) (fun _ _ _ h => h) (by rintro _ ⟨⟩; exact Or.inl ⟨by rfl, fun v hv => by obtain ⟨v0, v1, v2, v3, v4⟩ := hv; go_simp⟩) hS0 ?_
                simp only [Act.put, List.setIfInBounds_toArray, List.set_cons_zero, List.set_cons_succ]
                refine takeH 12 (some 56) (.bool false) rfl (by kernel_rfl) (by kernel_rfl) (by kernel_rfl) (fun _ _ _ h => h) (by rintro _ ⟨⟩; exact Or.inl ⟨by rfl, fun v hv => by obtain ⟨v0, v1, v2, v3, v4⟩ := hv; go_simp⟩) hS0 ?_
                simp only [Act.put, List.setIfInBounds_toArray, List.set_cons_zero, List.set_cons_succ]
                refine takeH 13 (some 57) (.bool false) rfl (by kernel_rfl) (by kernel_rfl) (by kernel_rfl) (fun _ _ _ h => h) (by rintro _ ⟨⟩; exact Or.inl ⟨by rfl, fun v hv => by obtain ⟨v0, v1, v2, v3, v4⟩ := hv; go_simp⟩) hS0 ?_
                simp only [Act.put, List.setIfInBounds_toArray, List.set_cons_zero, List.set_cons_succ]
                refine takeH 14 (some 58) (eV e gk ck) rfl (by kernel_rfl) (by kernel_rfl) (by kernel_rfl) (fun _ _ _ h => h) (by rintro _ ⟨⟩; exact Or.inl ⟨by rfl, fun v hv => by obtain ⟨v0, v1, v2, v3, v4⟩ := hv; go_simp⟩) hS0 ?_
                simp only [Act.put, List.setIfInBounds_toArray, List.set_cons_zero, List.set_cons_succ]
                refine takeH 15 (some 59) (.slice (some ⟨w.heap.size + 1, 0, none⟩) xs.length xs.length) rfl (by kernel_rfl) (by kernel_rfl) (by kernel_rfl) (fun _ _ _ h => h) (by rintro _ ⟨⟩; exact Or.inl ⟨by rfl, fun v hv => by obtain ⟨v0, v1, v2, v3, v4⟩ := hv; go_simp⟩) hS0 ?_
                simp only [Act.put, List.setIfInBounds_toArray, List.set_cons_zero, List.set_cons_succ]
                refine takeH 16 (some 60) (.int .i64 (k : Int)) rfl (by kernel_rfl) (by kernel_rfl) (by kernel_rfl) (fun _ _ _ h => h) (by rintro _ ⟨⟩; exact Or.inl ⟨by rfl, fun v hv => by obtain ⟨v0, v1, v2, v3, v4⟩ := hv; go_simp⟩) hS0 ?_
                simp only [Act.put, List.setIfInBounds_toArray, List.set_cons_zero, List.set_cons_succ]
                refine takeH 17 (some 61) (.pointer (some ⟨w.heap.size + 1, k, none⟩)) rfl (by kernel_rfl) (by kernel_rfl) (by kernel_rfl) (fun _ _ _ h => h) (by rintro _ ⟨⟩; exact Or.inl ⟨by rfl, fun v hv => by obtain ⟨v0, v1, v2, v3, v4⟩ := hv; go_simp⟩) hS0 ?_
                simp only [Act.put, List.setIfInBounds_toArray, List.set_cons_zero, List.set_cons_succ]
                refine takeH 18 (some 62) (.int .i64 t) rfl (by kernel_rfl) (by kernel_rfl) (by kernel_rfl) (fun _ _ _ h => h) (by rintro _ ⟨⟩; exact Or.inl ⟨by rfl, fun v hv => by obtain ⟨v0, v1, v2, v3, v4⟩ := hv; go_simp⟩) hS0 ?_
                simp only [Act.put, List.setIfInBounds_toArray, List.set_cons_zero, List.set_cons_succ]
                refine takeH 19 (some 63) (.int .i64 (t - 1)) rfl (by kernel_rfl) (by kernel_rfl) (by kernel_rfl) (fun _ _ _ h => h) (by rintro _ ⟨⟩; exact Or.inl ⟨by rfl, fun v hv => by obtain ⟨v0, v1, v2, v3, v4⟩ := hv; go_simp⟩) hS0 ?_
                simp only [Act.put, List.setIfInBounds_toArray, List.set_cons_zero, List.set_cons_succ]
                refine oneH 20 (by kernel_rfl) (callH 20 29 (some 64) #[eV e gk ck, .int .i64 (t - 1)] rfl (by rintro _ ⟨⟩; exact ⟨by rfl, by go_simp⟩) (hki.mono ?_))
                clear hki
                rintro x w5 ⟨rfl, hb5⟩
                have hb6 : Below (wr.alloc (.cells #[.int .i64 e.kind, .int .i64 e.num, .int .i64 e.bind, .slice gk e.kids.length ck] 33)).heap.size (wr.alloc (.cells #[.int .i64 e.kind, .int .i64 e.num, .int .i64 e.bind, .slice gk e.kids.length ck] 33)) w5 := ⟨hb5.os, hb5.tape, hb5.output, hb5.size, hb5.block⟩
                have HB5 : Hid (Below w.heap.size w w5) := (HBW.out.alloc (by omega) _).trans (hb6.mono (by rw [World.size_alloc]; omega))
                have hS5 := And.intro ((hb6.cell (p := ⟨wr.heap.size, 0, none⟩) (by rw [World.size_alloc]; show wr.heap.size < _; omega)).trans hS0.1) (And.intro ((hb6.cell (p := ⟨wr.heap.size, 1, none⟩) (by rw [World.size_alloc]; show wr.heap.size < _; omega)).trans hS0.2.1) (And.intro ((hb6.cell (p := ⟨wr.heap.size, 2, none⟩) (by rw [World.size_alloc]; show wr.heap.size < _; omega)).trans hS0.2.2.1) (And.intro ((hb6.cell (p := ⟨wr.heap.size, 3, none⟩) (by rw [World.size_alloc]; show wr.heap.size < _; omega)).trans hS0.2.2.2.1) ((hb6.cell (p := ⟨w.heap.size + 1, k, none⟩) (by rw [World.size_alloc]; show w.heap.size + 1 < _; omega)).trans hS0.2.2.2.2))))
                refine ⟨_, rfl, hS5, ?_⟩
                simp only [Act.put, List.setIfInBounds_toArray, List.set_cons_zero, List.set_cons_succ]
                refine takeH 21 (some 65) (.bool false) rfl (by kernel_rfl) (by kernel_rfl) (by kernel_rfl) (fun _ _ _ h => h) (by rintro _ ⟨⟩; exact Or.inl ⟨by rfl, fun v hv => by obtain ⟨v0, v1, v2, v3, v4⟩ := hv; go_simp⟩) hS5 ?_
                simp only [Act.put, List.setIfInBounds_toArray, List.set_cons_zero, List.set_cons_succ]
                refine takeH 22 (some 66) (.bool false) rfl (by kernel_rfl) (by kernel_rfl) (by kernel_rfl) (fun _ _ _ h => h) (by rintro _ ⟨⟩; exact Or.inl ⟨by rfl, fun v hv => by obtain ⟨v0, v1, v2, v3, v4⟩ := hv; go_simp⟩) hS5 ?_
                simp only [Act.put, List.setIfInBounds_toArray, List.set_cons_zero, List.set_cons_succ]
                refine wpAnyH_done (by kernel_rfl) ?_ _
                have HL5 : Hid (Lv w5 (w.heap.size + 1) M) := (HL.out.alloc _).on hb6 (by rw [World.size_alloc]; omega)
                have HG5 : Hid (W1.grownBy w5 (some (w.heap.size + 1))) := HG.out.trans ((World.grownBy_alloc wr _ _).trans (grown_of_below hb6 _))
                have hz5 : wr.heap.size < w5.heap.size := by have := hb6.size; rw [World.size_alloc] at this; omega
                have hz5' : w.heap.size + 1 < w5.heap.size := by omega
                clear hb5 hb6 hS0 HS0 c0 c1 c2 c3 hd1 cL
                go_wp2_with fail
                obtain ⟨Bx, hBx⟩ : ∃ Bx, wr.heap.size = Bx := ⟨_, rfl⟩
                rw [hBx] at hS5 hz5 hwl ⊢
                have HS5 : Hid _ := hS5
                clear hS5 hBx
                go_loopw [6, 7] (fun s6 _ w6 => ∃ (j : Nat) (M1 : List Int), j ≤ e.kids.length ∧ s6 = .int .i64 (j : Int) ∧ Hid (Lv w6 (w.heap.size + 1) M1) ∧ Hid (((rd k e t j (e.kids.drop j) M1).bind fun M' => rrun M' rest).isSome = R) ∧ M1.length = xs.length ∧ Hid (FineR M1) ∧ Hid (M1[k]? = some t) ∧ Hid (w5.grownBy w6 (some (w.heap.size + 1))))
                  (fun s6 _ _ => e.kids.length - (intOf s6).toNat)
                case atStart => exact ⟨0, M, Nat.zero_le _, rfl, HL5, HR2, hml, HF, HT, World.grownBy.refl _ _⟩
                case round =>
                  obtain ⟨j, M1, hj, rfl, HL6, HR6, hml6, HF6, HT6, HG6⟩ := hrel
                  have sz6 := HG6.out.size
                  have HB6 : Hid (Below w.heap.size w wr) := HB5.out.grown HG6.out (by omega) (fun k e => by cases e; omega)
                  have x0 : wr.cell? ⟨Bx, 0, none⟩ = some (.int .i64 e.kind) := HG6.out.cell HS5.out.1 (by intro e; have := Option.some.inj e; simp at this; omega)
                  have x1 : wr.cell? ⟨Bx, 1, none⟩ = some (.int .i64 e.num) := HG6.out.cell HS5.out.2.1 (by intro e; have := Option.some.inj e; simp at this; omega)
                  have x2 : wr.cell? ⟨Bx, 2, none⟩ = some (.int .i64 e.bind) := HG6.out.cell HS5.out.2.2.1 (by intro e; have := Option.some.inj e; simp at this; omega)
                  have x3 : wr.cell? ⟨Bx, 3, none⟩ = some (.slice gk e.kids.length ck) := HG6.out.cell HS5.out.2.2.2.1 (by intro e; have := Option.some.inj e; simp at this; omega)
                  have x4 := HL6.out.cell HT6.out
                  by_cases hlt : j < e.kids.length
                  · have hlt' : (j : Int) < (e.kids.length : Int) := by omega
                    obtain ⟨bk2, o2, rfl, hbk2, hcell0⟩ := HK.out.at hlt
                    obtain ⟨q, hqe⟩ : ∃ q, e.kids[j] = q := ⟨_, rfl⟩
                    rw [hqe] at hcell0
                    have hd1 : e.kids.drop j = q :: e.kids.drop (j + 1) := by rw [List.drop_eq_getElem_cons hlt, hqe]
                    have HR7 : Hid (((rd k e t j (q :: e.kids.drop (j + 1)) M1).bind fun M' => rrun M' rest).isSome = R) := by
                      show _ = _
                      rw [← hd1]; exact HR6.out
                    have hcell : wr.cell? ⟨bk2, o2 + j, none⟩ = some (.int .i64 q) := (HB6.out.cell (p := ⟨bk2, o2 + j, none⟩) hbk2).trans hcell0
                    clear hcell0 hqe hd1 HR6
                    cases hwi : withB q 0 ((k : Int) - 1) with
                    | false =>
                      have HN : Hid (R = false) := by
                        show _ = _
                        rw [← HR7.out, rd_no hwi]; rfl
                      clear HR7
                      go_wp2_with (go_at_call 20; refine (upto_any _ _ _ _).mono ?_; rintro e w1 ⟨rfl, rfl⟩)
                      go_ret
                      exact ⟨ret_bool HN.out.symm, HB6.out⟩
                    | true =>
                      have hwr := withB_iff.1 hwi
                      obtain ⟨kn, rfl⟩ : ∃ kn : Nat, q = (kn : Int) := ⟨q.toNat, by omega⟩
                      have hkn : kn < k := by omega
                      have hkn' : (kn : Int) < (xs.length : Int) := by omega
                      obtain ⟨v, hv⟩ : ∃ v, M1[kn]? = some v := ⟨_, List.getElem?_eq_getElem (by omega)⟩
                      have hcv := HL6.out.cell hv
                      have hfz := HL6.out.frozen kn
                      have HV : Hid (M1[kn]? = some v) := hv
                      clear hv hwr
                      by_cases h1 : v = 0
                      · subst h1
                        have hbj := HBD.out (j : Int)
                        have hde := deeper_any e.kind e.num e.bind (j : Int) (some ⟨bk2, o2, none⟩) e.kids.length ck wr.drew
                        obtain ⟨y, hy⟩ : ∃ y, bnd e.kind e.bind (j : Int) = y := ⟨_, rfl⟩
                        have HY : Hid (e.bd (j : Int) = y) := hy
                        rw [show e.bd (j : Int) = y from hy] at hbj
                        rw [hy] at hde
                        clear hy
                        have HN : Hid (((rd k e t (j + 1) (e.kids.drop (j + 1)) (M1.set kn (t + y))).bind fun M' => rrun M' rest).isSome = R) := by
                          show _ = _
                          rw [← HR7.out, rd_on hwi HV.out, HY.out]; rfl
                        clear HR7
                        obtain ⟨hy0, hy3⟩ := hbj
                        have hw2 : IntKind.i64.wrap (t + y) = t + y := by rw [IntKind.wrap_i64]; omega
                        have ht9 : t ≤ 9 := by omega
                        go_wp2_with (go_at_call 20; refine (upto_any _ _ _ _).mono ?_; rintro e w1 ⟨rfl, rfl⟩)
                        have hS6 := And.intro x0 (And.intro x1 (And.intro x2 (And.intro x3 x4)))
                        refine wp_region_held (S := fun v => v.cell? ⟨Bx, 0, none⟩ = some (.int .i64 e.kind) ∧ v.cell? ⟨Bx, 1, none⟩ = some (.int .i64 e.num) ∧ v.cell? ⟨Bx, 2, none⟩ = some (.int .i64 e.bind) ∧ v.cell? ⟨Bx, 3, none⟩ = some (.slice (some ⟨bk2, o2, none⟩) e.kids.length ck) ∧ v.cell? ⟨w.heap.size + 1, k, none⟩ = some (.int .i64 t)) hmx ?_
                        show wpAnyH _ _ _ _ _ 12 #[false, false, false, false, false, false, false, false, false, false, false, false] _ _
                        refine takeH 0 (some 91) (.slice (some ⟨w.heap.size + 1, 0, none⟩) xs.length xs.length) rfl (by kernel_rfl) (by kernel_rfl) (by kernel_rfl) (fun _ _ _ h => h) (by rintro _ ⟨⟩; exact Or.inl ⟨by rfl, fun v hv => by obtain ⟨v0, v1, v2, v3, v4⟩ := hv; go_simp⟩) hS6 ?_
                        simp only [Act.put, List.setIfInBounds_toArray, List.set_cons_zero, List.set_cons_succ]
                        refine takeH 1 (some 92) (.int .i64 (kn : Int)) rfl (by kernel_rfl) (by kernel_rfl) (by kernel_rfl) (fun _ _ _ h => h) (by rintro _ ⟨⟩; exact Or.inl ⟨by rfl, fun v hv => by obtain ⟨v0, v1, v2, v3, v4⟩ := hv; go_simp⟩) hS6 ?_
                        simp only [Act.put, List.setIfInBounds_toArray, List.set_cons_zero, List.set_cons_succ]
                        refine takeH 2 (some 93) (.slice (some ⟨w.heap.size + 1, 0, none⟩) xs.length xs.length) rfl (by kernel_rfl) (by kernel_rfl) (by kernel_rfl) (fun _ _ _ h => h) (by rintro _ ⟨⟩; exact Or.inl ⟨by rfl, fun v hv => by obtain ⟨v0, v1, v2, v3, v4⟩ := hv; go_simp⟩) hS6 ?_
                        simp only [Act.put, List.setIfInBounds_toArray, List.set_cons_zero, List.set_cons_succ]
                        refine takeH 3 (some 94) (.int .i64 (k : Int)) rfl (by kernel_rfl) (by kernel_rfl) (by kernel_rfl) (fun _ _ _ h => h) (by rintro _ ⟨⟩; exact Or.inl ⟨by rfl, fun v hv => by obtain ⟨v0, v1, v2, v3, v4⟩ := hv; go_simp⟩) hS6 ?_
                        simp only [Act.put, List.setIfInBounds_toArray, List.set_cons_zero, List.set_cons_succ]
                        refine takeH 4 (some 95) (.pointer (some ⟨w.heap.size + 1, k, none⟩)) rfl (by kernel_rfl) (by kernel_rfl) (by kernel_rfl) (fun _ _ _ h => h) (by rintro _ ⟨⟩; exact Or.inl ⟨by rfl, fun v hv => by obtain ⟨v0, v1, v2, v3, v4⟩ := hv; go_simp⟩) hS6 ?_
                        simp only [Act.put, List.setIfInBounds_toArray, List.set_cons_zero, List.set_cons_succ]
                        refine takeH 5 (some 96) (.int .i64 t) rfl (by kernel_rfl) (by kernel_rfl) (by kernel_rfl) (fun _ _ _ h => h) (by rintro _ ⟨⟩; exact Or.inl ⟨by rfl, fun v hv => by obtain ⟨v0, v1, v2, v3, v4⟩ := hv; go_simp⟩) hS6 ?_
                        simp only [Act.put, List.setIfInBounds_toArray, List.set_cons_zero, List.set_cons_succ]
                        refine takeH 6 (some 97) (eV e (some ⟨bk2, o2, none⟩) ck) rfl (by kernel_rfl) (by kernel_rfl) (by kernel_rfl) (fun _ _ _ h => h) (by rintro _ ⟨⟩; exact Or.inl ⟨by rfl, fun v hv => by obtain ⟨v0, v1, v2, v3, v4⟩ := hv; go_simp⟩) hS6 ?_
                        simp only [Act.put, List.setIfInBounds_toArray, List.set_cons_zero, List.set_cons_succ]
                        refine takeH 7 (some 98) (.int .i64 (j : Int)) rfl (by kernel_rfl) (by kernel_rfl) (by kernel_rfl) (fun _ _ _ h => h) (by rintro _ ⟨⟩; exact Or.inl ⟨by rfl, fun v hv => by obtain ⟨v0, v1, v2, v3, v4⟩ := hv; go_simp⟩) hS6 ?_
                        simp only [Act.put, List.setIfInBounds_toArray, List.set_cons_zero, List.set_cons_succ]
                        refine oneH 8 (by kernel_rfl) (callH 8 30 (some 99) #[eV e (some ⟨bk2, o2, none⟩) ck, .int .i64 (j : Int)] rfl (by rintro _ ⟨⟩; exact ⟨by rfl, by go_simp⟩) (hde.mono ?_))
                        clear hde
                        rintro x w8 ⟨rfl, hb8⟩
                        have hb8' : Below wr.heap.size wr w8 := ⟨hb8.os, hb8.tape, hb8.output, hb8.size, hb8.block⟩
                        have hlv := HL6.out.lt
                        have hxv : Bx < wr.heap.size := by omega
                        have hS8 := And.intro ((hb8'.cell (p := ⟨Bx, 0, none⟩) hxv).trans x0) (And.intro ((hb8'.cell (p := ⟨Bx, 1, none⟩) hxv).trans x1) (And.intro ((hb8'.cell (p := ⟨Bx, 2, none⟩) hxv).trans x2) (And.intro ((hb8'.cell (p := ⟨Bx, 3, none⟩) hxv).trans x3) ((hb8'.cell (p := ⟨w.heap.size + 1, k, none⟩) hlv).trans x4))))
                        have cv8 := (hb8'.cell (p := ⟨w.heap.size + 1, kn, none⟩) hlv).trans hcv
                        have fz8 := (hb8'.frozen (p := ⟨w.heap.size + 1, kn, none⟩) hlv).trans hfz
                        refine ⟨_, rfl, hS8, ?_⟩
                        simp only [Act.put, List.setIfInBounds_toArray, List.set_cons_zero, List.set_cons_succ]
                        refine takeH 9 (some 100) (.int .i64 (t + y)) rfl (by kernel_rfl) (by kernel_rfl) (by kernel_rfl) (fun _ _ _ h => h) (by rintro _ ⟨⟩; exact Or.inl ⟨by rfl, fun v hv => by obtain ⟨v0, v1, v2, v3, v4⟩ := hv; go_simp⟩) hS8 ?_
                        simp only [Act.put, List.setIfInBounds_toArray, List.set_cons_zero, List.set_cons_succ]
                        refine takeH 10 (some 101) (.pointer (some ⟨w.heap.size + 1, kn, none⟩)) rfl (by kernel_rfl) (by kernel_rfl) (by kernel_rfl) (fun _ _ _ h => h) (by rintro _ ⟨⟩; exact Or.inl ⟨by rfl, fun v hv => by obtain ⟨v0, v1, v2, v3, v4⟩ := hv; go_simp⟩) hS8 ?_
                        simp only [Act.put, List.setIfInBounds_toArray, List.set_cons_zero, List.set_cons_succ]
                        have hS9 := And.intro (cell_set_other (b := w.heap.size + 1) (j := kn) (v := .int .i64 (t + y)) hS8.1 (by omega)) (And.intro (cell_set_other (b := w.heap.size + 1) (j := kn) (v := .int .i64 (t + y)) hS8.2.1 (by omega)) (And.intro (cell_set_other (b := w.heap.size + 1) (j := kn) (v := .int .i64 (t + y)) hS8.2.2.1 (by omega)) (And.intro (cell_set_other (b := w.heap.size + 1) (j := kn) (v := .int .i64 (t + y)) hS8.2.2.2.1 (by omega)) (cell_set_other (b := w.heap.size + 1) (j := kn) (v := .int .i64 (t + y)) hS8.2.2.2.2 (by omega)))))
                        refine oneH 11 (by kernel_rfl) (skipH 11 none (w8.setCell ⟨w.heap.size + 1, kn, none⟩ (.int .i64 (t + y))) rfl (by rintro _ ⟨⟩; exact ⟨by rfl, by go_simp⟩) ⟨hS9, ?_⟩)
                        simp only [Act.put, List.setIfInBounds_toArray, List.set_cons_zero, List.set_cons_succ]
                        refine wpAnyH_done (by kernel_rfl) ?_ _
                        have HL9 : Hid (Lv (w8.setCell ⟨w.heap.size + 1, kn, none⟩ (.int .i64 (t + y))) (w.heap.size + 1) (M1.set kn (t + y))) := (HL6.out.on hb8' hlv).set kn (t + y)
                        have HG9 : Hid (w5.grownBy (w8.setCell ⟨w.heap.size + 1, kn, none⟩ (.int .i64 (t + y))) (some (w.heap.size + 1))) := HG6.out.trans ((grown_of_below hb8' _).trans (grown_set _ _ _ _))
                        go_wp2_with fail
                        go_roundw
                        case rel =>
                          refine ⟨j + 1, M1.set kn (t + y), by omega, by go_num, HL9, HN, by rw [List.length_set]; exact hml6, HF6.out.set kn (by omega) (by omega), ?_, HG9⟩
                          show _ = _
                          rw [List.getElem?_set_ne (by omega)]; exact HT6.out
                        case measure => simp [intOf]; omega
                      · have HN : Hid (R = false) := by
                          show _ = _
                          rw [← HR7.out, rd_taken HV.out h1]; rfl
                        clear HR7
                        have e1 : (v == 0) = false := by simpa using h1
                        have e2 : (v != 0) = true := by simpa using h1
                        go_wp2_with (go_at_call 20; refine (upto_any _ _ _ _).mono ?_; rintro e w1 ⟨rfl, rfl⟩)
                        go_ret
                        exact ⟨ret_bool HN.out.symm, HB6.out⟩
                  · have hlt' : ¬ (j : Int) < (e.kids.length : Int) := by omega
                    have HN : Hid ((rrun M1 (backw (xs.take k))).isSome = R) := by
                      show _ = _
                      rw [HRS.out, ← HR6.out, List.drop_eq_nil_of_le (by omega)]; rfl
                    clear HR6
                    go_wp2_with fail
                    go_roundw
                    case rel => exact ⟨k, M1, by omega, rfl, HL6, HN, hml6, HF6, HG5.out.trans HG6.out⟩
                    case measure => simp [intOf]
end Go.Proofs.Ytiobjkmpeiohdaa
