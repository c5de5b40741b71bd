/- The contracts of the function that May hands on, and of slices.IndexFunc and slices.ContainsFunc with it. -/
import Derived.Test.YtiobjkmpeiohdaaDefs
namespace Go.Proofs.Ytiobjkmpeiohdaa
open Go.RowKit
set_option linter.unusedVariables false

theorem wrong_call {ds : List Df} {e : Ex} (h : e.kind = 2) : wrong ds e = !takes ds e := by unfold wrong; rw [decide_eq_true h]; rfl
theorem wrong_other {ds : List Df} {e : Ex} (h : ¬ e.kind = 2) : wrong ds e = false := by unfold wrong; rw [decide_eq_false h]; rfl

set_option maxHeartbeats 800000 in
set_option maxRecDepth 100000 in
/-- A call that nobody takes? The program lies in the box z. -/
theorem wrong_any (e : Ex) (gk : Option Addr) (ck : Nat) (g : Option Addr) (c z : Nat) (ds : List Df) (w : World) (hz : w.cell? ⟨z, 0, none⟩ = some (.slice g ds.length c)) (hd : Defs Exs w g ds) :
    Calls Try.prog 16 #[eV e gk ck, .pointer (some ⟨z, 0, none⟩)] w fun r w' => r = .returned (.bool (wrong ds e)) ∧ Below w.heap.size w w' := by
  have hb : Below w.heap.size w (w.alloc (.cells #[.int .i64 e.kind, .int .i64 e.num, .int .i64 e.bind, .slice gk e.kids.length ck] 33)) := (Below.refl _ w).alloc (Nat.le_refl _) _
  have hlz : z < w.heap.size := World.block_lt_of_cell? w _ hz
  have hz1 := (hb.cell (p := ⟨z, 0, none⟩) hlz).trans hz
  have hd1 := hd.on hb
  by_cases hk : e.kind = 2
  · rw [wrong_call hk]
    obtain ⟨kd, nm, bd, ks⟩ := e
    dsimp only at hk hb hz1 hd1 ⊢
    subst hk
    have e1 : ((2 : Int) == 2) = true := rfl
    generalize hT : takes ds ⟨2, nm, bd, ks⟩ = T
    have HT := taker_any ⟨2, nm, bd, ks⟩ gk ck g c ds _ hd1
    rw [hT] at HT
    clear hT
    clear hd hd1 hz
    go_enter Try.func16, Try.ntmps16
    go_wp2_with fail
    refine HT.mono ?_
    rintro r w1 ⟨rfl, hb1⟩
    have h2 := below_next hb hb1
    cases T
    · go_wp2_with fail
      go_ret
      exact ⟨rfl, h2⟩
    · go_wp2_with fail
      go_ret
      exact ⟨rfl, h2⟩
  · rw [wrong_other hk]
    have e1 : (e.kind == 2) = false := by simpa using hk
    clear hd hd1 hz
    go_enter Try.func16, Try.ntmps16
    go_wp2_with fail
    go_ret
    exact ⟨rfl, hb⟩

set_option maxHeartbeats 800000 in
set_option maxRecDepth 100000 in
theorem ixf_any (gb : Option Addr) (cb : Nat) (xs : List Ex) (g : Option Addr) (c z : Nat) (ds : List Df) (w : World) (hn : xs.length ≤ 24) (hx : Exs w gb xs) (hz : w.cell? ⟨z, 0, none⟩ = some (.slice g ds.length c)) (hd : Defs Exs w g ds) :
    Calls Try.prog 28 #[.slice gb xs.length cb, .func (.func 16) #[] #[.pointer (some ⟨z, 0, none⟩)]] w fun r w' => (∃ i : Int, r = .returned (.int .i64 i) ∧ decide (0 ≤ i) = xs.any (wrong ds)) ∧ Below w.heap.size w w' := by
  have HZ : Hid (z < w.heap.size ∧ w.cell? ⟨z, 0, none⟩ = some (.slice g ds.length c) ∧ Defs Exs w g ds ∧ Exs w gb xs) := ⟨World.block_lt_of_cell? w _ hz, hz, hd, hx⟩
  clear hz hd hx
  go_enter Try.func28, Try.ntmps28
  go_wp2_with fail
  go_loopw [5, 8] (fun _ s8 wr => ∃ k : Nat, k ≤ xs.length ∧ s8 = .int .i64 (k : Int) ∧ Hid (Below w.heap.size w wr) ∧ Hid ((xs.take k).any (wrong ds) = false))
    (fun _ s8 _ => xs.length - (intOf s8).toNat)
  case atStart => exact ⟨0, Nat.zero_le _, rfl, Below.refl _ _, by show ([] : List Ex).any (wrong ds) = false; rfl⟩
  case round =>
    obtain ⟨k, hk, rfl, HB, H⟩ := hrel
    by_cases hlt : k < xs.length
    · have hlt' : (k : Int) < (xs.length : Int) := by omega
      obtain ⟨bk, o, rfl, hbk, gk, ck, hE⟩ := (HZ.out.2.2.2.on HB.out).at hlt
      have hcall := wrong_any xs[k] gk ck g c z ds wr ((HB.out.cell (p := ⟨z, 0, none⟩) HZ.out.1).trans HZ.out.2.1) (HZ.out.2.2.1.on HB.out)
      obtain ⟨e, he⟩ : ∃ e, e = xs[k] := ⟨_, rfl⟩
      rw [← he] at hE hcall
      have HE : Hid (e = xs[k]) := he
      clear he
      obtain ⟨a0, a1, a2, a3, an⟩ := hE
      clear an
      cases hq : wrong ds e with
      | false =>
        rw [hq] at hcall
        go_wp2_with (go_at_call 16; refine hcall.mono ?_; rintro r w' ⟨rfl, hb'⟩)
        have hb2 := below_next HB.out hb'
        go_roundw
        case rel =>
          refine ⟨k + 1, by omega, by go_num, hb2, ?_⟩
          show (xs.take (k + 1)).any (wrong ds) = false
          rw [List.take_add_one, List.getElem?_eq_getElem hlt, List.any_append, H.out, ← HE.out]
          simp [hq]
        case measure => simp [intOf]; omega
      | true =>
        rw [hq] at hcall
        go_wp2_with (go_at_call 16; refine hcall.mono ?_; rintro r w' ⟨rfl, hb'⟩)
        have hb2 := below_next HB.out hb'
        go_ret
        refine ⟨⟨_, rfl, ?_⟩, hb2⟩
        have hf : xs.any (wrong ds) = true := by
          rw [List.any_eq_true]
          exact ⟨e, by rw [HE.out]; exact List.getElem_mem hlt, hq⟩
        rw [hf]
        simp
    · have hlt' : ¬ (k : Int) < (xs.length : Int) := by omega
      go_wp2_with fail
      go_ret
      refine ⟨⟨_, rfl, ?_⟩, HB.out⟩
      have e : k = xs.length := by omega
      have := H.out
      rw [e, List.take_length] at this
      rw [this]
      rfl

set_option maxHeartbeats 400000 in
theorem cf_any (gb : Option Addr) (cb : Nat) (xs : List Ex) (g : Option Addr) (c z : Nat) (ds : List Df) (w : World) (hn : xs.length ≤ 24) (hx : Exs w gb xs) (hz : w.cell? ⟨z, 0, none⟩ = some (.slice g ds.length c)) (hd : Defs Exs w g ds) :
    Calls Try.prog 19 #[.slice gb xs.length cb, .func (.func 16) #[] #[.pointer (some ⟨z, 0, none⟩)]] w fun r w' => r = .returned (.bool (xs.any (wrong ds))) ∧ Below w.heap.size w w' := by
  have h := ixf_any gb cb xs g c z ds w hn hx hz hd
  clear hx hz hd
  go_enter Try.func19, Try.ntmps19
  go_wp2_with fail
  refine h.mono ?_
  rintro r w1 ⟨⟨i, rfl, hi⟩, hb⟩
  go_wp2_with fail
  go_ret
  exact ⟨by rw [← hi]; rfl, hb⟩
end Go.Proofs.Ytiobjkmpeiohdaa
