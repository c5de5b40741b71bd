/- The contract of hasWrongByte: is one of a text's bytes none that may stand? -/
import Derived.Lib.AtoiErrMem
import Derived.Test.YtmbjonfiphnlaaaDoorLib
namespace Go.Proofs.YtmbjonfiphnlaaaDoor
open Go.RowKit
set_option linter.unusedVariables false

theorem ok_num (b : UInt8) : okB b = (decide ((b.toNat : Int) = 10) || (decide (32 ≤ (b.toNat : Int)) && decide ((b.toNat : Int) ≤ 126))) := by
  unfold okB
  have h1 : (b == 10) = decide ((b.toNat : Int) = 10) := by
    rw [Bool.eq_iff_iff, beq_iff_eq, decide_eq_true_eq]
    constructor
    · rintro rfl; rfl
    · intro h; exact UInt8.toNat_inj.1 (by show b.toNat = 10; omega)
  have h2 : decide (32 ≤ b.toNat) = decide (32 ≤ (b.toNat : Int)) := by rw [Bool.eq_iff_iff, decide_eq_true_eq, decide_eq_true_eq]; omega
  have h3 : decide (b.toNat ≤ 126) = decide ((b.toNat : Int) ≤ 126) := by rw [Bool.eq_iff_iff, decide_eq_true_eq, decide_eq_true_eq]; omega
  rw [h1, h2, h3]

set_option maxHeartbeats 400000 in
theorem bad_any (b : UInt8) (w : World) :
    Calls Tryd.prog 19 #[.int .u8 (b.toNat : Int)] w fun e w' => e = .returned (.bool (!okB b)) ∧ w = w' := by
  rw [ok_num b]
  generalize ((b.toNat : Int)) = n
  by_cases h1 : n = 10
  · subst h1
    go_enter Tryd.func19, Tryd.ntmps19
    go_wp2_with fail
    go_ret
    exact ⟨rfl, rfl⟩
  · have e1 : (n != 10) = true := by simpa using h1
    have e2 : decide (n = 10) = false := by simpa using h1
    rw [e2]
    by_cases h2 : n < 32
    · have e3 : decide (n < 32) = true := by simpa using h2
      have e4 : decide (32 ≤ n) = false := by simp; omega
      rw [e4]
      go_enter Tryd.func19, Tryd.ntmps19
      go_wp2_with fail
      go_ret
      exact ⟨rfl, rfl⟩
    · have e3 : decide (n < 32) = false := by simpa using h2
      have e4 : decide (32 ≤ n) = true := by simp; omega
      rw [e4]
      by_cases h3 : 126 < n
      · have e5 : decide (n ≤ 126) = false := by simp; omega
        rw [e5]
        go_enter Tryd.func19, Tryd.ntmps19
        go_wp2_with fail
        go_ret
        exact ⟨rfl, rfl⟩
      · have e5 : decide (n ≤ 126) = true := by simp; omega
        rw [e5]
        go_enter Tryd.func19, Tryd.ntmps19
        go_wp2_with fail
        go_ret
        exact ⟨rfl, rfl⟩

set_option maxHeartbeats 800000 in
set_option maxRecDepth 100000 in
theorem ixf_any (bk c : Nat) (zs : List UInt8) (w : World) (hn : zs.length ≤ 2048) (hc : ∀ j (hj : j < zs.length), w.cell? ⟨bk, j, none⟩ = some (.int .u8 (zs[j].toNat : Int))) :
    Calls Tryd.prog 25 #[.slice (some ⟨bk, 0, none⟩) zs.length c, .func (.func 19) #[] #[]] w fun e w' => (∃ i : Int, e = .returned (.int .i64 i) ∧ decide (0 ≤ i) = !zs.all okB) ∧ w = w' := by
  go_enter Tryd.func25, Tryd.ntmps25
  go_wp2_with fail
  go_loopw [5, 8] (fun _ s8 wr => ∃ k : Nat, k ≤ zs.length ∧ s8 = .int .i64 (k : Int) ∧ w = wr ∧ Hid ((zs.take k).all okB = true))
    (fun _ s8 _ => zs.length - (intOf s8).toNat)
  case atStart => exact ⟨0, Nat.zero_le _, rfl, rfl, by show ([] : List UInt8).all okB = true; rfl⟩
  case round =>
    obtain ⟨k, hk, rfl, rfl, H⟩ := hrel
    by_cases hlt : k < zs.length
    · have hlt' : (k : Int) < (zs.length : Int) := by omega
      have hcell := hc k hlt
      have HC : Hid (∀ j (hj : j < zs.length), w.cell? ⟨bk, j, none⟩ = some (.int .u8 (zs[j].toNat : Int))) := hc
      clear hc
      obtain ⟨b, hb⟩ : ∃ b, b = zs[k] := ⟨_, rfl⟩
      rw [← hb] at hcell
      have HB : Hid (b = zs[k]) := hb
      clear hb
      have hcall := bad_any b w
      cases hq : okB b with
      | true =>
        rw [hq] at hcall
        go_wp2_with (go_at_call 19; refine hcall.mono ?_; rintro e w' ⟨rfl, rfl⟩)
        go_roundw
        case rel =>
          refine ⟨k + 1, by omega, by go_num, by simp, ?_⟩
          show (zs.take (k + 1)).all okB = true
          rw [List.take_add_one, List.getElem?_eq_getElem hlt, List.all_append, H.out, ← HB.out]
          simp [hq]
        case measure => simp [intOf]; omega
      | false =>
        rw [hq] at hcall
        go_wp2_with (go_at_call 19; refine hcall.mono ?_; rintro e w' ⟨rfl, rfl⟩)
        go_ret
        refine ⟨⟨_, rfl, ?_⟩, rfl⟩
        have hf : zs.all okB = false := by
          rw [List.all_eq_false]
          exact ⟨b, by rw [HB.out]; exact List.getElem_mem hlt, by simp [hq]⟩
        rw [hf]
        simp
    · have hlt' : ¬ (k : Int) < (zs.length : Int) := by omega
      go_wp2_with fail
      go_ret
      refine ⟨⟨_, rfl, ?_⟩, rfl⟩
      have e : k = zs.length := by omega
      have := H.out
      rw [e, List.take_length] at this
      rw [this]
      rfl

set_option maxHeartbeats 400000 in
theorem cf_any (bk c : Nat) (zs : List UInt8) (w : World) (hn : zs.length ≤ 2048) (hc : ∀ j (hj : j < zs.length), w.cell? ⟨bk, j, none⟩ = some (.int .u8 (zs[j].toNat : Int))) :
    Calls Tryd.prog 18 #[.slice (some ⟨bk, 0, none⟩) zs.length c, .func (.func 19) #[] #[]] w fun e w' => e = .returned (.bool (!zs.all okB)) ∧ w = w' := by
  go_enter Tryd.func18, Tryd.ntmps18
  go_wp2_with fail
  refine (ixf_any bk c zs w hn hc).mono ?_
  rintro e w1 ⟨⟨i, rfl, hi⟩, rfl⟩
  go_wp2_with fail
  go_ret
  exact ⟨by rw [← hi]; rfl, rfl⟩

set_option maxHeartbeats 400000 in
theorem wrong_any (s : ByteArray) (w : World) (hs : s.size ≤ 2048) :
    Calls Tryd.prog 14 #[.string s] w fun e w' => e = .returned (.bool (!s.data.toList.all okB)) ∧ Below w.heap.size w w' := by
  have hcv := Lib.run_convert_string_bytes (P := Tryd.prog) w 9 33 5 s (u := .string) Tryd.underlying9 Tryd.underlying33 Tryd.underlying5
  have hlen : s.size = s.data.toList.length := (ba_size s.data.toList)
  have hcf := cf_any w.heap.size (grownCap w s.size 0 5) s.data.toList (Lib.bytesWorld w 5 s) (by omega) (fun j hj => by
    rw [Lib.bytesWorld_cell w 5 s j (by omega)]
    rw [List.getD, List.getElem?_eq_getElem hj]; rfl)
  rw [← hlen] at hcf
  have hbw := Lib.bytesWorld_below w 5 s
  obtain ⟨B, hB⟩ : ∃ B, s.data.toList.all okB = B := ⟨_, rfl⟩
  rw [hB] at hcf ⊢
  clear hlen hB
  go_enter Tryd.func14, Tryd.ntmps14
  go_wp2_with fail
  refine hcf.mono ?_
  rintro e w1 ⟨rfl, rfl⟩
  go_wp2_with fail
  go_ret
  exact ⟨rfl, hbw⟩
end Go.Proofs.YtmbjonfiphnlaaaDoor
