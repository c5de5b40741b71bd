/- The contract of the reference's digits. -/
import Derived.Test.YtcjpepbajcdenaaDoorSame
namespace Go.Proofs.YtcjpepbajcdenaaDoor
open Go.RowKit
set_option linter.unusedVariables false

/-- So many digits from the front tell this number, and there it stops. -/
def DigQ (l : List UInt8) (x k : Nat) : Prop :=
  k ≤ l.length ∧ k ≤ 6 ∧ Lib.decFrom 0 (l.take k) = some x ∧ (2 ≤ k → l[0]? ≠ some 48) ∧
    (k = l.length ∨ k = 6 ∨ (∀ c, l[k]? = some c → isDg c = false) ∨ (k ≠ 0 ∧ l[0]? = some 48))

theorem dig_bound {l : List UInt8} {x j : Nat} (h : Lib.decFrom 0 (l.take j) = some x) (hj : j ≤ 5) : x < 100000 := by
  have h1 := Lib.decFrom_lt _ 0 x h
  have h2 : (l.take j).length ≤ 5 := by rw [List.length_take]; omega
  have h3 := Nat.pow_le_pow_right (n := 10) (by decide) h2
  have e : (10 : Nat) ^ 5 = 100000 := by decide
  omega
theorem dig_step {s : ByteArray} {x j : Nat} (h : Lib.decFrom 0 (s.data.toList.take j) = some x) (hj : j < s.size) (h1 : 48 ≤ (s[j].toNat : Int)) (h2 : (s[j].toNat : Int) ≤ 57) :
    Lib.decFrom 0 (s.data.toList.take (j + 1)) = some (x * 10 + (s[j].toNat - 48)) := by
  refine Lib.decFrom_take s.data.toList j 0 x s[j] _ h ?_ ?_
  · rw [List.getElem?_eq_getElem (by simpa using hj)]; rfl
  · unfold Lib.digitVal; rw [if_pos (by omega)]

theorem zero_at {s : ByteArray} (h : 0 < s.size) : s.data.toList[0]? = some s[0] := by
  rw [List.getElem?_eq_getElem (by simpa using h)]; rfl

set_option maxHeartbeats 1600000 in
set_option maxRecDepth 100000 in
theorem digits_any (s : ByteArray) (w : World) (hs : s.size ≤ 1024) :
    Calls Tryd.prog 28 #[.string s] w fun e w' => ∃ x k : Nat, e = .returned (.tuple #[.int .i64 (x : Int), .int .i64 (k : Int)]) ∧ w = w' ∧ DigQ s.data.toList x k := by
  go_enter Tryd.func28, Tryd.ntmps28
  go_wp2_with fail
  go_loop [4, 5] (fun a b => ∃ x j : Nat, j ≤ s.size ∧ j ≤ 6 ∧ a = .int .i64 (x : Int) ∧ b = .int .i64 (j : Int) ∧ Lib.decFrom 0 (s.data.toList.take j) = some x ∧ (2 ≤ j → s.data.toList[0]? ≠ some 48))
    (fun _ b => s.size - (intOf b).toNat)
  case atStart => exact ⟨0, 0, Nat.zero_le _, by omega, rfl, rfl, rfl, fun h => by omega⟩
  case round =>
    obtain ⟨x, j, hj, hj6, rfl, rfl, hd, hz⟩ := hrel
    have HD : Hid (Lib.decFrom 0 (s.data.toList.take j) = some x) := hd
    clear hd
    have HZ : Hid (2 ≤ j → s.data.toList[0]? ≠ some 48) := hz
    clear hz
    by_cases hlt : j < s.size
    · by_cases h6 : j < 6
      · have hx := dig_bound HD.out (by omega)
        by_cases hdg : 48 ≤ (s[j].toNat : Int) ∧ (s[j].toNat : Int) ≤ 57
        · obtain ⟨h1, h2⟩ := hdg
          have HN : Hid (Lib.decFrom 0 (s.data.toList.take (j + 1)) = some (x * 10 + (s[j].toNat - 48))) := dig_step HD.out hlt h1 h2
          by_cases hj0 : j = 0
          · have HJ : Hid (j = 0) := hj0
            have hb0 : ((j : Int) == 0) = true := by simp [hj0]
            clear hj0
            go_wp2_with fail
            go_round
            case rel =>
              refine ⟨x * 10 + (s[j].toNat - 48), j + 1, by omega, by omega, ?_, by go_num, HN.out, fun h => ?_⟩
              · congr 1; omega
              · have := HJ.out; omega
            case measure => simp [intOf]; omega
          · have hb0 : ((j : Int) == 0) = false := by simp; exact hj0
            have hpos : 0 < s.size := by omega
            by_cases hs0 : (s[0].toNat : Int) = 48
            · have hq : ((s[0].toNat : Int) == 48) = true := by simp [hs0]
              have hq2 : ((s[0].toNat : Int) != 48) = false := by simp [hs0]
              have HS0 : Hid ((s[0].toNat : Int) = 48) := hs0
              clear hs0
              go_wp2_with fail
              go_ret2
              refine ⟨x, j, rfl, rfl, by simpa using hj, hj6, HD.out, HZ.out, Or.inr (Or.inr (Or.inr ⟨?_, ?_⟩))⟩
              · intro e; rw [e] at hb0; simp at hb0
              · rw [zero_at hpos]; congr 1; exact UInt8.toNat_inj.1 (by have := HS0.out; simp; omega)
            · have hq2 : ((s[0].toNat : Int) != 48) = true := by simp; exact hs0
              have HNZ : Hid (s.data.toList[0]? ≠ some 48) := by
                show s.data.toList[0]? ≠ some 48
                rw [zero_at hpos]
                intro e
                have e := Option.some.inj e
                exact hs0 (by rw [e]; rfl)
              clear hs0
              go_wp2_with fail
              go_round
              case rel =>
                refine ⟨x * 10 + (s[j].toNat - 48), j + 1, by omega, by omega, ?_, by go_num, HN.out, fun _ => HNZ.out⟩
                congr 1; omega
              case measure => simp [intOf]; omega
        · have hor : (s[j].toNat : Int) < 48 ∨ (48 ≤ (s[j].toNat : Int) ∧ 57 < (s[j].toNat : Int)) := by omega
          have HND : Hid (∀ c, s.data.toList[j]? = some c → isDg c = false) := by
            show ∀ c, s.data.toList[j]? = some c → isDg c = false
            intro c hc
            rw [List.getElem?_eq_getElem (by simpa using hlt)] at hc
            have e : s[j] = c := Option.some.inj hc
            subst e
            unfold isDg
            simp only [Bool.and_eq_false_iff, decide_eq_false_iff_not]
            omega
          clear hdg
          rcases hor with h1 | ⟨h1, h2⟩
          all_goals
            go_wp2_with fail
            go_ret2
            exact ⟨x, j, rfl, rfl, by simpa using hj, hj6, HD.out, HZ.out, Or.inr (Or.inr (Or.inl HND.out))⟩
      · go_wp2_with fail
        go_ret2
        exact ⟨x, j, rfl, rfl, by simpa using hj, hj6, HD.out, HZ.out, Or.inr (Or.inl (by omega))⟩
    · go_wp2_with fail
      go_ret2
      exact ⟨x, j, rfl, rfl, by simpa using hj, hj6, HD.out, HZ.out, Or.inl (by simp; omega)⟩
end Go.Proofs.YtcjpepbajcdenaaDoor
