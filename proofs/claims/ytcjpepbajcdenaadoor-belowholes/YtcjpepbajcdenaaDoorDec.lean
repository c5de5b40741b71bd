/- The contract of readDecimal. -/
import Derived.Test.YtcjpepbajcdenaaDoorBase
import Derived.Deep.QuietTactic
import Derived.BigQuiet
import Derived.Deep.RegionWith
import Derived.WalkSpells
import Derived.Deep.RegionHeld3
import Derived.Deep.Light
import Derived.Lib.Strings
namespace Go.Proofs.YtcjpepbajcdenaaDoor
open Go.RowKit
set_option linter.unusedVariables false

/-- The digits and signs from a place on. -/
def run (s : ByteArray) (a : Nat) : List UInt8 := numPart (s.data.toList.drop a)

theorem run_le (s : ByteArray) (a : Nat) (h : a ≤ s.size) : a + (run s a).length ≤ s.size := by
  have := numPart_le (s.data.toList.drop a)
  rw [List.length_drop] at this
  have e : s.data.toList.length = s.size := by simp
  unfold run; omega
theorem run_in {s : ByteArray} {a j : Nat} (h : j < (run s a).length) (hs : a + j < s.size) : isNC s[a + j] = true := by
  have hm : (run s a)[j] ∈ run s a := List.getElem_mem h
  have h1 := numPart_all _ _ hm
  have e : (run s a)[j]? = (s.data.toList.drop a)[j]? := by
    have := numPart_take (s.data.toList.drop a)
    rw [show run s a = numPart (s.data.toList.drop a) from rfl]
    conv => lhs; rw [← this]
    rw [List.getElem?_take, if_pos (show j < (numPart (s.data.toList.drop a)).length from h)]
  rw [List.getElem?_eq_getElem h, List.getElem?_drop, List.getElem?_eq_getElem (by simpa using hs)] at e
  have e' := Option.some.inj e
  rw [e'] at h1
  exact h1
theorem run_out {s : ByteArray} {a : Nat} (hs : a + (run s a).length < s.size) : isNC s[a + (run s a).length] = false := by
  refine numPart_stop (s.data.toList.drop a) _ ?_
  rw [show (numPart (s.data.toList.drop a)).length = (run s a).length from rfl, List.getElem?_drop, List.getElem?_eq_getElem (by simpa using hs)]
  rfl

theorem nc_yes {c : UInt8} (h : isNC c = true) : (c.toNat : Int) = 45 ∨ ((c.toNat : Int) ≠ 45 ∧ 48 ≤ (c.toNat : Int) ∧ (c.toNat : Int) ≤ 57) := by
  unfold isNC at h
  simp only [Bool.or_eq_true, beq_iff_eq, Bool.and_eq_true, decide_eq_true_eq] at h
  rcases h with h | h
  · subst h; exact Or.inl rfl
  · exact Or.inr (by omega)
theorem nc_no {c : UInt8} (h : isNC c = false) : (c.toNat : Int) ≠ 45 ∧ ((c.toNat : Int) < 48 ∨ (48 ≤ (c.toNat : Int) ∧ 57 < (c.toNat : Int))) := by
  unfold isNC at h
  simp only [Bool.or_eq_false_iff, beq_eq_false_iff_ne, Bool.and_eq_false_imp, decide_eq_true_eq, decide_eq_false_iff_not] at h
  refine ⟨fun e => h.1 (by apply UInt8.toNat_inj.1; simp; omega), ?_⟩
  by_cases h48 : 48 ≤ c.toNat
  · exact Or.inr ⟨by omega, by have := h.2 h48; omega⟩
  · exact Or.inl (by omega)

theorem run_piece (s : ByteArray) (a : Nat) : (s.extract a (a + (run s a).length)).data.toList = run s a := by
  rw [Lib.extract_data, Nat.add_sub_cancel_left]; exact numPart_take _
theorem small_of {v : Int} (h : mayB v = true ∨ tagB v = true) : -100000 ≤ v ∧ v ≤ 100000 := by
  unfold mayB tagB at h
  simp only [Bool.and_eq_true, decide_eq_true_eq] at h
  omega
/-- Atoi took it, and it is or is not written so. -/
theorem dec_end {t : List UInt8} {n : Int} (hok : Lib.atoiAll t = .ok n) :
    ((Lib.itoa n == t) = true → canon t = some n) ∧ ((Lib.itoa n == t) = false → ∀ v, canon t = some v → mayB v = false ∧ tagB v = false) := by
  refine ⟨fun h => ?_, fun h v hv => ?_⟩
  · have e : Lib.itoa n = t := by simpa using h
    rw [← e]; exact canon_of_itoa n
  · have key : ¬ (mayB v = true ∨ tagB v = true) := fun hs => by
      obtain ⟨h1, h2⟩ := small_of hs
      have e := canon_atoi hv h1 h2
      rw [hok] at e
      have e : n = v := by injection e
      subst e
      rw [canon_itoa hv] at h; simp at h
    exact ⟨by cases hm : mayB v with
      | false => rfl
      | true => exact absurd (Or.inl hm) key, by cases hm : tagB v with
      | false => rfl
      | true => exact absurd (Or.inr hm) key⟩
/-- Atoi did not take it. -/
theorem dec_none {t : List UInt8} (hno : ∀ v, Lib.atoiAll t ≠ .ok v) : ∀ v, canon t = some v → mayB v = false ∧ tagB v = false := by
  intro v hv
  have key : ¬ (mayB v = true ∨ tagB v = true) := fun hs => by
    obtain ⟨h1, h2⟩ := small_of hs
    exact hno v (canon_atoi hv h1 h2)
  exact ⟨by cases hm : mayB v with
    | false => rfl
    | true => exact absurd (Or.inl hm) key, by cases hm : tagB v with
    | false => rfl
    | true => exact absurd (Or.inr hm) key⟩
theorem below_drewN (B : Nat) (w : World) (n : Nat) : Below B w (w.drewN n) := ⟨rfl, rfl, rfl, Nat.le_refl _, fun _ _ => rfl⟩
theorem below_next {a b c : World} (h : Below a.heap.size a b) (k : Below b.heap.size b c) : Below a.heap.size a c := h.trans (k.mono h.size)

set_option maxHeartbeats 800000 in
set_option maxRecDepth 100000 in
theorem dec_any (hA : AtoiSaid) (hI : ItoaSaid) (s : ByteArray) (a : Nat) (w : World) (ha : a ≤ s.size) (hs : s.size ≤ 1024) (hw : Lw w) :
    Calls Tryd.prog 33 #[.string s, .int .i64 a] w fun e w' => ∃ n b, e = .returned (.tuple #[.int .i64 n, .int .i64 ((a : Int) + ((run s a).length : Int)), .bool b]) ∧
      (b = true → canon (run s a) = some n) ∧ (b = false → ∀ v, canon (run s a) = some v → mayB v = false ∧ tagB v = false) ∧ Below w.heap.size w w' := by
  have hr := run_le s a ha
  have hsl : ∀ W, (Instr.slice 9 (.string s) (some (.int .i64 (a : Int))) (some (.int .i64 ((a : Int) + ((run s a).length : Int)))) none).run Tryd.prog W = .ok (.string (s.extract a (a + (run s a).length))) W := fun W => by
    rw [run_slice_string (h := Tryd.underlying9)] <;> first | omega | (congr 2)
  go_enter Tryd.func33, Tryd.ntmps33
  go_wp2_with fail
  go_loop [7] (fun i => ∃ j : Nat, j ≤ (run s a).length ∧ i = .int .i64 ((a + j : Nat) : Int)) (fun i => s.size - (intOf i).toNat)
  case atStart => exact ⟨0, Nat.zero_le _, rfl⟩
  case round =>
    obtain ⟨j, hj, rfl⟩ := hrel
    by_cases hlt : j < (run s a).length
    · have hk : a + j < s.size := by omega
      rcases nc_yes (run_in hlt hk) with h | ⟨h1, h2, h3⟩
      · go_wp2_with fail
        all_goals
          go_round
          case rel => exact ⟨j + 1, by omega, by go_num⟩
          case measure => simp [intOf]; omega
      · go_wp2_with fail
        all_goals
          go_round
          case rel => exact ⟨j + 1, by omega, by go_num⟩
          case measure => simp [intOf]; omega
    · have ej : j = (run s a).length := by omega
      subst ej
      have hx : (∃ hk : a + (run s a).length < s.size, ((s[a + (run s a).length].toNat : Int) == 45) = false ∧ ((s[a + (run s a).length].toNat : Int) < 48 ∨ (48 ≤ (s[a + (run s a).length].toNat : Int) ∧ 57 < (s[a + (run s a).length].toNat : Int)))) ∨ ¬ a + (run s a).length < s.size := by
        by_cases hk : a + (run s a).length < s.size
        · have := nc_no (run_out hk)
          exact Or.inl ⟨hk, beq_eq_false_iff_ne.2 this.1, this.2⟩
        · exact Or.inr hk
      rcases hx with ⟨hk, h1, h2 | ⟨h2, h3⟩⟩ | hk
      all_goals
        go_wp2_with fail
        refine (hA _ _ ?_ hw).mono ?_
        · have : (s.extract a (a + (run s a).length)).size ≤ s.size := by rw [ByteArray.size_extract]; omega
          omega
        rintro e w1 ⟨n, er, rfl, ⟨rfl, hok⟩ | ⟨⟨t, p, rfl⟩, hno⟩, hb1⟩
        · have HO : Hid _ := hok
          clear hok
          have hw1 := hw.on hb1
          have hn : -9223372036854775808 ≤ n ∧ n ≤ 9223372036854775807 := Lib.atoiAll_bounds HO.out
          obtain ⟨hn0, hn1⟩ := hn
          go_wp2_with fail
          have hb0 : Below w1.heap.size w1 w1 := Below.refl _ _
          go_region_held3 (fun w' => Below w1.heap.size w1 w') (first | assumption | (refine Below.drew ?_; assumption) | (refine below_next ?_ (by assumption); assumption))
            (first | (go_at_call 38; refine (hI n _ hn0 hn1 ?_).mono ?_; (exact hw1.on (by assumption)); rintro e w2 ⟨rfl, hb2⟩))
          all_goals
            go_wp2_with fail
            go_ret3
            have ho := HO.out
            rw [run_piece] at ho
            obtain ⟨e1, e2⟩ := dec_end ho
            rw [Lib.toList_data, run_piece]
            exact ⟨n, _, rfl, e1, e2, below_next hb1 (by assumption)⟩
        · have HO : Hid _ := hno
          clear hno
          go_wp2_with fail
          go_quiet (fail)
          all_goals
            go_wp2_with fail
            go_ret3
            have ho := HO.out
            rw [run_piece] at ho
            exact ⟨n, false, rfl, (fun h => Bool.noConfusion h), (fun _ => dec_none ho), below_next hb1 (below_drewN _ _ _)⟩
end Go.Proofs.YtcjpepbajcdenaaDoor
