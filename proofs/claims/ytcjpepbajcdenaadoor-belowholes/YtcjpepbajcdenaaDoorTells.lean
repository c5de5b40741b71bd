/- The contracts of behindTerm and tellsNoMore. -/
import Derived.Test.YtcjpepbajcdenaaDoorLess
import Derived.Test.YtcjpepbajcdenaaDoorLaid
namespace Go.Proofs.YtcjpepbajcdenaaDoor
open Go.RowKit
set_option linter.unusedVariables false

theorem bt_le : ∀ (l : List UInt8) (o : Nat), bt o l ≤ l.length
  | [], o => Nat.le_refl _
  | c :: r, o => by
    rw [bt]
    split
    · simp
    · have := bt_le r (if c = 40 then o + 1 else if c = 41 then o - 1 else o)
      simp only [List.length_cons]; omega
theorem bt_step {s : ByteArray} {j : Nat} (h : j < s.size) (o : Nat) : bt o (s.data.toList.drop j) = if o = 0 ∧ (s[j] = 32 ∨ s[j] = 41) then 0 else bt (if s[j] = 40 then o + 1 else if s[j] = 41 then o - 1 else o) (s.data.toList.drop (j + 1)) + 1 := by
  have e : s.data.toList.drop j = s[j] :: s.data.toList.drop (j + 1) := List.drop_eq_getElem_cons (by simpa using h)
  rw [e, bt]
theorem byte_beq {c : UInt8} {n : Int} {d : UInt8} (hd : (d.toNat : Int) = n) : ((c.toNat : Int) == n) = decide (c = d) := by
  by_cases h : c = d
  · subst h; simp [hd]
  · rw [decide_eq_false h, beq_eq_false_iff_ne]
    intro e; exact h (UInt8.toNat_inj.1 (by omega))

set_option maxHeartbeats 1600000 in
set_option maxRecDepth 100000 in
theorem behindT_any (s : ByteArray) (a R : Nat) (w : World) (ha : a ≤ s.size) (hs : s.size ≤ 1024) (hR : a + bt 0 (s.data.toList.drop a) = R) :
    Calls Tryd.prog 24 #[.string s, .int .i64 a] w fun e w' => e = .returned (.int .i64 (R : Int)) ∧ w = w' := by
  have HR : Hid (a + bt 0 (s.data.toList.drop a) = R) := hR
  clear hR
  go_enter Tryd.func24, Tryd.ntmps24
  go_wp2_with fail
  go_loop [5, 6] (fun x i => ∃ o j : Nat, a ≤ j ∧ j ≤ s.size ∧ o ≤ j ∧ x = .int .i64 (o : Int) ∧ i = .int .i64 (j : Int) ∧ j + bt o (s.data.toList.drop j) = R) (fun _ i => s.size - (intOf i).toNat)
  case atStart => exact ⟨0, a, Nat.le_refl _, ha, Nat.zero_le _, rfl, rfl, HR.out⟩
  case round =>
    obtain ⟨o, j, h1, h2, ho, rfl, rfl, he⟩ := hrel
    clear HR
    by_cases hlt : j < s.size
    · rw [bt_step hlt o] at he
      have b32 : ((s[j].toNat : Int) == 32) = decide (s[j] = 32) := byte_beq rfl
      have b41 : ((s[j].toNat : Int) == 41) = decide (s[j] = 41) := byte_beq rfl
      have b40 : ((s[j].toNat : Int) == 40) = decide (s[j] = 40) := byte_beq rfl
      by_cases h0 : o = 0
      · subst h0
        by_cases h32 : s[j] = 32
        · rw [if_pos ⟨rfl, Or.inl h32⟩, Nat.add_zero] at he
          subst he
          rw [decide_eq_true h32] at b32
          clear h32 b41 b40
          go_wp2_with fail
          go_ret
          exact ⟨rfl, rfl⟩
        · by_cases h41 : s[j] = 41
          · rw [if_pos ⟨rfl, Or.inr h41⟩, Nat.add_zero] at he
            subst he
            rw [decide_eq_true h41] at b41
            rw [decide_eq_false h32] at b32
            clear h32 h41 b40
            go_wp2_with fail
            go_ret
            exact ⟨rfl, rfl⟩
          · rw [if_neg (fun h => by rcases h.2 with h | h; exact h32 h; exact h41 h), if_neg h41] at he
            rw [decide_eq_false h41] at b41
            rw [decide_eq_false h32] at b32
            by_cases h40 : s[j] = 40
            · rw [if_pos h40] at he
              rw [decide_eq_true h40] at b40
              have HE : Hid _ := he
              clear h32 h41 h40 he
              go_wp2_with fail
              go_round
              case rel => exact ⟨0 + 1, j + 1, by omega, by omega, by omega, by go_num, by go_num, by have := HE.out; omega⟩
              case measure => simp [intOf]; omega
            · rw [if_neg h40] at he
              rw [decide_eq_false h40] at b40
              have HE : Hid _ := he
              clear h32 h41 h40 he
              go_wp2_with fail
              go_round
              case rel => exact ⟨0, j + 1, by omega, by omega, by omega, by go_num, by go_num, by have := HE.out; omega⟩
              case measure => simp [intOf]; omega
      · have b0 : ((o : Int) == 0) = false := by simp; exact h0
        rw [if_neg (fun h => h0 h.1)] at he
        by_cases h40 : s[j] = 40
        · rw [if_pos h40] at he
          rw [decide_eq_true h40] at b40
          have HE : Hid _ := he
          clear h40 h0 he b32 b41
          go_wp2_with fail
          go_round
          case rel => exact ⟨o + 1, j + 1, by omega, by omega, by omega, by go_num, by go_num, by have := HE.out; omega⟩
          case measure => simp [intOf]; omega
        · rw [if_neg h40] at he
          rw [decide_eq_false h40] at b40
          by_cases h41 : s[j] = 41
          · rw [if_pos h41] at he
            rw [decide_eq_true h41] at b41
            have HE : Hid _ := he
            have h0' : 1 ≤ o := by omega
            clear h40 h41 h0 he b32
            go_wp2_with fail
            go_round
            case rel => exact ⟨o - 1, j + 1, by omega, by omega, by omega, by go_num, by go_num, by have := HE.out; omega⟩
            case measure => simp [intOf]; omega
          · rw [if_neg h41] at he
            rw [decide_eq_false h41] at b41
            have HE : Hid _ := he
            clear h40 h41 h0 he b32
            go_wp2_with fail
            go_round
            case rel => exact ⟨o, j + 1, by omega, by omega, by omega, by go_num, by go_num, by have := HE.out; omega⟩
            case measure => simp [intOf]; omega
    · have ej : j = s.size := by omega
      subst ej
      rw [List.drop_of_length_le (by simp)] at he
      have he' : s.size = R := by simpa [bt] using he
      subst he'
      clear he
      go_wp2_with fail
      go_ret
      exact ⟨rfl, rfl⟩

theorem fl_at {a : ByteArray} {i : Nat} (h : i < a.size) : a.data.toList.drop i = a[i] :: a.data.toList.drop (i + 1) := List.drop_eq_getElem_cons (by simpa using h)

theorem behindT_at (s : ByteArray) (i : Int) (a R : Nat) (w : World) (hi : i = (a : Int)) (ha : a ≤ s.size) (hs : s.size ≤ 1024) (hR : a + bt 0 (s.data.toList.drop a) = R) :
    Calls Tryd.prog 24 #[.string s, .int .i64 i] w fun e w' => e = .returned (.int .i64 (R : Int)) ∧ w = w' := by
  subst hi; exact behindT_any s a R w ha hs hR

set_option maxHeartbeats 1600000 in
set_option maxRecDepth 100000 in
theorem tells_any (a b : ByteArray) (R : Bool) (w : World) (ha : a.size ≤ 1024) (hb : b.size ≤ 1024) (hR : fl a.data.toList b.data.toList = R) :
    Calls Tryd.prog 16 #[.string a, .string b] w fun e w' => e = .returned (.bool R) ∧ Below w.heap.size w w' := by
  have HR : Hid (fl a.data.toList b.data.toList = R) := hR
  clear hR
  go_enter Tryd.func16, Tryd.ntmps16
  go_wp2_with fail
  go_loopw [5, 9] (fun x i wr => ∃ t j : Nat, t ≤ b.size ∧ j ≤ a.size ∧ x = .int .i64 (t : Int) ∧ i = .int .i64 (j : Int) ∧ fl (a.data.toList.drop j) (b.data.toList.drop t) = R ∧ Below w.heap.size w wr) (fun _ i _ => a.size - (intOf i).toNat)
  case atStart => exact ⟨0, 0, Nat.zero_le _, Nat.zero_le _, rfl, rfl, by rw [List.drop_zero, List.drop_zero]; exact HR.out, Below.refl _ _⟩
  case round =>
    obtain ⟨t, j, h1, h2, rfl, rfl, he, hbr⟩ := hrel
    clear HR
    by_cases hlt : j < a.size
    · rw [fl_at hlt] at he
      have b95 : ((a[j].toNat : Int) == 95) = decide (a[j] = 95) := byte_beq rfl
      by_cases h95 : a[j] = 95
      · rw [h95, fl_hole, List.drop_drop] at he
        rw [decide_eq_true h95] at b95
        have hle := bt_le (b.data.toList.drop t) 0
        rw [List.length_drop] at hle
        have hbl : b.data.toList.length = b.size := by simp
        have HE : Hid _ := he
        clear h95 he
        go_wp2_with fail
        refine (behindT_at b _ t _ _ rfl h1 hb rfl).mono ?_
        rintro e w1 ⟨rfl, rfl⟩
        go_wp2_with fail
        go_roundw
        case rel => exact ⟨t + bt 0 (b.data.toList.drop t), j + 1, by omega, by omega, by go_num, by go_num, HE.out, hbr⟩
        case measure => simp [intOf]; omega
      · rw [decide_eq_false h95] at b95
        by_cases ht : t < b.size
        · rw [fl_at ht] at he
          have ht' : (t : Int) < (b.size : Int) := by omega
          by_cases hc : a[j] = b[t]
          · rw [← hc, fl_same h95] at he
            have hq : ((a[j].toNat : Int) == (b[t].toNat : Int)) = true := by rw [hc]; simp
            have HE : Hid _ := he
            clear he h95 hc
            go_wp2_with fail
            go_quiet (fail)
            go_wp2_with fail
            go_roundw
            case rel => exact ⟨t + 1, j + 1, by omega, by omega, by go_num, by go_num, HE.out, hbr.trans (below_drewN _ _ _)⟩
            case measure => simp [intOf]; omega
          · rw [fl_other h95 hc] at he
            have hq : ((a[j].toNat : Int) == (b[t].toNat : Int)) = false := by
              rw [beq_eq_false_iff_ne]; intro e; exact hc (UInt8.toNat_inj.1 (by omega))
            clear h95 hc
            subst he
            go_wp2_with fail
            go_quiet (fail)
            go_wp2_with fail
            go_ret
            exact ⟨rfl, hbr.trans (below_drewN _ _ _)⟩
        · have ht' : (b.size : Int) ≤ (t : Int) := by omega
          rw [List.drop_of_length_le (l := b.data.toList) (by simp; omega), fl_end h95] at he
          clear h95
          subst he
          go_wp2_with fail
          go_quiet (fail)
          go_wp2_with fail
          go_ret
          exact ⟨rfl, hbr.trans (below_drewN _ _ _)⟩
    · have ej : j = a.size := by omega
      subst ej
      rw [List.drop_of_length_le (l := a.data.toList) (by simp)] at he
      have hq : ((t : Int) == (b.size : Int)) = R := by
        rw [← he, fl]
        by_cases ht : t = b.size
        · subst ht; rw [List.drop_of_length_le (by simp)]; simp
        · have hne : b.data.toList.drop t ≠ [] := by
            intro e; have := congrArg List.length e; rw [List.length_drop] at this; simp at this; omega
          rw [List.isEmpty_eq_false_iff.2 hne]; simp; omega
      clear he
      go_wp2_with fail
      go_ret
      exact ⟨rfl, hbr⟩

/-- What Is tells. -/
def isB (a b : List UInt8) : Bool := (whole a).isSome && ((whole b).isSome && fl a b)
def isE (a b : List UInt8) : Int := if (whole a).isSome && (whole b).isSome then 0 else 300

theorem whole_size {s : ByteArray} (h : (whole s.data.toList).isSome = true) : s.size ≤ 1024 := by
  obtain ⟨⟨k, x, ks⟩, hy⟩ := Option.isSome_iff_exists.1 h
  have := (whole_some hy).1
  simpa using this

set_option maxHeartbeats 1600000 in
set_option maxRecDepth 100000 in
theorem is_any (a b : ByteArray) (w : World) (ha : a.size ≤ 140737488355328) (hb : b.size ≤ 140737488355328) (hw : Lw w) :
    Calls Tryd.prog 9 #[.string a, .string b] w fun e w' => e = .returned (.tuple #[.bool (isB a.data.toList b.data.toList), .int .i64 (isE a.data.toList b.data.toList)]) ∧ Below w.heap.size w w' := by
  cases h1 : (whole a.data.toList).isSome with
  | false =>
    have e1 : isB a.data.toList b.data.toList = false := by unfold isB; rw [h1]; rfl
    have e2 : isE a.data.toList b.data.toList = 300 := by unfold isE; rw [h1]; rfl
    rw [e1, e2]
    clear e1 e2
    have H1 : Hid ((whole a.data.toList).isSome = false) := h1
    clear h1
    go_enter Tryd.func9, Tryd.ntmps9
    go_wp2_with fail
    refine (tmay_any atoi_said itoa_said a _ ha hw).mono ?_
    rintro e w1 ⟨rfl, hb1⟩
    rw [H1.out]
    go_wp2_with fail
    go_ret2
    exact ⟨rfl, hb1⟩
  | true =>
    cases h2 : (whole b.data.toList).isSome with
    | false =>
      have e1 : isB a.data.toList b.data.toList = false := by unfold isB; rw [h1, h2]; rfl
      have e2 : isE a.data.toList b.data.toList = 300 := by unfold isE; rw [h1, h2]; rfl
      rw [e1, e2]
      clear e1 e2
      have H1 : Hid ((whole a.data.toList).isSome = true) := h1
      have H2 : Hid ((whole b.data.toList).isSome = false) := h2
      clear h1 h2
      go_enter Tryd.func9, Tryd.ntmps9
      go_wp2_with fail
      refine (tmay_any atoi_said itoa_said a _ ha hw).mono ?_
      rintro e w1 ⟨rfl, hb1⟩
      rw [H1.out]
      go_wp2_with fail
      refine (tmay_any atoi_said itoa_said b _ hb (hw.on hb1)).mono ?_
      rintro e w2 ⟨rfl, hb2⟩
      rw [H2.out]
      go_wp2_with fail
      go_ret2
      exact ⟨rfl, below_next hb1 hb2⟩
    | true =>
      have e1 : isB a.data.toList b.data.toList = fl a.data.toList b.data.toList := by unfold isB; rw [h1, h2]; rfl
      have e2 : isE a.data.toList b.data.toList = 0 := by unfold isE; rw [h1, h2]; rfl
      rw [e1, e2]
      clear e1 e2
      have ha' := whole_size h1
      have hb' := whole_size h2
      have H1 : Hid ((whole a.data.toList).isSome = true) := h1
      have H2 : Hid ((whole b.data.toList).isSome = true) := h2
      clear h1 h2
      go_enter Tryd.func9, Tryd.ntmps9
      go_wp2_with fail
      refine (tmay_any atoi_said itoa_said a _ ha hw).mono ?_
      rintro e w1 ⟨rfl, hb1⟩
      rw [H1.out]
      go_wp2_with fail
      refine (tmay_any atoi_said itoa_said b _ hb (hw.on hb1)).mono ?_
      rintro e w2 ⟨rfl, hb2⟩
      rw [H2.out]
      have hb12 := below_next hb1 hb2
      clear hb1 hb2
      go_wp2_with fail
      refine (tells_any a b _ _ ha' hb' rfl).mono ?_
      rintro e w3 ⟨rfl, hb3⟩
      go_wp2_with fail
      go_ret2
      exact ⟨rfl, below_next hb12 hb3⟩
end Go.Proofs.YtcjpepbajcdenaaDoor
