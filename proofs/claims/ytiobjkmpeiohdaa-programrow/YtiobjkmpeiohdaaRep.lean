/- The contract of slices.Repeat at one number. -/
import Derived.Shelf.Bits.Mul64
import Derived.Laws.CopyOwn
import Derived.Deep.OwnRows
import Derived.Deep.RegionLaw
import Derived.Test.YtiobjkmpeiohdaaMem
namespace Go.Proofs.Ytiobjkmpeiohdaa
open Go.RowKit
set_option linter.unusedVariables false

set_option maxHeartbeats 800000 in
theorem mul64_any (n : Nat) (hn : n ≤ 24) (w : World) :
    Calls Try.prog 39 #[.int .u64 1, .int .u64 n] w fun e w' => e = .returned (.tuple #[.int .u64 0, .int .u64 n]) ∧ w = w' := by
  have h1 : bits .and .u64 1 4294967295 = 1 := by decide
  have h0 : bits .and .u64 0 4294967295 = 0 := by decide
  have h2 : bits .and .u64 (n : Int) 4294967295 = n := by
    rw [Mul64.maskN n (by omega)]; congr 1; omega
  have h3 : (n : Int) / 4294967296 = 0 := by omega
  have h4 : IntKind.u64.wrap (n : Int) = n := by rw [IntKind.wrap_u64]; omega
  go_enter Try.func39, Try.ntmps39
  go_wp2
  go_ret2
  exact ⟨rfl, rfl⟩
set_option maxHeartbeats 800000 in
theorem mul_any (n : Nat) (hn : n ≤ 24) (w : World) :
    Calls Try.prog 32 #[.int .u64 1, .int .u64 n] w fun e w' => e = .returned (.tuple #[.int .u64 0, .int .u64 n]) ∧ w = w' := by
  go_enter Try.func32, Try.ntmps32
  go_wp2_with (go_at_call 39; refine (mul64_any n hn _).mono ?_; rintro e w' ⟨rfl, rfl⟩)
  go_ret2
  exact ⟨rfl, rfl⟩

theorem Try.info3 : (Try.prog.info? 3).map (fun i => (i.zero, i.size, i.bytes)) = some (some (.int .i64 0), 1, 8) := by kernel_rfl
theorem size3 : (Try.prog.info? 3).map (·.size) = some 1 := by kernel_rfl
/-- m numbers -1, the rest of n zeros. -/
def half (m n : Nat) : List Int := List.replicate m (-1) ++ List.replicate (n - m) 0
theorem half_len {m n : Nat} (h : m ≤ n) : (half m n).length = n := by simp [half]; omega
theorem made_half (n : Nat) : (madeCells #[Value.int .i64 0] n) = ((half 0 n).map (Value.int .i64)).toArray := by
  apply Array.ext
  · simp [size_madeCells, half]
  · intro i h1 h2
    simp [madeCells, half, Nat.mod_one]
def mone (q : Nat) : List Value := List.replicate q (.int .i64 (-1))
theorem mone_len (q : Nat) : (mone q).length = q := by simp [mone]
theorem splice_half {m n q : Nat} (h : m + q ≤ n) : splice ((half m n).map (Value.int .i64)) m (mone q) = (half (m + q) n).map (Value.int .i64) := by
  have e1 : List.take m ((half m n).map (Value.int .i64)) = List.replicate m (.int .i64 (-1)) := by
    simp [half]
  have e2 : List.drop (m + q) ((half m n).map (Value.int .i64)) = List.replicate (n - (m + q)) (.int .i64 0) := by
    unfold half
    rw [List.map_append, List.map_replicate, List.map_replicate, List.drop_append, List.drop_replicate, List.drop_replicate, List.length_replicate, show m - (m + q) = 0 by omega, show n - m - (m + q - m) = n - (m + q) by omega]
    rfl
  unfold splice
  rw [mone_len, e1, e2]
  simp [mone, half, List.replicate_append_replicate, ← List.append_assoc]
theorem mone_one (q : Nat) : ∀ v ∈ mone q, v.oneCell' = true := by
  intro v hv
  rw [List.eq_of_mem_replicate hv]; rfl
theorem mone_at {q j : Nat} {v : Value} (h : (mone q)[j]? = some v) : j < q ∧ v = .int .i64 (-1) := by
  have hj := (List.getElem?_eq_some_iff.1 h).1
  rw [mone_len] at hj
  exact ⟨hj, by rw [mone, List.getElem?_replicate, if_pos hj] at h; exact (Option.some.inj h).symm⟩
theorem half_at {m n j : Nat} (h : j < m) : (half m n)[j]? = some (-1) := by
  unfold half
  rw [List.getElem?_append_left (by simpa using h), List.getElem?_replicate, if_pos h]

set_option maxHeartbeats 1600000 in
set_option maxRecDepth 100000 in
theorem repeat_any (bx cx n : Nat) (w : World) (hx : w.cell? ⟨bx, 0, none⟩ = some (.int .i64 (-1))) (h1 : 1 ≤ n) (hn : n ≤ 24) :
    Calls Try.prog 24 #[.slice (some ⟨bx, 0, none⟩) 1 cx, .int .i64 n] w fun e w' => e = .returned (.slice (some ⟨w.heap.size, 0, none⟩) n n) ∧ Lv w' w.heap.size (List.replicate n (-1)) ∧ Below w.heap.size w w' := by
  have hmk := fun W => run_make_row' (P := Try.prog) 31 3 (.int .i64 0) 8 Try.underlying31 Try.info3 rfl .i64 .i64 n (by omega) (by omega) W
  rw [made_half] at hmk
  have hbx := World.block_lt_of_cell? w _ hx
  have hbx' : bx < w.heap.size := hbx
  have u1 : IntKind.u64.wrap (n : Int) = n := by rw [IntKind.wrap_u64]; omega
  have hgt : ¬ ((9223372036854775807 : Int) < (n : Int)) := by omega
  go_enter Try.func24, Try.ntmps24
  go_wp2_with (first | (go_at_call 32; refine (mul_any n hn _).mono ?_; rintro e w' ⟨rfl, rfl⟩) | ((refine wpList_copy_splice (by rfl) _ _ 31 31 (by rfl) 3 Try.underlying31 size3 (some ⟨w.heap.size, 0, none⟩) (some ⟨bx, 0, none⟩) n n 1 cx (by rfl) (by rfl) w.heap.size 0 ((half 0 n).map (Value.int .i64)) 3 ?cp0 (mone 1) ?cp1 ?cp2 ?cp3 (mone_one 1) w.heap.size w ?cp4 (Nat.le_refl _) ?_)))
  case cp0 => exact Lv.new w (half 0 n)
  case cp1 => rw [mone_len]; exact (Nat.min_eq_left h1).symm
  case cp2 =>
    intro _ j v hj
    obtain ⟨h1, rfl⟩ := mone_at hj
    obtain rfl : j = 0 := by omega
    exact hx
  case cp3 => rw [mone_len, List.length_map, half_len (Nat.zero_le _)]; omega
  case cp4 => exact (Below.refl _ _).alloc (Nat.le_refl _) _
  intro w1 HG1 hB1
  have HL1 : Hid (Lv w1 w.heap.size (half 1 n)) := by
    have h := HG1.out
    rw [splice_half (m := 0) (q := 1) (by omega)] at h
    exact h
  clear HG1 hmk
  go_wp2_with fail
  go_loopw [8] (fun s8 wr => ∃ m : Nat, 1 ≤ m ∧ m ≤ n ∧ s8 = .int .i64 (m : Int) ∧ Hid (Lv wr w.heap.size (half m n)) ∧ Below w.heap.size w wr)
    (fun s8 _ => n - (intOf s8).toNat)
  case atStart => exact ⟨1, Nat.le_refl _, h1, by first | rfl | (rw [mone_len]; rfl), HL1, hB1⟩
  case round =>
    obtain ⟨m, hm1, hmn, rfl, HL, hB⟩ := hrel
    by_cases hlt : m < n
    · have hlt' : (m : Int) < (n : Int) := by omega
      have hne : ¬ n = m := by omega
      obtain ⟨q, hq⟩ : ∃ q, q = Nat.min m (n - m) := ⟨_, rfl⟩
      have hq' : q ≤ m ∧ q ≤ n - m ∧ 1 ≤ q := by
        rw [hq]
        exact ⟨Nat.min_le_left _ _, Nat.min_le_right _ _, Nat.le_min.2 ⟨hm1, by omega⟩⟩
      have HQ : Hid ((mone q).length = Nat.min m (n - m)) := by rw [mone_len]; exact hq
      have HP : Hid (∀ j v, (mone q)[j]? = some v → wr.drew.cell? ((⟨w.heap.size, 0, none⟩ : Addr).add j) = some v) := by
        intro j v hj
        obtain ⟨hjq, rfl⟩ := mone_at hj
        rw [Addr.add_lit, Nat.zero_add]
        exact HL.out.cell (half_at (by omega))
      have HF : Hid (m + (mone q).length ≤ ((half m n).map (Value.int .i64)).length) := by
        show _ ≤ _
        rw [mone_len, List.length_map, half_len (by omega)]; omega
      have hwr : IntKind.i64.wrap ((m : Int) + ((mone q).length : Int)) = ((m + q : Nat) : Int) := by
        rw [mone_len, IntKind.wrap_i64]; omega
      clear hq
      go_wp2_with fail
      go_region_law (refine step_copy_splice (by rfl) (.tmp 41) (.tmp 44) 31 31 (by rfl) 3 Try.underlying31 size3 (some ⟨w.heap.size, m, none⟩) (some ⟨w.heap.size, 0, none⟩) (n - m) (n - m) m n (by simp [Act.eval, Act.put]) (by simp [Act.eval, Act.put]) w.heap.size m ((half m n).map (Value.int .i64)) 3 HL.out (mone q) HQ.out (fun _ => ⟨rfl, _, rfl, HP.out⟩) HF.out (mone_one q) w.heap.size w hB.drew (Nat.le_refl _) ?_; intro w2 HG2 hB2)
      have HL2 : Hid (Lv w2 w.heap.size (half (m + q) n)) := by
        have h := HG2.out
        rw [splice_half (m := m) (q := q) (by omega)] at h
        exact h
      clear HG2 HP HF HQ HL
      go_wp2_with fail
      go_roundw
      case rel => first | exact ⟨m + q, by omega, by omega, by first | go_num | (rw [mone_len]; go_num), HL2, hB2⟩ | ((repeat apply Exists.intro); exact ⟨⟨m + q, by omega, by omega, rfl, HL2, hB2⟩, rfl⟩)
      case measure =>
        show n - (intOf (.int .i64 ((m : Int) + (q : Int)))).toNat < n - (intOf (.int .i64 (m : Int))).toNat
        simp only [intOf]; omega
    · have hlt' : ¬ (m : Int) < (n : Int) := by omega
      obtain rfl : m = n := by omega
      go_wp2_with fail
      go_ret
      refine ⟨rfl, ?_, hB⟩
      have h := HL.out
      unfold half at h
      rw [Nat.sub_self, List.replicate_zero, List.append_nil] at h
      exact h
end Go.Proofs.Ytiobjkmpeiohdaa
