/- What every program answers that is one: awake. · one: a program whose main is that text. · Head at a program whose main is a text; numbers taken off what comes in. -/
import Derived.Test.YtnomdhnomggbfaaGreatDoorMNTop
import Derived.Test.YtnomdhnomggbfaaGreatDoorMSmall
import Derived.Test.YtnomdhnomggbfaaGreatDoorMLex
import Derived.Test.YtnomdhnomggbfaaGreatDoorMRead
import Derived.Test.YtnomdhnomggbfaaGreatDoorMNPure
import Derived.Test.YtnomdhnomggbfaaGreatDoorMRef

namespace Go.Proofs.YtnomdhnomggbfaaGreatDoor
open Go.RowKit
set_option linter.unusedVariables false

/-- Head at the small program. -/
theorem head_small (B : Nat) (fn : Int) (ga : Option Addr) (na ca : Nat) (xs : List ByteArray) (fuel : Int) (T : Wdn) (E : Int) (w : World) (hB : SmallAt w B) (hna : xs.length = na) (hx : Tm.Txts w ga xs) (hs : ∀ x ∈ xs, x.size ≤ 1000) (hl : xs.length ≤ 3) (hw : Tm.Lw w) (hT : hdT smallL fn (Tm.lst xs) fuel = T) (hE : hdE smallL fn (Tm.lst xs) fuel = E) :
    Calls Tryz.prog 10 #[.agg #[.slice (some ⟨B + 10, 0, none⟩) 2 2], .int .i64 fn, .slice ga na ca, .int .i64 fuel] w fun e w' => e = .returned (.tuple #[.string ⟨T.toArray⟩, .int .i64 E]) ∧ Below w.heap.size w w' := by
  subst hna
  have h := head_any (some ⟨B + 10, 0, none⟩) 2 smallL fn ga ca xs fuel w hB.defs hx (fun x h => Nat.le_trans (hs x h) (by decide)) hw (by omega)
  rw [hT, hE] at h
  exact h
theorem wk0 : hdT smallL 0 (Tm.lst []) 50 = [57] ∧ hdE smallL 0 (Tm.lst []) 50 = 0 := by decide +kernel
theorem wk1 : hdT smallL 1 (Tm.lst [⟨#[64, 55, 40, 95, 32, 52, 41]⟩, ⟨#[53]⟩]) 50 = [57] ∧ hdE smallL 1 (Tm.lst [⟨#[64, 55, 40, 95, 32, 52, 41]⟩, ⟨#[53]⟩]) 50 = 0 := by decide +kernel
theorem wk2 : hdT smallL 1 (Tm.lst [⟨#[64, 55, 40, 49, 32, 33, 41]⟩, ⟨#[53]⟩]) 50 = [33] ∧ hdE smallL 1 (Tm.lst [⟨#[64, 55, 40, 49, 32, 33, 41]⟩, ⟨#[53]⟩]) 50 = 0 := by decide +kernel
theorem wk3 : hdT smallL 1 (Tm.lst [⟨#[95]⟩, ⟨#[53]⟩]) 50 = [] ∧ hdE smallL 1 (Tm.lst [⟨#[95]⟩, ⟨#[53]⟩]) 50 = 902 := by decide +kernel
theorem wk4 : hdT smallL 0 (Tm.lst []) 3 = [] ∧ hdE smallL 0 (Tm.lst []) 3 = 901 := by decide +kernel
theorem wk5 : hdT smallL 1 (Tm.lst [⟨#[53]⟩]) 50 = [] ∧ hdE smallL 1 (Tm.lst [⟨#[53]⟩]) 50 = 900 := by decide +kernel

set_option maxHeartbeats 4000000 in
set_option maxRecDepth 100000 in
theorem awake9 (w : World) (hw : Tm.Lw w) : Calls Tryz.prog 15 #[] w fun e w' => e = .returned (.bool true) ∧ Below w.heap.size w w' := by
  have HB0 : Hid (Below w.heap.size w w) := Below.refl _ _
  have HW := hid hw
  clear hw
  go_enter Tryz.func15, Tryz.ntmps15
  go_wp2_with fail
  refine (small_any _).mono ?_
  rintro e u0 ⟨rfl, hs0, hb0, hz0⟩
  have HS0 := hid hs0
  have HU0 : Hid (Below w.heap.size w u0) := HB0.out.trans (hb0.mono HB0.out.size)
  clear hs0 hb0 hz0
  go_wp2_with fail
  refine (head_small _ 0 none 0 0 [] 50 _ _ u0 HS0.out rfl (Or.inl rfl) (fun x h => by cases h) (by decide) (Tm.Lw.on HW.out HU0.out) wk0.1 wk0.2).mono ?_
  rintro e v0 ⟨rfl, hb0⟩
  have HB1 : Hid (Below w.heap.size w v0) := HU0.out.trans (hb0.mono HU0.out.size)
  clear hb0
  go_wp2_with fail
  refine (small_any _).mono ?_
  rintro e u1 ⟨rfl, hs1, hb1, hz1⟩
  have HS1 := hid hs1
  have HU1 : Hid (Below w.heap.size w u1) := HB1.out.trans (hb1.mono HB1.out.size)
  clear hs1 hb1 hz1
  go_wp2_with fail
  have HT1 : Hid (Below w.heap.size w (u1.alloc (Obj.cells #[.string ⟨#[64, 55, 40, 95, 32, 52, 41]⟩, .string ⟨#[53]⟩] 9))) := HU1.out.alloc HU1.out.size _
  refine (head_small _ 1 (some ⟨u1.heap.size, 0, none⟩) 2 2 [⟨#[64, 55, 40, 95, 32, 52, 41]⟩, ⟨#[53]⟩] 50 _ _ (u1.alloc (Obj.cells #[.string ⟨#[64, 55, 40, 95, 32, 52, 41]⟩, .string ⟨#[53]⟩] 9)) (HS1.out.on ((Below.refl _ _).alloc (Nat.le_refl _) _)) rfl (Tm.new_txts u1 [⟨#[64, 55, 40, 95, 32, 52, 41]⟩, ⟨#[53]⟩]) (by decide) (by decide) (Tm.Lw.on HW.out HT1.out) wk1.1 wk1.2).mono ?_
  rintro e v1 ⟨rfl, hb1⟩
  have HB2 : Hid (Below w.heap.size w v1) := HT1.out.trans (hb1.mono HT1.out.size)
  clear hb1
  go_wp2_with fail
  refine (small_any _).mono ?_
  rintro e u2 ⟨rfl, hs2, hb2, hz2⟩
  have HS2 := hid hs2
  have HU2 : Hid (Below w.heap.size w u2) := HB2.out.trans (hb2.mono HB2.out.size)
  clear hs2 hb2 hz2
  go_wp2_with fail
  have HT2 : Hid (Below w.heap.size w (u2.alloc (Obj.cells #[.string ⟨#[64, 55, 40, 49, 32, 33, 41]⟩, .string ⟨#[53]⟩] 9))) := HU2.out.alloc HU2.out.size _
  refine (head_small _ 1 (some ⟨u2.heap.size, 0, none⟩) 2 2 [⟨#[64, 55, 40, 49, 32, 33, 41]⟩, ⟨#[53]⟩] 50 _ _ (u2.alloc (Obj.cells #[.string ⟨#[64, 55, 40, 49, 32, 33, 41]⟩, .string ⟨#[53]⟩] 9)) (HS2.out.on ((Below.refl _ _).alloc (Nat.le_refl _) _)) rfl (Tm.new_txts u2 [⟨#[64, 55, 40, 49, 32, 33, 41]⟩, ⟨#[53]⟩]) (by decide) (by decide) (Tm.Lw.on HW.out HT2.out) wk2.1 wk2.2).mono ?_
  rintro e v2 ⟨rfl, hb2⟩
  have HB3 : Hid (Below w.heap.size w v2) := HT2.out.trans (hb2.mono HT2.out.size)
  clear hb2
  go_wp2_with fail
  refine (small_any _).mono ?_
  rintro e u3 ⟨rfl, hs3, hb3, hz3⟩
  have HS3 := hid hs3
  have HU3 : Hid (Below w.heap.size w u3) := HB3.out.trans (hb3.mono HB3.out.size)
  clear hs3 hb3 hz3
  go_wp2_with fail
  have HT3 : Hid (Below w.heap.size w (u3.alloc (Obj.cells #[.string ⟨#[95]⟩, .string ⟨#[53]⟩] 9))) := HU3.out.alloc HU3.out.size _
  refine (head_small _ 1 (some ⟨u3.heap.size, 0, none⟩) 2 2 [⟨#[95]⟩, ⟨#[53]⟩] 50 _ _ (u3.alloc (Obj.cells #[.string ⟨#[95]⟩, .string ⟨#[53]⟩] 9)) (HS3.out.on ((Below.refl _ _).alloc (Nat.le_refl _) _)) rfl (Tm.new_txts u3 [⟨#[95]⟩, ⟨#[53]⟩]) (by decide) (by decide) (Tm.Lw.on HW.out HT3.out) wk3.1 wk3.2).mono ?_
  rintro e v3 ⟨rfl, hb3⟩
  have HB4 : Hid (Below w.heap.size w v3) := HT3.out.trans (hb3.mono HT3.out.size)
  clear hb3
  go_wp2_with fail
  refine (small_any _).mono ?_
  rintro e u4 ⟨rfl, hs4, hb4, hz4⟩
  have HS4 := hid hs4
  have HU4 : Hid (Below w.heap.size w u4) := HB4.out.trans (hb4.mono HB4.out.size)
  clear hs4 hb4 hz4
  go_wp2_with fail
  refine (head_small _ 0 none 0 0 [] 3 _ _ u4 HS4.out rfl (Or.inl rfl) (fun x h => by cases h) (by decide) (Tm.Lw.on HW.out HU4.out) wk4.1 wk4.2).mono ?_
  rintro e v4 ⟨rfl, hb4⟩
  have HB5 : Hid (Below w.heap.size w v4) := HU4.out.trans (hb4.mono HU4.out.size)
  clear hb4
  go_wp2_with fail
  refine (small_any _).mono ?_
  rintro e u5 ⟨rfl, hs5, hb5, hz5⟩
  have HS5 := hid hs5
  have HU5 : Hid (Below w.heap.size w u5) := HB5.out.trans (hb5.mono HB5.out.size)
  clear hs5 hb5 hz5
  go_wp2_with fail
  have HT5 : Hid (Below w.heap.size w (u5.alloc (Obj.cells #[.string ⟨#[53]⟩] 9))) := HU5.out.alloc HU5.out.size _
  refine (head_small _ 1 (some ⟨u5.heap.size, 0, none⟩) 1 1 [⟨#[53]⟩] 50 _ _ (u5.alloc (Obj.cells #[.string ⟨#[53]⟩] 9)) (HS5.out.on ((Below.refl _ _).alloc (Nat.le_refl _) _)) rfl (Tm.new_txts u5 [⟨#[53]⟩]) (by decide) (by decide) (Tm.Lw.on HW.out HT5.out) wk5.1 wk5.2).mono ?_
  rintro e v5 ⟨rfl, hb5⟩
  have HB6 : Hid (Below w.heap.size w v5) := HT5.out.trans (hb5.mono HT5.out.size)
  clear hb5
  go_wp2_with (go_at_call 12; refine (Lx.num_any _ _).mono ?_; rintro e w5 ⟨rfl, rfl⟩)
  go_ret
  exact ⟨rfl, HB6.out⟩
end Go.Proofs.YtnomdhnomggbfaaGreatDoor

namespace Go.Proofs.YtnomdhnomggbfaaGreatDoor
open Go.RowKit
set_option linter.unusedVariables false

theorem hidO {p : Prop} (h : p) : Hid p := h
abbrev Wdo := List UInt8
def preB : ByteArray := ⟨#[40, 100, 101, 102, 32, 48, 32]⟩
def sufB : ByteArray := ⟨#[41, 10, 40, 100, 101, 102, 32, 50, 32, 40, 99, 97, 115, 101, 32, 36, 48, 32, 64, 55, 32, 50, 32, 40, 43, 32, 36, 51, 32, 36, 49, 41, 32, 40, 43, 32, 36, 48, 32, 36, 49, 41, 41, 41, 10, 40, 100, 101, 102, 32, 49, 32, 40, 102, 50, 32, 36, 48, 41, 41, 10, 40, 100, 101, 102, 32, 50, 32, 36, 49, 41, 10]⟩
def oneT (s : Wdo) : Wdo := preB.data.toList ++ s ++ sufB.data.toList
theorem one_list (S : ByteArray) : (preB ++ S ++ sufB).data.toList = oneT S.data.toList := by
  unfold oneT
  rw [ByteArray.data_append, ByteArray.data_append, Array.toList_append, Array.toList_append]
set_option maxHeartbeats 4000000 in
set_option maxRecDepth 100000 in
theorem one_any (S : ByteArray) (ds : List Df) (w : World) (hS : S.size ≤ 1000) (h : pp (oneT S.data.toList) = some ds) :
    Calls Tryz.prog 16 #[.string S] w fun e w' => ∃ g c, e = .returned (.agg #[.slice g ds.length c]) ∧ Defs Exs w' g ds ∧ Below w.heap.size w w' := by
  have HP : Hid (∀ W, Calls Tryz.prog 32 #[.string (preB ++ S ++ sufB)] W fun e w' => ∃ g c qs, e = .returned (.tuple #[pV g ds.length c, .int .i64 0]) ∧ (qs.map (·.1) = ds ∧ Pd w' W.heap.size (.slice g ds.length c) qs) ∧ Below W.heap.size W w') := by
    intro W
    have h1 := rparse_any (preB ++ S ++ sufB) W
    rw [one_list, h] at h1
    refine h1.mono ?_
    rintro e w' ⟨hb, g, c, qs, rfl, hq, hp⟩
    exact ⟨g, c, qs, rfl, ⟨hq, hp⟩, hb⟩
  obtain ⟨n, hn⟩ : ∃ n, ds.length = n := ⟨_, rfl⟩
  have HN := hidO hn
  rw [hn] at HP ⊢
  obtain ⟨T, hT⟩ : ∃ T, preB ++ S ++ sufB = T := ⟨_, rfl⟩
  have HT := hidO hT
  obtain ⟨U, hU⟩ : ∃ U, preB ++ S = U := ⟨_, rfl⟩
  have e1 : (⟨#[40, 100, 101, 102, 32, 48, 32]⟩ : ByteArray) ++ S = U := hU
  have e2 : U ++ (⟨#[41, 10, 40, 100, 101, 102, 32, 50, 32, 40, 99, 97, 115, 101, 32, 36, 48, 32, 64, 55, 32, 50, 32, 40, 43, 32, 36, 51, 32, 36, 49, 41, 32, 40, 43, 32, 36, 48, 32, 36, 49, 41, 41, 41, 10, 40, 100, 101, 102, 32, 49, 32, 40, 102, 50, 32, 36, 48, 41, 41, 10, 40, 100, 101, 102, 32, 50, 32, 36, 49, 41, 10]⟩ : ByteArray) = T := by rw [← hU]; exact hT
  rw [hT] at HP
  have su : U.size ≤ 2000 := by rw [← hU, ByteArray.size_append]; have : preB.size = 7 := rfl; omega
  have st : T.size ≤ 2000 := by rw [← hT, ByteArray.size_append, ByteArray.size_append]; have h1 : preB.size = 7 := rfl; have h2 : sufB.size ≤ 100 := (by decide); omega
  clear hn h hT hU HT
  go_enter Tryz.func16, Tryz.ntmps16
  go_wp2_with fail
  refine (HP.out _).mono ?_
  rintro e w1 ⟨g, c, qs, rfl, hd, hb⟩
  have hX := (Bx1.new w (.slice none 0 0)).on hb
  have HD : Hid (Defs Exs ((w1.setCell ⟨w.heap.size, 0, none⟩ (.slice g n c)).alloc (Obj.cells #[.slice g n c] 24)) g ds ∧ Below w.heap.size w w1 ∧ Bx1 w1 w.heap.size (.slice none 0 0)) := by
    refine ⟨?_, ((Below.refl _ w).alloc (Nat.le_refl _) _).trans (hb.mono (by simp)), hX⟩
    have h1 := ((hd.2.far hX 0 (.slice g n c)).alloc (Obj.cells #[.slice g n c] 24))
    have el : qs.length = n := by rw [← HN.out, ← hd.1, List.length_map]
    rw [← el] at h1
    have h2 := h1.defs
    rw [hd.1, el] at h2
    exact h2
  have x0 := hX.c0
  have xf := hX.frozen
  have xl := hX.lt
  clear hd hb hX
  go_wp2_with fail
  have hb9 : Below w.heap.size w ((w1.setCell ⟨w.heap.size, 0, none⟩ (.slice g n c)).alloc (Obj.cells #[.slice g n c] 24)) := (HD.out.2.1.setCell (p := ⟨w.heap.size, 0, none⟩) (Nat.le_refl _) (.slice g n c)).alloc (by have := HD.out.2.1.size; simp; omega) _
  have q0 : ((w1.setCell ⟨w.heap.size, 0, none⟩ (.slice g n c)).alloc (Obj.cells #[.slice g n c] 24)).cell? ⟨w.heap.size, 0, none⟩ = some (.slice g n c) := ((HD.out.2.2.set0 (.slice g n c)).alloc _).c0
  refine bodyPost_ret (v := .agg #[.slice g n c]) ?_ rfl ⟨g, c, rfl, HD.out.1, hb9⟩
  generalize ((w1.setCell ⟨w.heap.size, 0, none⟩ (.slice g n c)).alloc (Obj.cells #[.slice g n c] 24)) = W9 at q0 ⊢
  simp [results, Tryz.results16, go_sem, q0]
end Go.Proofs.YtnomdhnomggbfaaGreatDoor

namespace Go.Proofs.YtnomdhnomggbfaaGreatDoor
open Go.RowKit
set_option linter.unusedVariables false
/-- Head of main, with no arguments. -/
theorem head_one (ds : List Df) (g : Option Addr) (n c : Nat) (fuel : Int) (T : Wdn) (E : Int) (w : World) (hn : ds.length = n) (hd : Defs Exs w g ds) (hw : Tm.Lw w) (hT : hdT ds 0 [] fuel = T) (hE : hdE ds 0 [] fuel = E) :
    Calls Tryz.prog 10 #[.agg #[.slice g n c], .int .i64 0, .slice none 0 0, .int .i64 fuel] w fun e w' => e = .returned (.tuple #[.string ⟨T.toArray⟩, .int .i64 E]) ∧ Below w.heap.size w w' := by
  subst hn
  have h := head_any g c ds 0 none 0 [] fuel w hd (Or.inl rfl) (fun x h => by cases h) hw (by decide)
  rw [show Tm.lst [] = [] from rfl, hT, hE] at h
  exact h
set_option maxRecDepth 100000 in
theorem field24 (g : Option Addr) (n c : Nat) (w : World) : Sem.run Tryz.prog (Instr.field 24 (.agg #[.slice g n c]) 0) w = .ok (.slice g n c) w := by
  rfl
theorem small_two (w : World) : Calls Tryz.prog 17 #[] w fun e w' => (∃ g, e = .returned (.agg #[.slice g 2 2])) ∧ Below w.heap.size w w' :=
  (small_any w).mono fun e w' h => ⟨⟨_, h.1⟩, h.2.2.1⟩
theorem umod9 (x : Int) (n : Nat) (h : 0 < n) : ∃ m : Nat, (IntKind.u64.wrap x).tmod (n : Int) = (m : Int) ∧ m < n := by
  have h0 : 0 ≤ IntKind.u64.wrap x := by rw [IntKind.wrap_u64]; omega
  rw [Int.tmod_eq_emod_of_nonneg h0]
  have h1 := Int.emod_nonneg (IntKind.u64.wrap x) (show (n : Int) ≠ 0 by omega)
  have h2 := Int.emod_lt_of_pos (IntKind.u64.wrap x) (show (0 : Int) < n by omega)
  exact ⟨(IntKind.u64.wrap x % (n : Int)).toNat, by omega, by omega⟩
theorem and_7 (x : Int) : ∃ m : Nat, bits .and .i64 x 7 = (m : Int) ∧ m < 8 := by
  obtain ⟨m, h1, h2, h3⟩ : ∃ m : Int, bits .and .i64 x 7 = m ∧ 0 ≤ m ∧ m ≤ 7 := by
    refine ⟨x % 8, ?_, by omega, by omega⟩
    have hb : (BitVec.ofInt 64 7).toNat = 7 := by decide
    have h : bits .and .i64 x 7 = IntKind.i64.wrap (((BitVec.ofInt 64 x &&& BitVec.ofInt 64 7).toNat : Nat) : Int) := rfl
    rw [h, BitVec.toNat_and, hb, BitVec.toNat_ofInt, show (7 : Nat) = 2 ^ 3 - 1 from rfl, Nat.and_two_pow_sub_one_eq_mod, IntKind.wrap_i64]
    simp only [show ((2 : Nat) ^ 64) = 18446744073709551616 from rfl, show ((2 : Nat) ^ 3) = 8 from rfl]
    omega
  exact ⟨m.toNat, by rw [h1]; omega, by omega⟩
theorem endless {ds : List Df} (h : hdE ds 0 [] 400 = 901) (f : Nat) (hf : f ≤ 400) : hdT ds 0 [] (f : Int) = [] ∧ hdE ds 0 [] (f : Int) = 901 := by
  have he : hdE ds 0 [] (f : Int) = 901 := by
    by_cases hq : hdE ds 0 [] (f : Int) = 901
    · exact hq
    · have := (hd_more (P := ds) (fn := 0) (args := []) (a := (f : Int)) (b := 400) (by omega) (by omega) (by omega) hq).2
      rw [h] at this; exact absurd this.symm hq
  refine ⟨?_, he⟩
  unfold hdT hdE at *
  split
  · rename_i hk
    rw [if_pos hk] at he
    cases ho : hdO ds 0 [] (f : Int) with
    | fuel => rfl
    | hole => rfl
    | fail => rw [ho] at he; cases he
    | num m => rw [ho] at he; cases he
    | con c ps => rw [ho] at he; cases he
  · rfl
end Go.Proofs.YtnomdhnomggbfaaGreatDoor
