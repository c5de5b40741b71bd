/- one: a program whose main is that text. · Head at a program whose main is a text; numbers taken off what comes in. -/
import Derived.Test.YtjamknejllbmkaaGreatDoorMRead
import Derived.Test.YtjamknejllbmkaaGreatDoorMNHead
import Derived.Test.YtjamknejllbmkaaGreatDoorMNPure
import Derived.Test.YtjamknejllbmkaaGreatDoorMRef

namespace Go.Proofs.YtjamknejllbmkaaGreatDoor
open Go.RowKit
set_option linter.unusedVariables false

theorem hidO {p : Prop} (h : p) : Hid p := h
abbrev Wdo := List UInt8
def preB : ByteArray := ⟨#[40, 100, 101, 102, 32, 48, 32]⟩
def sufB : ByteArray := ⟨#[41, 10, 40, 100, 101, 102, 32, 50, 32, 40, 99, 97, 115, 101, 32, 36, 48, 32, 64, 55, 32, 50, 32, 40, 43, 32, 36, 51, 32, 36, 49, 41, 32, 40, 43, 32, 36, 48, 32, 36, 49, 41, 41, 41, 10, 40, 100, 101, 102, 32, 49, 32, 40, 102, 50, 32, 36, 48, 41, 41, 10, 40, 100, 101, 102, 32, 50, 32, 36, 49, 41, 10]⟩
def oneT (s : Wdo) : Wdo := preB.data.toList ++ s ++ sufB.data.toList
theorem one_list (S : ByteArray) : (preB ++ S ++ sufB).data.toList = oneT S.data.toList := by
  unfold oneT
  rw [ByteArray.data_append, ByteArray.data_append, Array.toList_append, Array.toList_append]
set_option maxHeartbeats 4000000 in
set_option maxRecDepth 100000 in
theorem one_any (S : ByteArray) (ds : List Df) (w : World) (hS : S.size ≤ 1000) (h : pp (oneT S.data.toList) = some ds) :
    Calls Tryz.prog 9 #[.string S] w fun e w' => ∃ g c, e = .returned (.agg #[.slice g ds.length c]) ∧ Defs Exs w' g ds ∧ Below w.heap.size w w' := by
  have HP : Hid (∀ W, Calls Tryz.prog 16 #[.string (preB ++ S ++ sufB)] W fun e w' => ∃ g c qs, e = .returned (.tuple #[pV g ds.length c, .int .i64 0]) ∧ (qs.map (·.1) = ds ∧ Pd w' W.heap.size (.slice g ds.length c) qs) ∧ Below W.heap.size W w') := by
    intro W
    have h1 := rparse_any (preB ++ S ++ sufB) W
    rw [one_list, h] at h1
    refine h1.mono ?_
    rintro e w' ⟨hb, g, c, qs, rfl, hq, hp⟩
    exact ⟨g, c, qs, rfl, ⟨hq, hp⟩, hb⟩
  obtain ⟨n, hn⟩ : ∃ n, ds.length = n := ⟨_, rfl⟩
  have HN := hidO hn
  rw [hn] at HP ⊢
  obtain ⟨T, hT⟩ : ∃ T, preB ++ S ++ sufB = T := ⟨_, rfl⟩
  have HT := hidO hT
  obtain ⟨U, hU⟩ : ∃ U, preB ++ S = U := ⟨_, rfl⟩
  have e1 : (⟨#[40, 100, 101, 102, 32, 48, 32]⟩ : ByteArray) ++ S = U := hU
  have e2 : U ++ (⟨#[41, 10, 40, 100, 101, 102, 32, 50, 32, 40, 99, 97, 115, 101, 32, 36, 48, 32, 64, 55, 32, 50, 32, 40, 43, 32, 36, 51, 32, 36, 49, 41, 32, 40, 43, 32, 36, 48, 32, 36, 49, 41, 41, 41, 10, 40, 100, 101, 102, 32, 49, 32, 40, 102, 50, 32, 36, 48, 41, 41, 10, 40, 100, 101, 102, 32, 50, 32, 36, 49, 41, 10]⟩ : ByteArray) = T := by rw [← hU]; exact hT
  rw [hT] at HP
  have su : U.size ≤ 2000 := by rw [← hU, ByteArray.size_append]; have : preB.size = 7 := rfl; omega
  have st : T.size ≤ 2000 := by rw [← hT, ByteArray.size_append, ByteArray.size_append]; have h1 : preB.size = 7 := rfl; have h2 : sufB.size ≤ 100 := (by decide); omega
  clear hn h hT hU HT
  go_enter Tryz.func9, Tryz.ntmps9
  go_wp2_with fail
  refine (HP.out _).mono ?_
  rintro e w1 ⟨g, c, qs, rfl, hd, hb⟩
  have hX := (Bx1.new w (.slice none 0 0)).on hb
  have HD : Hid (Defs Exs ((w1.setCell ⟨w.heap.size, 0, none⟩ (.slice g n c)).alloc (Obj.cells #[.slice g n c] 30)) g ds ∧ Below w.heap.size w w1 ∧ Bx1 w1 w.heap.size (.slice none 0 0)) := by
    refine ⟨?_, ((Below.refl _ w).alloc (Nat.le_refl _) _).trans (hb.mono (by simp)), hX⟩
    have h1 := ((hd.2.far hX 0 (.slice g n c)).alloc (Obj.cells #[.slice g n c] 30))
    have el : qs.length = n := by rw [← HN.out, ← hd.1, List.length_map]
    rw [← el] at h1
    have h2 := h1.defs
    rw [hd.1, el] at h2
    exact h2
  have x0 := hX.c0
  have xf := hX.frozen
  have xl := hX.lt
  clear hd hb hX
  go_wp2_with fail
  have hb9 : Below w.heap.size w ((w1.setCell ⟨w.heap.size, 0, none⟩ (.slice g n c)).alloc (Obj.cells #[.slice g n c] 30)) := (HD.out.2.1.setCell (p := ⟨w.heap.size, 0, none⟩) (Nat.le_refl _) (.slice g n c)).alloc (by have := HD.out.2.1.size; simp; omega) _
  have q0 : ((w1.setCell ⟨w.heap.size, 0, none⟩ (.slice g n c)).alloc (Obj.cells #[.slice g n c] 30)).cell? ⟨w.heap.size, 0, none⟩ = some (.slice g n c) := ((HD.out.2.2.set0 (.slice g n c)).alloc _).c0
  refine bodyPost_ret (v := .agg #[.slice g n c]) ?_ rfl ⟨g, c, rfl, HD.out.1, hb9⟩
  generalize ((w1.setCell ⟨w.heap.size, 0, none⟩ (.slice g n c)).alloc (Obj.cells #[.slice g n c] 30)) = W9 at q0 ⊢
  simp [results, Tryz.results9, go_sem, q0]
end Go.Proofs.YtjamknejllbmkaaGreatDoor

namespace Go.Proofs.YtjamknejllbmkaaGreatDoor
open Go.RowKit
set_option linter.unusedVariables false
/-- Head of main, with no arguments. -/
theorem head_one (ds : List Df) (g : Option Addr) (n c : Nat) (fuel : Int) (T : Wdn) (E : Int) (w : World) (hn : ds.length = n) (hd : Defs Exs w g ds) (hw : Tm.Lw w) (hT : hdT ds 0 [] fuel = T) (hE : hdE ds 0 [] fuel = E) :
    Calls Tryz.prog 8 #[.agg #[.slice g n c], .int .i64 0, .slice none 0 0, .int .i64 fuel] w fun e w' => e = .returned (.tuple #[.string ⟨T.toArray⟩, .int .i64 E]) ∧ Below w.heap.size w w' := by
  subst hn
  have h := head_any g c ds 0 none 0 [] fuel w hd (Or.inl rfl) (fun x h => by cases h) hw (by decide)
  rw [show Tm.lst [] = [] from rfl, hT, hE] at h
  exact h
set_option maxRecDepth 100000 in
theorem field24 (g : Option Addr) (n c : Nat) (w : World) : Sem.run Tryz.prog (Instr.field 30 (.agg #[.slice g n c]) 0) w = .ok (.slice g n c) w := by
  rfl
theorem small_two (w : World) : Calls Tryz.prog 11 #[] w fun e w' => (∃ g, e = .returned (.agg #[.slice g 2 2])) ∧ Below w.heap.size w w' :=
  (small_any w).mono fun e w' h => ⟨⟨_, h.1⟩, h.2.2.1⟩
theorem umod9 (x : Int) (n : Nat) (h : 0 < n) : ∃ m : Nat, (IntKind.u64.wrap x).tmod (n : Int) = (m : Int) ∧ m < n := by
  have h0 : 0 ≤ IntKind.u64.wrap x := by rw [IntKind.wrap_u64]; omega
  rw [Int.tmod_eq_emod_of_nonneg h0]
  have h1 := Int.emod_nonneg (IntKind.u64.wrap x) (show (n : Int) ≠ 0 by omega)
  have h2 := Int.emod_lt_of_pos (IntKind.u64.wrap x) (show (0 : Int) < n by omega)
  exact ⟨(IntKind.u64.wrap x % (n : Int)).toNat, by omega, by omega⟩
theorem and_7 (x : Int) : ∃ m : Nat, bits .and .i64 x 7 = (m : Int) ∧ m < 8 := by
  obtain ⟨m, h1, h2, h3⟩ : ∃ m : Int, bits .and .i64 x 7 = m ∧ 0 ≤ m ∧ m ≤ 7 := by
    refine ⟨x % 8, ?_, by omega, by omega⟩
    have hb : (BitVec.ofInt 64 7).toNat = 7 := by decide
    have h : bits .and .i64 x 7 = IntKind.i64.wrap (((BitVec.ofInt 64 x &&& BitVec.ofInt 64 7).toNat : Nat) : Int) := rfl
    rw [h, BitVec.toNat_and, hb, BitVec.toNat_ofInt, show (7 : Nat) = 2 ^ 3 - 1 from rfl, Nat.and_two_pow_sub_one_eq_mod, IntKind.wrap_i64]
    simp only [show ((2 : Nat) ^ 64) = 18446744073709551616 from rfl, show ((2 : Nat) ^ 3) = 8 from rfl]
    omega
  exact ⟨m.toNat, by rw [h1]; omega, by omega⟩
theorem endless {ds : List Df} (h : hdE ds 0 [] 400 = 901) (f : Nat) (hf : f ≤ 400) : hdT ds 0 [] (f : Int) = [] ∧ hdE ds 0 [] (f : Int) = 901 := by
  have he : hdE ds 0 [] (f : Int) = 901 := by
    by_cases hq : hdE ds 0 [] (f : Int) = 901
    · exact hq
    · have := (hd_more (P := ds) (fn := 0) (args := []) (a := (f : Int)) (b := 400) (by omega) (by omega) (by omega) hq).2
      rw [h] at this; exact absurd this.symm hq
  refine ⟨?_, he⟩
  unfold hdT hdE at *
  split
  · rename_i hk
    rw [if_pos hk] at he
    cases ho : hdO ds 0 [] (f : Int) with
    | fuel => rfl
    | hole => rfl
    | fail => rw [ho] at he; cases he
    | num m => rw [ho] at he; cases he
    | con c ps => rw [ho] at he; cases he
  · rfl
end Go.Proofs.YtjamknejllbmkaaGreatDoor
