/- sleuthlaw6.ProgramForms returns true at every input: programs with one thing wrong, each of eight kinds, may not be; the input is as it was. No condition. -/
import Derived.Test.YtiobjkmpeiohdaaTyped
import Derived.WalkKit
import Derived.ProofKit
import Derived.OpenShut
namespace Go.Proofs.Ytiobjkmpeiohdaa.programForms
open Go.ChangeShapes Go.WideShapes Go.ChangeAt Go.RowKit
set_option linter.unusedVariables false

theorem own : ownKnob Try.prog.godebug = none := by kernel_rfl

/-- A program of more than MaxDefs: May asks nothing more. -/
theorem pmay_over (g : Option Addr) (n c : Nat) (w : World) (h : (8 : Int) < (n : Int)) :
    Calls Try.prog 8 #[.agg #[.slice g n c]] w fun r w' => r = .returned (.bool false) ∧ Below w.heap.size w w' := by
  have h1 : ¬ (n : Int) < 1 := by omega
  have e1 : decide ((n : Int) < 1) = false := decide_eq_false h1
  have e2 : decide ((8 : Int) < (n : Int)) = true := decide_eq_true h
  have hb0 : Below w.heap.size w (w.alloc (.cells #[.slice g n c] 24)) := (Below.refl _ w).alloc (Nat.le_refl _) _
  go_enter Try.func8, Try.ntmps8
  go_wp2_with fail
  go_ret
  exact ⟨rfl, hb0⟩
theorem exs_drop {w : World} {b o : Nat} {x : Ex} {xs : List Ex} (h : Exs w (some ⟨b, o, none⟩) (x :: xs)) : Exs w (some ⟨b, o + 4, none⟩) xs := by
  rcases h with h | ⟨bk, o', h1, h2, h3⟩
  · cases h
  · cases h1
    refine Or.inr ⟨b, o + 4, rfl, h2, fun j y hy => ?_⟩
    obtain ⟨gk, ck, hE⟩ := h3 (j + 1) y (by simpa using hy)
    rw [show o + (j + 1) * 4 = o + 4 + j * 4 by omega] at hE
    exact ⟨gk, ck, hE⟩
def mainN (m : Int) : List Ex := [⟨7, 0, 0, []⟩, ⟨0, 4, 0, []⟩, ⟨3, 7, 0, [0, 1]⟩, ⟨0, 5, 0, []⟩, ⟨2, m, 0, [2, 3]⟩]
def mainS : List Ex := [⟨0, 1, 0, []⟩, ⟨2, 1, 0, [0]⟩]
theorem may2 (m : Int) (h : m ≠ 0) : pmay [⟨m, mainL⟩, ⟨2, addsL⟩] = false := pmay_main (by simp) h
theorem may3_all : (List.range 4).all (fun k => pmay [⟨0, mainN (2 + (k : Int))⟩, ⟨2, addsL⟩] == false) = true := by decide +kernel
theorem may3 {k : Nat} (h : k < 4) : pmay [⟨0, mainN (2 + (k : Int))⟩, ⟨2, addsL⟩] = false := eq_of_beq (List.all_eq_true.1 may3_all k (List.mem_range.2 h))
theorem may4 : pmay [⟨0, mainN 0⟩, ⟨2, addsL⟩] = false := by decide +kernel
theorem may5 : pmay [⟨0, mainL⟩, ⟨2, addsL.tail⟩] = false := by decide +kernel
theorem may6 : pmay [⟨0, mainL⟩, ⟨3, addsL⟩] = false := by decide +kernel
theorem may7 : pmay [⟨0, mainS⟩, ⟨2, addsL⟩] = false := by decide +kernel
theorem and_1 (x : Int) : ∃ m : Nat, bits .and .i64 x 1 = (m : Int) ∧ m < 2 := by
  refine ⟨(x % 2).toNat, ?_, by omega⟩
  have hb : (BitVec.ofInt 64 1).toNat = 1 := by decide
  have h : bits .and .i64 x 1 = IntKind.i64.wrap (((BitVec.ofInt 64 x &&& BitVec.ofInt 64 1).toNat : Nat) : Int) := rfl
  rw [h, BitVec.toNat_and, hb, BitVec.toNat_ofInt, show (1 : Nat) = 2 ^ 1 - 1 from rfl, Nat.and_two_pow_sub_one_eq_mod, IntKind.wrap_i64]
  simp only [show ((2 : Nat) ^ 64) = 18446744073709551616 from rfl, show ((2 : Nat) ^ 1) = 2 from rfl]
  omega
/-- The main body is turned at one cell, all else is as it was. -/
theorem small_main4 {w : World} {B : Nat} (h : SmallAt w B) (m : Int) : Defs Exs (w.setCell ⟨B + 3, 17, none⟩ (I m)) (some ⟨B + 10, 0, none⟩) [⟨0, mainN m⟩, ⟨2, addsL⟩] := by
  have hr := h.row.other 17 (I m) (b' := B + 3) (by omega)
  refine hr.defs ⟨rfl, ⟨_, _, rfl, ?_⟩, rfl, ⟨_, _, rfl, (h.adds.other (b' := B + 3) (by omega) 17 (I m)).exs⟩, trivial⟩
  exact exs_of_row (h.main.set 17 (I m)) ⟨rfl, rfl, rfl, ⟨_, _, rfl, nums_nil _ _⟩, rfl, rfl, rfl, ⟨_, _, rfl, nums_nil _ _⟩, rfl, rfl, rfl, ⟨_, _, rfl, (h.k1.other 17 (I m) (by omega)).nums⟩, rfl, rfl, rfl, ⟨_, _, rfl, nums_nil _ _⟩, rfl, rfl, rfl, ⟨_, _, rfl, (h.k2.other 17 (I m) (by omega)).nums⟩, trivial⟩
/-- What stands ahead of the end: a program that may not be, in its box. -/
structure Ready (w W : World) (z : Nat) (v : Value) : Prop where
  box : Bx1 W z v
  no : ∀ W', Below W.heap.size W W' → Calls Try.prog 8 #[.agg #[v]] W' fun r w' => r = .returned (.bool false) ∧ Below W'.heap.size W' w'
  below : Below w.heap.size w W
theorem grab {f : Nat} {args : Array Value} {W : World} {Q : Ending → World → Prop} (P : World → Prop) (h : P W) (k : ∀ W', P W' → Calls Try.prog f args W' Q) : Calls Try.prog f args W Q := k W h
/-- The program lies in a new box. -/
theorem ready_of {w w3 : World} {g : Option Addr} {n c z : Nat} {ds : List Df} (hz : w3.heap.size = z) (hd : Defs Exs w3 g ds) (hm : pmay ds = false) (hs : w.heap.size ≤ w3.heap.size) (hb : Below w.heap.size w w3) (hn : n = ds.length := by rfl) : Ready w (w3.alloc (.cells #[.slice g n c] 24)) z (.slice g n c) := by
  subst hz hn
  have hb0 : Below w3.heap.size w3 (w3.alloc (.cells #[.slice g ds.length c] 24)) := (Below.refl _ w3).alloc (Nat.le_refl _) _
  refine ⟨Bx1.new w3 _, fun W' h => ?_, hb.alloc hs _⟩
  have h1 := pmay_any g c ds W' ((hd.on hb0).on h)
  rwa [hm] at h1
theorem ready7 {w w3 : World} {z B : Nat} (hsz : w3.heap.size = z) (t1 : Rd w3 (B + 10) ((smallC B).setIfInBounds 1 (.slice (some ⟨z + 1 + 1, 0, none⟩) 2 2))) (t3 : AddsAt w3 (B + 5)) (hs : w.heap.size ≤ w3.heap.size) (hb : Below w.heap.size w w3) :
    Ready w (((w3.alloc (.cells #[.slice (some ⟨B + 10, 0, none⟩) 2 2] 24)).alloc (.cells #[.int .i64 0] 3)).alloc (.cells #[.int .i64 0, .int .i64 1, .int .i64 0, .slice none 0 0, .int .i64 2, .int .i64 1, .int .i64 0, .slice (some ⟨z + 1, 0, none⟩) 1 1] 33)) z (.slice (some ⟨B + 10, 0, none⟩) 2 2) := by
  subst hsz
  have hk := (Lv.new (w3.alloc (.cells #[.slice (some ⟨B + 10, 0, none⟩) 2 2] 24)) [0]).alloc (.cells #[.int .i64 0, .int .i64 1, .int .i64 0, .slice none 0 0, .int .i64 2, .int .i64 1, .int .i64 0, .slice (some ⟨w3.heap.size + 1, 0, none⟩) 1 1] 33)
  have hr : Rw _ _ _ := World.alloc_heap_new ((w3.alloc (.cells #[.slice (some ⟨B + 10, 0, none⟩) 2 2] 24)).alloc (.cells #[.int .i64 0] 3)) (.cells #[.int .i64 0, .int .i64 1, .int .i64 0, .slice none 0 0, .int .i64 2, .int .i64 1, .int .i64 0, .slice (some ⟨w3.heap.size + 1, 0, none⟩) 1 1] 33)
  simp only [World.size_alloc] at hk hr
  have hx := ((Bx1.new w3 (.slice (some ⟨B + 10, 0, none⟩) 2 2)).alloc (.cells #[.int .i64 0] 3)).alloc (.cells #[.int .i64 0, .int .i64 1, .int .i64 0, .slice none 0 0, .int .i64 2, .int .i64 1, .int .i64 0, .slice (some ⟨w3.heap.size + 1, 0, none⟩) 1 1] 33)
  have hd : Defs Exs (((w3.alloc (.cells #[.slice (some ⟨B + 10, 0, none⟩) 2 2] 24)).alloc (.cells #[.int .i64 0] 3)).alloc (.cells #[.int .i64 0, .int .i64 1, .int .i64 0, .slice none 0 0, .int .i64 2, .int .i64 1, .int .i64 0, .slice (some ⟨w3.heap.size + 1, 0, none⟩) 1 1] 33)) (some ⟨B + 10, 0, none⟩) [⟨0, mainS⟩, ⟨2, addsL⟩] := by
    have hb3 : Below w3.heap.size w3 (((w3.alloc (.cells #[.slice (some ⟨B + 10, 0, none⟩) 2 2] 24)).alloc (.cells #[.int .i64 0] 3)).alloc (.cells #[.int .i64 0, .int .i64 1, .int .i64 0, .slice none 0 0, .int .i64 2, .int .i64 1, .int .i64 0, .slice (some ⟨w3.heap.size + 1, 0, none⟩) 1 1] 33)) := (((Below.refl _ w3).alloc (Nat.le_refl _) _).alloc (by simp) _).alloc (by simp; omega) _
    exact (t1.on hb3).defs ⟨rfl, ⟨_, _, rfl, exs_of_row hr ⟨rfl, rfl, rfl, ⟨_, _, rfl, nums_nil _ _⟩, rfl, rfl, rfl, ⟨_, _, rfl, hk.nums⟩, trivial⟩⟩, rfl, ⟨_, _, rfl, (t3.on hb3).exs⟩, trivial⟩
  refine ⟨hx, fun W' h => ?_, ((hb.alloc hs _).alloc (by simp; omega) _).alloc (by simp; omega) _⟩
  have h1 := pmay_any (some ⟨B + 10, 0, none⟩) 2 [⟨0, mainS⟩, ⟨2, addsL⟩] W' (hd.on h)
  rwa [may7] at h1
theorem ready_drew {w W : World} {z : Nat} {v : Value} (h : Ready w W z v) : Ready w W.drew z v :=
  ⟨h.box, fun W' k => h.no W' ⟨k.os, k.tape, k.output, k.size, k.block⟩, h.below.drew⟩
theorem make36 (d : Nat) (hd : d < 16) : ∃ cs0 : Array Value, cs0.size = (9 + d) * 2 ∧ ∀ W : World, (Instr.makeSlice 22 (.int .i64 (9 + (d : Int))) (.int .i64 (9 + (d : Int)))).run Try.prog W = .ok (.slice (some ⟨W.heap.size, 0, none⟩) (9 + d) (9 + d)) (W.alloc (.cells cs0 36)) := by
  obtain ⟨i0, hi, hz0, hz1, hz2⟩ := info_parts Try.info36
  refine ⟨madeCells (Value.agg #[.int .i64 0, .slice none 0 0]).cells ((9 + (d : Int)).toNat * i0.size), ?_, fun W => ?_⟩
  · rw [size_madeCells, hz1]; omega
  · have h := run_make (P := Try.prog) W 22 36 i0 _ Try.underlying22 hi hz0 .i64 .i64 (9 + (d : Int)) (9 + (d : Int)) (by omega) (Int.le_refl _) (by rw [hz2]; omega) (by omega)
    rw [h, show (9 + (d : Int)).toNat = 9 + d by omega]
set_option maxRecDepth 100000 in
set_option maxHeartbeats 1600000 in
theorem form_0 (a0 a1 : Int) (hr : (IntKind.u64.wrap a0).tmod 8 = 0) (w : World) :
    Calls Try.prog 4 #[.int .i64 a0, .int .i64 a1] w fun e w' => e = .returned (.bool true) ∧ Below w.heap.size w w' := by
  go_enter Try.func4, Try.ntmps4
  go_wp2_with fail
  refine (awake_any _).mono ?_
  rintro e w1 ⟨rfl, hb1⟩
  go_wp2_with fail
  refine (small_any _).mono ?_
  rintro e w2 ⟨rfl, a2, hb2, s2⟩
  have hs1 := hb1.size
  have HB : Hid (Below w.heap.size w w2) := below_next hb1 hb2
  obtain ⟨B, hB⟩ : ∃ B, w1.heap.size = B := ⟨_, rfl⟩
  rw [hB] at a2 s2 hs1 ⊢
  have HA : Hid (SmallAt w2 B) := a2
  have HZ : Hid (w.heap.size ≤ B ∧ w2.heap.size = B + 11) := ⟨hs1, s2⟩
  have l10 : B + 10 < w2.heap.size := by omega
  have l11 : B + 10 < w2.heap.size + 1 := by omega
  have l3 : B + 3 < w2.heap.size := by omega
  have l4 : B + 3 < w2.heap.size + 1 := by omega
  have r0 := a2.row.cell 0 (I 0) rfl
  have r1 := a2.row.cell 1 (.slice (some ⟨B + 3, 0, none⟩) 5 5) rfl
  have r2 := a2.row.cell 2 (I 2) rfl
  have r3 := a2.row.cell 3 (.slice (some ⟨B + 9, 0, none⟩) 8 8) rfl
  have rf := a2.row.frozen
  have m17 := a2.main.cell 17 (I 1) rfl
  have mf := a2.main.frozen 17
  clear hb1 hb2 hB s2 hs1 a2
  go_wp2_with fail
  refine grab (fun W => Ready w W w2.heap.size (.slice none 0 0)) ?_ (fun W hR => ?_)
  · exact ⟨Bx1.new w2 _, fun W' _ => by have h := pmay_any none 0 [] W' (Or.inl rfl); rw [pmay_none] at h; exact h, HB.out.alloc HB.out.size _⟩
  · skip
    clear HA HB HZ l10 l11 l3 l4 r0 r1 r2 r3 rf m17 mf
    refine (small_any _).mono ?_
    rintro e w7 ⟨rfl, a7, hb7, s7⟩
    have h07 := below_next hR.below hb7
    clear s7
    go_wp2_with fail
    refine (pmay_any _ 2 smallL w7 a7.defs).mono ?_
    rintro e w8 ⟨rfl, hb8⟩
    rw [pmay_small]
    have h08 := below_next h07 hb8
    have hR8 := below_next hb7 hb8
    have x0 := (hR.box.on hR8).c0
    clear h07 a7 hb7 hb8
    go_wp2_with fail
    refine (hR.no w8 hR8).mono ?_
    rintro e w9 ⟨rfl, hb9⟩
    have h09 := below_next h08 hb9
    clear h08 hb9 hR x0 hR8
    go_wp2_with fail
    refine (num_any _ _).mono ?_
    rintro e w10 ⟨rfl, rfl⟩
    go_wp2_with fail
    go_ret
    exact ⟨rfl, h09⟩

set_option maxRecDepth 100000 in
set_option maxHeartbeats 1600000 in
theorem form_1 (a0 a1 : Int) (hr : (IntKind.u64.wrap a0).tmod 8 = 1) (w : World) :
    Calls Try.prog 4 #[.int .i64 a0, .int .i64 a1] w fun e w' => e = .returned (.bool true) ∧ Below w.heap.size w w' := by
  obtain ⟨d, hd, hd1⟩ := and_15 a1
  obtain ⟨cs0, hcs0, hmk⟩ := make36 d hd1
  go_enter Try.func4, Try.ntmps4
  go_wp2_with fail
  refine (awake_any _).mono ?_
  rintro e w1 ⟨rfl, hb1⟩
  go_wp2_with fail
  refine (small_any _).mono ?_
  rintro e w2 ⟨rfl, a2, hb2, s2⟩
  have hs1 := hb1.size
  have HB : Hid (Below w.heap.size w w2) := below_next hb1 hb2
  obtain ⟨B, hB⟩ : ∃ B, w1.heap.size = B := ⟨_, rfl⟩
  rw [hB] at a2 s2 hs1 ⊢
  have HA : Hid (SmallAt w2 B) := a2
  have HZ : Hid (w.heap.size ≤ B ∧ w2.heap.size = B + 11) := ⟨hs1, s2⟩
  have l10 : B + 10 < w2.heap.size := by omega
  have l11 : B + 10 < w2.heap.size + 1 := by omega
  have l3 : B + 3 < w2.heap.size := by omega
  have l4 : B + 3 < w2.heap.size + 1 := by omega
  have r0 := a2.row.cell 0 (I 0) rfl
  have r1 := a2.row.cell 1 (.slice (some ⟨B + 3, 0, none⟩) 5 5) rfl
  have r2 := a2.row.cell 2 (I 2) rfl
  have r3 := a2.row.cell 3 (.slice (some ⟨B + 9, 0, none⟩) 8 8) rfl
  have rf := a2.row.frozen
  have m17 := a2.main.cell 17 (I 1) rfl
  have mf := a2.main.frozen 17
  clear hb1 hb2 hB s2 hs1 a2
  go_wp2_with fail
  have HX0 : Hid (Bx1 ((w2.alloc (.cells #[.slice (some ⟨w2.heap.size + 1, 0, none⟩) (9 + d) (9 + d)] 24)).alloc (.cells cs0 36)) w2.heap.size (.slice (some ⟨w2.heap.size + 1, 0, none⟩) (9 + d) (9 + d))) := (Bx1.new w2 _).alloc _
  have HR0 : Hid (Rd ((w2.alloc (.cells #[.slice (some ⟨w2.heap.size + 1, 0, none⟩) (9 + d) (9 + d)] 24)).alloc (.cells cs0 36)) (w2.heap.size + 1) cs0) := by
    have h := World.alloc_heap_new (w2.alloc (.cells #[.slice (some ⟨w2.heap.size + 1, 0, none⟩) (9 + d) (9 + d)] 24)) (.cells cs0 36)
    rw [World.size_alloc] at h
    exact h
  have HL0 : Hid (Below w.heap.size w ((w2.alloc (.cells #[.slice (some ⟨w2.heap.size + 1, 0, none⟩) (9 + d) (9 + d)] 24)).alloc (.cells cs0 36))) := (HB.out.alloc HB.out.size _).alloc (by rw [World.size_alloc]; have := HB.out.size; omega) _
  have HC0 : Hid (cs0.size = (9 + d) * 2) := hcs0
  have hwz : w.heap.size ≤ w2.heap.size := HB.out.size
  clear HA HB HZ l10 l11 l3 l4 r0 r1 r2 r3 rf m17 mf hmk hcs0
  go_loopw [6] (fun s6 wr => ∃ (j : Nat) (cs : Array Value), j ≤ 9 + d ∧ s6 = .int .i64 (j : Int) ∧ Hid (Bx1 wr w2.heap.size (.slice (some ⟨w2.heap.size + 1, 0, none⟩) (9 + d) (9 + d))) ∧ Hid (Rd wr (w2.heap.size + 1) cs) ∧ Hid (cs.size = (9 + d) * 2) ∧ Hid (Below w.heap.size w wr))
    (fun s6 _ => 9 + d - (intOf s6).toNat)
  case atStart => exact ⟨0, cs0, Nat.zero_le _, rfl, HX0, HR0, HC0, HL0⟩
  case round =>
    obtain ⟨j, cs, hj, rfl, HX, HR, HC, HL⟩ := hrel
    have x0 := HX.out.c0
    have xl := HX.out.lt
    by_cases hlt : j < 9 + d
    · have hlt' : (j : Int) < 9 + (d : Int) := by omega
      have hin : j * 2 + 1 < cs.size := by have := HC.out; omega
      have y0 := HR.out.cell (j * 2 + 1) cs[j * 2 + 1] (Array.getElem?_eq_getElem hin)
      have y1 := HR.out.frozen (j * 2 + 1)
      have yl := HR.out.lt
      generalize cs[j * 2 + 1] = u at y0
      have HH : Hid (Bx1 ((wr.setCell ⟨w2.heap.size + 1, j * 2 + 1, none⟩ (.slice (some ⟨wr.heap.size, 0, none⟩) 1 1)).alloc (.cells #[.int .i64 0, .int .i64 0, .int .i64 0, .slice none 0 0] 33)) w2.heap.size (.slice (some ⟨w2.heap.size + 1, 0, none⟩) (9 + d) (9 + d)) ∧ Rd ((wr.setCell ⟨w2.heap.size + 1, j * 2 + 1, none⟩ (.slice (some ⟨wr.heap.size, 0, none⟩) 1 1)).alloc (.cells #[.int .i64 0, .int .i64 0, .int .i64 0, .slice none 0 0] 33)) (w2.heap.size + 1) (cs.setIfInBounds (j * 2 + 1) (.slice (some ⟨wr.heap.size, 0, none⟩) 1 1)) ∧ (cs.setIfInBounds (j * 2 + 1) (.slice (some ⟨wr.heap.size, 0, none⟩) 1 1)).size = (9 + d) * 2 ∧ Below w.heap.size w ((wr.setCell ⟨w2.heap.size + 1, j * 2 + 1, none⟩ (.slice (some ⟨wr.heap.size, 0, none⟩) 1 1)).alloc (.cells #[.int .i64 0, .int .i64 0, .int .i64 0, .slice none 0 0] 33))) := by
        refine ⟨(HX.out.kept (grown_set wr (w2.heap.size + 1) (j * 2 + 1) (.slice (some ⟨wr.heap.size, 0, none⟩) 1 1)) (fun e => by have := Option.some.inj e; omega)).alloc _, (HR.out.set _ _).alloc _, by rw [Array.size_setIfInBounds]; exact HC.out, ?_⟩
        have h := HL.out.setCell (p := ⟨w2.heap.size + 1, j * 2 + 1, none⟩) (by show w.heap.size ≤ w2.heap.size + 1; omega) (.slice (some ⟨wr.heap.size, 0, none⟩) 1 1)
        exact h.alloc h.size _
      clear HX HR HC HL hin HX0 HR0 HL0 HC0
      go_wp2_with fail
      go_roundw
      case rel => exact ⟨j + 1, _, by omega, by go_num, HH.out.1, HH.out.2.1, HH.out.2.2.1, HH.out.2.2.2⟩
      case measure => simp [intOf]; omega
    · have hlt' : ¬ (j : Int) < 9 + (d : Int) := by omega
      go_wp2_with fail
      refine grab (fun W => Ready w W w2.heap.size (.slice (some ⟨w2.heap.size + 1, 0, none⟩) (9 + d) (9 + d))) ?_ (fun W hR => ?_)
      · exact ⟨HX.out, fun W' _ => pmay_over _ (9 + d) _ W' (by omega), HL.out⟩
      · clear HX HR HC HL HX0 HR0 HL0 HC0 x0 xl
        refine (small_any _).mono ?_
        rintro e w7 ⟨rfl, a7, hb7, s7⟩
        have h07 := below_next hR.below hb7
        clear s7
        go_wp2_with fail
        refine (pmay_any _ 2 smallL w7 a7.defs).mono ?_
        rintro e w8 ⟨rfl, hb8⟩
        rw [pmay_small]
        have h08 := below_next h07 hb8
        have hR8 := below_next hb7 hb8
        have x0 := (hR.box.on hR8).c0
        clear h07 a7 hb7 hb8
        go_wp2_with fail
        refine (hR.no w8 hR8).mono ?_
        rintro e w9 ⟨rfl, hb9⟩
        have h09 := below_next h08 hb9
        clear h08 hb9 hR x0 hR8
        go_wp2_with fail
        refine (num_any _ _).mono ?_
        rintro e w10 ⟨rfl, rfl⟩
        go_wp2_with fail
        go_ret
        exact ⟨rfl, h09⟩

set_option maxRecDepth 100000 in
set_option maxHeartbeats 1600000 in
theorem form_2 (a0 a1 : Int) (hr : (IntKind.u64.wrap a0).tmod 8 = 2) (w : World) :
    Calls Try.prog 4 #[.int .i64 a0, .int .i64 a1] w fun e w' => e = .returned (.bool true) ∧ Below w.heap.size w w' := by
  obtain ⟨d, hd, hd1⟩ := and_1 a1
  go_enter Try.func4, Try.ntmps4
  go_wp2_with fail
  refine (awake_any _).mono ?_
  rintro e w1 ⟨rfl, hb1⟩
  go_wp2_with fail
  refine (small_any _).mono ?_
  rintro e w2 ⟨rfl, a2, hb2, s2⟩
  have hs1 := hb1.size
  have HB : Hid (Below w.heap.size w w2) := below_next hb1 hb2
  obtain ⟨B, hB⟩ : ∃ B, w1.heap.size = B := ⟨_, rfl⟩
  rw [hB] at a2 s2 hs1 ⊢
  have HA : Hid (SmallAt w2 B) := a2
  have HZ : Hid (w.heap.size ≤ B ∧ w2.heap.size = B + 11) := ⟨hs1, s2⟩
  have l10 : B + 10 < w2.heap.size := by omega
  have l11 : B + 10 < w2.heap.size + 1 := by omega
  have l3 : B + 3 < w2.heap.size := by omega
  have l4 : B + 3 < w2.heap.size + 1 := by omega
  have r0 := a2.row.cell 0 (I 0) rfl
  have r1 := a2.row.cell 1 (.slice (some ⟨B + 3, 0, none⟩) 5 5) rfl
  have r2 := a2.row.cell 2 (I 2) rfl
  have r3 := a2.row.cell 3 (.slice (some ⟨B + 9, 0, none⟩) 8 8) rfl
  have rf := a2.row.frozen
  have m17 := a2.main.cell 17 (I 1) rfl
  have mf := a2.main.frozen 17
  clear hb1 hb2 hB s2 hs1 a2
  go_wp2_with fail
  refine grab (fun W => Ready w W w2.heap.size (.slice (some ⟨B + 10, 0, none⟩) 2 2)) ?_ (fun W hR => ?_)
  · obtain ⟨t1, t2, t3⟩ := HA.out.turned 0 (I (1 + (d : Int)))
    have hz := HZ.out
    refine ready_of (ds := [⟨1 + (d : Int), mainL⟩, ⟨2, addsL⟩]) (by simp) (hd := ?_) (may2 _ (by omega)) ((HB.out.setCell (p := ⟨B + 10, 0, none⟩) (by show w.heap.size ≤ B + 10; omega) (I (1 + (d : Int)))).size) (HB.out.setCell (p := ⟨B + 10, 0, none⟩) (by show w.heap.size ≤ B + 10; omega) (I (1 + (d : Int))))
    exact t1.defs ⟨rfl, ⟨_, _, rfl, t2⟩, rfl, ⟨_, _, rfl, t3.exs⟩, trivial⟩
  · skip
    clear HA HB HZ l10 l11 l3 l4 r0 r1 r2 r3 rf m17 mf
    refine (small_any _).mono ?_
    rintro e w7 ⟨rfl, a7, hb7, s7⟩
    have h07 := below_next hR.below hb7
    clear s7
    go_wp2_with fail
    refine (pmay_any _ 2 smallL w7 a7.defs).mono ?_
    rintro e w8 ⟨rfl, hb8⟩
    rw [pmay_small]
    have h08 := below_next h07 hb8
    have hR8 := below_next hb7 hb8
    have x0 := (hR.box.on hR8).c0
    clear h07 a7 hb7 hb8
    go_wp2_with fail
    refine (hR.no w8 hR8).mono ?_
    rintro e w9 ⟨rfl, hb9⟩
    have h09 := below_next h08 hb9
    clear h08 hb9 hR x0 hR8
    go_wp2_with fail
    refine (num_any _ _).mono ?_
    rintro e w10 ⟨rfl, rfl⟩
    go_wp2_with fail
    go_ret
    exact ⟨rfl, h09⟩

set_option maxRecDepth 100000 in
set_option maxHeartbeats 1600000 in
theorem form_3 (a0 a1 : Int) (hr : (IntKind.u64.wrap a0).tmod 8 = 3) (w : World) :
    Calls Try.prog 4 #[.int .i64 a0, .int .i64 a1] w fun e w' => e = .returned (.bool true) ∧ Below w.heap.size w w' := by
  obtain ⟨d, hd, hd1⟩ := and_3 a1
  go_enter Try.func4, Try.ntmps4
  go_wp2_with fail
  refine (awake_any _).mono ?_
  rintro e w1 ⟨rfl, hb1⟩
  go_wp2_with fail
  refine (small_any _).mono ?_
  rintro e w2 ⟨rfl, a2, hb2, s2⟩
  have hs1 := hb1.size
  have HB : Hid (Below w.heap.size w w2) := below_next hb1 hb2
  obtain ⟨B, hB⟩ : ∃ B, w1.heap.size = B := ⟨_, rfl⟩
  rw [hB] at a2 s2 hs1 ⊢
  have HA : Hid (SmallAt w2 B) := a2
  have HZ : Hid (w.heap.size ≤ B ∧ w2.heap.size = B + 11) := ⟨hs1, s2⟩
  have l10 : B + 10 < w2.heap.size := by omega
  have l11 : B + 10 < w2.heap.size + 1 := by omega
  have l3 : B + 3 < w2.heap.size := by omega
  have l4 : B + 3 < w2.heap.size + 1 := by omega
  have r0 := a2.row.cell 0 (I 0) rfl
  have r1 := a2.row.cell 1 (.slice (some ⟨B + 3, 0, none⟩) 5 5) rfl
  have r2 := a2.row.cell 2 (I 2) rfl
  have r3 := a2.row.cell 3 (.slice (some ⟨B + 9, 0, none⟩) 8 8) rfl
  have rf := a2.row.frozen
  have m17 := a2.main.cell 17 (I 1) rfl
  have mf := a2.main.frozen 17
  clear hb1 hb2 hB s2 hs1 a2
  go_wp2_with fail
  refine grab (fun W => Ready w W w2.heap.size (.slice (some ⟨B + 10, 0, none⟩) 2 2)) ?_ (fun W hR => ?_)
  · have hz := HZ.out
    exact ready_of (ds := [⟨0, mainN (2 + (d : Int))⟩, ⟨2, addsL⟩]) (by simp) (small_main4 HA.out (2 + (d : Int))) (may3 hd1) ((HB.out.setCell (p := ⟨B + 3, 17, none⟩) (by show w.heap.size ≤ B + 3; omega) (I (2 + (d : Int)))).size) (HB.out.setCell (p := ⟨B + 3, 17, none⟩) (by show w.heap.size ≤ B + 3; omega) (I (2 + (d : Int))))
  · skip
    clear HA HB HZ l10 l11 l3 l4 r0 r1 r2 r3 rf m17 mf
    refine (small_any _).mono ?_
    rintro e w7 ⟨rfl, a7, hb7, s7⟩
    have h07 := below_next hR.below hb7
    clear s7
    go_wp2_with fail
    refine (pmay_any _ 2 smallL w7 a7.defs).mono ?_
    rintro e w8 ⟨rfl, hb8⟩
    rw [pmay_small]
    have h08 := below_next h07 hb8
    have hR8 := below_next hb7 hb8
    have x0 := (hR.box.on hR8).c0
    clear h07 a7 hb7 hb8
    go_wp2_with fail
    refine (hR.no w8 hR8).mono ?_
    rintro e w9 ⟨rfl, hb9⟩
    have h09 := below_next h08 hb9
    clear h08 hb9 hR x0 hR8
    go_wp2_with fail
    refine (num_any _ _).mono ?_
    rintro e w10 ⟨rfl, rfl⟩
    go_wp2_with fail
    go_ret
    exact ⟨rfl, h09⟩

set_option maxRecDepth 100000 in
set_option maxHeartbeats 1600000 in
theorem form_4 (a0 a1 : Int) (hr : (IntKind.u64.wrap a0).tmod 8 = 4) (w : World) :
    Calls Try.prog 4 #[.int .i64 a0, .int .i64 a1] w fun e w' => e = .returned (.bool true) ∧ Below w.heap.size w w' := by
  go_enter Try.func4, Try.ntmps4
  go_wp2_with fail
  refine (awake_any _).mono ?_
  rintro e w1 ⟨rfl, hb1⟩
  go_wp2_with fail
  refine (small_any _).mono ?_
  rintro e w2 ⟨rfl, a2, hb2, s2⟩
  have hs1 := hb1.size
  have HB : Hid (Below w.heap.size w w2) := below_next hb1 hb2
  obtain ⟨B, hB⟩ : ∃ B, w1.heap.size = B := ⟨_, rfl⟩
  rw [hB] at a2 s2 hs1 ⊢
  have HA : Hid (SmallAt w2 B) := a2
  have HZ : Hid (w.heap.size ≤ B ∧ w2.heap.size = B + 11) := ⟨hs1, s2⟩
  have l10 : B + 10 < w2.heap.size := by omega
  have l11 : B + 10 < w2.heap.size + 1 := by omega
  have l3 : B + 3 < w2.heap.size := by omega
  have l4 : B + 3 < w2.heap.size + 1 := by omega
  have r0 := a2.row.cell 0 (I 0) rfl
  have r1 := a2.row.cell 1 (.slice (some ⟨B + 3, 0, none⟩) 5 5) rfl
  have r2 := a2.row.cell 2 (I 2) rfl
  have r3 := a2.row.cell 3 (.slice (some ⟨B + 9, 0, none⟩) 8 8) rfl
  have rf := a2.row.frozen
  have m17 := a2.main.cell 17 (I 1) rfl
  have mf := a2.main.frozen 17
  clear hb1 hb2 hB s2 hs1 a2
  go_wp2_with fail
  refine grab (fun W => Ready w W w2.heap.size (.slice (some ⟨B + 10, 0, none⟩) 2 2)) ?_ (fun W hR => ?_)
  · have hz := HZ.out
    exact ready_of (ds := [⟨0, mainN 0⟩, ⟨2, addsL⟩]) (by simp) (small_main4 HA.out (0)) may4 ((HB.out.setCell (p := ⟨B + 3, 17, none⟩) (by show w.heap.size ≤ B + 3; omega) (I (0))).size) (HB.out.setCell (p := ⟨B + 3, 17, none⟩) (by show w.heap.size ≤ B + 3; omega) (I (0)))
  · skip
    clear HA HB HZ l10 l11 l3 l4 r0 r1 r2 r3 rf m17 mf
    refine (small_any _).mono ?_
    rintro e w7 ⟨rfl, a7, hb7, s7⟩
    have h07 := below_next hR.below hb7
    clear s7
    go_wp2_with fail
    refine (pmay_any _ 2 smallL w7 a7.defs).mono ?_
    rintro e w8 ⟨rfl, hb8⟩
    rw [pmay_small]
    have h08 := below_next h07 hb8
    have hR8 := below_next hb7 hb8
    have x0 := (hR.box.on hR8).c0
    clear h07 a7 hb7 hb8
    go_wp2_with fail
    refine (hR.no w8 hR8).mono ?_
    rintro e w9 ⟨rfl, hb9⟩
    have h09 := below_next h08 hb9
    clear h08 hb9 hR x0 hR8
    go_wp2_with fail
    refine (num_any _ _).mono ?_
    rintro e w10 ⟨rfl, rfl⟩
    go_wp2_with fail
    go_ret
    exact ⟨rfl, h09⟩

set_option maxRecDepth 100000 in
set_option maxHeartbeats 1600000 in
theorem form_5 (a0 a1 : Int) (hr : (IntKind.u64.wrap a0).tmod 8 = 5) (w : World) :
    Calls Try.prog 4 #[.int .i64 a0, .int .i64 a1] w fun e w' => e = .returned (.bool true) ∧ Below w.heap.size w w' := by
  go_enter Try.func4, Try.ntmps4
  go_wp2_with fail
  refine (awake_any _).mono ?_
  rintro e w1 ⟨rfl, hb1⟩
  go_wp2_with fail
  refine (small_any _).mono ?_
  rintro e w2 ⟨rfl, a2, hb2, s2⟩
  have hs1 := hb1.size
  have HB : Hid (Below w.heap.size w w2) := below_next hb1 hb2
  obtain ⟨B, hB⟩ : ∃ B, w1.heap.size = B := ⟨_, rfl⟩
  rw [hB] at a2 s2 hs1 ⊢
  have HA : Hid (SmallAt w2 B) := a2
  have HZ : Hid (w.heap.size ≤ B ∧ w2.heap.size = B + 11) := ⟨hs1, s2⟩
  have l10 : B + 10 < w2.heap.size := by omega
  have l11 : B + 10 < w2.heap.size + 1 := by omega
  have l3 : B + 3 < w2.heap.size := by omega
  have l4 : B + 3 < w2.heap.size + 1 := by omega
  have r0 := a2.row.cell 0 (I 0) rfl
  have r1 := a2.row.cell 1 (.slice (some ⟨B + 3, 0, none⟩) 5 5) rfl
  have r2 := a2.row.cell 2 (I 2) rfl
  have r3 := a2.row.cell 3 (.slice (some ⟨B + 9, 0, none⟩) 8 8) rfl
  have rf := a2.row.frozen
  have m17 := a2.main.cell 17 (I 1) rfl
  have mf := a2.main.frozen 17
  clear hb1 hb2 hB s2 hs1 a2
  go_wp2_with fail
  go_region
  all_goals go_wp2_with fail
  all_goals
    refine grab (fun W => Ready w W w2.heap.size (.slice (some ⟨B + 10, 0, none⟩) 2 2)) ?_ (fun W hR => ?_)
    case refine_1 =>
      obtain ⟨t1, t2, t3⟩ := HA.out.turned 3 (.slice (some ⟨B + 9, 4, none⟩) 7 7)
      have hz := HZ.out
      refine ready_drew (ready_of (ds := [⟨0, mainL⟩, ⟨2, addsL.tail⟩]) (by simp) (hd := ?_) may5 ((HB.out.setCell (p := ⟨B + 10, 3, none⟩) (by show w.heap.size ≤ B + 10; omega) (.slice (some ⟨B + 9, 4, none⟩) 7 7)).size) (HB.out.setCell (p := ⟨B + 10, 3, none⟩) (by show w.heap.size ≤ B + 10; omega) (.slice (some ⟨B + 9, 4, none⟩) 7 7)))
      exact t1.defs ⟨rfl, ⟨_, _, rfl, t2⟩, rfl, ⟨_, _, rfl, exs_drop (o := 0) t3.exs⟩, trivial⟩
    case refine_2 =>
      clear HA HB HZ l10 l11 l3 l4 r0 r1 r2 r3 rf m17 mf
      refine (small_any _).mono ?_
      rintro e w7 ⟨rfl, a7, hb7, s7⟩
      have h07 := below_next hR.below hb7
      clear s7
      go_wp2_with fail
      refine (pmay_any _ 2 smallL w7 a7.defs).mono ?_
      rintro e w8 ⟨rfl, hb8⟩
      rw [pmay_small]
      have h08 := below_next h07 hb8
      have hR8 := below_next hb7 hb8
      have x0 := (hR.box.on hR8).c0
      clear h07 a7 hb7 hb8
      go_wp2_with fail
      refine (hR.no w8 hR8).mono ?_
      rintro e w9 ⟨rfl, hb9⟩
      have h09 := below_next h08 hb9
      clear h08 hb9 hR x0 hR8
      go_wp2_with fail
      refine (num_any _ _).mono ?_
      rintro e w10 ⟨rfl, rfl⟩
      go_wp2_with fail
      go_ret
      exact ⟨rfl, h09⟩

set_option maxRecDepth 100000 in
set_option maxHeartbeats 1600000 in
theorem form_6 (a0 a1 : Int) (hr : (IntKind.u64.wrap a0).tmod 8 = 6) (w : World) :
    Calls Try.prog 4 #[.int .i64 a0, .int .i64 a1] w fun e w' => e = .returned (.bool true) ∧ Below w.heap.size w w' := by
  go_enter Try.func4, Try.ntmps4
  go_wp2_with fail
  refine (awake_any _).mono ?_
  rintro e w1 ⟨rfl, hb1⟩
  go_wp2_with fail
  refine (small_any _).mono ?_
  rintro e w2 ⟨rfl, a2, hb2, s2⟩
  have hs1 := hb1.size
  have HB : Hid (Below w.heap.size w w2) := below_next hb1 hb2
  obtain ⟨B, hB⟩ : ∃ B, w1.heap.size = B := ⟨_, rfl⟩
  rw [hB] at a2 s2 hs1 ⊢
  have HA : Hid (SmallAt w2 B) := a2
  have HZ : Hid (w.heap.size ≤ B ∧ w2.heap.size = B + 11) := ⟨hs1, s2⟩
  have l10 : B + 10 < w2.heap.size := by omega
  have l11 : B + 10 < w2.heap.size + 1 := by omega
  have l3 : B + 3 < w2.heap.size := by omega
  have l4 : B + 3 < w2.heap.size + 1 := by omega
  have r0 := a2.row.cell 0 (I 0) rfl
  have r1 := a2.row.cell 1 (.slice (some ⟨B + 3, 0, none⟩) 5 5) rfl
  have r2 := a2.row.cell 2 (I 2) rfl
  have r3 := a2.row.cell 3 (.slice (some ⟨B + 9, 0, none⟩) 8 8) rfl
  have rf := a2.row.frozen
  have m17 := a2.main.cell 17 (I 1) rfl
  have mf := a2.main.frozen 17
  clear hb1 hb2 hB s2 hs1 a2
  go_wp2_with fail
  refine grab (fun W => Ready w W w2.heap.size (.slice (some ⟨B + 10, 0, none⟩) 2 2)) ?_ (fun W hR => ?_)
  · obtain ⟨t1, t2, t3⟩ := HA.out.turned 2 (I 3)
    have hz := HZ.out
    refine ready_of (ds := [⟨0, mainL⟩, ⟨3, addsL⟩]) (by simp) (hd := ?_) may6 ((HB.out.setCell (p := ⟨B + 10, 2, none⟩) (by show w.heap.size ≤ B + 10; omega) (I 3)).size) (HB.out.setCell (p := ⟨B + 10, 2, none⟩) (by show w.heap.size ≤ B + 10; omega) (I 3))
    exact t1.defs ⟨rfl, ⟨_, _, rfl, t2⟩, rfl, ⟨_, _, rfl, t3.exs⟩, trivial⟩
  · skip
    clear HA HB HZ l10 l11 l3 l4 r0 r1 r2 r3 rf m17 mf
    refine (small_any _).mono ?_
    rintro e w7 ⟨rfl, a7, hb7, s7⟩
    have h07 := below_next hR.below hb7
    clear s7
    go_wp2_with fail
    refine (pmay_any _ 2 smallL w7 a7.defs).mono ?_
    rintro e w8 ⟨rfl, hb8⟩
    rw [pmay_small]
    have h08 := below_next h07 hb8
    have hR8 := below_next hb7 hb8
    have x0 := (hR.box.on hR8).c0
    clear h07 a7 hb7 hb8
    go_wp2_with fail
    refine (hR.no w8 hR8).mono ?_
    rintro e w9 ⟨rfl, hb9⟩
    have h09 := below_next h08 hb9
    clear h08 hb9 hR x0 hR8
    go_wp2_with fail
    refine (num_any _ _).mono ?_
    rintro e w10 ⟨rfl, rfl⟩
    go_wp2_with fail
    go_ret
    exact ⟨rfl, h09⟩

set_option maxRecDepth 100000 in
set_option maxHeartbeats 1600000 in
theorem form_7 (a0 a1 : Int) (hr : (IntKind.u64.wrap a0).tmod 8 = 7) (w : World) :
    Calls Try.prog 4 #[.int .i64 a0, .int .i64 a1] w fun e w' => e = .returned (.bool true) ∧ Below w.heap.size w w' := by
  go_enter Try.func4, Try.ntmps4
  go_wp2_with fail
  refine (awake_any _).mono ?_
  rintro e w1 ⟨rfl, hb1⟩
  go_wp2_with fail
  refine (small_any _).mono ?_
  rintro e w2 ⟨rfl, a2, hb2, s2⟩
  have hs1 := hb1.size
  have HB : Hid (Below w.heap.size w w2) := below_next hb1 hb2
  obtain ⟨B, hB⟩ : ∃ B, w1.heap.size = B := ⟨_, rfl⟩
  rw [hB] at a2 s2 hs1 ⊢
  have HA : Hid (SmallAt w2 B) := a2
  have HZ : Hid (w.heap.size ≤ B ∧ w2.heap.size = B + 11) := ⟨hs1, s2⟩
  have l10 : B + 10 < w2.heap.size := by omega
  have l11 : B + 10 < w2.heap.size + 1 := by omega
  have l3 : B + 3 < w2.heap.size := by omega
  have l4 : B + 3 < w2.heap.size + 1 := by omega
  have r0 := a2.row.cell 0 (I 0) rfl
  have r1 := a2.row.cell 1 (.slice (some ⟨B + 3, 0, none⟩) 5 5) rfl
  have r2 := a2.row.cell 2 (I 2) rfl
  have r3 := a2.row.cell 3 (.slice (some ⟨B + 9, 0, none⟩) 8 8) rfl
  have rf := a2.row.frozen
  have m17 := a2.main.cell 17 (I 1) rfl
  have mf := a2.main.frozen 17
  clear hb1 hb2 hB s2 hs1 a2
  go_wp2_with fail
  refine grab (fun W => Ready w W w2.heap.size (.slice (some ⟨B + 10, 0, none⟩) 2 2)) ?_ (fun W hR => ?_)
  · obtain ⟨t1, t2, t3⟩ := HA.out.turned 1 (.slice (some ⟨w2.heap.size + 1 + 1, 0, none⟩) 2 2)
    have hz := HZ.out
    have hb3 := HB.out.setCell (p := ⟨B + 10, 1, none⟩) (by show w.heap.size ≤ B + 10; omega) (.slice (some ⟨w2.heap.size + 1 + 1, 0, none⟩) 2 2)
    exact ready7 (by simp) t1 t3 hb3.size hb3
  · skip
    clear HA HB HZ l10 l11 l3 l4 r0 r1 r2 r3 rf m17 mf
    refine (small_any _).mono ?_
    rintro e w7 ⟨rfl, a7, hb7, s7⟩
    have h07 := below_next hR.below hb7
    clear s7
    go_wp2_with fail
    refine (pmay_any _ 2 smallL w7 a7.defs).mono ?_
    rintro e w8 ⟨rfl, hb8⟩
    rw [pmay_small]
    have h08 := below_next h07 hb8
    have hR8 := below_next hb7 hb8
    have x0 := (hR.box.on hR8).c0
    clear h07 a7 hb7 hb8
    go_wp2_with fail
    refine (hR.no w8 hR8).mono ?_
    rintro e w9 ⟨rfl, hb9⟩
    have h09 := below_next h08 hb9
    clear h08 hb9 hR x0 hR8
    go_wp2_with fail
    refine (num_any _ _).mono ?_
    rintro e w10 ⟨rfl, rfl⟩
    go_wp2_with fail
    go_ret
    exact ⟨rfl, h09⟩


theorem umod8 (x : Int) : ∃ m : Nat, (IntKind.u64.wrap x).tmod 8 = (m : Int) ∧ m < 8 := by
  have h0 : 0 ≤ IntKind.u64.wrap x := by rw [IntKind.wrap_u64]; omega
  rw [Int.tmod_eq_emod_of_nonneg h0]
  exact ⟨(IntKind.u64.wrap x % 8).toNat, by omega, by omega⟩
/-- The walk: the law's Go text returns true. -/
theorem walk (a0 a1 : Int) (w : World) :
    Calls Try.prog 4 #[.int .i64 a0, .int .i64 a1] w fun e w' => e = .returned (.bool true) ∧ Below w.heap.size w w' := by
  obtain ⟨m, hr, hm⟩ := umod8 a0
  have hc : m = 0 ∨ m = 1 ∨ m = 2 ∨ m = 3 ∨ m = 4 ∨ m = 5 ∨ m = 6 ∨ m = 7 := by omega
  rcases hc with rfl | rfl | rfl | rfl | rfl | rfl | rfl | rfl
  · exact form_0 a0 a1 hr w
  · exact form_1 a0 a1 hr w
  · exact form_2 a0 a1 hr w
  · exact form_3 a0 a1 hr w
  · exact form_4 a0 a1 hr w
  · exact form_5 a0 a1 hr w
  · exact form_6 a0 a1 hr w
  · exact form_7 a0 a1 hr w

/- The row's step. -/
set_option maxRecDepth 100000 in
theorem lifted (os : Os) (started : os.Started) (H : Type) (enc : TypeId × Value → H) :
    ReturnsInHanded {} Try.checked os 4 .any (Rows.programFormsSpec.pre6 enc Try.prog Try.f4 Rows.programFormsRow.domain false) (Rows.programFormsSpec.post enc Try.prog Try.f4 false true false false) := by
  refine returnsInHanded_of_change (C := Try.checked) own started (by kernel_rfl) Try.func4
    (ChangeSpec.witness6 (enc := enc) (C := Try.checked) false ⟨#[], #[.int .i64 0, .int .i64 0], []⟩ 8 (by kernel_rfl) (by kernel_rfl) (by kernel_rfl) (by kernel_rfl)) ?_
  intro W base args ds gs before hval0 hW hcnd _
  have hval : ∀ (j : Nat) t v, Try.f4.params[j]? = some t → args[j]? = some v → Value.okWide Try.prog W .any base t v := hval0
  have hW' := hW
  obtain ⟨p, q, hA0, hV, rfl, hfz, hnd⟩ := hW
  have hA : DataW.TrodAll enc Try.prog W 0 (fun _ => true) true Try.f4.params.toList args.toList ds p := hA0
  rw [Try.params4] at hA hval
  obtain ⟨v0, vs0, d0, ds0, p0, q0, hargs, rfl, rfl, h0, r0⟩ := trodAll_cons hA
  obtain ⟨v1, vs1, d1, ds1, p1, q1, rfl, rfl, rfl, h1, r1⟩ := trodAll_cons r0
  obtain ⟨rfl, rfl, rfl⟩ := trodAll_nil r1
  obtain rfl : args = #[v0, v1] := by cases args; simp_all
  obtain ⟨rfl, rfl⟩ := trodVars_none hV
  obtain ⟨a0, rfl, rfl, rfl, w0⟩ := open_int Try.underlying3 (hval 0 3 v0 rfl rfl) h0
  obtain ⟨a1, rfl, rfl, rfl, w1⟩ := open_int Try.underlying3 (hval 1 3 v1 rfl rfl) h1
  clear hA0 hval0
  simp only [List.append_nil] at hW'
  refine (walk a0 a1 W).mono fun e W' ⟨he, hg⟩ => ?_
  subst he
  exact ⟨_, rfl, _, _, _, [], [], [], hW', trodAll_cons_mk (shut_bool Try.underlying4 _) trodAll_mk0, (trodAll_cons_mk (shut_int Try.underlying3 w0) (trodAll_cons_mk (shut_int Try.underlying3 w1) trodAll_mk0)), rfl, hg.frame _, fun h => by cases h⟩

theorem over : Rows.programFormsRow.holds Try.pinned (OpenSpec.ofChange Rows.programFormsSpec) :=
  OpenClaim.holds_of_wide 4 Try.f4 rfl rfl rfl rfl rfl rfl rfl ⟨rfl, rfl, rfl, rfl, rfl⟩ rfl rfl rfl rfl rfl (by kernel_rfl) Try.func4 (by kernel_rfl)
    (of_decide_eq_true (by kernel_rfl)) (by unfold Func.isWrapper; first | (rw [if_pos (by decide +kernel)]; kernel_rfl) | (rw [if_neg (by decide +kernel)]; exact ⟨rfl, rfl⟩))
    (fun os started H enc _ => lifted os started H enc)

/-- The given statement. -/
theorem proved : Rows.ProgramFormsSaid :=
  over
end Go.Proofs.Ytiobjkmpeiohdaa.programForms
namespace Go.Proofs.Ytiobjkmpeiohdaa
theorem programForms_holds : Rows.ProgramFormsSaid := programForms.proved
end Go.Proofs.Ytiobjkmpeiohdaa
