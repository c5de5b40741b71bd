/- sleuthlaw9.NameForms returns true at every input: its ways, one by one. -/
import Derived.Test.YtmcdpnikkmedkaaDoorMNHead
import Derived.Test.YtmcdpnikkmedkaaDoorMLex
namespace Go.Proofs.YtmcdpnikkmedkaaDoor.nameForms
open Go.RowKit
set_option linter.unusedVariables false

theorem no_ask {P : List Df} {fn : Int} {args : List Wdn} {fuel : Int} (h : askB P fn args fuel = false) : hdT P fn args fuel = [] ∧ hdE P fn args fuel = 900 := by
  unfold hdT hdE
  rw [h]
  exact ⟨rfl, rfl⟩
theorem no_neg (P : List Df) (fn : Int) (args : List Wdn) (fuel : Int) (h : fn < 0) : askB P fn args fuel = false := by
  unfold askB
  rw [show decide (0 ≤ fn) = false from decide_eq_false (by omega)]
  simp
theorem no_def (fn : Int) (args : List Wdn) (fuel : Int) (h : 2 ≤ fn) : askB smallL fn args fuel = false := by
  unfold askB
  rw [show smallL[fn.toNat]? = none from List.getElem?_eq_none (by show 2 ≤ _; omega)]
  simp
theorem no_fuel (P : List Df) (fn : Int) (args : List Wdn) (fuel : Int) (h : fuel < 0 ∨ 400 < fuel) : askB P fn args fuel = false := by
  unfold askB
  rw [show decide (0 ≤ fuel ∧ fuel ≤ 400) = false from decide_eq_false (by omega)]
  simp
theorem umod8 (x : Int) : ∃ m : Nat, (IntKind.u64.wrap x).tmod 8 = (m : Int) ∧ m < 8 := by
  have h0 : 0 ≤ IntKind.u64.wrap x := by rw [IntKind.wrap_u64]; omega
  rw [Int.tmod_eq_emod_of_nonneg h0]
  exact ⟨(IntKind.u64.wrap x % 8).toNat, by omega, by omega⟩
theorem and_mask (x : Int) (k : Nat) (hk : k < 62) : ∃ m : Nat, bits .and .i64 x ((2 ^ k - 1 : Nat) : Int) = (m : Int) ∧ m < 2 ^ k := by
  have hb : (BitVec.ofInt 64 ((2 ^ k - 1 : Nat) : Int)).toNat = 2 ^ k - 1 := by
    rw [BitVec.toNat_ofInt]
    have h1 : 2 ^ k < 2 ^ 62 := Nat.pow_lt_pow_right (by decide) hk
    have h2 : (2 : Nat) ^ 62 = 4611686018427387904 := by decide
    omega
  have h : bits .and .i64 x ((2 ^ k - 1 : Nat) : Int) = IntKind.i64.wrap (((BitVec.ofInt 64 x &&& BitVec.ofInt 64 ((2 ^ k - 1 : Nat) : Int)).toNat : Nat) : Int) := rfl
  rw [BitVec.toNat_and, hb, Nat.and_two_pow_sub_one_eq_mod] at h
  have hlt : (BitVec.ofInt 64 x).toNat % 2 ^ k < 2 ^ k := Nat.mod_lt _ (Nat.pow_pos (by decide))
  have h1 : 2 ^ k < 2 ^ 62 := Nat.pow_lt_pow_right (by decide) hk
  have h2 : (2 : Nat) ^ 62 = 4611686018427387904 := by decide
  refine ⟨_, h.trans ?_, hlt⟩
  rw [IntKind.wrap_i64]
  omega

theorem txts_tail {w : World} {bk : Nat} {x : ByteArray} {xs : List ByteArray} (h : Tm.Txts w (some ⟨bk, 0, none⟩) (x :: xs)) : Tm.Txts w (some ⟨bk, 1, none⟩) xs := by
  rcases h with h | ⟨b, o, e, h2, h3⟩
  · cases h
  · cases e
    refine Or.inr ⟨bk, 1, rfl, h2, fun j y hy => ?_⟩
    have := h3 (j + 1) y (by simpa using hy)
    rw [show 0 + (j + 1) = 1 + j by omega] at this
    exact this
structure Ab (w : World) (B : Nat) (W : World) : Prop where
  small : SmallAt W B
  txts : Tm.Txts W (some ⟨B + 11 + 1, 0, none⟩) [⟨#[49]⟩, ⟨#[50]⟩]
  below : Below w.heap.size w W
  row : W.heap[B + 11 + 1]? = some (Obj.cells #[.string ⟨#[49]⟩, .string ⟨#[50]⟩] 9)
  size : W.heap.size = B + 11 + 1 + 1
theorem ab_at {w u0 : World} {B : Nat} (hs : SmallAt u0 B) (hu : Below w.heap.size w u0) (hz : u0.heap.size = B + 11) (o : Obj) : Ab w B ((u0.alloc o).alloc (Obj.cells #[.string ⟨#[49]⟩, .string ⟨#[50]⟩] 9)) := by
  have h1 : (u0.alloc o).heap.size = B + 11 + 1 := by simp [hz]
  have ht := Tm.new_txts (u0.alloc o) [⟨#[49]⟩, ⟨#[50]⟩]
  have hr := World.alloc_heap_new (u0.alloc o) (Obj.cells #[.string ⟨#[49]⟩, .string ⟨#[50]⟩] 9)
  rw [h1] at ht hr
  exact ⟨(hs.alloc o).alloc _, ht, (hu.alloc hu.size _).alloc (by have := hu.size; rw [h1]; omega) _, hr, by simp [hz]⟩
def smallB : List Df := [⟨0, mainL⟩, ⟨1, addsL⟩]
theorem ab0_at {w u0 : World} {B : Nat} (hs : SmallAt u0 B) (hu : Below w.heap.size w u0) (hz : u0.heap.size = B + 11) (hB : w.heap.size ≤ B) (o : Obj) :
    Defs Exs (((u0.setCell ⟨B + 10, 2, none⟩ (.int .i64 1)).alloc o).alloc (Obj.cells #[.string ⟨#[49]⟩, .string ⟨#[50]⟩] 9)) (some ⟨B + 10, 0, none⟩) smallB ∧ Tm.Txts (((u0.setCell ⟨B + 10, 2, none⟩ (.int .i64 1)).alloc o).alloc (Obj.cells #[.string ⟨#[49]⟩, .string ⟨#[50]⟩] 9)) (some ⟨B + 11 + 1, 0, none⟩) [⟨#[49]⟩, ⟨#[50]⟩] ∧
      Below w.heap.size w (((u0.setCell ⟨B + 10, 2, none⟩ (.int .i64 1)).alloc o).alloc (Obj.cells #[.string ⟨#[49]⟩, .string ⟨#[50]⟩] 9)) := by
  obtain ⟨t1, t2, t3⟩ := hs.turned 2 (.int .i64 1)
  have hsz : (u0.setCell ⟨B + 10, 2, none⟩ (.int .i64 1)).heap.size = B + 11 := by simp [hz]
  have hbw := hu.setCell (p := ⟨B + 10, 2, none⟩) (Nat.le_trans hB (Nat.le_add_right _ _)) (.int .i64 1)
  generalize u0.setCell ⟨B + 10, 2, none⟩ (.int .i64 1) = u1 at *
  have h1 : (u1.alloc o).heap.size = B + 11 + 1 := by simp [hsz]
  have ht := Tm.new_txts (u1.alloc o) [⟨#[49]⟩, ⟨#[50]⟩]
  rw [h1] at ht
  have hb : Below u1.heap.size u1 ((u1.alloc o).alloc (Obj.cells #[.string ⟨#[49]⟩, .string ⟨#[50]⟩] 9)) := ((Below.refl _ u1).alloc (Nat.le_refl _) _).alloc (by rw [h1]; omega) _
  exact ⟨Defs.on (t1.defs (ds := smallB) ⟨rfl, ⟨_, _, rfl, t2⟩, rfl, ⟨_, _, rfl, t3.exs⟩, trivial⟩) hb, ht, hbw.trans (hb.mono hbw.size)⟩
theorem ab5_at {w u0 : World} {B : Nat} (hs : SmallAt u0 B) (hu : Below w.heap.size w u0) (hz : u0.heap.size = B + 11) (o o2 : Obj) (x y : ByteArray) :
    SmallAt (((u0.alloc o).alloc (Obj.cells #[.string x, .string y] 9)).alloc o2) B ∧ Tm.Txts (((u0.alloc o).alloc (Obj.cells #[.string x, .string y] 9)).alloc o2) (some ⟨B + 11 + 1, 0, none⟩) [x, y] ∧ Below w.heap.size w (((u0.alloc o).alloc (Obj.cells #[.string x, .string y] 9)).alloc o2) := by
  have h1 : (u0.alloc o).heap.size = B + 11 + 1 := by simp [hz]
  have ht := (Tm.new_txts (u0.alloc o) [x, y]).on ((Below.refl _ _).alloc (Nat.le_refl _) o2)
  rw [h1] at ht
  have hb := ((hu.alloc hu.size o).alloc (by have := hu.size; rw [h1]; omega) (Obj.cells #[.string x, .string y] 9))
  exact ⟨((hs.alloc o).alloc _).alloc _, ht, hb.alloc hb.size _⟩
theorem low {W W' : World} {B n : Nat} (h : SmallAt W B) (hb : Below n W W') (hn : B + 11 ≤ n) : SmallAt W' B :=
  ⟨(hb.block _ (by omega)).trans h.row, (hb.block _ (by omega)).trans h.main, (hb.block _ (by omega)).trans h.k1, (hb.block _ (by omega)).trans h.k2,
    ⟨(hb.block _ (by omega)).trans h.adds.body, (hb.block _ (by omega)).trans h.adds.k1, (hb.block _ (by omega)).trans h.adds.k2, (hb.block _ (by omega)).trans h.adds.k3⟩⟩
structure Ap (w : World) (B : Nat) (W : World) : Prop where
  small : SmallAt W B
  below : Below w.heap.size w W
  size : W.heap.size = B + 11 + 1 + 1 + 1
  own : W.ownsRow w.heap.size 9 1 (.slice (some ⟨B + 11 + 1, 0, none⟩) 2 2) ([[49], [50]] : List (List UInt8)).length (([[49], [50]] : List (List UInt8)).map Lx.S)
  box : W.cell? ⟨B + 11, 0, none⟩ = some (.slice (some ⟨B + 10, 0, none⟩) 2 2)
  more : W.ownsRow w.heap.size 9 1 (.slice (some ⟨B + 11 + 1 + 1, 0, none⟩) 1 1) ([[51]] : List (List UInt8)).length (([[51]] : List (List UInt8)).map Lx.S)
theorem ap_at {w u0 : World} {B : Nat} (hs : SmallAt u0 B) (hu : Below w.heap.size w u0) (hz : u0.heap.size = B + 11) (o : Obj) (eo : o = Obj.cells #[.slice (some ⟨B + 10, 0, none⟩) 2 2] 25) :
    Ap w B (((u0.alloc o).alloc (Obj.cells #[.string ⟨#[49]⟩, .string ⟨#[50]⟩] 9)).alloc (Obj.cells #[.string ⟨#[51]⟩] 9)) := by
  have h1 : (u0.alloc o).heap.size = B + 11 + 1 := by simp [hz]
  have h2 : ((u0.alloc o).alloc (Obj.cells #[.string ⟨#[49]⟩, .string ⟨#[50]⟩] 9)).heap.size = B + 11 + 1 + 1 := by simp [hz]
  have hsz := hu.size
  have hb := ((hu.alloc hu.size o).alloc (by rw [h1]; omega) (Obj.cells #[.string ⟨#[49]⟩, .string ⟨#[50]⟩] 9))
  have ho := (World.ownsRow_lit (base := w.heap.size) (e := 9) (size := 1) (u0.alloc o) #[.string ⟨#[49]⟩, .string ⟨#[50]⟩] 2 (by rw [h1]; omega) (by decide) rfl).alloc (Obj.cells #[.string ⟨#[51]⟩] 9)
  have hm := World.ownsRow_lit (base := w.heap.size) (e := 9) (size := 1) ((u0.alloc o).alloc (Obj.cells #[.string ⟨#[49]⟩, .string ⟨#[50]⟩] 9)) #[.string ⟨#[51]⟩] 1 (by rw [h2]; omega) (by decide) rfl
  rw [h1] at ho
  rw [h2] at hm
  have hx : (u0.alloc o).cell? ⟨B + 11, 0, none⟩ = some (.slice (some ⟨B + 10, 0, none⟩) 2 2) := by
    rw [← hz, eo, World.cell?_alloc_new]
    rfl
  have hy : Below (u0.alloc o).heap.size (u0.alloc o) (((u0.alloc o).alloc (Obj.cells #[.string ⟨#[49]⟩, .string ⟨#[50]⟩] 9)).alloc (Obj.cells #[.string ⟨#[51]⟩] 9)) := ((Below.refl _ _).alloc (Nat.le_refl _) _).alloc (by rw [h1, h2]; omega) _
  exact ⟨((hs.alloc o).alloc _).alloc _, hb.alloc hb.size _, by simp [hz], ho, (hy.cell (p := ⟨B + 11, 0, none⟩) (by rw [h1]; show B + 11 < _; omega)).trans hx, hm⟩
theorem own_txts {W : World} {base : Nat} {g : Addr} {n c : Nat} {x y z : List UInt8} (h : W.ownsRow base 9 1 (.slice (some g) n c) 3 ([x, y, z].map Lx.S)) : Tm.Txts W (some g) [⟨x.toArray⟩, ⟨y.toArray⟩, ⟨z.toArray⟩] := by
  rcases h.2 with ⟨e, _⟩ | ⟨b, cap, cur, e, hb, hh, _⟩
  · cases e
  · cases e
    refine Or.inr ⟨b, 0, rfl, (Array.getElem?_eq_some_iff.1 hh).1, fun j u hj => ?_⟩
    have hc := h.cells (g := b) rfl j (.string u) (by
      match j, hj with
      | 0, hj => cases hj; rfl
      | 1, hj => cases hj; rfl
      | 2, hj => cases hj; rfl
      | j + 3, hj => simp at hj)
    rw [Lib.add_plain] at hc
    simpa using hc
structure Aq (w : World) (B : Nat) (v : Value) (W : World) : Prop where
  small : SmallAt W B
  below : Below w.heap.size w W
  box : W.cell? ⟨B + 11, 0, none⟩ = some (.slice (some ⟨B + 10, 0, none⟩) 2 2)
  txts : ∃ g c, v = .slice (some g) 3 c ∧ Tm.Txts W (some g) [⟨#[49]⟩, ⟨#[50]⟩, ⟨#[51]⟩]
theorem ap_next {w W W' : World} {B : Nat} {v : Value} (h : Ap w B W) (hB : w.heap.size ≤ B) (ho : W'.ownsRow w.heap.size 9 1 v 3 (([[49], [50], [51]] : List (List UInt8)).map Lx.S)) (hg : W.grownBy W' (Value.slice (some ⟨B + 11 + 1, 0, none⟩) 2 2).ownBlock) : Aq w B v W' := by
  have hb : Below (B + 11 + 1) W W' := (Below.refl _ _).grown hg (by rw [h.size]; omega) (fun k e => by cases e; exact Nat.le_refl _)
  refine ⟨low h.small hb (by omega), h.below.grown hg h.below.size (fun k e => by cases e; show _ ≤ B + 11 + 1; omega), (hb.cell (p := ⟨B + 11, 0, none⟩) (show B + 11 < _ by omega)).trans h.box, ?_⟩
  have hv : ∃ g c, v = .slice (some g) 3 c := by
    rcases ho.2 with ⟨_, e⟩ | ⟨b, cap, cur, e, _⟩
    · cases e
    · exact ⟨_, _, e⟩
  obtain ⟨g, c, rfl⟩ := hv
  exact ⟨g, c, rfl, own_txts ho⟩
theorem no_b : askB smallB 1 (Tm.lst [⟨#[49]⟩, ⟨#[50]⟩]) 50 = false := by decide +kernel
theorem no_3 : askB smallL 1 (Tm.lst [⟨#[50]⟩]) 50 = false := by decide +kernel
theorem no_4 : askB smallL 1 (Tm.lst [⟨#[49]⟩, ⟨#[50]⟩, ⟨#[51]⟩]) 50 = false := by decide +kernel
theorem no_500 : askB smallL 1 (Tm.lst [⟨#[]⟩, ⟨#[50]⟩]) 50 = false := by decide +kernel
theorem no_501 : askB smallL 1 (Tm.lst [⟨#[48, 49]⟩, ⟨#[50]⟩]) 50 = false := by decide +kernel
theorem no_502 : askB smallL 1 (Tm.lst [⟨#[64, 49, 40]⟩, ⟨#[50]⟩]) 50 = false := by decide +kernel
theorem no_503 : askB smallL 1 (Tm.lst [⟨#[120]⟩, ⟨#[50]⟩]) 50 = false := by decide +kernel
theorem no_510 : askB smallL 1 (Tm.lst [⟨#[49]⟩, ⟨#[]⟩]) 50 = false := by decide +kernel
theorem no_511 : askB smallL 1 (Tm.lst [⟨#[49]⟩, ⟨#[48, 49]⟩]) 50 = false := by decide +kernel
theorem no_512 : askB smallL 1 (Tm.lst [⟨#[49]⟩, ⟨#[64, 49, 40]⟩]) 50 = false := by decide +kernel
theorem no_513 : askB smallL 1 (Tm.lst [⟨#[49]⟩, ⟨#[120]⟩]) 50 = false := by decide +kernel

set_option maxHeartbeats 4000000 in
set_option maxRecDepth 100000 in
theorem way_1 (a0 a1 : Int) (dm : Nat) (w : World) (hm : (IntKind.u64.wrap a0).tmod 8 = 1) (hdm : bits .and .i64 a1 1023 = (dm : Int)) (hd1 : (dm : Int) ≤ 1023) (hd0 : 0 ≤ (dm : Int)) (hw : Tm.Lw w) :
    Calls Tryd.prog 7 #[.int .i64 a0, .int .i64 a1] w fun e w' => e = .returned (.bool true) ∧ Below w.heap.size w w' := by
  have HW := hid hw
  have hcall := awake9 w hw
  clear hw
  go_enter Tryd.func7, Tryd.ntmps7
  go_wp2_with fail
  refine hcall.mono ?_
  clear hcall
  rintro e w1 ⟨rfl, hb1⟩
  have HB1 := hid hb1
  clear hb1
  go_wp2_with fail
  refine (small_any _).mono ?_
  rintro e u0 ⟨rfl, hs0, hb0, hz0⟩
  have HS := hid hs0
  have HU : Hid (Below w.heap.size w u0) := HB1.out.trans (hb0.mono HB1.out.size)
  obtain ⟨B, hB⟩ : ∃ B, w1.heap.size = B := ⟨_, rfl⟩
  rw [hB] at HS hz0
  simp only [hB]
  clear hs0 hb0
  go_wp2_with fail
  refine grabK (Ab w B) (ab_at HS.out HU.out hz0 _) (fun W hW => ?_)
  have HX : Hid (Below w.heap.size w W) := hW.below
  refine (head_small B (-(1 + (dm : Int))) (some ⟨B + 11 + 1, 0, none⟩) 2 2 [⟨#[49]⟩, ⟨#[50]⟩] (50) _ _ W hW.small rfl hW.txts (by decide) (by decide) (Tm.Lw.on HW.out HX.out) (no_ask (no_neg _ _ _ _ (by omega))).1 (no_ask (no_neg _ _ _ _ (by omega))).2).mono ?_
  clear hW
  rintro e v0 ⟨rfl, hv0⟩
  have HV : Hid (Below w.heap.size w v0) := HX.out.trans (hv0.mono HX.out.size)
  clear hv0
  go_wp2_with (first | (go_at_call 11; refine (Lx.num_any _ _).mono ?_; rintro e w5 ⟨rfl, rfl⟩))
  go_ret
  exact ⟨rfl, HV.out⟩

set_option maxHeartbeats 4000000 in
set_option maxRecDepth 100000 in
theorem way_2 (a0 a1 : Int) (dm : Nat) (w : World) (hm : (IntKind.u64.wrap a0).tmod 8 = 2) (hdm : bits .and .i64 a1 1023 = (dm : Int)) (hd1 : (dm : Int) ≤ 1023) (hd0 : 0 ≤ (dm : Int)) (hw : Tm.Lw w) :
    Calls Tryd.prog 7 #[.int .i64 a0, .int .i64 a1] w fun e w' => e = .returned (.bool true) ∧ Below w.heap.size w w' := by
  have HW := hid hw
  have hcall := awake9 w hw
  clear hw
  go_enter Tryd.func7, Tryd.ntmps7
  go_wp2_with fail
  refine hcall.mono ?_
  clear hcall
  rintro e w1 ⟨rfl, hb1⟩
  have HB1 := hid hb1
  clear hb1
  go_wp2_with fail
  refine (small_any _).mono ?_
  rintro e u0 ⟨rfl, hs0, hb0, hz0⟩
  have HS := hid hs0
  have HU : Hid (Below w.heap.size w u0) := HB1.out.trans (hb0.mono HB1.out.size)
  obtain ⟨B, hB⟩ : ∃ B, w1.heap.size = B := ⟨_, rfl⟩
  rw [hB] at HS hz0
  simp only [hB]
  clear hs0 hb0
  go_wp2_with fail
  refine grabK (Ab w B) (ab_at HS.out HU.out hz0 _) (fun W hW => ?_)
  have HX : Hid (Below w.heap.size w W) := hW.below
  refine (head_small B (1 + (1 + (dm : Int))) (some ⟨B + 11 + 1, 0, none⟩) 2 2 [⟨#[49]⟩, ⟨#[50]⟩] (50) _ _ W hW.small rfl hW.txts (by decide) (by decide) (Tm.Lw.on HW.out HX.out) (no_ask (no_def _ _ _ (by omega))).1 (no_ask (no_def _ _ _ (by omega))).2).mono ?_
  clear hW
  rintro e v0 ⟨rfl, hv0⟩
  have HV : Hid (Below w.heap.size w v0) := HX.out.trans (hv0.mono HX.out.size)
  clear hv0
  go_wp2_with (first | (go_at_call 11; refine (Lx.num_any _ _).mono ?_; rintro e w5 ⟨rfl, rfl⟩))
  go_ret
  exact ⟨rfl, HV.out⟩

set_option maxHeartbeats 4000000 in
set_option maxRecDepth 100000 in
theorem way_6 (a0 a1 : Int) (dm : Nat) (w : World) (hm : (IntKind.u64.wrap a0).tmod 8 = 6) (hdm : bits .and .i64 a1 1023 = (dm : Int)) (hd1 : (dm : Int) ≤ 1023) (hd0 : 0 ≤ (dm : Int)) (hw : Tm.Lw w) :
    Calls Tryd.prog 7 #[.int .i64 a0, .int .i64 a1] w fun e w' => e = .returned (.bool true) ∧ Below w.heap.size w w' := by
  have HW := hid hw
  have hcall := awake9 w hw
  clear hw
  go_enter Tryd.func7, Tryd.ntmps7
  go_wp2_with fail
  refine hcall.mono ?_
  clear hcall
  rintro e w1 ⟨rfl, hb1⟩
  have HB1 := hid hb1
  clear hb1
  go_wp2_with fail
  refine (small_any _).mono ?_
  rintro e u0 ⟨rfl, hs0, hb0, hz0⟩
  have HS := hid hs0
  have HU : Hid (Below w.heap.size w u0) := HB1.out.trans (hb0.mono HB1.out.size)
  obtain ⟨B, hB⟩ : ∃ B, w1.heap.size = B := ⟨_, rfl⟩
  rw [hB] at HS hz0
  simp only [hB]
  clear hs0 hb0
  go_wp2_with fail
  refine grabK (Ab w B) (ab_at HS.out HU.out hz0 _) (fun W hW => ?_)
  have HX : Hid (Below w.heap.size w W) := hW.below
  refine (head_small B (1) (some ⟨B + 11 + 1, 0, none⟩) 2 2 [⟨#[49]⟩, ⟨#[50]⟩] (-(1 + (dm : Int))) _ _ W hW.small rfl hW.txts (by decide) (by decide) (Tm.Lw.on HW.out HX.out) (no_ask (no_fuel _ _ _ _ (by omega))).1 (no_ask (no_fuel _ _ _ _ (by omega))).2).mono ?_
  clear hW
  rintro e v0 ⟨rfl, hv0⟩
  have HV : Hid (Below w.heap.size w v0) := HX.out.trans (hv0.mono HX.out.size)
  clear hv0
  go_wp2_with (first | (go_at_call 11; refine (Lx.num_any _ _).mono ?_; rintro e w5 ⟨rfl, rfl⟩))
  go_ret
  exact ⟨rfl, HV.out⟩

set_option maxHeartbeats 4000000 in
set_option maxRecDepth 100000 in
theorem way_7 (a0 a1 : Int) (dm : Nat) (w : World) (hm : (IntKind.u64.wrap a0).tmod 8 = 7) (hdm : bits .and .i64 a1 1023 = (dm : Int)) (hd1 : (dm : Int) ≤ 1023) (hd0 : 0 ≤ (dm : Int)) (hw : Tm.Lw w) :
    Calls Tryd.prog 7 #[.int .i64 a0, .int .i64 a1] w fun e w' => e = .returned (.bool true) ∧ Below w.heap.size w w' := by
  have HW := hid hw
  have hcall := awake9 w hw
  clear hw
  go_enter Tryd.func7, Tryd.ntmps7
  go_wp2_with fail
  refine hcall.mono ?_
  clear hcall
  rintro e w1 ⟨rfl, hb1⟩
  have HB1 := hid hb1
  clear hb1
  go_wp2_with fail
  refine (small_any _).mono ?_
  rintro e u0 ⟨rfl, hs0, hb0, hz0⟩
  have HS := hid hs0
  have HU : Hid (Below w.heap.size w u0) := HB1.out.trans (hb0.mono HB1.out.size)
  obtain ⟨B, hB⟩ : ∃ B, w1.heap.size = B := ⟨_, rfl⟩
  rw [hB] at HS hz0
  simp only [hB]
  clear hs0 hb0
  go_wp2_with fail
  refine grabK (Ab w B) (ab_at HS.out HU.out hz0 _) (fun W hW => ?_)
  have HX : Hid (Below w.heap.size w W) := hW.below
  refine (head_small B (1) (some ⟨B + 11 + 1, 0, none⟩) 2 2 [⟨#[49]⟩, ⟨#[50]⟩] (400 + (1 + (dm : Int))) _ _ W hW.small rfl hW.txts (by decide) (by decide) (Tm.Lw.on HW.out HX.out) (no_ask (no_fuel _ _ _ _ (by omega))).1 (no_ask (no_fuel _ _ _ _ (by omega))).2).mono ?_
  clear hW
  rintro e v0 ⟨rfl, hv0⟩
  have HV : Hid (Below w.heap.size w v0) := HX.out.trans (hv0.mono HX.out.size)
  clear hv0
  go_wp2_with (first | (go_at_call 11; refine (Lx.num_any _ _).mono ?_; rintro e w5 ⟨rfl, rfl⟩))
  go_ret
  exact ⟨rfl, HV.out⟩

set_option maxHeartbeats 4000000 in
set_option maxRecDepth 100000 in
theorem way_0 (a0 a1 : Int) (dm : Nat) (w : World) (hm : (IntKind.u64.wrap a0).tmod 8 = 0) (hdm : bits .and .i64 a1 1023 = (dm : Int)) (hd1 : (dm : Int) ≤ 1023) (hd0 : 0 ≤ (dm : Int)) (hw : Tm.Lw w) :
    Calls Tryd.prog 7 #[.int .i64 a0, .int .i64 a1] w fun e w' => e = .returned (.bool true) ∧ Below w.heap.size w w' := by
  have HW := hid hw
  have hcall := awake9 w hw
  clear hw
  go_enter Tryd.func7, Tryd.ntmps7
  go_wp2_with fail
  refine hcall.mono ?_
  clear hcall
  rintro e w1 ⟨rfl, hb1⟩
  have HB1 := hid hb1
  clear hb1
  go_wp2_with fail
  refine (small_any _).mono ?_
  rintro e u0 ⟨rfl, hs0, hb0, hz0⟩
  have HS := hid hs0
  have HU : Hid (Below w.heap.size w u0) := HB1.out.trans (hb0.mono HB1.out.size)
  obtain ⟨B, hB⟩ : ∃ B, w1.heap.size = B := ⟨_, rfl⟩
  rw [hB] at HS hz0
  simp only [hB]
  clear hs0 hb0
  have hc2 := HS.out.row.cell 2 (.int .i64 2) rfl
  have hf2 := HS.out.row.frozen 2
  have HBW : Hid (w.heap.size ≤ B) := by show _ ≤ _; rw [← hB]; exact HB1.out.size
  go_wp2_with fail
  refine grabK (fun W => Defs Exs W (some ⟨B + 10, 0, none⟩) smallB ∧ Tm.Txts W (some ⟨B + 11 + 1, 0, none⟩) [⟨#[49]⟩, ⟨#[50]⟩] ∧ Below w.heap.size w W) (ab0_at HS.out HU.out hz0 HBW.out _) (fun W hW => ?_)
  have HX : Hid (Below w.heap.size w W) := hW.2.2
  refine (head_any (some ⟨B + 10, 0, none⟩) 2 smallB 1 (some ⟨B + 11 + 1, 0, none⟩) 2 [⟨#[49]⟩, ⟨#[50]⟩] 50 W hW.1 hW.2.1 (by decide) (Tm.Lw.on HW.out HX.out) (by decide)).mono ?_
  clear hW
  rw [(no_ask no_b).1, (no_ask no_b).2]
  rintro e v0 ⟨rfl, hv0⟩
  have HV : Hid (Below w.heap.size w v0) := HX.out.trans (hv0.mono HX.out.size)
  clear hv0
  go_wp2_with (first | (go_at_call 11; refine (Lx.num_any _ _).mono ?_; rintro e w5 ⟨rfl, rfl⟩))
  go_ret
  exact ⟨rfl, HV.out⟩

set_option maxHeartbeats 4000000 in
set_option maxRecDepth 100000 in
theorem way_3 (a0 a1 : Int) (dm : Nat) (w : World) (hm : (IntKind.u64.wrap a0).tmod 8 = 3) (hdm : bits .and .i64 a1 1023 = (dm : Int)) (hd1 : (dm : Int) ≤ 1023) (hd0 : 0 ≤ (dm : Int)) (hw : Tm.Lw w) :
    Calls Tryd.prog 7 #[.int .i64 a0, .int .i64 a1] w fun e w' => e = .returned (.bool true) ∧ Below w.heap.size w w' := by
  have HW := hid hw
  have hcall := awake9 w hw
  clear hw
  go_enter Tryd.func7, Tryd.ntmps7
  go_wp2_with fail
  refine hcall.mono ?_
  clear hcall
  rintro e w1 ⟨rfl, hb1⟩
  have HB1 := hid hb1
  clear hb1
  go_wp2_with fail
  refine (small_any _).mono ?_
  rintro e u0 ⟨rfl, hs0, hb0, hz0⟩
  have HS := hid hs0
  have HU : Hid (Below w.heap.size w u0) := HB1.out.trans (hb0.mono HB1.out.size)
  obtain ⟨B, hB⟩ : ∃ B, w1.heap.size = B := ⟨_, rfl⟩
  rw [hB] at HS hz0
  simp only [hB]
  clear hs0 hb0
  go_wp2_with fail
  refine grabK (Ab w B) (ab_at HS.out HU.out hz0 _) (fun W hW => ?_)
  have HX : Hid (Below w.heap.size w W) := hW.below
  refine (head_small B 1 (some ⟨B + 11 + 1, 1, none⟩) 1 1 [⟨#[50]⟩] 50 _ _ W hW.small rfl (txts_tail hW.txts) (by decide) (by decide) (Tm.Lw.on HW.out HX.out) (no_ask no_3).1 (no_ask no_3).2).mono ?_
  clear hW
  rintro e v0 ⟨rfl, hv0⟩
  have HV : Hid (Below w.heap.size w v0) := HX.out.trans (hv0.mono HX.out.size)
  clear hv0
  go_wp2_with (first | (go_at_call 11; refine (Lx.num_any _ _).mono ?_; rintro e w5 ⟨rfl, rfl⟩))
  go_ret
  exact ⟨rfl, HV.out⟩

set_option maxHeartbeats 4000000 in
set_option maxRecDepth 100000 in
theorem way_4 (a0 a1 : Int) (dm : Nat) (w : World) (hm : (IntKind.u64.wrap a0).tmod 8 = 4) (hdm : bits .and .i64 a1 1023 = (dm : Int)) (hd1 : (dm : Int) ≤ 1023) (hd0 : 0 ≤ (dm : Int)) (hw : Tm.Lw w) :
    Calls Tryd.prog 7 #[.int .i64 a0, .int .i64 a1] w fun e w' => e = .returned (.bool true) ∧ Below w.heap.size w w' := by
  have HW := hid hw
  have hcall := awake9 w hw
  clear hw
  go_enter Tryd.func7, Tryd.ntmps7
  go_wp2_with fail
  refine hcall.mono ?_
  clear hcall
  rintro e w1 ⟨rfl, hb1⟩
  have HB1 := hid hb1
  clear hb1
  go_wp2_with fail
  refine (small_any _).mono ?_
  rintro e u0 ⟨rfl, hs0, hb0, hz0⟩
  have HS := hid hs0
  have HU : Hid (Below w.heap.size w u0) := HB1.out.trans (hb0.mono HB1.out.size)
  obtain ⟨B, hB⟩ : ∃ B, w1.heap.size = B := ⟨_, rfl⟩
  rw [hB] at HS hz0
  simp only [hB]
  clear hs0 hb0
  have HBW : Hid (w.heap.size ≤ B) := by show _ ≤ _; rw [← hB]; exact HB1.out.size
  have HA := hid (ap_at HS.out HU.out hz0 (Obj.cells #[.slice (some ⟨B + 10, 0, none⟩) 2 2] 25) rfl)
  go_wp2_with (at_builtin; refine Lx.app_two rfl _ _ rfl w.heap.size w.heap.size (.slice (some ⟨B + 11 + 1, 0, none⟩) 2 2) (.slice (some ⟨B + 11 + 1 + 1, 0, none⟩) 1 1) [[49], [50]] [[51]] rfl rfl HA.out.own HA.out.more HA.out.below.size (by decide) ?_; rintro v' W ho hg; have HQ := hid (ap_next HA.out HBW.out ho hg); have hbx := HQ.out.box; clear ho hg)
  have HX : Hid (Below w.heap.size w W) := HQ.out.below
  obtain ⟨g, c, rfl, HT⟩ := HQ.out.txts
  refine (head_small B 1 (some g) 3 c [⟨#[49]⟩, ⟨#[50]⟩, ⟨#[51]⟩] 50 _ _ W HQ.out.small rfl HT (by decide) (by decide) (Tm.Lw.on HW.out HX.out) (no_ask no_4).1 (no_ask no_4).2).mono ?_
  rintro e v0 ⟨rfl, hv0⟩
  have HV : Hid (Below w.heap.size w v0) := HX.out.trans (hv0.mono HX.out.size)
  clear hv0
  go_wp2_with (first | (go_at_call 11; refine (Lx.num_any _ _).mono ?_; rintro e w5 ⟨rfl, rfl⟩))
  go_ret
  exact ⟨rfl, HV.out⟩

set_option maxHeartbeats 4000000 in
set_option maxRecDepth 100000 in
theorem way_500 (a0 a1 : Int) (dm : Nat) (w : World) (hm : (IntKind.u64.wrap a0).tmod 8 = 5) (hdm : bits .and .i64 a1 1023 = (dm : Int)) (hd1 : (dm : Int) ≤ 1023) (hd0 : 0 ≤ (dm : Int)) (hb : bits .and .i64 a1 1 = 0) (hc : bits .and .i64 (a1 / 2) 3 = 0) (hw : Tm.Lw w) :
    Calls Tryd.prog 7 #[.int .i64 a0, .int .i64 a1] w fun e w' => e = .returned (.bool true) ∧ Below w.heap.size w w' := by
  have HW := hid hw
  have hcall := awake9 w hw
  clear hw
  go_enter Tryd.func7, Tryd.ntmps7
  go_wp2_with fail
  refine hcall.mono ?_
  clear hcall
  rintro e w1 ⟨rfl, hb1⟩
  have HB1 := hid hb1
  clear hb1
  go_wp2_with fail
  refine (small_any _).mono ?_
  rintro e u0 ⟨rfl, hs0, hb0, hz0⟩
  have HS := hid hs0
  have HU : Hid (Below w.heap.size w u0) := HB1.out.trans (hb0.mono HB1.out.size)
  obtain ⟨B, hB⟩ : ∃ B, w1.heap.size = B := ⟨_, rfl⟩
  rw [hB] at HS hz0
  simp only [hB]
  clear hs0 hb0
  go_wp2_with fail
  refine grabK (fun W => SmallAt W B ∧ Tm.Txts W (some ⟨B + 11 + 1, 0, none⟩) [⟨#[]⟩, ⟨#[50]⟩] ∧ Below w.heap.size w W) (ab5_at HS.out HU.out hz0 _ _ _ _) (fun W hW => ?_)
  have HX : Hid (Below w.heap.size w W) := hW.2.2
  refine (head_small B 1 (some ⟨B + 11 + 1, 0, none⟩) 2 2 [⟨#[]⟩, ⟨#[50]⟩] 50 _ _ W hW.1 rfl hW.2.1 (by decide) (by decide) (Tm.Lw.on HW.out HX.out) (no_ask no_500).1 (no_ask no_500).2).mono ?_
  clear hW
  rintro e v0 ⟨rfl, hv0⟩
  have HV : Hid (Below w.heap.size w v0) := HX.out.trans (hv0.mono HX.out.size)
  clear hv0
  go_wp2_with (first | (go_at_call 11; refine (Lx.num_any _ _).mono ?_; rintro e w5 ⟨rfl, rfl⟩))
  go_ret
  exact ⟨rfl, HV.out⟩

set_option maxHeartbeats 4000000 in
set_option maxRecDepth 100000 in
theorem way_501 (a0 a1 : Int) (dm : Nat) (w : World) (hm : (IntKind.u64.wrap a0).tmod 8 = 5) (hdm : bits .and .i64 a1 1023 = (dm : Int)) (hd1 : (dm : Int) ≤ 1023) (hd0 : 0 ≤ (dm : Int)) (hb : bits .and .i64 a1 1 = 0) (hc : bits .and .i64 (a1 / 2) 3 = 1) (hw : Tm.Lw w) :
    Calls Tryd.prog 7 #[.int .i64 a0, .int .i64 a1] w fun e w' => e = .returned (.bool true) ∧ Below w.heap.size w w' := by
  have HW := hid hw
  have hcall := awake9 w hw
  clear hw
  go_enter Tryd.func7, Tryd.ntmps7
  go_wp2_with fail
  refine hcall.mono ?_
  clear hcall
  rintro e w1 ⟨rfl, hb1⟩
  have HB1 := hid hb1
  clear hb1
  go_wp2_with fail
  refine (small_any _).mono ?_
  rintro e u0 ⟨rfl, hs0, hb0, hz0⟩
  have HS := hid hs0
  have HU : Hid (Below w.heap.size w u0) := HB1.out.trans (hb0.mono HB1.out.size)
  obtain ⟨B, hB⟩ : ∃ B, w1.heap.size = B := ⟨_, rfl⟩
  rw [hB] at HS hz0
  simp only [hB]
  clear hs0 hb0
  go_wp2_with fail
  refine grabK (fun W => SmallAt W B ∧ Tm.Txts W (some ⟨B + 11 + 1, 0, none⟩) [⟨#[48, 49]⟩, ⟨#[50]⟩] ∧ Below w.heap.size w W) (ab5_at HS.out HU.out hz0 _ _ _ _) (fun W hW => ?_)
  have HX : Hid (Below w.heap.size w W) := hW.2.2
  refine (head_small B 1 (some ⟨B + 11 + 1, 0, none⟩) 2 2 [⟨#[48, 49]⟩, ⟨#[50]⟩] 50 _ _ W hW.1 rfl hW.2.1 (by decide) (by decide) (Tm.Lw.on HW.out HX.out) (no_ask no_501).1 (no_ask no_501).2).mono ?_
  clear hW
  rintro e v0 ⟨rfl, hv0⟩
  have HV : Hid (Below w.heap.size w v0) := HX.out.trans (hv0.mono HX.out.size)
  clear hv0
  go_wp2_with (first | (go_at_call 11; refine (Lx.num_any _ _).mono ?_; rintro e w5 ⟨rfl, rfl⟩))
  go_ret
  exact ⟨rfl, HV.out⟩

set_option maxHeartbeats 4000000 in
set_option maxRecDepth 100000 in
theorem way_502 (a0 a1 : Int) (dm : Nat) (w : World) (hm : (IntKind.u64.wrap a0).tmod 8 = 5) (hdm : bits .and .i64 a1 1023 = (dm : Int)) (hd1 : (dm : Int) ≤ 1023) (hd0 : 0 ≤ (dm : Int)) (hb : bits .and .i64 a1 1 = 0) (hc : bits .and .i64 (a1 / 2) 3 = 2) (hw : Tm.Lw w) :
    Calls Tryd.prog 7 #[.int .i64 a0, .int .i64 a1] w fun e w' => e = .returned (.bool true) ∧ Below w.heap.size w w' := by
  have HW := hid hw
  have hcall := awake9 w hw
  clear hw
  go_enter Tryd.func7, Tryd.ntmps7
  go_wp2_with fail
  refine hcall.mono ?_
  clear hcall
  rintro e w1 ⟨rfl, hb1⟩
  have HB1 := hid hb1
  clear hb1
  go_wp2_with fail
  refine (small_any _).mono ?_
  rintro e u0 ⟨rfl, hs0, hb0, hz0⟩
  have HS := hid hs0
  have HU : Hid (Below w.heap.size w u0) := HB1.out.trans (hb0.mono HB1.out.size)
  obtain ⟨B, hB⟩ : ∃ B, w1.heap.size = B := ⟨_, rfl⟩
  rw [hB] at HS hz0
  simp only [hB]
  clear hs0 hb0
  go_wp2_with fail
  refine grabK (fun W => SmallAt W B ∧ Tm.Txts W (some ⟨B + 11 + 1, 0, none⟩) [⟨#[64, 49, 40]⟩, ⟨#[50]⟩] ∧ Below w.heap.size w W) (ab5_at HS.out HU.out hz0 _ _ _ _) (fun W hW => ?_)
  have HX : Hid (Below w.heap.size w W) := hW.2.2
  refine (head_small B 1 (some ⟨B + 11 + 1, 0, none⟩) 2 2 [⟨#[64, 49, 40]⟩, ⟨#[50]⟩] 50 _ _ W hW.1 rfl hW.2.1 (by decide) (by decide) (Tm.Lw.on HW.out HX.out) (no_ask no_502).1 (no_ask no_502).2).mono ?_
  clear hW
  rintro e v0 ⟨rfl, hv0⟩
  have HV : Hid (Below w.heap.size w v0) := HX.out.trans (hv0.mono HX.out.size)
  clear hv0
  go_wp2_with (first | (go_at_call 11; refine (Lx.num_any _ _).mono ?_; rintro e w5 ⟨rfl, rfl⟩))
  go_ret
  exact ⟨rfl, HV.out⟩

set_option maxHeartbeats 4000000 in
set_option maxRecDepth 100000 in
theorem way_503 (a0 a1 : Int) (dm : Nat) (w : World) (hm : (IntKind.u64.wrap a0).tmod 8 = 5) (hdm : bits .and .i64 a1 1023 = (dm : Int)) (hd1 : (dm : Int) ≤ 1023) (hd0 : 0 ≤ (dm : Int)) (hb : bits .and .i64 a1 1 = 0) (hc : bits .and .i64 (a1 / 2) 3 = 3) (hw : Tm.Lw w) :
    Calls Tryd.prog 7 #[.int .i64 a0, .int .i64 a1] w fun e w' => e = .returned (.bool true) ∧ Below w.heap.size w w' := by
  have HW := hid hw
  have hcall := awake9 w hw
  clear hw
  go_enter Tryd.func7, Tryd.ntmps7
  go_wp2_with fail
  refine hcall.mono ?_
  clear hcall
  rintro e w1 ⟨rfl, hb1⟩
  have HB1 := hid hb1
  clear hb1
  go_wp2_with fail
  refine (small_any _).mono ?_
  rintro e u0 ⟨rfl, hs0, hb0, hz0⟩
  have HS := hid hs0
  have HU : Hid (Below w.heap.size w u0) := HB1.out.trans (hb0.mono HB1.out.size)
  obtain ⟨B, hB⟩ : ∃ B, w1.heap.size = B := ⟨_, rfl⟩
  rw [hB] at HS hz0
  simp only [hB]
  clear hs0 hb0
  go_wp2_with fail
  refine grabK (fun W => SmallAt W B ∧ Tm.Txts W (some ⟨B + 11 + 1, 0, none⟩) [⟨#[120]⟩, ⟨#[50]⟩] ∧ Below w.heap.size w W) (ab5_at HS.out HU.out hz0 _ _ _ _) (fun W hW => ?_)
  have HX : Hid (Below w.heap.size w W) := hW.2.2
  refine (head_small B 1 (some ⟨B + 11 + 1, 0, none⟩) 2 2 [⟨#[120]⟩, ⟨#[50]⟩] 50 _ _ W hW.1 rfl hW.2.1 (by decide) (by decide) (Tm.Lw.on HW.out HX.out) (no_ask no_503).1 (no_ask no_503).2).mono ?_
  clear hW
  rintro e v0 ⟨rfl, hv0⟩
  have HV : Hid (Below w.heap.size w v0) := HX.out.trans (hv0.mono HX.out.size)
  clear hv0
  go_wp2_with (first | (go_at_call 11; refine (Lx.num_any _ _).mono ?_; rintro e w5 ⟨rfl, rfl⟩))
  go_ret
  exact ⟨rfl, HV.out⟩

set_option maxHeartbeats 4000000 in
set_option maxRecDepth 100000 in
theorem way_510 (a0 a1 : Int) (dm : Nat) (w : World) (hm : (IntKind.u64.wrap a0).tmod 8 = 5) (hdm : bits .and .i64 a1 1023 = (dm : Int)) (hd1 : (dm : Int) ≤ 1023) (hd0 : 0 ≤ (dm : Int)) (hb : bits .and .i64 a1 1 = 1) (hc : bits .and .i64 (a1 / 2) 3 = 0) (hw : Tm.Lw w) :
    Calls Tryd.prog 7 #[.int .i64 a0, .int .i64 a1] w fun e w' => e = .returned (.bool true) ∧ Below w.heap.size w w' := by
  have HW := hid hw
  have hcall := awake9 w hw
  clear hw
  go_enter Tryd.func7, Tryd.ntmps7
  go_wp2_with fail
  refine hcall.mono ?_
  clear hcall
  rintro e w1 ⟨rfl, hb1⟩
  have HB1 := hid hb1
  clear hb1
  go_wp2_with fail
  refine (small_any _).mono ?_
  rintro e u0 ⟨rfl, hs0, hb0, hz0⟩
  have HS := hid hs0
  have HU : Hid (Below w.heap.size w u0) := HB1.out.trans (hb0.mono HB1.out.size)
  obtain ⟨B, hB⟩ : ∃ B, w1.heap.size = B := ⟨_, rfl⟩
  rw [hB] at HS hz0
  simp only [hB]
  clear hs0 hb0
  go_wp2_with fail
  refine grabK (fun W => SmallAt W B ∧ Tm.Txts W (some ⟨B + 11 + 1, 0, none⟩) [⟨#[49]⟩, ⟨#[]⟩] ∧ Below w.heap.size w W) (ab5_at HS.out HU.out hz0 _ _ _ _) (fun W hW => ?_)
  have HX : Hid (Below w.heap.size w W) := hW.2.2
  refine (head_small B 1 (some ⟨B + 11 + 1, 0, none⟩) 2 2 [⟨#[49]⟩, ⟨#[]⟩] 50 _ _ W hW.1 rfl hW.2.1 (by decide) (by decide) (Tm.Lw.on HW.out HX.out) (no_ask no_510).1 (no_ask no_510).2).mono ?_
  clear hW
  rintro e v0 ⟨rfl, hv0⟩
  have HV : Hid (Below w.heap.size w v0) := HX.out.trans (hv0.mono HX.out.size)
  clear hv0
  go_wp2_with (first | (go_at_call 11; refine (Lx.num_any _ _).mono ?_; rintro e w5 ⟨rfl, rfl⟩))
  go_ret
  exact ⟨rfl, HV.out⟩

set_option maxHeartbeats 4000000 in
set_option maxRecDepth 100000 in
theorem way_511 (a0 a1 : Int) (dm : Nat) (w : World) (hm : (IntKind.u64.wrap a0).tmod 8 = 5) (hdm : bits .and .i64 a1 1023 = (dm : Int)) (hd1 : (dm : Int) ≤ 1023) (hd0 : 0 ≤ (dm : Int)) (hb : bits .and .i64 a1 1 = 1) (hc : bits .and .i64 (a1 / 2) 3 = 1) (hw : Tm.Lw w) :
    Calls Tryd.prog 7 #[.int .i64 a0, .int .i64 a1] w fun e w' => e = .returned (.bool true) ∧ Below w.heap.size w w' := by
  have HW := hid hw
  have hcall := awake9 w hw
  clear hw
  go_enter Tryd.func7, Tryd.ntmps7
  go_wp2_with fail
  refine hcall.mono ?_
  clear hcall
  rintro e w1 ⟨rfl, hb1⟩
  have HB1 := hid hb1
  clear hb1
  go_wp2_with fail
  refine (small_any _).mono ?_
  rintro e u0 ⟨rfl, hs0, hb0, hz0⟩
  have HS := hid hs0
  have HU : Hid (Below w.heap.size w u0) := HB1.out.trans (hb0.mono HB1.out.size)
  obtain ⟨B, hB⟩ : ∃ B, w1.heap.size = B := ⟨_, rfl⟩
  rw [hB] at HS hz0
  simp only [hB]
  clear hs0 hb0
  go_wp2_with fail
  refine grabK (fun W => SmallAt W B ∧ Tm.Txts W (some ⟨B + 11 + 1, 0, none⟩) [⟨#[49]⟩, ⟨#[48, 49]⟩] ∧ Below w.heap.size w W) (ab5_at HS.out HU.out hz0 _ _ _ _) (fun W hW => ?_)
  have HX : Hid (Below w.heap.size w W) := hW.2.2
  refine (head_small B 1 (some ⟨B + 11 + 1, 0, none⟩) 2 2 [⟨#[49]⟩, ⟨#[48, 49]⟩] 50 _ _ W hW.1 rfl hW.2.1 (by decide) (by decide) (Tm.Lw.on HW.out HX.out) (no_ask no_511).1 (no_ask no_511).2).mono ?_
  clear hW
  rintro e v0 ⟨rfl, hv0⟩
  have HV : Hid (Below w.heap.size w v0) := HX.out.trans (hv0.mono HX.out.size)
  clear hv0
  go_wp2_with (first | (go_at_call 11; refine (Lx.num_any _ _).mono ?_; rintro e w5 ⟨rfl, rfl⟩))
  go_ret
  exact ⟨rfl, HV.out⟩

set_option maxHeartbeats 4000000 in
set_option maxRecDepth 100000 in
theorem way_512 (a0 a1 : Int) (dm : Nat) (w : World) (hm : (IntKind.u64.wrap a0).tmod 8 = 5) (hdm : bits .and .i64 a1 1023 = (dm : Int)) (hd1 : (dm : Int) ≤ 1023) (hd0 : 0 ≤ (dm : Int)) (hb : bits .and .i64 a1 1 = 1) (hc : bits .and .i64 (a1 / 2) 3 = 2) (hw : Tm.Lw w) :
    Calls Tryd.prog 7 #[.int .i64 a0, .int .i64 a1] w fun e w' => e = .returned (.bool true) ∧ Below w.heap.size w w' := by
  have HW := hid hw
  have hcall := awake9 w hw
  clear hw
  go_enter Tryd.func7, Tryd.ntmps7
  go_wp2_with fail
  refine hcall.mono ?_
  clear hcall
  rintro e w1 ⟨rfl, hb1⟩
  have HB1 := hid hb1
  clear hb1
  go_wp2_with fail
  refine (small_any _).mono ?_
  rintro e u0 ⟨rfl, hs0, hb0, hz0⟩
  have HS := hid hs0
  have HU : Hid (Below w.heap.size w u0) := HB1.out.trans (hb0.mono HB1.out.size)
  obtain ⟨B, hB⟩ : ∃ B, w1.heap.size = B := ⟨_, rfl⟩
  rw [hB] at HS hz0
  simp only [hB]
  clear hs0 hb0
  go_wp2_with fail
  refine grabK (fun W => SmallAt W B ∧ Tm.Txts W (some ⟨B + 11 + 1, 0, none⟩) [⟨#[49]⟩, ⟨#[64, 49, 40]⟩] ∧ Below w.heap.size w W) (ab5_at HS.out HU.out hz0 _ _ _ _) (fun W hW => ?_)
  have HX : Hid (Below w.heap.size w W) := hW.2.2
  refine (head_small B 1 (some ⟨B + 11 + 1, 0, none⟩) 2 2 [⟨#[49]⟩, ⟨#[64, 49, 40]⟩] 50 _ _ W hW.1 rfl hW.2.1 (by decide) (by decide) (Tm.Lw.on HW.out HX.out) (no_ask no_512).1 (no_ask no_512).2).mono ?_
  clear hW
  rintro e v0 ⟨rfl, hv0⟩
  have HV : Hid (Below w.heap.size w v0) := HX.out.trans (hv0.mono HX.out.size)
  clear hv0
  go_wp2_with (first | (go_at_call 11; refine (Lx.num_any _ _).mono ?_; rintro e w5 ⟨rfl, rfl⟩))
  go_ret
  exact ⟨rfl, HV.out⟩

set_option maxHeartbeats 4000000 in
set_option maxRecDepth 100000 in
theorem way_513 (a0 a1 : Int) (dm : Nat) (w : World) (hm : (IntKind.u64.wrap a0).tmod 8 = 5) (hdm : bits .and .i64 a1 1023 = (dm : Int)) (hd1 : (dm : Int) ≤ 1023) (hd0 : 0 ≤ (dm : Int)) (hb : bits .and .i64 a1 1 = 1) (hc : bits .and .i64 (a1 / 2) 3 = 3) (hw : Tm.Lw w) :
    Calls Tryd.prog 7 #[.int .i64 a0, .int .i64 a1] w fun e w' => e = .returned (.bool true) ∧ Below w.heap.size w w' := by
  have HW := hid hw
  have hcall := awake9 w hw
  clear hw
  go_enter Tryd.func7, Tryd.ntmps7
  go_wp2_with fail
  refine hcall.mono ?_
  clear hcall
  rintro e w1 ⟨rfl, hb1⟩
  have HB1 := hid hb1
  clear hb1
  go_wp2_with fail
  refine (small_any _).mono ?_
  rintro e u0 ⟨rfl, hs0, hb0, hz0⟩
  have HS := hid hs0
  have HU : Hid (Below w.heap.size w u0) := HB1.out.trans (hb0.mono HB1.out.size)
  obtain ⟨B, hB⟩ : ∃ B, w1.heap.size = B := ⟨_, rfl⟩
  rw [hB] at HS hz0
  simp only [hB]
  clear hs0 hb0
  go_wp2_with fail
  refine grabK (fun W => SmallAt W B ∧ Tm.Txts W (some ⟨B + 11 + 1, 0, none⟩) [⟨#[49]⟩, ⟨#[120]⟩] ∧ Below w.heap.size w W) (ab5_at HS.out HU.out hz0 _ _ _ _) (fun W hW => ?_)
  have HX : Hid (Below w.heap.size w W) := hW.2.2
  refine (head_small B 1 (some ⟨B + 11 + 1, 0, none⟩) 2 2 [⟨#[49]⟩, ⟨#[120]⟩] 50 _ _ W hW.1 rfl hW.2.1 (by decide) (by decide) (Tm.Lw.on HW.out HX.out) (no_ask no_513).1 (no_ask no_513).2).mono ?_
  clear hW
  rintro e v0 ⟨rfl, hv0⟩
  have HV : Hid (Below w.heap.size w v0) := HX.out.trans (hv0.mono HX.out.size)
  clear hv0
  go_wp2_with (first | (go_at_call 11; refine (Lx.num_any _ _).mono ?_; rintro e w5 ⟨rfl, rfl⟩))
  go_ret
  exact ⟨rfl, HV.out⟩
end Go.Proofs.YtmcdpnikkmedkaaDoor.nameForms
