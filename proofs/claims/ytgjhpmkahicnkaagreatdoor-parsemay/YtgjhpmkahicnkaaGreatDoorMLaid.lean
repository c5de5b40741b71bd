/- What every program answers that is one: awake returns true. · What the rows' list of package-level variables gives the walks; a start that meets it; what the cards ask of the program. -/
import Derived.Test.YtgjhpmkahicnkaaGreatDoorMReader
import Derived.Test.YtgjhpmkahicnkaaGreatDoorMCopy
import Derived.Test.YtgjhpmkahicnkaaGreatDoorCards
import Derived.Test.YtgjhpmkahicnkaaGreatDoorTie
import Derived.Deep.DeepHandedRow
import Derived.Deep.DeepWitnessRowRef
import Derived.LaidMore
import Derived.Stop.LaidErr
import Derived.MakeChecks
import Derived.Lib.LaidTab
import Derived.Lay
import Derived.OpenShut
import Derived.ProofKit

namespace Go.Proofs.YtgjhpmkahicnkaaGreatDoor
open Go.RowKit
set_option linter.unusedVariables false

/-- The source's bytes. -/
def srcL : List UInt8 := [40, 100, 101, 102, 32, 48, 32, 40, 102, 49, 32, 40, 64, 55, 32, 101, 114, 114, 111, 114, 32, 52, 41, 32, 53, 41, 41, 10, 40, 100, 101, 102, 32, 50, 32, 40, 99, 97, 115, 101, 32, 36, 48, 32, 64, 55, 32, 50, 32, 40, 43, 32, 36, 51, 32, 36, 49, 41, 32, 40, 43, 32, 36, 48, 32, 36, 49, 41, 41, 41, 10]
theorem pp_src : pp srcL = some smallL := by decide +kernel
set_option maxHeartbeats 400000 in
theorem source_any (w : World) : Calls Tryz.prog 10 #[] w fun e w' => e = .returned (.string ⟨srcL.toArray⟩) ∧ w = w' := by
  go_enter Tryz.func10, Tryz.ntmps10
  go_wp2
  go_ret
  exact ⟨rfl, rfl⟩
/-- What may be is small. -/
theorem pm_small {ds : List Df} (h : pmay ds = true) : ds.length ≤ 8 ∧ ∀ d ∈ ds, d.body.length ≤ 24 ∧ ∀ x ∈ d.body, x.kids.length ≤ 3 := by
  unfold pmay at h
  simp only [Bool.and_eq_true, decide_eq_true_eq] at h
  obtain ⟨⟨⟨_, h1⟩, _⟩, h2⟩ := h
  refine ⟨h1, fun d hd => ?_⟩
  have h3 := List.all_eq_true.1 h2 d hd
  unfold dOk at h3
  rw [Bool.and_eq_true] at h3
  refine ⟨may_len h3.1, fun x hx => ?_⟩
  obtain ⟨t, ht⟩ := may_parts h3.1 x hx
  unfold Ex.ok okE at ht
  split at ht
  · simp at ht; simp [ht.2.2]
  split at ht
  · simp at ht; simp [ht.2.2]
  split at ht
  · simp at ht; omega
  split at ht
  · simp at ht; omega
  split at ht
  · simp at ht; omega
  split at ht
  · simp at ht; omega
  split at ht
  · simp at ht; omega
  split at ht
  · simp at ht; simp [ht.2.2]
  cases ht
theorem pp_pm {s : List UInt8} {ds : List Df} (h : pp s = some ds) : pmay ds = true := by
  unfold pp at h
  split at h
  · split at h
    · cases h
    · split at h
      · rename_i hp; cases h; exact hp
      · cases h
  · cases h
/-- Two that hold the same, of definitions that are being built and of others. -/
theorem same_may (ga gb : Option Addr) (ds : List Df) (ca cb : Nat) (w : World) (ha : Defs Exs w ga ds) (hb : Defs Exs w gb ds) (hp : pmay ds = true) :
    Calls Tryz.prog 9 #[.agg #[.slice ga ds.length ca], .agg #[.slice gb ds.length cb]] w fun e w' => e = .returned (.bool true) ∧ Below w.heap.size w w' := by
  obtain ⟨h1, h2⟩ := pm_small hp
  exact program_same ga gb ds ca cb w ha hb (by omega) (fun d hd => ⟨by have := (h2 d hd).1; omega, fun x hx => by have := (h2 d hd).2 x hx; omega⟩)
theorem Pd.defs' {W : World} {base : Nat} {g : Option Addr} {c : Nat} {qs : List Dt} {ds : List Df} (h : Pd W base (.slice g ds.length c) qs) (hq : qs.map (·.1) = ds) : Defs Exs W g ds := by
  have hl : ds.length = qs.length := by rw [← hq, List.length_map]
  rw [hl] at h
  have h := h.defs
  rwa [hq] at h

set_option maxHeartbeats 2000000 in
set_option maxRecDepth 100000 in
theorem awake_any (w : World) (hL : Lw w) : Calls Tryz.prog 4 #[] w fun e w' => e = .returned (.bool true) ∧ Below w.heap.size w w' := by
  obtain ⟨s1, hs1⟩ : ∃ s : ByteArray, s = ⟨srcL.toArray⟩ := ⟨_, rfl⟩
  have hc1 := parse_any s1 w hL
  rw [show pp s1.data.toList = some smallL by rw [hs1]; exact pp_src] at hc1
  have hc2 : ∀ W, Lw W → Calls Tryz.prog 5 #[.string ⟨#[40, 100, 101, 102, 32, 48, 32, 36, 48, 41]⟩] W fun e w' => e = .returned (.tuple #[pV none 0 0, .int .i64 700]) ∧ Below W.heap.size W w' := fun W h => by
    refine (parse_any ⟨#[40, 100, 101, 102, 32, 48, 32, 36, 48, 41]⟩ W h).mono ?_
    intro e w' hq
    rw [show pp (⟨#[40, 100, 101, 102, 32, 48, 32, 36, 48, 41]⟩ : ByteArray).data.toList = none from src_one] at hq
    exact ⟨hq.2, hq.1⟩
  have hc3 : ∀ W, Lw W → Calls Tryz.prog 5 #[.string ⟨#[]⟩] W fun e w' => e = .returned (.tuple #[pV none 0 0, .int .i64 700]) ∧ Below W.heap.size W w' := fun W h => by
    refine (parse_any ⟨#[]⟩ W h).mono ?_
    intro e w' hq
    rw [show pp (⟨#[]⟩ : ByteArray).data.toList = none from src_two] at hq
    exact ⟨hq.2, hq.1⟩
  go_enter Tryz.func4, Tryz.ntmps4
  go_wp2_with fail
  refine (source_any w).mono ?_
  rintro e w0 ⟨rfl, rfl⟩
  rw [← hs1]
  clear hs1
  go_wp2_with fail
  refine hc1.mono ?_
  clear hc1
  rintro e w1 ⟨hb1, g, c, qs, rfl, hq, hP⟩
  have HD1 : Hid (Defs Exs w1 g smallL) := hP.defs' hq
  have HB1 : Hid (Below w.heap.size w w1) := hb1
  have HL : Hid (Lw w) := hL
  clear hb1 hq hP hL
  go_wp2_with fail
  refine (hc2 _ (HL.out.on (HB1.out.alloc HB1.out.size _))).mono ?_
  clear hc2
  rintro e w2 ⟨rfl, hb2⟩
  have hX2 := (Bx1.new w1 (.slice g smallL.length c)).on hb2
  have HX2 : Hid (Bx1 w2 w1.heap.size (.slice g smallL.length c)) := hX2
  have HB2 : Hid (Below w.heap.size w w2) := below_next (HB1.out.alloc HB1.out.size _) hb2
  have HD2 : Hid (Defs Exs w2 g smallL) := (HD1.out.on ((Below.refl _ w1).alloc (Nat.le_refl _) _)).on hb2
  clear hX2 hb2 HD1 HB1
  go_wp2_with fail
  refine (hc3 _ (HL.out.on (HB2.out.alloc HB2.out.size _))).mono ?_
  clear hc3
  rintro e w3 ⟨rfl, hb3⟩
  have HX3 : Hid (Bx1 w3 w1.heap.size (.slice g smallL.length c)) := (HX2.out.alloc _).on hb3
  have HB3 : Hid (Below w.heap.size w w3) := below_next (HB2.out.alloc HB2.out.size _) hb3
  have HD3 : Hid (Defs Exs w3 g smallL) := (HD2.out.on ((Below.refl _ w2).alloc (Nat.le_refl _) _)).on hb3
  have x0 := HX3.out.c0
  have xl := HX3.out.lt
  clear hb3 HD2 HB2 HX2
  go_wp2_with fail
  obtain ⟨W, hW⟩ : ∃ W, w3.alloc (.cells #[.slice none 0 0] 25) = W := ⟨_, rfl⟩
  have HB : Hid (Below w.heap.size w W) := by rw [← hW]; exact HB3.out.alloc HB3.out.size _
  have HD : Hid (Defs Exs W g smallL) := by rw [← hW]; exact HD3.out.on ((Below.refl _ w3).alloc (Nat.le_refl _) _)
  have x1 : W.cell? ⟨w1.heap.size, 0, none⟩ = some (.slice g smallL.length c) := by rw [← hW]; exact (HX3.out.alloc _).c0
  rw [hW]
  clear hW x0 xl HB3 HD3 HX3
  go_region_with (first
    | (go_at_call 11; refine (small_any _).mono ?_; rintro e w5 ⟨rfl, a5, hb5, s5⟩; have hb6 : Below W.heap.size W w5 := ⟨hb5.os, hb5.tape, hb5.output, hb5.size, hb5.block⟩; have x5 := cell_nx x1 hb6; have HD5 : Hid (Defs Exs w5 g smallL ∧ Defs Exs w5 (some ⟨W.heap.size + 10, 0, none⟩) smallL ∧ Below w.heap.size w w5) := ⟨HD.out.on hb6, a5.defs, below_next HB.out hb6⟩; clear a5 hb5 s5 hb6)
    | (go_at_call 9; refine (same_may g (some ⟨W.heap.size + 10, 0, none⟩) smallL c 2 w5 HD5.out.1 HD5.out.2.1 pmay_small).mono ?_; rintro e w6 ⟨rfl, hb6⟩; have HB6 : Hid (Below w.heap.size w w6) := below_next HD5.out.2.2 hb6; clear hb6)
    | (go_at_call 6; refine (num_any _ _).mono ?_; rintro e w7 ⟨rfl, rfl⟩))
  all_goals
    go_wp2_with fail
    go_ret
    exact ⟨rfl, HB6.out⟩
end Go.Proofs.YtgjhpmkahicnkaaGreatDoor

namespace Go.Proofs.YtgjhpmkahicnkaaGreatDoor
open Go.RowKit
set_option linter.unusedVariables false

theorem own : ownKnob Tryz.prog.godebug = none := by kernel_rfl
theorem gTab : Tryz.prog.globalNamed "internal/strconv.uint64pow10" = some 5 := by kernel_rfl
theorem gTabType : (Tryz.prog.globals[5]?).map (·.type) = some 172 := by kernel_rfl
theorem gSyn : Tryz.prog.globalNamed "strconv.ErrSyntax" = some 3 := by kernel_rfl
theorem gSynType : (Tryz.prog.globals[3]?).map (·.type) = some 146 := by kernel_rfl
theorem gRan : Tryz.prog.globalNamed "strconv.ErrRange" = some 4 := by kernel_rfl
theorem gRanType : (Tryz.prog.globals[4]?).map (·.type) = some 146 := by kernel_rfl
theorem cells172 : Tryz.prog.cellsOf 172 = 20 := by kernel_rfl
theorem cells67 : Tryz.prog.cellsOf 67 = 1 := by kernel_rfl
theorem cells170 : Tryz.prog.cellsOf 170 = 1 := by kernel_rfl
theorem cells9 : Tryz.prog.cellsOf 9 = 1 := by kernel_rfl
theorem star : "*" ++ "errors.errorString" = "*errors.errorString" := by decide
theorem row168 (u : TypeId) (h : Tryz.prog.typeName? 3 u = some "*errors.errorString") : u = 168 :=
  typeName_ptr_named (nm := "errors.errorString") (by rw [star]; kernel_rfl) (by kernel_rfl) (by decide) u (by rw [star]; exact h)
/-- What the list gives. -/
theorem lw_of {W : World} (h : laidMetH Tryz.prog Rows.parseMayRow.laid W) : Lw W := by
  rw [MakeChecks.laidMetH_plain _ _ _ (by kernel_rfl)] at h
  have h2 := h.tail.tail
  have h4 := h2.tail.tail
  refine ⟨?_, ?_, ?_⟩
  · exact Lib.tabIs_of_head gTab gTabType Tryz.underlying172 Tryz.underlying67 cells67 cells172 h2
  · obtain ⟨a, s, hv, _⟩ := laid_sentinel h4.tail gSyn gSynType Tryz.underlying146 row168 Tryz.underlying168 Tryz.underlying170 rfl rfl Tryz.underlying9 cells170 cells9
    exact ⟨_, _, hv⟩
  · obtain ⟨a, s, hv, _⟩ := laid_sentinel h4 gRan gRanType Tryz.underlying146 row168 Tryz.underlying168 Tryz.underlying170 rfl rfl Tryz.underlying9 cells170 cells9
    exact ⟨_, _, hv⟩
theorem lay_fits (os : Os) : (World.holding Tryz.prog os ⟨#[], #[], []⟩).layFits Tryz.prog Rows.parseMayRow.laid [] = true := by kernel_rfl
theorem lay_ifaces (os : Os) : (World.holding Tryz.prog os ⟨#[], #[], []⟩).layIfaces Tryz.prog Rows.parseMayRow.laid (World.laidAll Tryz.prog os Rows.parseMayRow.laid) = true := by kernel_rfl
/-- The start in which the listed variables are laid meets the list. -/
theorem door_met (os : Os) (args : Array Value) : laidMetH Tryz.prog Rows.parseMayRow.laid ((World.laidAll Tryz.prog os Rows.parseMayRow.laid).forCall (fun _ _ => 0) ⟨#[], args, []⟩).memory := by
  rw [MakeChecks.laidMetH_plain _ _ _ (by kernel_rfl)]
  exact laidMet_laidAll _ (lay_fits os) (lay_ifaces os)
/-- A world need not be written out to be named. -/
theorem grabC {P : Program} {f : FuncId} {a : Array Value} {W : World} {Q : Ending → World → Prop} (p : World → Prop) (h : p W) (k : ∀ W', p W' → Calls P f a W' Q) : Calls P f a W Q := k W h
/-- An int taken as unsigned, and what a division by a small number leaves of it. -/
theorem umod (x : Int) (n : Nat) (h : 0 < n) (hn : n ≤ 4611686018427387904) : ∃ m : Nat, wrap64 ((IntKind.u64.wrap x).tmod (n : Int)) = (m : Int) ∧ m < n := by
  have h0 : 0 ≤ IntKind.u64.wrap x := by rw [IntKind.wrap_u64]; omega
  rw [Int.tmod_eq_emod_of_nonneg h0]
  have h1 := Int.emod_nonneg (IntKind.u64.wrap x) (show (n : Int) ≠ 0 by omega)
  have h2 := Int.emod_lt_of_pos (IntKind.u64.wrap x) (show (0 : Int) < n by omega)
  refine ⟨(IntKind.u64.wrap x % (n : Int)).toNat, ?_, by omega⟩
  unfold wrap64
  omega
end Go.Proofs.YtgjhpmkahicnkaaGreatDoor
