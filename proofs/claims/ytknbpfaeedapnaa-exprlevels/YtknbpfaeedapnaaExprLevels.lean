/- sleuthlaw5.ExprLevels returns true at every input: lets in lets, as deep as levels may be; the last one's variables are all that is there; the input is as it was. No condition. -/
import Derived.Test.YtknbpfaeedapnaaBody
import Derived.WalkKit
import Derived.ProofKit
import Derived.OpenShut
namespace Go.Proofs.Ytknbpfaeedapnaa.exprLevels
open Go.ChangeShapes Go.WideShapes Go.ChangeAt Go.RowKit
set_option linter.unusedVariables false

theorem own : ownKnob Try.prog.godebug = none := by kernel_rfl

def lv1 (j : Nat) : List Ex := (List.range j).map fun i : Nat => ⟨0, (i : Int), 0, []⟩
def lvL (k v j : Nat) : List Ex := lv1 k ++ [⟨1, (v : Int), 0, []⟩] ++ (List.range j).map fun i : Nat => ⟨6, 0, 0, [(i : Int), (k : Int) + (i : Int)]⟩
theorem lv1_succ (j : Nat) : lv1 (j + 1) = lv1 j ++ [⟨0, (j : Int), 0, []⟩] := by simp [lv1, List.range_succ]
theorem lvL_succ (k v j : Nat) : lvL k v (j + 1) = lvL k v j ++ [⟨6, 0, 0, [(j : Int), (k : Int) + (j : Int)]⟩] := by simp [lvL, List.range_succ]
theorem lvL_len (k v j : Nat) : (lvL k v j).length = k + 1 + j := by simp [lvL, lv1]; omega
/-- What the law asks. -/
def levB (p k v : Nat) : Bool := decide (p + k ≤ 8) && decide (v < p + k)
theorem levB_mk {p k v : Nat} (h1 : (p : Int) + (k : Int) ≤ 8) (h2 : (v : Int) < (p : Int) + (k : Int)) : levB p k v = true := by
  unfold levB; simp; omega
theorem levB_no {p k v : Nat} (h : ¬ (p : Int) + (k : Int) ≤ 8 ∨ ¬ (v : Int) < (p : Int) + (k : Int)) : levB p k v = false := by
  unfold levB; simp; omega
theorem levels_all : (List.range 4).all (fun p => (List.range 12).all fun k => (List.range 16).all fun v => may p (lvL k v k) == levB p k v) = true := by decide +kernel
theorem levels_may {p k v : Nat} (h1 : p < 4) (h2 : k < 12) (h3 : v < 16) : may p (lvL k v k) = levB p k v := by
  have h := List.all_eq_true.1 (List.all_eq_true.1 (List.all_eq_true.1 levels_all p (List.mem_range.2 h1)) k (List.mem_range.2 h2)) v (List.mem_range.2 h3)
  exact eq_of_beq h

set_option maxRecDepth 100000 in
set_option maxHeartbeats 3200000 in
theorem walk_few (a0 a1 a2 : Int) (p k0 v : Nat) (hp : bits .and .i64 a0 3 = (p : Int)) (hk : bits .and .i64 a1 15 = (k0 : Int)) (hv : bits .and .i64 a2 15 = (v : Int)) (hp4 : p < 4) (hk16 : k0 < 16) (hv16 : v < 16) (hle : ¬ 24 < 2 * (k0 : Int) + 1) (w : World) :
    Calls Try.prog 5 #[.int .i64 a0, .int .i64 a1, .int .i64 a2] w fun e w' => e = .returned (.bool true) ∧ Below w.heap.size w w' := by
  have HMAY : Hid _ := levels_may (p := p) (k := k0) (v := v) hp4 (by omega) hv16
  go_enter Try.func5, Try.ntmps5
  go_wp2_with fail
  refine (awake_any _).mono ?_
  rintro e w1 ⟨rfl, hb1⟩
  have hz1 := hb1.size
  have hn0 : w1.heap.size < w1.heap.size + 1 := by omega
  have HX0 : Hid (Bx2 (w1.alloc (.cells #[.int .i64 (p : Int), .slice none 0 0] 24)) w1.heap.size (p : Int) (.slice none 0 0)) := Bx2.new w1 _ _
  have HB0 : Hid (Bd (w1.alloc (.cells #[.int .i64 (p : Int), .slice none 0 0] 24)) (w1.heap.size + 1) (.slice none 0 0) []) := Bd.nil _ _
  have HL0 : Hid (Below w.heap.size w (w1.alloc (.cells #[.int .i64 (p : Int), .slice none 0 0] 24))) := hb1.alloc hz1 _
  go_wp2_with fail
  go_loopw [11] (fun s11 wr => ∃ (j : Nat) (ps : List Pt) (g : Option Addr) (c : Nat), j ≤ k0 ∧ s11 = .int .i64 (j : Int) ∧ Hid (Bx2 wr w1.heap.size (p : Int) (.slice g j c)) ∧ Hid (Bd wr (w1.heap.size + 1) (.slice g j c) ps) ∧ Hid (ps.map (·.1) = lv1 j ∧ ps.length = j) ∧ Hid (Below w.heap.size w wr))
    (fun s11 _ => k0 - (intOf s11).toNat)
  case atStart => exact ⟨0, [], none, 0, Nat.zero_le _, rfl, HX0, HB0, ⟨rfl, rfl⟩, HL0⟩
  case round =>
    obtain ⟨j, ps, g, c, hj, rfl, HX, HBd, HP, HL⟩ := hrel
    have c1 := HX.out.c1
    have f1 := HX.out.frozen 1
    have lz := HX.out.lt
    have hlen : ps.length ≤ 31 := by have := HP.out.2; omega
    by_cases hlt : j < k0
    · have hlt' : (j : Int) < (k0 : Int) := by omega
      have HQ : Hid (∀ q ∈ [((⟨0, (j : Int), 0, []⟩, none, 0) : Pt)], Kd wr (w1.heap.size + 1) q) := by
        intro q hq
        rw [List.mem_singleton] at hq; subst hq; exact Or.inl rfl
      go_wp2_with (at_builtin; refine app_ex rfl _ _ rfl (w1.heap.size + 1) (.slice g j c) ps [(⟨0, (j : Int), 0, []⟩, none, 0)] _ rfl rfl wr.heap.size rfl rfl HBd.out HQ.out (by omega) (by simp; omega) ?_)
      intro v' w3 hB3 hg3
      obtain ⟨g3, k3, rfl⟩ := hB3.val
      have hX3 := (HX.out.alloc (.cells #[.int .i64 0, .int .i64 (j : Int), .int .i64 0, .slice none 0 0] 33)).kept hg3 (HBd.out.not_box hn0)
      have hb3 : Below w.heap.size w w3 := (HL.out.alloc HL.out.size _).grown hg3 (by rw [World.size_alloc]; have := HL.out.size; omega) (fun k e => by have := (HBd.out.own.lt k e).1; omega)
      have c3 := hX3.c1
      have f3 := hX3.frozen 1
      have hl3 : (ps ++ [((⟨0, (j : Int), 0, []⟩, none, 0) : Pt)]).length = j + 1 := by
        rw [List.length_append, HP.out.2]; rfl
      have HP3 : Hid ((ps ++ [((⟨0, (j : Int), 0, []⟩, none, 0) : Pt)]).map (·.1) = lv1 (j + 1) ∧ (ps ++ [((⟨0, (j : Int), 0, []⟩, none, 0) : Pt)]).length = j + 1) := by
        refine ⟨?_, hl3⟩
        rw [List.map_append, HP.out.1, lv1_succ]; rfl
      rw [hl3] at hB3 ⊢
      clear hl3
      obtain ⟨p3, hp3⟩ : ∃ p3, ps ++ [((⟨0, (j : Int), 0, []⟩, none, 0) : Pt)] = p3 := ⟨_, rfl⟩
      rw [hp3] at hB3 HP3
      have HX3 : Hid (Bx2 w3 w1.heap.size (p : Int) (.slice g j c)) := hX3
      have HB3 : Hid (Bd w3 (w1.heap.size + 1) (.slice g3 (j + 1) k3) p3) := hB3
      have HL3 : Hid (Below w.heap.size w w3) := hb3
      clear hX3 hB3 hb3 hg3 hp3 HQ HX HBd HP HL c1 f1
      go_wp2_with fail
      go_roundw
      case rel => first | exact ⟨j + 1, p3, g3, k3, by omega, by go_num, HX3.out.set1 _, HB3.out.far hn0 1 _, HP3, HL3.out.setCell (p := ⟨w1.heap.size, 1, none⟩) hz1 _⟩ | ((repeat apply Exists.intro); exact ⟨⟨j + 1, p3, g3, k3, by omega, by go_num, HX3.out.set1 _, HB3.out.far hn0 1 _, HP3, HL3.out.setCell (p := ⟨w1.heap.size, 1, none⟩) hz1 _⟩, rfl⟩)
      case measure => simp [intOf]; omega
    · have hlt' : ¬ (j : Int) < (k0 : Int) := by omega
      have hjk : k0 = j := by omega
      subst hjk
      have HQ : Hid (∀ q ∈ [((⟨1, (v : Int), 0, []⟩, none, 0) : Pt)], Kd wr (w1.heap.size + 1) q) := by
        intro q hq
        rw [List.mem_singleton] at hq; subst hq; exact Or.inl rfl
      go_wp2_with (at_builtin; refine app_ex rfl _ _ rfl (w1.heap.size + 1) (.slice g k0 c) ps [(⟨1, (v : Int), 0, []⟩, none, 0)] _ rfl rfl wr.heap.size rfl rfl HBd.out HQ.out (by omega) (by simp; omega) ?_)
      intro v' w3 hB3 hg3
      obtain ⟨g3, k3, rfl⟩ := hB3.val
      have hX3 := (HX.out.alloc (.cells #[.int .i64 1, .int .i64 (v : Int), .int .i64 0, .slice none 0 0] 33)).kept hg3 (HBd.out.not_box hn0)
      have hb3 : Below w.heap.size w w3 := (HL.out.alloc HL.out.size _).grown hg3 (by rw [World.size_alloc]; have := HL.out.size; omega) (fun k e => by have := (HBd.out.own.lt k e).1; omega)
      have c3 := hX3.c1
      have f3 := hX3.frozen 1
      have hl3 : (ps ++ [((⟨1, (v : Int), 0, []⟩, none, 0) : Pt)]).length = k0 + 1 + 0 := by
        rw [List.length_append, HP.out.2]; rfl
      have HP3 : Hid ((ps ++ [((⟨1, (v : Int), 0, []⟩, none, 0) : Pt)]).map (·.1) = lvL k0 v 0 ∧ (ps ++ [((⟨1, (v : Int), 0, []⟩, none, 0) : Pt)]).length = k0 + 1 + 0) := by
        refine ⟨?_, hl3⟩
        rw [List.map_append, HP.out.1]; simp [lvL]
      rw [hl3] at hB3 ⊢
      clear hl3
      obtain ⟨p3, hp3⟩ : ∃ p3, ps ++ [((⟨1, (v : Int), 0, []⟩, none, 0) : Pt)] = p3 := ⟨_, rfl⟩
      rw [hp3] at hB3 HP3
      have HX3 : Hid (Bx2 w3 w1.heap.size (p : Int) (.slice g k0 c)) := hX3
      have HB3 : Hid (Bd w3 (w1.heap.size + 1) (.slice g3 (k0 + 1 + 0) k3) p3) := hB3
      have HL3 : Hid (Below w.heap.size w w3) := hb3
      clear hX3 hB3 hb3 hg3 hp3 HQ HX HBd HP HL c1 f1 hlt hlt' hlen lz
      go_wp2_with fail
      go_loopw [12] (fun s12 wr => ∃ (j : Nat) (ps : List Pt) (g : Option Addr) (c : Nat), j ≤ k0 ∧ s12 = .int .i64 (j : Int) ∧ Hid (Bx2 wr w1.heap.size (p : Int) (.slice g (k0 + 1 + j) c)) ∧ Hid (Bd wr (w1.heap.size + 1) (.slice g (k0 + 1 + j) c) ps) ∧ Hid (ps.map (·.1) = lvL k0 v j ∧ ps.length = k0 + 1 + j) ∧ Hid (Below w.heap.size w wr))
        (fun s12 _ => k0 - (intOf s12).toNat)
      case atStart => exact ⟨0, p3, g3, k3, Nat.zero_le _, rfl, HX3.out.set1 _, HB3.out.far hn0 1 _, HP3, HL3.out.setCell (p := ⟨w1.heap.size, 1, none⟩) hz1 _⟩
      case round =>
        obtain ⟨j, ps, g, c, hj, rfl, HX, HBd, HP, HL⟩ := hrel
        have c1 := HX.out.c1
        have f1 := HX.out.frozen 1
        have lz := HX.out.lt
        have hlen : ps.length ≤ 31 := by have := HP.out.2; omega
        by_cases hlt : j < k0
        · have hlt' : (j : Int) < (k0 : Int) := by omega
          have hk1 : Kd (wr.alloc (.cells #[.int .i64 (j : Int), .int .i64 ((k0 : Int) + (j : Int))] 3)) (w1.heap.size + 1) (⟨6, 0, 0, [(j : Int), (k0 : Int) + (j : Int)]⟩, some ⟨wr.heap.size, 0, none⟩, 2) := Or.inr ⟨wr.heap.size, rfl, by omega, Lv.new wr [(j : Int), (k0 : Int) + (j : Int)]⟩
          have HQ : Hid (∀ q ∈ [((⟨6, 0, 0, [(j : Int), (k0 : Int) + (j : Int)]⟩, some ⟨wr.heap.size, 0, none⟩, 2) : Pt)], Kd (wr.alloc (.cells #[.int .i64 (j : Int), .int .i64 ((k0 : Int) + (j : Int))] 3)) (w1.heap.size + 1) q) := by
            intro q hq
            rw [List.mem_singleton] at hq; subst hq; exact hk1
          have HBA : Hid (Bd (wr.alloc (.cells #[.int .i64 (j : Int), .int .i64 ((k0 : Int) + (j : Int))] 3)) (w1.heap.size + 1) (.slice g (k0 + 1 + j) c) ps) := HBd.out.alloc _
          clear hk1
          go_wp2_with (at_builtin; refine app_ex rfl _ _ rfl (w1.heap.size + 1) (.slice g (k0 + 1 + j) c) ps [(⟨6, 0, 0, [(j : Int), (k0 : Int) + (j : Int)]⟩, some ⟨wr.heap.size, 0, none⟩, 2)] _ rfl rfl (wr.heap.size + 1) (by simp) rfl HBA.out HQ.out (by simp; omega) (by simp; omega) ?_)
          intro v' w4 hB4 hg4
          obtain ⟨g4, k4, rfl⟩ := hB4.val
          have hX4 := ((HX.out.alloc (.cells #[.int .i64 (j : Int), .int .i64 ((k0 : Int) + (j : Int))] 3)).alloc (.cells #[.int .i64 6, .int .i64 0, .int .i64 0, .slice (some ⟨wr.heap.size, 0, none⟩) 2 2] 33)).kept hg4 (HBd.out.not_box hn0)
          have hb4 : Below w.heap.size w w4 := ((HL.out.alloc HL.out.size _).alloc (by rw [World.size_alloc]; have := HL.out.size; omega) _).grown hg4 (by rw [World.size_alloc, World.size_alloc]; have := HL.out.size; omega) (fun k e => by have := (HBd.out.own.lt k e).1; omega)
          have c4 := hX4.c1
          have f4 := hX4.frozen 1
          have hl4 : (ps ++ [((⟨6, 0, 0, [(j : Int), (k0 : Int) + (j : Int)]⟩, some ⟨wr.heap.size, 0, none⟩, 2) : Pt)]).length = k0 + 1 + (j + 1) := by
            rw [List.length_append, HP.out.2]; simp; omega
          have HP4 : Hid ((ps ++ [((⟨6, 0, 0, [(j : Int), (k0 : Int) + (j : Int)]⟩, some ⟨wr.heap.size, 0, none⟩, 2) : Pt)]).map (·.1) = lvL k0 v (j + 1) ∧ (ps ++ [((⟨6, 0, 0, [(j : Int), (k0 : Int) + (j : Int)]⟩, some ⟨wr.heap.size, 0, none⟩, 2) : Pt)]).length = k0 + 1 + (j + 1)) := by
            refine ⟨?_, hl4⟩
            rw [List.map_append, HP.out.1, lvL_succ]; rfl
          rw [hl4] at hB4 ⊢
          clear hl4
          obtain ⟨p4, hp4'⟩ : ∃ p4, ps ++ [((⟨6, 0, 0, [(j : Int), (k0 : Int) + (j : Int)]⟩, some ⟨wr.heap.size, 0, none⟩, 2) : Pt)] = p4 := ⟨_, rfl⟩
          rw [hp4'] at hB4 HP4
          have HX4 : Hid (Bx2 w4 w1.heap.size (p : Int) (.slice g (k0 + 1 + j) c)) := hX4
          have HB4 : Hid (Bd w4 (w1.heap.size + 1) (.slice g4 (k0 + 1 + (j + 1)) k4) p4) := hB4
          have HL4 : Hid (Below w.heap.size w w4) := hb4
          clear hX4 hB4 hb4 hg4 hp4' HQ HBA HX HBd HP HL c1 f1
          go_wp2_with fail
          go_roundw
          case rel => first | exact ⟨j + 1, p4, g4, k4, by omega, by go_num, HX4.out.set1 _, HB4.out.far hn0 1 _, HP4, HL4.out.setCell (p := ⟨w1.heap.size, 1, none⟩) hz1 _⟩ | ((repeat apply Exists.intro); exact ⟨⟨j + 1, p4, g4, k4, by omega, by go_num, HX4.out.set1 _, HB4.out.far hn0 1 _, HP4, HL4.out.setCell (p := ⟨w1.heap.size, 1, none⟩) hz1 _⟩, rfl⟩)
          case measure => simp [intOf]; omega
        · have hlt' : ¬ (j : Int) < (k0 : Int) := by omega
          have hjk : j = k0 := by omega
          have hbd := HBd.out
          have hm0 := HP.out
          rw [hjk] at hbd hm0
          rw [← hm0.2] at hbd
          have hm := may_any (p : Int) g c (ps.map (·.1)) wr hbd.exs
          rw [hm0.1, lvL_len, HMAY.out] at hm
          have c0 := HX.out.c0
          rw [hjk] at c1
          clear hbd hm0
          by_cases h8 : (p : Int) + (k0 : Int) ≤ 8
          · have d8 : decide ((p : Int) + (k0 : Int) ≤ 8) = true := decide_eq_true h8
            by_cases h9 : (v : Int) < (p : Int) + (k0 : Int)
            · have d9 : decide ((v : Int) < (p : Int) + (k0 : Int)) = true := decide_eq_true h9
              rw [show levB p k0 v = true from levB_mk h8 h9] at hm
              go_wp2_with (go_at_call 14; refine (num_any _ _).mono ?_; rintro e w' ⟨rfl, rfl⟩)
              refine hm.mono ?_
              rintro e w5 ⟨rfl, hb5⟩
              go_wp2_with fail
              go_ret
              exact ⟨rfl, below_next HL.out hb5⟩
            · have d9 : decide ((v : Int) < (p : Int) + (k0 : Int)) = false := decide_eq_false h9
              rw [show levB p k0 v = false from levB_no (.inr h9)] at hm
              go_wp2_with (go_at_call 14; refine (num_any _ _).mono ?_; rintro e w' ⟨rfl, rfl⟩)
              refine hm.mono ?_
              rintro e w5 ⟨rfl, hb5⟩
              go_wp2_with fail
              go_ret
              exact ⟨rfl, below_next HL.out hb5⟩
          · have d8 : decide ((p : Int) + (k0 : Int) ≤ 8) = false := decide_eq_false h8
            rw [show levB p k0 v = false from levB_no (.inl h8)] at hm
            go_wp2_with (go_at_call 14; refine (num_any _ _).mono ?_; rintro e w' ⟨rfl, rfl⟩)
            refine hm.mono ?_
            rintro e w5 ⟨rfl, hb5⟩
            go_wp2_with fail
            go_ret
            exact ⟨rfl, below_next HL.out hb5⟩
set_option maxRecDepth 100000 in
set_option maxHeartbeats 3200000 in
theorem walk_many (a0 a1 a2 : Int) (p k0 v : Nat) (hp : bits .and .i64 a0 3 = (p : Int)) (hk : bits .and .i64 a1 15 = (k0 : Int)) (hv : bits .and .i64 a2 15 = (v : Int)) (hp4 : p < 4) (hk16 : k0 < 16) (hv16 : v < 16) (hle : 24 < 2 * (k0 : Int) + 1) (w : World) :
    Calls Try.prog 5 #[.int .i64 a0, .int .i64 a1, .int .i64 a2] w fun e w' => e = .returned (.bool true) ∧ Below w.heap.size w w' := by
  have HMAY : Hid _ := levels_may (p := p) (k := 11) (v := v) hp4 (by omega) hv16
  go_enter Try.func5, Try.ntmps5
  go_wp2_with fail
  refine (awake_any _).mono ?_
  rintro e w1 ⟨rfl, hb1⟩
  have hz1 := hb1.size
  have hn0 : w1.heap.size < w1.heap.size + 1 := by omega
  have HX0 : Hid (Bx2 (w1.alloc (.cells #[.int .i64 (p : Int), .slice none 0 0] 24)) w1.heap.size (p : Int) (.slice none 0 0)) := Bx2.new w1 _ _
  have HB0 : Hid (Bd (w1.alloc (.cells #[.int .i64 (p : Int), .slice none 0 0] 24)) (w1.heap.size + 1) (.slice none 0 0) []) := Bd.nil _ _
  have HL0 : Hid (Below w.heap.size w (w1.alloc (.cells #[.int .i64 (p : Int), .slice none 0 0] 24))) := hb1.alloc hz1 _
  go_wp2_with fail
  go_loopw [11] (fun s11 wr => ∃ (j : Nat) (ps : List Pt) (g : Option Addr) (c : Nat), j ≤ 11 ∧ s11 = .int .i64 (j : Int) ∧ Hid (Bx2 wr w1.heap.size (p : Int) (.slice g j c)) ∧ Hid (Bd wr (w1.heap.size + 1) (.slice g j c) ps) ∧ Hid (ps.map (·.1) = lv1 j ∧ ps.length = j) ∧ Hid (Below w.heap.size w wr))
    (fun s11 _ => 11 - (intOf s11).toNat)
  case atStart => exact ⟨0, [], none, 0, Nat.zero_le _, rfl, HX0, HB0, ⟨rfl, rfl⟩, HL0⟩
  case round =>
    obtain ⟨j, ps, g, c, hj, rfl, HX, HBd, HP, HL⟩ := hrel
    have c1 := HX.out.c1
    have f1 := HX.out.frozen 1
    have lz := HX.out.lt
    have hlen : ps.length ≤ 31 := by have := HP.out.2; omega
    by_cases hlt : j < 11
    · have hlt' : (j : Int) < 11 := by omega
      have HQ : Hid (∀ q ∈ [((⟨0, (j : Int), 0, []⟩, none, 0) : Pt)], Kd wr (w1.heap.size + 1) q) := by
        intro q hq
        rw [List.mem_singleton] at hq; subst hq; exact Or.inl rfl
      go_wp2_with (at_builtin; refine app_ex rfl _ _ rfl (w1.heap.size + 1) (.slice g j c) ps [(⟨0, (j : Int), 0, []⟩, none, 0)] _ rfl rfl wr.heap.size rfl rfl HBd.out HQ.out (by omega) (by simp; omega) ?_)
      intro v' w3 hB3 hg3
      obtain ⟨g3, k3, rfl⟩ := hB3.val
      have hX3 := (HX.out.alloc (.cells #[.int .i64 0, .int .i64 (j : Int), .int .i64 0, .slice none 0 0] 33)).kept hg3 (HBd.out.not_box hn0)
      have hb3 : Below w.heap.size w w3 := (HL.out.alloc HL.out.size _).grown hg3 (by rw [World.size_alloc]; have := HL.out.size; omega) (fun k e => by have := (HBd.out.own.lt k e).1; omega)
      have c3 := hX3.c1
      have f3 := hX3.frozen 1
      have hl3 : (ps ++ [((⟨0, (j : Int), 0, []⟩, none, 0) : Pt)]).length = j + 1 := by
        rw [List.length_append, HP.out.2]; rfl
      have HP3 : Hid ((ps ++ [((⟨0, (j : Int), 0, []⟩, none, 0) : Pt)]).map (·.1) = lv1 (j + 1) ∧ (ps ++ [((⟨0, (j : Int), 0, []⟩, none, 0) : Pt)]).length = j + 1) := by
        refine ⟨?_, hl3⟩
        rw [List.map_append, HP.out.1, lv1_succ]; rfl
      rw [hl3] at hB3 ⊢
      clear hl3
      obtain ⟨p3, hp3⟩ : ∃ p3, ps ++ [((⟨0, (j : Int), 0, []⟩, none, 0) : Pt)] = p3 := ⟨_, rfl⟩
      rw [hp3] at hB3 HP3
      have HX3 : Hid (Bx2 w3 w1.heap.size (p : Int) (.slice g j c)) := hX3
      have HB3 : Hid (Bd w3 (w1.heap.size + 1) (.slice g3 (j + 1) k3) p3) := hB3
      have HL3 : Hid (Below w.heap.size w w3) := hb3
      clear hX3 hB3 hb3 hg3 hp3 HQ HX HBd HP HL c1 f1
      go_wp2_with fail
      go_roundw
      case rel => first | exact ⟨j + 1, p3, g3, k3, by omega, by go_num, HX3.out.set1 _, HB3.out.far hn0 1 _, HP3, HL3.out.setCell (p := ⟨w1.heap.size, 1, none⟩) hz1 _⟩ | ((repeat apply Exists.intro); exact ⟨⟨j + 1, p3, g3, k3, by omega, by go_num, HX3.out.set1 _, HB3.out.far hn0 1 _, HP3, HL3.out.setCell (p := ⟨w1.heap.size, 1, none⟩) hz1 _⟩, rfl⟩)
      case measure => simp [intOf]; omega
    · have hlt' : ¬ (j : Int) < 11 := by omega
      have hjk : 11 = j := by omega
      subst hjk
      have HQ : Hid (∀ q ∈ [((⟨1, (v : Int), 0, []⟩, none, 0) : Pt)], Kd wr (w1.heap.size + 1) q) := by
        intro q hq
        rw [List.mem_singleton] at hq; subst hq; exact Or.inl rfl
      go_wp2_with (at_builtin; refine app_ex rfl _ _ rfl (w1.heap.size + 1) (.slice g 11 c) ps [(⟨1, (v : Int), 0, []⟩, none, 0)] _ rfl rfl wr.heap.size rfl rfl HBd.out HQ.out (by omega) (by simp; omega) ?_)
      intro v' w3 hB3 hg3
      obtain ⟨g3, k3, rfl⟩ := hB3.val
      have hX3 := (HX.out.alloc (.cells #[.int .i64 1, .int .i64 (v : Int), .int .i64 0, .slice none 0 0] 33)).kept hg3 (HBd.out.not_box hn0)
      have hb3 : Below w.heap.size w w3 := (HL.out.alloc HL.out.size _).grown hg3 (by rw [World.size_alloc]; have := HL.out.size; omega) (fun k e => by have := (HBd.out.own.lt k e).1; omega)
      have c3 := hX3.c1
      have f3 := hX3.frozen 1
      have hl3 : (ps ++ [((⟨1, (v : Int), 0, []⟩, none, 0) : Pt)]).length = 11 + 1 + 0 := by
        rw [List.length_append, HP.out.2]; rfl
      have HP3 : Hid ((ps ++ [((⟨1, (v : Int), 0, []⟩, none, 0) : Pt)]).map (·.1) = lvL 11 v 0 ∧ (ps ++ [((⟨1, (v : Int), 0, []⟩, none, 0) : Pt)]).length = 11 + 1 + 0) := by
        refine ⟨?_, hl3⟩
        rw [List.map_append, HP.out.1]; simp [lvL]
      rw [hl3] at hB3 ⊢
      clear hl3
      obtain ⟨p3, hp3⟩ : ∃ p3, ps ++ [((⟨1, (v : Int), 0, []⟩, none, 0) : Pt)] = p3 := ⟨_, rfl⟩
      rw [hp3] at hB3 HP3
      have HX3 : Hid (Bx2 w3 w1.heap.size (p : Int) (.slice g 11 c)) := hX3
      have HB3 : Hid (Bd w3 (w1.heap.size + 1) (.slice g3 (11 + 1 + 0) k3) p3) := hB3
      have HL3 : Hid (Below w.heap.size w w3) := hb3
      clear hX3 hB3 hb3 hg3 hp3 HQ HX HBd HP HL c1 f1 hlt hlt' hlen lz
      go_wp2_with fail
      go_loopw [12] (fun s12 wr => ∃ (j : Nat) (ps : List Pt) (g : Option Addr) (c : Nat), j ≤ 11 ∧ s12 = .int .i64 (j : Int) ∧ Hid (Bx2 wr w1.heap.size (p : Int) (.slice g (11 + 1 + j) c)) ∧ Hid (Bd wr (w1.heap.size + 1) (.slice g (11 + 1 + j) c) ps) ∧ Hid (ps.map (·.1) = lvL 11 v j ∧ ps.length = 11 + 1 + j) ∧ Hid (Below w.heap.size w wr))
        (fun s12 _ => 11 - (intOf s12).toNat)
      case atStart => exact ⟨0, p3, g3, k3, Nat.zero_le _, rfl, HX3.out.set1 _, HB3.out.far hn0 1 _, HP3, HL3.out.setCell (p := ⟨w1.heap.size, 1, none⟩) hz1 _⟩
      case round =>
        obtain ⟨j, ps, g, c, hj, rfl, HX, HBd, HP, HL⟩ := hrel
        have c1 := HX.out.c1
        have f1 := HX.out.frozen 1
        have lz := HX.out.lt
        have hlen : ps.length ≤ 31 := by have := HP.out.2; omega
        by_cases hlt : j < 11
        · have hlt' : (j : Int) < 11 := by omega
          have hk1 : Kd (wr.alloc (.cells #[.int .i64 (j : Int), .int .i64 (11 + (j : Int))] 3)) (w1.heap.size + 1) (⟨6, 0, 0, [(j : Int), 11 + (j : Int)]⟩, some ⟨wr.heap.size, 0, none⟩, 2) := Or.inr ⟨wr.heap.size, rfl, by omega, Lv.new wr [(j : Int), 11 + (j : Int)]⟩
          have HQ : Hid (∀ q ∈ [((⟨6, 0, 0, [(j : Int), 11 + (j : Int)]⟩, some ⟨wr.heap.size, 0, none⟩, 2) : Pt)], Kd (wr.alloc (.cells #[.int .i64 (j : Int), .int .i64 (11 + (j : Int))] 3)) (w1.heap.size + 1) q) := by
            intro q hq
            rw [List.mem_singleton] at hq; subst hq; exact hk1
          have HBA : Hid (Bd (wr.alloc (.cells #[.int .i64 (j : Int), .int .i64 (11 + (j : Int))] 3)) (w1.heap.size + 1) (.slice g (11 + 1 + j) c) ps) := HBd.out.alloc _
          clear hk1
          go_wp2_with (at_builtin; refine app_ex rfl _ _ rfl (w1.heap.size + 1) (.slice g (11 + 1 + j) c) ps [(⟨6, 0, 0, [(j : Int), 11 + (j : Int)]⟩, some ⟨wr.heap.size, 0, none⟩, 2)] _ rfl rfl (wr.heap.size + 1) (by simp) rfl HBA.out HQ.out (by simp; omega) (by simp; omega) ?_)
          intro v' w4 hB4 hg4
          obtain ⟨g4, k4, rfl⟩ := hB4.val
          have hX4 := ((HX.out.alloc (.cells #[.int .i64 (j : Int), .int .i64 (11 + (j : Int))] 3)).alloc (.cells #[.int .i64 6, .int .i64 0, .int .i64 0, .slice (some ⟨wr.heap.size, 0, none⟩) 2 2] 33)).kept hg4 (HBd.out.not_box hn0)
          have hb4 : Below w.heap.size w w4 := ((HL.out.alloc HL.out.size _).alloc (by rw [World.size_alloc]; have := HL.out.size; omega) _).grown hg4 (by rw [World.size_alloc, World.size_alloc]; have := HL.out.size; omega) (fun k e => by have := (HBd.out.own.lt k e).1; omega)
          have c4 := hX4.c1
          have f4 := hX4.frozen 1
          have hl4 : (ps ++ [((⟨6, 0, 0, [(j : Int), 11 + (j : Int)]⟩, some ⟨wr.heap.size, 0, none⟩, 2) : Pt)]).length = 11 + 1 + (j + 1) := by
            rw [List.length_append, HP.out.2]; simp; omega
          have HP4 : Hid ((ps ++ [((⟨6, 0, 0, [(j : Int), 11 + (j : Int)]⟩, some ⟨wr.heap.size, 0, none⟩, 2) : Pt)]).map (·.1) = lvL 11 v (j + 1) ∧ (ps ++ [((⟨6, 0, 0, [(j : Int), 11 + (j : Int)]⟩, some ⟨wr.heap.size, 0, none⟩, 2) : Pt)]).length = 11 + 1 + (j + 1)) := by
            refine ⟨?_, hl4⟩
            rw [List.map_append, HP.out.1, lvL_succ]; rfl
          rw [hl4] at hB4 ⊢
          clear hl4
          obtain ⟨p4, hp4'⟩ : ∃ p4, ps ++ [((⟨6, 0, 0, [(j : Int), 11 + (j : Int)]⟩, some ⟨wr.heap.size, 0, none⟩, 2) : Pt)] = p4 := ⟨_, rfl⟩
          rw [hp4'] at hB4 HP4
          have HX4 : Hid (Bx2 w4 w1.heap.size (p : Int) (.slice g (11 + 1 + j) c)) := hX4
          have HB4 : Hid (Bd w4 (w1.heap.size + 1) (.slice g4 (11 + 1 + (j + 1)) k4) p4) := hB4
          have HL4 : Hid (Below w.heap.size w w4) := hb4
          clear hX4 hB4 hb4 hg4 hp4' HQ HBA HX HBd HP HL c1 f1
          go_wp2_with fail
          go_roundw
          case rel => first | exact ⟨j + 1, p4, g4, k4, by omega, by go_num, HX4.out.set1 _, HB4.out.far hn0 1 _, HP4, HL4.out.setCell (p := ⟨w1.heap.size, 1, none⟩) hz1 _⟩ | ((repeat apply Exists.intro); exact ⟨⟨j + 1, p4, g4, k4, by omega, by go_num, HX4.out.set1 _, HB4.out.far hn0 1 _, HP4, HL4.out.setCell (p := ⟨w1.heap.size, 1, none⟩) hz1 _⟩, rfl⟩)
          case measure => simp [intOf]; omega
        · have hlt' : ¬ (j : Int) < 11 := by omega
          have hjk : j = 11 := by omega
          have hbd := HBd.out
          have hm0 := HP.out
          rw [hjk] at hbd hm0
          rw [← hm0.2] at hbd
          have hm := may_any (p : Int) g c (ps.map (·.1)) wr hbd.exs
          rw [hm0.1, lvL_len, HMAY.out] at hm
          have c0 := HX.out.c0
          rw [hjk] at c1
          clear hbd hm0
          by_cases h8 : (p : Int) + 11 ≤ 8
          · have d8 : decide ((p : Int) + 11 ≤ 8) = true := decide_eq_true h8
            by_cases h9 : (v : Int) < (p : Int) + 11
            · have d9 : decide ((v : Int) < (p : Int) + 11) = true := decide_eq_true h9
              rw [show levB p 11 v = true from levB_mk h8 h9] at hm
              go_wp2_with (go_at_call 14; refine (num_any _ _).mono ?_; rintro e w' ⟨rfl, rfl⟩)
              refine hm.mono ?_
              rintro e w5 ⟨rfl, hb5⟩
              go_wp2_with fail
              go_ret
              exact ⟨rfl, below_next HL.out hb5⟩
            · have d9 : decide ((v : Int) < (p : Int) + 11) = false := decide_eq_false h9
              rw [show levB p 11 v = false from levB_no (.inr h9)] at hm
              go_wp2_with (go_at_call 14; refine (num_any _ _).mono ?_; rintro e w' ⟨rfl, rfl⟩)
              refine hm.mono ?_
              rintro e w5 ⟨rfl, hb5⟩
              go_wp2_with fail
              go_ret
              exact ⟨rfl, below_next HL.out hb5⟩
          · have d8 : decide ((p : Int) + 11 ≤ 8) = false := decide_eq_false h8
            rw [show levB p 11 v = false from levB_no (.inl h8)] at hm
            go_wp2_with (go_at_call 14; refine (num_any _ _).mono ?_; rintro e w' ⟨rfl, rfl⟩)
            refine hm.mono ?_
            rintro e w5 ⟨rfl, hb5⟩
            go_wp2_with fail
            go_ret
            exact ⟨rfl, below_next HL.out hb5⟩
/-- The walk: the law's Go text returns true. -/
theorem walk (a0 a1 a2 : Int) (w : World) :
    Calls Try.prog 5 #[.int .i64 a0, .int .i64 a1, .int .i64 a2] w fun e w' => e = .returned (.bool true) ∧ Below w.heap.size w w' := by
  obtain ⟨p, hp, hp4⟩ := and_3 a0
  obtain ⟨k0, hk, hk16⟩ := and_15 a1
  obtain ⟨v, hv, hv16⟩ := and_15 a2
  by_cases hle : 24 < 2 * (k0 : Int) + 1
  · exact walk_many a0 a1 a2 p k0 v hp hk hv hp4 hk16 hv16 hle w
  · exact walk_few a0 a1 a2 p k0 v hp hk hv hp4 hk16 hv16 hle w

/- The row's step. -/
set_option maxRecDepth 100000 in
theorem lifted (os : Os) (started : os.Started) (H : Type) (enc : TypeId × Value → H) :
    ReturnsInHanded {} Try.checked os 5 .any (Rows.exprLevelsSpec.pre6 enc Try.prog Try.f5 Rows.exprLevelsRow.domain false) (Rows.exprLevelsSpec.post enc Try.prog Try.f5 false true false false) := by
  refine returnsInHanded_of_change (C := Try.checked) own started (by kernel_rfl) Try.func5
    (ChangeSpec.witness6 (enc := enc) (C := Try.checked) false ⟨#[], #[.int .i64 0, .int .i64 0, .int .i64 0], []⟩ 8 (by kernel_rfl) (by kernel_rfl) (by kernel_rfl) (by kernel_rfl)) ?_
  intro W base args ds gs before hval0 hW hcnd _
  have hval : ∀ (j : Nat) t v, Try.f5.params[j]? = some t → args[j]? = some v → Value.okWide Try.prog W .any base t v := hval0
  have hW' := hW
  obtain ⟨p, q, hA0, hV, rfl, hfz, hnd⟩ := hW
  have hA : DataW.TrodAll enc Try.prog W 0 (fun _ => true) true Try.f5.params.toList args.toList ds p := hA0
  rw [Try.params5] at hA hval
  obtain ⟨v0, vs0, d0, ds0, p0, q0, hargs, rfl, rfl, h0, r0⟩ := trodAll_cons hA
  obtain ⟨v1, vs1, d1, ds1, p1, q1, rfl, rfl, rfl, h1, r1⟩ := trodAll_cons r0
  obtain ⟨v2, vs2, d2, ds2, p2, q2, rfl, rfl, rfl, h2, r2⟩ := trodAll_cons r1
  obtain ⟨rfl, rfl, rfl⟩ := trodAll_nil r2
  obtain rfl : args = #[v0, v1, v2] := by cases args; simp_all
  obtain ⟨rfl, rfl⟩ := trodVars_none hV
  obtain ⟨a0, rfl, rfl, rfl, w0⟩ := open_int Try.underlying3 (hval 0 3 v0 rfl rfl) h0
  obtain ⟨a1, rfl, rfl, rfl, w1⟩ := open_int Try.underlying3 (hval 1 3 v1 rfl rfl) h1
  obtain ⟨a2, rfl, rfl, rfl, w2⟩ := open_int Try.underlying3 (hval 2 3 v2 rfl rfl) h2
  clear hA0 hval0
  simp only [List.append_nil] at hW'
  refine (walk a0 a1 a2 W).mono fun e W' ⟨he, hg⟩ => ?_
  subst he
  exact ⟨_, rfl, _, _, _, [], [], [], hW', trodAll_cons_mk (shut_bool Try.underlying4 _) trodAll_mk0, (trodAll_cons_mk (shut_int Try.underlying3 w0) (trodAll_cons_mk (shut_int Try.underlying3 w1) (trodAll_cons_mk (shut_int Try.underlying3 w2) trodAll_mk0))), rfl, hg.frame _, fun h => by cases h⟩

theorem over : Rows.exprLevelsRow.holds Try.pinned (OpenSpec.ofChange Rows.exprLevelsSpec) :=
  OpenClaim.holds_of_wide 5 Try.f5 rfl rfl rfl rfl rfl rfl rfl ⟨rfl, rfl, rfl, rfl, rfl⟩ rfl rfl rfl rfl rfl (by kernel_rfl) Try.func5 (by kernel_rfl)
    (of_decide_eq_true (by kernel_rfl)) (by unfold Func.isWrapper; first | (rw [if_pos (by decide +kernel)]; kernel_rfl) | (rw [if_neg (by decide +kernel)]; exact ⟨rfl, rfl⟩))
    (fun os started H enc _ => lifted os started H enc)

/-- The given statement. -/
theorem proved : Rows.ExprLevelsSaid :=
  over
end Go.Proofs.Ytknbpfaeedapnaa.exprLevels
namespace Go.Proofs.Ytknbpfaeedapnaa
theorem exprLevels_holds : Rows.ExprLevelsSaid := exprLevels.proved
end Go.Proofs.Ytknbpfaeedapnaa
