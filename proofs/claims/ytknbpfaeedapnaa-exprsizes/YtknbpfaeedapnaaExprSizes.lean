/- sleuthlaw5.ExprSizes returns true at every input: bodies of up to MaxBody parts may be, and no greater ones; the input is as it was. No condition. -/
import Derived.Test.YtknbpfaeedapnaaBody
import Derived.WalkKit
import Derived.ProofKit
import Derived.OpenShut
namespace Go.Proofs.Ytknbpfaeedapnaa.exprSizes
open Go.ChangeShapes Go.WideShapes Go.ChangeAt Go.RowKit
set_option linter.unusedVariables false

theorem own : ownKnob Try.prog.godebug = none := by kernel_rfl

def sizesL : Nat → List Ex
  | 0 => [⟨0, 1, 0, []⟩]
  | j + 1 => sizesL j ++ [⟨0, 2, 0, []⟩, ⟨4, 0, 0, [2 * (j : Int), 2 * (j : Int) + 1]⟩]
theorem sizes_len : ∀ j, (sizesL j).length = 2 * j + 1
  | 0 => rfl
  | j + 1 => by rw [sizesL, List.length_append, sizes_len j]; simp; omega
theorem sizes_all : (List.range 16).all (fun k => may 0 (sizesL k) == decide (1 + 2 * k ≤ 24)) = true := by decide +kernel
theorem sizes_may {k : Nat} (h : k < 16) : may 0 (sizesL k) = decide (1 + 2 * (k : Int) ≤ 24) := by
  have h1 := List.all_eq_true.1 sizes_all k (List.mem_range.2 h)
  rw [eq_of_beq h1]
  rw [decide_eq_decide]; omega

set_option maxRecDepth 100000 in
set_option maxHeartbeats 1600000 in
/-- The walk: the law's Go text returns true. -/
theorem walk (a0 : Int) (w : World) :
    Calls Try.prog 6 #[.int .i64 a0] w fun e w' => e = .returned (.bool true) ∧ Below w.heap.size w w' := by
  obtain ⟨k, hk, hk16⟩ := and_15 a0
  have hmay := sizes_may hk16
  have HMAY : Hid _ := hmay
  clear hmay
  go_enter Try.func6, Try.ntmps6
  go_wp2_with fail
  refine (awake_any _).mono ?_
  rintro e w1 ⟨rfl, hb1⟩
  have hz1 := hb1.size
  have hn0 : w1.heap.size < w1.heap.size + 1 := by omega
  have hB := (Bd.nil (w1.alloc (.cells #[.int .i64 0, .slice none 0 0] 24)) (w1.heap.size + 1))
  go_wp2_with (at_builtin; refine app_ex rfl _ _ rfl (w1.heap.size + 1) (.slice none 0 0) [] [(⟨0, 1, 0, []⟩, none, 0)] _ rfl rfl (w1.heap.size + 1) (by simp) rfl hB (fun p hp => by rw [List.mem_singleton] at hp; subst hp; exact Or.inl rfl) (by simp) (by simp) ?_)
  intro v' w2 hB2 hg2
  obtain ⟨g2, k2, rfl⟩ := hB2.val
  have hX2 := ((Bx2.new w1 0 (.slice none 0 0)).alloc (.cells #[.int .i64 0, .int .i64 1, .int .i64 0, .slice none 0 0] 33)).kept hg2 (by simp [Value.ownBlock])
  have hb2 : Below w.heap.size w w2 := ((hb1.alloc hz1 _).alloc (by simp; omega) _).grown hg2 (by simp; omega) (fun k e => by cases e)
  have c2 := hX2.c1
  have f2 := hX2.frozen 1
  have HX2 : Hid (Bx2 w2 w1.heap.size 0 (.slice none 0 0)) := hX2
  have HB2 : Hid (Bd w2 (w1.heap.size + 1) (.slice g2 1 k2) [(⟨0, 1, 0, []⟩, none, 0)]) := hB2
  have HL2 : Hid (Below w.heap.size w w2) := hb2
  clear hg2 hB2 hX2 hb2 hB
  go_wp2_with fail
  go_loopw [5, 6] (fun s5 _ wr => ∃ (j : Nat) (ps : List Pt) (g : Option Addr) (c : Nat), j ≤ k ∧ s5 = .int .i64 (j : Int) ∧ Hid (Bx2 wr w1.heap.size 0 (.slice g (2 * j + 1) c)) ∧ Hid (Bd wr (w1.heap.size + 1) (.slice g (2 * j + 1) c) ps) ∧ Hid (ps.map (·.1) = sizesL j ∧ ps.length = 2 * j + 1) ∧ Hid (Below w.heap.size w wr))
    (fun s5 _ _ => k - (intOf s5).toNat)
  case atStart => exact ⟨0, [(⟨0, 1, 0, []⟩, none, 0)], g2, k2, Nat.zero_le _, rfl, HX2.out.set1 _, HB2.out.far hn0 1 _, ⟨rfl, rfl⟩, HL2.out.setCell (p := ⟨w1.heap.size, 1, none⟩) hz1 _⟩
  case round =>
    obtain ⟨j, ps, g, c, hj, rfl, HX, HBd, HP, HL⟩ := hrel
    have c1 := HX.out.c1
    have f1 := HX.out.frozen 1
    have lz := HX.out.lt
    by_cases hlt : j < k
    · have hlt' : (j : Int) < (k : Int) := by omega
      have hk1 : Kd (wr.alloc (.cells #[.int .i64 (2 * (j : Int)), .int .i64 (2 * (j : Int) + 1)] 3)) (w1.heap.size + 1) (⟨4, 0, 0, [2 * (j : Int), 2 * (j : Int) + 1]⟩, some ⟨wr.heap.size, 0, none⟩, 2) := Or.inr ⟨wr.heap.size, rfl, by omega, Lv.new wr [2 * (j : Int), 2 * (j : Int) + 1]⟩
      have HQ : Hid (∀ p ∈ [((⟨0, 2, 0, []⟩, none, 0) : Pt), (⟨4, 0, 0, [2 * (j : Int), 2 * (j : Int) + 1]⟩, some ⟨wr.heap.size, 0, none⟩, 2)], Kd (wr.alloc (.cells #[.int .i64 (2 * (j : Int)), .int .i64 (2 * (j : Int) + 1)] 3)) (w1.heap.size + 1) p) := by
        intro p hp
        rcases List.mem_cons.1 hp with h | h
        · subst h; exact Or.inl rfl
        · rw [List.mem_singleton] at h; subst h; exact hk1
      have hlen : ps.length ≤ 31 := by have := HP.out.2; omega
      have HBA : Hid (Bd (wr.alloc (.cells #[.int .i64 (2 * (j : Int)), .int .i64 (2 * (j : Int) + 1)] 3)) (w1.heap.size + 1) (.slice g (2 * j + 1) c) ps) := HBd.out.alloc _
      clear hk1
      go_wp2_with (at_builtin; refine app_ex rfl _ _ rfl (w1.heap.size + 1) (.slice g (2 * j + 1) c) ps [(⟨0, 2, 0, []⟩, none, 0), (⟨4, 0, 0, [2 * (j : Int), 2 * (j : Int) + 1]⟩, some ⟨wr.heap.size, 0, none⟩, 2)] _ rfl rfl (wr.heap.size + 1) (by simp) rfl HBA.out HQ.out (by simp; omega) (by simp; omega) ?_)
      intro v' w3 hB3 hg3
      obtain ⟨g3, k3, rfl⟩ := hB3.val
      have hX3 := ((HX.out.alloc (.cells #[.int .i64 (2 * (j : Int)), .int .i64 (2 * (j : Int) + 1)] 3)).alloc (.cells #[.int .i64 0, .int .i64 2, .int .i64 0, .slice none 0 0, .int .i64 4, .int .i64 0, .int .i64 0, .slice (some ⟨wr.heap.size, 0, none⟩) 2 2] 33)).kept hg3 (HBd.out.not_box hn0)
      have hb3 : Below w.heap.size w w3 := ((HL.out.alloc HL.out.size _).alloc (by rw [World.size_alloc]; have := HL.out.size; omega) _).grown hg3 (by rw [World.size_alloc, World.size_alloc]; have := HL.out.size; omega) (fun k e => by have := (HBd.out.own.lt k e).1; omega)
      have c3 := hX3.c1
      have f3 := hX3.frozen 1
      have hl3 : (ps ++ [((⟨0, 2, 0, []⟩, none, 0) : Pt), (⟨4, 0, 0, [2 * (j : Int), 2 * (j : Int) + 1]⟩, some ⟨wr.heap.size, 0, none⟩, 2)]).length = 2 * (j + 1) + 1 := by
        rw [List.length_append, HP.out.2]; simp; omega
      have HP3 : Hid ((ps ++ [((⟨0, 2, 0, []⟩, none, 0) : Pt), (⟨4, 0, 0, [2 * (j : Int), 2 * (j : Int) + 1]⟩, some ⟨wr.heap.size, 0, none⟩, 2)]).map (·.1) = sizesL (j + 1) ∧ (ps ++ [((⟨0, 2, 0, []⟩, none, 0) : Pt), (⟨4, 0, 0, [2 * (j : Int), 2 * (j : Int) + 1]⟩, some ⟨wr.heap.size, 0, none⟩, 2)]).length = 2 * (j + 1) + 1) := by
        refine ⟨?_, hl3⟩
        rw [List.map_append, HP.out.1]; rfl
      rw [hl3] at hB3 ⊢
      clear hl3
      obtain ⟨p3, hp3⟩ : ∃ p3, ps ++ [((⟨0, 2, 0, []⟩, none, 0) : Pt), (⟨4, 0, 0, [2 * (j : Int), 2 * (j : Int) + 1]⟩, some ⟨wr.heap.size, 0, none⟩, 2)] = p3 := ⟨_, rfl⟩
      rw [hp3] at hB3 HP3
      have HX3 : Hid (Bx2 w3 w1.heap.size 0 (.slice g (2 * j + 1) c)) := hX3
      have HB3 : Hid (Bd w3 (w1.heap.size + 1) (.slice g3 (2 * (j + 1) + 1) k3) p3) := hB3
      have HL3 : Hid (Below w.heap.size w w3) := hb3
      clear hX3 hB3 hb3 hg3 hp3 HBA HQ HX HBd HP HL c1 f1
      go_wp2_with fail
      go_roundw
      case rel => first | exact ⟨j + 1, p3, g3, k3, by omega, by go_num, HX3.out.set1 _, HB3.out.far hn0 1 _, HP3, HL3.out.setCell (p := ⟨w1.heap.size, 1, none⟩) hz1 _⟩ | ((repeat apply Exists.intro); exact ⟨⟨j + 1, p3, g3, k3, by omega, by go_num, HX3.out.set1 _, HB3.out.far hn0 1 _, HP3, HL3.out.setCell (p := ⟨w1.heap.size, 1, none⟩) hz1 _⟩, rfl⟩)
      case measure => simp [intOf]; omega
    · have hlt' : ¬ (j : Int) < (k : Int) := by omega
      obtain rfl : j = k := by omega
      have hbd := HBd.out
      rw [← HP.out.2] at hbd
      have hm := may_any 0 g c (ps.map (·.1)) wr hbd.exs
      rw [HP.out.1, sizes_len, HMAY.out] at hm
      have c0 := HX.out.c0
      clear hbd
      by_cases hle : 1 + 2 * (j : Int) ≤ 24
      · rw [decide_eq_true hle] at hm
        have dle : decide (1 + 2 * (j : Int) ≤ 24) = true := decide_eq_true hle
        go_wp2_with (go_at_call 14; refine (num_any _ _).mono ?_; rintro e w' ⟨rfl, rfl⟩)
        refine hm.mono ?_
        rintro e w4 ⟨rfl, hb4⟩
        go_wp2_with fail
        go_ret
        exact ⟨rfl, below_next HL.out hb4⟩
      · rw [decide_eq_false hle] at hm
        have dle : decide (1 + 2 * (j : Int) ≤ 24) = false := decide_eq_false hle
        go_wp2_with (go_at_call 14; refine (num_any _ _).mono ?_; rintro e w' ⟨rfl, rfl⟩)
        refine hm.mono ?_
        rintro e w4 ⟨rfl, hb4⟩
        go_wp2_with fail
        go_ret
        exact ⟨rfl, below_next HL.out hb4⟩

/- The row's step. -/
set_option maxRecDepth 100000 in
theorem lifted (os : Os) (started : os.Started) (H : Type) (enc : TypeId × Value → H) :
    ReturnsInHanded {} Try.checked os 6 .any (Rows.exprSizesSpec.pre6 enc Try.prog Try.f6 Rows.exprSizesRow.domain false) (Rows.exprSizesSpec.post enc Try.prog Try.f6 false true false false) := by
  refine returnsInHanded_of_change (C := Try.checked) own started (by kernel_rfl) Try.func6
    (ChangeSpec.witness6 (enc := enc) (C := Try.checked) false ⟨#[], #[.int .i64 0], []⟩ 8 (by kernel_rfl) (by kernel_rfl) (by kernel_rfl) (by kernel_rfl)) ?_
  intro W base args ds gs before hval0 hW hcnd _
  have hval : ∀ (j : Nat) t v, Try.f6.params[j]? = some t → args[j]? = some v → Value.okWide Try.prog W .any base t v := hval0
  have hW' := hW
  obtain ⟨p, q, hA0, hV, rfl, hfz, hnd⟩ := hW
  have hA : DataW.TrodAll enc Try.prog W 0 (fun _ => true) true Try.f6.params.toList args.toList ds p := hA0
  rw [Try.params6] at hA hval
  obtain ⟨v0, vs0, d0, ds0, p0, q0, hargs, rfl, rfl, h0, r0⟩ := trodAll_cons hA
  obtain ⟨rfl, rfl, rfl⟩ := trodAll_nil r0
  obtain rfl : args = #[v0] := by cases args; simp_all
  obtain ⟨rfl, rfl⟩ := trodVars_none hV
  obtain ⟨a0, rfl, rfl, rfl, w0⟩ := open_int Try.underlying3 (hval 0 3 v0 rfl rfl) h0
  clear hA0 hval0
  simp only [List.append_nil] at hW'
  refine (walk a0 W).mono fun e W' ⟨he, hg⟩ => ?_
  subst he
  exact ⟨_, rfl, _, _, _, [], [], [], hW', trodAll_cons_mk (shut_bool Try.underlying4 _) trodAll_mk0, (trodAll_cons_mk (shut_int Try.underlying3 w0) trodAll_mk0), rfl, hg.frame _, fun h => by cases h⟩

theorem over : Rows.exprSizesRow.holds Try.pinned (OpenSpec.ofChange Rows.exprSizesSpec) :=
  OpenClaim.holds_of_wide 6 Try.f6 rfl rfl rfl rfl rfl rfl rfl ⟨rfl, rfl, rfl, rfl, rfl⟩ rfl rfl rfl rfl rfl (by kernel_rfl) Try.func6 (by kernel_rfl)
    (of_decide_eq_true (by kernel_rfl)) (by unfold Func.isWrapper; first | (rw [if_pos (by decide +kernel)]; kernel_rfl) | (rw [if_neg (by decide +kernel)]; exact ⟨rfl, rfl⟩))
    (fun os started H enc _ => lifted os started H enc)

/-- The given statement. -/
theorem proved : Rows.ExprSizesSaid :=
  over
end Go.Proofs.Ytknbpfaeedapnaa.exprSizes
namespace Go.Proofs.Ytknbpfaeedapnaa
theorem exprSizes_holds : Rows.ExprSizesSaid := exprSizes.proved
end Go.Proofs.Ytknbpfaeedapnaa
