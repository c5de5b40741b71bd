/- The contract of lex.Words: the words of a text, or that it may not be. -/
import Derived.Test.YtmbjonfiphnlaaaDoorMore
import Derived.Test.YtmbjonfiphnlaaaDoorIter
import Derived.Test.YtmbjonfiphnlaaaDoorWrong
namespace Go.Proofs.YtmbjonfiphnlaaaDoor
open Go.RowKit Go.Shelf
set_option linter.unusedVariables false
attribute [local go_sem] Oper.semAt_some

/-- The words of the lines that came. -/
def fw (pre : List Ln) : List (List UInt8) := (pre.map (·.1)).flatMap said
theorem fw_snoc (pre : List Ln) (x : Ln) : fw (pre ++ [x]) = fw pre ++ said x.1 := by simp [fw]
theorem said_len (x : Ln) : (said x.1).length ≤ 2048 := by
  have h1 := wd_short (x.1.takeWhile (· != 35))
  have h2 := (List.takeWhile_sublist (· != 35) (l := x.1)).length_le
  have h3 := x.2.1
  unfold said
  omega
theorem fw_len : ∀ pre : List Ln, (fw pre).length ≤ 2048 * pre.length
  | [] => by simp [fw]
  | x :: pre => by
    have h1 := fw_len pre
    have h2 := said_len x
    show (said x.1 ++ fw pre).length ≤ _
    rw [List.length_append, List.length_cons]
    omega
theorem take_all : ∀ {l : List UInt8}, (∀ b ∈ l, b ≠ 35) → l.takeWhile (· != 35) = l
  | [], _ => rfl
  | c :: l, h => by
    rw [List.takeWhile_cons_of_pos (by simpa using h c (by simp)), take_all (fun b hb => h b (by simp [hb]))]
theorem take_part {p x : List UInt8} (h : ∀ b ∈ p, b ≠ 35) : (p ++ 35 :: x).takeWhile (· != 35) = p := by
  rw [List.takeWhile_append_of_pos (fun b hb => by simpa using h b hb), List.takeWhile_cons_of_neg (by decide)]
  simp
theorem ok_lt {b : UInt8} (h : okB b = true) : b.toNat < 128 := by
  unfold okB at h
  rcases Bool.or_eq_true_iff.1 h with h | h
  · have : b = 10 := by simpa using h
    subst this; decide
  · have := (Bool.and_eq_true_iff.1 h).2
    simp at this; omega

theorem Oth.boxed {n₀ : Nat} {A B : World} (h : Oth n₀ A B) {k : Nat} {v : Value} (hb : Boxed A k 22 v) : Boxed B k 22 v :=
  h.block k _ hb (fun _ cs fz e => by cases e)
theorem Oth.keeps {n₀ m : Nat} {A B : World} (h : Oth n₀ A B) : KeepsFrom m A B :=
  ⟨h.size, fun k o _ hk ho => h.block k o hk (fun _ cs fz e => by subst e; cases ho)⟩

/-- What Words answers. -/
def WordsQ (L : List UInt8) (w : World) (e : Ending) (w' : World) : Prop :=
  ∃ (g : Option Addr) (n c : Nat) (er : Int), e = .returned (.tuple #[.slice g n c, .int .i64 er]) ∧ Below w.heap.size w w' ∧
    ((good L = true ∧ er = 0 ∧ w'.ownsRow w.heap.size 9 1 (.slice g n c) (wd false [] L).length ((wd false [] L).map S)) ∨ (good L = false ∧ er = 400 ∧ g = none ∧ n = 0 ∧ c = 0))

set_option maxRecDepth 100000 in
set_option maxHeartbeats 2000000 in
theorem words_any (s : ByteArray) (w : World) :
    Calls Tryd.prog 8 #[.string s] w fun e w' => WordsQ s.data.toList w e w' := by
  have hlen : s.size = s.data.toList.length := ba_size s.data.toList
  refine (callsIn_wide (n := 3)).1 ?_
  refine callsIn_of_wp_marks Tryd.func8 rfl trivial ?_ rfl
  simp only [Tryd.ntmps8, List.size_toArray, List.length_cons, List.length_nil, Nat.reduceAdd, Nat.reduceSub, Array.replicate_succ, Array.replicate_zero, List.push_toArray, List.append_toArray, List.nil_append, List.cons_append]
  by_cases hs : s.size ≤ 2048
  · have hs' : ¬ (2048 : Int) < (s.size : Int) := by omega
    have hwr := wrong_any s w hs
    have hstops : (∀ b ∈ s.data.toList, okB b = true) → ∀ (Bn : Nat) (W : World), Bn < W.heap.size → W.cell? ⟨Bn, 0, none⟩ = some (.string s) → _ := fun hok Bn W h1 h2 => lines_stops 2 Bn s hs hok (by omega) W h1 h2
    obtain ⟨L, hL⟩ : ∃ L, s.data.toList = L := ⟨_, rfl⟩
    have HL : Hid (s.data.toList = L) := hL
    rw [hL] at hwr hstops ⊢
    have HLN : Hid (s.size = L.length) := by rw [← hL]; exact hlen
    clear hL hlen
    cases hb : L.all okB with
    | false =>
      rw [hb] at hwr
      have HG : Hid (good L = false) := by
        show good L = false
        unfold good; rw [hb]; simp
      clear hstops hb
      gi_wp2_with fail
      refine ⟨trivial, (callsIn_wide.2 hwr).mono ?_⟩
      rintro e w1 ⟨rfl, hb1⟩
      gi_wp2_with fail
      exact ⟨_, results_tmp2 rfl _ _ _, _, _, _, _, rfl, hb1, Or.inr ⟨HG.out, rfl, rfl, rfl, rfl⟩⟩
    | true =>
      rw [hb] at hwr
      have hlL : L.length ≤ 2048 := by have := HLN.out; omega
      have HG : Hid (good L = true) := by
        show good L = true
        unfold good; rw [hb]; simpa using hlL
      have hst := hstops (fun b h => List.all_eq_true.1 hb b h)
      have hN := ln_length L []
      clear hstops hb
      gi_wp2_with fail
      refine ⟨trivial, (callsIn_wide.2 hwr).mono ?_⟩
      rintro e w1 ⟨rfl, hb1⟩
      clear hwr
      gi_wp2_with fail
      refine ⟨trivial, (callsIn_wide.2 (lines_any s _)).mono ?_⟩
      rintro e w2 ⟨rfl, rfl⟩
      gi_wp2_with fail
      have hz := hb1.size
      have bO := Boxed.new w1 22 (.slice none 0 0)
      have bN := Boxed.new (w1.alloc (.cells #[.slice none 0 0] 22)) 9 (.string s)
      rw [World.size_alloc] at bN
      have hB0 : Below w.heap.size w ((w1.alloc (.cells #[.slice none 0 0] 22)).alloc (.cells #[.string s] 9)) := (hb1.alloc hz _).alloc (by simp; omega) _
      refine wpIn_rangeFunc_ownG rfl (by omega) (gf := 20) (lb := #[.pointer (some ⟨w1.heap.size + 1, 0, none⟩)]) rfl trivial (enters_of Tryd.func20 (by kernel_rfl) rfl)
        (hst (w1.heap.size + 1) _ (by simp) bN.cell) (fun _ _ => trivial) (fun _ _ _ _ _ _ _ _ => trivial) (Below.refl _ _) (fun _ => rfl)
        (fun pre W => (∃ v, Boxed W w1.heap.size 22 v ∧ W.ownsRow w.heap.size 9 1 v (fw pre).length ((fw pre).map S) ∧ True) ∧ Below w.heap.size w W)
        (fun _ _ _ => False)
        (OwnFrom.and (Own.from (holdsRow_own w.heap.size w1.heap.size 22 9 1 (fun pre => (fw pre).length) (fun pre => (fw pre).map S) (fun _ _ => True)) _) (ownFrom_below (Nat.le_refl _) (by simp; omega)))
        (fun _ _ _ _ _ hs _ _ => hs)
        ⟨⟨_, bO.alloc _, World.ownsRow_nil _ _ _ _, trivial⟩, hB0⟩
        (fun x => { tmps := #[.string s, undef, .slice none 0 0, .int .i64 0, .pointer (some ⟨w1.heap.size, 0, none⟩), .string (ba x.1), undef, undef, undef, .string s, .int .i64 s.size, .bool false, .bool false, .string s, .bool false, .bool false, .string s, .func (.func 20) #[] #[.pointer (some ⟨w1.heap.size + 1, 0, none⟩)], .string (ba x.1), undef, undef, undef, undef, undef, undef, undef, undef, undef, undef], defers := [] }) ?assign ?body ?done ?stop
      case assign =>
        intro l x W K hK
        gi_wp2
        exact hK
      case body =>
        clear hst bN bO hB0
        rintro l pre x W ⟨⟨v, hv, hrow, _⟩, hB⟩ hlt
        obtain ⟨gv, cv, rfl, _⟩ := own_len hrow
        have hcut := cut_any (ba x.1) 35 W (by rw [ba_size]; exact x.2.1)
        rw [ba_list] at hcut
        have hfl : (fw pre).length ≤ 1073741824 := by
          have := fw_len pre; omega
        have key : ∀ p : List UInt8, p.length ≤ 2048 → lineB p → ∀ q : Nat, Calls Tryd.prog 17 #[.slice gv (fw pre).length cv, .string (ba p)] (W.drewN q) fun e w' => ∃ v', e = .returned v' ∧ w'.ownsRow w.heap.size 9 1 v' (fw pre ++ wd false [] p).length ((fw pre ++ wd false [] p).map S) ∧ Oth w.heap.size (W.drewN q) w' :=
          fun p h1 h2 q => more_any w.heap.size _ (fw pre) (ba p) (W.drewN q) (own_below hrow (below_drewN _ _ _)) hB.size (by rw [ba_size]; exact h1) h2 hfl
        have ends : ∀ (p : List UInt8) (q : Nat) (g' : Option Addr) (n' c' : Nat) (W' : World), wd false [] p = said x.1 → W'.ownsRow w.heap.size 9 1 (.slice g' n' c') (fw pre ++ wd false [] p).length ((fw pre ++ wd false [] p).map S) → Oth w.heap.size (W.drewN q) W' →
            KeepsFrom ((w1.alloc (.cells #[.slice none 0 0] 22)).alloc (.cells #[.string s] 9)).heap.size W (W'.setCell ⟨w1.heap.size, 0, none⟩ (.slice g' n' c')) ∧ True ∧
            (∃ v, Boxed (W'.setCell ⟨w1.heap.size, 0, none⟩ (.slice g' n' c')) w1.heap.size 22 v ∧ (W'.setCell ⟨w1.heap.size, 0, none⟩ (.slice g' n' c')).ownsRow w.heap.size 9 1 v (fw (pre ++ [x])).length ((fw (pre ++ [x])).map S) ∧ True) ∧
            Below w.heap.size w (W'.setCell ⟨w1.heap.size, 0, none⟩ (.slice g' n' c')) := by
          intro p q g' n' c' W' he ho hO
          have hv1 : Boxed W' w1.heap.size 22 _ := hO.boxed (A := W.drewN q) hv
          refine ⟨((show KeepsFrom _ W (W.drewN q) from ⟨Nat.le_refl _, fun _ _ _ h _ => h⟩).trans (hO.keeps (A := W.drewN q))).trans ((KeepsOthers.setCell _ _ _).from _), trivial, ⟨_, hv1.set _, ?_, trivial⟩, ?_⟩
          · rw [fw_snoc, ← he]
            exact ho.kept (grownBy_setCell' W' w1.heap.size _) (.inr (hv1.not_row (by decide) ho).symm)
          · exact ((hB.trans (below_drewN _ _ q)).trans (hO.below (A := W.drewN q) hB.size)).setCell (p := ⟨w1.heap.size, 0, none⟩) hz _
        have HE : Hid _ := ends
        clear ends
        have hc := hv.cell
        have hf := hv.frozen
        gi_wp2_with fail
        refine ⟨trivial, CallsIn.inRound l ((callsIn_wide.2 hcut).mono ?_)⟩
        clear hcut
        rintro e w2 ⟨⟨hno, rfl⟩ | ⟨p, y, hl, hp, rfl⟩, q, rfl⟩
        · have hl1 : lineB x.1 := fun b hb => ⟨ok_lt (x.2.2 b hb).1, (x.2.2 b hb).2, hno b hb⟩
          have hk := key x.1 x.2.1 hl1 q
          have HS : Hid (wd false [] x.1 = said x.1) := by
            show wd false [] x.1 = said x.1
            unfold said; rw [take_all hno]
          have hc2 : (W.drewN q).cell? ⟨w1.heap.size, 0, none⟩ = some (.slice gv (fw pre).length cv) := hc
          clear hno key hl1
          gi_wp2_with fail
          refine ⟨trivial, CallsIn.inRound l ((callsIn_wide.2 hk).mono ?_)⟩
          rintro e w3 ⟨v', rfl, ho3, hO3⟩
          obtain ⟨g', c', rfl, _⟩ := own_len ho3
          have hv3 : Boxed w3 w1.heap.size 22 _ := hO3.boxed (A := W.drewN q) hv
          have hc3 := hv3.cell
          have hf3 := hv3.frozen
          have HF : Hid _ := HE.out x.1 q _ _ _ w3 HS.out ho3 hO3
          clear hk ho3 hO3 hv3 HE
          gi_wp2_with fail
          have h := HF.out
          rw [List.length_append] at h
          exact h
        · have hpx : p.length ≤ 2048 := by have := x.2.1; rw [hl] at this; simp at this; omega
          have hl1 : lineB p := fun b hb => by
            have := x.2.2 b (by rw [hl]; exact List.mem_append_left _ hb)
            exact ⟨ok_lt this.1, this.2, hp b hb⟩
          have hk := key p hpx hl1 q
          have HS : Hid (wd false [] p = said x.1) := by
            show wd false [] p = said x.1
            unfold said; rw [hl, take_part hp]
          have hc2 : (W.drewN q).cell? ⟨w1.heap.size, 0, none⟩ = some (.slice gv (fw pre).length cv) := hc
          clear hl hp key hl1
          gi_wp2_with fail
          refine ⟨trivial, CallsIn.inRound l ((callsIn_wide.2 hk).mono ?_)⟩
          rintro e w3 ⟨v', rfl, ho3, hO3⟩
          obtain ⟨g', c', rfl, _⟩ := own_len ho3
          have hv3 : Boxed w3 w1.heap.size 22 _ := hO3.boxed (A := W.drewN q) hv
          have hc3 := hv3.cell
          have hf3 := hv3.frozen
          have HF : Hid _ := HE.out p q _ _ _ w3 HS.out ho3 hO3
          clear hk ho3 hO3 hv3 HE
          gi_wp2_with fail
          have h := HF.out
          rw [List.length_append] at h
          exact h
      case done =>
        rintro D ys W hD hys ⟨⟨v, hv, hrow, _⟩, hB⟩ hK
        have hc := hv.cell
        obtain ⟨gv, cv, rfl, _⟩ := own_len hrow
        have HW : Hid (fw ys = wd false [] L) := by
          show fw ys = _
          unfold fw; rw [hys, ln_said L [] (by simp)]; rfl
        have HR : Hid _ := hrow
        clear hrow hys hst
        gi_wp2
        refine ⟨by simp, .inl ⟨_, _, rfl, run_takeDeferred hK, ?_⟩⟩
        refine ⟨_, results_tmp2 rfl _ _ _, _, _, _, _, rfl, hB.trans (belowK_b (w := w) (Nat.le_refl _) W D _ _ (by simp at hD; omega) hK rfl rfl), Or.inl ⟨HG.out, rfl, ?_⟩⟩
        rw [← HW.out]
        exact ownsRow_putObj HR.out _ hK rfl
      case stop =>
        rintro D c pre W _ _ h _
        exact h.elim
  · have hs' : (2048 : Int) < (s.size : Int) := by omega
    have HG : Hid (good s.data.toList = false) := by
      show good _ = false
      unfold good; rw [← hlen]
      simp [hs]
    clear hlen hs
    gi_wp2_with fail
    refine ⟨trivial, ?_⟩
    gi_wp2_with fail
    exact ⟨_, results_tmp2 rfl _ _ _, _, _, _, _, rfl, Below.refl _ _, Or.inr ⟨HG.out, rfl, rfl, rfl, rfl⟩⟩
end Go.Proofs.YtmbjonfiphnlaaaDoor
