/- The contract of expr.May: which definitions may be. -/
import Derived.Test.YtiobjkmpeiohdaaFits
import Derived.Test.YtiobjkmpeiohdaaRep
import Derived.Test.YtiobjkmpeiohdaaHand
import Derived.Test.YtiobjkmpeiohdaaBack
import Derived.Test.YtiobjkmpeiohdaaRound
namespace Go.Proofs.Ytiobjkmpeiohdaa
open Go.RowKit Go.Shelf
set_option linter.unusedVariables false
attribute [local go_sem] Oper.semAt_some

theorem may_no {p : Int} {xs : List Ex} (h : withB p 0 3 = false ∨ withB (xs.length : Int) 1 24 = false) : may p xs = false := by
  unfold may
  rw [if_neg]
  intro hc
  rcases h with h | h
  · exact withB_not.1 h ⟨hc.1, hc.2.1⟩
  · exact withB_not.1 h ⟨by omega, by omega⟩
theorem may_yes {p : Int} {xs : List Ex} (h1 : withB p 0 3 = true) (h2 : withB (xs.length : Int) 1 24 = true) : may p xs = (run (start p xs.length) (backw xs)).isSome := by
  have h1 := withB_iff.1 h1
  have h2 := withB_iff.1 h2
  unfold may
  rw [if_pos ⟨h1.1, h1.2, by omega, by omega⟩]
/-- A part's box. -/
def Box4 (w : World) (b : Nat) (e : Ex) (g : Option Addr) (c : Nat) : Prop := w.heap[b]? = some (.cells #[.int .i64 e.kind, .int .i64 e.num, .int .i64 e.bind, .slice g e.kids.length c] 33 (0, 0))
theorem Box4.lt {w : World} {b : Nat} {e : Ex} {g : Option Addr} {c : Nat} (h : Box4 w b e g c) : b < w.heap.size := (Array.getElem?_eq_some_iff.1 h).1
theorem Box4.kept {w w' : World} {row : Option Nat} {b : Nat} {e : Ex} {g : Option Addr} {c : Nat} (h : Box4 w b e g c) (hg : w.grownBy w' row) (hne : some b ≠ row) : Box4 w' b e g c := (hg.block b h.lt hne).trans h
theorem Box4.on {w w' : World} {b : Nat} {e : Ex} {g : Option Addr} {c : Nat} (h : Box4 w b e g c) (hb : Below w.heap.size w w') : Box4 w' b e g c := (hb.block b h.lt).trans h
theorem Box4.cell {w : World} {b : Nat} {e : Ex} {g : Option Addr} {c : Nat} (h : Box4 w b e g c) : w.cell? ⟨b, 0, none⟩ = some (.int .i64 e.kind) ∧ w.cell? ⟨b, 1, none⟩ = some (.int .i64 e.num) ∧ w.cell? ⟨b, 2, none⟩ = some (.int .i64 e.bind) ∧ w.cell? ⟨b, 3, none⟩ = some (.slice g e.kids.length c) := by
  unfold World.cell?
  simp only [show w.heap[b]? = _ from h]
  exact ⟨rfl, rfl, rfl, rfl⟩
theorem box4_own {β : Type} (b : Nat) (e : Ex) (g : Option Addr) (c : Nat) : Own (fun (_ : β) W => Box4 W b e g c) := fun s X Y row hs hg hrow =>
  hs.kept hg (fun e => by
    obtain ⟨o, ho, hc⟩ := hrow b e.symm
    rw [show X.heap[b]? = _ from hs] at ho; cases ho; cases hc)
/-- The levels when these parts have come. -/
def Lp {w0 : World} {n : Nat} (p : Int) (pre : List (Item w0 n)) : List Int := (run (start p n) (pre.map Item.pr)).getD []

theorem okE_kids {k m b t : Int} {n : Nat} (h : okE k m b n t = true) : n ≤ 3 := by
  by_cases hk : 0 ≤ k ∧ k ≤ 7
  · have hk : k = 0 ∨ k = 1 ∨ k = 2 ∨ k = 3 ∨ k = 4 ∨ k = 5 ∨ k = 6 ∨ k = 7 := by omega
    rcases hk with rfl | rfl | rfl | rfl | rfl | rfl | rfl | rfl
    · have := okE_0 m b n t |>.1 h; omega
    · have := okE_1 m b n t |>.1 h; omega
    · have := okE_2 m b n t |>.1 h; omega
    · have := okE_3 m b n t |>.1 h; omega
    · have := okE_4 m b n t |>.1 h; omega
    · have := okE_5 m b n t |>.1 h; omega
    · have := okE_6 m b n t |>.1 h; omega
    · have := okE_7 m b n t |>.1 h; omega
  · rw [okE_else k m b n t hk] at h; cases h
theorem cell_new (W : World) (cs : Array Value) (t : TypeId) (j : Nat) (v : Value) (h : cs[j]? = some v) : (W.alloc (.cells cs t)).cell? ⟨W.heap.size, j, none⟩ = some v := by
  have e := World.alloc_heap_new W (.cells cs t)
  unfold World.cell?
  simp only [e]
  exact h
theorem cell_old {W : World} (o : Obj) {b j : Nat} {v : Value} (h : W.cell? ⟨b, j, none⟩ = some v) : (W.alloc o).cell? ⟨b, j, none⟩ = some v := by
  rw [World.cell?_alloc_lt _ _ _ (World.block_lt_of_cell? W _ h)]; exact h

set_option maxRecDepth 100000 in
set_option maxHeartbeats 2000000 in
theorem may_any (p : Int) (g : Option Addr) (c : Nat) (xs : List Ex) (w : World) (hx : Exs w g xs) :
    Calls Try.prog 18 #[.agg #[.int .i64 p, .slice g xs.length c]] w fun e w' => e = .returned (.bool (may p xs)) ∧ Below w.heap.size w w' := by
  refine (callsIn_wide (n := 3)).1 ?_
  refine callsIn_of_wp_marks Try.func18 rfl trivial ?_ rfl
  simp only [Try.ntmps18, List.size_toArray, List.length_cons, List.length_nil, Nat.reduceAdd, Nat.reduceSub, Array.replicate_succ, Array.replicate_zero, List.push_toArray, List.append_toArray, List.nil_append, List.cons_append]
  cases hp : withB p 0 3 with
  | false =>
    have HM : Hid (may p xs = false) := may_no (.inl hp)
    gi_wp2_with fail
    refine ⟨trivial, (callsIn_wide.2 (within_any _ _ _ _)).mono ?_⟩
    rintro e w1 ⟨rfl, rfl⟩
    rw [hp]
    gi_wp2_with fail
    refine ⟨trivial, ?_⟩
    gi_wp2_with fail
    exact ⟨.bool false, by simp [results, Try.f18, go_sem], by rw [HM.out], ((Below.refl _ _).alloc (Nat.le_refl _) _).alloc (by simp) _⟩
  | true =>
    cases hn : withB (xs.length : Int) 1 24 with
    | false =>
      have HM : Hid (may p xs = false) := may_no (.inr hn)
      gi_wp2_with fail
      refine ⟨trivial, (callsIn_wide.2 (within_any _ _ _ _)).mono ?_⟩
      rintro e w1 ⟨rfl, rfl⟩
      rw [hp]
      gi_wp2_with fail
      refine ⟨trivial, (callsIn_wide.2 (within_any _ _ _ _)).mono ?_⟩
      rintro e w1 ⟨rfl, rfl⟩
      rw [hn]
      gi_wp2_with fail
      exact ⟨.bool false, by simp [results, Try.f18, go_sem], by rw [HM.out], ((Below.refl _ _).alloc (Nat.le_refl _) _).alloc (by simp) _⟩
    | true =>
      have hp' := withB_iff.1 hp
      have hn' := withB_iff.1 hn
      have HM : Hid (may p xs = (run (start p xs.length) (backw xs)).isSome) := may_yes hp hn
      gi_wp2_with fail
      refine ⟨trivial, (callsIn_wide.2 (within_any _ _ _ _)).mono ?_⟩
      rintro e w1 ⟨rfl, rfl⟩
      rw [hp]
      gi_wp2_with fail
      refine ⟨trivial, (callsIn_wide.2 (within_any _ _ _ _)).mono ?_⟩
      rintro e w1 ⟨rfl, rfl⟩
      rw [hn]
      have hx1 := cell_new ((w.alloc (.cells #[.int .i64 p, .slice g xs.length c] 36)).alloc (.cells #[.bool false] 4)) #[.int .i64 (-1)] 3 0 _ rfl
      have hd0 := cell_old (.cells #[.int .i64 (-1)] 3) (cell_old (.cells #[.bool false] 4) (cell_new w #[.int .i64 p, .slice g xs.length c] 36 0 _ rfl))
      have hd1 := cell_old (.cells #[.int .i64 (-1)] 3) (cell_old (.cells #[.bool false] 4) (cell_new w #[.int .i64 p, .slice g xs.length c] 36 1 _ rfl))
      simp only [World.size_alloc] at hx1
      have hrep := repeat_any (w.heap.size + 1 + 1) 1 xs.length _ hx1 (by omega) (by omega)
      simp only [World.size_alloc] at hrep
      clear hx1
      gi_wp2_with fail
      refine ⟨trivial, (callsIn_wide.2 hrep).mono ?_⟩
      clear hrep
      rintro e w1 ⟨rfl, hL1, hb1⟩
      have hz := hb1.size
      simp only [World.size_alloc] at hz
      have d0 : w1.cell? ⟨w.heap.size, 0, none⟩ = some (.int .i64 p) := (hb1.cell (p := ⟨w.heap.size, 0, none⟩) (by show w.heap.size < _; omega)).trans hd0
      have d1 : w1.cell? ⟨w.heap.size, 1, none⟩ = some (.slice g xs.length c) := (hb1.cell (p := ⟨w.heap.size, 1, none⟩) (by show w.heap.size < _; omega)).trans hd1
      clear hd0 hd1
      obtain ⟨nl, hnl⟩ : ∃ nl : Nat, nl + 1 = xs.length := ⟨xs.length - 1, by omega⟩
      have f0 := hL1.frozen nl
      have c0 := hL1.cell (j := nl) (v := -1) (by simp [← hnl])
      have HL1 : Hid (Lv w1 (w.heap.size + 1 + 1 + 1) (List.replicate xs.length (-1))) := hL1
      have HNL : Hid _ := hnl
      have hsub : (xs.length : Int) - 1 = (nl : Int) := by omega
      have hnlt : (nl : Int) < (xs.length : Int) := by omega
      have hw0 : w.heap.size < w1.heap.size := by omega
      have hw3 : w.heap.size + 1 + 1 + 1 < w1.heap.size := hL1.lt
      clear hL1 hnl
      gi_wp2_with fail
      refine ⟨trivial, (callsIn_wide.2 (backward_any g xs.length c _)).mono ?_⟩
      rintro e w2 ⟨rfl, rfl⟩
      have hR0 := (Boxed.new (w.alloc (.cells #[.int .i64 p, .slice g xs.length c] 36)) 4 (.bool false)).alloc (.cells #[.int .i64 (-1)] 3)
      rw [World.size_alloc] at hR0
      have hR1 : Boxed w1 (w.heap.size + 1) 4 (.bool false) := (hb1.block (w.heap.size + 1) (by omega)).trans hR0
      have hBl1 : Below w.heap.size w w1 := ((((Below.refl _ w).alloc (Nat.le_refl _) (.cells #[.int .i64 p, .slice g xs.length c] 36)).alloc (by simp) (.cells #[.bool false] 4)).alloc (by simp; omega) (.cells #[.int .i64 (-1)] 3)).trans (hb1.mono (by omega))
      have hBl0 : Below w.heap.size w (((w1.setCell ⟨w.heap.size + 1 + 1 + 1, nl, none⟩ (.int .i64 p)).alloc (.cells #[.slice (some ⟨w.heap.size + 1 + 1 + 1, 0, none⟩) xs.length xs.length] 31)).alloc (.cells #[.slice g xs.length c] 34)) :=
        ((hBl1.setCell (p := ⟨w.heap.size + 1 + 1 + 1, nl, none⟩) (by show _ ≤ w.heap.size + 1 + 1 + 1; omega) _).alloc (by simp; omega) _).alloc (by simp; omega) _
      have hst : (List.replicate xs.length (-1)).set nl p = start p xs.length := by
        unfold start
        rw [show xs.length - 1 = nl by have := HNL.out; omega]
      have bL : Lv (((w1.setCell ⟨w.heap.size + 1 + 1 + 1, nl, none⟩ (.int .i64 p)).alloc (.cells #[.slice (some ⟨w.heap.size + 1 + 1 + 1, 0, none⟩) xs.length xs.length] 31)).alloc (.cells #[.slice g xs.length c] 34)) (w.heap.size + 1 + 1 + 1) (start p xs.length) := by
        rw [← hst]; exact ((HL1.out.set nl p).alloc _).alloc _
      have bR := ((hR1.kept (grown_set w1 (w.heap.size + 1 + 1 + 1) nl (.int .i64 p)) (by intro e; have := Option.some.inj e; omega)).alloc (.cells #[.slice (some ⟨w.heap.size + 1 + 1 + 1, 0, none⟩) xs.length xs.length] 31)).alloc (.cells #[.slice g xs.length c] 34)
      have bV := (Boxed.new (w1.setCell ⟨w.heap.size + 1 + 1 + 1, nl, none⟩ (.int .i64 p)) 31 (.slice (some ⟨w.heap.size + 1 + 1 + 1, 0, none⟩) xs.length xs.length)).alloc (.cells #[.slice g xs.length c] 34)
      have bS := Boxed.new ((w1.setCell ⟨w.heap.size + 1 + 1 + 1, nl, none⟩ (.int .i64 p)).alloc (.cells #[.slice (some ⟨w.heap.size + 1 + 1 + 1, 0, none⟩) xs.length xs.length] 31)) 34 (.slice g xs.length c)
      have hsz : (((w1.setCell ⟨w.heap.size + 1 + 1 + 1, nl, none⟩ (.int .i64 p)).alloc (.cells #[.slice (some ⟨w.heap.size + 1 + 1 + 1, 0, none⟩) xs.length xs.length] 31)).alloc (.cells #[.slice g xs.length c] 34)).heap.size = w1.heap.size + 1 + 1 := by simp
      simp only [World.size_alloc, World.size_setCell] at bV bS
      obtain ⟨bk, o, rfl, hbk, hxx⟩ : ∃ bk o, g = some ⟨bk, o, none⟩ ∧ bk < w.heap.size ∧ ∀ (j : Nat) x, xs[j]? = some x → ∃ gk ck, ExAt w bk (o + j * 4) x gk ck := by
        rcases hx with h | h
        · rw [h] at hn'; simp at hn'
        · exact h
      obtain ⟨its, hits⟩ := its_of hxx
      obtain ⟨W0, hW0⟩ : ∃ W0, ((w1.setCell ⟨w.heap.size + 1 + 1 + 1, nl, none⟩ (.int .i64 p)).alloc (.cells #[.slice (some ⟨w.heap.size + 1 + 1 + 1, 0, none⟩) xs.length xs.length] 31)).alloc (.cells #[.slice (some ⟨bk, o, none⟩) xs.length c] 34) = W0 := ⟨_, rfl⟩
      rw [hW0] at hBl0 bL bR bV bS hsz ⊢
      clear hW0 hst hR0 hR1 hBl1 c0 f0 d0 d1 HL1 hb1 hx hxx hsub hnlt
      gi_wp2_with fail
      refine wpIn_rangeFunc_ownH rfl (by omega) (gf := 33) (lb := #[.pointer (some ⟨w1.heap.size + 1, 0, none⟩)]) rfl trivial (enters_of Try.func33 (by kernel_rfl) rfl)
        (back_stops 2 (w1.heap.size + 1) w.heap.size bk o c w xs its hits (by omega) (by omega) hbk W0 hBl0 (Nat.le_refl _) (by omega) bS.cell)
        (fun h k => Kb.trans h k) (fun W l a b hl h1 h2 h3 => ⟨belowK_b (w := w) (Nat.le_refl _) W l a b (by omega) h1 h2 h3, ?kb⟩) (Below.refl _ _) (fun _ => rfl)
        (fun pre W => (((((run (start p xs.length) (pre.map Item.pr)).isSome = true ∧ Lv W (w.heap.size + 1 + 1 + 1) (Lp p pre)) ∧ Boxed W w1.heap.size 31 (.slice (some ⟨w.heap.size + 1 + 1 + 1, 0, none⟩) xs.length xs.length)) ∧ Boxed W (w.heap.size + 1) 4 (.bool false)) ∧ Boxed W (w1.heap.size + 1) 34 (.slice (some ⟨bk, o, none⟩) xs.length c)) ∧ Below w.heap.size w W)
        (fun c pre W => ((c = .ret ∧ run (start p xs.length) (pre.map Item.pr) = none) ∧ Boxed W (w.heap.size + 1) 4 (.bool false)) ∧ Below w.heap.size w W)
        (OwnFrom.and (OwnFrom.and (OwnFrom.and (OwnFrom.and (OwnFrom.and (ownFrom_pure _ _) (Own.from (lv_own _ _) _)) (Own.from (boxed_own _ _ _) _)) (Own.from (boxed_own _ _ _) _)) (Own.from (boxed_own _ _ _) _)) (ownFrom_below (Nat.le_refl _) (by omega)))
        (fun c => OwnFrom.and (OwnFrom.and (ownFrom_pure _ _) (Own.from (boxed_own _ _ _) _)) (ownFrom_below (Nat.le_refl _) (by omega)))
        ⟨⟨⟨⟨⟨rfl, bL⟩, bV⟩, bR⟩, bS⟩, hBl0⟩
        (fun x a' W => ∃ Bx, w1.heap.size + 1 < Bx ∧ Box4 W Bx x.1.e x.1.g x.1.c ∧ a' = { tmps := #[.agg #[.int .i64 p, .slice (some ⟨bk, o, none⟩) xs.length c], .pointer (some ⟨w.heap.size, 0, none⟩), .pointer (some ⟨w.heap.size + 1, 0, none⟩), .pointer (some ⟨w1.heap.size, 0, none⟩), .int .i64 (x.1.at_ : Int), .pointer (some ⟨Bx, 0, none⟩), undef, .pointer (some ⟨w.heap.size, 0, none⟩), .int .i64 p, .bool true, .bool false, .bool false, .pointer (some ⟨w.heap.size, 1, none⟩), .slice (some ⟨bk, o, none⟩) xs.length c, .int .i64 (xs.length : Int), .bool true, .bool false, .bool false, .slice (some ⟨w.heap.size + 1 + 1, 0, none⟩) 1 1, .pointer (some ⟨w.heap.size, 1, none⟩), .slice (some ⟨bk, o, none⟩) xs.length c, .int .i64 (xs.length : Int), .slice (some ⟨w.heap.size + 1 + 1 + 1, 0, none⟩) xs.length xs.length, .slice (some ⟨w.heap.size + 1 + 1 + 1, 0, none⟩) xs.length xs.length, .slice (some ⟨w.heap.size + 1 + 1 + 1, 0, none⟩) xs.length xs.length, .int .i64 (xs.length : Int), .int .i64 (nl : Int), .pointer (some ⟨w.heap.size, 0, none⟩), .int .i64 p, .pointer (some ⟨w.heap.size + 1 + 1 + 1, nl, none⟩), .pointer (some ⟨w.heap.size, 1, none⟩), .slice (some ⟨bk, o, none⟩) xs.length c, .func (.func 33) #[] #[.pointer (some ⟨w1.heap.size + 1, 0, none⟩)], .int .i64 (x.1.at_ : Int), eV x.1.e x.1.g x.1.c, undef, undef, undef, undef, undef, undef, undef, undef, undef, undef, undef, undef, undef, undef, undef, undef, undef, undef, undef, undef, undef], defers := [] })
        (fun x a' _ X Y row hs hg hr => by obtain ⟨Bx, e1, e2, e3⟩ := hs; exact ⟨Bx, e1, box4_own (β := Unit) Bx _ _ _ () X Y row e2 hg (fun r e => (hr r e).2), e3⟩)
        ?assign ?body ?done ?stop
      case kb => exact World.putObj_heap_other (by omega)
      case assign =>
        rintro l pre x W K ⟨⟨⟨⟨⟨hp1, bL1⟩, bV1⟩, bR1⟩, bS1⟩, hB1⟩ hK
        gi_wp2
        have hzS := bS1.lt
        exact hK _ _ ((KeepsOthers.alloc _ _).from _) ⟨(Below.refl _ W).alloc hB1.size _, Below.heap_alloc W _ _ hzS⟩ ⟨⟨⟨⟨⟨hp1, bL1.alloc _⟩, bV1.alloc _⟩, bR1.alloc _⟩, bS1.alloc _⟩, hB1.alloc hB1.size _⟩ ⟨W.heap.size, hzS, World.alloc_heap_new W _, rfl⟩
      case body =>
        rintro l pre x a' W hl ⟨r, hr⟩ ⟨⟨⟨⟨⟨hp1, bL1⟩, bV1⟩, bR1⟩, bS1⟩, hB1⟩ ⟨Bx, hBx, bX, rfl⟩ hlt
        obtain ⟨L, hL⟩ := Option.isSome_iff_exists.1 hp1
        have hLp : Lp p pre = L := by unfold Lp; rw [hL]; rfl
        rw [hLp] at bL1
        have hLn : L.length = xs.length := by rw [run_len hL, start_len]
        have hLf : Fine L := run_fine (start_fine hp'.1 hp'.2) hL
        obtain ⟨t, ht⟩ : ∃ t, L[x.1.at_]? = some t := ⟨_, List.getElem?_eq_getElem (by rw [hLn]; exact x.2.1)⟩
        have htf := hLf t (List.mem_of_getElem? ht)
        have hsn : run (start p xs.length) ((pre ++ [x]).map Item.pr) = stp L x.pr := by
          rw [List.map_append, List.map_cons, List.map_nil, run_snoc, hL]; rfl
        have hstp : stp L x.pr = if t = -1 then none else if x.1.e.ok t = false then none else hd x.1.at_ x.1.e t 0 x.1.e.kids L := by
          unfold stp
          simp only [show x.pr.1 = x.1.at_ from rfl, show x.pr.2 = x.1.e from rfl, ht]
        have HS : Hid (run (start p xs.length) ((pre ++ [x]).map Item.pr) = if t = -1 then none else if x.1.e.ok t = false then none else hd x.1.at_ x.1.e t 0 x.1.e.kids L) := hsn.trans hstp
        have hat : (x.1.at_ : Int) < (xs.length : Int) := by have := x.2.1; omega
        have hat' : (x.1.at_ : Int) ≤ (xs.length : Int) := by omega
        have cV := bV1.cell
        have cL := bL1.cell ht
        have cR := bR1.cell
        have fR := bR1.frozen
        clear hsn hstp hLp hp1 hits
        have hmx : Try.prog.follows .mixedOrders = true := by kernel_rfl
        obtain ⟨x0, x1, x2, x3⟩ := bX.cell
        have hS0 := And.intro x0 (And.intro x1 (And.intro x2 (And.intro x3 cV)))
        by_cases h1 : t = -1
        · subst h1
          have HN : Hid (run (start p xs.length) ((pre ++ [x]).map Item.pr) = none) := by
            show _ = _
            rw [HS.out, if_pos rfl]
          clear HS
          gi_wp2_with fail
          refine region_round (S := fun v => v.cell? ⟨Bx, 0, none⟩ = some (.int .i64 x.1.e.kind) ∧ v.cell? ⟨Bx, 1, none⟩ = some (.int .i64 x.1.e.num) ∧ v.cell? ⟨Bx, 2, none⟩ = some (.int .i64 x.1.e.bind) ∧ v.cell? ⟨Bx, 3, none⟩ = some (.slice x.1.g x.1.e.kids.length x.1.c) ∧ v.cell? ⟨w1.heap.size, 0, none⟩ = some (.slice (some ⟨w.heap.size + 1 + 1 + 1, 0, none⟩) xs.length xs.length)) hmx (by kernel_rfl) (by rintro ⟨a, v, h⟩; exact h) ?_
          show wpAnyH _ _ _ _ _ 17 #[false, false, false, false, false, false, false, false, false, false, false, false, false, false, false, false, false] _ _
          refine takeH 0 (some 39) (.int .i64 (-1)) rfl (by kernel_rfl) (by kernel_rfl) (by kernel_rfl) (fun _ _ _ h => h) (by rintro _ ⟨⟩; exact Or.inl ⟨by rfl, fun v hv => by obtain ⟨v0, v1, v2, v3, v4⟩ := hv; go_simp⟩) hS0 ?_
          simp only [Act.put, List.setIfInBounds_toArray, List.set_cons_zero, List.set_cons_succ]
          refine takeH 1 (some 40) (.bool true) rfl (by kernel_rfl) (by kernel_rfl) (by kernel_rfl) (fun _ _ _ h => h) (by rintro _ ⟨⟩; exact Or.inl ⟨by rfl, fun v hv => by obtain ⟨v0, v1, v2, v3, v4⟩ := hv; go_simp⟩) hS0 ?_
          simp only [Act.put, List.setIfInBounds_toArray, List.set_cons_zero, List.set_cons_succ]
          refine takeH 2 (some 41) (.bool true) rfl (by kernel_rfl) (by kernel_rfl) (by kernel_rfl) (fun _ _ _ h => h) (by rintro _ ⟨⟩; exact Or.inl ⟨by rfl, fun v hv => by obtain ⟨v0, v1, v2, v3, v4⟩ := hv; go_simp⟩) hS0 ?_
          simp only [Act.put, List.setIfInBounds_toArray, List.set_cons_zero, List.set_cons_succ]
          refine takeH 3 (some 42) (undef) rfl (by kernel_rfl) (by kernel_rfl) (by kernel_rfl) (fun _ _ _ h => h) (by rintro _ ⟨⟩; exact Or.inr ⟨by rfl, rfl⟩) hS0 ?_
          simp only [Act.put, List.setIfInBounds_toArray, List.set_cons_zero, List.set_cons_succ]
          refine takeH 4 (some 43) (undef) rfl (by kernel_rfl) (by kernel_rfl) (by kernel_rfl) (fun _ _ _ h => h) (by rintro _ ⟨⟩; exact Or.inr ⟨by rfl, rfl⟩) hS0 ?_
          simp only [Act.put, List.setIfInBounds_toArray, List.set_cons_zero, List.set_cons_succ]
          refine takeH 5 (some 44) (undef) rfl (by kernel_rfl) (by kernel_rfl) (by kernel_rfl) (fun _ _ _ h => h) (by rintro _ ⟨⟩; exact Or.inr ⟨by rfl, rfl⟩) hS0 ?_
          simp only [Act.put, List.setIfInBounds_toArray, List.set_cons_zero, List.set_cons_succ]
          refine takeH 6 (some 45) (undef) rfl (by kernel_rfl) (by kernel_rfl) (by kernel_rfl) (fun _ _ _ h => h) (by rintro _ ⟨⟩; exact Or.inr ⟨by rfl, rfl⟩) hS0 ?_
          simp only [Act.put, List.setIfInBounds_toArray, List.set_cons_zero, List.set_cons_succ]
          refine takeH 7 (some 46) (.bool true) rfl (by kernel_rfl) (by kernel_rfl) (by kernel_rfl) (fun _ _ _ h => h) (by rintro _ ⟨⟩; exact Or.inl ⟨by rfl, fun v hv => by obtain ⟨v0, v1, v2, v3, v4⟩ := hv; go_simp⟩) hS0 ?_
          simp only [Act.put, List.setIfInBounds_toArray, List.set_cons_zero, List.set_cons_succ]
          refine takeH 8 (some 47) (.bool true) rfl (by kernel_rfl) (by kernel_rfl) (by kernel_rfl) (fun _ _ _ h => h) (by rintro _ ⟨⟩; exact Or.inl ⟨by rfl, fun v hv => by obtain ⟨v0, v1, v2, v3, v4⟩ := hv; go_simp⟩) hS0 ?_
          simp only [Act.put, List.setIfInBounds_toArray, List.set_cons_zero, List.set_cons_succ]
          refine takeH 9 (some 48) (undef) rfl (by kernel_rfl) (by kernel_rfl) (by kernel_rfl) (fun _ _ _ h => h) (by rintro _ ⟨⟩; exact Or.inr ⟨by rfl, rfl⟩) hS0 ?_
          simp only [Act.put, List.setIfInBounds_toArray, List.set_cons_zero, List.set_cons_succ]
          refine takeH 10 (some 49) (undef) rfl (by kernel_rfl) (by kernel_rfl) (by kernel_rfl) (fun _ _ _ h => h) (by rintro _ ⟨⟩; exact Or.inr ⟨by rfl, rfl⟩) hS0 ?_
          simp only [Act.put, List.setIfInBounds_toArray, List.set_cons_zero, List.set_cons_succ]
          refine takeH 11 (some 50) (undef) rfl (by kernel_rfl) (by kernel_rfl) (by kernel_rfl) (fun _ _ _ h => h) (by rintro _ ⟨⟩; exact Or.inr ⟨by rfl, rfl⟩) hS0 ?_
          simp only [Act.put, List.setIfInBounds_toArray, List.set_cons_zero, List.set_cons_succ]
          refine takeH 12 (some 51) (undef) rfl (by kernel_rfl) (by kernel_rfl) (by kernel_rfl) (fun _ _ _ h => h) (by rintro _ ⟨⟩; exact Or.inr ⟨by rfl, rfl⟩) hS0 ?_
          simp only [Act.put, List.setIfInBounds_toArray, List.set_cons_zero, List.set_cons_succ]
          refine takeH 13 (some 52) (undef) rfl (by kernel_rfl) (by kernel_rfl) (by kernel_rfl) (fun _ _ _ h => h) (by rintro _ ⟨⟩; exact Or.inr ⟨by rfl, rfl⟩) hS0 ?_
          simp only [Act.put, List.setIfInBounds_toArray, List.set_cons_zero, List.set_cons_succ]
          refine takeH 14 (some 53) (undef) rfl (by kernel_rfl) (by kernel_rfl) (by kernel_rfl) (fun _ _ _ h => h) (by rintro _ ⟨⟩; exact Or.inr ⟨by rfl, rfl⟩) hS0 ?_
          simp only [Act.put, List.setIfInBounds_toArray, List.set_cons_zero, List.set_cons_succ]
          refine takeH 15 (some 54) (undef) rfl (by kernel_rfl) (by kernel_rfl) (by kernel_rfl) (fun _ _ _ h => h) (by rintro _ ⟨⟩; exact Or.inr ⟨by rfl, rfl⟩) hS0 ?_
          simp only [Act.put, List.setIfInBounds_toArray, List.set_cons_zero, List.set_cons_succ]
          refine takeH 16 (some 55) (.bool true) rfl (by kernel_rfl) (by kernel_rfl) (by kernel_rfl) (fun _ _ _ h => h) (by rintro _ ⟨⟩; exact Or.inl ⟨by rfl, fun v hv => by obtain ⟨v0, v1, v2, v3, v4⟩ := hv; go_simp⟩) hS0 ?_
          simp only [Act.put, List.setIfInBounds_toArray, List.set_cons_zero, List.set_cons_succ]
          refine wpAnyH_done (by kernel_rfl) ?_ _
          gi_wp2
          exact ⟨((KeepsOthers.setCell W _ _).trans (KeepsOthers.drew _)).from _, ⟨⟨rfl, HN.out⟩, (bR1.set (.bool false) : Boxed (W.setCell ⟨w.heap.size + 1, 0, none⟩ (.bool false)) _ _ _)⟩, (hB1.setCell (p := ⟨w.heap.size + 1, 0, none⟩) (by show _ ≤ w.heap.size + 1; omega) _).drew⟩
        · have e1 : (t == -1) = false := by simpa using h1
          have hfit := fits_any x.1.e.kind x.1.e.num x.1.e.bind t x.1.g x.1.e.kids.length x.1.c W.drew (by omega) (by omega)
          cases hok : okE x.1.e.kind x.1.e.num x.1.e.bind x.1.e.kids.length t with
          | false =>
            rw [hok] at hfit
            have HN : Hid (run (start p xs.length) ((pre ++ [x]).map Item.pr) = none) := by
              show _ = _
              rw [HS.out, if_neg h1, if_pos (show x.1.e.ok t = false from hok)]
            clear HS
            gi_wp2_with fail
            refine region_round (S := fun v => v.cell? ⟨Bx, 0, none⟩ = some (.int .i64 x.1.e.kind) ∧ v.cell? ⟨Bx, 1, none⟩ = some (.int .i64 x.1.e.num) ∧ v.cell? ⟨Bx, 2, none⟩ = some (.int .i64 x.1.e.bind) ∧ v.cell? ⟨Bx, 3, none⟩ = some (.slice x.1.g x.1.e.kids.length x.1.c) ∧ v.cell? ⟨w1.heap.size, 0, none⟩ = some (.slice (some ⟨w.heap.size + 1 + 1 + 1, 0, none⟩) xs.length xs.length)) hmx (by kernel_rfl) (by rintro ⟨a, v, h⟩; exact h) ?_
            show wpAnyH _ _ _ _ _ 17 #[false, false, false, false, false, false, false, false, false, false, false, false, false, false, false, false, false] _ _
            refine takeH 0 (some 39) (.int .i64 t) rfl (by kernel_rfl) (by kernel_rfl) (by kernel_rfl) (fun _ _ _ h => h) (by rintro _ ⟨⟩; exact Or.inl ⟨by rfl, fun v hv => by obtain ⟨v0, v1, v2, v3, v4⟩ := hv; go_simp⟩) hS0 ?_
            simp only [Act.put, List.setIfInBounds_toArray, List.set_cons_zero, List.set_cons_succ]
            refine takeH 1 (some 40) (.bool false) rfl (by kernel_rfl) (by kernel_rfl) (by kernel_rfl) (fun _ _ _ h => h) (by rintro _ ⟨⟩; exact Or.inl ⟨by rfl, fun v hv => by obtain ⟨v0, v1, v2, v3, v4⟩ := hv; go_simp⟩) hS0 ?_
            simp only [Act.put, List.setIfInBounds_toArray, List.set_cons_zero, List.set_cons_succ]
            refine takeH 2 (some 41) (.bool false) rfl (by kernel_rfl) (by kernel_rfl) (by kernel_rfl) (fun _ _ _ h => h) (by rintro _ ⟨⟩; exact Or.inl ⟨by rfl, fun v hv => by obtain ⟨v0, v1, v2, v3, v4⟩ := hv; go_simp⟩) hS0 ?_
            simp only [Act.put, List.setIfInBounds_toArray, List.set_cons_zero, List.set_cons_succ]
            refine takeH 3 (some 42) (eV x.1.e x.1.g x.1.c) rfl (by kernel_rfl) (by kernel_rfl) (by kernel_rfl) (fun _ _ _ h => h) (by rintro _ ⟨⟩; exact Or.inl ⟨by rfl, fun v hv => by obtain ⟨v0, v1, v2, v3, v4⟩ := hv; go_simp⟩) hS0 ?_
            simp only [Act.put, List.setIfInBounds_toArray, List.set_cons_zero, List.set_cons_succ]
            refine takeH 4 (some 43) (.int .i64 t) rfl (by kernel_rfl) (by kernel_rfl) (by kernel_rfl) (fun _ _ _ h => h) (by rintro _ ⟨⟩; exact Or.inl ⟨by rfl, fun v hv => by obtain ⟨v0, v1, v2, v3, v4⟩ := hv; go_simp⟩) hS0 ?_
            simp only [Act.put, List.setIfInBounds_toArray, List.set_cons_zero, List.set_cons_succ]
            refine oneH 5 (by kernel_rfl) (callH 5 26 (some 44) #[eV x.1.e x.1.g x.1.c, .int .i64 t] rfl (by rintro _ ⟨⟩; exact ⟨by rfl, by go_simp⟩) (hfit.mono ?_))
            rintro e w3 ⟨rfl, hb3⟩
            have hb4 : Below W.heap.size W w3 := ⟨hb3.os, hb3.tape, hb3.output, hb3.size, hb3.block⟩
            have hS3 := And.intro (bX.on hb4).cell.1 (And.intro (bX.on hb4).cell.2.1 (And.intro (bX.on hb4).cell.2.2.1 (And.intro (bX.on hb4).cell.2.2.2 ((hb4.cell (p := ⟨w1.heap.size, 0, none⟩) bV1.lt).trans cV))))
            refine ⟨_, rfl, hS3, ?_⟩
            simp only [Act.put, List.setIfInBounds_toArray, List.set_cons_zero, List.set_cons_succ]
            refine takeH 6 (some 45) (.bool true) rfl (by kernel_rfl) (by kernel_rfl) (by kernel_rfl) (fun _ _ _ h => h) (by rintro _ ⟨⟩; exact Or.inl ⟨by rfl, fun v hv => by obtain ⟨v0, v1, v2, v3, v4⟩ := hv; go_simp⟩) hS3 ?_
            simp only [Act.put, List.setIfInBounds_toArray, List.set_cons_zero, List.set_cons_succ]
            refine takeH 7 (some 46) (.bool true) rfl (by kernel_rfl) (by kernel_rfl) (by kernel_rfl) (fun _ _ _ h => h) (by rintro _ ⟨⟩; exact Or.inl ⟨by rfl, fun v hv => by obtain ⟨v0, v1, v2, v3, v4⟩ := hv; go_simp⟩) hS3 ?_
            simp only [Act.put, List.setIfInBounds_toArray, List.set_cons_zero, List.set_cons_succ]
            refine takeH 8 (some 47) (.bool true) rfl (by kernel_rfl) (by kernel_rfl) (by kernel_rfl) (fun _ _ _ h => h) (by rintro _ ⟨⟩; exact Or.inl ⟨by rfl, fun v hv => by obtain ⟨v0, v1, v2, v3, v4⟩ := hv; go_simp⟩) hS3 ?_
            simp only [Act.put, List.setIfInBounds_toArray, List.set_cons_zero, List.set_cons_succ]
            refine takeH 9 (some 48) (undef) rfl (by kernel_rfl) (by kernel_rfl) (by kernel_rfl) (fun _ _ _ h => h) (by rintro _ ⟨⟩; exact Or.inr ⟨by rfl, rfl⟩) hS3 ?_
            simp only [Act.put, List.setIfInBounds_toArray, List.set_cons_zero, List.set_cons_succ]
            refine takeH 10 (some 49) (undef) rfl (by kernel_rfl) (by kernel_rfl) (by kernel_rfl) (fun _ _ _ h => h) (by rintro _ ⟨⟩; exact Or.inr ⟨by rfl, rfl⟩) hS3 ?_
            simp only [Act.put, List.setIfInBounds_toArray, List.set_cons_zero, List.set_cons_succ]
            refine takeH 11 (some 50) (undef) rfl (by kernel_rfl) (by kernel_rfl) (by kernel_rfl) (fun _ _ _ h => h) (by rintro _ ⟨⟩; exact Or.inr ⟨by rfl, rfl⟩) hS3 ?_
            simp only [Act.put, List.setIfInBounds_toArray, List.set_cons_zero, List.set_cons_succ]
            refine takeH 12 (some 51) (undef) rfl (by kernel_rfl) (by kernel_rfl) (by kernel_rfl) (fun _ _ _ h => h) (by rintro _ ⟨⟩; exact Or.inr ⟨by rfl, rfl⟩) hS3 ?_
            simp only [Act.put, List.setIfInBounds_toArray, List.set_cons_zero, List.set_cons_succ]
            refine takeH 13 (some 52) (undef) rfl (by kernel_rfl) (by kernel_rfl) (by kernel_rfl) (fun _ _ _ h => h) (by rintro _ ⟨⟩; exact Or.inr ⟨by rfl, rfl⟩) hS3 ?_
            simp only [Act.put, List.setIfInBounds_toArray, List.set_cons_zero, List.set_cons_succ]
            refine takeH 14 (some 53) (undef) rfl (by kernel_rfl) (by kernel_rfl) (by kernel_rfl) (fun _ _ _ h => h) (by rintro _ ⟨⟩; exact Or.inr ⟨by rfl, rfl⟩) hS3 ?_
            simp only [Act.put, List.setIfInBounds_toArray, List.set_cons_zero, List.set_cons_succ]
            refine takeH 15 (some 54) (undef) rfl (by kernel_rfl) (by kernel_rfl) (by kernel_rfl) (fun _ _ _ h => h) (by rintro _ ⟨⟩; exact Or.inr ⟨by rfl, rfl⟩) hS3 ?_
            simp only [Act.put, List.setIfInBounds_toArray, List.set_cons_zero, List.set_cons_succ]
            refine takeH 16 (some 55) (.bool true) rfl (by kernel_rfl) (by kernel_rfl) (by kernel_rfl) (fun _ _ _ h => h) (by rintro _ ⟨⟩; exact Or.inl ⟨by rfl, fun v hv => by obtain ⟨v0, v1, v2, v3, v4⟩ := hv; go_simp⟩) hS3 ?_
            simp only [Act.put, List.setIfInBounds_toArray, List.set_cons_zero, List.set_cons_succ]
            refine wpAnyH_done (by kernel_rfl) ?_ _
            have bR3 : Boxed w3 (w.heap.size + 1) 4 (.bool false) := (hb4.block _ bR1.lt).trans bR1
            have cR3 := bR3.cell
            have fR3 := bR3.frozen
            gi_wp2
            exact ⟨(KeepsFrom.of_grownBy (grown_of_below hb4 none) (fun j e => by cases e)).trans ((KeepsOthers.setCell w3 _ _).from _), ⟨⟨rfl, HN.out⟩, bR3.set (.bool false)⟩, (hB1.trans (hb4.mono hB1.size)).setCell (p := ⟨w.heap.size + 1, 0, none⟩) (by show _ ≤ w.heap.size + 1; omega) _⟩
          | true =>
            rw [hok] at hfit
            have hbd : ∀ i, 0 ≤ x.1.e.bd i ∧ x.1.e.bd i ≤ 3 := fun i => bnd_le hok
            have hkl := okE_kids hok
            have HS2 : Hid (run (start p xs.length) ((pre ++ [x]).map Item.pr) = hd x.1.at_ x.1.e t 0 x.1.e.kids L) := by
              show _ = _
              rw [HS.out, if_neg h1, if_neg (show ¬ x.1.e.ok t = false by show ¬ okE _ _ _ _ _ = false; rw [hok]; simp)]
            clear HS
            gi_wp2_with fail
            refine region_round (S := fun v => v.cell? ⟨Bx, 0, none⟩ = some (.int .i64 x.1.e.kind) ∧ v.cell? ⟨Bx, 1, none⟩ = some (.int .i64 x.1.e.num) ∧ v.cell? ⟨Bx, 2, none⟩ = some (.int .i64 x.1.e.bind) ∧ v.cell? ⟨Bx, 3, none⟩ = some (.slice x.1.g x.1.e.kids.length x.1.c) ∧ v.cell? ⟨w1.heap.size, 0, none⟩ = some (.slice (some ⟨w.heap.size + 1 + 1 + 1, 0, none⟩) xs.length xs.length)) hmx (by kernel_rfl) (by rintro ⟨a, v, h⟩; exact h) ?_
            show wpAnyH _ _ _ _ _ 17 #[false, false, false, false, false, false, false, false, false, false, false, false, false, false, false, false, false] _ _
            refine takeH 0 (some 39) (.int .i64 t) rfl (by kernel_rfl) (by kernel_rfl) (by kernel_rfl) (fun _ _ _ h => h) (by rintro _ ⟨⟩; exact Or.inl ⟨by rfl, fun v hv => by obtain ⟨v0, v1, v2, v3, v4⟩ := hv; go_simp⟩) hS0 ?_
            simp only [Act.put, List.setIfInBounds_toArray, List.set_cons_zero, List.set_cons_succ]
            refine takeH 1 (some 40) (.bool false) rfl (by kernel_rfl) (by kernel_rfl) (by kernel_rfl) (fun _ _ _ h => h) (by rintro _ ⟨⟩; exact Or.inl ⟨by rfl, fun v hv => by obtain ⟨v0, v1, v2, v3, v4⟩ := hv; go_simp⟩) hS0 ?_
            simp only [Act.put, List.setIfInBounds_toArray, List.set_cons_zero, List.set_cons_succ]
            refine takeH 2 (some 41) (.bool false) rfl (by kernel_rfl) (by kernel_rfl) (by kernel_rfl) (fun _ _ _ h => h) (by rintro _ ⟨⟩; exact Or.inl ⟨by rfl, fun v hv => by obtain ⟨v0, v1, v2, v3, v4⟩ := hv; go_simp⟩) hS0 ?_
            simp only [Act.put, List.setIfInBounds_toArray, List.set_cons_zero, List.set_cons_succ]
            refine takeH 3 (some 42) (eV x.1.e x.1.g x.1.c) rfl (by kernel_rfl) (by kernel_rfl) (by kernel_rfl) (fun _ _ _ h => h) (by rintro _ ⟨⟩; exact Or.inl ⟨by rfl, fun v hv => by obtain ⟨v0, v1, v2, v3, v4⟩ := hv; go_simp⟩) hS0 ?_
            simp only [Act.put, List.setIfInBounds_toArray, List.set_cons_zero, List.set_cons_succ]
            refine takeH 4 (some 43) (.int .i64 t) rfl (by kernel_rfl) (by kernel_rfl) (by kernel_rfl) (fun _ _ _ h => h) (by rintro _ ⟨⟩; exact Or.inl ⟨by rfl, fun v hv => by obtain ⟨v0, v1, v2, v3, v4⟩ := hv; go_simp⟩) hS0 ?_
            simp only [Act.put, List.setIfInBounds_toArray, List.set_cons_zero, List.set_cons_succ]
            refine oneH 5 (by kernel_rfl) (callH 5 26 (some 44) #[eV x.1.e x.1.g x.1.c, .int .i64 t] rfl (by rintro _ ⟨⟩; exact ⟨by rfl, by go_simp⟩) (hfit.mono ?_))
            rintro e w3 ⟨rfl, hb3⟩
            have hb4 : Below W.heap.size W w3 := ⟨hb3.os, hb3.tape, hb3.output, hb3.size, hb3.block⟩
            have hS3 := And.intro (bX.on hb4).cell.1 (And.intro (bX.on hb4).cell.2.1 (And.intro (bX.on hb4).cell.2.2.1 (And.intro (bX.on hb4).cell.2.2.2 ((hb4.cell (p := ⟨w1.heap.size, 0, none⟩) bV1.lt).trans cV))))
            refine ⟨_, rfl, hS3, ?_⟩
            simp only [Act.put, List.setIfInBounds_toArray, List.set_cons_zero, List.set_cons_succ]
            refine takeH 6 (some 45) (.bool false) rfl (by kernel_rfl) (by kernel_rfl) (by kernel_rfl) (fun _ _ _ h => h) (by rintro _ ⟨⟩; exact Or.inl ⟨by rfl, fun v hv => by obtain ⟨v0, v1, v2, v3, v4⟩ := hv; go_simp⟩) hS3 ?_
            simp only [Act.put, List.setIfInBounds_toArray, List.set_cons_zero, List.set_cons_succ]
            refine takeH 7 (some 46) (.bool false) rfl (by kernel_rfl) (by kernel_rfl) (by kernel_rfl) (fun _ _ _ h => h) (by rintro _ ⟨⟩; exact Or.inl ⟨by rfl, fun v hv => by obtain ⟨v0, v1, v2, v3, v4⟩ := hv; go_simp⟩) hS3 ?_
            simp only [Act.put, List.setIfInBounds_toArray, List.set_cons_zero, List.set_cons_succ]
            refine takeH 8 (some 47) (.bool false) rfl (by kernel_rfl) (by kernel_rfl) (by kernel_rfl) (fun _ _ _ h => h) (by rintro _ ⟨⟩; exact Or.inl ⟨by rfl, fun v hv => by obtain ⟨v0, v1, v2, v3, v4⟩ := hv; go_simp⟩) hS3 ?_
            simp only [Act.put, List.setIfInBounds_toArray, List.set_cons_zero, List.set_cons_succ]
            refine takeH 9 (some 48) (eV x.1.e x.1.g x.1.c) rfl (by kernel_rfl) (by kernel_rfl) (by kernel_rfl) (fun _ _ _ h => h) (by rintro _ ⟨⟩; exact Or.inl ⟨by rfl, fun v hv => by obtain ⟨v0, v1, v2, v3, v4⟩ := hv; go_simp⟩) hS3 ?_
            simp only [Act.put, List.setIfInBounds_toArray, List.set_cons_zero, List.set_cons_succ]
            refine takeH 10 (some 49) (.int .i64 t) rfl (by kernel_rfl) (by kernel_rfl) (by kernel_rfl) (fun _ _ _ h => h) (by rintro _ ⟨⟩; exact Or.inl ⟨by rfl, fun v hv => by obtain ⟨v0, v1, v2, v3, v4⟩ := hv; go_simp⟩) hS3 ?_
            simp only [Act.put, List.setIfInBounds_toArray, List.set_cons_zero, List.set_cons_succ]
            refine takeH 11 (some 50) (.slice (some ⟨w.heap.size + 1 + 1 + 1, 0, none⟩) xs.length xs.length) rfl (by kernel_rfl) (by kernel_rfl) (by kernel_rfl) (fun _ _ _ h => h) (by rintro _ ⟨⟩; exact Or.inl ⟨by rfl, fun v hv => by obtain ⟨v0, v1, v2, v3, v4⟩ := hv; go_simp⟩) hS3 ?_
            simp only [Act.put, List.setIfInBounds_toArray, List.set_cons_zero, List.set_cons_succ]
            refine takeH 12 (some 51) (.int .i64 (x.1.at_ : Int)) rfl (by kernel_rfl) (by kernel_rfl) (by kernel_rfl) (fun _ _ _ h => h) (by rintro _ ⟨⟩; exact Or.inl ⟨by rfl, fun v hv => by obtain ⟨v0, v1, v2, v3, v4⟩ := hv; go_simp⟩) hS3 ?_
            simp only [Act.put, List.setIfInBounds_toArray, List.set_cons_zero, List.set_cons_succ]
            refine takeH 13 (some 52) (.slice (some ⟨w.heap.size + 1 + 1 + 1, 0, none⟩) x.1.at_ xs.length) rfl (by kernel_rfl) (by kernel_rfl) (by kernel_rfl) (fun _ _ _ h => h) (by rintro _ ⟨⟩; exact Or.inl ⟨by rfl, fun v hv => by obtain ⟨v0, v1, v2, v3, v4⟩ := hv; go_simp⟩) hS3 ?_
            simp only [Act.put, List.setIfInBounds_toArray, List.set_cons_zero, List.set_cons_succ]
            have hlv := bL1.lt
            have hhand := hand_any x.1.e x.1.g x.1.c t (w.heap.size + 1 + 1 + 1) x.1.at_ xs.length L w w3 (bL1.on hb4 hlv) (by omega) (by omega) x.2.2 (hB1.trans (hb4.mono hB1.size)) (by omega) (by omega) (by omega) hbd hkl
            refine oneH 14 (by kernel_rfl) (callH 14 27 (some 53) #[eV x.1.e x.1.g x.1.c, .int .i64 t, .slice (some ⟨w.heap.size + 1 + 1 + 1, 0, none⟩) x.1.at_ xs.length] rfl (by rintro _ ⟨⟩; exact ⟨by rfl, by go_simp⟩) (hhand.mono ?_))
            clear hhand
            rintro e w5 ⟨rfl, hg5, hl5⟩
            have hG : W.grownBy w5 (some (w.heap.size + 1 + 1 + 1)) := (grown_of_below hb4 _).trans hg5
            have bV5 := bV1.kept hG (by intro e; have := Option.some.inj e; omega)
            have bR5 := bR1.kept hG (by intro e; have := Option.some.inj e; omega)
            have bS5 := bS1.kept hG (by intro e; have := Option.some.inj e; omega)
            have bX5 := bX.kept hG (by intro e; have := Option.some.inj e; omega)
            have hB5 : Below w.heap.size w w5 := hB1.grown hG hB1.size (fun k e => by cases e; omega)
            have hS5 := And.intro bX5.cell.1 (And.intro bX5.cell.2.1 (And.intro bX5.cell.2.2.1 (And.intro bX5.cell.2.2.2 bV5.cell)))
            have cR5 := bR5.cell
            have fR5 := bR5.frozen
            refine ⟨_, rfl, hS5, ?_⟩
            simp only [Act.put, List.setIfInBounds_toArray, List.set_cons_zero, List.set_cons_succ]
            cases hR : hd x.1.at_ x.1.e t 0 x.1.e.kids L with
            | none =>
              simp only [Option.isSome_none]
              refine takeH 15 (some 54) (.bool true) rfl (by kernel_rfl) (by kernel_rfl) (by kernel_rfl) (fun _ _ _ h => h) (by rintro _ ⟨⟩; exact Or.inl ⟨by rfl, fun v hv => by obtain ⟨v0, v1, v2, v3, v4⟩ := hv; go_simp⟩) hS5 ?_
              simp only [Act.put, List.setIfInBounds_toArray, List.set_cons_zero, List.set_cons_succ]
              refine takeH 16 (some 55) (.bool true) rfl (by kernel_rfl) (by kernel_rfl) (by kernel_rfl) (fun _ _ _ h => h) (by rintro _ ⟨⟩; exact Or.inl ⟨by rfl, fun v hv => by obtain ⟨v0, v1, v2, v3, v4⟩ := hv; go_simp⟩) hS5 ?_
              simp only [Act.put, List.setIfInBounds_toArray, List.set_cons_zero, List.set_cons_succ]
              refine wpAnyH_done (by kernel_rfl) ?_ _
              gi_wp2
              exact ⟨(KeepsFrom.of_grownBy hG (fun j e => by cases e; omega)).trans ((KeepsOthers.setCell w5 _ _).from _), ⟨⟨rfl, HS2.out.trans hR⟩, bR5.set (.bool false)⟩, hB5.setCell (p := ⟨w.heap.size + 1, 0, none⟩) (by show _ ≤ w.heap.size + 1; omega) _⟩
            | some L5 =>
              simp only [Option.isSome_some]
              refine takeH 15 (some 54) (.bool false) rfl (by kernel_rfl) (by kernel_rfl) (by kernel_rfl) (fun _ _ _ h => h) (by rintro _ ⟨⟩; exact Or.inl ⟨by rfl, fun v hv => by obtain ⟨v0, v1, v2, v3, v4⟩ := hv; go_simp⟩) hS5 ?_
              simp only [Act.put, List.setIfInBounds_toArray, List.set_cons_zero, List.set_cons_succ]
              refine takeH 16 (some 55) (.bool false) rfl (by kernel_rfl) (by kernel_rfl) (by kernel_rfl) (fun _ _ _ h => h) (by rintro _ ⟨⟩; exact Or.inl ⟨by rfl, fun v hv => by obtain ⟨v0, v1, v2, v3, v4⟩ := hv; go_simp⟩) hS5 ?_
              simp only [Act.put, List.setIfInBounds_toArray, List.set_cons_zero, List.set_cons_succ]
              refine wpAnyH_done (by kernel_rfl) ?_ _
              gi_wp2
              have hrn := HS2.out.trans hR
              have hLp : Lp p (pre ++ [x]) = L5 := by unfold Lp; rw [hrn]; rfl
              refine ⟨KeepsFrom.of_grownBy hG (fun j e => by cases e; omega), ⟨(Below.refl _ _).grown hG hB1.size (fun k e => by cases e; omega), hG.block _ bS1.lt (by intro e; have := Option.some.inj e; omega)⟩, ⟨⟨⟨⟨by rw [hrn]; rfl, ?_⟩, bV5⟩, bR5⟩, bS5⟩, hB5⟩
              rw [hLp]; exact hl5 L5 hR
      case done =>
        rintro D ys W hD rfl ⟨⟨⟨⟨⟨hp1, bL1⟩, bV1⟩, bR1⟩, bS1⟩, hB1⟩ hK
        have cR := bR1.cell
        have fR := bR1.frozen
        rw [its_backw hits] at hp1
        gi_wp2
        have hK' := (KeepsOthers.setCell W ⟨w.heap.size + 1, 0, none⟩ (.bool true)).same D _ hK rfl
        refine ⟨by simp, .inl ⟨_, _, rfl, run_takeDeferred hK', ?_⟩⟩
        have hc5 := cell_kept (bR1.set (.bool true)).cell (grownBy_putObj' _ D (.deferred none)) (fun r e => by cases e; exact ⟨_, hK', rfl⟩)
        refine ⟨.bool true, ?_, by rw [HM.out, hp1], (hB1.setCell (p := ⟨w.heap.size + 1, 0, none⟩) (by show _ ≤ w.heap.size + 1; omega) _).trans (belowK_b (w := w) (Nat.le_refl _) _ D _ _ (by omega) hK' rfl rfl)⟩
        simp [results, Try.f18, go_sem, hc5]
      case stop =>
        rintro D c' pre W hD hpre ⟨⟨⟨rfl, hrn⟩, bR1⟩, hB1⟩ hK
        have hno : run (start p xs.length) (backw xs) = none := by
          obtain ⟨ys, hys⟩ := hpre
          rw [← its_backw hits, ← hys, List.map_append]
          exact run_pre _ _ _ hrn
        gi_wp2
        refine ⟨by simp, .inl ⟨_, _, rfl, run_takeDeferred hK, ?_⟩⟩
        have hc5 := cell_kept bR1.cell (grownBy_putObj' _ D (.deferred none)) (fun r e => by cases e; exact ⟨_, hK, rfl⟩)
        refine ⟨.bool false, ?_, by rw [HM.out, hno]; rfl, hB1.trans (belowK_b (w := w) (Nat.le_refl _) W D _ _ (by omega) hK rfl rfl)⟩
        simp [results, Try.f18, go_sem, hc5]
end Go.Proofs.Ytiobjkmpeiohdaa
