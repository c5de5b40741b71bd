/- The contract of the reference's parts out of its term's. -/
import Derived.Test.YtcjpepbajcdenaaDoorRCon
import Derived.Deep.AppendLies
import Derived.Deep.RegionLaw
namespace Go.Proofs.YtcjpepbajcdenaaDoor
open Go.RowKit
set_option linter.unusedVariables false

/-- A block of four cells. -/
def Box (w : World) (b : Nat) (c0 c1 c2 c3 : Value) : Prop := w.heap[b]? = some (.cells #[c0, c1, c2, c3] 53 (0, 0))

theorem Box.lt {w : World} {b : Nat} {c0 c1 c2 c3 : Value} (h : Box w b c0 c1 c2 c3) : b < w.heap.size := by
  unfold Box at h
  rcases Nat.lt_or_ge b w.heap.size with h' | h'
  · exact h'
  · rw [Array.getElem?_eq_none h'] at h; cases h
theorem Box.cell {w : World} {b : Nat} {c0 c1 c2 c3 : Value} (h : Box w b c0 c1 c2 c3) : w.cell? ⟨b, 0, none⟩ = some c0 ∧ w.cell? ⟨b, 1, none⟩ = some c1 ∧ w.cell? ⟨b, 2, none⟩ = some c2 ∧ w.cell? ⟨b, 3, none⟩ = some c3 := by
  unfold Box at h
  unfold World.cell?
  simp [h]
theorem Box.free {w : World} {b : Nat} {c0 c1 c2 c3 : Value} (h : Box w b c0 c1 c2 c3) (o : Nat) : w.frozen? ⟨b, o, none⟩ = false := by
  unfold Box at h
  unfold World.frozen?
  simp [h]
theorem Box.on {w w' : World} {b : Nat} {c0 c1 c2 c3 : Value} (h : Box w b c0 c1 c2 c3) (hb : Below w.heap.size w w') : Box w' b c0 c1 c2 c3 := by
  have := h.lt
  unfold Box at *
  rw [hb.block b this]; exact h
theorem Box.grown {w w' : World} {b : Nat} {c0 c1 c2 c3 : Value} {row : Option Nat} (h : Box w b c0 c1 c2 c3) (hg : w.grownBy w' row) (hne : row ≠ some b) : Box w' b c0 c1 c2 c3 := by
  have := h.lt
  unfold Box at *
  rw [hg.block b this (fun e => hne e.symm)]; exact h
theorem Box.other {w : World} {b : Nat} {c0 c1 c2 c3 : Value} (h : Box w b c0 c1 c2 c3) {p : Addr} (hne : b ≠ p.block) (u : Value) : Box (w.setCell p u) b c0 c1 c2 c3 := by
  unfold Box at *
  rw [Below.heap_setCell _ _ _ _ hne]; exact h
theorem Box.two {w : World} {b : Nat} {c0 c1 c2 c3 : Value} (h : Box w b c0 c1 c2 c3) (u : Value) : Box (w.setCell ⟨b, 2, none⟩ u) b c0 c1 u c3 := by
  unfold Box at *
  simp only [World.setCell, Array.getElem?_modify, if_true, h]
  rfl
theorem Box.new (w : World) (c0 c1 c2 c3 : Value) : Box (w.alloc (.cells #[c0, c1, c2, c3] 53)) w.heap.size c0 c1 c2 c3 := by
  unfold Box
  show (w.heap.push _)[w.heap.size]? = _
  rw [Array.getElem?_push_size]
theorem Box.alloc {w : World} {b : Nat} {c0 c1 c2 c3 : Value} (h : Box w b c0 c1 c2 c3) (o : Obj) : Box (w.alloc o) b c0 c1 c2 c3 :=
  h.on ((Below.refl _ _).alloc (Nat.le_refl _) _)

theorem parts_class {f : Nat} {s : ByteArray} {a : Nat} {ps : List (Nat × Nat)} {c : Nat} (h : Sofar f s a ps c) (hl : ps.length < 3) (hac : a ≤ c) (hcs : c ≤ s.size) {B : Nat} {w : World} {k x : Int} {v : Value} {to : Int}
    (hg : GotR s c B w (T f (fr s c)) k x v to) :
    ((to < 0 ∨ (s.size : Int) ≤ to) ∧ Tp (T f) 3 (fr s a) = none) ∨
    ∃ m : Nat, to = (m : Int) ∧ c ≤ m ∧ ∃ hm : m < s.size,
      ((((s[m].toNat : Int) == 41) = false ∧ ((s[m].toNat : Int) == 32) = false ∧ Tp (T f) 3 (fr s a) = none) ∨
       (((s[m].toNat : Int) == 41) = true ∧ Tp (T f) 3 (fr s a) = some ((ps ++ [(c, m)]).map (pc s), m + 1 - a)) ∨
       (((s[m].toNat : Int) == 41) = false ∧ ((s[m].toNat : Int) == 32) = true ∧ Sofar f s a (ps ++ [(c, m)]) (m + 1))) := by
  unfold GotR at hg
  cases hT : T f (fr s c) with
  | none =>
    rw [hT] at hg
    have htp := sofar_none h hl hT
    rcases hg with e | ⟨n, e, hcn, hnc⟩
    · exact Or.inl ⟨Or.inl (by omega), htp⟩
    · obtain ⟨hm, hb⟩ := nc_byte hnc
      refine Or.inr ⟨n, e, hcn, hm, Or.inl ⟨?_, ?_, htp⟩⟩
      · rcases nc_yes hb with e | ⟨_, e, _⟩ <;> (rw [beq_eq_false_iff_ne]; omega)
      · rcases nc_yes hb with e | ⟨_, e, _⟩ <;> (rw [beq_eq_false_iff_ne]; omega)
  | some y =>
    have hsz := T_size f _ _ hT
    rw [hT] at hg
    obtain ⟨k', x', ks, n⟩ := y
    obtain ⟨_, _, e, _⟩ := hg
    by_cases hm : c + n < s.size
    · refine Or.inr ⟨c + n, by omega, by omega, hm, ?_⟩
      cases h41 : ((s[c + n].toNat : Int) == 41) with
      | true =>
        refine Or.inr (Or.inl ⟨rfl, ?_⟩)
        rw [sofar_last h hl hac hT (byte_yes hm 41 h41)]
        congr 2; simp only; omega
      | false =>
        cases h32 : ((s[c + n].toNat : Int) == 32) with
        | true => exact Or.inr (Or.inr ⟨rfl, rfl, sofar_on h hl hac hT (byte_yes hm 32 h32)⟩)
        | false => exact Or.inl ⟨rfl, rfl, sofar_bad h hl hT (byte_no hm 41 h41) (byte_no hm 32 h32)⟩
    · refine Or.inl ⟨Or.inr (by omega), ?_⟩
      have en : s.data.toList[c + n]? = none := List.getElem?_eq_none (by simp; omega)
      exact sofar_bad h hl hT (by simp only; rw [en]; simp) (by simp only; rw [en]; simp)

theorem news_one {W : World} {ad : Addr} {x : Value} (h : W.cell? ad = some x) : ∀ (j : Nat) u, [x][j]? = some u → W.cell? (ad.add j) = some u := by
  intro j u hj
  match j, hj with
  | 0, hj =>
    have e : x = u := by simpa using hj
    subst e
    have : ad.add 0 = ad := by simp [Addr.add]
    rw [this]; exact h

/-- Behind the append. -/
theorem rparts_append {w w1 w2 : World} {gv : Option Addr} {cv : Nat} {s : ByteArray} {ps : List (Nat × Nat)} {c m gg cap : Nat} {k0 x0 t0 : Int} {A : Obj} {c0 c1 c2 : Value}
    (hX : Box w1 w.heap.size (.int .i64 k0) (.int .i64 x0) (.slice gv ps.length cv) (.int .i64 t0)) (hY : Box w1 (w.heap.size + 1) (.int .i64 0) (.int .i64 0) (.slice none 0 0) (.int .i64 0))
    (hB : Below w.heap.size w w1) (hBL : ∀ b, (Value.slice gv ps.length cv).ownBlock = some b → w.heap.size + 2 ≤ b ∧ b < w1.heap.size) (hzA : w.heap.size < w1.heap.size) (hzB : w.heap.size + 1 < w1.heap.size)
    (hown : w2.ownsRow (w.heap.size + 2) 9 1 (.slice (some ⟨gg, 0, none⟩) (ps.length + 1) cap) (ps.length + 1) ((ps.map fun p => S (pc s p)) ++ [.string (s.extract c m)]))
    (hg : (((w1.alloc (.cells #[c0, c1, c2, .int .i64 (m : Int)] 53)).alloc A).drew).grownBy w2 (Value.slice gv ps.length cv).ownBlock) :
    Box w2 w.heap.size (.int .i64 k0) (.int .i64 x0) (.slice gv ps.length cv) (.int .i64 t0) ∧ Box w2 (w.heap.size + 1) (.int .i64 0) (.int .i64 0) (.slice none 0 0) (.int .i64 0) ∧
    w2.ownsRow (w.heap.size + 2) 9 1 (.slice (some ⟨gg, 0, none⟩) (ps.length + 1) cap) (ps.length + 1) ((ps ++ [(c, m)]).map fun p => S (pc s p)) ∧ Below w.heap.size w w2 ∧
    w2.cell? ⟨w1.heap.size, 3, none⟩ = some (.int .i64 (m : Int)) := by
  have b0 : Box ((w1.alloc (.cells #[c0, c1, c2, .int .i64 (m : Int)] 53)).alloc A).drew w.heap.size (.int .i64 k0) (.int .i64 x0) (.slice gv ps.length cv) (.int .i64 t0) := (hX.alloc _).alloc _
  have b1 : Box ((w1.alloc (.cells #[c0, c1, c2, .int .i64 (m : Int)] 53)).alloc A).drew (w.heap.size + 1) (.int .i64 0) (.int .i64 0) (.slice none 0 0) (.int .i64 0) := (hY.alloc _).alloc _
  have b2 : Box ((w1.alloc (.cells #[c0, c1, c2, .int .i64 (m : Int)] 53)).alloc A).drew w1.heap.size c0 c1 c2 (.int .i64 (m : Int)) := (Box.new w1 _ _ _ _).alloc _
  refine ⟨b0.grown hg (fun e => by have := (hBL _ e).1; omega), b1.grown hg (fun e => by have := (hBL _ e).1; omega), ?_, ?_, (b2.grown hg (fun e => by have := (hBL _ e).2; omega)).cell.2.2.2⟩
  · rw [List.map_append, List.map_cons, List.map_nil, show S (pc s (c, m)) = .string (s.extract c m) by rw [show s.extract c m = ⟨(pc s (c, m)).toArray⟩ from piece_eq s (c, m)]]
    exact hown
  · exact (((hB.alloc (by omega) _).alloc (by simp; omega) _).drew).grown hg (by simp; omega) (fun b e => by have := (hBL b e).1; omega)

set_option maxHeartbeats 3200000 in
set_option maxRecDepth 100000 in
theorem rparts_of (f : Nat) (hR : RTermSaid f) : RPartsSaid f := by
  intro s i a k0 x0 t0 w hi ha hs hf
  subst hi
  obtain ⟨i0, hi, hz0, hz1, hz2⟩ := info_parts Tryd.info9
  go_enter Tryd.func29, Tryd.ntmps29
  go_wp2_with fail
  go_loopw [2] (fun i wr => ∃ (c : Nat) (ps : List (Nat × Nat)) (gv : Option Addr) (cv : Nat), ps.length ≤ 3 ∧ i = .int .i64 (c : Int) ∧ a ≤ c ∧ c ≤ s.size ∧
      Box wr w.heap.size (.int .i64 k0) (.int .i64 x0) (.slice gv ps.length cv) (.int .i64 t0) ∧ Box wr (w.heap.size + 1) (.int .i64 0) (.int .i64 0) (.slice none 0 0) (.int .i64 0) ∧
      wr.ownsRow (w.heap.size + 2) 9 1 (.slice gv ps.length cv) ps.length (ps.map fun p => S (pc s p)) ∧ Below w.heap.size w wr ∧ Sofar f s a ps c)
    (fun i _ => s.size + 1 - (intOf i).toNat)
  case atStart =>
    refine ⟨a, [], none, 0, by simp, rfl, Nat.le_refl _, ha, (Box.new w _ _ _ _).alloc _, ?_, World.ownsRow_nil _ _ _ _, ((Below.refl _ _).alloc (Nat.le_refl _) _).alloc (by simp) _, sofar_start f s a⟩
    have := Box.new (w.alloc (.cells #[.int .i64 k0, .int .i64 x0, .slice none 0 0, .int .i64 t0] 53)) (.int .i64 0) (.int .i64 0) (.slice none 0 0) (.int .i64 0)
    simpa using this
  case round =>
    obtain ⟨c, ps, gv, cv, hps, rfl, hac, hcs, hbx, hby, hown, hbel, hso⟩ := hrel
    have HS : Hid (Sofar f s a ps c) := hso
    clear hso
    have HX : Hid (Box wr w.heap.size (.int .i64 k0) (.int .i64 x0) (.slice gv ps.length cv) (.int .i64 t0)) := hbx
    have HY : Hid (Box wr (w.heap.size + 1) (.int .i64 0) (.int .i64 0) (.slice none 0 0) (.int .i64 0)) := hby
    obtain ⟨x0c, x1c, x2c, x3c⟩ := hbx.cell
    have hlt0 := hby.lt
    clear hbx hby
    by_cases hl3 : ps.length < 3
    · go_wp2_with fail
      refine (hR s _ c _ rfl hcs hs (by omega)).mono ?_
      rintro e w1 ⟨k, x, v1, to, rfl, hb1, ⟨g, n', c', rfl⟩, hgot⟩
      have HC : Hid _ := parts_class HS.out hl3 hac hcs hgot
      clear hgot
      have HX1 : Hid (Box w1 w.heap.size (.int .i64 k0) (.int .i64 x0) (.slice gv ps.length cv) (.int .i64 t0)) := Box.on HX.out hb1
      have HY1 : Hid (Box w1 (w.heap.size + 1) (.int .i64 0) (.int .i64 0) (.slice none 0 0) (.int .i64 0)) := Box.on HY.out hb1
      have hown1 := own_below hown hb1
      have HB1 : Hid (Below w.heap.size w w1) := hbel.trans (hb1.mono hbel.size)
      have hz1' : wr.heap.size ≤ w1.heap.size := hb1.size
      clear hown hbel hb1 x0c x1c x2c x3c
      obtain ⟨x0c, x1c, x2c, x3c⟩ := Box.cell HX1.out
      have hxf := Box.free HX1.out
      rcases HC.out with ⟨hbad, htp⟩ | ⟨m, rfl, hcm, hm, hcl⟩
      · have HT : Hid (Tp (T f) 3 (fr s a) = none) := htp
        clear htp
        rcases hbad with hneg | hbig
        · go_wp2_with fail
          refine (bad_any _).mono ?_
          rintro e w9 ⟨rfl, hb9⟩
          have hy9 : Box w9 (w.heap.size + 1) (.int .i64 0) (.int .i64 0) (.slice none 0 0) (.int .i64 0) := Box.on (Box.alloc HY1.out _) hb9
          obtain ⟨q0, q1, q2, q3⟩ := hy9.cell
          have qf := hy9.free
          have h09 : Below w.heap.size w w9 := below_next (HB1.out.alloc (by omega) _) hb9
          clear hy9 hb9
          go_wp2_with fail
          refine bodyPost_ret (v := .agg #[.int .i64 0, .int .i64 0, .slice none 0 0, .int .i64 (-1)]) (by simp [results, Tryd.results29, go_sem, q0, q1, q2, q3]) rfl ⟨0, 0, _, _, rfl, ?_, ⟨_, _, _, rfl⟩, ?_⟩
          · exact (((h09.setCell (Nat.le_succ _) _).setCell (Nat.le_succ _) _).setCell (Nat.le_succ _) _).setCell (Nat.le_succ _) _
          · rw [HT.out]; exact rfl
        · have hnn : 0 ≤ to := by omega
          go_wp2_with fail
          refine (bad_any _).mono ?_
          rintro e w9 ⟨rfl, hb9⟩
          have hy9 : Box w9 (w.heap.size + 1) (.int .i64 0) (.int .i64 0) (.slice none 0 0) (.int .i64 0) := Box.on (Box.alloc HY1.out _) hb9
          obtain ⟨q0, q1, q2, q3⟩ := hy9.cell
          have qf := hy9.free
          have h09 : Below w.heap.size w w9 := below_next (HB1.out.alloc (by omega) _) hb9
          clear hy9 hb9
          go_wp2_with fail
          refine bodyPost_ret (v := .agg #[.int .i64 0, .int .i64 0, .slice none 0 0, .int .i64 (-1)]) (by simp [results, Tryd.results29, go_sem, q0, q1, q2, q3]) rfl ⟨0, 0, _, _, rfl, ?_, ⟨_, _, _, rfl⟩, ?_⟩
          · exact (((h09.setCell (Nat.le_succ _) _).setCell (Nat.le_succ _) _).setCell (Nat.le_succ _) _).setCell (Nat.le_succ _) _
          · rw [HT.out]; exact rfl
      · have HCL : Hid _ := hcl
        clear hcl
        have hm' : (m : Int) < (s.size : Int) := by omega
        have hcm' : (c : Int) ≤ (m : Int) := by omega
        have hzA : w.heap.size < w1.heap.size := by omega
        have hzB : w.heap.size + 1 < w1.heap.size := by omega
        have HBL : Hid (∀ b, (Value.slice gv ps.length cv).ownBlock = some b → w.heap.size + 2 ≤ b ∧ b < w1.heap.size) := by
          obtain ⟨_, _, _, hh⟩ := own_len hown1; exact hh
        have hsl : ∀ W, (Instr.slice 9 (.string s) (some (.int .i64 (c : Int))) (some (.int .i64 (m : Int))) none).run Tryd.prog W = .ok (.string (s.extract c m)) W := fun W => by
          rw [run_slice_string (h := Tryd.underlying9)] <;> first | omega | (congr 2)
        go_wp2_with fail
        go_region_law
          ((refine step_append_lies _ (by rfl) _ _ _ (by rfl) (w.heap.size + 2) 9 i0 _ 1 16 Tryd.underlying32 hi hz0 hz1 hz2 rfl (by omega) (.slice gv ps.length cv) ps.length (ps.map fun p => S (pc s p)) (by rfl) (((hown1.alloc _).alloc _).drew) ⟨w1.heap.size + 1, 0, none⟩ 1 1 [.string (s.extract c m)] (by rfl) (by rfl) (news_one (by simp [go_sem])) (by simp [Value.oneCell']) (by omega) (by unfold maxLen; omega) (by omega) (by simp; omega) (w1.heap.size + 2) (by simp) ?_; intro gg cap w2 hown2 hgrow hat hlt; obtain ⟨hX2, hY2, hown3, hb2, hto2⟩ := rparts_append HX1.out HY1.out HB1.out HBL.out hzA hzB hown2 hgrow; clear hown2 hgrow hat; obtain ⟨x0d, x1d, x2d, x3d⟩ := Box.cell hX2; have hxg := Box.free hX2; have HX2 : Hid (Box w2 w.heap.size (.int .i64 k0) (.int .i64 x0) (.slice gv ps.length cv) (.int .i64 t0)) := hX2; have HY2 : Hid (Box w2 (w.heap.size + 1) (.int .i64 0) (.int .i64 0) (.slice none 0 0) (.int .i64 0)) := hY2; clear hX2 hY2; have HO3 : Hid (w2.ownsRow (w.heap.size + 2) 9 1 (.slice (some ⟨gg, 0, none⟩) (ps.length + 1) cap) (ps.length + 1) ((ps ++ [(c, m)]).map fun p => S (pc s p))) := hown3; clear hown3; have HB2 : Hid (Below w.heap.size w w2) := hb2; clear hb2))
        all_goals
          have hwv : ∃ w3, w3 = w2.setCell ⟨w.heap.size, 2, none⟩ (.slice (some ⟨gg, 0, none⟩) (ps.length + 1) cap) := ⟨_, rfl⟩
          obtain ⟨w3, hw3⟩ := hwv
          have hX3 : Box w3 w.heap.size (.int .i64 k0) (.int .i64 x0) (.slice (some ⟨gg, 0, none⟩) (ps.length + 1) cap) (.int .i64 t0) := by rw [hw3]; exact Box.two HX2.out _
          have hY3 : Box w3 (w.heap.size + 1) (.int .i64 0) (.int .i64 0) (.slice none 0 0) (.int .i64 0) := by rw [hw3]; exact Box.other HY2.out (by simp) _
          have HO4 : Hid (w3.ownsRow (w.heap.size + 2) 9 1 (.slice (some ⟨gg, 0, none⟩) (ps.length + 1) cap) (ps.length + 1) ((ps ++ [(c, m)]).map fun p => S (pc s p))) := by
            show w3.ownsRow _ _ _ _ _ _
            rw [hw3]; exact ownsRow_setCell_below HO3.out (by simp) _
          have HB3 : Hid (Below w.heap.size w w3) := by
            show Below w.heap.size w w3
            rw [hw3]; exact HB2.out.setCell (Nat.le_refl _) _
          have hto3 : w3.cell? ⟨w1.heap.size, 3, none⟩ = some (.int .i64 (m : Int)) := by
            rw [hw3, World.cell?_setCell_other _ _ _ _ (by intro e; injection e; omega)]; exact hto2
          rw [← hw3]
          clear hw3 hto2 x0d x1d x2d x3d hxg x0c x1c x2c x3c hxf
          obtain ⟨x0d, x1d, x2d, x3d⟩ := Box.cell hX3
          have hxg := Box.free hX3
          have HX3 : Hid (Box w3 w.heap.size (.int .i64 k0) (.int .i64 x0) (.slice (some ⟨gg, 0, none⟩) (ps.length + 1) cap) (.int .i64 t0)) := hX3
          have HY3 : Hid (Box w3 (w.heap.size + 1) (.int .i64 0) (.int .i64 0) (.slice none 0 0) (.int .i64 0)) := hY3
          obtain ⟨y0d, y1d, y2d, y3d⟩ := Box.cell hY3
          have hyg := Box.free hY3
          clear hX3 hY3
          rcases HCL.out with ⟨h41, h32, htp⟩ | ⟨h41, htp⟩ | ⟨h41, h32, hso⟩
          · have HT : Hid (Tp (T f) 3 (fr s a) = none) := htp
            clear htp
            have h32' : ((s[m].toNat : Int) != 32) = true := by rw [bne, h32]; rfl
            go_wp2_with fail
            refine (bad_any _).mono ?_
            rintro e w9 ⟨rfl, hb9⟩
            have hy9 : Box w9 (w.heap.size + 1) (.int .i64 0) (.int .i64 0) (.slice none 0 0) (.int .i64 0) := Box.on HY3.out hb9
            obtain ⟨q0, q1, q2, q3⟩ := hy9.cell
            have qf := hy9.free
            have h09 : Below w.heap.size w w9 := below_next HB3.out hb9
            clear hy9 hb9
            go_wp2_with fail
            refine bodyPost_ret (v := .agg #[.int .i64 0, .int .i64 0, .slice none 0 0, .int .i64 (-1)]) (by simp [results, Tryd.results29, go_sem, q0, q1, q2, q3]) rfl ⟨0, 0, _, _, rfl, ?_, ⟨_, _, _, rfl⟩, ?_⟩
            · exact (((h09.setCell (Nat.le_succ _) _).setCell (Nat.le_succ _) _).setCell (Nat.le_succ _) _).setCell (Nat.le_succ _) _
            · rw [HT.out]; exact rfl
          · have HT : Hid (Tp (T f) 3 (fr s a) = some ((ps ++ [(c, m)]).map (pc s), m + 1 - a)) := htp
            clear htp
            go_wp2_with fail
            refine bodyPost_ret (v := .agg #[.int .i64 k0, .int .i64 x0, .slice (some ⟨gg, 0, none⟩) (ps.length + 1) cap, .int .i64 ((m : Int) + 1)]) (by simp [results, Tryd.results29, go_sem, y0d, y1d, y2d, y3d]) rfl ⟨k0, x0, _, _, rfl, ?_, ⟨_, _, _, rfl⟩, ?_⟩
            · exact ((((HB3.out.setCell (Nat.le_refl _) _).setCell (Nat.le_succ _) _).setCell (Nat.le_succ _) _).setCell (Nat.le_succ _) _).setCell (Nat.le_succ _) _
            · rw [HT.out]
              refine ⟨rfl, rfl, by omega, ?_⟩
              rw [List.length_map, List.length_append, List.map_map]
              refine own_base (B := w.heap.size + 2) ?_ (by omega)
              exact ownsRow_setCell_below (ownsRow_setCell_below (ownsRow_setCell_below (ownsRow_setCell_below (ownsRow_setCell_below HO4.out (by simp) _) (by simp) _) (by simp) _) (by simp) _) (by simp) _
          · have HN : Hid (Sofar f s a (ps ++ [(c, m)]) (m + 1)) := hso
            clear hso
            have h32' : ((s[m].toNat : Int) != 32) = false := by rw [bne, h32]; rfl
            go_wp2_with fail
            go_roundw
            case rel =>
              refine ⟨m + 1, ps ++ [(c, m)], some ⟨gg, 0, none⟩, cap, by simp; omega, by go_num, by omega, by omega, ?_, HY3.out, ?_, HB3.out, HN.out⟩
              · rw [List.length_append]; exact HX3.out
              · rw [List.length_append]; exact HO4.out
            case measure => simp [intOf]; omega
    · have HT : Hid (Tp (T f) 3 (fr s a) = none) := sofar_full HS.out (by omega)
      go_wp2_with fail
      refine (bad_any _).mono ?_
      rintro e w9 ⟨rfl, hb9⟩
      have hy9 : Box w9 (w.heap.size + 1) (.int .i64 0) (.int .i64 0) (.slice none 0 0) (.int .i64 0) := Box.on HY.out hb9
      obtain ⟨q0, q1, q2, q3⟩ := hy9.cell
      have qf := hy9.free
      have h09 : Below w.heap.size w w9 := below_next hbel hb9
      clear hy9 hb9
      go_wp2_with fail
      refine bodyPost_ret (v := .agg #[.int .i64 0, .int .i64 0, .slice none 0 0, .int .i64 (-1)]) (by simp [results, Tryd.results29, go_sem, q0, q1, q2, q3]) rfl ⟨0, 0, _, _, rfl, ?_, ⟨_, _, _, rfl⟩, ?_⟩
      · exact (((h09.setCell (Nat.le_succ _) _).setCell (Nat.le_succ _) _).setCell (Nat.le_succ _) _).setCell (Nat.le_succ _) _
      · rw [HT.out]; exact rfl
end Go.Proofs.YtcjpepbajcdenaaDoor
