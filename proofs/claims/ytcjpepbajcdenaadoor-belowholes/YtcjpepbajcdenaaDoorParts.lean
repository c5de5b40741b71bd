/- The contract of readParts out of read's. -/
import Derived.Test.YtcjpepbajcdenaaDoorRead
namespace Go.Proofs.YtcjpepbajcdenaaDoor
open Go.RowKit
set_option linter.unusedVariables false

theorem Tryd.info72 : (Tryd.prog.info? 72).map (fun i => (i.zero, i.size, i.bytes)) = some (some (.agg #[.int .i64 0, .int .i64 0]), 2, 16) := by kernel_rfl

/-- So far, and what is still to come. -/
def Sofar (f : Nat) (s : ByteArray) (a : Nat) (ps : List (Nat × Nat)) (c : Nat) : Prop :=
  Tp (T f) 3 (fr s a) = match Tp (T f) (3 - ps.length) (fr s c) with
    | none => none
    | some (ks, m) => some (ps.map (pc s) ++ ks, c - a + m)

theorem own_len {W : World} {B e size n : Nat} {v : Value} {xs : List Value} (h : W.ownsRow B e size v n xs) : ∃ g c, v = .slice g n c ∧ ∀ a, v.ownBlock = some a → B ≤ a ∧ a < W.heap.size := by
  rcases h.2 with ⟨h2, h3⟩ | ⟨g, cap, cur, hv, hB, hh, _⟩
  · subst h3; exact ⟨_, _, h2, fun a e => by subst h2; cases e⟩
  · refine ⟨_, _, hv, fun a e => ?_⟩
    subst hv
    have e : g = a := Option.some.inj e
    subst e
    refine ⟨hB, ?_⟩
    rcases Nat.lt_or_ge g W.heap.size with h' | h'
    · exact h'
    · rw [Array.getElem?_eq_none h'] at hh; cases hh

theorem sofar_start (f : Nat) (s : ByteArray) (a : Nat) : Sofar f s a [] a := by
  unfold Sofar
  show Tp (T f) 3 (fr s a) = match Tp (T f) 3 (fr s a) with
    | none => none
    | some (ks, m) => some ([] ++ ks, a - a + m)
  cases Tp (T f) 3 (fr s a) with
  | none => rfl
  | some x => obtain ⟨ks, m⟩ := x; simp
theorem sofar_full {f : Nat} {s : ByteArray} {a : Nat} {ps : List (Nat × Nat)} {c : Nat} (h : Sofar f s a ps c) (hl : ps.length = 3) : Tp (T f) 3 (fr s a) = none := by
  unfold Sofar at h; rw [h, hl]; rfl
theorem sofar_none {f : Nat} {s : ByteArray} {a : Nat} {ps : List (Nat × Nat)} {c : Nat} (h : Sofar f s a ps c) (hl : ps.length < 3) (hT : T f (fr s c) = none) : Tp (T f) 3 (fr s a) = none := by
  unfold Sofar at h
  obtain ⟨k, hk⟩ : ∃ k, 3 - ps.length = k + 1 := ⟨2 - ps.length, by omega⟩
  rw [h, hk]
  unfold Tp; rw [hT]
theorem fr_len (s : ByteArray) (c : Nat) : (fr s c).length = s.size - c := by unfold fr; rw [List.length_drop]; simp
theorem fr_take (s : ByteArray) (c n : Nat) : (fr s c).take n = pc s (c, c + n) := by
  unfold fr pc; simp only; rw [Nat.add_sub_cancel_left]
theorem sofar_bad {f : Nat} {s : ByteArray} {a : Nat} {ps : List (Nat × Nat)} {c : Nat} (h : Sofar f s a ps c) (hl : ps.length < 3) {y : Rd} (hT : T f (fr s c) = some y)
    (h41 : s.data.toList[c + y.2.2.2]? ≠ some 41) (h32 : s.data.toList[c + y.2.2.2]? ≠ some 32) : Tp (T f) 3 (fr s a) = none := by
  unfold Sofar at h
  obtain ⟨k, hk⟩ : ∃ k, 3 - ps.length = k + 1 := ⟨2 - ps.length, by omega⟩
  rw [h, hk]
  obtain ⟨p, q, r, n⟩ := y
  unfold Tp; rw [hT]; simp only at h41 h32 ⊢
  rw [if_neg (by rw [fr_at]; exact h41), if_neg (by rw [fr_at]; exact h32)]
theorem sofar_last {f : Nat} {s : ByteArray} {a : Nat} {ps : List (Nat × Nat)} {c : Nat} (h : Sofar f s a ps c) (hl : ps.length < 3) (hac : a ≤ c) {y : Rd} (hT : T f (fr s c) = some y)
    (h41 : s.data.toList[c + y.2.2.2]? = some 41) : Tp (T f) 3 (fr s a) = some ((ps ++ [(c, c + y.2.2.2)]).map (pc s), c - a + (y.2.2.2 + 1)) := by
  unfold Sofar at h
  obtain ⟨k, hk⟩ : ∃ k, 3 - ps.length = k + 1 := ⟨2 - ps.length, by omega⟩
  rw [h, hk, Tp_last hT (by rw [fr_at]; exact h41)]
  simp only [fr_take, List.map_append, List.map_cons, List.map_nil]
theorem sofar_on {f : Nat} {s : ByteArray} {a : Nat} {ps : List (Nat × Nat)} {c : Nat} (h : Sofar f s a ps c) (hl : ps.length < 3) (hac : a ≤ c) {y : Rd} (hT : T f (fr s c) = some y)
    (h32 : s.data.toList[c + y.2.2.2]? = some 32) : Sofar f s a (ps ++ [(c, c + y.2.2.2)]) (c + y.2.2.2 + 1) := by
  unfold Sofar at h ⊢
  obtain ⟨k, hk⟩ : ∃ k, 3 - ps.length = k + 1 := ⟨2 - ps.length, by omega⟩
  have hk2 : 3 - (ps ++ [(c, c + y.2.2.2)]).length = k := by simp; omega
  rw [h, hk, hk2]
  have hd : (fr s c).drop (y.2.2.2 + 1) = fr s (c + y.2.2.2 + 1) := by rw [fr_drop]; rfl
  cases ht : Tp (T f) k (fr s (c + y.2.2.2 + 1)) with
  | none =>
    obtain ⟨p, q, r, n⟩ := y
    unfold Tp; rw [hT]; simp only at h32 hd ht ⊢
    rw [if_neg (by rw [fr_at, h32]; decide), if_pos (by rw [fr_at]; exact h32), hd, ht]
  | some x =>
    obtain ⟨ks, m⟩ := x
    rw [Tp_on hT (by rw [fr_at]; exact h32) (by rw [hd]; exact ht)]
    simp only [fr_take, List.map_append, List.map_cons, List.map_nil, List.append_assoc, List.cons_append, List.nil_append]
    congr 2; omega

theorem places_on {ps : List (Nat × Nat)} {N : Nat} {p : Nat × Nat} (h : ∀ p ∈ ps, p.1 ≤ p.2 ∧ p.2 ≤ N) (hp : p.1 ≤ p.2 ∧ p.2 ≤ N) : ∀ q ∈ ps ++ [p], q.1 ≤ q.2 ∧ q.2 ≤ N := by
  intro q hq
  rcases List.mem_append.1 hq with e | e
  · exact h q e
  · rw [List.mem_singleton] at e; subst e; exact hp

/-- Behind the append: what is owned, that nothing older has turned, and the reading's own block. -/
theorem after_append {w wr w1 w2 : World} {v v' : Value} {ps : List (Nat × Nat)} {c n : Nat} {k x : Int} {u : Value} (hb : Below w.heap.size w w1) (h0 : w.heap.size ≤ wr.heap.size) (h1 : wr.heap.size ≤ w1.heap.size)
    (hblk : ∀ a, v.ownBlock = some a → w.heap.size ≤ a ∧ a < wr.heap.size)
    (hown : w2.ownsRow w.heap.size 72 2 v' (ps.length + 1) (plc ps ++ [.int .i64 (c : Int), .int .i64 ((c : Int) + (n : Int))]))
    (hg : ((w1.alloc (Obj.cells #[.int .i64 k, .int .i64 x, u, .int .i64 ((c : Int) + (n : Int))] 48)).alloc (Obj.cells #[.int .i64 (c : Int), .int .i64 ((c : Int) + (n : Int))] 72)).grownBy w2 v.ownBlock) :
    w2.ownsRow w.heap.size 72 2 v' (ps.length + 1) (plc (ps ++ [(c, c + n)])) ∧ Below w.heap.size w w2 ∧ w2.cell? ⟨w1.heap.size, 3, none⟩ = some (.int .i64 ((c : Int) + (n : Int))) := by
  refine ⟨?_, ?_, ?_⟩
  · rw [plc_app]; exact hown
  · exact ((hb.alloc (by omega) _).alloc (by simp; omega) _).grown hg (by simp; omega) (fun a e => (hblk a e).1)
  · have e := hg.block w1.heap.size (by simp; omega) (fun e => by have := (hblk _ e.symm).2; omega)
    rw [World.cell?_of_block (a := ⟨w1.heap.size, 3, none⟩) e]
    simp

set_option maxHeartbeats 1600000 in
set_option maxRecDepth 100000 in
theorem parts_of (f : Nat) (hR : ReadSaid f) : PartsSaid f := by
  intro s i a w hi ha hs hf hw
  subst hi
  obtain ⟨i0, hi, hz0, hz1, hz2⟩ := info_parts Tryd.info72
  go_enter Tryd.func36, Tryd.ntmps36
  go_wp2_with fail
  go_loopw [1, 7] (fun i v wr => ∃ (c : Nat) (ps : List (Nat × Nat)), ps.length ≤ 3 ∧ i = .int .i64 (c : Int) ∧ a ≤ c ∧ c ≤ s.size ∧ wr.ownsRow w.heap.size 72 2 v ps.length (plc ps) ∧
      Below w.heap.size w wr ∧ (∀ p ∈ ps, p.1 ≤ p.2 ∧ p.2 ≤ s.size) ∧ Sofar f s a ps c)
    (fun i _ _ => s.size + 1 - (intOf i).toNat)
  case atStart => exact ⟨a, [], by simp, rfl, Nat.le_refl _, ha, World.ownsRow_nil _ _ _ _, Below.refl _ _, (fun p hp => by cases hp), sofar_start f s a⟩
  case round =>
    obtain ⟨c, ps, hps, rfl, hac, hcs, hown, hbel, hpp, hso⟩ := hrel
    have HS : Hid (Sofar f s a ps c) := hso
    clear hso
    have HP : Hid (∀ p ∈ ps, p.1 ≤ p.2 ∧ p.2 ≤ s.size) := hpp
    clear hpp
    obtain ⟨gv, cv, rfl, hblk⟩ := own_len hown
    have HB : Hid _ := hblk
    clear hblk
    by_cases hl3 : ps.length < 3
    · go_wp2_with fail
      refine (hR s _ c _ rfl hcs hs (by omega) ?_).mono ?_
      · exact hw.on hbel
      rintro e w1 ⟨k, x, v1, to, b, rfl, hb1, ⟨g, n', c', rfl⟩, hgot⟩
      cases hT : T f (fr s c) with
      | none =>
        rw [hT] at hgot
        obtain ⟨rfl, hv⟩ := hgot
        clear hv
        have HT : Hid _ := hT
        clear hT
        go_wp2_with fail
        go_ret3
        refine ⟨.slice none 0 0, 0, false, rfl, ?_, ⟨_, _, _, rfl⟩, ?_⟩
        · exact (hbel.trans (hb1.mono hbel.size)).alloc (Nat.le_trans hbel.size hb1.size) _
        · rw [sofar_none HS.out hl3 HT.out]; exact ⟨rfl, rfl⟩
      | some y =>
        rw [hT] at hgot
        obtain ⟨k', x', ks, n⟩ := y
        obtain ⟨rfl, rfl, rfl, rfl, ps', hheld⟩ := hgot
        clear hheld
        have hsz := T_size f _ _ hT
        rw [fr_len] at hsz
        obtain ⟨hn0, hn1⟩ := hsz
        simp only at hn0 hn1
        have HT : Hid _ := hT
        clear hT
        have hown1 := own_below hown hb1
        clear hown
        have HB1 : Hid (Below w.heap.size w w1) := hbel.trans (hb1.mono hbel.size)
        have hzb : w.heap.size ≤ wr.heap.size := hbel.size
        have hz1' : wr.heap.size ≤ w1.heap.size := hb1.size
        clear hbel hb1
        go_wp2_with (at_builtin; refine wpList_append_own _ rfl _ _ 46 rfl w.heap.size 72 i0 (.agg #[.int .i64 0, .int .i64 0]) 2 16 Tryd.underlying46 hi hz0 hz1 hz2 rfl (by decide) _ ps.length (plc ps) rfl ((hown1.alloc _).alloc _) ⟨w1.heap.size + 1, 0, none⟩ 1 1 [.int .i64 (c : Int), .int .i64 ((c : Int) + (n : Int))] rfl rfl ?c1 ?c2 ?c3 ?c4 ?c5 ?_)
        case c1 =>
          intro j u hj
          match j, hj with
          | 0, hj => simp at hj; subst hj; simp [Addr.add]
          | 1, hj => simp at hj; subst hj; simp [Addr.add]
        case c2 => intro u hu; simp at hu; rcases hu with rfl | rfl <;> rfl
        case c3 => unfold maxLen; omega
        case c4 => omega
        case c5 => simp; omega
        intro v' w2 hown2 hgrow _
        obtain ⟨hown3, hb2, hcell⟩ := after_append HB1.out hzb hz1' HB.out hown2 hgrow
        clear hown2 hgrow hown1
        obtain ⟨gv', cv', rfl, _⟩ := own_len hown3
        have HO3 : Hid (w2.ownsRow w.heap.size 72 2 (.slice gv' (ps.length + 1) cv') (ps ++ [(c, c + n)]).length (plc (ps ++ [(c, c + n)]))) := by rw [List.length_append]; exact hown3
        clear hown3
        cases h41 : hasI s ((c : Int) + (n : Int)) 41 with
        | true =>
          have c41 : Hid _ := (hasI_iff (c := 41) (a := c + n) (by omega) rfl).1 h41
          go_wp2_with (go_at_call 31; refine (has_any _ _ _ _ (by omega) (by omega)).mono ?_; rintro e w' ⟨rfl, rfl⟩)
          go_quiet (fail)
          go_wp2_with fail
          go_ret3
          refine ⟨_, _, true, rfl, below_next hb2 (below_drewN _ _ _), ⟨_, _, _, rfl⟩, ?_⟩
          rw [sofar_last HS.out hl3 hac HT.out c41.out]
          refine ⟨rfl, by simp only; omega, _, rfl, ?_, own_below HO3.out (below_drewN _ _ _)⟩
          exact places_on HP.out (by simp only; omega)
        | false =>
          have c41 : Hid _ := hasI_not (c := 41) (a := c + n) (by omega) rfl h41
          cases h32 : hasI s ((c : Int) + (n : Int)) 32 with
          | false =>
            have c32 : Hid _ := hasI_not (c := 32) (a := c + n) (by omega) rfl h32
            go_wp2_with (go_at_call 31; refine (has_any _ _ _ _ (by omega) (by omega)).mono ?_; rintro e w' ⟨rfl, rfl⟩)
            go_ret3
            refine ⟨.slice none 0 0, 0, false, rfl, hb2, ⟨_, _, _, rfl⟩, ?_⟩
            rw [sofar_bad HS.out hl3 HT.out c41.out c32.out]; exact ⟨rfl, rfl⟩
          | true =>
            have c32 : Hid _ := (hasI_iff (c := 32) (a := c + n) (by omega) rfl).1 h32
            have hlt : c + n < s.size := by
              have := lt_of_at c32.out
              simpa using this
            go_wp2_with (go_at_call 31; refine (has_any _ _ _ _ (by omega) (by omega)).mono ?_; rintro e w' ⟨rfl, rfl⟩)
            go_roundw
            case rel =>
              refine ⟨c + n + 1, ps ++ [(c, c + n)], by simp; omega, by go_num, by omega, by omega, HO3.out, hb2, ?_, sofar_on HS.out hl3 hac HT.out c32.out⟩
              exact places_on HP.out (by simp only; omega)
            case measure => simp [intOf]; omega
    · go_wp2_with fail
      go_ret3
      refine ⟨.slice none 0 0, 0, false, rfl, hbel, ⟨_, _, _, rfl⟩, ?_⟩
      rw [sofar_full HS.out (by omega)]; exact ⟨rfl, rfl⟩
end Go.Proofs.YtcjpepbajcdenaaDoor
