/- The reference's term at a constructor; and the whole step. -/
import Derived.Test.YtcjpepbajcdenaaDoorRTerm
namespace Go.Proofs.YtcjpepbajcdenaaDoor
open Go.RowKit
set_option linter.unusedVariables false

theorem gotr_parts {f : Nat} {s : ByteArray} {a x k : Nat} {B B' : Nat} {w : World} {k0 x0 : Int} {v : Value} {to : Int} (hl : (run s (a + 1)).length = k) (h1 : canon (run s (a + 1)) = some (x : Int)) (ht : tagB (x : Int) = true) (h40 : s.data.toList[a + 1 + k]? = some 40)
    (hB : B' ≤ B) (h : GotRP s (a + 1 + k + 1) B w (Tp (T f) 3 (fr s (a + 1 + k + 1))) 2 (x : Int) k0 x0 v to) : GotR s a B' w (conT (T f) (fr s (a + 1))) k0 x0 v to := by
  subst hl
  rw [con_eq_parts f s a h1 ht h40]
  unfold GotRP at h
  cases hp : Tp (T f) 3 (fr s (a + 1 + (run s (a + 1)).length + 1)) with
  | none => rw [hp] at h; exact Or.inl h
  | some y =>
    obtain ⟨ks, m⟩ := y
    rw [hp] at h
    obtain ⟨e1, e2, e3, e4⟩ := h
    exact ⟨e1, e2, by rw [e3]; omega, own_base e4 hB⟩
theorem GotRP.set {s : ByteArray} {a B : Nat} {w : World} {o : Option (List (List UInt8) × Nat)} {k0 x0 k x : Int} {v : Value} {to : Int} (h : GotRP s a B w o k0 x0 k x v to) {p : Addr} (hp : p.block < B) (u : Value) : GotRP s a B (w.setCell p u) o k0 x0 k x v to := by
  unfold GotRP at *
  cases o with
  | none => exact h
  | some y =>
    obtain ⟨h1, h2, h3, h4⟩ := h
    exact ⟨h1, h2, h3, ownsRow_setCell_below h4 hp u⟩

set_option maxHeartbeats 3200000 in
set_option maxRecDepth 100000 in
theorem rterm_con (f : Nat) (hP : RPartsSaid f) (s : ByteArray) (a : Nat) (w : World) (hlt : a < s.size) (hs : s.size ≤ 1024) (hf : s.size - a < f + 1) (h95 : ((s[a].toNat : Int) == 95) = false) (h33 : ((s[a].toNat : Int) == 33) = false) (h64 : ((s[a].toNat : Int) == 64) = true) :
    Calls Tryd.prog 25 #[.string s, .int .i64 (a : Int)] w fun e w' => ∃ k x v to, e = .returned (.agg #[.int .i64 k, .int .i64 x, v, .int .i64 to]) ∧
      Below w.heap.size w w' ∧ (∃ g n c, v = .slice g n c) ∧ GotR s a w.heap.size w' (T (f + 1) (fr s a)) k x v to := by
  have HT : Hid (T (f + 1) (fr s a) = conT (T f) (fr s (a + 1))) := T_is_con f s a (byte_yes hlt 64 h64)
  have hlt' : (a : Int) + 1 ≤ (s.size : Int) := by omega
  go_enter Tryd.func25, Tryd.ntmps25
  go_wp2_with fail
  refine (digits_at s (a + 1) _ hs).mono ?_
  rintro e w' ⟨x, k, rfl, rfl, hq⟩
  have HQ : Hid (DigQ (fr s (a + 1)) x k) := hq
  have hk1 := hq.1
  rw [fr_len] at hk1
  have hk6 := hq.2.1
  clear hq
  by_cases hk : k = 0
  · have hkb : ((k : Int) == 0) = true := by simp [hk]
    have HN : Hid (T (f + 1) (fr s a) = none) := HT.out.trans (r_con_bad HQ.out (Or.inl hk))
    clear hk
    go_wp2_with fail
    refine (bad_any _).mono ?_
    rintro e w2 ⟨rfl, hb2⟩
    obtain ⟨hc, hfz⟩ := bcell hb2
    have hz : w.heap.size < w2.heap.size := by have := hb2.size; simp at this; omega
    have h02 : Below w.heap.size w w2 := ((Below.refl _ _).alloc (Nat.le_refl _) _).trans (hb2.mono (by simp))
    go_wp2_with fail
    refine bodyPost_ret (v := .agg #[.int .i64 0, .int .i64 0, .slice none 0 0, .int .i64 (-1)]) (by simp [results, Tryd.results25, go_sem, hc]) rfl ⟨0, 0, _, _, rfl, ?_, ⟨_, _, _, rfl⟩, ?_⟩
    · exact (((h02.setCell (Nat.le_refl _) _).setCell (Nat.le_refl _) _).setCell (Nat.le_refl _) _).setCell (Nat.le_refl _) _
    · exact gotr_bad HN.out
  · have hkb : ((k : Int) == 0) = false := by simp; exact hk
    by_cases hx : 99 < x
    · have hx' : (99 : Int) < (x : Int) := by omega
      have HN : Hid (T (f + 1) (fr s a) = none) := HT.out.trans (r_con_bad HQ.out (Or.inr hx))
      clear hk hx
      go_wp2_with fail
      refine (bad_any _).mono ?_
      rintro e w2 ⟨rfl, hb2⟩
      obtain ⟨hc, hfz⟩ := bcell hb2
      have hz : w.heap.size < w2.heap.size := by have := hb2.size; simp at this; omega
      have h02 : Below w.heap.size w w2 := ((Below.refl _ _).alloc (Nat.le_refl _) _).trans (hb2.mono (by simp))
      go_wp2_with fail
      refine bodyPost_ret (v := .agg #[.int .i64 0, .int .i64 0, .slice none 0 0, .int .i64 (-1)]) (by simp [results, Tryd.results25, go_sem, hc]) rfl ⟨0, 0, _, _, rfl, ?_, ⟨_, _, _, rfl⟩, ?_⟩
      · exact (((h02.setCell (Nat.le_refl _) _).setCell (Nat.le_refl _) _).setCell (Nat.le_refl _) _).setCell (Nat.le_refl _) _
      · exact gotr_bad HN.out
    · have hx' : (x : Int) ≤ 99 := by omega
      have htag := tag_of (x := x) (by omega)
      rcases r_con_ok (f := f) HQ.out hk (by omega) with ⟨hl, hcn⟩ | ⟨hcn, hnc⟩
      · have HL : Hid ((run s (a + 1)).length = k) := hl
        have HC : Hid (canon (run s (a + 1)) = some (x : Int)) := hcn
        clear hk hx hl hcn
        by_cases hto : a + 1 + k < s.size
        · have hto' : (a : Int) + 1 + (k : Int) < (s.size : Int) := by omega
          cases h40 : ((s[a + 1 + k].toNat : Int) == 40) with
          | true =>
            have c40 : Hid (s.data.toList[a + 1 + k]? = some 40) := byte_yes hto 40 h40
            go_wp2_with fail
            refine (hP s _ (a + 1 + k + 1) 2 (x : Int) _ _ (by omega) hto hs (by omega)).mono ?_
            rintro e w2 ⟨kk, xx, v, to, rfl, hb2, ⟨g, n', c, rfl⟩, hgot⟩
            have HG : Hid (GotRP s (a + 1 + k + 1) (w.heap.size + 2) w2 (Tp (T f) 3 (fr s (a + 1 + k + 1))) 2 (x : Int) kk xx (.slice g n' c) to) := by
              simp only [World.size_alloc] at hgot; exact hgot
            clear hgot
            obtain ⟨hc, hfz⟩ := bcell hb2
            have hz : w.heap.size + 1 < w2.heap.size := by have := hb2.size; simp at this; omega
            have hz2 : w.heap.size < w2.heap.size := by omega
            have h02 : Below w.heap.size w w2 := (((Below.refl _ _).alloc (Nat.le_refl _) _).alloc (by simp) _).trans (hb2.mono (by simp; omega))
            have q0 : w2.cell? ⟨w.heap.size, 0, none⟩ = some (.int .i64 0) := by rw [hc _ _ (by simp; omega)]; simp [go_sem]
            have q1 : w2.cell? ⟨w.heap.size, 1, none⟩ = some (.int .i64 0) := by rw [hc _ _ (by simp; omega)]; simp [go_sem]
            have q2 : w2.cell? ⟨w.heap.size, 2, none⟩ = some (.slice none 0 0) := by rw [hc _ _ (by simp; omega)]; simp [go_sem]
            have q3 : w2.cell? ⟨w.heap.size, 3, none⟩ = some (.int .i64 0) := by rw [hc _ _ (by simp; omega)]; simp [go_sem]
            go_wp2_with fail
            refine bodyPost_ret (v := .agg #[.int .i64 kk, .int .i64 xx, .slice g n' c, .int .i64 to]) (by simp [results, Tryd.results25, go_sem, q0, q1, q2, q3]) rfl ⟨kk, xx, _, to, rfl, ?_, ⟨_, _, _, rfl⟩, ?_⟩
            · exact (((h02.setCell (Nat.le_refl _) _).setCell (Nat.le_refl _) _).setCell (Nat.le_refl _) _).setCell (Nat.le_refl _) _
            · rw [HT.out]
              refine gotr_parts HL.out HC.out htag c40.out (B := w.heap.size + 2) (by omega) ?_
              have hg : GotRP s (a + 1 + k + 1) (w.heap.size + 2) w2 (Tp (T f) 3 (fr s (a + 1 + k + 1))) 2 (x : Int) kk xx (.slice g n' c) to := HG.out
              exact (((hg.set (by simp) _).set (by simp) _).set (by simp) _).set (by simp) _
          | false =>
            have c40 : Hid (s.data.toList[a + 1 + k]? ≠ some 40) := byte_no hto 40 h40
            go_wp2_with fail
            refine bodyPost_ret (v := .agg #[.int .i64 2, .int .i64 (x : Int), .slice none 0 0, .int .i64 ((a : Int) + 1 + (k : Int))]) (by simp [results, Tryd.results25, go_sem]) rfl ⟨2, (x : Int), _, _, rfl, ?_, ⟨_, _, _, rfl⟩, ?_⟩
            · exact ((Below.refl _ _).alloc (Nat.le_refl _) _).alloc (by simp) _
            · rw [HT.out, con_eq_bare f s a HC.out htag (by rw [HL.out]; exact c40.out)]
              exact ⟨rfl, rfl, by rw [HL.out]; omega, World.ownsRow_nil _ _ _ _⟩
        · have hto' : (s.size : Int) ≤ (a : Int) + 1 + (k : Int) := by omega
          have c40 : Hid (s.data.toList[a + 1 + k]? ≠ some 40) := by
            show s.data.toList[a + 1 + k]? ≠ some 40
            rw [List.getElem?_eq_none (by simpa using hto)]; simp
          go_wp2_with fail
          refine bodyPost_ret (v := .agg #[.int .i64 2, .int .i64 (x : Int), .slice none 0 0, .int .i64 ((a : Int) + 1 + (k : Int))]) (by simp [results, Tryd.results25, go_sem]) rfl ⟨2, (x : Int), _, _, rfl, ?_, ⟨_, _, _, rfl⟩, ?_⟩
          · exact ((Below.refl _ _).alloc (Nat.le_refl _) _).alloc (by simp) _
          · rw [HT.out, con_eq_bare f s a HC.out htag (by rw [HL.out]; exact c40.out)]
            exact ⟨rfl, rfl, by rw [HL.out]; omega, World.ownsRow_nil _ _ _ _⟩
      · have HC : Hid (conT (T f) (fr s (a + 1)) = none) := hcn
        have HNC : Hid (NcAt s (a + 1 + k)) := hnc
        obtain ⟨hto, hncb⟩ := nc_byte hnc
        have hto' : (a : Int) + 1 + (k : Int) < (s.size : Int) := by omega
        have h40 : ((s[a + 1 + k].toNat : Int) == 40) = false := by
          rcases nc_yes hncb with e | ⟨_, e, _⟩
          · rw [beq_eq_false_iff_ne]; omega
          · rw [beq_eq_false_iff_ne]; omega
        clear hk hx hcn hnc hncb
        go_wp2_with fail
        refine bodyPost_ret (v := .agg #[.int .i64 2, .int .i64 (x : Int), .slice none 0 0, .int .i64 ((a : Int) + 1 + (k : Int))]) (by simp [results, Tryd.results25, go_sem]) rfl ⟨2, (x : Int), _, _, rfl, ?_, ⟨_, _, _, rfl⟩, ?_⟩
        · exact ((Below.refl _ _).alloc (Nat.le_refl _) _).alloc (by simp) _
        · rw [HT.out, HC.out]
          exact Or.inr ⟨a + 1 + k, by omega, by omega, HNC.out⟩

set_option maxHeartbeats 1600000 in
set_option maxRecDepth 100000 in
theorem rterm_of (f : Nat) (hP : RPartsSaid f) : RTermSaid (f + 1) := by
  intro s i a w hi ha hs hf
  subst hi
  by_cases hlt : a < s.size
  · cases h95 : ((s[a].toNat : Int) == 95) with
    | true =>
      have c95 : Hid _ := byte_yes hlt 95 h95
      go_enter Tryd.func25, Tryd.ntmps25
      go_wp2_with fail
      refine bodyPost_ret (v := .agg #[.int .i64 0, .int .i64 0, .slice none 0 0, .int .i64 ((a : Int) + 1)]) (by simp [results, Tryd.results25, go_sem]) rfl ⟨0, 0, _, _, rfl, ?_, ⟨_, _, _, rfl⟩, ?_⟩
      · exact (Below.refl _ _).alloc (Nat.le_refl _) _
      · rw [T_is_hole f s a c95.out]
        exact ⟨rfl, rfl, rfl, World.ownsRow_nil _ _ _ _⟩
    | false =>
      cases h33 : ((s[a].toNat : Int) == 33) with
      | true =>
        have c33 : Hid _ := byte_yes hlt 33 h33
        go_enter Tryd.func25, Tryd.ntmps25
        go_wp2_with fail
        refine bodyPost_ret (v := .agg #[.int .i64 3, .int .i64 0, .slice none 0 0, .int .i64 ((a : Int) + 1)]) (by simp [results, Tryd.results25, go_sem]) rfl ⟨3, 0, _, _, rfl, ?_, ⟨_, _, _, rfl⟩, ?_⟩
        · exact (Below.refl _ _).alloc (Nat.le_refl _) _
        · rw [T_is_fail f s a c33.out]
          exact ⟨rfl, rfl, rfl, World.ownsRow_nil _ _ _ _⟩
      | false =>
        cases h64 : ((s[a].toNat : Int) == 64) with
        | true => exact rterm_con f hP s a w hlt hs hf h95 h33 h64
        | false =>
          cases h45 : ((s[a].toNat : Int) == 45) with
          | true => exact rterm_minus f s a w hlt hs h95 h33 h64 h45
          | false => exact rterm_num f s a w hlt hs h95 h33 h64 h45
  · exact rterm_end f s a w ha (by omega) hs
end Go.Proofs.YtcjpepbajcdenaaDoor
