/- The contract of read, one level deeper, out of readCon's. -/
import Derived.Test.YtcjpepbajcdenaaDoorCon
namespace Go.Proofs.YtcjpepbajcdenaaDoor
open Go.RowKit
set_option linter.unusedVariables false

theorem fr_zero (s : ByteArray) (a : Nat) : (fr s a)[0]? = s.data.toList[a]? := by rw [fr_at]; rfl
theorem T_is_hole (f : Nat) (s : ByteArray) (a : Nat) (h : s.data.toList[a]? = some 95) : T (f + 1) (fr s a) = some (0, 0, [], 1) := T_hole (by rw [fr_zero]; exact h)
theorem T_is_fail (f : Nat) (s : ByteArray) (a : Nat) (h : s.data.toList[a]? = some 33) : T (f + 1) (fr s a) = some (3, 0, [], 1) := T_fail (by rw [fr_zero]; exact h)
theorem T_is_con (f : Nat) (s : ByteArray) (a : Nat) (h : s.data.toList[a]? = some 64) : T (f + 1) (fr s a) = conT (T f) (fr s (a + 1)) := by
  rw [T_con (by rw [fr_zero]; exact h), fr_drop]
theorem T_is_num (f : Nat) (s : ByteArray) (a : Nat) (h1 : s.data.toList[a]? ≠ some 95) (h2 : s.data.toList[a]? ≠ some 33) (h3 : s.data.toList[a]? ≠ some 64) : T (f + 1) (fr s a) = numT (fr s a) :=
  T_num (by rw [fr_zero]; exact h1) (by rw [fr_zero]; exact h2) (by rw [fr_zero]; exact h3)
theorem num_is_none (s : ByteArray) (a : Nat) (h : ∀ v, canon (run s a) = some v → mayB v = false) : numT (fr s a) = none := by
  unfold numT
  rw [show numPart (fr s a) = run s a from rfl]
  cases hc : canon (run s a) with
  | none => rfl
  | some v => simp only; rw [if_neg (by rw [h v hc]; simp)]
theorem num_is_some (s : ByteArray) (a : Nat) {n : Int} (h : canon (run s a) = some n) (hm : mayB n = true) : numT (fr s a) = some (1, n, [], (run s a).length) := by
  unfold numT
  rw [show numPart (fr s a) = run s a from rfl, h]
  simp only; rw [if_pos hm]

theorem Got.set {s : ByteArray} {a B : Nat} {w : World} {o : Option Rd} {k x : Int} {v : Value} {to : Int} {b : Bool} (h : Got s a B w o k x v to b) {p : Addr} (hp : p.block < B) (u : Value) : Got s a B (w.setCell p u) o k x v to b := by
  unfold Got at *
  cases o with
  | none => exact h
  | some y =>
    obtain ⟨h1, h2, h3, h4, ps, h5⟩ := h
    exact ⟨h1, h2, h3, h4, ps, h5.set hp u⟩
theorem Got.base {s : ByteArray} {a B B' : Nat} {w : World} {o : Option Rd} {k x : Int} {v : Value} {to : Int} {b : Bool} (h : Got s a B w o k x v to b) (hB : B' ≤ B) : Got s a B' w o k x v to b := by
  unfold Got at *
  cases o with
  | none => exact h
  | some y =>
    obtain ⟨h1, h2, h3, h4, ps, h5⟩ := h
    exact ⟨h1, h2, h3, h4, ps, h5.base hB⟩

set_option maxHeartbeats 800000 in
set_option maxRecDepth 100000 in
theorem read_of (hA : AtoiSaid) (hI : ItoaSaid) (f : Nat) (hC : ConSaid f) : ReadSaid (f + 1) := by
  intro s i a w hi ha hs hf hw
  subst hi
  cases h95 : hasI s (a : Int) 95 with
  | true =>
    have c95 : Hid _ := (hasI_iff (c := 95) (a := a) rfl rfl).1 h95
    go_enter Tryd.func26, Tryd.ntmps26
    go_wp2_with (go_at_call 31; refine (has_any _ _ _ _ (by omega) (by omega)).mono ?_; rintro e w' ⟨rfl, rfl⟩)
    refine bodyPost_ret (v := .tuple #[.agg #[.int .i64 0, .int .i64 0, .slice none 0 0, .int .i64 ((a : Int) + 1)], .bool true]) (by simp [results, Tryd.results26, go_sem]) rfl ⟨0, 0, _, _, true, rfl, ?_, ⟨_, _, _, rfl⟩, ?_⟩
    · exact (Below.refl _ _).alloc (Nat.le_refl _) _
    · rw [T_is_hole f s a c95.out]
      exact ⟨rfl, rfl, rfl, rfl, [], Held.nil _ _ _⟩
  | false =>
    have c95 : Hid _ := hasI_not (c := 95) (a := a) rfl rfl h95
    cases h33 : hasI s (a : Int) 33 with
    | true =>
      have c33 : Hid _ := (hasI_iff (c := 33) (a := a) rfl rfl).1 h33
      go_enter Tryd.func26, Tryd.ntmps26
      go_wp2_with (go_at_call 31; refine (has_any _ _ _ _ (by omega) (by omega)).mono ?_; rintro e w' ⟨rfl, rfl⟩)
      refine bodyPost_ret (v := .tuple #[.agg #[.int .i64 3, .int .i64 0, .slice none 0 0, .int .i64 ((a : Int) + 1)], .bool true]) (by simp [results, Tryd.results26, go_sem]) rfl ⟨3, 0, _, _, true, rfl, ?_, ⟨_, _, _, rfl⟩, ?_⟩
      · exact (Below.refl _ _).alloc (Nat.le_refl _) _
      · rw [T_is_fail f s a c33.out]
        exact ⟨rfl, rfl, rfl, rfl, [], Held.nil _ _ _⟩
    | false =>
      have c33 : Hid _ := hasI_not (c := 33) (a := a) rfl rfl h33
      cases h64 : hasI s (a : Int) 64 with
      | true =>
        have c64 : Hid _ := (hasI_iff (c := 64) (a := a) rfl rfl).1 h64
        have hlt : a < s.size := by
          have := lt_of_at c64.out
          simpa using this
        go_enter Tryd.func26, Tryd.ntmps26
        go_wp2_with (go_at_call 31; refine (has_any _ _ _ _ (by omega) (by omega)).mono ?_; rintro e w' ⟨rfl, rfl⟩)
        refine (hC s _ a _ rfl hlt hs (by omega) ?_).mono ?_
        · exact hw.on ((Below.refl _ _).alloc (Nat.le_refl _) _)
        rintro e w1 ⟨k, x, v, to, b, rfl, hbel, ⟨g, n', c, rfl⟩, hgot⟩
        have HG : Hid _ := hgot
        clear hgot
        obtain ⟨hc, hfz⟩ := bcell hbel
        have hz : w.heap.size < w1.heap.size := by have := hbel.size; simp at this; omega
        have h01 : Below w.heap.size w w1 := ((Below.refl _ _).alloc (Nat.le_refl _) _).trans (hbel.mono (by simp))
        go_wp2_with fail
        refine bodyPost_ret (v := .tuple #[.agg #[.int .i64 k, .int .i64 x, .slice g n' c, .int .i64 to], .bool b]) (by simp [results, Tryd.results26, go_sem, hc]) rfl ⟨k, x, _, to, b, rfl, ?_, ⟨_, _, _, rfl⟩, ?_⟩
        · exact (((h01.setCell (Nat.le_refl _) _).setCell (Nat.le_refl _) _).setCell (Nat.le_refl _) _).setCell (Nat.le_refl _) _
        · rw [T_is_con f s a c64.out]
          have hg : Got s a _ w1 (conT (T f) (fr s (a + 1))) k x _ to b := HG.out
          refine Got.base (B := w.heap.size + 1) ?_ (by omega)
          have hB : (w.alloc (Obj.cells #[Value.int IntKind.i64 0, Value.int IntKind.i64 0, Value.slice none 0 0, Value.int IntKind.i64 0] 48)).heap.size = w.heap.size + 1 := by simp
          rw [hB] at hg
          exact (((hg.set (by simp) _).set (by simp) _).set (by simp) _).set (by simp) _
      | false =>
        have c64 : Hid _ := hasI_not (c := 64) (a := a) rfl rfl h64
        go_enter Tryd.func26, Tryd.ntmps26
        go_wp2_with (go_at_call 31; refine (has_any _ _ _ _ (by omega) (by omega)).mono ?_; rintro e w' ⟨rfl, rfl⟩)
        refine (dec_at hA hI s _ a _ rfl ha hs ?_).mono ?_
        · exact hw.on ((Below.refl _ _).alloc (Nat.le_refl _) _)
        rintro e w1 ⟨n, b, rfl, hb1, hb0, hbel⟩
        obtain ⟨hc, hfz⟩ := bcell hbel
        have hz : w.heap.size < w1.heap.size := by have := hbel.size; simp at this; omega
        have h01 : Below w.heap.size w w1 := ((Below.refl _ _).alloc (Nat.le_refl _) _).trans (hbel.mono (by simp))
        cases b with
        | false =>
          have H0 : Hid _ := hb0 rfl
          clear hb1 hb0
          go_wp2_with fail
          refine bodyPost_ret (v := .tuple #[.agg #[.int .i64 1, .int .i64 n, .slice none 0 0, .int .i64 ((a : Int) + ((run s a).length : Int))], .bool false]) (by simp [results, Tryd.results26, go_sem, hc]) rfl ⟨1, n, _, _, false, rfl, ?_, ⟨_, _, _, rfl⟩, ?_⟩
          · exact (((h01.setCell (Nat.le_refl _) _).setCell (Nat.le_refl _) _).setCell (Nat.le_refl _) _).setCell (Nat.le_refl _) _
          · rw [T_is_num f s a c95.out c33.out c64.out, num_is_none s a (fun v hv => (H0.out v hv).1)]; exact ⟨rfl, rfl⟩
        | true =>
          have H1 : Hid _ := hb1 rfl
          clear hb1 hb0
          go_wp2_with (go_at_call 34; refine (may_any _ _).mono ?_; rintro e w' ⟨rfl, rfl⟩)
          refine bodyPost_ret (v := .tuple #[.agg #[.int .i64 1, .int .i64 n, .slice none 0 0, .int .i64 ((a : Int) + ((run s a).length : Int))], .bool (mayB n)]) (by simp [results, Tryd.results26, go_sem, hc]) rfl ⟨1, n, _, _, mayB n, rfl, ?_, ⟨_, _, _, rfl⟩, ?_⟩
          · exact (((h01.setCell (Nat.le_refl _) _).setCell (Nat.le_refl _) _).setCell (Nat.le_refl _) _).setCell (Nat.le_refl _) _
          · rw [T_is_num f s a c95.out c33.out c64.out]
            have h1 := H1.out
            cases hm : mayB n with
            | false => rw [num_is_none s a (fun v hv => by rw [h1] at hv; rw [← Option.some.inj hv]; exact hm)]; exact ⟨rfl, rfl⟩
            | true => rw [num_is_some s a h1 hm]; exact ⟨rfl, rfl, rfl, rfl, [], Held.nil _ _ _⟩

end Go.Proofs.YtcjpepbajcdenaaDoor
