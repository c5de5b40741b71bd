/- The contracts of read at each depth and of readWhole and May. -/
import Derived.Test.YtcjpepbajcdenaaDoorParts
namespace Go.Proofs.YtcjpepbajcdenaaDoor
open Go.RowKit
set_option linter.unusedVariables false

theorem read_all (hA : AtoiSaid) (hI : ItoaSaid) : ∀ f, ReadSaid f
  | 0 => fun s i a w _ _ _ h _ => by omega
  | f + 1 => read_of hA hI f (con_of hA hI f (parts_of f (read_all hA hI f)))

/-- What the reading of a whole text hands back. -/
def GotW (s : ByteArray) (B : Nat) (w : World) (o : Option (Int × Int × List (List UInt8))) (k x : Int) (v : Value) (b : Bool) : Prop :=
  match o with
  | none => b = false
  | some (k', x', ks) => b = true ∧ k = k' ∧ x = x' ∧ ∃ ps, Held s B w v ps ks

theorem GotW.base {s : ByteArray} {B B' : Nat} {w : World} {o : Option (Int × Int × List (List UInt8))} {k x : Int} {v : Value} {b : Bool} (h : GotW s B w o k x v b) (hB : B' ≤ B) : GotW s B' w o k x v b := by
  unfold GotW at *
  cases o with
  | none => exact h
  | some y =>
    obtain ⟨h1, h2, h3, ps, h5⟩ := h
    exact ⟨h1, h2, h3, ps, h5.base hB⟩
theorem GotW.set {s : ByteArray} {B : Nat} {w : World} {o : Option (Int × Int × List (List UInt8))} {k x : Int} {v : Value} {b : Bool} (h : GotW s B w o k x v b) {p : Addr} (hp : p.block < B) (u : Value) : GotW s B (w.setCell p u) o k x v b := by
  unfold GotW at *
  cases o with
  | none => exact h
  | some y =>
    obtain ⟨h1, h2, h3, ps, h5⟩ := h
    exact ⟨h1, h2, h3, ps, h5.set hp u⟩
theorem GotW.on {s : ByteArray} {B : Nat} {w w' : World} {o : Option (Int × Int × List (List UInt8))} {k x : Int} {v : Value} {b : Bool} (h : GotW s B w o k x v b) (hb : Below w.heap.size w w') : GotW s B w' o k x v b := by
  unfold GotW at *
  cases o with
  | none => exact h
  | some y =>
    obtain ⟨h1, h2, h3, ps, h5⟩ := h
    exact ⟨h1, h2, h3, ps, h5.on hb⟩

theorem whole_big {l : List UInt8} (h : 1024 < l.length) : whole l = none := by unfold whole; rw [if_neg (by omega)]
theorem got_whole {s : ByteArray} {B : Nat} {w : World} {k x : Int} {v : Value} {to : Int} {b : Bool} (hs : s.size ≤ 1024) (h : Got s 0 B w (T 1025 (fr s 0)) k x v to b) :
    GotW s B w (whole s.data.toList) k x v (b && (to == (s.size : Int))) := by
  have e0 : fr s 0 = s.data.toList := rfl
  have el : s.data.toList.length = s.size := by simp
  rw [e0] at h
  unfold whole
  rw [if_pos (by rw [el]; exact hs)]
  cases hT : T 1025 s.data.toList with
  | none =>
    rw [hT] at h
    obtain ⟨rfl, _⟩ := h
    rfl
  | some y =>
    obtain ⟨k', x', ks, n⟩ := y
    rw [hT] at h
    obtain ⟨rfl, rfl, rfl, rfl, ps, hh⟩ := h
    simp only
    rw [el]
    by_cases hn : n = s.size
    · rw [if_pos hn]
      refine ⟨?_, rfl, rfl, ps, hh⟩
      rw [hn]; simp
    · rw [if_neg hn]
      show (true && _) = false
      rw [Bool.true_and]
      refine beq_eq_false_iff_ne.2 ?_
      omega

set_option maxHeartbeats 800000 in
set_option maxRecDepth 100000 in
theorem whole_any (hA : AtoiSaid) (hI : ItoaSaid) (s : ByteArray) (w : World) (hs : s.size ≤ 140737488355328) (hw : Lw w) :
    Calls Tryd.prog 23 #[.string s] w fun e w' => ∃ k x v to b, e = .returned (.tuple #[.agg #[.int .i64 k, .int .i64 x, v, .int .i64 to], .bool b]) ∧
      Below w.heap.size w w' ∧ (∃ g n c, v = .slice g n c) ∧ GotW s w.heap.size w' (whole s.data.toList) k x v b := by
  by_cases hbig : 1024 < s.size
  · have hb' : (1024 : Int) < (s.size : Int) := by omega
    go_enter Tryd.func23, Tryd.ntmps23
    go_wp2_with fail
    refine bodyPost_ret (v := .tuple #[.agg #[.int .i64 0, .int .i64 0, .slice none 0 0, .int .i64 0], .bool false]) (by simp [results, Tryd.results23, go_sem]) rfl ⟨0, 0, _, 0, false, rfl, ?_, ⟨_, _, _, rfl⟩, ?_⟩
    · exact (Below.refl _ _).alloc (Nat.le_refl _) _
    · rw [whole_big (by simpa using hbig)]; rfl
  · have hb' : (s.size : Int) ≤ 1024 := by omega
    go_enter Tryd.func23, Tryd.ntmps23
    go_wp2_with fail
    refine (read_all hA hI 1025 s _ 0 _ rfl (Nat.zero_le _) (by omega) (by omega) ?_).mono ?_
    · exact hw.on ((Below.refl _ _).alloc (Nat.le_refl _) _)
    rintro e w1 ⟨k, x, v, to, b, rfl, hbel, ⟨g, n', c, rfl⟩, hgot⟩
    have HG : Hid (Got s 0 (w.heap.size + 1) w1 (T 1025 (fr s 0)) k x (.slice g n' c) to b) := by
      have hB : (w.alloc (Obj.cells #[Value.int IntKind.i64 0, Value.int IntKind.i64 0, Value.slice none 0 0, Value.int IntKind.i64 0] 48)).heap.size = w.heap.size + 1 := by simp
      rw [hB] at hgot; exact hgot
    clear hgot
    obtain ⟨hc, hfz⟩ := bcell hbel
    have hz : w.heap.size < w1.heap.size := by have := hbel.size; simp at this; omega
    have h01 : Below w.heap.size w w1 := ((Below.refl _ _).alloc (Nat.le_refl _) _).trans (hbel.mono (by simp))
    have hset : ∀ w', GotW s (w.heap.size + 1) w1 (whole s.data.toList) k x (.slice g n' c) w' → GotW s w.heap.size ((((((w1.setCell ⟨w.heap.size, 0, none⟩ (.int .i64 k)).setCell ⟨w.heap.size, 1, none⟩ (.int .i64 x)).setCell ⟨w.heap.size, 2, none⟩ (.slice g n' c)).setCell ⟨w.heap.size, 3, none⟩ (.int .i64 to)).alloc (Obj.cells #[.int .i64 k, .int .i64 x, .slice g n' c, .int .i64 to] 48)).drew) (whole s.data.toList) k x (.slice g n' c) w' := fun b' hg => by
      refine (GotW.base (B := w.heap.size + 1) ?_ (by omega))
      have h4 := (((hg.set (p := ⟨w.heap.size, 0, none⟩) (by simp) (.int .i64 k)).set (p := ⟨w.heap.size, 1, none⟩) (by simp) (.int .i64 x)).set (p := ⟨w.heap.size, 2, none⟩) (by simp) (.slice g n' c)).set (p := ⟨w.heap.size, 3, none⟩) (by simp) (.int .i64 to)
      exact h4.on ((Below.refl _ _).alloc (Nat.le_refl _) _).drew
    have HS : Hid _ := hset
    clear hset
    cases b with
    | false =>
      go_wp2_with fail
      go_region
      all_goals
        go_wp2_with fail
        refine bodyPost_ret (v := .tuple #[.agg #[.int .i64 k, .int .i64 x, .slice g n' c, .int .i64 to], .bool false]) (by simp [results, Tryd.results23, go_sem, hc, hz]) rfl ⟨k, x, _, to, false, rfl, ?_, ⟨_, _, _, rfl⟩, ?_⟩
        · exact (((((h01.setCell (Nat.le_refl _) _).setCell (Nat.le_refl _) _).setCell (Nat.le_refl _) _).setCell (Nat.le_refl _) _).alloc (by simp; omega) _).drew
        · exact HS.out _ (got_whole (by omega) HG.out)
    | true =>
      go_wp2_with fail
      go_region
      all_goals
        go_wp2_with fail
        refine bodyPost_ret (v := .tuple #[.agg #[.int .i64 k, .int .i64 x, .slice g n' c, .int .i64 to], .bool (to == (s.size : Int))]) (by simp [results, Tryd.results23, go_sem, hc, hz]) rfl ⟨k, x, _, to, (to == (s.size : Int)), rfl, ?_, ⟨_, _, _, rfl⟩, ?_⟩
        · exact (((((h01.setCell (Nat.le_refl _) _).setCell (Nat.le_refl _) _).setCell (Nat.le_refl _) _).setCell (Nat.le_refl _) _).alloc (by simp; omega) _).drew
        · exact HS.out _ (got_whole (b := true) (by omega) HG.out)

set_option maxHeartbeats 800000 in
theorem tmay_any (hA : AtoiSaid) (hI : ItoaSaid) (s : ByteArray) (w : World) (hs : s.size ≤ 140737488355328) (hw : Lw w) :
    Calls Tryd.prog 15 #[.string s] w fun e w' => e = .returned (.bool (whole s.data.toList).isSome) ∧ Below w.heap.size w w' := by
  go_enter Tryd.func15, Tryd.ntmps15
  go_wp2_with fail
  refine (whole_any hA hI s _ hs hw).mono ?_
  rintro e w1 ⟨k, x, v, to, b, rfl, hbel, ⟨g, n', c, rfl⟩, hgot⟩
  have hb : b = (whole s.data.toList).isSome := by
    unfold GotW at hgot
    cases hw : whole s.data.toList with
    | none => rw [hw] at hgot; exact hgot
    | some y => rw [hw] at hgot; exact hgot.1
  clear hgot
  subst hb
  go_wp2_with fail
  go_ret
  exact ⟨rfl, hbel.alloc hbel.size _⟩

end Go.Proofs.YtcjpepbajcdenaaDoor
