/- The contract of readCon out of readParts'. -/
import Derived.Test.YtcjpepbajcdenaaDoorSaid
namespace Go.Proofs.YtcjpepbajcdenaaDoor
open Go.RowKit
set_option linter.unusedVariables false

theorem con_none_a {rd : List UInt8 → Option Rd} {r : List UInt8} (h : ∀ v, canon (numPart r) = some v → tagB v = false) : conT rd r = none := by
  unfold conT
  cases hc : canon (numPart r) with
  | none => rfl
  | some v => simp only; rw [if_neg (by rw [h v hc]; simp)]
theorem con_none_b {rd : List UInt8 → Option Rd} {r : List UInt8} {v : Int} (hc : canon (numPart r) = some v) (ht : tagB v = true) (h40 : r[(numPart r).length]? = some 40)
    (hp : Tp rd 3 (r.drop ((numPart r).length + 1)) = none) : conT rd r = none := by
  unfold conT; rw [hc]; simp only; rw [if_pos ht, if_pos h40, hp]

theorem hasI_iff {s : ByteArray} {i : Int} {a : Nat} {c : UInt8} {n : Int} (hi : i = (a : Int)) (hn : n = (c.toNat : Int)) : hasI s i n = true ↔ s.data.toList[a]? = some c := by
  subst hi; subst hn
  unfold hasI
  rw [Int.toNat_natCast]
  cases h : s.data.toList[a]? with
  | none => simp
  | some d =>
    simp only [decide_eq_true_eq, Option.some.injEq]
    constructor
    · intro e; exact UInt8.toNat_inj.1 (by omega)
    · intro e; rw [e]
theorem hasI_not {s : ByteArray} {i : Int} {a : Nat} {c : UInt8} {n : Int} (hi : i = (a : Int)) (hn : n = (c.toNat : Int)) (h : hasI s i n = false) : s.data.toList[a]? ≠ some c := by
  intro e
  rw [(hasI_iff hi hn).2 e] at h; cases h

theorem fr_at (s : ByteArray) (a n : Nat) : (fr s a)[n]? = s.data.toList[a + n]? := by unfold fr; rw [List.getElem?_drop]
theorem fr_drop (s : ByteArray) (a n : Nat) : (fr s a).drop n = fr s (a + n) := by unfold fr; rw [List.drop_drop]

theorem con_eq_none (f : Nat) (s : ByteArray) (a : Nat) (h : ∀ v, canon (run s (a + 1)) = some v → tagB v = false) : conT (T f) (fr s (a + 1)) = none := con_none_a h
theorem con_eq_bare (f : Nat) (s : ByteArray) (a : Nat) {n : Int} (h1 : canon (run s (a + 1)) = some n) (ht : tagB n = true) (h40 : s.data.toList[a + 1 + (run s (a + 1)).length]? ≠ some 40) :
    conT (T f) (fr s (a + 1)) = some (2, n, [], 1 + (run s (a + 1)).length) := by
  refine conT_bare h1 ht ?_
  show (fr s (a + 1))[(run s (a + 1)).length]? ≠ some 40
  rw [fr_at]; exact h40
theorem con_eq_parts (f : Nat) (s : ByteArray) (a : Nat) {n : Int} (h1 : canon (run s (a + 1)) = some n) (ht : tagB n = true) (h40 : s.data.toList[a + 1 + (run s (a + 1)).length]? = some 40) :
    conT (T f) (fr s (a + 1)) = match Tp (T f) 3 (fr s (a + 1 + (run s (a + 1)).length + 1)) with
      | none => none
      | some (ks, m) => some (2, n, ks, 1 + (run s (a + 1)).length + 1 + m) := by
  have h40' : (fr s (a + 1))[(run s (a + 1)).length]? = some 40 := by rw [fr_at]; exact h40
  have e : (fr s (a + 1)).drop ((run s (a + 1)).length + 1) = fr s (a + 1 + (run s (a + 1)).length + 1) := by rw [fr_drop]; rfl
  rw [← e]
  unfold conT
  rw [show numPart (fr s (a + 1)) = run s (a + 1) from rfl, h1]
  simp only
  rw [if_pos ht, if_pos h40']
  cases Tp (T f) 3 ((fr s (a + 1)).drop ((run s (a + 1)).length + 1)) with
  | none => rfl
  | some x => obtain ⟨ks, m⟩ := x; rfl

theorem Held.set {s : ByteArray} {B : Nat} {w : World} {v : Value} {ps : List (Nat × Nat)} {ks : List (List UInt8)} (h : Held s B w v ps ks) {p : Addr} (hp : p.block < B) (u : Value) : Held s B (w.setCell p u) v ps ks :=
  ⟨h.1, h.2.1, ownsRow_setCell_below h.2.2 hp u⟩
theorem GotP.set {s : ByteArray} {a B : Nat} {w : World} {o : Option (List (List UInt8) × Nat)} {v : Value} {to : Int} {b : Bool} (h : GotP s a B w o v to b) {p : Addr} (hp : p.block < B) (u : Value) : GotP s a B (w.setCell p u) o v to b := by
  unfold GotP at *
  cases o with
  | none => exact h
  | some x =>
    obtain ⟨h1, h2, ps, h3⟩ := h
    exact ⟨h1, h2, ps, h3.set hp u⟩
theorem got_parts {f : Nat} {s : ByteArray} {a B B' : Nat} {w : World} {n : Int} {v : Value} {to : Int} {b : Bool} (h1 : canon (run s (a + 1)) = some n) (ht : tagB n = true) (h40 : s.data.toList[a + 1 + (run s (a + 1)).length]? = some 40)
    (hB : B' ≤ B) (h : GotP s (a + 1 + (run s (a + 1)).length + 1) B w (Tp (T f) 3 (fr s (a + 1 + (run s (a + 1)).length + 1))) v to b) :
    Got s a B' w (conT (T f) (fr s (a + 1))) 2 n v to b := by
  rw [con_eq_parts f s a h1 ht h40]
  unfold GotP at h
  cases hp : Tp (T f) 3 (fr s (a + 1 + (run s (a + 1)).length + 1)) with
  | none => rw [hp] at h; exact h
  | some x =>
    obtain ⟨ks, m⟩ := x
    rw [hp] at h
    obtain ⟨e1, e2, ps, e3⟩ := h
    exact ⟨e1, rfl, rfl, by rw [e2]; omega, ps, e3.base hB⟩

set_option maxHeartbeats 800000 in
set_option maxRecDepth 100000 in
theorem con_of (hA : AtoiSaid) (hI : ItoaSaid) (f : Nat) (hP : PartsSaid f) : ConSaid f := by
  intro s i a w hi ha hs hf hw
  subst hi
  have hr := run_le s (a + 1) ha
  go_enter Tryd.func32, Tryd.ntmps32
  go_wp2_with fail
  refine (dec_at hA hI s _ (a + 1) _ (by omega) ha hs ?_).mono ?_
  · exact hw.on ((Below.refl _ _).alloc (Nat.le_refl _) _)
  rintro e w1 ⟨n, b, rfl, hb1, hb0, hbel⟩
  obtain ⟨hc, hfz⟩ := bcell hbel
  have hz : w.heap.size < w1.heap.size := by have := hbel.size; simp at this; omega
  have h01 : Below w.heap.size w w1 := ((Below.refl _ _).alloc (Nat.le_refl _) _).trans (hbel.mono (by simp))
  cases b with
  | false =>
    have H0 : Hid _ := hb0 rfl
    clear hb1 hb0
    go_wp2_with fail
    refine bodyPost_ret (v := .tuple #[.agg #[.int .i64 0, .int .i64 0, .slice none 0 0, .int .i64 0], .bool false]) (by simp [results, Tryd.results32, go_sem, hc]) rfl ⟨0, 0, _, 0, false, rfl, ?_, ⟨_, _, _, rfl⟩, ?_⟩
    · exact (((h01.setCell (Nat.le_refl _) _).setCell (Nat.le_refl _) _).setCell (Nat.le_refl _) _).setCell (Nat.le_refl _) _
    · rw [con_eq_none f s a (fun v hv => (H0.out v hv).2)]; exact ⟨rfl, rfl⟩
  | true =>
    have H1 : Hid _ := hb1 rfl
    clear hb1 hb0
    cases ht : tagB n with
    | false =>
      go_wp2_with (go_at_call 35; refine (tag_any _ _).mono ?_; rintro e w' ⟨rfl, rfl⟩)
      refine bodyPost_ret (v := .tuple #[.agg #[.int .i64 0, .int .i64 0, .slice none 0 0, .int .i64 0], .bool false]) (by simp [results, Tryd.results32, go_sem, hc]) rfl ⟨0, 0, _, 0, false, rfl, ?_, ⟨_, _, _, rfl⟩, ?_⟩
      · exact (((h01.setCell (Nat.le_refl _) _).setCell (Nat.le_refl _) _).setCell (Nat.le_refl _) _).setCell (Nat.le_refl _) _
      · have h1 := H1.out
        rw [con_eq_none f s a (fun v hv => by rw [h1] at hv; rw [← Option.some.inj hv]; exact ht)]; exact ⟨rfl, rfl⟩
    | true =>
      cases hh : hasI s ((a : Int) + 1 + ((run s (a + 1)).length : Int)) 40 with
      | false =>
        go_wp2_with (first | (go_at_call 35; refine (tag_any _ _).mono ?_; rintro e w' ⟨rfl, rfl⟩) | (go_at_call 31; refine (has_any _ _ _ _ (by omega) (by omega)).mono ?_; rintro e w' ⟨rfl, rfl⟩))
        refine bodyPost_ret (v := .tuple #[.agg #[.int .i64 2, .int .i64 n, .slice none 0 0, .int .i64 ((a : Int) + 1 + ((run s (a + 1)).length : Int))], .bool true]) (by simp [results, Tryd.results32, go_sem, hc, hz]) rfl ⟨2, n, _, _, true, rfl, ?_, ⟨_, _, _, rfl⟩, ?_⟩
        · exact ((((h01.setCell (Nat.le_refl _) _).setCell (Nat.le_refl _) _).setCell (Nat.le_refl _) _).setCell (Nat.le_refl _) _).alloc (by simp; omega) _
        · have h1 := H1.out
          have h40 := hasI_not (c := 40) (a := a + 1 + (run s (a + 1)).length) (by omega) rfl hh
          rw [con_eq_bare f s a h1 ht h40]
          exact ⟨rfl, rfl, rfl, by omega, [], Held.nil _ _ _⟩
      | true =>
        have h40 : Hid _ := (hasI_iff (c := 40) (a := a + 1 + (run s (a + 1)).length) (by omega) rfl).1 hh
        have hlt : a + 1 + (run s (a + 1)).length < s.size := by
          have := lt_of_at h40.out
          simpa using this
        go_wp2_with (first | (go_at_call 35; refine (tag_any _ _).mono ?_; rintro e w' ⟨rfl, rfl⟩) | (go_at_call 31; refine (has_any _ _ _ _ (by omega) (by omega)).mono ?_; rintro e w' ⟨rfl, rfl⟩))
        refine (hP s _ (a + 1 + (run s (a + 1)).length + 1) _ (by omega) hlt hs (by omega) ?_).mono ?_
        · exact (hw.on h01).on ((Below.refl _ _).alloc (Nat.le_refl _) _)
        rintro e w2 ⟨v, to, b, rfl, hbel2, ⟨g, n', c, rfl⟩, hgot⟩
        have HG : Hid _ := hgot
        clear hgot
        obtain ⟨hc2, hfz2⟩ := bcell hbel2
        have hz2 : w1.heap.size < w2.heap.size := by have := hbel2.size; simp at this; omega
        have hz3 : w.heap.size < w1.heap.size + 1 := by omega
        have hz4 : w.heap.size ≠ w1.heap.size := by omega
        have h02 : Below w.heap.size w w2 := (h01.alloc (Nat.le_of_lt hz) _).trans (hbel2.mono (by simp; omega))
        go_wp2_with fail
        refine bodyPost_ret (v := .tuple #[.agg #[.int .i64 2, .int .i64 n, .slice g n' c, .int .i64 to], .bool b]) (by simp [results, Tryd.results32, go_sem, hc, hz, hc2, hz3]) rfl ⟨2, n, _, to, b, rfl, ?_, ⟨_, _, _, rfl⟩, ?_⟩
        · exact (((((h02.setCell (Nat.le_of_lt hz) _).setCell (Nat.le_of_lt hz) _).setCell (Nat.le_refl _) _).setCell (Nat.le_refl _) _).setCell (Nat.le_refl _) _).setCell (Nat.le_refl _) _
        · have hp : GotP s (a + 1 + (run s (a + 1)).length + 1) _ w2 (Tp (T f) 3 (fr s (a + 1 + (run s (a + 1)).length + 1))) _ to b := HG.out
          have hB : (w1.alloc (Obj.cells #[Value.int IntKind.i64 2, Value.int IntKind.i64 n, Value.slice none 0 0, Value.int IntKind.i64 ((a : Int) + 1 + ((run s (a + 1)).length : Int))] 48)).heap.size = w1.heap.size + 1 := by simp
          rw [hB] at hp
          refine got_parts H1.out ht h40.out (B := w1.heap.size + 1) (by omega) ?_
          exact (((((hp.set (by simp) _).set (by simp) _).set (by simp; omega) _).set (by simp; omega) _).set (by simp; omega) _).set (by simp; omega) _
end Go.Proofs.YtcjpepbajcdenaaDoor
