/- The contracts of the reference's Cut and TermMay: they hand back what package term's do. -/
import Derived.Test.YtcjpepbajcdenaaDoorRParts
namespace Go.Proofs.YtcjpepbajcdenaaDoor
open Go.RowKit
set_option linter.unusedVariables false

theorem rterm_all : ∀ f, RTermSaid f
  | 0 => fun s i a w _ _ _ h => by omega
  | f + 1 => rterm_of f (rparts_of f (rterm_all f))

theorem rcut_none {s : ByteArray} {B : Nat} {w : World} {k x : Int} {v : Value} {to : Int} (hs : s.size ≤ 1024) (h : GotR s 0 B w (T 1025 (fr s 0)) k x v to) (hne : to ≠ (s.size : Int)) : whole s.data.toList = none := by
  have e0 : fr s 0 = s.data.toList := rfl
  have el : s.data.toList.length = s.size := by simp
  rw [e0] at h
  unfold whole
  rw [if_pos (by rw [el]; exact hs)]
  cases hT : T 1025 s.data.toList with
  | none => rfl
  | some y =>
    obtain ⟨k', x', ks, n⟩ := y
    rw [hT] at h
    obtain ⟨_, _, e, _⟩ := h
    simp only
    rw [el, if_neg (by omega)]
theorem rcut_some {s : ByteArray} {B : Nat} {w : World} {k x : Int} {v : Value} (hs : s.size ≤ 1024) (h : GotR s 0 B w (T 1025 (fr s 0)) k x v (s.size : Int)) : GotC B w (whole s.data.toList) k x v 0 := by
  have e0 : fr s 0 = s.data.toList := rfl
  have el : s.data.toList.length = s.size := by simp
  rw [e0] at h
  unfold whole
  rw [if_pos (by rw [el]; exact hs)]
  cases hT : T 1025 s.data.toList with
  | none =>
    rw [hT] at h
    rcases h with e | ⟨n, e, _, hnc⟩
    · omega
    · obtain ⟨hlt, _⟩ := nc_byte hnc
      omega
  | some y =>
    obtain ⟨k', x', ks, n⟩ := y
    rw [hT] at h
    obtain ⟨rfl, rfl, e, ho⟩ := h
    simp only
    rw [el, if_pos (by omega)]
    exact ⟨rfl, rfl, rfl, ho⟩

set_option maxHeartbeats 1600000 in
set_option maxRecDepth 100000 in
theorem rcut_any (s : ByteArray) (w : World) (hs : s.size ≤ 140737488355328) :
    Calls Tryd.prog 18 #[.string s] w fun e w' => ∃ k x v er, e = .returned (.tuple #[.int .i64 k, .int .i64 x, v, .int .i64 er]) ∧ (∃ g n c, v = .slice g n c) ∧
      Below w.heap.size w w' ∧ GotC w.heap.size w' (whole s.data.toList) k x v er := by
  by_cases hbig : 1024 < s.size
  · have hb' : (1024 : Int) < (s.size : Int) := by omega
    have HW : Hid (whole s.data.toList = none) := whole_big (by simpa using hbig)
    go_enter Tryd.func18, Tryd.ntmps18
    go_wp2_with fail
    refine bodyPost_ret (v := .tuple #[.int .i64 0, .int .i64 0, .slice none 0 0, .int .i64 200]) (by simp [results, Tryd.results18, go_sem]) rfl ⟨0, 0, _, 200, rfl, ⟨_, _, _, rfl⟩, Below.refl _ _, ?_⟩
    rw [HW.out]; exact ⟨rfl, rfl, rfl, rfl⟩
  · have hb' : (s.size : Int) ≤ 1024 := by omega
    go_enter Tryd.func18, Tryd.ntmps18
    go_wp2_with fail
    refine (rterm_all 1025 s _ 0 _ rfl (Nat.zero_le _) (by omega) (by omega)).mono ?_
    rintro e w1 ⟨k, x, v, to, rfl, hb1, ⟨g, n', c, rfl⟩, hgot⟩
    have HG : Hid (GotR s 0 w.heap.size w1 (T 1025 (fr s 0)) k x (.slice g n' c) to) := hgot
    clear hgot
    by_cases hto : to = (s.size : Int)
    · subst hto
      have hne : ((s.size : Int) != (s.size : Int)) = false := by simp
      have HC : Hid (GotC w.heap.size w1 (whole s.data.toList) k x (.slice g n' c) 0) := rcut_some (by omega) HG.out
      go_wp2_with fail
      go_quiet (fail)
      go_wp2_with fail
      refine bodyPost_ret (v := .tuple #[.int .i64 k, .int .i64 x, .slice g n' c, .int .i64 0]) (by simp [results, Tryd.results18, go_sem]) rfl ⟨k, x, _, 0, rfl, ⟨_, _, _, rfl⟩, ?_, ?_⟩
      · exact below_next (hb1.alloc hb1.size _) (below_drewN _ _ _)
      · have h := HC.out
        unfold GotC at h ⊢
        cases hw : whole s.data.toList with
        | none => rw [hw] at h; exact h
        | some y =>
          obtain ⟨k', x', ks⟩ := y
          rw [hw] at h
          obtain ⟨e1, e2, e3, e4⟩ := h
          exact ⟨e1, e2, e3, own_below (e4.alloc _) (below_drewN _ _ _)⟩
    · have hne : (to != (s.size : Int)) = true := by simp [hto]
      have HW : Hid (whole s.data.toList = none) := rcut_none (by omega) HG.out hto
      clear hto
      go_wp2_with fail
      refine bodyPost_ret (v := .tuple #[.int .i64 0, .int .i64 0, .slice none 0 0, .int .i64 200]) (by simp [results, Tryd.results18, go_sem]) rfl ⟨0, 0, _, 200, rfl, ⟨_, _, _, rfl⟩, hb1.alloc hb1.size _, ?_⟩
      rw [HW.out]; exact ⟨rfl, rfl, rfl, rfl⟩

set_option maxHeartbeats 800000 in
theorem rmay_any (s : ByteArray) (w : World) (hs : s.size ≤ 140737488355328) :
    Calls Tryd.prog 13 #[.string s] w fun e w' => e = .returned (.bool (whole s.data.toList).isSome) ∧ Below w.heap.size w w' := by
  go_enter Tryd.func13, Tryd.ntmps13
  go_wp2_with fail
  refine (rcut_any s _ hs).mono ?_
  rintro e w1 ⟨k, x, v, er, rfl, ⟨g, n', c, rfl⟩, hb1, hgot⟩
  have he : (er == 0) = (whole s.data.toList).isSome := by
    unfold GotC at hgot
    cases hw : whole s.data.toList with
    | none => rw [hw] at hgot; rw [hgot.2.2.2]; rfl
    | some y => rw [hw] at hgot; obtain ⟨_, _, e, _⟩ := hgot; rw [e]; rfl
  clear hgot
  go_wp2_with fail
  go_ret
  rw [← he]
  exact ⟨rfl, hb1⟩
end Go.Proofs.YtcjpepbajcdenaaDoor
