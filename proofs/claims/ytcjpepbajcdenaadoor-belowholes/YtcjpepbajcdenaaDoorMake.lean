/- The contract of Make. -/
import Derived.Test.YtcjpepbajcdenaaDoorHead
namespace Go.Proofs.YtcjpepbajcdenaaDoor
open Go.RowKit
set_option linter.unusedVariables false

def mkT (o : Option (List UInt8)) : List UInt8 := match o with
  | none => []
  | some r => r
def mkE (o : Option (List UInt8)) : Int := match o with
  | none => 200
  | some _ => 0

/-- How Make ends. -/
def MakeQ (o : Option (List UInt8)) (w : World) (e : Ending) (w' : World) : Prop := e = .returned (.tuple #[S (mkT o), .int .i64 (mkE o)]) ∧ Below w.heap.size w w'

theorem jn_le : ∀ (l : List (List UInt8)) (N : Nat), (∀ s ∈ l, s.length ≤ N) → (jn l).length ≤ l.length * (N + 1)
  | [], N, h => by simp [jn]
  | [a], N, h => by have := h a (by simp); simp [jn]; omega
  | a :: b :: r, N, h => by
    have ih := jn_le (b :: r) N (fun s hs => h s (List.mem_cons_of_mem _ hs))
    have := h a (by simp)
    simp only [jn, List.length_append, List.length_cons] at ih ⊢
    rw [Nat.add_mul]; omega

theorem behind_some {kind : Int} {kids : List (List UInt8)} (hne : kids ≠ []) (h : behind kind kids = true) : kind = 2 ∧ kids.length ≤ 3 ∧ ∀ s ∈ kids, s.length ≤ 1024 := by
  unfold behind at h
  simp only [Bool.or_eq_true, Bool.and_eq_true, decide_eq_true_eq, List.isEmpty_iff, List.all_eq_true] at h
  rcases h with e | ⟨⟨e1, e2⟩, e3⟩
  · exact absurd e hne
  · refine ⟨e1, e2, fun s hs => ?_⟩
    obtain ⟨y, hy⟩ := Option.isSome_iff_exists.1 (e3 s hs)
    obtain ⟨a, b, c⟩ := y
    exact (whole_some hy).1

theorem head_len {kind num : Int} {h : List UInt8} (h0 : -9223372036854775808 ≤ num) (h1 : num ≤ 9223372036854775807) (hh : head kind num = some h) : h.length ≤ 22 := by
  have hl := Lib.itoa_length_le num h0 h1
  unfold head at hh
  split at hh
  · split at hh
    · have e := Option.some.inj hh; subst e; simp
    · cases hh
  · split at hh
    · split at hh
      · have e := Option.some.inj hh; subst e; simp
      · cases hh
    · split at hh
      · split at hh
        · have e := Option.some.inj hh; subst e; omega
        · cases hh
      · split at hh
        · split at hh
          · have e := Option.some.inj hh; subst e; simp; omega
          · cases hh
        · cases hh

theorem mk_head_none {kind num : Int} (kids : List (List UInt8)) (h : head kind num = none) : mk kind num kids = none := by unfold mk; rw [h]
theorem mk_behind_no {kind num : Int} {kids : List (List UInt8)} {t : List UInt8} (h : head kind num = some t) (hb : behind kind kids = false) : mk kind num kids = none := by
  unfold mk; rw [h]; simp only; rw [if_neg (by rw [hb]; simp)]
theorem mk_yes {kind num : Int} {kids : List (List UInt8)} {t : List UInt8} (h : head kind num = some t) (hb : behind kind kids = true) (hl : (t ++ tail kids).length ≤ 1024) : mk kind num kids = some (t ++ tail kids) := by
  unfold mk; rw [h]; simp only; rw [if_pos hb, if_pos hl]
theorem mk_long {kind num : Int} {kids : List (List UInt8)} {t : List UInt8} (h : head kind num = some t) (hb : behind kind kids = true) (hl : ¬ (t ++ tail kids).length ≤ 1024) : mk kind num kids = none := by
  unfold mk; rw [h]; simp only; rw [if_pos hb, if_neg hl]

theorem makeQ_none {o : Option (List UInt8)} {w w' : World} (h : o = none) (hb : Below w.heap.size w w') : MakeQ o w (.returned (.tuple #[.string ⟨#[]⟩, .int .i64 200])) w' := by
  subst h; exact ⟨rfl, hb⟩
theorem makeQ_some {o : Option (List UInt8)} {w w' : World} {t : List UInt8} {s : ByteArray} (h : o = some t) (hs : s = ⟨t.toArray⟩) (hb : Below w.heap.size w w') : MakeQ o w (.returned (.tuple #[.string s, .int .i64 0])) w' := by
  subst h; subst hs; exact ⟨rfl, hb⟩

end Go.Proofs.YtcjpepbajcdenaaDoor
