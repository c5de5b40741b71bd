/- The contract of Make. -/
import Derived.Test.YtcpddpflfncbmaaDoorHead
namespace Go.Proofs.YtcpddpflfncbmaaDoor
open Go.RowKit
set_option linter.unusedVariables false

def mkT (o : Option (List UInt8)) : List UInt8 := match o with
  | none => []
  | some r => r
def mkE (o : Option (List UInt8)) : Int := match o with
  | none => 200
  | some _ => 0

/-- How Make ends. -/
def MakeQ (o : Option (List UInt8)) (w : World) (e : Ending) (w' : World) : Prop := e = .returned (.tuple #[S (mkT o), .int .i64 (mkE o)]) ∧ Below w.heap.size w w'

theorem join_jn : ∀ (l : List (List UInt8)), Lib.join l [32] = jn l
  | [] => rfl
  | [a] => Lib.join_one a [32]
  | a :: b :: r => by
    have ih := join_jn (b :: r)
    rw [Lib.join_cons] at ih ⊢
    simp only [jn]
    rw [← ih]
    simp [Lib.joinTail]

theorem jn_le : ∀ (l : List (List UInt8)) (N : Nat), (∀ s ∈ l, s.length ≤ N) → (jn l).length ≤ l.length * (N + 1)
  | [], N, h => by simp [jn]
  | [a], N, h => by have := h a (by simp); simp [jn]; omega
  | a :: b :: r, N, h => by
    have ih := jn_le (b :: r) N (fun s hs => h s (List.mem_cons_of_mem _ hs))
    have := h a (by simp)
    simp only [jn, List.length_append, List.length_cons] at ih ⊢
    rw [Nat.add_mul]; omega

theorem behind_some {kind : Int} {kids : List (List UInt8)} (hne : kids ≠ []) (h : behind kind kids = true) : kind = 2 ∧ kids.length ≤ 3 ∧ ∀ s ∈ kids, s.length ≤ 1024 := by
  unfold behind at h
  simp only [Bool.or_eq_true, Bool.and_eq_true, decide_eq_true_eq, List.isEmpty_iff, List.all_eq_true] at h
  rcases h with e | ⟨⟨e1, e2⟩, e3⟩
  · exact absurd e hne
  · refine ⟨e1, e2, fun s hs => ?_⟩
    obtain ⟨y, hy⟩ := Option.isSome_iff_exists.1 (e3 s hs)
    obtain ⟨a, b, c⟩ := y
    exact (whole_some hy).1

theorem head_len {kind num : Int} {h : List UInt8} (h0 : -9223372036854775808 ≤ num) (h1 : num ≤ 9223372036854775807) (hh : head kind num = some h) : h.length ≤ 22 := by
  have hl := Lib.itoa_length_le num h0 h1
  unfold head at hh
  split at hh
  · split at hh
    · have e := Option.some.inj hh; subst e; simp
    · cases hh
  · split at hh
    · split at hh
      · have e := Option.some.inj hh; subst e; simp
      · cases hh
    · split at hh
      · split at hh
        · have e := Option.some.inj hh; subst e; omega
        · cases hh
      · split at hh
        · split at hh
          · have e := Option.some.inj hh; subst e; simp; omega
          · cases hh
        · cases hh

theorem mk_head_none {kind num : Int} (kids : List (List UInt8)) (h : head kind num = none) : mk kind num kids = none := by unfold mk; rw [h]
theorem mk_behind_no {kind num : Int} {kids : List (List UInt8)} {t : List UInt8} (h : head kind num = some t) (hb : behind kind kids = false) : mk kind num kids = none := by
  unfold mk; rw [h]; simp only; rw [if_neg (by rw [hb]; simp)]
theorem mk_yes {kind num : Int} {kids : List (List UInt8)} {t : List UInt8} (h : head kind num = some t) (hb : behind kind kids = true) (hl : (t ++ tail kids).length ≤ 1024) : mk kind num kids = some (t ++ tail kids) := by
  unfold mk; rw [h]; simp only; rw [if_pos hb, if_pos hl]
theorem mk_long {kind num : Int} {kids : List (List UInt8)} {t : List UInt8} (h : head kind num = some t) (hb : behind kind kids = true) (hl : ¬ (t ++ tail kids).length ≤ 1024) : mk kind num kids = none := by
  unfold mk; rw [h]; simp only; rw [if_pos hb, if_neg hl]

theorem makeQ_none {o : Option (List UInt8)} {w w' : World} (h : o = none) (hb : Below w.heap.size w w') : MakeQ o w (.returned (.tuple #[.string ⟨#[]⟩, .int .i64 200])) w' := by
  subst h; exact ⟨rfl, hb⟩
theorem makeQ_some {o : Option (List UInt8)} {w w' : World} {t : List UInt8} {s : ByteArray} (h : o = some t) (hs : s = ⟨t.toArray⟩) (hb : Below w.heap.size w w') : MakeQ o w (.returned (.tuple #[.string s, .int .i64 0])) w' := by
  subst h; subst hs; exact ⟨rfl, hb⟩

set_option maxHeartbeats 800000 in
set_option maxRecDepth 100000 in
theorem make_any (kind num : Int) (g : Option Addr) (xs : List ByteArray) (c : Nat) (w : World) (h0 : -9223372036854775808 ≤ num) (h1 : num ≤ 9223372036854775807)
    (hx : Txts w g xs) (hxs : ∀ x ∈ xs, x.size ≤ 140737488355328) (hn : xs.length ≤ 9223372036854775807) (hcap : xs.length ≤ c) (hw : Lw w) :
    Calls Tryd.prog 12 #[.int .i64 kind, .int .i64 num, .slice g xs.length c] w fun e w' => MakeQ (mk kind num (lst xs)) w e w' := by
  go_enter Tryd.func12, Tryd.ntmps12
  go_wp2_with fail
  refine (head_any kind num _ h0 h1 hw).mono ?_
  rintro e w1 ⟨h, b, rfl, hb1, hgot⟩
  cases hh : head kind num with
  | none =>
    rw [hh] at hgot
    have eb : b = false := hgot
    subst eb
    have HK : Hid (mk kind num (lst xs) = none) := mk_head_none _ hh
    clear hgot hh
    go_wp2_with fail
    go_ret2
    exact makeQ_none HK.out hb1
  | some t =>
    rw [hh] at hgot
    obtain ⟨rfl, rfl⟩ := hgot
    have htl := head_len h0 h1 hh
    have HH : Hid (head kind num = some t) := hh
    clear hh
    go_wp2_with fail
    refine (behind_any kind g xs c _ (hx.on hb1) hxs hn (hw.on hb1)).mono ?_
    rintro e w2 ⟨rfl, hb2⟩
    have hb12 : Below w.heap.size w w2 := below_next hb1 hb2
    clear hb1 hb2
    cases hbh : behind kind (lst xs) with
    | false =>
      have HK : Hid (mk kind num (lst xs) = none) := mk_behind_no HH.out hbh
      clear hbh
      go_wp2_with fail
      go_ret2
      exact makeQ_none HK.out hb12
    | true =>
      by_cases hnil : xs = []
      · subst hnil
        have HK : Hid (mk kind num (lst []) = some t) := by
          have := mk_yes HH.out hbh (by show (t ++ []).length ≤ 1024; simp; omega)
          rw [show t ++ tail (lst []) = t from List.append_nil t] at this
          exact this
        clear hbh
        go_wp2_with fail
        go_ret2
        exact makeQ_some HK.out rfl hb12
      · have hne : lst xs ≠ [] := by unfold lst; simpa using hnil
        obtain ⟨rfl, h3, hsz⟩ := behind_some hne hbh
        rcases hx with hx | ⟨bk, o, rfl, hbk, hcells⟩
        · exact absurd hx hnil
        have hjl := jn_le (lst xs) 1024 hsz
        have hjl2 : (jn (lst xs)).length ≤ 4000 := by omega
        have hlen : (lst xs).length = xs.length := by unfold lst; simp
        have hpos : 0 < xs.length := List.length_pos_iff.2 hnil
        have hpos' : (0 : Int) < (xs.length : Int) := by omega
        have HB : Hid (behind 2 (lst xs) = true) := hbh
        clear hbh hjl
        go_wp2_with fail
        refine (Any.strings_Join Tryd.lays156 Tryd.Builder_Extra_156 bk o c xs ⟨#[32]⟩ _ ?_ ?_ ?_ ?_ ?_).mono ?_
        · intro j x hj
          rw [hb12.cell (p := ⟨bk, o + j, none⟩) hbk]; exact hcells j x hj
        · exact Nat.lt_of_lt_of_le hbk hb12.size
        · omega
        · exact hcap
        · show (Lib.join (lst xs) [32]).length ≤ _
          rw [join_jn]; omega
        rintro e w3 ⟨rfl, hb3⟩
        have hb13 : Below w.heap.size w w3 := below_next hb12 hb3
        clear hb12 hb3 hcells
        rw [show Lib.join (xs.map (·.data.toList)) (⟨#[32]⟩ : ByteArray).data.toList = jn (lst xs) from join_jn (lst xs)]
        generalize hj : jn (lst xs) = J at *
        have HJ : Hid (jn (lst xs) = J) := hj
        clear hj
        have htail : tail (lst xs) = 40 :: (J ++ [41]) := by rw [tail, if_neg hne, HJ.out]
        by_cases hL : (1024 : Int) < (t.length : Int) + (1 + (J.length : Int) + 1)
        · have HK : Hid (mk 2 num (lst xs) = none) := mk_long HH.out HB.out (by rw [htail]; simp; omega)
          clear htail
          go_wp2_with fail
          go_ret2
          exact makeQ_none HK.out hb13
        · have HK : Hid (mk 2 num (lst xs) = some (t ++ 40 :: (J ++ [41]))) := by
            have := mk_yes HH.out HB.out (by rw [htail]; simp; omega)
            rw [htail] at this; exact this
          clear htail
          go_wp2_with fail
          go_ret2
          refine makeQ_some HK.out ?_ hb13
          rw [show (⟨#[40]⟩ : ByteArray) = ⟨[40].toArray⟩ from rfl, show (⟨#[41]⟩ : ByteArray) = ⟨[41].toArray⟩ from rfl, bytes_add, bytes_add, bytes_add]
          rfl
end Go.Proofs.YtcpddpflfncbmaaDoor
