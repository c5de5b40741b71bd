/- The contracts of the reference's Join and same: the texts joined by blanks, and whether two lists of texts are the same. -/
import Derived.Test.YtcjpepbajcdenaaDoorRCut
import Derived.Test.YtcjpepbajcdenaaDoorDecimal
namespace Go.Proofs.YtcjpepbajcdenaaDoor
open Go.RowKit
set_option linter.unusedVariables false

set_option maxHeartbeats 800000 in
set_option maxRecDepth 100000 in
theorem rsame_any (ga gb : Option Addr) (xs ys : List ByteArray) (ca cb : Nat) (w : World) (ha : Txts w ga xs) (hb : Txts w gb ys) (hna : xs.length ≤ 4611686018427387904) (hnb : ys.length ≤ 4611686018427387904) :
    Calls Tryd.prog 22 #[.slice ga xs.length ca, .slice gb ys.length cb] w fun e w' => e = .returned (.bool (sameB xs ys)) ∧ Below w.heap.size w w' := by
  by_cases hl : xs.length = ys.length
  · have hne : ((xs.length : Int) != (ys.length : Int)) = false := by simp [hl]
    have HL : Hid (xs.length = ys.length) := hl
    clear hl
    go_enter Tryd.func22, Tryd.ntmps22
    go_wp2_with fail
    go_loopw [5] (fun i wr => ∃ j : Nat, j ≤ xs.length ∧ i = .int .i64 (j : Int) ∧ xs.take j = ys.take j ∧ Below w.heap.size w wr)
      (fun i _ => xs.length - (intOf i).toNat)
    case atStart => exact ⟨0, Nat.zero_le _, rfl, by simp, Below.refl _ _⟩
    case round =>
      obtain ⟨j, hj, rfl, htk, hbr⟩ := hrel
      have HT : Hid (xs.take j = ys.take j) := htk
      clear htk
      by_cases hlt : j < xs.length
      · have hlt2 : j < ys.length := by have := HL.out; omega
        have hlt2' : (j : Int) < (ys.length : Int) := by omega
        obtain ⟨b1, o1, rfl, hc1⟩ := txts_at (ha.on hbr) hlt
        obtain ⟨b2, o2, rfl, hc2⟩ := txts_at (hb.on hbr) hlt2
        obtain ⟨x, hx⟩ : ∃ x, x = xs[j] := ⟨_, rfl⟩
        obtain ⟨y, hy⟩ : ∃ y, y = ys[j] := ⟨_, rfl⟩
        rw [← hx] at hc1
        rw [← hy] at hc2
        have HX : Hid (x = xs[j]) := hx
        have HY : Hid (y = ys[j]) := hy
        clear hx hy
        by_cases hxy : x = y
        · have hq : (x.toList == y.toList) = true := by rw [hxy]; simp
          have HN : Hid (xs.take (j + 1) = ys.take (j + 1)) := by
            show xs.take (j + 1) = ys.take (j + 1)
            rw [List.take_add_one, List.take_add_one, HT.out, List.getElem?_eq_getElem hlt, List.getElem?_eq_getElem hlt2, ← HX.out, ← HY.out, hxy]
          clear hxy
          go_wp2_with fail
          go_quiet (fail)
          go_wp2_with fail
          go_roundw
          case rel => exact ⟨j + 1, by omega, by go_num, HN.out, hbr.trans (below_drewN _ _ _)⟩
          case measure => simp [intOf]; omega
        · have hq : (x.toList == y.toList) = false := by
            rw [beq_eq_false_iff_ne]
            intro e
            rw [Lib.toList_data, Lib.toList_data] at e
            exact hxy (ByteArray.ext (Array.ext' e))
          have HN : Hid (sameB xs ys = false) := by
            show sameB xs ys = false
            unfold sameB; rw [decide_eq_false_iff_not]
            intro e
            refine hxy ?_
            rw [HX.out, HY.out]
            exact List.getElem_of_eq e hlt
          clear hxy
          go_wp2_with fail
          go_quiet (fail)
          go_wp2_with fail
          go_ret
          rw [HN.out]
          exact ⟨rfl, hbr.trans (below_drewN _ _ _)⟩
      · go_wp2_with fail
        go_ret
        have ej : j = xs.length := by omega
        subst ej
        have e := HT.out
        rw [List.take_length, HL.out, List.take_length] at e
        subst e
        rw [show sameB xs xs = true from decide_eq_true rfl]
        exact ⟨rfl, hbr⟩
  · have hne : ((xs.length : Int) != (ys.length : Int)) = true := by simp; omega
    have HS : Hid (sameB xs ys = false) := by
      show sameB xs ys = false
      unfold sameB; rw [decide_eq_false_iff_not]; exact fun e => hl (by rw [e])
    clear hl
    go_enter Tryd.func22, Tryd.ntmps22
    go_wp2_with fail
    go_ret
    rw [HS.out]
    exact ⟨rfl, Below.refl _ _⟩


theorem rsame_at (ga gb : Option Addr) (na nb : Nat) (xs ys : List ByteArray) (ca cb : Nat) (w : World) (ea : na = xs.length) (eb : nb = ys.length) (ha : Txts w ga xs) (hb : Txts w gb ys) (hna : xs.length ≤ 4611686018427387904) (hnb : ys.length ≤ 4611686018427387904) :
    Calls Tryd.prog 22 #[.slice ga na ca, .slice gb nb cb] w fun e w' => e = .returned (.bool (sameB xs ys)) ∧ Below w.heap.size w w' := by
  subst ea; subst eb; exact rsame_any ga gb xs ys ca cb w ha hb hna hnb

/-- One text more. -/
theorem jn_snoc : ∀ (l : List (List UInt8)) (x : List UInt8), l ≠ [] → jn (l ++ [x]) = jn l ++ 32 :: x
  | [], x, h => absurd rfl h
  | [a], x, _ => rfl
  | a :: b :: r, x, _ => by
    have ih := jn_snoc (b :: r) x (by simp)
    show a ++ 32 :: jn ((b :: r) ++ [x]) = (a ++ 32 :: jn (b :: r)) ++ 32 :: x
    rw [ih]; simp
theorem lst_take (xs : List ByteArray) {j : Nat} (h : j < xs.length) : lst (xs.take (j + 1)) = lst (xs.take j) ++ [xs[j].data.toList] := by
  unfold lst; rw [List.take_add_one, List.getElem?_eq_getElem h, List.map_append]; rfl
theorem ba_list (x : ByteArray) : (⟨x.data.toList.toArray⟩ : ByteArray) = x := by simp

set_option maxHeartbeats 800000 in
set_option maxRecDepth 100000 in
theorem rjoin_any (g : Option Addr) (xs : List ByteArray) (c : Nat) (w : World) (hx : Txts w g xs) (hn : xs.length ≤ 3) (hxs : ∀ x ∈ xs, x.size ≤ 140737488355328) :
    Calls Tryd.prog 21 #[.slice g xs.length c] w fun e w' => e = .returned (.string ⟨(jn (lst xs)).toArray⟩) ∧ w = w' := by
  go_enter Tryd.func21, Tryd.ntmps21
  go_wp2_with fail
  go_loop [3, 4] (fun s i => ∃ j : Nat, j ≤ xs.length ∧ i = .int .i64 (j : Int) ∧ s = .string ⟨(jn (lst (xs.take j))).toArray⟩) (fun _ i => xs.length - (intOf i).toNat)
  case atStart => exact ⟨0, Nat.zero_le _, rfl, by simp [lst, jn]⟩
  case round =>
    obtain ⟨j, hj, rfl, rfl⟩ := hrel
    by_cases hlt : j < xs.length
    · obtain ⟨b1, o1, rfl, hc1⟩ := txts_at hx hlt
      obtain ⟨x, hxx⟩ : ∃ x, x = xs[j] := ⟨_, rfl⟩
      rw [← hxx] at hc1
      have hxl : x.size ≤ 140737488355328 := by rw [hxx]; exact hxs _ (List.getElem_mem hlt)
      have hjl := jn_le (lst (xs.take j)) 140737488355328 (fun s hs => by
        unfold lst at hs
        obtain ⟨y, hy, rfl⟩ := List.mem_map.1 hs
        have := hxs y (List.mem_of_mem_take hy)
        simpa using this)
      have hll : (lst (xs.take j)).length = j := by unfold lst; simp; omega
      rw [hll] at hjl
      have HS : Hid (lst (xs.take (j + 1)) = lst (xs.take j) ++ [x.data.toList]) := by rw [hxx]; exact lst_take xs hlt
      clear hxx
      by_cases hj0 : 0 < j
      · have hj0' : (0 : Int) < (j : Int) := by omega
        have hne : lst (xs.take j) ≠ [] := fun e => by rw [e] at hll; simp at hll; omega
        have HE : Hid ((⟨(jn (lst (xs.take j))).toArray⟩ : ByteArray) ++ ⟨#[32]⟩ ++ x = ⟨(jn (lst (xs.take (j + 1)))).toArray⟩) := by
          show _ = _
          rw [HS.out, jn_snoc _ _ hne, show (⟨#[32]⟩ : ByteArray) = ⟨[32].toArray⟩ from rfl, bytes_add]
          conv => lhs; rw [← ba_list x]
          rw [bytes_add]; simp
        clear hne hll HS
        generalize hjn : jn (lst (xs.take j)) = p at *
        clear hjn
        go_wp2_with fail
        go_round
        case rel => exact ⟨j + 1, by omega, by go_num, congrArg Value.string HE.out⟩
        case measure => simp [intOf]; omega
      · have ej : j = 0 := by omega
        subst ej
        have hjl0 : (⟨#[]⟩ : ByteArray).size = 0 := rfl
        have HE : Hid ((⟨#[]⟩ : ByteArray) ++ x = ⟨(jn (lst (xs.take 1))).toArray⟩) := by
          show _ = _
          rw [HS.out, show (⟨#[]⟩ : ByteArray) = ⟨([] : List UInt8).toArray⟩ from rfl]
          conv => lhs; rw [← ba_list x]
          rw [bytes_add]; simp [lst, jn]
        clear hll HS hjl
        rw [Nat.add_zero] at hc1
        rw [show (⟨(jn (lst (xs.take 0))).toArray⟩ : ByteArray) = ⟨#[]⟩ by simp [lst, jn]]
        go_wp2_with fail
        go_round
        case rel => exact ⟨1, by omega, rfl, congrArg Value.string HE.out⟩
        case measure => simp [intOf]; omega
    · have ej : j = xs.length := by omega
      subst ej
      rw [List.take_length]
      go_wp2_with fail
      go_ret
      exact ⟨rfl, rfl⟩
end Go.Proofs.YtcjpepbajcdenaaDoor
