/- The contracts of the reference's Join and same: the texts joined by blanks, and whether two lists of texts are the same. · Kinds, numbers and parts of which no term is made: Make refuses them; what the walks of the statement share. · The contract of the reference's Make: it hands back what package term's Make does. -/
import Derived.Test.YtjamknejllbmkaaGreatDoorMRef
import Derived.Test.YtjamknejllbmkaaGreatDoorMLaid

namespace Go.Proofs.YtjamknejllbmkaaGreatDoor.Tm
open Go.RowKit
set_option linter.unusedVariables false

set_option maxHeartbeats 800000 in
set_option maxRecDepth 100000 in
theorem rsame_any (ga gb : Option Addr) (xs ys : List ByteArray) (ca cb : Nat) (w : World) (ha : Txts w ga xs) (hb : Txts w gb ys) (hna : xs.length ≤ 4611686018427387904) (hnb : ys.length ≤ 4611686018427387904) :
    Calls Tryz.prog 40 #[.slice ga xs.length ca, .slice gb ys.length cb] w fun e w' => e = .returned (.bool (sameB xs ys)) ∧ Below w.heap.size w w' := by
  by_cases hl : xs.length = ys.length
  · have hne : ((xs.length : Int) != (ys.length : Int)) = false := by simp [hl]
    have HL : Hid (xs.length = ys.length) := hl
    clear hl
    go_enter Tryz.func40, Tryz.ntmps40
    go_wp2_with fail
    go_loopw [5] (fun i wr => ∃ j : Nat, j ≤ xs.length ∧ i = .int .i64 (j : Int) ∧ xs.take j = ys.take j ∧ Below w.heap.size w wr)
      (fun i _ => xs.length - (intOf i).toNat)
    case atStart => exact ⟨0, Nat.zero_le _, rfl, by simp, Below.refl _ _⟩
    case round =>
      obtain ⟨j, hj, rfl, htk, hbr⟩ := hrel
      have HT : Hid (xs.take j = ys.take j) := htk
      clear htk
      by_cases hlt : j < xs.length
      · have hlt2 : j < ys.length := by have := HL.out; omega
        have hlt2' : (j : Int) < (ys.length : Int) := by omega
        obtain ⟨b1, o1, rfl, hc1⟩ := txts_at (ha.on hbr) hlt
        obtain ⟨b2, o2, rfl, hc2⟩ := txts_at (hb.on hbr) hlt2
        obtain ⟨x, hx⟩ : ∃ x, x = xs[j] := ⟨_, rfl⟩
        obtain ⟨y, hy⟩ : ∃ y, y = ys[j] := ⟨_, rfl⟩
        rw [← hx] at hc1
        rw [← hy] at hc2
        have HX : Hid (x = xs[j]) := hx
        have HY : Hid (y = ys[j]) := hy
        clear hx hy
        by_cases hxy : x = y
        · have hq : (x.toList == y.toList) = true := by rw [hxy]; simp
          have HN : Hid (xs.take (j + 1) = ys.take (j + 1)) := by
            show xs.take (j + 1) = ys.take (j + 1)
            rw [List.take_add_one, List.take_add_one, HT.out, List.getElem?_eq_getElem hlt, List.getElem?_eq_getElem hlt2, ← HX.out, ← HY.out, hxy]
          clear hxy
          go_wp2_with fail
          go_quiet (fail)
          go_wp2_with fail
          go_roundw
          case rel => exact ⟨j + 1, by omega, by go_num, HN.out, hbr.trans (below_drewN _ _ _)⟩
          case measure => simp [intOf]; omega
        · have hq : (x.toList == y.toList) = false := by
            rw [beq_eq_false_iff_ne]
            intro e
            rw [Lib.toList_data, Lib.toList_data] at e
            exact hxy (ByteArray.ext (Array.ext' e))
          have HN : Hid (sameB xs ys = false) := by
            show sameB xs ys = false
            unfold sameB; rw [decide_eq_false_iff_not]
            intro e
            refine hxy ?_
            rw [HX.out, HY.out]
            exact List.getElem_of_eq e hlt
          clear hxy
          go_wp2_with fail
          go_quiet (fail)
          go_wp2_with fail
          go_ret
          rw [HN.out]
          exact ⟨rfl, hbr.trans (below_drewN _ _ _)⟩
      · go_wp2_with fail
        go_ret
        have ej : j = xs.length := by omega
        subst ej
        have e := HT.out
        rw [List.take_length, HL.out, List.take_length] at e
        subst e
        rw [show sameB xs xs = true from decide_eq_true rfl]
        exact ⟨rfl, hbr⟩
  · have hne : ((xs.length : Int) != (ys.length : Int)) = true := by simp; omega
    have HS : Hid (sameB xs ys = false) := by
      show sameB xs ys = false
      unfold sameB; rw [decide_eq_false_iff_not]; exact fun e => hl (by rw [e])
    clear hl
    go_enter Tryz.func40, Tryz.ntmps40
    go_wp2_with fail
    go_ret
    rw [HS.out]
    exact ⟨rfl, Below.refl _ _⟩


theorem rsame_at (ga gb : Option Addr) (na nb : Nat) (xs ys : List ByteArray) (ca cb : Nat) (w : World) (ea : na = xs.length) (eb : nb = ys.length) (ha : Txts w ga xs) (hb : Txts w gb ys) (hna : xs.length ≤ 4611686018427387904) (hnb : ys.length ≤ 4611686018427387904) :
    Calls Tryz.prog 40 #[.slice ga na ca, .slice gb nb cb] w fun e w' => e = .returned (.bool (sameB xs ys)) ∧ Below w.heap.size w w' := by
  subst ea; subst eb; exact rsame_any ga gb xs ys ca cb w ha hb hna hnb

/-- One text more. -/
theorem jn_snoc : ∀ (l : List (List UInt8)) (x : List UInt8), l ≠ [] → jn (l ++ [x]) = jn l ++ 32 :: x
  | [], x, h => absurd rfl h
  | [a], x, _ => rfl
  | a :: b :: r, x, _ => by
    have ih := jn_snoc (b :: r) x (by simp)
    show a ++ 32 :: jn ((b :: r) ++ [x]) = (a ++ 32 :: jn (b :: r)) ++ 32 :: x
    rw [ih]; simp
theorem lst_take (xs : List ByteArray) {j : Nat} (h : j < xs.length) : lst (xs.take (j + 1)) = lst (xs.take j) ++ [xs[j].data.toList] := by
  unfold lst; rw [List.take_add_one, List.getElem?_eq_getElem h, List.map_append]; rfl
theorem ba_list (x : ByteArray) : (⟨x.data.toList.toArray⟩ : ByteArray) = x := by simp

set_option maxHeartbeats 800000 in
set_option maxRecDepth 100000 in
theorem rjoin_any (g : Option Addr) (xs : List ByteArray) (c : Nat) (w : World) (hx : Txts w g xs) (hn : xs.length ≤ 3) (hxs : ∀ x ∈ xs, x.size ≤ 140737488355328) :
    Calls Tryz.prog 38 #[.slice g xs.length c] w fun e w' => e = .returned (.string ⟨(jn (lst xs)).toArray⟩) ∧ w = w' := by
  go_enter Tryz.func38, Tryz.ntmps38
  go_wp2_with fail
  go_loop [3, 4] (fun s i => ∃ j : Nat, j ≤ xs.length ∧ i = .int .i64 (j : Int) ∧ s = .string ⟨(jn (lst (xs.take j))).toArray⟩) (fun _ i => xs.length - (intOf i).toNat)
  case atStart => exact ⟨0, Nat.zero_le _, rfl, by simp [lst, jn]⟩
  case round =>
    obtain ⟨j, hj, rfl, rfl⟩ := hrel
    by_cases hlt : j < xs.length
    · obtain ⟨b1, o1, rfl, hc1⟩ := txts_at hx hlt
      obtain ⟨x, hxx⟩ : ∃ x, x = xs[j] := ⟨_, rfl⟩
      rw [← hxx] at hc1
      have hxl : x.size ≤ 140737488355328 := by rw [hxx]; exact hxs _ (List.getElem_mem hlt)
      have hjl := jn_le (lst (xs.take j)) 140737488355328 (fun s hs => by
        unfold lst at hs
        obtain ⟨y, hy, rfl⟩ := List.mem_map.1 hs
        have := hxs y (List.mem_of_mem_take hy)
        simpa using this)
      have hll : (lst (xs.take j)).length = j := by unfold lst; simp; omega
      rw [hll] at hjl
      have HS : Hid (lst (xs.take (j + 1)) = lst (xs.take j) ++ [x.data.toList]) := by rw [hxx]; exact lst_take xs hlt
      clear hxx
      by_cases hj0 : 0 < j
      · have hj0' : (0 : Int) < (j : Int) := by omega
        have hne : lst (xs.take j) ≠ [] := fun e => by rw [e] at hll; simp at hll; omega
        have HE : Hid ((⟨(jn (lst (xs.take j))).toArray⟩ : ByteArray) ++ ⟨#[32]⟩ ++ x = ⟨(jn (lst (xs.take (j + 1)))).toArray⟩) := by
          show _ = _
          rw [HS.out, jn_snoc _ _ hne, show (⟨#[32]⟩ : ByteArray) = ⟨[32].toArray⟩ from rfl, bytes_add]
          conv => lhs; rw [← ba_list x]
          rw [bytes_add]; simp
        clear hne hll HS
        generalize hjn : jn (lst (xs.take j)) = p at *
        clear hjn
        go_wp2_with fail
        go_round
        case rel => exact ⟨j + 1, by omega, by go_num, congrArg Value.string HE.out⟩
        case measure => simp [intOf]; omega
      · have ej : j = 0 := by omega
        subst ej
        have hjl0 : (⟨#[]⟩ : ByteArray).size = 0 := rfl
        have HE : Hid ((⟨#[]⟩ : ByteArray) ++ x = ⟨(jn (lst (xs.take 1))).toArray⟩) := by
          show _ = _
          rw [HS.out, show (⟨#[]⟩ : ByteArray) = ⟨([] : List UInt8).toArray⟩ from rfl]
          conv => lhs; rw [← ba_list x]
          rw [bytes_add]; simp [lst, jn]
        clear hll HS hjl
        rw [Nat.add_zero] at hc1
        rw [show (⟨(jn (lst (xs.take 0))).toArray⟩ : ByteArray) = ⟨#[]⟩ by simp [lst, jn]]
        go_wp2_with fail
        go_round
        case rel => exact ⟨1, by omega, rfl, congrArg Value.string HE.out⟩
        case measure => simp [intOf]; omega
    · have ej : j = xs.length := by omega
      subst ej
      rw [List.take_length]
      go_wp2_with fail
      go_ret
      exact ⟨rfl, rfl⟩
end Go.Proofs.YtjamknejllbmkaaGreatDoor.Tm

namespace Go.Proofs.YtjamknejllbmkaaGreatDoor.Tm
open Go.ChangeShapes Go.WideShapes Go.ChangeAt Go.RowKit
set_option linter.unusedVariables false

/-- Make refuses. -/
theorem make_none (kd nm : Int) (g : Option Addr) (n : Nat) (xs : List ByteArray) (c : Nat) (w : World) (hl : n = xs.length) (hm : mk kd nm (lst xs) = none) (h0 : -9223372036854775808 ≤ nm) (h1 : nm ≤ 9223372036854775807)
    (hx : Txts w g xs) (hxs : ∀ x ∈ xs, x.size ≤ 1000) (hn : xs.length ≤ 1000) (hcap : xs.length ≤ c) (hw : Lw w) :
    Calls Tryz.prog 25 #[.int .i64 kd, .int .i64 nm, .slice g n c] w fun e w' => e = .returned (.tuple #[.string ⟨#[]⟩, .int .i64 200]) ∧ Below w.heap.size w w' := by
  refine (make_at kd nm g n xs c w hl h0 h1 hx (fun x h => Nat.le_trans (hxs x h) (by decide)) (by omega) hcap hw).mono ?_
  rintro e w' ⟨rfl, hb⟩
  rw [hm]
  exact ⟨rfl, hb⟩

theorem txts_one {W : World} {bk : Nat} {x : ByteArray} (h : bk < W.heap.size) (hc : W.cell? ⟨bk, 0, none⟩ = some (.string x)) : Txts W (some ⟨bk, 0, none⟩) [x] := by
  refine Or.inr ⟨bk, 0, rfl, h, fun j y hj => ?_⟩
  match j, hj with
  | 0, hj => have e : x = y := by simpa using hj
             subst e; exact hc
theorem txts_four {W : World} {bk : Nat} {x0 x1 x2 x3 : ByteArray} (h : bk < W.heap.size) (h0 : W.cell? ⟨bk, 0, none⟩ = some (.string x0)) (h1 : W.cell? ⟨bk, 1, none⟩ = some (.string x1))
    (h2 : W.cell? ⟨bk, 2, none⟩ = some (.string x2)) (h3 : W.cell? ⟨bk, 3, none⟩ = some (.string x3)) : Txts W (some ⟨bk, 0, none⟩) [x0, x1, x2, x3] := by
  refine Or.inr ⟨bk, 0, rfl, h, fun j y hj => ?_⟩
  match j, hj with
  | 0, hj => have e : x0 = y := by simpa using hj
             subst e; exact h0
  | 1, hj => have e : x1 = y := by simpa using hj
             subst e; exact h1
  | 2, hj => have e : x2 = y := by simpa using hj
             subst e; exact h2
  | 3, hj => have e : x3 = y := by simpa using hj
             subst e; exact h3

theorem may_no {x : Int} (h : x < -32768 ∨ 32767 < x) : mayB x = false := by
  unfold mayB; simp only [Bool.and_eq_false_iff, decide_eq_false_iff_not]; omega
theorem tag_no {x : Int} (h : x < 0 ∨ 99 < x) : tagB x = false := by
  unfold tagB; simp only [Bool.and_eq_false_iff, decide_eq_false_iff_not]; omega
theorem none_other {kd nm : Int} (kids : List (List UInt8)) (h : kd < 0 ∨ 3 < kd) : mk kd nm kids = none := mk_head_none kids (head_other nm (by omega) (by omega) (by omega) (by omega))
theorem none_hole {nm : Int} (kids : List (List UInt8)) (h : nm ≠ 0) : mk 0 nm kids = none := mk_head_none kids (by rw [head_zero, if_neg h])
theorem none_fail {nm : Int} (kids : List (List UInt8)) (h : nm ≠ 0) : mk 3 nm kids = none := mk_head_none kids (by rw [head_three, if_neg h])
theorem none_num {nm : Int} (kids : List (List UInt8)) (h : nm < -32768 ∨ 32767 < nm) : mk 1 nm kids = none := mk_head_none kids (by rw [head_one, may_no h]; rfl)
theorem none_con {nm : Int} (kids : List (List UInt8)) (h : nm < 0 ∨ 99 < nm) : mk 2 nm kids = none := mk_head_none kids (by rw [head_two, tag_no h]; rfl)
theorem none_kids {kd nm : Int} {kids : List (List UInt8)} (h : behind kd kids = false) : mk kd nm kids = none := by
  cases hh : head kd nm with
  | none => exact mk_head_none kids hh
  | some t => exact mk_behind_no hh h

theorem grown_nine (w : World) (a b c d e f g h i : Obj) : Below w.heap.size w (((((((((w.alloc a).alloc b).alloc c).alloc d).alloc e).alloc f).alloc g).alloc h).alloc i) :=
  (((((((((Below.refl _ _).alloc (Nat.le_refl _) _).alloc (by simp) _).alloc (by simp; omega) _).alloc (by simp; omega) _).alloc (by simp; omega) _).alloc (by simp; omega) _).alloc (by simp; omega) _).alloc (by simp; omega) _).alloc (by simp; omega) _

/-- The last ten bits of an int. -/
theorem and_1023 (x : Int) : ∃ m : Int, bits .and .i64 x 1023 = m ∧ 0 ≤ m ∧ m ≤ 1023 := by
  refine ⟨x % 1024, ?_, by omega, by omega⟩
  have hb : (BitVec.ofInt 64 1023).toNat = 1023 := by decide
  have h : bits .and .i64 x 1023 = IntKind.i64.wrap (((BitVec.ofInt 64 x &&& BitVec.ofInt 64 1023).toNat : Nat) : Int) := rfl
  rw [h, BitVec.toNat_and, hb, BitVec.toNat_ofInt, show (1023 : Nat) = 2 ^ 10 - 1 from rfl, Nat.and_two_pow_sub_one_eq_mod, IntKind.wrap_i64]
  simp only [show ((2 : Nat) ^ 64) = 18446744073709551616 from rfl, show ((2 : Nat) ^ 10) = 1024 from rfl]
  omega
/-- The last four bits. -/
theorem and_15 (x : Int) : ∃ m : Nat, bits .and .i64 x 15 = (m : Int) ∧ m < 16 := by
  refine ⟨(x % 16).toNat, ?_, by omega⟩
  have hb : (BitVec.ofInt 64 15).toNat = 15 := by decide
  have h : bits .and .i64 x 15 = IntKind.i64.wrap (((BitVec.ofInt 64 x &&& BitVec.ofInt 64 15).toNat : Nat) : Int) := rfl
  rw [h, BitVec.toNat_and, hb, BitVec.toNat_ofInt, show (15 : Nat) = 2 ^ 4 - 1 from rfl, Nat.and_two_pow_sub_one_eq_mod, IntKind.wrap_i64]
  simp only [show ((2 : Nat) ^ 64) = 18446744073709551616 from rfl, show ((2 : Nat) ^ 4) = 16 from rfl]
  omega
end Go.Proofs.YtjamknejllbmkaaGreatDoor.Tm

namespace Go.Proofs.YtjamknejllbmkaaGreatDoor.Tm
open Go.RowKit
set_option linter.unusedVariables false

set_option maxHeartbeats 800000 in
set_option maxRecDepth 100000 in
theorem rcut_wide (s : ByteArray) (w : World) (hs : s.size ≤ 4611686018427387904) :
    Calls Tryz.prog 39 #[.string s] w fun e w' => ∃ k x v er, e = .returned (.tuple #[.int .i64 k, .int .i64 x, v, .int .i64 er]) ∧ (∃ g n c, v = .slice g n c) ∧
      Below w.heap.size w w' ∧ GotC w.heap.size w' (whole s.data.toList) k x v er := by
  by_cases hbig : 1024 < s.size
  · have hb' : (1024 : Int) < (s.size : Int) := by omega
    have HW : Hid (whole s.data.toList = none) := whole_big (by simpa using hbig)
    go_enter Tryz.func39, Tryz.ntmps39
    go_wp2_with fail
    refine bodyPost_ret (v := .tuple #[.int .i64 0, .int .i64 0, .slice none 0 0, .int .i64 200]) (by simp [results, Tryz.results39, go_sem]) rfl ⟨0, 0, _, 200, rfl, ⟨_, _, _, rfl⟩, Below.refl _ _, ?_⟩
    rw [HW.out]; exact ⟨rfl, rfl, rfl, rfl⟩
  · exact rcut_any s w (by omega)

/-- The text that the reference tries. -/
def rtext (kind num : Int) (kids : List (List UInt8)) : List UInt8 :=
  if kind = 0 then [95] else if kind = 3 then [33] else if kind = 1 then Lib.itoa num else if kind = 2 then 64 :: (Lib.itoa num ++ tail kids) else []
theorem rtext_mk {kind num : Int} {kids : List (List UInt8)} {s : List UInt8} (h : mk kind num kids = some s) : s = rtext kind num kids := by
  unfold mk at h
  cases hh : head kind num with
  | none => rw [hh] at h; cases h
  | some t =>
    rw [hh] at h
    simp only at h
    by_cases hb : behind kind kids = true
    · rw [if_pos hb] at h
      by_cases hl : (t ++ tail kids).length ≤ 1024
      · rw [if_pos hl] at h
        have e := Option.some.inj h
        subst e
        have hn : kind ≠ 2 → tail kids = [] := fun h2 => by
          by_cases hk : kids = []
          · subst hk; rfl
          · exact absurd (behind_some hk hb).1 h2
        unfold head at hh
        unfold rtext
        by_cases k0 : kind = 0
        · rw [if_pos k0] at hh ⊢
          split at hh
          · rw [← Option.some.inj hh, hn (by omega)]; rfl
          · cases hh
        · rw [if_neg k0] at hh ⊢
          by_cases k3 : kind = 3
          · rw [if_pos k3] at hh ⊢
            split at hh
            · rw [← Option.some.inj hh, hn (by omega)]; rfl
            · cases hh
          · rw [if_neg k3] at hh ⊢
            by_cases k1 : kind = 1
            · rw [if_pos k1] at hh ⊢
              split at hh
              · rw [← Option.some.inj hh, hn (by omega)]; simp
              · cases hh
            · rw [if_neg k1] at hh ⊢
              by_cases k2 : kind = 2
              · rw [if_pos k2] at hh ⊢
                split at hh
                · rw [← Option.some.inj hh]; rfl
                · cases hh
              · rw [if_neg k2] at hh; cases hh
      · rw [if_neg hl] at h; cases h
    · rw [if_neg hb] at h; cases h
theorem rmk_no {kind num : Int} {kids : List (List UInt8)} {s : List UInt8} (hs : s = rtext kind num kids) (h : whole s ≠ some (kind, num, kids)) : mk kind num kids = none := by
  cases hm : mk kind num kids with
  | none => rfl
  | some t =>
    have e := rtext_mk hm
    subst e; subst hs
    exact absurd (mkd_whole hm) h
theorem mk_three {kind num : Int} {kids : List (List UInt8)} (h : 3 < kids.length) : mk kind num kids = none := none_kids (behind_bad (fun e => by rw [e] at h; simp at h) (Or.inr h))
theorem mk_upto {kind num : Int} {kids : List (List UInt8)} (h : uptoB num (-32768) 32767 = false) : mk kind num kids = none := by
  have h' : num < -32768 ∨ 32767 < num := by
    unfold uptoB at h
    simp only [Bool.and_eq_false_iff, decide_eq_false_iff_not] at h
    omega
  refine mk_head_none kids ?_
  unfold head
  rw [may_no h', tag_no (by omega)]
  split
  · rw [if_neg (by omega)]
  · split
    · rw [if_neg (by omega)]
    · split
      · rfl
      · split <;> rfl
theorem lst_inj {xs ys : List ByteArray} (h : lst xs = lst ys) : xs = ys := by
  have key : ∀ zs : List ByteArray, (lst zs).map ba = zs := fun zs => by
    unfold lst ba; rw [List.map_map]
    have : ((fun l : List UInt8 => (⟨l.toArray⟩ : ByteArray)) ∘ fun x : ByteArray => x.data.toList) = id := by funext x; simp
    rw [this, List.map_id]
  rw [← key xs, h, key]

set_option maxHeartbeats 1600000 in
set_option maxRecDepth 100000 in
theorem rmake_zero (num : Int) (g : Option Addr) (xs : List ByteArray) (c : Nat) (w : World) (n1 : -32768 ≤ num) (n2 : num ≤ 32767)
    (hx : Txts w g xs) (h3 : xs.length ≤ 3) (hxs : ∀ x ∈ xs, x.size ≤ 140737488355328) :
    Calls Tryz.prog 21 #[.int .i64 0, .int .i64 num, .slice g xs.length c] w fun e w' => MakeQ (mk 0 num (lst xs)) w e w' := by
  have hu : uptoB num (-32768) 32767 = true := by unfold uptoB; simp; omega
  have HU : Hid (uptoB num (-32768) 32767 = true) := hu
  clear hu
  go_enter Tryz.func21, Tryz.ntmps21
  go_wp2_with fail
  refine (upto_any _ _ _ _).mono ?_
  rintro e w1 ⟨rfl, rfl⟩
  rw [HU.out]
  go_wp2_with fail
  obtain ⟨s, hse⟩ : ∃ s : ByteArray, s = ⟨#[95]⟩ := ⟨_, rfl⟩
  rw [← hse]
  have hs : s.size ≤ 4611686018427387904 := by rw [hse]; exact (by decide)
  have HR : Hid (s.data.toList = rtext 0 num (lst xs)) := by rw [hse]; exact rfl
  clear hse
  refine (rcut_wide s _ hs).mono ?_
  rintro e w2 ⟨k, x, v, er, rfl, ⟨g', n', c', rfl⟩, hb2, hgot⟩
  have h02 := below_next (Below.refl w.heap.size w) hb2
  cases hW : whole s.data.toList with
  | none =>
    rw [hW] at hgot
    obtain ⟨rfl, rfl, ev, rfl⟩ := hgot
    have HK : Hid (mk 0 num (lst xs) = none) := rmk_no HR.out (by rw [hW]; simp)
    clear hW hb2 ev
    go_wp2_with fail
    go_ret2
    exact makeQ_none HK.out h02
  | some y =>
    obtain ⟨k', x', ks⟩ := y
    rw [hW] at hgot
    obtain ⟨rfl, rfl, rfl, hown⟩ := hgot
    have hp3 := (whole_parts hW).2.2
    obtain ⟨g2, c2, ev, htx, _⟩ := own_txts hown
    have eg : g' = g2 := by cases ev; rfl
    have en : n' = (ks.map ba).length := by cases ev; rfl
    have HTX : Hid (Txts w2 g' (ks.map ba)) := by rw [eg]; exact htx
    subst en
    clear ev eg
    have hkl : (ks.map ba).length = ks.length := by simp
    clear hown htx
    by_cases hkk : k = 0
    · subst hkk
      by_cases hxn : x = num
      · subst hxn
        have hq1 : (0 != 0) = false := by simp
        have hq2 : (x != x) = false := by simp
        have hxw : Txts w2 g xs := hx.on h02
        have HXW : Hid (Txts w2 g xs) := hxw
        clear hxw hb2
        by_cases hsm : ks.map ba = xs
        · have HK : Hid (mk 0 x (lst xs) = some s.data.toList) := by
            show _ = _
            rw [← hsm, lst_ba]; exact whole_mkd hW
          have HS : Hid (sameB (ks.map ba) xs = true) := decide_eq_true hsm
          clear hsm hW
          go_wp2_with fail
          refine (rsame_at _ _ _ _ (ks.map ba) xs _ _ _ (by simp) rfl HTX.out HXW.out (by rw [hkl]; omega) (by omega)).mono ?_
          rintro e w3 ⟨rfl, hb3⟩
          rw [HS.out]
          have h03 := below_next h02 hb3
          clear hb3 h02
          go_wp2_with fail
          go_ret2
          exact makeQ_some HK.out (by simp) h03
        · have HK : Hid (mk 0 x (lst xs) = none) := rmk_no HR.out (by
            rw [hW]
            intro e
            refine hsm (lst_inj ?_)
            rw [lst_ba]; simpa using e)
          have HS : Hid (sameB (ks.map ba) xs = false) := decide_eq_false hsm
          clear hsm hW
          go_wp2_with fail
          refine (rsame_at _ _ _ _ (ks.map ba) xs _ _ _ (by simp) rfl HTX.out HXW.out (by rw [hkl]; omega) (by omega)).mono ?_
          rintro e w3 ⟨rfl, hb3⟩
          rw [HS.out]
          have h03 := below_next h02 hb3
          clear hb3 h02
          go_wp2_with fail
          go_ret2
          exact makeQ_none HK.out h03
      · have hq1 : (0 != 0) = false := by simp
        have hq2 : (x != num) = true := by simp [hxn]
        have HK : Hid (mk 0 num (lst xs) = none) := rmk_no HR.out (by rw [hW]; intro e; exact hxn (by simpa using congrArg (fun o => (o.map (·.2.1)).getD 0) e))
        clear hW hxn hb2
        go_wp2_with fail
        go_ret2
        exact makeQ_none HK.out h02
    · have hq1 : (k != 0) = true := by simp [hkk]
      have HK : Hid (mk 0 num (lst xs) = none) := rmk_no HR.out (by rw [hW]; intro e; exact hkk (by simpa using congrArg (fun o => (o.map (·.1)).getD 0) e))
      clear hW hkk hb2
      go_wp2_with fail
      go_ret2
      exact makeQ_none HK.out h02

set_option maxHeartbeats 1600000 in
set_option maxRecDepth 100000 in
theorem rmake_three (num : Int) (g : Option Addr) (xs : List ByteArray) (c : Nat) (w : World) (n1 : -32768 ≤ num) (n2 : num ≤ 32767)
    (hx : Txts w g xs) (h3 : xs.length ≤ 3) (hxs : ∀ x ∈ xs, x.size ≤ 140737488355328) :
    Calls Tryz.prog 21 #[.int .i64 3, .int .i64 num, .slice g xs.length c] w fun e w' => MakeQ (mk 3 num (lst xs)) w e w' := by
  have hu : uptoB num (-32768) 32767 = true := by unfold uptoB; simp; omega
  have HU : Hid (uptoB num (-32768) 32767 = true) := hu
  clear hu
  go_enter Tryz.func21, Tryz.ntmps21
  go_wp2_with fail
  refine (upto_any _ _ _ _).mono ?_
  rintro e w1 ⟨rfl, rfl⟩
  rw [HU.out]
  go_wp2_with fail
  obtain ⟨s, hse⟩ : ∃ s : ByteArray, s = ⟨#[33]⟩ := ⟨_, rfl⟩
  rw [← hse]
  have hs : s.size ≤ 4611686018427387904 := by rw [hse]; exact (by decide)
  have HR : Hid (s.data.toList = rtext 3 num (lst xs)) := by rw [hse]; exact rfl
  clear hse
  refine (rcut_wide s _ hs).mono ?_
  rintro e w2 ⟨k, x, v, er, rfl, ⟨g', n', c', rfl⟩, hb2, hgot⟩
  have h02 := below_next (Below.refl w.heap.size w) hb2
  cases hW : whole s.data.toList with
  | none =>
    rw [hW] at hgot
    obtain ⟨rfl, rfl, ev, rfl⟩ := hgot
    have HK : Hid (mk 3 num (lst xs) = none) := rmk_no HR.out (by rw [hW]; simp)
    clear hW hb2 ev
    go_wp2_with fail
    go_ret2
    exact makeQ_none HK.out h02
  | some y =>
    obtain ⟨k', x', ks⟩ := y
    rw [hW] at hgot
    obtain ⟨rfl, rfl, rfl, hown⟩ := hgot
    have hp3 := (whole_parts hW).2.2
    obtain ⟨g2, c2, ev, htx, _⟩ := own_txts hown
    have eg : g' = g2 := by cases ev; rfl
    have en : n' = (ks.map ba).length := by cases ev; rfl
    have HTX : Hid (Txts w2 g' (ks.map ba)) := by rw [eg]; exact htx
    subst en
    clear ev eg
    have hkl : (ks.map ba).length = ks.length := by simp
    clear hown htx
    by_cases hkk : k = 3
    · subst hkk
      by_cases hxn : x = num
      · subst hxn
        have hq1 : (3 != 3) = false := by simp
        have hq2 : (x != x) = false := by simp
        have hxw : Txts w2 g xs := hx.on h02
        have HXW : Hid (Txts w2 g xs) := hxw
        clear hxw hb2
        by_cases hsm : ks.map ba = xs
        · have HK : Hid (mk 3 x (lst xs) = some s.data.toList) := by
            show _ = _
            rw [← hsm, lst_ba]; exact whole_mkd hW
          have HS : Hid (sameB (ks.map ba) xs = true) := decide_eq_true hsm
          clear hsm hW
          go_wp2_with fail
          refine (rsame_at _ _ _ _ (ks.map ba) xs _ _ _ (by simp) rfl HTX.out HXW.out (by rw [hkl]; omega) (by omega)).mono ?_
          rintro e w3 ⟨rfl, hb3⟩
          rw [HS.out]
          have h03 := below_next h02 hb3
          clear hb3 h02
          go_wp2_with fail
          go_ret2
          exact makeQ_some HK.out (by simp) h03
        · have HK : Hid (mk 3 x (lst xs) = none) := rmk_no HR.out (by
            rw [hW]
            intro e
            refine hsm (lst_inj ?_)
            rw [lst_ba]; simpa using e)
          have HS : Hid (sameB (ks.map ba) xs = false) := decide_eq_false hsm
          clear hsm hW
          go_wp2_with fail
          refine (rsame_at _ _ _ _ (ks.map ba) xs _ _ _ (by simp) rfl HTX.out HXW.out (by rw [hkl]; omega) (by omega)).mono ?_
          rintro e w3 ⟨rfl, hb3⟩
          rw [HS.out]
          have h03 := below_next h02 hb3
          clear hb3 h02
          go_wp2_with fail
          go_ret2
          exact makeQ_none HK.out h03
      · have hq1 : (3 != 3) = false := by simp
        have hq2 : (x != num) = true := by simp [hxn]
        have HK : Hid (mk 3 num (lst xs) = none) := rmk_no HR.out (by rw [hW]; intro e; exact hxn (by simpa using congrArg (fun o => (o.map (·.2.1)).getD 0) e))
        clear hW hxn hb2
        go_wp2_with fail
        go_ret2
        exact makeQ_none HK.out h02
    · have hq1 : (k != 3) = true := by simp [hkk]
      have HK : Hid (mk 3 num (lst xs) = none) := rmk_no HR.out (by rw [hW]; intro e; exact hkk (by simpa using congrArg (fun o => (o.map (·.1)).getD 0) e))
      clear hW hkk hb2
      go_wp2_with fail
      go_ret2
      exact makeQ_none HK.out h02

set_option maxHeartbeats 1600000 in
set_option maxRecDepth 100000 in
theorem rmake_other (kind num : Int) (g : Option Addr) (xs : List ByteArray) (c : Nat) (w : World) (n1 : -32768 ≤ num) (n2 : num ≤ 32767)
    (hx : Txts w g xs) (h3 : xs.length ≤ 3) (hxs : ∀ x ∈ xs, x.size ≤ 140737488355328) (k0 : kind ≠ 0) (k3 : kind ≠ 3) (k1 : kind ≠ 1) (k2 : kind ≠ 2) :
    Calls Tryz.prog 21 #[.int .i64 kind, .int .i64 num, .slice g xs.length c] w fun e w' => MakeQ (mk kind num (lst xs)) w e w' := by
  have hu : uptoB num (-32768) 32767 = true := by unfold uptoB; simp; omega
  have HU : Hid (uptoB num (-32768) 32767 = true) := hu
  clear hu
  have e0 : (kind == 0) = false := by simp [k0]
  have e1 : (kind == 1) = false := by simp [k1]
  have e2 : (kind == 2) = false := by simp [k2]
  have e3 : (kind == 3) = false := by simp [k3]
  go_enter Tryz.func21, Tryz.ntmps21
  go_wp2_with fail
  refine (upto_any _ _ _ _).mono ?_
  rintro e w1 ⟨rfl, rfl⟩
  rw [HU.out]
  go_wp2_with fail
  refine (rcut_wide ⟨#[]⟩ _ (by decide)).mono ?_
  rintro e w2 ⟨k, x, v, er, rfl, ⟨g', n', c', rfl⟩, hb2, hgot⟩
  rw [show whole (⟨#[]⟩ : ByteArray).data.toList = none by decide +kernel] at hgot
  obtain ⟨rfl, rfl, ev, rfl⟩ := hgot
  have HK : Hid (mk kind num (lst xs) = none) := mk_head_none _ (head_other num k0 k1 k2 k3)
  clear ev
  go_wp2_with fail
  go_ret2
  exact makeQ_none HK.out hb2

set_option maxHeartbeats 1600000 in
set_option maxRecDepth 100000 in
theorem rmake_one (num : Int) (g : Option Addr) (xs : List ByteArray) (c : Nat) (w : World) (n1 : -32768 ≤ num) (n2 : num ≤ 32767)
    (hx : Txts w g xs) (h3 : xs.length ≤ 3) (hxs : ∀ x ∈ xs, x.size ≤ 140737488355328) :
    Calls Tryz.prog 21 #[.int .i64 1, .int .i64 num, .slice g xs.length c] w fun e w' => MakeQ (mk 1 num (lst xs)) w e w' := by
  have hu : uptoB num (-32768) 32767 = true := by unfold uptoB; simp; omega
  have HU : Hid (uptoB num (-32768) 32767 = true) := hu
  clear hu
  go_enter Tryz.func21, Tryz.ntmps21
  go_wp2_with fail
  refine (upto_any _ _ _ _).mono ?_
  rintro e w1 ⟨rfl, rfl⟩
  rw [HU.out]
  go_wp2_with fail
  refine (decimal_any num _ n1 n2).mono ?_
  rintro e w1 ⟨rfl, hb1⟩
  have hil : (Lib.itoa num).length ≤ 21 := Lib.itoa_length_le num (by omega) (by omega)
  go_wp2_with fail
  obtain ⟨s, hse⟩ : ∃ s : ByteArray, s = ⟨(Lib.itoa num).toArray⟩ := ⟨_, rfl⟩
  rw [← hse]
  have hs : s.size ≤ 4611686018427387904 := by rw [hse]; exact (by show (Lib.itoa num).length ≤ _; omega)
  have HR : Hid (s.data.toList = rtext 1 num (lst xs)) := by rw [hse]; exact rfl
  clear hse
  refine (rcut_wide s _ hs).mono ?_
  rintro e w2 ⟨k, x, v, er, rfl, ⟨g', n', c', rfl⟩, hb2, hgot⟩
  have h02 := below_next hb1 hb2
  cases hW : whole s.data.toList with
  | none =>
    rw [hW] at hgot
    obtain ⟨rfl, rfl, ev, rfl⟩ := hgot
    have HK : Hid (mk 1 num (lst xs) = none) := rmk_no HR.out (by rw [hW]; simp)
    clear hW hb2 ev
    go_wp2_with fail
    go_ret2
    exact makeQ_none HK.out h02
  | some y =>
    obtain ⟨k', x', ks⟩ := y
    rw [hW] at hgot
    obtain ⟨rfl, rfl, rfl, hown⟩ := hgot
    have hp3 := (whole_parts hW).2.2
    obtain ⟨g2, c2, ev, htx, _⟩ := own_txts hown
    have eg : g' = g2 := by cases ev; rfl
    have en : n' = (ks.map ba).length := by cases ev; rfl
    have HTX : Hid (Txts w2 g' (ks.map ba)) := by rw [eg]; exact htx
    subst en
    clear ev eg
    have hkl : (ks.map ba).length = ks.length := by simp
    clear hown htx
    by_cases hkk : k = 1
    · subst hkk
      by_cases hxn : x = num
      · subst hxn
        have hq1 : (1 != 1) = false := by simp
        have hq2 : (x != x) = false := by simp
        have hxw : Txts w2 g xs := hx.on h02
        have HXW : Hid (Txts w2 g xs) := hxw
        clear hxw hb2
        by_cases hsm : ks.map ba = xs
        · have HK : Hid (mk 1 x (lst xs) = some s.data.toList) := by
            show _ = _
            rw [← hsm, lst_ba]; exact whole_mkd hW
          have HS : Hid (sameB (ks.map ba) xs = true) := decide_eq_true hsm
          clear hsm hW
          go_wp2_with fail
          refine (rsame_at _ _ _ _ (ks.map ba) xs _ _ _ (by simp) rfl HTX.out HXW.out (by rw [hkl]; omega) (by omega)).mono ?_
          rintro e w3 ⟨rfl, hb3⟩
          rw [HS.out]
          have h03 := below_next h02 hb3
          clear hb3 h02
          go_wp2_with fail
          go_ret2
          exact makeQ_some HK.out (by simp) h03
        · have HK : Hid (mk 1 x (lst xs) = none) := rmk_no HR.out (by
            rw [hW]
            intro e
            refine hsm (lst_inj ?_)
            rw [lst_ba]; simpa using e)
          have HS : Hid (sameB (ks.map ba) xs = false) := decide_eq_false hsm
          clear hsm hW
          go_wp2_with fail
          refine (rsame_at _ _ _ _ (ks.map ba) xs _ _ _ (by simp) rfl HTX.out HXW.out (by rw [hkl]; omega) (by omega)).mono ?_
          rintro e w3 ⟨rfl, hb3⟩
          rw [HS.out]
          have h03 := below_next h02 hb3
          clear hb3 h02
          go_wp2_with fail
          go_ret2
          exact makeQ_none HK.out h03
      · have hq1 : (1 != 1) = false := by simp
        have hq2 : (x != num) = true := by simp [hxn]
        have HK : Hid (mk 1 num (lst xs) = none) := rmk_no HR.out (by rw [hW]; intro e; exact hxn (by simpa using congrArg (fun o => (o.map (·.2.1)).getD 0) e))
        clear hW hxn hb2
        go_wp2_with fail
        go_ret2
        exact makeQ_none HK.out h02
    · have hq1 : (k != 1) = true := by simp [hkk]
      have HK : Hid (mk 1 num (lst xs) = none) := rmk_no HR.out (by rw [hW]; intro e; exact hkk (by simpa using congrArg (fun o => (o.map (·.1)).getD 0) e))
      clear hW hkk hb2
      go_wp2_with fail
      go_ret2
      exact makeQ_none HK.out h02

set_option maxHeartbeats 1600000 in
set_option maxRecDepth 100000 in
theorem rmake_two (num : Int) (g : Option Addr) (xs : List ByteArray) (c : Nat) (w : World) (n1 : -32768 ≤ num) (n2 : num ≤ 32767)
    (hx : Txts w g xs) (h3 : xs.length ≤ 3) (hxs : ∀ x ∈ xs, x.size ≤ 140737488355328) (hnil : xs = []) :
    Calls Tryz.prog 21 #[.int .i64 2, .int .i64 num, .slice g xs.length c] w fun e w' => MakeQ (mk 2 num (lst xs)) w e w' := by
  have hu : uptoB num (-32768) 32767 = true := by unfold uptoB; simp; omega
  have HU : Hid (uptoB num (-32768) 32767 = true) := hu
  clear hu
  subst hnil
  go_enter Tryz.func21, Tryz.ntmps21
  go_wp2_with fail
  refine (upto_any _ _ _ _).mono ?_
  rintro e w1 ⟨rfl, rfl⟩
  rw [HU.out]
  go_wp2_with fail
  refine (decimal_any num _ n1 n2).mono ?_
  rintro e w1 ⟨rfl, hb1⟩
  have hil : (Lib.itoa num).length ≤ 21 := Lib.itoa_length_le num (by omega) (by omega)
  have HT : Hid ((⟨#[64]⟩ : ByteArray) ++ ⟨(Lib.itoa num).toArray⟩ = ⟨(64 :: Lib.itoa num).toArray⟩) := by
    show _ = _
    rw [show (⟨#[64]⟩ : ByteArray) = ⟨[64].toArray⟩ from rfl, bytes_add]; rfl
  go_wp2_with fail
  rw [HT.out]
  obtain ⟨s, hse⟩ : ∃ s : ByteArray, s = ⟨(64 :: Lib.itoa num).toArray⟩ := ⟨_, rfl⟩
  rw [← hse]
  have hs : s.size ≤ 4611686018427387904 := by rw [hse]; exact (by show (64 :: Lib.itoa num).length ≤ _; simp; omega)
  have HR : Hid (s.data.toList = rtext 2 num (lst [])) := by rw [hse]; exact (by show 64 :: Lib.itoa num = 64 :: (Lib.itoa num ++ []); rw [List.append_nil])
  clear hse
  refine (rcut_wide s _ hs).mono ?_
  rintro e w2 ⟨k, x, v, er, rfl, ⟨g', n', c', rfl⟩, hb2, hgot⟩
  have h02 := below_next hb1 hb2
  cases hW : whole s.data.toList with
  | none =>
    rw [hW] at hgot
    obtain ⟨rfl, rfl, ev, rfl⟩ := hgot
    have HK : Hid (mk 2 num (lst []) = none) := rmk_no HR.out (by rw [hW]; simp)
    clear hW hb2 ev
    go_wp2_with fail
    go_ret2
    exact makeQ_none HK.out h02
  | some y =>
    obtain ⟨k', x', ks⟩ := y
    rw [hW] at hgot
    obtain ⟨rfl, rfl, rfl, hown⟩ := hgot
    have hp3 := (whole_parts hW).2.2
    obtain ⟨g2, c2, ev, htx, _⟩ := own_txts hown
    have eg : g' = g2 := by cases ev; rfl
    have en : n' = (ks.map ba).length := by cases ev; rfl
    have HTX : Hid (Txts w2 g' (ks.map ba)) := by rw [eg]; exact htx
    subst en
    clear ev eg
    have hkl : (ks.map ba).length = ks.length := by simp
    clear hown htx
    by_cases hkk : k = 2
    · subst hkk
      by_cases hxn : x = num
      · subst hxn
        have hq1 : (2 != 2) = false := by simp
        have hq2 : (x != x) = false := by simp
        have hxw : Txts w2 g [] := hx.on h02
        have HXW : Hid (Txts w2 g []) := hxw
        clear hxw hb2
        by_cases hsm : ks.map ba = []
        · have HK : Hid (mk 2 x (lst []) = some s.data.toList) := by
            show _ = _
            rw [← hsm, lst_ba]; exact whole_mkd hW
          have HS : Hid (sameB (ks.map ba) [] = true) := decide_eq_true hsm
          clear hsm hW
          go_wp2_with fail
          refine (rsame_at _ _ _ _ (ks.map ba) [] _ _ _ (by simp) rfl HTX.out HXW.out (by rw [hkl]; omega) (by omega)).mono ?_
          rintro e w3 ⟨rfl, hb3⟩
          rw [HS.out]
          have h03 := below_next h02 hb3
          clear hb3 h02
          go_wp2_with fail
          go_ret2
          exact makeQ_some HK.out (by simp) h03
        · have HK : Hid (mk 2 x (lst []) = none) := rmk_no HR.out (by
            rw [hW]
            intro e
            refine hsm (lst_inj ?_)
            rw [lst_ba]; simpa using e)
          have HS : Hid (sameB (ks.map ba) [] = false) := decide_eq_false hsm
          clear hsm hW
          go_wp2_with fail
          refine (rsame_at _ _ _ _ (ks.map ba) [] _ _ _ (by simp) rfl HTX.out HXW.out (by rw [hkl]; omega) (by omega)).mono ?_
          rintro e w3 ⟨rfl, hb3⟩
          rw [HS.out]
          have h03 := below_next h02 hb3
          clear hb3 h02
          go_wp2_with fail
          go_ret2
          exact makeQ_none HK.out h03
      · have hq1 : (2 != 2) = false := by simp
        have hq2 : (x != num) = true := by simp [hxn]
        have HK : Hid (mk 2 num (lst []) = none) := rmk_no HR.out (by rw [hW]; intro e; exact hxn (by simpa using congrArg (fun o => (o.map (·.2.1)).getD 0) e))
        clear hW hxn hb2
        go_wp2_with fail
        go_ret2
        exact makeQ_none HK.out h02
    · have hq1 : (k != 2) = true := by simp [hkk]
      have HK : Hid (mk 2 num (lst []) = none) := rmk_no HR.out (by rw [hW]; intro e; exact hkk (by simpa using congrArg (fun o => (o.map (·.1)).getD 0) e))
      clear hW hkk hb2
      go_wp2_with fail
      go_ret2
      exact makeQ_none HK.out h02

set_option maxHeartbeats 1600000 in
set_option maxRecDepth 100000 in
theorem rmake_kids (num : Int) (g : Option Addr) (xs : List ByteArray) (c : Nat) (w : World) (n1 : -32768 ≤ num) (n2 : num ≤ 32767)
    (hx : Txts w g xs) (h3 : xs.length ≤ 3) (hxs : ∀ x ∈ xs, x.size ≤ 140737488355328) (hne : xs ≠ []) :
    Calls Tryz.prog 21 #[.int .i64 2, .int .i64 num, .slice g xs.length c] w fun e w' => MakeQ (mk 2 num (lst xs)) w e w' := by
  have hu : uptoB num (-32768) 32767 = true := by unfold uptoB; simp; omega
  have HU : Hid (uptoB num (-32768) 32767 = true) := hu
  clear hu
  have hpos : 0 < xs.length := List.length_pos_iff.2 hne
  have hpos' : (0 : Int) < (xs.length : Int) := by omega
  have HN : Hid (lst xs ≠ []) := by show lst xs ≠ []; unfold lst; simpa using hne
  go_enter Tryz.func21, Tryz.ntmps21
  go_wp2_with fail
  refine (upto_any _ _ _ _).mono ?_
  rintro e w1 ⟨rfl, rfl⟩
  rw [HU.out]
  go_wp2_with fail
  refine (decimal_any num _ n1 n2).mono ?_
  rintro e w1 ⟨rfl, hb1⟩
  have hil : (Lib.itoa num).length ≤ 21 := Lib.itoa_length_le num (by omega) (by omega)
  have hjl := jn_le (lst xs) 140737488355328 (fun s hs => by
    unfold lst at hs
    obtain ⟨y, hy, rfl⟩ := List.mem_map.1 hs
    have := hxs y hy
    simpa using this)
  have hll : (lst xs).length = xs.length := by unfold lst; simp
  rw [hll] at hjl
  have hjl2 : (jn (lst xs)).length ≤ 3 * 140737488355329 := Nat.le_trans hjl (Nat.mul_le_mul_right _ h3)
  have HX1 : Hid (Txts w1 g xs) := hx.on hb1
  have HT : Hid ((⟨#[64]⟩ : ByteArray) ++ ⟨(Lib.itoa num).toArray⟩ ++ ⟨#[40]⟩ ++ ⟨(jn (lst xs)).toArray⟩ ++ ⟨#[41]⟩ = ⟨(64 :: (Lib.itoa num ++ tail (lst xs))).toArray⟩) := by
    show _ = _
    rw [show (⟨#[64]⟩ : ByteArray) = ⟨[64].toArray⟩ from rfl, show (⟨#[40]⟩ : ByteArray) = ⟨[40].toArray⟩ from rfl, show (⟨#[41]⟩ : ByteArray) = ⟨[41].toArray⟩ from rfl, bytes_add, bytes_add, bytes_add, bytes_add, tail, if_neg HN.out]
    simp
  have hTl : (64 :: (Lib.itoa num ++ tail (lst xs))).length ≤ 4611686018427387904 := by
    rw [tail, if_neg HN.out]; simp; omega
  clear hll hjl
  go_wp2_with fail
  refine (rjoin_any g xs c _ HX1.out h3 hxs).mono ?_
  rintro e w' ⟨rfl, rfl⟩
  go_wp2_with fail
  rw [HT.out]
  obtain ⟨s, hse⟩ : ∃ s : ByteArray, s = ⟨(64 :: (Lib.itoa num ++ tail (lst xs))).toArray⟩ := ⟨_, rfl⟩
  rw [← hse]
  have hs : s.size ≤ 4611686018427387904 := by rw [hse]; exact hTl
  have HR : Hid (s.data.toList = rtext 2 num (lst xs)) := by rw [hse]; exact rfl
  clear hse
  refine (rcut_wide s _ hs).mono ?_
  rintro e w2 ⟨k, x, v, er, rfl, ⟨g', n', c', rfl⟩, hb2, hgot⟩
  have h02 := below_next hb1 hb2
  cases hW : whole s.data.toList with
  | none =>
    rw [hW] at hgot
    obtain ⟨rfl, rfl, ev, rfl⟩ := hgot
    have HK : Hid (mk 2 num (lst xs) = none) := rmk_no HR.out (by rw [hW]; simp)
    clear hW hb2 ev
    go_wp2_with fail
    go_ret2
    exact makeQ_none HK.out h02
  | some y =>
    obtain ⟨k', x', ks⟩ := y
    rw [hW] at hgot
    obtain ⟨rfl, rfl, rfl, hown⟩ := hgot
    have hp3 := (whole_parts hW).2.2
    obtain ⟨g2, c2, ev, htx, _⟩ := own_txts hown
    have eg : g' = g2 := by cases ev; rfl
    have en : n' = (ks.map ba).length := by cases ev; rfl
    have HTX : Hid (Txts w2 g' (ks.map ba)) := by rw [eg]; exact htx
    subst en
    clear ev eg
    have hkl : (ks.map ba).length = ks.length := by simp
    clear hown htx
    by_cases hkk : k = 2
    · subst hkk
      by_cases hxn : x = num
      · subst hxn
        have hq1 : (2 != 2) = false := by simp
        have hq2 : (x != x) = false := by simp
        have hxw : Txts w2 g xs := hx.on h02
        have HXW : Hid (Txts w2 g xs) := hxw
        clear hxw hb2
        by_cases hsm : ks.map ba = xs
        · have HK : Hid (mk 2 x (lst xs) = some s.data.toList) := by
            show _ = _
            rw [← hsm, lst_ba]; exact whole_mkd hW
          have HS : Hid (sameB (ks.map ba) xs = true) := decide_eq_true hsm
          clear hsm hW
          go_wp2_with fail
          refine (rsame_at _ _ _ _ (ks.map ba) xs _ _ _ (by simp) rfl HTX.out HXW.out (by rw [hkl]; omega) (by omega)).mono ?_
          rintro e w3 ⟨rfl, hb3⟩
          rw [HS.out]
          have h03 := below_next h02 hb3
          clear hb3 h02
          go_wp2_with fail
          go_ret2
          exact makeQ_some HK.out (by simp) h03
        · have HK : Hid (mk 2 x (lst xs) = none) := rmk_no HR.out (by
            rw [hW]
            intro e
            refine hsm (lst_inj ?_)
            rw [lst_ba]; simpa using e)
          have HS : Hid (sameB (ks.map ba) xs = false) := decide_eq_false hsm
          clear hsm hW
          go_wp2_with fail
          refine (rsame_at _ _ _ _ (ks.map ba) xs _ _ _ (by simp) rfl HTX.out HXW.out (by rw [hkl]; omega) (by omega)).mono ?_
          rintro e w3 ⟨rfl, hb3⟩
          rw [HS.out]
          have h03 := below_next h02 hb3
          clear hb3 h02
          go_wp2_with fail
          go_ret2
          exact makeQ_none HK.out h03
      · have hq1 : (2 != 2) = false := by simp
        have hq2 : (x != num) = true := by simp [hxn]
        have HK : Hid (mk 2 num (lst xs) = none) := rmk_no HR.out (by rw [hW]; intro e; exact hxn (by simpa using congrArg (fun o => (o.map (·.2.1)).getD 0) e))
        clear hW hxn hb2
        go_wp2_with fail
        go_ret2
        exact makeQ_none HK.out h02
    · have hq1 : (k != 2) = true := by simp [hkk]
      have HK : Hid (mk 2 num (lst xs) = none) := rmk_no HR.out (by rw [hW]; intro e; exact hkk (by simpa using congrArg (fun o => (o.map (·.1)).getD 0) e))
      clear hW hkk hb2
      go_wp2_with fail
      go_ret2
      exact makeQ_none HK.out h02

set_option maxHeartbeats 800000 in
theorem rmake_many (kind num : Int) (g : Option Addr) (xs : List ByteArray) (c : Nat) (w : World) (h3 : 3 < xs.length) (hn : xs.length ≤ 4611686018427387904) :
    Calls Tryz.prog 21 #[.int .i64 kind, .int .i64 num, .slice g xs.length c] w fun e w' => MakeQ (mk kind num (lst xs)) w e w' := by
  have HK : Hid (mk kind num (lst xs) = none) := mk_three (by unfold lst; simpa using h3)
  have h3' : (3 : Int) < (xs.length : Int) := by omega
  go_enter Tryz.func21, Tryz.ntmps21
  go_wp2_with fail
  go_ret2
  exact makeQ_none HK.out (Below.refl _ _)
set_option maxHeartbeats 800000 in
theorem rmake_far (kind num : Int) (g : Option Addr) (xs : List ByteArray) (c : Nat) (w : World) (h3 : xs.length ≤ 3) (hu : uptoB num (-32768) 32767 = false) :
    Calls Tryz.prog 21 #[.int .i64 kind, .int .i64 num, .slice g xs.length c] w fun e w' => MakeQ (mk kind num (lst xs)) w e w' := by
  have HK : Hid (mk kind num (lst xs) = none) := mk_upto hu
  have HU : Hid (uptoB num (-32768) 32767 = false) := hu
  clear hu
  go_enter Tryz.func21, Tryz.ntmps21
  go_wp2_with fail
  refine (upto_any _ _ _ _).mono ?_
  rintro e w1 ⟨rfl, rfl⟩
  rw [HU.out]
  go_wp2_with fail
  go_ret2
  exact makeQ_none HK.out (Below.refl _ _)


theorem rmake_any (kind num : Int) (g : Option Addr) (n : Nat) (xs : List ByteArray) (c : Nat) (w : World) (hl : n = xs.length)
    (hx : Txts w g xs) (hn : xs.length ≤ 4611686018427387904) (hxs : ∀ x ∈ xs, x.size ≤ 140737488355328) :
    Calls Tryz.prog 21 #[.int .i64 kind, .int .i64 num, .slice g n c] w fun e w' => MakeQ (mk kind num (lst xs)) w e w' := by
  subst hl
  by_cases h3 : xs.length ≤ 3
  · cases hu : uptoB num (-32768) 32767 with
    | false => exact rmake_far kind num g xs c w h3 hu
    | true =>
      have hr : -32768 ≤ num ∧ num ≤ 32767 := by unfold uptoB at hu; simpa using hu
      by_cases k0 : kind = 0
      · subst k0; exact rmake_zero num g xs c w hr.1 hr.2 hx h3 hxs
      by_cases k3 : kind = 3
      · subst k3; exact rmake_three num g xs c w hr.1 hr.2 hx h3 hxs
      by_cases k1 : kind = 1
      · subst k1; exact rmake_one num g xs c w hr.1 hr.2 hx h3 hxs
      by_cases k2 : kind = 2
      · subst k2
        by_cases hnil : xs = []
        · exact rmake_two num g xs c w hr.1 hr.2 hx h3 hxs hnil
        · exact rmake_kids num g xs c w hr.1 hr.2 hx h3 hxs hnil
      exact rmake_other kind num g xs c w hr.1 hr.2 hx h3 hxs k0 k3 k1 k2
  · exact rmake_many kind num g xs c w (by omega) hn
end Go.Proofs.YtjamknejllbmkaaGreatDoor.Tm
