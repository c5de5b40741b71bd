/- The contracts of headOf and mayStandBehind. -/
import Derived.Test.YtcpddpflfncbmaaDoorLib
import Derived.Lib.ItoaLen
namespace Go.Proofs.YtcpddpflfncbmaaDoor
open Go.RowKit
set_option linter.unusedVariables false

/-- What headOf hands back. -/
def GotH (o : Option (List UInt8)) (h : ByteArray) (b : Bool) : Prop := match o with
  | none => b = false
  | some t => b = true ∧ h = ⟨t.toArray⟩

theorem head_zero (num : Int) : head 0 num = if num = 0 then some [95] else none := by unfold head; rw [if_pos rfl]
theorem head_three (num : Int) : head 3 num = if num = 0 then some [33] else none := by unfold head; rw [if_neg (by decide), if_pos rfl]
theorem head_one (num : Int) : head 1 num = if mayB num then some (Lib.itoa num) else none := by unfold head; rw [if_neg (by decide), if_neg (by decide), if_pos rfl]
theorem head_two (num : Int) : head 2 num = if tagB num then some (64 :: Lib.itoa num) else none := by unfold head; rw [if_neg (by decide), if_neg (by decide), if_neg (by decide), if_pos rfl]
theorem head_other {kind : Int} (num : Int) (h0 : kind ≠ 0) (h1 : kind ≠ 1) (h2 : kind ≠ 2) (h3 : kind ≠ 3) : head kind num = none := by
  unfold head; rw [if_neg h0, if_neg h3, if_neg h1, if_neg h2]

/-- How headOf ends. -/
def HeadQ (kind num : Int) (w : World) (e : Ending) (w' : World) : Prop := ∃ h b, e = .returned (.tuple #[.string h, .bool b]) ∧ Below w.heap.size w w' ∧ GotH (head kind num) h b

theorem headQ_mk {kind num : Int} {w w' : World} (h : ByteArray) (b : Bool) (hb : Below w.heap.size w w') (hg : GotH (head kind num) h b) : HeadQ kind num w (.returned (.tuple #[.string h, .bool b])) w' := ⟨h, b, rfl, hb, hg⟩
theorem bytes_add (a b : List UInt8) : (⟨a.toArray⟩ : ByteArray) ++ ⟨b.toArray⟩ = ⟨(a ++ b).toArray⟩ := by
  apply ByteArray.ext
  simp

set_option maxHeartbeats 400000 in
theorem head_any (kind num : Int) (w : World) (h0 : -9223372036854775808 ≤ num) (h1 : num ≤ 9223372036854775807) (hw : Lw w) :
    Calls Tryd.prog 26 #[.int .i64 kind, .int .i64 num] w fun e w' => HeadQ kind num w e w' := by
  by_cases k0 : kind = 0
  · subst k0
    go_enter Tryd.func26, Tryd.ntmps26
    go_wp2_with fail
    go_ret2
    refine headQ_mk ⟨#[95]⟩ (num == 0) (Below.refl _ _) ?_
    rw [head_zero]
    by_cases hn : num = 0
    · rw [if_pos hn]; exact ⟨by simp [hn], rfl⟩
    · rw [if_neg hn]; show (num == 0) = false; simp [hn]
  by_cases k3 : kind = 3
  · subst k3
    go_enter Tryd.func26, Tryd.ntmps26
    go_wp2_with fail
    go_ret2
    refine headQ_mk ⟨#[33]⟩ (num == 0) (Below.refl _ _) ?_
    rw [head_three]
    by_cases hn : num = 0
    · rw [if_pos hn]; exact ⟨by simp [hn], rfl⟩
    · rw [if_neg hn]; show (num == 0) = false; simp [hn]
  by_cases k1 : kind = 1
  · subst k1
    go_enter Tryd.func26, Tryd.ntmps26
    go_wp2_with fail
    refine (itoa_said num _ h0 h1 hw).mono ?_
    rintro e w1 ⟨rfl, hb⟩
    go_wp2_with (go_at_call 39; refine (may_any _ _).mono ?_; rintro e w' ⟨rfl, rfl⟩)
    go_ret2
    refine headQ_mk ⟨(Lib.itoa num).toArray⟩ (mayB num) hb ?_
    rw [head_one]
    cases mayB num with
    | false => exact rfl
    | true => exact ⟨rfl, rfl⟩
  by_cases k2 : kind = 2
  · subst k2
    go_enter Tryd.func26, Tryd.ntmps26
    go_wp2_with fail
    refine (itoa_said num _ h0 h1 hw).mono ?_
    rintro e w1 ⟨rfl, hb⟩
    have hil : (Lib.itoa num).length ≤ 21 := Lib.itoa_length_le num h0 h1
    go_wp2_with (go_at_call 40; refine (tag_any _ _).mono ?_; rintro e w' ⟨rfl, rfl⟩)
    go_ret2
    refine headQ_mk (⟨#[64]⟩ ++ ⟨(Lib.itoa num).toArray⟩) (tagB num) hb ?_
    rw [head_two]
    cases tagB num with
    | false => exact rfl
    | true => exact ⟨rfl, bytes_add [64] (Lib.itoa num)⟩
  · have b0 : (kind == 0) = false := by simp [k0]
    have b1 : (kind == 1) = false := by simp [k1]
    have b2 : (kind == 2) = false := by simp [k2]
    have b3 : (kind == 3) = false := by simp [k3]
    have HK : Hid (head kind num = none) := head_other num k0 k1 k2 k3
    clear k0 k1 k2 k3
    go_enter Tryd.func26, Tryd.ntmps26
    go_wp2_with fail
    go_ret2
    refine headQ_mk ⟨#[]⟩ false (Below.refl _ _) ?_
    rw [HK.out]; exact rfl

/-- A slice's texts, wherever it lies. -/
def Txts (w : World) (g : Option Addr) (xs : List ByteArray) : Prop :=
  xs = [] ∨ ∃ bk o, g = some ⟨bk, o, none⟩ ∧ bk < w.heap.size ∧ ∀ (j : Nat) x, xs[j]? = some x → w.cell? ⟨bk, o + j, none⟩ = some (.string x)

theorem Txts.on {w w' : World} {g : Option Addr} {xs : List ByteArray} (h : Txts w g xs) (hb : Below w.heap.size w w') : Txts w' g xs := by
  rcases h with h | ⟨bk, o, h1, h2, h3⟩
  · exact Or.inl h
  · exact Or.inr ⟨bk, o, h1, Nat.lt_of_lt_of_le h2 hb.size, fun j x hx => by rw [hb.cell (p := ⟨bk, o + j, none⟩) h2]; exact h3 j x hx⟩

/-- The texts as lists of bytes. -/
def lst (xs : List ByteArray) : List (List UInt8) := xs.map (·.data.toList)

theorem behind_nil (kind : Int) : behind kind [] = true := rfl
theorem behind_bad {kind : Int} {kids : List (List UInt8)} (hne : kids ≠ []) (h : kind ≠ 2 ∨ 3 < kids.length) : behind kind kids = false := by
  unfold behind
  rw [List.isEmpty_eq_false_iff.2 hne]
  rcases h with h | h
  · simp [h]
  · have : ¬ kids.length ≤ 3 := by omega
    simp [this]
theorem behind_all {kids : List (List UInt8)} (hne : kids ≠ []) (h : kids.length ≤ 3) : behind 2 kids = kids.all fun s => (whole s).isSome := by
  unfold behind
  rw [List.isEmpty_eq_false_iff.2 hne]
  simp [h]

set_option maxHeartbeats 800000 in
set_option maxRecDepth 100000 in
theorem behind_any (kind : Int) (g : Option Addr) (xs : List ByteArray) (c : Nat) (w : World) (hx : Txts w g xs) (hxs : ∀ x ∈ xs, x.size ≤ 140737488355328) (hn : xs.length ≤ 9223372036854775807) (hw : Lw w) :
    Calls Tryd.prog 27 #[.int .i64 kind, .slice g xs.length c] w fun e w' => e = .returned (.bool (behind kind (lst xs))) ∧ Below w.heap.size w w' := by
  by_cases hnil : xs = []
  · subst hnil
    have hb : behind kind (lst []) = true := behind_nil kind
    rw [hb]
    go_enter Tryd.func27, Tryd.ntmps27
    go_wp2_with fail
    go_ret
    exact ⟨rfl, Below.refl _ _⟩
  · have hne : lst xs ≠ [] := by unfold lst; simpa using hnil
    have hlen : (lst xs).length = xs.length := by unfold lst; simp
    have hpos : 0 < xs.length := List.length_pos_iff.2 hnil
    have hz : ((xs.length : Int) == 0) = false := by simp; omega
    by_cases k2 : kind = 2
    · subst k2
      by_cases h3 : 3 < xs.length
      · have hb : behind 2 (lst xs) = false := behind_bad hne (Or.inr (by omega))
        rw [hb]
        have h3' : (3 : Int) < (xs.length : Int) := by omega
        go_enter Tryd.func27, Tryd.ntmps27
        go_wp2_with fail
        go_ret
        exact ⟨rfl, Below.refl _ _⟩
      · have hb : behind 2 (lst xs) = (lst xs).all fun s => (whole s).isSome := behind_all hne (by omega)
        rw [hb]
        have h3' : (xs.length : Int) ≤ 3 := by omega
        rcases hx with hx | ⟨bk, o, rfl, hbk, hcells⟩
        · exact absurd hx hnil
        have HC : Hid (∀ (j : Nat) x, xs[j]? = some x → w.cell? ⟨bk, o + j, none⟩ = some (.string x)) := hcells
        clear hcells hb
        go_enter Tryd.func27, Tryd.ntmps27
        go_wp2_with fail
        go_loopw [19] (fun i wr => ∃ j : Nat, j ≤ xs.length ∧ i = .int .i64 (j : Int) ∧ ((lst xs).take j).all (fun s => (whole s).isSome) = true ∧ Below w.heap.size w wr)
          (fun i _ => xs.length - (intOf i).toNat)
        case atStart => exact ⟨0, Nat.zero_le _, rfl, by simp, Below.refl _ _⟩
        case round =>
          obtain ⟨j, hj, rfl, hall, hbr⟩ := hrel
          by_cases hlt : j < xs.length
          · obtain ⟨x, hxj⟩ : ∃ x, xs[j]? = some x := ⟨xs[j], List.getElem?_eq_getElem hlt⟩
            have hcx : wr.cell? ⟨bk, o + j, none⟩ = some (.string x) := by
              rw [hbr.cell (p := ⟨bk, o + j, none⟩) hbk]; exact HC.out j x hxj
            have HXJ : Hid (xs[j]? = some x) := hxj
            clear hxj
            have HA : Hid (((lst xs).take j).all (fun s => (whole s).isSome) = true) := hall
            clear hall
            go_wp2_with fail
            refine (tmay_any atoi_said itoa_said x _ ?_ (hw.on hbr)).mono ?_
            · exact hxs x (List.mem_of_getElem? HXJ.out)
            rintro e w1 ⟨rfl, hb1⟩
            have hb2 : Below w.heap.size w w1 := hbr.trans (hb1.mono hbr.size)
            clear hb1 hbr
            have hxl : (lst xs)[j]? = some x.data.toList := by unfold lst; rw [List.getElem?_map, HXJ.out]; rfl
            cases hm : (whole x.data.toList).isSome with
            | true =>
              have HN : Hid (((lst xs).take (j + 1)).all (fun s => (whole s).isSome) = true) := by
                show ((lst xs).take (j + 1)).all (fun s => (whole s).isSome) = true
                rw [List.take_add_one, hxl, List.all_append, HA.out]; simp [hm]
              clear hxl
              go_wp2_with fail
              go_roundw
              case rel => exact ⟨j + 1, by omega, by go_num, HN.out, hb2⟩
              case measure => simp [intOf]; omega
            | false =>
              have HN : Hid ((lst xs).all (fun s => (whole s).isSome) = false) := by
                show (lst xs).all (fun s => (whole s).isSome) = false
                rw [List.all_eq_false]
                exact ⟨_, List.mem_of_getElem? hxl, by rw [hm]; simp⟩
              clear hxl
              go_wp2_with fail
              go_ret
              rw [HN.out]
              exact ⟨rfl, hb2⟩
          · go_wp2_with fail
            go_ret
            have ej : j = xs.length := by omega
            subst ej
            rw [← hlen, List.take_length] at hall
            rw [hall]
            exact ⟨rfl, hbr⟩
    · have hb : behind kind (lst xs) = false := behind_bad hne (Or.inl k2)
      rw [hb]
      have hk : (kind == 2) = false := by simp [k2]
      have hk' : (kind != 2) = true := by simp [k2]
      go_enter Tryd.func27, Tryd.ntmps27
      go_wp2_with fail
      go_ret
      exact ⟨rfl, Below.refl _ _⟩
end Go.Proofs.YtcpddpflfncbmaaDoor
