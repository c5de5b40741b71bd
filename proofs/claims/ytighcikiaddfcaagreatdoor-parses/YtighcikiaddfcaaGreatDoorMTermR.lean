/- The contracts of headOf and mayStandBehind. · The contract of Make. · The contracts of the statements' own helpers SameTexts and Num; Make and Cut at any spelling of a length. · What every program answers that is one: awake returns true. · The contract of the reference's digits. · What the reference's digits tell, held against the numerals that package term reads. Nothing of the program is walked here. · What the reference's reader hands back, said for each depth; what its digits mean there; its smallest contracts. · The contract of the reference's term, one level deeper, out of its parts'. · The reference's term at a constructor; and the whole step. · The contract of the reference's parts out of its term's. · The contracts of the reference's Cut and TermMay: they hand back what package term's do. -/
import Derived.Test.YtighcikiaddfcaaGreatDoorMTerm
import Derived.Lib.ItoaLen
import Derived.Deep.AppendLies
import Derived.Deep.RegionLaw

namespace Go.Proofs.YtighcikiaddfcaaGreatDoor.Tm
open Go.RowKit
set_option linter.unusedVariables false

/-- What headOf hands back. -/
def GotH (o : Option (List UInt8)) (h : ByteArray) (b : Bool) : Prop := match o with
  | none => b = false
  | some t => b = true ∧ h = ⟨t.toArray⟩

theorem head_zero (num : Int) : head 0 num = if num = 0 then some [95] else none := by unfold head; rw [if_pos rfl]
theorem head_three (num : Int) : head 3 num = if num = 0 then some [33] else none := by unfold head; rw [if_neg (by decide), if_pos rfl]
theorem head_one (num : Int) : head 1 num = if mayB num then some (Lib.itoa num) else none := by unfold head; rw [if_neg (by decide), if_neg (by decide), if_pos rfl]
theorem head_two (num : Int) : head 2 num = if tagB num then some (64 :: Lib.itoa num) else none := by unfold head; rw [if_neg (by decide), if_neg (by decide), if_neg (by decide), if_pos rfl]
theorem head_other {kind : Int} (num : Int) (h0 : kind ≠ 0) (h1 : kind ≠ 1) (h2 : kind ≠ 2) (h3 : kind ≠ 3) : head kind num = none := by
  unfold head; rw [if_neg h0, if_neg h3, if_neg h1, if_neg h2]

/-- How headOf ends. -/
def HeadQ (kind num : Int) (w : World) (e : Ending) (w' : World) : Prop := ∃ h b, e = .returned (.tuple #[.string h, .bool b]) ∧ Below w.heap.size w w' ∧ GotH (head kind num) h b

theorem headQ_mk {kind num : Int} {w w' : World} (h : ByteArray) (b : Bool) (hb : Below w.heap.size w w') (hg : GotH (head kind num) h b) : HeadQ kind num w (.returned (.tuple #[.string h, .bool b])) w' := ⟨h, b, rfl, hb, hg⟩
theorem bytes_add (a b : List UInt8) : (⟨a.toArray⟩ : ByteArray) ++ ⟨b.toArray⟩ = ⟨(a ++ b).toArray⟩ := by
  apply ByteArray.ext
  simp

/-- A slice's texts, wherever it lies. -/
def Txts (w : World) (g : Option Addr) (xs : List ByteArray) : Prop :=
  xs = [] ∨ ∃ bk o, g = some ⟨bk, o, none⟩ ∧ bk < w.heap.size ∧ ∀ (j : Nat) x, xs[j]? = some x → w.cell? ⟨bk, o + j, none⟩ = some (.string x)

theorem Txts.on {w w' : World} {g : Option Addr} {xs : List ByteArray} (h : Txts w g xs) (hb : Below w.heap.size w w') : Txts w' g xs := by
  rcases h with h | ⟨bk, o, h1, h2, h3⟩
  · exact Or.inl h
  · exact Or.inr ⟨bk, o, h1, Nat.lt_of_lt_of_le h2 hb.size, fun j x hx => by rw [hb.cell (p := ⟨bk, o + j, none⟩) h2]; exact h3 j x hx⟩

/-- The texts as lists of bytes. -/
def lst (xs : List ByteArray) : List (List UInt8) := xs.map (·.data.toList)

theorem behind_nil (kind : Int) : behind kind [] = true := rfl
theorem behind_bad {kind : Int} {kids : List (List UInt8)} (hne : kids ≠ []) (h : kind ≠ 2 ∨ 3 < kids.length) : behind kind kids = false := by
  unfold behind
  rw [List.isEmpty_eq_false_iff.2 hne]
  rcases h with h | h
  · simp [h]
  · have : ¬ kids.length ≤ 3 := by omega
    simp [this]
theorem behind_all {kids : List (List UInt8)} (hne : kids ≠ []) (h : kids.length ≤ 3) : behind 2 kids = kids.all fun s => (whole s).isSome := by
  unfold behind
  rw [List.isEmpty_eq_false_iff.2 hne]
  simp [h]

end Go.Proofs.YtighcikiaddfcaaGreatDoor.Tm

namespace Go.Proofs.YtighcikiaddfcaaGreatDoor.Tm
open Go.RowKit
set_option linter.unusedVariables false

def mkT (o : Option (List UInt8)) : List UInt8 := match o with
  | none => []
  | some r => r
def mkE (o : Option (List UInt8)) : Int := match o with
  | none => 200
  | some _ => 0

/-- How Make ends. -/
def MakeQ (o : Option (List UInt8)) (w : World) (e : Ending) (w' : World) : Prop := e = .returned (.tuple #[S (mkT o), .int .i64 (mkE o)]) ∧ Below w.heap.size w w'

theorem jn_le : ∀ (l : List (List UInt8)) (N : Nat), (∀ s ∈ l, s.length ≤ N) → (jn l).length ≤ l.length * (N + 1)
  | [], N, h => by simp [jn]
  | [a], N, h => by have := h a (by simp); simp [jn]; omega
  | a :: b :: r, N, h => by
    have ih := jn_le (b :: r) N (fun s hs => h s (List.mem_cons_of_mem _ hs))
    have := h a (by simp)
    simp only [jn, List.length_append, List.length_cons] at ih ⊢
    rw [Nat.add_mul]; omega

theorem behind_some {kind : Int} {kids : List (List UInt8)} (hne : kids ≠ []) (h : behind kind kids = true) : kind = 2 ∧ kids.length ≤ 3 ∧ ∀ s ∈ kids, s.length ≤ 1024 := by
  unfold behind at h
  simp only [Bool.or_eq_true, Bool.and_eq_true, decide_eq_true_eq, List.isEmpty_iff, List.all_eq_true] at h
  rcases h with e | ⟨⟨e1, e2⟩, e3⟩
  · exact absurd e hne
  · refine ⟨e1, e2, fun s hs => ?_⟩
    obtain ⟨y, hy⟩ := Option.isSome_iff_exists.1 (e3 s hs)
    obtain ⟨a, b, c⟩ := y
    exact (whole_some hy).1

theorem head_len {kind num : Int} {h : List UInt8} (h0 : -9223372036854775808 ≤ num) (h1 : num ≤ 9223372036854775807) (hh : head kind num = some h) : h.length ≤ 22 := by
  have hl := Lib.itoa_length_le num h0 h1
  unfold head at hh
  split at hh
  · split at hh
    · have e := Option.some.inj hh; subst e; simp
    · cases hh
  · split at hh
    · split at hh
      · have e := Option.some.inj hh; subst e; simp
      · cases hh
    · split at hh
      · split at hh
        · have e := Option.some.inj hh; subst e; omega
        · cases hh
      · split at hh
        · split at hh
          · have e := Option.some.inj hh; subst e; simp; omega
          · cases hh
        · cases hh

theorem mk_head_none {kind num : Int} (kids : List (List UInt8)) (h : head kind num = none) : mk kind num kids = none := by unfold mk; rw [h]
theorem mk_behind_no {kind num : Int} {kids : List (List UInt8)} {t : List UInt8} (h : head kind num = some t) (hb : behind kind kids = false) : mk kind num kids = none := by
  unfold mk; rw [h]; simp only; rw [if_neg (by rw [hb]; simp)]
theorem mk_yes {kind num : Int} {kids : List (List UInt8)} {t : List UInt8} (h : head kind num = some t) (hb : behind kind kids = true) (hl : (t ++ tail kids).length ≤ 1024) : mk kind num kids = some (t ++ tail kids) := by
  unfold mk; rw [h]; simp only; rw [if_pos hb, if_pos hl]
theorem mk_long {kind num : Int} {kids : List (List UInt8)} {t : List UInt8} (h : head kind num = some t) (hb : behind kind kids = true) (hl : ¬ (t ++ tail kids).length ≤ 1024) : mk kind num kids = none := by
  unfold mk; rw [h]; simp only; rw [if_pos hb, if_neg hl]

theorem makeQ_none {o : Option (List UInt8)} {w w' : World} (h : o = none) (hb : Below w.heap.size w w') : MakeQ o w (.returned (.tuple #[.string ⟨#[]⟩, .int .i64 200])) w' := by
  subst h; exact ⟨rfl, hb⟩
theorem makeQ_some {o : Option (List UInt8)} {w w' : World} {t : List UInt8} {s : ByteArray} (h : o = some t) (hs : s = ⟨t.toArray⟩) (hb : Below w.heap.size w w') : MakeQ o w (.returned (.tuple #[.string s, .int .i64 0])) w' := by
  subst h; subst hs; exact ⟨rfl, hb⟩

end Go.Proofs.YtighcikiaddfcaaGreatDoor.Tm

namespace Go.Proofs.YtighcikiaddfcaaGreatDoor.Tm
open Go.RowKit
set_option linter.unusedVariables false

set_option maxHeartbeats 400000 in
theorem num_any (x : Int) (w : World) :
    Calls Tryz.prog 12 #[.int .i64 x] w fun e w' => e = .returned (.int .i64 x) ∧ w = w' := by
  go_enter Tryz.func12, Tryz.ntmps12
  go_wp2
  go_ret
  exact ⟨rfl, rfl⟩

/-- The same texts? -/
def sameB (xs ys : List ByteArray) : Bool := decide (xs = ys)

theorem txts_at {w : World} {g : Option Addr} {xs : List ByteArray} (h : Txts w g xs) {j : Nat} (hj : j < xs.length) : ∃ bk o, g = some ⟨bk, o, none⟩ ∧ w.cell? ⟨bk, o + j, none⟩ = some (.string xs[j]) := by
  rcases h with h | ⟨bk, o, h1, _, h3⟩
  · subst h; simp at hj
  · exact ⟨bk, o, h1, h3 j _ (List.getElem?_eq_getElem hj)⟩

theorem below_two {a b : World} (h : ∃ n, b = a.drewN n) : Below a.heap.size a b := by
  obtain ⟨n, rfl⟩ := h; exact below_drewN _ _ _

/-- Texts as values' bytes. -/
def ba (l : List UInt8) : ByteArray := ⟨l.toArray⟩
theorem own_txts {w : World} {B : Nat} {v : Value} {ks : List (List UInt8)} (h : w.ownsRow B 9 1 v ks.length (ks.map S)) : ∃ g c, v = .slice g (ks.map ba).length c ∧ Txts w g (ks.map ba) ∧ ks.length ≤ c := by
  rcases h.2 with ⟨h2, h3⟩ | ⟨g, cap, cur, hv, hB, hh, hc, _⟩
  · have e : ks = [] := List.length_eq_zero_iff.1 h3
    subst e
    exact ⟨none, 0, h2, Or.inl rfl, Nat.le_refl _⟩
  · refine ⟨_, cap, by rw [List.length_map]; exact hv, Or.inr ⟨g, 0, rfl, ?_, ?_⟩, hc⟩
    · rcases Nat.lt_or_ge g w.heap.size with h' | h'
      · exact h'
      · rw [Array.getElem?_eq_none h'] at hh; cases hh
    · intro j x hj
      subst hv
      have e : (ks.map S)[j]? = some (.string x) := by
        rw [List.getElem?_map] at hj ⊢
        cases hk : ks[j]? with
        | none => rw [hk] at hj; cases hj
        | some l => rw [hk] at hj; have e := Option.some.inj hj; subst e; rfl
      have := h.cells (g := g) rfl j _ e
      rw [Lib.add_plain] at this
      exact this
theorem lst_ba (ks : List (List UInt8)) : lst (ks.map ba) = ks := by
  unfold lst; rw [List.map_map]
  have : (fun l : List UInt8 => (ba l).data.toList) = id := rfl
  show ks.map (fun l => (ba l).data.toList) = ks
  rw [this, List.map_id]
/-- The cells of a new row of texts. -/
theorem new_txts (w : World) (ks : List ByteArray) : Txts (w.alloc (Obj.cells (ks.map Value.string).toArray 9)) (some ⟨w.heap.size, 0, none⟩) ks := by
  refine Or.inr ⟨w.heap.size, 0, rfl, by simp, fun j x hj => ?_⟩
  rw [Nat.zero_add, World.cell?_alloc_new]
  simp [hj]
end Go.Proofs.YtighcikiaddfcaaGreatDoor.Tm

namespace Go.Proofs.YtighcikiaddfcaaGreatDoor.Tm
open Go.RowKit
set_option linter.unusedVariables false

theorem w_one : whole [64, 49, 50, 40, 45, 55, 32, 64, 48, 32, 95, 41] = some (2, 12, [[45, 55], [64, 48], [95]]) := by decide +kernel
theorem w_two : whole [64, 49, 40, 41] = none := by decide +kernel
theorem w_three : (whole [33]).isSome = true := by decide +kernel
theorem w_four : (whole [48, 49]).isSome = false := by decide +kernel
theorem w_five : mk 2 12 [[45, 55], [64, 48], [95]] = some [64, 49, 50, 40, 45, 55, 32, 64, 48, 32, 95, 41] := whole_mkd w_one
theorem w_six : mk 1 32768 [] = none := by
  refine mk_head_none [] ?_
  rw [head_one]; rfl

end Go.Proofs.YtighcikiaddfcaaGreatDoor.Tm

namespace Go.Proofs.YtighcikiaddfcaaGreatDoor.Tm
open Go.RowKit
set_option linter.unusedVariables false

/-- So many digits from the front tell this number, and there it stops. -/
def DigQ (l : List UInt8) (x k : Nat) : Prop :=
  k ≤ l.length ∧ k ≤ 6 ∧ Lib.decFrom 0 (l.take k) = some x ∧ (2 ≤ k → l[0]? ≠ some 48) ∧
    (k = l.length ∨ k = 6 ∨ (∀ c, l[k]? = some c → isDg c = false) ∨ (k ≠ 0 ∧ l[0]? = some 48))

theorem dig_bound {l : List UInt8} {x j : Nat} (h : Lib.decFrom 0 (l.take j) = some x) (hj : j ≤ 5) : x < 100000 := by
  have h1 := Lib.decFrom_lt _ 0 x h
  have h2 : (l.take j).length ≤ 5 := by rw [List.length_take]; omega
  have h3 := Nat.pow_le_pow_right (n := 10) (by decide) h2
  have e : (10 : Nat) ^ 5 = 100000 := by decide
  omega
theorem dig_step {s : ByteArray} {x j : Nat} (h : Lib.decFrom 0 (s.data.toList.take j) = some x) (hj : j < s.size) (h1 : 48 ≤ (s[j].toNat : Int)) (h2 : (s[j].toNat : Int) ≤ 57) :
    Lib.decFrom 0 (s.data.toList.take (j + 1)) = some (x * 10 + (s[j].toNat - 48)) := by
  refine Lib.decFrom_take s.data.toList j 0 x s[j] _ h ?_ ?_
  · rw [List.getElem?_eq_getElem (by simpa using hj)]; rfl
  · unfold Lib.digitVal; rw [if_pos (by omega)]

theorem zero_at {s : ByteArray} (h : 0 < s.size) : s.data.toList[0]? = some s[0] := by
  rw [List.getElem?_eq_getElem (by simpa using h)]; rfl

set_option maxHeartbeats 1600000 in
set_option maxRecDepth 100000 in
theorem digits_any (s : ByteArray) (w : World) (hs : s.size ≤ 1024) :
    Calls Tryz.prog 44 #[.string s] w fun e w' => ∃ x k : Nat, e = .returned (.tuple #[.int .i64 (x : Int), .int .i64 (k : Int)]) ∧ w = w' ∧ DigQ s.data.toList x k := by
  go_enter Tryz.func44, Tryz.ntmps44
  go_wp2_with fail
  go_loop [4, 5] (fun a b => ∃ x j : Nat, j ≤ s.size ∧ j ≤ 6 ∧ a = .int .i64 (x : Int) ∧ b = .int .i64 (j : Int) ∧ Lib.decFrom 0 (s.data.toList.take j) = some x ∧ (2 ≤ j → s.data.toList[0]? ≠ some 48))
    (fun _ b => s.size - (intOf b).toNat)
  case atStart => exact ⟨0, 0, Nat.zero_le _, by omega, rfl, rfl, rfl, fun h => by omega⟩
  case round =>
    obtain ⟨x, j, hj, hj6, rfl, rfl, hd, hz⟩ := hrel
    have HD : Hid (Lib.decFrom 0 (s.data.toList.take j) = some x) := hd
    clear hd
    have HZ : Hid (2 ≤ j → s.data.toList[0]? ≠ some 48) := hz
    clear hz
    by_cases hlt : j < s.size
    · by_cases h6 : j < 6
      · have hx := dig_bound HD.out (by omega)
        by_cases hdg : 48 ≤ (s[j].toNat : Int) ∧ (s[j].toNat : Int) ≤ 57
        · obtain ⟨h1, h2⟩ := hdg
          have HN : Hid (Lib.decFrom 0 (s.data.toList.take (j + 1)) = some (x * 10 + (s[j].toNat - 48))) := dig_step HD.out hlt h1 h2
          by_cases hj0 : j = 0
          · have HJ : Hid (j = 0) := hj0
            have hb0 : ((j : Int) == 0) = true := by simp [hj0]
            clear hj0
            go_wp2_with fail
            go_round
            case rel =>
              refine ⟨x * 10 + (s[j].toNat - 48), j + 1, by omega, by omega, ?_, by go_num, HN.out, fun h => ?_⟩
              · congr 1; omega
              · have := HJ.out; omega
            case measure => simp [intOf]; omega
          · have hb0 : ((j : Int) == 0) = false := by simp; exact hj0
            have hpos : 0 < s.size := by omega
            by_cases hs0 : (s[0].toNat : Int) = 48
            · have hq : ((s[0].toNat : Int) == 48) = true := by simp [hs0]
              have hq2 : ((s[0].toNat : Int) != 48) = false := by simp [hs0]
              have HS0 : Hid ((s[0].toNat : Int) = 48) := hs0
              clear hs0
              go_wp2_with fail
              go_ret2
              refine ⟨x, j, rfl, rfl, by simpa using hj, hj6, HD.out, HZ.out, Or.inr (Or.inr (Or.inr ⟨?_, ?_⟩))⟩
              · intro e; rw [e] at hb0; simp at hb0
              · rw [zero_at hpos]; congr 1; exact UInt8.toNat_inj.1 (by have := HS0.out; simp; omega)
            · have hq2 : ((s[0].toNat : Int) != 48) = true := by simp; exact hs0
              have HNZ : Hid (s.data.toList[0]? ≠ some 48) := by
                show s.data.toList[0]? ≠ some 48
                rw [zero_at hpos]
                intro e
                have e := Option.some.inj e
                exact hs0 (by rw [e]; rfl)
              clear hs0
              go_wp2_with fail
              go_round
              case rel =>
                refine ⟨x * 10 + (s[j].toNat - 48), j + 1, by omega, by omega, ?_, by go_num, HN.out, fun _ => HNZ.out⟩
                congr 1; omega
              case measure => simp [intOf]; omega
        · have hor : (s[j].toNat : Int) < 48 ∨ (48 ≤ (s[j].toNat : Int) ∧ 57 < (s[j].toNat : Int)) := by omega
          have HND : Hid (∀ c, s.data.toList[j]? = some c → isDg c = false) := by
            show ∀ c, s.data.toList[j]? = some c → isDg c = false
            intro c hc
            rw [List.getElem?_eq_getElem (by simpa using hlt)] at hc
            have e : s[j] = c := Option.some.inj hc
            subst e
            unfold isDg
            simp only [Bool.and_eq_false_iff, decide_eq_false_iff_not]
            omega
          clear hdg
          rcases hor with h1 | ⟨h1, h2⟩
          all_goals
            go_wp2_with fail
            go_ret2
            exact ⟨x, j, rfl, rfl, by simpa using hj, hj6, HD.out, HZ.out, Or.inr (Or.inr (Or.inl HND.out))⟩
      · go_wp2_with fail
        go_ret2
        exact ⟨x, j, rfl, rfl, by simpa using hj, hj6, HD.out, HZ.out, Or.inr (Or.inl (by omega))⟩
    · go_wp2_with fail
      go_ret2
      exact ⟨x, j, rfl, rfl, by simpa using hj, hj6, HD.out, HZ.out, Or.inl (by simp; omega)⟩
end Go.Proofs.YtighcikiaddfcaaGreatDoor.Tm

namespace Go.Proofs.YtighcikiaddfcaaGreatDoor.Tm
open Go.RowKit
set_option linter.unusedVariables false

theorem decFrom_mono {l r : List UInt8} {acc a v : Nat} (h : Lib.decFrom acc l = some a) (h2 : Lib.decFrom acc (l ++ r) = some v) : a ≤ v := by
  rw [decFrom_append l r acc a h] at h2
  exact decNat_digits.decFrom_ge r a v h2

/-- The digits are a beginning of the numeral. -/
theorem take_numPart {l : List UInt8} {x k : Nat} (h : DigQ l x k) : ∃ r, numPart l = l.take k ++ r := by
  obtain ⟨h1, _, h3, _, _⟩ := h
  have key : ∀ (k : Nat) (l : List UInt8), k ≤ l.length → (∀ i c, i < k → l[i]? = some c → isNC c = true) → ∃ r, numPart l = l.take k ++ r := by
    intro k
    induction k with
    | zero => intro l _ _; exact ⟨numPart l, by simp⟩
    | succ k ih =>
      intro l hk hc
      cases l with
      | nil => simp at hk
      | cons c l =>
        obtain ⟨r, hr⟩ := ih l (by simpa using hk) (fun i d hi hd => hc (i + 1) d (by omega) (by simpa using hd))
        refine ⟨r, ?_⟩
        have hcc := hc 0 c (by omega) rfl
        show (c :: l).takeWhile isNC = _
        rw [List.takeWhile_cons, if_pos hcc]
        show c :: numPart l = _
        rw [hr]; rfl
  refine key k l h1 (fun i c hi hc => ?_)
  obtain ⟨d, hd⟩ := Lib.digit_of_decFrom _ 0 x h3 i c (by rw [List.getElem?_take, if_pos hi]; exact hc)
  exact isNC_dg (dg_of_val hd)

theorem digit_first {l : List UInt8} {x k : Nat} (h : DigQ l x k) (hk : k ≠ 0) : ∃ c l', l = c :: l' ∧ isDg c = true := by
  obtain ⟨h1, _, h3, _, _⟩ := h
  cases l with
  | nil => simp at h1; omega
  | cons c l' =>
    refine ⟨c, l', rfl, ?_⟩
    obtain ⟨d, hd⟩ := Lib.digit_of_decFrom _ 0 x h3 0 c (by rw [List.getElem?_take, if_pos (by omega)]; rfl)
    exact dg_of_val hd

theorem dg_not_minus {c : UInt8} (h : isDg c = true) : c ≠ 45 := by
  intro e; subst e; simp [isDg] at h

/-- A numeral that opens with a digit: its value is that of its digits. -/
theorem canon_dg {c : UInt8} {r : List UInt8} {v : Int} (hc : isDg c = true) (h : canon (c :: r) = some v) : ∃ m : Nat, v = (m : Int) ∧ Lib.decFrom 0 (c :: r) = some m ∧ (c = 48 → r = []) := by
  rw [canon, if_neg (dg_not_minus hc)] at h
  by_cases h48 : c = 48
  · rw [if_pos h48] at h
    by_cases hr : r = []
    · rw [if_pos hr] at h
      have e := Option.some.inj h
      subst hr; subst h48
      exact ⟨0, e.symm, rfl, fun _ => rfl⟩
    · rw [if_neg hr] at h; cases h
  · rw [if_neg h48] at h
    cases hm : Lib.decNat (c :: r) with
    | none => rw [hm] at h; cases h
    | some m =>
      rw [hm] at h
      exact ⟨m, (Option.some.inj h).symm, (Lib.decNat_some hm).2, fun e => absurd e h48⟩
theorem canon_dg_mk {c : UInt8} {r : List UInt8} {m : Nat} (hc : isDg c = true) (h : Lib.decFrom 0 (c :: r) = some m) (hz : c = 48 → r = []) : canon (c :: r) = some (m : Int) := by
  rw [canon, if_neg (dg_not_minus hc)]
  by_cases h48 : c = 48
  · have hr := hz h48
    subst hr; subst h48
    rw [if_pos rfl, if_pos rfl]
    have e : Lib.decFrom 0 [48] = some 0 := rfl
    rw [e] at h
    have := Option.some.inj h
    subst this; rfl
  · rw [if_neg h48]
    have : Lib.decNat (c :: r) = some m := by unfold Lib.decNat; simpa using h
    rw [this]; rfl

/-- No digit at the front: what is read there is below 0, or nothing. -/
theorem dig_none {l : List UInt8} {x : Nat} (h : DigQ l x 0) : ∀ v, canon (numPart l) = some v → v < 0 := by
  intro v hv
  obtain ⟨_, _, _, _, hstop⟩ := h
  cases l with
  | nil => cases hv
  | cons c l' =>
    have hnd : isDg c = false := by
      rcases hstop with e | e | e | ⟨e, _⟩
      · simp at e
      · omega
      · exact e c rfl
      · exact absurd rfl e
    have hcc : c = 45 := by
      by_cases hn : isNC c = true
      · unfold isNC at hn; unfold isDg at hnd
        simp only [Bool.or_eq_true, beq_iff_eq] at hn
        rcases hn with e | e
        · exact e
        · rw [hnd] at e; cases e
      · unfold numPart at hv
        rw [List.takeWhile_cons, if_neg hn] at hv; cases hv
    subst hcc
    have e : numPart (45 :: l') = 45 :: numPart l' := by unfold numPart; rw [List.takeWhile_cons, if_pos (by decide)]
    rw [e, canon, if_pos rfl] at hv
    by_cases h48 : (numPart l').head? = some 48
    · rw [if_pos h48] at hv; cases hv
    · rw [if_neg h48] at hv
      cases hm : Lib.decNat (numPart l') with
      | none => rw [hm] at hv; cases hv
      | some m =>
        rw [hm] at hv
        have e : -(m : Int) = v := Option.some.inj hv
        cases ht : numPart l' with
        | nil => rw [ht] at hm; cases hm
        | cons d r =>
          rw [ht] at hm h48
          have := (decNat_digits (fun e => h48 (by rw [e]; rfl)) hm).2
          omega

/-- What stands there tells at least as much. -/
theorem dig_least {l : List UInt8} {x k : Nat} (h : DigQ l x k) (hk : k ≠ 0) : ∀ v, canon (numPart l) = some v → (x : Int) ≤ v := by
  intro v hv
  obtain ⟨r, hr⟩ := take_numPart h
  obtain ⟨c, l', rfl, hc⟩ := digit_first h hk
  obtain ⟨k', rfl⟩ : ∃ k', k = k' + 1 := ⟨k - 1, by omega⟩
  rw [List.take_succ_cons] at hr
  rw [hr, List.cons_append] at hv
  obtain ⟨m, rfl, hm, _⟩ := canon_dg hc hv
  have h3 := h.2.2.1
  rw [List.take_succ_cons] at h3
  have := decFrom_mono h3 (r := r) (by rw [List.cons_append]; exact hm)
  omega

/-- A small number: either just that stands there, or nothing that may be, and a digit or a sign follows. -/
theorem dig_small {l : List UInt8} {x k : Nat} (h : DigQ l x k) (hk : k ≠ 0) (hx : x < 100000) :
    ((numPart l).length = k ∧ canon (numPart l) = some (x : Int)) ∨ (canon (numPart l) = none ∧ ∃ c, l[k]? = some c ∧ isNC c = true) := by
  obtain ⟨r, hr⟩ := take_numPart h
  obtain ⟨c, l', rfl, hc⟩ := digit_first h hk
  obtain ⟨k', rfl⟩ : ∃ k', k = k' + 1 := ⟨k - 1, by omega⟩
  have hk1 := h.1
  have h3 := h.2.2.1
  cases r with
  | nil =>
    rw [List.append_nil] at hr
    refine Or.inl ⟨by rw [hr, List.length_take]; omega, ?_⟩
    rw [hr]
    rw [List.take_succ_cons] at h3 ⊢
    refine canon_dg_mk hc h3 (fun e => ?_)
    have h4 := h.2.2.2.1
    by_cases h2 : 2 ≤ k' + 1
    · exact absurd (by rw [e]; rfl) (h4 h2)
    · have : k' = 0 := by omega
      subst this; rfl
  | cons d r =>
    have hd : isNC d = true := numPart_all (c :: l') d (by rw [hr]; simp)
    have hat : (c :: l')[k' + 1]? = some d := by
      have e1 : (numPart (c :: l'))[k' + 1]? = some d := by
        rw [hr, List.getElem?_append_right (by rw [List.length_take]; omega), List.length_take]
        rw [show k' + 1 - min (k' + 1) (c :: l').length = 0 by omega]; rfl
      have e2 := numPart_take (c :: l')
      rw [← e2, List.getElem?_take] at e1
      split at e1
      · exact e1
      · cases e1
    refine Or.inr ⟨?_, d, hat, hd⟩
    cases hv : canon (numPart (c :: l')) with
    | none => rfl
    | some v =>
      exfalso
      have hle := dig_least h hk v hv
      rw [hr] at hv
      rw [List.take_succ_cons, List.cons_append] at hv
      obtain ⟨m, rfl, hm, hz⟩ := canon_dg hc hv
      rcases h.2.2.2.2 with e | e | e | ⟨_, e⟩
      · have := lt_of_at hat; omega
      · -- six digits
        have h4 := h.2.2.2.1 (by omega)
        have hc48 : c ≠ 48 := fun e => h4 (by rw [e]; rfl)
        have hk' : k' = 5 := by omega
        subst hk'
        have hn : Lib.decNat ((c :: l').take 6) = some x := by
          rw [List.take_succ_cons] at h3 ⊢
          unfold Lib.decNat; simpa using h3
        rw [List.take_succ_cons] at hn
        have hdd := (decNat_digits hc48 hn).1
        have hlen := Lib.decDigits_length x
        rw [hdd] at hlen
        have hl6 : (c :: l'.take 5).length = 6 := by
          rw [List.length_cons, List.length_take]; simp at hk1; omega
        rw [hl6] at hlen
        have hlt := Lib.lt_pow_nDigits x
        have : Lib.nDigits x ≤ 5 := by
          rcases Nat.lt_or_ge x 10 with h | h
          · rw [Lib.nDigits_small h]; omega
          rcases Nat.lt_or_ge x 100 with h' | h'
          · rw [Lib.nDigits_unique 1 x (by omega) (by omega)]; omega
          rcases Nat.lt_or_ge x 1000 with h'' | h''
          · rw [Lib.nDigits_unique 2 x (by omega) (by omega)]; omega
          rcases Nat.lt_or_ge x 10000 with h3 | h3
          · rw [Lib.nDigits_unique 3 x (by omega) (by omega)]; omega
          · rw [Lib.nDigits_unique 4 x (by omega) (by omega)]; omega
        omega
      · -- no digit: a sign
        have hnd := e d hat
        obtain ⟨dd, hdd⟩ := Lib.digit_of_decFrom _ 0 m hm (k' + 1) d (by
          have : (c :: (l'.take k' ++ d :: r))[k' + 1]? = (l'.take k' ++ d :: r)[k']? := rfl
          rw [this, List.getElem?_append_right (by rw [List.length_take]; omega), List.length_take]
          simp at hk1
          rw [show k' - min k' l'.length = 0 by omega]; rfl)
        rw [dg_of_val hdd] at hnd; cases hnd
      · have hc48 : c = 48 := by simpa using e
        have := hz hc48
        simp at this

/-- Behind a minus. -/
theorem minus_part (l : List UInt8) : numPart (45 :: l) = 45 :: numPart l := by unfold numPart; rw [List.takeWhile_cons, if_pos (by decide)]
theorem minus_none {l : List UInt8} {x : Nat} (h : DigQ l x 0) : canon (numPart (45 :: l)) = none := by
  rw [minus_part, canon, if_pos rfl]
  split
  · rfl
  · cases hm : Lib.decNat (numPart l) with
    | none => rfl
    | some m =>
      exfalso
      obtain ⟨hne, hd⟩ := Lib.decNat_some hm
      cases ht : numPart l with
      | nil => exact hne ht
      | cons c r =>
        rw [ht] at hd
        obtain ⟨dd, hdd⟩ := Lib.digit_of_decFrom _ 0 m hd 0 c rfl
        have hdg := dg_of_val hdd
        have hl0 : l[0]? = some c := by
          have e2 := numPart_take l
          rw [ht] at e2
          cases l with
          | nil => cases ht
          | cons a l' => rw [List.length_cons, List.take_succ_cons] at e2; injection e2 with e3 _; rw [← e3]; rfl
        rcases h.2.2.2.2 with e | e | e | ⟨e, _⟩
        · have := lt_of_at hl0; omega
        · omega
        · rw [e c hl0] at hdg; cases hdg
        · exact e rfl
theorem minus_some {l : List UInt8} {x k : Nat} (h : DigQ l x k) (hk : k ≠ 0) : (x = 0 → canon (numPart (45 :: l)) = none) ∧ (x ≠ 0 → canon (numPart (45 :: l)) = (canon (numPart l)).map fun v => -v) := by
  obtain ⟨r, hr⟩ := take_numPart h
  obtain ⟨c, l', rfl, hc⟩ := digit_first h hk
  obtain ⟨k', rfl⟩ : ∃ k', k = k' + 1 := ⟨k - 1, by omega⟩
  have h3 := h.2.2.1
  rw [List.take_succ_cons] at hr h3
  rw [minus_part, hr, List.cons_append]
  have hx0 : c = 48 → x = 0 := by
    intro e
    have h4 := h.2.2.2.1
    have : k' = 0 := by
      by_cases h2 : 2 ≤ k' + 1
      · exact absurd (by rw [e]; rfl) (h4 h2)
      · omega
    subst this; subst e
    have e2 : Lib.decFrom 0 (48 :: l'.take 0) = some 0 := rfl
    rw [e2] at h3; exact (Option.some.inj h3).symm
  have hx1 : c ≠ 48 → 1 ≤ x := by
    intro e
    have hn : Lib.decNat (c :: l'.take k') = some x := by unfold Lib.decNat; simpa using h3
    exact (decNat_digits e hn).2
  constructor
  · intro e
    have h48 : c = 48 := by
      by_cases h48 : c = 48
      · exact h48
      · have := hx1 h48; omega
    rw [canon, if_pos rfl, if_pos (by rw [h48]; rfl)]
  · intro e
    have h48 : c ≠ 48 := fun e2 => e (hx0 e2)
    rw [canon, if_pos rfl, if_neg (by intro e2; exact h48 (by simpa using e2)), canon, if_neg (dg_not_minus hc), if_neg h48, Option.map_map]
    rfl
end Go.Proofs.YtighcikiaddfcaaGreatDoor.Tm

namespace Go.Proofs.YtighcikiaddfcaaGreatDoor.Tm
open Go.RowKit
set_option linter.unusedVariables false

/-- A digit or a sign stands there. -/
def NcAt (s : ByteArray) (n : Nat) : Prop := ∃ c, s.data.toList[n]? = some c ∧ isNC c = true

/-- What the reference's reader hands back. -/
def GotR (s : ByteArray) (a B : Nat) (w : World) (o : Option Rd) (k x : Int) (v : Value) (to : Int) : Prop :=
  match o with
  | none => to = -1 ∨ ∃ n : Nat, to = (n : Int) ∧ a ≤ n ∧ NcAt s n
  | some (k', x', ks, n) => k = k' ∧ x = x' ∧ to = (a : Int) + (n : Int) ∧ w.ownsRow B 9 1 v ks.length (ks.map S)
def GotRP (s : ByteArray) (a B : Nat) (w : World) (o : Option (List (List UInt8) × Nat)) (k0 x0 k x : Int) (v : Value) (to : Int) : Prop :=
  match o with
  | none => to = -1
  | some (ks, n) => k = k0 ∧ x = x0 ∧ to = (a : Int) + (n : Int) ∧ w.ownsRow B 9 1 v ks.length (ks.map S)

def RTermSaid (f : Nat) : Prop := ∀ (s : ByteArray) (i : Int) (a : Nat) (w : World), i = (a : Int) → a ≤ s.size → s.size ≤ 1024 → s.size - a < f →
  Calls Tryz.prog 72 #[.string s, .int .i64 i] w fun e w' => ∃ k x v to, e = .returned (.agg #[.int .i64 k, .int .i64 x, v, .int .i64 to]) ∧
    Below w.heap.size w w' ∧ (∃ g n c, v = .slice g n c) ∧ GotR s a w.heap.size w' (T f (fr s a)) k x v to
def RPartsSaid (f : Nat) : Prop := ∀ (s : ByteArray) (i : Int) (a : Nat) (k0 x0 t0 : Int) (w : World), i = (a : Int) → a ≤ s.size → s.size ≤ 1024 → s.size - a < f →
  Calls Tryz.prog 91 #[.string s, .agg #[.int .i64 k0, .int .i64 x0, .slice none 0 0, .int .i64 t0], .int .i64 i] w fun e w' => ∃ k x v to, e = .returned (.agg #[.int .i64 k, .int .i64 x, v, .int .i64 to]) ∧
    Below w.heap.size w w' ∧ (∃ g n c, v = .slice g n c) ∧ GotRP s a w.heap.size w' (Tp (T f) 3 (fr s a)) k0 x0 k x v to

theorem fr_run (s : ByteArray) (a : Nat) : numPart (fr s a) = run s a := rfl
theorem tag_of {x : Nat} (h : x ≤ 99) : tagB (x : Int) = true := by unfold tagB; simp only [Bool.and_eq_true, decide_eq_true_eq]; omega
theorem tag_not {v : Int} (h : v < 0 ∨ 99 < v) : tagB v = false := by unfold tagB; simp only [Bool.and_eq_false_iff, decide_eq_false_iff_not]; omega
theorem may_range {v : Int} (h : mayB v = true) : -32768 ≤ v ∧ v ≤ 32767 := by unfold mayB at h; simpa using h
theorem may_out {v : Int} (h : mayB v = false) : v < -32768 ∨ 32767 < v := by unfold mayB at h; simp only [Bool.and_eq_false_iff, decide_eq_false_iff_not] at h; omega
theorem may_not {v : Int} (h : v < -32768 ∨ 32767 < v) : mayB v = false := by unfold mayB; simp only [Bool.and_eq_false_iff, decide_eq_false_iff_not]; omega

theorem r_con_bad {f : Nat} {s : ByteArray} {a x k : Nat} (h : DigQ (fr s (a + 1)) x k) (hb : k = 0 ∨ 99 < x) : conT (T f) (fr s (a + 1)) = none := by
  refine con_eq_none f s a (fun v hv => ?_)
  rw [← fr_run] at hv
  by_cases hk : k = 0
  · subst hk; exact tag_not (Or.inl (dig_none h v hv))
  · have := dig_least h hk v hv
    exact tag_not (Or.inr (by omega))
theorem r_con_ok {f : Nat} {s : ByteArray} {a x k : Nat} (h : DigQ (fr s (a + 1)) x k) (hk : k ≠ 0) (hx : x ≤ 99) :
    ((run s (a + 1)).length = k ∧ canon (run s (a + 1)) = some (x : Int)) ∨ (conT (T f) (fr s (a + 1)) = none ∧ NcAt s (a + 1 + k)) := by
  rcases dig_small h hk (by omega) with ⟨h1, h2⟩ | ⟨h1, c, h2, h3⟩
  · exact Or.inl ⟨h1, h2⟩
  · refine Or.inr ⟨con_eq_none f s a (fun v hv => ?_), c, by rw [← fr_at]; exact h2, h3⟩
    rw [← fr_run, h1] at hv; cases hv

theorem num_none_of {s : ByteArray} {a : Nat} (h : ∀ v, canon (run s a) = some v → mayB v = false) : numT (fr s a) = none := num_is_none s a h

theorem fr_minus {s : ByteArray} {a : Nat} (h : s.data.toList[a]? = some 45) : fr s a = 45 :: fr s (a + 1) := by
  unfold fr
  have hlt := lt_of_at h
  rw [List.drop_eq_getElem_cons hlt]
  congr 1
  rw [List.getElem?_eq_getElem hlt] at h
  exact Option.some.inj h

theorem r_minus_bad {s : ByteArray} {a x k : Nat} (h0 : s.data.toList[a]? = some 45) (h : DigQ (fr s (a + 1)) x k) (hb : k = 0 ∨ x = 0 ∨ mayB (-(x : Int)) = false) : numT (fr s a) = none := by
  refine num_none_of (fun v hv => ?_)
  rw [← fr_run, fr_minus h0] at hv
  by_cases hk : k = 0
  · subst hk; rw [minus_none h] at hv; cases hv
  · obtain ⟨m1, m2⟩ := minus_some h hk
    by_cases hx : x = 0
    · rw [m1 hx] at hv; cases hv
    · rcases hb with e | e | e
      · exact absurd e hk
      · exact absurd e hx
      · rw [m2 hx] at hv
        cases hc : canon (numPart (fr s (a + 1))) with
        | none => rw [hc] at hv; cases hv
        | some u =>
          rw [hc] at hv
          have e2 : -u = v := Option.some.inj hv
          have := dig_least h hk u hc
          have := may_out e
          exact may_not (by omega)
theorem r_minus_ok {s : ByteArray} {a x k : Nat} (h0 : s.data.toList[a]? = some 45) (h : DigQ (fr s (a + 1)) x k) (hk : k ≠ 0) (hx : x ≠ 0) (hm : mayB (-(x : Int)) = true) :
    numT (fr s a) = some (1, -(x : Int), [], 1 + k) ∨ (numT (fr s a) = none ∧ NcAt s (a + 1 + k)) := by
  have hr := may_range hm
  have hcs := (minus_some h hk).2 hx
  rcases dig_small h hk (by omega) with ⟨h1, h2⟩ | ⟨h1, c, h2, h3⟩
  · left
    rw [h2] at hcs
    unfold numT
    rw [fr_minus h0, hcs]
    simp only [Option.map_some]
    rw [if_pos hm, minus_part, List.length_cons, h1, Nat.add_comm]
  · right
    rw [h1] at hcs
    refine ⟨?_, c, by rw [← fr_at]; exact h2, h3⟩
    unfold numT; rw [fr_minus h0, hcs]; rfl

theorem r_num_bad {s : ByteArray} {a x k : Nat} (h0 : s.data.toList[a]? ≠ some 45) (h : DigQ (fr s a) x k) (hb : k = 0 ∨ mayB (x : Int) = false) : numT (fr s a) = none := by
  refine num_none_of (fun v hv => ?_)
  rw [← fr_run] at hv
  by_cases hk : k = 0
  · subst hk
    have hneg := dig_none h v hv
    exfalso
    cases hl : fr s a with
    | nil => rw [hl] at hv; cases hv
    | cons c l' =>
      have hc : c ≠ 45 := by
        intro e
        refine h0 ?_
        rw [← fr_zero, hl, e]; rfl
      rw [hl] at hv
      by_cases hn : isNC c = true
      · have hdg : isDg c = true := by
          unfold isNC at hn; unfold isDg
          simp only [Bool.or_eq_true, beq_iff_eq] at hn
          rcases hn with e | e
          · exact absurd e hc
          · exact e
        unfold numPart at hv
        rw [List.takeWhile_cons, if_pos hn] at hv
        obtain ⟨m, rfl, _⟩ := canon_dg hdg hv
        omega
      · unfold numPart at hv
        rw [List.takeWhile_cons, if_neg hn] at hv; cases hv
  · rcases hb with e | e
    · exact absurd e hk
    · have := dig_least h hk v hv
      have := may_out e
      exact may_not (by omega)
theorem r_num_ok {s : ByteArray} {a x k : Nat} (h : DigQ (fr s a) x k) (hk : k ≠ 0) (hm : mayB (x : Int) = true) :
    numT (fr s a) = some (1, (x : Int), [], k) ∨ (numT (fr s a) = none ∧ NcAt s (a + k)) := by
  have hr := may_range hm
  rcases dig_small h hk (by omega) with ⟨h1, h2⟩ | ⟨h1, c, h2, h3⟩
  · left
    unfold numT; rw [h2]; simp only; rw [if_pos hm, h1]
  · right
    refine ⟨?_, c, by rw [← fr_at]; exact h2, h3⟩
    unfold numT; rw [h1]

/-- From a least to a most? -/
def uptoB (x l m : Int) : Bool := decide (l ≤ x) && decide (x ≤ m)
set_option maxHeartbeats 400000 in
theorem upto_any (x l m : Int) (w : World) :
    Calls Tryz.prog 32 #[.int .i64 x, .int .i64 l, .int .i64 m] w fun e w' => e = .returned (.bool (uptoB x l m)) ∧ w = w' := by
  by_cases h1 : l ≤ x
  · have e : uptoB x l m = decide (x ≤ m) := by unfold uptoB; simp [h1]
    rw [e]; clear e
    go_enter Tryz.func32, Tryz.ntmps32
    go_wp2
    go_ret
    exact ⟨rfl, rfl⟩
  · have e : uptoB x l m = false := by unfold uptoB; simp [h1]
    rw [e]; clear e
    go_enter Tryz.func32, Tryz.ntmps32
    go_wp2
    go_ret
    exact ⟨rfl, rfl⟩
theorem upto_may (x : Int) : uptoB x (-32768) 32767 = mayB x := rfl
set_option maxHeartbeats 400000 in
theorem nummay_any (x : Int) (w : World) :
    Calls Tryz.prog 74 #[.int .i64 x] w fun e w' => e = .returned (.bool (mayB x)) ∧ w = w' := by
  rw [← upto_may x]
  go_enter Tryz.func74, Tryz.ntmps74
  go_wp2_with (go_at_call 32; refine (upto_any _ _ _ _).mono ?_; rintro e w' ⟨rfl, rfl⟩)
  go_ret
  exact ⟨rfl, rfl⟩
set_option maxHeartbeats 400000 in
theorem bad_any (w : World) :
    Calls Tryz.prog 90 #[] w fun e w' => e = .returned (.agg #[.int .i64 0, .int .i64 0, .slice none 0 0, .int .i64 (-1)]) ∧ Below w.heap.size w w' := by
  go_enter Tryz.func90, Tryz.ntmps90
  go_wp2_with fail
  exact bodyPost_ret (v := .agg #[.int .i64 0, .int .i64 0, .slice none 0 0, .int .i64 (-1)]) (by simp [results, Tryz.results90, go_sem]) rfl ⟨rfl, (Below.refl _ _).alloc (Nat.le_refl _) _⟩
theorem digits_at (s : ByteArray) (a : Nat) (w : World) (hs : s.size ≤ 1024) :
    Calls Tryz.prog 44 #[.string (s.extract a s.size)] w fun e w' => ∃ x k : Nat, e = .returned (.tuple #[.int .i64 (x : Int), .int .i64 (k : Int)]) ∧ w = w' ∧ DigQ (fr s a) x k := by
  refine (digits_any (s.extract a s.size) w ?_).mono ?_
  · rw [ByteArray.size_extract]; omega
  rintro e w' ⟨x, k, rfl, hw, hq⟩
  refine ⟨x, k, rfl, hw, ?_⟩
  rw [Lib.extract_data, List.take_of_length_le (by rw [List.length_drop]; simp)] at hq
  exact hq
end Go.Proofs.YtighcikiaddfcaaGreatDoor.Tm

namespace Go.Proofs.YtighcikiaddfcaaGreatDoor.Tm
open Go.RowKit
set_option linter.unusedVariables false

theorem at_lt {s : ByteArray} {a : Nat} (h : a < s.size) : s.data.toList[a]? = some s[a] := by
  rw [List.getElem?_eq_getElem (by simpa using h)]; rfl
theorem byte_is {c : UInt8} {n : Nat} (hn : n < 256) (h : (c.toNat : Int) = (n : Int)) : c = UInt8.ofNat n := by
  apply UInt8.toNat_inj.1
  simp; omega
theorem byte_no {s : ByteArray} {a : Nat} (h : a < s.size) (c : UInt8) (hc : ((s[a].toNat : Int) == (c.toNat : Int)) = false) : s.data.toList[a]? ≠ some c := by
  rw [at_lt h]
  intro e
  have e := Option.some.inj e
  rw [e] at hc; simp at hc
theorem byte_yes {s : ByteArray} {a : Nat} (h : a < s.size) (c : UInt8) (hc : ((s[a].toNat : Int) == (c.toNat : Int)) = true) : s.data.toList[a]? = some c := by
  rw [at_lt h]
  congr 1
  apply UInt8.toNat_inj.1
  have := beq_iff_eq.1 hc
  omega

/-- Nothing is read: the answer is -1. -/
theorem gotr_bad {s : ByteArray} {a B : Nat} {w : World} {o : Option Rd} {k x : Int} {v : Value} (h : o = none) : GotR s a B w o k x v (-1) := by subst h; exact Or.inl rfl

theorem nc_byte {s : ByteArray} {n : Nat} (h : NcAt s n) : ∃ hlt : n < s.size, isNC s[n] = true := by
  obtain ⟨c, hc, hn⟩ := h
  have hlt : n < s.size := by have := lt_of_at hc; simpa using this
  refine ⟨hlt, ?_⟩
  rw [at_lt hlt] at hc
  rw [Option.some.inj hc]; exact hn

set_option maxHeartbeats 1600000 in
set_option maxRecDepth 100000 in
theorem rterm_end (f : Nat) (s : ByteArray) (a : Nat) (w : World) (ha : a ≤ s.size) (hge : s.size ≤ a) (hs : s.size ≤ 1024) :
    Calls Tryz.prog 72 #[.string s, .int .i64 (a : Int)] w fun e w' => ∃ k x v to, e = .returned (.agg #[.int .i64 k, .int .i64 x, v, .int .i64 to]) ∧
      Below w.heap.size w w' ∧ (∃ g n c, v = .slice g n c) ∧ GotR s a w.heap.size w' (T (f + 1) (fr s a)) k x v to := by
  have hge' : (s.size : Int) ≤ (a : Int) := by omega
  have HN : Hid (T (f + 1) (fr s a) = none) := by
    show T (f + 1) (fr s a) = none
    have e : s.data.toList[a]? = none := List.getElem?_eq_none (by simpa using hge)
    rw [T_is_num f s a (by rw [e]; simp) (by rw [e]; simp) (by rw [e]; simp)]
    have e2 : fr s a = [] := by unfold fr; exact List.drop_of_length_le (by simpa using hge)
    rw [e2]; rfl
  go_enter Tryz.func72, Tryz.ntmps72
  go_wp2_with fail
  refine (bad_any _).mono ?_
  rintro e w2 ⟨rfl, hb2⟩
  obtain ⟨hc, hfz⟩ := bcell hb2
  have hz : w.heap.size < w2.heap.size := by have := hb2.size; simp at this; omega
  have h02 : Below w.heap.size w w2 := ((Below.refl _ _).alloc (Nat.le_refl _) _).trans (hb2.mono (by simp))
  go_wp2_with fail
  refine bodyPost_ret (v := .agg #[.int .i64 0, .int .i64 0, .slice none 0 0, .int .i64 (-1)]) (by simp [results, Tryz.results72, go_sem, hc]) rfl ⟨0, 0, _, _, rfl, ?_, ⟨_, _, _, rfl⟩, ?_⟩
  · exact (((h02.setCell (Nat.le_refl _) _).setCell (Nat.le_refl _) _).setCell (Nat.le_refl _) _).setCell (Nat.le_refl _) _
  · exact gotr_bad HN.out

set_option maxHeartbeats 1600000 in
set_option maxRecDepth 100000 in
theorem rterm_num (f : Nat) (s : ByteArray) (a : Nat) (w : World) (hlt : a < s.size) (hs : s.size ≤ 1024) (h95 : ((s[a].toNat : Int) == 95) = false) (h33 : ((s[a].toNat : Int) == 33) = false) (h64 : ((s[a].toNat : Int) == 64) = false) (h45 : ((s[a].toNat : Int) == 45) = false) :
    Calls Tryz.prog 72 #[.string s, .int .i64 (a : Int)] w fun e w' => ∃ k x v to, e = .returned (.agg #[.int .i64 k, .int .i64 x, v, .int .i64 to]) ∧
      Below w.heap.size w w' ∧ (∃ g n c, v = .slice g n c) ∧ GotR s a w.heap.size w' (T (f + 1) (fr s a)) k x v to := by
  have HT : Hid (T (f + 1) (fr s a) = numT (fr s a)) := T_is_num f s a (byte_no hlt 95 h95) (byte_no hlt 33 h33) (byte_no hlt 64 h64)
  have c45 : Hid (s.data.toList[a]? ≠ some 45) := byte_no hlt 45 h45
  have hlt' : (a : Int) < (s.size : Int) := by omega
  go_enter Tryz.func72, Tryz.ntmps72
  go_wp2_with fail
  refine (digits_at s a _ hs).mono ?_
  rintro e w' ⟨x, k, rfl, rfl, hq⟩
  have HQ : Hid (DigQ (fr s a) x k) := hq
  have hk1 := hq.1
  rw [fr_len] at hk1
  have hk6 := hq.2.1
  have hxb : x < 1000000 := by
    have h1 := Lib.decFrom_lt _ 0 x hq.2.2.1
    have h2 : ((fr s a).take k).length ≤ 6 := by rw [List.length_take]; omega
    have h3 := Nat.pow_le_pow_right (n := 10) (by decide) h2
    have e : (10 : Nat) ^ 6 = 1000000 := by decide
    omega
  clear hq
  by_cases hk : k = 0
  · have hkb : ((k : Int) == 0) = true := by simp [hk]
    have HN : Hid (T (f + 1) (fr s a) = none) := HT.out.trans (r_num_bad c45.out HQ.out (Or.inl hk))
    clear hk
    go_wp2_with fail
    refine (bad_any _).mono ?_
    rintro e w2 ⟨rfl, hb2⟩
    obtain ⟨hc, hfz⟩ := bcell hb2
    have hz : w.heap.size < w2.heap.size := by have := hb2.size; simp at this; omega
    have h02 : Below w.heap.size w w2 := ((Below.refl _ _).alloc (Nat.le_refl _) _).trans (hb2.mono (by simp))
    go_wp2_with fail
    refine bodyPost_ret (v := .agg #[.int .i64 0, .int .i64 0, .slice none 0 0, .int .i64 (-1)]) (by simp [results, Tryz.results72, go_sem, hc]) rfl ⟨0, 0, _, _, rfl, ?_, ⟨_, _, _, rfl⟩, ?_⟩
    · exact (((h02.setCell (Nat.le_refl _) _).setCell (Nat.le_refl _) _).setCell (Nat.le_refl _) _).setCell (Nat.le_refl _) _
    · exact gotr_bad HN.out
  · have hkb : ((k : Int) == 0) = false := by simp; exact hk
    cases hm : mayB (x : Int) with
    | false =>
      have HN : Hid (T (f + 1) (fr s a) = none) := HT.out.trans (r_num_bad c45.out HQ.out (Or.inr hm))
      clear hk
      go_wp2_with (go_at_call 74; refine (nummay_any _ _).mono ?_; rintro e w' ⟨rfl, rfl⟩)
      refine (bad_any _).mono ?_
      rintro e w2 ⟨rfl, hb2⟩
      obtain ⟨hc, hfz⟩ := bcell hb2
      have hz : w.heap.size < w2.heap.size := by have := hb2.size; simp at this; omega
      have h02 : Below w.heap.size w w2 := ((Below.refl _ _).alloc (Nat.le_refl _) _).trans (hb2.mono (by simp))
      go_wp2_with fail
      refine bodyPost_ret (v := .agg #[.int .i64 0, .int .i64 0, .slice none 0 0, .int .i64 (-1)]) (by simp [results, Tryz.results72, go_sem, hc]) rfl ⟨0, 0, _, _, rfl, ?_, ⟨_, _, _, rfl⟩, ?_⟩
      · exact (((h02.setCell (Nat.le_refl _) _).setCell (Nat.le_refl _) _).setCell (Nat.le_refl _) _).setCell (Nat.le_refl _) _
      · exact gotr_bad HN.out
    | true =>
      have HK : Hid _ := r_num_ok HQ.out hk hm
      clear hk
      go_wp2_with (go_at_call 74; refine (nummay_any _ _).mono ?_; rintro e w' ⟨rfl, rfl⟩)
      refine bodyPost_ret (v := .agg #[.int .i64 1, .int .i64 (x : Int), .slice none 0 0, .int .i64 ((a : Int) + (k : Int))]) (by simp [results, Tryz.results72, go_sem]) rfl ⟨1, (x : Int), _, _, rfl, ?_, ⟨_, _, _, rfl⟩, ?_⟩
      · exact (Below.refl _ _).alloc (Nat.le_refl _) _
      · rw [HT.out]
        rcases HK.out with e | ⟨e, hn⟩
        · rw [e]; exact ⟨rfl, rfl, rfl, World.ownsRow_nil _ _ _ _⟩
        · rw [e]; exact Or.inr ⟨a + k, by omega, by omega, hn⟩

set_option maxHeartbeats 1600000 in
set_option maxRecDepth 100000 in
theorem rterm_minus (f : Nat) (s : ByteArray) (a : Nat) (w : World) (hlt : a < s.size) (hs : s.size ≤ 1024) (h95 : ((s[a].toNat : Int) == 95) = false) (h33 : ((s[a].toNat : Int) == 33) = false) (h64 : ((s[a].toNat : Int) == 64) = false) (h45 : ((s[a].toNat : Int) == 45) = true) :
    Calls Tryz.prog 72 #[.string s, .int .i64 (a : Int)] w fun e w' => ∃ k x v to, e = .returned (.agg #[.int .i64 k, .int .i64 x, v, .int .i64 to]) ∧
      Below w.heap.size w w' ∧ (∃ g n c, v = .slice g n c) ∧ GotR s a w.heap.size w' (T (f + 1) (fr s a)) k x v to := by
  have HT : Hid (T (f + 1) (fr s a) = numT (fr s a)) := T_is_num f s a (byte_no hlt 95 h95) (byte_no hlt 33 h33) (byte_no hlt 64 h64)
  have c45 : Hid (s.data.toList[a]? = some 45) := byte_yes hlt 45 h45
  have hlt' : (a : Int) + 1 ≤ (s.size : Int) := by omega
  go_enter Tryz.func72, Tryz.ntmps72
  go_wp2_with fail
  refine (digits_at s (a + 1) _ hs).mono ?_
  rintro e w' ⟨x, k, rfl, rfl, hq⟩
  have HQ : Hid (DigQ (fr s (a + 1)) x k) := hq
  have hk1 := hq.1
  rw [fr_len] at hk1
  have hk6 := hq.2.1
  have hxb : x < 1000000 := by
    have h1 := Lib.decFrom_lt _ 0 x hq.2.2.1
    have h2 : ((fr s (a + 1)).take k).length ≤ 6 := by rw [List.length_take]; omega
    have h3 := Nat.pow_le_pow_right (n := 10) (by decide) h2
    have e : (10 : Nat) ^ 6 = 1000000 := by decide
    omega
  clear hq
  by_cases hk : k = 0
  · have hkb : ((k : Int) == 0) = true := by simp [hk]
    have HN : Hid (T (f + 1) (fr s a) = none) := HT.out.trans (r_minus_bad c45.out HQ.out (Or.inl hk))
    clear hk
    go_wp2_with fail
    refine (bad_any _).mono ?_
    rintro e w2 ⟨rfl, hb2⟩
    obtain ⟨hc, hfz⟩ := bcell hb2
    have hz : w.heap.size < w2.heap.size := by have := hb2.size; simp at this; omega
    have h02 : Below w.heap.size w w2 := ((Below.refl _ _).alloc (Nat.le_refl _) _).trans (hb2.mono (by simp))
    go_wp2_with fail
    refine bodyPost_ret (v := .agg #[.int .i64 0, .int .i64 0, .slice none 0 0, .int .i64 (-1)]) (by simp [results, Tryz.results72, go_sem, hc]) rfl ⟨0, 0, _, _, rfl, ?_, ⟨_, _, _, rfl⟩, ?_⟩
    · exact (((h02.setCell (Nat.le_refl _) _).setCell (Nat.le_refl _) _).setCell (Nat.le_refl _) _).setCell (Nat.le_refl _) _
    · exact gotr_bad HN.out
  · have hkb : ((k : Int) == 0) = false := by simp; exact hk
    by_cases hx : x = 0
    · have hxb0 : ((x : Int) == 0) = true := by simp [hx]
      have HN : Hid (T (f + 1) (fr s a) = none) := HT.out.trans (r_minus_bad c45.out HQ.out (Or.inr (Or.inl hx)))
      clear hk hx
      go_wp2_with fail
      refine (bad_any _).mono ?_
      rintro e w2 ⟨rfl, hb2⟩
      obtain ⟨hc, hfz⟩ := bcell hb2
      have hz : w.heap.size < w2.heap.size := by have := hb2.size; simp at this; omega
      have h02 : Below w.heap.size w w2 := ((Below.refl _ _).alloc (Nat.le_refl _) _).trans (hb2.mono (by simp))
      go_wp2_with fail
      refine bodyPost_ret (v := .agg #[.int .i64 0, .int .i64 0, .slice none 0 0, .int .i64 (-1)]) (by simp [results, Tryz.results72, go_sem, hc]) rfl ⟨0, 0, _, _, rfl, ?_, ⟨_, _, _, rfl⟩, ?_⟩
      · exact (((h02.setCell (Nat.le_refl _) _).setCell (Nat.le_refl _) _).setCell (Nat.le_refl _) _).setCell (Nat.le_refl _) _
      · exact gotr_bad HN.out
    · have hxb0 : ((x : Int) == 0) = false := by simp; exact hx
      cases hm : mayB (-(x : Int)) with
      | false =>
        have HN : Hid (T (f + 1) (fr s a) = none) := HT.out.trans (r_minus_bad c45.out HQ.out (Or.inr (Or.inr hm)))
        clear hk hx
        go_wp2_with (go_at_call 74; refine (nummay_any _ _).mono ?_; rintro e w' ⟨rfl, rfl⟩)
        refine (bad_any _).mono ?_
        rintro e w2 ⟨rfl, hb2⟩
        obtain ⟨hc, hfz⟩ := bcell hb2
        have hz : w.heap.size < w2.heap.size := by have := hb2.size; simp at this; omega
        have h02 : Below w.heap.size w w2 := ((Below.refl _ _).alloc (Nat.le_refl _) _).trans (hb2.mono (by simp))
        go_wp2_with fail
        refine bodyPost_ret (v := .agg #[.int .i64 0, .int .i64 0, .slice none 0 0, .int .i64 (-1)]) (by simp [results, Tryz.results72, go_sem, hc]) rfl ⟨0, 0, _, _, rfl, ?_, ⟨_, _, _, rfl⟩, ?_⟩
        · exact (((h02.setCell (Nat.le_refl _) _).setCell (Nat.le_refl _) _).setCell (Nat.le_refl _) _).setCell (Nat.le_refl _) _
        · exact gotr_bad HN.out
      | true =>
        have HK : Hid _ := r_minus_ok c45.out HQ.out hk hx hm
        clear hk hx
        go_wp2_with (go_at_call 74; refine (nummay_any _ _).mono ?_; rintro e w' ⟨rfl, rfl⟩)
        refine bodyPost_ret (v := .agg #[.int .i64 1, .int .i64 (-(x : Int)), .slice none 0 0, .int .i64 ((a : Int) + 1 + (k : Int))]) (by simp [results, Tryz.results72, go_sem]) rfl ⟨1, -(x : Int), _, _, rfl, ?_, ⟨_, _, _, rfl⟩, ?_⟩
        · exact (Below.refl _ _).alloc (Nat.le_refl _) _
        · rw [HT.out]
          rcases HK.out with e | ⟨e, hn⟩
          · rw [e]; exact ⟨rfl, rfl, by omega, World.ownsRow_nil _ _ _ _⟩
          · rw [e]; exact Or.inr ⟨a + 1 + k, by omega, by omega, hn⟩
end Go.Proofs.YtighcikiaddfcaaGreatDoor.Tm

namespace Go.Proofs.YtighcikiaddfcaaGreatDoor.Tm
open Go.RowKit
set_option linter.unusedVariables false

theorem gotr_parts {f : Nat} {s : ByteArray} {a x k : Nat} {B B' : Nat} {w : World} {k0 x0 : Int} {v : Value} {to : Int} (hl : (run s (a + 1)).length = k) (h1 : canon (run s (a + 1)) = some (x : Int)) (ht : tagB (x : Int) = true) (h40 : s.data.toList[a + 1 + k]? = some 40)
    (hB : B' ≤ B) (h : GotRP s (a + 1 + k + 1) B w (Tp (T f) 3 (fr s (a + 1 + k + 1))) 2 (x : Int) k0 x0 v to) : GotR s a B' w (conT (T f) (fr s (a + 1))) k0 x0 v to := by
  subst hl
  rw [con_eq_parts f s a h1 ht h40]
  unfold GotRP at h
  cases hp : Tp (T f) 3 (fr s (a + 1 + (run s (a + 1)).length + 1)) with
  | none => rw [hp] at h; exact Or.inl h
  | some y =>
    obtain ⟨ks, m⟩ := y
    rw [hp] at h
    obtain ⟨e1, e2, e3, e4⟩ := h
    exact ⟨e1, e2, by rw [e3]; omega, own_base e4 hB⟩
theorem GotRP.set {s : ByteArray} {a B : Nat} {w : World} {o : Option (List (List UInt8) × Nat)} {k0 x0 k x : Int} {v : Value} {to : Int} (h : GotRP s a B w o k0 x0 k x v to) {p : Addr} (hp : p.block < B) (u : Value) : GotRP s a B (w.setCell p u) o k0 x0 k x v to := by
  unfold GotRP at *
  cases o with
  | none => exact h
  | some y =>
    obtain ⟨h1, h2, h3, h4⟩ := h
    exact ⟨h1, h2, h3, ownsRow_setCell_below h4 hp u⟩

set_option maxHeartbeats 3200000 in
set_option maxRecDepth 100000 in
theorem rterm_con (f : Nat) (hP : RPartsSaid f) (s : ByteArray) (a : Nat) (w : World) (hlt : a < s.size) (hs : s.size ≤ 1024) (hf : s.size - a < f + 1) (h95 : ((s[a].toNat : Int) == 95) = false) (h33 : ((s[a].toNat : Int) == 33) = false) (h64 : ((s[a].toNat : Int) == 64) = true) :
    Calls Tryz.prog 72 #[.string s, .int .i64 (a : Int)] w fun e w' => ∃ k x v to, e = .returned (.agg #[.int .i64 k, .int .i64 x, v, .int .i64 to]) ∧
      Below w.heap.size w w' ∧ (∃ g n c, v = .slice g n c) ∧ GotR s a w.heap.size w' (T (f + 1) (fr s a)) k x v to := by
  have HT : Hid (T (f + 1) (fr s a) = conT (T f) (fr s (a + 1))) := T_is_con f s a (byte_yes hlt 64 h64)
  have hlt' : (a : Int) + 1 ≤ (s.size : Int) := by omega
  go_enter Tryz.func72, Tryz.ntmps72
  go_wp2_with fail
  refine (digits_at s (a + 1) _ hs).mono ?_
  rintro e w' ⟨x, k, rfl, rfl, hq⟩
  have HQ : Hid (DigQ (fr s (a + 1)) x k) := hq
  have hk1 := hq.1
  rw [fr_len] at hk1
  have hk6 := hq.2.1
  clear hq
  by_cases hk : k = 0
  · have hkb : ((k : Int) == 0) = true := by simp [hk]
    have HN : Hid (T (f + 1) (fr s a) = none) := HT.out.trans (r_con_bad HQ.out (Or.inl hk))
    clear hk
    go_wp2_with fail
    refine (bad_any _).mono ?_
    rintro e w2 ⟨rfl, hb2⟩
    obtain ⟨hc, hfz⟩ := bcell hb2
    have hz : w.heap.size < w2.heap.size := by have := hb2.size; simp at this; omega
    have h02 : Below w.heap.size w w2 := ((Below.refl _ _).alloc (Nat.le_refl _) _).trans (hb2.mono (by simp))
    go_wp2_with fail
    refine bodyPost_ret (v := .agg #[.int .i64 0, .int .i64 0, .slice none 0 0, .int .i64 (-1)]) (by simp [results, Tryz.results72, go_sem, hc]) rfl ⟨0, 0, _, _, rfl, ?_, ⟨_, _, _, rfl⟩, ?_⟩
    · exact (((h02.setCell (Nat.le_refl _) _).setCell (Nat.le_refl _) _).setCell (Nat.le_refl _) _).setCell (Nat.le_refl _) _
    · exact gotr_bad HN.out
  · have hkb : ((k : Int) == 0) = false := by simp; exact hk
    by_cases hx : 99 < x
    · have hx' : (99 : Int) < (x : Int) := by omega
      have HN : Hid (T (f + 1) (fr s a) = none) := HT.out.trans (r_con_bad HQ.out (Or.inr hx))
      clear hk hx
      go_wp2_with fail
      refine (bad_any _).mono ?_
      rintro e w2 ⟨rfl, hb2⟩
      obtain ⟨hc, hfz⟩ := bcell hb2
      have hz : w.heap.size < w2.heap.size := by have := hb2.size; simp at this; omega
      have h02 : Below w.heap.size w w2 := ((Below.refl _ _).alloc (Nat.le_refl _) _).trans (hb2.mono (by simp))
      go_wp2_with fail
      refine bodyPost_ret (v := .agg #[.int .i64 0, .int .i64 0, .slice none 0 0, .int .i64 (-1)]) (by simp [results, Tryz.results72, go_sem, hc]) rfl ⟨0, 0, _, _, rfl, ?_, ⟨_, _, _, rfl⟩, ?_⟩
      · exact (((h02.setCell (Nat.le_refl _) _).setCell (Nat.le_refl _) _).setCell (Nat.le_refl _) _).setCell (Nat.le_refl _) _
      · exact gotr_bad HN.out
    · have hx' : (x : Int) ≤ 99 := by omega
      have htag := tag_of (x := x) (by omega)
      rcases r_con_ok (f := f) HQ.out hk (by omega) with ⟨hl, hcn⟩ | ⟨hcn, hnc⟩
      · have HL : Hid ((run s (a + 1)).length = k) := hl
        have HC : Hid (canon (run s (a + 1)) = some (x : Int)) := hcn
        clear hk hx hl hcn
        by_cases hto : a + 1 + k < s.size
        · have hto' : (a : Int) + 1 + (k : Int) < (s.size : Int) := by omega
          cases h40 : ((s[a + 1 + k].toNat : Int) == 40) with
          | true =>
            have c40 : Hid (s.data.toList[a + 1 + k]? = some 40) := byte_yes hto 40 h40
            go_wp2_with fail
            refine (hP s _ (a + 1 + k + 1) 2 (x : Int) _ _ (by omega) hto hs (by omega)).mono ?_
            rintro e w2 ⟨kk, xx, v, to, rfl, hb2, ⟨g, n', c, rfl⟩, hgot⟩
            have HG : Hid (GotRP s (a + 1 + k + 1) (w.heap.size + 2) w2 (Tp (T f) 3 (fr s (a + 1 + k + 1))) 2 (x : Int) kk xx (.slice g n' c) to) := by
              simp only [World.size_alloc] at hgot; exact hgot
            clear hgot
            obtain ⟨hc, hfz⟩ := bcell hb2
            have hz : w.heap.size + 1 < w2.heap.size := by have := hb2.size; simp at this; omega
            have hz2 : w.heap.size < w2.heap.size := by omega
            have h02 : Below w.heap.size w w2 := (((Below.refl _ _).alloc (Nat.le_refl _) _).alloc (by simp) _).trans (hb2.mono (by simp; omega))
            have q0 : w2.cell? ⟨w.heap.size, 0, none⟩ = some (.int .i64 0) := by rw [hc _ _ (by simp; omega)]; simp [go_sem]
            have q1 : w2.cell? ⟨w.heap.size, 1, none⟩ = some (.int .i64 0) := by rw [hc _ _ (by simp; omega)]; simp [go_sem]
            have q2 : w2.cell? ⟨w.heap.size, 2, none⟩ = some (.slice none 0 0) := by rw [hc _ _ (by simp; omega)]; simp [go_sem]
            have q3 : w2.cell? ⟨w.heap.size, 3, none⟩ = some (.int .i64 0) := by rw [hc _ _ (by simp; omega)]; simp [go_sem]
            go_wp2_with fail
            refine bodyPost_ret (v := .agg #[.int .i64 kk, .int .i64 xx, .slice g n' c, .int .i64 to]) (by simp [results, Tryz.results72, go_sem, q0, q1, q2, q3]) rfl ⟨kk, xx, _, to, rfl, ?_, ⟨_, _, _, rfl⟩, ?_⟩
            · exact (((h02.setCell (Nat.le_refl _) _).setCell (Nat.le_refl _) _).setCell (Nat.le_refl _) _).setCell (Nat.le_refl _) _
            · rw [HT.out]
              refine gotr_parts HL.out HC.out htag c40.out (B := w.heap.size + 2) (by omega) ?_
              have hg : GotRP s (a + 1 + k + 1) (w.heap.size + 2) w2 (Tp (T f) 3 (fr s (a + 1 + k + 1))) 2 (x : Int) kk xx (.slice g n' c) to := HG.out
              exact (((hg.set (by simp) _).set (by simp) _).set (by simp) _).set (by simp) _
          | false =>
            have c40 : Hid (s.data.toList[a + 1 + k]? ≠ some 40) := byte_no hto 40 h40
            go_wp2_with fail
            refine bodyPost_ret (v := .agg #[.int .i64 2, .int .i64 (x : Int), .slice none 0 0, .int .i64 ((a : Int) + 1 + (k : Int))]) (by simp [results, Tryz.results72, go_sem]) rfl ⟨2, (x : Int), _, _, rfl, ?_, ⟨_, _, _, rfl⟩, ?_⟩
            · exact ((Below.refl _ _).alloc (Nat.le_refl _) _).alloc (by simp) _
            · rw [HT.out, con_eq_bare f s a HC.out htag (by rw [HL.out]; exact c40.out)]
              exact ⟨rfl, rfl, by rw [HL.out]; omega, World.ownsRow_nil _ _ _ _⟩
        · have hto' : (s.size : Int) ≤ (a : Int) + 1 + (k : Int) := by omega
          have c40 : Hid (s.data.toList[a + 1 + k]? ≠ some 40) := by
            show s.data.toList[a + 1 + k]? ≠ some 40
            rw [List.getElem?_eq_none (by simpa using hto)]; simp
          go_wp2_with fail
          refine bodyPost_ret (v := .agg #[.int .i64 2, .int .i64 (x : Int), .slice none 0 0, .int .i64 ((a : Int) + 1 + (k : Int))]) (by simp [results, Tryz.results72, go_sem]) rfl ⟨2, (x : Int), _, _, rfl, ?_, ⟨_, _, _, rfl⟩, ?_⟩
          · exact ((Below.refl _ _).alloc (Nat.le_refl _) _).alloc (by simp) _
          · rw [HT.out, con_eq_bare f s a HC.out htag (by rw [HL.out]; exact c40.out)]
            exact ⟨rfl, rfl, by rw [HL.out]; omega, World.ownsRow_nil _ _ _ _⟩
      · have HC : Hid (conT (T f) (fr s (a + 1)) = none) := hcn
        have HNC : Hid (NcAt s (a + 1 + k)) := hnc
        obtain ⟨hto, hncb⟩ := nc_byte hnc
        have hto' : (a : Int) + 1 + (k : Int) < (s.size : Int) := by omega
        have h40 : ((s[a + 1 + k].toNat : Int) == 40) = false := by
          rcases nc_yes hncb with e | ⟨_, e, _⟩
          · rw [beq_eq_false_iff_ne]; omega
          · rw [beq_eq_false_iff_ne]; omega
        clear hk hx hcn hnc hncb
        go_wp2_with fail
        refine bodyPost_ret (v := .agg #[.int .i64 2, .int .i64 (x : Int), .slice none 0 0, .int .i64 ((a : Int) + 1 + (k : Int))]) (by simp [results, Tryz.results72, go_sem]) rfl ⟨2, (x : Int), _, _, rfl, ?_, ⟨_, _, _, rfl⟩, ?_⟩
        · exact ((Below.refl _ _).alloc (Nat.le_refl _) _).alloc (by simp) _
        · rw [HT.out, HC.out]
          exact Or.inr ⟨a + 1 + k, by omega, by omega, HNC.out⟩

set_option maxHeartbeats 1600000 in
set_option maxRecDepth 100000 in
theorem rterm_of (f : Nat) (hP : RPartsSaid f) : RTermSaid (f + 1) := by
  intro s i a w hi ha hs hf
  subst hi
  by_cases hlt : a < s.size
  · cases h95 : ((s[a].toNat : Int) == 95) with
    | true =>
      have c95 : Hid _ := byte_yes hlt 95 h95
      go_enter Tryz.func72, Tryz.ntmps72
      go_wp2_with fail
      refine bodyPost_ret (v := .agg #[.int .i64 0, .int .i64 0, .slice none 0 0, .int .i64 ((a : Int) + 1)]) (by simp [results, Tryz.results72, go_sem]) rfl ⟨0, 0, _, _, rfl, ?_, ⟨_, _, _, rfl⟩, ?_⟩
      · exact (Below.refl _ _).alloc (Nat.le_refl _) _
      · rw [T_is_hole f s a c95.out]
        exact ⟨rfl, rfl, rfl, World.ownsRow_nil _ _ _ _⟩
    | false =>
      cases h33 : ((s[a].toNat : Int) == 33) with
      | true =>
        have c33 : Hid _ := byte_yes hlt 33 h33
        go_enter Tryz.func72, Tryz.ntmps72
        go_wp2_with fail
        refine bodyPost_ret (v := .agg #[.int .i64 3, .int .i64 0, .slice none 0 0, .int .i64 ((a : Int) + 1)]) (by simp [results, Tryz.results72, go_sem]) rfl ⟨3, 0, _, _, rfl, ?_, ⟨_, _, _, rfl⟩, ?_⟩
        · exact (Below.refl _ _).alloc (Nat.le_refl _) _
        · rw [T_is_fail f s a c33.out]
          exact ⟨rfl, rfl, rfl, World.ownsRow_nil _ _ _ _⟩
      | false =>
        cases h64 : ((s[a].toNat : Int) == 64) with
        | true => exact rterm_con f hP s a w hlt hs hf h95 h33 h64
        | false =>
          cases h45 : ((s[a].toNat : Int) == 45) with
          | true => exact rterm_minus f s a w hlt hs h95 h33 h64 h45
          | false => exact rterm_num f s a w hlt hs h95 h33 h64 h45
  · exact rterm_end f s a w ha (by omega) hs
end Go.Proofs.YtighcikiaddfcaaGreatDoor.Tm

namespace Go.Proofs.YtighcikiaddfcaaGreatDoor.Tm
open Go.RowKit
set_option linter.unusedVariables false

/-- A block of four cells. -/
def Box (w : World) (b : Nat) (c0 c1 c2 c3 : Value) : Prop := w.heap[b]? = some (.cells #[c0, c1, c2, c3] 114 (0, 0))

theorem Box.lt {w : World} {b : Nat} {c0 c1 c2 c3 : Value} (h : Box w b c0 c1 c2 c3) : b < w.heap.size := by
  unfold Box at h
  rcases Nat.lt_or_ge b w.heap.size with h' | h'
  · exact h'
  · rw [Array.getElem?_eq_none h'] at h; cases h
theorem Box.cell {w : World} {b : Nat} {c0 c1 c2 c3 : Value} (h : Box w b c0 c1 c2 c3) : w.cell? ⟨b, 0, none⟩ = some c0 ∧ w.cell? ⟨b, 1, none⟩ = some c1 ∧ w.cell? ⟨b, 2, none⟩ = some c2 ∧ w.cell? ⟨b, 3, none⟩ = some c3 := by
  unfold Box at h
  unfold World.cell?
  simp [h]
theorem Box.free {w : World} {b : Nat} {c0 c1 c2 c3 : Value} (h : Box w b c0 c1 c2 c3) (o : Nat) : w.frozen? ⟨b, o, none⟩ = false := by
  unfold Box at h
  unfold World.frozen?
  simp [h]
theorem Box.on {w w' : World} {b : Nat} {c0 c1 c2 c3 : Value} (h : Box w b c0 c1 c2 c3) (hb : Below w.heap.size w w') : Box w' b c0 c1 c2 c3 := by
  have := h.lt
  unfold Box at *
  rw [hb.block b this]; exact h
theorem Box.grown {w w' : World} {b : Nat} {c0 c1 c2 c3 : Value} {row : Option Nat} (h : Box w b c0 c1 c2 c3) (hg : w.grownBy w' row) (hne : row ≠ some b) : Box w' b c0 c1 c2 c3 := by
  have := h.lt
  unfold Box at *
  rw [hg.block b this (fun e => hne e.symm)]; exact h
theorem Box.other {w : World} {b : Nat} {c0 c1 c2 c3 : Value} (h : Box w b c0 c1 c2 c3) {p : Addr} (hne : b ≠ p.block) (u : Value) : Box (w.setCell p u) b c0 c1 c2 c3 := by
  unfold Box at *
  rw [Below.heap_setCell _ _ _ _ hne]; exact h
theorem Box.two {w : World} {b : Nat} {c0 c1 c2 c3 : Value} (h : Box w b c0 c1 c2 c3) (u : Value) : Box (w.setCell ⟨b, 2, none⟩ u) b c0 c1 u c3 := by
  unfold Box at *
  simp only [World.setCell, Array.getElem?_modify, if_true, h]
  rfl
theorem Box.new (w : World) (c0 c1 c2 c3 : Value) : Box (w.alloc (.cells #[c0, c1, c2, c3] 114)) w.heap.size c0 c1 c2 c3 := by
  unfold Box
  show (w.heap.push _)[w.heap.size]? = _
  rw [Array.getElem?_push_size]
theorem Box.alloc {w : World} {b : Nat} {c0 c1 c2 c3 : Value} (h : Box w b c0 c1 c2 c3) (o : Obj) : Box (w.alloc o) b c0 c1 c2 c3 :=
  h.on ((Below.refl _ _).alloc (Nat.le_refl _) _)

theorem parts_class {f : Nat} {s : ByteArray} {a : Nat} {ps : List (Nat × Nat)} {c : Nat} (h : Sofar f s a ps c) (hl : ps.length < 3) (hac : a ≤ c) (hcs : c ≤ s.size) {B : Nat} {w : World} {k x : Int} {v : Value} {to : Int}
    (hg : GotR s c B w (T f (fr s c)) k x v to) :
    ((to < 0 ∨ (s.size : Int) ≤ to) ∧ Tp (T f) 3 (fr s a) = none) ∨
    ∃ m : Nat, to = (m : Int) ∧ c ≤ m ∧ ∃ hm : m < s.size,
      ((((s[m].toNat : Int) == 41) = false ∧ ((s[m].toNat : Int) == 32) = false ∧ Tp (T f) 3 (fr s a) = none) ∨
       (((s[m].toNat : Int) == 41) = true ∧ Tp (T f) 3 (fr s a) = some ((ps ++ [(c, m)]).map (pc s), m + 1 - a)) ∨
       (((s[m].toNat : Int) == 41) = false ∧ ((s[m].toNat : Int) == 32) = true ∧ Sofar f s a (ps ++ [(c, m)]) (m + 1))) := by
  unfold GotR at hg
  cases hT : T f (fr s c) with
  | none =>
    rw [hT] at hg
    have htp := sofar_none h hl hT
    rcases hg with e | ⟨n, e, hcn, hnc⟩
    · exact Or.inl ⟨Or.inl (by omega), htp⟩
    · obtain ⟨hm, hb⟩ := nc_byte hnc
      refine Or.inr ⟨n, e, hcn, hm, Or.inl ⟨?_, ?_, htp⟩⟩
      · rcases nc_yes hb with e | ⟨_, e, _⟩ <;> (rw [beq_eq_false_iff_ne]; omega)
      · rcases nc_yes hb with e | ⟨_, e, _⟩ <;> (rw [beq_eq_false_iff_ne]; omega)
  | some y =>
    have hsz := T_size f _ _ hT
    rw [hT] at hg
    obtain ⟨k', x', ks, n⟩ := y
    obtain ⟨_, _, e, _⟩ := hg
    by_cases hm : c + n < s.size
    · refine Or.inr ⟨c + n, by omega, by omega, hm, ?_⟩
      cases h41 : ((s[c + n].toNat : Int) == 41) with
      | true =>
        refine Or.inr (Or.inl ⟨rfl, ?_⟩)
        rw [sofar_last h hl hac hT (byte_yes hm 41 h41)]
        congr 2; simp only; omega
      | false =>
        cases h32 : ((s[c + n].toNat : Int) == 32) with
        | true => exact Or.inr (Or.inr ⟨rfl, rfl, sofar_on h hl hac hT (byte_yes hm 32 h32)⟩)
        | false => exact Or.inl ⟨rfl, rfl, sofar_bad h hl hT (byte_no hm 41 h41) (byte_no hm 32 h32)⟩
    · refine Or.inl ⟨Or.inr (by omega), ?_⟩
      have en : s.data.toList[c + n]? = none := List.getElem?_eq_none (by simp; omega)
      exact sofar_bad h hl hT (by simp only; rw [en]; simp) (by simp only; rw [en]; simp)

theorem news_one {W : World} {ad : Addr} {x : Value} (h : W.cell? ad = some x) : ∀ (j : Nat) u, [x][j]? = some u → W.cell? (ad.add j) = some u := by
  intro j u hj
  match j, hj with
  | 0, hj =>
    have e : x = u := by simpa using hj
    subst e
    have : ad.add 0 = ad := by simp [Addr.add]
    rw [this]; exact h

/-- Behind the append. -/
theorem rparts_append {w w1 w2 : World} {gv : Option Addr} {cv : Nat} {s : ByteArray} {ps : List (Nat × Nat)} {c m gg cap : Nat} {k0 x0 t0 : Int} {A : Obj} {c0 c1 c2 : Value}
    (hX : Box w1 w.heap.size (.int .i64 k0) (.int .i64 x0) (.slice gv ps.length cv) (.int .i64 t0)) (hY : Box w1 (w.heap.size + 1) (.int .i64 0) (.int .i64 0) (.slice none 0 0) (.int .i64 0))
    (hB : Below w.heap.size w w1) (hBL : ∀ b, (Value.slice gv ps.length cv).ownBlock = some b → w.heap.size + 2 ≤ b ∧ b < w1.heap.size) (hzA : w.heap.size < w1.heap.size) (hzB : w.heap.size + 1 < w1.heap.size)
    (hown : w2.ownsRow (w.heap.size + 2) 9 1 (.slice (some ⟨gg, 0, none⟩) (ps.length + 1) cap) (ps.length + 1) ((ps.map fun p => S (pc s p)) ++ [.string (s.extract c m)]))
    (hg : (((w1.alloc (.cells #[c0, c1, c2, .int .i64 (m : Int)] 114)).alloc A).drew).grownBy w2 (Value.slice gv ps.length cv).ownBlock) :
    Box w2 w.heap.size (.int .i64 k0) (.int .i64 x0) (.slice gv ps.length cv) (.int .i64 t0) ∧ Box w2 (w.heap.size + 1) (.int .i64 0) (.int .i64 0) (.slice none 0 0) (.int .i64 0) ∧
    w2.ownsRow (w.heap.size + 2) 9 1 (.slice (some ⟨gg, 0, none⟩) (ps.length + 1) cap) (ps.length + 1) ((ps ++ [(c, m)]).map fun p => S (pc s p)) ∧ Below w.heap.size w w2 ∧
    w2.cell? ⟨w1.heap.size, 3, none⟩ = some (.int .i64 (m : Int)) := by
  have b0 : Box ((w1.alloc (.cells #[c0, c1, c2, .int .i64 (m : Int)] 114)).alloc A).drew w.heap.size (.int .i64 k0) (.int .i64 x0) (.slice gv ps.length cv) (.int .i64 t0) := (hX.alloc _).alloc _
  have b1 : Box ((w1.alloc (.cells #[c0, c1, c2, .int .i64 (m : Int)] 114)).alloc A).drew (w.heap.size + 1) (.int .i64 0) (.int .i64 0) (.slice none 0 0) (.int .i64 0) := (hY.alloc _).alloc _
  have b2 : Box ((w1.alloc (.cells #[c0, c1, c2, .int .i64 (m : Int)] 114)).alloc A).drew w1.heap.size c0 c1 c2 (.int .i64 (m : Int)) := (Box.new w1 _ _ _ _).alloc _
  refine ⟨b0.grown hg (fun e => by have := (hBL _ e).1; omega), b1.grown hg (fun e => by have := (hBL _ e).1; omega), ?_, ?_, (b2.grown hg (fun e => by have := (hBL _ e).2; omega)).cell.2.2.2⟩
  · rw [List.map_append, List.map_cons, List.map_nil, show S (pc s (c, m)) = .string (s.extract c m) by rw [show s.extract c m = ⟨(pc s (c, m)).toArray⟩ from piece_eq s (c, m)]]
    exact hown
  · exact (((hB.alloc (by omega) _).alloc (by simp; omega) _).drew).grown hg (by simp; omega) (fun b e => by have := (hBL b e).1; omega)

set_option maxHeartbeats 3200000 in
set_option maxRecDepth 100000 in
theorem rparts_of (f : Nat) (hR : RTermSaid f) : RPartsSaid f := by
  intro s i a k0 x0 t0 w hi ha hs hf
  subst hi
  obtain ⟨i0, hi, hz0, hz1, hz2⟩ := info_parts Tryz.info9
  go_enter Tryz.func91, Tryz.ntmps91
  go_wp2_with fail
  go_loopw [2] (fun i wr => ∃ (c : Nat) (ps : List (Nat × Nat)) (gv : Option Addr) (cv : Nat), ps.length ≤ 3 ∧ i = .int .i64 (c : Int) ∧ a ≤ c ∧ c ≤ s.size ∧
      Box wr w.heap.size (.int .i64 k0) (.int .i64 x0) (.slice gv ps.length cv) (.int .i64 t0) ∧ Box wr (w.heap.size + 1) (.int .i64 0) (.int .i64 0) (.slice none 0 0) (.int .i64 0) ∧
      wr.ownsRow (w.heap.size + 2) 9 1 (.slice gv ps.length cv) ps.length (ps.map fun p => S (pc s p)) ∧ Below w.heap.size w wr ∧ Sofar f s a ps c)
    (fun i _ => s.size + 1 - (intOf i).toNat)
  case atStart =>
    refine ⟨a, [], none, 0, by simp, rfl, Nat.le_refl _, ha, (Box.new w _ _ _ _).alloc _, ?_, World.ownsRow_nil _ _ _ _, ((Below.refl _ _).alloc (Nat.le_refl _) _).alloc (by simp) _, sofar_start f s a⟩
    have := Box.new (w.alloc (.cells #[.int .i64 k0, .int .i64 x0, .slice none 0 0, .int .i64 t0] 114)) (.int .i64 0) (.int .i64 0) (.slice none 0 0) (.int .i64 0)
    simpa using this
  case round =>
    obtain ⟨c, ps, gv, cv, hps, rfl, hac, hcs, hbx, hby, hown, hbel, hso⟩ := hrel
    have HS : Hid (Sofar f s a ps c) := hso
    clear hso
    have HX : Hid (Box wr w.heap.size (.int .i64 k0) (.int .i64 x0) (.slice gv ps.length cv) (.int .i64 t0)) := hbx
    have HY : Hid (Box wr (w.heap.size + 1) (.int .i64 0) (.int .i64 0) (.slice none 0 0) (.int .i64 0)) := hby
    obtain ⟨x0c, x1c, x2c, x3c⟩ := hbx.cell
    have hlt0 := hby.lt
    clear hbx hby
    by_cases hl3 : ps.length < 3
    · go_wp2_with fail
      refine (hR s _ c _ rfl hcs hs (by omega)).mono ?_
      rintro e w1 ⟨k, x, v1, to, rfl, hb1, ⟨g, n', c', rfl⟩, hgot⟩
      have HC : Hid _ := parts_class HS.out hl3 hac hcs hgot
      clear hgot
      have HX1 : Hid (Box w1 w.heap.size (.int .i64 k0) (.int .i64 x0) (.slice gv ps.length cv) (.int .i64 t0)) := Box.on HX.out hb1
      have HY1 : Hid (Box w1 (w.heap.size + 1) (.int .i64 0) (.int .i64 0) (.slice none 0 0) (.int .i64 0)) := Box.on HY.out hb1
      have hown1 := own_below hown hb1
      have HB1 : Hid (Below w.heap.size w w1) := hbel.trans (hb1.mono hbel.size)
      have hz1' : wr.heap.size ≤ w1.heap.size := hb1.size
      clear hown hbel hb1 x0c x1c x2c x3c
      obtain ⟨x0c, x1c, x2c, x3c⟩ := Box.cell HX1.out
      have hxf := Box.free HX1.out
      rcases HC.out with ⟨hbad, htp⟩ | ⟨m, rfl, hcm, hm, hcl⟩
      · have HT : Hid (Tp (T f) 3 (fr s a) = none) := htp
        clear htp
        rcases hbad with hneg | hbig
        · go_wp2_with fail
          refine (bad_any _).mono ?_
          rintro e w9 ⟨rfl, hb9⟩
          have hy9 : Box w9 (w.heap.size + 1) (.int .i64 0) (.int .i64 0) (.slice none 0 0) (.int .i64 0) := Box.on (Box.alloc HY1.out _) hb9
          obtain ⟨q0, q1, q2, q3⟩ := hy9.cell
          have qf := hy9.free
          have h09 : Below w.heap.size w w9 := below_next (HB1.out.alloc (by omega) _) hb9
          clear hy9 hb9
          go_wp2_with fail
          refine bodyPost_ret (v := .agg #[.int .i64 0, .int .i64 0, .slice none 0 0, .int .i64 (-1)]) (by simp [results, Tryz.results91, go_sem, q0, q1, q2, q3]) rfl ⟨0, 0, _, _, rfl, ?_, ⟨_, _, _, rfl⟩, ?_⟩
          · exact (((h09.setCell (Nat.le_succ _) _).setCell (Nat.le_succ _) _).setCell (Nat.le_succ _) _).setCell (Nat.le_succ _) _
          · rw [HT.out]; exact rfl
        · have hnn : 0 ≤ to := by omega
          go_wp2_with fail
          refine (bad_any _).mono ?_
          rintro e w9 ⟨rfl, hb9⟩
          have hy9 : Box w9 (w.heap.size + 1) (.int .i64 0) (.int .i64 0) (.slice none 0 0) (.int .i64 0) := Box.on (Box.alloc HY1.out _) hb9
          obtain ⟨q0, q1, q2, q3⟩ := hy9.cell
          have qf := hy9.free
          have h09 : Below w.heap.size w w9 := below_next (HB1.out.alloc (by omega) _) hb9
          clear hy9 hb9
          go_wp2_with fail
          refine bodyPost_ret (v := .agg #[.int .i64 0, .int .i64 0, .slice none 0 0, .int .i64 (-1)]) (by simp [results, Tryz.results91, go_sem, q0, q1, q2, q3]) rfl ⟨0, 0, _, _, rfl, ?_, ⟨_, _, _, rfl⟩, ?_⟩
          · exact (((h09.setCell (Nat.le_succ _) _).setCell (Nat.le_succ _) _).setCell (Nat.le_succ _) _).setCell (Nat.le_succ _) _
          · rw [HT.out]; exact rfl
      · have HCL : Hid _ := hcl
        clear hcl
        have hm' : (m : Int) < (s.size : Int) := by omega
        have hcm' : (c : Int) ≤ (m : Int) := by omega
        have hzA : w.heap.size < w1.heap.size := by omega
        have hzB : w.heap.size + 1 < w1.heap.size := by omega
        have HBL : Hid (∀ b, (Value.slice gv ps.length cv).ownBlock = some b → w.heap.size + 2 ≤ b ∧ b < w1.heap.size) := by
          obtain ⟨_, _, _, hh⟩ := own_len hown1; exact hh
        have hsl : ∀ W, (Instr.slice 9 (.string s) (some (.int .i64 (c : Int))) (some (.int .i64 (m : Int))) none).run Tryz.prog W = .ok (.string (s.extract c m)) W := fun W => by
          rw [run_slice_string (h := Tryz.underlying9)] <;> first | omega | (congr 2)
        go_wp2_with fail
        go_region_law
          ((refine step_append_lies _ (by rfl) _ _ _ (by rfl) (w.heap.size + 2) 9 i0 _ 1 16 Tryz.underlying35 hi hz0 hz1 hz2 rfl (by omega) (.slice gv ps.length cv) ps.length (ps.map fun p => S (pc s p)) (by rfl) (((hown1.alloc _).alloc _).drew) ⟨w1.heap.size + 1, 0, none⟩ 1 1 [.string (s.extract c m)] (by rfl) (by rfl) (news_one (by simp [go_sem])) (by simp [Value.oneCell']) (by omega) (by unfold maxLen; omega) (by omega) (by simp; omega) (w1.heap.size + 2) (by simp) ?_; intro gg cap w2 hown2 hgrow hat hlt; obtain ⟨hX2, hY2, hown3, hb2, hto2⟩ := rparts_append HX1.out HY1.out HB1.out HBL.out hzA hzB hown2 hgrow; clear hown2 hgrow hat; obtain ⟨x0d, x1d, x2d, x3d⟩ := Box.cell hX2; have hxg := Box.free hX2; have HX2 : Hid (Box w2 w.heap.size (.int .i64 k0) (.int .i64 x0) (.slice gv ps.length cv) (.int .i64 t0)) := hX2; have HY2 : Hid (Box w2 (w.heap.size + 1) (.int .i64 0) (.int .i64 0) (.slice none 0 0) (.int .i64 0)) := hY2; clear hX2 hY2; have HO3 : Hid (w2.ownsRow (w.heap.size + 2) 9 1 (.slice (some ⟨gg, 0, none⟩) (ps.length + 1) cap) (ps.length + 1) ((ps ++ [(c, m)]).map fun p => S (pc s p))) := hown3; clear hown3; have HB2 : Hid (Below w.heap.size w w2) := hb2; clear hb2))
        all_goals
          have hwv : ∃ w3, w3 = w2.setCell ⟨w.heap.size, 2, none⟩ (.slice (some ⟨gg, 0, none⟩) (ps.length + 1) cap) := ⟨_, rfl⟩
          obtain ⟨w3, hw3⟩ := hwv
          have hX3 : Box w3 w.heap.size (.int .i64 k0) (.int .i64 x0) (.slice (some ⟨gg, 0, none⟩) (ps.length + 1) cap) (.int .i64 t0) := by rw [hw3]; exact Box.two HX2.out _
          have hY3 : Box w3 (w.heap.size + 1) (.int .i64 0) (.int .i64 0) (.slice none 0 0) (.int .i64 0) := by rw [hw3]; exact Box.other HY2.out (by simp) _
          have HO4 : Hid (w3.ownsRow (w.heap.size + 2) 9 1 (.slice (some ⟨gg, 0, none⟩) (ps.length + 1) cap) (ps.length + 1) ((ps ++ [(c, m)]).map fun p => S (pc s p))) := by
            show w3.ownsRow _ _ _ _ _ _
            rw [hw3]; exact ownsRow_setCell_below HO3.out (by simp) _
          have HB3 : Hid (Below w.heap.size w w3) := by
            show Below w.heap.size w w3
            rw [hw3]; exact HB2.out.setCell (Nat.le_refl _) _
          have hto3 : w3.cell? ⟨w1.heap.size, 3, none⟩ = some (.int .i64 (m : Int)) := by
            rw [hw3, World.cell?_setCell_other _ _ _ _ (by intro e; injection e; omega)]; exact hto2
          rw [← hw3]
          clear hw3 hto2 x0d x1d x2d x3d hxg x0c x1c x2c x3c hxf
          obtain ⟨x0d, x1d, x2d, x3d⟩ := Box.cell hX3
          have hxg := Box.free hX3
          have HX3 : Hid (Box w3 w.heap.size (.int .i64 k0) (.int .i64 x0) (.slice (some ⟨gg, 0, none⟩) (ps.length + 1) cap) (.int .i64 t0)) := hX3
          have HY3 : Hid (Box w3 (w.heap.size + 1) (.int .i64 0) (.int .i64 0) (.slice none 0 0) (.int .i64 0)) := hY3
          obtain ⟨y0d, y1d, y2d, y3d⟩ := Box.cell hY3
          have hyg := Box.free hY3
          clear hX3 hY3
          rcases HCL.out with ⟨h41, h32, htp⟩ | ⟨h41, htp⟩ | ⟨h41, h32, hso⟩
          · have HT : Hid (Tp (T f) 3 (fr s a) = none) := htp
            clear htp
            have h32' : ((s[m].toNat : Int) != 32) = true := by rw [bne, h32]; rfl
            go_wp2_with fail
            refine (bad_any _).mono ?_
            rintro e w9 ⟨rfl, hb9⟩
            have hy9 : Box w9 (w.heap.size + 1) (.int .i64 0) (.int .i64 0) (.slice none 0 0) (.int .i64 0) := Box.on HY3.out hb9
            obtain ⟨q0, q1, q2, q3⟩ := hy9.cell
            have qf := hy9.free
            have h09 : Below w.heap.size w w9 := below_next HB3.out hb9
            clear hy9 hb9
            go_wp2_with fail
            refine bodyPost_ret (v := .agg #[.int .i64 0, .int .i64 0, .slice none 0 0, .int .i64 (-1)]) (by simp [results, Tryz.results91, go_sem, q0, q1, q2, q3]) rfl ⟨0, 0, _, _, rfl, ?_, ⟨_, _, _, rfl⟩, ?_⟩
            · exact (((h09.setCell (Nat.le_succ _) _).setCell (Nat.le_succ _) _).setCell (Nat.le_succ _) _).setCell (Nat.le_succ _) _
            · rw [HT.out]; exact rfl
          · have HT : Hid (Tp (T f) 3 (fr s a) = some ((ps ++ [(c, m)]).map (pc s), m + 1 - a)) := htp
            clear htp
            go_wp2_with fail
            refine bodyPost_ret (v := .agg #[.int .i64 k0, .int .i64 x0, .slice (some ⟨gg, 0, none⟩) (ps.length + 1) cap, .int .i64 ((m : Int) + 1)]) (by simp [results, Tryz.results91, go_sem, y0d, y1d, y2d, y3d]) rfl ⟨k0, x0, _, _, rfl, ?_, ⟨_, _, _, rfl⟩, ?_⟩
            · exact ((((HB3.out.setCell (Nat.le_refl _) _).setCell (Nat.le_succ _) _).setCell (Nat.le_succ _) _).setCell (Nat.le_succ _) _).setCell (Nat.le_succ _) _
            · rw [HT.out]
              refine ⟨rfl, rfl, by omega, ?_⟩
              rw [List.length_map, List.length_append, List.map_map]
              refine own_base (B := w.heap.size + 2) ?_ (by omega)
              exact ownsRow_setCell_below (ownsRow_setCell_below (ownsRow_setCell_below (ownsRow_setCell_below (ownsRow_setCell_below HO4.out (by simp) _) (by simp) _) (by simp) _) (by simp) _) (by simp) _
          · have HN : Hid (Sofar f s a (ps ++ [(c, m)]) (m + 1)) := hso
            clear hso
            have h32' : ((s[m].toNat : Int) != 32) = false := by rw [bne, h32]; rfl
            go_wp2_with fail
            go_roundw
            case rel =>
              refine ⟨m + 1, ps ++ [(c, m)], some ⟨gg, 0, none⟩, cap, by simp; omega, by go_num, by omega, by omega, ?_, HY3.out, ?_, HB3.out, HN.out⟩
              · rw [List.length_append]; exact HX3.out
              · rw [List.length_append]; exact HO4.out
            case measure => simp [intOf]; omega
    · have HT : Hid (Tp (T f) 3 (fr s a) = none) := sofar_full HS.out (by omega)
      go_wp2_with fail
      refine (bad_any _).mono ?_
      rintro e w9 ⟨rfl, hb9⟩
      have hy9 : Box w9 (w.heap.size + 1) (.int .i64 0) (.int .i64 0) (.slice none 0 0) (.int .i64 0) := Box.on HY.out hb9
      obtain ⟨q0, q1, q2, q3⟩ := hy9.cell
      have qf := hy9.free
      have h09 : Below w.heap.size w w9 := below_next hbel hb9
      clear hy9 hb9
      go_wp2_with fail
      refine bodyPost_ret (v := .agg #[.int .i64 0, .int .i64 0, .slice none 0 0, .int .i64 (-1)]) (by simp [results, Tryz.results91, go_sem, q0, q1, q2, q3]) rfl ⟨0, 0, _, _, rfl, ?_, ⟨_, _, _, rfl⟩, ?_⟩
      · exact (((h09.setCell (Nat.le_succ _) _).setCell (Nat.le_succ _) _).setCell (Nat.le_succ _) _).setCell (Nat.le_succ _) _
      · rw [HT.out]; exact rfl
end Go.Proofs.YtighcikiaddfcaaGreatDoor.Tm

namespace Go.Proofs.YtighcikiaddfcaaGreatDoor.Tm
open Go.RowKit
set_option linter.unusedVariables false

theorem rterm_all : ∀ f, RTermSaid f
  | 0 => fun s i a w _ _ _ h => by omega
  | f + 1 => rterm_of f (rparts_of f (rterm_all f))

theorem rcut_none {s : ByteArray} {B : Nat} {w : World} {k x : Int} {v : Value} {to : Int} (hs : s.size ≤ 1024) (h : GotR s 0 B w (T 1025 (fr s 0)) k x v to) (hne : to ≠ (s.size : Int)) : whole s.data.toList = none := by
  have e0 : fr s 0 = s.data.toList := rfl
  have el : s.data.toList.length = s.size := by simp
  rw [e0] at h
  unfold whole
  rw [if_pos (by rw [el]; exact hs)]
  cases hT : T 1025 s.data.toList with
  | none => rfl
  | some y =>
    obtain ⟨k', x', ks, n⟩ := y
    rw [hT] at h
    obtain ⟨_, _, e, _⟩ := h
    simp only
    rw [el, if_neg (by omega)]
theorem rcut_some {s : ByteArray} {B : Nat} {w : World} {k x : Int} {v : Value} (hs : s.size ≤ 1024) (h : GotR s 0 B w (T 1025 (fr s 0)) k x v (s.size : Int)) : GotC B w (whole s.data.toList) k x v 0 := by
  have e0 : fr s 0 = s.data.toList := rfl
  have el : s.data.toList.length = s.size := by simp
  rw [e0] at h
  unfold whole
  rw [if_pos (by rw [el]; exact hs)]
  cases hT : T 1025 s.data.toList with
  | none =>
    rw [hT] at h
    rcases h with e | ⟨n, e, _, hnc⟩
    · omega
    · obtain ⟨hlt, _⟩ := nc_byte hnc
      omega
  | some y =>
    obtain ⟨k', x', ks, n⟩ := y
    rw [hT] at h
    obtain ⟨rfl, rfl, e, ho⟩ := h
    simp only
    rw [el, if_pos (by omega)]
    exact ⟨rfl, rfl, rfl, ho⟩

set_option maxHeartbeats 1600000 in
set_option maxRecDepth 100000 in
theorem rcut_any (s : ByteArray) (w : World) (hs : s.size ≤ 140737488355328) :
    Calls Tryz.prog 48 #[.string s] w fun e w' => ∃ k x v er, e = .returned (.tuple #[.int .i64 k, .int .i64 x, v, .int .i64 er]) ∧ (∃ g n c, v = .slice g n c) ∧
      Below w.heap.size w w' ∧ GotC w.heap.size w' (whole s.data.toList) k x v er := by
  by_cases hbig : 1024 < s.size
  · have hb' : (1024 : Int) < (s.size : Int) := by omega
    have HW : Hid (whole s.data.toList = none) := whole_big (by simpa using hbig)
    go_enter Tryz.func48, Tryz.ntmps48
    go_wp2_with fail
    refine bodyPost_ret (v := .tuple #[.int .i64 0, .int .i64 0, .slice none 0 0, .int .i64 200]) (by simp [results, Tryz.results48, go_sem]) rfl ⟨0, 0, _, 200, rfl, ⟨_, _, _, rfl⟩, Below.refl _ _, ?_⟩
    rw [HW.out]; exact ⟨rfl, rfl, rfl, rfl⟩
  · have hb' : (s.size : Int) ≤ 1024 := by omega
    go_enter Tryz.func48, Tryz.ntmps48
    go_wp2_with fail
    refine (rterm_all 1025 s _ 0 _ rfl (Nat.zero_le _) (by omega) (by omega)).mono ?_
    rintro e w1 ⟨k, x, v, to, rfl, hb1, ⟨g, n', c, rfl⟩, hgot⟩
    have HG : Hid (GotR s 0 w.heap.size w1 (T 1025 (fr s 0)) k x (.slice g n' c) to) := hgot
    clear hgot
    by_cases hto : to = (s.size : Int)
    · subst hto
      have hne : ((s.size : Int) != (s.size : Int)) = false := by simp
      have HC : Hid (GotC w.heap.size w1 (whole s.data.toList) k x (.slice g n' c) 0) := rcut_some (by omega) HG.out
      go_wp2_with fail
      go_quiet (fail)
      go_wp2_with fail
      refine bodyPost_ret (v := .tuple #[.int .i64 k, .int .i64 x, .slice g n' c, .int .i64 0]) (by simp [results, Tryz.results48, go_sem]) rfl ⟨k, x, _, 0, rfl, ⟨_, _, _, rfl⟩, ?_, ?_⟩
      · exact below_next (hb1.alloc hb1.size _) (below_drewN _ _ _)
      · have h := HC.out
        unfold GotC at h ⊢
        cases hw : whole s.data.toList with
        | none => rw [hw] at h; exact h
        | some y =>
          obtain ⟨k', x', ks⟩ := y
          rw [hw] at h
          obtain ⟨e1, e2, e3, e4⟩ := h
          exact ⟨e1, e2, e3, own_below (e4.alloc _) (below_drewN _ _ _)⟩
    · have hne : (to != (s.size : Int)) = true := by simp [hto]
      have HW : Hid (whole s.data.toList = none) := rcut_none (by omega) HG.out hto
      clear hto
      go_wp2_with fail
      refine bodyPost_ret (v := .tuple #[.int .i64 0, .int .i64 0, .slice none 0 0, .int .i64 200]) (by simp [results, Tryz.results48, go_sem]) rfl ⟨0, 0, _, 200, rfl, ⟨_, _, _, rfl⟩, hb1.alloc hb1.size _, ?_⟩
      rw [HW.out]; exact ⟨rfl, rfl, rfl, rfl⟩

end Go.Proofs.YtighcikiaddfcaaGreatDoor.Tm
