/- The contract of the references' Decimal, at the numbers that may be. -/
import Derived.Test.YtcjpepbajcdenaaDoorSame
import Derived.Laws.AppendOwnNone
import Derived.Laws.IdiomStrings
namespace Go.Proofs.YtcjpepbajcdenaaDoor
open Go.RowKit
set_option linter.unusedVariables false

theorem Tryd.info5 : (Tryd.prog.info? 5).map (fun i => (i.zero, i.size, i.bytes)) = some (some (.int .u8 0), 1, 1) := by kernel_rfl

/-- Bytes as cells. -/
def bs (l : List UInt8) : List Value := l.map fun b => .int .u8 (b.toNat : Int)
/-- So far. -/
def DecInv (u0 u : Nat) (ds : List UInt8) : Prop :=
  (ds = [] ∧ u = u0) ∨ (ds ≠ [] ∧ u = 0 ∧ ds = Lib.decDigits u0) ∨ (ds ≠ [] ∧ 0 < u ∧ Lib.decDigits u0 = Lib.decDigits u ++ ds)
def vlen : Value → Nat
  | .slice _ n _ => n
  | _ => 0

theorem dec_more {u0 u : Nat} {ds : List UInt8} (h : DecInv u0 u ds) (hgo : 0 < u ∨ ds = []) : DecInv u0 (u / 10) (UInt8.ofNat (48 + u % 10) :: ds) := by
  have key : ∀ v : Nat, Lib.decDigits v = if v < 10 then [UInt8.ofNat (48 + v)] else Lib.decDigits (v / 10) ++ [UInt8.ofNat (48 + v % 10)] := by
    intro v
    by_cases hv : v < 10
    · rw [if_pos hv]; exact Lib.decDigits_one hv
    · rw [if_neg hv, Lib.decDigits, dif_neg hv]
  rcases h with ⟨rfl, rfl⟩ | ⟨hne, rfl, e⟩ | ⟨hne, hu, e⟩
  · by_cases hv : u < 10
    · refine Or.inr (Or.inl ⟨by simp, by omega, ?_⟩)
      rw [key u, if_pos hv, Nat.mod_eq_of_lt hv]
    · refine Or.inr (Or.inr ⟨by simp, by omega, ?_⟩)
      rw [key u, if_neg hv]
  · rcases hgo with h | h
    · omega
    · exact absurd h hne
  · by_cases hv : u < 10
    · refine Or.inr (Or.inl ⟨by simp, by omega, ?_⟩)
      rw [e, key u, if_pos hv, Nat.mod_eq_of_lt hv]; rfl
    · refine Or.inr (Or.inr ⟨by simp, by omega, ?_⟩)
      rw [e, key u, if_neg hv]; simp
theorem dec_len {u0 u : Nat} {ds : List UInt8} (h : DecInv u0 u ds) : ds.length ≤ (Lib.decDigits u0).length := by
  rcases h with ⟨rfl, rfl⟩ | ⟨hne, rfl, e⟩ | ⟨hne, hu, e⟩
  · simp
  · rw [e]; exact Nat.le_refl _
  · rw [e]; simp
theorem dec_done {u0 : Nat} {ds : List UInt8} (h : DecInv u0 0 ds) (hne : ds ≠ []) : ds = Lib.decDigits u0 := by
  rcases h with ⟨e, _⟩ | ⟨_, _, e⟩ | ⟨_, hu, _⟩
  · exact absurd e hne
  · exact e
  · omega

/-- A row of one byte that was just laid. -/
theorem own_one (W : World) (B : Nat) (hB : B ≤ W.heap.size) (x : Value) : (W.alloc (.cells #[x] 5)).ownsRow B 5 1 (.slice (some ⟨W.heap.size, 0, none⟩) 1 1) 1 [x] := by
  refine ⟨rfl, Or.inr ⟨W.heap.size, 1, #[x], rfl, hB, ?_, Nat.le_refl _, by unfold maxLen; omega, rfl, rfl⟩⟩
  show (W.heap.push _)[W.heap.size]? = _
  rw [Array.getElem?_push_size]
/-- The cells of a row that is owned. -/
theorem own_cells {W : World} {B : Nat} {v : Value} {ds : List UInt8} (h : W.ownsRow B 5 1 v ds.length (bs ds)) (hne : ds ≠ []) :
    ∃ gb c, v = .slice (some ⟨gb, 0, none⟩) ds.length c ∧ gb < W.heap.size ∧ B ≤ gb ∧ ∀ j u, (bs ds)[j]? = some u → W.cell? ((⟨gb, 0, none⟩ : Addr).add j) = some u := by
  have hown := h
  rcases h.2 with ⟨_, h3⟩ | ⟨gb, cap, cur, hv, hB, hh, _⟩
  · exact absurd (List.length_eq_zero_iff.1 h3) hne
  · refine ⟨gb, cap, hv, ?_, hB, ?_⟩
    · rcases Nat.lt_or_ge gb W.heap.size with h' | h'
      · exact h'
      · rw [Array.getElem?_eq_none h'] at hh; cases hh
    · subst hv
      exact hown.cells (g := gb) rfl
theorem bs_one (ds : List UInt8) : ∀ u ∈ bs ds, u.oneCell' = true := by
  intro u hu
  unfold bs at hu
  obtain ⟨b, _, rfl⟩ := List.mem_map.1 hu
  rfl
theorem bs_cons (d : UInt8) (ds : List UInt8) : bs (d :: ds) = .int .u8 (d.toNat : Int) :: bs ds := rfl
theorem bs_len (ds : List UInt8) : (bs ds).length = ds.length := by unfold bs; simp
theorem digit_nat (u : Nat) : (UInt8.ofNat (48 + u % 10)).toNat = 48 + u % 10 := by
  simp; omega

/-- The text of a row of bytes. -/
theorem conv_row {W : World} {gb c : Nat} {ds : List UInt8} (h : ∀ j u, (bs ds)[j]? = some u → W.cell? ((⟨gb, 0, none⟩ : Addr).add j) = some u) :
    (convert 56 9 (.slice (some ⟨gb, 0, none⟩) ds.length c)).run Tryd.prog W = .ok (.string ⟨ds.toArray⟩) W :=
  run_convert_bytes_back W 56 9 5 ⟨gb, 0, none⟩ c ds Tryd.underlying56 Tryd.underlying5 Tryd.underlying9 (fun j hj => h j _ (by unfold bs; simp [hj]))
theorem conv_own {W : World} {B : Nat} {v : Value} {ds : List UInt8} (h : W.ownsRow B 5 1 v ds.length (bs ds)) (hne : ds ≠ []) :
    (convert 56 9 v).run Tryd.prog W = .ok (.string ⟨ds.toArray⟩) W := by
  obtain ⟨gb, c, rfl, _, _, hc⟩ := own_cells h hne
  exact conv_row hc

set_option maxHeartbeats 1600000 in
set_option maxRecDepth 100000 in
theorem decimal_pos (x : Nat) (w : World) (hx : x ≤ 32767) :
    Calls Tryd.prog 20 #[.int .i64 (x : Int)] w fun e w' => e = .returned (.string ⟨(Lib.itoa (x : Int)).toArray⟩) ∧ Below w.heap.size w w' := by
  obtain ⟨i0, hi, hz0, hz1, hz2⟩ := info_parts Tryd.info5
  have hdl : (Lib.decDigits x).length ≤ 21 := by
    have := Lib.itoa_length_le (x : Int) (by omega) (by omega)
    rw [Lib.itoa_nonneg] at this; exact this
  go_enter Tryd.func20, Tryd.ntmps20
  go_wp2_with fail
  go_loopw [3, 4] (fun a v wr => ∃ (u : Nat) (ds : List UInt8), a = .int .u64 (u : Int) ∧ u ≤ 32768 ∧ wr.ownsRow w.heap.size 5 1 v ds.length (bs ds) ∧ DecInv x u ds ∧ (ds = [] → v = .slice none 0 0) ∧ Below w.heap.size w wr)
    (fun a v _ => 2 * (intOf a).toNat + (1 - vlen v))
  case atStart => exact ⟨x, [], rfl, by omega, World.ownsRow_nil _ _ _ _, Or.inl ⟨rfl, rfl⟩, fun _ => rfl, Below.refl _ _⟩
  case round =>
    obtain ⟨u, ds, rfl, hu, hown, hinv, hnil, hbel⟩ := hrel
    have hlen := dec_len hinv
    have HI : Hid (DecInv x u ds) := hinv
    clear hinv
    have hz := hbel.size
    by_cases hds : ds = []
    · have e := hnil hds
      subst e
      subst hds
      have HN : Hid (DecInv x (u / 10) [UInt8.ofNat (48 + u % 10)]) := dec_more HI.out (Or.inr rfl)
      clear hnil hown
      by_cases hu0 : 0 < u
      · have hu0' : (0 : Int) < (u : Int) := by omega
        go_wp2_with (at_builtin; refine wpList_append_own_none rfl _ _ 56 rfl w.heap.size 5 i0 1 Tryd.underlying56 hi _ 1 _ rfl (own_one wr w.heap.size hz _) rfl ?_)
        go_roundw
        case rel =>
          refine ⟨u / 10, [UInt8.ofNat (48 + u % 10)], by go_num, by omega, ?_, HN.out, (fun h => by cases h), hbel.alloc hz _⟩
          have := own_one wr w.heap.size hz (.int .u8 (48 + (u : Int) % 10))
          rw [show bs [UInt8.ofNat (48 + u % 10)] = [.int .u8 (48 + (u : Int) % 10)] by rw [bs_cons, digit_nat]; simp [bs]]
          exact this
        case measure => simp [intOf, vlen]; omega
      · have hu0' : (u : Int) = 0 := by omega
        go_wp2_with (at_builtin; refine wpList_append_own_none rfl _ _ 56 rfl w.heap.size 5 i0 1 Tryd.underlying56 hi _ 1 _ rfl (own_one wr w.heap.size hz _) rfl ?_)
        go_roundw
        case rel =>
          have eu : u = 0 := by omega
          subst eu
          refine ⟨0, [48], by go_num, by omega, ?_, HN.out, (fun h => by cases h), hbel.alloc hz _⟩
          exact own_one wr w.heap.size hz (.int .u8 48)
        case measure => simp [intOf, vlen]
    · clear hnil
      obtain ⟨gb, cb, rfl, hgb, hBg, hcells⟩ := own_cells hown hds
      have HC : Hid (∀ j u, (bs ds)[j]? = some u → wr.cell? ((⟨gb, 0, none⟩ : Addr).add j) = some u) := hcells
      have hdp : 0 < ds.length := List.length_pos_iff.2 hds
      have hdz : ((ds.length : Int) == 0) = false := by simp; exact hds
      clear hcells
      by_cases hu0 : 0 < u
      · have hu0' : (0 : Int) < (u : Int) := by omega
        have HN : Hid (DecInv x (u / 10) (UInt8.ofNat (48 + u % 10) :: ds)) := dec_more HI.out (Or.inl hu0)
        go_wp2_with (at_builtin; refine wpList_append_own _ rfl _ _ 56 rfl w.heap.size 5 i0 (.int .u8 0) 1 1 Tryd.underlying56 hi hz0 hz1 hz2 rfl (by decide) _ 1 _ rfl (own_one wr w.heap.size hz _) ⟨gb, 0, none⟩ ds.length cb (bs ds) rfl ?c0 ?c1 ?c2 ?c3 ?c4 ?c5 ?_)
        case c0 => rw [bs_len, Nat.mul_one]
        case c1 =>
          intro j u hj
          rw [World.cell?_alloc_lt _ _ _ (by rw [Lib.add_plain]; exact hgb)]
          exact HC.out j u hj
        case c2 => exact bs_one ds
        case c3 => unfold maxLen; omega
        case c4 => omega
        case c5 => simp; omega
        intro v' w2 hown2 hgrow _
        have hown3 : w2.ownsRow w.heap.size 5 1 v' (UInt8.ofNat (48 + u % 10) :: ds).length (bs (UInt8.ofNat (48 + u % 10) :: ds)) := by
          rw [bs_cons, digit_nat, List.length_cons, Nat.add_comm ds.length 1]
          exact hown2
        have hb2 : Below w.heap.size w w2 := (hbel.alloc hz _).grown hgrow (by rw [World.size_alloc]; omega) (fun k e => by cases e; exact hz)
        have hvl : 1 ≤ vlen v' := by
          obtain ⟨gb', cb', rfl, _⟩ := own_cells hown3 (by simp)
          simp [vlen]
        clear hown2
        go_wp2_with fail
        go_roundw
        case rel => exact ⟨u / 10, UInt8.ofNat (48 + u % 10) :: ds, by go_num, by omega, hown3, HN.out, (fun h => by cases h), hb2⟩
        case measure => simp [intOf]; omega
      · have hu0' : (u : Int) = 0 := by omega
        have hug : ¬ (0 : Int) < (u : Int) := by omega
        have eds : Hid (ds = Lib.decDigits x) := by
          show ds = _
          have hI := HI.out
          rw [show u = 0 by omega] at hI
          exact dec_done hI hds
        have hcv := conv_row (c := cb) HC.out
        go_wp2_with fail
        go_ret
        exact ⟨by rw [eds.out]; rfl, hbel⟩

set_option maxHeartbeats 1600000 in
set_option maxRecDepth 100000 in
theorem decimal_neg (x : Nat) (w : World) (y : Int) (hy : y < 0) (hy2 : -32768 ≤ y) (E : Hid (y = -(x : Int))) (hx : x ≤ 32768) :
    Calls Tryd.prog 20 #[.int .i64 y] w fun e w' => e = .returned (.string ⟨(Lib.itoa y).toArray⟩) ∧ Below w.heap.size w w' := by
  obtain ⟨i0, hi, hz0, hz1, hz2⟩ := info_parts Tryd.info5
  have hdl : (Lib.decDigits x).length ≤ 21 := by
    have := Lib.itoa_length_le (x : Int) (by omega) (by omega)
    rw [Lib.itoa_nonneg] at this; exact this
  have HT : Hid (Lib.itoa y = 45 :: Lib.decDigits x) := by
    show Lib.itoa y = _
    rw [Lib.itoa, if_pos hy, E.out]; simp
  go_enter Tryd.func20, Tryd.ntmps20
  go_wp2_with fail
  go_loopw [3, 4] (fun a v wr => ∃ (u : Nat) (ds : List UInt8), a = .int .u64 (u : Int) ∧ u ≤ 32768 ∧ wr.ownsRow w.heap.size 5 1 v ds.length (bs ds) ∧ DecInv x u ds ∧ (ds = [] → v = .slice none 0 0) ∧ Below w.heap.size w wr)
    (fun a v _ => 2 * (intOf a).toNat + (1 - vlen v))
  case atStart => exact ⟨x, [], (by have := E.out; go_num), by omega, World.ownsRow_nil _ _ _ _, Or.inl ⟨rfl, rfl⟩, fun _ => rfl, Below.refl _ _⟩
  case round =>
    obtain ⟨u, ds, rfl, hu, hown, hinv, hnil, hbel⟩ := hrel
    have hlen := dec_len hinv
    have HI : Hid (DecInv x u ds) := hinv
    clear hinv
    have hz := hbel.size
    by_cases hds : ds = []
    · have e := hnil hds
      subst e
      subst hds
      have HN : Hid (DecInv x (u / 10) [UInt8.ofNat (48 + u % 10)]) := dec_more HI.out (Or.inr rfl)
      clear hnil hown
      by_cases hu0 : 0 < u
      · have hu0' : (0 : Int) < (u : Int) := by omega
        go_wp2_with (at_builtin; refine wpList_append_own_none rfl _ _ 56 rfl w.heap.size 5 i0 1 Tryd.underlying56 hi _ 1 _ rfl (own_one wr w.heap.size hz _) rfl ?_)
        go_roundw
        case rel =>
          refine ⟨u / 10, [UInt8.ofNat (48 + u % 10)], by go_num, by omega, ?_, HN.out, (fun h => by cases h), hbel.alloc hz _⟩
          have := own_one wr w.heap.size hz (.int .u8 (48 + (u : Int) % 10))
          rw [show bs [UInt8.ofNat (48 + u % 10)] = [.int .u8 (48 + (u : Int) % 10)] by rw [bs_cons, digit_nat]; simp [bs]]
          exact this
        case measure => simp [intOf, vlen]; omega
      · have hu0' : (u : Int) = 0 := by omega
        go_wp2_with (at_builtin; refine wpList_append_own_none rfl _ _ 56 rfl w.heap.size 5 i0 1 Tryd.underlying56 hi _ 1 _ rfl (own_one wr w.heap.size hz _) rfl ?_)
        go_roundw
        case rel =>
          have eu : u = 0 := by omega
          subst eu
          refine ⟨0, [48], by go_num, by omega, ?_, HN.out, (fun h => by cases h), hbel.alloc hz _⟩
          exact own_one wr w.heap.size hz (.int .u8 48)
        case measure => simp [intOf, vlen]
    · clear hnil
      obtain ⟨gb, cb, rfl, hgb, hBg, hcells⟩ := own_cells hown hds
      have HC : Hid (∀ j u, (bs ds)[j]? = some u → wr.cell? ((⟨gb, 0, none⟩ : Addr).add j) = some u) := hcells
      have hdp : 0 < ds.length := List.length_pos_iff.2 hds
      have hdz : ((ds.length : Int) == 0) = false := by simp; exact hds
      clear hcells
      by_cases hu0 : 0 < u
      · have hu0' : (0 : Int) < (u : Int) := by omega
        have HN : Hid (DecInv x (u / 10) (UInt8.ofNat (48 + u % 10) :: ds)) := dec_more HI.out (Or.inl hu0)
        go_wp2_with (at_builtin; refine wpList_append_own _ rfl _ _ 56 rfl w.heap.size 5 i0 (.int .u8 0) 1 1 Tryd.underlying56 hi hz0 hz1 hz2 rfl (by decide) _ 1 _ rfl (own_one wr w.heap.size hz _) ⟨gb, 0, none⟩ ds.length cb (bs ds) rfl ?c0 ?c1 ?c2 ?c3 ?c4 ?c5 ?_)
        case c0 => rw [bs_len, Nat.mul_one]
        case c1 =>
          intro j u hj
          rw [World.cell?_alloc_lt _ _ _ (by rw [Lib.add_plain]; exact hgb)]
          exact HC.out j u hj
        case c2 => exact bs_one ds
        case c3 => unfold maxLen; omega
        case c4 => omega
        case c5 => simp; omega
        intro v' w2 hown2 hgrow _
        have hown3 : w2.ownsRow w.heap.size 5 1 v' (UInt8.ofNat (48 + u % 10) :: ds).length (bs (UInt8.ofNat (48 + u % 10) :: ds)) := by
          rw [bs_cons, digit_nat, List.length_cons, Nat.add_comm ds.length 1]
          exact hown2
        have hb2 : Below w.heap.size w w2 := (hbel.alloc hz _).grown hgrow (by rw [World.size_alloc]; omega) (fun k e => by cases e; exact hz)
        have hvl : 1 ≤ vlen v' := by
          obtain ⟨gb', cb', rfl, _⟩ := own_cells hown3 (by simp)
          simp [vlen]
        clear hown2
        go_wp2_with fail
        go_roundw
        case rel => exact ⟨u / 10, UInt8.ofNat (48 + u % 10) :: ds, by go_num, by omega, hown3, HN.out, (fun h => by cases h), hb2⟩
        case measure => simp [intOf]; omega
      · have hu0' : (u : Int) = 0 := by omega
        have hug : ¬ (0 : Int) < (u : Int) := by omega
        have eds : Hid (ds = Lib.decDigits x) := by
          show ds = _
          have hI := HI.out
          rw [show u = 0 by omega] at hI
          exact dec_done hI hds
        go_wp2_with (at_builtin; refine wpList_append_own _ rfl _ _ 56 rfl w.heap.size 5 i0 (.int .u8 0) 1 1 Tryd.underlying56 hi hz0 hz1 hz2 rfl (by decide) _ 1 _ rfl (own_one wr w.heap.size hz _) ⟨gb, 0, none⟩ ds.length cb (bs ds) rfl ?c0 ?c1 ?c2 ?c3 ?c4 ?c5 ?_)
        case c0 => rw [bs_len]
        case c1 =>
          intro j u hj
          have := HC.out j u hj
          rw [Lib.add_plain] at this
          simpa using this
        case c2 => exact bs_one ds
        case c3 => unfold maxLen; omega
        case c4 => omega
        case c5 => omega
        intro v' w2 hown2 hgrow _
        have hown3 : w2.ownsRow w.heap.size 5 1 v' (45 :: ds).length (bs (45 :: ds)) := by
          rw [bs_cons, List.length_cons, Nat.add_comm ds.length 1]
          exact hown2
        have hb2 : Below w.heap.size w w2 := (hbel.alloc hz _).grown hgrow (by rw [World.size_alloc]; omega) (fun k e => by cases e; exact hz)
        have hcv := conv_own hown3 (by simp)
        clear hown2
        go_wp2_with fail
        go_ret
        exact ⟨by rw [HT.out, ← eds.out]; rfl, hb2⟩

theorem decimal_any (x : Int) (w : World) (h1 : -32768 ≤ x) (h2 : x ≤ 32767) :
    Calls Tryd.prog 20 #[.int .i64 x] w fun e w' => e = .returned (.string ⟨(Lib.itoa x).toArray⟩) ∧ Below w.heap.size w w' := by
  by_cases h : 0 ≤ x
  · obtain ⟨n, rfl⟩ := Int.eq_ofNat_of_zero_le h
    exact decimal_pos n w (by omega)
  · obtain ⟨n, hn⟩ := Int.eq_ofNat_of_zero_le (a := -x) (by omega)
    have e : x = -(n : Int) := by omega
    subst e
    exact decimal_neg n w _ (by omega) h1 rfl (by omega)
end Go.Proofs.YtcjpepbajcdenaaDoor
