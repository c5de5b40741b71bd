/- What the walks of package term ask of the library's calls and of the package-level variables; and the smallest contracts: has, prim.May, mayTag. · The contract of readDecimal. · What the three readers of package term hand back, said for each depth; and what a row of places owns. · The contract of readCon out of readParts'. · The contract of read, one level deeper, out of readCon's. · The contract of readParts out of read's. · The contracts of read at each depth and of readWhole and May. · The contract of Cut. · What the walks ask of the library, paid by the laid contracts. · The contracts of headOf and mayStandBehind. · The contract of Make. · The contracts of the statements' own helpers SameTexts and Num; Make and Cut at any spelling of a length. · The contract of the reference's digits. · What the reference's digits tell, held against the numerals that package term reads. Nothing of the program is walked here. -/
import Derived.Test.YtjamknejllbmkaaGreatDoorRows
import Derived.Test.YtjamknejllbmkaaGreatDoorMPlain
import Derived.WalkKit
import Derived.ProofKit
import Derived.OpenShut
import Derived.Lib.AppendIntMem
import Derived.Deep.QuietTactic
import Derived.BigQuiet
import Derived.Deep.RegionWith
import Derived.WalkSpells
import Derived.Deep.RegionHeld3
import Derived.Deep.Light
import Derived.Lib.Strings
import Derived.Test.YtjamknejllbmkaaGreatDoorShelf
import Derived.Lib.ItoaLen

namespace Go.Proofs.YtjamknejllbmkaaGreatDoor.Tm
open Go.RowKit
set_option linter.unusedVariables false

/-- The library's table and its two errors read as they are laid. -/
def Lw (w : World) : Prop :=
  Lib.TabIs Tryz.prog w "internal/strconv.uint64pow10" .u64 Lib.pow10Tab ∧
  (∃ tp p, w.var? Tryz.prog "strconv.ErrSyntax" = some #[.iface tp p]) ∧
  (∃ tp p, w.var? Tryz.prog "strconv.ErrRange" = some #[.iface tp p])

theorem var_below {P : Program} {w w' : World} {name : String} {v : Array Value} (h : w.var? P name = some v) (hb : Below w.heap.size w w') : w'.var? P name = some v := by
  unfold World.var? at *
  cases hg : P.globalNamed name with
  | none => simp [hg] at h
  | some g =>
    simp only [hg, Option.bind_some] at h ⊢
    have hlt : g < w.heap.size := by
      rcases Nat.lt_or_ge g w.heap.size with h' | h'
      · exact h'
      · rw [Array.getElem?_eq_none h'] at h; simp at h
    rw [hb.block g hlt]
    exact h

theorem Lw.on {w w' : World} (h : Lw w) (hb : Below w.heap.size w w') : Lw w' := by
  obtain ⟨h1, ⟨a, b, h2⟩, c, d, h3⟩ := h
  exact ⟨var_below h1 hb, ⟨a, b, var_below h2 hb⟩, c, d, var_below h3 hb⟩

/-- A text by its bytes. -/
abbrev S (l : List UInt8) : Value := .string ⟨l.toArray⟩

/-- What is asked of strconv.Atoi. -/
def AtoiSaid : Prop := ∀ (s : ByteArray) (w : World), s.size ≤ 281474976710656 → Lw w →
  Calls Tryz.prog 97 #[.string s] w fun e w' => ∃ n er, e = .returned (.tuple #[.int .i64 n, er]) ∧
    ((er = .nilIface ∧ Lib.atoiAll s.data.toList = .ok n) ∨ ((∃ t p, er = .iface t p) ∧ ∀ v, Lib.atoiAll s.data.toList ≠ .ok v)) ∧ Below w.heap.size w w'
/-- What is asked of strconv.Itoa. -/
def ItoaSaid : Prop := ∀ (n : Int) (w : World), -9223372036854775808 ≤ n → n ≤ 9223372036854775807 → Lw w →
  Calls Tryz.prog 62 #[.int .i64 n] w fun e w' => e = .returned (.string ⟨(Lib.itoa n).toArray⟩) ∧ Below w.heap.size w w'

/-- Does that byte stand there? -/
def hasI (s : ByteArray) (a : Int) (n : Int) : Bool := match s.data.toList[a.toNat]? with
  | some c => decide ((c.toNat : Int) = n)
  | none => false

theorem hasI_none {s : ByteArray} {a n : Int} (h : s.size ≤ a.toNat) : hasI s a n = false := by
  unfold hasI; rw [List.getElem?_eq_none (by simpa using h)]
theorem hasI_some {s : ByteArray} {a n : Int} (h : a.toNat < s.size) : hasI s a n = decide ((s[a.toNat].toNat : Int) = n) := by
  unfold hasI; rw [List.getElem?_eq_getElem (by simpa using h)]; rfl

set_option maxHeartbeats 400000 in
theorem has_any (s : ByteArray) (a n : Int) (w : World) (h0 : 0 ≤ a) (hs : s.size ≤ 140737488355328) :
    Calls Tryz.prog 88 #[.string s, .int .i64 a, .int .u8 n] w fun e w' => e = .returned (.bool (hasI s a n)) ∧ w = w' := by
  obtain ⟨k, rfl⟩ := Int.eq_ofNat_of_zero_le h0
  by_cases hk : k < s.size
  · have e : hasI s (k : Int) n = decide ((s[k].toNat : Int) = n) := hasI_some (by simpa using hk)
    rw [e]; clear e
    go_enter Tryz.func88, Tryz.ntmps88
    go_wp2
    go_ret
    exact ⟨rfl, rfl⟩
  · have e : hasI s (k : Int) n = false := hasI_none (by simp; omega)
    rw [e]; clear e
    go_enter Tryz.func88, Tryz.ntmps88
    go_wp2
    go_ret
    exact ⟨rfl, rfl⟩

set_option maxHeartbeats 400000 in
theorem may_any (x : Int) (w : World) :
    Calls Tryz.prog 63 #[.int .i64 x] w fun e w' => e = .returned (.bool (mayB x)) ∧ w = w' := by
  by_cases h1 : -32768 ≤ x
  · have e : mayB x = decide (x ≤ 32767) := by unfold mayB; simp [h1]
    rw [e]; clear e
    go_enter Tryz.func63, Tryz.ntmps63
    go_wp2
    go_ret
    exact ⟨rfl, rfl⟩
  · have e : mayB x = false := by unfold mayB; simp [h1]
    rw [e]; clear e
    go_enter Tryz.func63, Tryz.ntmps63
    go_wp2
    go_ret
    exact ⟨rfl, rfl⟩

set_option maxHeartbeats 400000 in
theorem tag_any (x : Int) (w : World) :
    Calls Tryz.prog 64 #[.int .i64 x] w fun e w' => e = .returned (.bool (tagB x)) ∧ w = w' := by
  by_cases h1 : 0 ≤ x
  · have e : tagB x = decide (x ≤ 99) := by unfold tagB; simp [h1]
    rw [e]; clear e
    go_enter Tryz.func64, Tryz.ntmps64
    go_wp2
    go_ret
    exact ⟨rfl, rfl⟩
  · have e : tagB x = false := by unfold tagB; simp [h1]
    rw [e]; clear e
    go_enter Tryz.func64, Tryz.ntmps64
    go_wp2
    go_ret
    exact ⟨rfl, rfl⟩

end Go.Proofs.YtjamknejllbmkaaGreatDoor.Tm

namespace Go.Proofs.YtjamknejllbmkaaGreatDoor.Tm
open Go.RowKit
set_option linter.unusedVariables false

/-- The digits and signs from a place on. -/
def run (s : ByteArray) (a : Nat) : List UInt8 := numPart (s.data.toList.drop a)

theorem run_le (s : ByteArray) (a : Nat) (h : a ≤ s.size) : a + (run s a).length ≤ s.size := by
  have := numPart_le (s.data.toList.drop a)
  rw [List.length_drop] at this
  have e : s.data.toList.length = s.size := by simp
  unfold run; omega
theorem run_in {s : ByteArray} {a j : Nat} (h : j < (run s a).length) (hs : a + j < s.size) : isNC s[a + j] = true := by
  have hm : (run s a)[j] ∈ run s a := List.getElem_mem h
  have h1 := numPart_all _ _ hm
  have e : (run s a)[j]? = (s.data.toList.drop a)[j]? := by
    have := numPart_take (s.data.toList.drop a)
    rw [show run s a = numPart (s.data.toList.drop a) from rfl]
    conv => lhs; rw [← this]
    rw [List.getElem?_take, if_pos (show j < (numPart (s.data.toList.drop a)).length from h)]
  rw [List.getElem?_eq_getElem h, List.getElem?_drop, List.getElem?_eq_getElem (by simpa using hs)] at e
  have e' := Option.some.inj e
  rw [e'] at h1
  exact h1
theorem run_out {s : ByteArray} {a : Nat} (hs : a + (run s a).length < s.size) : isNC s[a + (run s a).length] = false := by
  refine numPart_stop (s.data.toList.drop a) _ ?_
  rw [show (numPart (s.data.toList.drop a)).length = (run s a).length from rfl, List.getElem?_drop, List.getElem?_eq_getElem (by simpa using hs)]
  rfl

theorem nc_yes {c : UInt8} (h : isNC c = true) : (c.toNat : Int) = 45 ∨ ((c.toNat : Int) ≠ 45 ∧ 48 ≤ (c.toNat : Int) ∧ (c.toNat : Int) ≤ 57) := by
  unfold isNC at h
  simp only [Bool.or_eq_true, beq_iff_eq, Bool.and_eq_true, decide_eq_true_eq] at h
  rcases h with h | h
  · subst h; exact Or.inl rfl
  · exact Or.inr (by omega)
theorem nc_no {c : UInt8} (h : isNC c = false) : (c.toNat : Int) ≠ 45 ∧ ((c.toNat : Int) < 48 ∨ (48 ≤ (c.toNat : Int) ∧ 57 < (c.toNat : Int))) := by
  unfold isNC at h
  simp only [Bool.or_eq_false_iff, beq_eq_false_iff_ne, Bool.and_eq_false_imp, decide_eq_true_eq, decide_eq_false_iff_not] at h
  refine ⟨fun e => h.1 (by apply UInt8.toNat_inj.1; simp; omega), ?_⟩
  by_cases h48 : 48 ≤ c.toNat
  · exact Or.inr ⟨by omega, by have := h.2 h48; omega⟩
  · exact Or.inl (by omega)

theorem run_piece (s : ByteArray) (a : Nat) : (s.extract a (a + (run s a).length)).data.toList = run s a := by
  rw [Lib.extract_data, Nat.add_sub_cancel_left]; exact numPart_take _
theorem small_of {v : Int} (h : mayB v = true ∨ tagB v = true) : -100000 ≤ v ∧ v ≤ 100000 := by
  unfold mayB tagB at h
  simp only [Bool.and_eq_true, decide_eq_true_eq] at h
  omega
/-- Atoi took it, and it is or is not written so. -/
theorem dec_end {t : List UInt8} {n : Int} (hok : Lib.atoiAll t = .ok n) :
    ((Lib.itoa n == t) = true → canon t = some n) ∧ ((Lib.itoa n == t) = false → ∀ v, canon t = some v → mayB v = false ∧ tagB v = false) := by
  refine ⟨fun h => ?_, fun h v hv => ?_⟩
  · have e : Lib.itoa n = t := by simpa using h
    rw [← e]; exact canon_of_itoa n
  · have key : ¬ (mayB v = true ∨ tagB v = true) := fun hs => by
      obtain ⟨h1, h2⟩ := small_of hs
      have e := canon_atoi hv h1 h2
      rw [hok] at e
      have e : n = v := by injection e
      subst e
      rw [canon_itoa hv] at h; simp at h
    exact ⟨by cases hm : mayB v with
      | false => rfl
      | true => exact absurd (Or.inl hm) key, by cases hm : tagB v with
      | false => rfl
      | true => exact absurd (Or.inr hm) key⟩
/-- Atoi did not take it. -/
theorem dec_none {t : List UInt8} (hno : ∀ v, Lib.atoiAll t ≠ .ok v) : ∀ v, canon t = some v → mayB v = false ∧ tagB v = false := by
  intro v hv
  have key : ¬ (mayB v = true ∨ tagB v = true) := fun hs => by
    obtain ⟨h1, h2⟩ := small_of hs
    exact hno v (canon_atoi hv h1 h2)
  exact ⟨by cases hm : mayB v with
    | false => rfl
    | true => exact absurd (Or.inl hm) key, by cases hm : tagB v with
    | false => rfl
    | true => exact absurd (Or.inr hm) key⟩
theorem below_drewN (B : Nat) (w : World) (n : Nat) : Below B w (w.drewN n) := ⟨rfl, rfl, rfl, Nat.le_refl _, fun _ _ => rfl⟩
theorem below_next {a b c : World} (h : Below a.heap.size a b) (k : Below b.heap.size b c) : Below a.heap.size a c := h.trans (k.mono h.size)

set_option maxHeartbeats 800000 in
set_option maxRecDepth 100000 in
theorem dec_any (hA : AtoiSaid) (hI : ItoaSaid) (s : ByteArray) (a : Nat) (w : World) (ha : a ≤ s.size) (hs : s.size ≤ 1024) (hw : Lw w) :
    Calls Tryz.prog 90 #[.string s, .int .i64 a] w fun e w' => ∃ n b, e = .returned (.tuple #[.int .i64 n, .int .i64 ((a : Int) + ((run s a).length : Int)), .bool b]) ∧
      (b = true → canon (run s a) = some n) ∧ (b = false → ∀ v, canon (run s a) = some v → mayB v = false ∧ tagB v = false) ∧ Below w.heap.size w w' := by
  have hr := run_le s a ha
  have hsl : ∀ W, (Instr.slice 9 (.string s) (some (.int .i64 (a : Int))) (some (.int .i64 ((a : Int) + ((run s a).length : Int)))) none).run Tryz.prog W = .ok (.string (s.extract a (a + (run s a).length))) W := fun W => by
    rw [run_slice_string (h := Tryz.underlying9)] <;> first | omega | (congr 2)
  go_enter Tryz.func90, Tryz.ntmps90
  go_wp2_with fail
  go_loop [7] (fun i => ∃ j : Nat, j ≤ (run s a).length ∧ i = .int .i64 ((a + j : Nat) : Int)) (fun i => s.size - (intOf i).toNat)
  case atStart => exact ⟨0, Nat.zero_le _, rfl⟩
  case round =>
    obtain ⟨j, hj, rfl⟩ := hrel
    by_cases hlt : j < (run s a).length
    · have hk : a + j < s.size := by omega
      rcases nc_yes (run_in hlt hk) with h | ⟨h1, h2, h3⟩
      · go_wp2_with fail
        all_goals
          go_round
          case rel => exact ⟨j + 1, by omega, by go_num⟩
          case measure => simp [intOf]; omega
      · go_wp2_with fail
        all_goals
          go_round
          case rel => exact ⟨j + 1, by omega, by go_num⟩
          case measure => simp [intOf]; omega
    · have ej : j = (run s a).length := by omega
      subst ej
      have hx : (∃ hk : a + (run s a).length < s.size, ((s[a + (run s a).length].toNat : Int) == 45) = false ∧ ((s[a + (run s a).length].toNat : Int) < 48 ∨ (48 ≤ (s[a + (run s a).length].toNat : Int) ∧ 57 < (s[a + (run s a).length].toNat : Int)))) ∨ ¬ a + (run s a).length < s.size := by
        by_cases hk : a + (run s a).length < s.size
        · have := nc_no (run_out hk)
          exact Or.inl ⟨hk, beq_eq_false_iff_ne.2 this.1, this.2⟩
        · exact Or.inr hk
      rcases hx with ⟨hk, h1, h2 | ⟨h2, h3⟩⟩ | hk
      all_goals
        go_wp2_with fail
        refine (hA _ _ ?_ hw).mono ?_
        · have : (s.extract a (a + (run s a).length)).size ≤ s.size := by rw [ByteArray.size_extract]; omega
          omega
        rintro e w1 ⟨n, er, rfl, ⟨rfl, hok⟩ | ⟨⟨t, p, rfl⟩, hno⟩, hb1⟩
        · have HO : Hid _ := hok
          clear hok
          have hw1 := hw.on hb1
          have hn : -9223372036854775808 ≤ n ∧ n ≤ 9223372036854775807 := Lib.atoiAll_bounds HO.out
          obtain ⟨hn0, hn1⟩ := hn
          go_wp2_with fail
          have hb0 : Below w1.heap.size w1 w1 := Below.refl _ _
          go_region_held3 (fun w' => Below w1.heap.size w1 w') (first | assumption | (refine Below.drew ?_; assumption) | (refine below_next ?_ (by assumption); assumption))
            (first | (go_at_call 62; refine (hI n _ hn0 hn1 ?_).mono ?_; (exact hw1.on (by assumption)); rintro e w2 ⟨rfl, hb2⟩))
          all_goals
            go_wp2_with fail
            go_ret3
            have ho := HO.out
            rw [run_piece] at ho
            obtain ⟨e1, e2⟩ := dec_end ho
            rw [Lib.toList_data, run_piece]
            exact ⟨n, _, rfl, e1, e2, below_next hb1 (by assumption)⟩
        · have HO : Hid _ := hno
          clear hno
          go_wp2_with fail
          go_quiet (fail)
          all_goals
            go_wp2_with fail
            go_ret3
            have ho := HO.out
            rw [run_piece] at ho
            exact ⟨n, false, rfl, (fun h => Bool.noConfusion h), (fun _ => dec_none ho), below_next hb1 (below_drewN _ _ _)⟩
end Go.Proofs.YtjamknejllbmkaaGreatDoor.Tm

namespace Go.Proofs.YtjamknejllbmkaaGreatDoor.Tm
open Go.RowKit
set_option linter.unusedVariables false

theorem dec_at (hA : AtoiSaid) (hI : ItoaSaid) (s : ByteArray) (i : Int) (a : Nat) (w : World) (hi : i = (a : Int)) (ha : a ≤ s.size) (hs : s.size ≤ 1024) (hw : Lw w) :
    Calls Tryz.prog 90 #[.string s, .int .i64 i] w fun e w' => ∃ n b, e = .returned (.tuple #[.int .i64 n, .int .i64 ((a : Int) + ((run s a).length : Int)), .bool b]) ∧
      (b = true → canon (run s a) = some n) ∧ (b = false → ∀ v, canon (run s a) = some v → mayB v = false ∧ tagB v = false) ∧ Below w.heap.size w w' := by
  subst hi; exact dec_any hA hI s a w ha hs hw

/-- A text from a place on. -/
def fr (s : ByteArray) (a : Nat) : List UInt8 := s.data.toList.drop a
/-- A piece of a text. -/
def pc (s : ByteArray) (p : Nat × Nat) : List UInt8 := (s.data.toList.drop p.1).take (p.2 - p.1)
/-- The cells of places. -/
def plc : List (Nat × Nat) → List Value
  | [] => []
  | p :: r => .int .i64 p.1 :: .int .i64 p.2 :: plc r

theorem plc_app : ∀ (a b : List (Nat × Nat)), plc (a ++ b) = plc a ++ plc b
  | [], b => rfl
  | p :: a, b => by simp only [List.cons_append, plc, plc_app a b]
theorem plc_length : ∀ (a : List (Nat × Nat)), (plc a).length = a.length * 2
  | [] => rfl
  | p :: a => by simp only [plc, List.length_cons, plc_length a]; omega

/-- A slice of places that is the call's own: the parts' texts. -/
def Held (s : ByteArray) (B : Nat) (w : World) (v : Value) (ps : List (Nat × Nat)) (ks : List (List UInt8)) : Prop :=
  ps.map (pc s) = ks ∧ (∀ p ∈ ps, p.1 ≤ p.2 ∧ p.2 ≤ s.size) ∧ w.ownsRow B 173 2 v ps.length (plc ps)

/-- What a reading hands back. -/
def Got (s : ByteArray) (a B : Nat) (w : World) (o : Option Rd) (k x : Int) (v : Value) (to : Int) (b : Bool) : Prop :=
  match o with
  | none => b = false ∧ v = .slice none 0 0
  | some (k', x', ks, n) => b = true ∧ k = k' ∧ x = x' ∧ to = (a : Int) + (n : Int) ∧ ∃ ps, Held s B w v ps ks

/-- What parts hand back. -/
def GotP (s : ByteArray) (a B : Nat) (w : World) (o : Option (List (List UInt8) × Nat)) (v : Value) (to : Int) (b : Bool) : Prop :=
  match o with
  | none => b = false ∧ v = .slice none 0 0
  | some (ks, n) => b = true ∧ to = (a : Int) + (n : Int) ∧ ∃ ps, Held s B w v ps ks

def ReadSaid (f : Nat) : Prop := ∀ (s : ByteArray) (i : Int) (a : Nat) (w : World), i = (a : Int) → a ≤ s.size → s.size ≤ 1024 → s.size - a < f → Lw w →
  Calls Tryz.prog 78 #[.string s, .int .i64 i] w fun e w' => ∃ k x v to b, e = .returned (.tuple #[.agg #[.int .i64 k, .int .i64 x, v, .int .i64 to], .bool b]) ∧
    Below w.heap.size w w' ∧ (∃ g n c, v = .slice g n c) ∧ Got s a w.heap.size w' (T f (fr s a)) k x v to b
def PartsSaid (f : Nat) : Prop := ∀ (s : ByteArray) (i : Int) (a : Nat) (w : World), i = (a : Int) → a ≤ s.size → s.size ≤ 1024 → s.size - a < f → Lw w →
  Calls Tryz.prog 96 #[.string s, .int .i64 i] w fun e w' => ∃ v to b, e = .returned (.tuple #[v, .int .i64 to, .bool b]) ∧
    Below w.heap.size w w' ∧ (∃ g n c, v = .slice g n c) ∧ GotP s a w.heap.size w' (Tp (T f) 3 (fr s a)) v to b
def ConSaid (f : Nat) : Prop := ∀ (s : ByteArray) (i : Int) (a : Nat) (w : World), i = (a : Int) → a < s.size → s.size ≤ 1024 → s.size - a < f + 1 → Lw w →
  Calls Tryz.prog 89 #[.string s, .int .i64 i] w fun e w' => ∃ k x v to b, e = .returned (.tuple #[.agg #[.int .i64 k, .int .i64 x, v, .int .i64 to], .bool b]) ∧
    Below w.heap.size w w' ∧ (∃ g n c, v = .slice g n c) ∧ Got s a w.heap.size w' (conT (T f) (fr s (a + 1))) k x v to b

theorem own_below {W W' : World} {B e size n : Nat} {v : Value} {xs : List Value} (h : W.ownsRow B e size v n xs) (hb : Below W.heap.size W W') : W'.ownsRow B e size v n xs := by
  refine ⟨h.1, ?_⟩
  rcases h.2 with h2 | ⟨g, cap, cur, hv, hg, hh, r⟩
  · exact Or.inl h2
  · refine Or.inr ⟨g, cap, cur, hv, hg, ?_, r⟩
    have hlt : g < W.heap.size := by
      rcases Nat.lt_or_ge g W.heap.size with h' | h'
      · exact h'
      · rw [Array.getElem?_eq_none h'] at hh; cases hh
    rw [hb.block g hlt]; exact hh
theorem own_base {W : World} {B B' e size n : Nat} {v : Value} {xs : List Value} (h : W.ownsRow B e size v n xs) (hB : B' ≤ B) : W.ownsRow B' e size v n xs := by
  refine ⟨h.1, ?_⟩
  rcases h.2 with h2 | ⟨g, cap, cur, hv, hg, r⟩
  · exact Or.inl h2
  · exact Or.inr ⟨g, cap, cur, hv, by omega, r⟩
theorem own_shape {W : World} {B e size n : Nat} {v : Value} {xs : List Value} (h : W.ownsRow B e size v n xs) : ∃ g n c, v = .slice g n c := by
  rcases h.2 with ⟨h2, _⟩ | ⟨g, cap, cur, hv, _⟩
  · exact ⟨_, _, _, h2⟩
  · exact ⟨_, _, _, hv⟩

theorem Held.on {s : ByteArray} {B : Nat} {w w' : World} {v : Value} {ps : List (Nat × Nat)} {ks : List (List UInt8)} (h : Held s B w v ps ks) (hb : Below w.heap.size w w') : Held s B w' v ps ks :=
  ⟨h.1, h.2.1, own_below h.2.2 hb⟩
theorem Held.base {s : ByteArray} {B B' : Nat} {w : World} {v : Value} {ps : List (Nat × Nat)} {ks : List (List UInt8)} (h : Held s B w v ps ks) (hB : B' ≤ B) : Held s B' w v ps ks :=
  ⟨h.1, h.2.1, own_base h.2.2 hB⟩
theorem Held.nil (s : ByteArray) (B : Nat) (w : World) : Held s B w (.slice none 0 0) [] [] :=
  ⟨rfl, (fun p hp => by cases hp), World.ownsRow_nil _ _ _ _⟩

theorem bcell {W w1 : World} (hb : Below W.heap.size W w1) : (∀ b o, b < W.heap.size → w1.cell? ⟨b, o, none⟩ = W.cell? ⟨b, o, none⟩) ∧ (∀ b o, b < W.heap.size → w1.frozen? ⟨b, o, none⟩ = W.frozen? ⟨b, o, none⟩) :=
  ⟨fun b o h => hb.cell (p := ⟨b, o, none⟩) h, fun b o h => hb.frozen (p := ⟨b, o, none⟩) h⟩

end Go.Proofs.YtjamknejllbmkaaGreatDoor.Tm

namespace Go.Proofs.YtjamknejllbmkaaGreatDoor.Tm
open Go.RowKit
set_option linter.unusedVariables false

theorem con_none_a {rd : List UInt8 → Option Rd} {r : List UInt8} (h : ∀ v, canon (numPart r) = some v → tagB v = false) : conT rd r = none := by
  unfold conT
  cases hc : canon (numPart r) with
  | none => rfl
  | some v => simp only; rw [if_neg (by rw [h v hc]; simp)]
theorem con_none_b {rd : List UInt8 → Option Rd} {r : List UInt8} {v : Int} (hc : canon (numPart r) = some v) (ht : tagB v = true) (h40 : r[(numPart r).length]? = some 40)
    (hp : Tp rd 3 (r.drop ((numPart r).length + 1)) = none) : conT rd r = none := by
  unfold conT; rw [hc]; simp only; rw [if_pos ht, if_pos h40, hp]

theorem hasI_iff {s : ByteArray} {i : Int} {a : Nat} {c : UInt8} {n : Int} (hi : i = (a : Int)) (hn : n = (c.toNat : Int)) : hasI s i n = true ↔ s.data.toList[a]? = some c := by
  subst hi; subst hn
  unfold hasI
  rw [Int.toNat_natCast]
  cases h : s.data.toList[a]? with
  | none => simp
  | some d =>
    simp only [decide_eq_true_eq, Option.some.injEq]
    constructor
    · intro e; exact UInt8.toNat_inj.1 (by omega)
    · intro e; rw [e]
theorem hasI_not {s : ByteArray} {i : Int} {a : Nat} {c : UInt8} {n : Int} (hi : i = (a : Int)) (hn : n = (c.toNat : Int)) (h : hasI s i n = false) : s.data.toList[a]? ≠ some c := by
  intro e
  rw [(hasI_iff hi hn).2 e] at h; cases h

theorem fr_at (s : ByteArray) (a n : Nat) : (fr s a)[n]? = s.data.toList[a + n]? := by unfold fr; rw [List.getElem?_drop]
theorem fr_drop (s : ByteArray) (a n : Nat) : (fr s a).drop n = fr s (a + n) := by unfold fr; rw [List.drop_drop]

theorem con_eq_none (f : Nat) (s : ByteArray) (a : Nat) (h : ∀ v, canon (run s (a + 1)) = some v → tagB v = false) : conT (T f) (fr s (a + 1)) = none := con_none_a h
theorem con_eq_bare (f : Nat) (s : ByteArray) (a : Nat) {n : Int} (h1 : canon (run s (a + 1)) = some n) (ht : tagB n = true) (h40 : s.data.toList[a + 1 + (run s (a + 1)).length]? ≠ some 40) :
    conT (T f) (fr s (a + 1)) = some (2, n, [], 1 + (run s (a + 1)).length) := by
  refine conT_bare h1 ht ?_
  show (fr s (a + 1))[(run s (a + 1)).length]? ≠ some 40
  rw [fr_at]; exact h40
theorem con_eq_parts (f : Nat) (s : ByteArray) (a : Nat) {n : Int} (h1 : canon (run s (a + 1)) = some n) (ht : tagB n = true) (h40 : s.data.toList[a + 1 + (run s (a + 1)).length]? = some 40) :
    conT (T f) (fr s (a + 1)) = match Tp (T f) 3 (fr s (a + 1 + (run s (a + 1)).length + 1)) with
      | none => none
      | some (ks, m) => some (2, n, ks, 1 + (run s (a + 1)).length + 1 + m) := by
  have h40' : (fr s (a + 1))[(run s (a + 1)).length]? = some 40 := by rw [fr_at]; exact h40
  have e : (fr s (a + 1)).drop ((run s (a + 1)).length + 1) = fr s (a + 1 + (run s (a + 1)).length + 1) := by rw [fr_drop]; rfl
  rw [← e]
  unfold conT
  rw [show numPart (fr s (a + 1)) = run s (a + 1) from rfl, h1]
  simp only
  rw [if_pos ht, if_pos h40']
  cases Tp (T f) 3 ((fr s (a + 1)).drop ((run s (a + 1)).length + 1)) with
  | none => rfl
  | some x => obtain ⟨ks, m⟩ := x; rfl

theorem Held.set {s : ByteArray} {B : Nat} {w : World} {v : Value} {ps : List (Nat × Nat)} {ks : List (List UInt8)} (h : Held s B w v ps ks) {p : Addr} (hp : p.block < B) (u : Value) : Held s B (w.setCell p u) v ps ks :=
  ⟨h.1, h.2.1, ownsRow_setCell_below h.2.2 hp u⟩
theorem GotP.set {s : ByteArray} {a B : Nat} {w : World} {o : Option (List (List UInt8) × Nat)} {v : Value} {to : Int} {b : Bool} (h : GotP s a B w o v to b) {p : Addr} (hp : p.block < B) (u : Value) : GotP s a B (w.setCell p u) o v to b := by
  unfold GotP at *
  cases o with
  | none => exact h
  | some x =>
    obtain ⟨h1, h2, ps, h3⟩ := h
    exact ⟨h1, h2, ps, h3.set hp u⟩
theorem got_parts {f : Nat} {s : ByteArray} {a B B' : Nat} {w : World} {n : Int} {v : Value} {to : Int} {b : Bool} (h1 : canon (run s (a + 1)) = some n) (ht : tagB n = true) (h40 : s.data.toList[a + 1 + (run s (a + 1)).length]? = some 40)
    (hB : B' ≤ B) (h : GotP s (a + 1 + (run s (a + 1)).length + 1) B w (Tp (T f) 3 (fr s (a + 1 + (run s (a + 1)).length + 1))) v to b) :
    Got s a B' w (conT (T f) (fr s (a + 1))) 2 n v to b := by
  rw [con_eq_parts f s a h1 ht h40]
  unfold GotP at h
  cases hp : Tp (T f) 3 (fr s (a + 1 + (run s (a + 1)).length + 1)) with
  | none => rw [hp] at h; exact h
  | some x =>
    obtain ⟨ks, m⟩ := x
    rw [hp] at h
    obtain ⟨e1, e2, ps, e3⟩ := h
    exact ⟨e1, rfl, rfl, by rw [e2]; omega, ps, e3.base hB⟩

set_option maxHeartbeats 800000 in
set_option maxRecDepth 100000 in
theorem con_of (hA : AtoiSaid) (hI : ItoaSaid) (f : Nat) (hP : PartsSaid f) : ConSaid f := by
  intro s i a w hi ha hs hf hw
  subst hi
  have hr := run_le s (a + 1) ha
  go_enter Tryz.func89, Tryz.ntmps89
  go_wp2_with fail
  refine (dec_at hA hI s _ (a + 1) _ (by omega) ha hs ?_).mono ?_
  · exact hw.on ((Below.refl _ _).alloc (Nat.le_refl _) _)
  rintro e w1 ⟨n, b, rfl, hb1, hb0, hbel⟩
  obtain ⟨hc, hfz⟩ := bcell hbel
  have hz : w.heap.size < w1.heap.size := by have := hbel.size; simp at this; omega
  have h01 : Below w.heap.size w w1 := ((Below.refl _ _).alloc (Nat.le_refl _) _).trans (hbel.mono (by simp))
  cases b with
  | false =>
    have H0 : Hid _ := hb0 rfl
    clear hb1 hb0
    go_wp2_with fail
    refine bodyPost_ret (v := .tuple #[.agg #[.int .i64 0, .int .i64 0, .slice none 0 0, .int .i64 0], .bool false]) (by simp [results, Tryz.results89, go_sem, hc]) rfl ⟨0, 0, _, 0, false, rfl, ?_, ⟨_, _, _, rfl⟩, ?_⟩
    · exact (((h01.setCell (Nat.le_refl _) _).setCell (Nat.le_refl _) _).setCell (Nat.le_refl _) _).setCell (Nat.le_refl _) _
    · rw [con_eq_none f s a (fun v hv => (H0.out v hv).2)]; exact ⟨rfl, rfl⟩
  | true =>
    have H1 : Hid _ := hb1 rfl
    clear hb1 hb0
    cases ht : tagB n with
    | false =>
      go_wp2_with (go_at_call 64; refine (tag_any _ _).mono ?_; rintro e w' ⟨rfl, rfl⟩)
      refine bodyPost_ret (v := .tuple #[.agg #[.int .i64 0, .int .i64 0, .slice none 0 0, .int .i64 0], .bool false]) (by simp [results, Tryz.results89, go_sem, hc]) rfl ⟨0, 0, _, 0, false, rfl, ?_, ⟨_, _, _, rfl⟩, ?_⟩
      · exact (((h01.setCell (Nat.le_refl _) _).setCell (Nat.le_refl _) _).setCell (Nat.le_refl _) _).setCell (Nat.le_refl _) _
      · have h1 := H1.out
        rw [con_eq_none f s a (fun v hv => by rw [h1] at hv; rw [← Option.some.inj hv]; exact ht)]; exact ⟨rfl, rfl⟩
    | true =>
      cases hh : hasI s ((a : Int) + 1 + ((run s (a + 1)).length : Int)) 40 with
      | false =>
        go_wp2_with (first | (go_at_call 64; refine (tag_any _ _).mono ?_; rintro e w' ⟨rfl, rfl⟩) | (go_at_call 88; refine (has_any _ _ _ _ (by omega) (by omega)).mono ?_; rintro e w' ⟨rfl, rfl⟩))
        refine bodyPost_ret (v := .tuple #[.agg #[.int .i64 2, .int .i64 n, .slice none 0 0, .int .i64 ((a : Int) + 1 + ((run s (a + 1)).length : Int))], .bool true]) (by simp [results, Tryz.results89, go_sem, hc, hz]) rfl ⟨2, n, _, _, true, rfl, ?_, ⟨_, _, _, rfl⟩, ?_⟩
        · exact ((((h01.setCell (Nat.le_refl _) _).setCell (Nat.le_refl _) _).setCell (Nat.le_refl _) _).setCell (Nat.le_refl _) _).alloc (by simp; omega) _
        · have h1 := H1.out
          have h40 := hasI_not (c := 40) (a := a + 1 + (run s (a + 1)).length) (by omega) rfl hh
          rw [con_eq_bare f s a h1 ht h40]
          exact ⟨rfl, rfl, rfl, by omega, [], Held.nil _ _ _⟩
      | true =>
        have h40 : Hid _ := (hasI_iff (c := 40) (a := a + 1 + (run s (a + 1)).length) (by omega) rfl).1 hh
        have hlt : a + 1 + (run s (a + 1)).length < s.size := by
          have := lt_of_at h40.out
          simpa using this
        go_wp2_with (first | (go_at_call 64; refine (tag_any _ _).mono ?_; rintro e w' ⟨rfl, rfl⟩) | (go_at_call 88; refine (has_any _ _ _ _ (by omega) (by omega)).mono ?_; rintro e w' ⟨rfl, rfl⟩))
        refine (hP s _ (a + 1 + (run s (a + 1)).length + 1) _ (by omega) hlt hs (by omega) ?_).mono ?_
        · exact (hw.on h01).on ((Below.refl _ _).alloc (Nat.le_refl _) _)
        rintro e w2 ⟨v, to, b, rfl, hbel2, ⟨g, n', c, rfl⟩, hgot⟩
        have HG : Hid _ := hgot
        clear hgot
        obtain ⟨hc2, hfz2⟩ := bcell hbel2
        have hz2 : w1.heap.size < w2.heap.size := by have := hbel2.size; simp at this; omega
        have hz3 : w.heap.size < w1.heap.size + 1 := by omega
        have hz4 : w.heap.size ≠ w1.heap.size := by omega
        have h02 : Below w.heap.size w w2 := (h01.alloc (Nat.le_of_lt hz) _).trans (hbel2.mono (by simp; omega))
        go_wp2_with fail
        refine bodyPost_ret (v := .tuple #[.agg #[.int .i64 2, .int .i64 n, .slice g n' c, .int .i64 to], .bool b]) (by simp [results, Tryz.results89, go_sem, hc, hz, hc2, hz3]) rfl ⟨2, n, _, to, b, rfl, ?_, ⟨_, _, _, rfl⟩, ?_⟩
        · exact (((((h02.setCell (Nat.le_of_lt hz) _).setCell (Nat.le_of_lt hz) _).setCell (Nat.le_refl _) _).setCell (Nat.le_refl _) _).setCell (Nat.le_refl _) _).setCell (Nat.le_refl _) _
        · have hp : GotP s (a + 1 + (run s (a + 1)).length + 1) _ w2 (Tp (T f) 3 (fr s (a + 1 + (run s (a + 1)).length + 1))) _ to b := HG.out
          have hB : (w1.alloc (Obj.cells #[Value.int IntKind.i64 2, Value.int IntKind.i64 n, Value.slice none 0 0, Value.int IntKind.i64 ((a : Int) + 1 + ((run s (a + 1)).length : Int))] 120)).heap.size = w1.heap.size + 1 := by simp
          rw [hB] at hp
          refine got_parts H1.out ht h40.out (B := w1.heap.size + 1) (by omega) ?_
          exact (((((hp.set (by simp) _).set (by simp) _).set (by simp; omega) _).set (by simp; omega) _).set (by simp; omega) _).set (by simp; omega) _
end Go.Proofs.YtjamknejllbmkaaGreatDoor.Tm

namespace Go.Proofs.YtjamknejllbmkaaGreatDoor.Tm
open Go.RowKit
set_option linter.unusedVariables false

theorem fr_zero (s : ByteArray) (a : Nat) : (fr s a)[0]? = s.data.toList[a]? := by rw [fr_at]; rfl
theorem T_is_hole (f : Nat) (s : ByteArray) (a : Nat) (h : s.data.toList[a]? = some 95) : T (f + 1) (fr s a) = some (0, 0, [], 1) := T_hole (by rw [fr_zero]; exact h)
theorem T_is_fail (f : Nat) (s : ByteArray) (a : Nat) (h : s.data.toList[a]? = some 33) : T (f + 1) (fr s a) = some (3, 0, [], 1) := T_fail (by rw [fr_zero]; exact h)
theorem T_is_con (f : Nat) (s : ByteArray) (a : Nat) (h : s.data.toList[a]? = some 64) : T (f + 1) (fr s a) = conT (T f) (fr s (a + 1)) := by
  rw [T_con (by rw [fr_zero]; exact h), fr_drop]
theorem T_is_num (f : Nat) (s : ByteArray) (a : Nat) (h1 : s.data.toList[a]? ≠ some 95) (h2 : s.data.toList[a]? ≠ some 33) (h3 : s.data.toList[a]? ≠ some 64) : T (f + 1) (fr s a) = numT (fr s a) :=
  T_num (by rw [fr_zero]; exact h1) (by rw [fr_zero]; exact h2) (by rw [fr_zero]; exact h3)
theorem num_is_none (s : ByteArray) (a : Nat) (h : ∀ v, canon (run s a) = some v → mayB v = false) : numT (fr s a) = none := by
  unfold numT
  rw [show numPart (fr s a) = run s a from rfl]
  cases hc : canon (run s a) with
  | none => rfl
  | some v => simp only; rw [if_neg (by rw [h v hc]; simp)]
theorem num_is_some (s : ByteArray) (a : Nat) {n : Int} (h : canon (run s a) = some n) (hm : mayB n = true) : numT (fr s a) = some (1, n, [], (run s a).length) := by
  unfold numT
  rw [show numPart (fr s a) = run s a from rfl, h]
  simp only; rw [if_pos hm]

theorem Got.set {s : ByteArray} {a B : Nat} {w : World} {o : Option Rd} {k x : Int} {v : Value} {to : Int} {b : Bool} (h : Got s a B w o k x v to b) {p : Addr} (hp : p.block < B) (u : Value) : Got s a B (w.setCell p u) o k x v to b := by
  unfold Got at *
  cases o with
  | none => exact h
  | some y =>
    obtain ⟨h1, h2, h3, h4, ps, h5⟩ := h
    exact ⟨h1, h2, h3, h4, ps, h5.set hp u⟩
theorem Got.base {s : ByteArray} {a B B' : Nat} {w : World} {o : Option Rd} {k x : Int} {v : Value} {to : Int} {b : Bool} (h : Got s a B w o k x v to b) (hB : B' ≤ B) : Got s a B' w o k x v to b := by
  unfold Got at *
  cases o with
  | none => exact h
  | some y =>
    obtain ⟨h1, h2, h3, h4, ps, h5⟩ := h
    exact ⟨h1, h2, h3, h4, ps, h5.base hB⟩

set_option maxHeartbeats 800000 in
set_option maxRecDepth 100000 in
theorem read_of (hA : AtoiSaid) (hI : ItoaSaid) (f : Nat) (hC : ConSaid f) : ReadSaid (f + 1) := by
  intro s i a w hi ha hs hf hw
  subst hi
  cases h95 : hasI s (a : Int) 95 with
  | true =>
    have c95 : Hid _ := (hasI_iff (c := 95) (a := a) rfl rfl).1 h95
    go_enter Tryz.func78, Tryz.ntmps78
    go_wp2_with (go_at_call 88; refine (has_any _ _ _ _ (by omega) (by omega)).mono ?_; rintro e w' ⟨rfl, rfl⟩)
    refine bodyPost_ret (v := .tuple #[.agg #[.int .i64 0, .int .i64 0, .slice none 0 0, .int .i64 ((a : Int) + 1)], .bool true]) (by simp [results, Tryz.results78, go_sem]) rfl ⟨0, 0, _, _, true, rfl, ?_, ⟨_, _, _, rfl⟩, ?_⟩
    · exact (Below.refl _ _).alloc (Nat.le_refl _) _
    · rw [T_is_hole f s a c95.out]
      exact ⟨rfl, rfl, rfl, rfl, [], Held.nil _ _ _⟩
  | false =>
    have c95 : Hid _ := hasI_not (c := 95) (a := a) rfl rfl h95
    cases h33 : hasI s (a : Int) 33 with
    | true =>
      have c33 : Hid _ := (hasI_iff (c := 33) (a := a) rfl rfl).1 h33
      go_enter Tryz.func78, Tryz.ntmps78
      go_wp2_with (go_at_call 88; refine (has_any _ _ _ _ (by omega) (by omega)).mono ?_; rintro e w' ⟨rfl, rfl⟩)
      refine bodyPost_ret (v := .tuple #[.agg #[.int .i64 3, .int .i64 0, .slice none 0 0, .int .i64 ((a : Int) + 1)], .bool true]) (by simp [results, Tryz.results78, go_sem]) rfl ⟨3, 0, _, _, true, rfl, ?_, ⟨_, _, _, rfl⟩, ?_⟩
      · exact (Below.refl _ _).alloc (Nat.le_refl _) _
      · rw [T_is_fail f s a c33.out]
        exact ⟨rfl, rfl, rfl, rfl, [], Held.nil _ _ _⟩
    | false =>
      have c33 : Hid _ := hasI_not (c := 33) (a := a) rfl rfl h33
      cases h64 : hasI s (a : Int) 64 with
      | true =>
        have c64 : Hid _ := (hasI_iff (c := 64) (a := a) rfl rfl).1 h64
        have hlt : a < s.size := by
          have := lt_of_at c64.out
          simpa using this
        go_enter Tryz.func78, Tryz.ntmps78
        go_wp2_with (go_at_call 88; refine (has_any _ _ _ _ (by omega) (by omega)).mono ?_; rintro e w' ⟨rfl, rfl⟩)
        refine (hC s _ a _ rfl hlt hs (by omega) ?_).mono ?_
        · exact hw.on ((Below.refl _ _).alloc (Nat.le_refl _) _)
        rintro e w1 ⟨k, x, v, to, b, rfl, hbel, ⟨g, n', c, rfl⟩, hgot⟩
        have HG : Hid _ := hgot
        clear hgot
        obtain ⟨hc, hfz⟩ := bcell hbel
        have hz : w.heap.size < w1.heap.size := by have := hbel.size; simp at this; omega
        have h01 : Below w.heap.size w w1 := ((Below.refl _ _).alloc (Nat.le_refl _) _).trans (hbel.mono (by simp))
        go_wp2_with fail
        refine bodyPost_ret (v := .tuple #[.agg #[.int .i64 k, .int .i64 x, .slice g n' c, .int .i64 to], .bool b]) (by simp [results, Tryz.results78, go_sem, hc]) rfl ⟨k, x, _, to, b, rfl, ?_, ⟨_, _, _, rfl⟩, ?_⟩
        · exact (((h01.setCell (Nat.le_refl _) _).setCell (Nat.le_refl _) _).setCell (Nat.le_refl _) _).setCell (Nat.le_refl _) _
        · rw [T_is_con f s a c64.out]
          have hg : Got s a _ w1 (conT (T f) (fr s (a + 1))) k x _ to b := HG.out
          refine Got.base (B := w.heap.size + 1) ?_ (by omega)
          have hB : (w.alloc (Obj.cells #[Value.int IntKind.i64 0, Value.int IntKind.i64 0, Value.slice none 0 0, Value.int IntKind.i64 0] 120)).heap.size = w.heap.size + 1 := by simp
          rw [hB] at hg
          exact (((hg.set (by simp) _).set (by simp) _).set (by simp) _).set (by simp) _
      | false =>
        have c64 : Hid _ := hasI_not (c := 64) (a := a) rfl rfl h64
        go_enter Tryz.func78, Tryz.ntmps78
        go_wp2_with (go_at_call 88; refine (has_any _ _ _ _ (by omega) (by omega)).mono ?_; rintro e w' ⟨rfl, rfl⟩)
        refine (dec_at hA hI s _ a _ rfl ha hs ?_).mono ?_
        · exact hw.on ((Below.refl _ _).alloc (Nat.le_refl _) _)
        rintro e w1 ⟨n, b, rfl, hb1, hb0, hbel⟩
        obtain ⟨hc, hfz⟩ := bcell hbel
        have hz : w.heap.size < w1.heap.size := by have := hbel.size; simp at this; omega
        have h01 : Below w.heap.size w w1 := ((Below.refl _ _).alloc (Nat.le_refl _) _).trans (hbel.mono (by simp))
        cases b with
        | false =>
          have H0 : Hid _ := hb0 rfl
          clear hb1 hb0
          go_wp2_with fail
          refine bodyPost_ret (v := .tuple #[.agg #[.int .i64 1, .int .i64 n, .slice none 0 0, .int .i64 ((a : Int) + ((run s a).length : Int))], .bool false]) (by simp [results, Tryz.results78, go_sem, hc]) rfl ⟨1, n, _, _, false, rfl, ?_, ⟨_, _, _, rfl⟩, ?_⟩
          · exact (((h01.setCell (Nat.le_refl _) _).setCell (Nat.le_refl _) _).setCell (Nat.le_refl _) _).setCell (Nat.le_refl _) _
          · rw [T_is_num f s a c95.out c33.out c64.out, num_is_none s a (fun v hv => (H0.out v hv).1)]; exact ⟨rfl, rfl⟩
        | true =>
          have H1 : Hid _ := hb1 rfl
          clear hb1 hb0
          go_wp2_with (go_at_call 63; refine (may_any _ _).mono ?_; rintro e w' ⟨rfl, rfl⟩)
          refine bodyPost_ret (v := .tuple #[.agg #[.int .i64 1, .int .i64 n, .slice none 0 0, .int .i64 ((a : Int) + ((run s a).length : Int))], .bool (mayB n)]) (by simp [results, Tryz.results78, go_sem, hc]) rfl ⟨1, n, _, _, mayB n, rfl, ?_, ⟨_, _, _, rfl⟩, ?_⟩
          · exact (((h01.setCell (Nat.le_refl _) _).setCell (Nat.le_refl _) _).setCell (Nat.le_refl _) _).setCell (Nat.le_refl _) _
          · rw [T_is_num f s a c95.out c33.out c64.out]
            have h1 := H1.out
            cases hm : mayB n with
            | false => rw [num_is_none s a (fun v hv => by rw [h1] at hv; rw [← Option.some.inj hv]; exact hm)]; exact ⟨rfl, rfl⟩
            | true => rw [num_is_some s a h1 hm]; exact ⟨rfl, rfl, rfl, rfl, [], Held.nil _ _ _⟩

end Go.Proofs.YtjamknejllbmkaaGreatDoor.Tm

namespace Go.Proofs.YtjamknejllbmkaaGreatDoor.Tm
open Go.RowKit
set_option linter.unusedVariables false

theorem Tryz.info173 : (Tryz.prog.info? 173).map (fun i => (i.zero, i.size, i.bytes)) = some (some (.agg #[.int .i64 0, .int .i64 0]), 2, 16) := by kernel_rfl

/-- So far, and what is still to come. -/
def Sofar (f : Nat) (s : ByteArray) (a : Nat) (ps : List (Nat × Nat)) (c : Nat) : Prop :=
  Tp (T f) 3 (fr s a) = match Tp (T f) (3 - ps.length) (fr s c) with
    | none => none
    | some (ks, m) => some (ps.map (pc s) ++ ks, c - a + m)

theorem own_len {W : World} {B e size n : Nat} {v : Value} {xs : List Value} (h : W.ownsRow B e size v n xs) : ∃ g c, v = .slice g n c ∧ ∀ a, v.ownBlock = some a → B ≤ a ∧ a < W.heap.size := by
  rcases h.2 with ⟨h2, h3⟩ | ⟨g, cap, cur, hv, hB, hh, _⟩
  · subst h3; exact ⟨_, _, h2, fun a e => by subst h2; cases e⟩
  · refine ⟨_, _, hv, fun a e => ?_⟩
    subst hv
    have e : g = a := Option.some.inj e
    subst e
    refine ⟨hB, ?_⟩
    rcases Nat.lt_or_ge g W.heap.size with h' | h'
    · exact h'
    · rw [Array.getElem?_eq_none h'] at hh; cases hh

theorem sofar_start (f : Nat) (s : ByteArray) (a : Nat) : Sofar f s a [] a := by
  unfold Sofar
  show Tp (T f) 3 (fr s a) = match Tp (T f) 3 (fr s a) with
    | none => none
    | some (ks, m) => some ([] ++ ks, a - a + m)
  cases Tp (T f) 3 (fr s a) with
  | none => rfl
  | some x => obtain ⟨ks, m⟩ := x; simp
theorem sofar_full {f : Nat} {s : ByteArray} {a : Nat} {ps : List (Nat × Nat)} {c : Nat} (h : Sofar f s a ps c) (hl : ps.length = 3) : Tp (T f) 3 (fr s a) = none := by
  unfold Sofar at h; rw [h, hl]; rfl
theorem sofar_none {f : Nat} {s : ByteArray} {a : Nat} {ps : List (Nat × Nat)} {c : Nat} (h : Sofar f s a ps c) (hl : ps.length < 3) (hT : T f (fr s c) = none) : Tp (T f) 3 (fr s a) = none := by
  unfold Sofar at h
  obtain ⟨k, hk⟩ : ∃ k, 3 - ps.length = k + 1 := ⟨2 - ps.length, by omega⟩
  rw [h, hk]
  unfold Tp; rw [hT]
theorem fr_len (s : ByteArray) (c : Nat) : (fr s c).length = s.size - c := by unfold fr; rw [List.length_drop]; simp
theorem fr_take (s : ByteArray) (c n : Nat) : (fr s c).take n = pc s (c, c + n) := by
  unfold fr pc; simp only; rw [Nat.add_sub_cancel_left]
theorem sofar_bad {f : Nat} {s : ByteArray} {a : Nat} {ps : List (Nat × Nat)} {c : Nat} (h : Sofar f s a ps c) (hl : ps.length < 3) {y : Rd} (hT : T f (fr s c) = some y)
    (h41 : s.data.toList[c + y.2.2.2]? ≠ some 41) (h32 : s.data.toList[c + y.2.2.2]? ≠ some 32) : Tp (T f) 3 (fr s a) = none := by
  unfold Sofar at h
  obtain ⟨k, hk⟩ : ∃ k, 3 - ps.length = k + 1 := ⟨2 - ps.length, by omega⟩
  rw [h, hk]
  obtain ⟨p, q, r, n⟩ := y
  unfold Tp; rw [hT]; simp only at h41 h32 ⊢
  rw [if_neg (by rw [fr_at]; exact h41), if_neg (by rw [fr_at]; exact h32)]
theorem sofar_last {f : Nat} {s : ByteArray} {a : Nat} {ps : List (Nat × Nat)} {c : Nat} (h : Sofar f s a ps c) (hl : ps.length < 3) (hac : a ≤ c) {y : Rd} (hT : T f (fr s c) = some y)
    (h41 : s.data.toList[c + y.2.2.2]? = some 41) : Tp (T f) 3 (fr s a) = some ((ps ++ [(c, c + y.2.2.2)]).map (pc s), c - a + (y.2.2.2 + 1)) := by
  unfold Sofar at h
  obtain ⟨k, hk⟩ : ∃ k, 3 - ps.length = k + 1 := ⟨2 - ps.length, by omega⟩
  rw [h, hk, Tp_last hT (by rw [fr_at]; exact h41)]
  simp only [fr_take, List.map_append, List.map_cons, List.map_nil]
theorem sofar_on {f : Nat} {s : ByteArray} {a : Nat} {ps : List (Nat × Nat)} {c : Nat} (h : Sofar f s a ps c) (hl : ps.length < 3) (hac : a ≤ c) {y : Rd} (hT : T f (fr s c) = some y)
    (h32 : s.data.toList[c + y.2.2.2]? = some 32) : Sofar f s a (ps ++ [(c, c + y.2.2.2)]) (c + y.2.2.2 + 1) := by
  unfold Sofar at h ⊢
  obtain ⟨k, hk⟩ : ∃ k, 3 - ps.length = k + 1 := ⟨2 - ps.length, by omega⟩
  have hk2 : 3 - (ps ++ [(c, c + y.2.2.2)]).length = k := by simp; omega
  rw [h, hk, hk2]
  have hd : (fr s c).drop (y.2.2.2 + 1) = fr s (c + y.2.2.2 + 1) := by rw [fr_drop]; rfl
  cases ht : Tp (T f) k (fr s (c + y.2.2.2 + 1)) with
  | none =>
    obtain ⟨p, q, r, n⟩ := y
    unfold Tp; rw [hT]; simp only at h32 hd ht ⊢
    rw [if_neg (by rw [fr_at, h32]; decide), if_pos (by rw [fr_at]; exact h32), hd, ht]
  | some x =>
    obtain ⟨ks, m⟩ := x
    rw [Tp_on hT (by rw [fr_at]; exact h32) (by rw [hd]; exact ht)]
    simp only [fr_take, List.map_append, List.map_cons, List.map_nil, List.append_assoc, List.cons_append, List.nil_append]
    congr 2; omega

theorem places_on {ps : List (Nat × Nat)} {N : Nat} {p : Nat × Nat} (h : ∀ p ∈ ps, p.1 ≤ p.2 ∧ p.2 ≤ N) (hp : p.1 ≤ p.2 ∧ p.2 ≤ N) : ∀ q ∈ ps ++ [p], q.1 ≤ q.2 ∧ q.2 ≤ N := by
  intro q hq
  rcases List.mem_append.1 hq with e | e
  · exact h q e
  · rw [List.mem_singleton] at e; subst e; exact hp

/-- Behind the append: what is owned, that nothing older has turned, and the reading's own block. -/
theorem after_append {w wr w1 w2 : World} {v v' : Value} {ps : List (Nat × Nat)} {c n : Nat} {k x : Int} {u : Value} (hb : Below w.heap.size w w1) (h0 : w.heap.size ≤ wr.heap.size) (h1 : wr.heap.size ≤ w1.heap.size)
    (hblk : ∀ a, v.ownBlock = some a → w.heap.size ≤ a ∧ a < wr.heap.size)
    (hown : w2.ownsRow w.heap.size 173 2 v' (ps.length + 1) (plc ps ++ [.int .i64 (c : Int), .int .i64 ((c : Int) + (n : Int))]))
    (hg : ((w1.alloc (Obj.cells #[.int .i64 k, .int .i64 x, u, .int .i64 ((c : Int) + (n : Int))] 120)).alloc (Obj.cells #[.int .i64 (c : Int), .int .i64 ((c : Int) + (n : Int))] 173)).grownBy w2 v.ownBlock) :
    w2.ownsRow w.heap.size 173 2 v' (ps.length + 1) (plc (ps ++ [(c, c + n)])) ∧ Below w.heap.size w w2 ∧ w2.cell? ⟨w1.heap.size, 3, none⟩ = some (.int .i64 ((c : Int) + (n : Int))) := by
  refine ⟨?_, ?_, ?_⟩
  · rw [plc_app]; exact hown
  · exact ((hb.alloc (by omega) _).alloc (by simp; omega) _).grown hg (by simp; omega) (fun a e => (hblk a e).1)
  · have e := hg.block w1.heap.size (by simp; omega) (fun e => by have := (hblk _ e.symm).2; omega)
    rw [World.cell?_of_block (a := ⟨w1.heap.size, 3, none⟩) e]
    simp

set_option maxHeartbeats 1600000 in
set_option maxRecDepth 100000 in
theorem parts_of (f : Nat) (hR : ReadSaid f) : PartsSaid f := by
  intro s i a w hi ha hs hf hw
  subst hi
  obtain ⟨i0, hi, hz0, hz1, hz2⟩ := info_parts Tryz.info173
  go_enter Tryz.func96, Tryz.ntmps96
  go_wp2_with fail
  go_loopw [1, 7] (fun i v wr => ∃ (c : Nat) (ps : List (Nat × Nat)), ps.length ≤ 3 ∧ i = .int .i64 (c : Int) ∧ a ≤ c ∧ c ≤ s.size ∧ wr.ownsRow w.heap.size 173 2 v ps.length (plc ps) ∧
      Below w.heap.size w wr ∧ (∀ p ∈ ps, p.1 ≤ p.2 ∧ p.2 ≤ s.size) ∧ Sofar f s a ps c)
    (fun i _ _ => s.size + 1 - (intOf i).toNat)
  case atStart => exact ⟨a, [], by simp, rfl, Nat.le_refl _, ha, World.ownsRow_nil _ _ _ _, Below.refl _ _, (fun p hp => by cases hp), sofar_start f s a⟩
  case round =>
    obtain ⟨c, ps, hps, rfl, hac, hcs, hown, hbel, hpp, hso⟩ := hrel
    have HS : Hid (Sofar f s a ps c) := hso
    clear hso
    have HP : Hid (∀ p ∈ ps, p.1 ≤ p.2 ∧ p.2 ≤ s.size) := hpp
    clear hpp
    obtain ⟨gv, cv, rfl, hblk⟩ := own_len hown
    have HB : Hid _ := hblk
    clear hblk
    by_cases hl3 : ps.length < 3
    · go_wp2_with fail
      refine (hR s _ c _ rfl hcs hs (by omega) ?_).mono ?_
      · exact hw.on hbel
      rintro e w1 ⟨k, x, v1, to, b, rfl, hb1, ⟨g, n', c', rfl⟩, hgot⟩
      cases hT : T f (fr s c) with
      | none =>
        rw [hT] at hgot
        obtain ⟨rfl, hv⟩ := hgot
        clear hv
        have HT : Hid _ := hT
        clear hT
        go_wp2_with fail
        go_ret3
        refine ⟨.slice none 0 0, 0, false, rfl, ?_, ⟨_, _, _, rfl⟩, ?_⟩
        · exact (hbel.trans (hb1.mono hbel.size)).alloc (Nat.le_trans hbel.size hb1.size) _
        · rw [sofar_none HS.out hl3 HT.out]; exact ⟨rfl, rfl⟩
      | some y =>
        rw [hT] at hgot
        obtain ⟨k', x', ks, n⟩ := y
        obtain ⟨rfl, rfl, rfl, rfl, ps', hheld⟩ := hgot
        clear hheld
        have hsz := T_size f _ _ hT
        rw [fr_len] at hsz
        obtain ⟨hn0, hn1⟩ := hsz
        simp only at hn0 hn1
        have HT : Hid _ := hT
        clear hT
        have hown1 := own_below hown hb1
        clear hown
        have HB1 : Hid (Below w.heap.size w w1) := hbel.trans (hb1.mono hbel.size)
        have hzb : w.heap.size ≤ wr.heap.size := hbel.size
        have hz1' : wr.heap.size ≤ w1.heap.size := hb1.size
        clear hbel hb1
        go_wp2_with (at_builtin; refine wpList_append_own _ rfl _ _ 118 rfl w.heap.size 173 i0 (.agg #[.int .i64 0, .int .i64 0]) 2 16 Tryz.underlying118 hi hz0 hz1 hz2 rfl (by decide) _ ps.length (plc ps) rfl ((hown1.alloc _).alloc _) ⟨w1.heap.size + 1, 0, none⟩ 1 1 [.int .i64 (c : Int), .int .i64 ((c : Int) + (n : Int))] rfl rfl ?c1 ?c2 ?c3 ?c4 ?c5 ?_)
        case c1 =>
          intro j u hj
          match j, hj with
          | 0, hj => simp at hj; subst hj; simp [Addr.add]
          | 1, hj => simp at hj; subst hj; simp [Addr.add]
        case c2 => intro u hu; simp at hu; rcases hu with rfl | rfl <;> rfl
        case c3 => unfold maxLen; omega
        case c4 => omega
        case c5 => simp; omega
        intro v' w2 hown2 hgrow _
        obtain ⟨hown3, hb2, hcell⟩ := after_append HB1.out hzb hz1' HB.out hown2 hgrow
        clear hown2 hgrow hown1
        obtain ⟨gv', cv', rfl, _⟩ := own_len hown3
        have HO3 : Hid (w2.ownsRow w.heap.size 173 2 (.slice gv' (ps.length + 1) cv') (ps ++ [(c, c + n)]).length (plc (ps ++ [(c, c + n)]))) := by rw [List.length_append]; exact hown3
        clear hown3
        cases h41 : hasI s ((c : Int) + (n : Int)) 41 with
        | true =>
          have c41 : Hid _ := (hasI_iff (c := 41) (a := c + n) (by omega) rfl).1 h41
          go_wp2_with (go_at_call 88; refine (has_any _ _ _ _ (by omega) (by omega)).mono ?_; rintro e w' ⟨rfl, rfl⟩)
          go_quiet (fail)
          go_wp2_with fail
          go_ret3
          refine ⟨_, _, true, rfl, below_next hb2 (below_drewN _ _ _), ⟨_, _, _, rfl⟩, ?_⟩
          rw [sofar_last HS.out hl3 hac HT.out c41.out]
          refine ⟨rfl, by simp only; omega, _, rfl, ?_, own_below HO3.out (below_drewN _ _ _)⟩
          exact places_on HP.out (by simp only; omega)
        | false =>
          have c41 : Hid _ := hasI_not (c := 41) (a := c + n) (by omega) rfl h41
          cases h32 : hasI s ((c : Int) + (n : Int)) 32 with
          | false =>
            have c32 : Hid _ := hasI_not (c := 32) (a := c + n) (by omega) rfl h32
            go_wp2_with (go_at_call 88; refine (has_any _ _ _ _ (by omega) (by omega)).mono ?_; rintro e w' ⟨rfl, rfl⟩)
            go_ret3
            refine ⟨.slice none 0 0, 0, false, rfl, hb2, ⟨_, _, _, rfl⟩, ?_⟩
            rw [sofar_bad HS.out hl3 HT.out c41.out c32.out]; exact ⟨rfl, rfl⟩
          | true =>
            have c32 : Hid _ := (hasI_iff (c := 32) (a := c + n) (by omega) rfl).1 h32
            have hlt : c + n < s.size := by
              have := lt_of_at c32.out
              simpa using this
            go_wp2_with (go_at_call 88; refine (has_any _ _ _ _ (by omega) (by omega)).mono ?_; rintro e w' ⟨rfl, rfl⟩)
            go_roundw
            case rel =>
              refine ⟨c + n + 1, ps ++ [(c, c + n)], by simp; omega, by go_num, by omega, by omega, HO3.out, hb2, ?_, sofar_on HS.out hl3 hac HT.out c32.out⟩
              exact places_on HP.out (by simp only; omega)
            case measure => simp [intOf]; omega
    · go_wp2_with fail
      go_ret3
      refine ⟨.slice none 0 0, 0, false, rfl, hbel, ⟨_, _, _, rfl⟩, ?_⟩
      rw [sofar_full HS.out (by omega)]; exact ⟨rfl, rfl⟩
end Go.Proofs.YtjamknejllbmkaaGreatDoor.Tm

namespace Go.Proofs.YtjamknejllbmkaaGreatDoor.Tm
open Go.RowKit
set_option linter.unusedVariables false

theorem read_all (hA : AtoiSaid) (hI : ItoaSaid) : ∀ f, ReadSaid f
  | 0 => fun s i a w _ _ _ h _ => by omega
  | f + 1 => read_of hA hI f (con_of hA hI f (parts_of f (read_all hA hI f)))

/-- What the reading of a whole text hands back. -/
def GotW (s : ByteArray) (B : Nat) (w : World) (o : Option (Int × Int × List (List UInt8))) (k x : Int) (v : Value) (b : Bool) : Prop :=
  match o with
  | none => b = false
  | some (k', x', ks) => b = true ∧ k = k' ∧ x = x' ∧ ∃ ps, Held s B w v ps ks

theorem GotW.base {s : ByteArray} {B B' : Nat} {w : World} {o : Option (Int × Int × List (List UInt8))} {k x : Int} {v : Value} {b : Bool} (h : GotW s B w o k x v b) (hB : B' ≤ B) : GotW s B' w o k x v b := by
  unfold GotW at *
  cases o with
  | none => exact h
  | some y =>
    obtain ⟨h1, h2, h3, ps, h5⟩ := h
    exact ⟨h1, h2, h3, ps, h5.base hB⟩
theorem GotW.set {s : ByteArray} {B : Nat} {w : World} {o : Option (Int × Int × List (List UInt8))} {k x : Int} {v : Value} {b : Bool} (h : GotW s B w o k x v b) {p : Addr} (hp : p.block < B) (u : Value) : GotW s B (w.setCell p u) o k x v b := by
  unfold GotW at *
  cases o with
  | none => exact h
  | some y =>
    obtain ⟨h1, h2, h3, ps, h5⟩ := h
    exact ⟨h1, h2, h3, ps, h5.set hp u⟩
theorem GotW.on {s : ByteArray} {B : Nat} {w w' : World} {o : Option (Int × Int × List (List UInt8))} {k x : Int} {v : Value} {b : Bool} (h : GotW s B w o k x v b) (hb : Below w.heap.size w w') : GotW s B w' o k x v b := by
  unfold GotW at *
  cases o with
  | none => exact h
  | some y =>
    obtain ⟨h1, h2, h3, ps, h5⟩ := h
    exact ⟨h1, h2, h3, ps, h5.on hb⟩

theorem whole_big {l : List UInt8} (h : 1024 < l.length) : whole l = none := by unfold whole; rw [if_neg (by omega)]
theorem got_whole {s : ByteArray} {B : Nat} {w : World} {k x : Int} {v : Value} {to : Int} {b : Bool} (hs : s.size ≤ 1024) (h : Got s 0 B w (T 1025 (fr s 0)) k x v to b) :
    GotW s B w (whole s.data.toList) k x v (b && (to == (s.size : Int))) := by
  have e0 : fr s 0 = s.data.toList := rfl
  have el : s.data.toList.length = s.size := by simp
  rw [e0] at h
  unfold whole
  rw [if_pos (by rw [el]; exact hs)]
  cases hT : T 1025 s.data.toList with
  | none =>
    rw [hT] at h
    obtain ⟨rfl, _⟩ := h
    rfl
  | some y =>
    obtain ⟨k', x', ks, n⟩ := y
    rw [hT] at h
    obtain ⟨rfl, rfl, rfl, rfl, ps, hh⟩ := h
    simp only
    rw [el]
    by_cases hn : n = s.size
    · rw [if_pos hn]
      refine ⟨?_, rfl, rfl, ps, hh⟩
      rw [hn]; simp
    · rw [if_neg hn]
      show (true && _) = false
      rw [Bool.true_and]
      refine beq_eq_false_iff_ne.2 ?_
      omega

set_option maxHeartbeats 800000 in
set_option maxRecDepth 100000 in
theorem whole_any (hA : AtoiSaid) (hI : ItoaSaid) (s : ByteArray) (w : World) (hs : s.size ≤ 140737488355328) (hw : Lw w) :
    Calls Tryz.prog 56 #[.string s] w fun e w' => ∃ k x v to b, e = .returned (.tuple #[.agg #[.int .i64 k, .int .i64 x, v, .int .i64 to], .bool b]) ∧
      Below w.heap.size w w' ∧ (∃ g n c, v = .slice g n c) ∧ GotW s w.heap.size w' (whole s.data.toList) k x v b := by
  by_cases hbig : 1024 < s.size
  · have hb' : (1024 : Int) < (s.size : Int) := by omega
    go_enter Tryz.func56, Tryz.ntmps56
    go_wp2_with fail
    refine bodyPost_ret (v := .tuple #[.agg #[.int .i64 0, .int .i64 0, .slice none 0 0, .int .i64 0], .bool false]) (by simp [results, Tryz.results56, go_sem]) rfl ⟨0, 0, _, 0, false, rfl, ?_, ⟨_, _, _, rfl⟩, ?_⟩
    · exact (Below.refl _ _).alloc (Nat.le_refl _) _
    · rw [whole_big (by simpa using hbig)]; rfl
  · have hb' : (s.size : Int) ≤ 1024 := by omega
    go_enter Tryz.func56, Tryz.ntmps56
    go_wp2_with fail
    refine (read_all hA hI 1025 s _ 0 _ rfl (Nat.zero_le _) (by omega) (by omega) ?_).mono ?_
    · exact hw.on ((Below.refl _ _).alloc (Nat.le_refl _) _)
    rintro e w1 ⟨k, x, v, to, b, rfl, hbel, ⟨g, n', c, rfl⟩, hgot⟩
    have HG : Hid (Got s 0 (w.heap.size + 1) w1 (T 1025 (fr s 0)) k x (.slice g n' c) to b) := by
      have hB : (w.alloc (Obj.cells #[Value.int IntKind.i64 0, Value.int IntKind.i64 0, Value.slice none 0 0, Value.int IntKind.i64 0] 120)).heap.size = w.heap.size + 1 := by simp
      rw [hB] at hgot; exact hgot
    clear hgot
    obtain ⟨hc, hfz⟩ := bcell hbel
    have hz : w.heap.size < w1.heap.size := by have := hbel.size; simp at this; omega
    have h01 : Below w.heap.size w w1 := ((Below.refl _ _).alloc (Nat.le_refl _) _).trans (hbel.mono (by simp))
    have hset : ∀ w', GotW s (w.heap.size + 1) w1 (whole s.data.toList) k x (.slice g n' c) w' → GotW s w.heap.size ((((((w1.setCell ⟨w.heap.size, 0, none⟩ (.int .i64 k)).setCell ⟨w.heap.size, 1, none⟩ (.int .i64 x)).setCell ⟨w.heap.size, 2, none⟩ (.slice g n' c)).setCell ⟨w.heap.size, 3, none⟩ (.int .i64 to)).alloc (Obj.cells #[.int .i64 k, .int .i64 x, .slice g n' c, .int .i64 to] 120)).drew) (whole s.data.toList) k x (.slice g n' c) w' := fun b' hg => by
      refine (GotW.base (B := w.heap.size + 1) ?_ (by omega))
      have h4 := (((hg.set (p := ⟨w.heap.size, 0, none⟩) (by simp) (.int .i64 k)).set (p := ⟨w.heap.size, 1, none⟩) (by simp) (.int .i64 x)).set (p := ⟨w.heap.size, 2, none⟩) (by simp) (.slice g n' c)).set (p := ⟨w.heap.size, 3, none⟩) (by simp) (.int .i64 to)
      exact h4.on ((Below.refl _ _).alloc (Nat.le_refl _) _).drew
    have HS : Hid _ := hset
    clear hset
    cases b with
    | false =>
      go_wp2_with fail
      go_region
      all_goals
        go_wp2_with fail
        refine bodyPost_ret (v := .tuple #[.agg #[.int .i64 k, .int .i64 x, .slice g n' c, .int .i64 to], .bool false]) (by simp [results, Tryz.results56, go_sem, hc, hz]) rfl ⟨k, x, _, to, false, rfl, ?_, ⟨_, _, _, rfl⟩, ?_⟩
        · exact (((((h01.setCell (Nat.le_refl _) _).setCell (Nat.le_refl _) _).setCell (Nat.le_refl _) _).setCell (Nat.le_refl _) _).alloc (by simp; omega) _).drew
        · exact HS.out _ (got_whole (by omega) HG.out)
    | true =>
      go_wp2_with fail
      go_region
      all_goals
        go_wp2_with fail
        refine bodyPost_ret (v := .tuple #[.agg #[.int .i64 k, .int .i64 x, .slice g n' c, .int .i64 to], .bool (to == (s.size : Int))]) (by simp [results, Tryz.results56, go_sem, hc, hz]) rfl ⟨k, x, _, to, (to == (s.size : Int)), rfl, ?_, ⟨_, _, _, rfl⟩, ?_⟩
        · exact (((((h01.setCell (Nat.le_refl _) _).setCell (Nat.le_refl _) _).setCell (Nat.le_refl _) _).setCell (Nat.le_refl _) _).alloc (by simp; omega) _).drew
        · exact HS.out _ (got_whole (b := true) (by omega) HG.out)

set_option maxHeartbeats 800000 in
theorem tmay_any (hA : AtoiSaid) (hI : ItoaSaid) (s : ByteArray) (w : World) (hs : s.size ≤ 140737488355328) (hw : Lw w) :
    Calls Tryz.prog 42 #[.string s] w fun e w' => e = .returned (.bool (whole s.data.toList).isSome) ∧ Below w.heap.size w w' := by
  go_enter Tryz.func42, Tryz.ntmps42
  go_wp2_with fail
  refine (whole_any hA hI s _ hs hw).mono ?_
  rintro e w1 ⟨k, x, v, to, b, rfl, hbel, ⟨g, n', c, rfl⟩, hgot⟩
  have hb : b = (whole s.data.toList).isSome := by
    unfold GotW at hgot
    cases hw : whole s.data.toList with
    | none => rw [hw] at hgot; exact hgot
    | some y => rw [hw] at hgot; exact hgot.1
  clear hgot
  subst hb
  go_wp2_with fail
  go_ret
  exact ⟨rfl, hbel.alloc hbel.size _⟩

end Go.Proofs.YtjamknejllbmkaaGreatDoor.Tm

namespace Go.Proofs.YtjamknejllbmkaaGreatDoor.Tm
open Go.RowKit
set_option linter.unusedVariables false

/-- What is asked of strings.Clone. -/
def CloneSaid : Prop := ∀ (s : ByteArray) (w : World), s.size ≤ 281474976710656 →
  Calls Tryz.prog 149 #[.string s] w fun e w' => e = .returned (.string s) ∧ Below w.heap.size w w'

theorem Tryz.info9 : (Tryz.prog.info? 9).map (fun i => (i.zero, i.size, i.bytes)) = some (some (.string ⟨#[]⟩), 1, 16) := by kernel_rfl

theorem piece_eq (s : ByteArray) (p : Nat × Nat) : s.extract p.1 p.2 = ⟨(pc s p).toArray⟩ := by
  apply ByteArray.ext
  apply Array.ext'
  rw [Lib.extract_data]
  rfl

/-- What Cut hands back. -/
def GotC (B : Nat) (w : World) (o : Option (Int × Int × List (List UInt8))) (k x : Int) (v : Value) (er : Int) : Prop :=
  match o with
  | none => k = 0 ∧ x = 0 ∧ v = .slice none 0 0 ∧ er = 200
  | some (k', x', ks) => k = k' ∧ x = x' ∧ er = 0 ∧ w.ownsRow B 9 1 v ks.length (ks.map S)

theorem plc_at : ∀ (ps : List (Nat × Nat)) (j : Nat) (h : j < ps.length), (plc ps)[j * 2]? = some (.int .i64 (ps[j].1 : Int)) ∧ (plc ps)[j * 2 + 1]? = some (.int .i64 (ps[j].2 : Int))
  | [], j, h => by simp at h
  | p :: ps, 0, h => by simp [plc]
  | p :: ps, j + 1, h => by
    have := plc_at ps j (by simpa using h)
    rw [show (j + 1) * 2 = j * 2 + 2 by omega]
    simpa [plc] using this

theorem place_cells {w : World} {B : Nat} {g : Option Addr} {n c : Nat} {ps : List (Nat × Nat)} {j : Nat} (h : w.ownsRow B 173 2 (.slice g n c) ps.length (plc ps)) (hj : j < ps.length) :
    ∃ gb, g = some ⟨gb, 0, none⟩ ∧ gb < w.heap.size ∧ w.cell? ⟨gb, j * 2, none⟩ = some (.int .i64 (ps[j].1 : Int)) ∧ w.cell? ⟨gb, j * 2 + 1, none⟩ = some (.int .i64 (ps[j].2 : Int)) := by
  obtain ⟨e1, e2⟩ := plc_at ps j hj
  rcases h.2 with ⟨_, h3⟩ | ⟨gb, cap, cur, hv, hB, hh, _⟩
  · omega
  · injection hv with hv
    subst hv
    have hlt : gb < w.heap.size := by
      rcases Nat.lt_or_ge gb w.heap.size with h' | h'
      · exact h'
      · rw [Array.getElem?_eq_none h'] at hh; cases hh
    have c0 := h.cells (g := gb) rfl _ _ e1
    have c1 := h.cells (g := gb) rfl _ _ e2
    rw [Lib.add_plain, Nat.zero_add] at c0 c1
    exact ⟨gb, rfl, hlt, c0, c1⟩

set_option maxHeartbeats 1600000 in
set_option maxRecDepth 100000 in
theorem cut_any (hA : AtoiSaid) (hI : ItoaSaid) (hC : CloneSaid) (s : ByteArray) (w : World) (hs : s.size ≤ 140737488355328) (hw : Lw w) :
    Calls Tryz.prog 148 #[.string s] w fun e w' => ∃ k x v er, e = .returned (.tuple #[.int .i64 k, .int .i64 x, v, .int .i64 er]) ∧ (∃ g n c, v = .slice g n c) ∧
      Below w.heap.size w w' ∧ GotC w.heap.size w' (whole s.data.toList) k x v er := by
  obtain ⟨i0, hi, hz0, hz1, hz2⟩ := info_parts Tryz.info9
  go_enter Tryz.func148, Tryz.ntmps148
  go_wp2_with fail
  refine (whole_any hA hI s _ hs hw).mono ?_
  rintro e w1 ⟨k, x, v, to, b, rfl, hbel, ⟨g, n', c, rfl⟩, hgot⟩
  cases hW : whole s.data.toList with
  | none =>
    rw [hW] at hgot
    have hb : b = false := hgot
    subst hb
    clear hgot
    go_wp2_with fail
    refine bodyPost_ret (v := .tuple #[.int .i64 0, .int .i64 0, .slice none 0 0, .int .i64 200]) (by simp [results, Tryz.results148, go_sem]) rfl ⟨0, 0, _, 200, rfl, ⟨_, _, _, rfl⟩, hbel.alloc hbel.size _, ?_⟩
    rw [hW]; exact ⟨rfl, rfl, rfl, rfl⟩
  | some y =>
    obtain ⟨k', x', ks⟩ := y
    rw [hW] at hgot
    obtain ⟨rfl, rfl, rfl, ps, hks, hpp, hown⟩ := hgot
    have HW : Hid (whole s.data.toList = some (k, x, ks)) := hW
    clear hW
    have HK : Hid (ps.map (pc s) = ks) := hks
    clear hks
    have HP : Hid (∀ p ∈ ps, p.1 ≤ p.2 ∧ p.2 ≤ s.size) := hpp
    clear hpp
    have HO : Hid (w1.ownsRow w.heap.size 173 2 (.slice g n' c) ps.length (plc ps)) := hown
    have hn' : n' = ps.length := by
      obtain ⟨g0, c0, e, _⟩ := own_len hown
      injection e
    subst hn'
    clear hown
    have hlen : ps.length ≤ 3 := by
      have h3 := (whole_parts HW.out).2.2
      rw [← HK.out, List.length_map] at h3
      exact h3
    have HB : Hid (Below w.heap.size w w1) := hbel
    have hz : w.heap.size ≤ w1.heap.size := hbel.size
    clear hbel
    go_wp2_with fail
    go_loopw [8, 21] (fun v i wr => ∃ j : Nat, j ≤ ps.length ∧ i = .int .i64 (j : Int) ∧ wr.ownsRow (w1.heap.size + 1) 9 1 v j ((ps.take j).map fun p => S (pc s p)) ∧
        Below (w1.heap.size + 1) (w1.alloc (Obj.cells #[.int .i64 k, .int .i64 x, .slice g ps.length c, .int .i64 to] 120)) wr)
      (fun _ i _ => ps.length - (intOf i).toNat)
    case atStart => exact ⟨0, Nat.zero_le _, rfl, World.ownsRow_nil _ _ _ _, Below.refl _ _⟩
    case round =>
      obtain ⟨j, hj, rfl, hown, hbr⟩ := hrel
      have hzr : w1.heap.size + 1 ≤ wr.heap.size := by have := hbr.size; simpa using this
      by_cases hlt : j < ps.length
      · obtain ⟨gv, cv, rfl, hblk⟩ := own_len hown
        have HBL : Hid (∀ a, (Value.slice gv j cv).ownBlock = some a → w1.heap.size + 1 ≤ a ∧ a < wr.heap.size) := hblk
        clear hblk
        obtain ⟨gb, rfl, hgb, hc0, hc1⟩ := place_cells HO.out hlt
        obtain ⟨p, hp⟩ : ∃ p, p = ps[j] := ⟨_, rfl⟩
        rw [← hp] at hc0 hc1
        have hpin := HP.out p (by rw [hp]; exact List.getElem_mem hlt)
        have HPJ : Hid (p = ps[j]) := hp
        clear hp
        obtain ⟨hp1, hp2⟩ := hpin
        have hp1' : (p.1 : Int) ≤ (p.2 : Int) := by omega
        have hp2' : (p.2 : Int) ≤ (s.size : Int) := by omega
        have hc0' : wr.cell? ⟨gb, j * 2, none⟩ = some (.int .i64 (p.1 : Int)) := by
          rw [hbr.cell (p := ⟨gb, j * 2, none⟩) (by simp; omega), World.cell?_alloc_lt _ _ _ (by simpa using hgb)]; exact hc0
        have hc1' : wr.cell? ⟨gb, j * 2 + 1, none⟩ = some (.int .i64 (p.2 : Int)) := by
          rw [hbr.cell (p := ⟨gb, j * 2 + 1, none⟩) (by simp; omega), World.cell?_alloc_lt _ _ _ (by simpa using hgb)]; exact hc1
        clear hc0 hc1
        go_wp2_with fail
        refine (hC _ _ ?_).mono ?_
        · have : (s.extract p.1 p.2).size ≤ s.size := by rw [ByteArray.size_extract]; omega
          omega
        rintro e w2 ⟨rfl, hb2⟩
        have hown2 : w2.ownsRow (w1.heap.size + 1) 9 1 _ j ((ps.take j).map fun p => S (pc s p)) := own_below (hown.alloc _) hb2
        have hbr2 : Below (w1.heap.size + 1) (w1.alloc (Obj.cells #[.int .i64 k, .int .i64 x, .slice (some ⟨gb, 0, none⟩) ps.length c, .int .i64 to] 120)) w2 := (hbr.alloc hzr _).trans (hb2.mono (by simp; omega))
        have hzz2 : w1.heap.size + 1 ≤ w2.heap.size := by have := hb2.size; simp at this; omega
        clear hown hbr hb2
        have HB2 : Hid _ := hbr2
        clear hbr2
        go_wp2_with (at_builtin; refine wpList_append_own _ rfl _ _ 24 rfl (w1.heap.size + 1) 9 i0 (.string ⟨#[]⟩) 1 16 Tryz.underlying24 hi hz0 hz1 hz2 rfl (by decide) _ j _ rfl (hown2.alloc _) ⟨w2.heap.size, 0, none⟩ 1 1 [.string (s.extract p.1 p.2)] rfl rfl ?c1 ?c2 ?c3 ?c4 ?c5 ?_)
        case c1 =>
          intro j u hj
          match j, hj with
          | 0, hj => simp at hj; subst hj; simp [Addr.add]
        case c2 => intro u hu; simp at hu; subst hu; rfl
        case c3 => unfold maxLen; omega
        case c4 => omega
        case c5 => simp; omega
        intro v' w3 hown3 hgrow _
        have hb3 : Below (w1.heap.size + 1) (w1.alloc (Obj.cells #[.int .i64 k, .int .i64 x, .slice (some ⟨gb, 0, none⟩) ps.length c, .int .i64 to] 120)) w3 :=
          (HB2.out.alloc hzz2 _).grown hgrow (by simp; omega) (fun a e => (HBL.out a e).1)
        have hown4 : w3.ownsRow (w1.heap.size + 1) 9 1 v' (j + 1) ((ps.take (j + 1)).map fun p => S (pc s p)) := by
          rw [List.take_add_one, List.getElem?_eq_getElem hlt, List.map_append, ← HPJ.out]
          simp only [Option.toList_some, List.map_cons, List.map_nil]
          rw [show S (pc s p) = .string (s.extract p.1 p.2) by rw [piece_eq], List.map_take]
          exact hown3
        clear hown3 hgrow hown2
        obtain ⟨gv', cv', rfl, _⟩ := own_len hown4
        go_wp2_with fail
        go_roundw
        case rel => exact ⟨j + 1, by omega, by go_num, hown4, hb3⟩
        case measure => simp [intOf]; omega
      · have ej : j = ps.length := by omega
        subst ej
        have hk0 : wr.cell? ⟨w1.heap.size, 0, none⟩ = some (.int .i64 k) := by
          rw [hbr.cell (p := ⟨w1.heap.size, 0, none⟩) (by simp)]; simp
        have hk1 : wr.cell? ⟨w1.heap.size, 1, none⟩ = some (.int .i64 x) := by
          rw [hbr.cell (p := ⟨w1.heap.size, 1, none⟩) (by simp)]; simp
        obtain ⟨gv, cv, rfl, _⟩ := own_len hown
        go_wp2_with fail
        go_quiet (fail)
        go_wp2_with fail
        refine bodyPost_ret (v := .tuple #[.int .i64 k, .int .i64 x, .slice gv ps.length cv, .int .i64 0]) (by simp [results, Tryz.results148, go_sem]) rfl ⟨k, x, _, 0, rfl, ⟨_, _, _, rfl⟩, ?_, ?_⟩
        · have h3 : Below w.heap.size w wr := (HB.out.alloc hz _).trans (hbr.mono (by omega))
          exact below_next h3 (below_drewN _ _ _)
        · rw [HW.out]
          refine ⟨rfl, rfl, rfl, ?_⟩
          have h4 := own_base (B' := w.heap.size) (own_below hown (below_drewN _ _ nq)) (by omega)
          rw [List.take_length] at h4
          rw [← HK.out, List.length_map, List.map_map]
          exact h4
end Go.Proofs.YtjamknejllbmkaaGreatDoor.Tm

namespace Go.Proofs.YtjamknejllbmkaaGreatDoor.Tm
open Go.RowKit
set_option linter.unusedVariables false

theorem itoa_said : ItoaSaid := by
  intro n w h0 h1 hw
  refine (Any.strconv_Itoa Tryz.laysM171 n h0 h1 w hw.1).mono ?_
  rintro e w' ⟨rfl, k, os, rfl⟩
  exact ⟨rfl, Lib.below_grow _ _ (Nat.le_refl _) _ _⟩

theorem atoi_said : AtoiSaid := by
  intro s w hs hw
  obtain ⟨_, ⟨t1, p1, h1⟩, t2, p2, h2⟩ := hw
  cases h : Lib.atoiAll s.data.toList
  · rename_i v
    refine (Any.strconv_Atoi_ok Tryz.laysC172 s (by omega) v h w).mono ?_
    rintro e w' ⟨rfl, rfl | ⟨t, rfl⟩⟩
    · exact ⟨v, _, rfl, Or.inl ⟨rfl, rfl⟩, Below.refl _ _⟩
    · exact ⟨v, _, rfl, Or.inl ⟨rfl, rfl⟩, Lib.bytesWorld_below _ _ _⟩
  · refine (Any.strconv_Atoi_syntax_var Tryz.laysC172 s hs h t1 p1 w h1).mono ?_
    rintro e w' ⟨N, rfl, _, _, hb⟩
    exact ⟨0, _, rfl, Or.inr ⟨⟨_, _, rfl⟩, fun v e => by cases e⟩, hb⟩
  · refine (Any.strconv_Atoi_range_var Tryz.laysC172 s hs h t2 p2 w h2).mono ?_
    rintro e w' ⟨N, rfl, _, _, hb⟩
    exact ⟨_, _, rfl, Or.inr ⟨⟨_, _, rfl⟩, fun v e => by cases e⟩, hb⟩

set_option maxHeartbeats 400000 in
theorem clone_said : CloneSaid := by
  intro s w hs
  go_enter Tryz.func149, Tryz.ntmps149
  go_wp2_with fail
  refine (Any.stringslite_Clone Tryz.laysM316 s w hs).mono ?_
  rintro e w1 ⟨rfl, hb⟩
  go_wp2_with fail
  go_ret
  exact ⟨rfl, hb⟩

end Go.Proofs.YtjamknejllbmkaaGreatDoor.Tm

namespace Go.Proofs.YtjamknejllbmkaaGreatDoor.Tm
open Go.RowKit
set_option linter.unusedVariables false

/-- What headOf hands back. -/
def GotH (o : Option (List UInt8)) (h : ByteArray) (b : Bool) : Prop := match o with
  | none => b = false
  | some t => b = true ∧ h = ⟨t.toArray⟩

theorem head_zero (num : Int) : head 0 num = if num = 0 then some [95] else none := by unfold head; rw [if_pos rfl]
theorem head_three (num : Int) : head 3 num = if num = 0 then some [33] else none := by unfold head; rw [if_neg (by decide), if_pos rfl]
theorem head_one (num : Int) : head 1 num = if mayB num then some (Lib.itoa num) else none := by unfold head; rw [if_neg (by decide), if_neg (by decide), if_pos rfl]
theorem head_two (num : Int) : head 2 num = if tagB num then some (64 :: Lib.itoa num) else none := by unfold head; rw [if_neg (by decide), if_neg (by decide), if_neg (by decide), if_pos rfl]
theorem head_other {kind : Int} (num : Int) (h0 : kind ≠ 0) (h1 : kind ≠ 1) (h2 : kind ≠ 2) (h3 : kind ≠ 3) : head kind num = none := by
  unfold head; rw [if_neg h0, if_neg h3, if_neg h1, if_neg h2]

/-- How headOf ends. -/
def HeadQ (kind num : Int) (w : World) (e : Ending) (w' : World) : Prop := ∃ h b, e = .returned (.tuple #[.string h, .bool b]) ∧ Below w.heap.size w w' ∧ GotH (head kind num) h b

theorem headQ_mk {kind num : Int} {w w' : World} (h : ByteArray) (b : Bool) (hb : Below w.heap.size w w') (hg : GotH (head kind num) h b) : HeadQ kind num w (.returned (.tuple #[.string h, .bool b])) w' := ⟨h, b, rfl, hb, hg⟩
theorem bytes_add (a b : List UInt8) : (⟨a.toArray⟩ : ByteArray) ++ ⟨b.toArray⟩ = ⟨(a ++ b).toArray⟩ := by
  apply ByteArray.ext
  simp

set_option maxHeartbeats 400000 in
theorem head_any (kind num : Int) (w : World) (h0 : -9223372036854775808 ≤ num) (h1 : num ≤ 9223372036854775807) (hw : Lw w) :
    Calls Tryz.prog 45 #[.int .i64 kind, .int .i64 num] w fun e w' => HeadQ kind num w e w' := by
  by_cases k0 : kind = 0
  · subst k0
    go_enter Tryz.func45, Tryz.ntmps45
    go_wp2_with fail
    go_ret2
    refine headQ_mk ⟨#[95]⟩ (num == 0) (Below.refl _ _) ?_
    rw [head_zero]
    by_cases hn : num = 0
    · rw [if_pos hn]; exact ⟨by simp [hn], rfl⟩
    · rw [if_neg hn]; show (num == 0) = false; simp [hn]
  by_cases k3 : kind = 3
  · subst k3
    go_enter Tryz.func45, Tryz.ntmps45
    go_wp2_with fail
    go_ret2
    refine headQ_mk ⟨#[33]⟩ (num == 0) (Below.refl _ _) ?_
    rw [head_three]
    by_cases hn : num = 0
    · rw [if_pos hn]; exact ⟨by simp [hn], rfl⟩
    · rw [if_neg hn]; show (num == 0) = false; simp [hn]
  by_cases k1 : kind = 1
  · subst k1
    go_enter Tryz.func45, Tryz.ntmps45
    go_wp2_with fail
    refine (itoa_said num _ h0 h1 hw).mono ?_
    rintro e w1 ⟨rfl, hb⟩
    go_wp2_with (go_at_call 63; refine (may_any _ _).mono ?_; rintro e w' ⟨rfl, rfl⟩)
    go_ret2
    refine headQ_mk ⟨(Lib.itoa num).toArray⟩ (mayB num) hb ?_
    rw [head_one]
    cases mayB num with
    | false => exact rfl
    | true => exact ⟨rfl, rfl⟩
  by_cases k2 : kind = 2
  · subst k2
    go_enter Tryz.func45, Tryz.ntmps45
    go_wp2_with fail
    refine (itoa_said num _ h0 h1 hw).mono ?_
    rintro e w1 ⟨rfl, hb⟩
    have hil : (Lib.itoa num).length ≤ 21 := Lib.itoa_length_le num h0 h1
    go_wp2_with (go_at_call 64; refine (tag_any _ _).mono ?_; rintro e w' ⟨rfl, rfl⟩)
    go_ret2
    refine headQ_mk (⟨#[64]⟩ ++ ⟨(Lib.itoa num).toArray⟩) (tagB num) hb ?_
    rw [head_two]
    cases tagB num with
    | false => exact rfl
    | true => exact ⟨rfl, bytes_add [64] (Lib.itoa num)⟩
  · have b0 : (kind == 0) = false := by simp [k0]
    have b1 : (kind == 1) = false := by simp [k1]
    have b2 : (kind == 2) = false := by simp [k2]
    have b3 : (kind == 3) = false := by simp [k3]
    have HK : Hid (head kind num = none) := head_other num k0 k1 k2 k3
    clear k0 k1 k2 k3
    go_enter Tryz.func45, Tryz.ntmps45
    go_wp2_with fail
    go_ret2
    refine headQ_mk ⟨#[]⟩ false (Below.refl _ _) ?_
    rw [HK.out]; exact rfl

/-- A slice's texts, wherever it lies. -/
def Txts (w : World) (g : Option Addr) (xs : List ByteArray) : Prop :=
  xs = [] ∨ ∃ bk o, g = some ⟨bk, o, none⟩ ∧ bk < w.heap.size ∧ ∀ (j : Nat) x, xs[j]? = some x → w.cell? ⟨bk, o + j, none⟩ = some (.string x)

theorem Txts.on {w w' : World} {g : Option Addr} {xs : List ByteArray} (h : Txts w g xs) (hb : Below w.heap.size w w') : Txts w' g xs := by
  rcases h with h | ⟨bk, o, h1, h2, h3⟩
  · exact Or.inl h
  · exact Or.inr ⟨bk, o, h1, Nat.lt_of_lt_of_le h2 hb.size, fun j x hx => by rw [hb.cell (p := ⟨bk, o + j, none⟩) h2]; exact h3 j x hx⟩

/-- The texts as lists of bytes. -/
def lst (xs : List ByteArray) : List (List UInt8) := xs.map (·.data.toList)

theorem behind_nilH (kind : Int) : behind kind [] = true := rfl
theorem behind_bad {kind : Int} {kids : List (List UInt8)} (hne : kids ≠ []) (h : kind ≠ 2 ∨ 3 < kids.length) : behind kind kids = false := by
  unfold behind
  rw [List.isEmpty_eq_false_iff.2 hne]
  rcases h with h | h
  · simp [h]
  · have : ¬ kids.length ≤ 3 := by omega
    simp [this]
theorem behind_all {kids : List (List UInt8)} (hne : kids ≠ []) (h : kids.length ≤ 3) : behind 2 kids = kids.all fun s => (whole s).isSome := by
  unfold behind
  rw [List.isEmpty_eq_false_iff.2 hne]
  simp [h]

set_option maxHeartbeats 800000 in
set_option maxRecDepth 100000 in
theorem behind_any (kind : Int) (g : Option Addr) (xs : List ByteArray) (c : Nat) (w : World) (hx : Txts w g xs) (hxs : ∀ x ∈ xs, x.size ≤ 140737488355328) (hn : xs.length ≤ 9223372036854775807) (hw : Lw w) :
    Calls Tryz.prog 46 #[.int .i64 kind, .slice g xs.length c] w fun e w' => e = .returned (.bool (behind kind (lst xs))) ∧ Below w.heap.size w w' := by
  by_cases hnil : xs = []
  · subst hnil
    have hb : behind kind (lst []) = true := behind_nilH kind
    rw [hb]
    go_enter Tryz.func46, Tryz.ntmps46
    go_wp2_with fail
    go_ret
    exact ⟨rfl, Below.refl _ _⟩
  · have hne : lst xs ≠ [] := by unfold lst; simpa using hnil
    have hlen : (lst xs).length = xs.length := by unfold lst; simp
    have hpos : 0 < xs.length := List.length_pos_iff.2 hnil
    have hz : ((xs.length : Int) == 0) = false := by simp; omega
    by_cases k2 : kind = 2
    · subst k2
      by_cases h3 : 3 < xs.length
      · have hb : behind 2 (lst xs) = false := behind_bad hne (Or.inr (by omega))
        rw [hb]
        have h3' : (3 : Int) < (xs.length : Int) := by omega
        go_enter Tryz.func46, Tryz.ntmps46
        go_wp2_with fail
        go_ret
        exact ⟨rfl, Below.refl _ _⟩
      · have hb : behind 2 (lst xs) = (lst xs).all fun s => (whole s).isSome := behind_all hne (by omega)
        rw [hb]
        have h3' : (xs.length : Int) ≤ 3 := by omega
        rcases hx with hx | ⟨bk, o, rfl, hbk, hcells⟩
        · exact absurd hx hnil
        have HC : Hid (∀ (j : Nat) x, xs[j]? = some x → w.cell? ⟨bk, o + j, none⟩ = some (.string x)) := hcells
        clear hcells hb
        go_enter Tryz.func46, Tryz.ntmps46
        go_wp2_with fail
        go_loopw [19] (fun i wr => ∃ j : Nat, j ≤ xs.length ∧ i = .int .i64 (j : Int) ∧ ((lst xs).take j).all (fun s => (whole s).isSome) = true ∧ Below w.heap.size w wr)
          (fun i _ => xs.length - (intOf i).toNat)
        case atStart => exact ⟨0, Nat.zero_le _, rfl, by simp, Below.refl _ _⟩
        case round =>
          obtain ⟨j, hj, rfl, hall, hbr⟩ := hrel
          by_cases hlt : j < xs.length
          · obtain ⟨x, hxj⟩ : ∃ x, xs[j]? = some x := ⟨xs[j], List.getElem?_eq_getElem hlt⟩
            have hcx : wr.cell? ⟨bk, o + j, none⟩ = some (.string x) := by
              rw [hbr.cell (p := ⟨bk, o + j, none⟩) hbk]; exact HC.out j x hxj
            have HXJ : Hid (xs[j]? = some x) := hxj
            clear hxj
            have HA : Hid (((lst xs).take j).all (fun s => (whole s).isSome) = true) := hall
            clear hall
            go_wp2_with fail
            refine (tmay_any atoi_said itoa_said x _ ?_ (hw.on hbr)).mono ?_
            · exact hxs x (List.mem_of_getElem? HXJ.out)
            rintro e w1 ⟨rfl, hb1⟩
            have hb2 : Below w.heap.size w w1 := hbr.trans (hb1.mono hbr.size)
            clear hb1 hbr
            have hxl : (lst xs)[j]? = some x.data.toList := by unfold lst; rw [List.getElem?_map, HXJ.out]; rfl
            cases hm : (whole x.data.toList).isSome with
            | true =>
              have HN : Hid (((lst xs).take (j + 1)).all (fun s => (whole s).isSome) = true) := by
                show ((lst xs).take (j + 1)).all (fun s => (whole s).isSome) = true
                rw [List.take_add_one, hxl, List.all_append, HA.out]; simp [hm]
              clear hxl
              go_wp2_with fail
              go_roundw
              case rel => exact ⟨j + 1, by omega, by go_num, HN.out, hb2⟩
              case measure => simp [intOf]; omega
            | false =>
              have HN : Hid ((lst xs).all (fun s => (whole s).isSome) = false) := by
                show (lst xs).all (fun s => (whole s).isSome) = false
                rw [List.all_eq_false]
                exact ⟨_, List.mem_of_getElem? hxl, by rw [hm]; simp⟩
              clear hxl
              go_wp2_with fail
              go_ret
              rw [HN.out]
              exact ⟨rfl, hb2⟩
          · go_wp2_with fail
            go_ret
            have ej : j = xs.length := by omega
            subst ej
            rw [← hlen, List.take_length] at hall
            rw [hall]
            exact ⟨rfl, hbr⟩
    · have hb : behind kind (lst xs) = false := behind_bad hne (Or.inl k2)
      rw [hb]
      have hk : (kind == 2) = false := by simp [k2]
      have hk' : (kind != 2) = true := by simp [k2]
      go_enter Tryz.func46, Tryz.ntmps46
      go_wp2_with fail
      go_ret
      exact ⟨rfl, Below.refl _ _⟩
end Go.Proofs.YtjamknejllbmkaaGreatDoor.Tm

namespace Go.Proofs.YtjamknejllbmkaaGreatDoor.Tm
open Go.RowKit
set_option linter.unusedVariables false

def mkT (o : Option (List UInt8)) : List UInt8 := match o with
  | none => []
  | some r => r
def mkE (o : Option (List UInt8)) : Int := match o with
  | none => 200
  | some _ => 0

/-- How Make ends. -/
def MakeQ (o : Option (List UInt8)) (w : World) (e : Ending) (w' : World) : Prop := e = .returned (.tuple #[S (mkT o), .int .i64 (mkE o)]) ∧ Below w.heap.size w w'

theorem join_jn : ∀ (l : List (List UInt8)), Lib.join l [32] = jn l
  | [] => rfl
  | [a] => Lib.join_one a [32]
  | a :: b :: r => by
    have ih := join_jn (b :: r)
    rw [Lib.join_cons] at ih ⊢
    simp only [jn]
    rw [← ih]
    simp [Lib.joinTail]

theorem jn_le : ∀ (l : List (List UInt8)) (N : Nat), (∀ s ∈ l, s.length ≤ N) → (jn l).length ≤ l.length * (N + 1)
  | [], N, h => by simp [jn]
  | [a], N, h => by have := h a (by simp); simp [jn]; omega
  | a :: b :: r, N, h => by
    have ih := jn_le (b :: r) N (fun s hs => h s (List.mem_cons_of_mem _ hs))
    have := h a (by simp)
    simp only [jn, List.length_append, List.length_cons] at ih ⊢
    rw [Nat.add_mul]; omega

theorem behind_some {kind : Int} {kids : List (List UInt8)} (hne : kids ≠ []) (h : behind kind kids = true) : kind = 2 ∧ kids.length ≤ 3 ∧ ∀ s ∈ kids, s.length ≤ 1024 := by
  unfold behind at h
  simp only [Bool.or_eq_true, Bool.and_eq_true, decide_eq_true_eq, List.isEmpty_iff, List.all_eq_true] at h
  rcases h with e | ⟨⟨e1, e2⟩, e3⟩
  · exact absurd e hne
  · refine ⟨e1, e2, fun s hs => ?_⟩
    obtain ⟨y, hy⟩ := Option.isSome_iff_exists.1 (e3 s hs)
    obtain ⟨a, b, c⟩ := y
    exact (whole_some hy).1

theorem head_len {kind num : Int} {h : List UInt8} (h0 : -9223372036854775808 ≤ num) (h1 : num ≤ 9223372036854775807) (hh : head kind num = some h) : h.length ≤ 22 := by
  have hl := Lib.itoa_length_le num h0 h1
  unfold head at hh
  split at hh
  · split at hh
    · have e := Option.some.inj hh; subst e; simp
    · cases hh
  · split at hh
    · split at hh
      · have e := Option.some.inj hh; subst e; simp
      · cases hh
    · split at hh
      · split at hh
        · have e := Option.some.inj hh; subst e; omega
        · cases hh
      · split at hh
        · split at hh
          · have e := Option.some.inj hh; subst e; simp; omega
          · cases hh
        · cases hh

theorem mk_head_none {kind num : Int} (kids : List (List UInt8)) (h : head kind num = none) : mk kind num kids = none := by unfold mk; rw [h]
theorem mk_behind_no {kind num : Int} {kids : List (List UInt8)} {t : List UInt8} (h : head kind num = some t) (hb : behind kind kids = false) : mk kind num kids = none := by
  unfold mk; rw [h]; simp only; rw [if_neg (by rw [hb]; simp)]
theorem mk_yes {kind num : Int} {kids : List (List UInt8)} {t : List UInt8} (h : head kind num = some t) (hb : behind kind kids = true) (hl : (t ++ tail kids).length ≤ 1024) : mk kind num kids = some (t ++ tail kids) := by
  unfold mk; rw [h]; simp only; rw [if_pos hb, if_pos hl]
theorem mk_long {kind num : Int} {kids : List (List UInt8)} {t : List UInt8} (h : head kind num = some t) (hb : behind kind kids = true) (hl : ¬ (t ++ tail kids).length ≤ 1024) : mk kind num kids = none := by
  unfold mk; rw [h]; simp only; rw [if_pos hb, if_neg hl]

theorem makeQ_none {o : Option (List UInt8)} {w w' : World} (h : o = none) (hb : Below w.heap.size w w') : MakeQ o w (.returned (.tuple #[.string ⟨#[]⟩, .int .i64 200])) w' := by
  subst h; exact ⟨rfl, hb⟩
theorem makeQ_some {o : Option (List UInt8)} {w w' : World} {t : List UInt8} {s : ByteArray} (h : o = some t) (hs : s = ⟨t.toArray⟩) (hb : Below w.heap.size w w') : MakeQ o w (.returned (.tuple #[.string s, .int .i64 0])) w' := by
  subst h; subst hs; exact ⟨rfl, hb⟩

set_option maxHeartbeats 800000 in
set_option maxRecDepth 100000 in
theorem make_any (kind num : Int) (g : Option Addr) (xs : List ByteArray) (c : Nat) (w : World) (h0 : -9223372036854775808 ≤ num) (h1 : num ≤ 9223372036854775807)
    (hx : Txts w g xs) (hxs : ∀ x ∈ xs, x.size ≤ 140737488355328) (hn : xs.length ≤ 9223372036854775807) (hcap : xs.length ≤ c) (hw : Lw w) :
    Calls Tryz.prog 25 #[.int .i64 kind, .int .i64 num, .slice g xs.length c] w fun e w' => MakeQ (mk kind num (lst xs)) w e w' := by
  go_enter Tryz.func25, Tryz.ntmps25
  go_wp2_with fail
  refine (head_any kind num _ h0 h1 hw).mono ?_
  rintro e w1 ⟨h, b, rfl, hb1, hgot⟩
  cases hh : head kind num with
  | none =>
    rw [hh] at hgot
    have eb : b = false := hgot
    subst eb
    have HK : Hid (mk kind num (lst xs) = none) := mk_head_none _ hh
    clear hgot hh
    go_wp2_with fail
    go_ret2
    exact makeQ_none HK.out hb1
  | some t =>
    rw [hh] at hgot
    obtain ⟨rfl, rfl⟩ := hgot
    have htl := head_len h0 h1 hh
    have HH : Hid (head kind num = some t) := hh
    clear hh
    go_wp2_with fail
    refine (behind_any kind g xs c _ (hx.on hb1) hxs hn (hw.on hb1)).mono ?_
    rintro e w2 ⟨rfl, hb2⟩
    have hb12 : Below w.heap.size w w2 := below_next hb1 hb2
    clear hb1 hb2
    cases hbh : behind kind (lst xs) with
    | false =>
      have HK : Hid (mk kind num (lst xs) = none) := mk_behind_no HH.out hbh
      clear hbh
      go_wp2_with fail
      go_ret2
      exact makeQ_none HK.out hb12
    | true =>
      by_cases hnil : xs = []
      · subst hnil
        have HK : Hid (mk kind num (lst []) = some t) := by
          have := mk_yes HH.out hbh (by show (t ++ []).length ≤ 1024; simp; omega)
          rw [show t ++ tail (lst []) = t from List.append_nil t] at this
          exact this
        clear hbh
        go_wp2_with fail
        go_ret2
        exact makeQ_some HK.out rfl hb12
      · have hne : lst xs ≠ [] := by unfold lst; simpa using hnil
        obtain ⟨rfl, h3, hsz⟩ := behind_some hne hbh
        rcases hx with hx | ⟨bk, o, rfl, hbk, hcells⟩
        · exact absurd hx hnil
        have hjl := jn_le (lst xs) 1024 hsz
        have hjl2 : (jn (lst xs)).length ≤ 4000 := by omega
        have hlen : (lst xs).length = xs.length := by unfold lst; simp
        have hpos : 0 < xs.length := List.length_pos_iff.2 hnil
        have hpos' : (0 : Int) < (xs.length : Int) := by omega
        have HB : Hid (behind 2 (lst xs) = true) := hbh
        clear hbh hjl
        go_wp2_with fail
        refine (Any.strings_Join Tryz.lays156 Tryz.Builder_Extra_156 bk o c xs ⟨#[32]⟩ _ ?_ ?_ ?_ ?_ ?_).mono ?_
        · intro j x hj
          rw [hb12.cell (p := ⟨bk, o + j, none⟩) hbk]; exact hcells j x hj
        · exact Nat.lt_of_lt_of_le hbk hb12.size
        · omega
        · exact hcap
        · show (Lib.join (lst xs) [32]).length ≤ _
          rw [join_jn]; omega
        rintro e w3 ⟨rfl, hb3⟩
        have hb13 : Below w.heap.size w w3 := below_next hb12 hb3
        clear hb12 hb3 hcells
        rw [show Lib.join (xs.map (·.data.toList)) (⟨#[32]⟩ : ByteArray).data.toList = jn (lst xs) from join_jn (lst xs)]
        generalize hj : jn (lst xs) = J at *
        have HJ : Hid (jn (lst xs) = J) := hj
        clear hj
        have htail : tail (lst xs) = 40 :: (J ++ [41]) := by rw [tail, if_neg hne, HJ.out]
        by_cases hL : (1024 : Int) < (t.length : Int) + (1 + (J.length : Int) + 1)
        · have HK : Hid (mk 2 num (lst xs) = none) := mk_long HH.out HB.out (by rw [htail]; simp; omega)
          clear htail
          go_wp2_with fail
          go_ret2
          exact makeQ_none HK.out hb13
        · have HK : Hid (mk 2 num (lst xs) = some (t ++ 40 :: (J ++ [41]))) := by
            have := mk_yes HH.out HB.out (by rw [htail]; simp; omega)
            rw [htail] at this; exact this
          clear htail
          go_wp2_with fail
          go_ret2
          refine makeQ_some HK.out ?_ hb13
          rw [show (⟨#[40]⟩ : ByteArray) = ⟨[40].toArray⟩ from rfl, show (⟨#[41]⟩ : ByteArray) = ⟨[41].toArray⟩ from rfl, bytes_add, bytes_add, bytes_add]
          rfl
end Go.Proofs.YtjamknejllbmkaaGreatDoor.Tm

namespace Go.Proofs.YtjamknejllbmkaaGreatDoor.Tm
open Go.RowKit
set_option linter.unusedVariables false

set_option maxHeartbeats 400000 in
theorem num_any (x : Int) (w : World) :
    Calls Tryz.prog 10 #[.int .i64 x] w fun e w' => e = .returned (.int .i64 x) ∧ w = w' := by
  go_enter Tryz.func10, Tryz.ntmps10
  go_wp2
  go_ret
  exact ⟨rfl, rfl⟩

theorem make_at (kind num : Int) (g : Option Addr) (n : Nat) (xs : List ByteArray) (c : Nat) (w : World) (hl : n = xs.length) (h0 : -9223372036854775808 ≤ num) (h1 : num ≤ 9223372036854775807)
    (hx : Txts w g xs) (hxs : ∀ x ∈ xs, x.size ≤ 140737488355328) (hn : xs.length ≤ 9223372036854775807) (hcap : xs.length ≤ c) (hw : Lw w) :
    Calls Tryz.prog 25 #[.int .i64 kind, .int .i64 num, .slice g n c] w fun e w' => MakeQ (mk kind num (lst xs)) w e w' := by
  subst hl; exact make_any kind num g xs c w h0 h1 hx hxs hn hcap hw

/-- The same texts? -/
def sameB (xs ys : List ByteArray) : Bool := decide (xs = ys)

theorem txts_at {w : World} {g : Option Addr} {xs : List ByteArray} (h : Txts w g xs) {j : Nat} (hj : j < xs.length) : ∃ bk o, g = some ⟨bk, o, none⟩ ∧ w.cell? ⟨bk, o + j, none⟩ = some (.string xs[j]) := by
  rcases h with h | ⟨bk, o, h1, _, h3⟩
  · subst h; simp at hj
  · exact ⟨bk, o, h1, h3 j _ (List.getElem?_eq_getElem hj)⟩

theorem below_two {a b : World} (h : ∃ n, b = a.drewN n) : Below a.heap.size a b := by
  obtain ⟨n, rfl⟩ := h; exact below_drewN _ _ _

/-- Texts as values' bytes. -/
def ba (l : List UInt8) : ByteArray := ⟨l.toArray⟩
theorem own_txts {w : World} {B : Nat} {v : Value} {ks : List (List UInt8)} (h : w.ownsRow B 9 1 v ks.length (ks.map S)) : ∃ g c, v = .slice g (ks.map ba).length c ∧ Txts w g (ks.map ba) ∧ ks.length ≤ c := by
  rcases h.2 with ⟨h2, h3⟩ | ⟨g, cap, cur, hv, hB, hh, hc, _⟩
  · have e : ks = [] := List.length_eq_zero_iff.1 h3
    subst e
    exact ⟨none, 0, h2, Or.inl rfl, Nat.le_refl _⟩
  · refine ⟨_, cap, by rw [List.length_map]; exact hv, Or.inr ⟨g, 0, rfl, ?_, ?_⟩, hc⟩
    · rcases Nat.lt_or_ge g w.heap.size with h' | h'
      · exact h'
      · rw [Array.getElem?_eq_none h'] at hh; cases hh
    · intro j x hj
      subst hv
      have e : (ks.map S)[j]? = some (.string x) := by
        rw [List.getElem?_map] at hj ⊢
        cases hk : ks[j]? with
        | none => rw [hk] at hj; cases hj
        | some l => rw [hk] at hj; have e := Option.some.inj hj; subst e; rfl
      have := h.cells (g := g) rfl j _ e
      rw [Lib.add_plain] at this
      exact this
theorem lst_ba (ks : List (List UInt8)) : lst (ks.map ba) = ks := by
  unfold lst; rw [List.map_map]
  have : (fun l : List UInt8 => (ba l).data.toList) = id := rfl
  show ks.map (fun l => (ba l).data.toList) = ks
  rw [this, List.map_id]
/-- The cells of a new row of texts. -/
theorem new_txts (w : World) (ks : List ByteArray) : Txts (w.alloc (Obj.cells (ks.map Value.string).toArray 9)) (some ⟨w.heap.size, 0, none⟩) ks := by
  refine Or.inr ⟨w.heap.size, 0, rfl, by simp, fun j x hj => ?_⟩
  rw [Nat.zero_add, World.cell?_alloc_new]
  simp [hj]
end Go.Proofs.YtjamknejllbmkaaGreatDoor.Tm

namespace Go.Proofs.YtjamknejllbmkaaGreatDoor.Tm
open Go.RowKit
set_option linter.unusedVariables false

/-- So many digits from the front tell this number, and there it stops. -/
def DigQ (l : List UInt8) (x k : Nat) : Prop :=
  k ≤ l.length ∧ k ≤ 6 ∧ Lib.decFrom 0 (l.take k) = some x ∧ (2 ≤ k → l[0]? ≠ some 48) ∧
    (k = l.length ∨ k = 6 ∨ (∀ c, l[k]? = some c → isDg c = false) ∨ (k ≠ 0 ∧ l[0]? = some 48))

theorem dig_bound {l : List UInt8} {x j : Nat} (h : Lib.decFrom 0 (l.take j) = some x) (hj : j ≤ 5) : x < 100000 := by
  have h1 := Lib.decFrom_lt _ 0 x h
  have h2 : (l.take j).length ≤ 5 := by rw [List.length_take]; omega
  have h3 := Nat.pow_le_pow_right (n := 10) (by decide) h2
  have e : (10 : Nat) ^ 5 = 100000 := by decide
  omega
theorem dig_step {s : ByteArray} {x j : Nat} (h : Lib.decFrom 0 (s.data.toList.take j) = some x) (hj : j < s.size) (h1 : 48 ≤ (s[j].toNat : Int)) (h2 : (s[j].toNat : Int) ≤ 57) :
    Lib.decFrom 0 (s.data.toList.take (j + 1)) = some (x * 10 + (s[j].toNat - 48)) := by
  refine Lib.decFrom_take s.data.toList j 0 x s[j] _ h ?_ ?_
  · rw [List.getElem?_eq_getElem (by simpa using hj)]; rfl
  · unfold Lib.digitVal; rw [if_pos (by omega)]

theorem zero_at {s : ByteArray} (h : 0 < s.size) : s.data.toList[0]? = some s[0] := by
  rw [List.getElem?_eq_getElem (by simpa using h)]; rfl

set_option maxHeartbeats 1600000 in
set_option maxRecDepth 100000 in
theorem digits_any (s : ByteArray) (w : World) (hs : s.size ≤ 1024) :
    Calls Tryz.prog 49 #[.string s] w fun e w' => ∃ x k : Nat, e = .returned (.tuple #[.int .i64 (x : Int), .int .i64 (k : Int)]) ∧ w = w' ∧ DigQ s.data.toList x k := by
  go_enter Tryz.func49, Tryz.ntmps49
  go_wp2_with fail
  go_loop [4, 5] (fun a b => ∃ x j : Nat, j ≤ s.size ∧ j ≤ 6 ∧ a = .int .i64 (x : Int) ∧ b = .int .i64 (j : Int) ∧ Lib.decFrom 0 (s.data.toList.take j) = some x ∧ (2 ≤ j → s.data.toList[0]? ≠ some 48))
    (fun _ b => s.size - (intOf b).toNat)
  case atStart => exact ⟨0, 0, Nat.zero_le _, by omega, rfl, rfl, rfl, fun h => by omega⟩
  case round =>
    obtain ⟨x, j, hj, hj6, rfl, rfl, hd, hz⟩ := hrel
    have HD : Hid (Lib.decFrom 0 (s.data.toList.take j) = some x) := hd
    clear hd
    have HZ : Hid (2 ≤ j → s.data.toList[0]? ≠ some 48) := hz
    clear hz
    by_cases hlt : j < s.size
    · by_cases h6 : j < 6
      · have hx := dig_bound HD.out (by omega)
        by_cases hdg : 48 ≤ (s[j].toNat : Int) ∧ (s[j].toNat : Int) ≤ 57
        · obtain ⟨h1, h2⟩ := hdg
          have HN : Hid (Lib.decFrom 0 (s.data.toList.take (j + 1)) = some (x * 10 + (s[j].toNat - 48))) := dig_step HD.out hlt h1 h2
          by_cases hj0 : j = 0
          · have HJ : Hid (j = 0) := hj0
            have hb0 : ((j : Int) == 0) = true := by simp [hj0]
            clear hj0
            go_wp2_with fail
            go_round
            case rel =>
              refine ⟨x * 10 + (s[j].toNat - 48), j + 1, by omega, by omega, ?_, by go_num, HN.out, fun h => ?_⟩
              · congr 1; omega
              · have := HJ.out; omega
            case measure => simp [intOf]; omega
          · have hb0 : ((j : Int) == 0) = false := by simp; exact hj0
            have hpos : 0 < s.size := by omega
            by_cases hs0 : (s[0].toNat : Int) = 48
            · have hq : ((s[0].toNat : Int) == 48) = true := by simp [hs0]
              have hq2 : ((s[0].toNat : Int) != 48) = false := by simp [hs0]
              have HS0 : Hid ((s[0].toNat : Int) = 48) := hs0
              clear hs0
              go_wp2_with fail
              go_ret2
              refine ⟨x, j, rfl, rfl, by simpa using hj, hj6, HD.out, HZ.out, Or.inr (Or.inr (Or.inr ⟨?_, ?_⟩))⟩
              · intro e; rw [e] at hb0; simp at hb0
              · rw [zero_at hpos]; congr 1; exact UInt8.toNat_inj.1 (by have := HS0.out; simp; omega)
            · have hq2 : ((s[0].toNat : Int) != 48) = true := by simp; exact hs0
              have HNZ : Hid (s.data.toList[0]? ≠ some 48) := by
                show s.data.toList[0]? ≠ some 48
                rw [zero_at hpos]
                intro e
                have e := Option.some.inj e
                exact hs0 (by rw [e]; rfl)
              clear hs0
              go_wp2_with fail
              go_round
              case rel =>
                refine ⟨x * 10 + (s[j].toNat - 48), j + 1, by omega, by omega, ?_, by go_num, HN.out, fun _ => HNZ.out⟩
                congr 1; omega
              case measure => simp [intOf]; omega
        · have hor : (s[j].toNat : Int) < 48 ∨ (48 ≤ (s[j].toNat : Int) ∧ 57 < (s[j].toNat : Int)) := by omega
          have HND : Hid (∀ c, s.data.toList[j]? = some c → isDg c = false) := by
            show ∀ c, s.data.toList[j]? = some c → isDg c = false
            intro c hc
            rw [List.getElem?_eq_getElem (by simpa using hlt)] at hc
            have e : s[j] = c := Option.some.inj hc
            subst e
            unfold isDg
            simp only [Bool.and_eq_false_iff, decide_eq_false_iff_not]
            omega
          clear hdg
          rcases hor with h1 | ⟨h1, h2⟩
          all_goals
            go_wp2_with fail
            go_ret2
            exact ⟨x, j, rfl, rfl, by simpa using hj, hj6, HD.out, HZ.out, Or.inr (Or.inr (Or.inl HND.out))⟩
      · go_wp2_with fail
        go_ret2
        exact ⟨x, j, rfl, rfl, by simpa using hj, hj6, HD.out, HZ.out, Or.inr (Or.inl (by omega))⟩
    · go_wp2_with fail
      go_ret2
      exact ⟨x, j, rfl, rfl, by simpa using hj, hj6, HD.out, HZ.out, Or.inl (by simp; omega)⟩
end Go.Proofs.YtjamknejllbmkaaGreatDoor.Tm

namespace Go.Proofs.YtjamknejllbmkaaGreatDoor.Tm
open Go.RowKit
set_option linter.unusedVariables false

theorem decFrom_mono {l r : List UInt8} {acc a v : Nat} (h : Lib.decFrom acc l = some a) (h2 : Lib.decFrom acc (l ++ r) = some v) : a ≤ v := by
  rw [decFrom_append l r acc a h] at h2
  exact decNat_digits.decFrom_ge r a v h2

/-- The digits are a beginning of the numeral. -/
theorem take_numPart {l : List UInt8} {x k : Nat} (h : DigQ l x k) : ∃ r, numPart l = l.take k ++ r := by
  obtain ⟨h1, _, h3, _, _⟩ := h
  have key : ∀ (k : Nat) (l : List UInt8), k ≤ l.length → (∀ i c, i < k → l[i]? = some c → isNC c = true) → ∃ r, numPart l = l.take k ++ r := by
    intro k
    induction k with
    | zero => intro l _ _; exact ⟨numPart l, by simp⟩
    | succ k ih =>
      intro l hk hc
      cases l with
      | nil => simp at hk
      | cons c l =>
        obtain ⟨r, hr⟩ := ih l (by simpa using hk) (fun i d hi hd => hc (i + 1) d (by omega) (by simpa using hd))
        refine ⟨r, ?_⟩
        have hcc := hc 0 c (by omega) rfl
        show (c :: l).takeWhile isNC = _
        rw [List.takeWhile_cons, if_pos hcc]
        show c :: numPart l = _
        rw [hr]; rfl
  refine key k l h1 (fun i c hi hc => ?_)
  obtain ⟨d, hd⟩ := Lib.digit_of_decFrom _ 0 x h3 i c (by rw [List.getElem?_take, if_pos hi]; exact hc)
  exact isNC_dg (dg_of_val hd)

theorem digit_first {l : List UInt8} {x k : Nat} (h : DigQ l x k) (hk : k ≠ 0) : ∃ c l', l = c :: l' ∧ isDg c = true := by
  obtain ⟨h1, _, h3, _, _⟩ := h
  cases l with
  | nil => simp at h1; omega
  | cons c l' =>
    refine ⟨c, l', rfl, ?_⟩
    obtain ⟨d, hd⟩ := Lib.digit_of_decFrom _ 0 x h3 0 c (by rw [List.getElem?_take, if_pos (by omega)]; rfl)
    exact dg_of_val hd

theorem dg_not_minus {c : UInt8} (h : isDg c = true) : c ≠ 45 := by
  intro e; subst e; simp [isDg] at h

/-- A numeral that opens with a digit: its value is that of its digits. -/
theorem canon_dg {c : UInt8} {r : List UInt8} {v : Int} (hc : isDg c = true) (h : canon (c :: r) = some v) : ∃ m : Nat, v = (m : Int) ∧ Lib.decFrom 0 (c :: r) = some m ∧ (c = 48 → r = []) := by
  rw [canon, if_neg (dg_not_minus hc)] at h
  by_cases h48 : c = 48
  · rw [if_pos h48] at h
    by_cases hr : r = []
    · rw [if_pos hr] at h
      have e := Option.some.inj h
      subst hr; subst h48
      exact ⟨0, e.symm, rfl, fun _ => rfl⟩
    · rw [if_neg hr] at h; cases h
  · rw [if_neg h48] at h
    cases hm : Lib.decNat (c :: r) with
    | none => rw [hm] at h; cases h
    | some m =>
      rw [hm] at h
      exact ⟨m, (Option.some.inj h).symm, (Lib.decNat_some hm).2, fun e => absurd e h48⟩
theorem canon_dg_mk {c : UInt8} {r : List UInt8} {m : Nat} (hc : isDg c = true) (h : Lib.decFrom 0 (c :: r) = some m) (hz : c = 48 → r = []) : canon (c :: r) = some (m : Int) := by
  rw [canon, if_neg (dg_not_minus hc)]
  by_cases h48 : c = 48
  · have hr := hz h48
    subst hr; subst h48
    rw [if_pos rfl, if_pos rfl]
    have e : Lib.decFrom 0 [48] = some 0 := rfl
    rw [e] at h
    have := Option.some.inj h
    subst this; rfl
  · rw [if_neg h48]
    have : Lib.decNat (c :: r) = some m := by unfold Lib.decNat; simpa using h
    rw [this]; rfl

/-- No digit at the front: what is read there is below 0, or nothing. -/
theorem dig_none {l : List UInt8} {x : Nat} (h : DigQ l x 0) : ∀ v, canon (numPart l) = some v → v < 0 := by
  intro v hv
  obtain ⟨_, _, _, _, hstop⟩ := h
  cases l with
  | nil => cases hv
  | cons c l' =>
    have hnd : isDg c = false := by
      rcases hstop with e | e | e | ⟨e, _⟩
      · simp at e
      · omega
      · exact e c rfl
      · exact absurd rfl e
    have hcc : c = 45 := by
      by_cases hn : isNC c = true
      · unfold isNC at hn; unfold isDg at hnd
        simp only [Bool.or_eq_true, beq_iff_eq] at hn
        rcases hn with e | e
        · exact e
        · rw [hnd] at e; cases e
      · unfold numPart at hv
        rw [List.takeWhile_cons, if_neg hn] at hv; cases hv
    subst hcc
    have e : numPart (45 :: l') = 45 :: numPart l' := by unfold numPart; rw [List.takeWhile_cons, if_pos (by decide)]
    rw [e, canon, if_pos rfl] at hv
    by_cases h48 : (numPart l').head? = some 48
    · rw [if_pos h48] at hv; cases hv
    · rw [if_neg h48] at hv
      cases hm : Lib.decNat (numPart l') with
      | none => rw [hm] at hv; cases hv
      | some m =>
        rw [hm] at hv
        have e : -(m : Int) = v := Option.some.inj hv
        cases ht : numPart l' with
        | nil => rw [ht] at hm; cases hm
        | cons d r =>
          rw [ht] at hm h48
          have := (decNat_digits (fun e => h48 (by rw [e]; rfl)) hm).2
          omega

/-- What stands there tells at least as much. -/
theorem dig_least {l : List UInt8} {x k : Nat} (h : DigQ l x k) (hk : k ≠ 0) : ∀ v, canon (numPart l) = some v → (x : Int) ≤ v := by
  intro v hv
  obtain ⟨r, hr⟩ := take_numPart h
  obtain ⟨c, l', rfl, hc⟩ := digit_first h hk
  obtain ⟨k', rfl⟩ : ∃ k', k = k' + 1 := ⟨k - 1, by omega⟩
  rw [List.take_succ_cons] at hr
  rw [hr, List.cons_append] at hv
  obtain ⟨m, rfl, hm, _⟩ := canon_dg hc hv
  have h3 := h.2.2.1
  rw [List.take_succ_cons] at h3
  have := decFrom_mono h3 (r := r) (by rw [List.cons_append]; exact hm)
  omega

/-- A small number: either just that stands there, or nothing that may be, and a digit or a sign follows. -/
theorem dig_small {l : List UInt8} {x k : Nat} (h : DigQ l x k) (hk : k ≠ 0) (hx : x < 100000) :
    ((numPart l).length = k ∧ canon (numPart l) = some (x : Int)) ∨ (canon (numPart l) = none ∧ ∃ c, l[k]? = some c ∧ isNC c = true) := by
  obtain ⟨r, hr⟩ := take_numPart h
  obtain ⟨c, l', rfl, hc⟩ := digit_first h hk
  obtain ⟨k', rfl⟩ : ∃ k', k = k' + 1 := ⟨k - 1, by omega⟩
  have hk1 := h.1
  have h3 := h.2.2.1
  cases r with
  | nil =>
    rw [List.append_nil] at hr
    refine Or.inl ⟨by rw [hr, List.length_take]; omega, ?_⟩
    rw [hr]
    rw [List.take_succ_cons] at h3 ⊢
    refine canon_dg_mk hc h3 (fun e => ?_)
    have h4 := h.2.2.2.1
    by_cases h2 : 2 ≤ k' + 1
    · exact absurd (by rw [e]; rfl) (h4 h2)
    · have : k' = 0 := by omega
      subst this; rfl
  | cons d r =>
    have hd : isNC d = true := numPart_all (c :: l') d (by rw [hr]; simp)
    have hat : (c :: l')[k' + 1]? = some d := by
      have e1 : (numPart (c :: l'))[k' + 1]? = some d := by
        rw [hr, List.getElem?_append_right (by rw [List.length_take]; omega), List.length_take]
        rw [show k' + 1 - min (k' + 1) (c :: l').length = 0 by omega]; rfl
      have e2 := numPart_take (c :: l')
      rw [← e2, List.getElem?_take] at e1
      split at e1
      · exact e1
      · cases e1
    refine Or.inr ⟨?_, d, hat, hd⟩
    cases hv : canon (numPart (c :: l')) with
    | none => rfl
    | some v =>
      exfalso
      have hle := dig_least h hk v hv
      rw [hr] at hv
      rw [List.take_succ_cons, List.cons_append] at hv
      obtain ⟨m, rfl, hm, hz⟩ := canon_dg hc hv
      rcases h.2.2.2.2 with e | e | e | ⟨_, e⟩
      · have := lt_of_at hat; omega
      · -- six digits
        have h4 := h.2.2.2.1 (by omega)
        have hc48 : c ≠ 48 := fun e => h4 (by rw [e]; rfl)
        have hk' : k' = 5 := by omega
        subst hk'
        have hn : Lib.decNat ((c :: l').take 6) = some x := by
          rw [List.take_succ_cons] at h3 ⊢
          unfold Lib.decNat; simpa using h3
        rw [List.take_succ_cons] at hn
        have hdd := (decNat_digits hc48 hn).1
        have hlen := Lib.decDigits_length x
        rw [hdd] at hlen
        have hl6 : (c :: l'.take 5).length = 6 := by
          rw [List.length_cons, List.length_take]; simp at hk1; omega
        rw [hl6] at hlen
        have hlt := Lib.lt_pow_nDigits x
        have : Lib.nDigits x ≤ 5 := by
          rcases Nat.lt_or_ge x 10 with h | h
          · rw [Lib.nDigits_small h]; omega
          rcases Nat.lt_or_ge x 100 with h' | h'
          · rw [Lib.nDigits_unique 1 x (by omega) (by omega)]; omega
          rcases Nat.lt_or_ge x 1000 with h'' | h''
          · rw [Lib.nDigits_unique 2 x (by omega) (by omega)]; omega
          rcases Nat.lt_or_ge x 10000 with h3 | h3
          · rw [Lib.nDigits_unique 3 x (by omega) (by omega)]; omega
          · rw [Lib.nDigits_unique 4 x (by omega) (by omega)]; omega
        omega
      · -- no digit: a sign
        have hnd := e d hat
        obtain ⟨dd, hdd⟩ := Lib.digit_of_decFrom _ 0 m hm (k' + 1) d (by
          have : (c :: (l'.take k' ++ d :: r))[k' + 1]? = (l'.take k' ++ d :: r)[k']? := rfl
          rw [this, List.getElem?_append_right (by rw [List.length_take]; omega), List.length_take]
          simp at hk1
          rw [show k' - min k' l'.length = 0 by omega]; rfl)
        rw [dg_of_val hdd] at hnd; cases hnd
      · have hc48 : c = 48 := by simpa using e
        have := hz hc48
        simp at this

/-- Behind a minus. -/
theorem minus_part (l : List UInt8) : numPart (45 :: l) = 45 :: numPart l := by unfold numPart; rw [List.takeWhile_cons, if_pos (by decide)]
theorem minus_none {l : List UInt8} {x : Nat} (h : DigQ l x 0) : canon (numPart (45 :: l)) = none := by
  rw [minus_part, canon, if_pos rfl]
  split
  · rfl
  · cases hm : Lib.decNat (numPart l) with
    | none => rfl
    | some m =>
      exfalso
      obtain ⟨hne, hd⟩ := Lib.decNat_some hm
      cases ht : numPart l with
      | nil => exact hne ht
      | cons c r =>
        rw [ht] at hd
        obtain ⟨dd, hdd⟩ := Lib.digit_of_decFrom _ 0 m hd 0 c rfl
        have hdg := dg_of_val hdd
        have hl0 : l[0]? = some c := by
          have e2 := numPart_take l
          rw [ht] at e2
          cases l with
          | nil => cases ht
          | cons a l' => rw [List.length_cons, List.take_succ_cons] at e2; injection e2 with e3 _; rw [← e3]; rfl
        rcases h.2.2.2.2 with e | e | e | ⟨e, _⟩
        · have := lt_of_at hl0; omega
        · omega
        · rw [e c hl0] at hdg; cases hdg
        · exact e rfl
theorem minus_some {l : List UInt8} {x k : Nat} (h : DigQ l x k) (hk : k ≠ 0) : (x = 0 → canon (numPart (45 :: l)) = none) ∧ (x ≠ 0 → canon (numPart (45 :: l)) = (canon (numPart l)).map fun v => -v) := by
  obtain ⟨r, hr⟩ := take_numPart h
  obtain ⟨c, l', rfl, hc⟩ := digit_first h hk
  obtain ⟨k', rfl⟩ : ∃ k', k = k' + 1 := ⟨k - 1, by omega⟩
  have h3 := h.2.2.1
  rw [List.take_succ_cons] at hr h3
  rw [minus_part, hr, List.cons_append]
  have hx0 : c = 48 → x = 0 := by
    intro e
    have h4 := h.2.2.2.1
    have : k' = 0 := by
      by_cases h2 : 2 ≤ k' + 1
      · exact absurd (by rw [e]; rfl) (h4 h2)
      · omega
    subst this; subst e
    have e2 : Lib.decFrom 0 (48 :: l'.take 0) = some 0 := rfl
    rw [e2] at h3; exact (Option.some.inj h3).symm
  have hx1 : c ≠ 48 → 1 ≤ x := by
    intro e
    have hn : Lib.decNat (c :: l'.take k') = some x := by unfold Lib.decNat; simpa using h3
    exact (decNat_digits e hn).2
  constructor
  · intro e
    have h48 : c = 48 := by
      by_cases h48 : c = 48
      · exact h48
      · have := hx1 h48; omega
    rw [canon, if_pos rfl, if_pos (by rw [h48]; rfl)]
  · intro e
    have h48 : c ≠ 48 := fun e2 => e (hx0 e2)
    rw [canon, if_pos rfl, if_neg (by intro e2; exact h48 (by simpa using e2)), canon, if_neg (dg_not_minus hc), if_neg h48, Option.map_map]
    rfl
end Go.Proofs.YtjamknejllbmkaaGreatDoor.Tm
