/- What the walks of package term ask of the library's calls and of the package-level variables; and the smallest contracts: has, prim.May, mayTag. -/
import Derived.Test.YtcjpepbajcdenaaDoorRows
import Derived.Test.YtcjpepbajcdenaaDoorPureTwo
import Derived.WalkKit
import Derived.ProofKit
import Derived.OpenShut
import Derived.Lib.AppendIntMem
namespace Go.Proofs.YtcjpepbajcdenaaDoor
open Go.RowKit
set_option linter.unusedVariables false

/-- The library's table and its two errors read as they are laid. -/
def Lw (w : World) : Prop :=
  Lib.TabIs Tryd.prog w "internal/strconv.uint64pow10" .u64 Lib.pow10Tab ∧
  (∃ tp p, w.var? Tryd.prog "strconv.ErrSyntax" = some #[.iface tp p]) ∧
  (∃ tp p, w.var? Tryd.prog "strconv.ErrRange" = some #[.iface tp p])

theorem var_below {P : Program} {w w' : World} {name : String} {v : Array Value} (h : w.var? P name = some v) (hb : Below w.heap.size w w') : w'.var? P name = some v := by
  unfold World.var? at *
  cases hg : P.globalNamed name with
  | none => simp [hg] at h
  | some g =>
    simp only [hg, Option.bind_some] at h ⊢
    have hlt : g < w.heap.size := by
      rcases Nat.lt_or_ge g w.heap.size with h' | h'
      · exact h'
      · rw [Array.getElem?_eq_none h'] at h; simp at h
    rw [hb.block g hlt]
    exact h

theorem Lw.on {w w' : World} (h : Lw w) (hb : Below w.heap.size w w') : Lw w' := by
  obtain ⟨h1, ⟨a, b, h2⟩, c, d, h3⟩ := h
  exact ⟨var_below h1 hb, ⟨a, b, var_below h2 hb⟩, c, d, var_below h3 hb⟩

/-- A text by its bytes. -/
abbrev S (l : List UInt8) : Value := .string ⟨l.toArray⟩

/-- What is asked of strconv.Atoi. -/
def AtoiSaid : Prop := ∀ (s : ByteArray) (w : World), s.size ≤ 281474976710656 → Lw w →
  Calls Tryd.prog 37 #[.string s] w fun e w' => ∃ n er, e = .returned (.tuple #[.int .i64 n, er]) ∧
    ((er = .nilIface ∧ Lib.atoiAll s.data.toList = .ok n) ∨ ((∃ t p, er = .iface t p) ∧ ∀ v, Lib.atoiAll s.data.toList ≠ .ok v)) ∧ Below w.heap.size w w'
/-- What is asked of strconv.Itoa. -/
def ItoaSaid : Prop := ∀ (n : Int) (w : World), -9223372036854775808 ≤ n → n ≤ 9223372036854775807 → Lw w →
  Calls Tryd.prog 38 #[.int .i64 n] w fun e w' => e = .returned (.string ⟨(Lib.itoa n).toArray⟩) ∧ Below w.heap.size w w'

/-- Does that byte stand there? -/
def hasI (s : ByteArray) (a : Int) (n : Int) : Bool := match s.data.toList[a.toNat]? with
  | some c => decide ((c.toNat : Int) = n)
  | none => false

theorem hasI_none {s : ByteArray} {a n : Int} (h : s.size ≤ a.toNat) : hasI s a n = false := by
  unfold hasI; rw [List.getElem?_eq_none (by simpa using h)]
theorem hasI_some {s : ByteArray} {a n : Int} (h : a.toNat < s.size) : hasI s a n = decide ((s[a.toNat].toNat : Int) = n) := by
  unfold hasI; rw [List.getElem?_eq_getElem (by simpa using h)]; rfl

set_option maxHeartbeats 400000 in
theorem has_any (s : ByteArray) (a n : Int) (w : World) (h0 : 0 ≤ a) (hs : s.size ≤ 140737488355328) :
    Calls Tryd.prog 31 #[.string s, .int .i64 a, .int .u8 n] w fun e w' => e = .returned (.bool (hasI s a n)) ∧ w = w' := by
  obtain ⟨k, rfl⟩ := Int.eq_ofNat_of_zero_le h0
  by_cases hk : k < s.size
  · have e : hasI s (k : Int) n = decide ((s[k].toNat : Int) = n) := hasI_some (by simpa using hk)
    rw [e]; clear e
    go_enter Tryd.func31, Tryd.ntmps31
    go_wp2
    go_ret
    exact ⟨rfl, rfl⟩
  · have e : hasI s (k : Int) n = false := hasI_none (by simp; omega)
    rw [e]; clear e
    go_enter Tryd.func31, Tryd.ntmps31
    go_wp2
    go_ret
    exact ⟨rfl, rfl⟩

set_option maxHeartbeats 400000 in
theorem may_any (x : Int) (w : World) :
    Calls Tryd.prog 34 #[.int .i64 x] w fun e w' => e = .returned (.bool (mayB x)) ∧ w = w' := by
  by_cases h1 : -32768 ≤ x
  · have e : mayB x = decide (x ≤ 32767) := by unfold mayB; simp [h1]
    rw [e]; clear e
    go_enter Tryd.func34, Tryd.ntmps34
    go_wp2
    go_ret
    exact ⟨rfl, rfl⟩
  · have e : mayB x = false := by unfold mayB; simp [h1]
    rw [e]; clear e
    go_enter Tryd.func34, Tryd.ntmps34
    go_wp2
    go_ret
    exact ⟨rfl, rfl⟩

set_option maxHeartbeats 400000 in
theorem tag_any (x : Int) (w : World) :
    Calls Tryd.prog 35 #[.int .i64 x] w fun e w' => e = .returned (.bool (tagB x)) ∧ w = w' := by
  by_cases h1 : 0 ≤ x
  · have e : tagB x = decide (x ≤ 99) := by unfold tagB; simp [h1]
    rw [e]; clear e
    go_enter Tryd.func35, Tryd.ntmps35
    go_wp2
    go_ret
    exact ⟨rfl, rfl⟩
  · have e : tagB x = false := by unfold tagB; simp [h1]
    rw [e]; clear e
    go_enter Tryd.func35, Tryd.ntmps35
    go_wp2
    go_ret
    exact ⟨rfl, rfl⟩

end Go.Proofs.YtcjpepbajcdenaaDoor
