/- What the three readers of package term hand back, said for each depth; and what a row of places owns. -/
import Derived.Test.YtcjpepbajcdenaaDoorDec
namespace Go.Proofs.YtcjpepbajcdenaaDoor
open Go.RowKit
set_option linter.unusedVariables false

theorem dec_at (hA : AtoiSaid) (hI : ItoaSaid) (s : ByteArray) (i : Int) (a : Nat) (w : World) (hi : i = (a : Int)) (ha : a ≤ s.size) (hs : s.size ≤ 1024) (hw : Lw w) :
    Calls Tryd.prog 33 #[.string s, .int .i64 i] w fun e w' => ∃ n b, e = .returned (.tuple #[.int .i64 n, .int .i64 ((a : Int) + ((run s a).length : Int)), .bool b]) ∧
      (b = true → canon (run s a) = some n) ∧ (b = false → ∀ v, canon (run s a) = some v → mayB v = false ∧ tagB v = false) ∧ Below w.heap.size w w' := by
  subst hi; exact dec_any hA hI s a w ha hs hw

/-- A text from a place on. -/
def fr (s : ByteArray) (a : Nat) : List UInt8 := s.data.toList.drop a
/-- A piece of a text. -/
def pc (s : ByteArray) (p : Nat × Nat) : List UInt8 := (s.data.toList.drop p.1).take (p.2 - p.1)
/-- The cells of places. -/
def plc : List (Nat × Nat) → List Value
  | [] => []
  | p :: r => .int .i64 p.1 :: .int .i64 p.2 :: plc r

theorem plc_app : ∀ (a b : List (Nat × Nat)), plc (a ++ b) = plc a ++ plc b
  | [], b => rfl
  | p :: a, b => by simp only [List.cons_append, plc, plc_app a b]
theorem plc_length : ∀ (a : List (Nat × Nat)), (plc a).length = a.length * 2
  | [] => rfl
  | p :: a => by simp only [plc, List.length_cons, plc_length a]; omega

/-- A slice of places that is the call's own: the parts' texts. -/
def Held (s : ByteArray) (B : Nat) (w : World) (v : Value) (ps : List (Nat × Nat)) (ks : List (List UInt8)) : Prop :=
  ps.map (pc s) = ks ∧ (∀ p ∈ ps, p.1 ≤ p.2 ∧ p.2 ≤ s.size) ∧ w.ownsRow B 72 2 v ps.length (plc ps)

/-- What a reading hands back. -/
def Got (s : ByteArray) (a B : Nat) (w : World) (o : Option Rd) (k x : Int) (v : Value) (to : Int) (b : Bool) : Prop :=
  match o with
  | none => b = false ∧ v = .slice none 0 0
  | some (k', x', ks, n) => b = true ∧ k = k' ∧ x = x' ∧ to = (a : Int) + (n : Int) ∧ ∃ ps, Held s B w v ps ks

/-- What parts hand back. -/
def GotP (s : ByteArray) (a B : Nat) (w : World) (o : Option (List (List UInt8) × Nat)) (v : Value) (to : Int) (b : Bool) : Prop :=
  match o with
  | none => b = false ∧ v = .slice none 0 0
  | some (ks, n) => b = true ∧ to = (a : Int) + (n : Int) ∧ ∃ ps, Held s B w v ps ks

def ReadSaid (f : Nat) : Prop := ∀ (s : ByteArray) (i : Int) (a : Nat) (w : World), i = (a : Int) → a ≤ s.size → s.size ≤ 1024 → s.size - a < f → Lw w →
  Calls Tryd.prog 26 #[.string s, .int .i64 i] w fun e w' => ∃ k x v to b, e = .returned (.tuple #[.agg #[.int .i64 k, .int .i64 x, v, .int .i64 to], .bool b]) ∧
    Below w.heap.size w w' ∧ (∃ g n c, v = .slice g n c) ∧ Got s a w.heap.size w' (T f (fr s a)) k x v to b
def PartsSaid (f : Nat) : Prop := ∀ (s : ByteArray) (i : Int) (a : Nat) (w : World), i = (a : Int) → a ≤ s.size → s.size ≤ 1024 → s.size - a < f → Lw w →
  Calls Tryd.prog 36 #[.string s, .int .i64 i] w fun e w' => ∃ v to b, e = .returned (.tuple #[v, .int .i64 to, .bool b]) ∧
    Below w.heap.size w w' ∧ (∃ g n c, v = .slice g n c) ∧ GotP s a w.heap.size w' (Tp (T f) 3 (fr s a)) v to b
def ConSaid (f : Nat) : Prop := ∀ (s : ByteArray) (i : Int) (a : Nat) (w : World), i = (a : Int) → a < s.size → s.size ≤ 1024 → s.size - a < f + 1 → Lw w →
  Calls Tryd.prog 32 #[.string s, .int .i64 i] w fun e w' => ∃ k x v to b, e = .returned (.tuple #[.agg #[.int .i64 k, .int .i64 x, v, .int .i64 to], .bool b]) ∧
    Below w.heap.size w w' ∧ (∃ g n c, v = .slice g n c) ∧ Got s a w.heap.size w' (conT (T f) (fr s (a + 1))) k x v to b

theorem own_below {W W' : World} {B e size n : Nat} {v : Value} {xs : List Value} (h : W.ownsRow B e size v n xs) (hb : Below W.heap.size W W') : W'.ownsRow B e size v n xs := by
  refine ⟨h.1, ?_⟩
  rcases h.2 with h2 | ⟨g, cap, cur, hv, hg, hh, r⟩
  · exact Or.inl h2
  · refine Or.inr ⟨g, cap, cur, hv, hg, ?_, r⟩
    have hlt : g < W.heap.size := by
      rcases Nat.lt_or_ge g W.heap.size with h' | h'
      · exact h'
      · rw [Array.getElem?_eq_none h'] at hh; cases hh
    rw [hb.block g hlt]; exact hh
theorem own_base {W : World} {B B' e size n : Nat} {v : Value} {xs : List Value} (h : W.ownsRow B e size v n xs) (hB : B' ≤ B) : W.ownsRow B' e size v n xs := by
  refine ⟨h.1, ?_⟩
  rcases h.2 with h2 | ⟨g, cap, cur, hv, hg, r⟩
  · exact Or.inl h2
  · exact Or.inr ⟨g, cap, cur, hv, by omega, r⟩
theorem own_shape {W : World} {B e size n : Nat} {v : Value} {xs : List Value} (h : W.ownsRow B e size v n xs) : ∃ g n c, v = .slice g n c := by
  rcases h.2 with ⟨h2, _⟩ | ⟨g, cap, cur, hv, _⟩
  · exact ⟨_, _, _, h2⟩
  · exact ⟨_, _, _, hv⟩

theorem Held.on {s : ByteArray} {B : Nat} {w w' : World} {v : Value} {ps : List (Nat × Nat)} {ks : List (List UInt8)} (h : Held s B w v ps ks) (hb : Below w.heap.size w w') : Held s B w' v ps ks :=
  ⟨h.1, h.2.1, own_below h.2.2 hb⟩
theorem Held.base {s : ByteArray} {B B' : Nat} {w : World} {v : Value} {ps : List (Nat × Nat)} {ks : List (List UInt8)} (h : Held s B w v ps ks) (hB : B' ≤ B) : Held s B' w v ps ks :=
  ⟨h.1, h.2.1, own_base h.2.2 hB⟩
theorem Held.nil (s : ByteArray) (B : Nat) (w : World) : Held s B w (.slice none 0 0) [] [] :=
  ⟨rfl, (fun p hp => by cases hp), World.ownsRow_nil _ _ _ _⟩

theorem bcell {W w1 : World} (hb : Below W.heap.size W w1) : (∀ b o, b < W.heap.size → w1.cell? ⟨b, o, none⟩ = W.cell? ⟨b, o, none⟩) ∧ (∀ b o, b < W.heap.size → w1.frozen? ⟨b, o, none⟩ = W.frozen? ⟨b, o, none⟩) :=
  ⟨fun b o h => hb.cell (p := ⟨b, o, none⟩) h, fun b o h => hb.frozen (p := ⟨b, o, none⟩) h⟩

end Go.Proofs.YtcjpepbajcdenaaDoor
