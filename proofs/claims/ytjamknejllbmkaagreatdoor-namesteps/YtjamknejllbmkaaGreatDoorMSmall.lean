/- Parts that a function lays down by itself; the contract of the laws' adds. · Rows of parts' cells. · Bodies that a function builds part by part, by append, in the box of a definition. · The contract of the laws' small: a program of two definitions. · The contract of the laws' awake. · A definition that comes in: its parts as plain data, with the bounds that the sized condition gives. · Definitions that a function builds one by one, by append; bodies and kids in rows of their own kind. -/
import Derived.Test.YtjamknejllbmkaaGreatDoorMExpr
import Derived.Laws.AppendOwnNone
import Derived.Test.YtjamknejllbmkaaGreatDoorMProg
import Derived.Deep.RegionWith
import Derived.SizedLaws
import Derived.Carry
import Derived.Deep.AppendLies

namespace Go.Proofs.YtjamknejllbmkaaGreatDoor
open Go.RowKit
set_option linter.unusedVariables false

/-- These cells are these parts. -/
def Row (w : World) : List Value → List Ex → Prop
  | [], [] => True
  | v0 :: v1 :: v2 :: v3 :: vs, x :: xs => v0 = .int .i64 x.kind ∧ v1 = .int .i64 x.num ∧ v2 = .int .i64 x.bind ∧ (∃ g c, v3 = .slice g x.kids.length c ∧ Nums w g x.kids) ∧ Row w vs xs
  | _, _ => False
theorem Row.at {w : World} : ∀ {cs : List Value} {xs : List Ex}, Row w cs xs → ∀ (j : Nat) x, xs[j]? = some x →
    ∃ gk ck, cs[j * 4]? = some (.int .i64 x.kind) ∧ cs[j * 4 + 1]? = some (.int .i64 x.num) ∧ cs[j * 4 + 2]? = some (.int .i64 x.bind) ∧ cs[j * 4 + 3]? = some (.slice gk x.kids.length ck) ∧ Nums w gk x.kids
  | [], [], _, j, x, hx => by simp at hx
  | v0 :: v1 :: v2 :: v3 :: vs, y :: xs, ⟨h0, h1, h2, ⟨g, c, h3, hn⟩, hr⟩, 0, x, hx => by
    have : y = x := by simpa using hx
    subst this
    exact ⟨g, c, by rw [h0]; rfl, by rw [h1]; rfl, by rw [h2]; rfl, by rw [h3]; rfl, hn⟩
  | v0 :: v1 :: v2 :: v3 :: vs, y :: xs, ⟨_, _, _, _, hr⟩, j + 1, x, hx => by
    obtain ⟨gk, ck, a0, a1, a2, a3, a4⟩ := hr.at j x (by simpa using hx)
    have e : ∀ i, (v0 :: v1 :: v2 :: v3 :: vs)[(j + 1) * 4 + i]? = vs[j * 4 + i]? := fun i => by
      rw [show (j + 1) * 4 + i = (j * 4 + i) + 1 + 1 + 1 + 1 by omega]; simp
    exact ⟨gk, ck, by rw [← Nat.add_zero ((j + 1) * 4), e]; exact a0, by rw [e]; exact a1, by rw [e]; exact a2, by rw [e]; exact a3, a4⟩
theorem exs_of_row {w : World} {b : Nat} {cs : Array Value} {xs : List Ex} (h : w.heap[b]? = some (.cells cs 55 (0, 0))) (hr : Row w cs.toList xs) : Exs w (some ⟨b, 0, none⟩) xs := by
  have key : ∀ j v, cs.toList[j]? = some v → w.cell? ⟨b, j, none⟩ = some v := fun j v hv => by
    unfold World.cell?
    simp only [h]
    simpa using hv
  refine Or.inr ⟨b, 0, rfl, (Array.getElem?_eq_some_iff.1 h).1, fun j x hx => ?_⟩
  obtain ⟨gk, ck, a0, a1, a2, a3, a4⟩ := hr.at j x hx
  refine ⟨gk, ck, ?_⟩
  rw [Nat.zero_add]
  exact ⟨key _ _ a0, key _ _ a1, key _ _ a2, key _ _ a3, a4⟩
theorem Lv.nums {w : World} {b : Nat} {L : List Int} (h : Lv w b L) : Nums w (some ⟨b, 0, none⟩) L :=
  Or.inr ⟨b, 0, rfl, h.lt, fun j x hx => by rw [Nat.zero_add]; exact h.cell hx⟩
theorem nums_nil (w : World) (g : Option Addr) : Nums w g [] := Or.inl rfl

def addsL : List Ex := [⟨1, 0, 0, []⟩, ⟨1, 3, 0, []⟩, ⟨1, 1, 0, []⟩, ⟨4, 0, 0, [1, 2]⟩, ⟨1, 0, 0, []⟩, ⟨1, 1, 0, []⟩, ⟨4, 0, 0, [4, 5]⟩, ⟨5, 7, 2, [0, 3, 6]⟩]
abbrev I (x : Int) : Value := .int .i64 x
abbrev nilS : Value := .slice none 0 0
def addsC (B : Nat) : Array Value := #[I 1, I 0, I 0, nilS, I 1, I 3, I 0, nilS, I 1, I 1, I 0, nilS, I 4, I 0, I 0, .slice (some ⟨B + 1, 0, none⟩) 2 2, I 1, I 0, I 0, nilS, I 1, I 1, I 0, nilS, I 4, I 0, I 0, .slice (some ⟨B + 2, 0, none⟩) 2 2, I 5, I 7, I 2, .slice (some ⟨B + 3, 0, none⟩) 3 3]
/-- What adds lays down. -/
structure AddsAt (w : World) (B : Nat) : Prop where
  body : w.heap[B + 4]? = some (.cells (addsC B) 55 (0, 0))
  k1 : Lv w (B + 1) [1, 2]
  k2 : Lv w (B + 2) [4, 5]
  k3 : Lv w (B + 3) [0, 3, 6]
theorem AddsAt.on {w w' : World} {B : Nat} (h : AddsAt w B) (hb : Below w.heap.size w w') : AddsAt w' B :=
  ⟨(hb.block _ (Array.getElem?_eq_some_iff.1 h.body).1).trans h.body, h.k1.on hb h.k1.lt, h.k2.on hb h.k2.lt, h.k3.on hb h.k3.lt⟩
theorem AddsAt.exs {w : World} {B : Nat} (h : AddsAt w B) : Exs w (some ⟨B + 4, 0, none⟩) addsL :=
  exs_of_row h.body ⟨rfl, rfl, rfl, ⟨_, _, rfl, nums_nil _ _⟩, rfl, rfl, rfl, ⟨_, _, rfl, nums_nil _ _⟩, rfl, rfl, rfl, ⟨_, _, rfl, nums_nil _ _⟩, rfl, rfl, rfl, ⟨_, _, rfl, h.k1.nums⟩, rfl, rfl, rfl, ⟨_, _, rfl, nums_nil _ _⟩, rfl, rfl, rfl, ⟨_, _, rfl, nums_nil _ _⟩, rfl, rfl, rfl, ⟨_, _, rfl, h.k2.nums⟩, rfl, rfl, rfl, ⟨_, _, rfl, h.k3.nums⟩, trivial⟩
set_option maxHeartbeats 800000 in
set_option maxRecDepth 100000 in
theorem adds_any (w : World) :
    Calls Tryz.prog 17 #[] w fun e w' => e = .returned (.agg #[.int .i64 2, .slice (some ⟨w.heap.size + 4, 0, none⟩) 8 8]) ∧ AddsAt w' w.heap.size ∧ Below w.heap.size w w' ∧ w'.heap.size = w.heap.size + 5 := by
  go_enter Tryz.func17, Tryz.ntmps17
  go_wp2
  refine bodyPost_ret (v := .agg #[.int .i64 2, .slice (some ⟨w.heap.size + 4, 0, none⟩) 8 8]) (by simp [results, Tryz.results17, go_sem]) rfl ⟨rfl, ?_, ?_, by simp⟩
  · refine ⟨?_, ?_, ?_, ?_⟩
    · have h := World.alloc_heap_new ((((w.alloc (.cells #[I 2, .slice (some ⟨w.heap.size + 1 + 1 + 1 + 1, 0, none⟩) 8 8] 58)).alloc (.cells #[I 1, I 2] 3)).alloc (.cells #[I 4, I 5] 3)).alloc (.cells #[I 0, I 3, I 6] 3)) (.cells (addsC w.heap.size) 55)
      simp only [World.size_alloc] at h
      exact h
    · have h := (((Lv.new (w.alloc (.cells #[I 2, .slice (some ⟨w.heap.size + 1 + 1 + 1 + 1, 0, none⟩) 8 8] 58)) [1, 2]).alloc (.cells #[I 4, I 5] 3)).alloc (.cells #[I 0, I 3, I 6] 3)).alloc (.cells (addsC w.heap.size) 55)
      simp only [World.size_alloc] at h
      exact h
    · have h := ((Lv.new ((w.alloc (.cells #[I 2, .slice (some ⟨w.heap.size + 1 + 1 + 1 + 1, 0, none⟩) 8 8] 58)).alloc (.cells #[I 1, I 2] 3)) [4, 5]).alloc (.cells #[I 0, I 3, I 6] 3)).alloc (.cells (addsC w.heap.size) 55)
      simp only [World.size_alloc] at h
      exact h
    · have h := (Lv.new (((w.alloc (.cells #[I 2, .slice (some ⟨w.heap.size + 1 + 1 + 1 + 1, 0, none⟩) 8 8] 58)).alloc (.cells #[I 1, I 2] 3)).alloc (.cells #[I 4, I 5] 3)) [0, 3, 6]).alloc (.cells (addsC w.heap.size) 55)
      simp only [World.size_alloc] at h
      exact h
  · exact (((((Below.refl _ w).alloc (Nat.le_refl _) _).alloc (by simp) _).alloc (by simp; omega) _).alloc (by simp; omega) _).alloc (by simp; omega) _
theorem may_adds : may 2 addsL = true := by decide +kernel
end Go.Proofs.YtjamknejllbmkaaGreatDoor

namespace Go.Proofs.YtjamknejllbmkaaGreatDoor
open Go.RowKit
set_option linter.unusedVariables false

theorem AddsAt.cell {w : World} {B : Nat} (h : AddsAt w B) (j : Nat) (v : Value) (hv : (addsC B)[j]? = some v) : w.cell? ⟨B + 4, j, none⟩ = some v := by
  unfold World.cell?
  simp only [h.body]
  exact hv
theorem AddsAt.frozen {w : World} {B : Nat} (h : AddsAt w B) (j : Nat) : w.frozen? ⟨B + 4, j, none⟩ = false := by
  simp [World.frozen?, h.body]
theorem AddsAt.lt {w : World} {B : Nat} (h : AddsAt w B) : B + 4 < w.heap.size := (Array.getElem?_eq_some_iff.1 h.body).1

/-- A row of parts' cells. -/
def Rw (w : World) (b : Nat) (cs : Array Value) : Prop := w.heap[b]? = some (.cells cs 55 (0, 0))
theorem Rw.lt {w : World} {b : Nat} {cs : Array Value} (h : Rw w b cs) : b < w.heap.size := (Array.getElem?_eq_some_iff.1 h).1
theorem Rw.set {w : World} {b : Nat} {cs : Array Value} (h : Rw w b cs) (j : Nat) (v : Value) : Rw (w.setCell ⟨b, j, none⟩ v) b (cs.setIfInBounds j v) := by
  obtain ⟨hlt, hk⟩ := Array.getElem?_eq_some_iff.1 h
  show (w.heap.modify b _)[b]? = _
  rw [Array.getElem?_eq_getElem (by rw [Array.size_modify]; exact hlt), Array.getElem_modify_self, hk]
  rfl
theorem Rw.other {w : World} {b : Nat} {cs : Array Value} (h : Rw w b cs) {b' : Nat} (j : Nat) (v : Value) (hne : b ≠ b') : Rw (w.setCell ⟨b', j, none⟩ v) b cs := (Below.heap_setCell w _ _ b hne).trans h
theorem Rw.alloc {w : World} {b : Nat} {cs : Array Value} (h : Rw w b cs) (o : Obj) : Rw (w.alloc o) b cs := (Below.heap_alloc w o b h.lt).trans h
theorem Rw.on {w w' : World} {b : Nat} {cs : Array Value} (h : Rw w b cs) (hb : Below w.heap.size w w') : Rw w' b cs := (hb.block b h.lt).trans h
theorem Lv.other {w : World} {b : Nat} {L : List Int} (h : Lv w b L) {b' : Nat} (j : Nat) (v : Value) (hne : b ≠ b') : Lv (w.setCell ⟨b', j, none⟩ v) b L := h.kept (grown_set w b' j v) (by intro e; exact hne (Option.some.inj e))
/-- Adds with something turned: the three kids' lists as they were. -/
theorem Rw.cell {w : World} {b : Nat} {cs : Array Value} (h : Rw w b cs) (j : Nat) (v : Value) (hv : cs[j]? = some v) : w.cell? ⟨b, j, none⟩ = some v := by
  unfold World.cell?
  simp only [show w.heap[b]? = _ from h]
  exact hv
theorem Rw.frozen {w : World} {b : Nat} {cs : Array Value} (h : Rw w b cs) (j : Nat) : w.frozen? ⟨b, j, none⟩ = false := by
  simp [World.frozen?, show w.heap[b]? = _ from h]

end Go.Proofs.YtjamknejllbmkaaGreatDoor

namespace Go.Proofs.YtjamknejllbmkaaGreatDoor
open Go.RowKit
set_option linter.unusedVariables false

theorem Tryz.info55 : (Tryz.prog.info? 55).map (fun i => (i.zero, i.size, i.bytes)) = some (some (.agg #[.int .i64 0, .int .i64 0, .int .i64 0, .slice none 0 0]), 4, 48) := by kernel_rfl
/-- A part with where its kids lie. -/
abbrev Pt := Ex × Option Addr × Nat
def c4 (p : Pt) : List Value := [.int .i64 p.1.kind, .int .i64 p.1.num, .int .i64 p.1.bind, .slice p.2.1 p.1.kids.length p.2.2]
/-- Its kids lie in a block of their own, from base on. -/
def Kd (W : World) (base : Nat) (p : Pt) : Prop := p.1.kids = [] ∨ ∃ b, p.2.1 = some ⟨b, 0, none⟩ ∧ base ≤ b ∧ Lv W b p.1.kids
theorem Kd.nums {W : World} {base : Nat} {p : Pt} (h : Kd W base p) : Nums W p.2.1 p.1.kids := by
  rcases h with h | ⟨b, h1, _, h2⟩
  · rw [h]; exact Or.inl rfl
  · rw [h1]; exact h2.nums
theorem row_c4 {W : World} : ∀ {ps : List Pt}, (∀ p ∈ ps, Nums W p.2.1 p.1.kids) → Row W (ps.flatMap c4) (ps.map (·.1))
  | [], _ => trivial
  | p :: ps, h => ⟨rfl, rfl, rfl, ⟨_, _, rfl, h p (by simp)⟩, row_c4 (fun q hq => h q (by simp [hq]))⟩
theorem exs_of_cells {w : World} {b : Nat} {cs : List Value} {xs : List Ex} (hb : b < w.heap.size) (key : ∀ j v, cs[j]? = some v → w.cell? ⟨b, j, none⟩ = some v) (hr : Row w cs xs) : Exs w (some ⟨b, 0, none⟩) xs := by
  refine Or.inr ⟨b, 0, rfl, hb, fun j x hx => ?_⟩
  obtain ⟨gk, ck, a0, a1, a2, a3, a4⟩ := hr.at j x hx
  refine ⟨gk, ck, ?_⟩
  rw [Nat.zero_add]
  exact ⟨key _ _ a0, key _ _ a1, key _ _ a2, key _ _ a3, a4⟩
/-- A body that is being built. -/
structure Bd (W : World) (base : Nat) (v : Value) (ps : List Pt) : Prop where
  own : W.ownsRow base 55 4 v ps.length (ps.flatMap c4)
  kids : ∀ p ∈ ps, Kd W base p
theorem lv_not_row {W : World} {b base n : Nat} {L : List Int} {v : Value} {xs : List Value} (h : Lv W b L) (hr : W.ownsRow base 55 4 v n xs) : some b ≠ v.ownBlock := by
  rcases hr.2 with ⟨rfl, _⟩ | ⟨g, cap, cur, rfl, _, hgb, _⟩
  · simp [Value.ownBlock]
  · intro e'
    obtain rfl : b = g := by simpa [Value.ownBlock] using e'
    have := (show W.heap[b]? = _ from h).symm.trans hgb
    simp at this
theorem Kd.kept {W W' : World} {base : Nat} {p : Pt} {row : Option Nat} (h : Kd W base p) (hg : W.grownBy W' row) (hr : ∀ b L, base ≤ b → Lv W b L → some b ≠ row) : Kd W' base p := by
  rcases h with h | ⟨b, h1, h2, h3⟩
  · exact Or.inl h
  · exact Or.inr ⟨b, h1, h2, h3.kept hg (hr b _ h2 h3)⟩
theorem Bd.nil (W : World) (base : Nat) : Bd W base (.slice none 0 0) [] := ⟨World.ownsRow_nil _ _ _ _, fun p hp => by cases hp⟩
theorem Bd.alloc {W : World} {base : Nat} {v : Value} {ps : List Pt} (h : Bd W base v ps) (o : Obj) : Bd (W.alloc o) base v ps :=
  ⟨h.own.alloc o, fun p hp => (h.kids p hp).kept (World.grownBy_alloc W o none) (fun _ _ _ _ => by simp)⟩
theorem Bd.far {W : World} {base : Nat} {v : Value} {ps : List Pt} (h : Bd W base v ps) {z : Nat} (hz : z < base) (j : Nat) (u : Value) : Bd (W.setCell ⟨z, j, none⟩ u) base v ps := by
  refine ⟨h.own.kept (grown_set W z j u) ?_, fun p hp => (h.kids p hp).kept (grown_set W z j u) (fun b L hb _ e => by have := Option.some.inj e; omega)⟩
  cases e : v.ownBlock with
  | none => exact .inl rfl
  | some k =>
    refine .inr fun e' => ?_
    have h1 := (h.own.lt k e).1
    have := Option.some.inj e'
    omega
theorem Bd.val {W : World} {base : Nat} {v : Value} {ps : List Pt} (h : Bd W base v ps) : ∃ g c, v = .slice g ps.length c := by
  rcases h.own.2 with ⟨h2, h3⟩ | ⟨g, cap, cur, hv, _⟩
  · exact ⟨_, _, by rw [h3]; exact h2⟩
  · exact ⟨_, _, hv⟩
theorem Bd.exs {W : World} {base : Nat} {g : Option Addr} {c : Nat} {ps : List Pt} (h : Bd W base (.slice g ps.length c) ps) : Exs W g (ps.map (·.1)) := by
  rcases h.own.2 with ⟨_, h3⟩ | ⟨b, cap, cur, hv, _, hh, _⟩
  · exact Or.inl (by rw [List.length_eq_zero_iff.1 h3]; rfl)
  · simp at hv
    obtain ⟨rfl, _⟩ := hv
    refine exs_of_cells (Array.getElem?_eq_some_iff.1 hh).1 (fun j v hv => ?_) (row_c4 (fun p hp => (h.kids p hp).nums))
    have h1 := h.own.cells (g := b) rfl j v hv
    rwa [Addr.add_lit, Nat.zero_add] at h1
/-- Behind an append of these parts. -/
theorem Bd.next {W w' : World} {base : Nat} {v v' : Value} {ps qs : List Pt} (h : Bd W base v ps) (hq : ∀ p ∈ qs, Kd W base p) (hown : w'.ownsRow base 55 4 v' (ps.length + qs.length) (ps.flatMap c4 ++ qs.flatMap c4)) (hg : W.grownBy w' v.ownBlock) : Bd w' base v' (ps ++ qs) := by
  refine ⟨by rw [List.length_append, List.flatMap_append]; exact hown, fun p hp => ?_⟩
  have hk : Kd W base p := by
    rcases List.mem_append.1 hp with hp | hp
    · exact h.kids p hp
    · exact hq p hp
  exact hk.kept hg (fun b L _ hL => lv_not_row hL h.own)

theorem one_c4 (qs : List Pt) : ∀ u ∈ qs.flatMap c4, u.oneCell' = true := by
  intro u hu
  obtain ⟨p, _, hp⟩ := List.mem_flatMap.1 hu
  simp only [c4, List.mem_cons, List.not_mem_nil, or_false] at hp
  rcases hp with rfl | rfl | rfl | rfl <;> rfl
theorem len_c4 : ∀ (qs : List Pt), (qs.flatMap c4).length = qs.length * 4
  | [] => rfl
  | q :: qs => by rw [List.flatMap_cons, List.length_append, len_c4 qs, List.length_cons]; simp [c4]; omega
theorem app_ex {W : World} {ops : Array Oper} {rest : List Oper} {o : Oper} {a : Act} {Q : Exit → Act → World → Prop} (hgd : o.guard = none) (s x : Operand)
    (ho : o.op = .call { callee := .builtin .append, args := #[s, x], argTypes := #[56, 56] }) (base : Nat) (v : Value) (ps qs : List Pt) (cs : Array Value) (hcs : cs.toList = qs.flatMap c4) (hs : a.eval s = v) (z : Nat) (hz : W.heap.size = z) (hx : a.eval x = .slice (some ⟨z, 0, none⟩) qs.length qs.length)
    (hbd : Bd W base v ps) (hq : ∀ p ∈ qs, Kd W base p) (hb : base ≤ W.heap.size) (hlen : (ps.length + qs.length) * 48 ≤ 140737488355328)
    (h : ∀ v' w', Bd w' base v' (ps ++ qs) → (W.alloc (.cells cs 55)).grownBy w' v.ownBlock → wpList Tryz.prog ops Q rest (a.put o.dst v') w') : wpList Tryz.prog ops Q (o :: rest) a (W.alloc (.cells cs 55)) := by
  subst hz
  obtain ⟨i0, hi, hz0, hz1, hz2⟩ := info_parts Tryz.info55
  refine wpList_append_own _ hgd s x 56 ho base 55 i0 _ 4 48 Tryz.underlying56 hi hz0 hz1 hz2 rfl (by decide) v _ _ hs (hbd.own.alloc _) ⟨W.heap.size, 0, none⟩ qs.length qs.length (qs.flatMap c4) hx (len_c4 qs) ?_ (one_c4 qs) (by unfold maxLen; omega) hlen (by rw [World.size_alloc]; omega) ?_
  · intro j u hj
    rw [Addr.add_lit, Nat.zero_add]
    refine cell_new W cs 55 j u ?_
    rw [← hcs] at hj
    simpa using hj
  · intro v' w' h1 h2 _
    exact h v' w' ((hbd.alloc _).next (fun p hp => (hq p hp).kept (World.grownBy_alloc W _ none) (fun _ _ _ _ => by simp)) h1 h2) h2

/-- A definition's box. -/
def Bx2 (w : World) (z : Nat) (p : Int) (v : Value) : Prop := w.heap[z]? = some (.cells #[.int .i64 p, v] 58 (0, 0))
theorem Bx2.lt {w : World} {z : Nat} {p : Int} {v : Value} (h : Bx2 w z p v) : z < w.heap.size := (Array.getElem?_eq_some_iff.1 h).1
theorem Bx2.c0 {w : World} {z : Nat} {p : Int} {v : Value} (h : Bx2 w z p v) : w.cell? ⟨z, 0, none⟩ = some (.int .i64 p) := by
  unfold World.cell?; simp only [show w.heap[z]? = _ from h]; rfl
theorem Bx2.c1 {w : World} {z : Nat} {p : Int} {v : Value} (h : Bx2 w z p v) : w.cell? ⟨z, 1, none⟩ = some v := by
  unfold World.cell?; simp only [show w.heap[z]? = _ from h]; rfl
theorem Bx2.frozen {w : World} {z : Nat} {p : Int} {v : Value} (h : Bx2 w z p v) (j : Nat) : w.frozen? ⟨z, j, none⟩ = false := by
  simp [World.frozen?, show w.heap[z]? = _ from h]
theorem Bx2.kept {w w' : World} {row : Option Nat} {z : Nat} {p : Int} {v : Value} (h : Bx2 w z p v) (hg : w.grownBy w' row) (hne : some z ≠ row) : Bx2 w' z p v := (hg.block z h.lt hne).trans h
theorem Bx2.on {w w' : World} {z : Nat} {p : Int} {v : Value} (h : Bx2 w z p v) (hb : Below w.heap.size w w') : Bx2 w' z p v := (hb.block z h.lt).trans h
theorem Bx2.alloc {w : World} {z : Nat} {p : Int} {v : Value} (h : Bx2 w z p v) (o : Obj) : Bx2 (w.alloc o) z p v := (Below.heap_alloc w o z h.lt).trans h
theorem Bx2.new (w : World) (p : Int) (v : Value) : Bx2 (w.alloc (.cells #[.int .i64 p, v] 58)) w.heap.size p v := World.alloc_heap_new w _
theorem Bx2.set1 {w : World} {z : Nat} {p : Int} {v : Value} (h : Bx2 w z p v) (u : Value) : Bx2 (w.setCell ⟨z, 1, none⟩ u) z p u := by
  obtain ⟨hlt, hk⟩ := Array.getElem?_eq_some_iff.1 h
  show (w.heap.modify z _)[z]? = _
  rw [Array.getElem?_eq_getElem (by rw [Array.size_modify]; exact hlt), Array.getElem_modify_self, hk]
  rfl
theorem Bd.not_box {W : World} {base z : Nat} {v : Value} {ps : List Pt} (h : Bd W base v ps) (hz : z < base) : some z ≠ v.ownBlock := by
  intro e
  have := (h.own.lt z e.symm).1
  omega
theorem and_15 (x : Int) : ∃ m : Nat, bits .and .i64 x 15 = (m : Int) ∧ m < 16 := by
  refine ⟨(x % 16).toNat, ?_, by omega⟩
  have hb : (BitVec.ofInt 64 15).toNat = 15 := by decide
  have h : bits .and .i64 x 15 = IntKind.i64.wrap (((BitVec.ofInt 64 x &&& BitVec.ofInt 64 15).toNat : Nat) : Int) := rfl
  rw [h, BitVec.toNat_and, hb, BitVec.toNat_ofInt, show (15 : Nat) = 2 ^ 4 - 1 from rfl, Nat.and_two_pow_sub_one_eq_mod, IntKind.wrap_i64]
  simp only [show ((2 : Nat) ^ 64) = 18446744073709551616 from rfl, show ((2 : Nat) ^ 4) = 16 from rfl]
  omega
theorem and_3 (x : Int) : ∃ m : Nat, bits .and .i64 x 3 = (m : Int) ∧ m < 4 := by
  refine ⟨(x % 4).toNat, ?_, by omega⟩
  have hb : (BitVec.ofInt 64 3).toNat = 3 := by decide
  have h : bits .and .i64 x 3 = IntKind.i64.wrap (((BitVec.ofInt 64 x &&& BitVec.ofInt 64 3).toNat : Nat) : Int) := rfl
  rw [h, BitVec.toNat_and, hb, BitVec.toNat_ofInt, show (3 : Nat) = 2 ^ 2 - 1 from rfl, Nat.and_two_pow_sub_one_eq_mod, IntKind.wrap_i64]
  simp only [show ((2 : Nat) ^ 64) = 18446744073709551616 from rfl, show ((2 : Nat) ^ 2) = 4 from rfl]
  omega
theorem and_1023 (x : Int) : ∃ m : Nat, bits .and .i64 x 1023 = (m : Int) ∧ m < 1024 := by
  refine ⟨(x % 1024).toNat, ?_, by omega⟩
  have hb : (BitVec.ofInt 64 1023).toNat = 1023 := by decide
  have h : bits .and .i64 x 1023 = IntKind.i64.wrap (((BitVec.ofInt 64 x &&& BitVec.ofInt 64 1023).toNat : Nat) : Int) := rfl
  rw [h, BitVec.toNat_and, hb, BitVec.toNat_ofInt, show (1023 : Nat) = 2 ^ 10 - 1 from rfl, Nat.and_two_pow_sub_one_eq_mod, IntKind.wrap_i64]
  simp only [show ((2 : Nat) ^ 64) = 18446744073709551616 from rfl, show ((2 : Nat) ^ 10) = 1024 from rfl]
  omega
end Go.Proofs.YtjamknejllbmkaaGreatDoor

namespace Go.Proofs.YtjamknejllbmkaaGreatDoor
open Go.RowKit
set_option linter.unusedVariables false

/-- These cells are these definitions. -/
def DRow (w : World) : List Value → List Df → Prop
  | [], [] => True
  | v0 :: v1 :: vs, d :: ds => v0 = .int .i64 d.params ∧ (∃ g c, v1 = .slice g d.body.length c ∧ Exs w g d.body) ∧ DRow w vs ds
  | _, _ => False
theorem DRow.at {w : World} : ∀ {cs : List Value} {ds : List Df}, DRow w cs ds → ∀ (j : Nat) d, ds[j]? = some d →
    ∃ gk ck, cs[j * 2]? = some (.int .i64 d.params) ∧ cs[j * 2 + 1]? = some (.slice gk d.body.length ck) ∧ Exs w gk d.body
  | [], [], _, j, x, hx => by simp at hx
  | v0 :: v1 :: vs, y :: xs, ⟨h0, ⟨g, c, h3, hn⟩, hr⟩, 0, x, hx => by
    have : y = x := by simpa using hx
    subst this
    exact ⟨g, c, by rw [h0]; rfl, by rw [h3]; rfl, hn⟩
  | v0 :: v1 :: vs, y :: xs, ⟨_, _, hr⟩, j + 1, x, hx => by
    obtain ⟨gk, ck, a0, a1, a2⟩ := hr.at j x (by simpa using hx)
    have e : ∀ i, (v0 :: v1 :: vs)[(j + 1) * 2 + i]? = vs[j * 2 + i]? := fun i => by
      rw [show (j + 1) * 2 + i = (j * 2 + i) + 1 + 1 by omega]; simp
    exact ⟨gk, ck, by rw [← Nat.add_zero ((j + 1) * 2), e]; exact a0, by rw [e]; exact a1, a2⟩
/-- A row of definitions' cells. -/
def Rd (w : World) (b : Nat) (cs : Array Value) : Prop := w.heap[b]? = some (.cells cs 58 (0, 0))
theorem Rd.lt {w : World} {b : Nat} {cs : Array Value} (h : Rd w b cs) : b < w.heap.size := (Array.getElem?_eq_some_iff.1 h).1
theorem Rd.set {w : World} {b : Nat} {cs : Array Value} (h : Rd w b cs) (j : Nat) (v : Value) : Rd (w.setCell ⟨b, j, none⟩ v) b (cs.setIfInBounds j v) := by
  obtain ⟨hlt, hk⟩ := Array.getElem?_eq_some_iff.1 h
  show (w.heap.modify b _)[b]? = _
  rw [Array.getElem?_eq_getElem (by rw [Array.size_modify]; exact hlt), Array.getElem_modify_self, hk]
  rfl
theorem Rd.other {w : World} {b : Nat} {cs : Array Value} (h : Rd w b cs) {b' : Nat} (j : Nat) (v : Value) (hne : b ≠ b') : Rd (w.setCell ⟨b', j, none⟩ v) b cs := (Below.heap_setCell w _ _ b hne).trans h
theorem Rd.alloc {w : World} {b : Nat} {cs : Array Value} (h : Rd w b cs) (o : Obj) : Rd (w.alloc o) b cs := (Below.heap_alloc w o b h.lt).trans h
theorem Rd.on {w w' : World} {b : Nat} {cs : Array Value} (h : Rd w b cs) (hb : Below w.heap.size w w') : Rd w' b cs := (hb.block b h.lt).trans h
theorem Rd.cell {w : World} {b : Nat} {cs : Array Value} (h : Rd w b cs) (j : Nat) (v : Value) (hv : cs[j]? = some v) : w.cell? ⟨b, j, none⟩ = some v := by
  unfold World.cell?
  simp only [show w.heap[b]? = _ from h]
  exact hv
theorem Rd.frozen {w : World} {b : Nat} {cs : Array Value} (h : Rd w b cs) (j : Nat) : w.frozen? ⟨b, j, none⟩ = false := by
  simp [World.frozen?, show w.heap[b]? = _ from h]
theorem Rd.defs {w : World} {b : Nat} {cs : Array Value} {ds : List Df} (h : Rd w b cs) (hr : DRow w (cs.toList.take (ds.length * 2)) ds) : Defs Exs w (some ⟨b, 0, none⟩) ds := by
  refine Or.inr ⟨b, 0, rfl, h.lt, fun j x hx => ?_⟩
  obtain ⟨gk, ck, a0, a1, a2⟩ := hr.at j x hx
  have key : ∀ i v, (cs.toList.take (ds.length * 2))[i]? = some v → cs[i]? = some v := fun i v hv => by
    rw [List.getElem?_take] at hv
    split at hv
    · simpa using hv
    · cases hv
  refine ⟨gk, ck, ?_⟩
  rw [Nat.zero_add]
  exact ⟨h.cell _ _ (key _ _ a0), h.cell _ _ (key _ _ a1), a2⟩

def mainL : List Ex := [⟨7, 0, 0, []⟩, ⟨0, 4, 0, []⟩, ⟨3, 7, 0, [0, 1]⟩, ⟨0, 5, 0, []⟩, ⟨2, 1, 0, [2, 3]⟩]
def mainC (B : Nat) : Array Value := #[I 7, I 0, I 0, nilS, I 0, I 4, I 0, nilS, I 3, I 7, I 0, .slice (some ⟨B + 1, 0, none⟩) 2 2, I 0, I 5, I 0, nilS, I 2, I 1, I 0, .slice (some ⟨B + 2, 0, none⟩) 2 2]
def smallC (B : Nat) : Array Value := #[I 0, .slice (some ⟨B + 3, 0, none⟩) 5 5, I 2, .slice (some ⟨B + 9, 0, none⟩) 8 8]
def smallL : List Df := [⟨0, mainL⟩, ⟨2, addsL⟩]
/-- What small lays down. -/
structure SmallAt (w : World) (B : Nat) : Prop where
  row : Rd w (B + 10) (smallC B)
  main : Rw w (B + 3) (mainC B)
  k1 : Lv w (B + 1) [0, 1]
  k2 : Lv w (B + 2) [2, 3]
  adds : AddsAt w (B + 5)
theorem cell_nx {wc w' : World} {p : Addr} {x : Value} (h : wc.cell? p = some x) (hb : Below wc.heap.size wc w') : w'.cell? p = some x := by
  rw [hb.cell (World.block_lt_of_cell? wc p h)]; exact h
theorem SmallAt.on {w w' : World} {B : Nat} (h : SmallAt w B) (hb : Below w.heap.size w w') : SmallAt w' B :=
  ⟨h.row.on hb, h.main.on hb, h.k1.on hb h.k1.lt, h.k2.on hb h.k2.lt, h.adds.on hb⟩
theorem SmallAt.mainX {w : World} {B : Nat} (h : SmallAt w B) : Exs w (some ⟨B + 3, 0, none⟩) mainL :=
  exs_of_row h.main ⟨rfl, rfl, rfl, ⟨_, _, rfl, nums_nil _ _⟩, rfl, rfl, rfl, ⟨_, _, rfl, nums_nil _ _⟩, rfl, rfl, rfl, ⟨_, _, rfl, h.k1.nums⟩, rfl, rfl, rfl, ⟨_, _, rfl, nums_nil _ _⟩, rfl, rfl, rfl, ⟨_, _, rfl, h.k2.nums⟩, trivial⟩
theorem SmallAt.defs {w : World} {B : Nat} (h : SmallAt w B) : Defs Exs w (some ⟨B + 10, 0, none⟩) smallL :=
  h.row.defs ⟨rfl, ⟨_, _, rfl, h.mainX⟩, rfl, ⟨_, _, rfl, h.adds.exs⟩, trivial⟩
theorem pmay_small : pmay smallL = true := by decide +kernel

/-- What lies ahead of the call of adds. -/
structure PreAt (w : World) (B : Nat) : Prop where
  box : Bx1 w B (.slice none 0 0)
  main : Rw w (B + 3) (mainC B)
  k1 : Lv w (B + 1) [0, 1]
  k2 : Lv w (B + 2) [2, 3]
  mb : Bx2 w (B + 4) 0 (.slice (some ⟨B + 3, 0, none⟩) 5 5)
  size : w.heap.size = B + 5
theorem pre_at (w : World) : PreAt (((((w.alloc (.cells #[.slice none 0 0] 30)).alloc (.cells #[I 0, I 1] 3)).alloc (.cells #[I 2, I 3] 3)).alloc (.cells (mainC w.heap.size) 55)).alloc (.cells #[I 0, .slice (some ⟨w.heap.size + 1 + 1 + 1, 0, none⟩) 5 5] 58)) w.heap.size := by
  refine ⟨((((Bx1.new w _).alloc _).alloc _).alloc _).alloc _, ?_, ?_, ?_, ?_, by simp⟩
  · have h : Rw ((((w.alloc (.cells #[.slice none 0 0] 30)).alloc (.cells #[I 0, I 1] 3)).alloc (.cells #[I 2, I 3] 3)).alloc (.cells (mainC w.heap.size) 55)) (w.heap.size + 3) (mainC w.heap.size) := by
      have h := World.alloc_heap_new (((w.alloc (.cells #[.slice none 0 0] 30)).alloc (.cells #[I 0, I 1] 3)).alloc (.cells #[I 2, I 3] 3)) (.cells (mainC w.heap.size) 55)
      simp only [World.size_alloc] at h
      exact h
    exact h.alloc _
  · have h := ((Lv.new (w.alloc (.cells #[.slice none 0 0] 30)) [0, 1]).alloc (.cells #[I 2, I 3] 3)).alloc (.cells (mainC w.heap.size) 55)
    simp only [World.size_alloc] at h
    exact h.alloc _
  · have h := (Lv.new ((w.alloc (.cells #[.slice none 0 0] 30)).alloc (.cells #[I 0, I 1] 3)) [2, 3]).alloc (.cells (mainC w.heap.size) 55)
    simp only [World.size_alloc] at h
    exact h.alloc _
  · have h := Bx2.new ((((w.alloc (.cells #[.slice none 0 0] 30)).alloc (.cells #[I 0, I 1] 3)).alloc (.cells #[I 2, I 3] 3)).alloc (.cells (mainC w.heap.size) 55)) 0 (.slice (some ⟨w.heap.size + 1 + 1 + 1, 0, none⟩) 5 5)
    simp only [World.size_alloc] at h
    exact h
theorem small_at {w W5 w6 : World} {B : Nat} (h : PreAt W5 B) (a6 : AddsAt w6 W5.heap.size ∧ w6.heap.size = W5.heap.size + 5 ∧ Below W5.heap.size W5 w6) (h0 : Below B w W5) {W7 : World}
    (hW : (w6.setCell ⟨B, 0, none⟩ (.slice (some ⟨w6.heap.size, 0, none⟩) 2 2)).alloc (.cells #[I 0, .slice (some ⟨B + 1 + 1 + 1, 0, none⟩) 5 5, I 2, .slice (some ⟨W5.heap.size + 4, 0, none⟩) 8 8] 58) = W7) :
    w6.heap.size = B + 10 ∧ W7.cell? ⟨B, 0, none⟩ = some (.slice (some ⟨w6.heap.size, 0, none⟩) 2 2) ∧ SmallAt W7 B ∧ Below B w W7 ∧ W7.heap.size = B + 11 := by
  subst hW
  obtain ⟨ha, hs, hb⟩ := a6
  have h5 := h.size
  have l1 := h.k1.lt
  have l2 := h.k2.lt
  have hB : Below B w (w6.setCell ⟨B, 0, none⟩ (.slice (some ⟨w6.heap.size, 0, none⟩) 2 2)) := (h0.trans (hb.mono (by omega))).setCell (p := ⟨B, 0, none⟩) (Nat.le_refl _) _
  have hx := ((h.box.on hb).set0 (.slice (some ⟨w6.heap.size, 0, none⟩) 2 2)).alloc (.cells #[I 0, .slice (some ⟨B + 1 + 1 + 1, 0, none⟩) 5 5, I 2, .slice (some ⟨W5.heap.size + 4, 0, none⟩) 8 8] 58)
  rw [h5] at ha
  refine ⟨by omega, hx.c0, ⟨?_, ((h.main.on hb).other 0 _ (by omega)).alloc _, ((h.k1.on hb l1).other 0 _ (by omega)).alloc _, ((h.k2.on hb l2).other 0 _ (by omega)).alloc _, ?_⟩, hB.alloc (by simp; omega) _, by simp; omega⟩
  · have h := World.alloc_heap_new (w6.setCell ⟨B, 0, none⟩ (.slice (some ⟨w6.heap.size, 0, none⟩) 2 2)) (.cells #[I 0, .slice (some ⟨B + 1 + 1 + 1, 0, none⟩) 5 5, I 2, .slice (some ⟨W5.heap.size + 4, 0, none⟩) 8 8] 58)
    have e : (w6.setCell ⟨B, 0, none⟩ (.slice (some ⟨w6.heap.size, 0, none⟩) 2 2)).heap.size = B + 10 := by simp; omega
    rw [e] at h
    rw [h5] at h ⊢
    exact h
  · exact ⟨((show Rw _ _ _ from ha.body).other 0 _ (by omega)).alloc _, (ha.k1.other 0 _ (by omega)).alloc _, (ha.k2.other 0 _ (by omega)).alloc _, (ha.k3.other 0 _ (by omega)).alloc _⟩

set_option maxHeartbeats 800000 in
set_option maxRecDepth 100000 in
theorem small_any (w : World) :
    Calls Tryz.prog 11 #[] w fun e w' => e = .returned (.agg #[.slice (some ⟨w.heap.size + 10, 0, none⟩) 2 2]) ∧ SmallAt w' w.heap.size ∧ Below w.heap.size w w' ∧ w'.heap.size = w.heap.size + 11 := by
  go_enter Tryz.func11, Tryz.ntmps11
  go_wp2_with fail
  have hp := pre_at w
  have hb : Below w.heap.size w (((((w.alloc (.cells #[.slice none 0 0] 30)).alloc (.cells #[I 0, I 1] 3)).alloc (.cells #[I 2, I 3] 3)).alloc (.cells (mainC w.heap.size) 55)).alloc (.cells #[I 0, .slice (some ⟨w.heap.size + 1 + 1 + 1, 0, none⟩) 5 5] 58)) := (((((Below.refl _ w).alloc (Nat.le_refl _) _).alloc (by simp) _).alloc (by simp; omega) _).alloc (by simp; omega) _).alloc (by simp; omega) _
  unfold mainC at hp hb
  obtain ⟨W5, hW5⟩ : ∃ W5, (((((w.alloc (.cells #[.slice none 0 0] 30)).alloc (.cells #[I 0, I 1] 3)).alloc (.cells #[I 2, I 3] 3)).alloc (.cells #[I 7, I 0, I 0, nilS, I 0, I 4, I 0, nilS, I 3, I 7, I 0, .slice (some ⟨w.heap.size + 1, 0, none⟩) 2 2, I 0, I 5, I 0, nilS, I 2, I 1, I 0, .slice (some ⟨w.heap.size + 2, 0, none⟩) 2 2] 55)).alloc (.cells #[I 0, .slice (some ⟨w.heap.size + 1 + 1 + 1, 0, none⟩) 5 5] 58)) = W5 := ⟨_, rfl⟩
  rw [hW5] at hp hb
  have hW5' : (((((w.alloc (.cells #[.slice none 0 0] 30)).alloc (.cells #[I 0, I 1] 3)).alloc (.cells #[I 2, I 3] 3)).alloc (.cells #[I 7, I 0, I 0, nilS, I 0, I 4, I 0, nilS, I 3, I 7, I 0, .slice (some ⟨w.heap.size + 1, 0, none⟩) 2 2, I 0, I 5, I 0, nilS, I 2, I 1, I 0, .slice (some ⟨w.heap.size + 1 + 1, 0, none⟩) 2 2] 55)).alloc (.cells #[I 0, .slice (some ⟨w.heap.size + 1 + 1 + 1, 0, none⟩) 5 5] 58)) = W5 := hW5
  rw [hW5']
  clear hW5 hW5'
  have m0 : W5.cell? ⟨w.heap.size + 1 + 1 + 1 + 1, 0, none⟩ = some (I 0) := hp.mb.c0
  have m1 : W5.cell? ⟨w.heap.size + 1 + 1 + 1 + 1, 1, none⟩ = some (.slice (some ⟨w.heap.size + 1 + 1 + 1, 0, none⟩) 5 5) := hp.mb.c1
  have HP : Hid (PreAt W5 w.heap.size) := hp
  have HB : Hid (Below w.heap.size w W5) := hb
  clear hp hb
  go_region_with (go_at_call 17; refine (adds_any _).mono ?_; rintro e w6 ⟨rfl, ha6, hb6, hs6⟩; have hb7 : Below W5.heap.size W5 w6 := ⟨hb6.os, hb6.tape, hb6.output, hb6.size, hb6.block⟩; have n0 := cell_nx m0 hb7; have n1 := cell_nx m1 hb7; have x0 := (HP.out.box.on hb7).c0; have x1 := (HP.out.box.on hb7).frozen 0; have xl := (HP.out.box.on hb7).lt; have HA7 : Hid (AddsAt w6 W5.heap.size ∧ w6.heap.size = W5.heap.size + 5 ∧ Below W5.heap.size W5 w6) := ⟨ha6, hs6, hb7⟩; clear ha6 hs6 hb6 hb7)
  all_goals
    obtain ⟨W7, hW7⟩ : ∃ W7, (w6.setCell ⟨w.heap.size, 0, none⟩ (.slice (some ⟨w6.heap.size, 0, none⟩) 2 2)).alloc (.cells #[I 0, .slice (some ⟨w.heap.size + 1 + 1 + 1, 0, none⟩) 5 5, I 2, .slice (some ⟨W5.heap.size + 4, 0, none⟩) 8 8] 58) = W7 := ⟨_, rfl⟩
    obtain ⟨e6, c7, s7, b7, z7⟩ := small_at HP.out HA7.out HB.out hW7
    rw [hW7]
    clear hW7 x0 x1 xl n0 n1 m0 m1
    go_wp2_with fail
    refine bodyPost_ret (v := .agg #[.slice (some ⟨w.heap.size + 10, 0, none⟩) 2 2]) (by rw [e6] at c7; simp [results, Tryz.results11, go_sem, c7]) rfl ⟨rfl, s7, b7, z7⟩
end Go.Proofs.YtjamknejllbmkaaGreatDoor

namespace Go.Proofs.YtjamknejllbmkaaGreatDoor
open Go.RowKit
set_option linter.unusedVariables false

def smallA : List Df := [⟨0, mainL⟩]
def smallB : List Df := [⟨0, mainL⟩, ⟨1, addsL⟩]
theorem pmay_smallA : pmay smallA = false := by decide +kernel
theorem pmay_smallB : pmay smallB = false := by decide +kernel
theorem pmay_none : pmay [] = false := by decide +kernel

/-- Something is done in a block that is none of small's. -/
theorem SmallAt.other {w : World} {B b' : Nat} (h : SmallAt w B) (hb : b' < B + 1 ∨ B + 10 < b') (j : Nat) (v : Value) : SmallAt (w.setCell ⟨b', j, none⟩ v) B :=
  ⟨h.row.other j v (by omega), h.main.other j v (by omega), h.k1.other j v (by omega), h.k2.other j v (by omega),
    ⟨(show Rw _ _ _ from h.adds.body).other j v (by omega), h.adds.k1.other j v (by omega), h.adds.k2.other j v (by omega), h.adds.k3.other j v (by omega)⟩⟩
theorem SmallAt.alloc {w : World} {B : Nat} (h : SmallAt w B) (o : Obj) : SmallAt (w.alloc o) B := h.on ((Below.refl _ w).alloc (Nat.le_refl _) o)
theorem AddsAt.other {w : World} {B b' : Nat} (h : AddsAt w B) (hb : b' < B + 1 ∨ B + 4 < b') (j : Nat) (v : Value) : AddsAt (w.setCell ⟨b', j, none⟩ v) B :=
  ⟨(show Rw _ _ _ from h.body).other j v (by omega), h.k1.other j v (by omega), h.k2.other j v (by omega), h.k3.other j v (by omega)⟩
/-- The row of definitions is turned, all else is as it was. -/
theorem SmallAt.turned {w : World} {B : Nat} (h : SmallAt w B) (j : Nat) (v : Value) : Rd (w.setCell ⟨B + 10, j, none⟩ v) (B + 10) ((smallC B).setIfInBounds j v) ∧ Exs (w.setCell ⟨B + 10, j, none⟩ v) (some ⟨B + 3, 0, none⟩) mainL ∧ AddsAt (w.setCell ⟨B + 10, j, none⟩ v) (B + 5) :=
  ⟨h.row.set j v, exs_of_row (h.main.other j v (by omega)) ⟨rfl, rfl, rfl, ⟨_, _, rfl, nums_nil _ _⟩, rfl, rfl, rfl, ⟨_, _, rfl, nums_nil _ _⟩, rfl, rfl, rfl, ⟨_, _, rfl, (h.k1.other j v (by omega)).nums⟩, rfl, rfl, rfl, ⟨_, _, rfl, nums_nil _ _⟩, rfl, rfl, rfl, ⟨_, _, rfl, (h.k2.other j v (by omega)).nums⟩, trivial⟩, h.adds.other (by omega) j v⟩
/-- Two programs in their boxes. -/
structure WakeAt (W : World) (z B1 B2 : Nat) : Prop where
  d1 : Defs Exs W (some ⟨B1 + 10, 0, none⟩) smallA
  d2 : Defs Exs W (some ⟨B2 + 10, 0, none⟩) smallB
  a : Bx1 W z (.slice (some ⟨B1 + 10, 0, none⟩) 1 2)
  b : Bx1 W (z + 1) (.slice (some ⟨B2 + 10, 0, none⟩) 2 2)
theorem WakeAt.on {W W' : World} {z B1 B2 : Nat} (h : WakeAt W z B1 B2) (hb : Below W.heap.size W W') : WakeAt W' z B1 B2 := ⟨h.d1.on hb, h.d2.on hb, h.a.on hb, h.b.on hb⟩
theorem wake_at (w2 : World) (B1 B2 : Nat) (h1 : SmallAt w2 B1) (h2 : SmallAt w2 B2) (e2 : B2 = B1 + 11) :
    WakeAt (((w2.setCell ⟨B2 + 10, 2, none⟩ (I 1)).alloc (.cells #[.slice (some ⟨B1 + 10, 0, none⟩) 1 2] 30)).alloc (.cells #[.slice (some ⟨B2 + 10, 0, none⟩) 2 2] 30)) w2.heap.size B1 B2 := by
  have g1 := h1.other (b' := B2 + 10) (by omega) 2 (I 1)
  obtain ⟨t1, t2, t3⟩ := h2.turned 2 (I 1)
  have hsz : (w2.setCell ⟨B2 + 10, 2, none⟩ (I 1)).heap.size = w2.heap.size := by simp
  generalize w2.setCell ⟨B2 + 10, 2, none⟩ (I 1) = w3 at *
  rw [← hsz]
  have hb : Below w3.heap.size w3 ((w3.alloc (.cells #[.slice (some ⟨B1 + 10, 0, none⟩) 1 2] 30)).alloc (.cells #[.slice (some ⟨B2 + 10, 0, none⟩) 2 2] 30)) := ((Below.refl _ w3).alloc (Nat.le_refl _) _).alloc (by simp) _
  refine ⟨?_, ?_, (Bx1.new w3 _).alloc _, ?_⟩
  · exact Defs.on (g1.row.defs (ds := smallA) ⟨rfl, ⟨_, _, rfl, g1.mainX⟩, trivial⟩) hb
  · exact Defs.on (t1.defs (ds := smallB) ⟨rfl, ⟨_, _, rfl, t2⟩, rfl, ⟨_, _, rfl, t3.exs⟩, trivial⟩) hb
  · have h := Bx1.new (w3.alloc (.cells #[.slice (some ⟨B1 + 10, 0, none⟩) 1 2] 30)) (.slice (some ⟨B2 + 10, 0, none⟩) 2 2)
    rwa [World.size_alloc] at h

end Go.Proofs.YtjamknejllbmkaaGreatDoor

namespace Go.Proofs.YtjamknejllbmkaaGreatDoor
open Go.RowKit Go.ChangeShapes Go.WideShapes Go.Deep
set_option linter.unusedVariables false

theorem laidOut : laidOutB Tryz.prog = true := by kernel_rfl
theorem cells3 : Tryz.prog.cellsOf 3 = 1 := by kernel_rfl
theorem cells53 : Tryz.prog.cellsOf 53 = 1 := by kernel_rfl
theorem cells56 : Tryz.prog.cellsOf 56 = 1 := by kernel_rfl
theorem cells55 : Tryz.prog.cellsOf 55 = 4 := by kernel_rfl
theorem cells58 : Tryz.prog.cellsOf 58 = 2 := by kernel_rfl
theorem bytes3 : Tryz.prog.bytesOf 3 = 8 := by kernel_rfl
theorem bytes55 : Tryz.prog.bytesOf 55 = 48 := by kernel_rfl
theorem list4 {α : Type} {l : List α} (h : l.length = 4) : ∃ a b c d, l = [a, b, c, d] := by
  match l, h with
  | [a, b, c, d], _ => exact ⟨a, b, c, d, rfl⟩
theorem list2 {α : Type} {l : List α} (h : l.length = 2) : ∃ a b, l = [a, b] := by
  match l, h with
  | [a, b], _ => exact ⟨a, b, rfl⟩
theorem mem_weightsAll {H : Type} {P : Program} {e : TypeId} {d : DataW H} {n : Nat} (hn : n ∈ d.weights P e) : ∀ {l : List (DataW H)}, d ∈ l → n ∈ DataW.weightsAll P e l
  | [], h => by cases h
  | x :: l, h => by
    rw [DataW.weightsAll]
    rcases List.mem_cons.1 h with h | h
    · subst h; exact List.mem_append_left _ hn
    · exact List.mem_append_right _ (mem_weightsAll hn h)

/-- Parts in a slice, wherever it lies; a nil list of kids has no room. -/
def ExsN (w : World) (g : Option Addr) (xs : List Ex) : Prop :=
  xs = [] ∨ ∃ bk o, g = some ⟨bk, o, none⟩ ∧ bk < w.heap.size ∧ ∀ (j : Nat) x, xs[j]? = some x → ∃ gk ck, ExAt w bk (o + j * 4) x gk ck ∧ (gk = none → ck = 0)
theorem ExsN.exs {w : World} {g : Option Addr} {xs : List Ex} (h : ExsN w g xs) : Exs w g xs := by
  rcases h with h | ⟨bk, o, h1, h2, h3⟩
  · exact Or.inl h
  · exact Or.inr ⟨bk, o, h1, h2, fun j x hx => by obtain ⟨gk, ck, h, _⟩ := h3 j x hx; exact ⟨gk, ck, h⟩⟩
theorem ExsN.at {w : World} {g : Option Addr} {xs : List Ex} (h : ExsN w g xs) {j : Nat} (hj : j < xs.length) : ∃ bk o, g = some ⟨bk, o, none⟩ ∧ bk < w.heap.size ∧ ∃ gk ck, ExAt w bk (o + j * 4) xs[j] gk ck ∧ (gk = none → ck = 0) := by
  rcases h with h | ⟨bk, o, h1, h2, h3⟩
  · subst h; simp at hj
  · exact ⟨bk, o, h1, h2, h3 j _ (List.getElem?_eq_getElem hj)⟩
theorem ExsN.on {w w' : World} {g : Option Addr} {xs : List Ex} (h : ExsN w g xs) (hb : Below w.heap.size w w') : ExsN w' g xs := by
  rcases h with h | ⟨bk, o, h1, h2, h3⟩
  · exact Or.inl h
  · exact Or.inr ⟨bk, o, h1, Nat.lt_of_lt_of_le h2 hb.size, fun j x hx => by obtain ⟨gk, ck, h, hn⟩ := h3 j x hx; exact ⟨gk, ck, h.on h2 hb, hn⟩⟩

theorem open_nums {H : Type} {enc : TypeId × Value → H} {W : World} {cs : List Value} {fuel : Nat} {y : DataW H × List MemPlace}
    (hf : DataW.trod enc Tryz.prog W 0 (fun _ => true) true fuel 53 cs = some y) (hw : ∀ n ∈ DataW.weights Tryz.prog 53 y.1, n ≤ reachBytes) :
    ∃ (g : Option Addr) (xs : List Int) (c : Nat), cs = [.slice g xs.length c] ∧ Nums W g xs ∧ (g = none → c = 0) ∧ xs.length * 8 ≤ reachBytes := by
  rcases open_ints Tryz.underlying53 Tryz.underlying3 cells3 hf with ⟨hcs, _⟩ | ⟨a, len, cap, zs, hcs, _, hl, _, hz, hx, hcell, _⟩
  · exact ⟨none, [], 0, hcs, Or.inl rfl, fun _ => rfl, by simp⟩
  · simp only [if_true] at hz
    subst hx
    have e : (zs.take len).length = len := by rw [List.length_take]; omega
    have h1 := hw (((lits .i64 (zs.take len) : List (DataW H)).length + (lits .i64 (zs.drop len) : List (DataW H)).length) * Tryz.prog.bytesOf 3) (by rw [DataW.weights, Tryz.underlying53]; exact List.mem_cons_self)
    rw [bytes3] at h1
    simp only [lits, List.length_map, e] at h1
    refine ⟨some a, zs.take len, cap, by rw [hcs, e], ?_, (fun h => by cases h), by rw [e]; omega⟩
    by_cases h0 : len = 0
    · subst h0; exact Or.inl (by simp)
    · obtain ⟨b, off, spot⟩ := a
      have h00 := hcell 0 (by omega)
      have hspot : spot = none := by simpa [Addr.add] using World.cell?_spot h00
      subst hspot
      refine Or.inr ⟨b, off, rfl, ?_, fun j x hx => ?_⟩
      · rw [Addr.add_lit] at h00
        exact World.block_lt_of_cell? _ _ h00
      · rw [List.getElem?_take] at hx
        split at hx
        · have h2 := hcell j (by omega)
          rw [Addr.add_lit, List.getD, hx] at h2
          exact h2
        · cases hx

theorem open_part {H : Type} {enc : TypeId × Value → H} {W : World} {cs : List Value} {fuel : Nat} {y : DataW H × List MemPlace}
    (hf : DataW.trod enc Tryz.prog W 0 (fun _ => true) true fuel 55 cs = some y) (hw : ∀ n ∈ DataW.weights Tryz.prog 55 y.1, n ≤ reachBytes) :
    ∃ (e : Ex) (g : Option Addr) (c : Nat), cs = [.int .i64 e.kind, .int .i64 e.num, .int .i64 e.bind, .slice g e.kids.length c] ∧ Nums W g e.kids ∧ (g = none → c = 0) ∧ e.kids.length * 8 ≤ reachBytes := by
  obtain ⟨ys, n, _, rfl, hl, hlen, hfs⟩ := DataW.trod_struct Tryz.underlying55 hf
  obtain ⟨c0, c1, c2, c3, rfl⟩ := list4 (hl.trans cells55)
  obtain ⟨y0, y1, y2, y3, rfl⟩ := list4 (show ys.length = 4 from hlen)
  have h0 := hfs 0 _ rfl
  have h1 := hfs 1 _ rfl
  have h2 := hfs 2 _ rfl
  have h3 := hfs 3 _ rfl
  simp [cells3, cells53] at h0 h1 h2 h3
  obtain ⟨n0, e0, _, _⟩ := DataW.trod_int Tryz.underlying3 h0
  obtain ⟨n1, e1, _, _⟩ := DataW.trod_int Tryz.underlying3 h1
  obtain ⟨n2, e2, _, _⟩ := DataW.trod_int Tryz.underlying3 h2
  obtain ⟨g, xs, c, e3, hn, hg0, hb⟩ := open_nums h3 (fun m hm => hw m (by
    rw [List.map_cons, List.map_cons, List.map_cons, List.map_cons, List.map_nil, DataW.weights, Tryz.underlying55]
    exact DataW.weights_mem_each (j := 3) rfl rfl m hm))
  simp at e0 e1 e2 e3
  subst e0 e1 e2 e3
  exact ⟨⟨n0, n1, n2, xs⟩, g, c, rfl, hn, hg0, hb⟩

theorem open_body {H : Type} {enc : TypeId × Value → H} {W : World} {cs : List Value} {fuel : Nat} {y : DataW H × List MemPlace}
    (hf : DataW.trod enc Tryz.prog W 0 (fun _ => true) true fuel 56 cs = some y) (hw : ∀ n ∈ DataW.weights Tryz.prog 56 y.1, n ≤ reachBytes) :
    ∃ (g : Option Addr) (xs : List Ex) (c : Nat), cs = [.slice g xs.length c] ∧ ExsN W g xs ∧ xs.length * 48 ≤ reachBytes ∧ ∀ x ∈ xs, x.kids.length * 8 ≤ reachBytes := by
  rcases open_slice Tryz.underlying56 hf with ⟨hcs, _⟩ | ⟨a, len, cap, m, n, D, Pl, hcs, _, hl, hm, hmm, hx, hel⟩
  · exact ⟨none, [], 0, hcs, Or.inl rfl, by simp, by simp⟩
  · simp only [if_true] at hmm
    subst hx
    simp only [cells55] at hel
    have hwl := hw ((((List.range len).map D).length + ((List.range (m - len)).map fun j => D (len + j)).length) * Tryz.prog.bytesOf 55) (by rw [DataW.weights, Tryz.underlying56]; exact List.mem_cons_self)
    rw [bytes55] at hwl
    simp only [List.length_map, List.length_range] at hwl
    have each : ∀ i, i < len → ∃ e : Ex, (∃ gk ck, W.cell? (a.add (i * 4)) = some (.int .i64 e.kind) ∧ W.cell? (a.add (i * 4 + 1)) = some (.int .i64 e.num) ∧ W.cell? (a.add (i * 4 + 2)) = some (.int .i64 e.bind) ∧ W.cell? (a.add (i * 4 + 3)) = some (.slice gk e.kids.length ck) ∧ Nums W gk e.kids ∧ (gk = none → ck = 0)) ∧ e.kids.length * 8 ≤ reachBytes := by
      intro i hi
      obtain ⟨cs', h1, h2⟩ := hel i (by omega)
      obtain ⟨e, gk, ck, rfl, hn, hg0, hb⟩ := open_part h2 (fun q hq => hw q (by
        rw [DataW.weights, Tryz.underlying56]
        exact List.mem_cons_of_mem _ (List.mem_append_left _ (mem_weightsAll hq (List.mem_map.2 ⟨i, List.mem_range.2 hi, rfl⟩)))))
      have hc := (World.cells?_some h1).2.2
      have k0 := hc 0 (by omega)
      have k1 := hc 1 (by omega)
      have k2 := hc 2 (by omega)
      have k3 := hc 3 (by omega)
      rw [add_add] at k0 k1 k2 k3
      exact ⟨e, ⟨gk, ck, k0, k1, k2, k3, hn, hg0⟩, hb⟩
    obtain ⟨E, hE⟩ := @choose_lt Ex ⟨⟨0, 0, 0, []⟩⟩ _ _ each
    refine ⟨some a, (List.range len).map E, cap, by rw [hcs]; simp, ?_, by simp; omega, ?_⟩
    · by_cases h0 : len = 0
      · subst h0; exact Or.inl rfl
      · obtain ⟨b, off, spot⟩ := a
        obtain ⟨⟨gk, ck, k0, k1, _⟩, _⟩ := hE 0 (by omega)
        have hspot : spot = none := by simpa [Addr.add] using World.cell?_spot k0
        subst hspot
        refine Or.inr ⟨b, off, rfl, ?_, fun j x hx => ?_⟩
        · rw [Addr.add_lit] at k0
          exact World.block_lt_of_cell? _ _ k0
        · have hj : j < len := by
            have := (List.getElem?_eq_some_iff.1 hx).1
            simpa using this
          have e : x = E j := by
            rw [List.getElem?_map, List.getElem?_range hj] at hx
            exact (Option.some.inj hx).symm
          subst e
          obtain ⟨⟨gk, ck, q0, q1, q2, q3, q4, q5⟩, _⟩ := hE j hj
          rw [Addr.add_lit] at q0 q1 q2 q3
          exact ⟨gk, ck, ⟨q0, q1, q2, q3, q4⟩, q5⟩
    · intro x hx
      obtain ⟨i, hi, rfl⟩ := List.mem_map.1 hx
      exact (hE i (List.mem_range.1 hi)).2

end Go.Proofs.YtjamknejllbmkaaGreatDoor

namespace Go.Proofs.YtjamknejllbmkaaGreatDoor
open Go.RowKit
set_option linter.unusedVariables false

theorem Tryz.info58 : (Tryz.prog.info? 58).map (fun i => (i.zero, i.size, i.bytes)) = some (some (.agg #[.int .i64 0, .slice none 0 0]), 2, 32) := by kernel_rfl
/-- Numbers in a row of numbers. -/
def NumsT (w : World) (g : Option Addr) (ks : List Int) : Prop :=
  ks = [] ∨ ∃ b cs, g = some ⟨b, 0, none⟩ ∧ w.heap[b]? = some (.cells cs 3 (0, 0)) ∧ ∀ (j : Nat) x, ks[j]? = some x → cs[j]? = some (.int .i64 x)
/-- The part at this place of a row. -/
def ExT (w : World) (cs : Array Value) (j : Nat) (x : Ex) : Prop :=
  ∃ gk ck, cs[j * 4]? = some (.int .i64 x.kind) ∧ cs[j * 4 + 1]? = some (.int .i64 x.num) ∧ cs[j * 4 + 2]? = some (.int .i64 x.bind) ∧ cs[j * 4 + 3]? = some (.slice gk x.kids.length ck) ∧ NumsT w gk x.kids ∧ (gk = none → ck = 0)
/-- Parts in a row of parts. -/
def ExsT (w : World) (g : Option Addr) (xs : List Ex) : Prop :=
  xs = [] ∨ ∃ b cs, g = some ⟨b, 0, none⟩ ∧ Rw w b cs ∧ ∀ (j : Nat) x, xs[j]? = some x → ExT w cs j x
theorem NumsT.nums {w : World} {g : Option Addr} {ks : List Int} (h : NumsT w g ks) : Nums w g ks := by
  rcases h with h | ⟨b, cs, h1, h2, h3⟩
  · exact Or.inl h
  · refine Or.inr ⟨b, 0, h1, (Array.getElem?_eq_some_iff.1 h2).1, fun j x hx => ?_⟩
    unfold World.cell?
    simp only [h2, Nat.zero_add]
    exact h3 j x hx
theorem ExsT.exs {w : World} {g : Option Addr} {xs : List Ex} (h : ExsT w g xs) : Exs w g xs := by
  rcases h with h | ⟨b, cs, h1, h2, h3⟩
  · exact Or.inl h
  · refine Or.inr ⟨b, 0, h1, h2.lt, fun j x hx => ?_⟩
    obtain ⟨gk, ck, a0, a1, a2, a3, a4, _⟩ := h3 j x hx
    rw [Nat.zero_add]
    exact ⟨gk, ck, h2.cell _ _ a0, h2.cell _ _ a1, h2.cell _ _ a2, h2.cell _ _ a3, a4.nums⟩
theorem ExsT.exsN {w : World} {g : Option Addr} {xs : List Ex} (h : ExsT w g xs) : ExsN w g xs := by
  rcases h with h | ⟨b, cs, h1, h2, h3⟩
  · exact Or.inl h
  · refine Or.inr ⟨b, 0, h1, h2.lt, fun j x hx => ?_⟩
    obtain ⟨gk, ck, a0, a1, a2, a3, a4, a5⟩ := h3 j x hx
    rw [Nat.zero_add]
    exact ⟨gk, ck, ⟨h2.cell _ _ a0, h2.cell _ _ a1, h2.cell _ _ a2, h2.cell _ _ a3, a4.nums⟩, a5⟩
/-- Only a row of definitions has been turned, if any. -/
def Only36 (w : World) (row : Option Nat) : Prop := ∀ b, row = some b → b < w.heap.size → ∃ cs fr, w.heap[b]? = some (.cells cs 58 fr)
theorem only_none (w : World) : Only36 w none := fun b h => by cases h
theorem only_own {w : World} {base n : Nat} {v : Value} {xs : List Value} (h : w.ownsRow base 58 2 v n xs) : Only36 w v.ownBlock := by
  intro b hb _
  rcases h.2 with ⟨rfl, _⟩ | ⟨g, cap, cur, rfl, _, hg, _⟩
  · cases hb
  · cases hb; exact ⟨cur, (0, 0), hg⟩
theorem only_ne {w : World} {row : Option Nat} (h : Only36 w row) {b : Nat} {cs : Array Value} {t : TypeId} (hb : w.heap[b]? = some (.cells cs t (0, 0))) (ht : t ≠ 58) : some b ≠ row := by
  intro e
  obtain ⟨cs', fr, h'⟩ := h b e.symm (Array.getElem?_eq_some_iff.1 hb).1
  rw [hb] at h'
  cases h'
  exact ht rfl
theorem NumsT.kept {w w' : World} {g : Option Addr} {ks : List Int} {row : Option Nat} (h : NumsT w g ks) (hg : w.grownBy w' row) (hr : Only36 w row) : NumsT w' g ks := by
  rcases h with h | ⟨b, cs, h1, h2, h3⟩
  · exact Or.inl h
  · exact Or.inr ⟨b, cs, h1, (hg.block b (Array.getElem?_eq_some_iff.1 h2).1 (only_ne hr h2 (by decide))).trans h2, h3⟩
theorem ExT.kept {w w' : World} {cs : Array Value} {j : Nat} {x : Ex} {row : Option Nat} (h : ExT w cs j x) (hg : w.grownBy w' row) (hr : Only36 w row) : ExT w' cs j x := by
  obtain ⟨gk, ck, a0, a1, a2, a3, a4, a5⟩ := h
  exact ⟨gk, ck, a0, a1, a2, a3, a4.kept hg hr, a5⟩
theorem ExsT.kept {w w' : World} {g : Option Addr} {xs : List Ex} {row : Option Nat} (h : ExsT w g xs) (hg : w.grownBy w' row) (hr : Only36 w row) : ExsT w' g xs := by
  rcases h with h | ⟨b, cs, h1, h2, h3⟩
  · exact Or.inl h
  · exact Or.inr ⟨b, cs, h1, (hg.block b h2.lt (only_ne hr h2 (by decide))).trans h2, fun j x hx => (h3 j x hx).kept hg hr⟩
theorem ExsT.on {w w' : World} {g : Option Addr} {xs : List Ex} (h : ExsT w g xs) (hb : Below w.heap.size w w') : ExsT w' g xs := h.kept (grown_of_below hb none) (only_none w)
theorem ExsT.alloc {w : World} {g : Option Addr} {xs : List Ex} (h : ExsT w g xs) (o : Obj) : ExsT (w.alloc o) g xs := h.on ((Below.refl _ w).alloc (Nat.le_refl _) o)
theorem Lv.numsT {w : World} {b : Nat} {L : List Int} (h : Lv w b L) : NumsT w (some ⟨b, 0, none⟩) L :=
  Or.inr ⟨b, _, rfl, h, fun j x hx => by simp [hx]⟩
theorem numsT_nil (w : World) (g : Option Addr) : NumsT w g [] := Or.inl rfl
/-- These cells are these parts. -/
def RowT (w : World) : List Value → List Ex → Prop
  | [], [] => True
  | v0 :: v1 :: v2 :: v3 :: vs, x :: xs => v0 = .int .i64 x.kind ∧ v1 = .int .i64 x.num ∧ v2 = .int .i64 x.bind ∧ (∃ g c, v3 = .slice g x.kids.length c ∧ NumsT w g x.kids ∧ (g = none → c = 0)) ∧ RowT w vs xs
  | _, _ => False
theorem RowT.at {w : World} : ∀ {cs : List Value} {xs : List Ex}, RowT w cs xs → ∀ (j : Nat) x, xs[j]? = some x →
    ∃ gk ck, cs[j * 4]? = some (.int .i64 x.kind) ∧ cs[j * 4 + 1]? = some (.int .i64 x.num) ∧ cs[j * 4 + 2]? = some (.int .i64 x.bind) ∧ cs[j * 4 + 3]? = some (.slice gk x.kids.length ck) ∧ NumsT w gk x.kids ∧ (gk = none → ck = 0)
  | [], [], _, j, x, hx => by simp at hx
  | v0 :: v1 :: v2 :: v3 :: vs, y :: xs, ⟨h0, h1, h2, ⟨g, c, h3, hn⟩, hr⟩, 0, x, hx => by
    have : y = x := by simpa using hx
    subst this
    exact ⟨g, c, by rw [h0]; rfl, by rw [h1]; rfl, by rw [h2]; rfl, by rw [h3]; rfl, hn⟩
  | v0 :: v1 :: v2 :: v3 :: vs, y :: xs, ⟨_, _, _, _, hr⟩, j + 1, x, hx => by
    obtain ⟨gk, ck, a0, a1, a2, a3, a4⟩ := hr.at j x (by simpa using hx)
    have e : ∀ i, (v0 :: v1 :: v2 :: v3 :: vs)[(j + 1) * 4 + i]? = vs[j * 4 + i]? := fun i => by
      rw [show (j + 1) * 4 + i = (j * 4 + i) + 1 + 1 + 1 + 1 by omega]; simp
    exact ⟨gk, ck, by rw [← Nat.add_zero ((j + 1) * 4), e]; exact a0, by rw [e]; exact a1, by rw [e]; exact a2, by rw [e]; exact a3, a4⟩
theorem exsT_of_row {w : World} {b : Nat} {cs : Array Value} {xs : List Ex} (h : Rw w b cs) (hr : RowT w (cs.toList.take (xs.length * 4)) xs) : ExsT w (some ⟨b, 0, none⟩) xs := by
  refine Or.inr ⟨b, cs, rfl, h, fun j x hx => ?_⟩
  have key : ∀ i v, (cs.toList.take (xs.length * 4))[i]? = some v → cs[i]? = some v := fun i v hv => by
    rw [List.getElem?_take] at hv
    split at hv
    · simpa using hv
    · cases hv
  obtain ⟨gk, ck, a0, a1, a2, a3, a4⟩ := hr.at j x hx
  exact ⟨gk, ck, key _ _ a0, key _ _ a1, key _ _ a2, key _ _ a3, a4⟩
theorem AddsAt.exsT {w : World} {B : Nat} (h : AddsAt w B) : ExsT w (some ⟨B + 4, 0, none⟩) addsL :=
  exsT_of_row h.body ⟨rfl, rfl, rfl, ⟨_, _, rfl, numsT_nil _ _, fun _ => rfl⟩, rfl, rfl, rfl, ⟨_, _, rfl, numsT_nil _ _, fun _ => rfl⟩, rfl, rfl, rfl, ⟨_, _, rfl, numsT_nil _ _, fun _ => rfl⟩, rfl, rfl, rfl, ⟨_, _, rfl, h.k1.numsT, (fun h => by cases h)⟩, rfl, rfl, rfl, ⟨_, _, rfl, numsT_nil _ _, fun _ => rfl⟩, rfl, rfl, rfl, ⟨_, _, rfl, numsT_nil _ _, fun _ => rfl⟩, rfl, rfl, rfl, ⟨_, _, rfl, h.k2.numsT, (fun h => by cases h)⟩, rfl, rfl, rfl, ⟨_, _, rfl, h.k3.numsT, (fun h => by cases h)⟩, trivial⟩
theorem SmallAt.mainT {w : World} {B : Nat} (h : SmallAt w B) : ExsT w (some ⟨B + 3, 0, none⟩) mainL :=
  exsT_of_row h.main ⟨rfl, rfl, rfl, ⟨_, _, rfl, numsT_nil _ _, fun _ => rfl⟩, rfl, rfl, rfl, ⟨_, _, rfl, numsT_nil _ _, fun _ => rfl⟩, rfl, rfl, rfl, ⟨_, _, rfl, h.k1.numsT, (fun h => by cases h)⟩, rfl, rfl, rfl, ⟨_, _, rfl, numsT_nil _ _, fun _ => rfl⟩, rfl, rfl, rfl, ⟨_, _, rfl, h.k2.numsT, (fun h => by cases h)⟩, trivial⟩

/-- A definition with where its body lies. -/
abbrev Dt := Df × Option Addr × Nat
def c2 (q : Dt) : List Value := [.int .i64 q.1.params, .slice q.2.1 q.1.body.length q.2.2]
theorem len_c2 : ∀ (qs : List Dt), (qs.flatMap c2).length = qs.length * 2
  | [] => rfl
  | q :: qs => by rw [List.flatMap_cons, List.length_append, len_c2 qs, List.length_cons]; simp [c2]; omega
theorem one_c2 (qs : List Dt) : ∀ u ∈ qs.flatMap c2, u.oneCell' = true := by
  intro u hu
  obtain ⟨p, _, hp⟩ := List.mem_flatMap.1 hu
  simp only [c2, List.mem_cons, List.not_mem_nil, or_false] at hp
  rcases hp with rfl | rfl <;> rfl
theorem at_c2 : ∀ (qs : List Dt) (j : Nat) (q : Dt), qs[j]? = some q → (qs.flatMap c2)[j * 2]? = some (.int .i64 q.1.params) ∧ (qs.flatMap c2)[j * 2 + 1]? = some (.slice q.2.1 q.1.body.length q.2.2)
  | [], j, q, h => by simp at h
  | p :: qs, 0, q, h => by
    have : p = q := by simpa using h
    subst this
    exact ⟨rfl, rfl⟩
  | p :: qs, j + 1, q, h => by
    obtain ⟨h0, h1⟩ := at_c2 qs j q (by simpa using h)
    have e : ∀ i, ((p :: qs).flatMap c2)[(j + 1) * 2 + i]? = (qs.flatMap c2)[j * 2 + i]? := fun i => by
      rw [List.flatMap_cons, show (j + 1) * 2 + i = (j * 2 + i) + 1 + 1 by omega]; simp [c2]
    exact ⟨by rw [← Nat.add_zero ((j + 1) * 2), e]; exact h0, by rw [e]; exact h1⟩
/-- Definitions that are being built. -/
structure Pd (W : World) (base : Nat) (v : Value) (qs : List Dt) : Prop where
  own : W.ownsRow base 58 2 v qs.length (qs.flatMap c2)
  bodies : ∀ q ∈ qs, ExsT W q.2.1 q.1.body
theorem Pd.nil (W : World) (base : Nat) : Pd W base (.slice none 0 0) [] := ⟨World.ownsRow_nil _ _ _ _, fun p hp => by cases hp⟩
theorem Pd.kept {W W' : World} {base : Nat} {v : Value} {qs : List Dt} {row : Option Nat} (h : Pd W base v qs) (hg : W.grownBy W' row) (hr : Only36 W row) (hv : v.ownBlock = none ∨ v.ownBlock ≠ row) : Pd W' base v qs :=
  ⟨h.own.kept hg hv, fun q hq => (h.bodies q hq).kept hg hr⟩
theorem Pd.on {W W' : World} {base : Nat} {v : Value} {qs : List Dt} (h : Pd W base v qs) (hb : Below W.heap.size W W') : Pd W' base v qs := by
  refine h.kept (grown_of_below hb none) (only_none W) ?_
  cases v.ownBlock with
  | none => exact .inl rfl
  | some k => exact .inr (by simp)
theorem Pd.alloc {W : World} {base : Nat} {v : Value} {qs : List Dt} (h : Pd W base v qs) (o : Obj) : Pd (W.alloc o) base v qs := h.on ((Below.refl _ W).alloc (Nat.le_refl _) o)
theorem Pd.val {W : World} {base : Nat} {v : Value} {qs : List Dt} (h : Pd W base v qs) : ∃ g c, v = .slice g qs.length c := by
  rcases h.own.2 with ⟨h2, h3⟩ | ⟨g, cap, cur, hv, _⟩
  · exact ⟨_, _, by rw [h3]; exact h2⟩
  · exact ⟨_, _, hv⟩
theorem Pd.not_box {W : World} {base z : Nat} {v u : Value} {qs : List Dt} (h : Pd W base v qs) (hx : Bx1 W z u) : some z ≠ v.ownBlock := only_ne (only_own h.own) hx (by decide)
/-- Something is done in a program's box. -/
theorem Pd.far {W : World} {base : Nat} {v : Value} {qs : List Dt} (h : Pd W base v qs) {z : Nat} {u0 : Value} (hx : Bx1 W z u0) (j : Nat) (u : Value) : Pd (W.setCell ⟨z, j, none⟩ u) base v qs := by
  have hne : ∀ {b : Nat} {cs : Array Value} {t : TypeId}, W.heap[b]? = some (.cells cs t (0, 0)) → t ≠ 30 → b ≠ z := fun {b cs t} hb ht e => by
    subst e
    have := hb.symm.trans hx
    cases this
    exact ht rfl
  have kt : ∀ {g : Option Addr} {ks : List Int}, NumsT W g ks → NumsT (W.setCell ⟨z, j, none⟩ u) g ks := fun {g ks} hk => by
    rcases hk with hk | ⟨b, cs, h1, h2, h3⟩
    · exact Or.inl hk
    · exact Or.inr ⟨b, cs, h1, (Below.heap_setCell W _ _ b (hne h2 (by decide))).trans h2, h3⟩
  refine ⟨h.own.kept (grown_set W z j u) ?_, fun q hq => ?_⟩
  · exact .inr fun e => h.not_box hx e.symm
  · rcases h.bodies q hq with hk | ⟨b, cs, h1, h2, h3⟩
    · exact Or.inl hk
    · refine Or.inr ⟨b, cs, h1, h2.other j u (hne h2 (by decide)), fun i x hx => ?_⟩
      obtain ⟨gk, ck, a0, a1, a2, a3, a4, a5⟩ := h3 i x hx
      exact ⟨gk, ck, a0, a1, a2, a3, kt a4, a5⟩
theorem Pd.defs {W : World} {base : Nat} {g : Option Addr} {c : Nat} {qs : List Dt} (h : Pd W base (.slice g qs.length c) qs) : Defs Exs W g (qs.map (·.1)) := by
  rcases h.own.2 with ⟨_, h3⟩ | ⟨b, cap, cur, hv, _, hh, _⟩
  · exact Or.inl (by rw [List.length_eq_zero_iff.1 h3]; rfl)
  · simp at hv
    obtain ⟨rfl, _⟩ := hv
    refine Or.inr ⟨b, 0, rfl, (Array.getElem?_eq_some_iff.1 hh).1, fun j d hd => ?_⟩
    rw [List.getElem?_map] at hd
    cases hq : qs[j]? with
    | none => rw [hq] at hd; cases hd
    | some q =>
      rw [hq] at hd
      cases hd
      obtain ⟨k0, k1⟩ := at_c2 qs j q hq
      have h0 := h.own.cells (g := b) rfl _ _ k0
      have h1 := h.own.cells (g := b) rfl _ _ k1
      rw [Addr.add_lit] at h0 h1
      refine ⟨q.2.1, q.2.2, h0, ?_, (h.bodies q (List.mem_of_getElem? hq)).exs⟩
      rw [Nat.add_assoc]; exact h1
/-- Behind an append of one. -/
theorem Pd.next {W w' : World} {base : Nat} {v v' : Value} {qs : List Dt} {q : Dt} (h : Pd W base v qs) (hq : ExsT W q.2.1 q.1.body) (hown : w'.ownsRow base 58 2 v' (qs.length + 1) (qs.flatMap c2 ++ c2 q)) (hg : W.grownBy w' v.ownBlock) : Pd w' base v' (qs ++ [q]) := by
  refine ⟨by rw [List.length_append, List.flatMap_append]; simpa using hown, fun p hp => ?_⟩
  rcases List.mem_append.1 hp with hp | hp
  · exact (h.bodies p hp).kept hg (only_own h.own)
  · rw [List.mem_singleton] at hp; subst hp; exact hq.kept hg (only_own h.own)
/-- A definition is put behind the others. -/
theorem app_df {W : World} {ops : Array Oper} {rest : List Oper} {o : Oper} {a : Act} {Q : Exit → Act → World → Prop} (hgd : o.guard = none) (s x : Operand)
    (ho : o.op = .call { callee := .builtin .append, args := #[s, x], argTypes := #[28, 28] }) (base : Nat) (v : Value) (qs : List Dt) (q : Dt) (cs : Array Value) (hcs : cs.toList = c2 q) (hs : a.eval s = v) (z : Nat) (hz : W.heap.size = z) (hx : a.eval x = .slice (some ⟨z, 0, none⟩) 1 1)
    (hpd : Pd W base v qs) (hq : ExsT W q.2.1 q.1.body) (hb : base ≤ W.heap.size) (hlen : (qs.length + 1) * 32 ≤ 140737488355328)
    (h : ∀ v' w', Pd w' base v' (qs ++ [q]) → (W.alloc (.cells cs 58)).grownBy w' v.ownBlock → wpList Tryz.prog ops Q rest (a.put o.dst v') w') : wpList Tryz.prog ops Q (o :: rest) a (W.alloc (.cells cs 58)) := by
  subst hz
  obtain ⟨i0, hi, hz0, hz1, hz2⟩ := info_parts Tryz.info58
  refine wpList_append_own _ hgd s x 28 ho base 58 i0 _ 2 32 Tryz.underlying28 hi hz0 hz1 hz2 rfl (by decide) v _ _ hs (hpd.own.alloc _) ⟨W.heap.size, 0, none⟩ 1 1 (c2 q) hx rfl ?_ (fun u hu => one_c2 [q] u (by simpa using hu)) (by unfold maxLen; omega) hlen (by rw [World.size_alloc]; omega) ?_
  · intro j u hj
    rw [Addr.add_lit, Nat.zero_add]
    refine cell_new W cs 58 j u ?_
    rw [← hcs] at hj
    simpa using hj
  · intro v' w' h1 h2 _
    exact h v' w' ((hpd.alloc _).next (hq.alloc _) (by simpa using h1) h2) h2
/-- The same within a region that draws its order. -/
theorem step_df {W : World} {ops : Array Oper} {o : Oper} {a : Act} {K : Act → World → Prop} {Q : Exit → Act → World → Prop} {E : Prop} (hgd : o.guard = none) (s x : Operand)
    (ho : o.op = .call { callee := .builtin .append, args := #[s, x], argTypes := #[28, 28] }) (base : Nat) (v : Value) (qs : List Dt) (q : Dt) (cs : Array Value) (hcs : cs.toList = c2 q) (hs : a.eval s = v) (z : Nat) (hz : W.heap.size = z) (hx : a.eval x = .slice (some ⟨z, 0, none⟩) 1 1)
    (hpd : Pd W base v qs) (hq : ExsT W q.2.1 q.1.body) (hb : base ≤ W.heap.size) (hlen : (qs.length + 1) * 32 ≤ 140737488355328)
    (h : ∀ v' w', Pd w' base v' (qs ++ [q]) → (W.alloc (.cells cs 58)).grownBy w' v.ownBlock → K (a.put o.dst v') w') : if Region.wanted o (yielded ops a.tmps) = true then Oper.wp Tryz.prog o a (W.alloc (.cells cs 58)) K Q else E := by
  subst hz
  obtain ⟨i0, hi, hz0, hz1, hz2⟩ := info_parts Tryz.info58
  refine step_append_lies _ hgd s x 28 ho base 58 i0 _ 2 32 Tryz.underlying28 hi hz0 hz1 hz2 rfl (by decide) v _ _ hs (hpd.own.alloc _) ⟨W.heap.size, 0, none⟩ 1 1 (c2 q) hx rfl ?_ (fun u hu => one_c2 [q] u (by simpa using hu)) (by decide) (by unfold maxLen; omega) hlen (by rw [World.size_alloc]; omega) _ rfl ?_
  · intro j u hj
    rw [Addr.add_lit, Nat.zero_add]
    refine cell_new W cs 58 j u ?_
    rw [← hcs] at hj
    simpa using hj
  · intro g cap w' h1 h2 _ _
    exact h _ w' ((hpd.alloc _).next (hq.alloc _) (by simpa using h1) h2) h2
/-- What small lays down, as definitions that are being built. -/
theorem SmallAt.pd {w : World} {B base : Nat} (h : SmallAt w B) (hb : base ≤ B) : Pd w base (.slice (some ⟨B + 10, 0, none⟩) 2 2) [(⟨0, mainL⟩, some ⟨B + 3, 0, none⟩, 5), (⟨2, addsL⟩, some ⟨B + 9, 0, none⟩, 8)] := by
  refine ⟨⟨rfl, Or.inr ⟨B + 10, 2, smallC B, rfl, by omega, h.row, Nat.le_refl _, by decide, rfl, rfl⟩⟩, fun q hq => ?_⟩
  rcases List.mem_cons.1 hq with rfl | hq
  · exact h.mainT
  · rw [List.mem_singleton] at hq; subst hq; exact h.adds.exsT
end Go.Proofs.YtjamknejllbmkaaGreatDoor
