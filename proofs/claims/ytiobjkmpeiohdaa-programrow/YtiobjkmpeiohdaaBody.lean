/- Bodies that a function builds part by part, by append, in the box of a definition. -/
import Derived.Laws.AppendOwnNone
import Derived.Test.YtiobjkmpeiohdaaWake
namespace Go.Proofs.Ytiobjkmpeiohdaa
open Go.RowKit
set_option linter.unusedVariables false

theorem Try.info33 : (Try.prog.info? 33).map (fun i => (i.zero, i.size, i.bytes)) = some (some (.agg #[.int .i64 0, .int .i64 0, .int .i64 0, .slice none 0 0]), 4, 48) := by kernel_rfl
/-- A part with where its kids lie. -/
abbrev Pt := Ex × Option Addr × Nat
def c4 (p : Pt) : List Value := [.int .i64 p.1.kind, .int .i64 p.1.num, .int .i64 p.1.bind, .slice p.2.1 p.1.kids.length p.2.2]
/-- Its kids lie in a block of their own, from base on. -/
def Kd (W : World) (base : Nat) (p : Pt) : Prop := p.1.kids = [] ∨ ∃ b, p.2.1 = some ⟨b, 0, none⟩ ∧ base ≤ b ∧ Lv W b p.1.kids
theorem Kd.nums {W : World} {base : Nat} {p : Pt} (h : Kd W base p) : Nums W p.2.1 p.1.kids := by
  rcases h with h | ⟨b, h1, _, h2⟩
  · rw [h]; exact Or.inl rfl
  · rw [h1]; exact h2.nums
theorem row_c4 {W : World} : ∀ {ps : List Pt}, (∀ p ∈ ps, Nums W p.2.1 p.1.kids) → Row W (ps.flatMap c4) (ps.map (·.1))
  | [], _ => trivial
  | p :: ps, h => ⟨rfl, rfl, rfl, ⟨_, _, rfl, h p (by simp)⟩, row_c4 (fun q hq => h q (by simp [hq]))⟩
theorem exs_of_cells {w : World} {b : Nat} {cs : List Value} {xs : List Ex} (hb : b < w.heap.size) (key : ∀ j v, cs[j]? = some v → w.cell? ⟨b, j, none⟩ = some v) (hr : Row w cs xs) : Exs w (some ⟨b, 0, none⟩) xs := by
  refine Or.inr ⟨b, 0, rfl, hb, fun j x hx => ?_⟩
  obtain ⟨gk, ck, a0, a1, a2, a3, a4⟩ := hr.at j x hx
  refine ⟨gk, ck, ?_⟩
  rw [Nat.zero_add]
  exact ⟨key _ _ a0, key _ _ a1, key _ _ a2, key _ _ a3, a4⟩
/-- A body that is being built. -/
structure Bd (W : World) (base : Nat) (v : Value) (ps : List Pt) : Prop where
  own : W.ownsRow base 33 4 v ps.length (ps.flatMap c4)
  kids : ∀ p ∈ ps, Kd W base p
theorem lv_not_row {W : World} {b base n : Nat} {L : List Int} {v : Value} {xs : List Value} (h : Lv W b L) (hr : W.ownsRow base 33 4 v n xs) : some b ≠ v.ownBlock := by
  rcases hr.2 with ⟨rfl, _⟩ | ⟨g, cap, cur, rfl, _, hgb, _⟩
  · simp [Value.ownBlock]
  · intro e'
    obtain rfl : b = g := by simpa [Value.ownBlock] using e'
    have := (show W.heap[b]? = _ from h).symm.trans hgb
    simp at this
theorem Kd.kept {W W' : World} {base : Nat} {p : Pt} {row : Option Nat} (h : Kd W base p) (hg : W.grownBy W' row) (hr : ∀ b L, base ≤ b → Lv W b L → some b ≠ row) : Kd W' base p := by
  rcases h with h | ⟨b, h1, h2, h3⟩
  · exact Or.inl h
  · exact Or.inr ⟨b, h1, h2, h3.kept hg (hr b _ h2 h3)⟩
theorem Bd.nil (W : World) (base : Nat) : Bd W base (.slice none 0 0) [] := ⟨World.ownsRow_nil _ _ _ _, fun p hp => by cases hp⟩
theorem Bd.alloc {W : World} {base : Nat} {v : Value} {ps : List Pt} (h : Bd W base v ps) (o : Obj) : Bd (W.alloc o) base v ps :=
  ⟨h.own.alloc o, fun p hp => (h.kids p hp).kept (World.grownBy_alloc W o none) (fun _ _ _ _ => by simp)⟩
theorem Bd.far {W : World} {base : Nat} {v : Value} {ps : List Pt} (h : Bd W base v ps) {z : Nat} (hz : z < base) (j : Nat) (u : Value) : Bd (W.setCell ⟨z, j, none⟩ u) base v ps := by
  refine ⟨h.own.kept (grown_set W z j u) ?_, fun p hp => (h.kids p hp).kept (grown_set W z j u) (fun b L hb _ e => by have := Option.some.inj e; omega)⟩
  cases e : v.ownBlock with
  | none => exact .inl rfl
  | some k =>
    refine .inr fun e' => ?_
    have h1 := (h.own.lt k e).1
    have := Option.some.inj e'
    omega
theorem Bd.val {W : World} {base : Nat} {v : Value} {ps : List Pt} (h : Bd W base v ps) : ∃ g c, v = .slice g ps.length c := by
  rcases h.own.2 with ⟨h2, h3⟩ | ⟨g, cap, cur, hv, _⟩
  · exact ⟨_, _, by rw [h3]; exact h2⟩
  · exact ⟨_, _, hv⟩
theorem Bd.exs {W : World} {base : Nat} {g : Option Addr} {c : Nat} {ps : List Pt} (h : Bd W base (.slice g ps.length c) ps) : Exs W g (ps.map (·.1)) := by
  rcases h.own.2 with ⟨_, h3⟩ | ⟨b, cap, cur, hv, _, hh, _⟩
  · exact Or.inl (by rw [List.length_eq_zero_iff.1 h3]; rfl)
  · simp at hv
    obtain ⟨rfl, _⟩ := hv
    refine exs_of_cells (Array.getElem?_eq_some_iff.1 hh).1 (fun j v hv => ?_) (row_c4 (fun p hp => (h.kids p hp).nums))
    have h1 := h.own.cells (g := b) rfl j v hv
    rwa [Addr.add_lit, Nat.zero_add] at h1
/-- Behind an append of these parts. -/
theorem Bd.next {W w' : World} {base : Nat} {v v' : Value} {ps qs : List Pt} (h : Bd W base v ps) (hq : ∀ p ∈ qs, Kd W base p) (hown : w'.ownsRow base 33 4 v' (ps.length + qs.length) (ps.flatMap c4 ++ qs.flatMap c4)) (hg : W.grownBy w' v.ownBlock) : Bd w' base v' (ps ++ qs) := by
  refine ⟨by rw [List.length_append, List.flatMap_append]; exact hown, fun p hp => ?_⟩
  have hk : Kd W base p := by
    rcases List.mem_append.1 hp with hp | hp
    · exact h.kids p hp
    · exact hq p hp
  exact hk.kept hg (fun b L _ hL => lv_not_row hL h.own)

theorem one_c4 (qs : List Pt) : ∀ u ∈ qs.flatMap c4, u.oneCell' = true := by
  intro u hu
  obtain ⟨p, _, hp⟩ := List.mem_flatMap.1 hu
  simp only [c4, List.mem_cons, List.not_mem_nil, or_false] at hp
  rcases hp with rfl | rfl | rfl | rfl <;> rfl
theorem len_c4 : ∀ (qs : List Pt), (qs.flatMap c4).length = qs.length * 4
  | [] => rfl
  | q :: qs => by rw [List.flatMap_cons, List.length_append, len_c4 qs, List.length_cons]; simp [c4]; omega
theorem app_ex {W : World} {ops : Array Oper} {rest : List Oper} {o : Oper} {a : Act} {Q : Exit → Act → World → Prop} (hgd : o.guard = none) (s x : Operand)
    (ho : o.op = .call { callee := .builtin .append, args := #[s, x], argTypes := #[34, 34] }) (base : Nat) (v : Value) (ps qs : List Pt) (cs : Array Value) (hcs : cs.toList = qs.flatMap c4) (hs : a.eval s = v) (z : Nat) (hz : W.heap.size = z) (hx : a.eval x = .slice (some ⟨z, 0, none⟩) qs.length qs.length)
    (hbd : Bd W base v ps) (hq : ∀ p ∈ qs, Kd W base p) (hb : base ≤ W.heap.size) (hlen : (ps.length + qs.length) * 48 ≤ 140737488355328)
    (h : ∀ v' w', Bd w' base v' (ps ++ qs) → (W.alloc (.cells cs 33)).grownBy w' v.ownBlock → wpList Try.prog ops Q rest (a.put o.dst v') w') : wpList Try.prog ops Q (o :: rest) a (W.alloc (.cells cs 33)) := by
  subst hz
  obtain ⟨i0, hi, hz0, hz1, hz2⟩ := info_parts Try.info33
  refine wpList_append_own _ hgd s x 34 ho base 33 i0 _ 4 48 Try.underlying34 hi hz0 hz1 hz2 rfl (by decide) v _ _ hs (hbd.own.alloc _) ⟨W.heap.size, 0, none⟩ qs.length qs.length (qs.flatMap c4) hx (len_c4 qs) ?_ (one_c4 qs) (by unfold maxLen; omega) hlen (by rw [World.size_alloc]; omega) ?_
  · intro j u hj
    rw [Addr.add_lit, Nat.zero_add]
    refine cell_new W cs 33 j u ?_
    rw [← hcs] at hj
    simpa using hj
  · intro v' w' h1 h2 _
    exact h v' w' ((hbd.alloc _).next (fun p hp => (hq p hp).kept (World.grownBy_alloc W _ none) (fun _ _ _ _ => by simp)) h1 h2) h2

/-- A definition's box. -/
def Bx2 (w : World) (z : Nat) (p : Int) (v : Value) : Prop := w.heap[z]? = some (.cells #[.int .i64 p, v] 36 (0, 0))
theorem Bx2.lt {w : World} {z : Nat} {p : Int} {v : Value} (h : Bx2 w z p v) : z < w.heap.size := (Array.getElem?_eq_some_iff.1 h).1
theorem Bx2.c0 {w : World} {z : Nat} {p : Int} {v : Value} (h : Bx2 w z p v) : w.cell? ⟨z, 0, none⟩ = some (.int .i64 p) := by
  unfold World.cell?; simp only [show w.heap[z]? = _ from h]; rfl
theorem Bx2.c1 {w : World} {z : Nat} {p : Int} {v : Value} (h : Bx2 w z p v) : w.cell? ⟨z, 1, none⟩ = some v := by
  unfold World.cell?; simp only [show w.heap[z]? = _ from h]; rfl
theorem Bx2.frozen {w : World} {z : Nat} {p : Int} {v : Value} (h : Bx2 w z p v) (j : Nat) : w.frozen? ⟨z, j, none⟩ = false := by
  simp [World.frozen?, show w.heap[z]? = _ from h]
theorem Bx2.kept {w w' : World} {row : Option Nat} {z : Nat} {p : Int} {v : Value} (h : Bx2 w z p v) (hg : w.grownBy w' row) (hne : some z ≠ row) : Bx2 w' z p v := (hg.block z h.lt hne).trans h
theorem Bx2.on {w w' : World} {z : Nat} {p : Int} {v : Value} (h : Bx2 w z p v) (hb : Below w.heap.size w w') : Bx2 w' z p v := (hb.block z h.lt).trans h
theorem Bx2.alloc {w : World} {z : Nat} {p : Int} {v : Value} (h : Bx2 w z p v) (o : Obj) : Bx2 (w.alloc o) z p v := (Below.heap_alloc w o z h.lt).trans h
theorem Bx2.new (w : World) (p : Int) (v : Value) : Bx2 (w.alloc (.cells #[.int .i64 p, v] 36)) w.heap.size p v := World.alloc_heap_new w _
theorem Bx2.set1 {w : World} {z : Nat} {p : Int} {v : Value} (h : Bx2 w z p v) (u : Value) : Bx2 (w.setCell ⟨z, 1, none⟩ u) z p u := by
  obtain ⟨hlt, hk⟩ := Array.getElem?_eq_some_iff.1 h
  show (w.heap.modify z _)[z]? = _
  rw [Array.getElem?_eq_getElem (by rw [Array.size_modify]; exact hlt), Array.getElem_modify_self, hk]
  rfl
theorem Bd.not_box {W : World} {base z : Nat} {v : Value} {ps : List Pt} (h : Bd W base v ps) (hz : z < base) : some z ≠ v.ownBlock := by
  intro e
  have := (h.own.lt z e.symm).1
  omega
theorem and_15 (x : Int) : ∃ m : Nat, bits .and .i64 x 15 = (m : Int) ∧ m < 16 := by
  refine ⟨(x % 16).toNat, ?_, by omega⟩
  have hb : (BitVec.ofInt 64 15).toNat = 15 := by decide
  have h : bits .and .i64 x 15 = IntKind.i64.wrap (((BitVec.ofInt 64 x &&& BitVec.ofInt 64 15).toNat : Nat) : Int) := rfl
  rw [h, BitVec.toNat_and, hb, BitVec.toNat_ofInt, show (15 : Nat) = 2 ^ 4 - 1 from rfl, Nat.and_two_pow_sub_one_eq_mod, IntKind.wrap_i64]
  simp only [show ((2 : Nat) ^ 64) = 18446744073709551616 from rfl, show ((2 : Nat) ^ 4) = 16 from rfl]
  omega
theorem and_3 (x : Int) : ∃ m : Nat, bits .and .i64 x 3 = (m : Int) ∧ m < 4 := by
  refine ⟨(x % 4).toNat, ?_, by omega⟩
  have hb : (BitVec.ofInt 64 3).toNat = 3 := by decide
  have h : bits .and .i64 x 3 = IntKind.i64.wrap (((BitVec.ofInt 64 x &&& BitVec.ofInt 64 3).toNat : Nat) : Int) := rfl
  rw [h, BitVec.toNat_and, hb, BitVec.toNat_ofInt, show (3 : Nat) = 2 ^ 2 - 1 from rfl, Nat.and_two_pow_sub_one_eq_mod, IntKind.wrap_i64]
  simp only [show ((2 : Nat) ^ 64) = 18446744073709551616 from rfl, show ((2 : Nat) ^ 2) = 4 from rfl]
  omega
theorem and_1023 (x : Int) : ∃ m : Nat, bits .and .i64 x 1023 = (m : Int) ∧ m < 1024 := by
  refine ⟨(x % 1024).toNat, ?_, by omega⟩
  have hb : (BitVec.ofInt 64 1023).toNat = 1023 := by decide
  have h : bits .and .i64 x 1023 = IntKind.i64.wrap (((BitVec.ofInt 64 x &&& BitVec.ofInt 64 1023).toNat : Nat) : Int) := rfl
  rw [h, BitVec.toNat_and, hb, BitVec.toNat_ofInt, show (1023 : Nat) = 2 ^ 10 - 1 from rfl, Nat.and_two_pow_sub_one_eq_mod, IntKind.wrap_i64]
  simp only [show ((2 : Nat) ^ 64) = 18446744073709551616 from rfl, show ((2 : Nat) ^ 10) = 1024 from rfl]
  omega
end Go.Proofs.Ytiobjkmpeiohdaa
