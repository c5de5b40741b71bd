/- The contract of the laws' CopyDef. · A program that comes in: its definitions as plain data, with the bounds that the sized condition gives. · The contract of the laws' CopyProgram. -/
import Derived.Test.YtjamknejllbmkaaGreatDoorMSmall
import Derived.Test.YtjamknejllbmkaaGreatDoorMProg

namespace Go.Proofs.YtjamknejllbmkaaGreatDoor
open Go.RowKit
set_option linter.unusedVariables false

theorem Tryz.info3p : (Tryz.prog.info? 3).map (fun i => (i.zero, i.size, i.bytes)) = some (some (.int .i64 0), 1, 8) := by kernel_rfl
/-- A part whose kids lie in a row of the call's own. -/
def KdO (W : World) (base : Nat) (p : Pt) : Prop := W.ownsRow base 3 1 (.slice p.2.1 p.1.kids.length p.2.2) p.1.kids.length (p.1.kids.map (Value.int .i64))
theorem KdO.nums {W : World} {base : Nat} {p : Pt} (h : KdO W base p) : Nums W p.2.1 p.1.kids := by
  rcases h.2 with ⟨_, h3⟩ | ⟨b, cap, cur, hv, _, hh, _⟩
  · exact Or.inl (List.length_eq_zero_iff.1 h3)
  · simp at hv
    refine Or.inr ⟨b, 0, hv.1, (Array.getElem?_eq_some_iff.1 hh).1, fun j x hx => ?_⟩
    have h1 := h.cells (g := b) (by rw [hv.1]; rfl) j (.int .i64 x) (by rw [List.getElem?_map, hx]; rfl)
    rwa [Addr.add_lit] at h1
theorem rows_apart {W : World} {base base' n n' : Nat} {v v' : Value} {xs xs' : List Value} (h : W.ownsRow base 3 1 v n xs) (h' : W.ownsRow base' 55 4 v' n' xs') : v.ownBlock = none ∨ v.ownBlock ≠ v'.ownBlock := by
  rcases h.2 with ⟨rfl, _⟩ | ⟨b, cap, cur, rfl, _, hb, _⟩
  · exact .inl rfl
  · refine .inr fun e => ?_
    rcases h'.2 with ⟨rfl, _⟩ | ⟨b', cap', cur', rfl, _, hb', _⟩
    · cases e
    · obtain rfl : b = b' := by simpa [Value.ownBlock] using e
      have := hb.symm.trans hb'
      simp at this
/-- A body that is being copied. -/
structure BdO (W : World) (base : Nat) (v : Value) (ps : List Pt) : Prop where
  own : W.ownsRow base 55 4 v ps.length (ps.flatMap c4)
  kids : ∀ p ∈ ps, KdO W base p
theorem BdO.nil (W : World) (base : Nat) : BdO W base (.slice none 0 0) [] := ⟨World.ownsRow_nil _ _ _ _, fun p hp => by cases hp⟩
theorem BdO.alloc {W : World} {base : Nat} {v : Value} {ps : List Pt} (h : BdO W base v ps) (o : Obj) : BdO (W.alloc o) base v ps :=
  ⟨h.own.alloc o, fun p hp => World.ownsRow.alloc (h.kids p hp) o⟩
/-- Something is done in a block that is none of these. -/
theorem own_far {W : World} {base e size n : Nat} {v : Value} {xs : List Value} (h : W.ownsRow base e size v n xs) {z : Nat} (hz : v.ownBlock ≠ some z) (j : Nat) (u : Value) : (W.setCell ⟨z, j, none⟩ u).ownsRow base e size v n xs :=
  h.kept (grown_set W z j u) (.inr hz)
theorem BdO.val {W : World} {base : Nat} {v : Value} {ps : List Pt} (h : BdO W base v ps) : ∃ g c, v = .slice g ps.length c := by
  rcases h.own.2 with ⟨h2, h3⟩ | ⟨g, cap, cur, hv, _⟩
  · exact ⟨_, _, by rw [h3]; exact h2⟩
  · exact ⟨_, _, hv⟩
theorem BdO.exs {W : World} {base : Nat} {g : Option Addr} {c : Nat} {ps : List Pt} (h : BdO W base (.slice g ps.length c) ps) : Exs W g (ps.map (·.1)) := by
  rcases h.own.2 with ⟨_, h3⟩ | ⟨b, cap, cur, hv, _, hh, _⟩
  · exact Or.inl (by rw [List.length_eq_zero_iff.1 h3]; rfl)
  · simp at hv
    obtain ⟨rfl, _⟩ := hv
    refine exs_of_cells (Array.getElem?_eq_some_iff.1 hh).1 (fun j v hv => ?_) (row_c4 (fun p hp => (h.kids p hp).nums))
    have h1 := h.own.cells (g := b) rfl j v hv
    rwa [Addr.add_lit, Nat.zero_add] at h1
/-- All that lay in rows is as it lay where only another block, or none, has been turned. -/
theorem BdO.kept {W W' : World} {base : Nat} {v : Value} {ps : List Pt} {row : Option Nat} (h : BdO W base v ps) (hg : W.grownBy W' row) (hr : ∀ k, row = some k → W.heap.size ≤ k) : BdO W' base v ps := by
  have key : ∀ {e size n : Nat} {u : Value} {xs : List Value}, W.ownsRow base e size u n xs → W'.ownsRow base e size u n xs := fun {e size n u xs} ho => by
    refine ho.kept hg ?_
    cases hu : u.ownBlock with
    | none => exact .inl rfl
    | some k =>
      refine .inr fun e' => ?_
      have h1 := (ho.lt k hu).2
      have h2 := hr k e'.symm
      omega
  exact ⟨key h.own, fun p hp => key (h.kids p hp)⟩

/-- A row of numbers, copied onto an empty literal. -/
theorem app_kids {W : World} {ops : Array Oper} {rest : List Oper} {o : Oper} {a : Act} {Q : Exit → Act → World → Prop} (hgd : o.guard = none) (s x : Operand)
    (ho : o.op = .call { callee := .builtin .append, args := #[s, x], argTypes := #[53, 53] }) (base : Nat) (gk : Option Addr) (ck : Nat) (ks : List Int) (z : Nat) (hz : W.heap.size = z) (hs : a.eval s = .slice (some ⟨z, 0, none⟩) 0 0) (hx : a.eval x = .slice gk ks.length ck)
    (hn : Nums W gk ks) (h0 : gk = none → ck = 0) (hb : base ≤ W.heap.size) (hlen : ks.length * 8 ≤ 140737488351232)
    (h : ∀ v' w', w'.ownsRow base 3 1 v' ks.length (ks.map (Value.int .i64)) → W.grownBy w' none → wpList Tryz.prog ops Q rest (a.put o.dst v') w') : wpList Tryz.prog ops Q (o :: rest) a (W.alloc (.cells #[] 3)) := by
  subst hz
  obtain ⟨i0, hi, hz0, hz1, hz2⟩ := info_parts Tryz.info3p
  have hown : (W.alloc (.cells #[] 3)).ownsRow base 3 1 (.slice (some ⟨W.heap.size, 0, none⟩) 0 0) 0 [] := World.ownsRow_lit W #[] 0 hb (Nat.zero_le _) rfl
  have hga : W.grownBy (W.alloc (.cells #[] 3)) none := World.grownBy_alloc W _ none
  cases gk with
  | none =>
    have hks : ks = [] := by
      rcases hn with h | ⟨bk, o, h1, _⟩
      · exact h
      · cases h1
    subst hks
    obtain rfl : ck = 0 := h0 rfl
    exact wpList_append_own_none hgd s x 53 ho base 3 i0 1 Tryz.underlying53 hi _ 0 _ hs hown hx (h _ _ hown hga)
  | some ad =>
    refine wpList_append_own _ hgd s x 53 ho base 3 i0 _ 1 8 Tryz.underlying53 hi hz0 hz1 hz2 rfl (by decide) _ 0 [] hs hown ad ks.length ck (ks.map (Value.int .i64)) hx (by simp) ?_ ?_ (by unfold maxLen; omega) (by omega) (by rw [World.size_alloc]; omega) ?_
    · intro j u hj
      rcases hn with h | ⟨bk, o, h1, h2, h3⟩
      · subst h; simp at hj
      · cases h1
        rw [Addr.add_lit, World.cell?_alloc_lt _ _ _ h2]
        rw [List.getElem?_map] at hj
        cases hx : ks[j]? with
        | none => rw [hx] at hj; cases hj
        | some x => rw [hx] at hj; cases hj; exact h3 j x hx
    · intro u hu
      obtain ⟨b, _, rfl⟩ := List.mem_map.1 hu
      rfl
    · intro v' w' h1 h2 _
      refine h v' w' (by simpa using h1) ⟨h2.os, h2.tape, h2.output, ?_, ?_⟩
      · exact Nat.le_trans (by rw [World.size_alloc]; omega) h2.size
      · intro k hk _
        rw [h2.block k (by rw [World.size_alloc]; omega) (by intro e; have := Option.some.inj e; simp at this; omega)]
        exact Below.heap_alloc W _ k hk
/-- A part is put behind a body that is being copied. -/
theorem app_exO {W : World} {ops : Array Oper} {rest : List Oper} {o : Oper} {a : Act} {Q : Exit → Act → World → Prop} (hgd : o.guard = none) (s x : Operand)
    (ho : o.op = .call { callee := .builtin .append, args := #[s, x], argTypes := #[56, 56] }) (base : Nat) (v : Value) (ps : List Pt) (q : Pt) (cs : Array Value) (hcs : cs.toList = c4 q) (hs : a.eval s = v) (z : Nat) (hz : W.heap.size = z) (hx : a.eval x = .slice (some ⟨z, 0, none⟩) 1 1)
    (hbd : BdO W base v ps) (hq : KdO W base q) (hb : base ≤ W.heap.size) (hlen : (ps.length + 1) * 48 ≤ 140737488355328)
    (h : ∀ v' w', BdO w' base v' (ps ++ [q]) → (W.alloc (.cells cs 55)).grownBy w' v.ownBlock → wpList Tryz.prog ops Q rest (a.put o.dst v') w') : wpList Tryz.prog ops Q (o :: rest) a (W.alloc (.cells cs 55)) := by
  subst hz
  obtain ⟨i0, hi, hz0, hz1, hz2⟩ := info_parts Tryz.info55
  refine wpList_append_own _ hgd s x 56 ho base 55 i0 _ 4 48 Tryz.underlying56 hi hz0 hz1 hz2 rfl (by decide) v _ _ hs (hbd.own.alloc _) ⟨W.heap.size, 0, none⟩ 1 1 (c4 q) hx rfl ?_ (fun u hu => one_c4 [q] u (by simpa using hu)) (by unfold maxLen; omega) hlen (by rw [World.size_alloc]; omega) ?_
  · intro j u hj
    rw [Addr.add_lit, Nat.zero_add]
    refine cell_new W cs 55 j u ?_
    rw [← hcs] at hj
    simpa using hj
  · intro v' w' h1 h2 _
    refine h v' w' ⟨by rw [List.length_append, List.flatMap_append]; simpa using h1, fun p hp => ?_⟩ h2
    have hk : KdO (W.alloc (.cells cs 55)) base p := by
      rcases List.mem_append.1 hp with hp | hp
      · exact World.ownsRow.alloc (hbd.kids p hp) _
      · rw [List.mem_singleton] at hp; subst hp; exact World.ownsRow.alloc hq _
    exact World.ownsRow.kept hk h2 (rows_apart hk (hbd.own.alloc _))

theorem BdO.far {W : World} {base : Nat} {v : Value} {ps : List Pt} (h : BdO W base v ps) {z : Nat} (hz : z < base) (j : Nat) (u : Value) : BdO (W.setCell ⟨z, j, none⟩ u) base v ps := by
  have key : ∀ {e size n : Nat} {x : Value} {xs : List Value}, W.ownsRow base e size x n xs → (W.setCell ⟨z, j, none⟩ u).ownsRow base e size x n xs := fun {e size n x xs} ho =>
    own_far ho (fun e' => by have := (ho.lt z e').1; omega) j u
  exact ⟨key h.own, fun p hp => key (h.kids p hp)⟩
theorem BdO.not_box {W : World} {base z : Nat} {v : Value} {ps : List Pt} (h : BdO W base v ps) (hz : z < base) : some z ≠ v.ownBlock := by
  intro e
  have := (h.own.lt z e.symm).1
  omega
theorem Bx2.set0 {w : World} {z : Nat} {p : Int} {v : Value} (h : Bx2 w z p v) (q : Int) : Bx2 (w.setCell ⟨z, 0, none⟩ (.int .i64 q)) z q v := by
  obtain ⟨hlt, hk⟩ := Array.getElem?_eq_some_iff.1 h
  show (w.heap.modify z _)[z]? = _
  rw [Array.getElem?_eq_getElem (by rw [Array.size_modify]; exact hlt), Array.getElem_modify_self, hk]
  rfl
theorem grown_box {wr w1 : World} {o : Obj} (hg1 : (wr.alloc o).grownBy w1 none) (j : Nat) (v : Value) : wr.grownBy (w1.setCell ⟨wr.heap.size, j, none⟩ v) (some wr.heap.size) := by
  have hgs := grown_set w1 wr.heap.size j v
  refine ⟨hgs.os.trans hg1.os, hgs.tape.trans hg1.tape, hgs.output.trans hg1.output, ?_, fun k hk hne => ?_⟩
  · have h1 := hg1.size
    have h2 := hgs.size
    rw [World.size_alloc] at h1
    omega
  · have h1 := hg1.size
    rw [World.size_alloc] at h1
    rw [hgs.block k (by omega) hne, hg1.block k (by rw [World.size_alloc]; omega) (by simp)]
    exact Below.heap_alloc wr o k hk
theorem own3_not_box {W : World} {base n b : Nat} {v : Value} {xs : List Value} {cs : Array Value} (h : W.ownsRow base 3 1 v n xs) (hr : Rw W b cs) : v.ownBlock ≠ some b := by
  rcases h.2 with ⟨rfl, _⟩ | ⟨b', cap, cur, rfl, _, hb, _⟩
  · simp [Value.ownBlock]
  · intro e
    obtain rfl : b' = b := by simpa [Value.ownBlock] using e
    have := hb.symm.trans (show W.heap[b']? = _ from hr)
    simp at this
theorem own_val {W : World} {base e size n : Nat} {v : Value} {xs : List Value} (h : W.ownsRow base e size v n xs) : ∃ g c, v = .slice g n c := by
  rcases h.2 with ⟨h2, h3⟩ | ⟨g, cap, cur, hv, _⟩
  · exact ⟨_, _, by rw [h3]; exact h2⟩
  · exact ⟨_, _, hv⟩

end Go.Proofs.YtjamknejllbmkaaGreatDoor

namespace Go.Proofs.YtjamknejllbmkaaGreatDoor
open Go.RowKit Go.ChangeShapes Go.WideShapes Go.Deep
set_option linter.unusedVariables false

theorem cells36b : Tryz.prog.cellsOf 58 = 2 := by kernel_rfl
theorem cells24b : Tryz.prog.cellsOf 30 = 1 := by kernel_rfl
theorem cells22b : Tryz.prog.cellsOf 28 = 1 := by kernel_rfl
theorem bytes36b : Tryz.prog.bytesOf 58 = 32 := by kernel_rfl
theorem list1 {α : Type} {l : List α} (h : l.length = 1) : ∃ a, l = [a] := by
  match l, h with
  | [a], _ => exact ⟨a, rfl⟩
/-- The bounds of a definition. -/
def DBd (d : Df) : Prop := d.body.length * 48 ≤ reachBytes ∧ ∀ x ∈ d.body, x.kids.length * 8 ≤ reachBytes

theorem open_defC {H : Type} {enc : TypeId × Value → H} {W : World} {cs : List Value} {fuel : Nat} {y : DataW H × List MemPlace}
    (hf : DataW.trod enc Tryz.prog W 0 (fun _ => true) true fuel 58 cs = some y) (hw : ∀ n ∈ DataW.weights Tryz.prog 58 y.1, n ≤ reachBytes) :
    ∃ (d : Df) (g : Option Addr) (c : Nat), cs = [.int .i64 d.params, .slice g d.body.length c] ∧ ExsN W g d.body ∧ DBd d := by
  obtain ⟨ys, n, _, rfl, hl, hlen, hfs⟩ := DataW.trod_struct Tryz.underlying58 hf
  obtain ⟨c0, c1, rfl⟩ := list2 (hl.trans cells36b)
  obtain ⟨y0, y1, rfl⟩ := list2 (show ys.length = 2 from hlen)
  have h0 := hfs 0 _ rfl
  have h1 := hfs 1 _ rfl
  simp [cells3, cells56] at h0 h1
  obtain ⟨n0, e0, _, _⟩ := DataW.trod_int Tryz.underlying3 h0
  obtain ⟨g, xs, c, e1, hn, hb, hk⟩ := open_body h1 (fun m hm => hw m (by
    rw [List.map_cons, List.map_cons, List.map_nil, DataW.weights, Tryz.underlying58]
    exact DataW.weights_mem_each (j := 1) rfl rfl m hm))
  simp at e0 e1
  subst e0 e1
  exact ⟨⟨n0, xs⟩, g, c, rfl, hn, hb, hk⟩

theorem open_defs {H : Type} {enc : TypeId × Value → H} {W : World} {cs : List Value} {fuel : Nat} {y : DataW H × List MemPlace}
    (hf : DataW.trod enc Tryz.prog W 0 (fun _ => true) true fuel 28 cs = some y) (hw : ∀ n ∈ DataW.weights Tryz.prog 28 y.1, n ≤ reachBytes) :
    ∃ (g : Option Addr) (ds : List Df) (c : Nat), cs = [.slice g ds.length c] ∧ Defs ExsN W g ds ∧ ds.length * 32 ≤ reachBytes ∧ ∀ d ∈ ds, DBd d := by
  rcases open_slice Tryz.underlying28 hf with ⟨hcs, _⟩ | ⟨a, len, cap, m, n, D, Pl, hcs, _, hl, hm, hmm, hx, hel⟩
  · exact ⟨none, [], 0, hcs, Or.inl rfl, by simp, by simp⟩
  · simp only [if_true] at hmm
    subst hx
    simp only [cells36b] at hel
    have hwl := hw ((((List.range len).map D).length + ((List.range (m - len)).map fun j => D (len + j)).length) * Tryz.prog.bytesOf 58) (by rw [DataW.weights, Tryz.underlying28]; exact List.mem_cons_self)
    rw [bytes36b] at hwl
    simp only [List.length_map, List.length_range] at hwl
    have each : ∀ i, i < len → ∃ d : Df, (∃ gk ck, W.cell? (a.add (i * 2)) = some (.int .i64 d.params) ∧ W.cell? (a.add (i * 2 + 1)) = some (.slice gk d.body.length ck) ∧ ExsN W gk d.body) ∧ DBd d := by
      intro i hi
      obtain ⟨cs', h1, h2⟩ := hel i (by omega)
      obtain ⟨d, gk, ck, rfl, hn, hb⟩ := open_defC h2 (fun q hq => hw q (by
        rw [DataW.weights, Tryz.underlying28]
        exact List.mem_cons_of_mem _ (List.mem_append_left _ (mem_weightsAll hq (List.mem_map.2 ⟨i, List.mem_range.2 hi, rfl⟩)))))
      have hc := (World.cells?_some h1).2.2
      have k0 := hc 0 (by omega)
      have k1 := hc 1 (by omega)
      rw [add_add] at k0 k1
      exact ⟨d, ⟨gk, ck, k0, k1, hn⟩, hb⟩
    obtain ⟨E, hE⟩ := @choose_lt Df ⟨⟨0, []⟩⟩ _ _ each
    refine ⟨some a, (List.range len).map E, cap, by rw [hcs]; simp, ?_, by simp; omega, ?_⟩
    · by_cases h0 : len = 0
      · subst h0; exact Or.inl rfl
      · obtain ⟨b, off, spot⟩ := a
        obtain ⟨⟨gk, ck, k0, k1, _⟩, _⟩ := hE 0 (by omega)
        have hspot : spot = none := by simpa [Addr.add] using World.cell?_spot k0
        subst hspot
        refine Or.inr ⟨b, off, rfl, ?_, fun j x hx => ?_⟩
        · rw [Addr.add_lit] at k0
          exact World.block_lt_of_cell? _ _ k0
        · have hj : j < len := by
            have := (List.getElem?_eq_some_iff.1 hx).1
            simpa using this
          have e : x = E j := by
            rw [List.getElem?_map, List.getElem?_range hj] at hx
            exact (Option.some.inj hx).symm
          subst e
          obtain ⟨⟨gk, ck, q0, q1, q2⟩, _⟩ := hE j hj
          rw [Addr.add_lit] at q0 q1
          exact ⟨gk, ck, q0, q1, q2⟩
    · intro x hx
      obtain ⟨i, hi, rfl⟩ := List.mem_map.1 hx
      exact (hE i (List.mem_range.1 hi)).2

set_option maxRecDepth 100000 in
theorem open_program {H : Type} {enc : TypeId × Value → H} {W : World} {r : Reach} {b0 : Nat} {v : Value} {d : DataW H} {ps : List MemPlace} {ts : List TypeId} {ds : List (DataW H)} {j : Nat}
    (hval : Value.okWide Tryz.prog W r b0 30 v) (h : DataW.Trod enc Tryz.prog W 0 (fun _ => true) true 30 v d ps)
    (hsz : (DataW.weightsEach Tryz.prog ts ds).all (· ≤ reachBytes) = true) (ht : ts[j]? = some 30) (hd : ds[j]? = some d) :
    ∃ (g : Option Addr) (fs : List Df) (c : Nat), v = .agg #[.slice g fs.length c] ∧ Defs ExsN W g fs ∧ fs.length * 32 ≤ reachBytes ∧ ∀ d ∈ fs, DBd d := by
  have hw : ∀ n ∈ DataW.weights Tryz.prog 30 d, n ≤ reachBytes := fun n hn => by
    have := List.all_eq_true.1 hsz n (DataW.weights_mem_each ht hd n hn)
    simpa using this
  obtain ⟨⟨l⟩, rfl, hs⟩ := okWide_struct Tryz.underlying30 hval
  obtain ⟨fuel, hf⟩ := h
  obtain ⟨ys, n, _, hx, hl, hlen, hfs⟩ := DataW.trod_struct Tryz.underlying30 hf
  obtain ⟨c0, rfl⟩ := list1 (show l.length = 1 from hs.trans cells24b)
  obtain ⟨y0, rfl⟩ := list1 (show ys.length = 1 from hlen)
  have h0 := hfs 0 _ rfl
  simp [cells22b, Value.cells] at h0
  simp only [Prod.mk.injEq] at hx
  obtain ⟨rfl, _⟩ := hx
  obtain ⟨g, fs, c, e1, hn, hb, hk⟩ := open_defs h0 (fun m hm => hw m (by
    rw [List.map_cons, List.map_nil, DataW.weights, Tryz.underlying30]
    exact DataW.weights_mem_each (j := 0) rfl rfl m hm))
  simp at e1
  subst e1
  exact ⟨g, fs, c, rfl, hn, hb, hk⟩
end Go.Proofs.YtjamknejllbmkaaGreatDoor

namespace Go.Proofs.YtjamknejllbmkaaGreatDoor
open Go.RowKit
set_option linter.unusedVariables false

theorem KdO.numsT {W : World} {base : Nat} {p : Pt} (h : KdO W base p) : NumsT W p.2.1 p.1.kids := by
  rcases h.2 with ⟨_, h3⟩ | ⟨b, cap, cur, hv, _, hh, _, _, _, ht⟩
  · exact Or.inl (List.length_eq_zero_iff.1 h3)
  · simp at hv
    refine Or.inr ⟨b, cur, hv.1, hh, fun j x hx => ?_⟩
    have hl : j < p.1.kids.length := (List.getElem?_eq_some_iff.1 hx).1
    have h1 : (cur.toList.take (p.1.kids.length * 1))[j]? = some (.int .i64 x) := by rw [ht, List.getElem?_map, hx]; rfl
    rw [List.getElem?_take, if_pos (by omega)] at h1
    simpa using h1
theorem KdO.room {W : World} {base : Nat} {p : Pt} (h : KdO W base p) : p.2.1 = none → p.2.2 = 0 := by
  intro h0
  rcases h.2 with ⟨h2, _⟩ | ⟨b, cap, cur, hv, _⟩
  · simp at h2; exact h2.2.2
  · simp at hv; rw [h0] at hv; cases hv.1
theorem rowT_c4 {W : World} : ∀ {ps : List Pt}, (∀ p ∈ ps, NumsT W p.2.1 p.1.kids ∧ (p.2.1 = none → p.2.2 = 0)) → RowT W (ps.flatMap c4) (ps.map (·.1))
  | [], _ => trivial
  | p :: ps, h => ⟨rfl, rfl, rfl, ⟨_, _, rfl, h p (by simp)⟩, rowT_c4 (fun q hq => h q (by simp [hq]))⟩
theorem BdO.exsT {W : World} {base : Nat} {g : Option Addr} {c : Nat} {ps : List Pt} (h : BdO W base (.slice g ps.length c) ps) : ExsT W g (ps.map (·.1)) := by
  rcases h.own.2 with ⟨_, h3⟩ | ⟨b, cap, cur, hv, _, hh, _, _, _, ht⟩
  · exact Or.inl (by rw [List.length_eq_zero_iff.1 h3]; rfl)
  · simp at hv
    obtain ⟨rfl, _⟩ := hv
    refine exsT_of_row hh ?_
    rw [List.length_map, ht]
    exact rowT_c4 (fun p hp => ⟨(h.kids p hp).numsT, (h.kids p hp).room⟩)
/-- No two of the bodies lie in one block. -/
def Apart (qs : List Dt) : Prop := ∀ (i j : Nat) (p q : Dt), qs[i]? = some p → qs[j]? = some q → i ≠ j → ∀ a b, p.2.1 = some a → q.2.1 = some b → a.block ≠ b.block
/-- The bodies lie from here on. -/
def Lo (lo : Nat) (qs : List Dt) : Prop := ∀ q ∈ qs, ∀ a, q.2.1 = some a → lo ≤ a.block
def Ap (lo : Nat) (w : World) (qs : List Dt) : Prop := Apart qs ∧ ∀ q ∈ qs, ∀ a, q.2.1 = some a → lo ≤ a.block ∧ a.block < w.heap.size
theorem Ap.nil (lo : Nat) (w : World) : Ap lo w [] := ⟨fun i j p q h => by simp at h, fun q hq => by cases hq⟩
theorem Ap.snoc {lo : Nat} {w w' : World} {qs : List Dt} {q : Dt} (h : Ap lo w qs) (hlo : lo ≤ w.heap.size) (hs : w.heap.size ≤ w'.heap.size) (hq : ∀ a, q.2.1 = some a → w.heap.size ≤ a.block ∧ a.block < w'.heap.size) : Ap lo w' (qs ++ [q]) := by
  have key : ∀ (i : Nat) (p : Dt), (qs ++ [q])[i]? = some p → (i < qs.length ∧ p ∈ qs ∧ qs[i]? = some p) ∨ (i = qs.length ∧ p = q) := fun i p hp => by
    by_cases hi : i < qs.length
    · rw [List.getElem?_append_left hi] at hp
      exact .inl ⟨hi, List.mem_of_getElem? hp, hp⟩
    · rw [List.getElem?_append_right (by omega)] at hp
      have h0 : i - qs.length = 0 := by
        have := (List.getElem?_eq_some_iff.1 hp).1
        simp at this; omega
      rw [h0] at hp
      exact .inr ⟨by omega, by simpa using hp.symm⟩
  refine ⟨fun i j a b ha hb hij x y hx hy => ?_, fun p hp a ha => ?_⟩
  · rcases key i a ha with ⟨i1, am, ai⟩ | ⟨i1, rfl⟩
    · rcases key j b hb with ⟨j1, bm, bj⟩ | ⟨j1, rfl⟩
      · exact h.1 i j a b ai bj hij x y hx hy
      · have h1 := h.2 a am x hx
        have h2 := (hq y hy).1
        omega
    · rcases key j b hb with ⟨j1, bm, bj⟩ | ⟨j1, rfl⟩
      · have h1 := h.2 b bm y hy
        have h2 := (hq x hx).1
        omega
      · omega
  · rcases List.mem_append.1 hp with hp | hp
    · exact ⟨(h.2 p hp a ha).1, Nat.lt_of_lt_of_le (h.2 p hp a ha).2 hs⟩
    · rw [List.mem_singleton] at hp; subst hp; exact ⟨Nat.le_trans hlo (hq a ha).1, (hq a ha).2⟩
theorem BdO.block {W : World} {base : Nat} {g : Option Addr} {n c : Nat} {ps : List Pt} (h : BdO W base (.slice g n c) ps) : ∀ a, g = some a → base ≤ a.block ∧ a.block < W.heap.size := by
  intro a ha
  subst ha
  exact h.own.lt a.block rfl

end Go.Proofs.YtjamknejllbmkaaGreatDoor
