/- The contract of the laws' CopyDef. · A program that comes in: its definitions as plain data, with the bounds that the sized condition gives. · The contract of the laws' CopyProgram. -/
import Derived.Test.YtgajnmcjnkfblaaGreatDoorMSmall
import Derived.Test.YtgajnmcjnkfblaaGreatDoorMProg

namespace Go.Proofs.YtgajnmcjnkfblaaGreatDoor
open Go.RowKit
set_option linter.unusedVariables false

theorem Tryz.info3p : (Tryz.prog.info? 3).map (fun i => (i.zero, i.size, i.bytes)) = some (some (.int .i64 0), 1, 8) := by kernel_rfl
/-- A part whose kids lie in a row of the call's own. -/
def KdO (W : World) (base : Nat) (p : Pt) : Prop := W.ownsRow base 3 1 (.slice p.2.1 p.1.kids.length p.2.2) p.1.kids.length (p.1.kids.map (Value.int .i64))
theorem KdO.nums {W : World} {base : Nat} {p : Pt} (h : KdO W base p) : Nums W p.2.1 p.1.kids := by
  rcases h.2 with ⟨_, h3⟩ | ⟨b, cap, cur, hv, _, hh, _⟩
  · exact Or.inl (List.length_eq_zero_iff.1 h3)
  · simp at hv
    refine Or.inr ⟨b, 0, hv.1, (Array.getElem?_eq_some_iff.1 hh).1, fun j x hx => ?_⟩
    have h1 := h.cells (g := b) (by rw [hv.1]; rfl) j (.int .i64 x) (by rw [List.getElem?_map, hx]; rfl)
    rwa [Addr.add_lit] at h1
theorem rows_apart {W : World} {base base' n n' : Nat} {v v' : Value} {xs xs' : List Value} (h : W.ownsRow base 3 1 v n xs) (h' : W.ownsRow base' 45 4 v' n' xs') : v.ownBlock = none ∨ v.ownBlock ≠ v'.ownBlock := by
  rcases h.2 with ⟨rfl, _⟩ | ⟨b, cap, cur, rfl, _, hb, _⟩
  · exact .inl rfl
  · refine .inr fun e => ?_
    rcases h'.2 with ⟨rfl, _⟩ | ⟨b', cap', cur', rfl, _, hb', _⟩
    · cases e
    · obtain rfl : b = b' := by simpa [Value.ownBlock] using e
      have := hb.symm.trans hb'
      simp at this
/-- A body that is being copied. -/
structure BdO (W : World) (base : Nat) (v : Value) (ps : List Pt) : Prop where
  own : W.ownsRow base 45 4 v ps.length (ps.flatMap c4)
  kids : ∀ p ∈ ps, KdO W base p
theorem BdO.nil (W : World) (base : Nat) : BdO W base (.slice none 0 0) [] := ⟨World.ownsRow_nil _ _ _ _, fun p hp => by cases hp⟩
theorem BdO.alloc {W : World} {base : Nat} {v : Value} {ps : List Pt} (h : BdO W base v ps) (o : Obj) : BdO (W.alloc o) base v ps :=
  ⟨h.own.alloc o, fun p hp => World.ownsRow.alloc (h.kids p hp) o⟩
/-- Something is done in a block that is none of these. -/
theorem own_far {W : World} {base e size n : Nat} {v : Value} {xs : List Value} (h : W.ownsRow base e size v n xs) {z : Nat} (hz : v.ownBlock ≠ some z) (j : Nat) (u : Value) : (W.setCell ⟨z, j, none⟩ u).ownsRow base e size v n xs :=
  h.kept (grown_set W z j u) (.inr hz)
theorem BdO.val {W : World} {base : Nat} {v : Value} {ps : List Pt} (h : BdO W base v ps) : ∃ g c, v = .slice g ps.length c := by
  rcases h.own.2 with ⟨h2, h3⟩ | ⟨g, cap, cur, hv, _⟩
  · exact ⟨_, _, by rw [h3]; exact h2⟩
  · exact ⟨_, _, hv⟩
theorem BdO.exs {W : World} {base : Nat} {g : Option Addr} {c : Nat} {ps : List Pt} (h : BdO W base (.slice g ps.length c) ps) : Exs W g (ps.map (·.1)) := by
  rcases h.own.2 with ⟨_, h3⟩ | ⟨b, cap, cur, hv, _, hh, _⟩
  · exact Or.inl (by rw [List.length_eq_zero_iff.1 h3]; rfl)
  · simp at hv
    obtain ⟨rfl, _⟩ := hv
    refine exs_of_cells (Array.getElem?_eq_some_iff.1 hh).1 (fun j v hv => ?_) (row_c4 (fun p hp => (h.kids p hp).nums))
    have h1 := h.own.cells (g := b) rfl j v hv
    rwa [Addr.add_lit, Nat.zero_add] at h1
/-- All that lay in rows is as it lay where only another block, or none, has been turned. -/
theorem BdO.kept {W W' : World} {base : Nat} {v : Value} {ps : List Pt} {row : Option Nat} (h : BdO W base v ps) (hg : W.grownBy W' row) (hr : ∀ k, row = some k → W.heap.size ≤ k) : BdO W' base v ps := by
  have key : ∀ {e size n : Nat} {u : Value} {xs : List Value}, W.ownsRow base e size u n xs → W'.ownsRow base e size u n xs := fun {e size n u xs} ho => by
    refine ho.kept hg ?_
    cases hu : u.ownBlock with
    | none => exact .inl rfl
    | some k =>
      refine .inr fun e' => ?_
      have h1 := (ho.lt k hu).2
      have h2 := hr k e'.symm
      omega
  exact ⟨key h.own, fun p hp => key (h.kids p hp)⟩

/-- A row of numbers, copied onto an empty literal. -/
theorem app_kids {W : World} {ops : Array Oper} {rest : List Oper} {o : Oper} {a : Act} {Q : Exit → Act → World → Prop} (hgd : o.guard = none) (s x : Operand)
    (ho : o.op = .call { callee := .builtin .append, args := #[s, x], argTypes := #[43, 43] }) (base : Nat) (gk : Option Addr) (ck : Nat) (ks : List Int) (z : Nat) (hz : W.heap.size = z) (hs : a.eval s = .slice (some ⟨z, 0, none⟩) 0 0) (hx : a.eval x = .slice gk ks.length ck)
    (hn : Nums W gk ks) (h0 : gk = none → ck = 0) (hb : base ≤ W.heap.size) (hlen : ks.length * 8 ≤ 140737488351232)
    (h : ∀ v' w', w'.ownsRow base 3 1 v' ks.length (ks.map (Value.int .i64)) → W.grownBy w' none → wpList Tryz.prog ops Q rest (a.put o.dst v') w') : wpList Tryz.prog ops Q (o :: rest) a (W.alloc (.cells #[] 3)) := by
  subst hz
  obtain ⟨i0, hi, hz0, hz1, hz2⟩ := info_parts Tryz.info3p
  have hown : (W.alloc (.cells #[] 3)).ownsRow base 3 1 (.slice (some ⟨W.heap.size, 0, none⟩) 0 0) 0 [] := World.ownsRow_lit W #[] 0 hb (Nat.zero_le _) rfl
  have hga : W.grownBy (W.alloc (.cells #[] 3)) none := World.grownBy_alloc W _ none
  cases gk with
  | none =>
    have hks : ks = [] := by
      rcases hn with h | ⟨bk, o, h1, _⟩
      · exact h
      · cases h1
    subst hks
    obtain rfl : ck = 0 := h0 rfl
    exact wpList_append_own_none hgd s x 43 ho base 3 i0 1 Tryz.underlying43 hi _ 0 _ hs hown hx (h _ _ hown hga)
  | some ad =>
    refine wpList_append_own _ hgd s x 43 ho base 3 i0 _ 1 8 Tryz.underlying43 hi hz0 hz1 hz2 rfl (by decide) _ 0 [] hs hown ad ks.length ck (ks.map (Value.int .i64)) hx (by simp) ?_ ?_ (by unfold maxLen; omega) (by omega) (by rw [World.size_alloc]; omega) ?_
    · intro j u hj
      rcases hn with h | ⟨bk, o, h1, h2, h3⟩
      · subst h; simp at hj
      · cases h1
        rw [Addr.add_lit, World.cell?_alloc_lt _ _ _ h2]
        rw [List.getElem?_map] at hj
        cases hx : ks[j]? with
        | none => rw [hx] at hj; cases hj
        | some x => rw [hx] at hj; cases hj; exact h3 j x hx
    · intro u hu
      obtain ⟨b, _, rfl⟩ := List.mem_map.1 hu
      rfl
    · intro v' w' h1 h2 _
      refine h v' w' (by simpa using h1) ⟨h2.os, h2.tape, h2.output, ?_, ?_⟩
      · exact Nat.le_trans (by rw [World.size_alloc]; omega) h2.size
      · intro k hk _
        rw [h2.block k (by rw [World.size_alloc]; omega) (by intro e; have := Option.some.inj e; simp at this; omega)]
        exact Below.heap_alloc W _ k hk
/-- A part is put behind a body that is being copied. -/
theorem app_exO {W : World} {ops : Array Oper} {rest : List Oper} {o : Oper} {a : Act} {Q : Exit → Act → World → Prop} (hgd : o.guard = none) (s x : Operand)
    (ho : o.op = .call { callee := .builtin .append, args := #[s, x], argTypes := #[46, 46] }) (base : Nat) (v : Value) (ps : List Pt) (q : Pt) (cs : Array Value) (hcs : cs.toList = c4 q) (hs : a.eval s = v) (z : Nat) (hz : W.heap.size = z) (hx : a.eval x = .slice (some ⟨z, 0, none⟩) 1 1)
    (hbd : BdO W base v ps) (hq : KdO W base q) (hb : base ≤ W.heap.size) (hlen : (ps.length + 1) * 48 ≤ 140737488355328)
    (h : ∀ v' w', BdO w' base v' (ps ++ [q]) → (W.alloc (.cells cs 45)).grownBy w' v.ownBlock → wpList Tryz.prog ops Q rest (a.put o.dst v') w') : wpList Tryz.prog ops Q (o :: rest) a (W.alloc (.cells cs 45)) := by
  subst hz
  obtain ⟨i0, hi, hz0, hz1, hz2⟩ := info_parts Tryz.info45
  refine wpList_append_own _ hgd s x 46 ho base 45 i0 _ 4 48 Tryz.underlying46 hi hz0 hz1 hz2 rfl (by decide) v _ _ hs (hbd.own.alloc _) ⟨W.heap.size, 0, none⟩ 1 1 (c4 q) hx rfl ?_ (fun u hu => one_c4 [q] u (by simpa using hu)) (by unfold maxLen; omega) hlen (by rw [World.size_alloc]; omega) ?_
  · intro j u hj
    rw [Addr.add_lit, Nat.zero_add]
    refine cell_new W cs 45 j u ?_
    rw [← hcs] at hj
    simpa using hj
  · intro v' w' h1 h2 _
    refine h v' w' ⟨by rw [List.length_append, List.flatMap_append]; simpa using h1, fun p hp => ?_⟩ h2
    have hk : KdO (W.alloc (.cells cs 45)) base p := by
      rcases List.mem_append.1 hp with hp | hp
      · exact World.ownsRow.alloc (hbd.kids p hp) _
      · rw [List.mem_singleton] at hp; subst hp; exact World.ownsRow.alloc hq _
    exact World.ownsRow.kept hk h2 (rows_apart hk (hbd.own.alloc _))

theorem BdO.far {W : World} {base : Nat} {v : Value} {ps : List Pt} (h : BdO W base v ps) {z : Nat} (hz : z < base) (j : Nat) (u : Value) : BdO (W.setCell ⟨z, j, none⟩ u) base v ps := by
  have key : ∀ {e size n : Nat} {x : Value} {xs : List Value}, W.ownsRow base e size x n xs → (W.setCell ⟨z, j, none⟩ u).ownsRow base e size x n xs := fun {e size n x xs} ho =>
    own_far ho (fun e' => by have := (ho.lt z e').1; omega) j u
  exact ⟨key h.own, fun p hp => key (h.kids p hp)⟩
theorem BdO.not_box {W : World} {base z : Nat} {v : Value} {ps : List Pt} (h : BdO W base v ps) (hz : z < base) : some z ≠ v.ownBlock := by
  intro e
  have := (h.own.lt z e.symm).1
  omega
theorem Bx2.set0 {w : World} {z : Nat} {p : Int} {v : Value} (h : Bx2 w z p v) (q : Int) : Bx2 (w.setCell ⟨z, 0, none⟩ (.int .i64 q)) z q v := by
  obtain ⟨hlt, hk⟩ := Array.getElem?_eq_some_iff.1 h
  show (w.heap.modify z _)[z]? = _
  rw [Array.getElem?_eq_getElem (by rw [Array.size_modify]; exact hlt), Array.getElem_modify_self, hk]
  rfl
theorem grown_box {wr w1 : World} {o : Obj} (hg1 : (wr.alloc o).grownBy w1 none) (j : Nat) (v : Value) : wr.grownBy (w1.setCell ⟨wr.heap.size, j, none⟩ v) (some wr.heap.size) := by
  have hgs := grown_set w1 wr.heap.size j v
  refine ⟨hgs.os.trans hg1.os, hgs.tape.trans hg1.tape, hgs.output.trans hg1.output, ?_, fun k hk hne => ?_⟩
  · have h1 := hg1.size
    have h2 := hgs.size
    rw [World.size_alloc] at h1
    omega
  · have h1 := hg1.size
    rw [World.size_alloc] at h1
    rw [hgs.block k (by omega) hne, hg1.block k (by rw [World.size_alloc]; omega) (by simp)]
    exact Below.heap_alloc wr o k hk
theorem own3_not_box {W : World} {base n b : Nat} {v : Value} {xs : List Value} {cs : Array Value} (h : W.ownsRow base 3 1 v n xs) (hr : Rw W b cs) : v.ownBlock ≠ some b := by
  rcases h.2 with ⟨rfl, _⟩ | ⟨b', cap, cur, rfl, _, hb, _⟩
  · simp [Value.ownBlock]
  · intro e
    obtain rfl : b' = b := by simpa [Value.ownBlock] using e
    have := hb.symm.trans (show W.heap[b']? = _ from hr)
    simp at this
theorem own_val {W : World} {base e size n : Nat} {v : Value} {xs : List Value} (h : W.ownsRow base e size v n xs) : ∃ g c, v = .slice g n c := by
  rcases h.2 with ⟨h2, h3⟩ | ⟨g, cap, cur, hv, _⟩
  · exact ⟨_, _, by rw [h3]; exact h2⟩
  · exact ⟨_, _, hv⟩

set_option maxHeartbeats 1600000 in
set_option maxRecDepth 100000 in
theorem copydef_any (p : Int) (g : Option Addr) (c : Nat) (xs : List Ex) (w : World) (hx : ExsN w g xs) (hb : xs.length * 48 ≤ 140737488351232) (hk : ∀ x ∈ xs, x.kids.length * 8 ≤ 140737488351232) :
    Calls Tryz.prog 26 #[.agg #[.int .i64 p, .slice g xs.length c]] w fun e w' => ∃ g' c', e = .returned (.agg #[.int .i64 p, .slice g' xs.length c']) ∧ (∃ ps : List Pt, ps.map (·.1) = xs ∧ ps.length = xs.length ∧ BdO w' (w.heap.size + 2) (.slice g' xs.length c') ps) ∧ Below w.heap.size w w' := by
  go_enter Tryz.func26, Tryz.ntmps26
  go_wp2_with fail
  have HX0 : Hid (Bx2 ((w.alloc (.cells #[.int .i64 p, .slice g xs.length c] 48)).alloc (.cells #[.int .i64 0, .slice none 0 0] 48)) w.heap.size p (.slice g xs.length c)) := (Bx2.new w p _).alloc _
  have HY0 : Hid (Bx2 ((w.alloc (.cells #[.int .i64 p, .slice g xs.length c] 48)).alloc (.cells #[.int .i64 0, .slice none 0 0] 48)) (w.heap.size + 1) 0 (.slice none 0 0)) := by
    have h := Bx2.new (w.alloc (.cells #[.int .i64 p, .slice g xs.length c] 48)) 0 (.slice none 0 0)
    rw [World.size_alloc] at h
    exact h
  have HL0 : Hid (Below w.heap.size w ((w.alloc (.cells #[.int .i64 p, .slice g xs.length c] 48)).alloc (.cells #[.int .i64 0, .slice none 0 0] 48))) := ((Below.refl _ w).alloc (Nat.le_refl _) _).alloc (by simp) _
  have HXS : Hid (ExsN w g xs) := hx
  have HK : Hid (∀ x ∈ xs, x.kids.length * 8 ≤ 140737488351232) := hk
  clear hx hk
  go_loopw [3, 4, 5] (fun s3 s4 _ wr => ∃ (j : Nat) (ps : List Pt) (g' : Option Addr) (c' : Nat), j ≤ xs.length ∧ s3 = .slice g' j c' ∧ s4 = .int .i64 (j : Int) ∧ Hid (BdO wr (w.heap.size + 2) (.slice g' j c') ps) ∧ Hid (ps.map (·.1) = xs.take j ∧ ps.length = j) ∧ Hid (Bx2 wr w.heap.size p (.slice g xs.length c)) ∧ Hid (Bx2 wr (w.heap.size + 1) 0 (.slice none 0 0)) ∧ Hid (Below w.heap.size w wr))
    (fun _ s4 _ _ => xs.length - (intOf s4).toNat)
  case atStart => exact ⟨0, [], none, 0, Nat.zero_le _, rfl, rfl, BdO.nil _ _, ⟨by simp, rfl⟩, HX0, HY0, HL0⟩
  case round =>
    obtain ⟨j, ps, g', c', hj, rfl, rfl, HB, HP, HX, HY, HL⟩ := hrel
    have x0 := HX.out.c0
    have x1 := HX.out.c1
    have zy := HY.out.lt
    by_cases hlt : j < xs.length
    · have hlt' : (j : Int) < (xs.length : Int) := by omega
      obtain ⟨bk, o, rfl, hbk, gk, ck, hE, hg0⟩ := (HXS.out.on HL.out).at hlt
      have hkj := HK.out xs[j] (List.getElem_mem hlt)
      have HTJ : Hid (xs.take (j + 1) = xs.take j ++ [xs[j]]) := List.take_succ_eq_append_getElem hlt
      obtain ⟨e, he⟩ : ∃ e, xs[j] = e := ⟨_, rfl⟩
      rw [he] at hE hkj HTJ
      clear he
      obtain ⟨kd, nm, bd, ks⟩ := e
      obtain ⟨a0, a1, a2, a3, an⟩ := hE
      dsimp only at a0 a1 a2 a3 an hkj
      have HN : Hid (Nums (wr.alloc (.cells #[.int .i64 kd, .int .i64 nm, .int .i64 bd, .slice gk ks.length ck] 45)) gk ks) := an.on ((Below.refl _ wr).alloc (Nat.le_refl _) _)
      clear an
      have hkk : bk ≠ wr.heap.size := by omega
      go_wp2_with (at_builtin; refine app_kids rfl _ _ rfl (w.heap.size + 2) gk ck ks (wr.heap.size + 1) (by simp) rfl rfl HN.out hg0 (by rw [World.size_alloc]; omega) hkj ?_)
      intro v1 w1 ho1 hg1
      obtain ⟨g1, c1, rfl⟩ := own_val ho1
      have hR1 : Rw w1 wr.heap.size #[.int .i64 kd, .int .i64 nm, .int .i64 bd, .slice gk ks.length ck] := (hg1.block wr.heap.size (by rw [World.size_alloc]; omega) (by simp)).trans (World.alloc_heap_new wr _)
      have r0 := hR1.cell 0 _ rfl
      have r1 := hR1.cell 1 _ rfl
      have r2 := hR1.cell 2 _ rfl
      have r3 := hR1.cell 3 _ rfl
      have f3 := hR1.frozen 3
      have l3 := hR1.lt
      have hz1 : w.heap.size + 2 ≤ w1.heap.size := by omega
      have hbx := grown_box hg1 3 (.slice g1 ks.length c1)
      have hsz := HL.out.size
      have HKQ : Hid (KdO (w1.setCell ⟨wr.heap.size, 3, none⟩ (.slice g1 ks.length c1)) (w.heap.size + 2) (⟨kd, nm, bd, ks⟩, g1, c1)) := own_far ho1 (own3_not_box ho1 hR1) 3 _
      have HB1 : Hid (BdO (w1.setCell ⟨wr.heap.size, 3, none⟩ (.slice g1 ks.length c1)) (w.heap.size + 2) (.slice g' j c') ps) := HB.out.kept hbx (fun k e => by cases e; exact Nat.le_refl _)
      have HX1 : Hid (Bx2 (w1.setCell ⟨wr.heap.size, 3, none⟩ (.slice g1 ks.length c1)) w.heap.size p (.slice (some ⟨bk, o, none⟩) xs.length c)) := HX.out.kept hbx (fun e => by have := Option.some.inj e; omega)
      have HY1 : Hid (Bx2 (w1.setCell ⟨wr.heap.size, 3, none⟩ (.slice g1 ks.length c1)) (w.heap.size + 1) 0 (.slice none 0 0)) := HY.out.kept hbx (fun e => by have := Option.some.inj e; omega)
      have HL1 : Hid (Below w.heap.size w (w1.setCell ⟨wr.heap.size, 3, none⟩ (.slice g1 ks.length c1))) := HL.out.grown hbx hsz (fun k e => by cases e; exact hsz)
      have hpl : (ps.length + 1) * 48 ≤ 140737488355328 := by have := HP.out.2; omega
      clear HB HX HY HL HN x0 x1 a0 a1 a2 a3 hg1 ho1 hR1 hbx
      go_wp2_with (at_builtin; refine app_exO rfl _ _ rfl (w.heap.size + 2) (.slice g' j c') ps (⟨kd, nm, bd, ks⟩, g1, c1) _ rfl rfl w1.heap.size (by simp) rfl HB1.out HKQ.out (by simp; omega) hpl ?_)
      intro v2 w2 hB2 hg2
      obtain ⟨g2, k2, rfl⟩ := hB2.val
      have hl2 : (ps ++ [((⟨kd, nm, bd, ks⟩, g1, c1) : Pt)]).length = j + 1 := by
        rw [List.length_append, HP.out.2]; rfl
      have HP2 : Hid ((ps ++ [((⟨kd, nm, bd, ks⟩, g1, c1) : Pt)]).map (·.1) = xs.take (j + 1) ∧ (ps ++ [((⟨kd, nm, bd, ks⟩, g1, c1) : Pt)]).length = j + 1) := by
        refine ⟨?_, hl2⟩
        rw [List.map_append, HP.out.1, HTJ.out]; rfl
      rw [hl2] at hB2 ⊢
      clear hl2
      obtain ⟨p2, hp2⟩ : ∃ p2, ps ++ [((⟨kd, nm, bd, ks⟩, g1, c1) : Pt)] = p2 := ⟨_, rfl⟩
      rw [hp2] at hB2 HP2
      have HX2 : Hid (Bx2 w2 w.heap.size p (.slice (some ⟨bk, o, none⟩) xs.length c)) := (HX1.out.alloc _).kept hg2 (HB1.out.not_box (by omega))
      have HY2 : Hid (Bx2 w2 (w.heap.size + 1) 0 (.slice none 0 0)) := (HY1.out.alloc _).kept hg2 (HB1.out.not_box (by omega))
      have HL2 : Hid (Below w.heap.size w w2) := (HL1.out.alloc HL1.out.size _).grown hg2 (by rw [World.size_alloc]; have := HL1.out.size; omega) (fun k e => by have := (HB1.out.own.lt k e).1; omega)
      have HB2 : Hid (BdO w2 (w.heap.size + 2) (.slice g2 (j + 1) k2) p2) := hB2
      clear hB2 hg2 hp2 HKQ HB1 HX1 HY1 HL1 HP r0 r1 r2 r3 f3
      go_wp2_with fail
      go_roundw
      case rel => exact ⟨j + 1, p2, g2, k2, by omega, rfl, by go_num, HB2, HP2, HX2, HY2, HL2⟩
      case measure => simp [intOf]; omega
    · have hlt' : ¬ (j : Int) < (xs.length : Int) := by omega
      obtain rfl : j = xs.length := by omega
      have fx := HX.out.frozen
      have fy := HY.out.frozen
      have y0 := HY.out.c0
      have y1 := HY.out.c1
      have hzz : w.heap.size < w.heap.size + 2 := by omega
      have hzz1 : w.heap.size + 1 < w.heap.size + 2 := by omega
      go_wp2_with fail
      have hY : Bx2 (((wr.setCell ⟨w.heap.size, 1, none⟩ (.slice g' xs.length c')).setCell ⟨w.heap.size + 1, 0, none⟩ (.int .i64 p)).setCell ⟨w.heap.size + 1, 1, none⟩ (.slice g' xs.length c')) (w.heap.size + 1) p (.slice g' xs.length c') := ((HY.out.kept (grown_set wr w.heap.size 1 (.slice g' xs.length c')) (fun e => by have := Option.some.inj e; omega)).set0 _).set1 _
      have hB := ((HB.out.far hzz 1 (.slice g' xs.length c')).far hzz1 0 (.int .i64 p)).far hzz1 1 (.slice g' xs.length c')
      have hL := ((HL.out.setCell (p := ⟨w.heap.size, 1, none⟩) (Nat.le_refl _) (.slice g' xs.length c')).setCell (p := ⟨w.heap.size + 1, 0, none⟩) (Nat.le_succ _) (.int .i64 p)).setCell (p := ⟨w.heap.size + 1, 1, none⟩) (Nat.le_succ _) (.slice g' xs.length c')
      obtain ⟨W3, hW3⟩ : ∃ W3, ((wr.setCell ⟨w.heap.size, 1, none⟩ (.slice g' xs.length c')).setCell ⟨w.heap.size + 1, 0, none⟩ (.int .i64 p)).setCell ⟨w.heap.size + 1, 1, none⟩ (.slice g' xs.length c') = W3 := ⟨_, rfl⟩
      rw [hW3] at hY hB hL ⊢
      have q0 := hY.c0
      have q1 := hY.c1
      have hpe := HP.out
      rw [List.take_length] at hpe
      have hE : ∃ qs : List Pt, qs.map (·.1) = xs ∧ qs.length = xs.length ∧ BdO W3 (w.heap.size + 2) (.slice g' xs.length c') qs := ⟨ps, hpe.1, hpe.2, hB⟩
      clear hW3 hB hpe hY
      refine bodyPost_ret (v := .agg #[.int .i64 p, .slice g' xs.length c']) (by simp [results, Tryz.results26, go_sem, q0, q1]) rfl ⟨g', c', rfl, hE, hL⟩
end Go.Proofs.YtgajnmcjnkfblaaGreatDoor

namespace Go.Proofs.YtgajnmcjnkfblaaGreatDoor
open Go.RowKit Go.ChangeShapes Go.WideShapes Go.Deep
set_option linter.unusedVariables false

theorem cells36b : Tryz.prog.cellsOf 48 = 2 := by kernel_rfl
theorem cells24b : Tryz.prog.cellsOf 24 = 1 := by kernel_rfl
theorem cells22b : Tryz.prog.cellsOf 22 = 1 := by kernel_rfl
theorem bytes36b : Tryz.prog.bytesOf 48 = 32 := by kernel_rfl
theorem list1 {α : Type} {l : List α} (h : l.length = 1) : ∃ a, l = [a] := by
  match l, h with
  | [a], _ => exact ⟨a, rfl⟩
/-- The bounds of a definition. -/
def DBd (d : Df) : Prop := d.body.length * 48 ≤ reachBytes ∧ ∀ x ∈ d.body, x.kids.length * 8 ≤ reachBytes

theorem open_defC {H : Type} {enc : TypeId × Value → H} {W : World} {cs : List Value} {fuel : Nat} {y : DataW H × List MemPlace}
    (hf : DataW.trod enc Tryz.prog W 0 (fun _ => true) true fuel 48 cs = some y) (hw : ∀ n ∈ DataW.weights Tryz.prog 48 y.1, n ≤ reachBytes) :
    ∃ (d : Df) (g : Option Addr) (c : Nat), cs = [.int .i64 d.params, .slice g d.body.length c] ∧ ExsN W g d.body ∧ DBd d := by
  obtain ⟨ys, n, _, rfl, hl, hlen, hfs⟩ := DataW.trod_struct Tryz.underlying48 hf
  obtain ⟨c0, c1, rfl⟩ := list2 (hl.trans cells36b)
  obtain ⟨y0, y1, rfl⟩ := list2 (show ys.length = 2 from hlen)
  have h0 := hfs 0 _ rfl
  have h1 := hfs 1 _ rfl
  simp [cells3, cells46] at h0 h1
  obtain ⟨n0, e0, _, _⟩ := DataW.trod_int Tryz.underlying3 h0
  obtain ⟨g, xs, c, e1, hn, hb, hk⟩ := open_body h1 (fun m hm => hw m (by
    rw [List.map_cons, List.map_cons, List.map_nil, DataW.weights, Tryz.underlying48]
    exact DataW.weights_mem_each (j := 1) rfl rfl m hm))
  simp at e0 e1
  subst e0 e1
  exact ⟨⟨n0, xs⟩, g, c, rfl, hn, hb, hk⟩

theorem open_defs {H : Type} {enc : TypeId × Value → H} {W : World} {cs : List Value} {fuel : Nat} {y : DataW H × List MemPlace}
    (hf : DataW.trod enc Tryz.prog W 0 (fun _ => true) true fuel 22 cs = some y) (hw : ∀ n ∈ DataW.weights Tryz.prog 22 y.1, n ≤ reachBytes) :
    ∃ (g : Option Addr) (ds : List Df) (c : Nat), cs = [.slice g ds.length c] ∧ Defs ExsN W g ds ∧ ds.length * 32 ≤ reachBytes ∧ ∀ d ∈ ds, DBd d := by
  rcases open_slice Tryz.underlying22 hf with ⟨hcs, _⟩ | ⟨a, len, cap, m, n, D, Pl, hcs, _, hl, hm, hmm, hx, hel⟩
  · exact ⟨none, [], 0, hcs, Or.inl rfl, by simp, by simp⟩
  · simp only [if_true] at hmm
    subst hx
    simp only [cells36b] at hel
    have hwl := hw ((((List.range len).map D).length + ((List.range (m - len)).map fun j => D (len + j)).length) * Tryz.prog.bytesOf 48) (by rw [DataW.weights, Tryz.underlying22]; exact List.mem_cons_self)
    rw [bytes36b] at hwl
    simp only [List.length_map, List.length_range] at hwl
    have each : ∀ i, i < len → ∃ d : Df, (∃ gk ck, W.cell? (a.add (i * 2)) = some (.int .i64 d.params) ∧ W.cell? (a.add (i * 2 + 1)) = some (.slice gk d.body.length ck) ∧ ExsN W gk d.body) ∧ DBd d := by
      intro i hi
      obtain ⟨cs', h1, h2⟩ := hel i (by omega)
      obtain ⟨d, gk, ck, rfl, hn, hb⟩ := open_defC h2 (fun q hq => hw q (by
        rw [DataW.weights, Tryz.underlying22]
        exact List.mem_cons_of_mem _ (List.mem_append_left _ (mem_weightsAll hq (List.mem_map.2 ⟨i, List.mem_range.2 hi, rfl⟩)))))
      have hc := (World.cells?_some h1).2.2
      have k0 := hc 0 (by omega)
      have k1 := hc 1 (by omega)
      rw [add_add] at k0 k1
      exact ⟨d, ⟨gk, ck, k0, k1, hn⟩, hb⟩
    obtain ⟨E, hE⟩ := @choose_lt Df ⟨⟨0, []⟩⟩ _ _ each
    refine ⟨some a, (List.range len).map E, cap, by rw [hcs]; simp, ?_, by simp; omega, ?_⟩
    · by_cases h0 : len = 0
      · subst h0; exact Or.inl rfl
      · obtain ⟨b, off, spot⟩ := a
        obtain ⟨⟨gk, ck, k0, k1, _⟩, _⟩ := hE 0 (by omega)
        have hspot : spot = none := by simpa [Addr.add] using World.cell?_spot k0
        subst hspot
        refine Or.inr ⟨b, off, rfl, ?_, fun j x hx => ?_⟩
        · rw [Addr.add_lit] at k0
          exact World.block_lt_of_cell? _ _ k0
        · have hj : j < len := by
            have := (List.getElem?_eq_some_iff.1 hx).1
            simpa using this
          have e : x = E j := by
            rw [List.getElem?_map, List.getElem?_range hj] at hx
            exact (Option.some.inj hx).symm
          subst e
          obtain ⟨⟨gk, ck, q0, q1, q2⟩, _⟩ := hE j hj
          rw [Addr.add_lit] at q0 q1
          exact ⟨gk, ck, q0, q1, q2⟩
    · intro x hx
      obtain ⟨i, hi, rfl⟩ := List.mem_map.1 hx
      exact (hE i (List.mem_range.1 hi)).2

set_option maxRecDepth 100000 in
theorem open_program {H : Type} {enc : TypeId × Value → H} {W : World} {r : Reach} {b0 : Nat} {v : Value} {d : DataW H} {ps : List MemPlace} {ts : List TypeId} {ds : List (DataW H)} {j : Nat}
    (hval : Value.okWide Tryz.prog W r b0 24 v) (h : DataW.Trod enc Tryz.prog W 0 (fun _ => true) true 24 v d ps)
    (hsz : (DataW.weightsEach Tryz.prog ts ds).all (· ≤ reachBytes) = true) (ht : ts[j]? = some 24) (hd : ds[j]? = some d) :
    ∃ (g : Option Addr) (fs : List Df) (c : Nat), v = .agg #[.slice g fs.length c] ∧ Defs ExsN W g fs ∧ fs.length * 32 ≤ reachBytes ∧ ∀ d ∈ fs, DBd d := by
  have hw : ∀ n ∈ DataW.weights Tryz.prog 24 d, n ≤ reachBytes := fun n hn => by
    have := List.all_eq_true.1 hsz n (DataW.weights_mem_each ht hd n hn)
    simpa using this
  obtain ⟨⟨l⟩, rfl, hs⟩ := okWide_struct Tryz.underlying24 hval
  obtain ⟨fuel, hf⟩ := h
  obtain ⟨ys, n, _, hx, hl, hlen, hfs⟩ := DataW.trod_struct Tryz.underlying24 hf
  obtain ⟨c0, rfl⟩ := list1 (show l.length = 1 from hs.trans cells24b)
  obtain ⟨y0, rfl⟩ := list1 (show ys.length = 1 from hlen)
  have h0 := hfs 0 _ rfl
  simp [cells22b, Value.cells] at h0
  simp only [Prod.mk.injEq] at hx
  obtain ⟨rfl, _⟩ := hx
  obtain ⟨g, fs, c, e1, hn, hb, hk⟩ := open_defs h0 (fun m hm => hw m (by
    rw [List.map_cons, List.map_nil, DataW.weights, Tryz.underlying24]
    exact DataW.weights_mem_each (j := 0) rfl rfl m hm))
  simp at e1
  subst e1
  exact ⟨g, fs, c, rfl, hn, hb, hk⟩
end Go.Proofs.YtgajnmcjnkfblaaGreatDoor

namespace Go.Proofs.YtgajnmcjnkfblaaGreatDoor
open Go.RowKit
set_option linter.unusedVariables false

theorem KdO.numsT {W : World} {base : Nat} {p : Pt} (h : KdO W base p) : NumsT W p.2.1 p.1.kids := by
  rcases h.2 with ⟨_, h3⟩ | ⟨b, cap, cur, hv, _, hh, _, _, _, ht⟩
  · exact Or.inl (List.length_eq_zero_iff.1 h3)
  · simp at hv
    refine Or.inr ⟨b, cur, hv.1, hh, fun j x hx => ?_⟩
    have hl : j < p.1.kids.length := (List.getElem?_eq_some_iff.1 hx).1
    have h1 : (cur.toList.take (p.1.kids.length * 1))[j]? = some (.int .i64 x) := by rw [ht, List.getElem?_map, hx]; rfl
    rw [List.getElem?_take, if_pos (by omega)] at h1
    simpa using h1
theorem KdO.room {W : World} {base : Nat} {p : Pt} (h : KdO W base p) : p.2.1 = none → p.2.2 = 0 := by
  intro h0
  rcases h.2 with ⟨h2, _⟩ | ⟨b, cap, cur, hv, _⟩
  · simp at h2; exact h2.2.2
  · simp at hv; rw [h0] at hv; cases hv.1
theorem rowT_c4 {W : World} : ∀ {ps : List Pt}, (∀ p ∈ ps, NumsT W p.2.1 p.1.kids ∧ (p.2.1 = none → p.2.2 = 0)) → RowT W (ps.flatMap c4) (ps.map (·.1))
  | [], _ => trivial
  | p :: ps, h => ⟨rfl, rfl, rfl, ⟨_, _, rfl, h p (by simp)⟩, rowT_c4 (fun q hq => h q (by simp [hq]))⟩
theorem BdO.exsT {W : World} {base : Nat} {g : Option Addr} {c : Nat} {ps : List Pt} (h : BdO W base (.slice g ps.length c) ps) : ExsT W g (ps.map (·.1)) := by
  rcases h.own.2 with ⟨_, h3⟩ | ⟨b, cap, cur, hv, _, hh, _, _, _, ht⟩
  · exact Or.inl (by rw [List.length_eq_zero_iff.1 h3]; rfl)
  · simp at hv
    obtain ⟨rfl, _⟩ := hv
    refine exsT_of_row hh ?_
    rw [List.length_map, ht]
    exact rowT_c4 (fun p hp => ⟨(h.kids p hp).numsT, (h.kids p hp).room⟩)
/-- No two of the bodies lie in one block. -/
def Apart (qs : List Dt) : Prop := ∀ (i j : Nat) (p q : Dt), qs[i]? = some p → qs[j]? = some q → i ≠ j → ∀ a b, p.2.1 = some a → q.2.1 = some b → a.block ≠ b.block
/-- The bodies lie from here on. -/
def Lo (lo : Nat) (qs : List Dt) : Prop := ∀ q ∈ qs, ∀ a, q.2.1 = some a → lo ≤ a.block
def Ap (lo : Nat) (w : World) (qs : List Dt) : Prop := Apart qs ∧ ∀ q ∈ qs, ∀ a, q.2.1 = some a → lo ≤ a.block ∧ a.block < w.heap.size
theorem Ap.nil (lo : Nat) (w : World) : Ap lo w [] := ⟨fun i j p q h => by simp at h, fun q hq => by cases hq⟩
theorem Ap.snoc {lo : Nat} {w w' : World} {qs : List Dt} {q : Dt} (h : Ap lo w qs) (hlo : lo ≤ w.heap.size) (hs : w.heap.size ≤ w'.heap.size) (hq : ∀ a, q.2.1 = some a → w.heap.size ≤ a.block ∧ a.block < w'.heap.size) : Ap lo w' (qs ++ [q]) := by
  have key : ∀ (i : Nat) (p : Dt), (qs ++ [q])[i]? = some p → (i < qs.length ∧ p ∈ qs ∧ qs[i]? = some p) ∨ (i = qs.length ∧ p = q) := fun i p hp => by
    by_cases hi : i < qs.length
    · rw [List.getElem?_append_left hi] at hp
      exact .inl ⟨hi, List.mem_of_getElem? hp, hp⟩
    · rw [List.getElem?_append_right (by omega)] at hp
      have h0 : i - qs.length = 0 := by
        have := (List.getElem?_eq_some_iff.1 hp).1
        simp at this; omega
      rw [h0] at hp
      exact .inr ⟨by omega, by simpa using hp.symm⟩
  refine ⟨fun i j a b ha hb hij x y hx hy => ?_, fun p hp a ha => ?_⟩
  · rcases key i a ha with ⟨i1, am, ai⟩ | ⟨i1, rfl⟩
    · rcases key j b hb with ⟨j1, bm, bj⟩ | ⟨j1, rfl⟩
      · exact h.1 i j a b ai bj hij x y hx hy
      · have h1 := h.2 a am x hx
        have h2 := (hq y hy).1
        omega
    · rcases key j b hb with ⟨j1, bm, bj⟩ | ⟨j1, rfl⟩
      · have h1 := h.2 b bm y hy
        have h2 := (hq x hx).1
        omega
      · omega
  · rcases List.mem_append.1 hp with hp | hp
    · exact ⟨(h.2 p hp a ha).1, Nat.lt_of_lt_of_le (h.2 p hp a ha).2 hs⟩
    · rw [List.mem_singleton] at hp; subst hp; exact ⟨Nat.le_trans hlo (hq a ha).1, (hq a ha).2⟩
theorem BdO.block {W : World} {base : Nat} {g : Option Addr} {n c : Nat} {ps : List Pt} (h : BdO W base (.slice g n c) ps) : ∀ a, g = some a → base ≤ a.block ∧ a.block < W.heap.size := by
  intro a ha
  subst ha
  exact h.own.lt a.block rfl

set_option maxHeartbeats 1600000 in
set_option maxRecDepth 100000 in
theorem copyprog_any (g : Option Addr) (c : Nat) (ds : List Df) (w : World) (hd : Defs ExsN w g ds) (hn : ds.length * 32 ≤ 140737488351232) (hk : ∀ d ∈ ds, DBd d) :
    Calls Tryz.prog 9 #[.agg #[.slice g ds.length c]] w fun e w' => ∃ g' c', e = .returned (.agg #[.slice g' ds.length c']) ∧ (∃ qs : List Dt, qs.map (·.1) = ds ∧ qs.length = ds.length ∧ Pd w' (w.heap.size + 2) (.slice g' ds.length c') qs ∧ Apart qs ∧ Lo w.heap.size qs) ∧ Below w.heap.size w w' := by
  go_enter Tryz.func9, Tryz.ntmps9
  go_wp2_with fail
  have HX0 : Hid (Bx1 ((w.alloc (.cells #[.slice g ds.length c] 24)).alloc (.cells #[.slice none 0 0] 24)) w.heap.size (.slice g ds.length c)) := (Bx1.new w _).alloc _
  have HY0 : Hid (Bx1 ((w.alloc (.cells #[.slice g ds.length c] 24)).alloc (.cells #[.slice none 0 0] 24)) (w.heap.size + 1) (.slice none 0 0)) := by
    have h := Bx1.new (w.alloc (.cells #[.slice g ds.length c] 24)) (.slice none 0 0)
    rw [World.size_alloc] at h
    exact h
  have HL0 : Hid (Below w.heap.size w ((w.alloc (.cells #[.slice g ds.length c] 24)).alloc (.cells #[.slice none 0 0] 24))) := ((Below.refl _ w).alloc (Nat.le_refl _) _).alloc (by simp) _
  have HS0 : Hid (w.heap.size + 2 ≤ ((w.alloc (.cells #[.slice g ds.length c] 24)).alloc (.cells #[.slice none 0 0] 24)).heap.size) := by show _ ≤ _; simp
  have HD : Hid (Defs ExsN w g ds) := hd
  have HK : Hid (∀ d ∈ ds, DBd d) := hk
  clear hd hk
  go_loopw [3, 4] (fun s3 s4 wr => ∃ (j : Nat) (qs : List Dt) (g' : Option Addr) (c' : Nat), j ≤ ds.length ∧ s3 = .slice g' j c' ∧ s4 = .int .i64 (j : Int) ∧ Hid (Pd wr (w.heap.size + 2) (.slice g' j c') qs) ∧ Hid (qs.map (·.1) = ds.take j ∧ qs.length = j) ∧ Hid (Ap w.heap.size wr qs) ∧ Hid (Bx1 wr w.heap.size (.slice g ds.length c)) ∧ Hid (Bx1 wr (w.heap.size + 1) (.slice none 0 0)) ∧ Hid (Below w.heap.size w wr) ∧ Hid (w.heap.size + 2 ≤ wr.heap.size))
    (fun _ s4 _ => ds.length - (intOf s4).toNat)
  case atStart => exact ⟨0, [], none, 0, Nat.zero_le _, rfl, rfl, Pd.nil _ _, ⟨by simp, rfl⟩, Ap.nil _ _, HX0, HY0, HL0, HS0⟩
  case round =>
    obtain ⟨j, qs, g', c', hj, rfl, rfl, HP, HQ, HA, HX, HY, HL, HS⟩ := hrel
    have x0 := HX.out.c0
    by_cases hlt : j < ds.length
    · have hlt' : (j : Int) < (ds.length : Int) := by omega
      obtain ⟨bk, o, rfl, hbk, gk, ck, a0, a1, an⟩ := ((HD.out.onE (E' := ExsN) HL.out (fun _ _ k => k.on HL.out)).at hlt)
      have hkj := HK.out ds[j] (List.getElem_mem hlt)
      have HTJ : Hid (ds.take (j + 1) = ds.take j ++ [ds[j]]) := List.take_succ_eq_append_getElem hlt
      obtain ⟨d, he⟩ : ∃ d, ds[j] = d := ⟨_, rfl⟩
      rw [he] at a0 a1 an hkj HTJ
      clear he
      obtain ⟨pp, xs⟩ := d
      dsimp only at a0 a1 an hkj
      have hcp := copydef_any pp gk ck xs wr an hkj.1 hkj.2
      clear an hkj
      go_wp2_with fail
      refine hcp.mono ?_
      rintro e w1 ⟨g1, c1, rfl, ⟨ps, hps, hpl, hB1⟩, hb1⟩
      have hE1 : ExsT w1 g1 xs := by
        have h := hB1
        rw [← hpl] at h
        have h := h.exsT
        rwa [hps] at h
      have hblk := hB1.block
      have hpl2 : (qs.length + 1) * 32 ≤ 140737488355328 := by have := HQ.out.2; omega
      have hsz := hb1.size
      have HW0 : Hid (w.heap.size ≤ wr.heap.size) := HL.out.size
      have HP1 : Hid (Pd w1 (w.heap.size + 2) (.slice g' j c') qs) := HP.out.on hb1
      have HX1 : Hid (Bx1 w1 w.heap.size (.slice (some ⟨bk, o, none⟩) ds.length c)) := HX.out.on hb1
      have HY1 : Hid (Bx1 w1 (w.heap.size + 1) (.slice none 0 0)) := HY.out.on hb1
      have HL1 : Hid (Below w.heap.size w w1) := below_next HL.out hb1
      have HS1 : Hid (w.heap.size + 2 ≤ w1.heap.size) := Nat.le_trans HS.out hsz
      have HE1 : Hid (ExsT w1 g1 xs) := hE1
      have HB1 : Hid (wr.heap.size ≤ w1.heap.size ∧ ∀ a, g1 = some a → wr.heap.size ≤ a.block ∧ a.block < w1.heap.size) := ⟨hsz, fun a ha => by have := hblk a ha; omega⟩
      clear hb1 hB1 hE1 hps hpl hblk hsz HP HX HY HL HS HX0 HY0 HL0 HS0 x0 a0 a1 hcp hbk
      go_wp2_with (at_builtin; refine app_df rfl _ _ rfl (w.heap.size + 2) (.slice g' j c') qs (⟨pp, xs⟩, g1, c1) _ rfl rfl w1.heap.size rfl rfl HP1.out HE1.out HS1.out hpl2 ?_)
      intro v2 w2 hP2 hg2
      obtain ⟨g2, k2, rfl⟩ := hP2.val
      have hs2 := hg2.size
      rw [World.size_alloc] at hs2
      have hl2 : (qs ++ [((⟨pp, xs⟩, g1, c1) : Dt)]).length = j + 1 := by
        rw [List.length_append, HQ.out.2]; rfl
      have HQ2 : Hid ((qs ++ [((⟨pp, xs⟩, g1, c1) : Dt)]).map (·.1) = ds.take (j + 1) ∧ (qs ++ [((⟨pp, xs⟩, g1, c1) : Dt)]).length = j + 1) := by
        refine ⟨?_, hl2⟩
        rw [List.map_append, HQ.out.1, HTJ.out]; rfl
      have HA2 : Hid (Ap w.heap.size w2 (qs ++ [((⟨pp, xs⟩, g1, c1) : Dt)])) := HA.out.snoc HW0.out (by have := HB1.out.1; omega) (fun a ha => by have := HB1.out.2 a ha; omega)
      rw [hl2] at hP2 ⊢
      clear hl2
      obtain ⟨p2, hp2⟩ : ∃ p2, qs ++ [((⟨pp, xs⟩, g1, c1) : Dt)] = p2 := ⟨_, rfl⟩
      rw [hp2] at hP2 HQ2 HA2
      have HX2 : Hid (Bx1 w2 w.heap.size (.slice (some ⟨bk, o, none⟩) ds.length c)) := (HX1.out.alloc _).kept hg2 (HP1.out.not_box HX1.out)
      have HY2 : Hid (Bx1 w2 (w.heap.size + 1) (.slice none 0 0)) := (HY1.out.alloc _).kept hg2 (HP1.out.not_box HY1.out)
      have HL2 : Hid (Below w.heap.size w w2) := (HL1.out.alloc HL1.out.size _).grown hg2 (by rw [World.size_alloc]; have := HL1.out.size; omega) (fun k e => by have := (HP1.out.own.lt k e).1; omega)
      have HS2 : Hid (w.heap.size + 2 ≤ w2.heap.size) := by have := HS1.out; show _ ≤ _; omega
      have HP2 : Hid (Pd w2 (w.heap.size + 2) (.slice g2 (j + 1) k2) p2) := hP2
      clear hP2 hg2 hp2 hs2 HP1 HX1 HY1 HL1 HS1 HE1 HB1 HA HQ
      go_wp2_with fail
      go_roundw
      case rel => exact ⟨j + 1, p2, g2, k2, by omega, rfl, by go_num, HP2, HQ2, HA2, HX2, HY2, HL2, HS2⟩
      case measure => simp [intOf]; omega
    · have hlt' : ¬ (j : Int) < (ds.length : Int) := by omega
      obtain rfl : j = ds.length := by omega
      have y0 := HY.out.c0
      have yf := HY.out.frozen 0
      go_wp2_with fail
      have hY := HY.out.set0 (.slice g' ds.length c')
      have hP := HP.out.far HY.out 0 (.slice g' ds.length c')
      have hL := HL.out.setCell (p := ⟨w.heap.size + 1, 0, none⟩) (Nat.le_succ _) (.slice g' ds.length c')
      obtain ⟨W3, hW3⟩ : ∃ W3, wr.setCell ⟨w.heap.size + 1, 0, none⟩ (.slice g' ds.length c') = W3 := ⟨_, rfl⟩
      rw [hW3] at hY hP hL ⊢
      have q0 := hY.c0
      have hpe := HQ.out
      rw [List.take_length] at hpe
      clear hW3 hY
      refine bodyPost_ret (v := .agg #[.slice g' ds.length c']) (by simp [results, Tryz.results9, go_sem, q0]) rfl ⟨g', c', rfl, ⟨qs, hpe.1, hpe.2, hP, HA.out.1, fun q hq a ha => (HA.out.2 q hq a ha).1⟩, hL⟩
end Go.Proofs.YtgajnmcjnkfblaaGreatDoor
