/- The document's eval: how it stands, how it ends; a row of things put behind an own one. · The document's eval: its own boxes; a number, a failure, a constructor. · The document's eval: a failure, a constructor. · The document's eval: a variable. · The document's eval: a call. -/
import Derived.Test.YtjamknejllbmkaaGreatDoorMNRf
import Derived.Test.YtjamknejllbmkaaGreatDoorMNEv
import Derived.Test.YtjamknejllbmkaaGreatDoorMNPure

namespace Go.Proofs.YtjamknejllbmkaaGreatDoor
open Go.RowKit
set_option linter.unusedVariables false

structure Rs (W0 : World) (gp : Option Addr) (P : List Df) (cp z : Nat) (W : World) (f : Nat) : Prop where
  prg : Prg W0 gp P
  low : Below W0.heap.size W0 W
  z0 : W0.heap.size ≤ z
  box : Bx 63 W z (nmC gp P.length cp (f : Int) 0)
section
variable {W0 : World} {gp : Option Addr} {P : List Df} {cp z : Nat}
theorem Rs.lt {W : World} {f : Nat} (h : Rs W0 gp P cp z W f) : z < W.heap.size := h.box.lt
theorem Rs.next {W W' : World} {f : Nat} (h : Rs W0 gp P cp z W f) (hb : Below W.heap.size W W') : Rs W0 gp P cp z W' f :=
  ⟨h.prg, h.low.trans (hb.mono h.low.size), h.z0, h.box.next hb⟩
theorem Rs.kp {W W' : World} {f f' : Nat} (h : Rs W0 gp P cp z W f) (hk : Ka (Zz z) W W') (hb : Bx 63 W' z (nmC gp P.length cp (f' : Int) 0)) : Rs W0 gp P cp z W' f' :=
  ⟨h.prg, h.low.trans (hk.below h.low.size (fun k e => by rw [e]; exact h.z0)), h.z0, hb⟩
end
/-- How it ends. -/
def RvQ (gp : Option Addr) (P : List Df) (cp z : Nat) (A : Nat → Prop) (W : World) (r : Oc × Nat) (e : Ending) (W' : World) : Prop :=
  ∃ gl cl, e = .returned (hV (ocK r.1) (ocN r.1) (.slice gl (ocP r.1).length cl)) ∧ RLs A W' (.slice gl (ocP r.1).length cl) (ocP r.1) ∧ Bx 63 W' z (nmC gp P.length cp (r.2 : Int) (erO r.1)) ∧ Ka (Zz z) W W'
def RvSaid (W0 : World) (gp : Option Addr) (P : List Df) (cp z n : Nat) : Prop := ∀ (f : Nat) (A : Nat → Prop) (W : World) (us : List Value) (t : Th), f ≤ n → Rs W0 gp P cp z W f → A z → (∀ k, A k → k < W.heap.size) →
  Wf P t → RTh A W us t → Calls Tryz.prog 19 #[.pointer (some ⟨z, 0, none⟩), .agg us.toArray] W fun e W' => RvQ gp P cp z A W (ev P n f t) e W'

theorem flat_len : ∀ {us : List (List Value)}, (∀ u ∈ us, u.length = 5) → us.flatten.length = us.length * 5
  | [], _ => rfl
  | v :: us, h5 => by
    rw [List.flatten_cons, List.length_append, h5 v (by simp), flat_len (fun y hy => h5 y (by simp [hy])), List.length_cons]; omega
theorem flat_of : ∀ {us : List (List Value)}, (∀ u ∈ us, u.length = 5) → ∀ {j : Nat} {x : Value}, us.flatten[j]? = some x → ∃ u, us[j / 5]? = some u ∧ u[j % 5]? = some x
  | [], _, j, x, h => by simp at h
  | v :: us, h5, j, x, h => by
    have hv : v.length = 5 := h5 v (by simp)
    rw [List.flatten_cons] at h
    by_cases hj : j < 5
    · rw [List.getElem?_append_left (by omega)] at h
      exact ⟨v, by rw [Nat.div_eq_of_lt hj]; rfl, by rw [Nat.mod_eq_of_lt hj]; exact h⟩
    · rw [List.getElem?_append_right (by omega), hv] at h
      obtain ⟨u, h1, h2⟩ := flat_of (fun y hy => h5 y (by simp [hy])) h
      refine ⟨u, ?_, ?_⟩
      · rw [show j / 5 = (j - 5) / 5 + 1 by omega]; simpa using h1
      · rw [show j % 5 = (j - 5) % 5 by omega]; exact h2
theorem RGr.none (A : Nat → Prop) (B : Nat) (W : World) (hB : B ≤ W.heap.size) : RGr A B (W.alloc (.cells #[] 69)) (.slice (some ⟨W.heap.size, 0, Option.none⟩) 0 0) [] :=
  ⟨[], World.ownsRow_lit W #[] 0 hB (Nat.zero_le _) rfl, rfl, fun j u l hu => by simp at hu⟩
theorem RGr.cat {A : Nat → Prop} {B : Nat} {W W' : World} {v v' : Value} {us vs : List (List Value)} {ts ls : List Th} (h2 : us.length = ts.length) (h3 : ∀ (j : Nat) u l, us[j]? = some u → ts[j]? = some l → RTh (orO A v) W u l)
    (e2 : vs.length = ls.length) (e3 : ∀ (j : Nat) u l, vs[j]? = some u → ls[j]? = some l → RTh (orO A v) W u l) (h4 : W'.ownsRow B 69 5 v' (us ++ vs).length (us ++ vs).flatten) (hg : W.grownBy W' v.ownBlock) (hv : v'.ownBlock = v.ownBlock ∨ v'.ownBlock = some W.heap.size) : RGr A B W' v' (ts ++ ls) := by
  have hk : ∀ {x : List Value} {l : Th}, RTh (orO A v) W x l → RTh (orO A v') W' x l := by
    intro x l hx
    refine ((hx.avoid (B := fun k => orO A v k ∨ v'.ownBlock = some k) ?_).kp (Ka.of_grown hg (fun k hk => Or.inl (Or.inr hk)))).avoid (fun k hk => Or.inl ?_)
    · rintro k (hk | hk)
      · exact Or.inl hk
      · rcases hv with e | e
        · exact Or.inl (Or.inr (by rw [← e]; exact hk))
        · rw [e] at hk; have := Option.some.inj hk; right; omega
    · rcases hk with hk | hk
      · exact Or.inl (Or.inl hk)
      · exact Or.inr hk
  refine ⟨us ++ vs, h4, by simp [h2, e2], fun j x l hx hl => ?_⟩
  by_cases hj : j < us.length
  · rw [List.getElem?_append_left hj] at hx
    rw [List.getElem?_append_left (by omega)] at hl
    exact hk (h3 j x l hx hl)
  · rw [List.getElem?_append_right (by omega)] at hx
    rw [List.getElem?_append_right (by omega), ← h2] at hl
    exact hk (e3 _ x l hx hl)
/-- A row of things put behind an own one. -/
theorem wp_cat5 {A : Nat → Prop} {W : World} {o : Oper} {a : Act} {K : Act → World → Prop} {Q : Exit → Act → World → Prop} (s x : Operand)
    (ho : o.op = .call { callee := .builtin .append, args := #[s, x], argTypes := #[64, 64] }) (B : Nat) (v lv : Value) (ts ls : List Th) (hs : a.eval s = v) (hx : a.eval x = lv) (hG : RGr A B W v ts) (hl : RLs (orO A v) W lv ls) (hB : B ≤ W.heap.size) (hlen : ts.length + ls.length ≤ 4096)
    (h : ∀ g c w', RGr A B w' (.slice g (ts.length + ls.length) c) (ts ++ ls) → Below B W w' → K (a.put o.dst (.slice g (ts.length + ls.length) c)) w') : Oper.wp Tryz.prog o a W K Q := by
  obtain ⟨i0, hi, hz0, hz1, hz2⟩ := info_parts Tryz.info69
  have hv := hG.val
  obtain ⟨us, h1, h2, h3⟩ := hG
  obtain ⟨vs, h4, h5, h6⟩ := hl
  rcases h4 with ⟨rfl, rfl⟩ | ⟨bk, of, c, rfl, k1, k2, k3⟩
  · have e0 : ls = [] := List.length_eq_zero_iff.1 (by simpa using h5.symm)
    subst e0
    obtain ⟨g, c, e⟩ := hv
    have hrun := run_append_owned_none (P := Tryz.prog) (w := W) B 64 o.type 69 i0 5 Tryz.underlying64 hi v us.length us.flatten h1
    unfold Oper.wp
    simp [execOp, ho, resolve, invoke, builtin, hs, hx, hrun, Result.andThen]
    subst e
    have := h g c W (by rw [List.append_nil]; exact ⟨us, h1, h2, h3⟩) (Below.refl _ _)
    simp only [List.length_nil, Nat.add_zero] at this
    exact this
  · have h5' : ∀ u ∈ vs, u.length = 5 := by
      intro u hu
      obtain ⟨j, hj⟩ := List.getElem?_of_mem hu
      exact (k3 j u hj).1
    obtain ⟨v', w', hr, q1, q2, q3, q4⟩ := run_append_own_at (P := Tryz.prog) W B 64 o.type 69 i0 _ 5 64 Tryz.underlying64 hi hz0 hz1 hz2 rfl (by decide) v us.length us.flatten h1 ⟨bk, of, Option.none⟩ vs.length c vs.flatten (flat_len h5') (fun j y hj => by
        obtain ⟨u, e1, e2⟩ := flat_of h5' hj
        rw [Lib.add_plain]
        have := (k3 _ u e1).2 _ y e2
        rw [show of + j / 5 * 5 + j % 5 = of + j by omega] at this
        exact this) (fun y hy => by
        obtain ⟨j, hj⟩ := List.getElem?_of_mem hy
        obtain ⟨u, e1, e2⟩ := flat_of h5' hj
        have hlt : j / 5 < ls.length := by rw [← h5]; exact (List.getElem?_eq_some_iff.1 e1).1
        exact (h6 _ u _ e1 (List.getElem?_eq_getElem hlt)).ones y (List.mem_of_getElem? e2)) (by unfold maxLen; omega) (by omega) hB
    unfold Oper.wp execOp
    simp only [ho, resolve, invoke, builtin, Sem.run_bind, Sem.run_pure, Result.andThen_ok, List.map_toArray, List.map_cons, List.map_nil, hs, hx, hr]
    obtain ⟨g, c', e, _⟩ := Lx.own_len q1
    subst e
    have e1 : us.flatten ++ vs.flatten = (us ++ vs).flatten := by simp
    have e2 : us.length + vs.length = (us ++ vs).length := by simp
    have hgr : RGr A B w' (.slice g (us.length + vs.length) c') (ts ++ ls) := by
      refine RGr.cat h2 h3 h5 h6 ?_ q2 q4
      rw [← e1, ← e2]
      exact q1
    have hbel : Below B W w' := (Below.refl B W).grown q2 hB (fun k hk => (World.ownsRow.lt h1 k hk).1)
    have := h g c' w' (by rw [← h2, ← h5]; exact hgr) hbel
    rw [← h2, ← h5] at this
    exact this
theorem wpList_cat5 {A : Nat → Prop} {W : World} {ops : Array Oper} {rest : List Oper} {o : Oper} {a : Act} {Q : Exit → Act → World → Prop} (hgd : o.guard = none) (s x : Operand)
    (ho : o.op = .call { callee := .builtin .append, args := #[s, x], argTypes := #[64, 64] }) (B : Nat) (v lv : Value) (ts ls : List Th) (hs : a.eval s = v) (hx : a.eval x = lv) (hG : RGr A B W v ts) (hl : RLs (orO A v) W lv ls) (hB : B ≤ W.heap.size) (hlen : ts.length + ls.length ≤ 4096)
    (h : ∀ g c w', RGr A B w' (.slice g (ts.length + ls.length) c) (ts ++ ls) → Below B W w' → wpList Tryz.prog ops Q rest (a.put o.dst (.slice g (ts.length + ls.length) c)) w') : wpList Tryz.prog ops Q (o :: rest) a W :=
  wpList_plain hgd fun K hK => wp_cat5 s x ho B v lv ts ls hs hx hG hl hB hlen (fun g c w' h1 h2 => hK _ _ (h g c w' h1 h2))
theorem step_cat5 {A : Nat → Prop} {W : World} {ops : Array Oper} {o : Oper} {a : Act} {K : Act → World → Prop} {Q : Exit → Act → World → Prop} {E : Prop} (hgd : o.guard = none) (s x : Operand)
    (ho : o.op = .call { callee := .builtin .append, args := #[s, x], argTypes := #[64, 64] }) (B : Nat) (v lv : Value) (ts ls : List Th) (hs : a.eval s = v) (hx : a.eval x = lv) (hG : RGr A B W v ts) (hl : RLs (orO A v) W lv ls) (hB : B ≤ W.heap.size) (hlen : ts.length + ls.length ≤ 4096)
    (h : ∀ g c w', RGr A B w' (.slice g (ts.length + ls.length) c) (ts ++ ls) → Below B W w' → K (a.put o.dst (.slice g (ts.length + ls.length) c)) w') : if Region.wanted o (yielded ops a.tmps) = true then Oper.wp Tryz.prog o a W K Q else E := by
  rw [if_pos (by simp [Region.wanted, hgd])]
  exact wp_cat5 s x ho B v lv ts ls hs hx hG hl hB hlen h
end Go.Proofs.YtjamknejllbmkaaGreatDoor

namespace Go.Proofs.YtjamknejllbmkaaGreatDoor
open Go.RowKit
set_option linter.unusedVariables false
attribute [local go_sem ↓] Go.wp_at_zero Go.wp_at_succ

/-- What is there once a step is taken off. -/
theorem u_facts {W0 : World} {gp : Option Addr} {P : List Df} {cp z f : Nat} {W : World} (hs : Rs W0 gp P cp z W (f + 1)) (tc rc : Array Value) :
    Hid (Ka (Zz z) W (((W.setCell ⟨z, 1, none⟩ (.int .i64 (f : Int))).alloc (Obj.cells tc 69)).alloc (Obj.cells rc 66))) ∧ Hid (Rs W0 gp P cp z (((W.setCell ⟨z, 1, none⟩ (.int .i64 (f : Int))).alloc (Obj.cells tc 69)).alloc (Obj.cells rc 66)) f)
    ∧ Hid (Bx 69 (((W.setCell ⟨z, 1, none⟩ (.int .i64 (f : Int))).alloc (Obj.cells tc 69)).alloc (Obj.cells rc 66)) W.heap.size tc) ∧ Hid (Bx 66 (((W.setCell ⟨z, 1, none⟩ (.int .i64 (f : Int))).alloc (Obj.cells tc 69)).alloc (Obj.cells rc 66)) (W.heap.size + 1) rc) := by
  have e0 : (W.setCell ⟨z, 1, none⟩ (.int .i64 (f : Int))).heap.size = W.heap.size := by simp
  have k0 : Ka (Zz z) W (W.setCell ⟨z, 1, none⟩ (.int .i64 (f : Int))) := Ka.of_grown (grown_set W z 1 _) (fun k e => (Option.some.inj e).symm)
  have b1 : Below W.heap.size (W.setCell ⟨z, 1, none⟩ (.int .i64 (f : Int))) (((W.setCell ⟨z, 1, none⟩ (.int .i64 (f : Int))).alloc (Obj.cells tc 69)).alloc (Obj.cells rc 66)) := ((Below.refl _ _).alloc (by simp) _).alloc (by simp <;> omega) _
  have k1 := k0.next (Ka.of_below (A := Zz z) (by rw [e0]; exact b1))
  have hb := (hs.box.set 1 (.int .i64 (f : Int))).on b1 hs.lt
  have c0 := (Bx.new 69 (W.setCell ⟨z, 1, none⟩ (.int .i64 (f : Int))) tc).alloc (Obj.cells rc 66)
  have c1 := Bx.new 66 ((W.setCell ⟨z, 1, none⟩ (.int .i64 (f : Int))).alloc (Obj.cells tc 69)) rc
  rw [World.size_alloc, e0] at c1
  rw [e0] at c0
  exact ⟨k1, hs.kp k1 hb, c0, c1⟩
theorem RLs.st3 {A : Nat → Prop} {W : World} {lv : Value} {ls : List Th} {R : Nat} (h : RLs (orR A R) W lv ls) (v0 v1 v2 : Value) : RLs A (Go.Proofs.YtjamknejllbmkaaGreatDoor.st3 W R v0 v1 v2) lv ls :=
  (h.kp (Ka.st3 W R v0 v1 v2)).avoid fun k hk => Or.inl (Or.inl hk)
/-- The call's own boxes: the thing's, the result's, the body part's; what was handed in stays. -/
structure Rc (z : Nat) (A : Nat → Prop) (W : World) (tc xc : Array Value) (X : Nat) (lv : Value) (ls : List Th) (kv : Value) (ks : List Th) (wr : World) : Prop where
  kp : Ka (Zz z) W wr
  tb : Bx 69 wr W.heap.size tc
  rb : Bx 66 wr (W.heap.size + 1) #[.int .i64 0, .int .i64 0, .slice none 0 0]
  xb : Bx 55 wr X xc
  lv : RLs (orR A (W.heap.size + 1)) wr lv ls
  kv : RLs (orR A (W.heap.size + 1)) wr kv ks
theorem Rc.call {z : Nat} {A : Nat → Prop} {W : World} {tc xc : Array Value} {X : Nat} {lv : Value} {ls : List Th} {kv : Value} {ks : List Th} {wr w' : World} (h : Rc z A W tc xc X lv ls kv ks wr) (hz : A z) (hzW : z < W.heap.size) (hX : W.heap.size < X) (hk : Ka (Zz z) wr w') : Rc z A W tc xc X lv ls kv ks w' := by
  have hne : ∀ b, W.heap.size ≤ b → ¬ Zz z b := fun b hb e => by have e' : b = z := e; omega
  have hm : Ka (orR A (W.heap.size + 1)) wr w' := hk.mono fun k _ hk => by have e : k = z := hk; subst e; exact Or.inl hz
  exact ⟨h.kp.next hk, h.tb.kp hk (hne _ (Nat.le_refl _)), h.rb.kp hk (hne _ (by omega)), h.xb.kp hk (hne _ (by omega)), h.lv.kp hm, h.kv.kp hm⟩
theorem Rc.next {z : Nat} {A : Nat → Prop} {W : World} {tc xc : Array Value} {X : Nat} {lv : Value} {ls : List Th} {kv : Value} {ks : List Th} {wr w' : World} (h : Rc z A W tc xc X lv ls kv ks wr) (hb : Below wr.heap.size wr w') : Rc z A W tc xc X lv ls kv ks w' :=
  ⟨h.kp.next (Ka.of_below hb), h.tb.next hb, h.rb.next hb, h.xb.next hb, h.lv.kp (Ka.of_below hb), h.kv.kp (Ka.of_below hb)⟩
/-- The result is stored. -/
theorem Rc.fin {z : Nat} {A : Nat → Prop} {W : World} {tc xc : Array Value} {X : Nat} {lv : Value} {ls : List Th} {kv : Value} {ks : List Th} {wr : World} (h : Rc z A W tc xc X lv ls kv ks wr) (hzW : z < W.heap.size) {zc : Array Value} (hb : Bx 63 wr z zc) {rv : Value} {ps : List Th} (hr : RLs (orR A (W.heap.size + 1)) wr rv ps) (v0 v1 v2 : Value) :
    Bx 66 (Go.Proofs.YtjamknejllbmkaaGreatDoor.st3 wr (W.heap.size + 1) v0 v1 v2) (W.heap.size + 1) #[v0, v1, v2] ∧ Bx 63 (Go.Proofs.YtjamknejllbmkaaGreatDoor.st3 wr (W.heap.size + 1) v0 v1 v2) z zc ∧ Ka (Zz z) W (Go.Proofs.YtjamknejllbmkaaGreatDoor.st3 wr (W.heap.size + 1) v0 v1 v2) ∧ RLs A (Go.Proofs.YtjamknejllbmkaaGreatDoor.st3 wr (W.heap.size + 1) v0 v1 v2) rv ps := by
  refine ⟨h.rb.st3 v0 v1 v2, ((hb.other 0 _ (by omega)).other 1 _ (by omega)).other 2 _ (by omega), ?_, hr.st3 v0 v1 v2⟩
  have hf : ∀ (i : Nat) (u : Value) (U : World), Ka (Zz z) W U → Ka (Zz z) W (U.setCell ⟨W.heap.size + 1, i, none⟩ u) := fun i u U hU =>
    ⟨hU.os, hU.tape, hU.output, by simpa using hU.size, fun k hk hna => (Below.heap_setCell U _ _ k (fun e => by have h5 : k = W.heap.size + 1 := e; omega)).trans (hU.block k hk hna)⟩
  exact hf 2 _ _ (hf 1 _ _ (hf 0 _ _ h.kp))
theorem RvQ.mk {gp : Option Addr} {P : List Df} {cp z : Nat} {A : Nat → Prop} {W W' : World} {o : Oc} {f : Nat} {r : Oc × Nat} {k n e : Int} {g : Option Addr} {m c : Nat} (er : (o, f) = r) (hk : ocK o = k) (hn : ocN o = n) (hm : (ocP o).length = m) (he : erO o = e) (h : Bx 63 W' z (nmC gp P.length cp (f : Int) e) ∧ Ka (Zz z) W W' ∧ RLs A W' (.slice g m c) (ocP o)) :
    RvQ gp P cp z A W r (.returned (hV k n (.slice g m c))) W' := by
  subst er hk hn hm he
  exact ⟨g, c, rfl, h.2.2, h.1, h.2.1⟩
theorem five {us : List Value} (h : us.length = 5) : ∃ u0 u1 u2 u3 u4, us = [u0, u1, u2, u3, u4] := by
  match us, h with
  | [u0, u1, u2, u3, u4], _ => exact ⟨_, _, _, _, _, rfl⟩
/-- A level or a part's kid, its five cells. -/
theorem RLs.pick {A : Nat → Prop} {W : World} {v : Value} {ls : List Th} (h : RLs A W v ls) {j : Nat} {l : Th} (hj : ls[j]? = some l) :
    ∃ bk o c u0 u1 u2 u3 u4, v = .slice (some ⟨bk, o, none⟩) ls.length c ∧ bk < W.heap.size ∧ ¬ A bk ∧ (W.cell? ⟨bk, o + j * 5, none⟩ = some u0 ∧ W.cell? ⟨bk, o + j * 5 + 1, none⟩ = some u1 ∧ W.cell? ⟨bk, o + j * 5 + 2, none⟩ = some u2 ∧ W.cell? ⟨bk, o + j * 5 + 3, none⟩ = some u3 ∧ W.cell? ⟨bk, o + j * 5 + 4, none⟩ = some u4) ∧ RTh A W [u0, u1, u2, u3, u4] l := by
  obtain ⟨bk, o, c, us, h1, h2, h3, h4, h5⟩ := h.at hj
  obtain ⟨u0, u1, u2, u3, u4, rfl⟩ := five h5.five
  exact ⟨bk, o, c, u0, u1, u2, u3, u4, h1, h2, h3, ⟨h4 0 _ rfl, h4 1 _ rfl, h4 2 _ rfl, h4 3 _ rfl, h4 4 _ rfl⟩, h5⟩
theorem RLs.prt {A : Nat → Prop} {W : World} {lv : Value} {ls : List Th} (h : RLs A W lv ls) (d a : Nat) : RTh A W [.bool false, .string ⟨#[]⟩, .int .i64 (d : Int), .int .i64 (a : Int), lv] (.prt d a ls) := by
  obtain ⟨vs, h1, h2, h3⟩ := h
  exact .prt d a ls lv vs h1 h2 h3
/-- Cells that stay while the result's box is written. -/
structure Lr (R : Nat) (L : List (Nat × Nat × Value)) (V : World) : Prop where
  kc : ∀ q ∈ L, q.1 ≠ R ∧ q.1 < V.heap.size ∧ V.cell? ⟨q.1, q.2.1, none⟩ = some q.2.2
  rb : ∃ u0 u1 u2, Bx 66 V R #[u0, u1, u2]
theorem Lr.below {R : Nat} {L : List (Nat × Nat × Value)} {V V' : World} (h : Lr R L V) (hb : Below V.heap.size V V') : Lr R L V' := by
  obtain ⟨u0, u1, u2, hr⟩ := h.rb
  refine ⟨fun q hq => ?_, u0, u1, u2, hr.next hb⟩
  obtain ⟨h1, h2, h3⟩ := h.kc q hq
  exact ⟨h1, Nat.lt_of_lt_of_le h2 hb.size, (hb.cell (p := ⟨q.1, q.2.1, none⟩) h2).trans h3⟩
theorem Lr.alloc {R : Nat} {L : List (Nat × Nat × Value)} {V : World} (h : Lr R L V) (o : Obj) : Lr R L (V.alloc o) := h.below ((Below.refl _ V).alloc (Nat.le_refl _) o)
theorem Lr.drew {R : Nat} {L : List (Nat × Nat × Value)} {V : World} (h : Lr R L V) : Lr R L V.drew := h.below (Below.refl _ V).drew
theorem Lr.keep {R : Nat} {L : List (Nat × Nat × Value)} {V : World} (h : Lr R L V) (j : Nat) (v : Value) : ∀ q ∈ L, q.1 ≠ R ∧ q.1 < (V.setCell ⟨R, j, none⟩ v).heap.size ∧ (V.setCell ⟨R, j, none⟩ v).cell? ⟨q.1, q.2.1, none⟩ = some q.2.2 := by
  intro q hq
  obtain ⟨h1, h2, h3⟩ := h.kc q hq
  refine ⟨h1, by simpa using h2, ?_⟩
  unfold World.cell? at h3 ⊢
  rw [Below.heap_setCell V _ _ q.1 h1]; exact h3
theorem Lr.set0 {R : Nat} {L : List (Nat × Nat × Value)} {V : World} (h : Lr R L V) (v : Value) : Lr R L (V.setCell ⟨R, 0, none⟩ v) := by
  obtain ⟨u0, u1, u2, hr⟩ := h.rb
  exact ⟨h.keep 0 v, v, u1, u2, hr.set 0 v⟩
theorem Lr.set1 {R : Nat} {L : List (Nat × Nat × Value)} {V : World} (h : Lr R L V) (v : Value) : Lr R L (V.setCell ⟨R, 1, none⟩ v) := by
  obtain ⟨u0, u1, u2, hr⟩ := h.rb
  exact ⟨h.keep 1 v, u0, v, u2, hr.set 1 v⟩
theorem Lr.set2 {R : Nat} {L : List (Nat × Nat × Value)} {V : World} (h : Lr R L V) (v : Value) : Lr R L (V.setCell ⟨R, 2, none⟩ v) := by
  obtain ⟨u0, u1, u2, hr⟩ := h.rb
  exact ⟨h.keep 2 v, u0, u1, v, hr.set 2 v⟩
theorem Lr.all {R b1 b2 b3 j1 j2 j3 : Nat} {v1 v2 v3 : Value} {V : World} (h : Lr R [(b1, j1, v1), (b2, j2, v2), (b3, j3, v3)] V) : Lr R [(b1, j1, v1), (b2, j2, v2), (b3, j3, v3)] V ∧ V.cell? ⟨b1, j1, none⟩ = some v1 ∧ V.cell? ⟨b2, j2, none⟩ = some v2 ∧ V.cell? ⟨b3, j3, none⟩ = some v3
    ∧ V.cell? ⟨R, 0, none⟩ = some (cel V ⟨R, 0, none⟩) ∧ V.cell? ⟨R, 1, none⟩ = some (cel V ⟨R, 1, none⟩) ∧ V.cell? ⟨R, 2, none⟩ = some (cel V ⟨R, 2, none⟩) ∧ V.frozen? ⟨R, 0, none⟩ = false ∧ V.frozen? ⟨R, 1, none⟩ = false ∧ V.frozen? ⟨R, 2, none⟩ = false := by
  obtain ⟨u0, u1, u2, hr⟩ := h.rb
  exact ⟨h, (h.kc (b1, j1, v1) (by simp)).2.2, (h.kc (b2, j2, v2) (by simp)).2.2, (h.kc (b3, j3, v3) (by simp)).2.2, cel_is (hr.cell 0 _ rfl), cel_is (hr.cell 1 _ rfl), cel_is (hr.cell 2 _ rfl), hr.frozen 0, hr.frozen 1, hr.frozen 2⟩
theorem kidsT_at {d : Nat} {ls : List Th} {x : Ex} {i : Nat} (h : i < x.kids.length) : (kidsT d ls x)[i]? = some (kidT d ls x i) := by
  unfold kidsT kidT
  rw [List.getElem?_map, List.getElem?_eq_getElem h]
  rfl
section
variable {P : List Df} {n f d a : Nat} {ls : List Th} {x : Ex}
theorem ev_4r (h : Pd1 P d a ls x) (hk : x.kind = 4) : ev P (n + 1) (f + 1) (.prt d a ls) = (match ev P n f (kidT d ls x 0) with
    | (.num m, f1) => (match ev P n f1 (kidT d ls x 1) with
      | (.num k, f2) => (.num (prm x.num m k), f2)
      | (.con _ _, f2) => (.fail, f2)
      | r => r)
    | (.con _ _, f1) => (.fail, f1)
    | r => r) := by
  rw [ev, if_neg (by omega), h.ex]; simp only [hk]; rfl
theorem ev_5r (h : Pd1 P d a ls x) (hk : x.kind = 5) : ev P (n + 1) (f + 1) (.prt d a ls) = (match ev P n f (kidT d ls x 0) with
    | (.num m, f1) => ev P n f1 (kidT d ls x 2)
    | (.con c ps, f1) => if c = x.num ∧ (ps.length : Int) = x.bind then ev P n f1 (.prt d (x.kids[1]?.getD 0).toNat (ls ++ ps)) else ev P n f1 (kidT d ls x 2)
    | r => r) := by
  rw [ev, if_neg (by omega), h.ex]; simp only [hk]; rfl
end
theorem Rc.fin0 {z : Nat} {A : Nat → Prop} {W wr : World} {u0 u1 u2 : Value} (hkp : Ka (Zz z) W wr) (hrb : Bx 66 wr (W.heap.size + 1) #[u0, u1, u2]) (hzW : z < W.heap.size) {zc : Array Value} (hb : Bx 63 wr z zc) {rv : Value} {ps : List Th} (hr : RLs (orR A (W.heap.size + 1)) wr rv ps) (v0 v1 v2 : Value) :
    Bx 66 (Go.Proofs.YtjamknejllbmkaaGreatDoor.st3 wr (W.heap.size + 1) v0 v1 v2) (W.heap.size + 1) #[v0, v1, v2] ∧ Bx 63 (Go.Proofs.YtjamknejllbmkaaGreatDoor.st3 wr (W.heap.size + 1) v0 v1 v2) z zc ∧ Ka (Zz z) W (Go.Proofs.YtjamknejllbmkaaGreatDoor.st3 wr (W.heap.size + 1) v0 v1 v2) ∧ RLs A (Go.Proofs.YtjamknejllbmkaaGreatDoor.st3 wr (W.heap.size + 1) v0 v1 v2) rv ps := by
  refine ⟨hrb.st3 v0 v1 v2, ((hb.other 0 _ (by omega)).other 1 _ (by omega)).other 2 _ (by omega), ?_, hr.st3 v0 v1 v2⟩
  have hf : ∀ (i : Nat) (u : Value) (U : World), Ka (Zz z) W U → Ka (Zz z) W (U.setCell ⟨W.heap.size + 1, i, none⟩ u) := fun i u U hU =>
    ⟨hU.os, hU.tape, hU.output, by simpa using hU.size, fun k hk hna => (Below.heap_setCell U _ _ k (fun e => by have h5 : k = W.heap.size + 1 := e; omega)).trans (hU.block k hk hna)⟩
  exact hf 2 _ _ (hf 1 _ _ (hf 0 _ _ hkp))
theorem RLs.old {A : Nat → Prop} {W : World} {v : Value} {ls : List Th} (h : RLs A W v ls) : RLs (fun k => A k ∨ W.heap.size ≤ k) W v ls := h.avoid fun k hk => hk
theorem RTh.old {A : Nat → Prop} {W : World} {us : List Value} {t : Th} (h : RTh A W us t) : RTh (fun k => A k ∨ W.heap.size ≤ k) W us t := h.avoid fun k hk => hk
theorem RGr.low {A : Nat → Prop} {B : Nat} {W : World} {v : Value} {ts : List Th} (h : RGr A B W v ts) : ∀ k, orO A v k → A k ∨ B ≤ k := by
  rintro k (hk | hk)
  · exact Or.inl hk
  · obtain ⟨us, h1, _⟩ := h
    exact Or.inr (World.ownsRow.lt h1 k hk).1
/-- A row that lay before, beside an own one that grows. -/
theorem RLs.by {A : Nat → Prop} {B : Nat} {W W' : World} {v lv : Value} {ts ls : List Th} (hG : RGr A B W' v ts) (h : RLs A W lv ls) (hb : Below B W W') (hB : B = W.heap.size) : RLs (orO A v) W' lv ls := by
  subst hB
  exact (h.old.kp (Ka.of_below hb)).avoid fun k hk => Or.inl (hG.low k hk)
theorem RTh.by {A : Nat → Prop} {B : Nat} {W W' : World} {v : Value} {us : List Value} {ts : List Th} {t : Th} (hG : RGr A B W' v ts) (h : RTh A W us t) (hb : Below B W W') (hB : B = W.heap.size) : RTh (orO A v) W' us t := by
  subst hB
  exact (h.old.kp (Ka.of_below hb)).avoid fun k hk => Or.inl (hG.low k hk)
theorem celsR {W : World} {R : Nat} {v0 v1 v2 : Value} (h : Bx 66 W R #[v0, v1, v2]) : R < W.heap.size ∧ (W.cell? ⟨R, 0, none⟩ = some v0 ∧ W.cell? ⟨R, 1, none⟩ = some v1 ∧ W.cell? ⟨R, 2, none⟩ = some v2) ∧ W.frozen? ⟨R, 0, none⟩ = false ∧ W.frozen? ⟨R, 1, none⟩ = false ∧ W.frozen? ⟨R, 2, none⟩ = false :=
  ⟨h.lt, ⟨h.cell 0 _ rfl, h.cell 1 _ rfl, h.cell 2 _ rfl⟩, h.frozen 0, h.frozen 1, h.frozen 2⟩

set_option maxHeartbeats 8000000 in
set_option maxRecDepth 100000 in
theorem rv_num {W0 : World} {gp : Option Addr} {P : List Df} {cp z n : Nat} (hEv : RvSaid W0 gp P cp z n) (f : Nat) (A : Nat → Prop) (W : World) (d a : Nat) (ls : List Th) (x : Ex) (gl : Option Addr) (cl : Nat) (hf : f ≤ n) (hfb : f ≤ 100000) (hs : Rs W0 gp P cp z W (f + 1)) (hz : A z) (hA : ∀ k, A k → k < W.heap.size)
    (hx : Pd1 P d a ls x) (hwf : Wf P (.prt d a ls)) (hl : RLs A W (.slice gl ls.length cl) ls) (hk : x.kind = 0) :
    Calls Tryz.prog 19 #[.pointer (some ⟨z, 0, none⟩), thV d a (.slice gl ls.length cl)] W fun e W' => RvQ gp P cp z A W (ev P (n + 1) (f + 1) (.prt d a ls)) e W' := by
  have HX : Hid (Pd1 P d a ls x ∧ pmay P = true ∧ Wf P (.prt d a ls)) := ⟨hx, hs.prg.may, hwf⟩
  have HS := hid hs
  have HA : Hid (A z ∧ (∀ k, A k → k < W.heap.size) ∧ f ≤ n) := ⟨hz, hA, hf⟩
  have HL := hid hl
  obtain ⟨df, hdf, hbx, hb24, hab⟩ := hx.df
  obtain ⟨pb, po, bg, bc, hgp, hpb0, pc1, _, hbd⟩ := hs.prg.body (Below.refl _ _) hdf
  have hpb : pb < W.heap.size := Nat.lt_of_lt_of_le hpb0 hs.low.size
  have pc1 := (hs.low.cell (p := ⟨pb, po + d * 2 + 1, none⟩) hpb0).trans pc1
  obtain ⟨bk, o, nb, cb, gk, ck, ebv, han, hbk0, _, hx0, hx1, hx2, hx3, hx4⟩ := hbd.part (Below.refl _ _) hx.body
  have hbk : bk < W.heap.size := Nat.lt_of_lt_of_le hbk0 hs.low.size
  have hx0 := (hs.low.cell (p := ⟨bk, o + a * 4, none⟩) hbk0).trans hx0
  have hx1 := (hs.low.cell (p := ⟨bk, o + a * 4 + 1, none⟩) hbk0).trans hx1
  have hx2 := (hs.low.cell (p := ⟨bk, o + a * 4 + 2, none⟩) hbk0).trans hx2
  have hx3 := (hs.low.cell (p := ⟨bk, o + a * 4 + 3, none⟩) hbk0).trans hx3
  rw [ebv] at pc1
  have hdl : d < P.length := (List.getElem?_eq_some_iff.1 hdf).1
  have hd0 : (0 : Int) ≤ (d : Int) := by omega
  have hdl' : (d : Int) < (P.length : Int) := by omega
  have han' : (a : Int) < (nb : Int) := by omega
  have ha0 : (0 : Int) ≤ (a : Int) := by omega
  have hzz := hs.lt
  have hzb : bk ≠ z := by have := hs.z0; omega
  have hzp : pb ≠ z := by have := hs.z0; omega
  have z1 : W.cell? ⟨z, 1, none⟩ = some (.int .i64 ((f : Int) + 1)) := hs.box.cell 1 _ (by show some (Value.int .i64 ((f + 1 : Nat) : Int)) = _; rw [show ((f + 1 : Nat) : Int) = (f : Int) + 1 by omega])
  have zf := hs.box.frozen 1
  have f0' : ((f : Int) + 1 == 0) = false := by simp; omega
  have fb : (f : Int) ≤ 100000 := by omega
  have fb0 : (0 : Int) ≤ (f : Int) := by omega
  obtain ⟨nm, hnm⟩ : ∃ nm, x.num = nm := ⟨_, rfl⟩
  obtain ⟨bn, hbn⟩ : ∃ bn, x.bind = bn := ⟨_, rfl⟩
  obtain ⟨nk, hnk⟩ : ∃ nk, x.kids.length = nk := ⟨_, rfl⟩
  obtain ⟨pn, hpn⟩ : ∃ pn, P.length = pn := ⟨_, rfl⟩
  obtain ⟨ml, hml⟩ : ∃ ml, ls.length = ml := ⟨_, rfl⟩
  rw [hk] at hx0
  rw [hnm] at hx1
  rw [hbn] at hx2
  rw [hnk] at hx3
  rw [hpn] at hdl'
  obtain ⟨r0, hr0⟩ : ∃ r, ev P (n + 1) (f + 1) (.prt d a ls) = r := ⟨_, rfl⟩
  rw [hr0, hml]
  have HN : Hid (x.num = nm ∧ x.bind = bn ∧ x.kids.length = nk ∧ x.kind = 0 ∧ P.length = pn ∧ ls.length = ml) := ⟨hnm, hbn, hnk, hk, hpn, hml⟩
  have HR0 := hid hr0
  have HEv := hid hEv
  have HX4 : Hid (Nums W0 gk x.kids) := hx4
  have HGP := hid hgp
  subst hgp
  have hnk3 : nk ≤ 3 := by have h := hx.ok; unfold Ex.ok okE at h; rw [hk, hnk] at h; simp at h; omega
  clear hx hs hz hA hf hbd hl hk hnm hbn hnk hr0 hEv hwf hx4 hfb hdf hbx hb24 hab hpb0 ebv hbk0 hdl hpn hml
  go_enter Tryz.func19, Tryz.ntmps19
  go_wp2_with fail
  have HUF := u_facts HS.out #[.bool false, .string ⟨#[]⟩, .int .i64 (d : Int), .int .i64 (a : Int), .slice gl ml cl] #[.int .i64 0, .int .i64 0, .slice none 0 0]
  refine grabW (fun U => Hid (Ka (Zz z) W U) ∧ Hid (Rs W0 (some ⟨pb, po, none⟩) P cp z U f) ∧ Hid (Bx 69 U W.heap.size #[.bool false, .string ⟨#[]⟩, .int .i64 (d : Int), .int .i64 (a : Int), .slice gl ml cl]) ∧ Hid (Bx 66 U (W.heap.size + 1) #[.int .i64 0, .int .i64 0, .slice none 0 0])) HUF (fun U hU => ?_)
  obtain ⟨HK, HRS, HT, HR⟩ := hU
  clear HUF z1 zf f0' fb fb0
  have hall : ∀ V : World, Below U.heap.size U V → Below U.heap.size U V ∧ V.cell? ⟨z, 0, none⟩ = some (.slice (some ⟨pb, po, none⟩) pn cp) ∧ V.cell? ⟨pb, po + d * 2 + 1, none⟩ = some (.slice (some ⟨bk, o, none⟩) nb cb) ∧ V.cell? ⟨bk, o + a * 4, none⟩ = some (.int .i64 0) ∧ V.cell? ⟨bk, o + a * 4 + 1, none⟩ = some (.int .i64 nm) ∧ V.cell? ⟨bk, o + a * 4 + 2, none⟩ = some (.int .i64 bn) ∧ V.cell? ⟨bk, o + a * 4 + 3, none⟩ = some (.slice gk nk ck)
      ∧ V.cell? ⟨W.heap.size, 2, none⟩ = some (.int .i64 (d : Int)) ∧ V.cell? ⟨W.heap.size, 3, none⟩ = some (.int .i64 (a : Int)) := by
    intro V h
    have hbkU : bk < U.heap.size := Nat.lt_of_lt_of_le hbk HK.out.size
    have hpbU : pb < U.heap.size := Nat.lt_of_lt_of_le hpb HK.out.size
    have k0 : U.cell? ⟨z, 0, none⟩ = some (.slice (some ⟨pb, po, none⟩) pn cp) := by have h := HRS.out.box.cell 0 _ rfl; rw [← HN.out.2.2.2.2.1]; exact h
    exact ⟨h, (h.cell (p := ⟨z, 0, none⟩) HRS.out.lt).trans k0, (h.cell (p := ⟨pb, po + d * 2 + 1, none⟩) hpbU).trans ((HK.out.cell hpb hzp).trans pc1), (h.cell (p := ⟨bk, o + a * 4, none⟩) hbkU).trans ((HK.out.cell hbk hzb).trans hx0), (h.cell (p := ⟨bk, o + a * 4 + 1, none⟩) hbkU).trans ((HK.out.cell hbk hzb).trans hx1),
      (h.cell (p := ⟨bk, o + a * 4 + 2, none⟩) hbkU).trans ((HK.out.cell hbk hzb).trans hx2), (h.cell (p := ⟨bk, o + a * 4 + 3, none⟩) hbkU).trans ((HK.out.cell hbk hzb).trans hx3), (h.cell (p := ⟨W.heap.size, 2, none⟩) HT.out.lt).trans (HT.out.cell 2 _ rfl), (h.cell (p := ⟨W.heap.size, 3, none⟩) HT.out.lt).trans (HT.out.cell 3 _ rfl)⟩
  have HALL := hid hall
  have HBU : Hid (Below U.heap.size U U) := Below.refl _ _
  clear hall pc1 hx0 hx1 hx2 hx3
  obtain ⟨_, e0, e1, e2, e3, e4, e5, e6, e7⟩ := HALL.out U HBU.out
  go_region_held3 (fun V => Below U.heap.size U V ∧ V.cell? ⟨z, 0, none⟩ = some (.slice (some ⟨pb, po, none⟩) pn cp) ∧ V.cell? ⟨pb, po + d * 2 + 1, none⟩ = some (.slice (some ⟨bk, o, none⟩) nb cb) ∧ V.cell? ⟨bk, o + a * 4, none⟩ = some (.int .i64 0) ∧ V.cell? ⟨bk, o + a * 4 + 1, none⟩ = some (.int .i64 nm) ∧ V.cell? ⟨bk, o + a * 4 + 2, none⟩ = some (.int .i64 bn) ∧ V.cell? ⟨bk, o + a * 4 + 3, none⟩ = some (.slice gk nk ck)
      ∧ V.cell? ⟨W.heap.size, 2, none⟩ = some (.int .i64 (d : Int)) ∧ V.cell? ⟨W.heap.size, 3, none⟩ = some (.int .i64 (a : Int)))
    (exact HALL.out _ (by repeat (first | exact HBU.out | (with_reducible refine Below.drew ?_) | (with_reducible refine Below.alloc ?_ (Nat.le_refl _) _)))) (fail)
  clear e0 e1 e2 e3 e4 e5 e6 e7 HALL HBU
  obtain ⟨X, hX⟩ : ∃ X, U.heap.size = X := ⟨_, rfl⟩
  have hWX : W.heap.size + 1 < X := by have := HR.out.lt; omega
  refine grabE (fun V => Hid (Below U.heap.size U V) ∧ Hid (Bx 55 V X #[.int .i64 0, .int .i64 nm, .int .i64 bn, .slice gk nk ck])) ⟨((Below.refl _ U).alloc (Nat.le_refl _) _).drew, by rw [← hX]; exact Bx.newd 55 U _⟩ (fun V hV => ?_)
  obtain ⟨HUV, HXB⟩ := hV
  have HRV : Hid (Rs W0 (some ⟨pb, po, none⟩) P cp z V f) := HRS.out.next HUV.out
  have HKV : Hid (Ka (Zz z) W V) := HK.out.next (Ka.of_below HUV.out)
  have HTV : Hid (Bx 69 V W.heap.size #[.bool false, .string ⟨#[]⟩, .int .i64 (d : Int), .int .i64 (a : Int), .slice gl ml cl]) := HT.out.next HUV.out
  have HRBV : Hid (Bx 66 V (W.heap.size + 1) #[.int .i64 0, .int .i64 0, .slice none 0 0]) := HR.out.next HUV.out
  have HZW : Hid (z < W.heap.size ∧ W.heap.size < X) := ⟨hzz, by omega⟩
  have HLV : Hid (RLs (orR A (W.heap.size + 1)) V (.slice gl ml cl) ls) := by
    have h := HL.out
    rw [HN.out.2.2.2.2.2] at h
    refine (h.avoid (B := orR A (W.heap.size + 1)) ?_).kp (HKV.out.mono fun k _ e => by have e' : k = z := e; subst e'; exact Or.inl HA.out.1)
    rintro k (hk | hk)
    · exact Or.inl hk
    · right; omega
  have HKD : Hid (Calls Tryz.prog 35 #[thV d a (.slice gl ml cl), .slice gk nk ck] V fun e w' => ∃ g c, e = .returned (.slice g nk c) ∧ RLs (orR A (W.heap.size + 1)) w' (.slice g nk c) (kidsT d ls x) ∧ Below V.heap.size V w') := by
    have h := rkids_at (A := orR A (W.heap.size + 1)) (W := V) d a gl cl ls x.kids gk ck (by
      rintro k (hk | hk)
      · exact Nat.lt_of_lt_of_le (HA.out.2.1 k hk) HKV.out.size
      · rw [hk]; exact HRBV.out.lt) (by rw [HN.out.2.2.2.2.2]; exact HLV.out) (HX4.out.on HRV.out.low) (fun k hk => by
        obtain ⟨i, hi⟩ := List.getElem?_of_mem hk
        exact (HX.out.1.kid i k hi).1) (by rw [HN.out.2.2.1]; exact hnk3)
    rw [HN.out.2.2.1, HN.out.2.2.2.2.2] at h
    exact h
  have t0 : V.cell? ⟨W.heap.size, 0, none⟩ = some (.bool false) := HTV.out.cell 0 _ rfl
  have t1 : V.cell? ⟨W.heap.size, 1, none⟩ = some (.string ⟨#[]⟩) := HTV.out.cell 1 _ rfl
  have t2 : V.cell? ⟨W.heap.size, 2, none⟩ = some (.int .i64 (d : Int)) := HTV.out.cell 2 _ rfl
  have t3 : V.cell? ⟨W.heap.size, 3, none⟩ = some (.int .i64 (a : Int)) := HTV.out.cell 3 _ rfl
  have t4 : V.cell? ⟨W.heap.size, 4, none⟩ = some (.slice gl ml cl) := HTV.out.cell 4 _ rfl
  have x3 : V.cell? ⟨X, 3, none⟩ = some (.slice gk nk ck) := HXB.out.cell 3 _ rfl
  rw [hX]
  clear HK HRS HT HR HUV hX hbk hpb hzb hzp
  go_wp2_with fail
  refine HKD.out.mono ?_
  rintro e w1 ⟨gq, cq, rfl, hkv, hb1⟩
  have HC1 : Hid (Rc z A W #[.bool false, .string ⟨#[]⟩, .int .i64 (d : Int), .int .i64 (a : Int), .slice gl ml cl] #[.int .i64 0, .int .i64 nm, .int .i64 bn, .slice gk nk ck] X (.slice gl ml cl) ls (.slice gq nk cq) (kidsT d ls x) w1) := ⟨HKV.out.next (Ka.of_below hb1), HTV.out.next hb1, HRBV.out.next hb1, HXB.out.next hb1, HLV.out.kp (Ka.of_below hb1), hkv⟩
  have HRS1 : Hid (Rs W0 (some ⟨pb, po, none⟩) P cp z w1 f) := HRV.out.next hb1
  have t4 : w1.cell? ⟨W.heap.size, 4, none⟩ = some (.slice gl ml cl) := HC1.out.tb.cell 4 _ rfl
  have t2 : w1.cell? ⟨W.heap.size, 2, none⟩ = some (.int .i64 (d : Int)) := HC1.out.tb.cell 2 _ rfl
  have x0 : w1.cell? ⟨X, 0, none⟩ = some (.int .i64 0) := HC1.out.xb.cell 0 _ rfl
  have x1 : w1.cell? ⟨X, 1, none⟩ = some (.int .i64 nm) := HC1.out.xb.cell 1 _ rfl
  have x2 : w1.cell? ⟨X, 2, none⟩ = some (.int .i64 bn) := HC1.out.xb.cell 2 _ rfl
  have x3 : w1.cell? ⟨X, 3, none⟩ = some (.slice gk nk ck) := HC1.out.xb.cell 3 _ rfl
  obtain ⟨rl, ⟨r0', r1', r2'⟩, fz0, fz1, fz2⟩ := celsR HC1.out.rb
  clear t0 t1 t3 hkv hb1 HKD HKV HTV HRBV HXB HLV HRV
  go_wp2_with fail
  refine grabPost (fun W9 => Bx 66 W9 (W.heap.size + 1) #[.int .i64 1, .int .i64 nm, .slice none 0 0] ∧ Bx 63 W9 z (nmC (some ⟨pb, po, none⟩) P.length cp (f : Int) 0) ∧ Ka (Zz z) W W9 ∧ RLs A W9 (.slice none 0 0) []) (Rc.fin HC1.out HZW.out.1 HRS1.out.box (RLs.nil _ _) _ _ _) (fun W9 h9 => ?_)
  obtain ⟨ql, ⟨q0, q1, q2⟩, _⟩ := celsR h9.1
  refine bodyPost_ret (v := hV 1 nm (.slice none 0 0)) (by simp [results, Tryz.results19, go_sem, q0, q1, q2]) rfl ?_
  exact RvQ.mk (o := .num nm) (f := f) (by rw [← HR0.out]; rw [ev_0 HX.out.1 HN.out.2.2.2.1, HN.out.1]) rfl rfl rfl rfl h9.2
end Go.Proofs.YtjamknejllbmkaaGreatDoor

namespace Go.Proofs.YtjamknejllbmkaaGreatDoor
open Go.RowKit
set_option linter.unusedVariables false
attribute [local go_sem ↓] Go.wp_at_zero Go.wp_at_succ

set_option maxHeartbeats 8000000 in
set_option maxRecDepth 100000 in
theorem rv_con {W0 : World} {gp : Option Addr} {P : List Df} {cp z n : Nat} (hEv : RvSaid W0 gp P cp z n) (f : Nat) (A : Nat → Prop) (W : World) (d a : Nat) (ls : List Th) (x : Ex) (gl : Option Addr) (cl : Nat) (hf : f ≤ n) (hfb : f ≤ 100000) (hs : Rs W0 gp P cp z W (f + 1)) (hz : A z) (hA : ∀ k, A k → k < W.heap.size)
    (hx : Pd1 P d a ls x) (hwf : Wf P (.prt d a ls)) (hl : RLs A W (.slice gl ls.length cl) ls) (hk : x.kind = 3) :
    Calls Tryz.prog 19 #[.pointer (some ⟨z, 0, none⟩), thV d a (.slice gl ls.length cl)] W fun e W' => RvQ gp P cp z A W (ev P (n + 1) (f + 1) (.prt d a ls)) e W' := by
  have HX : Hid (Pd1 P d a ls x ∧ pmay P = true ∧ Wf P (.prt d a ls)) := ⟨hx, hs.prg.may, hwf⟩
  have HS := hid hs
  have HA : Hid (A z ∧ (∀ k, A k → k < W.heap.size) ∧ f ≤ n) := ⟨hz, hA, hf⟩
  have HL := hid hl
  obtain ⟨df, hdf, hbx, hb24, hab⟩ := hx.df
  obtain ⟨pb, po, bg, bc, hgp, hpb0, pc1, _, hbd⟩ := hs.prg.body (Below.refl _ _) hdf
  have hpb : pb < W.heap.size := Nat.lt_of_lt_of_le hpb0 hs.low.size
  have pc1 := (hs.low.cell (p := ⟨pb, po + d * 2 + 1, none⟩) hpb0).trans pc1
  obtain ⟨bk, o, nb, cb, gk, ck, ebv, han, hbk0, _, hx0, hx1, hx2, hx3, hx4⟩ := hbd.part (Below.refl _ _) hx.body
  have hbk : bk < W.heap.size := Nat.lt_of_lt_of_le hbk0 hs.low.size
  have hx0 := (hs.low.cell (p := ⟨bk, o + a * 4, none⟩) hbk0).trans hx0
  have hx1 := (hs.low.cell (p := ⟨bk, o + a * 4 + 1, none⟩) hbk0).trans hx1
  have hx2 := (hs.low.cell (p := ⟨bk, o + a * 4 + 2, none⟩) hbk0).trans hx2
  have hx3 := (hs.low.cell (p := ⟨bk, o + a * 4 + 3, none⟩) hbk0).trans hx3
  rw [ebv] at pc1
  have hdl : d < P.length := (List.getElem?_eq_some_iff.1 hdf).1
  have hd0 : (0 : Int) ≤ (d : Int) := by omega
  have hdl' : (d : Int) < (P.length : Int) := by omega
  have han' : (a : Int) < (nb : Int) := by omega
  have ha0 : (0 : Int) ≤ (a : Int) := by omega
  have hzz := hs.lt
  have hzb : bk ≠ z := by have := hs.z0; omega
  have hzp : pb ≠ z := by have := hs.z0; omega
  have z1 : W.cell? ⟨z, 1, none⟩ = some (.int .i64 ((f : Int) + 1)) := hs.box.cell 1 _ (by show some (Value.int .i64 ((f + 1 : Nat) : Int)) = _; rw [show ((f + 1 : Nat) : Int) = (f : Int) + 1 by omega])
  have zf := hs.box.frozen 1
  have f0' : ((f : Int) + 1 == 0) = false := by simp; omega
  have fb : (f : Int) ≤ 100000 := by omega
  have fb0 : (0 : Int) ≤ (f : Int) := by omega
  obtain ⟨nm, hnm⟩ : ∃ nm, x.num = nm := ⟨_, rfl⟩
  obtain ⟨bn, hbn⟩ : ∃ bn, x.bind = bn := ⟨_, rfl⟩
  obtain ⟨nk, hnk⟩ : ∃ nk, x.kids.length = nk := ⟨_, rfl⟩
  obtain ⟨pn, hpn⟩ : ∃ pn, P.length = pn := ⟨_, rfl⟩
  obtain ⟨ml, hml⟩ : ∃ ml, ls.length = ml := ⟨_, rfl⟩
  rw [hk] at hx0
  rw [hnm] at hx1
  rw [hbn] at hx2
  rw [hnk] at hx3
  rw [hpn] at hdl'
  obtain ⟨r0, hr0⟩ : ∃ r, ev P (n + 1) (f + 1) (.prt d a ls) = r := ⟨_, rfl⟩
  rw [hr0, hml]
  have HN : Hid (x.num = nm ∧ x.bind = bn ∧ x.kids.length = nk ∧ x.kind = 3 ∧ P.length = pn ∧ ls.length = ml) := ⟨hnm, hbn, hnk, hk, hpn, hml⟩
  have HR0 := hid hr0
  have HEv := hid hEv
  have HX4 : Hid (Nums W0 gk x.kids) := hx4
  have HGP := hid hgp
  subst hgp
  have hnk3 : nk ≤ 3 := by have h := hx.ok; unfold Ex.ok okE at h; rw [hk, hnk] at h; simp at h; omega
  clear hx hs hz hA hf hbd hl hk hnm hbn hnk hr0 hEv hwf hx4 hfb hdf hbx hb24 hab hpb0 ebv hbk0 hdl hpn hml
  go_enter Tryz.func19, Tryz.ntmps19
  go_wp2_with fail
  have HUF := u_facts HS.out #[.bool false, .string ⟨#[]⟩, .int .i64 (d : Int), .int .i64 (a : Int), .slice gl ml cl] #[.int .i64 0, .int .i64 0, .slice none 0 0]
  refine grabW (fun U => Hid (Ka (Zz z) W U) ∧ Hid (Rs W0 (some ⟨pb, po, none⟩) P cp z U f) ∧ Hid (Bx 69 U W.heap.size #[.bool false, .string ⟨#[]⟩, .int .i64 (d : Int), .int .i64 (a : Int), .slice gl ml cl]) ∧ Hid (Bx 66 U (W.heap.size + 1) #[.int .i64 0, .int .i64 0, .slice none 0 0])) HUF (fun U hU => ?_)
  obtain ⟨HK, HRS, HT, HR⟩ := hU
  clear HUF z1 zf f0' fb fb0
  have hall : ∀ V : World, Below U.heap.size U V → Below U.heap.size U V ∧ V.cell? ⟨z, 0, none⟩ = some (.slice (some ⟨pb, po, none⟩) pn cp) ∧ V.cell? ⟨pb, po + d * 2 + 1, none⟩ = some (.slice (some ⟨bk, o, none⟩) nb cb) ∧ V.cell? ⟨bk, o + a * 4, none⟩ = some (.int .i64 3) ∧ V.cell? ⟨bk, o + a * 4 + 1, none⟩ = some (.int .i64 nm) ∧ V.cell? ⟨bk, o + a * 4 + 2, none⟩ = some (.int .i64 bn) ∧ V.cell? ⟨bk, o + a * 4 + 3, none⟩ = some (.slice gk nk ck)
      ∧ V.cell? ⟨W.heap.size, 2, none⟩ = some (.int .i64 (d : Int)) ∧ V.cell? ⟨W.heap.size, 3, none⟩ = some (.int .i64 (a : Int)) := by
    intro V h
    have hbkU : bk < U.heap.size := Nat.lt_of_lt_of_le hbk HK.out.size
    have hpbU : pb < U.heap.size := Nat.lt_of_lt_of_le hpb HK.out.size
    have k0 : U.cell? ⟨z, 0, none⟩ = some (.slice (some ⟨pb, po, none⟩) pn cp) := by have h := HRS.out.box.cell 0 _ rfl; rw [← HN.out.2.2.2.2.1]; exact h
    exact ⟨h, (h.cell (p := ⟨z, 0, none⟩) HRS.out.lt).trans k0, (h.cell (p := ⟨pb, po + d * 2 + 1, none⟩) hpbU).trans ((HK.out.cell hpb hzp).trans pc1), (h.cell (p := ⟨bk, o + a * 4, none⟩) hbkU).trans ((HK.out.cell hbk hzb).trans hx0), (h.cell (p := ⟨bk, o + a * 4 + 1, none⟩) hbkU).trans ((HK.out.cell hbk hzb).trans hx1),
      (h.cell (p := ⟨bk, o + a * 4 + 2, none⟩) hbkU).trans ((HK.out.cell hbk hzb).trans hx2), (h.cell (p := ⟨bk, o + a * 4 + 3, none⟩) hbkU).trans ((HK.out.cell hbk hzb).trans hx3), (h.cell (p := ⟨W.heap.size, 2, none⟩) HT.out.lt).trans (HT.out.cell 2 _ rfl), (h.cell (p := ⟨W.heap.size, 3, none⟩) HT.out.lt).trans (HT.out.cell 3 _ rfl)⟩
  have HALL := hid hall
  have HBU : Hid (Below U.heap.size U U) := Below.refl _ _
  clear hall pc1 hx0 hx1 hx2 hx3
  obtain ⟨_, e0, e1, e2, e3, e4, e5, e6, e7⟩ := HALL.out U HBU.out
  go_region_held3 (fun V => Below U.heap.size U V ∧ V.cell? ⟨z, 0, none⟩ = some (.slice (some ⟨pb, po, none⟩) pn cp) ∧ V.cell? ⟨pb, po + d * 2 + 1, none⟩ = some (.slice (some ⟨bk, o, none⟩) nb cb) ∧ V.cell? ⟨bk, o + a * 4, none⟩ = some (.int .i64 3) ∧ V.cell? ⟨bk, o + a * 4 + 1, none⟩ = some (.int .i64 nm) ∧ V.cell? ⟨bk, o + a * 4 + 2, none⟩ = some (.int .i64 bn) ∧ V.cell? ⟨bk, o + a * 4 + 3, none⟩ = some (.slice gk nk ck)
      ∧ V.cell? ⟨W.heap.size, 2, none⟩ = some (.int .i64 (d : Int)) ∧ V.cell? ⟨W.heap.size, 3, none⟩ = some (.int .i64 (a : Int)))
    (exact HALL.out _ (by repeat (first | exact HBU.out | (with_reducible refine Below.drew ?_) | (with_reducible refine Below.alloc ?_ (Nat.le_refl _) _)))) (fail)
  clear e0 e1 e2 e3 e4 e5 e6 e7 HALL HBU
  obtain ⟨X, hX⟩ : ∃ X, U.heap.size = X := ⟨_, rfl⟩
  have hWX : W.heap.size + 1 < X := by have := HR.out.lt; omega
  refine grabE (fun V => Hid (Below U.heap.size U V) ∧ Hid (Bx 55 V X #[.int .i64 3, .int .i64 nm, .int .i64 bn, .slice gk nk ck])) ⟨((Below.refl _ U).alloc (Nat.le_refl _) _).drew, by rw [← hX]; exact Bx.newd 55 U _⟩ (fun V hV => ?_)
  obtain ⟨HUV, HXB⟩ := hV
  have HRV : Hid (Rs W0 (some ⟨pb, po, none⟩) P cp z V f) := HRS.out.next HUV.out
  have HKV : Hid (Ka (Zz z) W V) := HK.out.next (Ka.of_below HUV.out)
  have HTV : Hid (Bx 69 V W.heap.size #[.bool false, .string ⟨#[]⟩, .int .i64 (d : Int), .int .i64 (a : Int), .slice gl ml cl]) := HT.out.next HUV.out
  have HRBV : Hid (Bx 66 V (W.heap.size + 1) #[.int .i64 0, .int .i64 0, .slice none 0 0]) := HR.out.next HUV.out
  have HZW : Hid (z < W.heap.size ∧ W.heap.size < X) := ⟨hzz, by omega⟩
  have HLV : Hid (RLs (orR A (W.heap.size + 1)) V (.slice gl ml cl) ls) := by
    have h := HL.out
    rw [HN.out.2.2.2.2.2] at h
    refine (h.avoid (B := orR A (W.heap.size + 1)) ?_).kp (HKV.out.mono fun k _ e => by have e' : k = z := e; subst e'; exact Or.inl HA.out.1)
    rintro k (hk | hk)
    · exact Or.inl hk
    · right; omega
  have HKD : Hid (Calls Tryz.prog 35 #[thV d a (.slice gl ml cl), .slice gk nk ck] V fun e w' => ∃ g c, e = .returned (.slice g nk c) ∧ RLs (orR A (W.heap.size + 1)) w' (.slice g nk c) (kidsT d ls x) ∧ Below V.heap.size V w') := by
    have h := rkids_at (A := orR A (W.heap.size + 1)) (W := V) d a gl cl ls x.kids gk ck (by
      rintro k (hk | hk)
      · exact Nat.lt_of_lt_of_le (HA.out.2.1 k hk) HKV.out.size
      · rw [hk]; exact HRBV.out.lt) (by rw [HN.out.2.2.2.2.2]; exact HLV.out) (HX4.out.on HRV.out.low) (fun k hk => by
        obtain ⟨i, hi⟩ := List.getElem?_of_mem hk
        exact (HX.out.1.kid i k hi).1) (by rw [HN.out.2.2.1]; exact hnk3)
    rw [HN.out.2.2.1, HN.out.2.2.2.2.2] at h
    exact h
  have t0 : V.cell? ⟨W.heap.size, 0, none⟩ = some (.bool false) := HTV.out.cell 0 _ rfl
  have t1 : V.cell? ⟨W.heap.size, 1, none⟩ = some (.string ⟨#[]⟩) := HTV.out.cell 1 _ rfl
  have t2 : V.cell? ⟨W.heap.size, 2, none⟩ = some (.int .i64 (d : Int)) := HTV.out.cell 2 _ rfl
  have t3 : V.cell? ⟨W.heap.size, 3, none⟩ = some (.int .i64 (a : Int)) := HTV.out.cell 3 _ rfl
  have t4 : V.cell? ⟨W.heap.size, 4, none⟩ = some (.slice gl ml cl) := HTV.out.cell 4 _ rfl
  have x3 : V.cell? ⟨X, 3, none⟩ = some (.slice gk nk ck) := HXB.out.cell 3 _ rfl
  rw [hX]
  clear HK HRS HT HR HUV hX hbk hpb hzb hzp
  go_wp2_with fail
  refine HKD.out.mono ?_
  rintro e w1 ⟨gq, cq, rfl, hkv, hb1⟩
  have HC1 : Hid (Rc z A W #[.bool false, .string ⟨#[]⟩, .int .i64 (d : Int), .int .i64 (a : Int), .slice gl ml cl] #[.int .i64 3, .int .i64 nm, .int .i64 bn, .slice gk nk ck] X (.slice gl ml cl) ls (.slice gq nk cq) (kidsT d ls x) w1) := ⟨HKV.out.next (Ka.of_below hb1), HTV.out.next hb1, HRBV.out.next hb1, HXB.out.next hb1, HLV.out.kp (Ka.of_below hb1), hkv⟩
  have HRS1 : Hid (Rs W0 (some ⟨pb, po, none⟩) P cp z w1 f) := HRV.out.next hb1
  have t4 : w1.cell? ⟨W.heap.size, 4, none⟩ = some (.slice gl ml cl) := HC1.out.tb.cell 4 _ rfl
  have t2 : w1.cell? ⟨W.heap.size, 2, none⟩ = some (.int .i64 (d : Int)) := HC1.out.tb.cell 2 _ rfl
  have x0 : w1.cell? ⟨X, 0, none⟩ = some (.int .i64 3) := HC1.out.xb.cell 0 _ rfl
  have x1 : w1.cell? ⟨X, 1, none⟩ = some (.int .i64 nm) := HC1.out.xb.cell 1 _ rfl
  have x2 : w1.cell? ⟨X, 2, none⟩ = some (.int .i64 bn) := HC1.out.xb.cell 2 _ rfl
  have x3 : w1.cell? ⟨X, 3, none⟩ = some (.slice gk nk ck) := HC1.out.xb.cell 3 _ rfl
  obtain ⟨rl, ⟨r0', r1', r2'⟩, g0, g1, g2⟩ := celsR HC1.out.rb
  clear t0 t1 t3 hkv hb1 HKD HKV HTV HRBV HXB HLV HRV
  have hlen : (kidsT d ls x).length = nk := by unfold kidsT; rw [List.length_map]; exact HN.out.2.2.1
  go_wp2_with fail
  refine grabPost (fun W9 => Bx 66 W9 (W.heap.size + 1) #[.int .i64 2, .int .i64 nm, .slice gq nk cq] ∧ Bx 63 W9 z (nmC (some ⟨pb, po, none⟩) P.length cp (f : Int) 0) ∧ Ka (Zz z) W W9 ∧ RLs A W9 (.slice gq nk cq) (kidsT d ls x)) (Rc.fin HC1.out HZW.out.1 HRS1.out.box HC1.out.kv _ _ _) (fun W9 h9 => ?_)
  obtain ⟨ql, ⟨q0, q1, q2⟩, _⟩ := celsR h9.1
  refine bodyPost_ret (v := hV 2 nm (.slice gq nk cq)) (by simp [results, Tryz.results19, go_sem, q0, q1, q2]) rfl ?_
  exact RvQ.mk (o := .con nm (kidsT d ls x)) (f := f) (by rw [← HR0.out]; rw [ev_3 HX.out.1 HN.out.2.2.2.1, HN.out.1]) rfl rfl hlen rfl h9.2

set_option maxHeartbeats 8000000 in
set_option maxRecDepth 100000 in
theorem rv_err {W0 : World} {gp : Option Addr} {P : List Df} {cp z n : Nat} (hEv : RvSaid W0 gp P cp z n) (f : Nat) (A : Nat → Prop) (W : World) (d a : Nat) (ls : List Th) (x : Ex) (gl : Option Addr) (cl : Nat) (hf : f ≤ n) (hfb : f ≤ 100000) (hs : Rs W0 gp P cp z W (f + 1)) (hz : A z) (hA : ∀ k, A k → k < W.heap.size)
    (hx : Pd1 P d a ls x) (hwf : Wf P (.prt d a ls)) (hl : RLs A W (.slice gl ls.length cl) ls) (hk : x.kind = 7) :
    Calls Tryz.prog 19 #[.pointer (some ⟨z, 0, none⟩), thV d a (.slice gl ls.length cl)] W fun e W' => RvQ gp P cp z A W (ev P (n + 1) (f + 1) (.prt d a ls)) e W' := by
  have HX : Hid (Pd1 P d a ls x ∧ pmay P = true ∧ Wf P (.prt d a ls)) := ⟨hx, hs.prg.may, hwf⟩
  have HS := hid hs
  have HA : Hid (A z ∧ (∀ k, A k → k < W.heap.size) ∧ f ≤ n) := ⟨hz, hA, hf⟩
  have HL := hid hl
  obtain ⟨df, hdf, hbx, hb24, hab⟩ := hx.df
  obtain ⟨pb, po, bg, bc, hgp, hpb0, pc1, _, hbd⟩ := hs.prg.body (Below.refl _ _) hdf
  have hpb : pb < W.heap.size := Nat.lt_of_lt_of_le hpb0 hs.low.size
  have pc1 := (hs.low.cell (p := ⟨pb, po + d * 2 + 1, none⟩) hpb0).trans pc1
  obtain ⟨bk, o, nb, cb, gk, ck, ebv, han, hbk0, _, hx0, hx1, hx2, hx3, hx4⟩ := hbd.part (Below.refl _ _) hx.body
  have hbk : bk < W.heap.size := Nat.lt_of_lt_of_le hbk0 hs.low.size
  have hx0 := (hs.low.cell (p := ⟨bk, o + a * 4, none⟩) hbk0).trans hx0
  have hx1 := (hs.low.cell (p := ⟨bk, o + a * 4 + 1, none⟩) hbk0).trans hx1
  have hx2 := (hs.low.cell (p := ⟨bk, o + a * 4 + 2, none⟩) hbk0).trans hx2
  have hx3 := (hs.low.cell (p := ⟨bk, o + a * 4 + 3, none⟩) hbk0).trans hx3
  rw [ebv] at pc1
  have hdl : d < P.length := (List.getElem?_eq_some_iff.1 hdf).1
  have hd0 : (0 : Int) ≤ (d : Int) := by omega
  have hdl' : (d : Int) < (P.length : Int) := by omega
  have han' : (a : Int) < (nb : Int) := by omega
  have ha0 : (0 : Int) ≤ (a : Int) := by omega
  have hzz := hs.lt
  have hzb : bk ≠ z := by have := hs.z0; omega
  have hzp : pb ≠ z := by have := hs.z0; omega
  have z1 : W.cell? ⟨z, 1, none⟩ = some (.int .i64 ((f : Int) + 1)) := hs.box.cell 1 _ (by show some (Value.int .i64 ((f + 1 : Nat) : Int)) = _; rw [show ((f + 1 : Nat) : Int) = (f : Int) + 1 by omega])
  have zf := hs.box.frozen 1
  have f0' : ((f : Int) + 1 == 0) = false := by simp; omega
  have fb : (f : Int) ≤ 100000 := by omega
  have fb0 : (0 : Int) ≤ (f : Int) := by omega
  obtain ⟨nm, hnm⟩ : ∃ nm, x.num = nm := ⟨_, rfl⟩
  obtain ⟨bn, hbn⟩ : ∃ bn, x.bind = bn := ⟨_, rfl⟩
  obtain ⟨nk, hnk⟩ : ∃ nk, x.kids.length = nk := ⟨_, rfl⟩
  obtain ⟨pn, hpn⟩ : ∃ pn, P.length = pn := ⟨_, rfl⟩
  obtain ⟨ml, hml⟩ : ∃ ml, ls.length = ml := ⟨_, rfl⟩
  rw [hk] at hx0
  rw [hnm] at hx1
  rw [hbn] at hx2
  rw [hnk] at hx3
  rw [hpn] at hdl'
  obtain ⟨r0, hr0⟩ : ∃ r, ev P (n + 1) (f + 1) (.prt d a ls) = r := ⟨_, rfl⟩
  rw [hr0, hml]
  have HN : Hid (x.num = nm ∧ x.bind = bn ∧ x.kids.length = nk ∧ x.kind = 7 ∧ P.length = pn ∧ ls.length = ml) := ⟨hnm, hbn, hnk, hk, hpn, hml⟩
  have HR0 := hid hr0
  have HEv := hid hEv
  have HX4 : Hid (Nums W0 gk x.kids) := hx4
  have HGP := hid hgp
  subst hgp
  have hnk3 : nk ≤ 3 := by have h := hx.ok; unfold Ex.ok okE at h; rw [hk, hnk] at h; simp at h; omega
  clear hx hs hz hA hf hbd hl hk hnm hbn hnk hr0 hEv hwf hx4 hfb hdf hbx hb24 hab hpb0 ebv hbk0 hdl hpn hml
  go_enter Tryz.func19, Tryz.ntmps19
  go_wp2_with fail
  have HUF := u_facts HS.out #[.bool false, .string ⟨#[]⟩, .int .i64 (d : Int), .int .i64 (a : Int), .slice gl ml cl] #[.int .i64 0, .int .i64 0, .slice none 0 0]
  refine grabW (fun U => Hid (Ka (Zz z) W U) ∧ Hid (Rs W0 (some ⟨pb, po, none⟩) P cp z U f) ∧ Hid (Bx 69 U W.heap.size #[.bool false, .string ⟨#[]⟩, .int .i64 (d : Int), .int .i64 (a : Int), .slice gl ml cl]) ∧ Hid (Bx 66 U (W.heap.size + 1) #[.int .i64 0, .int .i64 0, .slice none 0 0])) HUF (fun U hU => ?_)
  obtain ⟨HK, HRS, HT, HR⟩ := hU
  clear HUF z1 zf f0' fb fb0
  have hall : ∀ V : World, Below U.heap.size U V → Below U.heap.size U V ∧ V.cell? ⟨z, 0, none⟩ = some (.slice (some ⟨pb, po, none⟩) pn cp) ∧ V.cell? ⟨pb, po + d * 2 + 1, none⟩ = some (.slice (some ⟨bk, o, none⟩) nb cb) ∧ V.cell? ⟨bk, o + a * 4, none⟩ = some (.int .i64 7) ∧ V.cell? ⟨bk, o + a * 4 + 1, none⟩ = some (.int .i64 nm) ∧ V.cell? ⟨bk, o + a * 4 + 2, none⟩ = some (.int .i64 bn) ∧ V.cell? ⟨bk, o + a * 4 + 3, none⟩ = some (.slice gk nk ck)
      ∧ V.cell? ⟨W.heap.size, 2, none⟩ = some (.int .i64 (d : Int)) ∧ V.cell? ⟨W.heap.size, 3, none⟩ = some (.int .i64 (a : Int)) := by
    intro V h
    have hbkU : bk < U.heap.size := Nat.lt_of_lt_of_le hbk HK.out.size
    have hpbU : pb < U.heap.size := Nat.lt_of_lt_of_le hpb HK.out.size
    have k0 : U.cell? ⟨z, 0, none⟩ = some (.slice (some ⟨pb, po, none⟩) pn cp) := by have h := HRS.out.box.cell 0 _ rfl; rw [← HN.out.2.2.2.2.1]; exact h
    exact ⟨h, (h.cell (p := ⟨z, 0, none⟩) HRS.out.lt).trans k0, (h.cell (p := ⟨pb, po + d * 2 + 1, none⟩) hpbU).trans ((HK.out.cell hpb hzp).trans pc1), (h.cell (p := ⟨bk, o + a * 4, none⟩) hbkU).trans ((HK.out.cell hbk hzb).trans hx0), (h.cell (p := ⟨bk, o + a * 4 + 1, none⟩) hbkU).trans ((HK.out.cell hbk hzb).trans hx1),
      (h.cell (p := ⟨bk, o + a * 4 + 2, none⟩) hbkU).trans ((HK.out.cell hbk hzb).trans hx2), (h.cell (p := ⟨bk, o + a * 4 + 3, none⟩) hbkU).trans ((HK.out.cell hbk hzb).trans hx3), (h.cell (p := ⟨W.heap.size, 2, none⟩) HT.out.lt).trans (HT.out.cell 2 _ rfl), (h.cell (p := ⟨W.heap.size, 3, none⟩) HT.out.lt).trans (HT.out.cell 3 _ rfl)⟩
  have HALL := hid hall
  have HBU : Hid (Below U.heap.size U U) := Below.refl _ _
  clear hall pc1 hx0 hx1 hx2 hx3
  obtain ⟨_, e0, e1, e2, e3, e4, e5, e6, e7⟩ := HALL.out U HBU.out
  go_region_held3 (fun V => Below U.heap.size U V ∧ V.cell? ⟨z, 0, none⟩ = some (.slice (some ⟨pb, po, none⟩) pn cp) ∧ V.cell? ⟨pb, po + d * 2 + 1, none⟩ = some (.slice (some ⟨bk, o, none⟩) nb cb) ∧ V.cell? ⟨bk, o + a * 4, none⟩ = some (.int .i64 7) ∧ V.cell? ⟨bk, o + a * 4 + 1, none⟩ = some (.int .i64 nm) ∧ V.cell? ⟨bk, o + a * 4 + 2, none⟩ = some (.int .i64 bn) ∧ V.cell? ⟨bk, o + a * 4 + 3, none⟩ = some (.slice gk nk ck)
      ∧ V.cell? ⟨W.heap.size, 2, none⟩ = some (.int .i64 (d : Int)) ∧ V.cell? ⟨W.heap.size, 3, none⟩ = some (.int .i64 (a : Int)))
    (exact HALL.out _ (by repeat (first | exact HBU.out | (with_reducible refine Below.drew ?_) | (with_reducible refine Below.alloc ?_ (Nat.le_refl _) _)))) (fail)
  clear e0 e1 e2 e3 e4 e5 e6 e7 HALL HBU
  obtain ⟨X, hX⟩ : ∃ X, U.heap.size = X := ⟨_, rfl⟩
  have hWX : W.heap.size + 1 < X := by have := HR.out.lt; omega
  refine grabE (fun V => Hid (Below U.heap.size U V) ∧ Hid (Bx 55 V X #[.int .i64 7, .int .i64 nm, .int .i64 bn, .slice gk nk ck])) ⟨((Below.refl _ U).alloc (Nat.le_refl _) _).drew, by rw [← hX]; exact Bx.newd 55 U _⟩ (fun V hV => ?_)
  obtain ⟨HUV, HXB⟩ := hV
  have HRV : Hid (Rs W0 (some ⟨pb, po, none⟩) P cp z V f) := HRS.out.next HUV.out
  have HKV : Hid (Ka (Zz z) W V) := HK.out.next (Ka.of_below HUV.out)
  have HTV : Hid (Bx 69 V W.heap.size #[.bool false, .string ⟨#[]⟩, .int .i64 (d : Int), .int .i64 (a : Int), .slice gl ml cl]) := HT.out.next HUV.out
  have HRBV : Hid (Bx 66 V (W.heap.size + 1) #[.int .i64 0, .int .i64 0, .slice none 0 0]) := HR.out.next HUV.out
  have HZW : Hid (z < W.heap.size ∧ W.heap.size < X) := ⟨hzz, by omega⟩
  have HLV : Hid (RLs (orR A (W.heap.size + 1)) V (.slice gl ml cl) ls) := by
    have h := HL.out
    rw [HN.out.2.2.2.2.2] at h
    refine (h.avoid (B := orR A (W.heap.size + 1)) ?_).kp (HKV.out.mono fun k _ e => by have e' : k = z := e; subst e'; exact Or.inl HA.out.1)
    rintro k (hk | hk)
    · exact Or.inl hk
    · right; omega
  have HKD : Hid (Calls Tryz.prog 35 #[thV d a (.slice gl ml cl), .slice gk nk ck] V fun e w' => ∃ g c, e = .returned (.slice g nk c) ∧ RLs (orR A (W.heap.size + 1)) w' (.slice g nk c) (kidsT d ls x) ∧ Below V.heap.size V w') := by
    have h := rkids_at (A := orR A (W.heap.size + 1)) (W := V) d a gl cl ls x.kids gk ck (by
      rintro k (hk | hk)
      · exact Nat.lt_of_lt_of_le (HA.out.2.1 k hk) HKV.out.size
      · rw [hk]; exact HRBV.out.lt) (by rw [HN.out.2.2.2.2.2]; exact HLV.out) (HX4.out.on HRV.out.low) (fun k hk => by
        obtain ⟨i, hi⟩ := List.getElem?_of_mem hk
        exact (HX.out.1.kid i k hi).1) (by rw [HN.out.2.2.1]; exact hnk3)
    rw [HN.out.2.2.1, HN.out.2.2.2.2.2] at h
    exact h
  have t0 : V.cell? ⟨W.heap.size, 0, none⟩ = some (.bool false) := HTV.out.cell 0 _ rfl
  have t1 : V.cell? ⟨W.heap.size, 1, none⟩ = some (.string ⟨#[]⟩) := HTV.out.cell 1 _ rfl
  have t2 : V.cell? ⟨W.heap.size, 2, none⟩ = some (.int .i64 (d : Int)) := HTV.out.cell 2 _ rfl
  have t3 : V.cell? ⟨W.heap.size, 3, none⟩ = some (.int .i64 (a : Int)) := HTV.out.cell 3 _ rfl
  have t4 : V.cell? ⟨W.heap.size, 4, none⟩ = some (.slice gl ml cl) := HTV.out.cell 4 _ rfl
  have x3 : V.cell? ⟨X, 3, none⟩ = some (.slice gk nk ck) := HXB.out.cell 3 _ rfl
  rw [hX]
  clear HK HRS HT HR HUV hX hbk hpb hzb hzp
  go_wp2_with fail
  refine HKD.out.mono ?_
  rintro e w1 ⟨gq, cq, rfl, hkv, hb1⟩
  have HC1 : Hid (Rc z A W #[.bool false, .string ⟨#[]⟩, .int .i64 (d : Int), .int .i64 (a : Int), .slice gl ml cl] #[.int .i64 7, .int .i64 nm, .int .i64 bn, .slice gk nk ck] X (.slice gl ml cl) ls (.slice gq nk cq) (kidsT d ls x) w1) := ⟨HKV.out.next (Ka.of_below hb1), HTV.out.next hb1, HRBV.out.next hb1, HXB.out.next hb1, HLV.out.kp (Ka.of_below hb1), hkv⟩
  have HRS1 : Hid (Rs W0 (some ⟨pb, po, none⟩) P cp z w1 f) := HRV.out.next hb1
  have t4 : w1.cell? ⟨W.heap.size, 4, none⟩ = some (.slice gl ml cl) := HC1.out.tb.cell 4 _ rfl
  have t2 : w1.cell? ⟨W.heap.size, 2, none⟩ = some (.int .i64 (d : Int)) := HC1.out.tb.cell 2 _ rfl
  have x0 : w1.cell? ⟨X, 0, none⟩ = some (.int .i64 7) := HC1.out.xb.cell 0 _ rfl
  have x1 : w1.cell? ⟨X, 1, none⟩ = some (.int .i64 nm) := HC1.out.xb.cell 1 _ rfl
  have x2 : w1.cell? ⟨X, 2, none⟩ = some (.int .i64 bn) := HC1.out.xb.cell 2 _ rfl
  have x3 : w1.cell? ⟨X, 3, none⟩ = some (.slice gk nk ck) := HC1.out.xb.cell 3 _ rfl
  obtain ⟨rl, ⟨r0', r1', r2'⟩, g0, g1, g2⟩ := celsR HC1.out.rb
  clear t0 t1 t3 hkv hb1 HKD HKV HTV HRBV HXB HLV HRV
  have HBX : Hid (Bx 63 w1 z (nmC (some ⟨pb, po, none⟩) P.length cp (f : Int) 0)) := HRS1.out.box
  go_wp2_with fail
  refine (rfail_any _).mono ?_
  rintro e9 w9x ⟨rfl, hw9⟩
  have hb9 : Below w1.heap.size w1 w9x := by rw [hw9]; exact (Below.refl _ _).alloc (Nat.le_refl _) _
  have HC9 := hid (HC1.out.next hb9)
  have HB9 := hid (HBX.out.next hb9)
  obtain ⟨rl9, ⟨r90, r91, r92⟩, g90, g91, g92⟩ := celsR HC9.out.rb
  clear hw9 hb9
  go_wp2_with fail
  refine grabPost (fun W9 => Bx 66 W9 (W.heap.size + 1) #[.int .i64 3, .int .i64 0, .slice none 0 0] ∧ Bx 63 W9 z (nmC (some ⟨pb, po, none⟩) P.length cp (f : Int) 0) ∧ Ka (Zz z) W W9 ∧ RLs A W9 (.slice none 0 0) []) (Rc.fin HC9.out HZW.out.1 HB9.out (RLs.nil _ _) _ _ _) (fun W9 h9 => ?_)
  obtain ⟨ql, ⟨q0, q1, q2⟩, _⟩ := celsR h9.1
  refine bodyPost_ret (v := hV 3 0 (.slice none 0 0)) (by simp [results, Tryz.results19, go_sem, q0, q1, q2]) rfl ?_
  exact RvQ.mk (o := .fail) (f := f) (by rw [← HR0.out]; rw [ev_7 HX.out.1 HN.out.2.2.2.1]) rfl rfl rfl rfl h9.2
end Go.Proofs.YtjamknejllbmkaaGreatDoor

namespace Go.Proofs.YtjamknejllbmkaaGreatDoor
open Go.RowKit
set_option linter.unusedVariables false
attribute [local go_sem ↓] Go.wp_at_zero Go.wp_at_succ

set_option maxHeartbeats 8000000 in
set_option maxRecDepth 100000 in
theorem rv_var {W0 : World} {gp : Option Addr} {P : List Df} {cp z n : Nat} (hEv : RvSaid W0 gp P cp z n) (f : Nat) (A : Nat → Prop) (W : World) (d a : Nat) (ls : List Th) (x : Ex) (gl : Option Addr) (cl : Nat) (hf : f ≤ n) (hfb : f ≤ 100000) (hs : Rs W0 gp P cp z W (f + 1)) (hz : A z) (hA : ∀ k, A k → k < W.heap.size)
    (hx : Pd1 P d a ls x) (hwf : Wf P (.prt d a ls)) (hl : RLs A W (.slice gl ls.length cl) ls) (hk : x.kind = 1) :
    Calls Tryz.prog 19 #[.pointer (some ⟨z, 0, none⟩), thV d a (.slice gl ls.length cl)] W fun e W' => RvQ gp P cp z A W (ev P (n + 1) (f + 1) (.prt d a ls)) e W' := by
  have HX : Hid (Pd1 P d a ls x ∧ pmay P = true ∧ Wf P (.prt d a ls)) := ⟨hx, hs.prg.may, hwf⟩
  have HS := hid hs
  have HA : Hid (A z ∧ (∀ k, A k → k < W.heap.size) ∧ f ≤ n) := ⟨hz, hA, hf⟩
  have HL := hid hl
  obtain ⟨df, hdf, hbx, hb24, hab⟩ := hx.df
  obtain ⟨pb, po, bg, bc, hgp, hpb0, pc1, _, hbd⟩ := hs.prg.body (Below.refl _ _) hdf
  have hpb : pb < W.heap.size := Nat.lt_of_lt_of_le hpb0 hs.low.size
  have pc1 := (hs.low.cell (p := ⟨pb, po + d * 2 + 1, none⟩) hpb0).trans pc1
  obtain ⟨bk, o, nb, cb, gk, ck, ebv, han, hbk0, _, hx0, hx1, hx2, hx3, hx4⟩ := hbd.part (Below.refl _ _) hx.body
  have hbk : bk < W.heap.size := Nat.lt_of_lt_of_le hbk0 hs.low.size
  have hx0 := (hs.low.cell (p := ⟨bk, o + a * 4, none⟩) hbk0).trans hx0
  have hx1 := (hs.low.cell (p := ⟨bk, o + a * 4 + 1, none⟩) hbk0).trans hx1
  have hx2 := (hs.low.cell (p := ⟨bk, o + a * 4 + 2, none⟩) hbk0).trans hx2
  have hx3 := (hs.low.cell (p := ⟨bk, o + a * 4 + 3, none⟩) hbk0).trans hx3
  rw [ebv] at pc1
  have hdl : d < P.length := (List.getElem?_eq_some_iff.1 hdf).1
  have hd0 : (0 : Int) ≤ (d : Int) := by omega
  have hdl' : (d : Int) < (P.length : Int) := by omega
  have han' : (a : Int) < (nb : Int) := by omega
  have ha0 : (0 : Int) ≤ (a : Int) := by omega
  have hzz := hs.lt
  have hzb : bk ≠ z := by have := hs.z0; omega
  have hzp : pb ≠ z := by have := hs.z0; omega
  have z1 : W.cell? ⟨z, 1, none⟩ = some (.int .i64 ((f : Int) + 1)) := hs.box.cell 1 _ (by show some (Value.int .i64 ((f + 1 : Nat) : Int)) = _; rw [show ((f + 1 : Nat) : Int) = (f : Int) + 1 by omega])
  have zf := hs.box.frozen 1
  have f0' : ((f : Int) + 1 == 0) = false := by simp; omega
  have fb : (f : Int) ≤ 100000 := by omega
  have fb0 : (0 : Int) ≤ (f : Int) := by omega
  obtain ⟨nm, hnm⟩ : ∃ nm, x.num = nm := ⟨_, rfl⟩
  obtain ⟨bn, hbn⟩ : ∃ bn, x.bind = bn := ⟨_, rfl⟩
  obtain ⟨nk, hnk⟩ : ∃ nk, x.kids.length = nk := ⟨_, rfl⟩
  obtain ⟨pn, hpn⟩ : ∃ pn, P.length = pn := ⟨_, rfl⟩
  obtain ⟨ml, hml⟩ : ∃ ml, ls.length = ml := ⟨_, rfl⟩
  rw [hk] at hx0
  rw [hnm] at hx1
  rw [hbn] at hx2
  rw [hnk] at hx3
  rw [hpn] at hdl'
  obtain ⟨r0, hr0⟩ : ∃ r, ev P (n + 1) (f + 1) (.prt d a ls) = r := ⟨_, rfl⟩
  rw [hr0, hml]
  have HN : Hid (x.num = nm ∧ x.bind = bn ∧ x.kids.length = nk ∧ x.kind = 1 ∧ P.length = pn ∧ ls.length = ml) := ⟨hnm, hbn, hnk, hk, hpn, hml⟩
  have HR0 := hid hr0
  have HEv := hid hEv
  have HX4 : Hid (Nums W0 gk x.kids) := hx4
  have HGP := hid hgp
  subst hgp
  have hnk3 : nk ≤ 3 := by have h := hx.ok; unfold Ex.ok okE at h; rw [hk, hnk] at h; simp at h; omega
  clear hx hs hz hA hf hbd hl hk hnm hbn hnk hr0 hEv hwf hx4 hfb hdf hbx hb24 hab hpb0 ebv hbk0 hdl hpn hml
  go_enter Tryz.func19, Tryz.ntmps19
  go_wp2_with fail
  have HUF := u_facts HS.out #[.bool false, .string ⟨#[]⟩, .int .i64 (d : Int), .int .i64 (a : Int), .slice gl ml cl] #[.int .i64 0, .int .i64 0, .slice none 0 0]
  refine grabW (fun U => Hid (Ka (Zz z) W U) ∧ Hid (Rs W0 (some ⟨pb, po, none⟩) P cp z U f) ∧ Hid (Bx 69 U W.heap.size #[.bool false, .string ⟨#[]⟩, .int .i64 (d : Int), .int .i64 (a : Int), .slice gl ml cl]) ∧ Hid (Bx 66 U (W.heap.size + 1) #[.int .i64 0, .int .i64 0, .slice none 0 0])) HUF (fun U hU => ?_)
  obtain ⟨HK, HRS, HT, HR⟩ := hU
  clear HUF z1 zf f0' fb fb0
  have hall : ∀ V : World, Below U.heap.size U V → Below U.heap.size U V ∧ V.cell? ⟨z, 0, none⟩ = some (.slice (some ⟨pb, po, none⟩) pn cp) ∧ V.cell? ⟨pb, po + d * 2 + 1, none⟩ = some (.slice (some ⟨bk, o, none⟩) nb cb) ∧ V.cell? ⟨bk, o + a * 4, none⟩ = some (.int .i64 1) ∧ V.cell? ⟨bk, o + a * 4 + 1, none⟩ = some (.int .i64 nm) ∧ V.cell? ⟨bk, o + a * 4 + 2, none⟩ = some (.int .i64 bn) ∧ V.cell? ⟨bk, o + a * 4 + 3, none⟩ = some (.slice gk nk ck)
      ∧ V.cell? ⟨W.heap.size, 2, none⟩ = some (.int .i64 (d : Int)) ∧ V.cell? ⟨W.heap.size, 3, none⟩ = some (.int .i64 (a : Int)) := by
    intro V h
    have hbkU : bk < U.heap.size := Nat.lt_of_lt_of_le hbk HK.out.size
    have hpbU : pb < U.heap.size := Nat.lt_of_lt_of_le hpb HK.out.size
    have k0 : U.cell? ⟨z, 0, none⟩ = some (.slice (some ⟨pb, po, none⟩) pn cp) := by have h := HRS.out.box.cell 0 _ rfl; rw [← HN.out.2.2.2.2.1]; exact h
    exact ⟨h, (h.cell (p := ⟨z, 0, none⟩) HRS.out.lt).trans k0, (h.cell (p := ⟨pb, po + d * 2 + 1, none⟩) hpbU).trans ((HK.out.cell hpb hzp).trans pc1), (h.cell (p := ⟨bk, o + a * 4, none⟩) hbkU).trans ((HK.out.cell hbk hzb).trans hx0), (h.cell (p := ⟨bk, o + a * 4 + 1, none⟩) hbkU).trans ((HK.out.cell hbk hzb).trans hx1),
      (h.cell (p := ⟨bk, o + a * 4 + 2, none⟩) hbkU).trans ((HK.out.cell hbk hzb).trans hx2), (h.cell (p := ⟨bk, o + a * 4 + 3, none⟩) hbkU).trans ((HK.out.cell hbk hzb).trans hx3), (h.cell (p := ⟨W.heap.size, 2, none⟩) HT.out.lt).trans (HT.out.cell 2 _ rfl), (h.cell (p := ⟨W.heap.size, 3, none⟩) HT.out.lt).trans (HT.out.cell 3 _ rfl)⟩
  have HALL := hid hall
  have HBU : Hid (Below U.heap.size U U) := Below.refl _ _
  clear hall pc1 hx0 hx1 hx2 hx3
  obtain ⟨_, e0, e1, e2, e3, e4, e5, e6, e7⟩ := HALL.out U HBU.out
  go_region_held3 (fun V => Below U.heap.size U V ∧ V.cell? ⟨z, 0, none⟩ = some (.slice (some ⟨pb, po, none⟩) pn cp) ∧ V.cell? ⟨pb, po + d * 2 + 1, none⟩ = some (.slice (some ⟨bk, o, none⟩) nb cb) ∧ V.cell? ⟨bk, o + a * 4, none⟩ = some (.int .i64 1) ∧ V.cell? ⟨bk, o + a * 4 + 1, none⟩ = some (.int .i64 nm) ∧ V.cell? ⟨bk, o + a * 4 + 2, none⟩ = some (.int .i64 bn) ∧ V.cell? ⟨bk, o + a * 4 + 3, none⟩ = some (.slice gk nk ck)
      ∧ V.cell? ⟨W.heap.size, 2, none⟩ = some (.int .i64 (d : Int)) ∧ V.cell? ⟨W.heap.size, 3, none⟩ = some (.int .i64 (a : Int)))
    (exact HALL.out _ (by repeat (first | exact HBU.out | (with_reducible refine Below.drew ?_) | (with_reducible refine Below.alloc ?_ (Nat.le_refl _) _)))) (fail)
  clear e0 e1 e2 e3 e4 e5 e6 e7 HALL HBU
  obtain ⟨X, hX⟩ : ∃ X, U.heap.size = X := ⟨_, rfl⟩
  have hWX : W.heap.size + 1 < X := by have := HR.out.lt; omega
  refine grabE (fun V => Hid (Below U.heap.size U V) ∧ Hid (Bx 55 V X #[.int .i64 1, .int .i64 nm, .int .i64 bn, .slice gk nk ck])) ⟨((Below.refl _ U).alloc (Nat.le_refl _) _).drew, by rw [← hX]; exact Bx.newd 55 U _⟩ (fun V hV => ?_)
  obtain ⟨HUV, HXB⟩ := hV
  have HRV : Hid (Rs W0 (some ⟨pb, po, none⟩) P cp z V f) := HRS.out.next HUV.out
  have HKV : Hid (Ka (Zz z) W V) := HK.out.next (Ka.of_below HUV.out)
  have HTV : Hid (Bx 69 V W.heap.size #[.bool false, .string ⟨#[]⟩, .int .i64 (d : Int), .int .i64 (a : Int), .slice gl ml cl]) := HT.out.next HUV.out
  have HRBV : Hid (Bx 66 V (W.heap.size + 1) #[.int .i64 0, .int .i64 0, .slice none 0 0]) := HR.out.next HUV.out
  have HZW : Hid (z < W.heap.size ∧ W.heap.size < X) := ⟨hzz, by omega⟩
  have HLV : Hid (RLs (orR A (W.heap.size + 1)) V (.slice gl ml cl) ls) := by
    have h := HL.out
    rw [HN.out.2.2.2.2.2] at h
    refine (h.avoid (B := orR A (W.heap.size + 1)) ?_).kp (HKV.out.mono fun k _ e => by have e' : k = z := e; subst e'; exact Or.inl HA.out.1)
    rintro k (hk | hk)
    · exact Or.inl hk
    · right; omega
  have HKD : Hid (Calls Tryz.prog 35 #[thV d a (.slice gl ml cl), .slice gk nk ck] V fun e w' => ∃ g c, e = .returned (.slice g nk c) ∧ RLs (orR A (W.heap.size + 1)) w' (.slice g nk c) (kidsT d ls x) ∧ Below V.heap.size V w') := by
    have h := rkids_at (A := orR A (W.heap.size + 1)) (W := V) d a gl cl ls x.kids gk ck (by
      rintro k (hk | hk)
      · exact Nat.lt_of_lt_of_le (HA.out.2.1 k hk) HKV.out.size
      · rw [hk]; exact HRBV.out.lt) (by rw [HN.out.2.2.2.2.2]; exact HLV.out) (HX4.out.on HRV.out.low) (fun k hk => by
        obtain ⟨i, hi⟩ := List.getElem?_of_mem hk
        exact (HX.out.1.kid i k hi).1) (by rw [HN.out.2.2.1]; exact hnk3)
    rw [HN.out.2.2.1, HN.out.2.2.2.2.2] at h
    exact h
  have t0 : V.cell? ⟨W.heap.size, 0, none⟩ = some (.bool false) := HTV.out.cell 0 _ rfl
  have t1 : V.cell? ⟨W.heap.size, 1, none⟩ = some (.string ⟨#[]⟩) := HTV.out.cell 1 _ rfl
  have t2 : V.cell? ⟨W.heap.size, 2, none⟩ = some (.int .i64 (d : Int)) := HTV.out.cell 2 _ rfl
  have t3 : V.cell? ⟨W.heap.size, 3, none⟩ = some (.int .i64 (a : Int)) := HTV.out.cell 3 _ rfl
  have t4 : V.cell? ⟨W.heap.size, 4, none⟩ = some (.slice gl ml cl) := HTV.out.cell 4 _ rfl
  have x3 : V.cell? ⟨X, 3, none⟩ = some (.slice gk nk ck) := HXB.out.cell 3 _ rfl
  rw [hX]
  clear HK HRS HT HR HUV hX hbk hpb hzb hzp
  go_wp2_with fail
  refine HKD.out.mono ?_
  rintro e w1 ⟨gq, cq, rfl, hkv, hb1⟩
  have HC1 : Hid (Rc z A W #[.bool false, .string ⟨#[]⟩, .int .i64 (d : Int), .int .i64 (a : Int), .slice gl ml cl] #[.int .i64 1, .int .i64 nm, .int .i64 bn, .slice gk nk ck] X (.slice gl ml cl) ls (.slice gq nk cq) (kidsT d ls x) w1) := ⟨HKV.out.next (Ka.of_below hb1), HTV.out.next hb1, HRBV.out.next hb1, HXB.out.next hb1, HLV.out.kp (Ka.of_below hb1), hkv⟩
  have HRS1 : Hid (Rs W0 (some ⟨pb, po, none⟩) P cp z w1 f) := HRV.out.next hb1
  have t4 : w1.cell? ⟨W.heap.size, 4, none⟩ = some (.slice gl ml cl) := HC1.out.tb.cell 4 _ rfl
  have t2 : w1.cell? ⟨W.heap.size, 2, none⟩ = some (.int .i64 (d : Int)) := HC1.out.tb.cell 2 _ rfl
  have x0 : w1.cell? ⟨X, 0, none⟩ = some (.int .i64 1) := HC1.out.xb.cell 0 _ rfl
  have x1 : w1.cell? ⟨X, 1, none⟩ = some (.int .i64 nm) := HC1.out.xb.cell 1 _ rfl
  have x2 : w1.cell? ⟨X, 2, none⟩ = some (.int .i64 bn) := HC1.out.xb.cell 2 _ rfl
  have x3 : w1.cell? ⟨X, 3, none⟩ = some (.slice gk nk ck) := HC1.out.xb.cell 3 _ rfl
  obtain ⟨rl, ⟨r0', r1', r2'⟩, g0, g1, g2⟩ := celsR HC1.out.rb
  clear t0 t1 t3 hkv hb1 HKD HKV HTV HRBV HXB HLV HRV
  have hvar : 0 ≤ x.num ∧ x.num.toNat < ls.length := by have := ok_kind HX.out.1.ok; have := HN.out; omega
  obtain ⟨j, hj⟩ : ∃ j, x.num.toNat = j := ⟨_, rfl⟩
  have hnj : nm = (j : Int) := by have := HN.out.1; omega
  subst hnj
  have hjl : j < ls.length := by omega
  have hjm : (j : Int) < (ml : Int) := by have := HN.out.2.2.2.2.2; omega
  have hj0 : (0 : Int) ≤ (j : Int) := by omega
  obtain ⟨t, ht⟩ : ∃ t, ls[j]? = some t := ⟨_, List.getElem?_eq_getElem hjl⟩
  obtain ⟨bl, ol, c2, u0, u1, u2, u3, u4, evv, hbl, hblA, ⟨c0', c1', c2', c3', c4'⟩, hth⟩ := HC1.out.lv.pick ht
  obtain ⟨rfl, rfl⟩ : gl = some ⟨bl, ol, none⟩ ∧ cl = c2 := by simp only [Value.slice.injEq] at evv; exact ⟨evv.1, evv.2.2⟩
  have HCALL : Hid (Calls Tryz.prog 19 #[.pointer (some ⟨z, 0, none⟩), .agg #[u0, u1, u2, u3, u4]] w1 fun e W' => RvQ (some ⟨pb, po, none⟩) P cp z (orR A (W.heap.size + 1)) w1 (ev P n f t) e W') :=
    HEv.out f (orR A (W.heap.size + 1)) w1 [u0, u1, u2, u3, u4] t HA.out.2.2 HRS1.out (Or.inl HA.out.1) (by
      rintro k (hk | hk)
      · exact Nat.lt_of_lt_of_le (HA.out.2.1 k hk) HC1.out.kp.size
      · rw [hk]; exact HC1.out.rb.lt) (HX.out.2.2.ls _ (List.mem_of_getElem? ht)) hth
  obtain ⟨⟨o6, f6⟩, hr6⟩ : ∃ r, ev P n f t = r := ⟨_, rfl⟩
  have HR6 : Hid (ev P (n + 1) (f + 1) (.prt d a ls) = (o6, f6)) := by show _ = _; rw [ev_1 HX.out.1 HN.out.2.2.2.1 (t := t) (by rw [hj]; exact ht)]; exact hr6
  rw [hr6] at HCALL
  clear hr6 hth ht evv hblA hvar hj
  go_wp2_with fail
  refine HCALL.out.mono ?_
  rintro e w6 ⟨g6, c6, rfl, hl6, hb6, hk6⟩
  obtain ⟨k6, hk6'⟩ : ∃ k6, ocK o6 = k6 := ⟨_, rfl⟩
  obtain ⟨n6, hn6⟩ : ∃ n6, ocN o6 = n6 := ⟨_, rfl⟩
  obtain ⟨m6, hm6⟩ : ∃ m6, (ocP o6).length = m6 := ⟨_, rfl⟩
  obtain ⟨e6, he6⟩ : ∃ e6, erO o6 = e6 := ⟨_, rfl⟩
  simp only at hl6 hb6
  rw [hm6] at hl6
  rw [he6] at hb6
  simp only [hk6', hn6, hm6]
  have HC6 := hid (HC1.out.call HA.out.1 HZW.out.1 HZW.out.2 hk6)
  have H6 : Hid (ocK o6 = k6 ∧ ocN o6 = n6 ∧ (ocP o6).length = m6 ∧ erO o6 = e6) := ⟨hk6', hn6, hm6, he6⟩
  have HL6 := hid hl6
  have HB6 := hid hb6
  obtain ⟨rl6, ⟨r60, r61, r62⟩, g60, g61, g62⟩ := celsR HC6.out.rb
  clear hk6 hk6' hn6 hm6 he6 hl6 hb6 c0' c1' c2' c3' c4' r0' r1' r2' g0 g1 g2 t4 t2 x0 x1 x2 x3 HCALL
  go_wp2_with fail
  refine grabPost (fun W9 => Bx 66 W9 (W.heap.size + 1) #[.int .i64 k6, .int .i64 n6, .slice g6 m6 c6] ∧ Bx 63 W9 z (nmC (some ⟨pb, po, none⟩) P.length cp (f6 : Int) e6) ∧ Ka (Zz z) W W9 ∧ RLs A W9 (.slice g6 m6 c6) (ocP o6)) (Rc.fin HC6.out HZW.out.1 HB6.out HL6.out _ _ _) (fun W9 h9 => ?_)
  obtain ⟨ql, ⟨q0, q1, q2⟩, _⟩ := celsR h9.1
  refine bodyPost_ret (v := hV k6 n6 (.slice g6 m6 c6)) (by simp [results, Tryz.results19, go_sem, q0, q1, q2]) rfl ?_
  exact RvQ.mk (o := o6) (f := f6) (by rw [← HR0.out]; exact HR6.out.symm) H6.out.1 H6.out.2.1 H6.out.2.2.1 H6.out.2.2.2 h9.2
end Go.Proofs.YtjamknejllbmkaaGreatDoor

namespace Go.Proofs.YtjamknejllbmkaaGreatDoor
open Go.RowKit
set_option linter.unusedVariables false
attribute [local go_sem ↓] Go.wp_at_zero Go.wp_at_succ

set_option maxHeartbeats 8000000 in
set_option maxRecDepth 100000 in
theorem rv_call {W0 : World} {gp : Option Addr} {P : List Df} {cp z n : Nat} (hEv : RvSaid W0 gp P cp z n) (f : Nat) (A : Nat → Prop) (W : World) (d a : Nat) (ls : List Th) (x : Ex) (gl : Option Addr) (cl : Nat) (hf : f ≤ n) (hfb : f ≤ 100000) (hs : Rs W0 gp P cp z W (f + 1)) (hz : A z) (hA : ∀ k, A k → k < W.heap.size)
    (hx : Pd1 P d a ls x) (hwf : Wf P (.prt d a ls)) (hl : RLs A W (.slice gl ls.length cl) ls) (hk : x.kind = 2) :
    Calls Tryz.prog 19 #[.pointer (some ⟨z, 0, none⟩), thV d a (.slice gl ls.length cl)] W fun e W' => RvQ gp P cp z A W (ev P (n + 1) (f + 1) (.prt d a ls)) e W' := by
  have HX : Hid (Pd1 P d a ls x ∧ pmay P = true ∧ Wf P (.prt d a ls)) := ⟨hx, hs.prg.may, hwf⟩
  have HS := hid hs
  have HA : Hid (A z ∧ (∀ k, A k → k < W.heap.size) ∧ f ≤ n) := ⟨hz, hA, hf⟩
  have HL := hid hl
  obtain ⟨df, hdf, hbx, hb24, hab⟩ := hx.df
  obtain ⟨pb, po, bg, bc, hgp, hpb0, pc1, _, hbd⟩ := hs.prg.body (Below.refl _ _) hdf
  have hpb : pb < W.heap.size := Nat.lt_of_lt_of_le hpb0 hs.low.size
  have pc1 := (hs.low.cell (p := ⟨pb, po + d * 2 + 1, none⟩) hpb0).trans pc1
  obtain ⟨bk, o, nb, cb, gk, ck, ebv, han, hbk0, _, hx0, hx1, hx2, hx3, hx4⟩ := hbd.part (Below.refl _ _) hx.body
  have hbk : bk < W.heap.size := Nat.lt_of_lt_of_le hbk0 hs.low.size
  have hx0 := (hs.low.cell (p := ⟨bk, o + a * 4, none⟩) hbk0).trans hx0
  have hx1 := (hs.low.cell (p := ⟨bk, o + a * 4 + 1, none⟩) hbk0).trans hx1
  have hx2 := (hs.low.cell (p := ⟨bk, o + a * 4 + 2, none⟩) hbk0).trans hx2
  have hx3 := (hs.low.cell (p := ⟨bk, o + a * 4 + 3, none⟩) hbk0).trans hx3
  rw [ebv] at pc1
  have hdl : d < P.length := (List.getElem?_eq_some_iff.1 hdf).1
  have hd0 : (0 : Int) ≤ (d : Int) := by omega
  have hdl' : (d : Int) < (P.length : Int) := by omega
  have han' : (a : Int) < (nb : Int) := by omega
  have ha0 : (0 : Int) ≤ (a : Int) := by omega
  have hzz := hs.lt
  have hzb : bk ≠ z := by have := hs.z0; omega
  have hzp : pb ≠ z := by have := hs.z0; omega
  have z1 : W.cell? ⟨z, 1, none⟩ = some (.int .i64 ((f : Int) + 1)) := hs.box.cell 1 _ (by show some (Value.int .i64 ((f + 1 : Nat) : Int)) = _; rw [show ((f + 1 : Nat) : Int) = (f : Int) + 1 by omega])
  have zf := hs.box.frozen 1
  have f0' : ((f : Int) + 1 == 0) = false := by simp; omega
  have fb : (f : Int) ≤ 100000 := by omega
  have fb0 : (0 : Int) ≤ (f : Int) := by omega
  obtain ⟨nm, hnm⟩ : ∃ nm, x.num = nm := ⟨_, rfl⟩
  obtain ⟨bn, hbn⟩ : ∃ bn, x.bind = bn := ⟨_, rfl⟩
  obtain ⟨nk, hnk⟩ : ∃ nk, x.kids.length = nk := ⟨_, rfl⟩
  obtain ⟨pn, hpn⟩ : ∃ pn, P.length = pn := ⟨_, rfl⟩
  obtain ⟨ml, hml⟩ : ∃ ml, ls.length = ml := ⟨_, rfl⟩
  rw [hk] at hx0
  rw [hnm] at hx1
  rw [hbn] at hx2
  rw [hnk] at hx3
  rw [hpn] at hdl'
  obtain ⟨r0, hr0⟩ : ∃ r, ev P (n + 1) (f + 1) (.prt d a ls) = r := ⟨_, rfl⟩
  rw [hr0, hml]
  have HN : Hid (x.num = nm ∧ x.bind = bn ∧ x.kids.length = nk ∧ x.kind = 2 ∧ P.length = pn ∧ ls.length = ml) := ⟨hnm, hbn, hnk, hk, hpn, hml⟩
  have HR0 := hid hr0
  have HEv := hid hEv
  have HX4 : Hid (Nums W0 gk x.kids) := hx4
  have HGP := hid hgp
  subst hgp
  have hnk3 : nk ≤ 3 := by have h := hx.ok; unfold Ex.ok okE at h; rw [hk, hnk] at h; simp at h; omega
  clear hx hs hz hA hf hbd hl hk hnm hbn hnk hr0 hEv hwf hx4 hfb hdf hbx hb24 hab hpb0 ebv hbk0 hdl hpn hml
  go_enter Tryz.func19, Tryz.ntmps19
  go_wp2_with fail
  have HUF := u_facts HS.out #[.bool false, .string ⟨#[]⟩, .int .i64 (d : Int), .int .i64 (a : Int), .slice gl ml cl] #[.int .i64 0, .int .i64 0, .slice none 0 0]
  refine grabW (fun U => Hid (Ka (Zz z) W U) ∧ Hid (Rs W0 (some ⟨pb, po, none⟩) P cp z U f) ∧ Hid (Bx 69 U W.heap.size #[.bool false, .string ⟨#[]⟩, .int .i64 (d : Int), .int .i64 (a : Int), .slice gl ml cl]) ∧ Hid (Bx 66 U (W.heap.size + 1) #[.int .i64 0, .int .i64 0, .slice none 0 0])) HUF (fun U hU => ?_)
  obtain ⟨HK, HRS, HT, HR⟩ := hU
  clear HUF z1 zf f0' fb fb0
  have hall : ∀ V : World, Below U.heap.size U V → Below U.heap.size U V ∧ V.cell? ⟨z, 0, none⟩ = some (.slice (some ⟨pb, po, none⟩) pn cp) ∧ V.cell? ⟨pb, po + d * 2 + 1, none⟩ = some (.slice (some ⟨bk, o, none⟩) nb cb) ∧ V.cell? ⟨bk, o + a * 4, none⟩ = some (.int .i64 2) ∧ V.cell? ⟨bk, o + a * 4 + 1, none⟩ = some (.int .i64 nm) ∧ V.cell? ⟨bk, o + a * 4 + 2, none⟩ = some (.int .i64 bn) ∧ V.cell? ⟨bk, o + a * 4 + 3, none⟩ = some (.slice gk nk ck)
      ∧ V.cell? ⟨W.heap.size, 2, none⟩ = some (.int .i64 (d : Int)) ∧ V.cell? ⟨W.heap.size, 3, none⟩ = some (.int .i64 (a : Int)) := by
    intro V h
    have hbkU : bk < U.heap.size := Nat.lt_of_lt_of_le hbk HK.out.size
    have hpbU : pb < U.heap.size := Nat.lt_of_lt_of_le hpb HK.out.size
    have k0 : U.cell? ⟨z, 0, none⟩ = some (.slice (some ⟨pb, po, none⟩) pn cp) := by have h := HRS.out.box.cell 0 _ rfl; rw [← HN.out.2.2.2.2.1]; exact h
    exact ⟨h, (h.cell (p := ⟨z, 0, none⟩) HRS.out.lt).trans k0, (h.cell (p := ⟨pb, po + d * 2 + 1, none⟩) hpbU).trans ((HK.out.cell hpb hzp).trans pc1), (h.cell (p := ⟨bk, o + a * 4, none⟩) hbkU).trans ((HK.out.cell hbk hzb).trans hx0), (h.cell (p := ⟨bk, o + a * 4 + 1, none⟩) hbkU).trans ((HK.out.cell hbk hzb).trans hx1),
      (h.cell (p := ⟨bk, o + a * 4 + 2, none⟩) hbkU).trans ((HK.out.cell hbk hzb).trans hx2), (h.cell (p := ⟨bk, o + a * 4 + 3, none⟩) hbkU).trans ((HK.out.cell hbk hzb).trans hx3), (h.cell (p := ⟨W.heap.size, 2, none⟩) HT.out.lt).trans (HT.out.cell 2 _ rfl), (h.cell (p := ⟨W.heap.size, 3, none⟩) HT.out.lt).trans (HT.out.cell 3 _ rfl)⟩
  have HALL := hid hall
  have HBU : Hid (Below U.heap.size U U) := Below.refl _ _
  clear hall pc1 hx0 hx1 hx2 hx3
  obtain ⟨_, e0, e1, e2, e3, e4, e5, e6, e7⟩ := HALL.out U HBU.out
  go_region_held3 (fun V => Below U.heap.size U V ∧ V.cell? ⟨z, 0, none⟩ = some (.slice (some ⟨pb, po, none⟩) pn cp) ∧ V.cell? ⟨pb, po + d * 2 + 1, none⟩ = some (.slice (some ⟨bk, o, none⟩) nb cb) ∧ V.cell? ⟨bk, o + a * 4, none⟩ = some (.int .i64 2) ∧ V.cell? ⟨bk, o + a * 4 + 1, none⟩ = some (.int .i64 nm) ∧ V.cell? ⟨bk, o + a * 4 + 2, none⟩ = some (.int .i64 bn) ∧ V.cell? ⟨bk, o + a * 4 + 3, none⟩ = some (.slice gk nk ck)
      ∧ V.cell? ⟨W.heap.size, 2, none⟩ = some (.int .i64 (d : Int)) ∧ V.cell? ⟨W.heap.size, 3, none⟩ = some (.int .i64 (a : Int)))
    (exact HALL.out _ (by repeat (first | exact HBU.out | (with_reducible refine Below.drew ?_) | (with_reducible refine Below.alloc ?_ (Nat.le_refl _) _)))) (fail)
  clear e0 e1 e2 e3 e4 e5 e6 e7 HALL HBU
  obtain ⟨X, hX⟩ : ∃ X, U.heap.size = X := ⟨_, rfl⟩
  have hWX : W.heap.size + 1 < X := by have := HR.out.lt; omega
  refine grabE (fun V => Hid (Below U.heap.size U V) ∧ Hid (Bx 55 V X #[.int .i64 2, .int .i64 nm, .int .i64 bn, .slice gk nk ck])) ⟨((Below.refl _ U).alloc (Nat.le_refl _) _).drew, by rw [← hX]; exact Bx.newd 55 U _⟩ (fun V hV => ?_)
  obtain ⟨HUV, HXB⟩ := hV
  have HRV : Hid (Rs W0 (some ⟨pb, po, none⟩) P cp z V f) := HRS.out.next HUV.out
  have HKV : Hid (Ka (Zz z) W V) := HK.out.next (Ka.of_below HUV.out)
  have HTV : Hid (Bx 69 V W.heap.size #[.bool false, .string ⟨#[]⟩, .int .i64 (d : Int), .int .i64 (a : Int), .slice gl ml cl]) := HT.out.next HUV.out
  have HRBV : Hid (Bx 66 V (W.heap.size + 1) #[.int .i64 0, .int .i64 0, .slice none 0 0]) := HR.out.next HUV.out
  have HZW : Hid (z < W.heap.size ∧ W.heap.size < X) := ⟨hzz, by omega⟩
  have HLV : Hid (RLs (orR A (W.heap.size + 1)) V (.slice gl ml cl) ls) := by
    have h := HL.out
    rw [HN.out.2.2.2.2.2] at h
    refine (h.avoid (B := orR A (W.heap.size + 1)) ?_).kp (HKV.out.mono fun k _ e => by have e' : k = z := e; subst e'; exact Or.inl HA.out.1)
    rintro k (hk | hk)
    · exact Or.inl hk
    · right; omega
  have HKD : Hid (Calls Tryz.prog 35 #[thV d a (.slice gl ml cl), .slice gk nk ck] V fun e w' => ∃ g c, e = .returned (.slice g nk c) ∧ RLs (orR A (W.heap.size + 1)) w' (.slice g nk c) (kidsT d ls x) ∧ Below V.heap.size V w') := by
    have h := rkids_at (A := orR A (W.heap.size + 1)) (W := V) d a gl cl ls x.kids gk ck (by
      rintro k (hk | hk)
      · exact Nat.lt_of_lt_of_le (HA.out.2.1 k hk) HKV.out.size
      · rw [hk]; exact HRBV.out.lt) (by rw [HN.out.2.2.2.2.2]; exact HLV.out) (HX4.out.on HRV.out.low) (fun k hk => by
        obtain ⟨i, hi⟩ := List.getElem?_of_mem hk
        exact (HX.out.1.kid i k hi).1) (by rw [HN.out.2.2.1]; exact hnk3)
    rw [HN.out.2.2.1, HN.out.2.2.2.2.2] at h
    exact h
  have t0 : V.cell? ⟨W.heap.size, 0, none⟩ = some (.bool false) := HTV.out.cell 0 _ rfl
  have t1 : V.cell? ⟨W.heap.size, 1, none⟩ = some (.string ⟨#[]⟩) := HTV.out.cell 1 _ rfl
  have t2 : V.cell? ⟨W.heap.size, 2, none⟩ = some (.int .i64 (d : Int)) := HTV.out.cell 2 _ rfl
  have t3 : V.cell? ⟨W.heap.size, 3, none⟩ = some (.int .i64 (a : Int)) := HTV.out.cell 3 _ rfl
  have t4 : V.cell? ⟨W.heap.size, 4, none⟩ = some (.slice gl ml cl) := HTV.out.cell 4 _ rfl
  have x3 : V.cell? ⟨X, 3, none⟩ = some (.slice gk nk ck) := HXB.out.cell 3 _ rfl
  rw [hX]
  clear HK HRS HT HR HUV hX hbk hpb hzb hzp
  go_wp2_with fail
  refine HKD.out.mono ?_
  rintro e w1 ⟨gq, cq, rfl, hkv, hb1⟩
  have HC1 : Hid (Rc z A W #[.bool false, .string ⟨#[]⟩, .int .i64 (d : Int), .int .i64 (a : Int), .slice gl ml cl] #[.int .i64 2, .int .i64 nm, .int .i64 bn, .slice gk nk ck] X (.slice gl ml cl) ls (.slice gq nk cq) (kidsT d ls x) w1) := ⟨HKV.out.next (Ka.of_below hb1), HTV.out.next hb1, HRBV.out.next hb1, HXB.out.next hb1, HLV.out.kp (Ka.of_below hb1), hkv⟩
  have HRS1 : Hid (Rs W0 (some ⟨pb, po, none⟩) P cp z w1 f) := HRV.out.next hb1
  have t4 : w1.cell? ⟨W.heap.size, 4, none⟩ = some (.slice gl ml cl) := HC1.out.tb.cell 4 _ rfl
  have t2 : w1.cell? ⟨W.heap.size, 2, none⟩ = some (.int .i64 (d : Int)) := HC1.out.tb.cell 2 _ rfl
  have x0 : w1.cell? ⟨X, 0, none⟩ = some (.int .i64 2) := HC1.out.xb.cell 0 _ rfl
  have x1 : w1.cell? ⟨X, 1, none⟩ = some (.int .i64 nm) := HC1.out.xb.cell 1 _ rfl
  have x2 : w1.cell? ⟨X, 2, none⟩ = some (.int .i64 bn) := HC1.out.xb.cell 2 _ rfl
  have x3 : w1.cell? ⟨X, 3, none⟩ = some (.slice gk nk ck) := HC1.out.xb.cell 3 _ rfl
  obtain ⟨rl, ⟨r0', r1', r2'⟩, g0, g1, g2⟩ := celsR HC1.out.rb
  clear t0 t1 t3 hkv hb1 HKD HKV HTV HRBV HXB HLV HRV
  obtain ⟨hn0, hn7, df2, hdf2, hpar, hb1, hb24⟩ := HX.out.1.call HN.out.2.2.2.1
  obtain ⟨j, hj⟩ : ∃ j, x.num.toNat = j := ⟨_, rfl⟩
  have hnj : nm = (j : Int) := by have := HN.out.1; omega
  subst hnj
  have hev := ev_2 (n := n) (f := f) HX.out.1 HN.out.2.2.2.1
  rw [hj] at hdf2 hev
  have hwr : Wf P (.prt j ((bodyAt P j).length - 1) (kidsT d ls x)) := Wf.root HX.out.2.1 hdf2 (ls := kidsT d ls x) (by unfold kidsT; rw [List.length_map]; exact hpar) (HX.out.1.kidsW (bd_none (by have := HN.out.2.2.2.1; omega) (by have := HN.out.2.2.2.1; omega)))
  have hbj : bodyAt P j = df2.body := by unfold bodyAt; rw [hdf2]
  rw [hbj] at hwr hev
  obtain ⟨pb', po', bg2, bc2, hgp2, hpb0', pq1, _, _⟩ := HRS1.out.prg.body (Below.refl _ _) hdf2
  obtain ⟨rfl, rfl⟩ : pb = pb' ∧ po = po' := by simpa using hgp2
  have pq1 := (HRS1.out.low.cell (p := ⟨pb, po + j * 2 + 1, none⟩) hpb0').trans pq1
  have hjp : j < P.length := (List.getElem?_eq_some_iff.1 hdf2).1
  have hjp' : (j : Int) < (pn : Int) := by have := HN.out.2.2.2.2.1; omega
  have hj0 : (0 : Int) ≤ (j : Int) := by omega
  obtain ⟨nb2, hnb2⟩ : ∃ nb2, df2.body.length = nb2 := ⟨_, rfl⟩
  rw [hnb2] at pq1 hb1 hb24 hwr hev
  have hnb1 : (1 : Int) ≤ (nb2 : Int) := by omega
  have hnb24 : (nb2 : Int) ≤ 24 := by omega
  have hpbW : pb < W.heap.size := by have h1 := HRS1.out.z0; have h2 := HZW.out.1; omega
  have hw1 : W.heap.size < w1.heap.size := by omega
  obtain ⟨⟨o6, f6⟩, hr6⟩ : ∃ r, r0 = r := ⟨_, rfl⟩
  obtain ⟨k6, hk6'⟩ : ∃ k6, ocK o6 = k6 := ⟨_, rfl⟩
  obtain ⟨n6, hn6⟩ : ∃ n6, ocN o6 = n6 := ⟨_, rfl⟩
  obtain ⟨m6, hm6⟩ : ∃ m6, (ocP o6).length = m6 := ⟨_, rfl⟩
  obtain ⟨e6, he6⟩ : ∃ e6, erO o6 = e6 := ⟨_, rfl⟩
  have H6 : Hid (ocK o6 = k6 ∧ ocN o6 = n6 ∧ (ocP o6).length = m6 ∧ erO o6 = e6) := ⟨hk6', hn6, hm6, he6⟩
  have HR6 : Hid (r0 = (o6, f6)) := hr6
  clear hk6' hn6 hm6 he6 hr6
  have z0 : w1.cell? ⟨z, 0, none⟩ = some (.slice (some ⟨pb, po, none⟩) pn cp) := by have h := HRS1.out.box.cell 0 _ rfl; rw [← HN.out.2.2.2.2.1]; exact h
  have hA1 : ∀ k, orR A (W.heap.size + 1) k → k < w1.heap.size := by
    rintro k (hk | hk)
    · exact Nat.lt_of_lt_of_le (HA.out.2.1 k hk) HC1.out.kp.size
    · rw [hk]; exact HC1.out.rb.lt
  have heo : ∀ V, Below w1.heap.size w1 V → Calls Tryz.prog 19 #[.pointer (some ⟨z, 0, none⟩), .agg #[.bool false, .string ⟨#[]⟩, .int .i64 (j : Int), .int .i64 (IntKind.i64.wrap ((nb2 : Int) - 1)), .slice gq nk cq]] V fun e W' => RvQ (some ⟨pb, po, none⟩) P cp z (orR A (W.heap.size + 1)) V (o6, f6) e W' := by
    intro V hV
    have h := HEv.out f (orR A (W.heap.size + 1)) V _ _ HA.out.2.2 (HRS1.out.next hV) (Or.inl HA.out.1) (fun k hk => Nat.lt_of_lt_of_le (hA1 k hk) hV.size) hwr ((HC1.out.kv.kp (Ka.of_below hV)).prt j (nb2 - 1))
    rw [← hev, HR0.out, HR6.out, show ((nb2 - 1 : Nat) : Int) = IntKind.i64.wrap ((nb2 : Int) - 1) by rw [IntKind.wrap_i64]; omega] at h
    exact h
  have hlr1 : z ≠ W.heap.size + 1 ∧ z < w1.heap.size ∧ w1.cell? ⟨z, 0, none⟩ = some (.slice (some ⟨pb, po, none⟩) pn cp) := ⟨by have := HZW.out.1; omega, HRS1.out.lt, z0⟩
  have hlr2 : pb ≠ W.heap.size + 1 ∧ pb < w1.heap.size ∧ w1.cell? ⟨pb, po + j * 2 + 1, none⟩ = some (.slice bg2 nb2 bc2) := ⟨by omega, by omega, pq1⟩
  have hlr3 : X ≠ W.heap.size + 1 ∧ X < w1.heap.size ∧ w1.cell? ⟨X, 1, none⟩ = some (.int .i64 (j : Int)) := ⟨by omega, HC1.out.xb.lt, x1⟩
  have hs1 : ∀ w' : World, Ka (Zz z) w1 w' → Bx 63 w' z (nmC (some ⟨pb, po, none⟩) P.length cp (f6 : Int) e6) → w'.cell? ⟨z, 0, none⟩ = some (.slice (some ⟨pb, po, none⟩) pn cp) := fun w' hk hb => by have h := hb.cell 0 _ rfl; rw [← HN.out.2.2.2.2.1]; exact h
  have hs2 : ∀ w' : World, Ka (Zz z) w1 w' → Bx 63 w' z (nmC (some ⟨pb, po, none⟩) P.length cp (f6 : Int) e6) → w'.cell? ⟨pb, po + j * 2 + 1, none⟩ = some (.slice bg2 nb2 bc2) := fun w' hk hb => (hk.cell hlr2.2.1 (fun e => by have e' : pb = z := e; have := HRS1.out.z0; omega)).trans hlr2.2.2
  have hs3 : ∀ w' : World, Ka (Zz z) w1 w' → Bx 63 w' z (nmC (some ⟨pb, po, none⟩) P.length cp (f6 : Int) e6) → w'.cell? ⟨X, 1, none⟩ = some (.int .i64 (j : Int)) := fun w' hk hb => (hk.cell hlr3.2.1 (fun e => by have e' : X = z := e; have := HZW.out; omega)).trans hlr3.2.2
  clear hdf2 hwr hbj hev hgp2 hpar hnb2 hj hpb0' t4 t2 x2 x3 z0 pq1 x1
  have HLR : Hid (Lr (W.heap.size + 1) [(z, 0, .slice (some ⟨pb, po, none⟩) pn cp), (pb, po + j * 2 + 1, .slice bg2 nb2 bc2), (X, 1, .int .i64 (j : Int))] w1) := by
    refine ⟨fun q hq => ?_, _, _, _, HC1.out.rb⟩
    simp only [List.mem_cons, List.not_mem_nil, or_false] at hq
    rcases hq with rfl | rfl | rfl
    · exact hlr1
    · exact hlr2
    · exact hlr3
  have HEO : Hid (∀ V, Below w1.heap.size w1 V → Calls Tryz.prog 19 #[.pointer (some ⟨z, 0, none⟩), .agg #[.bool false, .string ⟨#[]⟩, .int .i64 (j : Int), .int .i64 (IntKind.i64.wrap ((nb2 : Int) - 1)), .slice gq nk cq]] V fun e w' => ∃ g6 c6, e = .returned (hV k6 n6 (.slice g6 m6 c6)) ∧ RLs (orR A (W.heap.size + 1)) w' (.slice g6 m6 c6) (ocP o6) ∧ Bx 63 w' z (nmC (some ⟨pb, po, none⟩) P.length cp (f6 : Int) e6) ∧ Ka (Zz z) w1 w' ∧ Lr (W.heap.size + 1) [(z, 0, .slice (some ⟨pb, po, none⟩) pn cp), (pb, po + j * 2 + 1, .slice bg2 nb2 bc2), (X, 1, .int .i64 (j : Int))] w') := by
    intro V hV
    refine (heo V hV).mono ?_
    rintro e w' ⟨g6, c6, rfl, hl6, hb6, hk6⟩
    simp only at hl6 hb6
    rw [H6.out.2.2.1] at hl6
    rw [H6.out.2.2.2] at hb6
    simp only [H6.out.1, H6.out.2.1, H6.out.2.2.1]
    have hk7 : Ka (Zz z) w1 w' := (Ka.of_below hV).next hk6
    have hc7 := HC1.out.call HA.out.1 HZW.out.1 HZW.out.2 hk7
    refine ⟨g6, c6, rfl, hl6, hb6, hk7, fun q hq => ?_, _, _, _, hc7.rb⟩
    simp only [List.mem_cons, List.not_mem_nil, or_false] at hq
    rcases hq with rfl | rfl | rfl
    · exact ⟨hlr1.1, Nat.lt_of_lt_of_le hlr1.2.1 hk7.size, hs1 w' hk7 hb6⟩
    · exact ⟨hlr2.1, Nat.lt_of_lt_of_le hlr2.2.1 hk7.size, hs2 w' hk7 hb6⟩
    · exact ⟨hlr3.1, Nat.lt_of_lt_of_le hlr3.2.1 hk7.size, hs3 w' hk7 hb6⟩
  clear heo hlr1 hlr2 hlr3 hs1 hs2 hs3 r0' r1' r2' g0 g1 g2
  obtain ⟨_, e1, e2, e3, e4, e5, e6', e7, e8, e9⟩ := HLR.out.all
  go_wp2_with fail
  go_region_held3 (fun V => Lr (W.heap.size + 1) [(z, 0, .slice (some ⟨pb, po, none⟩) pn cp), (pb, po + j * 2 + 1, .slice bg2 nb2 bc2), (X, 1, .int .i64 (j : Int))] V ∧ V.cell? ⟨z, 0, none⟩ = some (.slice (some ⟨pb, po, none⟩) pn cp) ∧ V.cell? ⟨pb, po + j * 2 + 1, none⟩ = some (.slice bg2 nb2 bc2) ∧ V.cell? ⟨X, 1, none⟩ = some (.int .i64 (j : Int))
      ∧ V.cell? ⟨W.heap.size + 1, 0, none⟩ = some (cel V ⟨W.heap.size + 1, 0, none⟩) ∧ V.cell? ⟨W.heap.size + 1, 1, none⟩ = some (cel V ⟨W.heap.size + 1, 1, none⟩) ∧ V.cell? ⟨W.heap.size + 1, 2, none⟩ = some (cel V ⟨W.heap.size + 1, 2, none⟩) ∧ V.frozen? ⟨W.heap.size + 1, 0, none⟩ = false ∧ V.frozen? ⟨W.heap.size + 1, 1, none⟩ = false ∧ V.frozen? ⟨W.heap.size + 1, 2, none⟩ = false)
    (exact Lr.all (by repeat (first | exact HL3.out | exact HLR.out | (with_reducible refine Lr.set0 ?_ _) | (with_reducible refine Lr.set1 ?_ _) | (with_reducible refine Lr.set2 ?_ _) | (with_reducible refine Lr.alloc ?_ _) | (with_reducible refine Lr.drew ?_))))
    ((go_at_call 19; refine (HEO.out _ (Below.refl _ _).drew).mono ?_; rintro e w6 ⟨g6, c6, rfl, hl6, hb6, hk6, hlr6⟩; have HL3 : Hid (Lr (W.heap.size + 1) [(z, 0, .slice (some ⟨pb, po, none⟩) pn cp), (pb, po + j * 2 + 1, .slice bg2 nb2 bc2), (X, 1, .int .i64 (j : Int))] w6) := hlr6; have HL6 := hid hl6; have HB6 := hid hb6; have HC6 := hid (HC1.out.call HA.out.1 HZW.out.1 HZW.out.2 hk6); clear hl6 hb6 hk6 hlr6))
  all_goals
    refine grabE (fun W9 => Bx 66 W9 (W.heap.size + 1) #[.int .i64 k6, .int .i64 n6, .slice g6 m6 c6] ∧ Bx 63 W9 z (nmC (some ⟨pb, po, none⟩) P.length cp (f6 : Int) e6) ∧ Ka (Zz z) W W9 ∧ RLs A W9 (.slice g6 m6 c6) (ocP o6)) (Rc.fin HC6.out HZW.out.1 HB6.out HL6.out _ _ _) (fun W9 h9 => ?_)
    clear e1 e2 e3 e4 e5 e6' e7 e8 e9
    obtain ⟨ql, ⟨q0, q1, q2⟩, _⟩ := celsR h9.1
    go_wp2_with fail
    refine bodyPost_ret (v := hV k6 n6 (.slice g6 m6 c6)) (by simp [results, Tryz.results19, go_sem, q0, q1, q2]) rfl ?_
    exact RvQ.mk (o := o6) (f := f6) (by rw [← HR0.out]; rw [HR0.out]; exact HR6.out.symm) H6.out.1 H6.out.2.1 H6.out.2.2.1 H6.out.2.2.2 h9.2
end Go.Proofs.YtjamknejllbmkaaGreatDoor
