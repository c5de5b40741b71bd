/- The contract of the reference's Parse: the same plain function. · The contract of the reference's Parse: the same plain function. · Parse once more, with where the bodies and their kids lie: from the heap's end on. · The contracts of the laws' SpoilInts, SpoilDef, SpoilProgram: from here on is where they write. · The contracts of the laws' SpoilDef and SpoilProgram. -/
import Derived.Test.YtighcikiaddfcaaGreatDoorMRef
import Derived.Test.YtighcikiaddfcaaGreatDoorNParse
import Derived.Test.YtighcikiaddfcaaGreatDoorMTwo
import Derived.Test.YtighcikiaddfcaaGreatDoorMRWords

namespace Go.Proofs.YtighcikiaddfcaaGreatDoor
open Go.RowKit
set_option linter.unusedVariables false

/-! No program comes of it. -/
def NoP (o : Option (List Df)) : Prop := o = none ∨ ∃ ds, o = some ds ∧ pmay ds = false
def NoD (o : Option (List Wd × Df)) : Prop := o = none ∨ ∃ ws d, o = some (ws, d) ∧ may d.params d.body = false
theorem rpg_pre {n : Nat} : ∀ (m : Nat) (acc : List Df) (ws : List Wd) (ds : List Df), rpg n m acc ws = some ds → acc <+: ds
  | 0, _, _, _, h => by simp [rpg] at h
  | _ + 1, acc, [], ds, h => by rw [rpg] at h; cases h; exact List.prefix_refl _
  | m + 1, acc, w :: ws, ds, h => by
    rw [rpg] at h
    split at h
    · cases h
    · exact (List.prefix_append _ _).trans (rpg_pre m _ _ _ h)
theorem bad_pmay {ds : List Df} {d : Df} (hd : d ∈ ds) (h : may d.params d.body = false) : pmay ds = false := by
  cases hp : pmay ds with
  | false => rfl
  | true =>
    unfold pmay at hp
    simp only [Bool.and_eq_true] at hp
    have := List.all_eq_true.1 hp.2 d hd
    unfold dOk at this
    rw [h] at this; cases this
theorem nod_nop {n m : Nat} {acc : List Df} {w : Wd} {ws : List Wd} (h : NoD (rdf n (w :: ws))) : NoP (rpg n (m + 1) acc (w :: ws)) := by
  rcases h with h | ⟨ws', d, h, hd⟩
  · exact Or.inl (rpg_no h)
  · rw [rpg_on h]
    cases hr : rpg n m (acc ++ [d]) ws' with
    | none => exact Or.inl rfl
    | some ds => exact Or.inr ⟨ds, rfl, bad_pmay ((rpg_pre _ _ _ _ hr).subset (by simp)) hd⟩
theorem many_nop {n m : Nat} {acc : List Df} {ws : List Wd} (h : 8 < acc.length) : NoP (rpg n m acc ws) := by
  cases hr : rpg n m acc ws with
  | none => exact Or.inl rfl
  | some ds => exact Or.inr ⟨ds, rfl, pmay_many (by have := (rpg_pre _ _ _ _ hr).length_le; omega)⟩
theorem nod_1 {n : Nat} {ws : List Wd} {t1 t2 t3 : Wd} {v1 v2 v3 : List Wd} (h1 : nxt ws = (t1, v1)) (h2 : nxt v1 = (t2, v2)) (h3 : nxt v2 = (t3, v3)) (h : t1 ≠ [40] ∨ t2 ≠ [100, 101, 102]) : rdf n ws = none := by
  rw [rdf_eq h1 h2 h3]
  rcases h with h | h
  · rw [if_neg h]
  · split
    · first | rfl | rw [if_neg h]
    · rfl
theorem nod_2 {n : Nat} {ws : List Wd} {t1 t2 t3 : Wd} {v1 v2 v3 : List Wd} (h1 : nxt ws = (t1, v1)) (h2 : nxt v1 = (t2, v2)) (h3 : nxt v2 = (t3, v3)) (h : lim 3 (dg t3) = none ∨ Fl (rp n v3 [])) : NoD (rdf n ws) := by
  cases hr : rdf n ws with
  | none => exact Or.inl rfl
  | some y =>
    obtain ⟨ws', d⟩ := y
    refine Or.inr ⟨ws', d, rfl, ?_⟩
    rw [rdf_eq h1 h2 h3] at hr
    split at hr
    · split at hr
      · split at hr
        · cases hr
        · rename_i x hx
          split at hr
          · cases hr
          · rename_i ws1 b hb
            split at hr
            · cases hr
              dsimp only
              rcases h with h | h
              · rcases lim_none h with h4 | ⟨y, h4, h5⟩
                · rw [hx] at h4; cases h4
                · rw [hx] at h4; cases h4; exact big_may h5
              · rcases h with h | ⟨_, _, h, hs⟩
                · rw [hb] at h; cases h
                · rw [hb] at h; cases h; exact sp_may hs
            · cases hr
      · cases hr
    · cases hr
theorem nod_3 {n : Nat} {ws : List Wd} {t1 t2 t3 t6 : Wd} {v1 v2 v3 v6 ws5 : List Wd} {b5 : List Ex} (h1 : nxt ws = (t1, v1)) (h2 : nxt v1 = (t2, v2)) (h3 : nxt v2 = (t3, v3)) (hr : rp n v3 [] = some (ws5, b5)) (h6 : nxt ws5 = (t6, v6)) (ht : t6 ≠ [41]) : NoD (rdf n ws) := by
  left
  rw [rdf_eq h1 h2 h3]
  split
  · split
    · split
      · rfl
      · rw [hr]
        dsimp only
        rw [h6, if_neg ht]
    · rfl
  · rfl
theorem yes_d {n : Nat} {ws : List Wd} {t3 : Wd} {v1 v2 v3 v6 ws5 : List Wd} {b5 : List Ex} {x : Int} (h1 : nxt ws = ([40], v1)) (h2 : nxt v1 = ([100, 101, 102], v2)) (h3 : nxt v2 = (t3, v3)) (hx : lim 3 (dg t3) = some x) (hr : rp n v3 [] = some (ws5, b5)) (h6 : nxt ws5 = ([41], v6)) : rdf n ws = some (v6, ⟨x, b5⟩) := by
  rw [rdf_eq h1 h2 h3, if_pos rfl, if_pos rfl, (lim_some hx).1, hr]
  dsimp only
  rw [h6]
  rfl

/-! Rows beside the reference's reader. -/
theorem NumsT.offR {W W' : World} {z : Nat} {g : Option Addr} {ks : List Int} {u v : Value} {d : Bool} (h : NumsT W g ks) (hr : RdR W z u d v) (hk : Kp z none W W') : NumsT W' g ks := by
  rcases h with h | ⟨b, cs, h1, h2, h3⟩
  · exact Or.inl h
  · refine Or.inr ⟨b, cs, h1, (hk.block b (Array.getElem?_eq_some_iff.1 h2).1 (fun e => ?_) (by simp)).trans h2, h3⟩
    subst e
    have := h2.symm.trans hr
    simp at this
theorem ExsT.offR {W W' : World} {z : Nat} {g : Option Addr} {xs : List Ex} {u v : Value} {d : Bool} (h : ExsT W g xs) (hr : RdR W z u d v) (hk : Kp z none W W') : ExsT W' g xs := by
  rcases h with h | ⟨b, cs, h1, h2, h3⟩
  · exact Or.inl h
  · refine Or.inr ⟨b, cs, h1, (hk.block b h2.lt (fun e => ?_) (by simp)).trans h2, fun j x hx => ?_⟩
    · subst e
      have := (show W.heap[b]? = _ from h2).symm.trans hr
      simp at this
    · obtain ⟨gk, ck, a0, a1, a2, a3, a4, a5⟩ := h3 j x hx
      exact ⟨gk, ck, a0, a1, a2, a3, a4.offR hr hk, a5⟩
theorem Pd.offR {W W' : World} {base z : Nat} {v a b : Value} {d : Bool} {qs : List Dt} (h : Pd W base v qs) (hr : RdR W z a d b) (hk : Kp z none W W') (hz : z < base) : Pd W' base v qs := by
  refine ⟨hk.own h.own hz ?_, fun q hq => (h.bodies q hq).offR hr hk⟩
  cases v.ownBlock with
  | none => exact .inl rfl
  | some k => exact .inr (by simp)
theorem SR.rdr {W : World} {z : Nat} {ws : List Wd} {d : Bool} {ps : List Pt} {r : Option Nat} (h : SR W z ws d ps r) : ∃ u v, RdR W z u d v := by
  obtain ⟨g, c, bv, h1, _⟩ := h
  exact ⟨_, _, h1⟩
theorem SR.grown {W W' : World} {z : Nat} {ws : List Wd} {d : Bool} {ps : List Pt} {r row : Option Nat} (h : SR W z ws d ps r) (hg : W.grownBy W' row) (hr : Only36 W row) (hz : ∀ k, row = some k → z < k) : SR W' z ws d ps r := by
  have hlt := h.lt
  obtain ⟨g, c, bv, h1, h2, h3, h4, h5⟩ := h
  have keep : ∀ {base e size n : Nat} {u : Value} {xs : List Value}, e ≠ 43 → W.ownsRow base e size u n xs → W'.ownsRow base e size u n xs := fun {base e size n u xs} he ho => by
    refine ho.kept hg ?_
    cases hu : u.ownBlock with
    | none => exact .inl rfl
    | some k =>
      right
      intro e'
      rcases ho.2 with ⟨rfl, _⟩ | ⟨b, cap, cur, rfl, _, hb, _⟩
      · cases hu
      · cases hu
        exact only_ne hr hb he e'
  exact ⟨g, c, bv, (hg.block z hlt (fun e => by have := hz z e.symm; omega)).trans h1, h2.on (fun k hk => hg.block k (by omega) (fun e => by have := hz k e.symm; omega)), h3, ⟨keep (by decide) h4.own, fun p hp => keep (by decide) (h4.kids p hp)⟩, h5⟩
theorem SR.box1 {W : World} {z : Nat} {ws : List Wd} {d : Bool} {ps : List Pt} {r : Option Nat} (h : SR W z ws d ps r) {b : Nat} {gb : Option Addr} {nb cb : Nat} (hb : Bx1 W b (.slice gb nb cb)) (j : Nat) (v : Value) : SR (W.setCell ⟨b, j, none⟩ v) z ws d ps r := by
  obtain ⟨g, c, bv, h1, h2, h3, h4, h5⟩ := h
  have hz : z ≠ b := by
    rintro rfl
    have := (show W.heap[z]? = _ from hb).symm.trans h1
    simp at this
  exact ⟨g, c, bv, (Below.heap_setCell W _ _ z (fun e => hz e)).trans h1, h2.box1 hb j v, h3, ⟨own_far h4.own (own_not h4.own hb (by decide)) _ _, fun p hp => own_far (h4.kids p hp) (own_not (h4.kids p hp) hb (by decide)) _ _⟩, h5⟩
/-- What stands ahead of each definition. -/
structure Rpr (w : World) (z : Nat) (wr : World) (ws : List Wd) (d : Bool) (ps : List Pt) (r : Option Nat) (g : Option Addr) (c : Nat) (qs : List Dt) : Prop where
  st : SR wr z ws d ps r
  pd : Pd wr (z + 2) (.slice g qs.length c) qs
  box : Bx1 wr (z + 1) (.slice g qs.length c)
  out : Bx1 wr w.heap.size (.slice none 0 0)
  low : Below w.heap.size w wr
  ord : w.heap.size < z
theorem Rpr.next {w : World} {z : Nat} {wr w2 : World} {ws ws2 : List Wd} {d d2 : Bool} {ps ps2 : List Pt} {r r2 : Option Nat} {g : Option Addr} {c : Nat} {qs : List Dt} (h : Rpr w z wr ws d ps r g c qs) (hK : Kp z none wr w2) (hS : SR w2 z ws2 d2 ps2 r2) : Rpr w z w2 ws2 d2 ps2 r2 g c qs := by
  obtain ⟨u, v, hr⟩ := h.st.rdr
  have := h.ord
  exact ⟨hS, h.pd.offR hr hK (by omega), h.box.kp hK (by omega) (by simp), h.out.kp hK (by omega) (by simp), Kp.low h.low hK (by omega), h.ord⟩
theorem Rpr.put {w : World} {z : Nat} {w2 w3 : World} {ws : List Wd} {d : Bool} {ps : List Pt} {r : Option Nat} {g g2 g3 : Option Addr} {c c2 c3 : Nat} {qs : List Dt} {df : Df} {o : Obj} (h : Rpr w z w2 ws d ps r g c qs)
    (hP : Pd w3 (z + 2) (.slice g3 (qs ++ [(df, g2, c2)]).length c3) (qs ++ [(df, g2, c2)])) (hg : (w2.alloc o).grownBy w3 (Value.slice g qs.length c).ownBlock) :
    Bx1 w3 (z + 1) (.slice g qs.length c) ∧ Rpr w z (w3.setCell ⟨z + 1, 0, none⟩ (.slice g3 (qs ++ [(df, g2, c2)]).length c3)) ws d ps r g3 c3 (qs ++ [(df, g2, c2)]) := by
  have hb : Below w2.heap.size w2 (w2.alloc o) := (Below.refl _ w2).alloc (Nat.le_refl _) o
  have hP2 := h.pd.on hb
  have ho := h.ord
  have hrow : ∀ k, (Value.slice g qs.length c).ownBlock = some k → z + 2 ≤ k := fun k hk => (h.pd.own.lt k hk).1
  have hon : Only36 (w2.alloc o) (Value.slice g qs.length c).ownBlock := only_own hP2.own
  have b1 : Bx1 w3 (z + 1) (.slice g qs.length c) := (h.box.on hb).kept hg (hP2.not_box (h.box.on hb))
  have b0 : Bx1 w3 w.heap.size (.slice none 0 0) := (h.out.on hb).kept hg (hP2.not_box (h.out.on hb))
  have s1 := ((h.st.below hb).grown hg hon (fun k hk => by have := hrow k hk; omega)).box1 b1 0 (.slice g3 (qs ++ [(df, g2, c2)]).length c3)
  have hl : Below w.heap.size w w3 := (h.low.trans (hb.mono (by have := h.low.size; omega))).grown hg (by have h1 := hb.size; have h2 := h.low.size; omega) (fun k hk => by have := hrow k hk; omega)
  exact ⟨b1, s1, hP.far b1 0 _, b1.set0 _, b0.far (by omega) 0 _, hl.setCell (p := ⟨z + 1, 0, none⟩) (by show w.heap.size ≤ z + 1; omega) _, h.ord⟩
/-- A definition is put behind the others, within a region that draws its order. -/
theorem step_dfD {W : World} {ops : Array Oper} {o : Oper} {a : Act} {K : Act → World → Prop} {Q : Exit → Act → World → Prop} {E : Prop} (hgd : o.guard = none) (s x : Operand)
    (ho : o.op = .call { callee := .builtin .append, args := #[s, x], argTypes := #[22, 22] }) (base : Nat) (v : Value) (qs : List Dt) (q : Dt) (cs : Array Value) (hcs : cs.toList = c2 q) (hs : a.eval s = v) (z : Nat) (hz : W.heap.size = z) (hx : a.eval x = .slice (some ⟨z, 0, none⟩) 1 1)
    (hpd : Pd W base v qs) (hq : ExsT W q.2.1 q.1.body) (hb : base ≤ W.heap.size) (hlen : (qs.length + 1) * 32 ≤ 140737488355328)
    (h : ∀ v' w', Pd w' base v' (qs ++ [q]) → (W.alloc (.cells cs 43)).grownBy w' v.ownBlock → K (a.put o.dst v') w') : if Region.wanted o (yielded ops a.tmps) = true then Oper.wp Tryz.prog o a (W.alloc (.cells cs 43)).drew K Q else E := by
  subst hz
  obtain ⟨i0, hi, hz0, hz1, hz2⟩ := info_parts Tryz.info43
  refine step_append_lies _ hgd s x 22 ho base 43 i0 _ 2 32 Tryz.underlying22 hi hz0 hz1 hz2 rfl (by decide) v _ _ hs ((hpd.own.alloc _).drew) ⟨W.heap.size, 0, none⟩ 1 1 (c2 q) hx rfl ?_ (fun u hu => one_c2 [q] u (by simpa using hu)) (by decide) (by unfold maxLen; omega) hlen (by show _ ≤ (W.alloc (.cells cs 43)).heap.size; rw [World.size_alloc]; omega) _ rfl ?_
  · intro j u hj
    rw [Addr.add_lit, Nat.zero_add]
    show (W.alloc (.cells cs 43)).cell? _ = _
    refine cell_new W cs 43 j u ?_
    rw [← hcs] at hj
    simpa using hj
  · intro g cap w' h1 h2' _ _
    have h2 : (W.alloc (.cells cs 43)).grownBy w' v.ownBlock := ⟨h2'.os, h2'.tape, h2'.output, h2'.size, h2'.block⟩
    exact h _ w' ((hpd.alloc _).next (hq.alloc _) (by simpa using h1) h2) h2
end Go.Proofs.YtighcikiaddfcaaGreatDoor

namespace Go.Proofs.YtighcikiaddfcaaGreatDoor
open Go.RowKit
set_option linter.unusedVariables false

theorem rwords_good (s : ByteArray) (w : World) (h : Lx.good s.data.toList = true) :
    Calls Tryz.prog 16 #[.string s] w fun e w' => ∃ g c, e = .returned (.tuple #[.slice g (Lx.wd false [] s.data.toList).length c, .int .i64 0]) ∧
      w'.ownsRow w.heap.size 9 1 (.slice g (Lx.wd false [] s.data.toList).length c) (Lx.wd false [] s.data.toList).length ((Lx.wd false [] s.data.toList).map Lx.S) ∧ Below w.heap.size w w' := by
  refine (Lx.rwords_any s w).mono ?_
  rintro e w' ⟨g, n, c, er, rfl, hb, ⟨_, rfl, ho⟩ | ⟨h', _⟩⟩
  · obtain ⟨g', c', e, _⟩ := Lx.own_len ho
    cases e
    exact ⟨_, _, rfl, ho, hb⟩
  · rw [h] at h'; cases h'
theorem rwords_bad (s : ByteArray) (w : World) (h : Lx.good s.data.toList = false) :
    Calls Tryz.prog 16 #[.string s] w fun e w' => e = .returned (.tuple #[.slice none 0 0, .int .i64 400]) ∧ Below w.heap.size w w' := by
  refine (Lx.rwords_any s w).mono ?_
  rintro e w' ⟨g, n, c, er, rfl, hb, ⟨h', _⟩ | ⟨_, rfl, rfl, rfl, rfl⟩⟩
  · rw [h] at h'; cases h'
  · exact ⟨rfl, hb⟩
/-- What the flag tells within Parse. -/
def PF (O : Option (List Df)) (m1 : Nat) (acc : List Df) (ws1 : List Wd) (d1 : Bool) : Prop :=
  (d1 = false → ws1.length < m1 ∧ rpg 2049 m1 acc ws1 = O) ∧ (d1 = true → NoP O)
theorem sfx_nxt (ws : List Wd) : (nxt ws).2 <:+ ws := by
  cases ws with
  | nil => exact List.suffix_refl _
  | cons w ws => exact List.suffix_cons _ _

set_option maxHeartbeats 4000000 in
set_option maxRecDepth 100000 in
theorem rparse_any (s : ByteArray) (w : World) : Calls Tryz.prog 10 #[.string s] w fun e w' => ParseQ (pp s.data.toList) w e w' := by
  obtain ⟨P, hP⟩ : ∃ P, pp s.data.toList = P := ⟨_, rfl⟩
  rw [hP]
  have HP : Hid (pp s.data.toList = P) := hP
  have hX1 := Bx1.new w (.slice none 0 0)
  have hb1 : Below w.heap.size w (w.alloc (.cells #[.slice none 0 0] 24)) := (Below.refl _ w).alloc (Nat.le_refl _) _
  clear hP
  cases hg : Lx.good s.data.toList with
  | false =>
    have HE : Hid (P = none) := by show _ = _; rw [← HP.out, pp_bad hg]
    have hcall := rwords_bad s (w.alloc (.cells #[.slice none 0 0] 24)) hg
    obtain ⟨W1, hW1⟩ : ∃ W1, w.alloc (.cells #[.slice none 0 0] 24) = W1 := ⟨_, rfl⟩
    rw [hW1] at hcall hX1 hb1
    clear hg
    go_enter Tryz.func10, Tryz.ntmps10
    go_wp2_with fail
    clear hW1
    refine hcall.mono ?_
    rintro e w2 ⟨rfl, hb2⟩
    have hX2 := hX1.on hb2
    have x0 := hX2.c0
    have xf := hX2.frozen 0
    have xl := hX2.lt
    have HB : Hid (Below w.heap.size w w2) := below_next hb1 hb2
    clear hcall hX2 hX1 hb1 hb2
    go_wp2_with fail
    refine bodyPost_ret (v := .tuple #[pV none 0 0, .int .i64 700]) (by simp [results, Tryz.results10, go_sem, x0]) rfl ?_
    exact ParseQ.no HE.out (HB.out.setCell (p := ⟨w.heap.size, 0, none⟩) (Nat.le_refl _) _)
  | true =>
    have HG : Hid (Lx.good s.data.toList = true) := hg
    have hcall := rwords_good s (w.alloc (.cells #[.slice none 0 0] 24)) hg
    obtain ⟨hsz, hsl⟩ := sz_words hg
    obtain ⟨ws, hws⟩ : ∃ ws, Lx.wd false [] s.data.toList = ws := ⟨_, rfl⟩
    rw [hws] at hcall hsz hsl
    obtain ⟨O, hO⟩ : ∃ O, rpg 2049 2049 [] ws = O := ⟨_, rfl⟩
    have HPO : Hid ((NoP O → P = none) ∧ (∀ ds, O = some ds → pmay ds = true → P = some ds) ∧ (∀ ds, O = some ds → pmay ds = false → P = none)) := by
      refine ⟨fun h => ?_, fun ds h hp => ?_, fun ds h hp => ?_⟩
      · rw [← HP.out]
        rcases h with h | ⟨ds, h, hp⟩
        · exact pp_no hg (by rw [hws, hO, h])
        · exact pp_may hg (by rw [hws, hO, h]) hp
      · rw [← HP.out]; exact pp_yes hg (by rw [hws, hO, h]) hp
      · rw [← HP.out]; exact pp_may hg (by rw [hws, hO, h]) hp
    have HO : Hid (rpg 2049 2049 [] ws = O) := hO
    obtain ⟨W1, hW1⟩ : ∃ W1, w.alloc (.cells #[.slice none 0 0] 24) = W1 := ⟨_, rfl⟩
    rw [hW1] at hcall hX1 hb1
    clear hg hws hO
    go_enter Tryz.func10, Tryz.ntmps10
    go_wp2_with fail
    clear hW1
    refine hcall.mono ?_
    rintro e w2 ⟨g, c, rfl, ho2, hb2⟩
    obtain ⟨hT2, hc2⟩ := wtx_own ho2
    have HS0 : Hid (Sz ws [] ∧ ws.length ≤ 2048) := ⟨hsz, hsl⟩
    have HI : Hid (Rpr w w2.heap.size ((w2.alloc (.cells #[.slice g ws.length c, .bool false, .slice none 0 0] 60)).alloc (.cells #[.slice none 0 0] 24)) ws false [] none none 0 []) := by
      have hbb : Below w2.heap.size w2 ((w2.alloc (.cells #[.slice g ws.length c, .bool false, .slice none 0 0] 60)).alloc (.cells #[.slice none 0 0] 24)) := ((Below.refl _ w2).alloc (Nat.le_refl _) _).alloc (by simp) _
      have h3 : RdR ((w2.alloc (.cells #[.slice g ws.length c, .bool false, .slice none 0 0] 60)).alloc (.cells #[.slice none 0 0] 24)) w2.heap.size (.slice g ws.length c) false (.slice none 0 0) := (Below.heap_alloc _ _ _ (by simp)).trans (World.alloc_heap_new w2 _)
      have h4 := Bx1.new (w2.alloc (.cells #[.slice g ws.length c, .bool false, .slice none 0 0] 60)) (.slice none 0 0)
      rw [World.size_alloc] at h4
      have hlw := (hX1.on hb2).lt
      refine ⟨⟨g, c, _, h3, hT2.on (fun k hk => hbb.block k hk), hc2, BdO.nil _ _, rfl⟩, Pd.nil _ _, h4, (hX1.on hb2).on hbb, below_next (below_next hb1 hb2) hbb, hlw⟩
    clear hcall hX1 hb1 hb2 ho2 hT2 hc2 hsz hsl
    go_wp2_with fail
    obtain ⟨W3, hW3⟩ : ∃ W3, (w2.alloc (.cells #[.slice g ws.length c, .bool false, .slice none 0 0] 60)).alloc (.cells #[.slice none 0 0] 24) = W3 := ⟨_, rfl⟩
    rw [hW3] at HI ⊢
    obtain ⟨z, hz⟩ : ∃ z, w2.heap.size = z := ⟨_, rfl⟩
    rw [hz] at HI ⊢
    clear hW3 hz
    go_loopw [8, 9] (fun _ _ wr => ∃ (ws1 : List Wd) (d1 : Bool) (ps1 : List Pt) (r1 : Option Nat) (g1 : Option Addr) (c1 : Nat) (qs1 : List Dt) (m1 : Nat), Hid (Rpr w z wr ws1 d1 ps1 r1 g1 c1 qs1) ∧ Hid (PF O m1 (qs1.map (·.1)) ws1 d1) ∧ Hid (qs1.length + ws1.length ≤ 2048 ∧ ws1 <:+ ws))
      (fun _ _ wr => leftOf z wr)
    case atStart => exact ⟨ws, false, [], none, none, 0, [], 2049, HI, ⟨fun _ => ⟨by have := HS0.out.2; omega, HO.out⟩, fun h => by cases h⟩, ⟨by have := HS0.out.2; simp; exact this, List.suffix_refl _⟩⟩
    case round =>
      clear HI HO
      obtain ⟨ws1, d1, ps1, r1, g1, c1, qs1, m1, HR, HF, HL⟩ := hrel
      have p0 := HR.out.box.c0
      have o0 := HR.out.out.c0
      have of := HR.out.out.frozen 0
      have ol := HR.out.out.lt
      have zl := HR.out.st.lt
      have f1 := HR.out.st.flag
      cases d1 with
      | true =>
        cases ws1 with
        | nil =>
          obtain ⟨gw, cw, c0⟩ := HR.out.st.words
          rw [List.length_nil] at c0
          have HE : Hid (P = none) := HPO.out.1 (HF.out.2 rfl)
          go_wp2_with fail
          refine bodyPost_ret (v := .tuple #[pV none 0 0, .int .i64 700]) (by simp [results, Tryz.results10, go_sem, o0]) rfl ?_
          exact ParseQ.no HE.out (HR.out.low.setCell (p := ⟨w.heap.size, 0, none⟩) (Nat.le_refl _) _)
        | cons w1 ws1 =>
          obtain ⟨gw, cw, c0⟩ := HR.out.st.words
          rw [List.length_cons] at c0
          have hl0 : (0 : Int) < (ws1.length : Int) + 1 := by omega
          have HE : Hid (P = none) := HPO.out.1 (HF.out.2 rfl)
          go_wp2_with fail
          refine bodyPost_ret (v := .tuple #[pV none 0 0, .int .i64 700]) (by simp [results, Tryz.results10, go_sem, o0]) rfl ?_
          exact ParseQ.no HE.out (HR.out.low.setCell (p := ⟨w.heap.size, 0, none⟩) (Nat.le_refl _) _)
      | false =>
        cases ws1 with
        | nil =>
          obtain ⟨gw, cw, c0⟩ := HR.out.st.words
          rw [List.length_nil] at c0
          have HOE : Hid (O = some (qs1.map (·.1))) := by
            obtain ⟨h1, h2⟩ := HF.out.1 rfl
            rw [rpg_end (by omega)] at h2
            exact h2.symm
          have hrp : Calls Tryz.prog 19 #[.agg #[.slice g1 qs1.length c1]] wr fun r w' => r = .returned (.bool (pmay (qs1.map (·.1)))) ∧ Below wr.heap.size wr w' := by
            have h := rprog_any g1 c1 (qs1.map (·.1)) wr HR.out.pd.defs
            rw [List.length_map] at h
            exact h
          obtain ⟨b, hb⟩ : ∃ b, pmay (qs1.map (·.1)) = b := ⟨_, rfl⟩
          rw [hb] at hrp
          have HB : Hid (pmay (qs1.map (·.1)) = b) := hb
          clear hb
          go_wp2_with fail
          refine hrp.mono ?_
          clear hrp
          rintro e w5 ⟨rfl, hb5⟩
          have hX5 := HR.out.out.on hb5
          have x5 := hX5.c0
          have y5 := (HR.out.box.on hb5).c0
          have g5 := hX5.frozen 0
          have l5 := hX5.lt
          have HX5 : Hid (Bx1 w5 w.heap.size (.slice none 0 0)) := hX5
          have HB5 : Hid (Below w.heap.size w w5) := below_next HR.out.low hb5
          have HP5 : Hid (Pd w5 (z + 2) (.slice g1 qs1.length c1) qs1) := HR.out.pd.on hb5
          clear hX5 hb5 p0 o0 of ol f1
          cases b with
          | false =>
            have HE : Hid (P = none) := HPO.out.2.2 _ HOE.out HB.out
            go_wp2_with fail
            refine bodyPost_ret (v := .tuple #[pV none 0 0, .int .i64 700]) (by simp [results, Tryz.results10, go_sem, x5]) rfl ?_
            exact ParseQ.no HE.out (HB5.out.setCell (p := ⟨w.heap.size, 0, none⟩) (Nat.le_refl _) _)
          | true =>
            have HE : Hid (P = some (qs1.map (·.1))) := HPO.out.2.1 _ HOE.out HB.out
            go_wp2_with fail
            refine bodyPost_ret (v := .tuple #[pV g1 qs1.length c1, .int .i64 0]) (by simp [results, Tryz.results10, go_sem, x5]) rfl ?_
            refine ⟨HB5.out.setCell (p := ⟨w.heap.size, 0, none⟩) (Nat.le_refl _) _, ?_⟩
            rw [HE.out]
            have hp := HP5.out.far HX5.out 0 (.slice g1 qs1.length c1)
            refine ⟨g1, c1, qs1, by simp, rfl, ?_⟩
            rw [List.length_map]
            exact ⟨own_rebase hp.own (fun k hk => by have h1 := (hp.own.lt k hk).1; have h2 := HR.out.ord; omega), hp.bodies⟩
        | cons w1 ws1 =>
          obtain ⟨gw, cw, c0⟩ := HR.out.st.words
          rw [List.length_cons] at c0
          have hl0 : (0 : Int) < (ws1.length : Int) + 1 := by omega
          by_cases h8 : 8 < qs1.length
          · have e8 : decide ((qs1.length : Int) ≤ 8) = false := decide_eq_false (by omega)
            have e8' : ¬ (qs1.length : Int) ≤ 8 := by omega
            have HNP : Hid (P = none) := HPO.out.1 (by
              obtain ⟨_, h2⟩ := HF.out.1 rfl
              rw [← h2]
              exact many_nop (by rw [List.length_map]; exact h8))
            have HPM : Hid (pmay (qs1.map (·.1)) = false) := pmay_many (by rw [List.length_map]; omega)
            clear h8
            have hrp : Calls Tryz.prog 19 #[.agg #[.slice g1 qs1.length c1]] wr fun r w' => r = .returned (.bool (pmay (qs1.map (·.1)))) ∧ Below wr.heap.size wr w' := by
              have h := rprog_any g1 c1 (qs1.map (·.1)) wr HR.out.pd.defs
              rw [List.length_map] at h
              exact h
            obtain ⟨b, hb⟩ : ∃ b, pmay (qs1.map (·.1)) = b := ⟨_, rfl⟩
            rw [hb] at hrp
            have HB : Hid (pmay (qs1.map (·.1)) = b) := hb
            clear hb
            go_wp2_with fail
            refine hrp.mono ?_
            clear hrp
            rintro e w5 ⟨rfl, hb5⟩
            have hX5 := HR.out.out.on hb5
            have x5 := hX5.c0
            have y5 := (HR.out.box.on hb5).c0
            have g5 := hX5.frozen 0
            have l5 := hX5.lt
            have HX5 : Hid (Bx1 w5 w.heap.size (.slice none 0 0)) := hX5
            have HB5 : Hid (Below w.heap.size w w5) := below_next HR.out.low hb5
            have HP5 : Hid (Pd w5 (z + 2) (.slice g1 qs1.length c1) qs1) := HR.out.pd.on hb5
            clear hX5 hb5 p0 o0 of ol f1
            cases b with
            | false =>
              have HE : Hid (P = none) := HNP.out
              go_wp2_with fail
              refine bodyPost_ret (v := .tuple #[pV none 0 0, .int .i64 700]) (by simp [results, Tryz.results10, go_sem, x5]) rfl ?_
              exact ParseQ.no HE.out (HB5.out.setCell (p := ⟨w.heap.size, 0, none⟩) (Nat.le_refl _) _)
            | true =>
              have h1 := HPM.out
              rw [HB.out] at h1
              cases h1
          · have e8 : decide ((qs1.length : Int) ≤ 8) = true := decide_eq_true (by omega)
            have e8' : (qs1.length : Int) ≤ 8 := by omega
            clear h8 o0 of ol
            have HLF : Hid (leftOf z wr = ws1.length + 1) := HR.out.st.left
            have HSA : Hid (SR (wr.setCell ⟨z, 2, none⟩ (.slice none 0 0)) z (w1 :: ws1) false [] none) := HR.out.st.clear
            have HKA : Hid (Kp z none wr (wr.setCell ⟨z, 2, none⟩ (.slice none 0 0))) := Kp.of_set _ _ _ _ _
            obtain ⟨gz, cz, z2, _, _⟩ := HR.out.st.body
            have zf := HR.out.st.free 2
            have HLB : Hid (∀ vB : List Wd, vB <:+ ws → vB.length ≤ 2049) := fun vB h => by have h1 := h.length_le; have h2 := HS0.out.2; omega
            have HZA : Hid (Sz (w1 :: ws1) []) := HS0.out.1.on HL.out.2 (by have := HL.out.2.length_le; simp at this ⊢; omega)
            have HMM : Hid (∃ m', m1 = m' + 1 ∧ rpg 2049 (m' + 1) (qs1.map (·.1)) (w1 :: ws1) = O ∧ ws1.length < m') := by
              obtain ⟨h1, h2⟩ := HF.out.1 rfl
              simp only [List.length_cons] at h1
              exact ⟨m1 - 1, by omega, by rw [show m1 - 1 + 1 = m1 by omega]; exact h2, by omega⟩
            go_wp2_with fail
            obtain ⟨wA, hwA⟩ : ∃ wA, wr.setCell ⟨z, 2, none⟩ (.slice none 0 0) = wA := ⟨_, rfl⟩
            rw [hwA] at HSA HKA ⊢
            clear hwA z2 zf p0 c0 f1 zl
            refine (word_any z (w1 :: ws1) false [] none wA HSA.out (by have := HZA.out.1; simp at this ⊢; omega) (t := w1) (v := ws1) rfl).mono ?_
            rintro e w1' ⟨rfl, hS1, hK1⟩
            have HS1 : Hid (SR w1' z ws1 false [] none) := hS1
            have HK1 : Hid (Kp z none wr w1') := HKA.out.next hK1
            have HZ1 : Hid (Sz ws1 []) := HZA.out.on (List.suffix_cons _ _) (by simp)
            clear hS1 hK1
            by_cases hc1 : w1 = [40]
            · have hq1 : ((Lx.ba w1).toList == [40]) = true := by rw [ba_is, hc1]; rfl
              have HC1 : Hid (w1 = [40]) := hc1
              clear hc1
              obtain ⟨t2, v2, hx2⟩ : ∃ t v, nxt ws1 = (t, v) := ⟨_, _, rfl⟩
              have HX2 : Hid (nxt ws1 = (t2, v2)) := hx2
              have HZ2 : Hid (Sz v2 []) := by
                have h := sfx_nxt ws1
                rw [hx2] at h
                exact HZ1.out.on h (by have := h.length_le; simp at this ⊢; exact this)
              have HV2 : Hid (v2 <:+ ws1) := by have h := sfx_nxt ws1; rw [hx2] at h; exact h
              clear hx2
              go_wp2_with fail
              refine (word_any z ws1 false [] none w1' HS1.out (by have := HZ1.out.1; simp at this; omega) HX2.out).mono ?_
              rintro e w2' ⟨rfl, hS2, hK2⟩
              have HS2 : Hid (SR w2' z v2 (false || ws1.isEmpty) [] none) := hS2
              have HK2 : Hid (Kp z none wr w2') := HK1.out.next hK2
              clear hS2 hK2
              by_cases hc2 : t2 = [100, 101, 102]
              · have hq2 : ((Lx.ba t2).toList == [100, 101, 102]) = true := by rw [ba_is, hc2]; rfl
                have HC2 : Hid (t2 = [100, 101, 102] ∧ ws1.isEmpty = false) := by
                  refine ⟨hc2, ?_⟩
                  cases hw : ws1 with
                  | nil => have h := HX2.out; rw [hw] at h; simp only [nxt, Prod.mk.injEq] at h; rw [← h.1] at hc2; cases hc2
                  | cons a b => rfl
                clear hc2
                obtain ⟨t3, v3, hx3⟩ : ∃ t v, nxt v2 = (t, v) := ⟨_, _, rfl⟩
                have HX3 : Hid (nxt v2 = (t3, v3)) := hx3
                have HZ3 : Hid (Sz v3 [] ∧ t3.length ≤ 4096 ∧ v3 <:+ v2 ∧ v3.length ≤ 2049) := by
                  have h1 := sfx_nxt v2
                  have h2 := nxt_len v2
                  have h3 : (nxt v2).1.length ≤ 4096 := by
                    cases hv : v2 with
                    | nil => simp [nxt]
                    | cons a b => exact HZ2.out.2 a (by rw [hv]; simp)
                  rw [hx3] at h1 h2 h3
                  dsimp only at h1 h2 h3
                  have h4 := HZ2.out.on (ps' := []) h1 (by omega)
                  have h5 := h1.length_le
                  have h6 := HLB.out v2 ((HV2.out.trans (List.suffix_cons _ _)).trans HL.out.2)
                  exact ⟨h4, h3, h1, by omega⟩
                clear hx3
                go_wp2_with fail
                refine (word_any z v2 (false || ws1.isEmpty) [] none w2' HS2.out (by have := HZ2.out.1; simp at this; omega) HX3.out).mono ?_
                rintro e wa3 ⟨rfl, hSa, hKa⟩
                have HSa3 : Hid (SR wa3 z v3 ((false || ws1.isEmpty) || v2.isEmpty) [] none) := hSa
                have HKa3 : Hid (Kp z none wr wa3) := HK2.out.next hKa
                clear hSa hKa
                go_wp2_with fail
                refine (whole_any z v3 ((false || ws1.isEmpty) || v2.isEmpty) [] none wa3 t3 3 HSa3.out HZ3.out.2.1 (by decide) (by decide)).mono ?_
                intro e wb3 hqb
                obtain ⟨x3, db3, rfl, hKb, hSb, hyb, hnb⟩ := hqb.flag
                have HSb3 : Hid (SR wb3 z v3 db3 [] none) := hSb
                have HKb3 : Hid (Kp z none wr wb3) := HKa3.out.next hKb
                have HFb3 : Hid ((db3 = false → ((false || ws1.isEmpty) || v2.isEmpty) = false ∧ lim 3 (dg t3) = some x3) ∧ (db3 = true → ((false || ws1.isEmpty) || v2.isEmpty) = true ∨ lim 3 (dg t3) = none)) := ⟨hyb, hnb⟩
                clear hqb hKb hSb hyb hnb
                go_wp2_with fail
                refine (expr_any 2049 v3 db3 [] none wb3 z HZ3.out.2.2.2 HZ3.out.1 HSb3.out).mono ?_
                rintro e wc3 ⟨ws3, dc3, qe3, rc3, xe3, rfl, hPc, hlc, hsc, hyc, hnc⟩
                have HSc3 : Hid (SR wc3 z ws3 dc3 qe3 rc3) := hPc.st
                have HKc3 : Hid (Kp z none wr wc3) := HKb3.out.next hPc.kp
                have HFc3 : Hid ((dc3 = false → db3 = false ∧ rp 2049 v3 [] = some (ws3, qe3.map (·.1))) ∧ (dc3 = true → db3 = true ∨ Fl (rp 2049 v3 [])) ∧ ws3 <:+ v3) := ⟨fun h => ⟨(hyc h).1, (hyc h).2.1⟩, hnc, hsc.trans (sfx_nxt _)⟩
                clear hPc hlc hsc hyc hnc
                obtain ⟨t6, v6, hx6⟩ : ∃ t v, nxt ws3 = (t, v) := ⟨_, _, rfl⟩
                have HX6 : Hid (nxt ws3 = (t6, v6)) := hx6
                have HZ6 : Hid (ws3.length ≤ 4096 ∧ v6 <:+ ws1) := by
                  have h := sfx_nxt ws3
                  rw [hx6] at h
                  have h1 := (HFc3.out.2.2.trans HZ3.out.2.2.1).trans HV2.out
                  have h2 := h1.length_le
                  have h3 := HZ1.out.1
                  simp at h3
                  exact ⟨by omega, h.trans h1⟩
                clear hx6
                go_wp2_with fail
                refine (word_any z ws3 dc3 qe3 rc3 wc3 HSc3.out HZ6.out.1 HX6.out).mono ?_
                rintro e w6 ⟨rfl, hS6, hK6⟩
                have HS6 : Hid (SR w6 z v6 (dc3 || ws3.isEmpty) qe3 rc3) := hS6
                have HK6 : Hid (Kp z none wr w6) := HKc3.out.next hK6
                clear hS6 hK6
                have HNO0 : Hid ((dc3 = true → NoP O) ∧ (t6 ≠ [41] → NoP O) ∧ (dc3 = false → t6 = [41] → rpg 2049 (m1 - 1) (qs1.map (·.1) ++ [⟨x3, qe3.map (·.1)⟩]) v6 = O)) := by
                  obtain ⟨m', rfl, hro, hlm⟩ := HMM.out
                  have hxx : nxt (w1 :: ws1) = ([40], ws1) := by rw [← HC1.out]; rfl
                  have hx2 : nxt ws1 = ([100, 101, 102], v2) := by rw [← HC2.out.1]; exact HX2.out
                  have hbad : dc3 = true → NoP O := fun h => by
                    rw [← hro]
                    refine nod_nop (nod_2 hxx hx2 HX3.out ?_)
                    rcases HFc3.out.2.1 h with h1 | h1
                    · rcases HFb3.out.2 h1 with h2 | h2
                      · left
                        rw [HC2.out.2] at h2
                        have h3 : v2 = [] := by simpa using h2
                        have h4 := HX3.out
                        rw [h3] at h4
                        simp only [nxt, Prod.mk.injEq] at h4
                        rw [← h4.1, dg_nil]; rfl
                      · exact Or.inl h2
                    · exact Or.inr h1
                  refine ⟨hbad, fun h => ?_, fun h ht => ?_⟩
                  · cases hd : dc3 with
                    | true => exact hbad hd
                    | false =>
                      rw [← hro]
                      exact nod_nop (nod_3 hxx hx2 HX3.out (HFc3.out.1 hd).2 HX6.out h)
                  · have h1 := HFc3.out.1 h
                    have h2 := (HFb3.out.1 h1.1).2
                    rw [Nat.add_sub_cancel, ← hro, rpg_on (yes_d hxx hx2 HX3.out h2 h1.2 (by rw [← ht]; exact HX6.out))]
                have HLX : Hid (qs1.length + 1 + v6.length ≤ 2048 ∧ v6 <:+ ws) := by
                  have h2 := HZ6.out.2.length_le
                  have h3 := HL.out.1
                  simp only [List.length_cons] at h3
                  exact ⟨by omega, (HZ6.out.2.trans (List.suffix_cons _ _)).trans HL.out.2⟩
                have HLT : Hid (v6.length < ws1.length + 1) := by have h2 := HZ6.out.2.length_le; show _ < _; omega
                by_cases hc6 : t6 = [41]
                · have hq6 : ((Lx.ba t6).toList == [41]) = true := by rw [ba_is, hc6]; rfl
                  have hq6' : ((Lx.ba t6).toList != [41]) = false := by rw [bne, hq6]; rfl
                  obtain ⟨d6, hd6⟩ : ∃ d6, (dc3 || ws3.isEmpty) = d6 := ⟨_, rfl⟩
                  have HFX : Hid (PF O (m1 - 1) (qs1.map (·.1) ++ [⟨x3, qe3.map (·.1)⟩]) v6 d6) := by
                    have hws : ws3.isEmpty = false := by
                      cases hw : ws3 with
                      | nil => have h := HX6.out; rw [hw] at h; simp only [nxt, Prod.mk.injEq] at h; rw [← h.1] at hc6; cases hc6
                      | cons a b => rfl
                    rw [hws, Bool.or_false] at hd6
                    obtain ⟨m', hm, _, hlm⟩ := HMM.out
                    refine ⟨fun h => ⟨?_, HNO0.out.2.2 (hd6.trans h) hc6⟩, fun h => HNO0.out.1 (hd6.trans h)⟩
                    have := HLT.out; omega
                  have HPr : Hid (Rpr w z w6 v6 d6 qe3 rc3 g1 c1 qs1) := HR.out.next HK6.out (by rw [← hd6]; exact HS6.out)
                  clear hc6 hd6
                  go_wp2_with fail
                  obtain ⟨gb, cb, bb, hBd, _⟩ := HPr.out.st.body
                  have HEx : Hid (ExsT w6 gb (qe3.map (·.1))) := hBd.exsT
                  have p0 := HPr.out.box.c0
                  have pf := HPr.out.box.frozen 0
                  have pl := HPr.out.box.lt
                  have zl := HPr.out.st.lt
                  have hlen : (qs1.length + 1) * 32 ≤ 140737488355328 := by have := HL.out.1; omega
                  have hbs : z + 2 ≤ w6.heap.size := by omega
                  obtain ⟨mb, hmb⟩ : ∃ mb, qe3.length = mb := ⟨_, rfl⟩
                  have HMB : Hid (qe3.length = mb) := hmb
                  rw [hmb] at bb
                  have HCS : Hid ((#[.int .i64 x3, .slice gb mb cb] : Array Value).toList = c2 ((⟨x3, qe3.map (·.1)⟩, gb, cb) : Dt)) := by
                    show _ = _
                    rw [← HMB.out]; simp [c2]
                  clear hBd hmb
                  go_wp2_with fail
                  go_region_law
                    (refine step_dfD rfl _ _ rfl (z + 2) (.slice g1 qs1.length c1) qs1 (⟨x3, qe3.map (·.1)⟩, gb, cb) _ HCS.out rfl w6.heap.size rfl rfl HPr.out.pd HEx.out hbs hlen ?_; intro v7 w7 hP7 hg7; obtain ⟨g7, k7, rfl⟩ := hP7.val; obtain ⟨hb7, hR7⟩ := Rpr.put HPr.out hP7 hg7; have y0 := hb7.c0; have y1 := hb7.frozen 0; have yl := hb7.lt; have HR7 : Hid _ := hR7; have hl7 : (qs1 ++ [((⟨x3, qe3.map (·.1)⟩, gb, cb) : Dt)]).length = qs1.length + 1 := (by rw [List.length_append]; rfl); rw [hl7] at HR7 ⊢; clear hP7 hg7 hb7 hR7 hl7)
                  all_goals
                    go_wp2_with fail
                    go_roundw
                    case rel => exact ⟨v6, d6, qe3, rc3, g7, k7, qs1 ++ [(⟨x3, qe3.map (·.1)⟩, gb, cb)], m1 - 1, HR7, by rw [List.map_append]; exact HFX, by show _ ∧ _; rw [List.length_append, List.length_singleton]; exact HLX.out⟩
                    case measure =>
                      rw [HR7.out.st.left, HLF.out]
                      exact HLT.out
                · have hq6 : ((Lx.ba t6).toList == [41]) = false := by rw [ba_is]; simpa using hc6
                  have hq6' : ((Lx.ba t6).toList != [41]) = true := by rw [bne, hq6]; rfl
                  have ff := HS6.out.flag
                  have fr := HS6.out.free 1
                  have HFX : Hid (PF O (m1 - 1) (qs1.map (·.1) ++ [⟨x3, qe3.map (·.1)⟩]) v6 true) := ⟨(fun h => by cases h), fun _ => HNO0.out.2.1 hc6⟩
                  have HPr : Hid (Rpr w z (w6.setCell ⟨z, 1, none⟩ (.bool true)) v6 true qe3 rc3 g1 c1 qs1) := HR.out.next (HK6.out.next (Kp.of_set _ _ _ _ _)) (HS6.out.setFlag true)
                  clear hc6
                  go_wp2_with fail
                  obtain ⟨wd, hwd⟩ : ∃ wd, w6.setCell ⟨z, 1, none⟩ (.bool true) = wd := ⟨_, rfl⟩
                  rw [hwd] at HPr ⊢
                  clear hwd ff fr
                  obtain ⟨gb, cb, bb, hBd, _⟩ := HPr.out.st.body
                  have HEx : Hid (ExsT wd gb (qe3.map (·.1))) := hBd.exsT
                  have p0 := HPr.out.box.c0
                  have pf := HPr.out.box.frozen 0
                  have pl := HPr.out.box.lt
                  have zl := HPr.out.st.lt
                  have hlen : (qs1.length + 1) * 32 ≤ 140737488355328 := by have := HL.out.1; omega
                  have hbs : z + 2 ≤ wd.heap.size := by omega
                  obtain ⟨mb, hmb⟩ : ∃ mb, qe3.length = mb := ⟨_, rfl⟩
                  have HMB : Hid (qe3.length = mb) := hmb
                  rw [hmb] at bb
                  have HCS : Hid ((#[.int .i64 x3, .slice gb mb cb] : Array Value).toList = c2 ((⟨x3, qe3.map (·.1)⟩, gb, cb) : Dt)) := by
                    show _ = _
                    rw [← HMB.out]; simp [c2]
                  clear hBd hmb
                  go_wp2_with fail
                  go_region_law
                    (refine step_dfD rfl _ _ rfl (z + 2) (.slice g1 qs1.length c1) qs1 (⟨x3, qe3.map (·.1)⟩, gb, cb) _ HCS.out rfl wd.heap.size rfl rfl HPr.out.pd HEx.out hbs hlen ?_; intro v7 w7 hP7 hg7; obtain ⟨g7, k7, rfl⟩ := hP7.val; obtain ⟨hb7, hR7⟩ := Rpr.put HPr.out hP7 hg7; have y0 := hb7.c0; have y1 := hb7.frozen 0; have yl := hb7.lt; have HR7 : Hid _ := hR7; have hl7 : (qs1 ++ [((⟨x3, qe3.map (·.1)⟩, gb, cb) : Dt)]).length = qs1.length + 1 := (by rw [List.length_append]; rfl); rw [hl7] at HR7 ⊢; clear hP7 hg7 hb7 hR7 hl7)
                  all_goals
                    go_wp2_with fail
                    go_roundw
                    case rel => exact ⟨v6, true, qe3, rc3, g7, k7, qs1 ++ [(⟨x3, qe3.map (·.1)⟩, gb, cb)], m1 - 1, HR7, by rw [List.map_append]; exact HFX, by show _ ∧ _; rw [List.length_append, List.length_singleton]; exact HLX.out⟩
                    case measure =>
                      rw [HR7.out.st.left, HLF.out]
                      exact HLT.out
              · have hq2 : ((Lx.ba t2).toList == [100, 101, 102]) = false := by rw [ba_is]; simpa using hc2
                have HNO : Hid (NoP O) := by
                  obtain ⟨m', rfl, hro, _⟩ := HMM.out
                  show NoP O
                  rw [← hro]
                  exact nod_nop (Or.inl (nod_1 (t1 := w1) (v1 := ws1) rfl HX2.out rfl (Or.inr hc2)))
                clear hc2
                obtain ⟨t4, v4, hx4⟩ : ∃ t v, nxt v2 = (t, v) := ⟨_, _, rfl⟩
                have HX4 : Hid (nxt v2 = (t4, v4)) := hx4
                have HZ4 : Hid (Sz v4 [] ∧ t4.length ≤ 4096 ∧ v4 <:+ v2 ∧ v4.length ≤ 2049) := by
                  have h1 := sfx_nxt v2
                  have h2 := nxt_len v2
                  have h3 : (nxt v2).1.length ≤ 4096 := by
                    cases hv : v2 with
                    | nil => simp [nxt]
                    | cons a b => exact HZ2.out.2 a (by rw [hv]; simp)
                  rw [hx4] at h1 h2 h3
                  dsimp only at h1 h2 h3
                  have h4 := HZ2.out.on (ps' := []) h1 (by omega)
                  have h5 := h1.length_le
                  have h6 := HLB.out v2 ((HV2.out.trans (List.suffix_cons _ _)).trans HL.out.2)
                  exact ⟨h4, h3, h1, by omega⟩
                clear hx4
                go_wp2_with fail
                refine (word_any z v2 (false || ws1.isEmpty) [] none w2' HS2.out (by have := HZ2.out.1; simp at this; omega) HX4.out).mono ?_
                rintro e wa4 ⟨rfl, hSa, hKa⟩
                have HSa4 : Hid (SR wa4 z v4 ((false || ws1.isEmpty) || v2.isEmpty) [] none) := hSa
                have HKa4 : Hid (Kp z none wr wa4) := HK2.out.next hKa
                clear hSa hKa
                go_wp2_with fail
                refine (whole_any z v4 ((false || ws1.isEmpty) || v2.isEmpty) [] none wa4 t4 3 HSa4.out HZ4.out.2.1 (by decide) (by decide)).mono ?_
                intro e wb4 hqb
                obtain ⟨x4, db4, rfl, hKb, hSb, hyb, hnb⟩ := hqb.flag
                have HSb4 : Hid (SR wb4 z v4 db4 [] none) := hSb
                have HKb4 : Hid (Kp z none wr wb4) := HKa4.out.next hKb
                have HFb4 : Hid ((db4 = false → ((false || ws1.isEmpty) || v2.isEmpty) = false ∧ lim 3 (dg t4) = some x4) ∧ (db4 = true → ((false || ws1.isEmpty) || v2.isEmpty) = true ∨ lim 3 (dg t4) = none)) := ⟨hyb, hnb⟩
                clear hqb hKb hSb hyb hnb
                go_wp2_with fail
                refine (expr_any 2049 v4 db4 [] none wb4 z HZ4.out.2.2.2 HZ4.out.1 HSb4.out).mono ?_
                rintro e wc4 ⟨ws4, dc4, qe4, rc4, xe4, rfl, hPc, hlc, hsc, hyc, hnc⟩
                have HSc4 : Hid (SR wc4 z ws4 dc4 qe4 rc4) := hPc.st
                have HKc4 : Hid (Kp z none wr wc4) := HKb4.out.next hPc.kp
                have HFc4 : Hid ((dc4 = false → db4 = false ∧ rp 2049 v4 [] = some (ws4, qe4.map (·.1))) ∧ (dc4 = true → db4 = true ∨ Fl (rp 2049 v4 [])) ∧ ws4 <:+ v4) := ⟨fun h => ⟨(hyc h).1, (hyc h).2.1⟩, hnc, hsc.trans (sfx_nxt _)⟩
                clear hPc hlc hsc hyc hnc
                have ff := HSc4.out.flag
                have fr := HSc4.out.free 1
                have HPr : Hid (Rpr w z (wc4.setCell ⟨z, 1, none⟩ (.bool true)) ws4 true qe4 rc4 g1 c1 qs1) := HR.out.next (HKc4.out.next (Kp.of_set _ _ _ _ _)) (HSc4.out.setFlag true)
                have HFX : Hid (PF O (m1 - 1) (qs1.map (·.1) ++ [⟨x4, qe4.map (·.1)⟩]) ws4 true) := ⟨(fun h => by cases h), fun _ => HNO.out⟩
                have HLX : Hid (qs1.length + 1 + ws4.length ≤ 2048 ∧ ws4 <:+ ws) := by
                  have h1 := (HFc4.out.2.2.trans HZ4.out.2.2.1).trans HV2.out
                  have h2 := h1.length_le
                  have h3 := HL.out.1
                  simp only [List.length_cons] at h3
                  exact ⟨by omega, (h1.trans (List.suffix_cons _ _)).trans HL.out.2⟩
                have HLT : Hid (ws4.length < ws1.length + 1) := by
                  have h1 := ((HFc4.out.2.2.trans HZ4.out.2.2.1).trans HV2.out).length_le
                  show _ < _; omega
                go_wp2_with fail
                obtain ⟨wd, hwd⟩ : ∃ wd, wc4.setCell ⟨z, 1, none⟩ (.bool true) = wd := ⟨_, rfl⟩
                rw [hwd] at HPr ⊢
                clear hwd ff fr
                obtain ⟨gb, cb, bb, hBd, _⟩ := HPr.out.st.body
                have HEx : Hid (ExsT wd gb (qe4.map (·.1))) := hBd.exsT
                have p0 := HPr.out.box.c0
                have pf := HPr.out.box.frozen 0
                have pl := HPr.out.box.lt
                have zl := HPr.out.st.lt
                have hlen : (qs1.length + 1) * 32 ≤ 140737488355328 := by have := HL.out.1; omega
                have hbs : z + 2 ≤ wd.heap.size := by omega
                obtain ⟨mb, hmb⟩ : ∃ mb, qe4.length = mb := ⟨_, rfl⟩
                have HMB : Hid (qe4.length = mb) := hmb
                rw [hmb] at bb
                have HCS : Hid ((#[.int .i64 x4, .slice gb mb cb] : Array Value).toList = c2 ((⟨x4, qe4.map (·.1)⟩, gb, cb) : Dt)) := by
                  show _ = _
                  rw [← HMB.out]; simp [c2]
                clear hBd hmb
                go_wp2_with fail
                go_region_law
                  (refine step_dfD rfl _ _ rfl (z + 2) (.slice g1 qs1.length c1) qs1 (⟨x4, qe4.map (·.1)⟩, gb, cb) _ HCS.out rfl wd.heap.size rfl rfl HPr.out.pd HEx.out hbs hlen ?_; intro v7 w7 hP7 hg7; obtain ⟨g7, k7, rfl⟩ := hP7.val; obtain ⟨hb7, hR7⟩ := Rpr.put HPr.out hP7 hg7; have y0 := hb7.c0; have y1 := hb7.frozen 0; have yl := hb7.lt; have HR7 : Hid _ := hR7; have hl7 : (qs1 ++ [((⟨x4, qe4.map (·.1)⟩, gb, cb) : Dt)]).length = qs1.length + 1 := (by rw [List.length_append]; rfl); rw [hl7] at HR7 ⊢; clear hP7 hg7 hb7 hR7 hl7)
                all_goals
                  go_wp2_with fail
                  go_roundw
                  case rel => exact ⟨ws4, true, qe4, rc4, g7, k7, qs1 ++ [(⟨x4, qe4.map (·.1)⟩, gb, cb)], m1 - 1, HR7, by rw [List.map_append]; exact HFX, by show _ ∧ _; rw [List.length_append, List.length_singleton]; exact HLX.out⟩
                  case measure =>
                    rw [HR7.out.st.left, HLF.out]
                    exact HLT.out
            · have hq1 : ((Lx.ba w1).toList == [40]) = false := by rw [ba_is]; simpa using hc1
              have HNO : Hid (NoP O) := by
                obtain ⟨m', rfl, hro, _⟩ := HMM.out
                show NoP O
                rw [← hro]
                exact nod_nop (Or.inl (nod_1 (t1 := w1) (v1 := ws1) rfl rfl rfl (Or.inl hc1)))
              clear hc1
              obtain ⟨t5, v5, hx5⟩ : ∃ t v, nxt ws1 = (t, v) := ⟨_, _, rfl⟩
              have HX5 : Hid (nxt ws1 = (t5, v5)) := hx5
              have HZ5 : Hid (Sz v5 [] ∧ t5.length ≤ 4096 ∧ v5 <:+ ws1 ∧ v5.length ≤ 2049) := by
                have h1 := sfx_nxt ws1
                have h2 := nxt_len ws1
                have h3 : (nxt ws1).1.length ≤ 4096 := by
                  cases hv : ws1 with
                  | nil => simp [nxt]
                  | cons a b => exact HZ1.out.2 a (by rw [hv]; simp)
                rw [hx5] at h1 h2 h3
                dsimp only at h1 h2 h3
                have h4 := HZ1.out.on (ps' := []) h1 (by omega)
                have h5 := h1.length_le
                have h6 := HLB.out ws1 ((List.suffix_cons _ _).trans HL.out.2)
                exact ⟨h4, h3, h1, by omega⟩
              clear hx5
              go_wp2_with fail
              refine (word_any z ws1 false [] none w1' HS1.out (by have := HZ1.out.1; simp at this; omega) HX5.out).mono ?_
              rintro e wa5 ⟨rfl, hSa, hKa⟩
              have HSa5 : Hid (SR wa5 z v5 (false || ws1.isEmpty) [] none) := hSa
              have HKa5 : Hid (Kp z none wr wa5) := HK1.out.next hKa
              clear hSa hKa
              go_wp2_with fail
              refine (whole_any z v5 (false || ws1.isEmpty) [] none wa5 t5 3 HSa5.out HZ5.out.2.1 (by decide) (by decide)).mono ?_
              intro e wb5 hqb
              obtain ⟨x5, db5, rfl, hKb, hSb, hyb, hnb⟩ := hqb.flag
              have HSb5 : Hid (SR wb5 z v5 db5 [] none) := hSb
              have HKb5 : Hid (Kp z none wr wb5) := HKa5.out.next hKb
              have HFb5 : Hid ((db5 = false → (false || ws1.isEmpty) = false ∧ lim 3 (dg t5) = some x5) ∧ (db5 = true → (false || ws1.isEmpty) = true ∨ lim 3 (dg t5) = none)) := ⟨hyb, hnb⟩
              clear hqb hKb hSb hyb hnb
              go_wp2_with fail
              refine (expr_any 2049 v5 db5 [] none wb5 z HZ5.out.2.2.2 HZ5.out.1 HSb5.out).mono ?_
              rintro e wc5 ⟨ws5, dc5, qe5, rc5, xe5, rfl, hPc, hlc, hsc, hyc, hnc⟩
              have HSc5 : Hid (SR wc5 z ws5 dc5 qe5 rc5) := hPc.st
              have HKc5 : Hid (Kp z none wr wc5) := HKb5.out.next hPc.kp
              have HFc5 : Hid ((dc5 = false → db5 = false ∧ rp 2049 v5 [] = some (ws5, qe5.map (·.1))) ∧ (dc5 = true → db5 = true ∨ Fl (rp 2049 v5 [])) ∧ ws5 <:+ v5) := ⟨fun h => ⟨(hyc h).1, (hyc h).2.1⟩, hnc, hsc.trans (sfx_nxt _)⟩
              clear hPc hlc hsc hyc hnc
              have ff := HSc5.out.flag
              have fr := HSc5.out.free 1
              have HPr : Hid (Rpr w z (wc5.setCell ⟨z, 1, none⟩ (.bool true)) ws5 true qe5 rc5 g1 c1 qs1) := HR.out.next (HKc5.out.next (Kp.of_set _ _ _ _ _)) (HSc5.out.setFlag true)
              have HFX : Hid (PF O (m1 - 1) (qs1.map (·.1) ++ [⟨x5, qe5.map (·.1)⟩]) ws5 true) := ⟨(fun h => by cases h), fun _ => HNO.out⟩
              have HLX : Hid (qs1.length + 1 + ws5.length ≤ 2048 ∧ ws5 <:+ ws) := by
                have h1 := (HFc5.out.2.2.trans HZ5.out.2.2.1).trans (List.suffix_refl ws1)
                have h2 := h1.length_le
                have h3 := HL.out.1
                simp only [List.length_cons] at h3
                exact ⟨by omega, (h1.trans (List.suffix_cons _ _)).trans HL.out.2⟩
              have HLT : Hid (ws5.length < ws1.length + 1) := by
                have h1 := ((HFc5.out.2.2.trans HZ5.out.2.2.1).trans (List.suffix_refl ws1)).length_le
                show _ < _; omega
              go_wp2_with fail
              obtain ⟨wd, hwd⟩ : ∃ wd, wc5.setCell ⟨z, 1, none⟩ (.bool true) = wd := ⟨_, rfl⟩
              rw [hwd] at HPr ⊢
              clear hwd ff fr
              obtain ⟨gb, cb, bb, hBd, _⟩ := HPr.out.st.body
              have HEx : Hid (ExsT wd gb (qe5.map (·.1))) := hBd.exsT
              have p0 := HPr.out.box.c0
              have pf := HPr.out.box.frozen 0
              have pl := HPr.out.box.lt
              have zl := HPr.out.st.lt
              have hlen : (qs1.length + 1) * 32 ≤ 140737488355328 := by have := HL.out.1; omega
              have hbs : z + 2 ≤ wd.heap.size := by omega
              obtain ⟨mb, hmb⟩ : ∃ mb, qe5.length = mb := ⟨_, rfl⟩
              have HMB : Hid (qe5.length = mb) := hmb
              rw [hmb] at bb
              have HCS : Hid ((#[.int .i64 x5, .slice gb mb cb] : Array Value).toList = c2 ((⟨x5, qe5.map (·.1)⟩, gb, cb) : Dt)) := by
                show _ = _
                rw [← HMB.out]; simp [c2]
              clear hBd hmb
              go_wp2_with fail
              go_region_law
                (refine step_dfD rfl _ _ rfl (z + 2) (.slice g1 qs1.length c1) qs1 (⟨x5, qe5.map (·.1)⟩, gb, cb) _ HCS.out rfl wd.heap.size rfl rfl HPr.out.pd HEx.out hbs hlen ?_; intro v7 w7 hP7 hg7; obtain ⟨g7, k7, rfl⟩ := hP7.val; obtain ⟨hb7, hR7⟩ := Rpr.put HPr.out hP7 hg7; have y0 := hb7.c0; have y1 := hb7.frozen 0; have yl := hb7.lt; have HR7 : Hid _ := hR7; have hl7 : (qs1 ++ [((⟨x5, qe5.map (·.1)⟩, gb, cb) : Dt)]).length = qs1.length + 1 := (by rw [List.length_append]; rfl); rw [hl7] at HR7 ⊢; clear hP7 hg7 hb7 hR7 hl7)
              all_goals
                go_wp2_with fail
                go_roundw
                case rel => exact ⟨ws5, true, qe5, rc5, g7, k7, qs1 ++ [(⟨x5, qe5.map (·.1)⟩, gb, cb)], m1 - 1, HR7, by rw [List.map_append]; exact HFX, by show _ ∧ _; rw [List.length_append, List.length_singleton]; exact HLX.out⟩
                case measure =>
                  rw [HR7.out.st.left, HLF.out]
                  exact HLT.out
end Go.Proofs.YtighcikiaddfcaaGreatDoor

namespace Go.Proofs.YtighcikiaddfcaaGreatDoor
open Go.RowKit
set_option linter.unusedVariables false

/-- The body's row and its parts' kids lie from here on. -/
def KB (B : Nat) (w : World) (g : Option Addr) (xs : List Ex) : Prop := xs = [] ∨ ∃ b cs, g = some ⟨b, 0, none⟩ ∧ B ≤ b ∧ Rw w b cs ∧ ∀ (j : Nat) x, xs[j]? = some x → ∃ gk ck, cs[j * 4 + 3]? = some (.slice gk x.kids.length ck) ∧ (x.kids = [] ∨ ∃ a, gk = some a ∧ B ≤ a.block)
theorem at_c4 : ∀ (ps : List Pt) (j : Nat) (p : Pt), ps[j]? = some p → (ps.flatMap c4)[j * 4 + 3]? = some (.slice p.2.1 p.1.kids.length p.2.2)
  | [], j, p, h => by simp at h
  | q :: ps, 0, p, h => by
    have : q = p := by simpa using h
    subst this
    rfl
  | q :: ps, j + 1, p, h => by
    have h0 := at_c4 ps j p (by simpa using h)
    rw [List.flatMap_cons, show (j + 1) * 4 + 3 = (j * 4 + 3) + 1 + 1 + 1 + 1 by omega]
    simpa [c4] using h0
theorem KB.of_bdo {W : World} {base B : Nat} {g : Option Addr} {n c : Nat} {ps : List Pt} (h : BdO W base (.slice g n c) ps) (hB : B ≤ base) : KB B W g (ps.map (·.1)) := by
  rcases h.own.2 with ⟨_, h3⟩ | ⟨b, cap, cur, hv, hb, hh, _, _, _, ht⟩
  · exact Or.inl (by rw [List.length_eq_zero_iff.1 h3]; rfl)
  · simp at hv
    obtain ⟨rfl, _⟩ := hv
    refine Or.inr ⟨b, cur, rfl, by omega, hh, fun j x hx => ?_⟩
    rw [List.getElem?_map] at hx
    cases hp : ps[j]? with
    | none => rw [hp] at hx; cases hx
    | some p =>
      rw [hp] at hx
      cases hx
      have h4 := at_c4 ps j p hp
      rw [← ht, List.getElem?_take] at h4
      split at h4
      · refine ⟨p.2.1, p.2.2, by simpa using h4, ?_⟩
        rcases (h.kids p (List.mem_of_getElem? hp)).2 with ⟨_, h5⟩ | ⟨b', cap', cur', hv', hb', _⟩
        · exact Or.inl (List.length_eq_zero_iff.1 h5)
        · simp at hv'
          exact Or.inr ⟨_, hv'.1, by show B ≤ b'; omega⟩
      · cases h4
theorem KB.row {B : Nat} {W W' : World} {g : Option Addr} {xs : List Ex} (h : KB B W g xs) (hk : ∀ b cs, Rw W b cs → Rw W' b cs) : KB B W' g xs := by
  rcases h with h | ⟨b, cs, h1, h2, h3, h4⟩
  · exact Or.inl h
  · exact Or.inr ⟨b, cs, h1, h2, hk b cs h3, h4⟩
theorem KB.on {B : Nat} {W W' : World} {g : Option Addr} {xs : List Ex} (h : KB B W g xs) (hb : Below W.heap.size W W') : KB B W' g xs := h.row (fun b cs hr => hr.on hb)
theorem KB.off {B : Nat} {W W' : World} {z : Nat} {g : Option Addr} {xs : List Ex} {u v : Value} (h : KB B W g xs) (hr : Rdr W z u v) (hk : Kp z none W W') : KB B W' g xs :=
  h.row (fun b cs hR => (hk.block b hR.lt (fun e => by subst e; have := (show W.heap[b]? = _ from hR).symm.trans hr; simp at this) (by simp)).trans hR)
theorem KB.kept {B : Nat} {W W' : World} {g : Option Addr} {xs : List Ex} {row : Option Nat} (h : KB B W g xs) (hg : W.grownBy W' row) (hr : Only36 W row) : KB B W' g xs :=
  h.row (fun b cs hR => (hg.block b hR.lt (only_ne hr hR (by decide))).trans hR)
theorem KB.far {B : Nat} {W : World} {g : Option Addr} {xs : List Ex} (h : KB B W g xs) {z : Nat} {u0 : Value} (hx : Bx1 W z u0) (j : Nat) (u : Value) : KB B (W.setCell ⟨z, j, none⟩ u) g xs :=
  h.row (fun b cs hR => hR.other j u (fun e => by subst e; have := (show W.heap[b]? = _ from hR).symm.trans hx; simp at this))

/-- How readProgram ends. -/
def ProgB (o : Option (List Df)) (w : World) (e : Ending) (w' : World) : Prop :=
  Below w.heap.size w w' ∧ match o with
  | none => e = .returned (.tuple #[.agg #[.slice none 0 0], .bool false])
  | some ds => ∃ g c qs, e = .returned (.tuple #[.agg #[.slice g ds.length c], .bool true]) ∧ qs.map (·.1) = ds ∧ Pd w' w.heap.size (.slice g ds.length c) qs ∧ ∀ q ∈ qs, KB w.heap.size w' q.2.1 q.1.body
/-- What stands ahead of each definition. -/
structure Rpb (w : World) (wr : World) (ws : List Wd) (ps : List Pt) (r : Option Nat) (g : Option Addr) (c : Nat) (qs : List Dt) : Prop where
  st : St wr (w.heap.size + 2) ws ps r
  pd : Pd wr (w.heap.size + 3) (.slice g qs.length c) qs
  box : Bx1 wr (w.heap.size + 1) (.slice g qs.length c)
  out : Bx1 wr w.heap.size (.slice none 0 0)
  low : Below w.heap.size w wr
  few : qs.length + ws.length ≤ 4096
  kb : ∀ q ∈ qs, KB w.heap.size wr q.2.1 q.1.body
theorem Rpb.words {w wr : World} {ws : List Wd} {ps : List Pt} {r : Option Nat} {g : Option Addr} {c : Nat} {qs : List Dt} (h : Rpb w wr ws ps r g c qs) : ∃ g' c', wr.cell? ⟨w.heap.size + 2, 0, none⟩ = some (.slice g' ws.length c') := h.st.words
/-- A definition has been read. -/
theorem Rpb.read {w wr w2 : World} {ws ws2 : List Wd} {ps qs2 : List Pt} {r r2 : Option Nat} {g g2 : Option Addr} {c c2 : Nat} {qs : List Dt} {d : Df} (h : Rpb w wr ws ps r g c qs) (hK : Kp (w.heap.size + 2) none wr w2)
    (hS : St w2 (w.heap.size + 2) ws2 qs2 r2) (hm : qs2.map (·.1) = d.body) (hB : BdO w2 wr.heap.size (.slice g2 d.body.length c2) qs2) (hl : ws2.length < ws.length) :
    Pd w2 (w.heap.size + 3) (.slice g qs.length c) qs ∧ ExsT w2 g2 d.body ∧ Bx1 w2 (w.heap.size + 1) (.slice g qs.length c) ∧ Bx1 w2 w.heap.size (.slice none 0 0) ∧ Below w.heap.size w w2 ∧ St w2 (w.heap.size + 2) ws2 qs2 r2 ∧ qs.length + 1 + ws2.length ≤ 4096 ∧ w.heap.size + 3 ≤ w2.heap.size ∧ (∀ q ∈ qs, KB w.heap.size w2 q.2.1 q.1.body) ∧ KB w.heap.size w2 g2 d.body := by
  obtain ⟨u, v, hr⟩ := h.st.rdr
  have hlen : qs2.length = d.body.length := by rw [← hm, List.length_map]
  rw [← hlen] at hB
  have hE := hB.exsT
  rw [hm] at hE
  have hz := hS.lt
  have hf := h.few
  have hkb := (KB.of_bdo hB (h.low.size))
  rw [hm] at hkb
  exact ⟨h.pd.off hr hK (by omega), hE, h.box.kp hK (by omega) (by simp), h.out.kp hK (by omega) (by simp), Kp.low h.low hK (by omega), hS, by omega, by omega, fun q hq => (h.kb q hq).off hr hK, hkb⟩
/-- The definition has been put behind the others. -/
theorem Rpb.put {w w2 w3 : World} {ws2 : List Wd} {qs2 : List Pt} {r2 : Option Nat} {g g2 g3 : Option Addr} {c c2 c3 : Nat} {qs : List Dt} {d : Df} {o o' : Obj}
    (h : Pd w2 (w.heap.size + 3) (.slice g qs.length c) qs ∧ ExsT w2 g2 d.body ∧ Bx1 w2 (w.heap.size + 1) (.slice g qs.length c) ∧ Bx1 w2 w.heap.size (.slice none 0 0) ∧ Below w.heap.size w w2 ∧ St w2 (w.heap.size + 2) ws2 qs2 r2 ∧ qs.length + 1 + ws2.length ≤ 4096 ∧ w.heap.size + 3 ≤ w2.heap.size ∧ (∀ q ∈ qs, KB w.heap.size w2 q.2.1 q.1.body) ∧ KB w.heap.size w2 g2 d.body)
    (hP : Pd w3 (w.heap.size + 3) (.slice g3 (qs ++ [(d, g2, c2)]).length c3) (qs ++ [(d, g2, c2)])) (hg : ((w2.alloc o).alloc o').grownBy w3 (Value.slice g qs.length c).ownBlock) :
    Bx1 w3 (w.heap.size + 1) (.slice g qs.length c) ∧ Rpb w (w3.setCell ⟨w.heap.size + 1, 0, none⟩ (.slice g3 (qs ++ [(d, g2, c2)]).length c3)) ws2 qs2 r2 g3 c3 (qs ++ [(d, g2, c2)]) := by
  obtain ⟨h1, h2, h3, h4, h5, h6, h7, h8, h9, h10⟩ := h
  have hb : Below w2.heap.size w2 ((w2.alloc o).alloc o') := ((Below.refl _ w2).alloc (Nat.le_refl _) o).alloc (by simp) o'
  have hP2 := h1.on hb
  have hrow : ∀ k, (Value.slice g qs.length c).ownBlock = some k → w.heap.size + 3 ≤ k := fun k hk => (h1.own.lt k hk).1
  have ho : Only36 ((w2.alloc o).alloc o') (Value.slice g qs.length c).ownBlock := only_own hP2.own
  have b1 : Bx1 w3 (w.heap.size + 1) (.slice g qs.length c) := (h3.on hb).kept hg (hP2.not_box (h3.on hb))
  have b0 : Bx1 w3 w.heap.size (.slice none 0 0) := (h4.on hb).kept hg (hP2.not_box (h4.on hb))
  have s1 := ((h6.below hb).grown hg ho (fun k hk => by have := hrow k hk; omega)).box1 b1 0 (.slice g3 (qs ++ [(d, g2, c2)]).length c3)
  have hl : Below w.heap.size w w3 := (h5.trans (hb.mono (by omega))).grown hg (by have := hb.size; omega) (fun k hk => by have := hrow k hk; omega)
  refine ⟨b1, s1, hP.far b1 0 _, b1.set0 _, b0.far (by omega) 0 _, hl.setCell (p := ⟨w.heap.size + 1, 0, none⟩) (Nat.le_succ _) _, ?_, fun q hq => ?_⟩
  · rw [List.length_append, List.length_singleton]; omega
  · have key : ∀ {g : Option Addr} {xs : List Ex}, KB w.heap.size w2 g xs → KB w.heap.size (w3.setCell ⟨w.heap.size + 1, 0, none⟩ (.slice g3 (qs ++ [(d, g2, c2)]).length c3)) g xs := fun hk => (((hk.on hb).kept hg ho).far b1 0 _)
    rcases List.mem_append.1 hq with hq | hq
    · exact key (h9 q hq)
    · rw [List.mem_singleton] at hq; subst hq; exact key h10


set_option maxHeartbeats 2000000 in
set_option maxRecDepth 100000 in
theorem prog_anyB (n m0 : Nat) (g : Option Addr) (c : Nat) (ws : List Wd) (w : World) (hn : ws.length ≤ n) (hm0 : ws.length < m0) (hs : Sz ws []) (hc : ws.length ≤ c) (hT : WTx w w.heap.size g ws) (hL : Lw w) :
    Calls Tryz.prog 22 #[.slice g ws.length c] w fun e w' => ProgB (rpg n m0 [] ws) w e w' := by
  obtain ⟨O, hO⟩ : ∃ O, rpg n m0 [] ws = O := ⟨_, rfl⟩
  rw [hO]
  have HL : Hid (LwB w.heap.size w) := fun W' h => hL.on h
  have HO : Hid (rpg n m0 [] ws = O) := hO
  have HS0 : Hid (Sz ws []) := hs
  have HI : Hid (Rpb w (((w.alloc (.cells #[.slice none 0 0] 24)).alloc (.cells #[.slice none 0 0] 24)).alloc (.cells #[.slice g ws.length c, .slice none 0 0] 78)) ws [] none none 0 []) := by
    have hb : Below w.heap.size w (((w.alloc (.cells #[.slice none 0 0] 24)).alloc (.cells #[.slice none 0 0] 24)).alloc (.cells #[.slice g ws.length c, .slice none 0 0] 78)) := (((Below.refl _ w).alloc (Nat.le_refl _) _).alloc (by simp) _).alloc (by simp; omega) _
    have h3 := World.alloc_heap_new ((w.alloc (.cells #[.slice none 0 0] 24)).alloc (.cells #[.slice none 0 0] 24)) (.cells #[.slice g ws.length c, .slice none 0 0] 78)
    rw [World.size_alloc, World.size_alloc] at h3
    have h2 := Bx1.new (w.alloc (.cells #[.slice none 0 0] 24)) (.slice none 0 0)
    rw [World.size_alloc] at h2
    refine ⟨⟨g, c, _, h3, ?_, hc, BdO.nil _ _, rfl⟩, Pd.nil _ _, h2.alloc _, ((Bx1.new w _).alloc _).alloc _, hb, by have := hs.1; simp at this ⊢; omega, fun q hq => by cases hq⟩
    rcases hT.on (fun k hk => hb.block k hk) with h | ⟨bk, o, e1, e2, e3⟩
    · exact Or.inl h
    · exact Or.inr ⟨bk, o, e1, by omega, e3⟩
  clear hO hs hT hL hc
  go_enter Tryz.func22, Tryz.ntmps22
  go_wp2_with fail
  obtain ⟨W3, hW3⟩ : ∃ W3, ((w.alloc (.cells #[.slice none 0 0] 24)).alloc (.cells #[.slice none 0 0] 24)).alloc (.cells #[.slice g ws.length c, .slice none 0 0] 78) = W3 := ⟨_, rfl⟩
  rw [hW3] at HI ⊢
  clear hW3
  go_loopw [6, 7] (fun _ _ wr => ∃ (ws1 : List Wd) (ps1 : List Pt) (r1 : Option Nat) (g1 : Option Addr) (c1 : Nat) (qs1 : List Dt) (m1 : Nat), Hid (Rpb w wr ws1 ps1 r1 g1 c1 qs1) ∧ Hid (ws1.length ≤ n ∧ ws1.length < m1 ∧ ws1 <:+ ws ∧ rpg n m1 (qs1.map (·.1)) ws1 = O))
    (fun _ _ wr => leftOf (w.heap.size + 2) wr)
  case atStart => exact ⟨ws, [], none, none, 0, [], m0, HI, ⟨hn, hm0, List.suffix_refl _, HO.out⟩⟩
  case round =>
    clear HI HO hn hm0
    obtain ⟨ws1, ps1, r1, g1, c1, qs1, m1, HR, HN⟩ := hrel
    have p0 := HR.out.box.c0
    have pf := HR.out.box.frozen 0
    have o0 := HR.out.out.c0
    have of := HR.out.out.frozen 0
    have hlt := HR.out.st.lt
    cases ws1 with
    | nil =>
      obtain ⟨gw, cw, c0⟩ := HR.out.words
      rw [List.length_nil] at c0
      have HE : Hid (O = some (qs1.map (·.1))) := by show _ = _; rw [← HN.out.2.2.2, rpg_end HN.out.2.1]
      go_wp2_with fail
      refine bodyPost_ret (v := .tuple #[.agg #[.slice g1 qs1.length c1], .bool true]) (by simp [results, Tryz.results22, go_sem, o0]) rfl ?_
      refine ⟨HR.out.low.setCell (p := ⟨w.heap.size, 0, none⟩) (Nat.le_refl _) _, ?_⟩
      rw [HE.out]
      have hp := HR.out.pd.far HR.out.out 0 (.slice g1 qs1.length c1)
      refine ⟨g1, c1, qs1, by simp, rfl, ?_⟩
      rw [List.length_map]
      exact ⟨⟨own_rebase hp.own (fun k hk => by have := (hp.own.lt k hk).1; omega), hp.bodies⟩, fun q hq => (HR.out.kb q hq).far HR.out.out 0 _⟩
    | cons w1 ws1 =>
      obtain ⟨gw, cw, c0⟩ := HR.out.words
      rw [List.length_cons] at c0
      have hl0 : (0 : Int) < (ws1.length : Int) + 1 := by omega
      have hcall := def_any n (w1 :: ws1) ps1 r1 wr (w.heap.size + 2) HN.out.1 (HS0.out.on HN.out.2.2.1 (by have := HN.out.2.2.1.length_le; simp at this ⊢; omega)) HR.out.st (fun X hX => HL.out X (HR.out.low.trans (hX.mono (by omega))))
      go_wp2_with fail
      refine hcall.mono ?_
      rintro e w2 ⟨hK, hQ⟩
      cases hp : rdf n (w1 :: ws1) with
      | none =>
        rw [hp] at hQ
        obtain ⟨p2, g2, n2, k2, rfl⟩ := hQ
        have HE : Hid (O = none) := by show _ = _; rw [← HN.out.2.2.2, rpg_no hp]
        have o2 := HR.out.out.kp hK (by omega) (by simp)
        have o0 := o2.c0
        have of := o2.frozen 0
        have ol := o2.lt
        have HLW : Hid (Below w.heap.size w w2) := Kp.low HR.out.low hK (by omega)
        clear hp hcall c0 p0 pf o2
        go_wp2_with fail
        refine bodyPost_ret (v := .tuple #[.agg #[.slice none 0 0], .bool false]) (by simp [results, Tryz.results22, go_sem, o0, ol]) rfl ?_
        refine ⟨(HLW.out.setCell (p := ⟨w.heap.size, 0, none⟩) (Nat.le_refl _) _).alloc (by have := HLW.out.size; simp; omega) _, ?_⟩
        rw [HE.out]
      | some y =>
        obtain ⟨ws2, d⟩ := y
        rw [hp] at hQ
        obtain ⟨g2, c2, qs2, r2, rfl, hS2, hm2, hB2⟩ := hQ
        obtain ⟨gd1, gd2⟩ := rdf_gd hp
        have HH : Hid _ := HR.out.read hK hS2 hm2 hB2 gd2
        have HN2 : Hid (ws2.length ≤ n ∧ ws2.length < m1 - 1 ∧ ws2 <:+ ws ∧ rpg n (m1 - 1) (qs1.map (·.1) ++ [d]) ws2 = O ∧ ws2.length < ws1.length + 1) := by
          obtain ⟨h1, h2, h3, h4⟩ := HN.out
          simp only [List.length_cons] at h1 h2 gd2
          obtain ⟨m', rfl⟩ : ∃ m', m1 = m' + 1 := ⟨m1 - 1, by omega⟩
          rw [rpg_on hp] at h4
          rw [Nat.add_sub_cancel]
          exact ⟨by omega, by omega, gd1.trans h3, h4, by omega⟩
        have p0 := HH.out.2.2.1.c0
        have hlt2 := HH.out.2.2.1.lt
        have hlen : (qs1.length + 1) * 32 ≤ 140737488355328 := by have := HH.out.2.2.2.2.2.2.1; omega
        have HLF : Hid (leftOf (w.heap.size + 2) wr = ws1.length + 1) := HR.out.st.left
        clear hp hcall c0 pf o0 of hK hS2 hm2 hB2 gd1 gd2 HR HN hlt
        go_wp2_with (at_builtin; refine app_df rfl _ _ rfl (w.heap.size + 3) (.slice g1 qs1.length c1) qs1 (d, g2, c2) _ rfl rfl (w2.heap.size + 1) (by simp) rfl (HH.out.1.alloc _) (HH.out.2.1.alloc _) (by have := HH.out.2.2.2.2.2.2.2.1; simp; omega) hlen ?_)
        intro v3 w3 hP3 hg3
        obtain ⟨g3, k3, rfl⟩ := hP3.val
        obtain ⟨hb3, hR3⟩ := Rpb.put HH.out hP3 hg3
        have HR3 : Hid _ := hR3
        have q0 := hb3.c0
        have qf := hb3.frozen 0
        have ql := hb3.lt
        have hl3 : (qs1 ++ [((d, g2, c2) : Dt)]).length = qs1.length + 1 := by rw [List.length_append]; rfl
        rw [hl3] at HR3 ⊢
        clear hP3 hg3 hb3 hR3 HH hl3
        go_wp2_with fail
        go_roundw
        case rel => exact ⟨ws2, qs2, r2, g3, k3, qs1 ++ [(d, g2, c2)], m1 - 1, HR3, ⟨HN2.out.1, HN2.out.2.1, HN2.out.2.2.1, by rw [List.map_append]; exact HN2.out.2.2.2.1⟩⟩
        case measure =>
          rw [HR3.out.st.left, HLF.out]
          exact HN2.out.2.2.2.2

set_option maxHeartbeats 2000000 in
set_option maxRecDepth 100000 in
theorem parse_anyB (s : ByteArray) (w : World) (hL : Lw w) : Calls Tryz.prog 9 #[.string s] w fun e w' => ParseQ (pp s.data.toList) w e w' ∧ ∀ g n c, e = .returned (.tuple #[pV g n c, .int .i64 0]) → ∃ qs : List Dt, ∃ ds : List Df, n = ds.length ∧ qs.map (·.1) = ds ∧ pmay ds = true ∧ Pd w' w.heap.size (.slice g n c) qs ∧ ∀ q ∈ qs, KB w.heap.size w' q.2.1 q.1.body := by
  obtain ⟨O, hO⟩ : ∃ O, pp s.data.toList = O := ⟨_, rfl⟩
  rw [hO]
  have HO : Hid (pp s.data.toList = O) := hO
  have hX1 := Bx1.new w (.slice none 0 0)
  have HL1 : Hid (Lw (w.alloc (.cells #[.slice none 0 0] 24))) := hL.on ((Below.refl _ w).alloc (Nat.le_refl _) _)
  have hb1 : Below w.heap.size w (w.alloc (.cells #[.slice none 0 0] 24)) := (Below.refl _ w).alloc (Nat.le_refl _) _
  clear hO hL
  cases hg : Lx.good s.data.toList with
  | false =>
    have HE : Hid (O = none) := by show _ = _; rw [← HO.out, pp_bad hg]
    have hcall := Lx.words_bad s (w.alloc (.cells #[.slice none 0 0] 24)) hg
    obtain ⟨W1, hW1⟩ : ∃ W1, w.alloc (.cells #[.slice none 0 0] 24) = W1 := ⟨_, rfl⟩
    rw [hW1] at hcall hX1 HL1 hb1
    clear hg
    go_enter Tryz.func9, Tryz.ntmps9
    go_wp2_with fail
    clear hW1
    refine hcall.mono ?_
    rintro e w2 ⟨rfl, hb2⟩
    have hX2 := hX1.on hb2
    have x0 := hX2.c0
    have xf := hX2.frozen 0
    have xl := hX2.lt
    have HB : Hid (Below w.heap.size w w2) := below_next hb1 hb2
    clear hcall hX2 hX1 hb1 hb2
    go_wp2_with fail
    refine bodyPost_ret (v := .tuple #[pV none 0 0, .int .i64 700]) (by simp [results, Tryz.results9, go_sem, x0]) rfl ?_
    refine ⟨ParseQ.no HE.out (HB.out.setCell (p := ⟨w.heap.size, 0, none⟩) (Nat.le_refl _) _), fun g n c h => by cases h⟩
  | true =>
    have HG : Hid (Lx.good s.data.toList = true) := hg
    have hcall := Lx.words_good s (w.alloc (.cells #[.slice none 0 0] 24)) hg
    obtain ⟨hsz, hsl⟩ := sz_words hg
    obtain ⟨ws, hws⟩ : ∃ ws, Lx.wd false [] s.data.toList = ws := ⟨_, rfl⟩
    have HW : Hid (Lx.wd false [] s.data.toList = ws) := hws
    rw [hws] at hcall hsz hsl
    obtain ⟨W1, hW1⟩ : ∃ W1, w.alloc (.cells #[.slice none 0 0] 24) = W1 := ⟨_, rfl⟩
    rw [hW1] at hcall hX1 HL1 hb1
    clear hg hws
    go_enter Tryz.func9, Tryz.ntmps9
    go_wp2_with fail
    clear hW1
    refine hcall.mono ?_
    rintro e w2 ⟨g, c, rfl, ho2, hb2⟩
    obtain ⟨hT2, hc2⟩ := wtx_own ho2
    have hP := prog_anyB 2049 2049 g c ws w2 (by omega) (by omega) hsz hc2 hT2 (HL1.out.on hb2)
    have HX2 : Hid (Bx1 w2 w.heap.size (.slice none 0 0)) := hX1.on hb2
    have HB2 : Hid (Below w.heap.size w w2) := below_next hb1 hb2
    clear hcall hX1 hb1 hb2 ho2 hT2 hc2 hsz hsl
    go_wp2_with fail
    refine hP.mono ?_
    clear hP
    rintro e w3 ⟨hb3, hQ⟩
    have HX3 : Hid (Bx1 w3 w.heap.size (.slice none 0 0)) := HX2.out.on hb3
    have HB3 : Hid (Below w.heap.size w w3) := below_next HB2.out hb3
    have HZ : Hid (w.heap.size ≤ w2.heap.size) := HB2.out.size
    have x0 := HX3.out.c0
    have xf := HX3.out.frozen 0
    have xl := HX3.out.lt
    clear HX2 HB2 hb3
    cases hr : rpg 2049 2049 [] ws with
    | none =>
      rw [hr] at hQ
      subst hQ
      have HE : Hid (O = none) := by show _ = _; rw [← HO.out, pp_no HG.out (by rw [HW.out]; exact hr)]
      clear hr
      go_wp2_with fail
      refine bodyPost_ret (v := .tuple #[pV none 0 0, .int .i64 700]) (by simp [results, Tryz.results9, go_sem, x0, xl]) rfl ?_
      refine ⟨ParseQ.no HE.out ((HB3.out.setCell (p := ⟨w.heap.size, 0, none⟩) (Nat.le_refl _) _).alloc (by have := HB3.out.size; simp; omega) _), fun g n c h => by cases h⟩
    | some ds =>
      rw [hr] at hQ
      obtain ⟨g3, c3, qs, rfl, hq3, hP3, hkb3⟩ := hQ
      have HKB3 : Hid (∀ q ∈ qs, KB w2.heap.size w3 q.2.1 q.1.body) := hkb3
      clear hkb3
      have hl3 : ds.length = qs.length := by rw [← hq3, List.length_map]
      have hd3 : Defs Exs w3 g3 ds := by
        have h := hP3
        rw [hl3] at h
        have h := h.defs
        rwa [hq3] at h
      have hM := pmay_any g3 c3 ds (w3.alloc (.cells #[.slice g3 ds.length c3] 24)) (hd3.on ((Below.refl _ w3).alloc (Nat.le_refl _) _))
      have HM : Hid (pmay ds = true → O = some ds) := fun h => by rw [← HO.out, pp_yes HG.out (by rw [HW.out]; exact hr) h]
      have HM2 : Hid (pmay ds = false → O = none) := fun h => by rw [← HO.out, pp_may HG.out (by rw [HW.out]; exact hr) h]
      have HX4 : Hid (Bx1 (w3.alloc (.cells #[.slice g3 ds.length c3] 24)) w.heap.size (.slice none 0 0)) := HX3.out.alloc _
      have HY4 : Hid (Bx1 (w3.alloc (.cells #[.slice g3 ds.length c3] 24)) w3.heap.size (.slice g3 ds.length c3)) := Bx1.new w3 _
      have HB4 : Hid (Below w.heap.size w (w3.alloc (.cells #[.slice g3 ds.length c3] 24))) := HB3.out.alloc HB3.out.size _
      have HP4 : Hid (Pd (w3.alloc (.cells #[.slice g3 ds.length c3] 24)) w2.heap.size (.slice g3 ds.length c3) qs ∧ qs.map (·.1) = ds) := ⟨hP3.alloc _, hq3⟩
      have HKB4 : Hid (∀ q ∈ qs, KB w2.heap.size (w3.alloc (.cells #[.slice g3 ds.length c3] 24)) q.2.1 q.1.body) := fun q hq => (HKB3.out q hq).on ((Below.refl _ w3).alloc (Nat.le_refl _) _)
      obtain ⟨b, hb⟩ : ∃ b, pmay ds = b := ⟨_, rfl⟩
      have HBB : Hid (pmay ds = b) := hb
      rw [hb] at hM HM HM2
      clear hr hq3 hl3 hP3 hd3 hb
      go_wp2_with fail
      obtain ⟨W4, hW4⟩ : ∃ W4, w3.alloc (.cells #[.slice g3 ds.length c3] 24) = W4 := ⟨_, rfl⟩
      rw [hW4] at hM HX4 HY4 HB4 HP4 HKB4 ⊢
      clear hW4
      refine hM.mono ?_
      clear hM
      rintro e w5 ⟨rfl, hb5⟩
      have hX5 := HX4.out.on hb5
      have hY5 := HY4.out.on hb5
      have x5 := hX5.c0
      have y5 := hY5.c0
      have f5 := hX5.frozen 0
      have l5 := hX5.lt
      have HX5 : Hid (Bx1 w5 w.heap.size (.slice none 0 0)) := hX5
      have HB5 : Hid (Below w.heap.size w w5) := below_next HB4.out hb5
      have HKB5 : Hid (∀ q ∈ qs, KB w2.heap.size w5 q.2.1 q.1.body) := fun q hq => (HKB4.out q hq).on hb5
      have HP5 : Hid (Pd w5 w2.heap.size (.slice g3 ds.length c3) qs ∧ qs.map (·.1) = ds) := ⟨HP4.out.1.on hb5, HP4.out.2⟩
      clear hX5 hY5 hb5 HX4 HY4 HB4 HP4 x0 xf xl HX3 HB3
      cases b with
      | false =>
        go_wp2_with fail
        refine bodyPost_ret (v := .tuple #[pV none 0 0, .int .i64 700]) (by simp [results, Tryz.results9, go_sem, x5]) rfl ?_
        refine ⟨ParseQ.no (HM2.out (by first | rfl | trivial)) (HB5.out.setCell (p := ⟨w.heap.size, 0, none⟩) (Nat.le_refl _) _), fun g n c h => by cases h⟩
      | true =>
        go_wp2_with fail
        refine bodyPost_ret (v := .tuple #[pV g3 ds.length c3, .int .i64 0]) (by simp [results, Tryz.results9, go_sem, x5]) rfl ?_
        have hp := HP5.out.1.far HX5.out 0 (.slice g3 ds.length c3)
        have hpd : Pd (w5.setCell ⟨w.heap.size, 0, none⟩ (.slice g3 ds.length c3)) w.heap.size (.slice g3 ds.length c3) qs := ⟨own_rebase hp.own (fun k hk => by have h1 := (hp.own.lt k hk).1; have h2 := HZ.out; omega), hp.bodies⟩
        refine ⟨⟨HB5.out.setCell (p := ⟨w.heap.size, 0, none⟩) (Nat.le_refl _) _, ?_⟩, fun g n c h => ?_⟩
        · rw [HM.out (by first | rfl | trivial)]
          exact ⟨g3, c3, qs, rfl, HP5.out.2, hpd⟩
        · cases h
          refine ⟨qs, ds, rfl, HP5.out.2, HBB.out, hpd, fun q hq => ?_⟩
          rcases (HKB5.out q hq).far HX5.out 0 (.slice g3 ds.length c3) with h | ⟨b, cs, h1, h2, h3, h4⟩
          · exact Or.inl h
          · refine Or.inr ⟨b, cs, h1, Nat.le_trans HZ.out h2, h3, fun j x hx => ?_⟩
            obtain ⟨gk, ck, k1, k2⟩ := h4 j x hx
            refine ⟨gk, ck, k1, ?_⟩
            rcases k2 with k2 | ⟨a, k2, k3⟩
            · exact Or.inl k2
            · exact Or.inr ⟨a, k2, Nat.le_trans HZ.out k3⟩
end Go.Proofs.YtighcikiaddfcaaGreatDoor

namespace Go.Proofs.YtighcikiaddfcaaGreatDoor
open Go.RowKit
set_option linter.unusedVariables false

/-- Cells that hold whole numbers or lists; which ones may turn. -/
structure Kept (B : Nat) (W W' : World) : Prop where
  low : Below B W W'
  typ : ∀ (k : Nat) (cs : Array Value) (t : TypeId), W.heap[k]? = some (Obj.cells cs t (0, 0)) → ∃ cs' : Array Value, W'.heap[k]? = some (Obj.cells cs' t (0, 0)) ∧ cs'.size = cs.size ∧ (∀ (j : Nat) (g : Option Addr) (n c : Nat), cs[j]? = some (.slice g n c) → cs'[j]? = some (.slice g n c)) ∧ (∀ (j : Nat) (x : Int), cs[j]? = some (.int .i64 x) → ∃ y, cs'[j]? = some (.int .i64 y))
theorem Kept.refl (B : Nat) (W : World) : Kept B W W := ⟨Below.refl _ _, fun k cs t h => ⟨cs, h, rfl, fun _ _ _ _ h => h, fun j x h => ⟨x, h⟩⟩⟩
theorem Kept.trans {B : Nat} {W W1 W2 : World} (h : Kept B W W1) (h2 : Kept B W1 W2) : Kept B W W2 := by
  refine ⟨h.low.trans h2.low, fun k cs t hk => ?_⟩
  obtain ⟨c1, k1, s1, a1, b1⟩ := h.typ k cs t hk
  obtain ⟨c2, k2, s2, a2, b2⟩ := h2.typ k c1 t k1
  refine ⟨c2, k2, s2.trans s1, fun j g n c hj => a2 j g n c (a1 j g n c hj), fun j x hj => ?_⟩
  obtain ⟨y, hy⟩ := b1 j x hj
  exact b2 j y hy
theorem Kept.alloc {B : Nat} {W W1 : World} (h : Kept B W W1) (hB : B ≤ W1.heap.size) (o : Obj) : Kept B W (W1.alloc o) := by
  refine ⟨h.low.alloc hB o, fun k cs t hk => ?_⟩
  obtain ⟨c1, k1, r⟩ := h.typ k cs t hk
  exact ⟨c1, (Below.heap_alloc W1 o k (Array.getElem?_eq_some_iff.1 k1).1).trans k1, r⟩
theorem Kept.drew {B : Nat} {W W1 : World} (h : Kept B W W1) : Kept B W W1.drew := ⟨h.low.drew, h.typ⟩
/-- A number is written over a number. -/
theorem Kept.num (B : Nat) (W : World) (b j : Nat) (x y : Int) (hb : B ≤ b) (hx : W.cell? ⟨b, j, none⟩ = some (.int .i64 x)) : Kept B W (W.setCell ⟨b, j, none⟩ (.int .i64 y)) := by
  refine ⟨(Below.refl _ W).setCell (p := ⟨b, j, none⟩) hb _, fun k cs t hk => ?_⟩
  by_cases hkb : k = b
  · subst hkb
    have hj : cs[j]? = some (.int .i64 x) := by
      unfold World.cell? at hx
      simp only [hk] at hx
      exact hx
    obtain ⟨hlt, hkk⟩ := Array.getElem?_eq_some_iff.1 hk
    refine ⟨cs.setIfInBounds j (.int .i64 y), ?_, by simp, fun i g n c hi => ?_, fun i u hi => ?_⟩
    · show (W.heap.modify k _)[k]? = _
      rw [Array.getElem?_eq_getElem (by rw [Array.size_modify]; exact hlt), Array.getElem_modify_self, hkk]
      rfl
    · by_cases hij : j = i
      · subst hij; rw [hj] at hi; cases hi
      · rw [Array.getElem?_setIfInBounds_ne hij]; exact hi
    · by_cases hij : j = i
      · subst hij
        exact ⟨y, by rw [Array.getElem?_setIfInBounds_self, if_pos (Array.getElem?_eq_some_iff.1 hj).1]⟩
      · rw [Array.getElem?_setIfInBounds_ne hij]; exact ⟨u, hi⟩
  · exact ⟨cs, (Below.heap_setCell W _ _ k (fun e => hkb e)).trans hk, rfl, fun _ _ _ _ h => h, fun j x h => ⟨x, h⟩⟩

/-- Numbers in a row of numbers from B on. -/
def NumsB (B : Nat) (w : World) (g : Option Addr) (n : Nat) : Prop := n = 0 ∨ ∃ b cs, g = some ⟨b, 0, none⟩ ∧ B ≤ b ∧ w.heap[b]? = some (.cells cs 3 (0, 0)) ∧ ∀ j, j < n → ∃ x, cs[j]? = some (.int .i64 x)
theorem NumsB.on {B : Nat} {W W' : World} {g : Option Addr} {n : Nat} (h : NumsB B W g n) (hk : Kept B W W') : NumsB B W' g n := by
  rcases h with h | ⟨b, cs, h1, h2, h3, h4⟩
  · exact Or.inl h
  · obtain ⟨c1, k1, _, _, b1⟩ := hk.typ b cs 3 h3
    exact Or.inr ⟨b, c1, h1, h2, k1, fun j hj => by obtain ⟨x, hx⟩ := h4 j hj; exact b1 j x hx⟩
set_option maxHeartbeats 800000 in
set_option maxRecDepth 100000 in
theorem spoil_ints (B : Nat) (g : Option Addr) (n c : Nat) (w : World) (h : NumsB B w g n) (hn : n ≤ 4611686018427387904) :
    Calls Tryz.prog 50 #[.slice g n c] w fun e w' => e = .returned (.tuple #[]) ∧ Kept B w w' := by
  have HN : Hid (NumsB B w g n) := h
  clear h
  go_enter Tryz.func50, Tryz.ntmps50
  go_wp2_with fail
  go_loopw [2] (fun s wr => ∃ i : Nat, i ≤ n ∧ s = .int .i64 (i : Int) ∧ Hid (Kept B w wr))
    (fun s _ => n - (intOf s).toNat)
  case atStart => exact ⟨0, Nat.zero_le _, rfl, Kept.refl _ _⟩
  case round =>
    obtain ⟨i, hi, rfl, HK⟩ := hrel
    by_cases hlt : i < n
    · have hlt' : (i : Int) < (n : Int) := by omega
      obtain ⟨b, cs, hg, hB, hb, hc⟩ : ∃ b cs, g = some ⟨b, 0, none⟩ ∧ B ≤ b ∧ wr.heap[b]? = some (.cells cs 3 (0, 0)) ∧ ∀ j, j < n → ∃ x, cs[j]? = some (.int .i64 x) := by
        rcases HN.out.on HK.out with h | h
        · omega
        · exact h
      subst hg
      obtain ⟨x, hx⟩ := hc i hlt
      have hcell : wr.cell? ⟨b, i, none⟩ = some (.int .i64 x) := by unfold World.cell?; simp only [hb]; exact hx
      have hfz : wr.frozen? ⟨b, i, none⟩ = false := by simp [World.frozen?, hb]
      have hbl : b < wr.heap.size := (Array.getElem?_eq_some_iff.1 hb).1
      have HK2 : Hid (∀ y, Kept B w (wr.setCell ⟨b, i, none⟩ (.int .i64 y))) := fun y => HK.out.trans (Kept.num B wr b i x y hB hcell)
      clear hb hc hx
      go_wp2_with fail
      go_roundw
      case rel => exact ⟨i + 1, by omega, by go_num, HK2.out _⟩
      case measure => simp [intOf]; omega
    · have hlt' : ¬ (i : Int) < (n : Int) := by omega
      go_wp2_with fail
      go_end0
      exact ⟨rfl, HK.out⟩
end Go.Proofs.YtighcikiaddfcaaGreatDoor

namespace Go.Proofs.YtighcikiaddfcaaGreatDoor
open Go.RowKit
set_option linter.unusedVariables false

/-- What may be is small. -/
theorem pm_small' {ds : List Df} (h : pmay ds = true) : ds.length ≤ 8 ∧ ∀ d ∈ ds, d.body.length ≤ 24 ∧ ∀ x ∈ d.body, x.kids.length ≤ 3 := by
  unfold pmay at h
  simp only [Bool.and_eq_true, decide_eq_true_eq] at h
  obtain ⟨⟨⟨_, h1⟩, _⟩, h2⟩ := h
  refine ⟨h1, fun d hd => ?_⟩
  have h3 := List.all_eq_true.1 h2 d hd
  unfold dOk at h3
  rw [Bool.and_eq_true] at h3
  refine ⟨may_len h3.1, fun x hx => ?_⟩
  obtain ⟨t, ht⟩ := may_parts h3.1 x hx
  unfold Ex.ok okE at ht
  split at ht
  · simp at ht; simp [ht.2.2]
  split at ht
  · simp at ht; simp [ht.2.2]
  split at ht
  · simp at ht; omega
  split at ht
  · simp at ht; omega
  split at ht
  · simp at ht; omega
  split at ht
  · simp at ht; omega
  split at ht
  · simp at ht; omega
  split at ht
  · simp at ht; simp [ht.2.2]
  cases ht
/-- Parts in a row of parts from B on, their kids too. -/
def ExsB (B : Nat) (w : World) (g : Option Addr) (n : Nat) : Prop := n = 0 ∨ ∃ (b : Nat) (cs : Array Value), g = some ⟨b, 0, none⟩ ∧ B ≤ b ∧ w.heap[b]? = some (Obj.cells cs 41 (0, 0)) ∧ ∀ j, j < n → (∃ x, cs[j * 4 + 1]? = some (.int .i64 x)) ∧ ∃ gk nk ck, cs[j * 4 + 3]? = some (.slice gk nk ck) ∧ NumsB B w gk nk ∧ nk ≤ 8192
theorem ExsB.on {B : Nat} {W W' : World} {g : Option Addr} {n : Nat} (h : ExsB B W g n) (hk : Kept B W W') : ExsB B W' g n := by
  rcases h with h | ⟨b, cs, h1, h2, h3, h4⟩
  · exact Or.inl h
  · obtain ⟨c1, k1, _, a1, b1⟩ := hk.typ b cs 41 h3
    refine Or.inr ⟨b, c1, h1, h2, k1, fun j hj => ?_⟩
    obtain ⟨⟨x, hx⟩, gk, nk, ck, h5, h6, h7⟩ := h4 j hj
    exact ⟨b1 _ _ hx, gk, nk, ck, a1 _ _ _ _ h5, h6.on hk, h7⟩
/-- Definitions in a row of definitions from B on. -/
def DefsB (B : Nat) (w : World) (g : Option Addr) (n : Nat) : Prop := n = 0 ∨ ∃ (b : Nat) (cs : Array Value), g = some ⟨b, 0, none⟩ ∧ B ≤ b ∧ w.heap[b]? = some (Obj.cells cs 43 (0, 0)) ∧ ∀ j, j < n → (∃ x, cs[j * 2]? = some (.int .i64 x)) ∧ ∃ gk nk ck, cs[j * 2 + 1]? = some (.slice gk nk ck) ∧ ExsB B w gk nk ∧ nk ≤ 8192
theorem DefsB.on {B : Nat} {W W' : World} {g : Option Addr} {n : Nat} (h : DefsB B W g n) (hk : Kept B W W') : DefsB B W' g n := by
  rcases h with h | ⟨b, cs, h1, h2, h3, h4⟩
  · exact Or.inl h
  · obtain ⟨c1, k1, _, a1, b1⟩ := hk.typ b cs 43 h3
    refine Or.inr ⟨b, c1, h1, h2, k1, fun j hj => ?_⟩
    obtain ⟨⟨x, hx⟩, gk, nk, ck, h5, h6, h7⟩ := h4 j hj
    exact ⟨b1 _ _ hx, gk, nk, ck, a1 _ _ _ _ h5, h6.on hk, h7⟩
theorem exsB_of {B : Nat} {w : World} {g : Option Addr} {xs : List Ex} (h : ExsT w g xs) (hk : KB B w g xs) (h3 : ∀ x ∈ xs, x.kids.length ≤ 8192) : ExsB B w g xs.length := by
  rcases h with h | ⟨b, cs, h1, h2, h4⟩
  · exact Or.inl (by rw [h]; rfl)
  · rcases hk with hk | ⟨b', cs', k1, k2, k3, k4⟩
    · exact Or.inl (by rw [hk]; rfl)
    · rw [h1] at k1
      cases k1
      have e : cs = cs' := by
        have := (show w.heap[b]? = _ from h2).symm.trans k3
        simp at this
        exact this
      subst e
      refine Or.inr ⟨b, cs, h1, k2, h2, fun j hj => ?_⟩
      obtain ⟨x, hx⟩ : ∃ x, xs[j]? = some x := ⟨_, List.getElem?_eq_getElem hj⟩
      obtain ⟨gk, ck, a0, a1, a2, a3, a4, a5⟩ := h4 j x hx
      obtain ⟨gk', ck', m1, m2⟩ := k4 j x hx
      rw [a3] at m1
      cases m1
      refine ⟨⟨_, a1⟩, gk, x.kids.length, ck, a3, ?_, h3 x (List.mem_of_getElem? hx)⟩
      rcases a4 with a4 | ⟨b2, cs2, n1, n2, n3⟩
      · exact Or.inl (by rw [a4]; rfl)
      · rcases m2 with m2 | ⟨a, m2, m3⟩
        · exact Or.inl (by rw [m2]; rfl)
        · rw [n1] at m2
          cases m2
          exact Or.inr ⟨b2, cs2, n1, m3, n2, fun i hi => ⟨_, n3 i _ (List.getElem?_eq_getElem hi)⟩⟩
theorem defsB_of {B : Nat} {w : World} {g : Option Addr} {n c : Nat} {qs : List Dt} {ds : List Df} (hn : n = ds.length) (hq : qs.map (·.1) = ds) (hp : pmay ds = true) (h : Pd w B (.slice g n c) qs) (hk : ∀ q ∈ qs, KB B w q.2.1 q.1.body) : DefsB B w g n := by
  obtain ⟨_, hs⟩ := pm_small' hp
  have hl : n = qs.length := by rw [hn, ← hq, List.length_map]
  rw [hl] at h ⊢
  rcases h.own.2 with ⟨_, h3⟩ | ⟨b, cap, cur, hv, hb, hh, _, _, _, ht⟩
  · exact Or.inl h3
  · simp at hv
    obtain ⟨rfl, _⟩ := hv
    refine Or.inr ⟨b, cur, rfl, hb, hh, fun j hj => ?_⟩
    obtain ⟨q, hx⟩ : ∃ q, qs[j]? = some q := ⟨_, List.getElem?_eq_getElem hj⟩
    obtain ⟨k0, k1⟩ := at_c2 qs j q hx
    rw [← ht, List.getElem?_take] at k0 k1
    have hm := List.mem_of_getElem? hx
    have hd : q.1 ∈ ds := by rw [← hq]; exact List.mem_map.2 ⟨q, hm, rfl⟩
    split at k0
    · split at k1
      · refine ⟨⟨_, by simpa using k0⟩, q.2.1, q.1.body.length, q.2.2, by simpa using k1, exsB_of (h.bodies q hm) (hk q hm) (fun x hx => by have := (hs q.1 hd).2 x hx; omega), by have := (hs q.1 hd).1; omega⟩
      · cases k1
    · cases k0
set_option maxHeartbeats 1600000 in
set_option maxRecDepth 100000 in
theorem spoil_def (B : Nat) (p : Int) (g : Option Addr) (n c : Nat) (w : World) (h : ExsB B w g n) (hn : n ≤ 8192) (hB : B ≤ w.heap.size) :
    Calls Tryz.prog 28 #[.agg #[.int .i64 p, .slice g n c]] w fun e w' => e = .returned (.tuple #[]) ∧ Kept B w w' := by
  have HK0 : Hid (Kept B w (w.alloc (.cells #[.int .i64 p, .slice g n c] 43))) := (Kept.refl B w).alloc hB _
  have HN : Hid (ExsB B (w.alloc (.cells #[.int .i64 p, .slice g n c] 43)) g n) := h.on HK0.out
  have HX : Hid ((w.alloc (.cells #[.int .i64 p, .slice g n c] 43)).heap[w.heap.size]? = some (Obj.cells #[.int .i64 p, .slice g n c] 43 (0, 0))) := World.alloc_heap_new w _
  clear h
  go_enter Tryz.func28, Tryz.ntmps28
  go_wp2_with fail
  obtain ⟨W1, hW1⟩ : ∃ W1, w.alloc (.cells #[.int .i64 p, .slice g n c] 43) = W1 := ⟨_, rfl⟩
  rw [hW1] at HK0 HN HX ⊢
  clear hW1
  go_loopw [2] (fun s wr => ∃ i : Nat, i ≤ n ∧ s = .int .i64 (i : Int) ∧ Hid (Kept B W1 wr))
    (fun s _ => n - (intOf s).toNat)
  case atStart => exact ⟨0, Nat.zero_le _, rfl, Kept.refl _ _⟩
  case round =>
    obtain ⟨i, hi, rfl, HK⟩ := hrel
    have box : ∀ {w' : World}, Kept B W1 w' → w'.cell? ⟨w.heap.size, 1, none⟩ = some (.slice g n c) := fun {w'} hk => by
      obtain ⟨c1, k1, _, a1, _⟩ := hk.typ _ _ _ HX.out
      unfold World.cell?; simp only [k1]; exact a1 1 g n c rfl
    have x1 := box HK.out
    by_cases hlt : i < n
    · have hlt' : (i : Int) < (n : Int) := by omega
      have part : ∀ {w' : World}, Kept B W1 w' → ∃ b x gk nk ck, g = some ⟨b, 0, none⟩ ∧ B ≤ b ∧ b < w'.heap.size ∧ w'.cell? ⟨b, i * 4 + 1, none⟩ = some (.int .i64 x) ∧ w'.cell? ⟨b, i * 4 + 3, none⟩ = some (.slice gk nk ck) ∧ w'.frozen? ⟨b, i * 4 + 1, none⟩ = false ∧ NumsB B w' gk nk ∧ nk ≤ 8192 := fun {w'} hk => by
        rcases HN.out.on hk with h | ⟨b, cs, h1, h2, h3, h4⟩
        · omega
        · obtain ⟨⟨x, hx⟩, gk, nk, ck, h5, h6, h7⟩ := h4 i hlt
          refine ⟨b, x, gk, nk, ck, h1, h2, (Array.getElem?_eq_some_iff.1 h3).1, ?_, ?_, by simp [World.frozen?, h3], h6, h7⟩
          · unfold World.cell?; simp only [h3]; exact hx
          · unfold World.cell?; simp only [h3]; exact h5
      have HPART : Hid _ := @part
      have HBOX : Hid _ := @box
      obtain ⟨b, x, gk, nk, ck, rfl, hb, hbl, hc1, hc3, hfz, hnm, hnk⟩ := part HK.out
      have hcall := spoil_ints B gk nk ck wr hnm (by omega)
      clear part box hnm hnk hc1 hfz
      go_wp2_with fail
      refine hcall.mono ?_
      clear hcall
      rintro e w2 ⟨rfl, hk2⟩
      have HK2 : Hid (Kept B W1 w2) := HK.out.trans hk2
      obtain ⟨b', y, gk', nk', ck', hg', _, hbl2, hd1, _, hfz2, _, _⟩ := HPART.out HK2.out
      cases hg'
      have y1 := HBOX.out HK2.out
      have HK3 : Hid (∀ v, Kept B W1 (w2.setCell ⟨b, i * 4 + 1, none⟩ (.int .i64 v)).drew) := fun v => (HK2.out.trans (Kept.num B w2 b (i * 4 + 1) y v hb hd1)).drew
      clear hk2 HPART HBOX hc3 hbl x1
      go_wp2_with fail
      go_region
      all_goals
        go_wp2_with fail
        go_roundw
        case rel => exact ⟨i + 1, by omega, by go_num, HK3.out _⟩
        case measure => simp [intOf]; omega
    · have hlt' : ¬ (i : Int) < (n : Int) := by omega
      clear box
      go_wp2_with fail
      go_end0
      exact ⟨rfl, HK0.out.trans HK.out⟩
set_option maxHeartbeats 1600000 in
set_option maxRecDepth 100000 in
theorem spoil_prog (B : Nat) (g : Option Addr) (n c : Nat) (w : World) (h : DefsB B w g n) (hn : n ≤ 8192) (hB : B ≤ w.heap.size) :
    Calls Tryz.prog 13 #[.agg #[.slice g n c]] w fun e w' => e = .returned (.tuple #[]) ∧ Kept B w w' := by
  have HK0 : Hid (Kept B w (w.alloc (.cells #[.slice g n c] 24))) := (Kept.refl B w).alloc hB _
  have HN : Hid (DefsB B (w.alloc (.cells #[.slice g n c] 24)) g n) := h.on HK0.out
  have HX : Hid ((w.alloc (.cells #[.slice g n c] 24)).heap[w.heap.size]? = some (Obj.cells #[.slice g n c] 24 (0, 0))) := World.alloc_heap_new w _
  clear h
  go_enter Tryz.func13, Tryz.ntmps13
  go_wp2_with fail
  obtain ⟨W1, hW1⟩ : ∃ W1, w.alloc (.cells #[.slice g n c] 24) = W1 := ⟨_, rfl⟩
  rw [hW1] at HK0 HN HX ⊢
  have HB1 : Hid (B ≤ W1.heap.size) := by rw [← hW1]; show B ≤ _; rw [World.size_alloc]; omega
  clear hW1
  go_loopw [2] (fun s wr => ∃ i : Nat, i ≤ n ∧ s = .int .i64 (i : Int) ∧ Hid (Kept B W1 wr))
    (fun s _ => n - (intOf s).toNat)
  case atStart => exact ⟨0, Nat.zero_le _, rfl, Kept.refl _ _⟩
  case round =>
    obtain ⟨i, hi, rfl, HK⟩ := hrel
    have x1 : wr.cell? ⟨w.heap.size, 0, none⟩ = some (.slice g n c) := by
      obtain ⟨c1, k1, _, a1, _⟩ := HK.out.typ _ _ _ HX.out
      unfold World.cell?; simp only [k1]; exact a1 0 g n c rfl
    by_cases hlt : i < n
    · have hlt' : (i : Int) < (n : Int) := by omega
      obtain ⟨b, x, gk, nk, ck, hg, hb, hbl, hc0, hc1, hE, hnk⟩ : ∃ b x gk nk ck, g = some ⟨b, 0, none⟩ ∧ B ≤ b ∧ b < wr.heap.size ∧ wr.cell? ⟨b, i * 2, none⟩ = some (.int .i64 x) ∧ wr.cell? ⟨b, i * 2 + 1, none⟩ = some (.slice gk nk ck) ∧ ExsB B wr gk nk ∧ nk ≤ 8192 := by
        rcases HN.out.on HK.out with h | ⟨b, cs, h1, h2, h3, h4⟩
        · omega
        · obtain ⟨⟨x, hx⟩, gk, nk, ck, h5, h6, h7⟩ := h4 i hlt
          refine ⟨b, x, gk, nk, ck, h1, h2, (Array.getElem?_eq_some_iff.1 h3).1, ?_, ?_, h6, h7⟩
          · unfold World.cell?; simp only [h3]; exact hx
          · unfold World.cell?; simp only [h3]; exact h5
      subst hg
      have hcall := spoil_def B x gk nk ck wr hE hnk (Nat.le_trans HB1.out HK.out.low.size)
      clear hE hnk
      go_wp2_with fail
      refine hcall.mono ?_
      clear hcall
      rintro e w2 ⟨rfl, hk2⟩
      have HK2 : Hid (Kept B W1 w2) := HK.out.trans hk2
      clear hk2 hc0 hc1 hbl x1
      go_wp2_with fail
      go_roundw
      case rel => exact ⟨i + 1, by omega, by go_num, HK2⟩
      case measure => simp [intOf]; omega
    · have hlt' : ¬ (i : Int) < (n : Int) := by omega
      go_wp2_with fail
      go_end0
      exact ⟨rfl, HK0.out.trans HK.out⟩
end Go.Proofs.YtighcikiaddfcaaGreatDoor
