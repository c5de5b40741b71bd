/- The contracts of readProgram and Parse. · The contract of Parse. · What every program answers that is one: awake returns true. -/
import Derived.Test.YtighcikiaddfcaaGreatDoorMPart
import Derived.Test.YtighcikiaddfcaaGreatDoorNSmall
import Derived.Test.YtighcikiaddfcaaGreatDoorMSame

namespace Go.Proofs.YtighcikiaddfcaaGreatDoor
open Go.RowKit
set_option linter.unusedVariables false

/-! Rows of parts and numbers beside the reader's box. -/
theorem NumsT.off {W W' : World} {z : Nat} {g : Option Addr} {ks : List Int} {u v : Value} (h : NumsT W g ks) (hr : Rdr W z u v) (hk : Kp z none W W') : NumsT W' g ks := by
  rcases h with h | ⟨b, cs, h1, h2, h3⟩
  · exact Or.inl h
  · refine Or.inr ⟨b, cs, h1, (hk.block b (Array.getElem?_eq_some_iff.1 h2).1 (fun e => ?_) (by simp)).trans h2, h3⟩
    subst e
    have := h2.symm.trans hr
    simp at this
theorem ExsT.off {W W' : World} {z : Nat} {g : Option Addr} {xs : List Ex} {u v : Value} (h : ExsT W g xs) (hr : Rdr W z u v) (hk : Kp z none W W') : ExsT W' g xs := by
  rcases h with h | ⟨b, cs, h1, h2, h3⟩
  · exact Or.inl h
  · refine Or.inr ⟨b, cs, h1, (hk.block b h2.lt (fun e => ?_) (by simp)).trans h2, fun j x hx => ?_⟩
    · subst e
      have := (show W.heap[b]? = _ from h2).symm.trans hr
      simp at this
    · obtain ⟨gk, ck, a0, a1, a2, a3, a4, a5⟩ := h3 j x hx
      exact ⟨gk, ck, a0, a1, a2, a3, a4.off hr hk, a5⟩
theorem Pd.off {W W' : World} {base z : Nat} {v a b : Value} {qs : List Dt} (h : Pd W base v qs) (hr : Rdr W z a b) (hk : Kp z none W W') (hz : z < base) : Pd W' base v qs := by
  refine ⟨hk.own h.own hz ?_, fun q hq => (h.bodies q hq).off hr hk⟩
  cases v.ownBlock with
  | none => exact .inl rfl
  | some k => exact .inr (by simp)
theorem St.rdr {W : World} {z : Nat} {ws : List Wd} {ps : List Pt} {r : Option Nat} (h : St W z ws ps r) : ∃ u v, Rdr W z u v := by
  obtain ⟨g, c, bv, h1, _⟩ := h
  exact ⟨_, _, h1⟩
/-- Whatever is appended to a row of definitions, or put into a program's box, the reader stays. -/
theorem St.grown {W W' : World} {z : Nat} {ws : List Wd} {ps : List Pt} {r row : Option Nat} (h : St W z ws ps r) (hg : W.grownBy W' row) (hr : Only36 W row) (hz : ∀ k, row = some k → z < k) : St W' z ws ps r := by
  have hlt := h.lt
  obtain ⟨g, c, bv, h1, h2, h3, h4, h5⟩ := h
  have keep : ∀ {base e size n : Nat} {u : Value} {xs : List Value}, e ≠ 43 → W.ownsRow base e size u n xs → W'.ownsRow base e size u n xs := fun {base e size n u xs} he ho => by
    refine ho.kept hg ?_
    cases hu : u.ownBlock with
    | none => exact .inl rfl
    | some k =>
      right
      intro e'
      rcases ho.2 with ⟨rfl, _⟩ | ⟨b, cap, cur, rfl, _, hb, _⟩
      · cases hu
      · cases hu
        exact only_ne hr hb he e'
  exact ⟨g, c, bv, (hg.block z hlt (fun e => by have := hz z e.symm; omega)).trans h1, h2.on (fun k hk => hg.block k (by omega) (fun e => by have := hz k e.symm; omega)), h3, ⟨keep (by decide) h4.own, fun p hp => keep (by decide) (h4.kids p hp)⟩, h5⟩
theorem WTx.box1 {W : World} {z : Nat} {g : Option Addr} {ws : List Wd} (h : WTx W z g ws) {b : Nat} {gb : Option Addr} {nb cb : Nat} (hb : Bx1 W b (.slice gb nb cb)) (j : Nat) (v : Value) : WTx (W.setCell ⟨b, j, none⟩ v) z g ws := by
  cases ws with
  | nil => exact Or.inl rfl
  | cons w ws =>
    rcases h with h | ⟨bk, o, h1, h2, h3⟩
    · cases h
    · have hne : bk ≠ b := by
        rintro rfl
        have h4 := h3 0 w rfl
        unfold World.cell? at h4
        simp only [show W.heap[bk]? = _ from hb] at h4
        obtain ⟨h5, h6⟩ := Array.getElem?_eq_some_iff.1 h4
        have h7 : o + 0 = 0 := by
          have h8 : o + 0 < 1 := h5
          omega
        simp [h7] at h6
      refine Or.inr ⟨bk, o, h1, h2, fun i x hx => ?_⟩
      rw [← h3 i x hx]
      unfold World.cell?
      simp only [Below.heap_setCell W ⟨b, j, none⟩ v bk hne]
theorem St.box1 {W : World} {z : Nat} {ws : List Wd} {ps : List Pt} {r : Option Nat} (h : St W z ws ps r) {b : Nat} {gb : Option Addr} {nb cb : Nat} (hb : Bx1 W b (.slice gb nb cb)) (j : Nat) (v : Value) : St (W.setCell ⟨b, j, none⟩ v) z ws ps r := by
  obtain ⟨g, c, bv, h1, h2, h3, h4, h5⟩ := h
  have hz : z ≠ b := by
    rintro rfl
    have := (show W.heap[z]? = _ from hb).symm.trans h1
    simp at this
  exact ⟨g, c, bv, (Below.heap_setCell W _ _ z (fun e => hz e)).trans h1, h2.box1 hb j v, h3, ⟨own_far h4.own (own_not h4.own hb (by decide)) _ _, fun p hp => own_far (h4.kids p hp) (own_not (h4.kids p hp) hb (by decide)) _ _⟩, h5⟩
theorem Bx1.kp {z : Nat} {r : Option Nat} {W W' : World} {b : Nat} {v : Value} (h : Bx1 W b v) (hk : Kp z r W W') (hz : b ≠ z) (hr : some b ≠ r) : Bx1 W' b v := (hk.block b h.lt hz hr).trans h
theorem Bx1.far {W : World} {b : Nat} {v : Value} (h : Bx1 W b v) {b' : Nat} (hne : b ≠ b') (j : Nat) (u : Value) : Bx1 (W.setCell ⟨b', j, none⟩ u) b v := (Below.heap_setCell W _ _ b hne).trans h

/-- How readProgram ends. -/
def ProgQ (o : Option (List Df)) (w : World) (e : Ending) (w' : World) : Prop :=
  Below w.heap.size w w' ∧ match o with
  | none => e = .returned (.tuple #[.agg #[.slice none 0 0], .bool false])
  | some ds => ∃ g c qs, e = .returned (.tuple #[.agg #[.slice g ds.length c], .bool true]) ∧ qs.map (·.1) = ds ∧ Pd w' w.heap.size (.slice g ds.length c) qs
/-- What stands ahead of each definition. -/
structure Rpl (w : World) (wr : World) (ws : List Wd) (ps : List Pt) (r : Option Nat) (g : Option Addr) (c : Nat) (qs : List Dt) : Prop where
  st : St wr (w.heap.size + 2) ws ps r
  pd : Pd wr (w.heap.size + 3) (.slice g qs.length c) qs
  box : Bx1 wr (w.heap.size + 1) (.slice g qs.length c)
  out : Bx1 wr w.heap.size (.slice none 0 0)
  low : Below w.heap.size w wr
  few : qs.length + ws.length ≤ 4096
theorem Rpl.words {w wr : World} {ws : List Wd} {ps : List Pt} {r : Option Nat} {g : Option Addr} {c : Nat} {qs : List Dt} (h : Rpl w wr ws ps r g c qs) : ∃ g' c', wr.cell? ⟨w.heap.size + 2, 0, none⟩ = some (.slice g' ws.length c') := h.st.words
theorem Kp.low {w W W' : World} {z : Nat} (h : Below w.heap.size w W) (hk : Kp z none W W') (hz : w.heap.size ≤ z) : Below w.heap.size w W' :=
  ⟨hk.os.trans h.os, hk.tape.trans h.tape, hk.output.trans h.output, Nat.le_trans h.size hk.size, fun k hk' => (hk.block k (Nat.lt_of_lt_of_le hk' h.size) (by omega) (by simp)).trans (h.block k hk')⟩
/-- A definition has been read. -/
theorem Rpl.read {w wr w2 : World} {ws ws2 : List Wd} {ps qs2 : List Pt} {r r2 : Option Nat} {g g2 : Option Addr} {c c2 : Nat} {qs : List Dt} {d : Df} (h : Rpl w wr ws ps r g c qs) (hK : Kp (w.heap.size + 2) none wr w2)
    (hS : St w2 (w.heap.size + 2) ws2 qs2 r2) (hm : qs2.map (·.1) = d.body) (hB : BdO w2 wr.heap.size (.slice g2 d.body.length c2) qs2) (hl : ws2.length < ws.length) :
    Pd w2 (w.heap.size + 3) (.slice g qs.length c) qs ∧ ExsT w2 g2 d.body ∧ Bx1 w2 (w.heap.size + 1) (.slice g qs.length c) ∧ Bx1 w2 w.heap.size (.slice none 0 0) ∧ Below w.heap.size w w2 ∧ St w2 (w.heap.size + 2) ws2 qs2 r2 ∧ qs.length + 1 + ws2.length ≤ 4096 ∧ w.heap.size + 3 ≤ w2.heap.size := by
  obtain ⟨u, v, hr⟩ := h.st.rdr
  have hlen : qs2.length = d.body.length := by rw [← hm, List.length_map]
  rw [← hlen] at hB
  have hE := hB.exsT
  rw [hm] at hE
  have hz := hS.lt
  have hf := h.few
  exact ⟨h.pd.off hr hK (by omega), hE, h.box.kp hK (by omega) (by simp), h.out.kp hK (by omega) (by simp), Kp.low h.low hK (by omega), hS, by omega, by omega⟩
/-- The definition has been put behind the others. -/
theorem Rpl.put {w w2 w3 : World} {ws2 : List Wd} {qs2 : List Pt} {r2 : Option Nat} {g g2 g3 : Option Addr} {c c2 c3 : Nat} {qs : List Dt} {d : Df} {o o' : Obj}
    (h : Pd w2 (w.heap.size + 3) (.slice g qs.length c) qs ∧ ExsT w2 g2 d.body ∧ Bx1 w2 (w.heap.size + 1) (.slice g qs.length c) ∧ Bx1 w2 w.heap.size (.slice none 0 0) ∧ Below w.heap.size w w2 ∧ St w2 (w.heap.size + 2) ws2 qs2 r2 ∧ qs.length + 1 + ws2.length ≤ 4096 ∧ w.heap.size + 3 ≤ w2.heap.size)
    (hP : Pd w3 (w.heap.size + 3) (.slice g3 (qs ++ [(d, g2, c2)]).length c3) (qs ++ [(d, g2, c2)])) (hg : ((w2.alloc o).alloc o').grownBy w3 (Value.slice g qs.length c).ownBlock) :
    Bx1 w3 (w.heap.size + 1) (.slice g qs.length c) ∧ Rpl w (w3.setCell ⟨w.heap.size + 1, 0, none⟩ (.slice g3 (qs ++ [(d, g2, c2)]).length c3)) ws2 qs2 r2 g3 c3 (qs ++ [(d, g2, c2)]) := by
  obtain ⟨h1, h2, h3, h4, h5, h6, h7, h8⟩ := h
  have hb : Below w2.heap.size w2 ((w2.alloc o).alloc o') := ((Below.refl _ w2).alloc (Nat.le_refl _) o).alloc (by simp) o'
  have hP2 := h1.on hb
  have hrow : ∀ k, (Value.slice g qs.length c).ownBlock = some k → w.heap.size + 3 ≤ k := fun k hk => (h1.own.lt k hk).1
  have ho : Only36 ((w2.alloc o).alloc o') (Value.slice g qs.length c).ownBlock := only_own hP2.own
  have b1 : Bx1 w3 (w.heap.size + 1) (.slice g qs.length c) := (h3.on hb).kept hg (hP2.not_box (h3.on hb))
  have b0 : Bx1 w3 w.heap.size (.slice none 0 0) := (h4.on hb).kept hg (hP2.not_box (h4.on hb))
  have s1 := ((h6.below hb).grown hg ho (fun k hk => by have := hrow k hk; omega)).box1 b1 0 (.slice g3 (qs ++ [(d, g2, c2)]).length c3)
  have hl : Below w.heap.size w w3 := (h5.trans (hb.mono (by omega))).grown hg (by have := hb.size; omega) (fun k hk => by have := hrow k hk; omega)
  refine ⟨b1, s1, hP.far b1 0 _, b1.set0 _, b0.far (by omega) 0 _, hl.setCell (p := ⟨w.heap.size + 1, 0, none⟩) (Nat.le_succ _) _, ?_⟩
  rw [List.length_append, List.length_singleton]; omega

theorem rdf_gd {n : Nat} {ws ws' : List Wd} {d : Df} (h : rdf n ws = some (ws', d)) : ws' <:+ ws ∧ ws'.length < ws.length := by
  obtain ⟨t1, v1, hx1⟩ : ∃ t v, nxt ws = (t, v) := ⟨_, _, rfl⟩
  obtain ⟨t2, v2, hx2⟩ : ∃ t v, nxt v1 = (t, v) := ⟨_, _, rfl⟩
  obtain ⟨t3, v3, hx3⟩ : ∃ t v, nxt v2 = (t, v) := ⟨_, _, rfl⟩
  have l1 := nxt_len ws
  have l2 := nxt_len v1
  have l3 := nxt_len v2
  have sf : ∀ ws : List Wd, (nxt ws).2 <:+ ws := fun ws => by
    cases ws with
    | nil => exact List.suffix_refl _
    | cons w ws => exact List.suffix_cons _ _
  have s1 := sf ws
  have s2 := sf v1
  have s3 := sf v2
  rw [rdf_eq hx1 hx2 hx3] at h
  rw [hx1] at l1 s1
  rw [hx2] at l2 s2
  rw [hx3] at l3 s3
  dsimp only at l1 l2 l3 s1 s2 s3
  split at h
  · split at h
    · split at h
      · cases h
      · split at h
        · cases h
        · rename_i ws1 b1 h1
          split at h
          · cases h
            obtain ⟨g1, g2, _⟩ := rp_gd n _ _ _ _ h1
            have l4 := nxt_len ws1
            exact ⟨(((sf ws1).trans g1).trans s3).trans (s2.trans s1), by omega⟩
          · cases h
    · cases h
  · cases h
theorem rpg_end {n m : Nat} {ds : List Df} (h : 0 < m) : rpg n m ds [] = some ds := by
  cases m with
  | zero => omega
  | succ m => rfl
theorem rpg_no {n m : Nat} {ds : List Df} {w : Wd} {ws : List Wd} (h : rdf n (w :: ws) = none) : rpg n m ds (w :: ws) = none := by
  cases m with
  | zero => rfl
  | succ m => rw [rpg, h]
theorem rpg_on {n m : Nat} {ds : List Df} {w : Wd} {ws ws' : List Wd} {d : Df} (h : rdf n (w :: ws) = some (ws', d)) : rpg n (m + 1) ds (w :: ws) = rpg n m (ds ++ [d]) ws' := by
  rw [rpg, h]

set_option maxHeartbeats 2000000 in
set_option maxRecDepth 100000 in
theorem prog_any (n m0 : Nat) (g : Option Addr) (c : Nat) (ws : List Wd) (w : World) (hn : ws.length ≤ n) (hm0 : ws.length < m0) (hs : Sz ws []) (hc : ws.length ≤ c) (hT : WTx w w.heap.size g ws) (hL : Lw w) :
    Calls Tryz.prog 22 #[.slice g ws.length c] w fun e w' => ProgQ (rpg n m0 [] ws) w e w' := by
  obtain ⟨O, hO⟩ : ∃ O, rpg n m0 [] ws = O := ⟨_, rfl⟩
  rw [hO]
  have HL : Hid (LwB w.heap.size w) := fun W' h => hL.on h
  have HO : Hid (rpg n m0 [] ws = O) := hO
  have HS0 : Hid (Sz ws []) := hs
  have HI : Hid (Rpl w (((w.alloc (.cells #[.slice none 0 0] 24)).alloc (.cells #[.slice none 0 0] 24)).alloc (.cells #[.slice g ws.length c, .slice none 0 0] 78)) ws [] none none 0 []) := by
    have hb : Below w.heap.size w (((w.alloc (.cells #[.slice none 0 0] 24)).alloc (.cells #[.slice none 0 0] 24)).alloc (.cells #[.slice g ws.length c, .slice none 0 0] 78)) := (((Below.refl _ w).alloc (Nat.le_refl _) _).alloc (by simp) _).alloc (by simp; omega) _
    have h3 := World.alloc_heap_new ((w.alloc (.cells #[.slice none 0 0] 24)).alloc (.cells #[.slice none 0 0] 24)) (.cells #[.slice g ws.length c, .slice none 0 0] 78)
    rw [World.size_alloc, World.size_alloc] at h3
    have h2 := Bx1.new (w.alloc (.cells #[.slice none 0 0] 24)) (.slice none 0 0)
    rw [World.size_alloc] at h2
    refine ⟨⟨g, c, _, h3, ?_, hc, BdO.nil _ _, rfl⟩, Pd.nil _ _, h2.alloc _, ((Bx1.new w _).alloc _).alloc _, hb, by have := hs.1; simp at this ⊢; omega⟩
    rcases hT.on (fun k hk => hb.block k hk) with h | ⟨bk, o, e1, e2, e3⟩
    · exact Or.inl h
    · exact Or.inr ⟨bk, o, e1, by omega, e3⟩
  clear hO hs hT hL hc
  go_enter Tryz.func22, Tryz.ntmps22
  go_wp2_with fail
  obtain ⟨W3, hW3⟩ : ∃ W3, ((w.alloc (.cells #[.slice none 0 0] 24)).alloc (.cells #[.slice none 0 0] 24)).alloc (.cells #[.slice g ws.length c, .slice none 0 0] 78) = W3 := ⟨_, rfl⟩
  rw [hW3] at HI ⊢
  clear hW3
  go_loopw [6, 7] (fun _ _ wr => ∃ (ws1 : List Wd) (ps1 : List Pt) (r1 : Option Nat) (g1 : Option Addr) (c1 : Nat) (qs1 : List Dt) (m1 : Nat), Hid (Rpl w wr ws1 ps1 r1 g1 c1 qs1) ∧ Hid (ws1.length ≤ n ∧ ws1.length < m1 ∧ ws1 <:+ ws ∧ rpg n m1 (qs1.map (·.1)) ws1 = O))
    (fun _ _ wr => leftOf (w.heap.size + 2) wr)
  case atStart => exact ⟨ws, [], none, none, 0, [], m0, HI, ⟨hn, hm0, List.suffix_refl _, HO.out⟩⟩
  case round =>
    clear HI HO hn hm0
    obtain ⟨ws1, ps1, r1, g1, c1, qs1, m1, HR, HN⟩ := hrel
    have p0 := HR.out.box.c0
    have pf := HR.out.box.frozen 0
    have o0 := HR.out.out.c0
    have of := HR.out.out.frozen 0
    have hlt := HR.out.st.lt
    cases ws1 with
    | nil =>
      obtain ⟨gw, cw, c0⟩ := HR.out.words
      rw [List.length_nil] at c0
      have HE : Hid (O = some (qs1.map (·.1))) := by show _ = _; rw [← HN.out.2.2.2, rpg_end HN.out.2.1]
      go_wp2_with fail
      refine bodyPost_ret (v := .tuple #[.agg #[.slice g1 qs1.length c1], .bool true]) (by simp [results, Tryz.results22, go_sem, o0]) rfl ?_
      refine ⟨HR.out.low.setCell (p := ⟨w.heap.size, 0, none⟩) (Nat.le_refl _) _, ?_⟩
      rw [HE.out]
      have hp := HR.out.pd.far HR.out.out 0 (.slice g1 qs1.length c1)
      refine ⟨g1, c1, qs1, by simp, rfl, ?_⟩
      rw [List.length_map]
      exact ⟨own_rebase hp.own (fun k hk => by have := (hp.own.lt k hk).1; omega), hp.bodies⟩
    | cons w1 ws1 =>
      obtain ⟨gw, cw, c0⟩ := HR.out.words
      rw [List.length_cons] at c0
      have hl0 : (0 : Int) < (ws1.length : Int) + 1 := by omega
      have hcall := def_any n (w1 :: ws1) ps1 r1 wr (w.heap.size + 2) HN.out.1 (HS0.out.on HN.out.2.2.1 (by have := HN.out.2.2.1.length_le; simp at this ⊢; omega)) HR.out.st (fun X hX => HL.out X (HR.out.low.trans (hX.mono (by omega))))
      go_wp2_with fail
      refine hcall.mono ?_
      rintro e w2 ⟨hK, hQ⟩
      cases hp : rdf n (w1 :: ws1) with
      | none =>
        rw [hp] at hQ
        obtain ⟨p2, g2, n2, k2, rfl⟩ := hQ
        have HE : Hid (O = none) := by show _ = _; rw [← HN.out.2.2.2, rpg_no hp]
        have o2 := HR.out.out.kp hK (by omega) (by simp)
        have o0 := o2.c0
        have of := o2.frozen 0
        have ol := o2.lt
        have HLW : Hid (Below w.heap.size w w2) := Kp.low HR.out.low hK (by omega)
        clear hp hcall c0 p0 pf o2
        go_wp2_with fail
        refine bodyPost_ret (v := .tuple #[.agg #[.slice none 0 0], .bool false]) (by simp [results, Tryz.results22, go_sem, o0, ol]) rfl ?_
        refine ⟨(HLW.out.setCell (p := ⟨w.heap.size, 0, none⟩) (Nat.le_refl _) _).alloc (by have := HLW.out.size; simp; omega) _, ?_⟩
        rw [HE.out]
      | some y =>
        obtain ⟨ws2, d⟩ := y
        rw [hp] at hQ
        obtain ⟨g2, c2, qs2, r2, rfl, hS2, hm2, hB2⟩ := hQ
        obtain ⟨gd1, gd2⟩ := rdf_gd hp
        have HH : Hid _ := HR.out.read hK hS2 hm2 hB2 gd2
        have HN2 : Hid (ws2.length ≤ n ∧ ws2.length < m1 - 1 ∧ ws2 <:+ ws ∧ rpg n (m1 - 1) (qs1.map (·.1) ++ [d]) ws2 = O ∧ ws2.length < ws1.length + 1) := by
          obtain ⟨h1, h2, h3, h4⟩ := HN.out
          simp only [List.length_cons] at h1 h2 gd2
          obtain ⟨m', rfl⟩ : ∃ m', m1 = m' + 1 := ⟨m1 - 1, by omega⟩
          rw [rpg_on hp] at h4
          rw [Nat.add_sub_cancel]
          exact ⟨by omega, by omega, gd1.trans h3, h4, by omega⟩
        have p0 := HH.out.2.2.1.c0
        have hlt2 := HH.out.2.2.1.lt
        have hlen : (qs1.length + 1) * 32 ≤ 140737488355328 := by have := HH.out.2.2.2.2.2.2.1; omega
        have HLF : Hid (leftOf (w.heap.size + 2) wr = ws1.length + 1) := HR.out.st.left
        clear hp hcall c0 pf o0 of hK hS2 hm2 hB2 gd1 gd2 HR HN hlt
        go_wp2_with (at_builtin; refine app_df rfl _ _ rfl (w.heap.size + 3) (.slice g1 qs1.length c1) qs1 (d, g2, c2) _ rfl rfl (w2.heap.size + 1) (by simp) rfl (HH.out.1.alloc _) (HH.out.2.1.alloc _) (by have := HH.out.2.2.2.2.2.2.2; simp; omega) hlen ?_)
        intro v3 w3 hP3 hg3
        obtain ⟨g3, k3, rfl⟩ := hP3.val
        obtain ⟨hb3, hR3⟩ := Rpl.put HH.out hP3 hg3
        have HR3 : Hid _ := hR3
        have q0 := hb3.c0
        have qf := hb3.frozen 0
        have ql := hb3.lt
        have hl3 : (qs1 ++ [((d, g2, c2) : Dt)]).length = qs1.length + 1 := by rw [List.length_append]; rfl
        rw [hl3] at HR3 ⊢
        clear hP3 hg3 hb3 hR3 HH hl3
        go_wp2_with fail
        go_roundw
        case rel => exact ⟨ws2, qs2, r2, g3, k3, qs1 ++ [(d, g2, c2)], m1 - 1, HR3, ⟨HN2.out.1, HN2.out.2.1, HN2.out.2.2.1, by rw [List.map_append]; exact HN2.out.2.2.2.1⟩⟩
        case measure =>
          rw [HR3.out.st.left, HLF.out]
          exact HN2.out.2.2.2.2
end Go.Proofs.YtighcikiaddfcaaGreatDoor

namespace Go.Proofs.YtighcikiaddfcaaGreatDoor
open Go.RowKit
set_option linter.unusedVariables false

/-- A program's value. -/
abbrev pV (g : Option Addr) (n c : Nat) : Value := .agg #[.slice g n c]
/-- How Parse ends. -/
def ParseQ (o : Option (List Df)) (w : World) (e : Ending) (w' : World) : Prop :=
  Below w.heap.size w w' ∧ match o with
  | none => e = .returned (.tuple #[pV none 0 0, .int .i64 700])
  | some ds => ∃ g c qs, e = .returned (.tuple #[pV g ds.length c, .int .i64 0]) ∧ qs.map (·.1) = ds ∧ Pd w' w.heap.size (.slice g ds.length c) qs
theorem ParseQ.no {o : Option (List Df)} {w w' : World} (h : o = none) (hb : Below w.heap.size w w') : ParseQ o w (.returned (.tuple #[pV none 0 0, .int .i64 700])) w' := by subst h; exact ⟨hb, rfl⟩
theorem sz_words {s : List UInt8} (h : Lx.good s = true) : Sz (Lx.wd false [] s) [] ∧ (Lx.wd false [] s).length ≤ 2048 := by
  have hl : s.length ≤ 2048 := by
    unfold Lx.good at h
    simp at h
    exact h.1
  have h1 := Lx.wd_short s
  refine ⟨⟨by simp; omega, fun x hx => ?_⟩, by omega⟩
  have := (Lx.wd_shape s false [] (by simp) x hx).2.1
  simp at this; omega
theorem wtx_own {w : World} {B : Nat} {g : Option Addr} {n c : Nat} {ks : List Wd} (h : w.ownsRow B 9 1 (.slice g n c) ks.length (ks.map Lx.S)) : WTx w w.heap.size g ks ∧ ks.length ≤ c := by
  rcases h.2 with ⟨_, h3⟩ | ⟨b, cap, cur, hv, _, hh, hc, _⟩
  · rw [h3]; exact ⟨Or.inl (List.length_eq_zero_iff.1 h3), Nat.zero_le _⟩
  · simp at hv
    obtain ⟨rfl, rfl, rfl⟩ := hv
    refine ⟨Or.inr ⟨b, 0, rfl, (Array.getElem?_eq_some_iff.1 hh).1, fun j x hx => ?_⟩, hc⟩
    have h1 := h.cells (g := b) rfl j (Lx.S x) (by rw [List.getElem?_map, hx]; rfl)
    rw [Addr.add_lit] at h1
    exact h1
theorem pp_bad {s : List UInt8} (h : Lx.good s = false) : pp s = none := by unfold pp; rw [h]; rfl
theorem pp_no {s : List UInt8} (h : Lx.good s = true) (hr : rpg 2049 2049 [] (Lx.wd false [] s) = none) : pp s = none := by unfold pp; rw [h, hr]; rfl
theorem pp_may {s : List UInt8} {ds : List Df} (h : Lx.good s = true) (hr : rpg 2049 2049 [] (Lx.wd false [] s) = some ds) (hm : pmay ds = false) : pp s = none := by unfold pp; rw [h, hr]; simp [hm]
theorem pp_yes {s : List UInt8} {ds : List Df} (h : Lx.good s = true) (hr : rpg 2049 2049 [] (Lx.wd false [] s) = some ds) (hm : pmay ds = true) : pp s = some ds := by unfold pp; rw [h, hr]; simp [hm]

set_option maxHeartbeats 2000000 in
set_option maxRecDepth 100000 in
theorem parse_any (s : ByteArray) (w : World) (hL : Lw w) : Calls Tryz.prog 9 #[.string s] w fun e w' => ParseQ (pp s.data.toList) w e w' := by
  obtain ⟨O, hO⟩ : ∃ O, pp s.data.toList = O := ⟨_, rfl⟩
  rw [hO]
  have HO : Hid (pp s.data.toList = O) := hO
  have hX1 := Bx1.new w (.slice none 0 0)
  have HL1 : Hid (Lw (w.alloc (.cells #[.slice none 0 0] 24))) := hL.on ((Below.refl _ w).alloc (Nat.le_refl _) _)
  have hb1 : Below w.heap.size w (w.alloc (.cells #[.slice none 0 0] 24)) := (Below.refl _ w).alloc (Nat.le_refl _) _
  clear hO hL
  cases hg : Lx.good s.data.toList with
  | false =>
    have HE : Hid (O = none) := by show _ = _; rw [← HO.out, pp_bad hg]
    have hcall := Lx.words_bad s (w.alloc (.cells #[.slice none 0 0] 24)) hg
    obtain ⟨W1, hW1⟩ : ∃ W1, w.alloc (.cells #[.slice none 0 0] 24) = W1 := ⟨_, rfl⟩
    rw [hW1] at hcall hX1 HL1 hb1
    clear hg
    go_enter Tryz.func9, Tryz.ntmps9
    go_wp2_with fail
    clear hW1
    refine hcall.mono ?_
    rintro e w2 ⟨rfl, hb2⟩
    have hX2 := hX1.on hb2
    have x0 := hX2.c0
    have xf := hX2.frozen 0
    have xl := hX2.lt
    have HB : Hid (Below w.heap.size w w2) := below_next hb1 hb2
    clear hcall hX2 hX1 hb1 hb2
    go_wp2_with fail
    refine bodyPost_ret (v := .tuple #[pV none 0 0, .int .i64 700]) (by simp [results, Tryz.results9, go_sem, x0]) rfl ?_
    exact ParseQ.no HE.out (HB.out.setCell (p := ⟨w.heap.size, 0, none⟩) (Nat.le_refl _) _)
  | true =>
    have HG : Hid (Lx.good s.data.toList = true) := hg
    have hcall := Lx.words_good s (w.alloc (.cells #[.slice none 0 0] 24)) hg
    obtain ⟨hsz, hsl⟩ := sz_words hg
    obtain ⟨ws, hws⟩ : ∃ ws, Lx.wd false [] s.data.toList = ws := ⟨_, rfl⟩
    have HW : Hid (Lx.wd false [] s.data.toList = ws) := hws
    rw [hws] at hcall hsz hsl
    obtain ⟨W1, hW1⟩ : ∃ W1, w.alloc (.cells #[.slice none 0 0] 24) = W1 := ⟨_, rfl⟩
    rw [hW1] at hcall hX1 HL1 hb1
    clear hg hws
    go_enter Tryz.func9, Tryz.ntmps9
    go_wp2_with fail
    clear hW1
    refine hcall.mono ?_
    rintro e w2 ⟨g, c, rfl, ho2, hb2⟩
    obtain ⟨hT2, hc2⟩ := wtx_own ho2
    have hP := prog_any 2049 2049 g c ws w2 (by omega) (by omega) hsz hc2 hT2 (HL1.out.on hb2)
    have HX2 : Hid (Bx1 w2 w.heap.size (.slice none 0 0)) := hX1.on hb2
    have HB2 : Hid (Below w.heap.size w w2) := below_next hb1 hb2
    clear hcall hX1 hb1 hb2 ho2 hT2 hc2 hsz hsl
    go_wp2_with fail
    refine hP.mono ?_
    clear hP
    rintro e w3 ⟨hb3, hQ⟩
    have HX3 : Hid (Bx1 w3 w.heap.size (.slice none 0 0)) := HX2.out.on hb3
    have HB3 : Hid (Below w.heap.size w w3) := below_next HB2.out hb3
    have HZ : Hid (w.heap.size ≤ w2.heap.size) := HB2.out.size
    have x0 := HX3.out.c0
    have xf := HX3.out.frozen 0
    have xl := HX3.out.lt
    clear HX2 HB2 hb3
    cases hr : rpg 2049 2049 [] ws with
    | none =>
      rw [hr] at hQ
      subst hQ
      have HE : Hid (O = none) := by show _ = _; rw [← HO.out, pp_no HG.out (by rw [HW.out]; exact hr)]
      clear hr
      go_wp2_with fail
      refine bodyPost_ret (v := .tuple #[pV none 0 0, .int .i64 700]) (by simp [results, Tryz.results9, go_sem, x0, xl]) rfl ?_
      exact ParseQ.no HE.out ((HB3.out.setCell (p := ⟨w.heap.size, 0, none⟩) (Nat.le_refl _) _).alloc (by have := HB3.out.size; simp; omega) _)
    | some ds =>
      rw [hr] at hQ
      obtain ⟨g3, c3, qs, rfl, hq3, hP3⟩ := hQ
      have hl3 : ds.length = qs.length := by rw [← hq3, List.length_map]
      have hd3 : Defs Exs w3 g3 ds := by
        have h := hP3
        rw [hl3] at h
        have h := h.defs
        rwa [hq3] at h
      have hM := pmay_any g3 c3 ds (w3.alloc (.cells #[.slice g3 ds.length c3] 24)) (hd3.on ((Below.refl _ w3).alloc (Nat.le_refl _) _))
      have HM : Hid (pmay ds = true → O = some ds) := fun h => by rw [← HO.out, pp_yes HG.out (by rw [HW.out]; exact hr) h]
      have HM2 : Hid (pmay ds = false → O = none) := fun h => by rw [← HO.out, pp_may HG.out (by rw [HW.out]; exact hr) h]
      have HX4 : Hid (Bx1 (w3.alloc (.cells #[.slice g3 ds.length c3] 24)) w.heap.size (.slice none 0 0)) := HX3.out.alloc _
      have HY4 : Hid (Bx1 (w3.alloc (.cells #[.slice g3 ds.length c3] 24)) w3.heap.size (.slice g3 ds.length c3)) := Bx1.new w3 _
      have HB4 : Hid (Below w.heap.size w (w3.alloc (.cells #[.slice g3 ds.length c3] 24))) := HB3.out.alloc HB3.out.size _
      have HP4 : Hid (Pd (w3.alloc (.cells #[.slice g3 ds.length c3] 24)) w2.heap.size (.slice g3 ds.length c3) qs ∧ qs.map (·.1) = ds) := ⟨hP3.alloc _, hq3⟩
      obtain ⟨b, hb⟩ : ∃ b, pmay ds = b := ⟨_, rfl⟩
      rw [hb] at hM HM HM2
      clear hr hq3 hl3 hP3 hd3 hb
      go_wp2_with fail
      obtain ⟨W4, hW4⟩ : ∃ W4, w3.alloc (.cells #[.slice g3 ds.length c3] 24) = W4 := ⟨_, rfl⟩
      rw [hW4] at hM HX4 HY4 HB4 HP4 ⊢
      clear hW4
      refine hM.mono ?_
      clear hM
      rintro e w5 ⟨rfl, hb5⟩
      have hX5 := HX4.out.on hb5
      have hY5 := HY4.out.on hb5
      have x5 := hX5.c0
      have y5 := hY5.c0
      have f5 := hX5.frozen 0
      have l5 := hX5.lt
      have HX5 : Hid (Bx1 w5 w.heap.size (.slice none 0 0)) := hX5
      have HB5 : Hid (Below w.heap.size w w5) := below_next HB4.out hb5
      have HP5 : Hid (Pd w5 w2.heap.size (.slice g3 ds.length c3) qs ∧ qs.map (·.1) = ds) := ⟨HP4.out.1.on hb5, HP4.out.2⟩
      clear hX5 hY5 hb5 HX4 HY4 HB4 HP4 x0 xf xl HX3 HB3
      cases b with
      | false =>
        go_wp2_with fail
        refine bodyPost_ret (v := .tuple #[pV none 0 0, .int .i64 700]) (by simp [results, Tryz.results9, go_sem, x5]) rfl ?_
        exact ParseQ.no (HM2.out (by first | rfl | trivial)) (HB5.out.setCell (p := ⟨w.heap.size, 0, none⟩) (Nat.le_refl _) _)
      | true =>
        go_wp2_with fail
        refine bodyPost_ret (v := .tuple #[pV g3 ds.length c3, .int .i64 0]) (by simp [results, Tryz.results9, go_sem, x5]) rfl ?_
        refine ⟨HB5.out.setCell (p := ⟨w.heap.size, 0, none⟩) (Nat.le_refl _) _, ?_⟩
        rw [HM.out (by first | rfl | trivial)]
        have hp := HP5.out.1.far HX5.out 0 (.slice g3 ds.length c3)
        exact ⟨g3, c3, qs, rfl, HP5.out.2, own_rebase hp.own (fun k hk => by have h1 := (hp.own.lt k hk).1; have h2 := HZ.out; omega), hp.bodies⟩
end Go.Proofs.YtighcikiaddfcaaGreatDoor

namespace Go.Proofs.YtighcikiaddfcaaGreatDoor
open Go.RowKit
set_option linter.unusedVariables false

/-- The source's bytes. -/
def srcL : List UInt8 := [40, 100, 101, 102, 32, 48, 32, 40, 102, 49, 32, 40, 64, 55, 32, 101, 114, 114, 111, 114, 32, 52, 41, 32, 53, 41, 41, 10, 40, 100, 101, 102, 32, 50, 32, 40, 99, 97, 115, 101, 32, 36, 48, 32, 64, 55, 32, 50, 32, 40, 43, 32, 36, 51, 32, 36, 49, 41, 32, 40, 43, 32, 36, 48, 32, 36, 49, 41, 41, 41, 10]
theorem pp_src : pp srcL = some smallL := by decide +kernel
set_option maxHeartbeats 400000 in
theorem source_any (w : World) : Calls Tryz.prog 17 #[] w fun e w' => e = .returned (.string ⟨srcL.toArray⟩) ∧ w = w' := by
  go_enter Tryz.func17, Tryz.ntmps17
  go_wp2
  go_ret
  exact ⟨rfl, rfl⟩
/-- What may be is small. -/
theorem pm_small {ds : List Df} (h : pmay ds = true) : ds.length ≤ 8 ∧ ∀ d ∈ ds, d.body.length ≤ 24 ∧ ∀ x ∈ d.body, x.kids.length ≤ 3 := by
  unfold pmay at h
  simp only [Bool.and_eq_true, decide_eq_true_eq] at h
  obtain ⟨⟨⟨_, h1⟩, _⟩, h2⟩ := h
  refine ⟨h1, fun d hd => ?_⟩
  have h3 := List.all_eq_true.1 h2 d hd
  unfold dOk at h3
  rw [Bool.and_eq_true] at h3
  refine ⟨may_len h3.1, fun x hx => ?_⟩
  obtain ⟨t, ht⟩ := may_parts h3.1 x hx
  unfold Ex.ok okE at ht
  split at ht
  · simp at ht; simp [ht.2.2]
  split at ht
  · simp at ht; simp [ht.2.2]
  split at ht
  · simp at ht; omega
  split at ht
  · simp at ht; omega
  split at ht
  · simp at ht; omega
  split at ht
  · simp at ht; omega
  split at ht
  · simp at ht; omega
  split at ht
  · simp at ht; simp [ht.2.2]
  cases ht
theorem pp_pm {s : List UInt8} {ds : List Df} (h : pp s = some ds) : pmay ds = true := by
  unfold pp at h
  split at h
  · split at h
    · cases h
    · split at h
      · rename_i hp; cases h; exact hp
      · cases h
  · cases h
/-- Two that hold the same, of definitions that are being built and of others. -/
theorem same_may (ga gb : Option Addr) (ds : List Df) (ca cb : Nat) (w : World) (ha : Defs Exs w ga ds) (hb : Defs Exs w gb ds) (hp : pmay ds = true) :
    Calls Tryz.prog 11 #[.agg #[.slice ga ds.length ca], .agg #[.slice gb ds.length cb]] w fun e w' => e = .returned (.bool true) ∧ Below w.heap.size w w' := by
  obtain ⟨h1, h2⟩ := pm_small hp
  exact program_same ga gb ds ca cb w ha hb (by omega) (fun d hd => ⟨by have := (h2 d hd).1; omega, fun x hx => by have := (h2 d hd).2 x hx; omega⟩)
theorem Pd.defs' {W : World} {base : Nat} {g : Option Addr} {c : Nat} {qs : List Dt} {ds : List Df} (h : Pd W base (.slice g ds.length c) qs) (hq : qs.map (·.1) = ds) : Defs Exs W g ds := by
  have hl : ds.length = qs.length := by rw [← hq, List.length_map]
  rw [hl] at h
  have h := h.defs
  rwa [hq] at h

set_option maxHeartbeats 2000000 in
set_option maxRecDepth 100000 in
theorem awake_any (w : World) (hL : Lw w) : Calls Tryz.prog 14 #[] w fun e w' => e = .returned (.bool true) ∧ Below w.heap.size w w' := by
  obtain ⟨s1, hs1⟩ : ∃ s : ByteArray, s = ⟨srcL.toArray⟩ := ⟨_, rfl⟩
  have hc1 := parse_any s1 w hL
  rw [show pp s1.data.toList = some smallL by rw [hs1]; exact pp_src] at hc1
  have hc2 : ∀ W, Lw W → Calls Tryz.prog 9 #[.string ⟨#[40, 100, 101, 102, 32, 48, 32, 36, 48, 41]⟩] W fun e w' => e = .returned (.tuple #[pV none 0 0, .int .i64 700]) ∧ Below W.heap.size W w' := fun W h => by
    refine (parse_any ⟨#[40, 100, 101, 102, 32, 48, 32, 36, 48, 41]⟩ W h).mono ?_
    intro e w' hq
    rw [show pp (⟨#[40, 100, 101, 102, 32, 48, 32, 36, 48, 41]⟩ : ByteArray).data.toList = none from src_one] at hq
    exact ⟨hq.2, hq.1⟩
  have hc3 : ∀ W, Lw W → Calls Tryz.prog 9 #[.string ⟨#[]⟩] W fun e w' => e = .returned (.tuple #[pV none 0 0, .int .i64 700]) ∧ Below W.heap.size W w' := fun W h => by
    refine (parse_any ⟨#[]⟩ W h).mono ?_
    intro e w' hq
    rw [show pp (⟨#[]⟩ : ByteArray).data.toList = none from src_two] at hq
    exact ⟨hq.2, hq.1⟩
  go_enter Tryz.func14, Tryz.ntmps14
  go_wp2_with fail
  refine (source_any w).mono ?_
  rintro e w0 ⟨rfl, rfl⟩
  rw [← hs1]
  clear hs1
  go_wp2_with fail
  refine hc1.mono ?_
  clear hc1
  rintro e w1 ⟨hb1, g, c, qs, rfl, hq, hP⟩
  have HD1 : Hid (Defs Exs w1 g smallL) := hP.defs' hq
  have HB1 : Hid (Below w.heap.size w w1) := hb1
  have HL : Hid (Lw w) := hL
  clear hb1 hq hP hL
  go_wp2_with fail
  refine (hc2 _ (HL.out.on (HB1.out.alloc HB1.out.size _))).mono ?_
  clear hc2
  rintro e w2 ⟨rfl, hb2⟩
  have hX2 := (Bx1.new w1 (.slice g smallL.length c)).on hb2
  have HX2 : Hid (Bx1 w2 w1.heap.size (.slice g smallL.length c)) := hX2
  have HB2 : Hid (Below w.heap.size w w2) := below_next (HB1.out.alloc HB1.out.size _) hb2
  have HD2 : Hid (Defs Exs w2 g smallL) := (HD1.out.on ((Below.refl _ w1).alloc (Nat.le_refl _) _)).on hb2
  clear hX2 hb2 HD1 HB1
  go_wp2_with fail
  refine (hc3 _ (HL.out.on (HB2.out.alloc HB2.out.size _))).mono ?_
  clear hc3
  rintro e w3 ⟨rfl, hb3⟩
  have HX3 : Hid (Bx1 w3 w1.heap.size (.slice g smallL.length c)) := (HX2.out.alloc _).on hb3
  have HB3 : Hid (Below w.heap.size w w3) := below_next (HB2.out.alloc HB2.out.size _) hb3
  have HD3 : Hid (Defs Exs w3 g smallL) := (HD2.out.on ((Below.refl _ w2).alloc (Nat.le_refl _) _)).on hb3
  have x0 := HX3.out.c0
  have xl := HX3.out.lt
  clear hb3 HD2 HB2 HX2
  go_wp2_with fail
  obtain ⟨W, hW⟩ : ∃ W, w3.alloc (.cells #[.slice none 0 0] 24) = W := ⟨_, rfl⟩
  have HB : Hid (Below w.heap.size w W) := by rw [← hW]; exact HB3.out.alloc HB3.out.size _
  have HD : Hid (Defs Exs W g smallL) := by rw [← hW]; exact HD3.out.on ((Below.refl _ w3).alloc (Nat.le_refl _) _)
  have x1 : W.cell? ⟨w1.heap.size, 0, none⟩ = some (.slice g smallL.length c) := by rw [← hW]; exact (HX3.out.alloc _).c0
  rw [hW]
  clear hW x0 xl HB3 HD3 HX3
  go_region_with (first
    | (go_at_call 15; refine (small_any _).mono ?_; rintro e w5 ⟨rfl, a5, hb5, s5⟩; have hb6 : Below W.heap.size W w5 := ⟨hb5.os, hb5.tape, hb5.output, hb5.size, hb5.block⟩; have x5 := cell_nx x1 hb6; have HD5 : Hid (Defs Exs w5 g smallL ∧ Defs Exs w5 (some ⟨W.heap.size + 10, 0, none⟩) smallL ∧ Below w.heap.size w w5) := ⟨HD.out.on hb6, a5.defs, below_next HB.out hb6⟩; clear a5 hb5 s5 hb6)
    | (go_at_call 11; refine (same_may g (some ⟨W.heap.size + 10, 0, none⟩) smallL c 2 w5 HD5.out.1 HD5.out.2.1 pmay_small).mono ?_; rintro e w6 ⟨rfl, hb6⟩; have HB6 : Hid (Below w.heap.size w w6) := below_next HD5.out.2.2 hb6; clear hb6)
    | (go_at_call 12; refine (num_any _ _).mono ?_; rintro e w7 ⟨rfl, rfl⟩))
  all_goals
    go_wp2_with fail
    go_ret
    exact ⟨rfl, HB6.out⟩
end Go.Proofs.YtighcikiaddfcaaGreatDoor
