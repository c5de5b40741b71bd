/- The contract of readCase, out of readPart's. · The contract of readBracket, out of readPart's. · The contract of readPart. · The contract of readDef. -/
import Derived.Test.YtighcikiaddfcaaGreatDoorMReader

namespace Go.Proofs.YtighcikiaddfcaaGreatDoor
open Go.RowKit
set_option linter.unusedVariables false

/-- How readCase and readBracket end. -/
def BrQ (o : Option (List Wd × List Ex × Ex)) (z : Nat) (r : Option Nat) (W : World) (ps : List Pt) (e : Ending) (W' : World) : Prop :=
  Kp z r W W' ∧ match o with
  | none => ∃ a b c g n k, e = .returned (.tuple #[.agg #[.int .i64 a, .int .i64 b, .int .i64 c, .slice g n k], .bool false])
  | some (ws', b', x) => ∃ g c qs r', e = .returned (.tuple #[eV x g c, .bool true]) ∧ St W' z ws' (ps ++ qs) r' ∧ (ps ++ qs).map (·.1) = b' ∧ (∀ q ∈ qs, KdO W' W.heap.size q) ∧ Nx W r r' ∧ KdO W' W.heap.size (x, g, c)
theorem BrQ.no {o : Option (List Wd × List Ex × Ex)} {z : Nat} {r : Option Nat} {W W' : World} {ps : List Pt} (h : o = none) (hk : Kp z r W W') (a b c : Int) (g : Option Addr) (n k : Nat) :
    BrQ o z r W ps (.returned (.tuple #[.agg #[.int .i64 a, .int .i64 b, .int .i64 c, .slice g n k], .bool false])) W' := by subst h; exact ⟨hk, a, b, c, g, n, k, rfl⟩
theorem BrQ.yes {o : Option (List Wd × List Ex × Ex)} {z : Nat} {r : Option Nat} {W W' : World} {ps : List Pt} {ws' : List Wd} {b' : List Ex} {x : Ex} (h : o = some (ws', b', x)) (hk : Kp z r W W') (g : Option Addr) (c : Nat) (qs : List Pt) (r' : Option Nat)
    (hS : St W' z ws' (ps ++ qs) r') (hm : (ps ++ qs).map (·.1) = b') (hf : ∀ q ∈ qs, KdO W' W.heap.size q) (hN : Nx W r r') (hx : KdO W' W.heap.size (x, g, c)) :
    BrQ o z r W ps (.returned (.tuple #[eV x g c, .bool true])) W' := by subst h; exact ⟨hk, g, c, qs, r', rfl, hS, hm, hf, hN, hx⟩
def CaseSaid (n : Nat) : Prop := ∀ (ws : List Wd) (ps : List Pt) (r : Option Nat) (W : World) (z : Nat), ws.length ≤ n → Sz ws ps → St W z ws ps r → LwB z W →
  Calls Tryz.prog 102 #[ptr z] W fun e W' => BrQ (rc (rp n) (n + 1) ws (ps.map (·.1))) z r W ps e W'

/-! The box of a part, beside the reader. -/
theorem Rw.kp {z : Nat} {r : Option Nat} {W W' : World} {b : Nat} {cs : Array Value} (h : Rw W b cs) (hk : Kp z r W W') (hz : b ≠ z) (hr : some b ≠ r) : Rw W' b cs := (hk.block b h.lt hz hr).trans h
theorem St.box {W : World} {z : Nat} {ws : List Wd} {ps : List Pt} {r : Option Nat} (h : St W z ws ps r) {b : Nat} {cs : Array Value} (hb : Rw W b cs) (hz : z < b) (hr : r ≠ some b) (j : Nat) (v : Value) : St (W.setCell ⟨b, j, none⟩ v) z ws ps r := by
  obtain ⟨g, c, bv, h1, h2, h3, h4, h5⟩ := h
  refine ⟨g, c, bv, (Below.heap_setCell W _ _ z (fun e => by have e' : z = b := e; omega)).trans h1, h2.on (fun k hk => Below.heap_setCell W _ _ k (fun e => by have e' : k = b := e; omega)), h3, ⟨own_far h4.own (by rw [h5]; exact hr) _ _, fun p hp => own_far (h4.kids p hp) (own3_not_box (h4.kids p hp) hb) _ _⟩, h5⟩
theorem Kp.far {z : Nat} {r : Option Nat} {W W' : World} (h : Kp z r W W') {b : Nat} (hb : W.heap.size ≤ b) (j : Nat) (v : Value) : Kp z r W (W'.setCell ⟨b, j, none⟩ v) :=
  ⟨h.os, h.tape, h.output, Nat.le_trans h.size (KeepsWalks.setCell W' _ v).size, fun k hk hz hr => (Below.heap_setCell W' _ _ k (fun e => by have e' : k = b := e; omega)).trans (h.block k hk hz hr)⟩
theorem KdO.box {W : World} {base : Nat} {p : Pt} (h : KdO W base p) {b : Nat} {cs : Array Value} (hb : Rw W b cs) (j : Nat) (v : Value) : KdO (W.setCell ⟨b, j, none⟩ v) base p := own_far h (own3_not_box h hb) _ _
/-- All four cells of a part's box are written. -/
def put4 (W : World) (b : Nat) (v0 v1 v2 v3 : Value) : World := (((W.setCell ⟨b, 0, none⟩ v0).setCell ⟨b, 1, none⟩ v1).setCell ⟨b, 2, none⟩ v2).setCell ⟨b, 3, none⟩ v3
theorem Rw.put4 {W : World} {b : Nat} {u0 u1 u2 u3 : Value} (h : Rw W b #[u0, u1, u2, u3]) (v0 v1 v2 v3 : Value) : Rw (put4 W b v0 v1 v2 v3) b #[v0, v1, v2, v3] := (((h.set 0 v0).set 1 v1).set 2 v2).set 3 v3
theorem St.put4 {W : World} {z : Nat} {ws : List Wd} {ps : List Pt} {r : Option Nat} (h : St W z ws ps r) {b : Nat} {cs : Array Value} (hb : Rw W b cs) (hz : z < b) (hr : r ≠ some b) (v0 v1 v2 v3 : Value) : St (put4 W b v0 v1 v2 v3) z ws ps r :=
  (((h.box hb hz hr 0 v0).box (hb.set 0 v0) hz hr 1 v1).box ((hb.set 0 v0).set 1 v1) hz hr 2 v2).box (((hb.set 0 v0).set 1 v1).set 2 v2) hz hr 3 v3
theorem Kp.put4 {z : Nat} {r : Option Nat} {W W' : World} (h : Kp z r W W') {b : Nat} (hb : W.heap.size ≤ b) (v0 v1 v2 v3 : Value) : Kp z r W (put4 W' b v0 v1 v2 v3) :=
  (((h.far hb 0 v0).far hb 1 v1).far hb 2 v2).far hb 3 v3
theorem KdO.put4 {W : World} {base : Nat} {p : Pt} (h : KdO W base p) {b : Nat} {cs : Array Value} (hb : Rw W b cs) (v0 v1 v2 v3 : Value) : KdO (put4 W b v0 v1 v2 v3) base p :=
  (((h.box hb 0 v0).box (hb.set 0 v0) 1 v1).box ((hb.set 0 v0).set 1 v1) 2 v2).box (((hb.set 0 v0).set 1 v1).set 2 v2) 3 v3
theorem put4_size (W : World) (b : Nat) (v0 v1 v2 v3 : Value) : (put4 W b v0 v1 v2 v3).heap.size = W.heap.size := by simp [put4]

/-! What readRest starts from, beside a box. -/
theorem Rs.below {z : Nat} {r0 : Option Nat} {W0 : World} {ps : List Pt} {W W' : World} {ws : List Wd} {qs : List Pt} {r : Option Nat} {kv : Value} {ks : List Int} (h : Rs z r0 W0 ps W ws qs r kv ks) (hb : Below W.heap.size W W') : Rs z r0 W0 ps W' ws qs r kv ks :=
  ⟨h.kp.trans (Nx.refl _ _) ((Kp.of_below hb : Kp z r0 W W')), h.nx, h.st.below hb, fun q hq => own_keep (h.fresh q hq) (fun k _ hk _ => hb.block k hk), own_keep h.kids (fun k _ hk _ => hb.block k hk), h.apt, h.sz, h.few⟩
theorem Rs.next {z : Nat} {r0 : Option Nat} {W0 : World} {ps : List Pt} {W W' : World} {ws : List Wd} {qs : List Pt} {r : Option Nat} {kv : Value} {ks : List Int} (h : Rs z r0 W0 ps W ws qs r kv ks) (hz : z < W0.heap.size) (hS : St W' z (nxt ws).2 (ps ++ qs) r) (hK : Kp z none W W') : Rs z r0 W0 ps W' (nxt ws).2 qs r kv ks := by
  have hl := nxt_len ws
  have hsf : (nxt ws).2 <:+ ws := by
    cases ws with
    | nil => exact List.suffix_refl _
    | cons w ws => exact List.suffix_cons _ _
  have keep : ∀ {B e size n : Nat} {v : Value} {xs : List Value}, W.ownsRow B e size v n xs → z < B → W'.ownsRow B e size v n xs := fun {B e size n v xs} ho hB => hK.own ho hB (by
    cases v.ownBlock with
    | none => exact .inl rfl
    | some k => exact .inr (by simp))
  exact ⟨h.kp.trans (Nx.refl _ _) (hK.wide _), h.nx, hS, fun q hq => keep (h.fresh q hq) hz, keep h.kids hz, h.apt, h.sz.on hsf (by omega), by have := h.few; omega⟩
/-- A first kid in a row of its own. -/
theorem Rs.one {z : Nat} {r0 : Option Nat} {W0 : World} {ps : List Pt} {W : World} {ws : List Wd} {qs : List Pt} {r : Option Nat} {kv : Value} {ks : List Int} (h : Rs z r0 W0 ps W ws qs r kv ks) (k : Int) (hl : ws.length + 1 ≤ 4096) : Rs z r0 W0 ps (W.alloc (.cells #[.int .i64 k] 3)) ws qs r (.slice (some ⟨W.heap.size, 0, none⟩) 1 1) [k] := by
  have hb := h.below ((Below.refl _ W).alloc (Nat.le_refl _) (.cells #[.int .i64 k] 3))
  refine ⟨hb.kp, hb.nx, hb.st, hb.fresh, World.ownsRow_lit W #[.int .i64 k] 1 h.kp.size (by decide) rfl, fun q hq => ?_, hb.sz, by simp; omega⟩
  cases e : (Value.slice q.2.1 q.1.kids.length q.2.2).ownBlock with
  | none => exact .inl rfl
  | some b =>
    right
    have := (World.ownsRow.lt (h.fresh q hq) b e).2
    simp [Value.ownBlock]
    omega
theorem Rs.start {z : Nat} {W : World} {ws : List Wd} {ps : List Pt} {r : Option Nat} (hS : St W z ws ps r) (hs : Sz ws ps) : Rs z r W ps W ws [] r (.slice none 0 0) [] :=
  ⟨Kp.refl _ _ _, Nx.refl _ _, by rw [List.append_nil]; exact hS, (fun q hq => by cases hq), World.ownsRow_nil _ _ _ _, (fun q hq => by cases hq), by rw [List.append_nil]; exact hs, by have := hs.1; simp; omega⟩
theorem Up.start {z : Nat} {W : World} {ws : List Wd} {ps : List Pt} {r : Option Nat} (hS : St W z ws ps r) (hL : LwB z W) : Up z r W ps := by
  refine ⟨fun p hp => ?_, hS.lt, hS.row, hL⟩
  obtain ⟨g, c, bv, _, _, _, h4, _⟩ := hS
  exact h4.kids p hp
theorem LwB.alloc {z : Nat} {W : World} (h : LwB z W) (hz : z ≤ W.heap.size) (o : Obj) : LwB z (W.alloc o) := h.on (((Below.refl _ W).alloc (Nat.le_refl _) o).mono hz)
theorem Sz.word {ws : List Wd} {ps : List Pt} (h : Sz ws ps) : (Lx.ba (nxt ws).1).size ≤ 140737488355328 := by
  cases ws with
  | nil => decide
  | cons w ws =>
    have h1 := h.2 w (by simp)
    have h2 : (Lx.ba (nxt (w :: ws)).1).size = w.length := rfl
    omega
theorem ba_list (w : Wd) : (Lx.ba w).data.toList = w := rfl
theorem dg_nil : dg [] = none := by decide +kernel

theorem next_at {z : Nat} {ws : List Wd} {ps : List Pt} {r : Option Nat} {W : World} {t : Wd} {v : List Wd} (hx : nxt ws = (t, v)) (h : St W z ws ps r) (hn : ws.length ≤ 4096) :
    Calls Tryz.prog 61 #[.pointer (some ⟨z, 0, none⟩)] W fun e W' => e = .returned (.string (Lx.ba t)) ∧ St W' z v ps r ∧ Kp z none W W' := by
  refine (next_any z ws ps r W h hn).mono ?_
  rintro e W' ⟨h1, h2, h3, _⟩
  rw [hx] at h1 h2
  exact ⟨h1, h2, h3⟩
theorem Rs.next_at {z : Nat} {r0 : Option Nat} {W0 : World} {ps : List Pt} {W W' : World} {ws : List Wd} {qs : List Pt} {r : Option Nat} {kv : Value} {ks : List Int} {t : Wd} {v : List Wd} (hx : nxt ws = (t, v)) (h : Rs z r0 W0 ps W ws qs r kv ks) (hz : z < W0.heap.size) (hS : St W' z v (ps ++ qs) r) (hK : Kp z none W W') :
    Rs z r0 W0 ps W' v qs r kv ks ∧ (Lx.ba t).size ≤ 140737488355328 ∧ v.length ≤ ws.length := by
  have h1 := h.sz.word
  have h2 := nxt_len ws
  rw [hx] at h1 h2
  refine ⟨?_, h1, by dsimp only at h2; omega⟩
  have h3 := h.next hz (W' := W') (by rw [hx]; exact hS) hK
  rw [hx] at h3
  exact h3

/-! readCase on words. -/
theorem rc_no {f : Rf} {m : Nat} {ws : List Wd} {b : List Ex} (h : f ws b = none) : rc f m ws b = none := by unfold rc; rw [h]
theorem rc_tag {f : Rf} {m : Nat} {ws ws1 : List Wd} {b b1 : List Ex} (h : f ws b = some (ws1, b1)) (ht : db 64 (nxt ws1).1 = none) : rc f m ws b = none := by
  unfold rc; rw [h]
  cases ws1 with
  | nil => rfl
  | cons t ws2 => simp only [nxt] at ht; simp [ht]
theorem rc_bind {f : Rf} {m : Nat} {ws ws1 : List Wd} {b b1 : List Ex} {tag : Int} (h : f ws b = some (ws1, b1)) (ht : db 64 (nxt ws1).1 = some tag) (hd : dg (nxt (nxt ws1).2).1 = none) : rc f m ws b = none := by
  unfold rc; rw [h]
  cases ws1 with
  | nil => rfl
  | cons t ws2 =>
    simp only [nxt] at ht
    cases ws2 with
    | nil => simp [ht]
    | cons v ws3 => simp only [nxt] at hd; simp [ht, hd]
theorem rc_on {f : Rf} {m : Nat} {ws ws1 : List Wd} {b b1 : List Ex} {tag bind : Int} (h : f ws b = some (ws1, b1)) (ht : db 64 (nxt ws1).1 = some tag) (hd : dg (nxt (nxt ws1).2).1 = some bind) :
    rc f m ws b = match rr f m [lastAt b1] (nxt (nxt ws1).2).2 b1 with
      | none => none
      | some (ws4, b4, ks) => some (ws4, b4, ⟨5, tag, bind, ks⟩) := by
  unfold rc; rw [h]
  cases ws1 with
  | nil => simp [nxt, db] at ht
  | cons t ws2 =>
    simp only [nxt] at ht
    cases ws2 with
    | nil => simp [nxt, dg_nil] at hd
    | cons v ws3 =>
      simp only [nxt] at hd ⊢
      simp only [ht, hd]
      rcases rr f m [lastAt b1] ws3 b1 with _ | ⟨a, b, c⟩ <;> rfl

set_option maxHeartbeats 2000000 in
set_option maxRecDepth 100000 in
theorem case_of (n : Nat) (hP : PartSaid n) : CaseSaid n := by
  intro ws ps r W z hn hs hS hL
  have hRest := rest_of n hP
  obtain ⟨O, hO⟩ : ∃ O, rc (rp n) (n + 1) ws (ps.map (·.1)) = O := ⟨_, rfl⟩
  rw [hO]
  have hzlt := hS.lt
  have hrow := hS.row
  obtain ⟨W1, hW1⟩ : ∃ W1, W.alloc (.cells #[.int .i64 0, .int .i64 0, .int .i64 0, .slice none 0 0] 41) = W1 := ⟨_, rfl⟩
  have hb1 : Below W.heap.size W W1 := by rw [← hW1]; exact (Below.refl _ W).alloc (Nat.le_refl _) _
  have hX1 : Rw W1 W.heap.size #[.int .i64 0, .int .i64 0, .int .i64 0, .slice none 0 0] := by rw [← hW1]; exact World.alloc_heap_new W _
  have hS1 := hS.below hb1
  have hL1 : LwB z W1 := hL.on (hb1.mono (Nat.le_of_lt hzlt))
  have HU : Hid (Up z r W1 ps) := Up.start hS1 hL1
  have HR1 : Hid (Rs z r W1 ps W1 ws [] r (.slice none 0 0) []) := Rs.start hS1 hs
  have HX1 : Hid (Rw W1 W.heap.size #[.int .i64 0, .int .i64 0, .int .i64 0, .slice none 0 0]) := hX1
  have HB1 : Hid (Below W.heap.size W W1 ∧ W.heap.size < W1.heap.size ∧ z < W.heap.size ∧ (∀ k, r = some k → k < W.heap.size)) := ⟨hb1, hX1.lt, hzlt, fun k hk => (hrow k hk).2⟩
  have HO : Hid (rc (rp n) (n + 1) ws (ps.map (·.1)) = O) := hO
  have HK : ∀ {W' : World}, Kp z r W1 W' → Kp z r W W' := fun h => (Kp.of_below HB1.out.1).trans (Nx.refl _ _) h
  have HXK : ∀ {W' : World}, Kp z r W1 W' → Rw W' W.heap.size #[.int .i64 0, .int .i64 0, .int .i64 0, .slice none 0 0] := fun h => HX1.out.kp h (by have := HB1.out.2.2.1; omega) (fun e => by have := HB1.out.2.2.2 _ e.symm; omega)
  have hcall := hP ws ps r W1 z hn hs hS1 hL1
  clear hO hS hL hS1 hL1 hb1 hX1 hrow hzlt
  go_enter Tryz.func102, Tryz.ntmps102
  go_wp2_with fail
  clear hW1
  refine hcall.mono ?_
  clear hcall
  rintro e w2 ⟨hK2, hQ⟩
  cases hp : rp n ws (ps.map (·.1)) with
  | none =>
    rw [hp] at hQ
    subst hQ
    have HP : Hid (rp n ws (ps.map (·.1)) = none) := hp
    have HX := HXK hK2
    have hXl := HX.lt
    have c0 := HX.cell 0 _ rfl
    have c1 := HX.cell 1 _ rfl
    have c2 := HX.cell 2 _ rfl
    have c3 := HX.cell 3 _ rfl
    have hf := HX.frozen
    have HK2 : Hid (Kp z r W w2) := HK hK2
    clear hp HX hK2
    go_wp2_with fail
    refine bodyPost_ret (v := .tuple #[.agg #[.int .i64 0, .int .i64 0, .int .i64 0, .slice none 0 0], .bool false]) (by simp [results, Tryz.results102, go_sem, c0, c1, c2, c3]) rfl ?_
    exact BrQ.no (by rw [← HO.out]; exact rc_no HP.out) (HK2.out.put4 (Nat.le_refl _) _ _ _ _) _ _ _ _ _ _
  | some y =>
    obtain ⟨ws2, b2⟩ := y
    rw [hp] at hQ
    obtain ⟨rfl, qs, r2, hS2, hm2, hf2, hN2⟩ := hQ
    have HP : Hid (rp n ws (ps.map (·.1)) = some (ws2, b2)) := hp
    have HN : Hid (Rs z r W1 ps w2 ws2 qs r2 (.slice none 0 0) [] ∧ (ps ++ qs).map (·.1) = b2 ∧ ws2.length + 1 ≤ ws.length ∧ ws.length ≤ 4096) := by
      obtain ⟨w1, ws1, rfl⟩ : ∃ w1 ws1, ws = w1 :: ws1 := by
        cases ws with
        | nil => cases n <;> simp [rp] at hp
        | cons w ws => exact ⟨w, ws, rfl⟩
      have h := HR1.out.part (qs2 := qs) (b2 := b2) HU.out (by rw [List.append_nil]; exact rp_gd n _ _ _ _ hp) hK2 (by rw [List.append_nil]; exact hS2) (by rw [List.append_nil]; exact hm2) hf2 hN2
      simp only [List.nil_append] at h
      have hl := hs.1
      exact ⟨h.1, h.2.1, by have := h.2.2.1; simp only [List.length_cons]; omega, by omega⟩
    obtain ⟨kid, hkid⟩ : ∃ kid, lastAt b2 = kid := ⟨_, rfl⟩
    have HD : Hid (lastAt b2 = kid) := hkid
    rw [hkid]
    obtain ⟨t2, v2, hx2⟩ : ∃ t2 v2, nxt ws2 = (t2, v2) := ⟨_, _, rfl⟩
    have HT2 : Hid (nxt ws2 = (t2, v2)) := hx2
    clear hkid hp hK2 hS2 hm2 hf2 hN2 hx2 hs
    go_wp2_with fail
    refine (next_at HT2.out HN.out.1.st (by have := HN.out.2.2; omega)).mono ?_
    rintro e w3 ⟨rfl, hS3, hK3⟩
    have HN3 : Hid (Rs z r W1 ps w3 v2 qs r2 (.slice none 0 0) [] ∧ (Lx.ba t2).size ≤ 140737488355328 ∧ v2.length ≤ ws2.length) := HN.out.1.next_at HT2.out HU.out.lt hS3 hK3
    clear hS3 hK3
    go_wp2_with fail
    refine (behind_any 64 (Lx.ba t2) w3 HN3.out.2.1 (HU.out.on HN3.out.1.kp).lw).mono ?_
    rintro e w4 ⟨hb4, hd⟩
    rw [ba_list] at hd
    have HN4 : Hid (Rs z r W1 ps w4 v2 qs r2 (.slice none 0 0) []) := HN3.out.1.below hb4
    clear hb4
    cases ht : db 64 t2 with
    | none =>
      rw [ht] at hd
      subst hd
      have HT : Hid (db 64 (nxt ws2).1 = none) := by show _ = _; rw [HT2.out]; exact ht
      clear ht
      have HX := HXK HN4.out.kp
      have hXl := HX.lt
      have c0 := HX.cell 0 _ rfl
      have c1 := HX.cell 1 _ rfl
      have c2 := HX.cell 2 _ rfl
      have c3 := HX.cell 3 _ rfl
      have hf := HX.frozen
      have HK2 : Hid (Kp z r W w4) := HK HN4.out.kp
      clear HX
      go_wp2_with fail
      refine bodyPost_ret (v := .tuple #[.agg #[.int .i64 0, .int .i64 0, .int .i64 0, .slice none 0 0], .bool false]) (by simp [results, Tryz.results102, go_sem, c0, c1, c2, c3]) rfl ?_
      exact BrQ.no (by rw [← HO.out]; exact rc_tag HP.out HT.out) (HK2.out.put4 (Nat.le_refl _) _ _ _ _) _ _ _ _ _ _
    | some tag =>
      rw [ht] at hd
      subst hd
      have HT : Hid (db 64 (nxt ws2).1 = some tag) := by show _ = _; rw [HT2.out]; exact ht
      clear ht
      obtain ⟨t3, v3, hx3⟩ : ∃ t3 v3, nxt v2 = (t3, v3) := ⟨_, _, rfl⟩
      have HT3 : Hid (nxt v2 = (t3, v3)) := hx3
      clear hx3
      go_wp2_with fail
      refine (next_at HT3.out HN4.out.st (by have h1 := HN.out.2.2; have h2 := HN3.out.2.2; omega)).mono ?_
      rintro e w5 ⟨rfl, hS5, hK5⟩
      have HN5 : Hid (Rs z r W1 ps w5 v3 qs r2 (.slice none 0 0) [] ∧ (Lx.ba t3).size ≤ 140737488355328 ∧ v3.length ≤ v2.length) := HN4.out.next_at HT3.out HU.out.lt hS5 hK5
      clear hS5 hK5
      go_wp2_with fail
      refine (digits_any (Lx.ba t3) w5 HN5.out.2.1 (HU.out.on HN5.out.1.kp).lw).mono ?_
      rintro e w6 ⟨hb6, hd⟩
      rw [ba_list] at hd
      have HN6 : Hid (Rs z r W1 ps w6 v3 qs r2 (.slice none 0 0) []) := HN5.out.1.below hb6
      clear hb6
      have HT5 : Hid ((nxt (nxt ws2).2).1 = t3 ∧ (nxt (nxt ws2).2).2 = v3) := by show _ ∧ _; rw [HT2.out, HT3.out]; exact ⟨rfl, rfl⟩
      cases ht : dg t3 with
      | none =>
        rw [ht] at hd
        subst hd
        have HG : Hid (dg (nxt (nxt ws2).2).1 = none) := by show _ = _; rw [HT5.out.1]; exact ht
        clear ht
        have HX := HXK HN6.out.kp
        have hXl := HX.lt
        have c0 := HX.cell 0 _ rfl
        have c1 := HX.cell 1 _ rfl
        have c2 := HX.cell 2 _ rfl
        have c3 := HX.cell 3 _ rfl
        have hf := HX.frozen
        have HK2 : Hid (Kp z r W w6) := HK HN6.out.kp
        clear HX
        go_wp2_with fail
        refine bodyPost_ret (v := .tuple #[.agg #[.int .i64 0, .int .i64 0, .int .i64 0, .slice none 0 0], .bool false]) (by simp [results, Tryz.results102, go_sem, c0, c1, c2, c3]) rfl ?_
        exact BrQ.no (by rw [← HO.out]; exact rc_bind HP.out HT.out HG.out) (HK2.out.put4 (Nat.le_refl _) _ _ _ _) _ _ _ _ _ _
      | some bind =>
        rw [ht] at hd
        subst hd
        have HG : Hid (dg (nxt (nxt ws2).2).1 = some bind) := by show _ = _; rw [HT5.out.1]; exact ht
        clear ht
        go_wp2_with fail
        refine (hRest (n + 1) z r W1 ps _ v3 qs r2 _ [kid] HU.out (HN6.out.one kid (by have h1 := HN.out.2.2; have h2 := HN3.out.2.2; have h3 := HN5.out.2.2; omega)) (by have h1 := HN.out.2.2; have h2 := HN3.out.2.2; have h3 := HN5.out.2.2; omega) (by have h1 := HN.out.2.2; have h2 := HN3.out.2.2; have h3 := HN5.out.2.2; omega)).mono ?_
        rintro e w8 ⟨hK8, hQ8⟩
        have HE : Hid (rc (rp n) (n + 1) ws (ps.map (·.1)) = match rr (rp n) (n + 1) [kid] v3 ((ps ++ qs).map (·.1)) with
          | none => none
          | some (ws4, b4, ks) => some (ws4, b4, ⟨5, tag, bind, ks⟩)) := by
          show _ = _
          rw [rc_on HP.out HT.out HG.out, HD.out, HT5.out.2, HN.out.2.1]
        cases hq : rr (rp n) (n + 1) [kid] v3 ((ps ++ qs).map (·.1)) with
        | none =>
          rw [hq] at hQ8
          obtain ⟨g8, n8, c8, rfl⟩ := hQ8
          have HE2 : Hid (O = none) := by show _ = _; rw [← HO.out, HE.out, hq]
          clear hq HE
          have HX := HXK hK8
          have hXl := HX.lt
          have c0 := HX.cell 0 _ rfl
          have c1 := HX.cell 1 _ rfl
          have c2 := HX.cell 2 _ rfl
          have c3 := HX.cell 3 _ rfl
          have hf := HX.frozen
          have HK2 : Hid (Kp z r W w8) := HK hK8
          clear HX
          go_wp2_with fail
          refine bodyPost_ret (v := .tuple #[.agg #[.int .i64 5, .int .i64 tag, .int .i64 bind, .slice g8 n8 c8], .bool false]) (by simp [results, Tryz.results102, go_sem, c0, c1, c2, c3]) rfl ?_
          exact BrQ.no HE2.out (HK2.out.put4 (Nat.le_refl _) _ _ _ _) _ _ _ _ _ _
        | some y =>
          obtain ⟨ws8, b8, ks8⟩ := y
          rw [hq] at hQ8
          obtain ⟨g8, c8, qs8, r8, rfl, hS8, hm8, hf8, hN8, ho8⟩ := hQ8
          have HE2 : Hid (O = some (ws8, b8, ⟨5, tag, bind, ks8⟩)) := by show _ = _; rw [← HO.out, HE.out, hq]
          have HH : Hid (St w8 z ws8 (ps ++ qs8) r8 ∧ (ps ++ qs8).map (·.1) = b8 ∧ (∀ q ∈ qs8, KdO w8 W1.heap.size q) ∧ Nx W1 r r8 ∧ KdO w8 W1.heap.size (⟨5, tag, bind, ks8⟩, g8, c8)) := ⟨hS8, hm8, hf8, hN8, ho8⟩
          have HX8 : Hid (Rw w8 W.heap.size #[.int .i64 0, .int .i64 0, .int .i64 0, .slice none 0 0]) := HXK hK8
          clear hq HE hS8 hm8 hf8 hN8 ho8
          have HX := HXK hK8
          have hXl := HX.lt
          have c0 := HX.cell 0 _ rfl
          have c1 := HX.cell 1 _ rfl
          have c2 := HX.cell 2 _ rfl
          have c3 := HX.cell 3 _ rfl
          have hf := HX.frozen
          have HK2 : Hid (Kp z r W w8) := HK hK8
          clear HX
          go_wp2_with fail
          refine bodyPost_ret (v := .tuple #[.agg #[.int .i64 5, .int .i64 tag, .int .i64 bind, .slice g8 ks8.length c8], .bool true]) (by simp [results, Tryz.results102, go_sem, c0, c1, c2, c3]) rfl ?_
          obtain ⟨hS8, hm8, hf8, hN8, ho8⟩ := HH.out
          have hlow : W.heap.size ≤ W1.heap.size := Nat.le_of_lt HB1.out.2.1
          refine BrQ.yes HE2.out (HK2.out.put4 (Nat.le_refl _) _ _ _ _) g8 c8 qs8 r8 (hS8.put4 HX8.out HB1.out.2.2.1 ?_ _ _ _ _) hm8 (fun q hq => KdO.put4 (Lx.own_base (hf8 q hq) hlow) HX8.out _ _ _ _) ?_ (KdO.put4 (p := (⟨5, tag, bind, ks8⟩, g8, c8)) (Lx.own_base ho8 hlow) HX8.out _ _ _ _)
          · rintro rfl
            rcases hN8 with h | h
            · have := HB1.out.2.2.2 _ h.symm; omega
            · have := h _ rfl; have := HB1.out.2.1; omega
          · rcases hN8 with h | h
            · exact Or.inl h
            · exact Or.inr fun k hk => Nat.le_trans hlow (h k hk)
end Go.Proofs.YtighcikiaddfcaaGreatDoor

namespace Go.Proofs.YtighcikiaddfcaaGreatDoor
open Go.RowKit
set_option linter.unusedVariables false

def BrackSaid (n : Nat) : Prop := ∀ (ws : List Wd) (ps : List Pt) (r : Option Nat) (W : World) (z : Nat), ws.length ≤ n → Sz ws ps → St W z ws ps r → LwB z W →
  Calls Tryz.prog 84 #[ptr z] W fun e W' => BrQ (rb (rp n) (n + 1) ws (ps.map (·.1))) z r W ps e W'
theorem rb_case {f : Rf} {m : Nat} {ws v : List Wd} {b : List Ex} (hx : nxt ws = ([99, 97, 115, 101], v)) : rb f m ws b = rc f m v b := by
  cases ws with
  | nil => simp [nxt] at hx
  | cons w ws => simp only [nxt, Prod.mk.injEq] at hx; obtain ⟨rfl, rfl⟩ := hx; rfl
theorem rb_no {f : Rf} {m : Nat} {ws v : List Wd} {t : Wd} {b : List Ex} (hx : nxt ws = (t, v)) (hc : t ≠ [99, 97, 115, 101]) (hh : hdw t = none) : rb f m ws b = none := by
  cases ws with
  | nil => rfl
  | cons w ws => simp only [nxt, Prod.mk.injEq] at hx; obtain ⟨rfl, rfl⟩ := hx; simp only [rb, if_neg hc, hh]
theorem rb_on {f : Rf} {m : Nat} {ws v : List Wd} {t : Wd} {b : List Ex} {x : Ex} (hx : nxt ws = (t, v)) (hc : t ≠ [99, 97, 115, 101]) (hh : hdw t = some x) : rb f m ws b = match rr f m [] v b with
      | none => none
      | some (ws', b', ks) => if x.kind = 3 ∧ ks = [] then none else some (ws', b', { x with kids := ks }) := by
  cases ws with
  | nil =>
    simp only [nxt, Prod.mk.injEq] at hx; obtain ⟨rfl, rfl⟩ := hx
    have h0 : hdw [] = none := by decide +kernel
    rw [h0] at hh; cases hh
  | cons w ws =>
    simp only [nxt, Prod.mk.injEq] at hx; obtain ⟨rfl, rfl⟩ := hx; simp only [rb, if_neg hc, hh]
    rcases rr f m [] ws b with _ | ⟨a, b, c⟩ <;> rfl

/-- The last world of readBracket: the part's list is put in, then all of it is put where the answer lies. -/
def fin (W : World) (E b : Nat) (v0 v1 v2 v3 : Value) : World := (put4 (W.setCell ⟨E, 3, none⟩ v3) b v0 v1 v2 v3).drew
theorem Kp.fin {z : Nat} {r : Option Nat} {W W' : World} (h : Kp z r W W') {b E : Nat} (hb : W.heap.size ≤ b) (hE : W.heap.size ≤ E) (v0 v1 v2 v3 : Value) : Kp z r W (fin W' E b v0 v1 v2 v3) :=
  ((h.far hE 3 v3).put4 hb v0 v1 v2 v3).trans (Nx.refl _ _) (Kp.of_below (Below.refl _ _).drew)
theorem St.fin {W : World} {z : Nat} {ws : List Wd} {ps : List Pt} {r : Option Nat} (h : St W z ws ps r) {b E : Nat} {cs ds : Array Value} (hE : Rw W E ds) (hb : Rw W b cs) (hzE : z < E) (hz : z < b) (hrE : r ≠ some E) (hr : r ≠ some b) (hne : b ≠ E) (v0 v1 v2 v3 : Value) : St (fin W E b v0 v1 v2 v3) z ws ps r :=
  ((h.box hE hzE hrE 3 v3).put4 (hb.other 3 v3 hne) hz hr v0 v1 v2 v3).below (Below.refl _ _).drew
theorem KdO.fin {W : World} {base : Nat} {p : Pt} (h : KdO W base p) {b E : Nat} {cs ds : Array Value} (hE : Rw W E ds) (hb : Rw W b cs) (hne : b ≠ E) (v0 v1 v2 v3 : Value) : KdO (fin W E b v0 v1 v2 v3) base p :=
  own_keep ((h.box hE 3 v3).put4 (hb.other 3 v3 hne) v0 v1 v2 v3) (fun k _ hk _ => (Below.refl _ _).drew.block k hk)

set_option maxHeartbeats 2000000 in
set_option maxRecDepth 100000 in
theorem brack_of (n : Nat) (hP : PartSaid n) : BrackSaid n := by
  intro ws ps r W z hn hs hS hL
  have hRest := rest_of n hP
  have hCase := case_of n hP
  obtain ⟨O, hO⟩ : ∃ O, rb (rp n) (n + 1) ws (ps.map (·.1)) = O := ⟨_, rfl⟩
  rw [hO]
  have hzlt := hS.lt
  have hrow := hS.row
  obtain ⟨W1, hW1⟩ : ∃ W1, W.alloc (.cells #[.int .i64 0, .int .i64 0, .int .i64 0, .slice none 0 0] 41) = W1 := ⟨_, rfl⟩
  have hb1 : Below W.heap.size W W1 := by rw [← hW1]; exact (Below.refl _ W).alloc (Nat.le_refl _) _
  have hX1 : Rw W1 W.heap.size #[.int .i64 0, .int .i64 0, .int .i64 0, .slice none 0 0] := by rw [← hW1]; exact World.alloc_heap_new W _
  have hS1 := hS.below hb1
  have hL1 : LwB z W1 := hL.on (hb1.mono (Nat.le_of_lt hzlt))
  have HU : Hid (Up z r W1 ps) := Up.start hS1 hL1
  have HX1 : Hid (Rw W1 W.heap.size #[.int .i64 0, .int .i64 0, .int .i64 0, .slice none 0 0]) := hX1
  have HB1 : Hid (Below W.heap.size W W1 ∧ W.heap.size < W1.heap.size ∧ z < W.heap.size ∧ (∀ k, r = some k → k < W.heap.size)) := ⟨hb1, hX1.lt, hzlt, fun k hk => (hrow k hk).2⟩
  have HO : Hid (rb (rp n) (n + 1) ws (ps.map (·.1)) = O) := hO
  have HK : ∀ {W' : World}, Kp z r W1 W' → Kp z r W W' := fun h => (Kp.of_below HB1.out.1).trans (Nx.refl _ _) h
  have HXK : ∀ {W' : World}, Kp z r W1 W' → Rw W' W.heap.size #[.int .i64 0, .int .i64 0, .int .i64 0, .slice none 0 0] := fun h => HX1.out.kp h (by have := HB1.out.2.2.1; omega) (fun e => by have := HB1.out.2.2.2 _ e.symm; omega)
  obtain ⟨t, v, hx⟩ : ∃ t v, nxt ws = (t, v) := ⟨_, _, rfl⟩
  have HT : Hid (nxt ws = (t, v)) := hx
  have HV : Hid (v.length ≤ n ∧ Sz v ps ∧ (Lx.ba t).size ≤ 140737488355328) := by
    have h2 := nxt_len ws
    have h3 := hs.word
    have hsf : (nxt ws).2 <:+ ws := by
      cases ws with
      | nil => exact List.suffix_refl _
      | cons w ws => exact List.suffix_cons _ _
    have h4 := hs.on (ps' := ps) hsf (by omega)
    rw [hx] at h2 h3 h4
    dsimp only at h2
    exact ⟨by omega, h4, h3⟩
  have hcall := next_at hx hS1 (by have := hs.1; omega)
  clear hO hS hL hS1 hL1 hb1 hX1 hrow hzlt hx hs hn
  go_enter Tryz.func84, Tryz.ntmps84
  go_wp2_with fail
  clear hW1
  refine hcall.mono ?_
  clear hcall
  rintro e w2 ⟨rfl, hS2, hK2⟩
  have HS2 : Hid (St w2 z v ps r) := hS2
  have HK2 : Hid (Kp z r W1 w2) := hK2.wide r
  clear hS2 hK2
  by_cases hc : t = [99, 97, 115, 101]
  · have hq : ((Lx.ba t).toList == [99, 97, 115, 101]) = true := by rw [ba_is, hc]; rfl
    have HE : Hid (rb (rp n) (n + 1) ws (ps.map (·.1)) = rc (rp n) (n + 1) v (ps.map (·.1))) := rb_case (by rw [← hc]; exact HT.out)
    clear hc
    go_wp2_with fail
    refine (hCase v ps r w2 z HV.out.1 HV.out.2.1 HS2.out (HU.out.on HK2.out)).mono ?_
    rintro e w3 ⟨hK3, hQ⟩
    have HK3 : Hid (Kp z r W1 w3) := HK2.out.trans (Nx.refl _ _) hK3
    cases hp : rc (rp n) (n + 1) v (ps.map (·.1)) with
    | none =>
      rw [hp] at hQ
      obtain ⟨a3, b3, k3, g3, n3, j3, rfl⟩ := hQ
      have HE2 : Hid (O = none) := by show _ = _; rw [← HO.out, HE.out, hp]
      clear hp hK3
      have HX := HXK (HK3.out)
      have hXl := HX.lt
      have c0 := HX.cell 0 _ rfl
      have c1 := HX.cell 1 _ rfl
      have c2 := HX.cell 2 _ rfl
      have c3 := HX.cell 3 _ rfl
      have hf := HX.frozen
      have HK2 : Hid (Kp z r W w3) := HK (HK3.out)
      clear HX
      go_wp2_with fail
      refine bodyPost_ret (v := .tuple #[.agg #[.int .i64 a3, .int .i64 b3, .int .i64 k3, .slice g3 n3 j3], .bool false]) (by simp [results, Tryz.results84, go_sem, c0, c1, c2, c3]) rfl ?_
      exact BrQ.no HE2.out (HK2.out.put4 (Nat.le_refl _) _ _ _ _) _ _ _ _ _ _
    | some y =>
      obtain ⟨ws3, b3, x3⟩ := y
      rw [hp] at hQ
      obtain ⟨g3, j3, qs3, r3, rfl, hS3, hm3, hf3, hN3, ho3⟩ := hQ
      have HE2 : Hid (O = some (ws3, b3, x3)) := by show _ = _; rw [← HO.out, HE.out, hp]
      have HH : Hid (St w3 z ws3 (ps ++ qs3) r3 ∧ (ps ++ qs3).map (·.1) = b3 ∧ (∀ q ∈ qs3, KdO w3 w2.heap.size q) ∧ Nx w2 r r3 ∧ KdO w3 w2.heap.size (x3, g3, j3)) := ⟨hS3, hm3, hf3, hN3, ho3⟩
      have HX8 : Hid (Rw w3 W.heap.size #[.int .i64 0, .int .i64 0, .int .i64 0, .slice none 0 0]) := HXK HK3.out
      have HSZ : Hid (W1.heap.size ≤ w2.heap.size) := HK2.out.size
      clear hp hK3 hS3 hm3 hf3 hN3 ho3 HK2
      have HX := HXK (HK3.out)
      have hXl := HX.lt
      have c0 := HX.cell 0 _ rfl
      have c1 := HX.cell 1 _ rfl
      have c2 := HX.cell 2 _ rfl
      have c3 := HX.cell 3 _ rfl
      have hf := HX.frozen
      have HK2 : Hid (Kp z r W w3) := HK (HK3.out)
      clear HX
      go_wp2_with fail
      refine bodyPost_ret (v := .tuple #[.agg #[.int .i64 x3.kind, .int .i64 x3.num, .int .i64 x3.bind, .slice g3 x3.kids.length j3], .bool true]) (by simp [results, Tryz.results84, go_sem, c0, c1, c2, c3]) rfl ?_
      obtain ⟨hS8, hm8, hf8, hN8, ho8⟩ := HH.out
      have hlow : W.heap.size ≤ w2.heap.size := Nat.le_trans (Nat.le_of_lt HB1.out.2.1) HSZ.out
      refine BrQ.yes HE2.out (HK2.out.put4 (Nat.le_refl _) _ _ _ _) g3 j3 qs3 r3 (hS8.put4 HX8.out HB1.out.2.2.1 ?_ _ _ _ _) hm8 (fun q hq => KdO.put4 (Lx.own_base (hf8 q hq) hlow) HX8.out _ _ _ _) ?_ (KdO.put4 (p := (x3, g3, j3)) (Lx.own_base ho8 hlow) HX8.out _ _ _ _)
      · rintro rfl
        rcases hN8 with h | h
        · have := HB1.out.2.2.2 _ h.symm; omega
        · have h1 := h _ rfl; have h2 := HB1.out.2.1; have h3 := HSZ.out; omega
      · rcases hN8 with h | h
        · exact Or.inl h
        · exact Or.inr fun k hk => Nat.le_trans hlow (h k hk)
  · have hq : ((Lx.ba t).toList == [99, 97, 115, 101]) = false := by rw [ba_is]; simpa using hc
    have HC : Hid (t ≠ [99, 97, 115, 101]) := hc
    clear hc
    go_wp2_with fail
    refine (head_any (Lx.ba t) w2 HV.out.2.2 (HU.out.on HK2.out).lw).mono ?_
    rintro e w3 ⟨x, b, rfl, hxk, hb3, hd⟩
    rw [ba_list] at hd
    have HK3 : Hid (Kp z r W1 w3) := HK2.out.trans (Nx.refl _ _) (Kp.of_below hb3)
    have HS3 : Hid (St w3 z v ps r) := HS2.out.below hb3
    rcases hd with ⟨rfl, hd⟩ | ⟨rfl, hd⟩
    · have HHD : Hid (hdw t = some x ∧ x.kids = []) := ⟨hd, hxk⟩
      clear hd hxk hb3
      go_wp2_with fail
      obtain ⟨w4, hw4⟩ : ∃ w4, w3.alloc (.cells #[.int .i64 x.kind, .int .i64 x.num, .int .i64 x.bind, .slice none 0 0] 41) = w4 := ⟨_, rfl⟩
      have hb4 : Below w3.heap.size w3 w4 := by rw [← hw4]; exact (Below.refl _ w3).alloc (Nat.le_refl _) _
      have hE4 : Rw w4 w3.heap.size #[.int .i64 x.kind, .int .i64 x.num, .int .i64 x.bind, .slice none 0 0] := by rw [← hw4]; exact World.alloc_heap_new w3 _
      have HK4 : Hid (Kp z r W1 w4) := HK3.out.trans (Nx.refl _ _) (Kp.of_below hb4)
      have HS4 : Hid (St w4 z v ps r) := HS3.out.below hb4
      have HE4 : Hid (Rw w4 w3.heap.size #[.int .i64 x.kind, .int .i64 x.num, .int .i64 x.bind, .slice none 0 0]) := hE4
      have HZ : Hid (W.heap.size < w3.heap.size ∧ W1.heap.size ≤ w3.heap.size ∧ w3.heap.size < w4.heap.size) := ⟨(HXK HK3.out).lt, HK3.out.size, hE4.lt⟩
      have hcall := hRest (n + 1) z r w4 ps w4 v [] r (.slice none 0 0) [] (Up.start HS4.out (HU.out.on HK4.out)) (Rs.start HS4.out HV.out.2.1) HV.out.1 (Nat.lt_succ_of_le HV.out.1)
      rw [List.append_nil] at hcall
      rw [hw4]
      clear hb4 hE4 HS3 HS2 HK2 hw4
      refine hcall.mono ?_
      clear hcall
      rintro e w5 ⟨hK5, hQ⟩
      have HK5 : Hid (Kp z r W1 w5) := HK4.out.trans (Nx.refl _ _) hK5
      have hE5 : Rw w5 w3.heap.size #[.int .i64 x.kind, .int .i64 x.num, .int .i64 x.bind, .slice none 0 0] := HE4.out.kp hK5 (by have h1 := HZ.out.1; have h2 := HB1.out.2.2.1; omega) (fun e => by have h1 := HB1.out.2.2.2 _ e.symm; have h2 := HZ.out.1; omega)
      have HE5 : Hid (Rw w5 w3.heap.size #[.int .i64 x.kind, .int .i64 x.num, .int .i64 x.bind, .slice none 0 0]) := hE5
      have HK5w : Hid (Kp z r W w5) := HK HK5.out
      have HX5 : Hid (Rw w5 W.heap.size #[.int .i64 0, .int .i64 0, .int .i64 0, .slice none 0 0]) := HXK HK5.out
      have HRB : Hid (rb (rp n) (n + 1) ws (ps.map (·.1)) = match rr (rp n) (n + 1) [] v (ps.map (·.1)) with
          | none => none
          | some (ws', b', ks) => if x.kind = 3 ∧ ks = [] then none else some (ws', b', { x with kids := ks })) := rb_on HT.out HC.out HHD.out.1
      have HX := HXK (HK5.out)
      have hXl := HX.lt
      have c0 := HX.cell 0 _ rfl
      have c1 := HX.cell 1 _ rfl
      have c2 := HX.cell 2 _ rfl
      have c3 := HX.cell 3 _ rfl
      have hf := HX.frozen
      clear HX
      have d0 := hE5.cell 0 _ rfl
      have d1 := hE5.cell 1 _ rfl
      have d2 := hE5.cell 2 _ rfl
      have d3 := hE5.cell 3 _ rfl
      have hg := hE5.frozen
      have hEl := hE5.lt
      have hne : W.heap.size ≠ w3.heap.size := by have h1 := HZ.out.1; omega
      have hne' : w3.heap.size ≠ W.heap.size := fun h => hne h.symm
      clear hE5
      cases hp : rr (rp n) (n + 1) [] v (ps.map (·.1)) with
      | none =>
        rw [hp] at hQ
        obtain ⟨g5, n5, k5, rfl⟩ := hQ
        have HE2 : Hid (O = none) := by show _ = _; rw [← HO.out, HRB.out, hp]
        clear hp HRB hK5
        go_wp2_with fail
        go_region
        all_goals
          go_wp2_with fail
          refine bodyPost_ret (v := .tuple #[.agg #[.int .i64 x.kind, .int .i64 x.num, .int .i64 x.bind, .slice g5 n5 k5], .bool false]) (by simp [results, Tryz.results84, go_sem, c0, c1, c2, c3]) rfl ?_
          exact BrQ.no HE2.out (Kp.fin HK5w.out (Nat.le_refl _) (Nat.le_of_lt HZ.out.1) _ _ _ _) _ _ _ _ _ _
      | some y =>
        obtain ⟨ws5, b5, ks5⟩ := y
        rw [hp] at hQ
        obtain ⟨g5, k5, qs5, r5, rfl, hS5, hm5, hf5, hN5, ho5⟩ := hQ
        have HH : Hid (St w5 z ws5 (ps ++ qs5) r5 ∧ (ps ++ qs5).map (·.1) = b5 ∧ (∀ q ∈ qs5, KdO w5 w4.heap.size q) ∧ Nx w4 r r5 ∧ KdO w5 w4.heap.size ({ x with kids := ks5 }, g5, k5)) := ⟨hS5, hm5, hf5, hN5, ho5⟩
        have HRB2 : Hid (O = if x.kind = 3 ∧ ks5 = [] then none else some (ws5, b5, { x with kids := ks5 })) := by show _ = _; rw [← HO.out, HRB.out, hp]
        clear hp HRB hK5 hS5 hm5 hf5 hN5 ho5
        by_cases hk3 : x.kind = 3
        · have hk : (x.kind != 3) = false := by simp [hk3]
          by_cases hks : ks5 = []
          · have HE2 : Hid (O = none) := by show _ = _; rw [HRB2.out, if_pos ⟨hk3, hks⟩]
            have hl : decide ((0 : Int) < (ks5.length : Int)) = false := by rw [hks]; rfl
            have HKS : Hid (ks5 = []) := hks
            clear HRB2 hk3 hks
            go_wp2_with fail
            go_region
            all_goals
              go_wp2_with fail
              refine bodyPost_ret (v := .tuple #[.agg #[.int .i64 x.kind, .int .i64 x.num, .int .i64 x.bind, .slice g5 ks5.length k5], .bool false]) (by simp [results, Tryz.results84, go_sem, c0, c1, c2, c3]; exact HKS.out) rfl ?_
              exact BrQ.no HE2.out (Kp.fin HK5w.out (Nat.le_refl _) (Nat.le_of_lt HZ.out.1) _ _ _ _) _ _ _ _ _ _
          · have HE2 : Hid (O = some (ws5, b5, { x with kids := ks5 })) := by show _ = _; rw [HRB2.out, if_neg (fun h => hks h.2)]
            have hl : decide ((0 : Int) < (ks5.length : Int)) = true := by
              have := List.length_pos_iff.2 hks
              exact decide_eq_true (by omega)
            have HKS : Hid (0 < ks5.length) := List.length_pos_iff.2 hks
            clear HRB2 hk3 hks
            go_wp2_with fail
            go_region
            all_goals
              go_wp2_with fail
              refine bodyPost_ret (v := .tuple #[.agg #[.int .i64 x.kind, .int .i64 x.num, .int .i64 x.bind, .slice g5 ks5.length k5], .bool true]) (by simp [results, Tryz.results84, go_sem, c0, c1, c2, c3]; exact HKS.out) rfl ?_
              obtain ⟨hS8, hm8, hf8, hN8, ho8⟩ := HH.out
              have hlow : W.heap.size ≤ w4.heap.size := by have h1 := HZ.out; omega
              refine BrQ.yes HE2.out (Kp.fin HK5w.out (Nat.le_refl _) (Nat.le_of_lt HZ.out.1) _ _ _ _) g5 k5 qs5 r5 (St.fin hS8 HE5.out HX5.out (by have h1 := HZ.out.1; have h2 := HB1.out.2.2.1; omega) HB1.out.2.2.1 ?_ ?_ hne _ _ _ _) hm8 (fun q hq => KdO.fin (Lx.own_base (hf8 q hq) hlow) HE5.out HX5.out hne _ _ _ _) ?_ (KdO.fin (p := ({ x with kids := ks5 }, g5, k5)) (Lx.own_base ho8 hlow) HE5.out HX5.out hne _ _ _ _)
              · rintro rfl
                rcases hN8 with h | h
                · have h1 := HB1.out.2.2.2 _ h.symm; have h2 := HZ.out.1; omega
                · have h1 := h _ rfl; have h2 := HZ.out.2.2; omega
              · rintro rfl
                rcases hN8 with h | h
                · have := HB1.out.2.2.2 _ h.symm; omega
                · have h1 := h _ rfl; have h2 := HZ.out; omega
              · rcases hN8 with h | h
                · exact Or.inl h
                · exact Or.inr fun k hk => Nat.le_trans hlow (h k hk)
        · have hk : (x.kind != 3) = true := by simp [hk3]
          have HE2 : Hid (O = some (ws5, b5, { x with kids := ks5 })) := by show _ = _; rw [HRB2.out, if_neg (fun h => hk3 h.1)]
          clear HRB2 hk3
          go_wp2_with fail
          go_region
          all_goals
            go_wp2_with fail
            refine bodyPost_ret (v := .tuple #[.agg #[.int .i64 x.kind, .int .i64 x.num, .int .i64 x.bind, .slice g5 ks5.length k5], .bool true]) (by simp [results, Tryz.results84, go_sem, c0, c1, c2, c3]) rfl ?_
            obtain ⟨hS8, hm8, hf8, hN8, ho8⟩ := HH.out
            have hlow : W.heap.size ≤ w4.heap.size := by have h1 := HZ.out; omega
            refine BrQ.yes HE2.out (Kp.fin HK5w.out (Nat.le_refl _) (Nat.le_of_lt HZ.out.1) _ _ _ _) g5 k5 qs5 r5 (St.fin hS8 HE5.out HX5.out (by have h1 := HZ.out.1; have h2 := HB1.out.2.2.1; omega) HB1.out.2.2.1 ?_ ?_ hne _ _ _ _) hm8 (fun q hq => KdO.fin (Lx.own_base (hf8 q hq) hlow) HE5.out HX5.out hne _ _ _ _) ?_ (KdO.fin (p := ({ x with kids := ks5 }, g5, k5)) (Lx.own_base ho8 hlow) HE5.out HX5.out hne _ _ _ _)
            · rintro rfl
              rcases hN8 with h | h
              · have h1 := HB1.out.2.2.2 _ h.symm; have h2 := HZ.out.1; omega
              · have h1 := h _ rfl; have h2 := HZ.out.2.2; omega
            · rintro rfl
              rcases hN8 with h | h
              · have := HB1.out.2.2.2 _ h.symm; omega
              · have h1 := h _ rfl; have h2 := HZ.out; omega
            · rcases hN8 with h | h
              · exact Or.inl h
              · exact Or.inr fun k hk => Nat.le_trans hlow (h k hk)
    · have HE2 : Hid (O = none) := by show _ = _; rw [← HO.out, rb_no HT.out HC.out hd]
      clear hd hb3
      have HX := HXK (HK3.out)
      have hXl := HX.lt
      have c0 := HX.cell 0 _ rfl
      have c1 := HX.cell 1 _ rfl
      have c2 := HX.cell 2 _ rfl
      have c3 := HX.cell 3 _ rfl
      have hf := HX.frozen
      clear HX
      go_wp2_with fail
      refine bodyPost_ret (v := .tuple #[.agg #[.int .i64 0, .int .i64 0, .int .i64 0, .slice none 0 0], .bool false]) (by simp [results, Tryz.results84, go_sem, c0, c1, c2, c3, hXl]) rfl ?_
      exact BrQ.no HE2.out (((HK HK3.out).put4 (Nat.le_refl _) _ _ _ _).trans (Nx.refl _ _) (Kp.of_below ((Below.refl _ _).alloc (Nat.le_refl _) _))) _ _ _ _ _ _
end Go.Proofs.YtighcikiaddfcaaGreatDoor

namespace Go.Proofs.YtighcikiaddfcaaGreatDoor
open Go.RowKit
set_option linter.unusedVariables false

/-- A part is put behind a body, within a region that draws its order. -/
theorem step_exO {W : World} {ops : Array Oper} {o : Oper} {a : Act} {K : Act → World → Prop} {Q : Exit → Act → World → Prop} {E : Prop} (hgd : o.guard = none) (s x : Operand)
    (ho : o.op = .call { callee := .builtin .append, args := #[s, x], argTypes := #[38, 38] }) (base : Nat) (v : Value) (ps : List Pt) (q : Pt) (cs : Array Value) (hcs : cs.toList = c4 q) (hs : a.eval s = v) (z : Nat) (hz : W.heap.size = z) (hx : a.eval x = .slice (some ⟨z, 0, none⟩) 1 1)
    (hbd : BdO W base v ps) (hq : KdO W base q) (hb : base ≤ W.heap.size) (hlen : (ps.length + 1) * 48 ≤ 140737488355328)
    (h : ∀ g cap w', BdO w' base (.slice (some ⟨g, 0, none⟩) (ps.length + 1) cap) (ps ++ [q]) → (W.alloc (.cells cs 41)).grownBy w' v.ownBlock → (v.ownBlock = some g ∨ W.heap.size ≤ g) → K (a.put o.dst (.slice (some ⟨g, 0, none⟩) (ps.length + 1) cap)) w') : if Region.wanted o (yielded ops a.tmps) = true then Oper.wp Tryz.prog o a (W.alloc (.cells cs 41)).drew K Q else E := by
  subst hz
  obtain ⟨i0, hi, hz0, hz1, hz2⟩ := info_parts Tryz.info41
  refine step_append_lies _ hgd s x 38 ho base 41 i0 _ 4 48 Tryz.underlying38 hi hz0 hz1 hz2 rfl (by decide) v _ _ hs ((hbd.own.alloc _).drew) ⟨W.heap.size, 0, none⟩ 1 1 (c4 q) hx rfl ?_ (fun u hu => one_c4 [q] u (by simpa using hu)) (by decide) (by unfold maxLen; omega) hlen (by show _ ≤ (W.alloc (.cells cs 41)).heap.size; rw [World.size_alloc]; omega) _ rfl ?_
  · intro j u hj
    rw [Addr.add_lit, Nat.zero_add]
    show (W.alloc (.cells cs 41)).cell? _ = _
    refine cell_new W cs 41 j u ?_
    rw [← hcs] at hj
    simpa using hj
  · intro g cap w' h1 h2' h3 _
    have h2 : (W.alloc (.cells cs 41)).grownBy w' v.ownBlock := ⟨h2'.os, h2'.tape, h2'.output, h2'.size, h2'.block⟩
    refine h g cap w' ⟨by rw [List.length_append, List.flatMap_append]; simpa using h1, fun p hp => ?_⟩ h2 ?_
    · have hk : KdO (W.alloc (.cells cs 41)) base p := by
        rcases List.mem_append.1 hp with hp | hp
        · exact World.ownsRow.alloc (hbd.kids p hp) _
        · rw [List.mem_singleton] at hp; subst hp; exact World.ownsRow.alloc hq _
      exact World.ownsRow.kept hk h2 (rows_apart hk (hbd.own.alloc _))
    · rcases h3 with h3 | h3
      · exact Or.inl h3
      · right
        have h4 : (W.alloc (.cells cs 41)).drew.heap.size = W.heap.size + 1 := by show (W.alloc (.cells cs 41)).heap.size = _; rw [World.size_alloc]
        omega
/-- The reader behind that append and the store of the new list. -/
theorem St.put {W w' : World} {z : Nat} {ws : List Wd} {ps : List Pt} {q : Pt} {gw : Option Addr} {cw : Nat} {bv : Value} {cs : Array Value} {g cap : Nat}
    (h1 : Rdr W z (.slice gw ws.length cw) bv) (h2 : WTx W z gw ws) (h3 : ws.length ≤ cw) (h4 : BdO W (z + 1) bv ps)
    (hB : BdO w' (z + 1) (.slice (some ⟨g, 0, none⟩) (ps.length + 1) cap) (ps ++ [q])) (hg : (W.alloc (.cells cs 41)).grownBy w' bv.ownBlock) (hx : bv.ownBlock = some g ∨ W.heap.size ≤ g) :
    Rdr w' z (.slice gw ws.length cw) bv ∧ St (w'.setCell ⟨z, 1, none⟩ (.slice (some ⟨g, 0, none⟩) (ps.length + 1) cap)) z ws (ps ++ [q]) (some g) ∧ Kp z bv.ownBlock W (w'.setCell ⟨z, 1, none⟩ (.slice (some ⟨g, 0, none⟩) (ps.length + 1) cap)) ∧ Nx W bv.ownBlock (some g) := by
  have hlt := h1.lt
  have hrow : ∀ k, bv.ownBlock = some k → z + 1 ≤ k ∧ k < W.heap.size := fun k hk => h4.own.lt k hk
  have low : ∀ k, k < W.heap.size → some k ≠ bv.ownBlock → w'.heap[k]? = W.heap[k]? := fun k hk hr => (hg.block k (by rw [World.size_alloc]; omega) hr).trans (Below.heap_alloc W _ k hk)
  have hr' : Rdr w' z (.slice gw ws.length cw) bv := (low z hlt (fun e => by have := hrow z e.symm; omega)).trans h1
  refine ⟨hr', ⟨gw, cw, _, hr'.set1 _, ?_, h3, ⟨own_far hB.own (fun e => by have := (hB.own.lt z e).1; omega) _ _, fun p hp => own_far (hB.kids p hp) (fun e => by have := (World.ownsRow.lt (hB.kids p hp) z e).1; omega) _ _⟩, rfl⟩, ?_, ?_⟩
  · refine h2.on fun k hk => (Below.heap_setCell w' _ _ k (fun e => by have e' : k = z := e; omega)).trans (low k (by omega) (fun e => by have := hrow k e.symm; omega))
  · refine ⟨hg.os, hg.tape, hg.output, ?_, fun k hk hz hr => (Below.heap_setCell w' _ _ k (fun e => hz e)).trans (low k hk hr)⟩
    have h5 := hg.size
    rw [World.size_alloc] at h5
    exact Nat.le_trans (by omega) (KeepsWalks.setCell w' _ _).size
  · rcases hx with hx | hx
    · exact Or.inl hx.symm
    · exact Or.inr fun k hk => by cases hk; exact hx
/-- What stands ahead of the append. -/
structure Ahead (z : Nat) (r : Option Nat) (W : World) (ps : List Pt) (W5 : World) (ws : List Wd) (qs : List Pt) (gw : Option Addr) (cw : Nat) (bv : Value) (q : Pt) : Prop where
  kp : Kp z r W W5
  nx : Nx W r bv.ownBlock
  rdr : Rdr W5 z (.slice gw ws.length cw) bv
  words : WTx W5 z gw ws
  cap : ws.length ≤ cw
  body : BdO W5 (z + 1) bv (ps ++ qs)
  fresh : ∀ q ∈ qs, KdO W5 W.heap.size q
  kids : KdO W5 W.heap.size q
  lt : z < W.heap.size
theorem Ahead.of {z : Nat} {r r' : Option Nat} {W W5 : World} {ps qs : List Pt} {ws : List Wd} {q : Pt} (hk : Kp z r W W5) (hN : Nx W r r') (hS : St W5 z ws (ps ++ qs) r') (hf : ∀ q ∈ qs, KdO W5 W.heap.size q) (hq : KdO W5 W.heap.size q) (hz : z < W.heap.size) :
    ∃ gw cw gb cb, Ahead z r W ps W5 ws qs gw cw (.slice gb (ps ++ qs).length cb) q := by
  obtain ⟨g, c, bv, h1, h2, h3, h4, h5⟩ := hS
  obtain ⟨gb, cb, rfl⟩ := h4.val
  exact ⟨g, c, gb, cb, hk, by rw [h5]; exact hN, h1, h2, h3, h4, hf, hq, hz⟩
theorem Ahead.low {z : Nat} {r : Option Nat} {W W5 : World} {ps qs : List Pt} {ws : List Wd} {gw : Option Addr} {cw : Nat} {bv : Value} {q : Pt} (h : Ahead z r W ps W5 ws qs gw cw bv q) : KdO W5 (z + 1) q := Lx.own_base h.kids (by have := h.lt; omega)
/-- All of it, behind the store. -/
theorem Ahead.put {z : Nat} {r : Option Nat} {W W5 w' : World} {ps qs : List Pt} {ws : List Wd} {gw : Option Addr} {cw : Nat} {bv : Value} {q : Pt} {cs : Array Value} {g cap : Nat} (h : Ahead z r W ps W5 ws qs gw cw bv q)
    (hB : BdO w' (z + 1) (.slice (some ⟨g, 0, none⟩) ((ps ++ qs).length + 1) cap) (ps ++ qs ++ [q])) (hg : (W5.alloc (.cells cs 41)).grownBy w' bv.ownBlock) (hx : bv.ownBlock = some g ∨ W5.heap.size ≤ g) :
    Rdr w' z (.slice gw ws.length cw) bv ∧ PartQ (some (ws, (ps ++ qs ++ [q]).map (·.1))) z r W ps (.returned (.tuple #[.int .i64 (((ps ++ qs).length : Nat) : Int), .bool true])) (w'.setCell ⟨z, 1, none⟩ (.slice (some ⟨g, 0, none⟩) ((ps ++ qs).length + 1) cap)) := by
  obtain ⟨h1, h2, h3, h4⟩ := St.put h.rdr h.words h.cap h.body hB hg hx
  refine ⟨h1, h.kp.trans h.nx h3, ?_, qs ++ [q], some g, ?_, ?_, ?_, h.nx.trans h4 h.kp.size⟩
  · have hl : lastAt ((ps ++ qs ++ [q]).map (·.1)) = (((ps ++ qs).length : Nat) : Int) := by
      unfold lastAt
      simp only [List.length_map, List.length_append, List.length_singleton]
      omega
    rw [hl]
  · rw [← List.append_assoc]; exact h2
  · rw [← List.append_assoc]
  · have key : ∀ p, KdO W5 W.heap.size p → KdO (w'.setCell ⟨z, 1, none⟩ (.slice (some ⟨g, 0, none⟩) ((ps ++ qs).length + 1) cap)) W.heap.size p := fun p hp => by
      refine h3.own hp h.lt ?_
      exact rows_apart hp h.body.own
    intro p hp
    rcases List.mem_append.1 hp with hp | hp
    · exact key p (h.fresh p hp)
    · rw [List.mem_singleton] at hp; subst hp; exact key _ h.kids
theorem rp_brack {n : Nat} {ws v : List Wd} {b : List Ex} (hx : nxt ws = ([40], v)) : rp (n + 1) ws b = match rb (rp n) (n + 1) v b with
      | none => none
      | some (ws', b', e) => some (ws', b' ++ [e]) := by
  cases ws with
  | nil => simp [nxt] at hx
  | cons w ws => simp only [nxt, Prod.mk.injEq] at hx; obtain ⟨rfl, rfl⟩ := hx; rw [rp, if_pos rfl]; rfl
theorem sg_nil : sg [] = none := by decide +kernel
theorem rp_one {n : Nat} {ws v : List Wd} {t : Wd} {b : List Ex} (hx : nxt ws = (t, v)) (ht : t ≠ [40]) : rp (n + 1) ws b = match sg t with
      | none => none
      | some e => some (v, b ++ [e]) := by
  cases ws with
  | nil => simp only [nxt, Prod.mk.injEq] at hx; obtain ⟨rfl, rfl⟩ := hx; rw [sg_nil]; rfl
  | cons w ws => simp only [nxt, Prod.mk.injEq] at hx; obtain ⟨rfl, rfl⟩ := hx; rw [rp, if_neg ht]; rfl
theorem rp_len0 {n : Nat} {b : List Ex} : rp n [] b = none := by cases n <;> rfl

set_option maxHeartbeats 2000000 in
set_option maxRecDepth 100000 in
theorem part_walk (n : Nat) (ws : List Wd) (ps : List Pt) (r : Option Nat) (W : World) (z : Nat) (hBr0 : ws ≠ [] → BrackSaid n) (hn : ws.length ≤ n + 1) (hs : Sz ws ps) (hS : St W z ws ps r) (hL : LwB z W) :
    Calls Tryz.prog 63 #[ptr z] W fun e W' => PartQ (rp (n + 1) ws (ps.map (·.1))) z r W ps e W' := by
  obtain ⟨O, hO⟩ : ∃ O, rp (n + 1) ws (ps.map (·.1)) = O := ⟨_, rfl⟩
  rw [hO]
  have hzlt := hS.lt
  have hrow := hS.row
  obtain ⟨W1, hW1⟩ : ∃ W1, W.alloc (.cells #[.int .i64 0, .int .i64 0, .int .i64 0, .slice none 0 0] 41) = W1 := ⟨_, rfl⟩
  have hb1 : Below W.heap.size W W1 := by rw [← hW1]; exact (Below.refl _ W).alloc (Nat.le_refl _) _
  have hX1 : Rw W1 W.heap.size #[.int .i64 0, .int .i64 0, .int .i64 0, .slice none 0 0] := by rw [← hW1]; exact World.alloc_heap_new W _
  have hS1 := hS.below hb1
  have hL1 : LwB z W1 := hL.on (hb1.mono (Nat.le_of_lt hzlt))
  have HU : Hid (Up z r W1 ps) := Up.start hS1 hL1
  have HX1 : Hid (Rw W1 W.heap.size #[.int .i64 0, .int .i64 0, .int .i64 0, .slice none 0 0]) := hX1
  have HB1 : Hid (Below W.heap.size W W1 ∧ W.heap.size < W1.heap.size ∧ z < W.heap.size ∧ (∀ k, r = some k → k < W.heap.size)) := ⟨hb1, hX1.lt, hzlt, fun k hk => (hrow k hk).2⟩
  have HO : Hid (rp (n + 1) ws (ps.map (·.1)) = O) := hO
  have HK : ∀ {W' : World}, Kp z r W1 W' → Kp z r W W' := fun h => (Kp.of_below HB1.out.1).trans (Nx.refl _ _) h
  have HXK : ∀ {W' : World}, Kp z r W1 W' → Rw W' W.heap.size #[.int .i64 0, .int .i64 0, .int .i64 0, .slice none 0 0] := fun h => HX1.out.kp h (by have := HB1.out.2.2.1; omega) (fun e => by have := HB1.out.2.2.2 _ e.symm; omega)
  obtain ⟨t, v, hx⟩ : ∃ t v, nxt ws = (t, v) := ⟨_, _, rfl⟩
  have HT : Hid (nxt ws = (t, v)) := hx
  have HV : Hid (v.length ≤ n ∧ Sz v ps ∧ (Lx.ba t).size ≤ 140737488355328 ∧ ws.length + ps.length ≤ 4096) := by
    have h2 := nxt_len ws
    have h3 := hs.word
    have hsf : (nxt ws).2 <:+ ws := by
      cases ws with
      | nil => exact List.suffix_refl _
      | cons w ws => exact List.suffix_cons _ _
    have h4 := hs.on (ps' := ps) hsf (by omega)
    rw [hx] at h2 h3 h4
    dsimp only at h2
    exact ⟨by omega, h4, h3, hs.1⟩
  have hcall := next_at hx hS1 (by have := hs.1; omega)
  clear hO hS hL hS1 hL1 hb1 hX1 hrow hzlt hx hs hn
  go_enter Tryz.func63, Tryz.ntmps63
  go_wp2_with fail
  clear hW1
  refine hcall.mono ?_
  clear hcall
  rintro e w2 ⟨rfl, hS2, hK2⟩
  have HS2 : Hid (St w2 z v ps r) := hS2
  have HK2 : Hid (Kp z r W1 w2) := hK2.wide r
  have hXl2 := (HXK (hK2.wide r)).lt
  clear hS2 hK2
  by_cases hc : t = [40]
  · have hq : ((Lx.ba t).toList == [40]) = true := by rw [ba_is, hc]; rfl
    have HE : Hid (rp (n + 1) ws (ps.map (·.1)) = match rb (rp n) (n + 1) v (ps.map (·.1)) with
      | none => none
      | some (ws', b', e) => some (ws', b' ++ [e])) := rp_brack (by rw [← hc]; exact HT.out)
    have hBr : BrackSaid n := hBr0 (by
      rintro rfl
      have h := HT.out
      simp only [nxt, Prod.mk.injEq] at h
      rw [hc] at h; cases h.1)
    clear hc
    go_wp2_with fail
    refine (hBr v ps r w2 z HV.out.1 HV.out.2.1 HS2.out (HU.out.on HK2.out)).mono ?_
    rintro e w3 ⟨hK3, hQ⟩
    have HK3 : Hid (Kp z r W1 w3) := HK2.out.trans (Nx.refl _ _) hK3
    have HX := HXK HK3.out
    have hXl := HX.lt
    have c0 := HX.cell 0 _ rfl
    have c1 := HX.cell 1 _ rfl
    have c2 := HX.cell 2 _ rfl
    have c3 := HX.cell 3 _ rfl
    have hf := HX.frozen
    have HX3 : Hid (Rw w3 W.heap.size #[.int .i64 0, .int .i64 0, .int .i64 0, .slice none 0 0]) := HX
    clear HX
    cases hp : rb (rp n) (n + 1) v (ps.map (·.1)) with
    | none =>
      rw [hp] at hQ
      obtain ⟨a3, b3, k3, g3, n3, j3, rfl⟩ := hQ
      have HE2 : Hid (O = none) := by show _ = _; rw [← HO.out, HE.out, hp]
      clear hp hK3
      go_wp2_with fail
      go_ret2
      rw [HE2.out]
      exact ⟨(HK HK3.out).put4 (Nat.le_refl _) _ _ _ _, rfl⟩
    | some y =>
      obtain ⟨ws3, b3, x3⟩ := y
      rw [hp] at hQ
      obtain ⟨g3, j3, qs3, r3, rfl, hS3, hm3, hf3, hN3, ho3⟩ := hQ
      have HE2 : Hid (O = some (ws3, (ps ++ qs3 ++ [((x3, g3, j3) : Pt)]).map (·.1))) := by
        show _ = _
        rw [← HO.out, HE.out, hp, List.map_append, hm3]; rfl
      have HH : Hid (∃ gw cw gb cb, Ahead z r W ps (put4 w3 W.heap.size (.int .i64 x3.kind) (.int .i64 x3.num) (.int .i64 x3.bind) (.slice g3 x3.kids.length j3)) ws3 qs3 gw cw (.slice gb (ps ++ qs3).length cb) (x3, g3, j3)) := by
        have hlow : W.heap.size ≤ w2.heap.size := Nat.le_trans (Nat.le_of_lt HB1.out.2.1) HK2.out.size
        have hNW : Nx W r r3 := by
          rcases hN3 with h | h
          · exact Or.inl h
          · exact Or.inr fun k hk => Nat.le_trans hlow (h k hk)
        refine Ahead.of ((HK HK3.out).put4 (Nat.le_refl _) _ _ _ _) hNW (hS3.put4 HX3.out HB1.out.2.2.1 ?_ _ _ _ _) (fun q hq => KdO.put4 (Lx.own_base (hf3 q hq) hlow) HX3.out _ _ _ _) (KdO.put4 (p := (x3, g3, j3)) (Lx.own_base ho3 hlow) HX3.out _ _ _ _) HB1.out.2.2.1
        rintro rfl
        rcases hN3 with h | h
        · have := HB1.out.2.2.2 _ h.symm; omega
        · have h1 := h _ rfl; have h2 := HB1.out.2.1; have h3 := HK2.out.size; omega
      have HL : Hid ((ps ++ qs3).length + 1 ≤ 4096) := by
        have h1 := (rb_gd (rp_gd n) hp).2.2.1
        have h2 : b3.length = (ps ++ qs3).length := by rw [← hm3, List.length_map]
        have h3 := HV.out; have h4 := nxt_len ws; rw [HT.out] at h4; rw [List.length_map] at h1; show _ ≤ _; dsimp only at h4; omega
      obtain ⟨gw, cw, gb, cb, hA⟩ := HH.out
      clear hp hK3 hS3 hm3 hf3 hN3 ho3 HH
      go_wp2_with fail
      obtain ⟨W5, hW5⟩ : ∃ W5, (((w3.setCell ⟨W.heap.size, 0, none⟩ (.int .i64 x3.kind)).setCell ⟨W.heap.size, 1, none⟩ (.int .i64 x3.num)).setCell ⟨W.heap.size, 2, none⟩ (.int .i64 x3.bind)).setCell ⟨W.heap.size, 3, none⟩ (.slice g3 x3.kids.length j3) = W5 := ⟨_, rfl⟩
      have hX5 : Rw W5 W.heap.size #[.int .i64 x3.kind, .int .i64 x3.num, .int .i64 x3.bind, .slice g3 x3.kids.length j3] := by rw [← hW5]; exact HX3.out.put4 _ _ _ _
      replace hA : Ahead z r W ps W5 ws3 qs3 gw cw (.slice gb (ps ++ qs3).length cb) (x3, g3, j3) := by rw [← hW5]; exact hA
      rw [hW5]
      have HA : Hid (Ahead z r W ps W5 ws3 qs3 gw cw (.slice gb (ps ++ qs3).length cb) (x3, g3, j3)) := hA
      have b0 := hA.rdr.c1
      have b1 := hA.rdr.frozen 1
      have bl := hA.rdr.lt
      have x0 := hX5.cell 0 _ rfl
      have x1 := hX5.cell 1 _ rfl
      have x2 := hX5.cell 2 _ rfl
      have x3' := hX5.cell 3 _ rfl
      obtain ⟨m, hm⟩ : ∃ m, (ps ++ qs3).length = m := ⟨_, rfl⟩
      have HM : Hid ((ps ++ qs3).length = m) := hm
      have hmm : m + 1 ≤ 4096 := by rw [← hm]; exact HL.out
      rw [hm] at b0
      clear hW5 hA hX5 c0 c1 c2 c3 hf hXl hm HX3
      go_wp2_with fail
      go_region_law
        (refine step_exO rfl _ _ rfl (z + 1) (.slice gb m cb) (ps ++ qs3) (x3, g3, j3) _ rfl rfl W5.heap.size rfl rfl (by rw [← HM.out]; exact HA.out.body) HA.out.low (by have h1 := HA.out.rdr.lt; omega) (by have h1 := HL.out; omega) ?_; intro g7 k7 w7 hB7 hg7 hx7; have hg7' : (W5.alloc (.cells #[.int .i64 x3.kind, .int .i64 x3.num, .int .i64 x3.bind, .slice g3 x3.kids.length j3] 41)).grownBy w7 (Value.slice gb m cb).ownBlock := hg7; have hx7' := hx7; rw [← HM.out] at hg7' hx7'; have h7 := HA.out.put hB7 hg7' hx7'; have y0 := h7.1.frozen 1; have y1 := h7.1.c1; have yl := h7.1.lt; have H7 : Hid (PartQ _ z r W ps _ _) := h7.2; rw [HM.out] at H7 ⊢; clear hB7 hg7 hx7 h7 hg7' hx7')
      all_goals
        go_wp2_with fail
        go_ret2
        rw [HE2.out]
        exact H7.out
  · have hq : ((Lx.ba t).toList == [40]) = false := by rw [ba_is]; simpa using hc
    have HE : Hid (rp (n + 1) ws (ps.map (·.1)) = match sg t with
      | none => none
      | some e => some (v, ps.map (·.1) ++ [e])) := rp_one HT.out hc
    have HC : Hid (t ≠ [40]) := hc
    clear hc
    go_wp2_with fail
    refine (single_any (Lx.ba t) w2 HV.out.2.2.1 (HU.out.on HK2.out).lw).mono ?_
    rintro e w3 ⟨x, b, rfl, hxk, hb3, hd⟩
    rw [ba_list] at hd
    obtain ⟨xk, xn, xb, xs⟩ := x
    dsimp only at hxk
    subst hxk
    dsimp only
    have HK3 : Hid (Kp z r W1 w3) := HK2.out.trans (Nx.refl _ _) (Kp.of_below hb3)
    have HS3 : Hid (St w3 z v ps r) := HS2.out.below hb3
    have HX := HXK HK3.out
    have hXl := HX.lt
    have c0 := HX.cell 0 _ rfl
    have c1 := HX.cell 1 _ rfl
    have c2 := HX.cell 2 _ rfl
    have c3 := HX.cell 3 _ rfl
    have hf := HX.frozen
    have HX3 : Hid (Rw w3 W.heap.size #[.int .i64 0, .int .i64 0, .int .i64 0, .slice none 0 0]) := HX
    clear HX hb3
    rcases hd with ⟨rfl, hd⟩ | ⟨rfl, hd⟩
    · have HE2 : Hid (O = some (v, (ps ++ ([] : List Pt) ++ [((⟨xk, xn, xb, []⟩, none, 0) : Pt)]).map (·.1))) := by
        show _ = _
        rw [← HO.out, HE.out, hd, List.append_nil, List.map_append]; rfl
      have HH : Hid (∃ gw cw gb cb, Ahead z r W ps (put4 w3 W.heap.size (.int .i64 xk) (.int .i64 xn) (.int .i64 xb) (.slice none 0 0)) v ([] : List Pt) gw cw (.slice gb (ps ++ ([] : List Pt)).length cb) (⟨xk, xn, xb, []⟩, none, 0)) := by
        refine Ahead.of ((HK HK3.out).put4 (Nat.le_refl _) _ _ _ _) (Nx.refl _ _) (by rw [List.append_nil]; exact HS3.out.put4 HX3.out HB1.out.2.2.1 (fun e => by have := HB1.out.2.2.2 _ e; omega) _ _ _ _) (fun q hq => by cases hq) (World.ownsRow_nil _ _ _ _) HB1.out.2.2.1
      have HL : Hid ((ps ++ ([] : List Pt)).length + 1 ≤ 4096) := by
        have h3 := HV.out.2.2.2
        have h5 : 0 < ws.length := by
          cases ws with
          | nil =>
            have h6 := HT.out
            simp only [nxt, Prod.mk.injEq] at h6
            rw [← h6.1, sg_nil] at hd; cases hd
          | cons w ws => simp
        show _ ≤ _
        rw [List.append_nil]; omega
      obtain ⟨gw, cw, gb, cb, hA⟩ := HH.out
      clear hd HH HE
      go_wp2_with fail
      obtain ⟨W5, hW5⟩ : ∃ W5, (((w3.setCell ⟨W.heap.size, 0, none⟩ (.int .i64 xk)).setCell ⟨W.heap.size, 1, none⟩ (.int .i64 xn)).setCell ⟨W.heap.size, 2, none⟩ (.int .i64 xb)).setCell ⟨W.heap.size, 3, none⟩ (.slice none 0 0) = W5 := ⟨_, rfl⟩
      have hX5 : Rw W5 W.heap.size #[.int .i64 xk, .int .i64 xn, .int .i64 xb, .slice none 0 0] := by rw [← hW5]; exact HX3.out.put4 _ _ _ _
      replace hA : Ahead z r W ps W5 v ([] : List Pt) gw cw (.slice gb (ps ++ ([] : List Pt)).length cb) ((⟨xk, xn, xb, []⟩ : Ex), none, 0) := by rw [← hW5]; exact hA
      rw [hW5]
      have HA : Hid (Ahead z r W ps W5 v ([] : List Pt) gw cw (.slice gb (ps ++ ([] : List Pt)).length cb) ((⟨xk, xn, xb, []⟩ : Ex), none, 0)) := hA
      have b0 := hA.rdr.c1
      have b1 := hA.rdr.frozen 1
      have bl := hA.rdr.lt
      have x0 := hX5.cell 0 _ rfl
      have x1 := hX5.cell 1 _ rfl
      have x2 := hX5.cell 2 _ rfl
      have x3' := hX5.cell 3 _ rfl
      obtain ⟨m, hm⟩ : ∃ m, (ps ++ ([] : List Pt)).length = m := ⟨_, rfl⟩
      have HM : Hid ((ps ++ ([] : List Pt)).length = m) := hm
      have hmm : m + 1 ≤ 4096 := by rw [← hm]; exact HL.out
      rw [hm] at b0
      clear hW5 hA hX5 c0 c1 c2 c3 hf hXl hm HX3
      go_wp2_with fail
      go_region_law
        (refine step_exO rfl _ _ rfl (z + 1) (.slice gb m cb) (ps ++ ([] : List Pt)) ((⟨xk, xn, xb, []⟩ : Ex), none, 0) _ rfl rfl W5.heap.size rfl rfl (by rw [← HM.out]; exact HA.out.body) HA.out.low (by have h1 := HA.out.rdr.lt; omega) (by have h1 := HL.out; omega) ?_; intro g7 k7 w7 hB7 hg7 hx7; have hg7' : (W5.alloc (.cells #[.int .i64 xk, .int .i64 xn, .int .i64 xb, .slice none 0 0] 41)).grownBy w7 (Value.slice gb m cb).ownBlock := hg7; have hx7' := hx7; rw [← HM.out] at hg7' hx7'; have h7 := HA.out.put hB7 hg7' hx7'; have y0 := h7.1.frozen 1; have y1 := h7.1.c1; have yl := h7.1.lt; have H7 : Hid (PartQ _ z r W ps _ _) := h7.2; rw [HM.out] at H7 ⊢; clear hB7 hg7 hx7 h7 hg7' hx7')
      all_goals
        go_wp2_with fail
        go_ret2
        rw [HE2.out]
        exact H7.out
    · have HE2 : Hid (O = none) := by show _ = _; rw [← HO.out, HE.out, hd]
      clear hd
      go_wp2_with fail
      go_ret2
      rw [HE2.out]
      exact ⟨(HK HK3.out).put4 (Nat.le_refl _) _ _ _ _, rfl⟩
theorem part_any : ∀ n, PartSaid n
  | 0 => fun ws ps r W z hn hs hS hL => by
    obtain rfl : ws = [] := List.length_eq_zero_iff.1 (by omega)
    have h := part_walk 0 [] ps r W z (fun h => absurd rfl h) (by simp) hs hS hL
    rw [rp_len0] at h ⊢
    exact h
  | n + 1 => fun ws ps r W z hn hs hS hL => part_walk n ws ps r W z (fun _ => brack_of n (part_any n)) hn hs hS hL
end Go.Proofs.YtighcikiaddfcaaGreatDoor

namespace Go.Proofs.YtighcikiaddfcaaGreatDoor
open Go.RowKit
set_option linter.unusedVariables false

/-- How readDef ends. -/
def DefQ (o : Option (List Wd × Df)) (z : Nat) (W : World) (e : Ending) (W' : World) : Prop :=
  Kp z none W W' ∧ match o with
  | none => ∃ p g n k, e = .returned (.tuple #[.agg #[.int .i64 p, .slice g n k], .bool false])
  | some (ws', d) => ∃ g c qs r', e = .returned (.tuple #[.agg #[.int .i64 d.params, .slice g d.body.length c], .bool true]) ∧ St W' z ws' qs r' ∧ qs.map (·.1) = d.body ∧ BdO W' W.heap.size (.slice g d.body.length c) qs
theorem DefQ.no {o : Option (List Wd × Df)} {z : Nat} {W W' : World} (h : o = none) (hk : Kp z none W W') (p : Int) (g : Option Addr) (n k : Nat) : DefQ o z W (.returned (.tuple #[.agg #[.int .i64 p, .slice g n k], .bool false])) W' := by subst h; exact ⟨hk, p, g, n, k, rfl⟩
theorem own_not {W : World} {base e size n b : Nat} {v : Value} {xs : List Value} {cs : Array Value} {t : TypeId} (h : W.ownsRow base e size v n xs) (hb : W.heap[b]? = some (.cells cs t (0, 0))) (ht : t ≠ e) : v.ownBlock ≠ some b := by
  rcases h.2 with ⟨rfl, _⟩ | ⟨b', cap, cur, rfl, _, hh, _⟩
  · simp [Value.ownBlock]
  · intro e'
    obtain rfl : b' = b := by simpa [Value.ownBlock] using e'
    have := hb.symm.trans hh
    simp at this
    exact ht this.2
theorem Bx2.kp {z : Nat} {r : Option Nat} {W W' : World} {b : Nat} {p : Int} {v : Value} (h : Bx2 W b p v) (hk : Kp z r W W') (hz : b ≠ z) (hr : some b ≠ r) : Bx2 W' b p v := (hk.block b h.lt hz hr).trans h
theorem BdO.box2 {W : World} {base : Nat} {v : Value} {ps : List Pt} (h : BdO W base v ps) {b : Nat} {p : Int} {u : Value} (hb : Bx2 W b p u) (j : Nat) (x : Value) : BdO (W.setCell ⟨b, j, none⟩ x) base v ps :=
  ⟨own_far h.own (own_not h.own hb (by decide)) _ _, fun q hq => own_far (h.kids q hq) (own_not (h.kids q hq) hb (by decide)) _ _⟩
theorem St.box2 {W : World} {z : Nat} {ws : List Wd} {ps : List Pt} {r : Option Nat} (h : St W z ws ps r) {b : Nat} {p : Int} {u : Value} (hb : Bx2 W b p u) (hz : z < b) (j : Nat) (v : Value) : St (W.setCell ⟨b, j, none⟩ v) z ws ps r := by
  obtain ⟨g, c, bv, h1, h2, h3, h4, h5⟩ := h
  exact ⟨g, c, bv, (Below.heap_setCell W _ _ z (fun e => by have e' : z = b := e; omega)).trans h1, h2.on (fun k hk => Below.heap_setCell W _ _ k (fun e => by have e' : k = b := e; omega)), h3, h4.box2 hb _ _, h5⟩
def put2 (W : World) (b : Nat) (v0 v1 : Value) : World := (W.setCell ⟨b, 0, none⟩ v0).setCell ⟨b, 1, none⟩ v1
theorem Kp.put2 {z : Nat} {r : Option Nat} {W W' : World} (h : Kp z r W W') {b : Nat} (hb : W.heap.size ≤ b) (v0 v1 : Value) : Kp z r W (put2 W' b v0 v1) := (h.far hb 0 v0).far hb 1 v1
theorem St.put2 {W : World} {z : Nat} {ws : List Wd} {ps : List Pt} {r : Option Nat} (h : St W z ws ps r) {b : Nat} {p q : Int} {u : Value} (hb : Bx2 W b p u) (hz : z < b) (v1 : Value) : St (put2 W b (.int .i64 q) v1) z ws ps r :=
  (h.box2 hb hz 0 _).box2 (hb.set0 q) hz 1 v1
theorem BdO.put2 {W : World} {base : Nat} {v : Value} {ps : List Pt} (h : BdO W base v ps) {b : Nat} {p q : Int} {u : Value} (hb : Bx2 W b p u) (v1 : Value) : BdO (put2 W b (.int .i64 q) v1) base v ps :=
  (h.box2 hb 0 _).box2 (hb.set0 q) 1 v1
/-- The reader with an empty body. -/
theorem St.clear {W : World} {z : Nat} {ws : List Wd} {ps : List Pt} {r : Option Nat} (h : St W z ws ps r) : St (W.setCell ⟨z, 1, none⟩ (.slice none 0 0)) z ws [] none := by
  obtain ⟨g, c, bv, h1, h2, h3, h4, h5⟩ := h
  exact ⟨g, c, _, h1.set1 _, h2.on (fun k hk => Below.heap_setCell W _ _ k (fun e => by have e' : k = z := e; omega)), h3, BdO.nil _ _, rfl⟩
theorem St.free {W : World} {z : Nat} {ws : List Wd} {ps : List Pt} {r : Option Nat} (h : St W z ws ps r) (j : Nat) : W.frozen? ⟨z, j, none⟩ = false := by
  obtain ⟨g, c, bv, h1, _⟩ := h
  exact h1.frozen j
theorem St.body {W : World} {z : Nat} {ws : List Wd} {ps : List Pt} {r : Option Nat} (h : St W z ws ps r) : ∃ g c, W.cell? ⟨z, 1, none⟩ = some (.slice g ps.length c) ∧ BdO W (z + 1) (.slice g ps.length c) ps ∧ (Value.slice g ps.length c).ownBlock = r := by
  obtain ⟨g, c, bv, h1, h2, h3, h4, h5⟩ := h
  obtain ⟨gb, cb, rfl⟩ := h4.val
  exact ⟨gb, cb, h1.c1, h4, h5⟩
theorem BdO.rebase {W : World} {b b' : Nat} {v : Value} {ps : List Pt} (h : BdO W b v ps) (hv : ∀ k, v.ownBlock = some k → b' ≤ k) (hk : ∀ p ∈ ps, KdO W b' p) : BdO W b' v ps := ⟨own_rebase h.own hv, hk⟩

theorem rdf_eq {n : Nat} {ws : List Wd} {t1 t2 t3 : Wd} {v1 v2 v3 : List Wd} (h1 : nxt ws = (t1, v1)) (h2 : nxt v1 = (t2, v2)) (h3 : nxt v2 = (t3, v3)) :
    rdf n ws = if t1 = [40] then (if t2 = [100, 101, 102] then (match dg t3 with
      | none => none
      | some x => match rp n v3 [] with
        | none => none
        | some (ws', b) => if (nxt ws').1 = [41] then some ((nxt ws').2, ⟨x, b⟩) else none) else none) else none := by
  cases ws with
  | nil => simp only [nxt, Prod.mk.injEq] at h1; obtain ⟨rfl, rfl⟩ := h1; rfl
  | cons a ws =>
    simp only [nxt, Prod.mk.injEq] at h1; obtain ⟨rfl, rfl⟩ := h1
    cases ws with
    | nil => simp only [nxt, Prod.mk.injEq] at h2; obtain ⟨rfl, rfl⟩ := h2; simp [rdf]
    | cons d ws =>
      simp only [nxt, Prod.mk.injEq] at h2; obtain ⟨rfl, rfl⟩ := h2
      cases ws with
      | nil => simp only [nxt, Prod.mk.injEq] at h3; obtain ⟨rfl, rfl⟩ := h3; simp [rdf, dg_nil]
      | cons p ws =>
        simp only [nxt, Prod.mk.injEq] at h3; obtain ⟨rfl, rfl⟩ := h3
        by_cases ha : a = [40]
        · by_cases hd : d = [100, 101, 102]
          · simp only [rdf, if_pos ha, if_pos hd]
            rcases dg p with _ | x
            · rfl
            · rcases rp n ws [] with _ | ⟨ws', b⟩
              · rfl
              · cases ws' with
                | nil => simp [nxt]
                | cons c ws'' => rfl
          · simp only [rdf, if_pos ha, if_neg hd]
        · simp only [rdf, if_neg ha]

set_option maxHeartbeats 2000000 in
set_option maxRecDepth 100000 in
theorem def_any (n : Nat) (ws : List Wd) (ps : List Pt) (r : Option Nat) (W : World) (z : Nat) (hn : ws.length ≤ n) (hs : Sz ws []) (hS : St W z ws ps r) (hL : LwB z W) :
    Calls Tryz.prog 39 #[ptr z] W fun e W' => DefQ (rdf n ws) z W e W' := by
  have hPart := part_any n
  obtain ⟨O, hO⟩ : ∃ O, rdf n ws = O := ⟨_, rfl⟩
  rw [hO]
  have hzlt := hS.lt
  obtain ⟨W1, hW1⟩ : ∃ W1, W.alloc (.cells #[.int .i64 0, .slice none 0 0] 43) = W1 := ⟨_, rfl⟩
  have hb1 : Below W.heap.size W W1 := by rw [← hW1]; exact (Below.refl _ W).alloc (Nat.le_refl _) _
  have hX1 : Bx2 W1 W.heap.size 0 (.slice none 0 0) := by rw [← hW1]; exact Bx2.new W 0 _
  have hS1 := hS.below hb1
  have HL1 : Hid (LwB z W1) := hL.on (hb1.mono (Nat.le_of_lt hzlt))
  have HX1 : Hid (Bx2 W1 W.heap.size 0 (.slice none 0 0)) := hX1
  have HB1 : Hid (Below W.heap.size W W1 ∧ W.heap.size < W1.heap.size ∧ z < W.heap.size) := ⟨hb1, hX1.lt, hzlt⟩
  have HK : ∀ {W' : World}, Kp z none W1 W' → Kp z none W W' := fun h => (Kp.of_below HB1.out.1).trans (Nx.refl _ _) h
  have HXK : ∀ {W' : World}, Kp z none W1 W' → Bx2 W' W.heap.size 0 (.slice none 0 0) := fun h => HX1.out.kp h (by have := HB1.out.2.2; omega) (by simp)
  have HLK : ∀ {W' : World}, Kp z none W1 W' → LwB z W' := fun h => HL1.out.kp h (fun k e => by cases e) (by have := HB1.out; omega)
  obtain ⟨t1, v1, hx1⟩ : ∃ t v, nxt ws = (t, v) := ⟨_, _, rfl⟩
  obtain ⟨t2, v2, hx2⟩ : ∃ t v, nxt v1 = (t, v) := ⟨_, _, rfl⟩
  obtain ⟨t3, v3, hx3⟩ : ∃ t v, nxt v2 = (t, v) := ⟨_, _, rfl⟩
  have HE := rdf_eq (n := n) hx1 hx2 hx3
  rw [hO] at HE
  have HE : Hid _ := HE
  have HV : Hid (ws.length ≤ 4096 ∧ v1.length ≤ 4096 ∧ v2.length ≤ 4096 ∧ v3.length ≤ n ∧ v3.length + 3 ≤ ws.length + 3 ∧ Sz v3 [] ∧ (Lx.ba t3).size ≤ 140737488355328) := by
    have l1 := nxt_len ws
    have l2 := nxt_len v1
    have l3 := nxt_len v2
    have sf : ∀ ws : List Wd, (nxt ws).2 <:+ ws := fun ws => by
      cases ws with
      | nil => exact List.suffix_refl _
      | cons w ws => exact List.suffix_cons _ _
    have s1 := hs.on (ps' := []) (sf ws) (by omega)
    rw [hx1] at l1 s1
    dsimp only at l1 s1
    have s2 := s1.on (ps' := []) (sf v1) (by omega)
    rw [hx2] at l2 s2
    dsimp only at l2 s2
    have s3 := s2.on (ps' := []) (sf v2) (by omega)
    have s4 := s2.word
    rw [hx3] at l3 s3 s4
    dsimp only at l3 s3 s4
    have h0 := hs.1
    rw [List.length_nil] at h0
    exact ⟨by omega, by omega, by omega, by omega, by omega, s3, s4⟩
  have hcall := next_at hx1 hS1 HV.out.1
  have HT2 : Hid (nxt v1 = (t2, v2)) := hx2
  have HT3 : Hid (nxt v2 = (t3, v3)) := hx3
  clear hO hS hL hS1 hb1 hX1 hzlt hx1 hx2 hx3 hs hn
  go_enter Tryz.func39, Tryz.ntmps39
  go_wp2_with fail
  clear hW1
  refine hcall.mono ?_
  clear hcall
  rintro e w2 ⟨rfl, hS2, hK2⟩
  have HS2 : Hid (St w2 z v1 ps r) := hS2
  have HK2 : Hid (Kp z none W1 w2) := hK2
  clear hS2 hK2
  by_cases hc1 : t1 = [40]
  · have hq1 : ((Lx.ba t1).toList == [40]) = true := by rw [ba_is, hc1]; rfl
    have hq1' : ((Lx.ba t1).toList != [40]) = false := by rw [bne, hq1]; rfl
    have HC1 : Hid (t1 = [40]) := hc1
    clear hc1
    go_wp2_with fail
    refine (next_at HT2.out HS2.out HV.out.2.1).mono ?_
    rintro e w3 ⟨rfl, hS3, hK3⟩
    have HS3 : Hid (St w3 z v2 ps r) := hS3
    have HK3 : Hid (Kp z none W1 w3) := HK2.out.next hK3
    clear hS3 hK3 HS2 HK2
    by_cases hc2 : t2 = [100, 101, 102]
    · have hq2 : ((Lx.ba t2).toList == [100, 101, 102]) = true := by rw [ba_is, hc2]; rfl
      have hq2' : ((Lx.ba t2).toList != [100, 101, 102]) = false := by rw [bne, hq2]; rfl
      have HE1 : Hid (O = match dg t3 with
        | none => none
        | some x => match rp n v3 [] with
          | none => none
          | some (ws', b) => if (nxt ws').1 = [41] then some ((nxt ws').2, ⟨x, b⟩) else none) := by show _ = _; rw [HE.out, if_pos HC1.out, if_pos hc2]
      clear HE hc2
      go_wp2_with fail
      refine (next_at HT3.out HS3.out HV.out.2.2.1).mono ?_
      rintro e w4 ⟨rfl, hS4, hK4⟩
      have HS4 : Hid (St w4 z v3 ps r) := hS4
      have HK4 : Hid (Kp z none W1 w4) := HK3.out.next hK4
      clear hS4 hK4 HS3 HK3
      go_wp2_with fail
      refine (digits_any (Lx.ba t3) w4 HV.out.2.2.2.2.2.2 (HLK HK4.out).lw).mono ?_
      rintro e w5 ⟨hb5, hd⟩
      rw [ba_list] at hd
      have HS5 : Hid (St w5 z v3 ps r) := HS4.out.below hb5
      have HK5 : Hid (Kp z none W1 w5) := HK4.out.next (Kp.of_below hb5)
      clear hb5 HS4 HK4
      cases hg : dg t3 with
      | none =>
        rw [hg] at hd
        subst hd
        have HE2 : Hid (O = none) := by show _ = _; rw [HE1.out, hg]
        clear hg HE1
        have HX := HXK (HK5.out)
        have hXl := HX.lt
        have c0 := HX.c0
        have c1 := HX.c1
        have hf := HX.frozen
        have HKw : Hid (Kp z none W w5) := HK (HK5.out)
        clear HX
        go_wp2_with fail
        refine bodyPost_ret (v := .tuple #[.agg #[.int .i64 0, .slice none 0 0], .bool false]) (by simp [results, Tryz.results39, go_sem, c0, c1]) rfl ?_
        exact DefQ.no HE2.out (HKw.out.put2 (Nat.le_refl _) _ _) _ _ _ _
      | some x =>
        rw [hg] at hd
        subst hd
        have HE2 : Hid (O = match rp n v3 [] with
          | none => none
          | some (ws', b) => if (nxt ws').1 = [41] then some ((nxt ws').2, ⟨x, b⟩) else none) := by show _ = _; rw [HE1.out, hg]
        have hzf := HS5.out.free 1
        obtain ⟨gb5, cb5, hz5, _⟩ := HS5.out.body
        have hzl := HS5.out.lt
        clear hg HE1
        go_wp2_with fail
        obtain ⟨w6, hw6⟩ : ∃ w6, w5.setCell ⟨z, 1, none⟩ (.slice none 0 0) = w6 := ⟨_, rfl⟩
        have HS6 : Hid (St w6 z v3 [] none) := by rw [← hw6]; exact HS5.out.clear
        have HK6 : Hid (Kp z none W1 w6) := by rw [← hw6]; exact HK5.out.next (Kp.of_set _ _ _ _ _)
        rw [hw6]
        clear hw6 hz5 hzf hzl HS5 HK5
        refine (hPart v3 [] none w6 z HV.out.2.2.2.1 HV.out.2.2.2.2.2.1 HS6.out (HLK HK6.out)).mono ?_
        rintro e w7 ⟨hK7, hQ⟩
        have HK7 : Hid (Kp z none W1 w7) := HK6.out.next hK7
        clear hK7
        simp only [List.map_nil, List.nil_append] at hQ
        cases hp : rp n v3 [] with
        | none =>
          rw [hp] at hQ
          subst hQ
          have HE3 : Hid (O = none) := by show _ = _; rw [HE2.out, hp]
          clear hp HE2
          have HE2 := HE3
          have HX := HXK (HK7.out)
          have hXl := HX.lt
          have c0 := HX.c0
          have c1 := HX.c1
          have hf := HX.frozen
          have HKw : Hid (Kp z none W w7) := HK (HK7.out)
          clear HX
          go_wp2_with fail
          refine bodyPost_ret (v := .tuple #[.agg #[.int .i64 0, .slice none 0 0], .bool false]) (by simp [results, Tryz.results39, go_sem, c0, c1]) rfl ?_
          exact DefQ.no HE2.out (HKw.out.put2 (Nat.le_refl _) _ _) _ _ _ _
        | some y =>
          obtain ⟨ws7, b7⟩ := y
          rw [hp] at hQ
          obtain ⟨rfl, qs, r7, hS7, hm7, hf7, hN7⟩ := hQ
          obtain ⟨t7, v7, hx7⟩ : ∃ t v, nxt ws7 = (t, v) := ⟨_, _, rfl⟩
          have HT7 : Hid (nxt ws7 = (t7, v7)) := hx7
          have HE3 : Hid (O = if t7 = [41] then some (v7, ⟨x, b7⟩) else none) := by show _ = _; rw [HE2.out, hp]; dsimp only; rw [hx7]
          have HH : Hid (St w7 z ws7 qs r7 ∧ qs.map (·.1) = b7 ∧ (∀ q ∈ qs, KdO w7 w6.heap.size q) ∧ Nx w6 none r7 ∧ ws7.length ≤ 4096) := ⟨hS7, hm7, hf7, hN7, by have h1 := (rp_gd n _ _ _ _ hp).2.1; have h2 := HV.out; omega⟩
          obtain ⟨kid, hkid⟩ : ∃ kid, lastAt b7 = kid := ⟨_, rfl⟩
          rw [hkid]
          clear hp HE2 hS7 hm7 hf7 hN7 hx7 hkid
          go_wp2_with fail
          refine (next_at HT7.out HH.out.1 HH.out.2.2.2.2).mono ?_
          rintro e w8 ⟨rfl, hS8, hK8⟩
          have HK8 : Hid (Kp z none W1 w8) := HK7.out.next hK8
          by_cases hc7 : t7 = [41]
          · have hq7 : ((Lx.ba t7).toList == [41]) = true := by rw [ba_is, hc7]; rfl
            have hq7' : ((Lx.ba t7).toList != [41]) = false := by rw [bne, hq7]; rfl
            have HE2 : Hid (O = some (v7, ⟨x, b7⟩)) := by show _ = _; rw [HE3.out, if_pos hc7]
            obtain ⟨g8, c8, z1, hB8, ho8⟩ := hS8.body
            have hl8 : qs.length = b7.length := by rw [← HH.out.2.1, List.length_map]
            rw [hl8] at z1 hB8 ho8
            have hf8 : ∀ q ∈ qs, KdO w8 w6.heap.size q := fun q hq => hK8.own (HH.out.2.2.1 q hq) HS6.out.lt (by
              cases (Value.slice q.2.1 q.1.kids.length q.2.2).ownBlock with
              | none => exact .inl rfl
              | some k => exact .inr (by simp))
            have hlow : W.heap.size ≤ w6.heap.size := Nat.le_trans (Nat.le_of_lt HB1.out.2.1) HK6.out.size
            have hB : BdO w8 W.heap.size (.slice g8 b7.length c8) qs := hB8.rebase (fun k hk => by
              rcases HH.out.2.2.2.1 with h | h
              · rw [h] at ho8; rw [ho8] at hk; cases hk
              · rw [ho8] at hk; exact Nat.le_trans hlow (h k hk)) (fun q hq => Lx.own_base (hf8 q hq) hlow)
            have HB8 : Hid (BdO w8 W.heap.size (.slice g8 b7.length c8) qs ∧ St w8 z v7 qs r7 ∧ qs.map (·.1) = b7) := ⟨hB, hS8, HH.out.2.1⟩
            have HXb : Hid (Bx2 w8 W.heap.size 0 (.slice none 0 0)) := HXK HK8.out
            have hzl := hS8.lt
            clear hB hS8 hf8 hB8 ho8 hl8 hK8 HE3 hc7 HH
            have HX := HXK (HK8.out)
            have hXl := HX.lt
            have c0 := HX.c0
            have c1 := HX.c1
            have hf := HX.frozen
            have HKw : Hid (Kp z none W w8) := HK (HK8.out)
            clear HX
            go_wp2_with fail
            refine bodyPost_ret (v := .tuple #[.agg #[.int .i64 x, .slice g8 b7.length c8], .bool true]) (by simp [results, Tryz.results39, go_sem, c0, c1]) rfl ?_
            refine ⟨?_, ?_⟩
            · exact HKw.out.put2 (Nat.le_refl _) _ _
            · rw [HE2.out]
              exact ⟨g8, c8, qs, r7, rfl, HB8.out.2.1.put2 HXb.out HB1.out.2.2 _, HB8.out.2.2, HB8.out.1.put2 HXb.out _⟩
          · have hq7 : ((Lx.ba t7).toList == [41]) = false := by rw [ba_is]; simpa using hc7
            have hq7' : ((Lx.ba t7).toList != [41]) = true := by rw [bne, hq7]; rfl
            have HE2 : Hid (O = none) := by show _ = _; rw [HE3.out, if_neg hc7]
            clear hS8 hK8 HE3 hc7 HH
            have HX := HXK (HK8.out)
            have hXl := HX.lt
            have c0 := HX.c0
            have c1 := HX.c1
            have hf := HX.frozen
            have HKw : Hid (Kp z none W w8) := HK (HK8.out)
            clear HX
            go_wp2_with fail
            refine bodyPost_ret (v := .tuple #[.agg #[.int .i64 0, .slice none 0 0], .bool false]) (by simp [results, Tryz.results39, go_sem, c0, c1]) rfl ?_
            exact DefQ.no HE2.out (HKw.out.put2 (Nat.le_refl _) _ _) _ _ _ _

    · have hq2 : ((Lx.ba t2).toList == [100, 101, 102]) = false := by rw [ba_is]; simpa using hc2
      have hq2' : ((Lx.ba t2).toList != [100, 101, 102]) = true := by rw [bne, hq2]; rfl
      have HE2 : Hid (O = none) := by show _ = _; rw [HE.out, if_pos HC1.out, if_neg hc2]
      clear HE hc2
      have HX := HXK (HK3.out)
      have hXl := HX.lt
      have c0 := HX.c0
      have c1 := HX.c1
      have hf := HX.frozen
      have HKw : Hid (Kp z none W w3) := HK (HK3.out)
      clear HX
      go_wp2_with fail
      refine bodyPost_ret (v := .tuple #[.agg #[.int .i64 0, .slice none 0 0], .bool false]) (by simp [results, Tryz.results39, go_sem, c0, c1]) rfl ?_
      exact DefQ.no HE2.out (HKw.out.put2 (Nat.le_refl _) _ _) _ _ _ _

  · have hq1 : ((Lx.ba t1).toList == [40]) = false := by rw [ba_is]; simpa using hc1
    have hq1' : ((Lx.ba t1).toList != [40]) = true := by rw [bne, hq1]; rfl
    have HE2 : Hid (O = none) := by show _ = _; rw [HE.out, if_neg hc1]
    clear HE hc1
    have HX := HXK (HK2.out)
    have hXl := HX.lt
    have c0 := HX.c0
    have c1 := HX.c1
    have hf := HX.frozen
    have HKw : Hid (Kp z none W w2) := HK (HK2.out)
    clear HX
    go_wp2_with fail
    refine bodyPost_ret (v := .tuple #[.agg #[.int .i64 0, .slice none 0 0], .bool false]) (by simp [results, Tryz.results39, go_sem, c0, c1]) rfl ?_
    exact DefQ.no HE2.out (HKw.out.put2 (Nat.le_refl _) _ _) _ _ _ _

end Go.Proofs.YtighcikiaddfcaaGreatDoor
