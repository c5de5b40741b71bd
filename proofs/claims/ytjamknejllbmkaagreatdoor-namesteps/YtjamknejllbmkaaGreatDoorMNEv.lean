/- evaluate at a part: one step, by its kind. · evaluate at a variable: the call through the interface. · evaluate where a region draws its order: call, constructor, let. · evaluate, however many steps are left. -/
import Derived.Test.YtjamknejllbmkaaGreatDoorMNOp

namespace Go.Proofs.YtjamknejllbmkaaGreatDoor
open Go.RowKit
set_option linter.unusedVariables false
attribute [local go_sem ↓] Go.wp_at_zero Go.wp_at_succ

/-! One step, in plain words. -/
section
variable {P : List Df} {n f d a : Nat} {ls : List Th} {x : Ex}
theorem ev_0 (h : Pd1 P d a ls x) (hk : x.kind = 0) : ev P (n + 1) (f + 1) (.prt d a ls) = (.num x.num, f) := by
  rw [ev, if_neg (by omega), h.ex]; simp only [hk]; rfl
theorem ev_1 (h : Pd1 P d a ls x) (hk : x.kind = 1) {t : Th} (ht : ls[x.num.toNat]? = some t) : ev P (n + 1) (f + 1) (.prt d a ls) = ev P n f t := by
  rw [ev, if_neg (by omega), h.ex]; simp only [hk, ht]; rfl
theorem ev_2 (h : Pd1 P d a ls x) (hk : x.kind = 2) : ev P (n + 1) (f + 1) (.prt d a ls) = ev P n f (.prt x.num.toNat ((bodyAt P x.num.toNat).length - 1) (kidsT d ls x)) := by
  rw [ev, if_neg (by omega), h.ex]; simp only [hk]; rfl
theorem ev_3 (h : Pd1 P d a ls x) (hk : x.kind = 3) : ev P (n + 1) (f + 1) (.prt d a ls) = (.con x.num (kidsT d ls x), f) := by
  rw [ev, if_neg (by omega), h.ex]; simp only [hk]; rfl
theorem ev_4 (h : Pd1 P d a ls x) (hk : x.kind = 4) : ev P (n + 1) (f + 1) (.prt d a ls) = opC P n d ls x 0 0 0 f := by
  rw [ev, if_neg (by omega), h.ex]; simp only [hk]; rfl
theorem ev_5 (h : Pd1 P d a ls x) (hk : x.kind = 5) : ev P (n + 1) (f + 1) (.prt d a ls) = chC P n d ls x f := by
  rw [ev, if_neg (by omega), h.ex]; simp only [hk]; rfl
theorem ev_6 (h : Pd1 P d a ls x) (hk : x.kind = 6) : ev P (n + 1) (f + 1) (.prt d a ls) = ev P n f (.prt d (x.kids[1]?.getD 0).toNat (ls ++ [kidT d ls x 0])) := by
  rw [ev, if_neg (by omega), h.ex]; simp only [hk]; rfl
theorem ev_7 (h : Pd1 P d a ls x) (hk : x.kind = 7) : ev P (n + 1) (f + 1) (.prt d a ls) = (.fail, f) := by
  rw [ev, if_neg (by omega), h.ex]; simp only [hk]; rfl
end
theorem meth85 (s : ByteArray) (w : World) : (method 322 102 (.string s) "Evaluate").run Tryz.prog w = .ok (147, .string s) w := by kernel_rfl
theorem meth56 (c0 c1 c2 : Value) (w : World) : (method 322 77 (.agg #[c0, c1, c2]) "Evaluate").run Tryz.prog w = .ok (137, .agg #[c0, c1, c2]) w := by kernel_rfl
theorem ThAt.cases {W0 : World} {P : List Df} {A : Nat → Prop} {W : World} {u : Value} {t : Th} (h : ThAt W0 P A W u t) : (∃ s, u = .iface 102 (.string ⟨s.toArray⟩) ∧ t = .giv s) ∨ (∃ pv d a ls, u = .iface 77 pv ∧ t = .prt d a ls ∧ PtAt W0 P A W pv d a ls) := by
  cases h with
  | giv s => exact Or.inl ⟨s, rfl, rfl⟩
  | prt d a ls bv lv vs hb hr hn hl => exact Or.inr ⟨_, d, a, ls, rfl, rfl, bv, lv, rfl, hb, vs, hr, hn, hl⟩
/-- The world behind the first steps. -/
abbrev w1 (W : World) (z : Nat) (f : Int) (pc rc xc : Array Value) : World := (((W.setCell ⟨z, 1, none⟩ (.int .i64 f)).alloc (Obj.cells pc 77)).alloc (Obj.cells rc 47)).alloc (Obj.cells xc 55)
theorem w1_facts {W0 : World} {gp : Option Addr} {P : List Df} {cp z f : Nat} {W : World} (hs : Es W0 gp P cp z W (f + 1)) (pc rc xc : Array Value) :
    Es W0 gp P cp z (w1 W z (f : Int) pc rc xc) f ∧ Ka (Zz z) W (w1 W z (f : Int) pc rc xc) ∧ Bx 77 (w1 W z (f : Int) pc rc xc) W.heap.size pc ∧ Bx 47 (w1 W z (f : Int) pc rc xc) (W.heap.size + 1) rc ∧ Bx 55 (w1 W z (f : Int) pc rc xc) (W.heap.size + 2) xc := by
  have e0 : (W.setCell ⟨z, 1, none⟩ (.int .i64 (f : Int))).heap.size = W.heap.size := by simp
  have k0 : Ka (Zz z) W (W.setCell ⟨z, 1, none⟩ (.int .i64 (f : Int))) := Ka.of_grown (grown_set W z 1 _) (fun k e => (Option.some.inj e).symm)
  have b1 : Below W.heap.size (W.setCell ⟨z, 1, none⟩ (.int .i64 (f : Int))) (w1 W z (f : Int) pc rc xc) := (((Below.refl _ _).alloc (by simp) _).alloc (by simp <;> omega) _).alloc (by simp <;> omega) _
  have k1 : Ka (Zz z) W (w1 W z (f : Int) pc rc xc) := k0.next (Ka.of_below (by rw [e0]; exact b1))
  have hb : Bx 75 (w1 W z (f : Int) pc rc xc) z #[.slice gp P.length cp, .int .i64 (f : Int)] := (hs.box.set 1 (.int .i64 (f : Int))).on b1 hs.lt
  have c0 := Bx.new 77 (W.setCell ⟨z, 1, none⟩ (.int .i64 (f : Int))) pc
  have c1 := Bx.new 47 ((W.setCell ⟨z, 1, none⟩ (.int .i64 (f : Int))).alloc (Obj.cells pc 77)) rc
  have c2 := Bx.new 55 (((W.setCell ⟨z, 1, none⟩ (.int .i64 (f : Int))).alloc (Obj.cells pc 77)).alloc (Obj.cells rc 47)) xc
  rw [World.size_alloc, e0] at c1
  rw [World.size_alloc, World.size_alloc, e0] at c2
  rw [e0] at c0
  exact ⟨hs.kp k1 hb, k1, (c0.alloc _).alloc _, c1.alloc _, c2⟩
theorem w1_chs {W0 : World} {gp : Option Addr} {P : List Df} {cp z f : Nat} {A : Nat → Prop} {W : World} {c0 c1 c2 pv : Value} {d a : Nat} {ls : List Th} (hs : Es W0 gp P cp z W (f + 1)) (hz : A z) (hp : PtAt W0 P A W pv d a ls) (xc : Array Value) :
    ChS W0 gp P cp z A W pv c0 c1 c2 d a 3 ls (w1 W z (f : Int) #[c0, c1, c2] #[.int .i64 0, .int .i64 0, .slice none 0 0] xc) f ∧ Bx 55 (w1 W z (f : Int) #[c0, c1, c2] #[.int .i64 0, .int .i64 0, .slice none 0 0] xc) (W.heap.size + 2) xc := by
  obtain ⟨h1, h2, h3, h4, h5⟩ := w1_facts hs #[c0, c1, c2] #[.int .i64 0, .int .i64 0, .slice none 0 0] xc
  exact ⟨⟨h1, h2, h3, h4, hp.orN.kp (h2.mono fun k _ e => by have e' : k = z := e; subst e'; exact Or.inl hz)⟩, h5⟩

set_option maxHeartbeats 8000000 in
set_option maxRecDepth 100000 in
theorem ev_num {W0 : World} {gp : Option Addr} {P : List Df} {cp z n : Nat} (hEv : EvSaid W0 gp P cp z n) (hn : n ≤ 100000) (f : Nat) (A : Nat → Prop) (W : World) (pv : Value) (d a : Nat) (ls : List Th) (x : Ex) (hf : f ≤ n) (hs : Es W0 gp P cp z W (f + 1)) (hz : A z) (hA : ∀ k, A k → k < W.heap.size)
    (hx : Pd1 P d a ls x) (hwf : Wf P (.prt d a ls)) (hp : PtAt W0 P A W pv d a ls) (hk : x.kind = 0) :
    Calls Tryz.prog 137 #[pv, .pointer (some ⟨z, 0, none⟩)] W fun e W' => EvQ W0 gp P cp z A W (ev P (n + 1) (f + 1) (.prt d a ls)) e W' := by
  have HX : Hid (Pd1 P d a ls x ∧ pmay P = true ∧ Wf P (.prt d a ls)) := ⟨hx, hs.prg.may, hwf⟩
  have HS := hid hs
  have HA : Hid (A z ∧ (∀ k, A k → k < W.heap.size) ∧ f ≤ n) := ⟨hz, hA, hf⟩
  have HP := hid hp
  obtain ⟨bv, lv, rfl, hbd, hls⟩ := hp
  obtain ⟨bk, o, nb, cb, gk, ck, rfl, han, hbk0, hbk, hx0, hx1, hx2, hx3, hx4⟩ := hbd.part hs.low hx.body
  have han' : (a : Int) < (nb : Int) := by omega
  have ha0 : (0 : Int) ≤ (a : Int) := by omega
  have hzz := hs.lt
  have hzb : bk ≠ z := by have := hs.z0; omega
  have z1 := hs.box.cell 1 _ rfl
  have zf := hs.box.frozen 1
  have f0' : ((f : Int) + 1 == 0) = false := by simp; omega
  have fb : (f : Int) ≤ 100000 := by omega
  have fb0 : (0 : Int) ≤ (f : Int) := by omega
  obtain ⟨gl, cl, rfl⟩ := hls.val
  obtain ⟨nm, hnm⟩ : ∃ nm, x.num = nm := ⟨_, rfl⟩
  obtain ⟨bn, hbn⟩ : ∃ bn, x.bind = bn := ⟨_, rfl⟩
  obtain ⟨nk, hnk⟩ : ∃ nk, x.kids.length = nk := ⟨_, rfl⟩
  rw [hk] at hx0
  rw [hnm] at hx1
  rw [hbn] at hx2
  rw [hnk] at hx3
  obtain ⟨r0, hr0⟩ : ∃ r, ev P (n + 1) (f + 1) (.prt d a ls) = r := ⟨_, rfl⟩
  rw [hr0]
  have HN : Hid (x.num = nm ∧ x.bind = bn ∧ x.kids.length = nk ∧ x.kind = 0) := ⟨hnm, hbn, hnk, hk⟩
  have HR0 := hid hr0
  have HEv := hid hEv
  clear hx hs hz hA hf hbd hls hk hnm hbn hnk hr0 hEv hwf hx4 hn
  go_enter Tryz.func137, Tryz.ntmps137
  go_wp2_with fail
  obtain ⟨h1, h2, h3, h4, h5⟩ := w1_facts HS.out #[.slice (some ⟨bk, o, none⟩) nb cb, .int .i64 (a : Int), .slice gl ls.length cl] #[.int .i64 1, .int .i64 nm, .slice none 0 0] #[.int .i64 0, .int .i64 nm, .int .i64 bn, .slice gk nk ck]
  refine grabB (fun W9 => Bx 47 W9 (W.heap.size + 1) #[.int .i64 1, .int .i64 nm, .slice none 0 0] ∧ Es W0 gp P cp z W9 f ∧ Ka (Zz z) W W9) ⟨h4, h1, h2⟩ (fun W9 h9 => ?_)
  obtain ⟨ql, ⟨q0, q1, q2⟩, _⟩ := cels3 h9.1
  refine bodyPost_ret (v := .tuple #[.agg #[.int .i64 1, .int .i64 nm, .slice none 0 0], .int .i64 0]) (by simp [results, Tryz.results137, go_sem, q0, q1, q2]) rfl ?_
  have er : (.num nm, f) = r0 := by rw [← HR0.out, ev_0 HX.out.1 HN.out.2.2.2, HN.out.1]
  rw [← er]
  exact ⟨_, rfl, ⟨_, rfl, LsAt.nil _ _ _ _⟩, h9.2.1, h9.2.2⟩


set_option maxHeartbeats 8000000 in
set_option maxRecDepth 100000 in
theorem ev_err {W0 : World} {gp : Option Addr} {P : List Df} {cp z n : Nat} (hEv : EvSaid W0 gp P cp z n) (hn : n ≤ 100000) (f : Nat) (A : Nat → Prop) (W : World) (pv : Value) (d a : Nat) (ls : List Th) (x : Ex) (hf : f ≤ n) (hs : Es W0 gp P cp z W (f + 1)) (hz : A z) (hA : ∀ k, A k → k < W.heap.size)
    (hx : Pd1 P d a ls x) (hwf : Wf P (.prt d a ls)) (hp : PtAt W0 P A W pv d a ls) (hk : x.kind = 7) :
    Calls Tryz.prog 137 #[pv, .pointer (some ⟨z, 0, none⟩)] W fun e W' => EvQ W0 gp P cp z A W (ev P (n + 1) (f + 1) (.prt d a ls)) e W' := by
  have HX : Hid (Pd1 P d a ls x ∧ pmay P = true ∧ Wf P (.prt d a ls)) := ⟨hx, hs.prg.may, hwf⟩
  have HS := hid hs
  have HA : Hid (A z ∧ (∀ k, A k → k < W.heap.size) ∧ f ≤ n) := ⟨hz, hA, hf⟩
  have HP := hid hp
  obtain ⟨bv, lv, rfl, hbd, hls⟩ := hp
  obtain ⟨bk, o, nb, cb, gk, ck, rfl, han, hbk0, hbk, hx0, hx1, hx2, hx3, hx4⟩ := hbd.part hs.low hx.body
  have han' : (a : Int) < (nb : Int) := by omega
  have ha0 : (0 : Int) ≤ (a : Int) := by omega
  have hzz := hs.lt
  have hzb : bk ≠ z := by have := hs.z0; omega
  have z1 := hs.box.cell 1 _ rfl
  have zf := hs.box.frozen 1
  have f0' : ((f : Int) + 1 == 0) = false := by simp; omega
  have fb : (f : Int) ≤ 100000 := by omega
  have fb0 : (0 : Int) ≤ (f : Int) := by omega
  obtain ⟨gl, cl, rfl⟩ := hls.val
  obtain ⟨nm, hnm⟩ : ∃ nm, x.num = nm := ⟨_, rfl⟩
  obtain ⟨bn, hbn⟩ : ∃ bn, x.bind = bn := ⟨_, rfl⟩
  obtain ⟨nk, hnk⟩ : ∃ nk, x.kids.length = nk := ⟨_, rfl⟩
  rw [hk] at hx0
  rw [hnm] at hx1
  rw [hbn] at hx2
  rw [hnk] at hx3
  obtain ⟨r0, hr0⟩ : ∃ r, ev P (n + 1) (f + 1) (.prt d a ls) = r := ⟨_, rfl⟩
  rw [hr0]
  have HN : Hid (x.num = nm ∧ x.bind = bn ∧ x.kids.length = nk ∧ x.kind = 7) := ⟨hnm, hbn, hnk, hk⟩
  have HR0 := hid hr0
  have HEv := hid hEv
  clear hx hs hz hA hf hbd hls hk hnm hbn hnk hr0 hEv hwf hx4 hn
  go_enter Tryz.func137, Tryz.ntmps137
  go_wp2_with fail
  obtain ⟨h1, h2, h3, h4, h5⟩ := w1_facts HS.out #[.slice (some ⟨bk, o, none⟩) nb cb, .int .i64 (a : Int), .slice gl ls.length cl] #[.int .i64 3, .int .i64 0, .slice none 0 0] #[.int .i64 7, .int .i64 nm, .int .i64 bn, .slice gk nk ck]
  refine grabB (fun W9 => Bx 47 W9 (W.heap.size + 1) #[.int .i64 3, .int .i64 0, .slice none 0 0] ∧ Es W0 gp P cp z W9 f ∧ Ka (Zz z) W W9) ⟨h4, h1, h2⟩ (fun W9 h9 => ?_)
  obtain ⟨ql, ⟨q0, q1, q2⟩, _⟩ := cels3 h9.1
  refine bodyPost_ret (v := .tuple #[.agg #[.int .i64 3, .int .i64 0, .slice none 0 0], .int .i64 0]) (by simp [results, Tryz.results137, go_sem, q0, q1, q2]) rfl ?_
  have er : (.fail, f) = r0 := by rw [← HR0.out, ev_7 HX.out.1 HN.out.2.2.2]
  rw [← er]
  exact ⟨_, rfl, ⟨_, rfl, LsAt.nil _ _ _ _⟩, h9.2.1, h9.2.2⟩


set_option maxHeartbeats 8000000 in
set_option maxRecDepth 100000 in
theorem ev_prim {W0 : World} {gp : Option Addr} {P : List Df} {cp z n : Nat} (hEv : EvSaid W0 gp P cp z n) (hn : n ≤ 100000) (f : Nat) (A : Nat → Prop) (W : World) (pv : Value) (d a : Nat) (ls : List Th) (x : Ex) (hf : f ≤ n) (hs : Es W0 gp P cp z W (f + 1)) (hz : A z) (hA : ∀ k, A k → k < W.heap.size)
    (hx : Pd1 P d a ls x) (hwf : Wf P (.prt d a ls)) (hp : PtAt W0 P A W pv d a ls) (hk : x.kind = 4) :
    Calls Tryz.prog 137 #[pv, .pointer (some ⟨z, 0, none⟩)] W fun e W' => EvQ W0 gp P cp z A W (ev P (n + 1) (f + 1) (.prt d a ls)) e W' := by
  have HX : Hid (Pd1 P d a ls x ∧ pmay P = true ∧ Wf P (.prt d a ls)) := ⟨hx, hs.prg.may, hwf⟩
  have HS := hid hs
  have HA : Hid (A z ∧ (∀ k, A k → k < W.heap.size) ∧ f ≤ n) := ⟨hz, hA, hf⟩
  have HP := hid hp
  obtain ⟨bv, lv, rfl, hbd, hls⟩ := hp
  obtain ⟨bk, o, nb, cb, gk, ck, rfl, han, hbk0, hbk, hx0, hx1, hx2, hx3, hx4⟩ := hbd.part hs.low hx.body
  have han' : (a : Int) < (nb : Int) := by omega
  have ha0 : (0 : Int) ≤ (a : Int) := by omega
  have hzz := hs.lt
  have hzb : bk ≠ z := by have := hs.z0; omega
  have z1 := hs.box.cell 1 _ rfl
  have zf := hs.box.frozen 1
  have f0' : ((f : Int) + 1 == 0) = false := by simp; omega
  have fb : (f : Int) ≤ 100000 := by omega
  have fb0 : (0 : Int) ≤ (f : Int) := by omega
  obtain ⟨gl, cl, rfl⟩ := hls.val
  obtain ⟨nm, hnm⟩ : ∃ nm, x.num = nm := ⟨_, rfl⟩
  obtain ⟨bn, hbn⟩ : ∃ bn, x.bind = bn := ⟨_, rfl⟩
  obtain ⟨nk, hnk⟩ : ∃ nk, x.kids.length = nk := ⟨_, rfl⟩
  rw [hk] at hx0
  rw [hnm] at hx1
  rw [hbn] at hx2
  rw [hnk] at hx3
  obtain ⟨r0, hr0⟩ : ∃ r, ev P (n + 1) (f + 1) (.prt d a ls) = r := ⟨_, rfl⟩
  rw [hr0]
  have HN : Hid (x.num = nm ∧ x.bind = bn ∧ x.kids.length = nk ∧ x.kind = 4) := ⟨hnm, hbn, hnk, hk⟩
  have HR0 := hid hr0
  have HEv := hid hEv
  clear hx hs hz hA hf hbd hls hk hnm hbn hnk hr0 hEv hwf hx4 hn
  go_enter Tryz.func137, Tryz.ntmps137
  go_wp2_with fail
  refine grabK (fun wr => ChS W0 gp P cp z A W (prtV (.slice (some ⟨bk, o, none⟩) nb cb) a (.slice gl ls.length cl)) (.slice (some ⟨bk, o, none⟩) nb cb) (.int .i64 (a : Int)) (.slice gl ls.length cl) d a 3 ls wr f ∧ Bx 55 wr (W.heap.size + 2) #[.int .i64 4, .int .i64 nm, .int .i64 bn, .slice gk nk ck]) (w1_chs HS.out HA.out.1 HP.out _) (fun wr hC => ?_)
  have HC : Hid (ChS W0 gp P cp z A W (prtV (.slice (some ⟨bk, o, none⟩) nb cb) a (.slice gl ls.length cl)) (.slice (some ⟨bk, o, none⟩) nb cb) (.int .i64 (a : Int)) (.slice gl ls.length cl) d a 3 ls wr f) := hC.1
  have HXB : Hid (Bx 55 wr (W.heap.size + 2) #[.int .i64 4, .int .i64 nm, .int .i64 bn, .slice gk nk ck]) := hC.2
  clear hC hx0 hx1 hx2 hx3 z1 zf
  have hcall := operate_of HEv.out f (orN A W.heap.size 3) wr (prtV (.slice (some ⟨bk, o, none⟩) nb cb) a (.slice gl ls.length cl)) d a ls x HA.out.2.2 HC.out.es (Or.inl HA.out.1) (orN_lt HA.out.2.1 (by have h1 := HC.out.rb.lt; have h2 := HXB.out.lt; omega)) HX.out.1 HX.out.2.2 HC.out.pt HN.out.2.2.2
  rw [HN.out.1] at hcall
  refine hcall.mono ?_
  clear hcall
  rintro e w6 ⟨v6, rfl, ho6, hs6, hk6⟩
  obtain ⟨⟨o6, f6⟩, hr6⟩ : ∃ r, opC P n d ls x 0 0 0 f = r := ⟨_, rfl⟩
  have HR6 : Hid (opC P n d ls x 0 0 0 f = (o6, f6)) := hr6
  rw [hr6] at ho6 hs6 ⊢
  have HC6 : Hid (ChS W0 gp P cp z A W (prtV (.slice (some ⟨bk, o, none⟩) nb cb) a (.slice gl ls.length cl)) (.slice (some ⟨bk, o, none⟩) nb cb) (.int .i64 (a : Int)) (.slice gl ls.length cl) d a 3 ls w6 f6) := HC.out.call HA.out.1 (HA.out.2.1 z HA.out.1) hk6 hs6
  clear hr6
  obtain ⟨kd6, nm6, gk6, mk6, ck6, hv6⟩ := ho6.val
  have HO6 := hid ho6
  subst hv6
  obtain ⟨rl, ⟨r0', r1', r2'⟩, g0, g1, g2⟩ := cels3 HC6.out.rb
  obtain ⟨e6, he6⟩ : ∃ e6, erO o6 = e6 := ⟨_, rfl⟩
  have HE6 := hid he6
  rw [he6]
  clear ho6 hs6 hk6 he6
  go_wp2_with fail
  refine grabB (fun W9 => Bx 47 W9 (W.heap.size + 1) #[.int .i64 kd6, .int .i64 nm6, .slice gk6 mk6 ck6] ∧ Es W0 gp P cp z W9 f6 ∧ Ka (Zz z) W W9 ∧ OcV W0 P A W9 o6 (vV kd6 nm6 (.slice gk6 mk6 ck6))) ?_ (fun W9 h9 => ?_)
  · obtain ⟨q1, q2, q3⟩ := Es.fin HC6.out.es HC6.out.kp HC6.out.rb (HA.out.2.1 z HA.out.1) (by omega) (.int .i64 kd6) (.int .i64 nm6) (.slice gk6 mk6 ck6)
    exact ⟨q1, q2, q3, HO6.out.st3 (B := W.heap.size) (m := 3) (R := W.heap.size + 1) (by omega) (by omega) _ _ _⟩
  obtain ⟨ql, ⟨q0, q1, q2⟩, _⟩ := cels3 h9.1
  refine bodyPost_ret (v := .tuple #[.agg #[.int .i64 kd6, .int .i64 nm6, .slice gk6 mk6 ck6], .int .i64 e6]) (by simp [results, Tryz.results137, go_sem, q0, q1, q2]) rfl ?_
  have er : (o6, f6) = r0 := by rw [← HR0.out, ev_4 HX.out.1 HN.out.2.2.2]; exact HR6.out.symm
  rw [← er]
  exact ⟨_, by rw [HE6.out], h9.2.2.2, h9.2.1, h9.2.2.1⟩


set_option maxHeartbeats 8000000 in
set_option maxRecDepth 100000 in
theorem ev_case {W0 : World} {gp : Option Addr} {P : List Df} {cp z n : Nat} (hEv : EvSaid W0 gp P cp z n) (hn : n ≤ 100000) (f : Nat) (A : Nat → Prop) (W : World) (pv : Value) (d a : Nat) (ls : List Th) (x : Ex) (hf : f ≤ n) (hs : Es W0 gp P cp z W (f + 1)) (hz : A z) (hA : ∀ k, A k → k < W.heap.size)
    (hx : Pd1 P d a ls x) (hwf : Wf P (.prt d a ls)) (hp : PtAt W0 P A W pv d a ls) (hk : x.kind = 5) :
    Calls Tryz.prog 137 #[pv, .pointer (some ⟨z, 0, none⟩)] W fun e W' => EvQ W0 gp P cp z A W (ev P (n + 1) (f + 1) (.prt d a ls)) e W' := by
  have HX : Hid (Pd1 P d a ls x ∧ pmay P = true ∧ Wf P (.prt d a ls)) := ⟨hx, hs.prg.may, hwf⟩
  have HS := hid hs
  have HA : Hid (A z ∧ (∀ k, A k → k < W.heap.size) ∧ f ≤ n) := ⟨hz, hA, hf⟩
  have HP := hid hp
  obtain ⟨bv, lv, rfl, hbd, hls⟩ := hp
  obtain ⟨bk, o, nb, cb, gk, ck, rfl, han, hbk0, hbk, hx0, hx1, hx2, hx3, hx4⟩ := hbd.part hs.low hx.body
  have han' : (a : Int) < (nb : Int) := by omega
  have ha0 : (0 : Int) ≤ (a : Int) := by omega
  have hzz := hs.lt
  have hzb : bk ≠ z := by have := hs.z0; omega
  have z1 := hs.box.cell 1 _ rfl
  have zf := hs.box.frozen 1
  have f0' : ((f : Int) + 1 == 0) = false := by simp; omega
  have fb : (f : Int) ≤ 100000 := by omega
  have fb0 : (0 : Int) ≤ (f : Int) := by omega
  obtain ⟨gl, cl, rfl⟩ := hls.val
  obtain ⟨nm, hnm⟩ : ∃ nm, x.num = nm := ⟨_, rfl⟩
  obtain ⟨bn, hbn⟩ : ∃ bn, x.bind = bn := ⟨_, rfl⟩
  obtain ⟨nk, hnk⟩ : ∃ nk, x.kids.length = nk := ⟨_, rfl⟩
  rw [hk] at hx0
  rw [hnm] at hx1
  rw [hbn] at hx2
  rw [hnk] at hx3
  obtain ⟨r0, hr0⟩ : ∃ r, ev P (n + 1) (f + 1) (.prt d a ls) = r := ⟨_, rfl⟩
  rw [hr0]
  have HN : Hid (x.num = nm ∧ x.bind = bn ∧ x.kids.length = nk ∧ x.kind = 5) := ⟨hnm, hbn, hnk, hk⟩
  have HR0 := hid hr0
  have HEv := hid hEv
  clear hx hs hz hA hf hbd hls hk hnm hbn hnk hr0 hEv hwf hx4 hn
  go_enter Tryz.func137, Tryz.ntmps137
  go_wp2_with fail
  refine grabK (fun wr => ChS W0 gp P cp z A W (prtV (.slice (some ⟨bk, o, none⟩) nb cb) a (.slice gl ls.length cl)) (.slice (some ⟨bk, o, none⟩) nb cb) (.int .i64 (a : Int)) (.slice gl ls.length cl) d a 3 ls wr f ∧ Bx 55 wr (W.heap.size + 2) #[.int .i64 5, .int .i64 nm, .int .i64 bn, .slice gk nk ck]) (w1_chs HS.out HA.out.1 HP.out _) (fun wr hC => ?_)
  have HC : Hid (ChS W0 gp P cp z A W (prtV (.slice (some ⟨bk, o, none⟩) nb cb) a (.slice gl ls.length cl)) (.slice (some ⟨bk, o, none⟩) nb cb) (.int .i64 (a : Int)) (.slice gl ls.length cl) d a 3 ls wr f) := hC.1
  have HXB : Hid (Bx 55 wr (W.heap.size + 2) #[.int .i64 5, .int .i64 nm, .int .i64 bn, .slice gk nk ck]) := hC.2
  clear hC hx0 hx1 hx2 hx3 z1 zf
  have hcall := choose_of HEv.out f (orN A W.heap.size 3) wr (prtV (.slice (some ⟨bk, o, none⟩) nb cb) a (.slice gl ls.length cl)) d a ls x HA.out.2.2 HC.out.es (Or.inl HA.out.1) (orN_lt HA.out.2.1 (by have h1 := HC.out.rb.lt; have h2 := HXB.out.lt; omega)) HX.out.1 HC.out.pt HN.out.2.2.2
  rw [HN.out.1, HN.out.2.1] at hcall
  refine hcall.mono ?_
  clear hcall
  rintro e w6 ⟨v6, rfl, ho6, hs6, hk6⟩
  obtain ⟨⟨o6, f6⟩, hr6⟩ : ∃ r, chC P n d ls x f = r := ⟨_, rfl⟩
  have HR6 : Hid (chC P n d ls x f = (o6, f6)) := hr6
  rw [hr6] at ho6 hs6 ⊢
  have HC6 : Hid (ChS W0 gp P cp z A W (prtV (.slice (some ⟨bk, o, none⟩) nb cb) a (.slice gl ls.length cl)) (.slice (some ⟨bk, o, none⟩) nb cb) (.int .i64 (a : Int)) (.slice gl ls.length cl) d a 3 ls w6 f6) := HC.out.call HA.out.1 (HA.out.2.1 z HA.out.1) hk6 hs6
  clear hr6
  obtain ⟨kd6, nm6, gk6, mk6, ck6, hv6⟩ := ho6.val
  have HO6 := hid ho6
  subst hv6
  obtain ⟨rl, ⟨r0', r1', r2'⟩, g0, g1, g2⟩ := cels3 HC6.out.rb
  obtain ⟨e6, he6⟩ : ∃ e6, erO o6 = e6 := ⟨_, rfl⟩
  have HE6 := hid he6
  rw [he6]
  clear ho6 hs6 hk6 he6
  go_wp2_with fail
  refine grabB (fun W9 => Bx 47 W9 (W.heap.size + 1) #[.int .i64 kd6, .int .i64 nm6, .slice gk6 mk6 ck6] ∧ Es W0 gp P cp z W9 f6 ∧ Ka (Zz z) W W9 ∧ OcV W0 P A W9 o6 (vV kd6 nm6 (.slice gk6 mk6 ck6))) ?_ (fun W9 h9 => ?_)
  · obtain ⟨q1, q2, q3⟩ := Es.fin HC6.out.es HC6.out.kp HC6.out.rb (HA.out.2.1 z HA.out.1) (by omega) (.int .i64 kd6) (.int .i64 nm6) (.slice gk6 mk6 ck6)
    exact ⟨q1, q2, q3, HO6.out.st3 (B := W.heap.size) (m := 3) (R := W.heap.size + 1) (by omega) (by omega) _ _ _⟩
  obtain ⟨ql, ⟨q0, q1, q2⟩, _⟩ := cels3 h9.1
  refine bodyPost_ret (v := .tuple #[.agg #[.int .i64 kd6, .int .i64 nm6, .slice gk6 mk6 ck6], .int .i64 e6]) (by simp [results, Tryz.results137, go_sem, q0, q1, q2]) rfl ?_
  have er : (o6, f6) = r0 := by rw [← HR0.out, ev_5 HX.out.1 HN.out.2.2.2]; exact HR6.out.symm
  rw [← er]
  exact ⟨_, by rw [HE6.out], h9.2.2.2, h9.2.1, h9.2.2.1⟩

end Go.Proofs.YtjamknejllbmkaaGreatDoor

namespace Go.Proofs.YtjamknejllbmkaaGreatDoor
open Go.RowKit
set_option linter.unusedVariables false
attribute [local go_sem ↓] Go.wp_at_zero Go.wp_at_succ

set_option maxHeartbeats 8000000 in
set_option maxRecDepth 100000 in
theorem ev_var {W0 : World} {gp : Option Addr} {P : List Df} {cp z n : Nat} (hEv : EvSaid W0 gp P cp z n) (hn : n ≤ 100000) (f : Nat) (A : Nat → Prop) (W : World) (pv : Value) (d a : Nat) (ls : List Th) (x : Ex) (hf : f ≤ n) (hs : Es W0 gp P cp z W (f + 1)) (hz : A z) (hA : ∀ k, A k → k < W.heap.size)
    (hx : Pd1 P d a ls x) (hwf : Wf P (.prt d a ls)) (hp : PtAt W0 P A W pv d a ls) (hk : x.kind = 1) :
    Calls Tryz.prog 137 #[pv, .pointer (some ⟨z, 0, none⟩)] W fun e W' => EvQ W0 gp P cp z A W (ev P (n + 1) (f + 1) (.prt d a ls)) e W' := by
  have HX : Hid (Pd1 P d a ls x ∧ pmay P = true ∧ Wf P (.prt d a ls)) := ⟨hx, hs.prg.may, hwf⟩
  have HS := hid hs
  have HA : Hid (A z ∧ (∀ k, A k → k < W.heap.size) ∧ f ≤ n) := ⟨hz, hA, hf⟩
  have HP := hid hp
  obtain ⟨bv, lv, rfl, hbd, hls⟩ := hp
  obtain ⟨bk, o, nb, cb, gk, ck, rfl, han, hbk0, hbk, hx0, hx1, hx2, hx3, hx4⟩ := hbd.part hs.low hx.body
  have han' : (a : Int) < (nb : Int) := by omega
  have ha0 : (0 : Int) ≤ (a : Int) := by omega
  have hzz := hs.lt
  have hzb : bk ≠ z := by have := hs.z0; omega
  have z1 := hs.box.cell 1 _ rfl
  have zf := hs.box.frozen 1
  have f0' : ((f : Int) + 1 == 0) = false := by simp; omega
  have fb : (f : Int) ≤ 100000 := by omega
  have fb0 : (0 : Int) ≤ (f : Int) := by omega
  have hvar : 0 ≤ x.num ∧ x.num.toNat < ls.length := by have := ok_kind hx.ok; omega
  obtain ⟨j, hj⟩ : ∃ j, x.num.toNat = j := ⟨_, rfl⟩
  have hxj : x.num = (j : Int) := by omega
  have hjl : j < ls.length := by omega
  obtain ⟨t, ht⟩ : ∃ t, ls[j]? = some t := ⟨_, List.getElem?_eq_getElem hjl⟩
  have HT : Hid (ls[j]? = some t ∧ x.num = (j : Int)) := ⟨ht, hxj⟩
  obtain ⟨bl, ol, cl, u, rfl, hbl, hblA, hcu, htu⟩ := hls.at ht
  have hjl' : (j : Int) < (ls.length : Int) := by omega
  have hblz : bl ≠ z := fun e => hblA (by rw [e]; exact hz)
  have HTU := hid htu
  obtain ⟨nm, hnm⟩ : ∃ nm, x.num = nm := ⟨_, rfl⟩
  obtain ⟨bn, hbn⟩ : ∃ bn, x.bind = bn := ⟨_, rfl⟩
  obtain ⟨nk, hnk⟩ : ∃ nk, x.kids.length = nk := ⟨_, rfl⟩
  rw [hk] at hx0
  rw [hnm] at hx1
  rw [hbn] at hx2
  rw [hnk] at hx3
  obtain ⟨r0, hr0⟩ : ∃ r, ev P (n + 1) (f + 1) (.prt d a ls) = r := ⟨_, rfl⟩
  rw [hr0]
  have HN : Hid (x.num = nm ∧ x.bind = bn ∧ x.kids.length = nk ∧ x.kind = 1) := ⟨hnm, hbn, hnk, hk⟩
  obtain rfl : nm = (j : Int) := by rw [← hnm]; exact hxj
  have HVJ : Hid (x.num.toNat = j) := by show _ = _; omega
  clear hvar hj hxj ht
  have hcw : (w1 W z (f : Int) #[.slice (some ⟨bk, o, none⟩) nb cb, .int .i64 (a : Int), .slice (some ⟨bl, ol, none⟩) ls.length cl] #[.int .i64 0, .int .i64 0, .slice none 0 0] #[.int .i64 1, .int .i64 (j : Int), .int .i64 bn, .slice gk nk ck]).cell? ⟨bl, ol + j, none⟩ = some u :=
    ((w1_facts HS.out _ _ _).2.1.cell hbl hblz).trans hcu
  unfold w1 at hcw
  have HR0 := hid hr0
  have HEv := hid hEv
  clear hx hs hz hA hf hbd hls hk hnm hbn hnk hr0 hEv hwf hx4 hn
  rcases htu.cases with ⟨s, rfl, rfl⟩ | ⟨pv2, d2, a2, ls2, rfl, rfl, hp2⟩
  · clear htu
    have hm85 := meth85
    have hm56 := meth56
    go_enter Tryz.func137, Tryz.ntmps137
    go_wp2_with fail
    refine grabK (fun wr => ChS W0 gp P cp z A W (prtV (.slice (some ⟨bk, o, none⟩) nb cb) a (.slice (some ⟨bl, ol, none⟩) ls.length cl)) (.slice (some ⟨bk, o, none⟩) nb cb) (.int .i64 (a : Int)) (.slice (some ⟨bl, ol, none⟩) ls.length cl) d a 3 ls wr f ∧ Bx 55 wr (W.heap.size + 2) #[.int .i64 1, .int .i64 (j : Int), .int .i64 bn, .slice gk nk ck] ∧ Ka (Zz z) W wr) ⟨(w1_chs HS.out HA.out.1 HP.out _).1, (w1_chs HS.out HA.out.1 HP.out _).2, (w1_facts HS.out _ _ _).2.1⟩ (fun wr hC => ?_)
    have HC : Hid (ChS W0 gp P cp z A W (prtV (.slice (some ⟨bk, o, none⟩) nb cb) a (.slice (some ⟨bl, ol, none⟩) ls.length cl)) (.slice (some ⟨bk, o, none⟩) nb cb) (.int .i64 (a : Int)) (.slice (some ⟨bl, ol, none⟩) ls.length cl) d a 3 ls wr f) := hC.1
    have HXB : Hid (Bx 55 wr (W.heap.size + 2) #[.int .i64 1, .int .i64 (j : Int), .int .i64 bn, .slice gk nk ck]) := hC.2.1
    have HKW : Hid (Ka (Zz z) W wr) := hC.2.2
    clear hC hx0 hx1 hx2 hx3 z1 zf hcu hcw hm85 hm56
    have hA3 : ∀ k, orN A W.heap.size 3 k → k < wr.heap.size := orN_lt HA.out.2.1 (by have h1 := HC.out.rb.lt; have h2 := HXB.out.lt; omega)
    have hcall : Calls Tryz.prog 147 #[.string ⟨s.toArray⟩, .pointer (some ⟨z, 0, none⟩)] wr fun e W' => EvQ W0 gp P cp z (orN A W.heap.size 3) wr (ev P n f (.giv s)) e W' := by
      have hw : Wf P (.giv s) := HX.out.2.2.ls _ (List.mem_of_getElem? HT.out.1)
      have hw2 : (Tm.whole s).isSome = true := by cases hw with | giv _ h => exact h
      have h := given_at (A := orN A W.heap.size 3) s HC.out.es hA3 hw2
      have e : ev P n f (.giv s) = (givO s, f) := by unfold ev; rfl
      rw [e]; exact h
    refine hcall.mono ?_
    clear hcall hA3
    rintro e w6 ⟨v6, rfl, ho6, hs6, hk6⟩
    obtain ⟨⟨o6, f6⟩, hr6⟩ : ∃ r, ev P n f (.giv s) = r := ⟨_, rfl⟩
    have HR6 : Hid (ev P n f (.giv s) = (o6, f6)) := hr6
    rw [hr6] at ho6 hs6 ⊢
    have HC6 : Hid (ChS W0 gp P cp z A W (prtV (.slice (some ⟨bk, o, none⟩) nb cb) a (.slice (some ⟨bl, ol, none⟩) ls.length cl)) (.slice (some ⟨bk, o, none⟩) nb cb) (.int .i64 (a : Int)) (.slice (some ⟨bl, ol, none⟩) ls.length cl) d a 3 ls w6 f6) := HC.out.call HA.out.1 (HA.out.2.1 z HA.out.1) hk6 hs6
    clear hr6
    obtain ⟨kd6, nm6, gk6, mk6, ck6, hv6⟩ := ho6.val
    have HO6 := hid ho6
    subst hv6
    obtain ⟨rl, ⟨r0', r1', r2'⟩, g0, g1, g2⟩ := cels3 HC6.out.rb
    obtain ⟨e6, he6⟩ : ∃ e6, erO o6 = e6 := ⟨_, rfl⟩
    have HE6 := hid he6
    rw [he6]
    clear ho6 hs6 hk6 he6
    go_wp2_with fail
    refine grabB (fun W9 => Bx 47 W9 (W.heap.size + 1) #[.int .i64 kd6, .int .i64 nm6, .slice gk6 mk6 ck6] ∧ Es W0 gp P cp z W9 f6 ∧ Ka (Zz z) W W9 ∧ OcV W0 P A W9 o6 (vV kd6 nm6 (.slice gk6 mk6 ck6))) ?_ (fun W9 h9 => ?_)
    · obtain ⟨q1, q2, q3⟩ := Es.fin HC6.out.es HC6.out.kp HC6.out.rb (HA.out.2.1 z HA.out.1) (by omega) (.int .i64 kd6) (.int .i64 nm6) (.slice gk6 mk6 ck6)
      exact ⟨q1, q2, q3, HO6.out.st3 (B := W.heap.size) (m := 3) (R := W.heap.size + 1) (by omega) (by omega) _ _ _⟩
    obtain ⟨ql, ⟨q0, q1, q2⟩, _⟩ := cels3 h9.1
    refine bodyPost_ret (v := .tuple #[.agg #[.int .i64 kd6, .int .i64 nm6, .slice gk6 mk6 ck6], .int .i64 e6]) (by simp [results, Tryz.results137, go_sem, q0, q1, q2]) rfl ?_
    have er : (o6, f6) = r0 := by rw [← HR0.out, ev_1 HX.out.1 HN.out.2.2.2 (t := (.giv s)) (by rw [HVJ.out]; exact HT.out.1)]; exact HR6.out.symm
    rw [← er]
    exact ⟨_, by rw [HE6.out], h9.2.2.2, h9.2.1, h9.2.2.1⟩
  · clear htu
    have HP2 := hid hp2
    obtain ⟨gv2, nv2, cv2, lv2, ml2, kv2, rfl⟩ := hp2.valN
    clear hp2
    have hm85 := meth85
    have hm56 := meth56
    go_enter Tryz.func137, Tryz.ntmps137
    go_wp2_with fail
    refine grabK (fun wr => ChS W0 gp P cp z A W (prtV (.slice (some ⟨bk, o, none⟩) nb cb) a (.slice (some ⟨bl, ol, none⟩) ls.length cl)) (.slice (some ⟨bk, o, none⟩) nb cb) (.int .i64 (a : Int)) (.slice (some ⟨bl, ol, none⟩) ls.length cl) d a 3 ls wr f ∧ Bx 55 wr (W.heap.size + 2) #[.int .i64 1, .int .i64 (j : Int), .int .i64 bn, .slice gk nk ck] ∧ Ka (Zz z) W wr) ⟨(w1_chs HS.out HA.out.1 HP.out _).1, (w1_chs HS.out HA.out.1 HP.out _).2, (w1_facts HS.out _ _ _).2.1⟩ (fun wr hC => ?_)
    have HC : Hid (ChS W0 gp P cp z A W (prtV (.slice (some ⟨bk, o, none⟩) nb cb) a (.slice (some ⟨bl, ol, none⟩) ls.length cl)) (.slice (some ⟨bk, o, none⟩) nb cb) (.int .i64 (a : Int)) (.slice (some ⟨bl, ol, none⟩) ls.length cl) d a 3 ls wr f) := hC.1
    have HXB : Hid (Bx 55 wr (W.heap.size + 2) #[.int .i64 1, .int .i64 (j : Int), .int .i64 bn, .slice gk nk ck]) := hC.2.1
    have HKW : Hid (Ka (Zz z) W wr) := hC.2.2
    clear hC hx0 hx1 hx2 hx3 z1 zf hcu hcw hm85 hm56
    have hA3 : ∀ k, orN A W.heap.size 3 k → k < wr.heap.size := orN_lt HA.out.2.1 (by have h1 := HC.out.rb.lt; have h2 := HXB.out.lt; omega)
    have hcall : Calls Tryz.prog 137 #[prtV (.slice gv2 nv2 cv2) a2 (.slice lv2 ml2 kv2), .pointer (some ⟨z, 0, none⟩)] wr fun e W' => EvQ W0 gp P cp z (orN A W.heap.size 3) wr (ev P n f (.prt d2 a2 ls2)) e W' := by
      have hw : Wf P (.prt d2 a2 ls2) := HX.out.2.2.ls _ (List.mem_of_getElem? HT.out.1)
      exact HEv.out f _ wr _ d2 a2 ls2 HA.out.2.2 HC.out.es (Or.inl HA.out.1) hA3 hw (HP2.out.orN.kp (HKW.out.mono fun k _ e => by have e' : k = z := e; subst e'; exact Or.inl HA.out.1))
    refine hcall.mono ?_
    clear hcall hA3
    rintro e w6 ⟨v6, rfl, ho6, hs6, hk6⟩
    obtain ⟨⟨o6, f6⟩, hr6⟩ : ∃ r, ev P n f (.prt d2 a2 ls2) = r := ⟨_, rfl⟩
    have HR6 : Hid (ev P n f (.prt d2 a2 ls2) = (o6, f6)) := hr6
    rw [hr6] at ho6 hs6 ⊢
    have HC6 : Hid (ChS W0 gp P cp z A W (prtV (.slice (some ⟨bk, o, none⟩) nb cb) a (.slice (some ⟨bl, ol, none⟩) ls.length cl)) (.slice (some ⟨bk, o, none⟩) nb cb) (.int .i64 (a : Int)) (.slice (some ⟨bl, ol, none⟩) ls.length cl) d a 3 ls w6 f6) := HC.out.call HA.out.1 (HA.out.2.1 z HA.out.1) hk6 hs6
    clear hr6
    obtain ⟨kd6, nm6, gk6, mk6, ck6, hv6⟩ := ho6.val
    have HO6 := hid ho6
    subst hv6
    obtain ⟨rl, ⟨r0', r1', r2'⟩, g0, g1, g2⟩ := cels3 HC6.out.rb
    obtain ⟨e6, he6⟩ : ∃ e6, erO o6 = e6 := ⟨_, rfl⟩
    have HE6 := hid he6
    rw [he6]
    clear ho6 hs6 hk6 he6
    go_wp2_with fail
    refine grabB (fun W9 => Bx 47 W9 (W.heap.size + 1) #[.int .i64 kd6, .int .i64 nm6, .slice gk6 mk6 ck6] ∧ Es W0 gp P cp z W9 f6 ∧ Ka (Zz z) W W9 ∧ OcV W0 P A W9 o6 (vV kd6 nm6 (.slice gk6 mk6 ck6))) ?_ (fun W9 h9 => ?_)
    · obtain ⟨q1, q2, q3⟩ := Es.fin HC6.out.es HC6.out.kp HC6.out.rb (HA.out.2.1 z HA.out.1) (by omega) (.int .i64 kd6) (.int .i64 nm6) (.slice gk6 mk6 ck6)
      exact ⟨q1, q2, q3, HO6.out.st3 (B := W.heap.size) (m := 3) (R := W.heap.size + 1) (by omega) (by omega) _ _ _⟩
    obtain ⟨ql, ⟨q0, q1, q2⟩, _⟩ := cels3 h9.1
    refine bodyPost_ret (v := .tuple #[.agg #[.int .i64 kd6, .int .i64 nm6, .slice gk6 mk6 ck6], .int .i64 e6]) (by simp [results, Tryz.results137, go_sem, q0, q1, q2]) rfl ?_
    have er : (o6, f6) = r0 := by rw [← HR0.out, ev_1 HX.out.1 HN.out.2.2.2 (t := (.prt d2 a2 ls2)) (by rw [HVJ.out]; exact HT.out.1)]; exact HR6.out.symm
    rw [← er]
    exact ⟨_, by rw [HE6.out], h9.2.2.2, h9.2.1, h9.2.2.1⟩

end Go.Proofs.YtjamknejllbmkaaGreatDoor

namespace Go.Proofs.YtjamknejllbmkaaGreatDoor
open Go.RowKit
set_option linter.unusedVariables false
attribute [local go_sem ↓] Go.wp_at_zero Go.wp_at_succ
/-- The boxes of a call: the part's, the results', the body part's. -/
structure LoC (B : Nat) (pc xc : Array Value) (W : World) : Prop where
  pb : Bx 77 W B pc
  xb : Bx 55 W (B + 2) xc
  rb : ∃ u0 u1 u2, Bx 47 W (B + 1) #[u0, u1, u2]
theorem LoC.below {B : Nat} {pc xc : Array Value} {W W' : World} (h : LoC B pc xc W) (hb : Below W.heap.size W W') : LoC B pc xc W' := by
  obtain ⟨u0, u1, u2, hr⟩ := h.rb
  exact ⟨h.pb.next hb, h.xb.next hb, u0, u1, u2, hr.next hb⟩
theorem LoC.ka {B z : Nat} {pc xc : Array Value} {W W' : World} (h : LoC B pc xc W) (hz : z < B) (hk : Ka (Zz z) W W') : LoC B pc xc W' := by
  obtain ⟨u0, u1, u2, hr⟩ := h.rb
  have hne : ∀ b, B ≤ b → ¬ Zz z b := fun b hb e => by have e' : b = z := e; omega
  exact ⟨h.pb.kp hk (hne _ (Nat.le_refl _)), h.xb.kp hk (hne _ (by omega)), u0, u1, u2, hr.kp hk (hne _ (by omega))⟩
theorem LoC.alloc {B : Nat} {pc xc : Array Value} {W : World} (h : LoC B pc xc W) (o : Obj) : LoC B pc xc (W.alloc o) := h.below ((Below.refl _ W).alloc (Nat.le_refl _) o)
theorem LoC.drew {B : Nat} {pc xc : Array Value} {W : World} (h : LoC B pc xc W) : LoC B pc xc W.drew := h.below (Below.refl _ W).drew
theorem LoC.set0 {B : Nat} {pc xc : Array Value} {W : World} (h : LoC B pc xc W) (v : Value) : LoC B pc xc (W.setCell ⟨B + 1, 0, none⟩ v) := by
  obtain ⟨u0, u1, u2, hr⟩ := h.rb
  exact ⟨h.pb.other 0 v (by omega), h.xb.other 0 v (by omega), v, u1, u2, hr.set 0 v⟩
theorem LoC.set1 {B : Nat} {pc xc : Array Value} {W : World} (h : LoC B pc xc W) (v : Value) : LoC B pc xc (W.setCell ⟨B + 1, 1, none⟩ v) := by
  obtain ⟨u0, u1, u2, hr⟩ := h.rb
  exact ⟨h.pb.other 1 v (by omega), h.xb.other 1 v (by omega), u0, v, u2, hr.set 1 v⟩
theorem LoC.set2 {B : Nat} {pc xc : Array Value} {W : World} (h : LoC B pc xc W) (v : Value) : LoC B pc xc (W.setCell ⟨B + 1, 2, none⟩ v) := by
  obtain ⟨u0, u1, u2, hr⟩ := h.rb
  exact ⟨h.pb.other 2 v (by omega), h.xb.other 2 v (by omega), u0, u1, v, hr.set 2 v⟩
theorem LoC.all {B : Nat} {p0 p1 p2 x0 x1 x2 x3 : Value} {W : World} (h : LoC B #[p0, p1, p2] #[x0, x1, x2, x3] W) : LoC B #[p0, p1, p2] #[x0, x1, x2, x3] W ∧ W.cell? ⟨B, 0, none⟩ = some p0 ∧ W.cell? ⟨B, 1, none⟩ = some p1 ∧ W.cell? ⟨B, 2, none⟩ = some p2 ∧ W.cell? ⟨B + 2, 1, none⟩ = some x1
    ∧ W.cell? ⟨B + 1, 0, none⟩ = some (cel W ⟨B + 1, 0, none⟩) ∧ W.cell? ⟨B + 1, 1, none⟩ = some (cel W ⟨B + 1, 1, none⟩) ∧ W.cell? ⟨B + 1, 2, none⟩ = some (cel W ⟨B + 1, 2, none⟩) ∧ W.frozen? ⟨B + 1, 0, none⟩ = false ∧ W.frozen? ⟨B + 1, 1, none⟩ = false ∧ W.frozen? ⟨B + 1, 2, none⟩ = false := by
  obtain ⟨u0, u1, u2, hr⟩ := h.rb
  exact ⟨h, h.pb.cell 0 _ rfl, h.pb.cell 1 _ rfl, h.pb.cell 2 _ rfl, h.xb.cell 1 _ rfl, cel_is (hr.cell 0 _ rfl), cel_is (hr.cell 1 _ rfl), cel_is (hr.cell 2 _ rfl), hr.frozen 0, hr.frozen 1, hr.frozen 2⟩

set_option maxHeartbeats 8000000 in
set_option maxRecDepth 100000 in
theorem ev_con {W0 : World} {gp : Option Addr} {P : List Df} {cp z n : Nat} (hEv : EvSaid W0 gp P cp z n) (hn : n ≤ 100000) (f : Nat) (A : Nat → Prop) (W : World) (pv : Value) (d a : Nat) (ls : List Th) (x : Ex) (hf : f ≤ n) (hs : Es W0 gp P cp z W (f + 1)) (hz : A z) (hA : ∀ k, A k → k < W.heap.size)
    (hx : Pd1 P d a ls x) (hwf : Wf P (.prt d a ls)) (hp : PtAt W0 P A W pv d a ls) (hk : x.kind = 3) :
    Calls Tryz.prog 137 #[pv, .pointer (some ⟨z, 0, none⟩)] W fun e W' => EvQ W0 gp P cp z A W (ev P (n + 1) (f + 1) (.prt d a ls)) e W' := by
  have HX : Hid (Pd1 P d a ls x ∧ pmay P = true ∧ Wf P (.prt d a ls)) := ⟨hx, hs.prg.may, hwf⟩
  have HS := hid hs
  have HA : Hid (A z ∧ (∀ k, A k → k < W.heap.size) ∧ f ≤ n) := ⟨hz, hA, hf⟩
  have HP := hid hp
  obtain ⟨bv, lv, rfl, hbd, hls⟩ := hp
  obtain ⟨bk, o, nb, cb, gk, ck, rfl, han, hbk0, hbk, hx0, hx1, hx2, hx3, hx4⟩ := hbd.part hs.low hx.body
  have han' : (a : Int) < (nb : Int) := by omega
  have ha0 : (0 : Int) ≤ (a : Int) := by omega
  have hzz := hs.lt
  have hzb : bk ≠ z := by have := hs.z0; omega
  have z1 := hs.box.cell 1 _ rfl
  have zf := hs.box.frozen 1
  have f0' : ((f : Int) + 1 == 0) = false := by simp; omega
  have fb : (f : Int) ≤ 100000 := by omega
  have fb0 : (0 : Int) ≤ (f : Int) := by omega
  obtain ⟨gl, cl, rfl⟩ := hls.val
  obtain ⟨nm, hnm⟩ : ∃ nm, x.num = nm := ⟨_, rfl⟩
  obtain ⟨bn, hbn⟩ : ∃ bn, x.bind = bn := ⟨_, rfl⟩
  obtain ⟨nk, hnk⟩ : ∃ nk, x.kids.length = nk := ⟨_, rfl⟩
  rw [hk] at hx0
  rw [hnm] at hx1
  rw [hbn] at hx2
  rw [hnk] at hx3
  obtain ⟨r0, hr0⟩ : ∃ r, ev P (n + 1) (f + 1) (.prt d a ls) = r := ⟨_, rfl⟩
  rw [hr0]
  have HN : Hid (x.num = nm ∧ x.bind = bn ∧ x.kids.length = nk ∧ x.kind = 3) := ⟨hnm, hbn, hnk, hk⟩
  have HR0 := hid hr0
  have HEv := hid hEv
  clear hx hs hz hA hf hbd hls hk hnm hbn hnk hr0 hEv hwf hx4 hn
  go_enter Tryz.func137, Tryz.ntmps137
  go_wp2_with fail
  refine grabW (fun wr => ChS W0 gp P cp z A W (prtV (.slice (some ⟨bk, o, none⟩) nb cb) a (.slice gl ls.length cl)) (.slice (some ⟨bk, o, none⟩) nb cb) (.int .i64 (a : Int)) (.slice gl ls.length cl) d a 3 ls wr f ∧ Bx 55 wr (W.heap.size + 2) #[.int .i64 3, .int .i64 nm, .int .i64 bn, .slice gk nk ck]) (w1_chs HS.out HA.out.1 HP.out _) (fun wr hC => ?_)
  have HC : Hid (ChS W0 gp P cp z A W (prtV (.slice (some ⟨bk, o, none⟩) nb cb) a (.slice gl ls.length cl)) (.slice (some ⟨bk, o, none⟩) nb cb) (.int .i64 (a : Int)) (.slice gl ls.length cl) d a 3 ls wr f) := hC.1
  have HL : Hid (LoC W.heap.size #[.slice (some ⟨bk, o, none⟩) nb cb, .int .i64 (a : Int), .slice gl ls.length cl] #[.int .i64 3, .int .i64 nm, .int .i64 bn, .slice gk nk ck] wr) := ⟨hC.1.pb, hC.2, _, _, _, hC.1.rb⟩
  have hA3 : ∀ k, orN A W.heap.size 3 k → k < wr.heap.size := orN_lt HA.out.2.1 (by have h1 := HC.out.rb.lt; have h2 := HL.out.xb.lt; omega)
  have HA3 := hid hA3
  have HZ : Hid (z < W.heap.size) := hzz
  have HKD : Hid (∀ W1, Below wr.heap.size wr W1 → Calls Tryz.prog 138 #[.agg #[.slice (some ⟨bk, o, none⟩) nb cb, .int .i64 (a : Int), .slice gl ls.length cl]] W1 fun e w' => ∃ g c, e = .returned (.slice g nk c) ∧ LsAt W0 P (orN A W.heap.size 3) w' (.slice g nk c) (kidsT d ls x) ∧ Below W1.heap.size W1 w') := by
    intro W1 h1
    have h := kids_at (A := orN A W.heap.size 3) (HC.out.es.next h1).low (fun k hk => Nat.lt_of_lt_of_le (HA3.out k hk) h1.size) (HC.out.pt.kp (Ka.of_below h1)) HX.out.1.body (fun k hk => by obtain ⟨i, hi⟩ := List.getElem?_of_mem hk; exact (HX.out.1.kid i k hi).1) (by have := ok_kind HX.out.1.ok; have := HN.out; omega) (by have := HX.out.1.le; omega)
    refine h.mono ?_
    rintro e w' ⟨v, rfl, h2, h3⟩
    obtain ⟨g, c, rfl⟩ := h2.val
    have el : (kidsT d ls x).length = nk := by unfold kidsT; rw [List.length_map]; exact HN.out.2.2.1
    rw [el] at h2 ⊢
    exact ⟨g, c, rfl, h2, h3⟩
  clear hC hA3 hx0 hx1 hx2 hx3 z1 zf
  obtain ⟨_, e0, e1, e2, e3, e4, e5, e6, e7, e8, e9⟩ := HL.out.all
  go_region_held3 (fun w' => LoC W.heap.size #[.slice (some ⟨bk, o, none⟩) nb cb, .int .i64 (a : Int), .slice gl ls.length cl] #[.int .i64 3, .int .i64 nm, .int .i64 bn, .slice gk nk ck] w' ∧ w'.cell? ⟨W.heap.size, 0, none⟩ = some (.slice (some ⟨bk, o, none⟩) nb cb) ∧ w'.cell? ⟨W.heap.size, 1, none⟩ = some (.int .i64 (a : Int)) ∧ w'.cell? ⟨W.heap.size, 2, none⟩ = some (.slice gl ls.length cl) ∧ w'.cell? ⟨W.heap.size + 2, 1, none⟩ = some (.int .i64 nm)
      ∧ w'.cell? ⟨W.heap.size + 1, 0, none⟩ = some (cel w' ⟨W.heap.size + 1, 0, none⟩) ∧ w'.cell? ⟨W.heap.size + 1, 1, none⟩ = some (cel w' ⟨W.heap.size + 1, 1, none⟩) ∧ w'.cell? ⟨W.heap.size + 1, 2, none⟩ = some (cel w' ⟨W.heap.size + 1, 2, none⟩) ∧ w'.frozen? ⟨W.heap.size + 1, 0, none⟩ = false ∧ w'.frozen? ⟨W.heap.size + 1, 1, none⟩ = false ∧ w'.frozen? ⟨W.heap.size + 1, 2, none⟩ = false)
    (exact LoC.all (by repeat (first | exact HL3.out | exact HL2.out | exact HL1.out | exact HL.out | (with_reducible refine LoC.set0 ?_ _) | (with_reducible refine LoC.set1 ?_ _) | (with_reducible refine LoC.set2 ?_ _) | (with_reducible refine LoC.alloc ?_ _) | (with_reducible refine LoC.drew ?_))))
    (((first | (go_at_call 138; refine (HKD.out _ (Below.refl _ wr).drew).mono ?_; rintro e w3 ⟨g3, c3, rfl, hl3, hb3⟩; have HB3 : Hid (Below wr.heap.size wr w3) := (Below.refl _ wr).drew.trans hb3; have HLS := hid hl3; have HL1 : Hid (LoC W.heap.size #[.slice (some ⟨bk, o, none⟩) nb cb, .int .i64 (a : Int), .slice gl ls.length cl] #[.int .i64 3, .int .i64 nm, .int .i64 bn, .slice gk nk ck] w3) := HL.out.below HB3.out; clear hl3 hb3))))
  all_goals
    refine grabE (fun W9 => Bx 47 W9 (W.heap.size + 1) #[.int .i64 2, .int .i64 nm, .slice g3 nk c3] ∧ Es W0 gp P cp z W9 f ∧ Ka (Zz z) W W9 ∧ LsAt W0 P A W9 (.slice g3 nk c3) (kidsT d ls x)) ?_ (fun W9 h9 => ?_)
    · have hc := HC.out.next HB3.out
      obtain ⟨q1, q2, q3⟩ := Es.fin hc.es hc.kp hc.rb HZ.out (by omega) (.int .i64 2) (.int .i64 nm) (.slice g3 nk c3)
      exact ⟨q1, q2, q3, (HLS.out.kp (Ka.st3N (B := W.heap.size) (m := 3) (R := W.heap.size + 1) _ (by omega) (by omega) _ _ _)).avoid fun k hk => Or.inl (Or.inl hk)⟩
    clear e0 e1 e2 e3 e4 e5 e6 e7 e8 e9
    obtain ⟨ql, ⟨q0, q1, q2⟩, _⟩ := cels3 h9.1
    go_wp2_with fail
    refine bodyPost_ret (v := .tuple #[.agg #[.int .i64 2, .int .i64 nm, .slice g3 nk c3], .int .i64 0]) (by simp [results, Tryz.results137, go_sem, q0, q1, q2]) rfl ?_
    have er : (.con nm (kidsT d ls x), f) = r0 := by rw [← HR0.out, ev_3 HX.out.1 HN.out.2.2.2, HN.out.1]
    rw [← er]
    exact ⟨_, rfl, ⟨_, rfl, h9.2.2.2⟩, h9.2.1, h9.2.2.1⟩


set_option maxHeartbeats 8000000 in
set_option maxRecDepth 100000 in
theorem ev_call {W0 : World} {gp : Option Addr} {P : List Df} {cp z n : Nat} (hEv : EvSaid W0 gp P cp z n) (hn : n ≤ 100000) (f : Nat) (A : Nat → Prop) (W : World) (pv : Value) (d a : Nat) (ls : List Th) (x : Ex) (hf : f ≤ n) (hs : Es W0 gp P cp z W (f + 1)) (hz : A z) (hA : ∀ k, A k → k < W.heap.size)
    (hx : Pd1 P d a ls x) (hwf : Wf P (.prt d a ls)) (hp : PtAt W0 P A W pv d a ls) (hk : x.kind = 2) :
    Calls Tryz.prog 137 #[pv, .pointer (some ⟨z, 0, none⟩)] W fun e W' => EvQ W0 gp P cp z A W (ev P (n + 1) (f + 1) (.prt d a ls)) e W' := by
  have HX : Hid (Pd1 P d a ls x ∧ pmay P = true ∧ Wf P (.prt d a ls)) := ⟨hx, hs.prg.may, hwf⟩
  have HS := hid hs
  have HA : Hid (A z ∧ (∀ k, A k → k < W.heap.size) ∧ f ≤ n) := ⟨hz, hA, hf⟩
  have HP := hid hp
  obtain ⟨bv, lv, rfl, hbd, hls⟩ := hp
  obtain ⟨bk, o, nb, cb, gk, ck, rfl, han, hbk0, hbk, hx0, hx1, hx2, hx3, hx4⟩ := hbd.part hs.low hx.body
  have han' : (a : Int) < (nb : Int) := by omega
  have ha0 : (0 : Int) ≤ (a : Int) := by omega
  have hzz := hs.lt
  have hzb : bk ≠ z := by have := hs.z0; omega
  have z1 := hs.box.cell 1 _ rfl
  have zf := hs.box.frozen 1
  have f0' : ((f : Int) + 1 == 0) = false := by simp; omega
  have fb : (f : Int) ≤ 100000 := by omega
  have fb0 : (0 : Int) ≤ (f : Int) := by omega
  obtain ⟨gl, cl, rfl⟩ := hls.val
  obtain ⟨nm, hnm⟩ : ∃ nm, x.num = nm := ⟨_, rfl⟩
  obtain ⟨bn, hbn⟩ : ∃ bn, x.bind = bn := ⟨_, rfl⟩
  obtain ⟨nk, hnk⟩ : ∃ nk, x.kids.length = nk := ⟨_, rfl⟩
  rw [hk] at hx0
  rw [hnm] at hx1
  rw [hbn] at hx2
  rw [hnk] at hx3
  obtain ⟨r0, hr0⟩ : ∃ r, ev P (n + 1) (f + 1) (.prt d a ls) = r := ⟨_, rfl⟩
  rw [hr0]
  have HN : Hid (x.num = nm ∧ x.bind = bn ∧ x.kids.length = nk ∧ x.kind = 2) := ⟨hnm, hbn, hnk, hk⟩
  have HR0 := hid hr0
  have HEv := hid hEv
  clear hx hs hz hA hf hbd hls hk hnm hbn hnk hr0 hEv hwf hx4 hn
  go_enter Tryz.func137, Tryz.ntmps137
  go_wp2_with fail
  refine grabW (fun wr => ChS W0 gp P cp z A W (prtV (.slice (some ⟨bk, o, none⟩) nb cb) a (.slice gl ls.length cl)) (.slice (some ⟨bk, o, none⟩) nb cb) (.int .i64 (a : Int)) (.slice gl ls.length cl) d a 3 ls wr f ∧ Bx 55 wr (W.heap.size + 2) #[.int .i64 2, .int .i64 nm, .int .i64 bn, .slice gk nk ck]) (w1_chs HS.out HA.out.1 HP.out _) (fun wr hC => ?_)
  have HC : Hid (ChS W0 gp P cp z A W (prtV (.slice (some ⟨bk, o, none⟩) nb cb) a (.slice gl ls.length cl)) (.slice (some ⟨bk, o, none⟩) nb cb) (.int .i64 (a : Int)) (.slice gl ls.length cl) d a 3 ls wr f) := hC.1
  have HL : Hid (LoC W.heap.size #[.slice (some ⟨bk, o, none⟩) nb cb, .int .i64 (a : Int), .slice gl ls.length cl] #[.int .i64 2, .int .i64 nm, .int .i64 bn, .slice gk nk ck] wr) := ⟨hC.1.pb, hC.2, _, _, _, hC.1.rb⟩
  have hA3 : ∀ k, orN A W.heap.size 3 k → k < wr.heap.size := orN_lt HA.out.2.1 (by have h1 := HC.out.rb.lt; have h2 := HL.out.xb.lt; omega)
  have HA3 := hid hA3
  have HZ : Hid (z < W.heap.size) := hzz
  have HKD : Hid (∀ W1, Below wr.heap.size wr W1 → Calls Tryz.prog 138 #[.agg #[.slice (some ⟨bk, o, none⟩) nb cb, .int .i64 (a : Int), .slice gl ls.length cl]] W1 fun e w' => ∃ g c, e = .returned (.slice g nk c) ∧ LsAt W0 P (orN A W.heap.size 3) w' (.slice g nk c) (kidsT d ls x) ∧ Below W1.heap.size W1 w') := by
    intro W1 h1
    have h := kids_at (A := orN A W.heap.size 3) (HC.out.es.next h1).low (fun k hk => Nat.lt_of_lt_of_le (HA3.out k hk) h1.size) (HC.out.pt.kp (Ka.of_below h1)) HX.out.1.body (fun k hk => by obtain ⟨i, hi⟩ := List.getElem?_of_mem hk; exact (HX.out.1.kid i k hi).1) (by have := ok_kind HX.out.1.ok; have := HN.out; omega) (by have := HX.out.1.le; omega)
    refine h.mono ?_
    rintro e w' ⟨v, rfl, h2, h3⟩
    obtain ⟨g, c, rfl⟩ := h2.val
    have el : (kidsT d ls x).length = nk := by unfold kidsT; rw [List.length_map]; exact HN.out.2.2.1
    rw [el] at h2 ⊢
    exact ⟨g, c, rfl, h2, h3⟩
  have hcl := HX.out.1.call HN.out.2.2.2
  obtain ⟨hm0, _, df, hdf, hkp, hd1, hd24⟩ := hcl
  rw [HN.out.1] at hm0 hdf
  have HDF : Hid (P[nm.toNat]? = some df ∧ (x.kids.length : Int) = df.params ∧ 1 ≤ df.body.length ∧ df.body.length ≤ 24 ∧ 0 ≤ nm) := ⟨hdf, hkp, hd1, hd24, hm0⟩
  have HWC : Hid (Wf P (.prt nm.toNat ((bodyAt P nm.toNat).length - 1) (kidsT d ls x))) := Wf.root HX.out.2.1 hdf (by unfold kidsT; rw [List.length_map]; exact hkp) (HX.out.1.kidsW (bd_none (by rw [HN.out.2.2.2]; decide) (by rw [HN.out.2.2.2]; decide)))
  have HBO : Hid (∀ W1 g c, Below wr.heap.size wr W1 → LsAt W0 P (orN A W.heap.size 3) W1 (.slice g nk c) (kidsT d ls x) → Calls Tryz.prog 23 #[.pointer (some ⟨z, 0, none⟩), .int .i64 nm, .slice g nk c] W1 fun e w' => ∃ gb4 nb4 cb4 gl4 ml4 cl4 a4, e = .returned (prtV (.slice gb4 nb4 cb4) a4 (.slice gl4 ml4 cl4)) ∧ PtAt W0 P (orN A W.heap.size 3) w' (prtV (.slice gb4 nb4 cb4) a4 (.slice gl4 ml4 cl4)) nm.toNat ((bodyAt P nm.toNat).length - 1) (kidsT d ls x) ∧ Below W1.heap.size W1 w') := by
    intro W1 g c h1 h2
    have hs1 := HC.out.es.next h1
    have h := bodyOf_at (d := nm.toNat) hs1.prg hs1.low HDF.out.1 HDF.out.2.2.1 hs1.box h2 (by have := HDF.out.2.2.2.1; omega)
    rw [Int.toNat_of_nonneg HDF.out.2.2.2.2] at h
    refine h.mono ?_
    rintro e w' ⟨v, rfl, h3, h4⟩
    obtain ⟨gb4, nb4, cb4, gl4, ml4, cl4, rfl⟩ := h3.valN
    exact ⟨_, _, _, _, _, _, _, rfl, h3, h4⟩
  have HEO : Hid (∀ W1 pv, Below wr.heap.size wr W1 → PtAt W0 P (orN A W.heap.size 3) W1 pv nm.toNat ((bodyAt P nm.toNat).length - 1) (kidsT d ls x) → Calls Tryz.prog 137 #[pv, .pointer (some ⟨z, 0, none⟩)] W1 fun e w' => ∃ kd6 nm6 gk6 mk6 ck6 e6 o6 f6, e = .returned (.tuple #[vV kd6 nm6 (.slice gk6 mk6 ck6), .int .i64 e6]) ∧ (o6, f6) = r0 ∧ erO o6 = e6 ∧ OcV W0 P (orN A W.heap.size 3) w' o6 (vV kd6 nm6 (.slice gk6 mk6 ck6)) ∧ Es W0 gp P cp z w' f6 ∧ Ka (Zz z) W1 w') := by
    intro W1 pv h1 h2
    refine (HEv.out f _ W1 pv _ _ _ HA.out.2.2 (HC.out.es.next h1) (Or.inl HA.out.1) (fun k hk => Nat.lt_of_lt_of_le (HA3.out k hk) h1.size) HWC.out h2).mono ?_
    rintro e w' ⟨v, rfl, h3, h4, h5⟩
    obtain ⟨kd6, nm6, gk6, mk6, ck6, rfl⟩ := h3.val
    have er : ev P n f (.prt nm.toNat ((bodyAt P nm.toNat).length - 1) (kidsT d ls x)) = r0 := by rw [← HR0.out, ev_2 HX.out.1 HN.out.2.2.2, HN.out.1]
    exact ⟨_, _, _, _, _, _, _, _, rfl, by rw [← er], rfl, h3, h4, h5⟩
  clear hm0 hdf hkp hd1 hd24
  clear hC hA3 hx0 hx1 hx2 hx3 z1 zf
  obtain ⟨_, e0, e1, e2, e3, e4, e5, e6', e7, e8, e9⟩ := HL.out.all
  go_region_held3 (fun w' => LoC W.heap.size #[.slice (some ⟨bk, o, none⟩) nb cb, .int .i64 (a : Int), .slice gl ls.length cl] #[.int .i64 2, .int .i64 nm, .int .i64 bn, .slice gk nk ck] w' ∧ w'.cell? ⟨W.heap.size, 0, none⟩ = some (.slice (some ⟨bk, o, none⟩) nb cb) ∧ w'.cell? ⟨W.heap.size, 1, none⟩ = some (.int .i64 (a : Int)) ∧ w'.cell? ⟨W.heap.size, 2, none⟩ = some (.slice gl ls.length cl) ∧ w'.cell? ⟨W.heap.size + 2, 1, none⟩ = some (.int .i64 nm)
      ∧ w'.cell? ⟨W.heap.size + 1, 0, none⟩ = some (cel w' ⟨W.heap.size + 1, 0, none⟩) ∧ w'.cell? ⟨W.heap.size + 1, 1, none⟩ = some (cel w' ⟨W.heap.size + 1, 1, none⟩) ∧ w'.cell? ⟨W.heap.size + 1, 2, none⟩ = some (cel w' ⟨W.heap.size + 1, 2, none⟩) ∧ w'.frozen? ⟨W.heap.size + 1, 0, none⟩ = false ∧ w'.frozen? ⟨W.heap.size + 1, 1, none⟩ = false ∧ w'.frozen? ⟨W.heap.size + 1, 2, none⟩ = false)
    (exact LoC.all (by repeat (first | exact HL3.out | exact HL2.out | exact HL1.out | exact HL.out | (with_reducible refine LoC.set0 ?_ _) | (with_reducible refine LoC.set1 ?_ _) | (with_reducible refine LoC.set2 ?_ _) | (with_reducible refine LoC.alloc ?_ _) | (with_reducible refine LoC.drew ?_))))
    (((first | (go_at_call 138; refine (HKD.out _ (Below.refl _ wr).drew).mono ?_; rintro e w3 ⟨g3, c3, rfl, hl3, hb3⟩; have HB3 : Hid (Below wr.heap.size wr w3) := (Below.refl _ wr).drew.trans hb3; have HLS := hid hl3; have HL1 : Hid (LoC W.heap.size #[.slice (some ⟨bk, o, none⟩) nb cb, .int .i64 (a : Int), .slice gl ls.length cl] #[.int .i64 2, .int .i64 nm, .int .i64 bn, .slice gk nk ck] w3) := HL.out.below HB3.out; clear hl3 hb3) | (go_at_call 23; refine (HBO.out _ _ _ HB3.out HLS.out).mono ?_; rintro e w4 ⟨gb4, nb4, cb4, gl4, ml4, cl4, a4, rfl, hp4, hb4⟩; have HB4 : Hid (Below wr.heap.size wr w4) := HB3.out.trans (hb4.mono HB3.out.size); have HP4 := hid hp4; have HL2 : Hid (LoC W.heap.size #[.slice (some ⟨bk, o, none⟩) nb cb, .int .i64 (a : Int), .slice gl ls.length cl] #[.int .i64 2, .int .i64 nm, .int .i64 bn, .slice gk nk ck] w4) := HL1.out.below hb4; clear hp4 hb4) | (go_at_call 137; refine (HEO.out _ _ HB4.out HP4.out).mono ?_; rintro e w6 ⟨kd6, nm6, gk6, mk6, ck6, e6, o6, f6, rfl, er, he6, ho6, hs6, hk6⟩; have HE6 : Hid ((o6, f6) = r0 ∧ erO o6 = e6) := ⟨er, he6⟩; have HO6 := hid ho6; have HC6 : Hid (Es W0 gp P cp z w6 f6 ∧ Ka (Zz z) wr w6 ∧ Ka (Zz z) w4 w6) := ⟨hs6, (Ka.of_below HB4.out).next hk6, hk6⟩; have HL3 : Hid (LoC W.heap.size #[.slice (some ⟨bk, o, none⟩) nb cb, .int .i64 (a : Int), .slice gl ls.length cl] #[.int .i64 2, .int .i64 nm, .int .i64 bn, .slice gk nk ck] w6) := HL2.out.ka HZ.out hk6; clear er he6 ho6 hs6 hk6))))
  all_goals
    refine grabE (fun W9 => Bx 47 W9 (W.heap.size + 1) #[.int .i64 kd6, .int .i64 nm6, .slice gk6 mk6 ck6] ∧ Es W0 gp P cp z W9 f6 ∧ Ka (Zz z) W W9 ∧ OcV W0 P A W9 o6 (vV kd6 nm6 (.slice gk6 mk6 ck6))) ?_ (fun W9 h9 => ?_)
    · obtain ⟨u0, u1, u2, hr⟩ := HL3.out.rb
      obtain ⟨q1, q2, q3⟩ := Es.fin HC6.out.1 (HC.out.kp.next HC6.out.2.1) hr HZ.out (by omega) (.int .i64 kd6) (.int .i64 nm6) (.slice gk6 mk6 ck6)
      exact ⟨q1, q2, q3, HO6.out.st3 (B := W.heap.size) (m := 3) (R := W.heap.size + 1) (by omega) (by omega) _ _ _⟩
    clear e0 e1 e2 e3 e4 e5 e6' e7 e8 e9
    obtain ⟨ql, ⟨q0, q1, q2⟩, _⟩ := cels3 h9.1
    go_wp2_with fail
    refine bodyPost_ret (v := .tuple #[.agg #[.int .i64 kd6, .int .i64 nm6, .slice gk6 mk6 ck6], .int .i64 e6]) (by simp [results, Tryz.results137, go_sem, q0, q1, q2]) rfl ?_
    rw [← HE6.out.1]
    exact ⟨_, by rw [HE6.out.2], h9.2.2.2, h9.2.1, h9.2.2.1⟩


set_option maxHeartbeats 8000000 in
set_option maxRecDepth 100000 in
theorem ev_let {W0 : World} {gp : Option Addr} {P : List Df} {cp z n : Nat} (hEv : EvSaid W0 gp P cp z n) (hn : n ≤ 100000) (f : Nat) (A : Nat → Prop) (W : World) (pv : Value) (d a : Nat) (ls : List Th) (x : Ex) (hf : f ≤ n) (hs : Es W0 gp P cp z W (f + 1)) (hz : A z) (hA : ∀ k, A k → k < W.heap.size)
    (hx : Pd1 P d a ls x) (hwf : Wf P (.prt d a ls)) (hp : PtAt W0 P A W pv d a ls) (hk : x.kind = 6) :
    Calls Tryz.prog 137 #[pv, .pointer (some ⟨z, 0, none⟩)] W fun e W' => EvQ W0 gp P cp z A W (ev P (n + 1) (f + 1) (.prt d a ls)) e W' := by
  have HX : Hid (Pd1 P d a ls x ∧ pmay P = true ∧ Wf P (.prt d a ls)) := ⟨hx, hs.prg.may, hwf⟩
  have HS := hid hs
  have HA : Hid (A z ∧ (∀ k, A k → k < W.heap.size) ∧ f ≤ n) := ⟨hz, hA, hf⟩
  have HP := hid hp
  obtain ⟨bv, lv, rfl, hbd, hls⟩ := hp
  obtain ⟨bk, o, nb, cb, gk, ck, rfl, han, hbk0, hbk, hx0, hx1, hx2, hx3, hx4⟩ := hbd.part hs.low hx.body
  have han' : (a : Int) < (nb : Int) := by omega
  have ha0 : (0 : Int) ≤ (a : Int) := by omega
  have hzz := hs.lt
  have hzb : bk ≠ z := by have := hs.z0; omega
  have z1 := hs.box.cell 1 _ rfl
  have zf := hs.box.frozen 1
  have f0' : ((f : Int) + 1 == 0) = false := by simp; omega
  have fb : (f : Int) ≤ 100000 := by omega
  have fb0 : (0 : Int) ≤ (f : Int) := by omega
  obtain ⟨gl, cl, rfl⟩ := hls.val
  obtain ⟨nm, hnm⟩ : ∃ nm, x.num = nm := ⟨_, rfl⟩
  obtain ⟨bn, hbn⟩ : ∃ bn, x.bind = bn := ⟨_, rfl⟩
  obtain ⟨nk, hnk⟩ : ∃ nk, x.kids.length = nk := ⟨_, rfl⟩
  rw [hk] at hx0
  rw [hnm] at hx1
  rw [hbn] at hx2
  rw [hnk] at hx3
  obtain ⟨r0, hr0⟩ : ∃ r, ev P (n + 1) (f + 1) (.prt d a ls) = r := ⟨_, rfl⟩
  rw [hr0]
  have HN : Hid (x.num = nm ∧ x.bind = bn ∧ x.kids.length = nk ∧ x.kind = 6) := ⟨hnm, hbn, hnk, hk⟩
  have HR0 := hid hr0
  have HEv := hid hEv
  clear hx hs hz hA hf hbd hls hk hnm hbn hnk hr0 hEv hwf hx4 hn
  go_enter Tryz.func137, Tryz.ntmps137
  go_wp2_with fail
  refine grabW (fun wr => ChS W0 gp P cp z A W (prtV (.slice (some ⟨bk, o, none⟩) nb cb) a (.slice gl ls.length cl)) (.slice (some ⟨bk, o, none⟩) nb cb) (.int .i64 (a : Int)) (.slice gl ls.length cl) d a 3 ls wr f ∧ Bx 55 wr (W.heap.size + 2) #[.int .i64 6, .int .i64 nm, .int .i64 bn, .slice gk nk ck]) (w1_chs HS.out HA.out.1 HP.out _) (fun wr hC => ?_)
  have HC : Hid (ChS W0 gp P cp z A W (prtV (.slice (some ⟨bk, o, none⟩) nb cb) a (.slice gl ls.length cl)) (.slice (some ⟨bk, o, none⟩) nb cb) (.int .i64 (a : Int)) (.slice gl ls.length cl) d a 3 ls wr f) := hC.1
  have HL : Hid (LoC W.heap.size #[.slice (some ⟨bk, o, none⟩) nb cb, .int .i64 (a : Int), .slice gl ls.length cl] #[.int .i64 6, .int .i64 nm, .int .i64 bn, .slice gk nk ck] wr) := ⟨hC.1.pb, hC.2, _, _, _, hC.1.rb⟩
  have hA3 : ∀ k, orN A W.heap.size 3 k → k < wr.heap.size := orN_lt HA.out.2.1 (by have h1 := HC.out.rb.lt; have h2 := HL.out.xb.lt; omega)
  have HA3 := hid hA3
  have HZ : Hid (z < W.heap.size) := hzz
  have HNA : Hid (∀ W1 : World, wr.heap.size ≤ W1.heap.size → ¬ orN A W.heap.size 3 W1.heap.size) := fun W1 h1 h => by have h2 := HA3.out _ h; omega
  have hk0 : 0 < x.kids.length := by have := ok_kind HX.out.1.ok; have := HN.out; omega
  have hk1 : 1 < x.kids.length := by have := ok_kind HX.out.1.ok; have := HN.out; omega
  have HKK : Hid (0 < x.kids.length ∧ 1 < x.kids.length ∧ x.bd 0 = 0 ∧ x.bd 1 = 1) := ⟨hk0, hk1, bd_ne (by omega), bd_six HN.out.2.2.2⟩
  have HK0 : Hid (∀ W1, Below wr.heap.size wr W1 → Calls Tryz.prog 141 #[.agg #[.slice (some ⟨bk, o, none⟩) nb cb, .int .i64 (a : Int), .slice gl ls.length cl], .int .i64 0, .slice none 0 0] W1 fun e w' => ∃ gb4 nb4 cb4 gl4 ml4 cl4 a4, e = .returned (prtV (.slice gb4 nb4 cb4) a4 (.slice gl4 ml4 cl4)) ∧ PtAt W0 P (orN A W.heap.size 3) w' (prtV (.slice gb4 nb4 cb4) a4 (.slice gl4 ml4 cl4)) d (x.kids[0]?.getD 0).toNat ls ∧ Below W1.heap.size W1 w') := by
    intro W1 h1
    have h := kid_one (i := 0) (HC.out.es.next h1) (fun k hk => Nat.lt_of_lt_of_le (HA3.out k hk) h1.size) HX.out.1 HKK.out.1 (HC.out.pt.kp (Ka.of_below h1))
    refine h.mono ?_
    rintro e w' ⟨v, rfl, h3, h4⟩
    obtain ⟨gb4, nb4, cb4, gl4, ml4, cl4, rfl⟩ := h3.valN
    exact ⟨_, _, _, _, _, _, _, rfl, h3, h4⟩
  have HK1 : Hid (∀ W1 q, Below wr.heap.size wr W1 → LsAt W0 P (orN A W.heap.size 3) W1 (.slice (some ⟨q, 0, none⟩) 1 1) [kidT d ls x 0] → Calls Tryz.prog 141 #[.agg #[.slice (some ⟨bk, o, none⟩) nb cb, .int .i64 (a : Int), .slice gl ls.length cl], .int .i64 1, .slice (some ⟨q, 0, none⟩) 1 1] W1 fun e w' => ∃ gb4 nb4 cb4 gl4 ml4 cl4 a4, e = .returned (prtV (.slice gb4 nb4 cb4) a4 (.slice gl4 ml4 cl4)) ∧ PtAt W0 P (orN A W.heap.size 3) w' (prtV (.slice gb4 nb4 cb4) a4 (.slice gl4 ml4 cl4)) d (x.kids[1]?.getD 0).toNat (ls ++ [kidT d ls x 0]) ∧ Below W1.heap.size W1 w') := by
    intro W1 q h1 h2
    have e : x.kids[1]? = some (x.kids[1]'HKK.out.2.1) := List.getElem?_eq_getElem _
    have h := kid_at (mv := .slice (some ⟨q, 0, none⟩) 1 1) (more := [kidT d ls x 0]) (HC.out.es.next h1).low (fun k hk => Nat.lt_of_lt_of_le (HA3.out k hk) h1.size) (HC.out.pt.kp (Ka.of_below h1)) HX.out.1.body e (HX.out.1.kid 1 _ e).1 h2 (by have := HX.out.1.le; simp; omega)
    rw [e]
    refine h.mono ?_
    rintro e w' ⟨v, rfl, h3, h4⟩
    obtain ⟨gb4, nb4, cb4, gl4, ml4, cl4, rfl⟩ := h3.valN
    exact ⟨_, _, _, _, _, _, _, rfl, h3, h4⟩
  have HWC : Hid (Wf P (.prt d (x.kids[1]?.getD 0).toNat (ls ++ [kidT d ls x 0]))) := by
    have e : x.kids[1]? = some (x.kids[1]'HKK.out.2.1) := List.getElem?_eq_getElem _
    show Wf P _
    rw [e]
    exact HX.out.1.wf 1 _ e [kidT d ls x 0] (by rw [show ((1 : Nat) : Int) = 1 from rfl, HKK.out.2.2.2]; rfl) (fun l hl => by rw [List.mem_singleton] at hl; subst hl; exact HX.out.1.kidW HKK.out.1 HKK.out.2.2.1)
  have HEO : Hid (∀ W1 pv, Below wr.heap.size wr W1 → PtAt W0 P (orN A W.heap.size 3) W1 pv d (x.kids[1]?.getD 0).toNat (ls ++ [kidT d ls x 0]) → Calls Tryz.prog 137 #[pv, .pointer (some ⟨z, 0, none⟩)] W1 fun e w' => ∃ kd6 nm6 gk6 mk6 ck6 e6 o6 f6, e = .returned (.tuple #[vV kd6 nm6 (.slice gk6 mk6 ck6), .int .i64 e6]) ∧ (o6, f6) = r0 ∧ erO o6 = e6 ∧ OcV W0 P (orN A W.heap.size 3) w' o6 (vV kd6 nm6 (.slice gk6 mk6 ck6)) ∧ Es W0 gp P cp z w' f6 ∧ Ka (Zz z) W1 w') := by
    intro W1 pv h1 h2
    refine (HEv.out f _ W1 pv _ _ _ HA.out.2.2 (HC.out.es.next h1) (Or.inl HA.out.1) (fun k hk => Nat.lt_of_lt_of_le (HA3.out k hk) h1.size) HWC.out h2).mono ?_
    rintro e w' ⟨v, rfl, h3, h4, h5⟩
    obtain ⟨kd6, nm6, gk6, mk6, ck6, rfl⟩ := h3.val
    have er : ev P n f (.prt d (x.kids[1]?.getD 0).toNat (ls ++ [kidT d ls x 0])) = r0 := by rw [← HR0.out, ev_6 HX.out.1 HN.out.2.2.2]
    exact ⟨_, _, _, _, _, _, _, _, rfl, by rw [← er], rfl, h3, h4, h5⟩
  clear hk0 hk1
  clear hC hA3 hx0 hx1 hx2 hx3 z1 zf
  obtain ⟨_, e0, e1, e2, e3, e4, e5, e6', e7, e8, e9⟩ := HL.out.all
  go_region_held3 (fun w' => LoC W.heap.size #[.slice (some ⟨bk, o, none⟩) nb cb, .int .i64 (a : Int), .slice gl ls.length cl] #[.int .i64 6, .int .i64 nm, .int .i64 bn, .slice gk nk ck] w' ∧ w'.cell? ⟨W.heap.size, 0, none⟩ = some (.slice (some ⟨bk, o, none⟩) nb cb) ∧ w'.cell? ⟨W.heap.size, 1, none⟩ = some (.int .i64 (a : Int)) ∧ w'.cell? ⟨W.heap.size, 2, none⟩ = some (.slice gl ls.length cl) ∧ w'.cell? ⟨W.heap.size + 2, 1, none⟩ = some (.int .i64 nm)
      ∧ w'.cell? ⟨W.heap.size + 1, 0, none⟩ = some (cel w' ⟨W.heap.size + 1, 0, none⟩) ∧ w'.cell? ⟨W.heap.size + 1, 1, none⟩ = some (cel w' ⟨W.heap.size + 1, 1, none⟩) ∧ w'.cell? ⟨W.heap.size + 1, 2, none⟩ = some (cel w' ⟨W.heap.size + 1, 2, none⟩) ∧ w'.frozen? ⟨W.heap.size + 1, 0, none⟩ = false ∧ w'.frozen? ⟨W.heap.size + 1, 1, none⟩ = false ∧ w'.frozen? ⟨W.heap.size + 1, 2, none⟩ = false)
    (exact LoC.all (by repeat (first | exact HL3.out | exact HL2.out | exact HL1.out | exact HL.out | (with_reducible refine LoC.set0 ?_ _) | (with_reducible refine LoC.set1 ?_ _) | (with_reducible refine LoC.set2 ?_ _) | (with_reducible refine LoC.alloc ?_ _) | (with_reducible refine LoC.drew ?_))))
    (((first | (go_at_call 141; have hq := HK0.out; clear HK0; refine (hq _ (Below.refl _ wr).drew).mono ?_; clear hq; rintro e w3 ⟨gb3, nb3, cb3, gl3, ml3, cl3, a3, rfl, hp3, hb3⟩; have HB3 : Hid (Below wr.heap.size wr w3) := (Below.refl _ wr).drew.trans hb3; have HP3 := hid hp3; have HL1 : Hid (LoC W.heap.size #[.slice (some ⟨bk, o, none⟩) nb cb, .int .i64 (a : Int), .slice gl ls.length cl] #[.int .i64 6, .int .i64 nm, .int .i64 bn, .slice gk nk ck] w3) := HL.out.below HB3.out; clear hp3 hb3) | (go_at_call 141; (refine (HK1.out (w3.alloc (Obj.cells #[.iface 77 (prtV (.slice gb3 nb3 cb3) a3 (.slice gl3 ml3 cl3))] 41)) w3.heap.size (HB3.out.alloc HB3.out.size _) (PtAt.one (j := 0) HP3.out.thing (HNA.out _ HB3.out.size))).mono ?_); rintro e w4 ⟨gb4, nb4, cb4, gl4, ml4, cl4, a4, rfl, hp4, hb4⟩; have HB4 : Hid (Below wr.heap.size wr w4) := (HB3.out.alloc HB3.out.size _).trans (hb4.mono (by have := HB3.out.size; simp; omega)); have HP4 := hid hp4; have HL2 : Hid (LoC W.heap.size #[.slice (some ⟨bk, o, none⟩) nb cb, .int .i64 (a : Int), .slice gl ls.length cl] #[.int .i64 6, .int .i64 nm, .int .i64 bn, .slice gk nk ck] w4) := (HL1.out.alloc _).below hb4; clear hp4 hb4) | (go_at_call 137; refine (HEO.out _ _ HB4.out HP4.out).mono ?_; rintro e w6 ⟨kd6, nm6, gk6, mk6, ck6, e6, o6, f6, rfl, er, he6, ho6, hs6, hk6⟩; have HE6 : Hid ((o6, f6) = r0 ∧ erO o6 = e6) := ⟨er, he6⟩; have HO6 := hid ho6; have HC6 : Hid (Es W0 gp P cp z w6 f6 ∧ Ka (Zz z) wr w6 ∧ Ka (Zz z) w4 w6) := ⟨hs6, (Ka.of_below HB4.out).next hk6, hk6⟩; have HL3 : Hid (LoC W.heap.size #[.slice (some ⟨bk, o, none⟩) nb cb, .int .i64 (a : Int), .slice gl ls.length cl] #[.int .i64 6, .int .i64 nm, .int .i64 bn, .slice gk nk ck] w6) := HL2.out.ka HZ.out hk6; clear er he6 ho6 hs6 hk6))))
  all_goals
    refine grabE (fun W9 => Bx 47 W9 (W.heap.size + 1) #[.int .i64 kd6, .int .i64 nm6, .slice gk6 mk6 ck6] ∧ Es W0 gp P cp z W9 f6 ∧ Ka (Zz z) W W9 ∧ OcV W0 P A W9 o6 (vV kd6 nm6 (.slice gk6 mk6 ck6))) ?_ (fun W9 h9 => ?_)
    · obtain ⟨u0, u1, u2, hr⟩ := HL3.out.rb
      obtain ⟨q1, q2, q3⟩ := Es.fin HC6.out.1 (HC.out.kp.next HC6.out.2.1) hr HZ.out (by omega) (.int .i64 kd6) (.int .i64 nm6) (.slice gk6 mk6 ck6)
      exact ⟨q1, q2, q3, HO6.out.st3 (B := W.heap.size) (m := 3) (R := W.heap.size + 1) (by omega) (by omega) _ _ _⟩
    clear e0 e1 e2 e3 e4 e5 e6' e7 e8 e9
    obtain ⟨ql, ⟨q0, q1, q2⟩, _⟩ := cels3 h9.1
    go_wp2_with fail
    refine bodyPost_ret (v := .tuple #[.agg #[.int .i64 kd6, .int .i64 nm6, .slice gk6 mk6 ck6], .int .i64 e6]) (by simp [results, Tryz.results137, go_sem, q0, q1, q2]) rfl ?_
    rw [← HE6.out.1]
    exact ⟨_, by rw [HE6.out.2], h9.2.2.2, h9.2.1, h9.2.2.1⟩

end Go.Proofs.YtjamknejllbmkaaGreatDoor

namespace Go.Proofs.YtjamknejllbmkaaGreatDoor
open Go.RowKit
set_option linter.unusedVariables false
attribute [local go_sem ↓] Go.wp_at_zero Go.wp_at_succ

set_option maxHeartbeats 8000000 in
set_option maxRecDepth 100000 in
theorem ev_zero {W0 : World} {gp : Option Addr} {P : List Df} {cp z n : Nat} (A : Nat → Prop) (W : World) (pv : Value) (d a : Nat) (ls : List Th) (hs : Es W0 gp P cp z W 0) (hp : PtAt W0 P A W pv d a ls) :
    Calls Tryz.prog 137 #[pv, .pointer (some ⟨z, 0, none⟩)] W fun e W' => EvQ W0 gp P cp z A W (ev P n 0 (.prt d a ls)) e W' := by
  have HS := hid hs
  obtain ⟨gb, nb, cb, gl, ml, cl, rfl⟩ := hp.valN
  have hzz := hs.lt
  have z1 := hs.box.cell 1 _ rfl
  have er : ev P n 0 (.prt d a ls) = (.fuel, 0) := by
    cases n with
    | zero => rw [ev]
    | succ n => rw [ev, if_pos rfl]
  rw [er]
  clear hs hp er
  go_enter Tryz.func137, Tryz.ntmps137
  go_wp2_with fail
  have c1 := Bx.new 47 (W.alloc (Obj.cells #[.slice gb nb cb, .int .i64 (a : Int), .slice gl ml cl] 77)) #[.int .i64 0, .int .i64 0, .slice none 0 0]
  rw [World.size_alloc] at c1
  have b1 : Below W.heap.size W ((W.alloc (Obj.cells #[.slice gb nb cb, .int .i64 (a : Int), .slice gl ml cl] 77)).alloc (Obj.cells #[.int .i64 0, .int .i64 0, .slice none 0 0] 47)) := ((Below.refl _ W).alloc (Nat.le_refl _) _).alloc (by simp) _
  refine grabB (fun W9 => Bx 47 W9 (W.heap.size + 1) #[.int .i64 0, .int .i64 0, .slice none 0 0] ∧ Below W.heap.size W W9) ⟨c1, b1⟩ (fun W9 h9 => ?_)
  obtain ⟨ql, ⟨q0, q1, q2⟩, _⟩ := cels3 h9.1
  refine bodyPost_ret (v := .tuple #[.agg #[.int .i64 0, .int .i64 0, .slice none 0 0], .int .i64 901]) (by simp [results, Tryz.results137, go_sem, q0, q1, q2]) rfl ?_
  exact ⟨_, rfl, rfl, HS.out.next h9.2, Ka.of_below h9.2⟩
/-- evaluate, however many steps are left. -/
theorem ev_said {W0 : World} {gp : Option Addr} {P : List Df} {cp z : Nat} : ∀ n, n ≤ 100000 → EvSaid W0 gp P cp z n
  | 0, _ => by
    intro f A W pv d a ls hf hs hz hA hwf hp
    obtain rfl : f = 0 := by omega
    exact ev_zero A W pv d a ls hs hp
  | n + 1, hn => by
    intro f A W pv d a ls hf hs hz hA hwf hp
    cases f with
    | zero => exact ev_zero A W pv d a ls hs hp
    | succ f =>
      have hE := ev_said (W0 := W0) (gp := gp) (P := P) (cp := cp) (z := z) n (by omega)
      obtain ⟨x, hx⟩ := hwf.part hs.prg.may
      have hn' : n ≤ 100000 := by omega
      have hf' : f ≤ n := by omega
      rcases ok_kind hx.ok with h | h | h | h | h | h | h | h
      · exact ev_num hE hn' f A W pv d a ls x hf' hs hz hA hx hwf hp h.1
      · exact ev_var hE hn' f A W pv d a ls x hf' hs hz hA hx hwf hp h.1
      · exact ev_call hE hn' f A W pv d a ls x hf' hs hz hA hx hwf hp h.1
      · exact ev_con hE hn' f A W pv d a ls x hf' hs hz hA hx hwf hp h.1
      · exact ev_prim hE hn' f A W pv d a ls x hf' hs hz hA hx hwf hp h.1
      · exact ev_case hE hn' f A W pv d a ls x hf' hs hz hA hx hwf hp h.1
      · exact ev_let hE hn' f A W pv d a ls x hf' hs hz hA hx hwf hp h.1
      · exact ev_err hE hn' f A W pv d a ls x hf' hs hz hA hx hwf hp h
end Go.Proofs.YtjamknejllbmkaaGreatDoor
