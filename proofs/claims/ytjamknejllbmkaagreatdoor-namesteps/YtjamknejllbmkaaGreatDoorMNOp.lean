/- slices.Repeat at one text; a value's head. · operate and choose, out of evaluate at fewer steps. · choose, out of evaluate at fewer steps. -/
import Derived.Test.YtjamknejllbmkaaGreatDoorMNMem
import Derived.Test.YtjamknejllbmkaaGreatDoorMExpr

namespace Go.Proofs.YtjamknejllbmkaaGreatDoor.Rs
open Go.RowKit
set_option linter.unusedVariables false
theorem size9 : (Tryz.prog.info? 9).map (·.size) = some 1 := by kernel_rfl
/-- m numbers -1, the rest of n zeros. -/
def half (m n : Nat) : List Value := List.replicate m (.string ⟨#[95]⟩) ++ List.replicate (n - m) (.string ⟨#[]⟩)
theorem half_len {m n : Nat} (h : m ≤ n) : (half m n).length = n := by simp [half]; omega
theorem made_half (n : Nat) : (madeCells #[Value.string ⟨#[]⟩] n) = (half 0 n).toArray := by
  apply Array.ext
  · simp [size_madeCells, half]
  · intro i h1 h2
    simp [madeCells, half, Nat.mod_one]
def mone (q : Nat) : List Value := List.replicate q (.string ⟨#[95]⟩)
theorem mone_len (q : Nat) : (mone q).length = q := by simp [mone]
theorem splice_half {m n q : Nat} (h : m + q ≤ n) : splice (half m n) m (mone q) = half (m + q) n := by
  have e1 : List.take m (half m n) = List.replicate m (.string ⟨#[95]⟩) := by
    simp [half]
  have e2 : List.drop (m + q) (half m n) = List.replicate (n - (m + q)) (.string ⟨#[]⟩) := by
    unfold half
    rw [List.drop_append, List.drop_replicate, List.drop_replicate, List.length_replicate, show m - (m + q) = 0 by omega, show n - m - (m + q - m) = n - (m + q) by omega]
    rfl
  unfold splice
  rw [mone_len, e1, e2]
  simp [mone, half, List.replicate_append_replicate, ← List.append_assoc]
theorem mone_one (q : Nat) : ∀ v ∈ mone q, v.oneCell' = true := by
  intro v hv
  rw [List.eq_of_mem_replicate hv]; rfl
theorem mone_at {q j : Nat} {v : Value} (h : (mone q)[j]? = some v) : j < q ∧ v = .string ⟨#[95]⟩ := by
  have hj := (List.getElem?_eq_some_iff.1 h).1
  rw [mone_len] at hj
  exact ⟨hj, by rw [mone, List.getElem?_replicate, if_pos hj] at h; exact (Option.some.inj h).symm⟩
theorem half_at {m n j : Nat} (h : j < m) : (half m n)[j]? = some (.string ⟨#[95]⟩) := by
  unfold half
  rw [List.getElem?_append_left (by simpa using h), List.getElem?_replicate, if_pos h]

set_option maxHeartbeats 1600000 in
set_option maxRecDepth 100000 in
theorem repeat_any (bx cx n : Nat) (w : World) (hx : w.cell? ⟨bx, 0, none⟩ = some (.string ⟨#[95]⟩)) (h1 : 1 ≤ n) (hn : n ≤ 24) :
    Calls Tryz.prog 26 #[.slice (some ⟨bx, 0, none⟩) 1 cx, .int .i64 n] w fun e w' => e = .returned (.slice (some ⟨w.heap.size, 0, none⟩) n n) ∧ Bx 9 w' w.heap.size (List.replicate n (.string ⟨#[95]⟩)).toArray ∧ Below w.heap.size w w' := by
  have hmk := fun W => run_make_row' (P := Tryz.prog) 24 9 (.string ⟨#[]⟩) 16 Tryz.underlying24 Tm.Tryz.info9 rfl .i64 .i64 n (by omega) (by omega) W
  rw [made_half] at hmk
  have hbx := World.block_lt_of_cell? w _ hx
  have hbx' : bx < w.heap.size := hbx
  have u1 : IntKind.u64.wrap (n : Int) = n := by rw [IntKind.wrap_u64]; omega
  have hgt : ¬ ((9223372036854775807 : Int) < (n : Int)) := by omega
  go_enter Tryz.func26, Tryz.ntmps26
  go_wp2_with (first | (go_at_call 48; refine (mul_any n (by omega) _).mono ?_; rintro e w' ⟨rfl, rfl⟩) | ((refine wpList_copy_splice (by rfl) _ _ 24 24 (by rfl) 9 Tryz.underlying24 size9 (some ⟨w.heap.size, 0, none⟩) (some ⟨bx, 0, none⟩) n n 1 cx (by rfl) (by rfl) w.heap.size 0 (half 0 n) 9 ?cp0 (mone 1) ?cp1 ?cp2 ?cp3 (mone_one 1) w.heap.size w ?cp4 (Nat.le_refl _) ?_)))
  case cp0 => exact Bx.new 9 w (half 0 n).toArray
  case cp1 => rw [mone_len]; exact (Nat.min_eq_left h1).symm
  case cp2 =>
    intro _ j v hj
    obtain ⟨h1, rfl⟩ := mone_at hj
    obtain rfl : j = 0 := by omega
    exact hx
  case cp3 => rw [mone_len, half_len (Nat.zero_le _)]; omega
  case cp4 => exact (Below.refl _ _).alloc (Nat.le_refl _) _
  intro w1 HG1 hB1
  have HL1 : Hid (Bx 9 w1 w.heap.size (half 1 n).toArray) := by
    have h := HG1.out
    rw [splice_half (m := 0) (q := 1) (by omega)] at h
    exact h
  clear HG1 hmk
  go_wp2_with fail
  go_loopw [8] (fun s8 wr => ∃ m : Nat, 1 ≤ m ∧ m ≤ n ∧ s8 = .int .i64 (m : Int) ∧ Hid (Bx 9 wr w.heap.size (half m n).toArray) ∧ Below w.heap.size w wr)
    (fun s8 _ => n - (intOf s8).toNat)
  case atStart => exact ⟨1, Nat.le_refl _, h1, by first | rfl | (rw [mone_len]; rfl), HL1, hB1⟩
  case round =>
    obtain ⟨m, hm1, hmn, rfl, HL, hB⟩ := hrel
    by_cases hlt : m < n
    · have hlt' : (m : Int) < (n : Int) := by omega
      have hne : ¬ n = m := by omega
      obtain ⟨q, hq⟩ : ∃ q, q = Nat.min m (n - m) := ⟨_, rfl⟩
      have hq' : q ≤ m ∧ q ≤ n - m ∧ 1 ≤ q := by
        rw [hq]
        exact ⟨Nat.min_le_left _ _, Nat.min_le_right _ _, Nat.le_min.2 ⟨hm1, by omega⟩⟩
      have HQ : Hid ((mone q).length = Nat.min m (n - m)) := by rw [mone_len]; exact hq
      have HP : Hid (∀ j v, (mone q)[j]? = some v → wr.drew.cell? ((⟨w.heap.size, 0, none⟩ : Addr).add j) = some v) := by
        intro j v hj
        obtain ⟨hjq, rfl⟩ := mone_at hj
        rw [Addr.add_lit, Nat.zero_add]
        exact HL.out.cell _ _ (by simpa using half_at (by omega))
      have HF : Hid (m + (mone q).length ≤ (half m n).length) := by
        show _ ≤ _
        rw [mone_len, half_len (by omega)]; omega
      have hwr : IntKind.i64.wrap ((m : Int) + ((mone q).length : Int)) = ((m + q : Nat) : Int) := by
        rw [mone_len, IntKind.wrap_i64]; omega
      clear hq
      go_wp2_with fail
      go_region_law (refine step_copy_splice (by rfl) (.tmp 41) (.tmp 44) 24 24 (by rfl) 9 Tryz.underlying24 size9 (some ⟨w.heap.size, m, none⟩) (some ⟨w.heap.size, 0, none⟩) (n - m) (n - m) m n (by simp [Act.eval, Act.put]) (by simp [Act.eval, Act.put]) w.heap.size m (half m n) 9 HL.out (mone q) HQ.out (fun _ => ⟨rfl, _, rfl, HP.out⟩) HF.out (mone_one q) w.heap.size w hB.drew (Nat.le_refl _) ?_; intro w2 HG2 hB2)
      have HL2 : Hid (Bx 9 w2 w.heap.size (half (m + q) n).toArray) := by
        have h := HG2.out
        rw [splice_half (m := m) (q := q) (by omega)] at h
        exact h
      clear HG2 HP HF HQ HL
      go_wp2_with fail
      go_roundw
      case rel => first | exact ⟨m + q, by omega, by omega, by first | go_num | (rw [mone_len]; go_num), HL2, hB2⟩ | ((repeat apply Exists.intro); exact ⟨⟨m + q, by omega, by omega, rfl, HL2, hB2⟩, rfl⟩)
      case measure =>
        show n - (intOf (.int .i64 ((m : Int) + (q : Int)))).toNat < n - (intOf (.int .i64 (m : Int))).toNat
        simp only [intOf]; omega
    · have hlt' : ¬ (m : Int) < (n : Int) := by omega
      obtain rfl : m = n := by omega
      go_wp2_with fail
      go_ret
      refine ⟨rfl, ?_, hB⟩
      have h := HL.out
      unfold half at h
      rw [Nat.sub_self, List.replicate_zero, List.append_nil] at h
      exact h

end Go.Proofs.YtjamknejllbmkaaGreatDoor.Rs

namespace Go.Proofs.YtjamknejllbmkaaGreatDoor
open Go.RowKit
set_option linter.unusedVariables false
attribute [local go_sem ↓] Go.wp_at_zero Go.wp_at_succ

/-- evaluate, with f steps left at most n. -/
def EvSaid (W0 : World) (gp : Option Addr) (P : List Df) (cp z n : Nat) : Prop := ∀ (f : Nat) (A : Nat → Prop) (W : World) (pv : Value) (d a : Nat) (ls : List Th), f ≤ n → Es W0 gp P cp z W f → A z → (∀ k, A k → k < W.heap.size) →
  Wf P (.prt d a ls) → PtAt W0 P A W pv d a ls → Calls Tryz.prog 137 #[pv, .pointer (some ⟨z, 0, none⟩)] W fun e W' => EvQ W0 gp P cp z A W (ev P n f (.prt d a ls)) e W'
theorem PtAt.val {W0 : World} {P : List Df} {A : Nat → Prop} {W : World} {v : Value} {d a : Nat} {ls : List Th} (h : PtAt W0 P A W v d a ls) : ∃ gb nb cb gl cl, v = prtV (.slice gb nb cb) a (.slice gl ls.length cl) := by
  obtain ⟨bv, lv, rfl, ⟨g, c, df, _, rfl, _⟩, h⟩ := h
  obtain ⟨gl, cl, rfl⟩ := h.val
  exact ⟨_, _, _, _, _, rfl⟩
section
variable {W0 : World} {gp : Option Addr} {P : List Df} {cp z n : Nat}
/-- A kid of a part, evaluated: the two calls in one. -/
theorem kid_ev (hE : EvSaid W0 gp P cp z n) {f d a i : Nat} {A : Nat → Prop} {W W2 : World} {pv : Value} {ls : List Th} {x : Ex} (hf : f ≤ n) (hs : Es W0 gp P cp z W f) (hz : A z) (hA : ∀ k, A k → k < W.heap.size) (hx : Pd1 P d a ls x) (hi : i < x.kids.length) (hb : x.bd i = 0)
    (hp : PtAt W0 P A W2 pv d (x.kids[i]?.getD 0).toNat ls) (hb2 : Below W.heap.size W W2) :
    Calls Tryz.prog 137 #[pv, .pointer (some ⟨z, 0, none⟩)] W2 fun e W' => EvQ W0 gp P cp z A W2 (ev P n f (kidT d ls x i)) e W' :=
  hE f A W2 pv d _ ls hf (hs.next hb2) hz (fun k hk => Nat.lt_of_lt_of_le (hA k hk) hb2.size) (hx.kidW hi hb) hp
/-- kid alone, with none more. -/
theorem kid_one {f d a i : Nat} {A : Nat → Prop} {W : World} {pv : Value} {ls : List Th} {x : Ex} (hs : Es W0 gp P cp z W f) (hA : ∀ k, A k → k < W.heap.size) (hx : Pd1 P d a ls x) (hi : i < x.kids.length) (hp : PtAt W0 P A W pv d a ls) :
    Calls Tryz.prog 141 #[pv, .int .i64 (i : Int), .slice none 0 0] W fun e w' => ∃ v, e = .returned v ∧ PtAt W0 P A w' v d (x.kids[i]?.getD 0).toNat ls ∧ Below W.heap.size W w' := by
  have e : x.kids[i]? = some x.kids[i] := List.getElem?_eq_getElem hi
  have h := kid_at (mv := .slice none 0 0) (more := []) hs.low hA hp hx.body e (hx.kid i _ e).1 (LsAt.nil _ _ _ _) (by have := hx.le; simp; omega)
  rw [List.append_nil] at h
  rw [e]
  exact h
end

/-- A's blocks and n that are newer. -/
def orN (A : Nat → Prop) (B m : Nat) : Nat → Prop := fun k => A k ∨ (B ≤ k ∧ k < B + m)
theorem orN_lt {A : Nat → Prop} {B m : Nat} (hA : ∀ k, A k → k < B) {s : Nat} (hs : B + m ≤ s) : ∀ k, orN A B m k → k < s := by
  rintro k (hk | hk)
  · have := hA k hk; omega
  · omega
theorem PtAt.orN {W0 : World} {P : List Df} {A : Nat → Prop} {W : World} {v : Value} {d a m : Nat} {ls : List Th} (h : PtAt W0 P A W v d a ls) : PtAt W0 P (Go.Proofs.YtjamknejllbmkaaGreatDoor.orN A W.heap.size m) W v d a ls :=
  h.avoid (by rintro k (hk | hk); exact Or.inl hk; exact Or.inr hk.1)
/-- What has come of operate so far: j of its kids are numbers. -/
def opC (P : List Df) (n d : Nat) (ls : List Th) (x : Ex) (j : Nat) (m0 m1 : Int) (f : Nat) : Oc × Nat :=
  if j = 0 then (match ev P n f (kidT d ls x 0) with
    | (.num m, f1) => (match ev P n f1 (kidT d ls x 1) with
      | (.num k, f2) => (.num (prm x.num m k), f2)
      | (.con _ _, f2) => (.fail, f2)
      | r => r)
    | (.con _ _, f1) => (.fail, f1)
    | r => r)
  else if j = 1 then (match ev P n f (kidT d ls x 1) with
      | (.num k, f2) => (.num (prm x.num m0 k), f2)
      | (.con _ _, f2) => (.fail, f2)
      | r => r)
  else (.num (prm x.num m0 m1), f)
/-- operate, as it stands. -/
structure OpS (W0 : World) (gp : Option Addr) (P : List Df) (cp z : Nat) (A : Nat → Prop) (W : World) (pv : Value) (c0 c1 c2 : Value) (d a : Nat) (ls : List Th) (wr : World) (f m : Nat) (m0 m1 : Int) : Prop where
  es : Es W0 gp P cp z wr f
  kp : Ka (Zz z) W wr
  pb : Bx 77 wr W.heap.size #[c0, c1, c2]
  rb : Bx 47 wr (W.heap.size + 1) #[.int .i64 0, .int .i64 0, .slice none 0 0]
  nb : Bx 214 wr (W.heap.size + 2) #[.int .i64 m0, .int .i64 m1]
  pt : PtAt W0 P (orN A W.heap.size 3) wr pv d a ls
  n0 : -32768 ≤ m0 ∧ m0 ≤ 32767
  n1 : -32768 ≤ m1 ∧ m1 ≤ 32767

theorem st3_other {T : Nat} {W : World} {b R : Nat} {cs : Array Value} (h : Bx T W b cs) (hne : b ≠ R) (v0 v1 v2 : Value) : Bx T (st3 W R v0 v1 v2) b cs := ((h.other 0 v0 hne).other 1 v1 hne).other 2 v2 hne
/-- Behind a store into a box that is newer than W. -/
theorem Es.fin {W0 : World} {gp : Option Addr} {P : List Df} {cp z f R : Nat} {W wr : World} {u0 u1 u2 : Value} (hs : Es W0 gp P cp z wr f) (hk : Ka (Zz z) W wr) (hb : Bx 47 wr R #[u0, u1, u2]) (hz : z < W.heap.size) (hR : W.heap.size ≤ R) (v0 v1 v2 : Value) :
    Bx 47 (st3 wr R v0 v1 v2) R #[v0, v1, v2] ∧ Es W0 gp P cp z (st3 wr R v0 v1 v2) f ∧ Ka (Zz z) W (st3 wr R v0 v1 v2) := by
  have hne : z ≠ R := by omega
  have k2 : Below R wr (st3 wr R v0 v1 v2) := below_st3 (Below.refl _ _) (Nat.le_refl _) _ _ _
  refine ⟨hb.st3 _ _ _, ⟨hs.prg, hs.low.trans (k2.mono (by have := hs.z0; omega)), hs.z0, st3_other hs.box hne _ _ _, hs.lw⟩, ?_⟩
  exact ⟨k2.os.trans hk.os, k2.tape.trans hk.tape, k2.output.trans hk.output, Nat.le_trans hk.size k2.size, fun k hk' ha => (k2.block k (by omega)).trans (hk.block k hk' ha)⟩
theorem Es.finA {W0 : World} {gp : Option Addr} {P : List Df} {cp z f R : Nat} {W wr : World} {u0 u1 u2 : Value} (hs : Es W0 gp P cp z wr f) (hk : Ka (Zz z) W wr) (hb : Bx 47 wr R #[u0, u1, u2]) (hz : z < W.heap.size) (hR : W.heap.size ≤ R) (v0 v1 v2 : Value) (o : Obj) :
    Bx 47 ((st3 wr R v0 v1 v2).alloc o) R #[v0, v1, v2] ∧ Es W0 gp P cp z ((st3 wr R v0 v1 v2).alloc o) f ∧ Ka (Zz z) W ((st3 wr R v0 v1 v2).alloc o) := by
  obtain ⟨h1, h2, h3⟩ := Es.fin hs hk hb hz hR v0 v1 v2
  have hb := (Below.refl _ (st3 wr R v0 v1 v2)).alloc (Nat.le_refl _) o
  exact ⟨h1.alloc o, h2.next hb, h3.next (Ka.of_below hb)⟩

set_option maxHeartbeats 8000000 in
set_option maxRecDepth 100000 in
theorem operate_of {W0 : World} {gp : Option Addr} {P : List Df} {cp z n : Nat} (hEv : EvSaid W0 gp P cp z n) (f : Nat) (A : Nat → Prop) (W : World) (pv : Value) (d a : Nat) (ls : List Th) (x : Ex) (hf : f ≤ n) (hs : Es W0 gp P cp z W f) (hz : A z) (hA : ∀ k, A k → k < W.heap.size)
    (hx : Pd1 P d a ls x) (hwf : Wf P (.prt d a ls)) (hp : PtAt W0 P A W pv d a ls) (hk : x.kind = 4) :
    Calls Tryz.prog 139 #[pv, .pointer (some ⟨z, 0, none⟩), .int .i64 x.num] W fun e W' => EvQ W0 gp P cp z A W (opC P n d ls x 0 0 0 f) e W' := by
  have HX : Hid (Pd1 P d a ls x ∧ pmay P = true) := ⟨hx, hs.prg.may⟩
  have HS := hid hs
  have HA : Hid (A z ∧ (∀ k, A k → k < W.heap.size) ∧ f ≤ n) := ⟨hz, hA, hf⟩
  have HP := hid hp
  obtain ⟨gb, nb, cb, gl, cl, rfl⟩ := hp.val
  have HK : Hid (x.kids.length = 2 ∧ (0 ≤ x.num ∧ x.num ≤ 4) ∧ ∀ i : Int, x.bd i = 0) := by
    have := ok_kind hx.ok
    exact ⟨by omega, by omega, bd_none (by omega) (by omega)⟩
  obtain ⟨op, hop⟩ : ∃ op, x.num = op := ⟨_, rfl⟩
  obtain ⟨r0, hr0⟩ : ∃ r, opC P n d ls x 0 0 0 f = r := ⟨_, rfl⟩
  rw [hop, hr0]
  have HOP := hid hop
  have HR0 := hid hr0
  have HEv := hid hEv
  clear hx hs hz hA hf hp hk hop hr0 hwf hEv
  go_enter Tryz.func139, Tryz.ntmps139
  go_wp2_with fail
  have h0 : OpS W0 gp P cp z A W (prtV (.slice gb nb cb) a (.slice gl ls.length cl)) (.slice gb nb cb) (.int .i64 (a : Int)) (.slice gl ls.length cl) d a ls (((W.alloc (Obj.cells #[.slice gb nb cb, .int .i64 (a : Int), .slice gl ls.length cl] 77)).alloc (Obj.cells #[.int .i64 0, .int .i64 0, .slice none 0 0] 47)).alloc (Obj.cells #[.int .i64 0, .int .i64 0] 214)) f 0 0 0 := by
    have b1 : Below W.heap.size W (((W.alloc (Obj.cells #[.slice gb nb cb, .int .i64 (a : Int), .slice gl ls.length cl] 77)).alloc (Obj.cells #[.int .i64 0, .int .i64 0, .slice none 0 0] 47)).alloc (Obj.cells #[.int .i64 0, .int .i64 0] 214)) := (((Below.refl _ W).alloc (Nat.le_refl _) _).alloc (by simp) _).alloc (by simp; omega) _
    have c1 := Bx.new 47 (W.alloc (Obj.cells #[.slice gb nb cb, .int .i64 (a : Int), .slice gl ls.length cl] 77)) #[.int .i64 0, .int .i64 0, .slice none 0 0]
    have c2 := Bx.new 214 ((W.alloc (Obj.cells #[.slice gb nb cb, .int .i64 (a : Int), .slice gl ls.length cl] 77)).alloc (Obj.cells #[.int .i64 0, .int .i64 0, .slice none 0 0] 47)) #[.int .i64 0, .int .i64 0]
    rw [World.size_alloc] at c1
    rw [World.size_alloc, World.size_alloc] at c2
    exact ⟨HS.out.next b1, Ka.of_below b1, ((Bx.new 77 W _).alloc _).alloc _, c1.alloc _, c2, HP.out.orN.kp (Ka.of_below b1), by omega, by omega⟩
  have H0 := hid h0
  clear h0
  go_loopw [9, 10, 11, 14] (fun _ _ _ s14 wr => ∃ (j f1 : Nat) (m0 m1 : Int), j ≤ 2 ∧ s14 = .int .i64 (j : Int) ∧ Hid (OpS W0 gp P cp z A W (prtV (.slice gb nb cb) a (.slice gl ls.length cl)) (.slice gb nb cb) (.int .i64 (a : Int)) (.slice gl ls.length cl) d a ls wr f1 0 m0 m1) ∧ Hid (f1 ≤ n ∧ opC P n d ls x j m0 m1 f1 = r0)) (fun _ _ _ i _ => 2 - (intOf i).toNat)
  case atStart => exact ⟨0, f, 0, 0, by omega, rfl, H0, HA.out.2.2, HR0.out⟩
  case round =>
    clear H0
    obtain ⟨j, f1, m0, m1, hj, rfl, HO, HF⟩ := hrel
    have ej : j = 0 ∨ j = 1 ∨ j = 2 := by omega
    have p0 := HO.out.pb.cell 0 _ rfl
    have p1 := HO.out.pb.cell 1 _ rfl
    have p2 := HO.out.pb.cell 2 _ rfl
    have pl := HO.out.pb.lt
    rcases ej with rfl | rfl | rfl
    · have HC : Hid (Calls Tryz.prog 141 #[prtV (.slice gb nb cb) a (.slice gl ls.length cl), .int .i64 0, .slice none 0 0] wr fun e w' => ∃ v, e = .returned v ∧ PtAt W0 P (orN A W.heap.size 3) w' v d (x.kids[0]?.getD 0).toNat ls ∧ Below wr.heap.size wr w') :=
        kid_one (i := 0) HO.out.es (orN_lt HA.out.2.1 (by have := HO.out.nb.lt; omega)) HX.out.1 (by have := HK.out.1; omega) HO.out.pt
      go_wp2_with fail
      refine HC.out.mono ?_
      rintro e w2 ⟨v, rfl, hp2, hb2⟩
      have HEV : Hid (Calls Tryz.prog 137 #[v, .pointer (some ⟨z, 0, none⟩)] w2 fun e W' => EvQ W0 gp P cp z (orN A W.heap.size 3) w2 (ev P n f1 (kidT d ls x 0)) e W') :=
        kid_ev HEv.out HF.out.1 HO.out.es (Or.inl HA.out.1) (orN_lt HA.out.2.1 (by have := HO.out.nb.lt; omega)) HX.out.1 (by have := HK.out.1; omega) (HK.out.2.2 _) hp2 hb2
      have HW2 : Hid (Below wr.heap.size wr w2) := hb2
      obtain ⟨gv, nv, cv, lv, kv, rfl⟩ := hp2.val
      clear hp2 hb2 HC p0 p1 p2 pl
      go_wp2_with fail
      refine HEV.out.mono ?_
      rintro e w3 ⟨v, rfl, ho3, hs3, hk3⟩
      have hwf := ev_wf HX.out.2 n f1 (kidT d ls x 0) (HX.out.1.kidW (by have := HK.out.1; omega) (HK.out.2.2 _))
      obtain ⟨⟨o, f2⟩, hr⟩ : ∃ r, ev P n f1 (kidT d ls x 0) = r := ⟨_, rfl⟩
      rw [hr] at ho3 hs3 hwf
      have HR : Hid (ev P n f1 (kidT d ls x 0) = (o, f2)) := hr
      have HWF := hid hwf
      have HK3 : Hid (Ka (Zz z) wr w3) := (Ka.of_below HW2.out).next hk3
      rw [hr]
      clear hr hwf hk3
      have hout : OpS W0 gp P cp z A W (prtV (.slice gb nb cb) a (.slice gl ls.length cl)) (.slice gb nb cb) (.int .i64 (a : Int)) (.slice gl ls.length cl) d a ls w3 f2 0 m0 m1 := by
        have hne : ∀ b, W.heap.size ≤ b → ¬ Zz z b := fun b hb e => by have := HA.out.2.1 z HA.out.1; have e' : b = z := e; omega
        exact ⟨hs3, HO.out.kp.next HK3.out, HO.out.pb.kp HK3.out (hne _ (by omega)), HO.out.rb.kp HK3.out (hne _ (by omega)), HO.out.nb.kp HK3.out (hne _ (by omega)), HO.out.pt.kp (HK3.out.mono fun k _ hk => by have e : k = z := hk; subst e; exact Or.inl HA.out.1), HO.out.n0, HO.out.n1⟩
      have HO3 := hid hout
      obtain ⟨kd, nm, gk, mk, ck, hv⟩ := ho3.val
      have HOC := hid ho3
      subst hv
      obtain ⟨rl, ⟨r0', r1', r2'⟩, g0, g1, g2⟩ := cels3 hout.rb
      have n0 := hout.nb.cell 0 _ rfl
      have nf := hout.nb.frozen 0
      have nl := hout.nb.lt
      clear hs3 ho3 hout HEV HK3 HW2
      cases o with
      | fuel =>
        have e1 : erO .fuel = 901 := rfl
        rw [e1]
        go_wp2_with fail
        refine grabB (fun W9 => Bx 47 W9 (W.heap.size + 1) #[.int .i64 0, .int .i64 0, .slice none 0 0] ∧ Es W0 gp P cp z W9 f2 ∧ Ka (Zz z) W W9) (Es.finA HO3.out.es HO3.out.kp HO3.out.rb (HA.out.2.1 z HA.out.1) (by omega) _ _ _ _) (fun W9 h9 => ?_)
        obtain ⟨ql, ⟨q0, q1, q2⟩, _⟩ := cels3 h9.1
        refine bodyPost_ret (v := .tuple #[.agg #[.int .i64 0, .int .i64 0, .slice none 0 0], .int .i64 901]) (by simp [results, Tryz.results139, go_sem, q0, q1, q2]) rfl ?_
        have er : (.fuel, f2) = r0 := by rw [← HF.out.2]; unfold opC; rw [if_pos rfl, HR.out]
        rw [← er]
        exact ⟨_, rfl, rfl, h9.2.1, h9.2.2⟩
      | hole =>
        have e1 : erO .hole = 902 := rfl
        rw [e1]
        go_wp2_with fail
        refine grabB (fun W9 => Bx 47 W9 (W.heap.size + 1) #[.int .i64 0, .int .i64 0, .slice none 0 0] ∧ Es W0 gp P cp z W9 f2 ∧ Ka (Zz z) W W9) (Es.finA HO3.out.es HO3.out.kp HO3.out.rb (HA.out.2.1 z HA.out.1) (by omega) _ _ _ _) (fun W9 h9 => ?_)
        obtain ⟨ql, ⟨q0, q1, q2⟩, _⟩ := cels3 h9.1
        refine bodyPost_ret (v := .tuple #[.agg #[.int .i64 0, .int .i64 0, .slice none 0 0], .int .i64 902]) (by simp [results, Tryz.results139, go_sem, q0, q1, q2]) rfl ?_
        have er : (.hole, f2) = r0 := by rw [← HF.out.2]; unfold opC; rw [if_pos rfl, HR.out]
        rw [← er]
        exact ⟨_, rfl, rfl, h9.2.1, h9.2.2⟩
      | fail =>
        obtain ⟨lv', ev', hl'⟩ := HOC.out
        obtain ⟨rfl, rfl⟩ : kd = 3 ∧ nm = 0 := by have h := ev'; simp only [Value.agg.injEq] at h; simp at h; exact ⟨h.1, h.2.1⟩
        have e1 : erO .fail = 0 := rfl
        rw [e1]
        clear ev' hl'
        go_wp2_with fail
        refine grabB (fun W9 => Bx 47 W9 (W.heap.size + 1) #[.int .i64 3, .int .i64 0, .slice none 0 0] ∧ Es W0 gp P cp z W9 f2 ∧ Ka (Zz z) W W9) (Es.finA HO3.out.es HO3.out.kp HO3.out.rb (HA.out.2.1 z HA.out.1) (by omega) _ _ _ _) (fun W9 h9 => ?_)
        obtain ⟨ql, ⟨q0, q1, q2⟩, _⟩ := cels3 h9.1
        refine bodyPost_ret (v := .tuple #[.agg #[.int .i64 3, .int .i64 0, .slice none 0 0], .int .i64 0]) (by simp [results, Tryz.results139, go_sem, q0, q1, q2]) rfl ?_
        have er : (.fail, f2) = r0 := by rw [← HF.out.2]; unfold opC; rw [if_pos rfl, HR.out]
        rw [← er]
        exact ⟨_, rfl, ⟨_, rfl, LsAt.nil _ _ _ _⟩, h9.2.1, h9.2.2⟩
      | con c ps =>
        obtain ⟨lv', ev', hl'⟩ := HOC.out
        obtain ⟨rfl, rfl⟩ : kd = 2 ∧ nm = c := by have h := ev'; simp only [Value.agg.injEq] at h; simp at h; exact ⟨h.1, h.2.1⟩
        have e1 : erO (.con nm ps) = 0 := rfl
        rw [e1]
        clear ev' hl'
        go_wp2_with fail
        refine grabB (fun W9 => Bx 47 W9 (W.heap.size + 1) #[.int .i64 3, .int .i64 0, .slice none 0 0] ∧ Es W0 gp P cp z W9 f2 ∧ Ka (Zz z) W W9) (Es.finA HO3.out.es HO3.out.kp HO3.out.rb (HA.out.2.1 z HA.out.1) (by omega) _ _ _ _) (fun W9 h9 => ?_)
        obtain ⟨ql, ⟨q0, q1, q2⟩, _⟩ := cels3 h9.1
        refine bodyPost_ret (v := .tuple #[.agg #[.int .i64 3, .int .i64 0, .slice none 0 0], .int .i64 0]) (by simp [results, Tryz.results139, go_sem, q0, q1, q2]) rfl ?_
        have er : (.fail, f2) = r0 := by rw [← HF.out.2]; unfold opC; rw [if_pos rfl, HR.out]
        rw [← er]
        exact ⟨_, rfl, ⟨_, rfl, LsAt.nil _ _ _ _⟩, h9.2.1, h9.2.2⟩
      | num m =>
        obtain ⟨lv', ev', hl'⟩ := HOC.out
        obtain ⟨rfl, rfl⟩ : kd = 1 ∧ nm = m := by have h := ev'; simp only [Value.agg.injEq] at h; simp at h; exact ⟨h.1, h.2.1⟩
        have e1 : erO (.num nm) = 0 := rfl
        rw [e1]
        clear ev' hl'
        go_wp2_with fail
        have HN : Hid (OpS W0 gp P cp z A W (prtV (.slice gb nb cb) a (.slice gl ls.length cl)) (.slice gb nb cb) (.int .i64 (a : Int)) (.slice gl ls.length cl) d a ls ((w3.setCell ⟨W.heap.size + 2, 0, none⟩ (.int .i64 nm)).alloc (Obj.cells #[.int .i64 1, .int .i64 nm, .slice gk mk ck] 47)) f2 0 nm m1) := by
          have hzz := HA.out.2.1 z HA.out.1
          have kb : Below (W.heap.size + 2) w3 (w3.setCell ⟨W.heap.size + 2, 0, none⟩ (.int .i64 nm)) := below_set (Below.refl _ _) (Nat.le_refl _) _ _
          have ka : Below w3.heap.size (w3.setCell ⟨W.heap.size + 2, 0, none⟩ (.int .i64 nm)) ((w3.setCell ⟨W.heap.size + 2, 0, none⟩ (.int .i64 nm)).alloc (Obj.cells #[.int .i64 1, .int .i64 nm, .slice gk mk ck] 47)) := (Below.refl _ _).alloc (by simp) _
          have kk : Below W.heap.size w3 ((w3.setCell ⟨W.heap.size + 2, 0, none⟩ (.int .i64 nm)).alloc (Obj.cells #[.int .i64 1, .int .i64 nm, .slice gk mk ck] 47)) := (kb.mono (by omega)).trans (ka.mono HO3.out.kp.size)
          have es' := HO3.out.es
          refine ⟨⟨es'.prg, es'.low.trans (kk.mono HS.out.low.size), es'.z0, es'.box.on kk hzz, es'.lw⟩, ?_, ?_, ?_, ?_, ?_, HWF.out.1, HO3.out.n1⟩
          · have hk := HO3.out.kp
            exact ⟨kk.os.trans hk.os, kk.tape.trans hk.tape, kk.output.trans hk.output, Nat.le_trans hk.size kk.size, fun k h1 h2 => (kk.block k h1).trans (hk.block k h1 h2)⟩
          · exact (HO3.out.pb.other _ _ (by omega)).alloc _
          · exact (HO3.out.rb.other _ _ (by omega)).alloc _
          · exact (HO3.out.nb.set 0 _).alloc _
          · exact (HO3.out.pt.kp (Ka.of_grown (grown_set w3 (W.heap.size + 2) 0 _) (fun k e => by have := Option.some.inj e; right; omega))).kp (Ka.of_below ((Below.refl _ _).alloc (Nat.le_refl _) _))
        have HF2 : Hid (f2 ≤ n ∧ opC P n d ls x 1 nm m1 f2 = r0) := by
          refine ⟨Nat.le_trans HWF.out.2 HF.out.1, ?_⟩
          rw [← HF.out.2]
          unfold opC; rw [if_neg (by omega), if_pos rfl, if_pos rfl, HR.out]
        go_roundw
        case rel => exact ⟨1, f2, nm, m1, by omega, by go_num, HN, HF2⟩
        case measure => simp [intOf]
    · have HC : Hid (Calls Tryz.prog 141 #[prtV (.slice gb nb cb) a (.slice gl ls.length cl), .int .i64 1, .slice none 0 0] wr fun e w' => ∃ v, e = .returned v ∧ PtAt W0 P (orN A W.heap.size 3) w' v d (x.kids[1]?.getD 0).toNat ls ∧ Below wr.heap.size wr w') :=
        kid_one (i := 1) HO.out.es (orN_lt HA.out.2.1 (by have := HO.out.nb.lt; omega)) HX.out.1 (by have := HK.out.1; omega) HO.out.pt
      go_wp2_with fail
      refine HC.out.mono ?_
      rintro e w2 ⟨v, rfl, hp2, hb2⟩
      have HEV : Hid (Calls Tryz.prog 137 #[v, .pointer (some ⟨z, 0, none⟩)] w2 fun e W' => EvQ W0 gp P cp z (orN A W.heap.size 3) w2 (ev P n f1 (kidT d ls x 1)) e W') :=
        kid_ev HEv.out HF.out.1 HO.out.es (Or.inl HA.out.1) (orN_lt HA.out.2.1 (by have := HO.out.nb.lt; omega)) HX.out.1 (by have := HK.out.1; omega) (HK.out.2.2 _) hp2 hb2
      have HW2 : Hid (Below wr.heap.size wr w2) := hb2
      obtain ⟨gv, nv, cv, lv, kv, rfl⟩ := hp2.val
      clear hp2 hb2 HC p0 p1 p2 pl
      go_wp2_with fail
      refine HEV.out.mono ?_
      rintro e w3 ⟨v, rfl, ho3, hs3, hk3⟩
      have hwf := ev_wf HX.out.2 n f1 (kidT d ls x 1) (HX.out.1.kidW (by have := HK.out.1; omega) (HK.out.2.2 _))
      obtain ⟨⟨o, f2⟩, hr⟩ : ∃ r, ev P n f1 (kidT d ls x 1) = r := ⟨_, rfl⟩
      rw [hr] at ho3 hs3 hwf
      have HR : Hid (ev P n f1 (kidT d ls x 1) = (o, f2)) := hr
      have HWF := hid hwf
      have HK3 : Hid (Ka (Zz z) wr w3) := (Ka.of_below HW2.out).next hk3
      rw [hr]
      clear hr hwf hk3
      have hout : OpS W0 gp P cp z A W (prtV (.slice gb nb cb) a (.slice gl ls.length cl)) (.slice gb nb cb) (.int .i64 (a : Int)) (.slice gl ls.length cl) d a ls w3 f2 0 m0 m1 := by
        have hne : ∀ b, W.heap.size ≤ b → ¬ Zz z b := fun b hb e => by have := HA.out.2.1 z HA.out.1; have e' : b = z := e; omega
        exact ⟨hs3, HO.out.kp.next HK3.out, HO.out.pb.kp HK3.out (hne _ (by omega)), HO.out.rb.kp HK3.out (hne _ (by omega)), HO.out.nb.kp HK3.out (hne _ (by omega)), HO.out.pt.kp (HK3.out.mono fun k _ hk => by have e : k = z := hk; subst e; exact Or.inl HA.out.1), HO.out.n0, HO.out.n1⟩
      have HO3 := hid hout
      obtain ⟨kd, nm, gk, mk, ck, hv⟩ := ho3.val
      have HOC := hid ho3
      subst hv
      obtain ⟨rl, ⟨r0', r1', r2'⟩, g0, g1, g2⟩ := cels3 hout.rb
      have n0 := hout.nb.cell 1 _ rfl
      have nf := hout.nb.frozen 1
      have nl := hout.nb.lt
      clear hs3 ho3 hout HEV HK3 HW2
      cases o with
      | fuel =>
        have e1 : erO .fuel = 901 := rfl
        rw [e1]
        go_wp2_with fail
        refine grabB (fun W9 => Bx 47 W9 (W.heap.size + 1) #[.int .i64 0, .int .i64 0, .slice none 0 0] ∧ Es W0 gp P cp z W9 f2 ∧ Ka (Zz z) W W9) (Es.finA HO3.out.es HO3.out.kp HO3.out.rb (HA.out.2.1 z HA.out.1) (by omega) _ _ _ _) (fun W9 h9 => ?_)
        obtain ⟨ql, ⟨q0, q1, q2⟩, _⟩ := cels3 h9.1
        refine bodyPost_ret (v := .tuple #[.agg #[.int .i64 0, .int .i64 0, .slice none 0 0], .int .i64 901]) (by simp [results, Tryz.results139, go_sem, q0, q1, q2]) rfl ?_
        have er : (.fuel, f2) = r0 := by rw [← HF.out.2]; unfold opC; rw [if_neg (by omega), if_pos rfl, HR.out]
        rw [← er]
        exact ⟨_, rfl, rfl, h9.2.1, h9.2.2⟩
      | hole =>
        have e1 : erO .hole = 902 := rfl
        rw [e1]
        go_wp2_with fail
        refine grabB (fun W9 => Bx 47 W9 (W.heap.size + 1) #[.int .i64 0, .int .i64 0, .slice none 0 0] ∧ Es W0 gp P cp z W9 f2 ∧ Ka (Zz z) W W9) (Es.finA HO3.out.es HO3.out.kp HO3.out.rb (HA.out.2.1 z HA.out.1) (by omega) _ _ _ _) (fun W9 h9 => ?_)
        obtain ⟨ql, ⟨q0, q1, q2⟩, _⟩ := cels3 h9.1
        refine bodyPost_ret (v := .tuple #[.agg #[.int .i64 0, .int .i64 0, .slice none 0 0], .int .i64 902]) (by simp [results, Tryz.results139, go_sem, q0, q1, q2]) rfl ?_
        have er : (.hole, f2) = r0 := by rw [← HF.out.2]; unfold opC; rw [if_neg (by omega), if_pos rfl, HR.out]
        rw [← er]
        exact ⟨_, rfl, rfl, h9.2.1, h9.2.2⟩
      | fail =>
        obtain ⟨lv', ev', hl'⟩ := HOC.out
        obtain ⟨rfl, rfl⟩ : kd = 3 ∧ nm = 0 := by have h := ev'; simp only [Value.agg.injEq] at h; simp at h; exact ⟨h.1, h.2.1⟩
        have e1 : erO .fail = 0 := rfl
        rw [e1]
        clear ev' hl'
        go_wp2_with fail
        refine grabB (fun W9 => Bx 47 W9 (W.heap.size + 1) #[.int .i64 3, .int .i64 0, .slice none 0 0] ∧ Es W0 gp P cp z W9 f2 ∧ Ka (Zz z) W W9) (Es.finA HO3.out.es HO3.out.kp HO3.out.rb (HA.out.2.1 z HA.out.1) (by omega) _ _ _ _) (fun W9 h9 => ?_)
        obtain ⟨ql, ⟨q0, q1, q2⟩, _⟩ := cels3 h9.1
        refine bodyPost_ret (v := .tuple #[.agg #[.int .i64 3, .int .i64 0, .slice none 0 0], .int .i64 0]) (by simp [results, Tryz.results139, go_sem, q0, q1, q2]) rfl ?_
        have er : (.fail, f2) = r0 := by rw [← HF.out.2]; unfold opC; rw [if_neg (by omega), if_pos rfl, HR.out]
        rw [← er]
        exact ⟨_, rfl, ⟨_, rfl, LsAt.nil _ _ _ _⟩, h9.2.1, h9.2.2⟩
      | con c ps =>
        obtain ⟨lv', ev', hl'⟩ := HOC.out
        obtain ⟨rfl, rfl⟩ : kd = 2 ∧ nm = c := by have h := ev'; simp only [Value.agg.injEq] at h; simp at h; exact ⟨h.1, h.2.1⟩
        have e1 : erO (.con nm ps) = 0 := rfl
        rw [e1]
        clear ev' hl'
        go_wp2_with fail
        refine grabB (fun W9 => Bx 47 W9 (W.heap.size + 1) #[.int .i64 3, .int .i64 0, .slice none 0 0] ∧ Es W0 gp P cp z W9 f2 ∧ Ka (Zz z) W W9) (Es.finA HO3.out.es HO3.out.kp HO3.out.rb (HA.out.2.1 z HA.out.1) (by omega) _ _ _ _) (fun W9 h9 => ?_)
        obtain ⟨ql, ⟨q0, q1, q2⟩, _⟩ := cels3 h9.1
        refine bodyPost_ret (v := .tuple #[.agg #[.int .i64 3, .int .i64 0, .slice none 0 0], .int .i64 0]) (by simp [results, Tryz.results139, go_sem, q0, q1, q2]) rfl ?_
        have er : (.fail, f2) = r0 := by rw [← HF.out.2]; unfold opC; rw [if_neg (by omega), if_pos rfl, HR.out]
        rw [← er]
        exact ⟨_, rfl, ⟨_, rfl, LsAt.nil _ _ _ _⟩, h9.2.1, h9.2.2⟩
      | num m =>
        obtain ⟨lv', ev', hl'⟩ := HOC.out
        obtain ⟨rfl, rfl⟩ : kd = 1 ∧ nm = m := by have h := ev'; simp only [Value.agg.injEq] at h; simp at h; exact ⟨h.1, h.2.1⟩
        have e1 : erO (.num nm) = 0 := rfl
        rw [e1]
        clear ev' hl'
        go_wp2_with fail
        have HN : Hid (OpS W0 gp P cp z A W (prtV (.slice gb nb cb) a (.slice gl ls.length cl)) (.slice gb nb cb) (.int .i64 (a : Int)) (.slice gl ls.length cl) d a ls ((w3.setCell ⟨W.heap.size + 2, 1, none⟩ (.int .i64 nm)).alloc (Obj.cells #[.int .i64 1, .int .i64 nm, .slice gk mk ck] 47)) f2 0 m0 nm) := by
          have hzz := HA.out.2.1 z HA.out.1
          have kb : Below (W.heap.size + 2) w3 (w3.setCell ⟨W.heap.size + 2, 1, none⟩ (.int .i64 nm)) := below_set (Below.refl _ _) (Nat.le_refl _) _ _
          have ka : Below w3.heap.size (w3.setCell ⟨W.heap.size + 2, 1, none⟩ (.int .i64 nm)) ((w3.setCell ⟨W.heap.size + 2, 1, none⟩ (.int .i64 nm)).alloc (Obj.cells #[.int .i64 1, .int .i64 nm, .slice gk mk ck] 47)) := (Below.refl _ _).alloc (by simp) _
          have kk : Below W.heap.size w3 ((w3.setCell ⟨W.heap.size + 2, 1, none⟩ (.int .i64 nm)).alloc (Obj.cells #[.int .i64 1, .int .i64 nm, .slice gk mk ck] 47)) := (kb.mono (by omega)).trans (ka.mono HO3.out.kp.size)
          have es' := HO3.out.es
          refine ⟨⟨es'.prg, es'.low.trans (kk.mono HS.out.low.size), es'.z0, es'.box.on kk hzz, es'.lw⟩, ?_, ?_, ?_, ?_, ?_, HO3.out.n0, HWF.out.1⟩
          · have hk := HO3.out.kp
            exact ⟨kk.os.trans hk.os, kk.tape.trans hk.tape, kk.output.trans hk.output, Nat.le_trans hk.size kk.size, fun k h1 h2 => (kk.block k h1).trans (hk.block k h1 h2)⟩
          · exact (HO3.out.pb.other _ _ (by omega)).alloc _
          · exact (HO3.out.rb.other _ _ (by omega)).alloc _
          · exact (HO3.out.nb.set 1 _).alloc _
          · exact (HO3.out.pt.kp (Ka.of_grown (grown_set w3 (W.heap.size + 2) 1 _) (fun k e => by have := Option.some.inj e; right; omega))).kp (Ka.of_below ((Below.refl _ _).alloc (Nat.le_refl _) _))
        have HF2 : Hid (f2 ≤ n ∧ opC P n d ls x 2 m0 nm f2 = r0) := by
          refine ⟨Nat.le_trans HWF.out.2 HF.out.1, ?_⟩
          rw [← HF.out.2]
          unfold opC; rw [if_neg (by omega), if_neg (by omega), if_neg (by omega), if_pos rfl, HR.out]
        go_roundw
        case rel => exact ⟨2, f2, m0, nm, by omega, by go_num, HN, HF2⟩
        case measure => simp [intOf]
    · have hop : 0 ≤ op ∧ op ≤ 4 := by rw [← HOP.out]; exact HK.out.2.1
      have n0 := HO.out.nb.cell 0 _ rfl
      have n1 := HO.out.nb.cell 1 _ rfl
      have nl := HO.out.nb.lt
      obtain ⟨rl, ⟨r0', r1', r2'⟩, g0, g1, g2⟩ := cels3 HO.out.rb
      have HD : Hid (∀ w, Calls Tryz.prog 142 #[.int .i64 op, .int .i64 m0, .int .i64 m1] w fun e w' => e = .returned (.tuple #[.int .i64 (prm op m0 m1), .int .i64 0]) ∧ w' = w) := fun w => Pr.do_any op m0 m1 w hop HO.out.n0 HO.out.n1
      clear p0 p1 p2 pl hop
      go_wp2_with fail
      refine (HD.out _).mono ?_
      rintro e w3 ⟨rfl, rfl⟩
      obtain ⟨pm, hpm⟩ : ∃ pm, prm op m0 m1 = pm := ⟨_, rfl⟩
      have HPM := hid hpm
      rw [hpm]
      clear hpm HD
      go_wp2_with fail
      refine grabB (fun W9 => Bx 47 W9 (W.heap.size + 1) #[.int .i64 1, .int .i64 pm, .slice none 0 0] ∧ Es W0 gp P cp z W9 f1 ∧ Ka (Zz z) W W9) (Es.fin HO.out.es HO.out.kp HO.out.rb (HA.out.2.1 z HA.out.1) (by omega) _ _ _) (fun W9 h9 => ?_)
      obtain ⟨ql, ⟨q0, q1, q2⟩, _⟩ := cels3 h9.1
      refine bodyPost_ret (v := .tuple #[.agg #[.int .i64 1, .int .i64 pm, .slice none 0 0], .int .i64 0]) (by simp [results, Tryz.results139, go_sem, q0, q1, q2]) rfl ?_
      have er : (.num pm, f1) = r0 := by rw [← HF.out.2]; unfold opC; rw [if_neg (by omega), if_neg (by omega), HOP.out, HPM.out]
      rw [← er]
      exact ⟨_, rfl, ⟨_, rfl, LsAt.nil _ _ _ _⟩, h9.2.1, h9.2.2⟩
end Go.Proofs.YtjamknejllbmkaaGreatDoor

namespace Go.Proofs.YtjamknejllbmkaaGreatDoor
open Go.RowKit
set_option linter.unusedVariables false
attribute [local go_sem ↓] Go.wp_at_zero Go.wp_at_succ

theorem PtAt.valN {W0 : World} {P : List Df} {A : Nat → Prop} {W : World} {v : Value} {d a : Nat} {ls : List Th} (h : PtAt W0 P A W v d a ls) : ∃ gb nb cb gl ml cl, v = prtV (.slice gb nb cb) a (.slice gl ml cl) := by
  obtain ⟨gb, nb, cb, gl, cl, e⟩ := h.val
  exact ⟨gb, nb, cb, gl, _, cl, e⟩
theorem OcV.avoid {W0 : World} {P : List Df} {A B : Nat → Prop} {W : World} {o : Oc} {v : Value} (h : OcV W0 P A W o v) (hab : ∀ k, B k → A k ∨ W.heap.size ≤ k) : OcV W0 P B W o v := by
  cases o with
  | num m => obtain ⟨lv, e, h⟩ := h; exact ⟨lv, e, h.avoid hab⟩
  | con c ps => obtain ⟨lv, e, h⟩ := h; exact ⟨lv, e, h.avoid hab⟩
  | fail => obtain ⟨lv, e, h⟩ := h; exact ⟨lv, e, h.avoid hab⟩
  | fuel => exact h
  | hole => exact h
/-- A store into one of the boxes that are avoided. -/
theorem Ka.st3N {A : Nat → Prop} {B m R : Nat} (W : World) (h1 : B ≤ R) (h2 : R < B + m) (v0 v1 v2 : Value) : Ka (orN A B m) W (Go.Proofs.YtjamknejllbmkaaGreatDoor.st3 W R v0 v1 v2) :=
  (Ka.st3 (A := A) W R v0 v1 v2).mono fun k _ hk => by
    rcases hk with hk | hk
    · exact Or.inl hk
    · right; omega
theorem OcV.st3 {W0 : World} {P : List Df} {A : Nat → Prop} {W : World} {o : Oc} {v : Value} {B m R : Nat} (h : OcV W0 P (orN A B m) W o v) (h1 : B ≤ R) (h2 : R < B + m) (v0 v1 v2 : Value) : OcV W0 P A (Go.Proofs.YtjamknejllbmkaaGreatDoor.st3 W R v0 v1 v2) o v :=
  (h.kp (Ka.st3N W h1 h2 v0 v1 v2)).avoid fun k hk => Or.inl (Or.inl hk)
theorem OcV.next {W0 : World} {P : List Df} {A : Nat → Prop} {W W' : World} {o : Oc} {v : Value} (h : OcV W0 P A W o v) (hb : Below W.heap.size W W') : OcV W0 P A W' o v := h.kp (Ka.of_below hb)
/-- choose, in plain words. -/
def chC (P : List Df) (n d : Nat) (ls : List Th) (x : Ex) (f : Nat) : Oc × Nat := match ev P n f (kidT d ls x 0) with
  | (.num _, f1) => ev P n f1 (kidT d ls x 2)
  | (.con c ps, f1) => if c = x.num ∧ (ps.length : Int) = x.bind then ev P n f1 (.prt d (x.kids[1]?.getD 0).toNat (ls ++ ps)) else ev P n f1 (kidT d ls x 2)
  | r => r
/-- choose and evaluate, as they stand: a part's box at W's size, the results' box behind it. -/
structure ChS (W0 : World) (gp : Option Addr) (P : List Df) (cp z : Nat) (A : Nat → Prop) (W : World) (pv : Value) (c0 c1 c2 : Value) (d a m : Nat) (ls : List Th) (wr : World) (f : Nat) : Prop where
  es : Es W0 gp P cp z wr f
  kp : Ka (Zz z) W wr
  pb : Bx 77 wr W.heap.size #[c0, c1, c2]
  rb : Bx 47 wr (W.heap.size + 1) #[.int .i64 0, .int .i64 0, .slice none 0 0]
  pt : PtAt W0 P (orN A W.heap.size m) wr pv d a ls
theorem ChS.next {W0 : World} {gp : Option Addr} {P : List Df} {cp z : Nat} {A : Nat → Prop} {W : World} {pv c0 c1 c2 : Value} {d a m : Nat} {ls : List Th} {wr w' : World} {f : Nat} (h : ChS W0 gp P cp z A W pv c0 c1 c2 d a m ls wr f) (hb : Below wr.heap.size wr w') : ChS W0 gp P cp z A W pv c0 c1 c2 d a m ls w' f :=
  ⟨h.es.next hb, h.kp.next (Ka.of_below hb), h.pb.next hb, h.rb.next hb, h.pt.kp (Ka.of_below hb)⟩
theorem ChS.call {W0 : World} {gp : Option Addr} {P : List Df} {cp z : Nat} {A : Nat → Prop} {W : World} {pv c0 c1 c2 : Value} {d a m : Nat} {ls : List Th} {wr w' : World} {f f' : Nat} (h : ChS W0 gp P cp z A W pv c0 c1 c2 d a m ls wr f) (hz : A z) (hzW : z < W.heap.size) (hk : Ka (Zz z) wr w') (hs : Es W0 gp P cp z w' f') : ChS W0 gp P cp z A W pv c0 c1 c2 d a m ls w' f' := by
  have hne : ∀ b, W.heap.size ≤ b → ¬ Zz z b := fun b hb e => by have e' : b = z := e; omega
  exact ⟨hs, h.kp.next hk, h.pb.kp hk (hne _ (Nat.le_refl _)), h.rb.kp hk (hne _ (by omega)), h.pt.kp (hk.mono fun k _ hk => by have e : k = z := hk; subst e; exact Or.inl hz)⟩

set_option maxHeartbeats 8000000 in
set_option maxRecDepth 100000 in
theorem choose_of {W0 : World} {gp : Option Addr} {P : List Df} {cp z n : Nat} (hEv : EvSaid W0 gp P cp z n) (f : Nat) (A : Nat → Prop) (W : World) (pv : Value) (d a : Nat) (ls : List Th) (x : Ex) (hf : f ≤ n) (hs : Es W0 gp P cp z W f) (hz : A z) (hA : ∀ k, A k → k < W.heap.size)
    (hx : Pd1 P d a ls x) (hp : PtAt W0 P A W pv d a ls) (hk : x.kind = 5) :
    Calls Tryz.prog 140 #[pv, .pointer (some ⟨z, 0, none⟩), .int .i64 x.num, .int .i64 x.bind] W fun e W' => EvQ W0 gp P cp z A W (chC P n d ls x f) e W' := by
  have HX : Hid (Pd1 P d a ls x ∧ pmay P = true) := ⟨hx, hs.prg.may⟩
  have HS := hid hs
  have HA : Hid (A z ∧ (∀ k, A k → k < W.heap.size) ∧ f ≤ n) := ⟨hz, hA, hf⟩
  have HP := hid hp
  obtain ⟨gb, nb, cb, gl, cl, rfl⟩ := hp.val
  have HK : Hid (x.kids.length = 3 ∧ (x.bd 0 = 0 ∧ x.bd 1 = x.bind ∧ x.bd 2 = 0) ∧ 0 ≤ x.bind ∧ x.bind ≤ 3) := by
    have := ok_kind hx.ok
    exact ⟨by omega, ⟨bd_ne (by omega), bd_five hk, bd_ne (by omega)⟩, by omega, by omega⟩
  obtain ⟨tg, htg⟩ : ∃ tg, x.num = tg := ⟨_, rfl⟩
  obtain ⟨bn, hbn⟩ : ∃ bn, x.bind = bn := ⟨_, rfl⟩
  obtain ⟨r0, hr0⟩ : ∃ r, chC P n d ls x f = r := ⟨_, rfl⟩
  rw [htg, hbn, hr0]
  have HTB : Hid (x.num = tg ∧ x.bind = bn) := ⟨htg, hbn⟩
  have HR0 := hid hr0
  have HEv := hid hEv
  clear hx hs hz hA hf hp hk htg hbn hr0 hEv
  go_enter Tryz.func140, Tryz.ntmps140
  go_wp2_with fail
  refine grabK (fun wr => ChS W0 gp P cp z A W (prtV (.slice gb nb cb) a (.slice gl ls.length cl)) (.slice gb nb cb) (.int .i64 (a : Int)) (.slice gl ls.length cl) d a 2 ls wr f) ?_ (fun wr hC => ?_)
  · have b1 : Below W.heap.size W ((W.alloc (Obj.cells #[.slice gb nb cb, .int .i64 (a : Int), .slice gl ls.length cl] 77)).alloc (Obj.cells #[.int .i64 0, .int .i64 0, .slice none 0 0] 47)) := ((Below.refl _ W).alloc (Nat.le_refl _) _).alloc (by simp) _
    have c1 := Bx.new 47 (W.alloc (Obj.cells #[.slice gb nb cb, .int .i64 (a : Int), .slice gl ls.length cl] 77)) #[.int .i64 0, .int .i64 0, .slice none 0 0]
    rw [World.size_alloc] at c1
    exact ⟨HS.out.next b1, Ka.of_below b1, (Bx.new 77 W _).alloc _, c1, HP.out.orN.kp (Ka.of_below b1)⟩
  have HC := hid hC
  have HK1 : Hid (Calls Tryz.prog 141 #[prtV (.slice gb nb cb) a (.slice gl ls.length cl), .int .i64 0, .slice none 0 0] wr fun e w' => ∃ v, e = .returned v ∧ PtAt W0 P (orN A W.heap.size 2) w' v d (x.kids[0]?.getD 0).toNat ls ∧ Below wr.heap.size wr w') :=
    kid_one (i := 0) HC.out.es (orN_lt HA.out.2.1 (by have := HC.out.rb.lt; omega)) HX.out.1 (by have := HK.out.1; omega) HC.out.pt
  clear hC
  refine HK1.out.mono ?_
  rintro e w2 ⟨v, rfl, hp2, hb2⟩
  have HEV : Hid (Calls Tryz.prog 137 #[v, .pointer (some ⟨z, 0, none⟩)] w2 fun e W' => EvQ W0 gp P cp z (orN A W.heap.size 2) w2 (ev P n f (kidT d ls x 0)) e W') :=
    kid_ev HEv.out HA.out.2.2 HC.out.es (Or.inl HA.out.1) (orN_lt HA.out.2.1 (by have := HC.out.rb.lt; omega)) HX.out.1 (by have := HK.out.1; omega) HK.out.2.1.1 hp2 hb2
  have HW2 : Hid (Below wr.heap.size wr w2) := hb2
  obtain ⟨gv, nv, cv, lv, kv, rfl⟩ := hp2.val
  clear hp2 hb2 HK1
  go_wp2_with fail
  refine HEV.out.mono ?_
  rintro e w3 ⟨v, rfl, ho3, hs3, hk3⟩
  have hwf := ev_wf HX.out.2 n f (kidT d ls x 0) (HX.out.1.kidW (by have := HK.out.1; omega) HK.out.2.1.1)
  obtain ⟨⟨o, f1⟩, hr⟩ : ∃ r, ev P n f (kidT d ls x 0) = r := ⟨_, rfl⟩
  rw [hr] at ho3 hs3 hwf
  have HR : Hid (ev P n f (kidT d ls x 0) = (o, f1)) := hr
  have HWF := hid hwf
  rw [hr]
  have HC3 : Hid (ChS W0 gp P cp z A W (prtV (.slice gb nb cb) a (.slice gl ls.length cl)) (.slice gb nb cb) (.int .i64 (a : Int)) (.slice gl ls.length cl) d a 2 ls w3 f1) :=
    HC.out.call HA.out.1 (HA.out.2.1 z HA.out.1) ((Ka.of_below HW2.out).next hk3) hs3
  obtain ⟨kd, nm, gk, mk, ck, hv⟩ := ho3.val
  have HOC := hid ho3
  subst hv
  have HF1 : Hid (f1 ≤ n) := Nat.le_trans HWF.out.2 HA.out.2.2
  clear hr hwf hk3 hs3 ho3 HEV HW2 HC
  cases o with
  | fuel =>
    obtain ⟨rfl, rfl, rfl, rfl, rfl⟩ : kd = 0 ∧ nm = 0 ∧ gk = none ∧ mk = 0 ∧ ck = 0 := by
      have h := HOC.out
      unfold OcV at h
      simp only [Value.agg.injEq] at h; simp at h; exact ⟨h.1, h.2.1, h.2.2.1, h.2.2.2.1, h.2.2.2.2⟩
    have er : (.fuel, f1) = r0 := by rw [← HR0.out]; unfold chC; rw [HR.out]
    have e1 : erO .fuel = 901 := rfl
    rw [e1]
    obtain ⟨rl, ⟨r0', r1', r2'⟩, g0, g1, g2⟩ := cels3 HC3.out.rb
    go_wp2_with fail
    refine grabB (fun W9 => Bx 47 W9 (W.heap.size + 1) #[.int .i64 0, .int .i64 0, .slice none 0 0] ∧ Es W0 gp P cp z W9 f1 ∧ Ka (Zz z) W W9 ∧ OcV W0 P A W9 .fuel (vV 0 0 (.slice none 0 0))) ?_ (fun W9 h9 => ?_)
    · obtain ⟨q1, q2, q3⟩ := Es.finA HC3.out.es HC3.out.kp HC3.out.rb (HA.out.2.1 z HA.out.1) (by omega) (.int .i64 0) (.int .i64 0) (.slice none 0 0) (Obj.cells #[.int .i64 0, .int .i64 0, .slice none 0 0] 47)
      exact ⟨q1, q2, q3, (HOC.out.st3 (B := W.heap.size) (m := 2) (R := W.heap.size + 1) (by omega) (by omega) _ _ _).next ((Below.refl _ _).alloc (Nat.le_refl _) _)⟩
    obtain ⟨ql, ⟨q0, q1, q2⟩, _⟩ := cels3 h9.1
    refine bodyPost_ret (v := .tuple #[.agg #[.int .i64 0, .int .i64 0, .slice none 0 0], .int .i64 901]) (by simp [results, Tryz.results140, go_sem, q0, q1, q2]) rfl ?_
    rw [← er]
    exact ⟨_, rfl, h9.2.2.2, h9.2.1, h9.2.2.1⟩
  | hole =>
    obtain ⟨rfl, rfl, rfl, rfl, rfl⟩ : kd = 0 ∧ nm = 0 ∧ gk = none ∧ mk = 0 ∧ ck = 0 := by
      have h := HOC.out
      unfold OcV at h
      simp only [Value.agg.injEq] at h; simp at h; exact ⟨h.1, h.2.1, h.2.2.1, h.2.2.2.1, h.2.2.2.2⟩
    have er : (.hole, f1) = r0 := by rw [← HR0.out]; unfold chC; rw [HR.out]
    have e1 : erO .hole = 902 := rfl
    rw [e1]
    obtain ⟨rl, ⟨r0', r1', r2'⟩, g0, g1, g2⟩ := cels3 HC3.out.rb
    go_wp2_with fail
    refine grabB (fun W9 => Bx 47 W9 (W.heap.size + 1) #[.int .i64 0, .int .i64 0, .slice none 0 0] ∧ Es W0 gp P cp z W9 f1 ∧ Ka (Zz z) W W9 ∧ OcV W0 P A W9 .hole (vV 0 0 (.slice none 0 0))) ?_ (fun W9 h9 => ?_)
    · obtain ⟨q1, q2, q3⟩ := Es.finA HC3.out.es HC3.out.kp HC3.out.rb (HA.out.2.1 z HA.out.1) (by omega) (.int .i64 0) (.int .i64 0) (.slice none 0 0) (Obj.cells #[.int .i64 0, .int .i64 0, .slice none 0 0] 47)
      exact ⟨q1, q2, q3, (HOC.out.st3 (B := W.heap.size) (m := 2) (R := W.heap.size + 1) (by omega) (by omega) _ _ _).next ((Below.refl _ _).alloc (Nat.le_refl _) _)⟩
    obtain ⟨ql, ⟨q0, q1, q2⟩, _⟩ := cels3 h9.1
    refine bodyPost_ret (v := .tuple #[.agg #[.int .i64 0, .int .i64 0, .slice none 0 0], .int .i64 902]) (by simp [results, Tryz.results140, go_sem, q0, q1, q2]) rfl ?_
    rw [← er]
    exact ⟨_, rfl, h9.2.2.2, h9.2.1, h9.2.2.1⟩
  | fail =>
    obtain ⟨rfl, rfl⟩ : kd = 3 ∧ nm = 0 := by
      obtain ⟨lv', ev', hl'⟩ := HOC.out
      have h := ev'; simp only [Value.agg.injEq] at h; simp at h; exact ⟨h.1, h.2.1⟩
    have er : (.fail, f1) = r0 := by rw [← HR0.out]; unfold chC; rw [HR.out]
    have e1 : erO .fail = 0 := rfl
    rw [e1]
    obtain ⟨rl, ⟨r0', r1', r2'⟩, g0, g1, g2⟩ := cels3 HC3.out.rb
    go_wp2_with fail
    refine grabB (fun W9 => Bx 47 W9 (W.heap.size + 1) #[.int .i64 3, .int .i64 0, .slice gk mk ck] ∧ Es W0 gp P cp z W9 f1 ∧ Ka (Zz z) W W9 ∧ OcV W0 P A W9 .fail (vV 3 0 (.slice gk mk ck))) ?_ (fun W9 h9 => ?_)
    · obtain ⟨q1, q2, q3⟩ := Es.finA HC3.out.es HC3.out.kp HC3.out.rb (HA.out.2.1 z HA.out.1) (by omega) (.int .i64 3) (.int .i64 0) (.slice gk mk ck) (Obj.cells #[.int .i64 3, .int .i64 0, .slice gk mk ck] 47)
      exact ⟨q1, q2, q3, (HOC.out.st3 (B := W.heap.size) (m := 2) (R := W.heap.size + 1) (by omega) (by omega) _ _ _).next ((Below.refl _ _).alloc (Nat.le_refl _) _)⟩
    obtain ⟨ql, ⟨q0, q1, q2⟩, _⟩ := cels3 h9.1
    refine bodyPost_ret (v := .tuple #[.agg #[.int .i64 3, .int .i64 0, .slice gk mk ck], .int .i64 0]) (by simp [results, Tryz.results140, go_sem, q0, q1, q2]) rfl ?_
    rw [← er]
    exact ⟨_, rfl, h9.2.2.2, h9.2.1, h9.2.2.1⟩
  | num m =>
    obtain ⟨rfl, rfl⟩ : kd = 1 ∧ nm = m := by
      obtain ⟨lv', ev', hl'⟩ := HOC.out
      have h := ev'; simp only [Value.agg.injEq] at h; simp at h; exact ⟨h.1, h.2.1⟩
    have e1 : erO (.num nm) = 0 := rfl
    rw [e1]
    have hb4 : Below w3.heap.size w3 (w3.alloc (Obj.cells #[.int .i64 1, .int .i64 nm, .slice gk mk ck] 47)) := (Below.refl _ _).alloc (Nat.le_refl _) _
    have HC4 : Hid (ChS W0 gp P cp z A W (prtV (.slice gb nb cb) a (.slice gl ls.length cl)) (.slice gb nb cb) (.int .i64 (a : Int)) (.slice gl ls.length cl) d a 2 ls (w3.alloc (Obj.cells #[.int .i64 1, .int .i64 nm, .slice gk mk ck] 47)) f1) := HC3.out.next hb4
    have HK1 : Hid (Calls Tryz.prog 141 #[prtV (.slice gb nb cb) a (.slice gl ls.length cl), .int .i64 2, .slice none 0 0] (w3.alloc (Obj.cells #[.int .i64 1, .int .i64 nm, .slice gk mk ck] 47)) fun e w' => ∃ v, e = .returned v ∧ PtAt W0 P (orN A W.heap.size 2) w' v d (x.kids[2]?.getD 0).toNat ls ∧ Below (w3.alloc (Obj.cells #[.int .i64 1, .int .i64 nm, .slice gk mk ck] 47)).heap.size (w3.alloc (Obj.cells #[.int .i64 1, .int .i64 nm, .slice gk mk ck] 47)) w') :=
      kid_one (i := 2) HC4.out.es (orN_lt HA.out.2.1 (by have := HC4.out.rb.lt; omega)) HX.out.1 (by have := HK.out.1; omega) HC4.out.pt
    obtain ⟨c0, c1, c2⟩ : w3.cell? ⟨W.heap.size, 0, none⟩ = some (.slice gb nb cb) ∧ w3.cell? ⟨W.heap.size, 1, none⟩ = some (.int .i64 (a : Int)) ∧ w3.cell? ⟨W.heap.size, 2, none⟩ = some (.slice gl ls.length cl) := ⟨HC3.out.pb.cell 0 _ rfl, HC3.out.pb.cell 1 _ rfl, HC3.out.pb.cell 2 _ rfl⟩
    have cl' := HC3.out.pb.lt
    clear hb4
    go_wp2_with fail
    refine HK1.out.mono ?_
    rintro e w5 ⟨v5, rfl, hp5, hb5⟩
    have HEV : Hid (Calls Tryz.prog 137 #[v5, .pointer (some ⟨z, 0, none⟩)] w5 fun e W' => EvQ W0 gp P cp z (orN A W.heap.size 2) w5 (ev P n f1 (kidT d ls x 2)) e W') :=
      kid_ev HEv.out HF1.out HC4.out.es (Or.inl HA.out.1) (orN_lt HA.out.2.1 (by have := HC4.out.rb.lt; omega)) HX.out.1 (by have := HK.out.1; omega) HK.out.2.1.2.2 hp5 hb5
    have HB5 := hid hb5
    obtain ⟨gv5, nv5, cv5, lv5, ml5, kv5, rfl⟩ := hp5.valN
    clear hp5 hb5 HK1 c0 c1 c2 cl'
    go_wp2_with fail
    refine HEV.out.mono ?_
    rintro e w6 ⟨v6, rfl, ho6, hs6, hk6⟩
    obtain ⟨⟨o6, f6⟩, hr6⟩ : ∃ r, ev P n f1 (kidT d ls x 2) = r := ⟨_, rfl⟩
    rw [hr6] at ho6 hs6
    have er : (o6, f6) = r0 := by rw [← HR0.out]; unfold chC; rw [HR.out]; simp only; exact hr6.symm
    rw [hr6]
    obtain ⟨kd6, nm6, gk6, mk6, ck6, hv6⟩ := ho6.val
    have HC6 : Hid (ChS W0 gp P cp z A W (prtV (.slice gb nb cb) a (.slice gl ls.length cl)) (.slice gb nb cb) (.int .i64 (a : Int)) (.slice gl ls.length cl) d a 2 ls w6 f6) :=
      HC4.out.call HA.out.1 (HA.out.2.1 z HA.out.1) ((Ka.of_below HB5.out).next hk6) hs6
    have HO6 := hid ho6
    subst hv6
    obtain ⟨rl, ⟨r0', r1', r2'⟩, g0, g1, g2⟩ := cels3 HC6.out.rb
    obtain ⟨e6, he6⟩ : ∃ e6, erO o6 = e6 := ⟨_, rfl⟩
    have HE6 := hid he6
    rw [he6]
    clear hr6 ho6 hs6 hk6 HEV he6
    go_wp2_with fail
    refine grabB (fun W9 => Bx 47 W9 (W.heap.size + 1) #[.int .i64 kd6, .int .i64 nm6, .slice gk6 mk6 ck6] ∧ Es W0 gp P cp z W9 f6 ∧ Ka (Zz z) W W9 ∧ OcV W0 P A W9 o6 (vV kd6 nm6 (.slice gk6 mk6 ck6))) ?_ (fun W9 h9 => ?_)
    · obtain ⟨q1, q2, q3⟩ := Es.fin HC6.out.es HC6.out.kp HC6.out.rb (HA.out.2.1 z HA.out.1) (by omega) (.int .i64 kd6) (.int .i64 nm6) (.slice gk6 mk6 ck6)
      exact ⟨q1, q2, q3, HO6.out.st3 (B := W.heap.size) (m := 2) (R := W.heap.size + 1) (by omega) (by omega) _ _ _⟩
    obtain ⟨ql, ⟨q0, q1, q2⟩, _⟩ := cels3 h9.1
    refine bodyPost_ret (v := .tuple #[.agg #[.int .i64 kd6, .int .i64 nm6, .slice gk6 mk6 ck6], .int .i64 e6]) (by simp [results, Tryz.results140, go_sem, q0, q1, q2]) rfl ?_
    rw [← er]
    exact ⟨_, by rw [HE6.out], h9.2.2.2, h9.2.1, h9.2.2.1⟩
  | con c ps =>
    obtain ⟨rfl, rfl, rfl⟩ : kd = 2 ∧ nm = c ∧ mk = ps.length := by
      obtain ⟨lv', ev', hl'⟩ := HOC.out
      obtain ⟨g', c', rfl⟩ := hl'.val
      have h := ev'; simp only [Value.agg.injEq] at h; simp at h; exact ⟨h.1, h.2.1, h.2.2.2.1⟩
    have e1 : erO (.con nm ps) = 0 := rfl
    rw [e1]
    have HPS : Hid (LsAt W0 P (orN A W.heap.size 2) w3 (.slice gk ps.length ck) ps) := by
      obtain ⟨lv', ev', hl'⟩ := HOC.out
      have h := ev'; simp only [Value.agg.injEq] at h; simp at h
      show LsAt W0 P (orN A W.heap.size 2) w3 (.slice gk ps.length ck) ps
      rw [h]; exact hl'
    obtain ⟨mk, hmk⟩ : ∃ mk, ps.length = mk := ⟨_, rfl⟩
    have HMK := hid hmk
    rw [hmk] at HPS ⊢
    clear hmk
    by_cases hq : nm = tg ∧ (mk : Int) = bn
    · have HEQ : Hid (nm = x.num ∧ (ps.length : Int) = x.bind) := by rw [HTB.out.1, HTB.out.2, HMK.out]; exact hq
      have b1 : (nm == tg) = true := by simp [hq.1]
      have b2 : ((mk : Int) == bn) = true := by simp [hq.2]
      have HWP : Hid (Wf P (.prt d (x.kids[1]?.getD 0).toNat (ls ++ ps))) := by
        have e : x.kids[1]? = some (x.kids[1]'(by have := HK.out.1; omega)) := List.getElem?_eq_getElem _
        show Wf P _
        rw [e]
        exact HX.out.1.wf 1 _ e ps (by rw [show ((1 : Nat) : Int) = 1 from rfl, HK.out.2.1.2.1]; exact HEQ.out.2) HWF.out.1.2.2.2
      clear hq
      have hb4 : Below w3.heap.size w3 (w3.alloc (Obj.cells #[.int .i64 2, .int .i64 nm, .slice gk mk ck] 47)) := (Below.refl _ _).alloc (Nat.le_refl _) _
      have HC4 : Hid (ChS W0 gp P cp z A W (prtV (.slice gb nb cb) a (.slice gl ls.length cl)) (.slice gb nb cb) (.int .i64 (a : Int)) (.slice gl ls.length cl) d a 2 ls (w3.alloc (Obj.cells #[.int .i64 2, .int .i64 nm, .slice gk mk ck] 47)) f1) := HC3.out.next hb4
      have HK1 : Hid (Calls Tryz.prog 141 #[prtV (.slice gb nb cb) a (.slice gl ls.length cl), .int .i64 1, .slice gk mk ck] (w3.alloc (Obj.cells #[.int .i64 2, .int .i64 nm, .slice gk mk ck] 47)) fun e w' => ∃ v, e = .returned v ∧ PtAt W0 P (orN A W.heap.size 2) w' v d (x.kids[1]?.getD 0).toNat (ls ++ ps) ∧ Below (w3.alloc (Obj.cells #[.int .i64 2, .int .i64 nm, .slice gk mk ck] 47)).heap.size (w3.alloc (Obj.cells #[.int .i64 2, .int .i64 nm, .slice gk mk ck] 47)) w') := by
        have e : x.kids[1]? = some (x.kids[1]'(by have := HK.out.1; omega)) := List.getElem?_eq_getElem _
        have h := kid_at (mv := .slice gk mk ck) (more := ps) HC4.out.es.low (orN_lt HA.out.2.1 (by have := HC4.out.rb.lt; omega)) HC4.out.pt HX.out.1.body e (HX.out.1.kid 1 _ e).1 (HPS.out.kp (Ka.of_below ((Below.refl _ _).alloc (Nat.le_refl _) _))) (by have h1 := HX.out.1.le; have h2 := HWF.out.1.2.2.1; omega)
        rw [e]
        exact h
      obtain ⟨c0, c1, c2⟩ : w3.cell? ⟨W.heap.size, 0, none⟩ = some (.slice gb nb cb) ∧ w3.cell? ⟨W.heap.size, 1, none⟩ = some (.int .i64 (a : Int)) ∧ w3.cell? ⟨W.heap.size, 2, none⟩ = some (.slice gl ls.length cl) := ⟨HC3.out.pb.cell 0 _ rfl, HC3.out.pb.cell 1 _ rfl, HC3.out.pb.cell 2 _ rfl⟩
      have cl' := HC3.out.pb.lt
      clear hb4
      go_wp2_with fail
      refine HK1.out.mono ?_
      rintro e w5 ⟨v5, rfl, hp5, hb5⟩
      have HEV : Hid (Calls Tryz.prog 137 #[v5, .pointer (some ⟨z, 0, none⟩)] w5 fun e W' => EvQ W0 gp P cp z (orN A W.heap.size 2) w5 (ev P n f1 (.prt d (x.kids[1]?.getD 0).toNat (ls ++ ps))) e W') :=
        HEv.out f1 _ w5 v5 d _ _ HF1.out (HC4.out.es.next hb5) (Or.inl HA.out.1) (orN_lt HA.out.2.1 (by have h1 := HC4.out.rb.lt; have h2 := hb5.size; omega)) HWP.out hp5
      have HB5 := hid hb5
      obtain ⟨gv5, nv5, cv5, lv5, ml5, kv5, rfl⟩ := hp5.valN
      clear hp5 hb5 HK1 c0 c1 c2 cl'
      go_wp2_with fail
      refine HEV.out.mono ?_
      rintro e w6 ⟨v6, rfl, ho6, hs6, hk6⟩
      obtain ⟨⟨o6, f6⟩, hr6⟩ : ∃ r, ev P n f1 (.prt d (x.kids[1]?.getD 0).toNat (ls ++ ps)) = r := ⟨_, rfl⟩
      rw [hr6] at ho6 hs6
      have er : (o6, f6) = r0 := by rw [← HR0.out]; unfold chC; rw [HR.out]; simp only; rw [if_pos HEQ.out]; exact hr6.symm
      rw [hr6]
      obtain ⟨kd6, nm6, gk6, mk6, ck6, hv6⟩ := ho6.val
      have HC6 : Hid (ChS W0 gp P cp z A W (prtV (.slice gb nb cb) a (.slice gl ls.length cl)) (.slice gb nb cb) (.int .i64 (a : Int)) (.slice gl ls.length cl) d a 2 ls w6 f6) :=
        HC4.out.call HA.out.1 (HA.out.2.1 z HA.out.1) ((Ka.of_below HB5.out).next hk6) hs6
      have HO6 := hid ho6
      subst hv6
      obtain ⟨rl, ⟨r0', r1', r2'⟩, g0, g1, g2⟩ := cels3 HC6.out.rb
      obtain ⟨e6, he6⟩ : ∃ e6, erO o6 = e6 := ⟨_, rfl⟩
      have HE6 := hid he6
      rw [he6]
      clear hr6 ho6 hs6 hk6 HEV he6
      go_wp2_with fail
      refine grabB (fun W9 => Bx 47 W9 (W.heap.size + 1) #[.int .i64 kd6, .int .i64 nm6, .slice gk6 mk6 ck6] ∧ Es W0 gp P cp z W9 f6 ∧ Ka (Zz z) W W9 ∧ OcV W0 P A W9 o6 (vV kd6 nm6 (.slice gk6 mk6 ck6))) ?_ (fun W9 h9 => ?_)
      · obtain ⟨q1, q2, q3⟩ := Es.fin HC6.out.es HC6.out.kp HC6.out.rb (HA.out.2.1 z HA.out.1) (by omega) (.int .i64 kd6) (.int .i64 nm6) (.slice gk6 mk6 ck6)
        exact ⟨q1, q2, q3, HO6.out.st3 (B := W.heap.size) (m := 2) (R := W.heap.size + 1) (by omega) (by omega) _ _ _⟩
      obtain ⟨ql, ⟨q0, q1, q2⟩, _⟩ := cels3 h9.1
      refine bodyPost_ret (v := .tuple #[.agg #[.int .i64 kd6, .int .i64 nm6, .slice gk6 mk6 ck6], .int .i64 e6]) (by simp [results, Tryz.results140, go_sem, q0, q1, q2]) rfl ?_
      rw [← er]
      exact ⟨_, by rw [HE6.out], h9.2.2.2, h9.2.1, h9.2.2.1⟩
    · have HEQ : Hid (¬ (nm = x.num ∧ (ps.length : Int) = x.bind)) := by rw [HTB.out.1, HTB.out.2, HMK.out]; exact hq
      by_cases hn : nm = tg
      · have b1 : (nm == tg) = true := by simp [hn]
        have b2 : ((mk : Int) == bn) = false := by simp; exact fun e => hq ⟨hn, e⟩
        clear hq hn
        have hb4 : Below w3.heap.size w3 (w3.alloc (Obj.cells #[.int .i64 2, .int .i64 nm, .slice gk mk ck] 47)) := (Below.refl _ _).alloc (Nat.le_refl _) _
        have HC4 : Hid (ChS W0 gp P cp z A W (prtV (.slice gb nb cb) a (.slice gl ls.length cl)) (.slice gb nb cb) (.int .i64 (a : Int)) (.slice gl ls.length cl) d a 2 ls (w3.alloc (Obj.cells #[.int .i64 2, .int .i64 nm, .slice gk mk ck] 47)) f1) := HC3.out.next hb4
        have HK1 : Hid (Calls Tryz.prog 141 #[prtV (.slice gb nb cb) a (.slice gl ls.length cl), .int .i64 2, .slice none 0 0] (w3.alloc (Obj.cells #[.int .i64 2, .int .i64 nm, .slice gk mk ck] 47)) fun e w' => ∃ v, e = .returned v ∧ PtAt W0 P (orN A W.heap.size 2) w' v d (x.kids[2]?.getD 0).toNat ls ∧ Below (w3.alloc (Obj.cells #[.int .i64 2, .int .i64 nm, .slice gk mk ck] 47)).heap.size (w3.alloc (Obj.cells #[.int .i64 2, .int .i64 nm, .slice gk mk ck] 47)) w') :=
          kid_one (i := 2) HC4.out.es (orN_lt HA.out.2.1 (by have := HC4.out.rb.lt; omega)) HX.out.1 (by have := HK.out.1; omega) HC4.out.pt
        obtain ⟨c0, c1, c2⟩ : w3.cell? ⟨W.heap.size, 0, none⟩ = some (.slice gb nb cb) ∧ w3.cell? ⟨W.heap.size, 1, none⟩ = some (.int .i64 (a : Int)) ∧ w3.cell? ⟨W.heap.size, 2, none⟩ = some (.slice gl ls.length cl) := ⟨HC3.out.pb.cell 0 _ rfl, HC3.out.pb.cell 1 _ rfl, HC3.out.pb.cell 2 _ rfl⟩
        have cl' := HC3.out.pb.lt
        clear hb4
        go_wp2_with fail
        refine HK1.out.mono ?_
        rintro e w5 ⟨v5, rfl, hp5, hb5⟩
        have HEV : Hid (Calls Tryz.prog 137 #[v5, .pointer (some ⟨z, 0, none⟩)] w5 fun e W' => EvQ W0 gp P cp z (orN A W.heap.size 2) w5 (ev P n f1 (kidT d ls x 2)) e W') :=
          kid_ev HEv.out HF1.out HC4.out.es (Or.inl HA.out.1) (orN_lt HA.out.2.1 (by have := HC4.out.rb.lt; omega)) HX.out.1 (by have := HK.out.1; omega) HK.out.2.1.2.2 hp5 hb5
        have HB5 := hid hb5
        obtain ⟨gv5, nv5, cv5, lv5, ml5, kv5, rfl⟩ := hp5.valN
        clear hp5 hb5 HK1 c0 c1 c2 cl'
        go_wp2_with fail
        refine HEV.out.mono ?_
        rintro e w6 ⟨v6, rfl, ho6, hs6, hk6⟩
        obtain ⟨⟨o6, f6⟩, hr6⟩ : ∃ r, ev P n f1 (kidT d ls x 2) = r := ⟨_, rfl⟩
        rw [hr6] at ho6 hs6
        have er : (o6, f6) = r0 := by rw [← HR0.out]; unfold chC; rw [HR.out]; simp only; rw [if_neg HEQ.out]; exact hr6.symm
        rw [hr6]
        obtain ⟨kd6, nm6, gk6, mk6, ck6, hv6⟩ := ho6.val
        have HC6 : Hid (ChS W0 gp P cp z A W (prtV (.slice gb nb cb) a (.slice gl ls.length cl)) (.slice gb nb cb) (.int .i64 (a : Int)) (.slice gl ls.length cl) d a 2 ls w6 f6) :=
          HC4.out.call HA.out.1 (HA.out.2.1 z HA.out.1) ((Ka.of_below HB5.out).next hk6) hs6
        have HO6 := hid ho6
        subst hv6
        obtain ⟨rl, ⟨r0', r1', r2'⟩, g0, g1, g2⟩ := cels3 HC6.out.rb
        obtain ⟨e6, he6⟩ : ∃ e6, erO o6 = e6 := ⟨_, rfl⟩
        have HE6 := hid he6
        rw [he6]
        clear hr6 ho6 hs6 hk6 HEV he6
        go_wp2_with fail
        refine grabB (fun W9 => Bx 47 W9 (W.heap.size + 1) #[.int .i64 kd6, .int .i64 nm6, .slice gk6 mk6 ck6] ∧ Es W0 gp P cp z W9 f6 ∧ Ka (Zz z) W W9 ∧ OcV W0 P A W9 o6 (vV kd6 nm6 (.slice gk6 mk6 ck6))) ?_ (fun W9 h9 => ?_)
        · obtain ⟨q1, q2, q3⟩ := Es.fin HC6.out.es HC6.out.kp HC6.out.rb (HA.out.2.1 z HA.out.1) (by omega) (.int .i64 kd6) (.int .i64 nm6) (.slice gk6 mk6 ck6)
          exact ⟨q1, q2, q3, HO6.out.st3 (B := W.heap.size) (m := 2) (R := W.heap.size + 1) (by omega) (by omega) _ _ _⟩
        obtain ⟨ql, ⟨q0, q1, q2⟩, _⟩ := cels3 h9.1
        refine bodyPost_ret (v := .tuple #[.agg #[.int .i64 kd6, .int .i64 nm6, .slice gk6 mk6 ck6], .int .i64 e6]) (by simp [results, Tryz.results140, go_sem, q0, q1, q2]) rfl ?_
        rw [← er]
        exact ⟨_, by rw [HE6.out], h9.2.2.2, h9.2.1, h9.2.2.1⟩
      · have b1 : (nm == tg) = false := by simp [hn]
        clear hq hn
        have hb4 : Below w3.heap.size w3 (w3.alloc (Obj.cells #[.int .i64 2, .int .i64 nm, .slice gk mk ck] 47)) := (Below.refl _ _).alloc (Nat.le_refl _) _
        have HC4 : Hid (ChS W0 gp P cp z A W (prtV (.slice gb nb cb) a (.slice gl ls.length cl)) (.slice gb nb cb) (.int .i64 (a : Int)) (.slice gl ls.length cl) d a 2 ls (w3.alloc (Obj.cells #[.int .i64 2, .int .i64 nm, .slice gk mk ck] 47)) f1) := HC3.out.next hb4
        have HK1 : Hid (Calls Tryz.prog 141 #[prtV (.slice gb nb cb) a (.slice gl ls.length cl), .int .i64 2, .slice none 0 0] (w3.alloc (Obj.cells #[.int .i64 2, .int .i64 nm, .slice gk mk ck] 47)) fun e w' => ∃ v, e = .returned v ∧ PtAt W0 P (orN A W.heap.size 2) w' v d (x.kids[2]?.getD 0).toNat ls ∧ Below (w3.alloc (Obj.cells #[.int .i64 2, .int .i64 nm, .slice gk mk ck] 47)).heap.size (w3.alloc (Obj.cells #[.int .i64 2, .int .i64 nm, .slice gk mk ck] 47)) w') :=
          kid_one (i := 2) HC4.out.es (orN_lt HA.out.2.1 (by have := HC4.out.rb.lt; omega)) HX.out.1 (by have := HK.out.1; omega) HC4.out.pt
        obtain ⟨c0, c1, c2⟩ : w3.cell? ⟨W.heap.size, 0, none⟩ = some (.slice gb nb cb) ∧ w3.cell? ⟨W.heap.size, 1, none⟩ = some (.int .i64 (a : Int)) ∧ w3.cell? ⟨W.heap.size, 2, none⟩ = some (.slice gl ls.length cl) := ⟨HC3.out.pb.cell 0 _ rfl, HC3.out.pb.cell 1 _ rfl, HC3.out.pb.cell 2 _ rfl⟩
        have cl' := HC3.out.pb.lt
        clear hb4
        go_wp2_with fail
        refine HK1.out.mono ?_
        rintro e w5 ⟨v5, rfl, hp5, hb5⟩
        have HEV : Hid (Calls Tryz.prog 137 #[v5, .pointer (some ⟨z, 0, none⟩)] w5 fun e W' => EvQ W0 gp P cp z (orN A W.heap.size 2) w5 (ev P n f1 (kidT d ls x 2)) e W') :=
          kid_ev HEv.out HF1.out HC4.out.es (Or.inl HA.out.1) (orN_lt HA.out.2.1 (by have := HC4.out.rb.lt; omega)) HX.out.1 (by have := HK.out.1; omega) HK.out.2.1.2.2 hp5 hb5
        have HB5 := hid hb5
        obtain ⟨gv5, nv5, cv5, lv5, ml5, kv5, rfl⟩ := hp5.valN
        clear hp5 hb5 HK1 c0 c1 c2 cl'
        go_wp2_with fail
        refine HEV.out.mono ?_
        rintro e w6 ⟨v6, rfl, ho6, hs6, hk6⟩
        obtain ⟨⟨o6, f6⟩, hr6⟩ : ∃ r, ev P n f1 (kidT d ls x 2) = r := ⟨_, rfl⟩
        rw [hr6] at ho6 hs6
        have er : (o6, f6) = r0 := by rw [← HR0.out]; unfold chC; rw [HR.out]; simp only; rw [if_neg HEQ.out]; exact hr6.symm
        rw [hr6]
        obtain ⟨kd6, nm6, gk6, mk6, ck6, hv6⟩ := ho6.val
        have HC6 : Hid (ChS W0 gp P cp z A W (prtV (.slice gb nb cb) a (.slice gl ls.length cl)) (.slice gb nb cb) (.int .i64 (a : Int)) (.slice gl ls.length cl) d a 2 ls w6 f6) :=
          HC4.out.call HA.out.1 (HA.out.2.1 z HA.out.1) ((Ka.of_below HB5.out).next hk6) hs6
        have HO6 := hid ho6
        subst hv6
        obtain ⟨rl, ⟨r0', r1', r2'⟩, g0, g1, g2⟩ := cels3 HC6.out.rb
        obtain ⟨e6, he6⟩ : ∃ e6, erO o6 = e6 := ⟨_, rfl⟩
        have HE6 := hid he6
        rw [he6]
        clear hr6 ho6 hs6 hk6 HEV he6
        go_wp2_with fail
        refine grabB (fun W9 => Bx 47 W9 (W.heap.size + 1) #[.int .i64 kd6, .int .i64 nm6, .slice gk6 mk6 ck6] ∧ Es W0 gp P cp z W9 f6 ∧ Ka (Zz z) W W9 ∧ OcV W0 P A W9 o6 (vV kd6 nm6 (.slice gk6 mk6 ck6))) ?_ (fun W9 h9 => ?_)
        · obtain ⟨q1, q2, q3⟩ := Es.fin HC6.out.es HC6.out.kp HC6.out.rb (HA.out.2.1 z HA.out.1) (by omega) (.int .i64 kd6) (.int .i64 nm6) (.slice gk6 mk6 ck6)
          exact ⟨q1, q2, q3, HO6.out.st3 (B := W.heap.size) (m := 2) (R := W.heap.size + 1) (by omega) (by omega) _ _ _⟩
        obtain ⟨ql, ⟨q0, q1, q2⟩, _⟩ := cels3 h9.1
        refine bodyPost_ret (v := .tuple #[.agg #[.int .i64 kd6, .int .i64 nm6, .slice gk6 mk6 ck6], .int .i64 e6]) (by simp [results, Tryz.results140, go_sem, q0, q1, q2]) rfl ?_
        rw [← er]
        exact ⟨_, by rw [HE6.out], h9.2.2.2, h9.2.1, h9.2.2.1⟩
end Go.Proofs.YtjamknejllbmkaaGreatDoor
