/- The contracts of package parse's leaves: number, digits, digitsBehind, single, head. · Package parse's reader in memory: its words, its body; what is kept; the contract of next. · The contract of readRest, out of readPart's. · The contract of readCase, out of readPart's. · The contract of readBracket, out of readPart's. · The contract of readPart. · The contract of readDef. · The contracts of readProgram and Parse. · The contract of Parse. -/
import Derived.Test.YtjamknejllbmkaaGreatDoorMPlain
import Derived.Test.YtjamknejllbmkaaGreatDoorMTerm
import Derived.Test.YtjamknejllbmkaaGreatDoorMCopy
import Derived.Test.YtjamknejllbmkaaGreatDoorMLex
import Derived.Deep.AppendLies

namespace Go.Proofs.YtjamknejllbmkaaGreatDoor
open Go.RowKit
set_option linter.unusedVariables false

/-- What a walk asks of the package-level variables. -/
abbrev Lw := Tm.Lw

/-- What digits and digitsBehind answer. -/
def DgQ (o : Option Int) (w : World) (e : Ending) (w' : World) : Prop := Below w.heap.size w w' ∧ match o with
  | none => e = .returned (.tuple #[.int .i64 0, .bool false])
  | some x => e = .returned (.tuple #[.int .i64 x, .bool true])
theorem dg_some {w : Wd} {x : Int} (h : nb w = some x) (h0 : ¬ x < 0) : dg w = some x := by unfold dg; rw [h]; simp [h0]
theorem dg_neg {w : Wd} {x : Int} (h : nb w = some x) (h0 : x < 0) : dg w = none := by unfold dg; rw [h]; simp [h0]
theorem dg_none {w : Wd} (h : nb w = none) : dg w = none := by unfold dg; rw [h]

theorem DgQ.yes {o : Option Int} {x : Int} {w w' : World} (h : o = some x) (hb : Below w.heap.size w w') : DgQ o w (.returned (.tuple #[.int .i64 x, .bool true])) w' := by subst h; exact ⟨hb, rfl⟩
theorem DgQ.no {o : Option Int} {w w' : World} (h : o = none) (hb : Below w.heap.size w w') : DgQ o w (.returned (.tuple #[.int .i64 0, .bool false])) w' := by subst h; exact ⟨hb, rfl⟩

/-- Does it open with that byte? -/
def opn (c : UInt8) (l : List UInt8) : Bool := l.head? == some c
theorem opn_ext (c : UInt8) (s : ByteArray) (h : 1 ≤ s.size) : ((s.extract 0 1).toList == [c]) = opn c s.data.toList := by
  rw [Lib.toList_data, Lib.extract_data]
  have hl : s.data.toList.length = s.size := rfl
  cases hs : s.data.toList with
  | nil => rw [hs] at hl; simp at hl; omega
  | cons a r => simp [opn]
theorem opn_short (c : UInt8) (s : ByteArray) (h : s.size < 1) : opn c s.data.toList = false := by
  have hl : s.data.toList.length = s.size := rfl
  cases hs : s.data.toList with
  | nil => rfl
  | cons a r => rw [hs] at hl; simp at hl; omega
theorem db_no {c : UInt8} {l : Wd} (h : opn c l = false) : db c l = none := by
  cases l with
  | nil => rfl
  | cons a r => unfold db; simp [opn] at h; simp [h]
theorem db_yes {c : UInt8} {l : Wd} (h : opn c l = true) : db c l = dg (l.drop 1) := by
  cases l with
  | nil => simp [opn] at h
  | cons a r => unfold db; simp [opn] at h; simp [h]
/-- What single and head answer. -/
def SgQ (o : Option Ex) (w : World) (e : Ending) (w' : World) : Prop := ∃ (x : Ex) (b : Bool), e = .returned (.tuple #[.agg #[.int .i64 x.kind, .int .i64 x.num, .int .i64 x.bind, .slice none 0 0], .bool b]) ∧ x.kids = [] ∧ Below w.heap.size w w' ∧ ((b = true ∧ o = some x) ∨ (b = false ∧ o = none))

theorem low {w w1 : World} {o : Obj} (h : Below (w.alloc o).heap.size (w.alloc o) w1) : Below w.heap.size w w1 := ((Below.refl _ _).alloc (Nat.le_refl _) _).trans (h.mono (by simp))
end Go.Proofs.YtjamknejllbmkaaGreatDoor

namespace Go.Proofs.YtjamknejllbmkaaGreatDoor
open Go.RowKit
set_option linter.unusedVariables false
/-- All that lay is as it lay, but for the block z and this row. -/
structure Kp (z : Nat) (row : Option Nat) (W W' : World) : Prop where
  os : W'.os = W.os
  tape : W'.tape = W.tape
  output : W'.output = W.output
  size : W.heap.size ≤ W'.heap.size
  block : ∀ k, k < W.heap.size → k ≠ z → some k ≠ row → W'.heap[k]? = W.heap[k]?
theorem Kp.refl (z : Nat) (row : Option Nat) (W : World) : Kp z row W W := ⟨rfl, rfl, rfl, Nat.le_refl _, fun _ _ _ _ => rfl⟩
theorem Kp.of_below {z : Nat} {row : Option Nat} {W W' : World} (h : Below W.heap.size W W') : Kp z row W W' := ⟨h.os, h.tape, h.output, h.size, fun k hk _ _ => h.block k hk⟩
theorem Kp.of_set (z : Nat) (row : Option Nat) (W : World) (j : Nat) (v : Value) : Kp z row W (W.setCell ⟨z, j, none⟩ v) :=
  ⟨rfl, rfl, rfl, (KeepsWalks.setCell W _ v).size, fun k _ hk _ => Below.heap_setCell _ _ _ k (fun e => hk e)⟩
theorem Kp.of_grown {z : Nat} {row : Option Nat} {W W' : World} (h : W.grownBy W' row) : Kp z row W W' := ⟨h.os, h.tape, h.output, h.size, fun k hk _ hr => h.block k hk hr⟩
theorem Kp.below {z : Nat} {row : Option Nat} {W W' : World} (h : Kp z row W W') (hr : ∀ k, row = some k → z ≤ k) (hz : z ≤ W.heap.size) : Below z W W' :=
  ⟨h.os, h.tape, h.output, h.size, fun k hk => h.block k (by omega) (by omega) (fun e => by have := hr k e.symm; omega)⟩
/-- The next row is the same, or a new one. -/
def Nx (W : World) (r r' : Option Nat) : Prop := r' = r ∨ ∀ k, r' = some k → W.heap.size ≤ k
theorem Nx.refl (W : World) (r : Option Nat) : Nx W r r := Or.inl rfl
theorem Nx.trans {W W1 : World} {r r1 r2 : Option Nat} (h : Nx W r r1) (h1 : Nx W1 r1 r2) (hs : W.heap.size ≤ W1.heap.size) : Nx W r r2 := by
  rcases h1 with rfl | h1
  · exact h
  · exact Or.inr fun k hk => Nat.le_trans hs (h1 k hk)
theorem Kp.trans {z : Nat} {r r1 : Option Nat} {W W1 W2 : World} (h : Kp z r W W1) (hn : Nx W r r1) (h1 : Kp z r1 W1 W2) : Kp z r W W2 :=
  ⟨h1.os.trans h.os, h1.tape.trans h.tape, h1.output.trans h.output, Nat.le_trans h.size h1.size, fun k hk hz hr => by
    rw [h1.block k (Nat.lt_of_lt_of_le hk h.size) hz ?_, h.block k hk hz hr]
    rcases hn with rfl | hn
    · exact hr
    · intro e; have := hn k e.symm; omega⟩
theorem Kp.next {z : Nat} {r : Option Nat} {W W1 W2 : World} (h : Kp z r W W1) (h1 : Kp z r W1 W2) : Kp z r W W2 := h.trans (Nx.refl _ _) h1
theorem Kp.cell {z : Nat} {r : Option Nat} {W W' : World} (h : Kp z r W W') {k j : Nat} (hk : k < W.heap.size) (hz : k ≠ z) (hr : some k ≠ r) : W'.cell? ⟨k, j, none⟩ = W.cell? ⟨k, j, none⟩ := by
  unfold World.cell?; simp only [h.block k hk hz hr]
theorem Kp.frozen {z : Nat} {r : Option Nat} {W W' : World} (h : Kp z r W W') {k j : Nat} (hk : k < W.heap.size) (hz : k ≠ z) (hr : some k ≠ r) : W'.frozen? ⟨k, j, none⟩ = W.frozen? ⟨k, j, none⟩ := by
  unfold World.frozen?; simp only [h.block k hk hz hr]
/-- A row that is owned is kept where its block is. -/
theorem own_keep {W W' : World} {B e size n : Nat} {v : Value} {xs : List Value} (h : W.ownsRow B e size v n xs) (hk : ∀ k, B ≤ k → k < W.heap.size → v.ownBlock = some k → W'.heap[k]? = W.heap[k]?) : W'.ownsRow B e size v n xs := by
  refine ⟨h.1, ?_⟩
  rcases h.2 with h2 | ⟨g, cap, cur, hv, hg, hh, r⟩
  · exact Or.inl h2
  · refine Or.inr ⟨g, cap, cur, hv, hg, ?_, r⟩
    rw [hk g hg (Array.getElem?_eq_some_iff.1 hh).1 (by subst hv; rfl)]; exact hh
theorem own_rebase {W : World} {B B' e size n : Nat} {v : Value} {xs : List Value} (h : W.ownsRow B e size v n xs) (hB : ∀ k, v.ownBlock = some k → B' ≤ k) : W.ownsRow B' e size v n xs := by
  refine ⟨h.1, ?_⟩
  rcases h.2 with h2 | ⟨g, cap, cur, hv, hg, r⟩
  · exact Or.inl h2
  · exact Or.inr ⟨g, cap, cur, hv, hB g (by subst hv; rfl), r⟩
theorem Kp.own {z : Nat} {r : Option Nat} {W W' : World} (h : Kp z r W W') {B e size n : Nat} {v : Value} {xs : List Value} (ho : W.ownsRow B e size v n xs) (hz : z < B) (hr : v.ownBlock = none ∨ v.ownBlock ≠ r) : W'.ownsRow B e size v n xs :=
  own_keep ho fun k hB hk hv => h.block k hk (by omega) (by
    rcases hr with hr | hr
    · rw [hr] at hv; cases hv
    · rw [← hv]; exact hr)

/-- Words in a slice that lies below z. -/
def WTx (W : World) (z : Nat) (g : Option Addr) (ws : List Wd) : Prop :=
  ws = [] ∨ ∃ bk o, g = some ⟨bk, o, none⟩ ∧ bk < z ∧ ∀ (j : Nat) x, ws[j]? = some x → W.cell? ⟨bk, o + j, none⟩ = some (.string (Lx.ba x))
theorem WTx.on {W W' : World} {z : Nat} {g : Option Addr} {ws : List Wd} (h : WTx W z g ws) (hb : ∀ k, k < z → W'.heap[k]? = W.heap[k]?) : WTx W' z g ws := by
  rcases h with h | ⟨bk, o, h1, h2, h3⟩
  · exact Or.inl h
  · refine Or.inr ⟨bk, o, h1, h2, fun j x hx => ?_⟩
    rw [← h3 j x hx]
    unfold World.cell?; simp only [hb bk h2]
theorem WTx.tail {W : World} {z : Nat} {g : Option Addr} {w : Wd} {ws : List Wd} {c : Nat} (h : WTx W z g (w :: ws)) (hc : ws.length + 1 ≤ c) : WTx W z (if c = 1 then g else g.map (·.add 1)) ws := by
  rcases h with h | ⟨bk, o, rfl, h2, h3⟩
  · cases h
  · by_cases h1 : c = 1
    · left
      have : ws.length = 0 := by omega
      exact List.length_eq_zero_iff.1 this
    · right
      rw [if_neg h1]
      refine ⟨bk, o + 1, by simp [Addr.add], h2, fun j x hx => ?_⟩
      have := h3 (j + 1) x (by simpa using hx)
      rw [← this, Nat.add_assoc, Nat.add_comm 1 j]
/-- The next word, an empty one at the end, and what is left. -/
def nxt (ws : List Wd) : Wd × List Wd := match ws with
  | [] => ([], [])
  | w :: ws => (w, ws)
theorem nxt_len (ws : List Wd) : (nxt ws).2.length = ws.length - 1 := by cases ws <;> simp [nxt]
end Go.Proofs.YtjamknejllbmkaaGreatDoor

namespace Go.Proofs.YtjamknejllbmkaaGreatDoor
open Go.RowKit
set_option linter.unusedVariables false

/-- The variables read as they are laid in every world that is the same below z. -/
def LwB (z : Nat) (W : World) : Prop := ∀ W', Below z W W' → Lw W'
theorem LwB.lw {z : Nat} {W : World} (h : LwB z W) : Lw W := h W (Below.refl _ _)
theorem LwB.on {z : Nat} {W W' : World} (h : LwB z W) (hb : Below z W W') : LwB z W' := fun X hX => h X (hb.trans hX)
theorem LwB.kp {z : Nat} {W W' : World} {r : Option Nat} (h : LwB z W) (hk : Kp z r W W') (hr : ∀ k, r = some k → z ≤ k) (hz : z ≤ W.heap.size) : LwB z W' := h.on (hk.below hr hz)
/-- Not too many words, none too long. -/
def Sz (ws : List Wd) (ps : List Pt) : Prop := ws.length + ps.length ≤ 4096 ∧ ∀ w ∈ ws, w.length ≤ 4096
theorem Sz.on {ws ws' : List Wd} {ps ps' : List Pt} (h : Sz ws ps) (hs : ws' <:+ ws) (hl : ws'.length + ps'.length ≤ ws.length + ps.length) : Sz ws' ps' :=
  ⟨Nat.le_trans hl h.1, fun w hw => h.2 w (hs.subset hw)⟩
abbrev ptr (z : Nat) : Value := .pointer (some ⟨z, 0, none⟩)
abbrev I64 (ks : List Int) : List Value := ks.map (Value.int .i64)
/-- None of these parts' kids lie in that row. -/
def Apt (qs : List Pt) (kv : Value) : Prop := ∀ q ∈ qs, (Value.slice q.2.1 q.1.kids.length q.2.2).ownBlock = none ∨ (Value.slice q.2.1 q.1.kids.length q.2.2).ownBlock ≠ kv.ownBlock
/-- What holds of all of it. -/
structure Up (z : Nat) (r0 : Option Nat) (W0 : World) (ps : List Pt) : Prop where
  old : ∀ p ∈ ps, KdO W0 (z + 1) p
  lt : z < W0.heap.size
  row : ∀ k, r0 = some k → z + 1 ≤ k ∧ k < W0.heap.size
  lw : LwB z W0
theorem app_kid {W : World} {ops : Array Oper} {rest : List Oper} {o : Oper} {a : Act} {Q : Exit → Act → World → Prop} (hgd : o.guard = none) (s x : Operand)
    (ho : o.op = .call { callee := .builtin .append, args := #[s, x], argTypes := #[53, 53] }) (base : Nat) (v : Value) (ks : List Int) (k : Int) (hs : a.eval s = v) (z : Nat) (hz : W.heap.size = z) (hx : a.eval x = .slice (some ⟨z, 0, none⟩) 1 1)
    (hown : W.ownsRow base 3 1 v ks.length (I64 ks)) (hb : base ≤ W.heap.size) (hlen : ks.length ≤ 8192)
    (h : ∀ g cap w', w'.ownsRow base 3 1 (.slice (some ⟨g, 0, none⟩) (ks ++ [k]).length cap) (ks ++ [k]).length (I64 (ks ++ [k])) → W.grownBy w' v.ownBlock → (v.ownBlock = some g ∨ W.heap.size ≤ g) → wpList Tryz.prog ops Q rest (a.put o.dst (.slice (some ⟨g, 0, none⟩) (ks.length + 1) cap)) w') : wpList Tryz.prog ops Q (o :: rest) a (W.alloc (.cells #[.int .i64 k] 3)) := by
  subst hz
  obtain ⟨i0, hi, hz0, hz1, hz2⟩ := info_parts Tryz.info3p
  refine wpList_plain hgd fun _ hK => wp_append_lies _ s x 53 ho base 3 i0 _ 1 8 Tryz.underlying53 hi hz0 hz1 hz2 rfl (by decide) v _ _ hs (hown.alloc _) ⟨W.heap.size, 0, none⟩ 1 1 [.int .i64 k] hx rfl ?_ (fun u hu => by rw [List.mem_singleton] at hu; subst hu; rfl) (by decide) (by unfold maxLen; omega) (by omega) (by rw [World.size_alloc]; omega) _ rfl ?_
  · intro j u hj
    rw [Addr.add_lit, Nat.zero_add]
    refine cell_new W #[.int .i64 k] 3 j u ?_
    simpa using hj
  · intro g cap w' h1 h2 h3 _
    refine hK _ _ (h g cap w' ?_ ?_ ?_)
    · rw [List.length_append, show I64 (ks ++ [k]) = I64 ks ++ [Value.int .i64 k] from List.map_append]; exact h1
    · refine ⟨h2.os, h2.tape, h2.output, ?_, ?_⟩
      · exact Nat.le_trans (by rw [World.size_alloc]; omega) h2.size
      · intro k' hk hr
        rw [h2.block k' (by rw [World.size_alloc]; omega) hr]
        exact Below.heap_alloc W _ k' hk
    · rcases h3 with h3 | h3
      · exact Or.inl h3
      · right; rw [h3, World.size_alloc]; omega

theorem Kp.wide {z : Nat} {W W' : World} (h : Kp z none W W') (r : Option Nat) : Kp z r W W' := ⟨h.os, h.tape, h.output, h.size, fun k hk hz _ => h.block k hk hz (by simp)⟩
theorem Up.on {z : Nat} {r0 : Option Nat} {W0 W : World} {ps : List Pt} (h : Up z r0 W0 ps) (hk : Kp z r0 W0 W) : LwB z W := h.lw.kp hk (fun k e => by have := h.row k e; omega) (by have := h.lt; omega)
/-- How many words are left. -/
def leftOf (z : Nat) (W : World) : Nat := match W.cell? ⟨z, 0, none⟩ with
  | some (.slice _ n _) => n
  | _ => 0
theorem ba_is (w l : Wd) : ((Lx.ba w).toList == l) = (w == l) := by rw [Lib.toList_data]; rfl
theorem rr_done {f : Rf} {m : Nat} {ks : List Int} {ws : List Wd} {b : List Ex} (hm : ws.length + 1 < m) : rr f m ks ([41] :: ws) b = some (ws, b, ks) := by
  cases m with
  | zero => omega
  | succ m => rw [rr, if_pos rfl]
theorem rr_nil {f : Rf} {m : Nat} {ks : List Int} {b : List Ex} : rr f m ks [] b = none := by cases m <;> rfl
theorem rr_no {f : Rf} {m : Nat} {ks : List Int} {w : Wd} {ws : List Wd} {b : List Ex} (hw : w ≠ [41]) (h : f (w :: ws) b = none) : rr f m ks (w :: ws) b = none := by
  cases m with
  | zero => rfl
  | succ m => rw [rr, if_neg hw, h]
theorem rr_on {f : Rf} {m : Nat} {ks : List Int} {w : Wd} {ws : List Wd} {b : List Ex} {ws' : List Wd} {b' : List Ex} (hw : w ≠ [41]) (h : f (w :: ws) b = some (ws', b')) : rr f (m + 1) ks (w :: ws) b = rr f m (ks ++ [lastAt b']) ws' b' := by
  rw [rr, if_neg hw, h]

end Go.Proofs.YtjamknejllbmkaaGreatDoor

namespace Go.Proofs.YtjamknejllbmkaaGreatDoor
open Go.RowKit
set_option linter.unusedVariables false
/-! The box of a part, beside the reader. -/
theorem Rw.kp {z : Nat} {r : Option Nat} {W W' : World} {b : Nat} {cs : Array Value} (h : Rw W b cs) (hk : Kp z r W W') (hz : b ≠ z) (hr : some b ≠ r) : Rw W' b cs := (hk.block b h.lt hz hr).trans h
theorem Kp.far {z : Nat} {r : Option Nat} {W W' : World} (h : Kp z r W W') {b : Nat} (hb : W.heap.size ≤ b) (j : Nat) (v : Value) : Kp z r W (W'.setCell ⟨b, j, none⟩ v) :=
  ⟨h.os, h.tape, h.output, Nat.le_trans h.size (KeepsWalks.setCell W' _ v).size, fun k hk hz hr => (Below.heap_setCell W' _ _ k (fun e => by have e' : k = b := e; omega)).trans (h.block k hk hz hr)⟩
theorem KdO.box {W : World} {base : Nat} {p : Pt} (h : KdO W base p) {b : Nat} {cs : Array Value} (hb : Rw W b cs) (j : Nat) (v : Value) : KdO (W.setCell ⟨b, j, none⟩ v) base p := own_far h (own3_not_box h hb) _ _
/-- All four cells of a part's box are written. -/
def put4 (W : World) (b : Nat) (v0 v1 v2 v3 : Value) : World := (((W.setCell ⟨b, 0, none⟩ v0).setCell ⟨b, 1, none⟩ v1).setCell ⟨b, 2, none⟩ v2).setCell ⟨b, 3, none⟩ v3
theorem Rw.put4 {W : World} {b : Nat} {u0 u1 u2 u3 : Value} (h : Rw W b #[u0, u1, u2, u3]) (v0 v1 v2 v3 : Value) : Rw (put4 W b v0 v1 v2 v3) b #[v0, v1, v2, v3] := (((h.set 0 v0).set 1 v1).set 2 v2).set 3 v3
theorem Kp.put4 {z : Nat} {r : Option Nat} {W W' : World} (h : Kp z r W W') {b : Nat} (hb : W.heap.size ≤ b) (v0 v1 v2 v3 : Value) : Kp z r W (put4 W' b v0 v1 v2 v3) :=
  (((h.far hb 0 v0).far hb 1 v1).far hb 2 v2).far hb 3 v3
theorem KdO.put4 {W : World} {base : Nat} {p : Pt} (h : KdO W base p) {b : Nat} {cs : Array Value} (hb : Rw W b cs) (v0 v1 v2 v3 : Value) : KdO (put4 W b v0 v1 v2 v3) base p :=
  (((h.box hb 0 v0).box (hb.set 0 v0) 1 v1).box ((hb.set 0 v0).set 1 v1) 2 v2).box (((hb.set 0 v0).set 1 v1).set 2 v2) 3 v3
theorem put4_size (W : World) (b : Nat) (v0 v1 v2 v3 : Value) : (put4 W b v0 v1 v2 v3).heap.size = W.heap.size := by simp [put4]

theorem LwB.alloc {z : Nat} {W : World} (h : LwB z W) (hz : z ≤ W.heap.size) (o : Obj) : LwB z (W.alloc o) := h.on (((Below.refl _ W).alloc (Nat.le_refl _) o).mono hz)
theorem Sz.word {ws : List Wd} {ps : List Pt} (h : Sz ws ps) : (Lx.ba (nxt ws).1).size ≤ 140737488355328 := by
  cases ws with
  | nil => decide
  | cons w ws =>
    have h1 := h.2 w (by simp)
    have h2 : (Lx.ba (nxt (w :: ws)).1).size = w.length := rfl
    omega
theorem ba_list (w : Wd) : (Lx.ba w).data.toList = w := rfl
theorem dg_nil : dg [] = none := by decide +kernel

/-! readCase on words. -/
theorem rc_no {f : Rf} {m : Nat} {ws : List Wd} {b : List Ex} (h : f ws b = none) : rc f m ws b = none := by unfold rc; rw [h]
theorem rc_tag {f : Rf} {m : Nat} {ws ws1 : List Wd} {b b1 : List Ex} (h : f ws b = some (ws1, b1)) (ht : db 64 (nxt ws1).1 = none) : rc f m ws b = none := by
  unfold rc; rw [h]
  cases ws1 with
  | nil => rfl
  | cons t ws2 => simp only [nxt] at ht; simp [ht]
theorem rc_bind {f : Rf} {m : Nat} {ws ws1 : List Wd} {b b1 : List Ex} {tag : Int} (h : f ws b = some (ws1, b1)) (ht : db 64 (nxt ws1).1 = some tag) (hd : dg (nxt (nxt ws1).2).1 = none) : rc f m ws b = none := by
  unfold rc; rw [h]
  cases ws1 with
  | nil => rfl
  | cons t ws2 =>
    simp only [nxt] at ht
    cases ws2 with
    | nil => simp [ht]
    | cons v ws3 => simp only [nxt] at hd; simp [ht, hd]
theorem rc_on {f : Rf} {m : Nat} {ws ws1 : List Wd} {b b1 : List Ex} {tag bind : Int} (h : f ws b = some (ws1, b1)) (ht : db 64 (nxt ws1).1 = some tag) (hd : dg (nxt (nxt ws1).2).1 = some bind) :
    rc f m ws b = match rr f m [lastAt b1] (nxt (nxt ws1).2).2 b1 with
      | none => none
      | some (ws4, b4, ks) => some (ws4, b4, ⟨5, tag, bind, ks⟩) := by
  unfold rc; rw [h]
  cases ws1 with
  | nil => simp [nxt, db] at ht
  | cons t ws2 =>
    simp only [nxt] at ht
    cases ws2 with
    | nil => simp [nxt, dg_nil] at hd
    | cons v ws3 =>
      simp only [nxt] at hd ⊢
      simp only [ht, hd]
      rcases rr f m [lastAt b1] ws3 b1 with _ | ⟨a, b, c⟩ <;> rfl

end Go.Proofs.YtjamknejllbmkaaGreatDoor

namespace Go.Proofs.YtjamknejllbmkaaGreatDoor
open Go.RowKit
set_option linter.unusedVariables false
theorem rb_case {f : Rf} {m : Nat} {ws v : List Wd} {b : List Ex} (hx : nxt ws = ([99, 97, 115, 101], v)) : rb f m ws b = rc f m v b := by
  cases ws with
  | nil => simp [nxt] at hx
  | cons w ws => simp only [nxt, Prod.mk.injEq] at hx; obtain ⟨rfl, rfl⟩ := hx; rfl
theorem rb_no {f : Rf} {m : Nat} {ws v : List Wd} {t : Wd} {b : List Ex} (hx : nxt ws = (t, v)) (hc : t ≠ [99, 97, 115, 101]) (hh : hdw t = none) : rb f m ws b = none := by
  cases ws with
  | nil => rfl
  | cons w ws => simp only [nxt, Prod.mk.injEq] at hx; obtain ⟨rfl, rfl⟩ := hx; simp only [rb, if_neg hc, hh]
theorem rb_on {f : Rf} {m : Nat} {ws v : List Wd} {t : Wd} {b : List Ex} {x : Ex} (hx : nxt ws = (t, v)) (hc : t ≠ [99, 97, 115, 101]) (hh : hdw t = some x) : rb f m ws b = match rr f m [] v b with
      | none => none
      | some (ws', b', ks) => if x.kind = 3 ∧ ks = [] then none else some (ws', b', { x with kids := ks }) := by
  cases ws with
  | nil =>
    simp only [nxt, Prod.mk.injEq] at hx; obtain ⟨rfl, rfl⟩ := hx
    have h0 : hdw [] = none := by decide +kernel
    rw [h0] at hh; cases hh
  | cons w ws =>
    simp only [nxt, Prod.mk.injEq] at hx; obtain ⟨rfl, rfl⟩ := hx; simp only [rb, if_neg hc, hh]
    rcases rr f m [] ws b with _ | ⟨a, b, c⟩ <;> rfl

/-- The last world of readBracket: the part's list is put in, then all of it is put where the answer lies. -/
def fin (W : World) (E b : Nat) (v0 v1 v2 v3 : Value) : World := (put4 (W.setCell ⟨E, 3, none⟩ v3) b v0 v1 v2 v3).drew
theorem Kp.fin {z : Nat} {r : Option Nat} {W W' : World} (h : Kp z r W W') {b E : Nat} (hb : W.heap.size ≤ b) (hE : W.heap.size ≤ E) (v0 v1 v2 v3 : Value) : Kp z r W (fin W' E b v0 v1 v2 v3) :=
  ((h.far hE 3 v3).put4 hb v0 v1 v2 v3).trans (Nx.refl _ _) (Kp.of_below (Below.refl _ _).drew)
theorem KdO.fin {W : World} {base : Nat} {p : Pt} (h : KdO W base p) {b E : Nat} {cs ds : Array Value} (hE : Rw W E ds) (hb : Rw W b cs) (hne : b ≠ E) (v0 v1 v2 v3 : Value) : KdO (fin W E b v0 v1 v2 v3) base p :=
  own_keep ((h.box hE 3 v3).put4 (hb.other 3 v3 hne) v0 v1 v2 v3) (fun k _ hk _ => (Below.refl _ _).drew.block k hk)

end Go.Proofs.YtjamknejllbmkaaGreatDoor

namespace Go.Proofs.YtjamknejllbmkaaGreatDoor
open Go.RowKit
set_option linter.unusedVariables false

/-- A part is put behind a body, within a region that draws its order. -/
theorem step_exO {W : World} {ops : Array Oper} {o : Oper} {a : Act} {K : Act → World → Prop} {Q : Exit → Act → World → Prop} {E : Prop} (hgd : o.guard = none) (s x : Operand)
    (ho : o.op = .call { callee := .builtin .append, args := #[s, x], argTypes := #[56, 56] }) (base : Nat) (v : Value) (ps : List Pt) (q : Pt) (cs : Array Value) (hcs : cs.toList = c4 q) (hs : a.eval s = v) (z : Nat) (hz : W.heap.size = z) (hx : a.eval x = .slice (some ⟨z, 0, none⟩) 1 1)
    (hbd : BdO W base v ps) (hq : KdO W base q) (hb : base ≤ W.heap.size) (hlen : (ps.length + 1) * 48 ≤ 140737488355328)
    (h : ∀ g cap w', BdO w' base (.slice (some ⟨g, 0, none⟩) (ps.length + 1) cap) (ps ++ [q]) → (W.alloc (.cells cs 55)).grownBy w' v.ownBlock → (v.ownBlock = some g ∨ W.heap.size ≤ g) → K (a.put o.dst (.slice (some ⟨g, 0, none⟩) (ps.length + 1) cap)) w') : if Region.wanted o (yielded ops a.tmps) = true then Oper.wp Tryz.prog o a (W.alloc (.cells cs 55)).drew K Q else E := by
  subst hz
  obtain ⟨i0, hi, hz0, hz1, hz2⟩ := info_parts Tryz.info55
  refine step_append_lies _ hgd s x 56 ho base 55 i0 _ 4 48 Tryz.underlying56 hi hz0 hz1 hz2 rfl (by decide) v _ _ hs ((hbd.own.alloc _).drew) ⟨W.heap.size, 0, none⟩ 1 1 (c4 q) hx rfl ?_ (fun u hu => one_c4 [q] u (by simpa using hu)) (by decide) (by unfold maxLen; omega) hlen (by show _ ≤ (W.alloc (.cells cs 55)).heap.size; rw [World.size_alloc]; omega) _ rfl ?_
  · intro j u hj
    rw [Addr.add_lit, Nat.zero_add]
    show (W.alloc (.cells cs 55)).cell? _ = _
    refine cell_new W cs 55 j u ?_
    rw [← hcs] at hj
    simpa using hj
  · intro g cap w' h1 h2' h3 _
    have h2 : (W.alloc (.cells cs 55)).grownBy w' v.ownBlock := ⟨h2'.os, h2'.tape, h2'.output, h2'.size, h2'.block⟩
    refine h g cap w' ⟨by rw [List.length_append, List.flatMap_append]; simpa using h1, fun p hp => ?_⟩ h2 ?_
    · have hk : KdO (W.alloc (.cells cs 55)) base p := by
        rcases List.mem_append.1 hp with hp | hp
        · exact World.ownsRow.alloc (hbd.kids p hp) _
        · rw [List.mem_singleton] at hp; subst hp; exact World.ownsRow.alloc hq _
      exact World.ownsRow.kept hk h2 (rows_apart hk (hbd.own.alloc _))
    · rcases h3 with h3 | h3
      · exact Or.inl h3
      · right
        have h4 : (W.alloc (.cells cs 55)).drew.heap.size = W.heap.size + 1 := by show (W.alloc (.cells cs 55)).heap.size = _; rw [World.size_alloc]
        omega
theorem rp_brack {n : Nat} {ws v : List Wd} {b : List Ex} (hx : nxt ws = ([40], v)) : rp (n + 1) ws b = match rb (rp n) (n + 1) v b with
      | none => none
      | some (ws', b', e) => some (ws', b' ++ [e]) := by
  cases ws with
  | nil => simp [nxt] at hx
  | cons w ws => simp only [nxt, Prod.mk.injEq] at hx; obtain ⟨rfl, rfl⟩ := hx; rw [rp, if_pos rfl]; rfl
theorem sg_nil : sg [] = none := by decide +kernel
theorem rp_one {n : Nat} {ws v : List Wd} {t : Wd} {b : List Ex} (hx : nxt ws = (t, v)) (ht : t ≠ [40]) : rp (n + 1) ws b = match sg t with
      | none => none
      | some e => some (v, b ++ [e]) := by
  cases ws with
  | nil => simp only [nxt, Prod.mk.injEq] at hx; obtain ⟨rfl, rfl⟩ := hx; rw [sg_nil]; rfl
  | cons w ws => simp only [nxt, Prod.mk.injEq] at hx; obtain ⟨rfl, rfl⟩ := hx; rw [rp, if_neg ht]; rfl
theorem rp_len0 {n : Nat} {b : List Ex} : rp n [] b = none := by cases n <;> rfl

end Go.Proofs.YtjamknejllbmkaaGreatDoor

namespace Go.Proofs.YtjamknejllbmkaaGreatDoor
open Go.RowKit
set_option linter.unusedVariables false
theorem own_not {W : World} {base e size n b : Nat} {v : Value} {xs : List Value} {cs : Array Value} {t : TypeId} (h : W.ownsRow base e size v n xs) (hb : W.heap[b]? = some (.cells cs t (0, 0))) (ht : t ≠ e) : v.ownBlock ≠ some b := by
  rcases h.2 with ⟨rfl, _⟩ | ⟨b', cap, cur, rfl, _, hh, _⟩
  · simp [Value.ownBlock]
  · intro e'
    obtain rfl : b' = b := by simpa [Value.ownBlock] using e'
    have := hb.symm.trans hh
    simp at this
    exact ht this.2
theorem Bx2.kp {z : Nat} {r : Option Nat} {W W' : World} {b : Nat} {p : Int} {v : Value} (h : Bx2 W b p v) (hk : Kp z r W W') (hz : b ≠ z) (hr : some b ≠ r) : Bx2 W' b p v := (hk.block b h.lt hz hr).trans h
theorem BdO.box2 {W : World} {base : Nat} {v : Value} {ps : List Pt} (h : BdO W base v ps) {b : Nat} {p : Int} {u : Value} (hb : Bx2 W b p u) (j : Nat) (x : Value) : BdO (W.setCell ⟨b, j, none⟩ x) base v ps :=
  ⟨own_far h.own (own_not h.own hb (by decide)) _ _, fun q hq => own_far (h.kids q hq) (own_not (h.kids q hq) hb (by decide)) _ _⟩
def put2 (W : World) (b : Nat) (v0 v1 : Value) : World := (W.setCell ⟨b, 0, none⟩ v0).setCell ⟨b, 1, none⟩ v1
theorem Kp.put2 {z : Nat} {r : Option Nat} {W W' : World} (h : Kp z r W W') {b : Nat} (hb : W.heap.size ≤ b) (v0 v1 : Value) : Kp z r W (put2 W' b v0 v1) := (h.far hb 0 v0).far hb 1 v1
theorem BdO.put2 {W : World} {base : Nat} {v : Value} {ps : List Pt} (h : BdO W base v ps) {b : Nat} {p q : Int} {u : Value} (hb : Bx2 W b p u) (v1 : Value) : BdO (put2 W b (.int .i64 q) v1) base v ps :=
  (h.box2 hb 0 _).box2 (hb.set0 q) 1 v1
theorem BdO.rebase {W : World} {b b' : Nat} {v : Value} {ps : List Pt} (h : BdO W b v ps) (hv : ∀ k, v.ownBlock = some k → b' ≤ k) (hk : ∀ p ∈ ps, KdO W b' p) : BdO W b' v ps := ⟨own_rebase h.own hv, hk⟩

theorem rdf_eq {n : Nat} {ws : List Wd} {t1 t2 t3 : Wd} {v1 v2 v3 : List Wd} (h1 : nxt ws = (t1, v1)) (h2 : nxt v1 = (t2, v2)) (h3 : nxt v2 = (t3, v3)) :
    rdf n ws = if t1 = [40] then (if t2 = [100, 101, 102] then (match dg t3 with
      | none => none
      | some x => match rp n v3 [] with
        | none => none
        | some (ws', b) => if (nxt ws').1 = [41] then some ((nxt ws').2, ⟨x, b⟩) else none) else none) else none := by
  cases ws with
  | nil => simp only [nxt, Prod.mk.injEq] at h1; obtain ⟨rfl, rfl⟩ := h1; rfl
  | cons a ws =>
    simp only [nxt, Prod.mk.injEq] at h1; obtain ⟨rfl, rfl⟩ := h1
    cases ws with
    | nil => simp only [nxt, Prod.mk.injEq] at h2; obtain ⟨rfl, rfl⟩ := h2; simp [rdf]
    | cons d ws =>
      simp only [nxt, Prod.mk.injEq] at h2; obtain ⟨rfl, rfl⟩ := h2
      cases ws with
      | nil => simp only [nxt, Prod.mk.injEq] at h3; obtain ⟨rfl, rfl⟩ := h3; simp [rdf, dg_nil]
      | cons p ws =>
        simp only [nxt, Prod.mk.injEq] at h3; obtain ⟨rfl, rfl⟩ := h3
        by_cases ha : a = [40]
        · by_cases hd : d = [100, 101, 102]
          · simp only [rdf, if_pos ha, if_pos hd]
            rcases dg p with _ | x
            · rfl
            · rcases rp n ws [] with _ | ⟨ws', b⟩
              · rfl
              · cases ws' with
                | nil => simp [nxt]
                | cons c ws'' => rfl
          · simp only [rdf, if_pos ha, if_neg hd]
        · simp only [rdf, if_neg ha]

end Go.Proofs.YtjamknejllbmkaaGreatDoor

namespace Go.Proofs.YtjamknejllbmkaaGreatDoor
open Go.RowKit
set_option linter.unusedVariables false
theorem WTx.box1 {W : World} {z : Nat} {g : Option Addr} {ws : List Wd} (h : WTx W z g ws) {b : Nat} {gb : Option Addr} {nb cb : Nat} (hb : Bx1 W b (.slice gb nb cb)) (j : Nat) (v : Value) : WTx (W.setCell ⟨b, j, none⟩ v) z g ws := by
  cases ws with
  | nil => exact Or.inl rfl
  | cons w ws =>
    rcases h with h | ⟨bk, o, h1, h2, h3⟩
    · cases h
    · have hne : bk ≠ b := by
        rintro rfl
        have h4 := h3 0 w rfl
        unfold World.cell? at h4
        simp only [show W.heap[bk]? = _ from hb] at h4
        obtain ⟨h5, h6⟩ := Array.getElem?_eq_some_iff.1 h4
        have h7 : o + 0 = 0 := by
          have h8 : o + 0 < 1 := h5
          omega
        simp [h7] at h6
      refine Or.inr ⟨bk, o, h1, h2, fun i x hx => ?_⟩
      rw [← h3 i x hx]
      unfold World.cell?
      simp only [Below.heap_setCell W ⟨b, j, none⟩ v bk hne]
theorem Bx1.kp {z : Nat} {r : Option Nat} {W W' : World} {b : Nat} {v : Value} (h : Bx1 W b v) (hk : Kp z r W W') (hz : b ≠ z) (hr : some b ≠ r) : Bx1 W' b v := (hk.block b h.lt hz hr).trans h
theorem Bx1.far {W : World} {b : Nat} {v : Value} (h : Bx1 W b v) {b' : Nat} (hne : b ≠ b') (j : Nat) (u : Value) : Bx1 (W.setCell ⟨b', j, none⟩ u) b v := (Below.heap_setCell W _ _ b hne).trans h

/-- How readProgram ends. -/
def ProgQ (o : Option (List Df)) (w : World) (e : Ending) (w' : World) : Prop :=
  Below w.heap.size w w' ∧ match o with
  | none => e = .returned (.tuple #[.agg #[.slice none 0 0], .bool false])
  | some ds => ∃ g c qs, e = .returned (.tuple #[.agg #[.slice g ds.length c], .bool true]) ∧ qs.map (·.1) = ds ∧ Pd w' w.heap.size (.slice g ds.length c) qs
theorem Kp.low {w W W' : World} {z : Nat} (h : Below w.heap.size w W) (hk : Kp z none W W') (hz : w.heap.size ≤ z) : Below w.heap.size w W' :=
  ⟨hk.os.trans h.os, hk.tape.trans h.tape, hk.output.trans h.output, Nat.le_trans h.size hk.size, fun k hk' => (hk.block k (Nat.lt_of_lt_of_le hk' h.size) (by omega) (by simp)).trans (h.block k hk')⟩
theorem rdf_gd {n : Nat} {ws ws' : List Wd} {d : Df} (h : rdf n ws = some (ws', d)) : ws' <:+ ws ∧ ws'.length < ws.length := by
  obtain ⟨t1, v1, hx1⟩ : ∃ t v, nxt ws = (t, v) := ⟨_, _, rfl⟩
  obtain ⟨t2, v2, hx2⟩ : ∃ t v, nxt v1 = (t, v) := ⟨_, _, rfl⟩
  obtain ⟨t3, v3, hx3⟩ : ∃ t v, nxt v2 = (t, v) := ⟨_, _, rfl⟩
  have l1 := nxt_len ws
  have l2 := nxt_len v1
  have l3 := nxt_len v2
  have sf : ∀ ws : List Wd, (nxt ws).2 <:+ ws := fun ws => by
    cases ws with
    | nil => exact List.suffix_refl _
    | cons w ws => exact List.suffix_cons _ _
  have s1 := sf ws
  have s2 := sf v1
  have s3 := sf v2
  rw [rdf_eq hx1 hx2 hx3] at h
  rw [hx1] at l1 s1
  rw [hx2] at l2 s2
  rw [hx3] at l3 s3
  dsimp only at l1 l2 l3 s1 s2 s3
  split at h
  · split at h
    · split at h
      · cases h
      · split at h
        · cases h
        · rename_i ws1 b1 h1
          split at h
          · cases h
            obtain ⟨g1, g2, _⟩ := rp_gd n _ _ _ _ h1
            have l4 := nxt_len ws1
            exact ⟨(((sf ws1).trans g1).trans s3).trans (s2.trans s1), by omega⟩
          · cases h
    · cases h
  · cases h
theorem rpg_end {n m : Nat} {ds : List Df} (h : 0 < m) : rpg n m ds [] = some ds := by
  cases m with
  | zero => omega
  | succ m => rfl
theorem rpg_no {n m : Nat} {ds : List Df} {w : Wd} {ws : List Wd} (h : rdf n (w :: ws) = none) : rpg n m ds (w :: ws) = none := by
  cases m with
  | zero => rfl
  | succ m => rw [rpg, h]
theorem rpg_on {n m : Nat} {ds : List Df} {w : Wd} {ws ws' : List Wd} {d : Df} (h : rdf n (w :: ws) = some (ws', d)) : rpg n (m + 1) ds (w :: ws) = rpg n m (ds ++ [d]) ws' := by
  rw [rpg, h]

end Go.Proofs.YtjamknejllbmkaaGreatDoor

namespace Go.Proofs.YtjamknejllbmkaaGreatDoor
open Go.RowKit
set_option linter.unusedVariables false

/-- A program's value. -/
abbrev pV (g : Option Addr) (n c : Nat) : Value := .agg #[.slice g n c]
/-- How Parse ends. -/
def ParseQ (o : Option (List Df)) (w : World) (e : Ending) (w' : World) : Prop :=
  Below w.heap.size w w' ∧ match o with
  | none => e = .returned (.tuple #[pV none 0 0, .int .i64 700])
  | some ds => ∃ g c qs, e = .returned (.tuple #[pV g ds.length c, .int .i64 0]) ∧ qs.map (·.1) = ds ∧ Pd w' w.heap.size (.slice g ds.length c) qs
theorem ParseQ.no {o : Option (List Df)} {w w' : World} (h : o = none) (hb : Below w.heap.size w w') : ParseQ o w (.returned (.tuple #[pV none 0 0, .int .i64 700])) w' := by subst h; exact ⟨hb, rfl⟩
theorem sz_words {s : List UInt8} (h : Lx.good s = true) : Sz (Lx.wd false [] s) [] ∧ (Lx.wd false [] s).length ≤ 2048 := by
  have hl : s.length ≤ 2048 := by
    unfold Lx.good at h
    simp at h
    exact h.1
  have h1 := Lx.wd_short s
  refine ⟨⟨by simp; omega, fun x hx => ?_⟩, by omega⟩
  have := (Lx.wd_shape s false [] (by simp) x hx).2.1
  simp at this; omega
theorem wtx_own {w : World} {B : Nat} {g : Option Addr} {n c : Nat} {ks : List Wd} (h : w.ownsRow B 9 1 (.slice g n c) ks.length (ks.map Lx.S)) : WTx w w.heap.size g ks ∧ ks.length ≤ c := by
  rcases h.2 with ⟨_, h3⟩ | ⟨b, cap, cur, hv, _, hh, hc, _⟩
  · rw [h3]; exact ⟨Or.inl (List.length_eq_zero_iff.1 h3), Nat.zero_le _⟩
  · simp at hv
    obtain ⟨rfl, rfl, rfl⟩ := hv
    refine ⟨Or.inr ⟨b, 0, rfl, (Array.getElem?_eq_some_iff.1 hh).1, fun j x hx => ?_⟩, hc⟩
    have h1 := h.cells (g := b) rfl j (Lx.S x) (by rw [List.getElem?_map, hx]; rfl)
    rw [Addr.add_lit] at h1
    exact h1
theorem pp_bad {s : List UInt8} (h : Lx.good s = false) : pp s = none := by unfold pp; rw [h]; rfl
theorem pp_no {s : List UInt8} (h : Lx.good s = true) (hr : rpg 2049 2049 [] (Lx.wd false [] s) = none) : pp s = none := by unfold pp; rw [h, hr]; rfl
theorem pp_may {s : List UInt8} {ds : List Df} (h : Lx.good s = true) (hr : rpg 2049 2049 [] (Lx.wd false [] s) = some ds) (hm : pmay ds = false) : pp s = none := by unfold pp; rw [h, hr]; simp [hm]
theorem pp_yes {s : List UInt8} {ds : List Df} (h : Lx.good s = true) (hr : rpg 2049 2049 [] (Lx.wd false [] s) = some ds) (hm : pmay ds = true) : pp s = some ds := by unfold pp; rw [h, hr]; simp [hm]

end Go.Proofs.YtjamknejllbmkaaGreatDoor
