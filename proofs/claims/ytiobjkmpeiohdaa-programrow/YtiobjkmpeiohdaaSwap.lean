/- The steps of ProgramRow on a copied program: what holds behind each. -/
import Derived.Test.YtiobjkmpeiohdaaTurn
namespace Go.Proofs.Ytiobjkmpeiohdaa
open Go.RowKit
set_option linter.unusedVariables false

/-- The first of the two has been written over; it lies in a box of its own. -/
structure P1 (w1 W : World) (B r n k zp z : Nat) (vp : Value) (qs : List Dt) (qx : Dt) : Prop where
  pd : Pd W B (.slice (some ⟨r, 0, none⟩) n k) qs
  q : Bx1 W z (.slice (some ⟨r, 0, none⟩) n k)
  d : Bx2 W (z + 1) qx.1.params (.slice qx.2.1 qx.1.body.length qx.2.2)
  p : Bx1 W zp vp
  ex : ExsT W qx.2.1 qx.1.body
  below : Below w1.heap.size w1 W
theorem P1.drew {w1 W : World} {B r n k zp z : Nat} {vp : Value} {qs : List Dt} {qx : Dt} (h : P1 w1 W B r n k zp z vp qs qx) : P1 w1 W.drew B r n k zp z vp qs qx :=
  ⟨⟨h.pd.own, h.pd.bodies⟩, h.q, h.d, h.p, h.ex, h.below.drew⟩
theorem swap1 {w1 w2 : World} {B r n k zp x z : Nat} {vp : Value} {qs : List Dt} {qx qy : Dt} (hz : w2.heap.size = z) (hP : Pd w2 B (.slice (some ⟨r, 0, none⟩) n k) qs) (hx : x < qs.length) (hE : ExsT w2 qx.2.1 qx.1.body) (hy : ExsT w2 qy.2.1 qy.1.body) (hX : Bx1 w2 zp vp) (hb : Below w1.heap.size w1 w2) (hB : w1.heap.size ≤ B) :
    P1 w1 ((((w2.setCell ⟨r, x * 2, none⟩ (.int .i64 qy.1.params)).setCell ⟨r, x * 2 + 1, none⟩ (.slice qy.2.1 qy.1.body.length qy.2.2)).alloc (.cells #[.slice (some ⟨r, 0, none⟩) n k] 24)).alloc (.cells #[.int .i64 qx.1.params, .slice qx.2.1 qx.1.body.length qx.2.2] 36)) B r n k zp z vp (qs.set x qy) qx := by
  have hPs := hP.put hx hy
  have hrB := hP.row.2.1
  have ho : Only36 w2 (some r) := only_own hP.own
  have hne := hP.not_box hX
  have hEs := (hE.kept (grown_set w2 r (x * 2) (.int .i64 qy.1.params)) ho).kept (grown_set _ r (x * 2 + 1) (.slice qy.2.1 qy.1.body.length qy.2.2)) (only_set ho)
  have hXs := (hX.kept (grown_set w2 r (x * 2) (.int .i64 qy.1.params)) hne).kept (grown_set _ r (x * 2 + 1) (.slice qy.2.1 qy.1.body.length qy.2.2)) hne
  have hbs := (hb.setCell (p := ⟨r, x * 2, none⟩) (Nat.le_trans hB hrB) (.int .i64 qy.1.params)).setCell (p := ⟨r, x * 2 + 1, none⟩) (Nat.le_trans hB hrB) (.slice qy.2.1 qy.1.body.length qy.2.2)
  have hsz : ((w2.setCell ⟨r, x * 2, none⟩ (.int .i64 qy.1.params)).setCell ⟨r, x * 2 + 1, none⟩ (.slice qy.2.1 qy.1.body.length qy.2.2)).heap.size = z := by simp [hz]
  generalize (w2.setCell ⟨r, x * 2, none⟩ (.int .i64 qy.1.params)).setCell ⟨r, x * 2 + 1, none⟩ (.slice qy.2.1 qy.1.body.length qy.2.2) = w3 at *
  subst hsz
  have hd := Bx2.new (w3.alloc (.cells #[.slice (some ⟨r, 0, none⟩) n k] 24)) qx.1.params (.slice qx.2.1 qx.1.body.length qx.2.2)
  rw [World.size_alloc] at hd
  exact ⟨(hPs.alloc _).alloc _, (Bx1.new w3 _).alloc _, hd, (hXs.alloc _).alloc _, (hEs.alloc _).alloc _, (hbs.alloc hbs.size _).alloc (by rw [World.size_alloc]; have := hbs.size; omega) _⟩
/-- Two have changed places; as far as told, calls have been turned. -/
structure P2 (w1 W : World) (B r n k zp z : Nat) (vp : Value) (qs : List Dt) : Prop where
  pd : Pd W B (.slice (some ⟨r, 0, none⟩) n k) qs
  q : Bx1 W z (.slice (some ⟨r, 0, none⟩) n k)
  p : Bx1 W zp vp
  below : Below w1.heap.size w1 W
theorem swap2 {w1 W : World} {B r n k zp x y z : Nat} {vp : Value} {qs : List Dt} {qx qy : Dt} (h : P1 w1 W B r n k zp z vp (qs.set x qy) qx) (hx : qs[x]? = some qx) (hy : qs[y]? = some qy) (hB : w1.heap.size ≤ B) :
    P2 w1 ((W.setCell ⟨r, y * 2, none⟩ (.int .i64 qx.1.params)).setCell ⟨r, y * 2 + 1, none⟩ (.slice qx.2.1 qx.1.body.length qx.2.2)) B r n k zp z vp (swl x y qs) := by
  have hyl : y < (qs.set x qy).length := by rw [List.length_set]; exact (List.getElem?_eq_some_iff.1 hy).1
  have hPs := h.pd.put hyl h.ex
  have hrB := h.pd.row.2.1
  have hnp := h.pd.not_box h.p
  have hnq := h.pd.not_box h.q
  refine ⟨?_, (h.q.kept (grown_set W r (y * 2) _) hnq).kept (grown_set _ r (y * 2 + 1) _) hnq, (h.p.kept (grown_set W r (y * 2) _) hnp).kept (grown_set _ r (y * 2 + 1) _) hnp, (h.below.setCell (p := ⟨r, y * 2, none⟩) (Nat.le_trans hB hrB) _).setCell (p := ⟨r, y * 2 + 1, none⟩) (Nat.le_trans hB hrB) _⟩
  have e : swl x y qs = (qs.set x qy).set y qx := by unfold swl; rw [hx, hy]
  rw [e]
  exact hPs
/-- A part gets another number. -/
theorem P2.turn {w1 W : World} {B r n k zp z : Nat} {vp : Value} {qs : List Dt} (h : P2 w1 W B r n k zp z vp qs) (hA : Apart qs) (hlo : Lo w1.heap.size qs) {i : Nat} {q : Dt} (hi : qs[i]? = some q) {b : Nat} (hg : q.2.1 = some ⟨b, 0, none⟩) {m : Nat} {e : Ex} (hm : q.1.body[m]? = some e) (v : Int) :
    P2 w1 (W.setCell ⟨b, m * 4 + 1, none⟩ (.int .i64 v)) B r n k zp z vp (qs.set i (⟨q.1.params, q.1.body.set m { e with num := v }⟩, q.2)) := by
  have hE := h.pd.bodies q (List.mem_of_getElem? hi)
  rw [hg] at hE
  obtain ⟨b', cs, hb1, hb2, _, _⟩ := hE.at hm
  cases hb1
  have hnx : ∀ {z' : Nat} {u : Value}, Bx1 W z' u → some z' ≠ some b := fun hx e => by
    cases e
    have := hx.symm.trans hb2
    cases this
  exact ⟨h.pd.turn hA hi hg hm v, h.q.kept (grown_set W b _ _) (hnx h.q), h.p.kept (grown_set W b _ _) (hnx h.p), h.below.setCell (p := ⟨b, m * 4 + 1, none⟩) (hlo q (List.mem_of_getElem? hi) ⟨b, 0, none⟩ hg) _⟩
theorem stt_lo {x y : Int} {i m lo : Nat} {rs : List Dt} (h : Lo lo rs) : Lo lo (stt x y i m rs) := by
  intro q hq a ha
  obtain ⟨j, hj⟩ := List.mem_iff_getElem?.1 hq
  rw [stt_at] at hj
  cases h1 : rs[j]? with
  | none => rw [h1] at hj; cases hj
  | some p =>
    rw [h1] at hj
    cases hj
    exact h p (List.mem_of_getElem? h1) a ha
theorem swl_lo {x y lo : Nat} {qs : List Dt} (hx : x < qs.length) (hy : y < qs.length) (h : Lo lo qs) : Lo lo (swl x y qs) := fun q hq => h q ((swl_mem hx hy q).1 hq)
/-- One part more: with its number turned, in the cells. -/
theorem P2.step {w1 W : World} {B r n k zp z i m b : Nat} {x y : Int} {vp : Value} {rs : List Dt} {q : Dt} (h : P2 w1 W B r n k zp z vp (stt x y i m rs)) (hA : Apart rs) (hlo : Lo w1.heap.size rs) (hi : rs[i]? = some q) (hg : q.2.1 = some ⟨b, 0, none⟩) (hm : m < q.1.body.length) (v : Int) (hv : q.1.body[m].sw x y = { q.1.body[m] with num := v }) :
    P2 w1 (W.setCell ⟨b, m * 4 + 1, none⟩ (.int .i64 v)) B r n k zp z vp (stt x y i (m + 1) rs) := by
  have h1 := h.turn (stt_apart hA) (stt_lo hlo) (stt_here hi) hg (e := q.1.body[m]) (tn_at hm) v
  rw [stt_succ hi hm, hv]
  exact h1
/-- One part more, where there is nothing to turn. -/
theorem P2.pass {w1 W : World} {B r n k zp z i m : Nat} {x y : Int} {vp : Value} {rs : List Dt} {q : Dt} (h : P2 w1 W B r n k zp z vp (stt x y i m rs)) (hi : rs[i]? = some q) (hm : m < q.1.body.length) (hv : q.1.body[m].sw x y = q.1.body[m]) :
    P2 w1 W B r n k zp z vp (stt x y i (m + 1) rs) := by
  have e : stt x y i (m + 1) rs = stt x y i m rs := by
    rw [stt_succ hi hm, hv]
    have e1 : (tn x y m q.1.body).set m q.1.body[m] = tn x y m q.1.body := by
      apply List.ext_getElem?
      intro j
      rw [List.getElem?_set]
      by_cases hj : m = j
      · subst hj
        rw [if_pos rfl, if_pos (by rw [tn_len]; exact hm), tn_at hm]
      · rw [if_neg hj]
    rw [e1]
    apply List.ext_getElem?
    intro j
    rw [List.getElem?_set]
    by_cases hj : i = j
    · subst hj
      rw [if_pos rfl, if_pos (by rw [stt_len]; exact (List.getElem?_eq_some_iff.1 hi).1), stt_here hi]
    · rw [if_neg hj]
  rw [e]
  exact h
end Go.Proofs.Ytiobjkmpeiohdaa
