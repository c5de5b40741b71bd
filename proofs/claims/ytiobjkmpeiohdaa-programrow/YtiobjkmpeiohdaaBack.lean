/- The contract of slices.Backward: a definition's parts, the last one first, with their places. -/
import Derived.RangeFuncNested
import Derived.RangeFuncBound
import Derived.RangeFuncCalls
import Derived.RangeFuncLeaves
import Derived.Shelf.Abstract
import Derived.Shelf.RegionOpen
import Derived.WalkKit
import Derived.OwnWalkIn
import Derived.TacticsInMore
import Derived.LoopNIn
import Derived.LoopIn
import Derived.Test.YtiobjkmpeiohdaaMem
namespace Go.Proofs.Ytiobjkmpeiohdaa
open Go.RowKit Go.Shelf
set_option linter.unusedVariables false
attribute [local go_sem] Oper.semAt_some

/-- A part as it comes: its place, what it is, where its kids lie. -/
structure It where
  at_ : Nat
  e : Ex
  g : Option Addr
  c : Nat
/-- What comes: a place below n, kids that lay in w0. -/
abbrev Item (w0 : World) (n : Nat) := { x : It // x.at_ < n ∧ Nums w0 x.g x.e.kids }
def Item.pr {w0 : World} {n : Nat} (x : Item w0 n) : Nat × Ex := (x.1.at_, x.1.e)
abbrev Item.vals {w0 : World} {n : Nat} (x : Item w0 n) : Array Value := #[.int .i64 (x.1.at_ : Int), eV x.1.e x.1.g x.1.c]
/-- The parts that lie there, as they come. -/
structure Its (w0 : World) (bk o : Nat) (xs : List Ex) (its : List (Item w0 xs.length)) : Prop where
  len : its.length = xs.length
  lies : ∀ j (h : j < its.length), its[j].1.at_ = j ∧ xs[j]? = some its[j].1.e ∧ ExAt w0 bk (o + j * 4) its[j].1.e its[j].1.g its[j].1.c
theorem its_of {w0 : World} {bk o : Nat} {xs : List Ex} (h : ∀ (j : Nat) x, xs[j]? = some x → ∃ gk ck, ExAt w0 bk (o + j * 4) x gk ck) : ∃ its, Its w0 bk o xs its := by
  have h' : ∀ j : Fin xs.length, ∃ x : Item w0 xs.length, x.1.at_ = j.1 ∧ xs[j.1]? = some x.1.e ∧ ExAt w0 bk (o + j.1 * 4) x.1.e x.1.g x.1.c := fun j => by
    obtain ⟨gk, ck, he⟩ := h j.1 _ (List.getElem?_eq_getElem j.2)
    exact ⟨⟨⟨j.1, xs[j.1], gk, ck⟩, j.2, he.2.2.2.2⟩, rfl, List.getElem?_eq_getElem j.2, he⟩
  classical
  refine ⟨List.ofFn fun j => Classical.choose (h' j), by simp, fun j hj => ?_⟩
  have hj' : j < xs.length := by simpa using hj
  rw [List.getElem_ofFn]
  exact Classical.choose_spec (h' ⟨j, hj'⟩)
theorem its_backw {w0 : World} {bk o : Nat} {xs : List Ex} {its : List (Item w0 xs.length)} (h : Its w0 bk o xs its) : its.reverse.map Item.pr = backw xs := by
  unfold backw
  rw [List.map_reverse]
  congr 1
  apply List.ext_getElem
  · simp [h.len]
  · intro j h1 h2
    have hj : j < its.length := by simpa using h1
    obtain ⟨e1, e2, _⟩ := h.lies j hj
    have hx : j < xs.length := by rw [← h.len]; exact hj
    rw [List.getElem?_eq_getElem hx] at e2
    simp [Item.pr, e1, Option.some.inj e2]

/-- What a round that goes on keeps: all that lay below n₀, and the block Bs. -/
def Kb (n₀ Bs : Nat) (A B : World) : Prop := Below n₀ A B ∧ B.heap[Bs]? = A.heap[Bs]?
theorem Kb.refl (n₀ Bs : Nat) (A : World) : Kb n₀ Bs A A := ⟨Below.refl _ _, rfl⟩
theorem Kb.trans {n₀ Bs : Nat} {A B C : World} (h : Kb n₀ Bs A B) (k : Kb n₀ Bs B C) : Kb n₀ Bs A C := ⟨h.1.trans k.1, k.2.trans h.2⟩
theorem Kb.cell {n₀ Bs : Nat} {A B : World} (h : Kb n₀ Bs A B) (o : Nat) : B.cell? ⟨Bs, o, none⟩ = A.cell? ⟨Bs, o, none⟩ := World.cell?_of_block (a := ⟨Bs, o, none⟩) h.2

set_option maxRecDepth 100000 in
set_option maxHeartbeats 1600000 in
theorem back_in (n l Bs n₀ bk o cap : Nat) (w0 : World) (xs : List Ex) (its : List (Item w0 xs.length)) (hits : Its w0 bk o xs its) (hlen : xs.length ≤ 24) (hn : 1 ≤ n) (hbk : bk < w0.heap.size) (J Jx : List (Item w0 xs.length) → World → Prop)
    (hY : ∀ pre (x : Item w0 xs.length) W, J pre W → pre.length < xs.length → YieldAt Fence.wide (n - 1) Try.prog l x.vals W fun e W' =>
      (e = .returned (.bool true) ∧ J (pre ++ [x]) W' ∧ Kb n₀ Bs W W') ∨ (e = .returned (.bool false) ∧ Jx (pre ++ [x]) W'))
    (W : World) (hW : Below w0.heap.size w0 W) (hn₀ : w0.heap.size ≤ n₀) (hc : W.cell? ⟨Bs, 0, none⟩ = some (.slice (some ⟨bk, o, none⟩) xs.length cap)) (h0 : J [] W) :
    CallsIn Fence.wide n Try.prog 33 #[.func (.yield l) #[] #[], .pointer (some ⟨Bs, 0, none⟩)] W fun e W' => (∃ v, e = .returned v) ∧
      ((∃ ys : List (Item w0 xs.length), ys = its.reverse ∧ J ys W') ∨ (∃ pre, pre <+: its.reverse ∧ Jx pre W')) := by
  refine callsIn_of_wp Try.func33 rfl trivial ?_ rfl
  simp only [Try.ntmps33, List.size_toArray, List.length_cons, List.length_nil, Nat.reduceAdd, Nat.reduceSub, Array.replicate_succ, Array.replicate_zero, List.push_toArray, List.append_toArray, List.nil_append, List.cons_append]
  have hil := hits.len
  gi_wp2
  gi_loopw [3] (fun s3 wr => ∃ (k : Nat), k ≤ xs.length ∧ s3 = .int .i64 ((k : Int) - 1) ∧ Hid (J (its.drop k).reverse wr) ∧ Hid (Kb n₀ Bs W wr))
    (fun s3 _ => (intOf s3 + 1).toNat)
  case atStart =>
    refine ⟨xs.length, Nat.le_refl _, rfl, ?_, Kb.refl _ _ _⟩
    show J _ _
    rw [List.drop_eq_nil_of_le (by omega)]; exact h0
  case round =>
    obtain ⟨k, hk, rfl, HJ, HKW⟩ := hrel
    cases k with
    | zero =>
      gi_wp2
      go_end0
      exact ⟨⟨_, rfl⟩, .inl ⟨_, by rw [List.drop_zero], HJ.out⟩⟩
    | succ k =>
      have hki : k < its.length := by omega
      have e1 : ((k + 1 : Nat) : Int) - 1 = (k : Int) := by omega
      rw [e1]
      obtain ⟨x, hx⟩ : ∃ x, its[k] = x := ⟨_, rfl⟩
      obtain ⟨f1, f2, f3⟩ := hits.lies k hki
      rw [hx] at f1 f2 f3
      have f4 := f3.on hbk hW
      have hbk' : bk < n₀ := by omega
      have c0 := (HKW.out.1.cell (p := ⟨bk, o + k * 4, none⟩) hbk').trans f4.1
      have c1 := (HKW.out.1.cell (p := ⟨bk, o + k * 4 + 1, none⟩) hbk').trans f4.2.1
      have c2 := (HKW.out.1.cell (p := ⟨bk, o + k * 4 + 2, none⟩) hbk').trans f4.2.2.1
      have c3 := (HKW.out.1.cell (p := ⟨bk, o + k * 4 + 3, none⟩) hbk').trans f4.2.2.2.1
      have hcw := (HKW.out.cell 0).trans hc
      obtain ⟨fn, tmps, assign, body, hy, hR⟩ := hY _ x wr HJ.out (by simp; omega)
      have HD : Hid ((its.drop k).reverse = (its.drop (k + 1)).reverse ++ [x]) := by
        show _ = _
        rw [List.drop_eq_getElem_cons hki, List.reverse_cons, hx]
      have hkl : (k : Int) < (xs.length : Int) := by omega
      dsimp only [Item.vals] at hy
      rw [f1] at hy
      clear f1 f2 f3 f4 hx e1 HJ hc
      gi_wp2
      refine hR.mono ?_
      rintro e W3 (⟨rfl, hJ3, hk3⟩ | ⟨rfl, hJx3⟩)
      · have HJ3 : Hid _ := hJ3
        have HK3 : Hid _ := hk3
        clear hJ3 hk3 hR hy
        gi_wp2
        go_roundw
        case rel =>
          refine ⟨k, by omega, by go_num, ?_, HKW.out.trans HK3.out⟩
          show J _ _
          rw [HD.out]; exact HJ3.out
        case measure => simp [intOf]
      · gi_wp2
        refine bodyPost_ret (results_none rfl _ _ _) rfl ?_
        refine ⟨⟨_, rfl⟩, .inr ⟨_, ?_, hJx3⟩⟩
        rw [← HD.out]
        exact ⟨(its.take k).reverse, by rw [← List.reverse_append, List.take_append_drop]⟩

theorem back_stops (n Bs n₀ bk o cap : Nat) (w0 : World) (xs : List Ex) (its : List (Item w0 xs.length)) (hits : Its w0 bk o xs its) (hlen : xs.length ≤ 24) (hn : 1 ≤ n) (hbk : bk < w0.heap.size) (w : World) (hw : Below w0.heap.size w0 w) (hn₀ : w0.heap.size ≤ n₀) (hBs : Bs < w.heap.size)
    (hc : w.cell? ⟨Bs, 0, none⟩ = some (.slice (some ⟨bk, o, none⟩) xs.length cap)) :
    SeqStopsK Fence.wide n Try.prog 33 #[.pointer (some ⟨Bs, 0, none⟩)] (fun x : Item w0 xs.length => x.vals) (Kb n₀ Bs) (fun ys => ys = its.reverse) (fun pre => pre <+: its.reverse) xs.length w := fun l J Jx W hW _ _ hY h0 =>
  back_in n l Bs n₀ bk o cap w0 xs its hits hlen hn hbk J Jx hY W (hw.trans (hW.mono hw.size)) hn₀ ((hW.cell (p := ⟨Bs, 0, none⟩) hBs).trans hc) h0

set_option maxHeartbeats 400000 in
theorem backward_any (g : Option Addr) (n c : Nat) (w : World) :
    Calls Try.prog 25 #[.slice g n c] w fun e w' => e = .returned (.func (.func 33) #[] #[.pointer (some ⟨w.heap.size, 0, none⟩)]) ∧ w' = w.alloc (.cells #[.slice g n c] 34) := by
  go_enter Try.func25, Try.ntmps25
  go_wp2_with fail
  go_ret
  exact ⟨rfl, rfl⟩
end Go.Proofs.Ytiobjkmpeiohdaa
