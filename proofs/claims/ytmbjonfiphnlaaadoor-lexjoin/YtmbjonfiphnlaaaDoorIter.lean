/- The contract of lines: a text's lines, one by one. -/
import Derived.RangeFuncNested
import Derived.RangeFuncBound
import Derived.RangeFuncCalls
import Derived.RangeFuncLeaves
import Derived.Shelf.Abstract
import Derived.Shelf.RegionOpen
import Derived.WalkKit
import Derived.OwnWalkIn
import Derived.TacticsInMore
import Derived.LoopNIn
import Derived.LoopIn
import Derived.Test.YtmbjonfiphnlaaaDoorLine
namespace Go.Proofs.YtmbjonfiphnlaaaDoor
open Go.RowKit Go.Shelf
set_option linter.unusedVariables false
attribute [local go_sem] Oper.semAt_some

/-- What comes as a line. -/
abbrev Ln := { l : List UInt8 // l.length ≤ 2048 ∧ ∀ b ∈ l, okB b = true ∧ b ≠ 10 }
def mlen : Value → Nat
  | .bool true => 1
  | _ => 0

theorem ln_pos (a s : List UInt8) : 0 < (ln a s).length := by
  induction s generalizing a with
  | nil => simp [ln]
  | cons c s ih =>
    rw [ln]; split
    · simp
    · exact ih _

set_option maxRecDepth 100000 in
set_option maxHeartbeats 1600000 in
theorem lines_in (n l Bn : Nat) (s : ByteArray) (hs : s.size ≤ 2048) (hok : ∀ b ∈ s.data.toList, okB b = true) (hn : 1 ≤ n) (J Jx : List Ln → World → Prop)
    (hJ : ∀ pre W q, J pre W → J pre (W.drewN q))
    (hY : ∀ pre (x : Ln) W, J pre W → pre.length < (ln [] s.data.toList).length → YieldAt Fence.wide (n - 1) Tryd.prog l #[.string (ba x.1)] W fun e W' =>
      (e = .returned (.bool true) ∧ J (pre ++ [x]) W' ∧ True) ∨ (e = .returned (.bool false) ∧ Jx (pre ++ [x]) W'))
    (W : World) (hc : W.cell? ⟨Bn, 0, none⟩ = some (.string s)) (h0 : J [] W) :
    CallsIn Fence.wide n Tryd.prog 20 #[.func (.yield l) #[] #[], .pointer (some ⟨Bn, 0, none⟩)] W fun e W' => (∃ v, e = .returned v) ∧
      ((∃ ys : List Ln, ys.map (·.1) = ln [] s.data.toList ∧ J ys W') ∨ (∃ pre, True ∧ Jx pre W')) := by
  have hlen : s.size = s.data.toList.length := ba_size s.data.toList
  obtain ⟨L, hL⟩ : ∃ L, s.data.toList = L := ⟨_, rfl⟩
  have hsL : s = ba L := by rw [← hL]; rfl
  rw [hL] at hok hY hlen ⊢
  have hLL : L.length ≤ 2048 := by omega
  subst hsL
  clear hlen hs hL
  refine callsIn_of_wp Tryd.func20 rfl trivial ?_ rfl
  simp only [Tryd.ntmps20, List.size_toArray, List.length_cons, List.length_nil, Nat.reduceAdd, Nat.reduceSub, Array.replicate_succ, Array.replicate_zero, List.push_toArray, List.append_toArray, List.nil_append, List.cons_append]
  gi_wp2
  gi_loopw [3, 4, 5] (fun s3 s4 _ wr => ∃ (pre : List Ln) (r : List UInt8) (m : Bool), s3 = .string (ba r) ∧ s4 = .bool m ∧ Hid (J pre wr) ∧ Hid (m = true → pre.map (·.1) ++ ln [] r = ln [] L) ∧ Hid (m = false → pre.map (·.1) = ln [] L ∧ r = []) ∧
      Hid (∀ b ∈ r, okB b = true) ∧ r.length ≤ 2048)
    (fun s3 s4 _ _ => Lib.strSize s3 + mlen s4)
  case atStart =>
    exact ⟨[], L, true, rfl, rfl, h0, (fun _ => rfl), (fun h => by cases h), hok, hLL⟩
  case round =>
    obtain ⟨pre, r, m, rfl, rfl, HJ, HM, HN, HO, hr⟩ := hrel
    cases m with
    | false =>
      have H2 : Hid (pre.map (·.1) = ln [] L) := (HN.out rfl).1
      clear HN HM
      gi_wp2
      go_end0
      exact ⟨⟨_, rfl⟩, .inl ⟨pre, H2.out, HJ.out⟩⟩
    | true =>
      have hcut := cut_any (ba r) 10 wr (by rw [ba_size]; exact hr)
      rw [ba_list] at hcut
      have H1 : Hid (pre.map (·.1) ++ ln [] r = ln [] L) := HM.out rfl
      have hpl : pre.length < (ln [] L).length := by
        rw [← H1.out, List.length_append, List.length_map]
        have := ln_pos [] r
        omega
      clear HN HM
      gi_wp2_with fail
      refine ⟨trivial, (callsIn_wide.2 hcut).mono ?_⟩
      clear hcut
      rintro e w2 ⟨⟨hno, rfl⟩ | ⟨p, x, hl, hp, rfl⟩, q, rfl⟩
      · obtain ⟨z, hz⟩ : ∃ z : Ln, z.1 = r := ⟨⟨r, hr, fun b hb => ⟨HO.out b hb, hno b hb⟩⟩, rfl⟩
        obtain ⟨fn, tmps, assign, body, hy, hR⟩ := hY pre z (wr.drewN q) (hJ pre wr q HJ.out) hpl
        rw [hz] at hy
        have HZ : Hid (z.1 = r) := hz
        clear hz
        have H3 : Hid (ln [] r = [r]) := ln_all hno
        clear hno
        gi_wp2
        refine hR.mono ?_
        rintro e W3 (⟨rfl, hJ3, _⟩ | ⟨rfl, hJx3⟩)
        · have HJ3 : Hid _ := hJ3
          clear hJ3
          gi_wp2
          go_roundw
          case rel =>
            refine ⟨_, [], false, rfl, rfl, HJ3, (fun h => by cases h), (fun _ => ⟨?_, rfl⟩), (fun b hb => by cases hb), by simp⟩
            rw [List.map_append, List.map_cons, List.map_nil, HZ.out, ← H1.out, H3.out]
          case measure =>
            show Lib.strSize (.string ⟨#[]⟩) + mlen (.bool false) < Lib.strSize (.string (ba r)) + mlen (.bool true)
            rw [Lib.strSize_string, Lib.strSize_string]
            show 0 + 0 < (ba r).size + 1
            omega
        · gi_wp2
          refine bodyPost_ret (results_none rfl _ _ _) rfl ?_
          exact ⟨⟨_, rfl⟩, .inr ⟨_, trivial, hJx3⟩⟩
      · have hx : x.length < r.length := by rw [hl]; simp; omega
        have hpr : p.length ≤ r.length := by rw [hl]; simp
        obtain ⟨z, hz⟩ : ∃ z : Ln, z.1 = p := ⟨⟨p, by omega, fun b hb => ⟨HO.out b (by rw [hl]; exact List.mem_append_left _ hb), hp b hb⟩⟩, rfl⟩
        obtain ⟨fn, tmps, assign, body, hy, hR⟩ := hY pre z (wr.drewN q) (hJ pre wr q HJ.out) hpl
        rw [hz] at hy
        have HZ : Hid (z.1 = p) := hz
        clear hz
        have H3 : Hid (ln [] r = p :: ln [] x) := by
          show ln [] r = _
          rw [hl]; exact ln_part hp x
        have H4 : Hid (∀ b ∈ x, okB b = true) := fun b hb => HO.out b (by rw [hl]; exact List.mem_append_right _ (List.mem_cons_of_mem _ hb))
        clear hl hp
        gi_wp2
        refine hR.mono ?_
        rintro e W3 (⟨rfl, hJ3, _⟩ | ⟨rfl, hJx3⟩)
        · have HJ3 : Hid _ := hJ3
          clear hJ3
          gi_wp2
          go_roundw
          case rel =>
            refine ⟨_, x, true, rfl, rfl, HJ3, (fun _ => ?_), (fun h => by cases h), H4, by omega⟩
            rw [List.map_append, List.map_cons, List.map_nil, HZ.out, ← H1.out, H3.out]; simp
          case measure =>
            show Lib.strSize (.string (ba x)) + mlen (.bool true) < Lib.strSize (.string (ba r)) + mlen (.bool true)
            rw [Lib.strSize_string, Lib.strSize_string, ba_size, ba_size]
            omega
        · gi_wp2
          refine bodyPost_ret (results_none rfl _ _ _) rfl ?_
          exact ⟨⟨_, rfl⟩, .inr ⟨_, trivial, hJx3⟩⟩

theorem lines_stops (n Bn : Nat) (s : ByteArray) (hs : s.size ≤ 2048) (hok : ∀ b ∈ s.data.toList, okB b = true) (hn : 1 ≤ n) (w : World) (hBn : Bn < w.heap.size) (hc : w.cell? ⟨Bn, 0, none⟩ = some (.string s)) :
    SeqStopsK Fence.wide n Tryd.prog 20 #[.pointer (some ⟨Bn, 0, none⟩)] (fun x : Ln => #[Value.string (ba x.1)]) (fun _ _ => True) (fun ys => ys.map (·.1) = ln [] s.data.toList) (fun _ => True) (ln [] s.data.toList).length w := fun l J Jx W hW hJ _ hY h0 =>
  lines_in n l Bn s hs hok hn J Jx (fun pre A q hA => hJ pre A _ none hA ⟨rfl, rfl, rfl, Nat.le_refl _, fun _ _ _ => rfl⟩ (fun r e => by cases e)) hY W ((hW.cell (p := ⟨Bn, 0, none⟩) hBn).trans hc) h0

set_option maxHeartbeats 400000 in
theorem lines_any (s : ByteArray) (w : World) :
    Calls Tryd.prog 15 #[.string s] w fun e w' => e = .returned (.func (.func 20) #[] #[.pointer (some ⟨w.heap.size, 0, none⟩)]) ∧ w' = w.alloc (.cells #[.string s] 9) := by
  go_enter Tryd.func15, Tryd.ntmps15
  go_wp2_with fail
  go_ret
  exact ⟨rfl, rfl⟩
end Go.Proofs.YtmbjonfiphnlaaaDoor
