/- The contract of Cut. -/
import Derived.Test.YtcpddpflfncbmaaDoorWhole
namespace Go.Proofs.YtcpddpflfncbmaaDoor
open Go.RowKit
set_option linter.unusedVariables false

/-- What is asked of strings.Clone. -/
def CloneSaid : Prop := ∀ (s : ByteArray) (w : World), s.size ≤ 281474976710656 →
  Calls Tryd.prog 24 #[.string s] w fun e w' => e = .returned (.string s) ∧ Below w.heap.size w w'

theorem Tryd.info9 : (Tryd.prog.info? 9).map (fun i => (i.zero, i.size, i.bytes)) = some (some (.string ⟨#[]⟩), 1, 16) := by kernel_rfl

theorem piece_eq (s : ByteArray) (p : Nat × Nat) : s.extract p.1 p.2 = ⟨(pc s p).toArray⟩ := by
  apply ByteArray.ext
  apply Array.ext'
  rw [Lib.extract_data]
  rfl

/-- What Cut hands back. -/
def GotC (B : Nat) (w : World) (o : Option (Int × Int × List (List UInt8))) (k x : Int) (v : Value) (er : Int) : Prop :=
  match o with
  | none => k = 0 ∧ x = 0 ∧ v = .slice none 0 0 ∧ er = 200
  | some (k', x', ks) => k = k' ∧ x = x' ∧ er = 0 ∧ w.ownsRow B 9 1 v ks.length (ks.map S)

theorem plc_at : ∀ (ps : List (Nat × Nat)) (j : Nat) (h : j < ps.length), (plc ps)[j * 2]? = some (.int .i64 (ps[j].1 : Int)) ∧ (plc ps)[j * 2 + 1]? = some (.int .i64 (ps[j].2 : Int))
  | [], j, h => by simp at h
  | p :: ps, 0, h => by simp [plc]
  | p :: ps, j + 1, h => by
    have := plc_at ps j (by simpa using h)
    rw [show (j + 1) * 2 = j * 2 + 2 by omega]
    simpa [plc] using this

theorem place_cells {w : World} {B : Nat} {g : Option Addr} {n c : Nat} {ps : List (Nat × Nat)} {j : Nat} (h : w.ownsRow B 51 2 (.slice g n c) ps.length (plc ps)) (hj : j < ps.length) :
    ∃ gb, g = some ⟨gb, 0, none⟩ ∧ gb < w.heap.size ∧ w.cell? ⟨gb, j * 2, none⟩ = some (.int .i64 (ps[j].1 : Int)) ∧ w.cell? ⟨gb, j * 2 + 1, none⟩ = some (.int .i64 (ps[j].2 : Int)) := by
  obtain ⟨e1, e2⟩ := plc_at ps j hj
  rcases h.2 with ⟨_, h3⟩ | ⟨gb, cap, cur, hv, hB, hh, _⟩
  · omega
  · injection hv with hv
    subst hv
    have hlt : gb < w.heap.size := by
      rcases Nat.lt_or_ge gb w.heap.size with h' | h'
      · exact h'
      · rw [Array.getElem?_eq_none h'] at hh; cases hh
    have c0 := h.cells (g := gb) rfl _ _ e1
    have c1 := h.cells (g := gb) rfl _ _ e2
    rw [Lib.add_plain, Nat.zero_add] at c0 c1
    exact ⟨gb, rfl, hlt, c0, c1⟩

set_option maxHeartbeats 1600000 in
set_option maxRecDepth 100000 in
theorem cut_any (hA : AtoiSaid) (hI : ItoaSaid) (hC : CloneSaid) (s : ByteArray) (w : World) (hs : s.size ≤ 140737488355328) (hw : Lw w) :
    Calls Tryd.prog 10 #[.string s] w fun e w' => ∃ k x v er, e = .returned (.tuple #[.int .i64 k, .int .i64 x, v, .int .i64 er]) ∧ (∃ g n c, v = .slice g n c) ∧
      Below w.heap.size w w' ∧ GotC w.heap.size w' (whole s.data.toList) k x v er := by
  obtain ⟨i0, hi, hz0, hz1, hz2⟩ := info_parts Tryd.info9
  go_enter Tryd.func10, Tryd.ntmps10
  go_wp2_with fail
  refine (whole_any hA hI s _ hs hw).mono ?_
  rintro e w1 ⟨k, x, v, to, b, rfl, hbel, ⟨g, n', c, rfl⟩, hgot⟩
  cases hW : whole s.data.toList with
  | none =>
    rw [hW] at hgot
    have hb : b = false := hgot
    subst hb
    clear hgot
    go_wp2_with fail
    refine bodyPost_ret (v := .tuple #[.int .i64 0, .int .i64 0, .slice none 0 0, .int .i64 200]) (by simp [results, Tryd.results10, go_sem]) rfl ⟨0, 0, _, 200, rfl, ⟨_, _, _, rfl⟩, hbel.alloc hbel.size _, ?_⟩
    rw [hW]; exact ⟨rfl, rfl, rfl, rfl⟩
  | some y =>
    obtain ⟨k', x', ks⟩ := y
    rw [hW] at hgot
    obtain ⟨rfl, rfl, rfl, ps, hks, hpp, hown⟩ := hgot
    have HW : Hid (whole s.data.toList = some (k, x, ks)) := hW
    clear hW
    have HK : Hid (ps.map (pc s) = ks) := hks
    clear hks
    have HP : Hid (∀ p ∈ ps, p.1 ≤ p.2 ∧ p.2 ≤ s.size) := hpp
    clear hpp
    have HO : Hid (w1.ownsRow w.heap.size 51 2 (.slice g n' c) ps.length (plc ps)) := hown
    have hn' : n' = ps.length := by
      obtain ⟨g0, c0, e, _⟩ := own_len hown
      injection e
    subst hn'
    clear hown
    have hlen : ps.length ≤ 3 := by
      have h3 := (whole_parts HW.out).2.2
      rw [← HK.out, List.length_map] at h3
      exact h3
    have HB : Hid (Below w.heap.size w w1) := hbel
    have hz : w.heap.size ≤ w1.heap.size := hbel.size
    clear hbel
    go_wp2_with fail
    go_loopw [8, 21] (fun v i wr => ∃ j : Nat, j ≤ ps.length ∧ i = .int .i64 (j : Int) ∧ wr.ownsRow (w1.heap.size + 1) 9 1 v j ((ps.take j).map fun p => S (pc s p)) ∧
        Below (w1.heap.size + 1) (w1.alloc (Obj.cells #[.int .i64 k, .int .i64 x, .slice g ps.length c, .int .i64 to] 47)) wr)
      (fun _ i _ => ps.length - (intOf i).toNat)
    case atStart => exact ⟨0, Nat.zero_le _, rfl, World.ownsRow_nil _ _ _ _, Below.refl _ _⟩
    case round =>
      obtain ⟨j, hj, rfl, hown, hbr⟩ := hrel
      have hzr : w1.heap.size + 1 ≤ wr.heap.size := by have := hbr.size; simpa using this
      by_cases hlt : j < ps.length
      · obtain ⟨gv, cv, rfl, hblk⟩ := own_len hown
        have HBL : Hid (∀ a, (Value.slice gv j cv).ownBlock = some a → w1.heap.size + 1 ≤ a ∧ a < wr.heap.size) := hblk
        clear hblk
        obtain ⟨gb, rfl, hgb, hc0, hc1⟩ := place_cells HO.out hlt
        obtain ⟨p, hp⟩ : ∃ p, p = ps[j] := ⟨_, rfl⟩
        rw [← hp] at hc0 hc1
        have hpin := HP.out p (by rw [hp]; exact List.getElem_mem hlt)
        have HPJ : Hid (p = ps[j]) := hp
        clear hp
        obtain ⟨hp1, hp2⟩ := hpin
        have hp1' : (p.1 : Int) ≤ (p.2 : Int) := by omega
        have hp2' : (p.2 : Int) ≤ (s.size : Int) := by omega
        have hc0' : wr.cell? ⟨gb, j * 2, none⟩ = some (.int .i64 (p.1 : Int)) := by
          rw [hbr.cell (p := ⟨gb, j * 2, none⟩) (by simp; omega), World.cell?_alloc_lt _ _ _ (by simpa using hgb)]; exact hc0
        have hc1' : wr.cell? ⟨gb, j * 2 + 1, none⟩ = some (.int .i64 (p.2 : Int)) := by
          rw [hbr.cell (p := ⟨gb, j * 2 + 1, none⟩) (by simp; omega), World.cell?_alloc_lt _ _ _ (by simpa using hgb)]; exact hc1
        clear hc0 hc1
        go_wp2_with fail
        refine (hC _ _ ?_).mono ?_
        · have : (s.extract p.1 p.2).size ≤ s.size := by rw [ByteArray.size_extract]; omega
          omega
        rintro e w2 ⟨rfl, hb2⟩
        have hown2 : w2.ownsRow (w1.heap.size + 1) 9 1 _ j ((ps.take j).map fun p => S (pc s p)) := own_below (hown.alloc _) hb2
        have hbr2 : Below (w1.heap.size + 1) (w1.alloc (Obj.cells #[.int .i64 k, .int .i64 x, .slice (some ⟨gb, 0, none⟩) ps.length c, .int .i64 to] 47)) w2 := (hbr.alloc hzr _).trans (hb2.mono (by simp; omega))
        have hzz2 : w1.heap.size + 1 ≤ w2.heap.size := by have := hb2.size; simp at this; omega
        clear hown hbr hb2
        have HB2 : Hid _ := hbr2
        clear hbr2
        go_wp2_with (at_builtin; refine wpList_append_own _ rfl _ _ 22 rfl (w1.heap.size + 1) 9 i0 (.string ⟨#[]⟩) 1 16 Tryd.underlying22 hi hz0 hz1 hz2 rfl (by decide) _ j _ rfl (hown2.alloc _) ⟨w2.heap.size, 0, none⟩ 1 1 [.string (s.extract p.1 p.2)] rfl rfl ?c1 ?c2 ?c3 ?c4 ?c5 ?_)
        case c1 =>
          intro j u hj
          match j, hj with
          | 0, hj => simp at hj; subst hj; simp [Addr.add]
        case c2 => intro u hu; simp at hu; subst hu; rfl
        case c3 => unfold maxLen; omega
        case c4 => omega
        case c5 => simp; omega
        intro v' w3 hown3 hgrow _
        have hb3 : Below (w1.heap.size + 1) (w1.alloc (Obj.cells #[.int .i64 k, .int .i64 x, .slice (some ⟨gb, 0, none⟩) ps.length c, .int .i64 to] 47)) w3 :=
          (HB2.out.alloc hzz2 _).grown hgrow (by simp; omega) (fun a e => (HBL.out a e).1)
        have hown4 : w3.ownsRow (w1.heap.size + 1) 9 1 v' (j + 1) ((ps.take (j + 1)).map fun p => S (pc s p)) := by
          rw [List.take_add_one, List.getElem?_eq_getElem hlt, List.map_append, ← HPJ.out]
          simp only [Option.toList_some, List.map_cons, List.map_nil]
          rw [show S (pc s p) = .string (s.extract p.1 p.2) by rw [piece_eq], List.map_take]
          exact hown3
        clear hown3 hgrow hown2
        obtain ⟨gv', cv', rfl, _⟩ := own_len hown4
        go_wp2_with fail
        go_roundw
        case rel => exact ⟨j + 1, by omega, by go_num, hown4, hb3⟩
        case measure => simp [intOf]; omega
      · have ej : j = ps.length := by omega
        subst ej
        have hk0 : wr.cell? ⟨w1.heap.size, 0, none⟩ = some (.int .i64 k) := by
          rw [hbr.cell (p := ⟨w1.heap.size, 0, none⟩) (by simp)]; simp
        have hk1 : wr.cell? ⟨w1.heap.size, 1, none⟩ = some (.int .i64 x) := by
          rw [hbr.cell (p := ⟨w1.heap.size, 1, none⟩) (by simp)]; simp
        obtain ⟨gv, cv, rfl, _⟩ := own_len hown
        go_wp2_with fail
        go_quiet (fail)
        go_wp2_with fail
        refine bodyPost_ret (v := .tuple #[.int .i64 k, .int .i64 x, .slice gv ps.length cv, .int .i64 0]) (by simp [results, Tryd.results10, go_sem]) rfl ⟨k, x, _, 0, rfl, ⟨_, _, _, rfl⟩, ?_, ?_⟩
        · have h3 : Below w.heap.size w wr := (HB.out.alloc hz _).trans (hbr.mono (by omega))
          exact below_next h3 (below_drewN _ _ _)
        · rw [HW.out]
          refine ⟨rfl, rfl, rfl, ?_⟩
          have h4 := own_base (B' := w.heap.size) (own_below hown (below_drewN _ _ nq)) (by omega)
          rw [List.take_length] at h4
          rw [← HK.out, List.length_map, List.map_map]
          exact h4
end Go.Proofs.YtcpddpflfncbmaaDoor
