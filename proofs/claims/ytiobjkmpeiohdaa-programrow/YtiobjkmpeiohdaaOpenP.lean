/- A program that comes in: its definitions as plain data, with the bounds that the sized condition gives. -/
import Derived.Test.YtiobjkmpeiohdaaOpen
import Derived.Test.YtiobjkmpeiohdaaDefs
namespace Go.Proofs.Ytiobjkmpeiohdaa
open Go.RowKit Go.ChangeShapes Go.WideShapes Go.Deep
set_option linter.unusedVariables false

theorem cells36b : Try.prog.cellsOf 36 = 2 := by kernel_rfl
theorem cells24b : Try.prog.cellsOf 24 = 1 := by kernel_rfl
theorem cells22b : Try.prog.cellsOf 22 = 1 := by kernel_rfl
theorem bytes36b : Try.prog.bytesOf 36 = 32 := by kernel_rfl
theorem list1 {α : Type} {l : List α} (h : l.length = 1) : ∃ a, l = [a] := by
  match l, h with
  | [a], _ => exact ⟨a, rfl⟩
/-- The bounds of a definition. -/
def DBd (d : Df) : Prop := d.body.length * 48 ≤ reachBytes ∧ ∀ x ∈ d.body, x.kids.length * 8 ≤ reachBytes

theorem open_defC {H : Type} {enc : TypeId × Value → H} {W : World} {cs : List Value} {fuel : Nat} {y : DataW H × List MemPlace}
    (hf : DataW.trod enc Try.prog W 0 (fun _ => true) true fuel 36 cs = some y) (hw : ∀ n ∈ DataW.weights Try.prog 36 y.1, n ≤ reachBytes) :
    ∃ (d : Df) (g : Option Addr) (c : Nat), cs = [.int .i64 d.params, .slice g d.body.length c] ∧ ExsN W g d.body ∧ DBd d := by
  obtain ⟨ys, n, _, rfl, hl, hlen, hfs⟩ := DataW.trod_struct Try.underlying36 hf
  obtain ⟨c0, c1, rfl⟩ := list2 (hl.trans cells36b)
  obtain ⟨y0, y1, rfl⟩ := list2 (show ys.length = 2 from hlen)
  have h0 := hfs 0 _ rfl
  have h1 := hfs 1 _ rfl
  simp [cells3, cells34] at h0 h1
  obtain ⟨n0, e0, _, _⟩ := DataW.trod_int Try.underlying3 h0
  obtain ⟨g, xs, c, e1, hn, hb, hk⟩ := open_body h1 (fun m hm => hw m (by
    rw [List.map_cons, List.map_cons, List.map_nil, DataW.weights, Try.underlying36]
    exact DataW.weights_mem_each (j := 1) rfl rfl m hm))
  simp at e0 e1
  subst e0 e1
  exact ⟨⟨n0, xs⟩, g, c, rfl, hn, hb, hk⟩

theorem open_defs {H : Type} {enc : TypeId × Value → H} {W : World} {cs : List Value} {fuel : Nat} {y : DataW H × List MemPlace}
    (hf : DataW.trod enc Try.prog W 0 (fun _ => true) true fuel 22 cs = some y) (hw : ∀ n ∈ DataW.weights Try.prog 22 y.1, n ≤ reachBytes) :
    ∃ (g : Option Addr) (ds : List Df) (c : Nat), cs = [.slice g ds.length c] ∧ Defs ExsN W g ds ∧ ds.length * 32 ≤ reachBytes ∧ ∀ d ∈ ds, DBd d := by
  rcases open_slice Try.underlying22 hf with ⟨hcs, _⟩ | ⟨a, len, cap, m, n, D, Pl, hcs, _, hl, hm, hmm, hx, hel⟩
  · exact ⟨none, [], 0, hcs, Or.inl rfl, by simp, by simp⟩
  · simp only [if_true] at hmm
    subst hx
    simp only [cells36b] at hel
    have hwl := hw ((((List.range len).map D).length + ((List.range (m - len)).map fun j => D (len + j)).length) * Try.prog.bytesOf 36) (by rw [DataW.weights, Try.underlying22]; exact List.mem_cons_self)
    rw [bytes36b] at hwl
    simp only [List.length_map, List.length_range] at hwl
    have each : ∀ i, i < len → ∃ d : Df, (∃ gk ck, W.cell? (a.add (i * 2)) = some (.int .i64 d.params) ∧ W.cell? (a.add (i * 2 + 1)) = some (.slice gk d.body.length ck) ∧ ExsN W gk d.body) ∧ DBd d := by
      intro i hi
      obtain ⟨cs', h1, h2⟩ := hel i (by omega)
      obtain ⟨d, gk, ck, rfl, hn, hb⟩ := open_defC h2 (fun q hq => hw q (by
        rw [DataW.weights, Try.underlying22]
        exact List.mem_cons_of_mem _ (List.mem_append_left _ (mem_weightsAll hq (List.mem_map.2 ⟨i, List.mem_range.2 hi, rfl⟩)))))
      have hc := (World.cells?_some h1).2.2
      have k0 := hc 0 (by omega)
      have k1 := hc 1 (by omega)
      rw [add_add] at k0 k1
      exact ⟨d, ⟨gk, ck, k0, k1, hn⟩, hb⟩
    obtain ⟨E, hE⟩ := @choose_lt Df ⟨⟨0, []⟩⟩ _ _ each
    refine ⟨some a, (List.range len).map E, cap, by rw [hcs]; simp, ?_, by simp; omega, ?_⟩
    · by_cases h0 : len = 0
      · subst h0; exact Or.inl rfl
      · obtain ⟨b, off, spot⟩ := a
        obtain ⟨⟨gk, ck, k0, k1, _⟩, _⟩ := hE 0 (by omega)
        have hspot : spot = none := by simpa [Addr.add] using World.cell?_spot k0
        subst hspot
        refine Or.inr ⟨b, off, rfl, ?_, fun j x hx => ?_⟩
        · rw [Addr.add_lit] at k0
          exact World.block_lt_of_cell? _ _ k0
        · have hj : j < len := by
            have := (List.getElem?_eq_some_iff.1 hx).1
            simpa using this
          have e : x = E j := by
            rw [List.getElem?_map, List.getElem?_range hj] at hx
            exact (Option.some.inj hx).symm
          subst e
          obtain ⟨⟨gk, ck, q0, q1, q2⟩, _⟩ := hE j hj
          rw [Addr.add_lit] at q0 q1
          exact ⟨gk, ck, q0, q1, q2⟩
    · intro x hx
      obtain ⟨i, hi, rfl⟩ := List.mem_map.1 hx
      exact (hE i (List.mem_range.1 hi)).2

theorem open_program {H : Type} {enc : TypeId × Value → H} {W : World} {r : Reach} {b0 : Nat} {v : Value} {d : DataW H} {ps : List MemPlace} {ts : List TypeId} {ds : List (DataW H)} {j : Nat}
    (hval : Value.okWide Try.prog W r b0 24 v) (h : DataW.Trod enc Try.prog W 0 (fun _ => true) true 24 v d ps)
    (hsz : (DataW.weightsEach Try.prog ts ds).all (· ≤ reachBytes) = true) (ht : ts[j]? = some 24) (hd : ds[j]? = some d) :
    ∃ (g : Option Addr) (fs : List Df) (c : Nat), v = .agg #[.slice g fs.length c] ∧ Defs ExsN W g fs ∧ fs.length * 32 ≤ reachBytes ∧ ∀ d ∈ fs, DBd d := by
  have hw : ∀ n ∈ DataW.weights Try.prog 24 d, n ≤ reachBytes := fun n hn => by
    have := List.all_eq_true.1 hsz n (DataW.weights_mem_each ht hd n hn)
    simpa using this
  obtain ⟨⟨l⟩, rfl, hs⟩ := okWide_struct Try.underlying24 hval
  obtain ⟨fuel, hf⟩ := h
  obtain ⟨ys, n, _, hx, hl, hlen, hfs⟩ := DataW.trod_struct Try.underlying24 hf
  obtain ⟨c0, rfl⟩ := list1 (show l.length = 1 from hs.trans cells24b)
  obtain ⟨y0, rfl⟩ := list1 (show ys.length = 1 from hlen)
  have h0 := hfs 0 _ rfl
  simp [cells22b, Value.cells] at h0
  simp only [Prod.mk.injEq] at hx
  obtain ⟨rfl, _⟩ := hx
  obtain ⟨g, fs, c, e1, hn, hb, hk⟩ := open_defs h0 (fun m hm => hw m (by
    rw [List.map_cons, List.map_nil, DataW.weights, Try.underlying24]
    exact DataW.weights_mem_each (j := 0) rfl rfl m hm))
  simp at e1
  subst e1
  exact ⟨g, fs, c, rfl, hn, hb, hk⟩
end Go.Proofs.Ytiobjkmpeiohdaa
