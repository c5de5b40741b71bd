/- A definition that comes in: its parts as plain data, with the bounds that the sized condition gives. -/
import Derived.Test.YtiobjkmpeiohdaaMem
import Derived.SizedLaws
import Derived.Carry
namespace Go.Proofs.Ytiobjkmpeiohdaa
open Go.RowKit Go.ChangeShapes Go.WideShapes Go.Deep
set_option linter.unusedVariables false

theorem laidOut : laidOutB Try.prog = true := by kernel_rfl
theorem cells3 : Try.prog.cellsOf 3 = 1 := by kernel_rfl
theorem cells31 : Try.prog.cellsOf 31 = 1 := by kernel_rfl
theorem cells34 : Try.prog.cellsOf 34 = 1 := by kernel_rfl
theorem cells33 : Try.prog.cellsOf 33 = 4 := by kernel_rfl
theorem cells36 : Try.prog.cellsOf 36 = 2 := by kernel_rfl
theorem bytes3 : Try.prog.bytesOf 3 = 8 := by kernel_rfl
theorem bytes33 : Try.prog.bytesOf 33 = 48 := by kernel_rfl
theorem list4 {α : Type} {l : List α} (h : l.length = 4) : ∃ a b c d, l = [a, b, c, d] := by
  match l, h with
  | [a, b, c, d], _ => exact ⟨a, b, c, d, rfl⟩
theorem list2 {α : Type} {l : List α} (h : l.length = 2) : ∃ a b, l = [a, b] := by
  match l, h with
  | [a, b], _ => exact ⟨a, b, rfl⟩
theorem mem_weightsAll {H : Type} {P : Program} {e : TypeId} {d : DataW H} {n : Nat} (hn : n ∈ d.weights P e) : ∀ {l : List (DataW H)}, d ∈ l → n ∈ DataW.weightsAll P e l
  | [], h => by cases h
  | x :: l, h => by
    rw [DataW.weightsAll]
    rcases List.mem_cons.1 h with h | h
    · subst h; exact List.mem_append_left _ hn
    · exact List.mem_append_right _ (mem_weightsAll hn h)

/-- Parts in a slice, wherever it lies; a nil list of kids has no room. -/
def ExsN (w : World) (g : Option Addr) (xs : List Ex) : Prop :=
  xs = [] ∨ ∃ bk o, g = some ⟨bk, o, none⟩ ∧ bk < w.heap.size ∧ ∀ (j : Nat) x, xs[j]? = some x → ∃ gk ck, ExAt w bk (o + j * 4) x gk ck ∧ (gk = none → ck = 0)
theorem ExsN.exs {w : World} {g : Option Addr} {xs : List Ex} (h : ExsN w g xs) : Exs w g xs := by
  rcases h with h | ⟨bk, o, h1, h2, h3⟩
  · exact Or.inl h
  · exact Or.inr ⟨bk, o, h1, h2, fun j x hx => by obtain ⟨gk, ck, h, _⟩ := h3 j x hx; exact ⟨gk, ck, h⟩⟩
theorem ExsN.at {w : World} {g : Option Addr} {xs : List Ex} (h : ExsN w g xs) {j : Nat} (hj : j < xs.length) : ∃ bk o, g = some ⟨bk, o, none⟩ ∧ bk < w.heap.size ∧ ∃ gk ck, ExAt w bk (o + j * 4) xs[j] gk ck ∧ (gk = none → ck = 0) := by
  rcases h with h | ⟨bk, o, h1, h2, h3⟩
  · subst h; simp at hj
  · exact ⟨bk, o, h1, h2, h3 j _ (List.getElem?_eq_getElem hj)⟩
theorem ExsN.on {w w' : World} {g : Option Addr} {xs : List Ex} (h : ExsN w g xs) (hb : Below w.heap.size w w') : ExsN w' g xs := by
  rcases h with h | ⟨bk, o, h1, h2, h3⟩
  · exact Or.inl h
  · exact Or.inr ⟨bk, o, h1, Nat.lt_of_lt_of_le h2 hb.size, fun j x hx => by obtain ⟨gk, ck, h, hn⟩ := h3 j x hx; exact ⟨gk, ck, h.on h2 hb, hn⟩⟩

theorem open_nums {H : Type} {enc : TypeId × Value → H} {W : World} {cs : List Value} {fuel : Nat} {y : DataW H × List MemPlace}
    (hf : DataW.trod enc Try.prog W 0 (fun _ => true) true fuel 31 cs = some y) (hw : ∀ n ∈ DataW.weights Try.prog 31 y.1, n ≤ reachBytes) :
    ∃ (g : Option Addr) (xs : List Int) (c : Nat), cs = [.slice g xs.length c] ∧ Nums W g xs ∧ (g = none → c = 0) ∧ xs.length * 8 ≤ reachBytes := by
  rcases open_ints Try.underlying31 Try.underlying3 cells3 hf with ⟨hcs, _⟩ | ⟨a, len, cap, zs, hcs, _, hl, _, hz, hx, hcell, _⟩
  · exact ⟨none, [], 0, hcs, Or.inl rfl, fun _ => rfl, by simp⟩
  · simp only [if_true] at hz
    subst hx
    have e : (zs.take len).length = len := by rw [List.length_take]; omega
    have h1 := hw (((lits .i64 (zs.take len) : List (DataW H)).length + (lits .i64 (zs.drop len) : List (DataW H)).length) * Try.prog.bytesOf 3) (by rw [DataW.weights, Try.underlying31]; exact List.mem_cons_self)
    rw [bytes3] at h1
    simp only [lits, List.length_map, e] at h1
    refine ⟨some a, zs.take len, cap, by rw [hcs, e], ?_, (fun h => by cases h), by rw [e]; omega⟩
    by_cases h0 : len = 0
    · subst h0; exact Or.inl (by simp)
    · obtain ⟨b, off, spot⟩ := a
      have h00 := hcell 0 (by omega)
      have hspot : spot = none := by simpa [Addr.add] using World.cell?_spot h00
      subst hspot
      refine Or.inr ⟨b, off, rfl, ?_, fun j x hx => ?_⟩
      · rw [Addr.add_lit] at h00
        exact World.block_lt_of_cell? _ _ h00
      · rw [List.getElem?_take] at hx
        split at hx
        · have h2 := hcell j (by omega)
          rw [Addr.add_lit, List.getD, hx] at h2
          exact h2
        · cases hx

theorem open_part {H : Type} {enc : TypeId × Value → H} {W : World} {cs : List Value} {fuel : Nat} {y : DataW H × List MemPlace}
    (hf : DataW.trod enc Try.prog W 0 (fun _ => true) true fuel 33 cs = some y) (hw : ∀ n ∈ DataW.weights Try.prog 33 y.1, n ≤ reachBytes) :
    ∃ (e : Ex) (g : Option Addr) (c : Nat), cs = [.int .i64 e.kind, .int .i64 e.num, .int .i64 e.bind, .slice g e.kids.length c] ∧ Nums W g e.kids ∧ (g = none → c = 0) ∧ e.kids.length * 8 ≤ reachBytes := by
  obtain ⟨ys, n, _, rfl, hl, hlen, hfs⟩ := DataW.trod_struct Try.underlying33 hf
  obtain ⟨c0, c1, c2, c3, rfl⟩ := list4 (hl.trans cells33)
  obtain ⟨y0, y1, y2, y3, rfl⟩ := list4 (show ys.length = 4 from hlen)
  have h0 := hfs 0 _ rfl
  have h1 := hfs 1 _ rfl
  have h2 := hfs 2 _ rfl
  have h3 := hfs 3 _ rfl
  simp [cells3, cells31] at h0 h1 h2 h3
  obtain ⟨n0, e0, _, _⟩ := DataW.trod_int Try.underlying3 h0
  obtain ⟨n1, e1, _, _⟩ := DataW.trod_int Try.underlying3 h1
  obtain ⟨n2, e2, _, _⟩ := DataW.trod_int Try.underlying3 h2
  obtain ⟨g, xs, c, e3, hn, hg0, hb⟩ := open_nums h3 (fun m hm => hw m (by
    rw [List.map_cons, List.map_cons, List.map_cons, List.map_cons, List.map_nil, DataW.weights, Try.underlying33]
    exact DataW.weights_mem_each (j := 3) rfl rfl m hm))
  simp at e0 e1 e2 e3
  subst e0 e1 e2 e3
  exact ⟨⟨n0, n1, n2, xs⟩, g, c, rfl, hn, hg0, hb⟩

theorem open_body {H : Type} {enc : TypeId × Value → H} {W : World} {cs : List Value} {fuel : Nat} {y : DataW H × List MemPlace}
    (hf : DataW.trod enc Try.prog W 0 (fun _ => true) true fuel 34 cs = some y) (hw : ∀ n ∈ DataW.weights Try.prog 34 y.1, n ≤ reachBytes) :
    ∃ (g : Option Addr) (xs : List Ex) (c : Nat), cs = [.slice g xs.length c] ∧ ExsN W g xs ∧ xs.length * 48 ≤ reachBytes ∧ ∀ x ∈ xs, x.kids.length * 8 ≤ reachBytes := by
  rcases open_slice Try.underlying34 hf with ⟨hcs, _⟩ | ⟨a, len, cap, m, n, D, Pl, hcs, _, hl, hm, hmm, hx, hel⟩
  · exact ⟨none, [], 0, hcs, Or.inl rfl, by simp, by simp⟩
  · simp only [if_true] at hmm
    subst hx
    simp only [cells33] at hel
    have hwl := hw ((((List.range len).map D).length + ((List.range (m - len)).map fun j => D (len + j)).length) * Try.prog.bytesOf 33) (by rw [DataW.weights, Try.underlying34]; exact List.mem_cons_self)
    rw [bytes33] at hwl
    simp only [List.length_map, List.length_range] at hwl
    have each : ∀ i, i < len → ∃ e : Ex, (∃ gk ck, W.cell? (a.add (i * 4)) = some (.int .i64 e.kind) ∧ W.cell? (a.add (i * 4 + 1)) = some (.int .i64 e.num) ∧ W.cell? (a.add (i * 4 + 2)) = some (.int .i64 e.bind) ∧ W.cell? (a.add (i * 4 + 3)) = some (.slice gk e.kids.length ck) ∧ Nums W gk e.kids ∧ (gk = none → ck = 0)) ∧ e.kids.length * 8 ≤ reachBytes := by
      intro i hi
      obtain ⟨cs', h1, h2⟩ := hel i (by omega)
      obtain ⟨e, gk, ck, rfl, hn, hg0, hb⟩ := open_part h2 (fun q hq => hw q (by
        rw [DataW.weights, Try.underlying34]
        exact List.mem_cons_of_mem _ (List.mem_append_left _ (mem_weightsAll hq (List.mem_map.2 ⟨i, List.mem_range.2 hi, rfl⟩)))))
      have hc := (World.cells?_some h1).2.2
      have k0 := hc 0 (by omega)
      have k1 := hc 1 (by omega)
      have k2 := hc 2 (by omega)
      have k3 := hc 3 (by omega)
      rw [add_add] at k0 k1 k2 k3
      exact ⟨e, ⟨gk, ck, k0, k1, k2, k3, hn, hg0⟩, hb⟩
    obtain ⟨E, hE⟩ := @choose_lt Ex ⟨⟨0, 0, 0, []⟩⟩ _ _ each
    refine ⟨some a, (List.range len).map E, cap, by rw [hcs]; simp, ?_, by simp; omega, ?_⟩
    · by_cases h0 : len = 0
      · subst h0; exact Or.inl rfl
      · obtain ⟨b, off, spot⟩ := a
        obtain ⟨⟨gk, ck, k0, k1, _⟩, _⟩ := hE 0 (by omega)
        have hspot : spot = none := by simpa [Addr.add] using World.cell?_spot k0
        subst hspot
        refine Or.inr ⟨b, off, rfl, ?_, fun j x hx => ?_⟩
        · rw [Addr.add_lit] at k0
          exact World.block_lt_of_cell? _ _ k0
        · have hj : j < len := by
            have := (List.getElem?_eq_some_iff.1 hx).1
            simpa using this
          have e : x = E j := by
            rw [List.getElem?_map, List.getElem?_range hj] at hx
            exact (Option.some.inj hx).symm
          subst e
          obtain ⟨⟨gk, ck, q0, q1, q2, q3, q4, q5⟩, _⟩ := hE j hj
          rw [Addr.add_lit] at q0 q1 q2 q3
          exact ⟨gk, ck, ⟨q0, q1, q2, q3, q4⟩, q5⟩
    · intro x hx
      obtain ⟨i, hi, rfl⟩ := List.mem_map.1 hx
      exact (hE i (List.mem_range.1 hi)).2

theorem open_def {H : Type} {enc : TypeId × Value → H} {W : World} {r : Reach} {b0 : Nat} {v : Value} {d : DataW H} {ps : List MemPlace} {ts : List TypeId} {ds : List (DataW H)} {j : Nat}
    (hval : Value.okWide Try.prog W r b0 36 v) (h : DataW.Trod enc Try.prog W 0 (fun _ => true) true 36 v d ps)
    (hsz : (DataW.weightsEach Try.prog ts ds).all (· ≤ reachBytes) = true) (ht : ts[j]? = some 36) (hd : ds[j]? = some d) :
    ∃ (p : Int) (g : Option Addr) (xs : List Ex) (c : Nat), v = .agg #[.int .i64 p, .slice g xs.length c] ∧ ExsN W g xs ∧ xs.length * 48 ≤ reachBytes ∧ ∀ x ∈ xs, x.kids.length * 8 ≤ reachBytes := by
  have hw : ∀ n ∈ DataW.weights Try.prog 36 d, n ≤ reachBytes := fun n hn => by
    have := List.all_eq_true.1 hsz n (DataW.weights_mem_each ht hd n hn)
    simpa using this
  obtain ⟨⟨l⟩, rfl, hs⟩ := okWide_struct Try.underlying36 hval
  obtain ⟨fuel, hf⟩ := h
  obtain ⟨ys, n, _, hx, hl, hlen, hfs⟩ := DataW.trod_struct Try.underlying36 hf
  obtain ⟨c0, c1, rfl⟩ := list2 (show l.length = 2 from hs.trans cells36)
  obtain ⟨y0, y1, rfl⟩ := list2 (show ys.length = 2 from hlen)
  have h0 := hfs 0 _ rfl
  have h1 := hfs 1 _ rfl
  simp [cells3, cells34, Value.cells] at h0 h1
  simp only [Prod.mk.injEq] at hx
  obtain ⟨rfl, _⟩ := hx
  obtain ⟨n0, e0, _, _⟩ := DataW.trod_int Try.underlying3 h0
  obtain ⟨g, xs, c, e1, hn, hb, hk⟩ := open_body h1 (fun m hm => hw m (by
    rw [List.map_cons, List.map_cons, List.map_nil, DataW.weights, Try.underlying36]
    exact DataW.weights_mem_each (j := 1) rfl rfl m hm))
  simp at e0 e1
  subst e0 e1
  exact ⟨n0, g, xs, c, rfl, hn, hb, hk⟩
end Go.Proofs.Ytiobjkmpeiohdaa
