/- ShowRow: the first turned body: region 6. -/
import Derived.Test.YtgjhpmkahicnkaaDoorMLaid
import Derived.Test.YtgjhpmkahicnkaaDoorMSmall
import Derived.Deep.DrawnRows
import Derived.Deep.RegionHeld3
namespace Go.Proofs.YtgjhpmkahicnkaaDoor.showRow
open Go.RowKit
set_option linter.unusedVariables false
attribute [local go_sem ↓] Go.wp_at_zero Go.wp_at_succ

/-- The parts that are read, the header and the box. -/
structure Kp (B Z : Nat) (w : World) : Prop where
  body : Rw w (B + 9) (addsC (B + 5))
  row : ∃ C, Rd w (B + 10) C ∧ C.size = 4
  box : Bx1 w Z (.slice (some ⟨B + 10, 0, none⟩) 2 2)
theorem Kp.drew {B Z : Nat} {w : World} (h : Kp B Z w) : Kp B Z w.drew := ⟨h.body, h.row, h.box⟩
theorem Kp.alloc {B Z : Nat} {w : World} (h : Kp B Z w) (o : Obj) : Kp B Z (w.alloc o) := by
  obtain ⟨C, hC, hs⟩ := h.row
  exact ⟨h.body.alloc o, ⟨C, hC.alloc o, hs⟩, h.box.alloc o⟩
/-- What stands ahead of region 6. -/
structure Pre (w : World) (B Z : Nat) (W : World) : Prop where
  small : SmallAt W B
  box : Bx1 W Z (.slice (some ⟨B + 10, 0, none⟩) 2 2)
  below : Below w.heap.size w W
  size : W.heap.size = Z + 1
  z : Z = B + 11
  lo : w.heap.size ≤ B
theorem Pre.kp {w W : World} {B Z : Nat} (h : Pre w B Z W) : Kp B Z W := ⟨h.small.adds.body, ⟨_, h.small.row, rfl⟩, h.box⟩
theorem grabW {c : Code} {a : Act} {W : World} {Q : Exit → Act → World → Prop} (p : World → Prop) (h : p W) (k : ∀ W', p W' → Code.wp Tryd.prog c Q a W') : Code.wp Tryd.prog c Q a W := k W h
theorem Kp.set {B Z : Nat} {w : World} (h : Kp B Z w) (hz : Z = B + 11) (v : Value) : Kp B Z (w.setCell ⟨B + 10, 3, none⟩ v) := by
  obtain ⟨C, hC, hs⟩ := h.row
  exact ⟨h.body.other 3 v (by omega), ⟨_, hC.set 3 v, by simpa using hs⟩, (Below.heap_setCell w _ _ Z (by show Z ≠ B + 10; omega)).trans h.box⟩
/-- The cell that lies there. -/
def cel (w : World) (p : Addr) : Value := (w.cell? p).getD .nilIface
theorem Kp.all {B Z : Nat} {w : World} (h : Kp B Z w) : Kp B Z w ∧ w.cell? ⟨Z, 0, none⟩ = some (.slice (some ⟨B + 10, 0, none⟩) 2 2) ∧ w.cell? ⟨B + 10, 3, none⟩ = some (cel w ⟨B + 10, 3, none⟩) ∧ w.frozen? ⟨B + 10, 3, none⟩ = false ∧ w.cell? ⟨B + 9, 0, none⟩ = some (.int .i64 1) ∧ w.cell? ⟨B + 9, 1, none⟩ = some (.int .i64 0) ∧ w.cell? ⟨B + 9, 2, none⟩ = some (.int .i64 0) ∧ w.cell? ⟨B + 9, 3, none⟩ = some (.slice none 0 0) ∧ w.cell? ⟨B + 9, 4, none⟩ = some (.int .i64 1) ∧ w.cell? ⟨B + 9, 5, none⟩ = some (.int .i64 3) ∧ w.cell? ⟨B + 9, 6, none⟩ = some (.int .i64 0) ∧ w.cell? ⟨B + 9, 7, none⟩ = some (.slice none 0 0) ∧ w.cell? ⟨B + 9, 8, none⟩ = some (.int .i64 1) ∧ w.cell? ⟨B + 9, 9, none⟩ = some (.int .i64 1) ∧ w.cell? ⟨B + 9, 10, none⟩ = some (.int .i64 0) ∧ w.cell? ⟨B + 9, 11, none⟩ = some (.slice none 0 0) ∧ w.cell? ⟨B + 9, 16, none⟩ = some (.int .i64 1) ∧ w.cell? ⟨B + 9, 17, none⟩ = some (.int .i64 0) ∧ w.cell? ⟨B + 9, 18, none⟩ = some (.int .i64 0) ∧ w.cell? ⟨B + 9, 19, none⟩ = some (.slice none 0 0) ∧ w.cell? ⟨B + 9, 20, none⟩ = some (.int .i64 1) ∧ w.cell? ⟨B + 9, 21, none⟩ = some (.int .i64 1) ∧ w.cell? ⟨B + 9, 22, none⟩ = some (.int .i64 0) ∧ w.cell? ⟨B + 9, 23, none⟩ = some (.slice none 0 0) := by
  obtain ⟨C, hC, hs⟩ := h.row
  refine ⟨h, h.box.c0, ?_, hC.frozen 3, h.body.cell 0 _ rfl, h.body.cell 1 _ rfl, h.body.cell 2 _ rfl, h.body.cell 3 _ rfl, h.body.cell 4 _ rfl, h.body.cell 5 _ rfl, h.body.cell 6 _ rfl, h.body.cell 7 _ rfl, h.body.cell 8 _ rfl, h.body.cell 9 _ rfl, h.body.cell 10 _ rfl, h.body.cell 11 _ rfl, h.body.cell 16 _ rfl, h.body.cell 17 _ rfl, h.body.cell 18 _ rfl, h.body.cell 19 _ rfl, h.body.cell 20 _ rfl, h.body.cell 21 _ rfl, h.body.cell 22 _ rfl, h.body.cell 23 _ rfl⟩
  have := hC.cell 3 C[3] (by simp [hs])
  unfold cel; rw [this]; rfl
def addsR : List Ex := [⟨1, 0, 0, []⟩, ⟨1, 0, 0, []⟩, ⟨1, 1, 0, []⟩, ⟨4, 0, 0, [1, 2]⟩, ⟨1, 3, 0, []⟩, ⟨1, 1, 0, []⟩, ⟨4, 0, 0, [4, 5]⟩, ⟨5, 7, 2, [0, 6, 3]⟩]
def partsC (za zb zc : Nat) : Array Value := #[I 1, I 0, I 0, nilS, I 1, I 0, I 0, nilS, I 1, I 1, I 0, nilS, I 4, I 0, I 0, .slice (some ⟨za, 0, none⟩) 2 2, I 1, I 3, I 0, nilS, I 1, I 1, I 0, nilS, I 4, I 0, I 0, .slice (some ⟨zb, 0, none⟩) 2 2, I 5, I 7, I 2, .slice (some ⟨zc, 0, none⟩) 3 3]
/-- What stands behind region 6. -/
structure P1 (w : World) (B Z : Nat) (g : Addr) (D : List Ex) (W : World) : Prop where
  row : Rd W (B + 10) #[I 0, .slice (some ⟨B + 3, 0, none⟩) 5 5, I 2, .slice (some g) 8 8]
  adds : ∀ W' : World, (∀ k, k ≠ B + 10 → k < W.heap.size → W'.heap[k]? = W.heap[k]?) → Exs W' (some g) D
  size : B + 11 < W.heap.size
  main : Rw W (B + 3) (mainC B)
  k1 : Lv W (B + 1) [0, 1]
  k2 : Lv W (B + 2) [2, 3]
  box : Bx1 W Z (.slice (some ⟨B + 10, 0, none⟩) 2 2)
  below : Below w.heap.size w W
  z : Z = B + 11
  lo : w.heap.size ≤ B
theorem mk_in {o1 o2 o3 o4 : Obj} {W : World} {s i : Nat} {x : Obj} (hs : W.heap.size = s) (hx : [o1, o2, o3, o4][i]? = some x) : ((((W.alloc o1).alloc o2).alloc o3).alloc o4).heap[s + i]? = some x := by
  subst hs
  rcases i with _ | _ | _ | _ | i
  · cases hx
    exact ((Below.heap_alloc _ o4 _ (by simp <;> omega)).trans ((Below.heap_alloc _ o3 _ (by simp <;> omega)).trans ((Below.heap_alloc _ o2 _ (by simp <;> omega)).trans (World.alloc_heap_new _ _))))
  · cases hx
    have h := World.alloc_heap_new (W.alloc o1) o2
    rw [World.size_alloc] at h
    exact ((Below.heap_alloc _ o4 _ (by simp <;> omega)).trans ((Below.heap_alloc _ o3 _ (by simp <;> omega)).trans h))
  · cases hx
    have h := World.alloc_heap_new ((W.alloc o1).alloc o2) o3
    simp only [World.size_alloc] at h
    exact (Below.heap_alloc _ o4 _ (by simp <;> omega)).trans h
  · cases hx
    have h := World.alloc_heap_new (((W.alloc o1).alloc o2).alloc o3) o4
    simp only [World.size_alloc] at h
    exact h
  · simp at hx
theorem Lv.obj {W : World} {z : Nat} {L : List Int} {o : Obj} (h : W.heap[z]? = some o) (ho : o = .cells (L.map (Value.int .i64)).toArray 3) : Lv W z L := by subst ho; exact h
theorem mk1 {w W : World} {B Z : Nat} (h : Pre w B Z W) {o1 o2 o3 : Obj} {ia ib ic : Nat}
    (ha : [o1, o2, o3][ia]? = some (.cells #[I 1, I 2] 3)) (hb : [o1, o2, o3][ib]? = some (.cells #[I 4, I 5] 3)) (hc : [o1, o2, o3][ic]? = some (.cells #[I 0, I 6, I 3] 3)) :
    P1 w B Z ⟨W.heap.size + 3, 0, none⟩ addsR (((((W.alloc o1).alloc o2).alloc o3).alloc (.cells (partsC (W.heap.size + ia) (W.heap.size + ib) (W.heap.size + ic)) 40)).setCell ⟨B + 10, 3, none⟩ (.slice (some ⟨W.heap.size + 3, 0, none⟩) 8 8)) := by
  obtain ⟨s, hs⟩ : ∃ s, W.heap.size = s := ⟨_, rfl⟩
  have hsz := h.size
  have hz := h.z
  have hlo := h.lo
  rw [hs]
  obtain ⟨o4, ho4⟩ : ∃ o, Obj.cells (partsC (s + ia) (s + ib) (s + ic)) 40 = o := ⟨_, rfl⟩
  rw [ho4]
  have la : ∀ {i : Nat} {x : Obj}, [o1, o2, o3][i]? = some x → [o1, o2, o3, o4][i]? = some x := fun {i x} hx => by
    have : i < 3 := by have := (List.getElem?_eq_some_iff.1 hx).1; simpa using this
    rcases i with _ | _ | _ | i
    · exact hx
    · exact hx
    · exact hx
    · omega
  have ka : Lv _ (s + ia) [1, 2] := Lv.obj (mk_in hs (la ha)) rfl
  have kb : Lv _ (s + ib) [4, 5] := Lv.obj (mk_in hs (la hb)) rfl
  have kc : Lv _ (s + ic) [0, 6, 3] := Lv.obj (mk_in hs (la hc)) rfl
  have kd : Rw ((((W.alloc o1).alloc o2).alloc o3).alloc o4) (s + 3) (partsC (s + ia) (s + ib) (s + ic)) := (mk_in (i := 3) (x := o4) hs rfl).trans (congrArg some ho4.symm)
  have hB : Below W.heap.size W ((((W.alloc o1).alloc o2).alloc o3).alloc o4) :=
    ((((Below.refl _ W).alloc (Nat.le_refl _) _).alloc (by simp) _).alloc (by simp; omega) _).alloc (by simp; omega) _
  have hw : Below w.heap.size w ((((W.alloc o1).alloc o2).alloc o3).alloc o4) := h.below.trans (hB.mono h.below.size)
  obtain ⟨X, hX⟩ : ∃ X, ((((W.alloc o1).alloc o2).alloc o3).alloc o4) = X := ⟨_, rfl⟩
  rw [hX] at ka kb kc kd hB hw ⊢
  have hsm := h.small.on hB
  have hbx := h.box.on hB
  have ka' := ka.other 3 (.slice (some ⟨s + 3, 0, none⟩) 8 8) (b' := B + 10) (by omega)
  have kb' := kb.other 3 (.slice (some ⟨s + 3, 0, none⟩) 8 8) (b' := B + 10) (by omega)
  have kc' := kc.other 3 (.slice (some ⟨s + 3, 0, none⟩) 8 8) (b' := B + 10) (by omega)
  have kd' := kd.other 3 (.slice (some ⟨s + 3, 0, none⟩) 8 8) (b' := B + 10) (by omega)
  have l1 := ka'.lt
  have l2 := kb'.lt
  have l3 := kc'.lt
  have l4 := kd'.lt
  refine ⟨hsm.row.set 3 _, fun W' hk => ?_, by omega, hsm.main.other 3 _ (by omega), hsm.k1.other 3 _ (by omega), hsm.k2.other 3 _ (by omega), (Below.heap_setCell X _ _ Z (by show Z ≠ B + 10; omega)).trans hbx, hw.setCell (p := ⟨B + 10, 3, none⟩) (by show w.heap.size ≤ B + 10; omega) _, hz, hlo⟩
  have qa : Lv W' (s + ia) [1, 2] := (hk (s + ia) (by omega) l1).trans ka'
  have qb : Lv W' (s + ib) [4, 5] := (hk (s + ib) (by omega) l2).trans kb'
  have qc : Lv W' (s + ic) [0, 6, 3] := (hk (s + ic) (by omega) l3).trans kc'
  have qd : Rw W' (s + 3) (partsC (s + ia) (s + ib) (s + ic)) := (hk (s + 3) (by omega) l4).trans kd'
  exact exs_of_row qd ⟨rfl, rfl, rfl, ⟨_, _, rfl, nums_nil _ _⟩, rfl, rfl, rfl, ⟨_, _, rfl, nums_nil _ _⟩, rfl, rfl, rfl, ⟨_, _, rfl, nums_nil _ _⟩, rfl, rfl, rfl, ⟨_, _, rfl, qa.nums⟩, rfl, rfl, rfl, ⟨_, _, rfl, nums_nil _ _⟩, rfl, rfl, rfl, ⟨_, _, rfl, nums_nil _ _⟩, rfl, rfl, rfl, ⟨_, _, rfl, qb.nums⟩, rfl, rfl, rfl, ⟨_, _, rfl, qc.nums⟩, trivial⟩
/-- Where adds was left as it was. -/
theorem mk0 {w W : World} {B Z : Nat} (h : Pre w B Z W) : P1 w B Z ⟨B + 9, 0, none⟩ addsL W := by
  have hsz := h.size
  have hz := h.z
  refine ⟨h.small.row, fun W' hk => ?_, by omega, h.small.main, h.small.k1, h.small.k2, h.box, h.below, hz, h.lo⟩
  have ad := h.small.adds
  have q : AddsAt W' (B + 5) := ⟨(hk (B + 9) (by omega) (by omega)).trans ad.body, (hk (B + 6) (by omega) (by omega)).trans ad.k1, (hk (B + 7) (by omega) (by omega)).trans ad.k2, (hk (B + 8) (by omega) (by omega)).trans ad.k3⟩
  exact q.exs
/-- What stands ahead of the end: a program in its box that may be, whose text is small's. -/
structure Rdy (w : World) (B Z : Nat) (W : World) : Prop where
  box : Bx1 W Z (.slice (some ⟨B + 10, 0, none⟩) 2 2)
  defs : ∃ ds, Defs Exs W (some ⟨B + 10, 0, none⟩) ds ∧ ds.length = 2 ∧ pmay ds = true ∧ showS ds = showS smallL
  below : Below w.heap.size w W
theorem P1.rdy {w W : World} {B Z : Nat} {g : Addr} {D : List Ex} (h : P1 w B Z g D W) (hl : D.length = 8) (hm : pmay [⟨0, mainL⟩, ⟨2, D⟩] = true) (hs : showS [⟨0, mainL⟩, ⟨2, D⟩] = showS smallL) : Rdy w B Z W :=
  ⟨h.box, ⟨[⟨0, mainL⟩, ⟨2, D⟩], h.row.defs ⟨rfl, ⟨_, _, rfl, exs_of_row h.main ⟨rfl, rfl, rfl, ⟨_, _, rfl, nums_nil _ _⟩, rfl, rfl, rfl, ⟨_, _, rfl, nums_nil _ _⟩, rfl, rfl, rfl, ⟨_, _, rfl, h.k1.nums⟩, rfl, rfl, rfl, ⟨_, _, rfl, nums_nil _ _⟩, rfl, rfl, rfl, ⟨_, _, rfl, h.k2.nums⟩, trivial⟩⟩, rfl, ⟨some g, 8, by show _ = Value.slice _ D.length _; rw [hl], h.adds W (fun _ _ _ => rfl)⟩, trivial⟩, rfl, hm, hs⟩, h.below⟩
def mainR : List Ex := [⟨0, 5, 0, []⟩, ⟨0, 4, 0, []⟩, ⟨7, 0, 0, []⟩, ⟨3, 7, 0, [2, 1]⟩, ⟨2, 1, 0, [3, 0]⟩]
def partsM (za zb : Nat) : Array Value := #[I 0, I 5, I 0, nilS, I 0, I 4, I 0, nilS, I 7, I 0, I 0, nilS, I 3, I 7, I 0, .slice (some ⟨za, 0, none⟩) 2 2, I 2, I 1, I 0, .slice (some ⟨zb, 0, none⟩) 2 2]
/-- The parts of main that are read, the header and the box. -/
structure Km (B Z : Nat) (w : World) : Prop where
  body : Rw w (B + 3) (mainC B)
  row : ∃ C, Rd w (B + 10) C ∧ C.size = 4
  box : Bx1 w Z (.slice (some ⟨B + 10, 0, none⟩) 2 2)
theorem P1.km {w W : World} {B Z : Nat} {g : Addr} {D : List Ex} (h : P1 w B Z g D W) : Km B Z W := ⟨h.main, ⟨_, h.row, rfl⟩, h.box⟩
theorem Km.drew {B Z : Nat} {w : World} (h : Km B Z w) : Km B Z w.drew := ⟨h.body, h.row, h.box⟩
theorem Km.alloc {B Z : Nat} {w : World} (h : Km B Z w) (o : Obj) : Km B Z (w.alloc o) := by
  obtain ⟨C, hC, hs⟩ := h.row
  exact ⟨h.body.alloc o, ⟨C, hC.alloc o, hs⟩, h.box.alloc o⟩
theorem Km.set {B Z : Nat} {w : World} (h : Km B Z w) (hz : Z = B + 11) (v : Value) : Km B Z (w.setCell ⟨B + 10, 1, none⟩ v) := by
  obtain ⟨C, hC, hs⟩ := h.row
  exact ⟨h.body.other 1 v (by omega), ⟨_, hC.set 1 v, by simpa using hs⟩, (Below.heap_setCell w _ _ Z (by show Z ≠ B + 10; omega)).trans h.box⟩
theorem Km.all {B Z : Nat} {w : World} (h : Km B Z w) : Km B Z w ∧ w.cell? ⟨Z, 0, none⟩ = some (.slice (some ⟨B + 10, 0, none⟩) 2 2) ∧ w.cell? ⟨B + 10, 1, none⟩ = some (cel w ⟨B + 10, 1, none⟩) ∧ w.frozen? ⟨B + 10, 1, none⟩ = false ∧ w.cell? ⟨B + 3, 0, none⟩ = some (.int .i64 7) ∧ w.cell? ⟨B + 3, 1, none⟩ = some (.int .i64 0) ∧ w.cell? ⟨B + 3, 2, none⟩ = some (.int .i64 0) ∧ w.cell? ⟨B + 3, 3, none⟩ = some (.slice none 0 0) ∧ w.cell? ⟨B + 3, 4, none⟩ = some (.int .i64 0) ∧ w.cell? ⟨B + 3, 5, none⟩ = some (.int .i64 4) ∧ w.cell? ⟨B + 3, 6, none⟩ = some (.int .i64 0) ∧ w.cell? ⟨B + 3, 7, none⟩ = some (.slice none 0 0) ∧ w.cell? ⟨B + 3, 12, none⟩ = some (.int .i64 0) ∧ w.cell? ⟨B + 3, 13, none⟩ = some (.int .i64 5) ∧ w.cell? ⟨B + 3, 14, none⟩ = some (.int .i64 0) ∧ w.cell? ⟨B + 3, 15, none⟩ = some (.slice none 0 0) := by
  obtain ⟨C, hC, hs⟩ := h.row
  refine ⟨h, h.box.c0, ?_, hC.frozen 1, h.body.cell 0 _ rfl, h.body.cell 1 _ rfl, h.body.cell 2 _ rfl, h.body.cell 3 _ rfl, h.body.cell 4 _ rfl, h.body.cell 5 _ rfl, h.body.cell 6 _ rfl, h.body.cell 7 _ rfl, h.body.cell 12 _ rfl, h.body.cell 13 _ rfl, h.body.cell 14 _ rfl, h.body.cell 15 _ rfl⟩
  have := hC.cell 1 C[1] (by simp [hs])
  unfold cel; rw [this]; rfl
theorem mk_in3 {o1 o2 o4 : Obj} {W : World} {s i : Nat} {x : Obj} (hs : W.heap.size = s) (hx : [o1, o2, o4][i]? = some x) : (((W.alloc o1).alloc o2).alloc o4).heap[s + i]? = some x := by
  subst hs
  rcases i with _ | _ | _ | i
  · cases hx
    exact ((Below.heap_alloc _ o4 _ (by simp <;> omega)).trans ((Below.heap_alloc _ o2 _ (by simp)).trans (World.alloc_heap_new _ _)))
  · cases hx
    have h := World.alloc_heap_new (W.alloc o1) o2
    rw [World.size_alloc] at h
    exact ((Below.heap_alloc _ o4 _ (by simp <;> omega)).trans h)
  · cases hx
    have h := World.alloc_heap_new ((W.alloc o1).alloc o2) o4
    simp only [World.size_alloc] at h
    exact h
  · simp at hx
theorem mk2 {w W : World} {B Z : Nat} {g : Addr} {D : List Ex} (h : P1 w B Z g D W) (hl : D.length = 8) (hm : pmay [⟨0, mainR⟩, ⟨2, D⟩] = true) (hsh : showS [⟨0, mainR⟩, ⟨2, D⟩] = showS smallL) {o1 o2 : Obj} {ia ib : Nat}
    (ha : [o1, o2][ia]? = some (.cells #[I 2, I 1] 3)) (hb : [o1, o2][ib]? = some (.cells #[I 3, I 0] 3)) :
    Rdy w B Z ((((W.alloc o1).alloc o2).alloc (.cells (partsM (W.heap.size + ia) (W.heap.size + ib)) 40)).setCell ⟨B + 10, 1, none⟩ (.slice (some ⟨W.heap.size + 2, 0, none⟩) 5 5)) := by
  obtain ⟨s, hs⟩ : ∃ s, W.heap.size = s := ⟨_, rfl⟩
  have hsz := h.size
  have hz := h.z
  have hlo := h.lo
  rw [hs]
  obtain ⟨o4, ho4⟩ : ∃ o, Obj.cells (partsM (s + ia) (s + ib)) 40 = o := ⟨_, rfl⟩
  rw [ho4]
  have la : ∀ {i : Nat} {x : Obj}, [o1, o2][i]? = some x → [o1, o2, o4][i]? = some x := fun {i x} hx => by
    have : i < 2 := by have := (List.getElem?_eq_some_iff.1 hx).1; simpa using this
    rcases i with _ | _ | i
    · exact hx
    · exact hx
    · omega
  have ka : Lv _ (s + ia) [2, 1] := Lv.obj (mk_in3 hs (la ha)) rfl
  have kb : Lv _ (s + ib) [3, 0] := Lv.obj (mk_in3 hs (la hb)) rfl
  have kd : Rw (((W.alloc o1).alloc o2).alloc o4) (s + 2) (partsM (s + ia) (s + ib)) := (mk_in3 (i := 2) (x := o4) hs rfl).trans (congrArg some ho4.symm)
  have hB : Below W.heap.size W (((W.alloc o1).alloc o2).alloc o4) :=
    (((Below.refl _ W).alloc (Nat.le_refl _) _).alloc (by simp) _).alloc (by simp; omega) _
  have hw : Below w.heap.size w (((W.alloc o1).alloc o2).alloc o4) := h.below.trans (hB.mono h.below.size)
  obtain ⟨X, hX⟩ : ∃ X, (((W.alloc o1).alloc o2).alloc o4) = X := ⟨_, rfl⟩
  rw [hX] at ka kb kd hB hw ⊢
  have ka' := ka.other 1 (.slice (some ⟨s + 2, 0, none⟩) 5 5) (b' := B + 10) (by omega)
  have kb' := kb.other 1 (.slice (some ⟨s + 2, 0, none⟩) 5 5) (b' := B + 10) (by omega)
  have kd' := kd.other 1 (.slice (some ⟨s + 2, 0, none⟩) 5 5) (b' := B + 10) (by omega)
  have hrow := (h.row.on hB).set 1 (.slice (some ⟨s + 2, 0, none⟩) 5 5)
  have hbx := h.box.on hB
  refine ⟨(Below.heap_setCell X _ _ Z (by show Z ≠ B + 10; omega)).trans hbx, ⟨[⟨0, mainR⟩, ⟨2, D⟩], hrow.defs ⟨rfl, ⟨_, _, rfl, ?_⟩, rfl, ⟨some g, 8, by show _ = Value.slice _ D.length _; rw [hl], ?_⟩, trivial⟩, rfl, hm, hsh⟩, hw.setCell (p := ⟨B + 10, 1, none⟩) (by show w.heap.size ≤ B + 10; omega) _⟩
  · exact exs_of_row kd' ⟨rfl, rfl, rfl, ⟨_, _, rfl, nums_nil _ _⟩, rfl, rfl, rfl, ⟨_, _, rfl, nums_nil _ _⟩, rfl, rfl, rfl, ⟨_, _, rfl, nums_nil _ _⟩, rfl, rfl, rfl, ⟨_, _, rfl, ka'.nums⟩, rfl, rfl, rfl, ⟨_, _, rfl, kb'.nums⟩, trivial⟩
  · exact h.adds _ (fun k hk hl => (Below.heap_setCell X _ _ k hk).trans (hB.block k hl))
theorem src_is : srcS = showS smallL := by decide +kernel
theorem may_0 : pmay [⟨0, mainL⟩, ⟨2, addsL⟩] = true := by decide +kernel
theorem may_m0 : pmay [⟨0, mainR⟩, ⟨2, addsL⟩] = true := by decide +kernel
theorem may_m1 : pmay [⟨0, mainR⟩, ⟨2, addsR⟩] = true := by decide +kernel
theorem same_m0 : showS [⟨0, mainR⟩, ⟨2, addsL⟩] = showS smallL := by decide +kernel
theorem same_m1 : showS [⟨0, mainR⟩, ⟨2, addsR⟩] = showS smallL := by decide +kernel
theorem len_s : decide ((showS smallL).length ≤ 2048) = true := by decide +kernel
theorem grabX {e : Exit} {a : Act} {W : World} {k : Act → World → Prop} {Q : Exit → Act → World → Prop} (p : World → Prop) (h : p W) (g : ∀ W', p W' → Exit.then k Q e a W') : Exit.then k Q e a W := g W h
theorem may_r1 : pmay [⟨0, mainL⟩, ⟨2, addsR⟩] = true := by decide +kernel
theorem same_r1 : showS [⟨0, mainL⟩, ⟨2, addsR⟩] = showS smallL := by decide +kernel
theorem Rdy.said {w W : World} {B Z : Nat} (h : Rdy w B Z W) (hw : Tm.Lw w) : ∃ A, Lx.ba srcS = A ∧ (Calls Tryd.prog 8 #[.agg #[.slice (some ⟨B + 10, 0, none⟩) 2 2]] W fun e w' => e = .returned (.tuple #[.string A, .int .i64 0]) ∧ Below W.heap.size W w')
    ∧ ∀ W2, Below W.heap.size W W2 → Calls Tryd.prog 15 #[.agg #[.slice (some ⟨B + 10, 0, none⟩) 2 2]] W2 fun r w' => r = .returned (.bool true) ∧ Below W2.heap.size W2 w' := by
  obtain ⟨ds, hd, hn, hm, hsh⟩ := h.defs
  have ok : okS ds = true := by unfold okS; rw [hm, hsh, len_s]; rfl
  have e1 : txS ds = srcS := by unfold txS; rw [if_pos ok, hsh, src_is]
  have e2 : erS ds = 0 := by unfold erS; rw [if_pos ok]
  have ht := text_any (some ⟨B + 10, 0, none⟩) 2 ds W hd (Tm.Lw.on hw h.below)
  rw [e1, e2, hn] at ht
  refine ⟨_, rfl, ht, fun W2 hb => ?_⟩
  have hp := rprog_any (some ⟨B + 10, 0, none⟩) 2 ds W2 (hd.on hb)
  rw [hm, hn] at hp
  exact hp
theorem Rdy.drew {w W : World} {B Z : Nat} (h : Rdy w B Z W) : Rdy w B Z W.drew := by
  obtain ⟨ds, hd, hr⟩ := h.defs
  exact ⟨h.box, ⟨ds, hd.on (Below.refl _ _).drew, hr⟩, h.below.drew⟩
theorem P1.drew {w W : World} {B Z : Nat} {g : Addr} {D : List Ex} (h : P1 w B Z g D W) : P1 w B Z g D W.drew :=
  ⟨h.row, fun W' hk => h.adds W' hk, h.size, h.main, h.k1, h.k2, h.box, h.below.drew, h.z, h.lo⟩
theorem grabK {f : Nat} {args : Array Value} {W : World} {Q : Ending → World → Prop} (p : World → Prop) (h : p W) (k : ∀ W', p W' → Calls Tryd.prog f args W' Q) : Calls Tryd.prog f args W Q := k W h
end Go.Proofs.YtgjhpmkahicnkaaDoor.showRow
