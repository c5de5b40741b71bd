/- The document's evaluator by name: a failure, a prim of two heads. · The document's things told in an own row, while it grows. · The document's kidsOf. · The document's called. · The document's read: a term as what comes of evaluating it. -/
import Derived.Test.YtjamknejllbmkaaGreatDoorMNMem
import Derived.Deep.AppendLies
import Derived.Test.YtjamknejllbmkaaGreatDoorMRef

namespace Go.Proofs.YtjamknejllbmkaaGreatDoor
open Go.RowKit
set_option linter.unusedVariables false

/-- A head of the document's, as a value. -/
abbrev hV (k n : Int) (lv : Value) : Value := .agg #[.int .i64 k, .int .i64 n, lv]
theorem rfail_any (w : World) : Calls Tryz.prog 34 #[] w fun e w' => e = .returned (hV 3 0 (.slice none 0 0)) ∧ w' = w.alloc (Obj.cells #[.int .i64 3, .int .i64 0, .slice none 0 0] 66) := by
  go_enter Tryz.func34, Tryz.ntmps34
  go_wp2_with fail
  refine bodyPost_ret (v := hV 3 0 (.slice none 0 0)) (by simp [results, Tryz.results34, go_sem]) rfl ⟨rfl, rfl⟩
set_option maxHeartbeats 1000000 in
theorem rprim_num (op m k : Int) (g1 g2 : Option Addr) (n1 n2 c1 c2 : Nat) (w : World) (ho : 0 ≤ op ∧ op ≤ 4) (hm : -32768 ≤ m ∧ m ≤ 32767) (hk : -32768 ≤ k ∧ k ≤ 32767) :
    Calls Tryz.prog 36 #[.int .i64 op, hV 1 m (.slice g1 n1 c1), hV 1 k (.slice g2 n2 c2)] w fun e w' => e = .returned (hV 1 (prm op m k) (.slice none 0 0)) ∧ Below w.heap.size w w' := by
  have HB : Hid (Below w.heap.size w w) := Below.refl _ _
  have HP : Hid (∀ W, Calls Tryz.prog 54 #[.int .i64 op, .int .i64 m, .int .i64 k] W fun e w' => e = .returned (.tuple #[.int .i64 (prm op m k), .int .i64 0]) ∧ w' = W) := fun W => Pr.rdo_any op m k W ho hm hk
  clear ho hm hk
  go_enter Tryz.func36, Tryz.ntmps36
  go_wp2_with fail
  refine (HP.out _).mono ?_
  rintro e w2 ⟨rfl, rfl⟩
  go_wp2_with fail
  refine bodyPost_ret (v := hV 1 (prm op m k) (.slice none 0 0)) (by simp [results, Tryz.results36, go_sem]) rfl ⟨rfl, ?_⟩
  exact ((HB.out.alloc HB.out.size _).alloc (by simp) _).alloc (by simp; omega) _
set_option maxHeartbeats 1000000 in
theorem rprim_bad (op m kb nb : Int) (g1 g2 : Option Addr) (n1 n2 c1 c2 : Nat) (w : World) (hk : ¬ kb = 1) :
    Calls Tryz.prog 36 #[.int .i64 op, hV 1 m (.slice g1 n1 c1), hV kb nb (.slice g2 n2 c2)] w fun e w' => e = .returned (hV 3 0 (.slice none 0 0)) ∧ Below w.heap.size w w' := by
  have HB : Hid (Below w.heap.size w w) := Below.refl _ _
  go_enter Tryz.func36, Tryz.ntmps36
  go_wp2_with fail
  refine (rfail_any _).mono ?_
  rintro e w2 ⟨rfl, rfl⟩
  go_wp2_with fail
  refine bodyPost_ret (v := hV 3 0 (.slice none 0 0)) (by simp [results, Tryz.results36, go_sem]) rfl ⟨rfl, ?_⟩
  exact (((HB.out.alloc HB.out.size _).alloc (by simp) _).alloc (by simp; omega) _).alloc (by simp; omega) _

/-- A row of the document's things: five cells each. -/
def Row5 (A : Nat → Prop) (W : World) (v : Value) (vs : List (List Value)) : Prop :=
  (vs = [] ∧ v = .slice none 0 0) ∨ ∃ bk o c, v = .slice (some ⟨bk, o, none⟩) vs.length c ∧ bk < W.heap.size ∧ ¬ A bk ∧ ∀ (j : Nat) us, vs[j]? = some us → us.length = 5 ∧ ∀ (i : Nat) u, us[i]? = some u → W.cell? ⟨bk, o + j * 5 + i, none⟩ = some u
/-- What stands at a level of the document's: its five cells. -/
inductive RTh (A : Nat → Prop) (W : World) : List Value → Th → Prop where
  | giv (s : Wdn) : RTh A W [.bool true, .string ⟨s.toArray⟩, .int .i64 0, .int .i64 0, .slice none 0 0] (.giv s)
  | prt (d a : Nat) (ls : List Th) (lv : Value) (vs : List (List Value)) (hr : Row5 A W lv vs) (hn : vs.length = ls.length)
      (hl : ∀ (j : Nat) u l, vs[j]? = some u → ls[j]? = some l → RTh A W u l) : RTh A W [.bool false, .string ⟨#[]⟩, .int .i64 (d : Int), .int .i64 (a : Int), lv] (.prt d a ls)
/-- Levels in a row. -/
def RLs (A : Nat → Prop) (W : World) (v : Value) (ls : List Th) : Prop :=
  ∃ vs, Row5 A W v vs ∧ vs.length = ls.length ∧ ∀ (j : Nat) u l, vs[j]? = some u → ls[j]? = some l → RTh A W u l
theorem Row5.kp {A : Nat → Prop} {W W' : World} {v : Value} {vs : List (List Value)} (h : Row5 A W v vs) (hk : Ka A W W') : Row5 A W' v vs := by
  rcases h with h | ⟨bk, o, c, e, h1, h2, h3⟩
  · exact Or.inl h
  · exact Or.inr ⟨bk, o, c, e, Nat.lt_of_lt_of_le h1 hk.size, h2, fun j us hj => ⟨(h3 j us hj).1, fun i u hu => (hk.cell h1 h2).trans ((h3 j us hj).2 i u hu)⟩⟩
theorem RTh.kp {A : Nat → Prop} {W W' : World} {v : List Value} {t : Th} (h : RTh A W v t) (hk : Ka A W W') : RTh A W' v t := by
  induction h with
  | giv s => exact .giv s
  | prt d a ls lv vs hr hn hl ih => exact .prt d a ls lv vs (hr.kp hk) hn ih
theorem RLs.kp {A : Nat → Prop} {W W' : World} {v : Value} {ls : List Th} (h : RLs A W v ls) (hk : Ka A W W') : RLs A W' v ls := by
  obtain ⟨vs, h1, h2, h3⟩ := h
  exact ⟨vs, h1.kp hk, h2, fun j u l hu hl => (h3 j u l hu hl).kp hk⟩
theorem RTh.five {A : Nat → Prop} {W : World} {v : List Value} {t : Th} (h : RTh A W v t) : v.length = 5 := by cases h <;> rfl
theorem RLs.nil (A : Nat → Prop) (W : World) : RLs A W (.slice none 0 0) [] := ⟨[], Or.inl ⟨rfl, rfl⟩, rfl, fun j u l hu => by simp at hu⟩
theorem RLs.val {A : Nat → Prop} {W : World} {v : Value} {ls : List Th} (h : RLs A W v ls) : ∃ g c, v = .slice g ls.length c := by
  obtain ⟨vs, h1, h2, _⟩ := h
  rcases h1 with ⟨rfl, e⟩ | ⟨bk, o, c, e, _⟩
  · rw [← h2]; exact ⟨_, _, e⟩
  · rw [← h2]; exact ⟨_, c, e⟩
theorem RLs.at {A : Nat → Prop} {W : World} {v : Value} {ls : List Th} (h : RLs A W v ls) {j : Nat} {l : Th} (hj : ls[j]? = some l) :
    ∃ bk o c us, v = .slice (some ⟨bk, o, none⟩) ls.length c ∧ bk < W.heap.size ∧ ¬ A bk ∧ (∀ (i : Nat) u, us[i]? = some u → W.cell? ⟨bk, o + j * 5 + i, none⟩ = some u) ∧ RTh A W us l := by
  obtain ⟨vs, h1, h2, h3⟩ := h
  have hlt : j < vs.length := by rw [h2]; exact (List.getElem?_eq_some_iff.1 hj).1
  rcases h1 with ⟨rfl, _⟩ | ⟨bk, o, c, e, h5, h6, h7⟩
  · simp at hlt
  · rw [h2] at e
    exact ⟨bk, o, c, _, e, h5, h6, (h7 j _ (List.getElem?_eq_getElem hlt)).2, h3 j _ l (List.getElem?_eq_getElem hlt) hj⟩
end Go.Proofs.YtjamknejllbmkaaGreatDoor

namespace Go.Proofs.YtjamknejllbmkaaGreatDoor
open Go.RowKit
set_option linter.unusedVariables false

theorem Tryz.info69 : (Tryz.prog.info? 69).map (fun i => (i.zero, i.size, i.bytes)) = some (some (.agg #[.bool false, .string ⟨#[]⟩, .int .i64 0, .int .i64 0, .slice none 0 0]), 5, 64) := by kernel_rfl
theorem Row5.one {A : Nat → Prop} {W : World} {v : Value} {vs : List (List Value)} (h : Row5 A W v vs) : v.oneCell' = true := by
  rcases h with ⟨_, rfl⟩ | ⟨_, _, _, rfl, _⟩ <;> rfl
theorem RTh.ones {A : Nat → Prop} {W : World} {us : List Value} {t : Th} (h : RTh A W us t) : ∀ u ∈ us, u.oneCell' = true := by
  intro u hu
  cases h with
  | giv s => simp only [List.mem_cons, List.not_mem_nil, or_false] at hu; rcases hu with rfl | rfl | rfl | rfl | rfl <;> rfl
  | prt d a ls lv vs hr hn hl =>
    simp only [List.mem_cons, List.not_mem_nil, or_false] at hu
    rcases hu with rfl | rfl | rfl | rfl | rfl
    · rfl
    · rfl
    · rfl
    · rfl
    · exact hr.one
theorem Row5.avoid {A B : Nat → Prop} {W : World} {v : Value} {vs : List (List Value)} (h : Row5 A W v vs) (hAB : ∀ k, B k → A k ∨ W.heap.size ≤ k) : Row5 B W v vs := by
  rcases h with h | ⟨bk, o, c, e, h1, h2, h3⟩
  · exact Or.inl h
  · exact Or.inr ⟨bk, o, c, e, h1, fun hb => by rcases hAB bk hb with h | h; exact h2 h; omega, h3⟩
theorem RTh.avoid {A B : Nat → Prop} {W : World} {v : List Value} {t : Th} (h : RTh A W v t) (hAB : ∀ k, B k → A k ∨ W.heap.size ≤ k) : RTh B W v t := by
  induction h with
  | giv s => exact .giv s
  | prt d a ls lv vs hr hn hl ih => exact .prt d a ls lv vs (hr.avoid hAB) hn ih
/-- Things told in an own row, while it grows. -/
def RGr (A : Nat → Prop) (B : Nat) (W : World) (v : Value) (ts : List Th) : Prop :=
  ∃ us : List (List Value), W.ownsRow B 69 5 v us.length us.flatten ∧ us.length = ts.length ∧ ∀ (j : Nat) u l, us[j]? = some u → ts[j]? = some l → RTh (orO A v) W u l
theorem RGr.nil (A : Nat → Prop) (B : Nat) (W : World) : RGr A B W (.slice none 0 0) [] :=
  ⟨[], World.ownsRow_nil _ _ _ _, rfl, fun j u l hu => by simp at hu⟩
theorem RGr.next {A : Nat → Prop} {B : Nat} {W W' : World} {v : Value} {ts : List Th} (h : RGr A B W v ts) (hb : Below W.heap.size W W') : RGr A B W' v ts := by
  obtain ⟨us, h1, h2, h3⟩ := h
  exact ⟨us, Lx.own_below h1 hb, h2, fun j u l hu hl => (h3 j u l hu hl).kp (Ka.of_below hb)⟩
theorem RGr.val {A : Nat → Prop} {B : Nat} {W : World} {v : Value} {ts : List Th} (h : RGr A B W v ts) : ∃ g c, v = .slice g ts.length c := by
  obtain ⟨us, h1, h2, _⟩ := h
  obtain ⟨g, c, e, _⟩ := Lx.own_len h1
  rw [h2] at e
  exact ⟨g, c, e⟩
theorem flat_at : ∀ {us : List (List Value)}, (∀ u ∈ us, u.length = 5) → ∀ {j : Nat} {u : List Value}, us[j]? = some u → ∀ {i : Nat} {x : Value}, u[i]? = some x → us.flatten[j * 5 + i]? = some x
  | [], _, j, u, h, i, x, _ => by simp at h
  | v :: us, h5, 0, u, h, i, x, hx => by
    have e : v = u := by simpa using h
    subst e
    rw [List.flatten_cons, Nat.zero_mul, Nat.zero_add, List.getElem?_append_left (List.getElem?_eq_some_iff.1 hx).1]
    exact hx
  | v :: us, h5, j + 1, u, h, i, x, hx => by
    have hv : v.length = 5 := h5 v (by simp)
    rw [List.flatten_cons, List.getElem?_append_right (by omega), hv, show (j + 1) * 5 + i - 5 = j * 5 + i by omega]
    exact flat_at (fun y hy => h5 y (by simp [hy])) (by simpa using h) hx
theorem RGr.put {A : Nat → Prop} {B : Nat} {W W' : World} {v v' : Value} {u : List Value} {us : List (List Value)} {ts : List Th} {t : Th} (h2 : us.length = ts.length) (h3 : ∀ (j : Nat) u l, us[j]? = some u → ts[j]? = some l → RTh (orO A v) W u l)
    (hu : RTh (orO A v) W u t) (h4 : W'.ownsRow B 69 5 v' (us ++ [u]).length (us ++ [u]).flatten) (hg : W.grownBy W' v.ownBlock) (hv : v'.ownBlock = v.ownBlock ∨ v'.ownBlock = some W.heap.size) : RGr A B W' v' (ts ++ [t]) := by
  have hk : ∀ {x : List Value} {l : Th}, RTh (orO A v) W x l → RTh (orO A v') W' x l := by
    intro x l hx
    refine ((hx.avoid (B := fun k => orO A v k ∨ v'.ownBlock = some k) ?_).kp (Ka.of_grown hg (fun k hk => Or.inl (Or.inr hk)))).avoid (fun k hk => Or.inl ?_)
    · rintro k (hk | hk)
      · exact Or.inl hk
      · rcases hv with e | e
        · exact Or.inl (Or.inr (by rw [← e]; exact hk))
        · rw [e] at hk; have := Option.some.inj hk; right; omega
    · rcases hk with hk | hk
      · exact Or.inl (Or.inl hk)
      · exact Or.inr hk
  refine ⟨us ++ [u], h4, by simp [h2], fun j x l hx hl => ?_⟩
  by_cases hj : j < us.length
  · rw [List.getElem?_append_left hj] at hx
    rw [List.getElem?_append_left (by omega)] at hl
    exact hk (h3 j x l hx hl)
  · rw [List.getElem?_append_right (by omega)] at hx
    rw [List.getElem?_append_right (by omega), ← h2] at hl
    cases hm : j - us.length with
    | zero => rw [hm] at hx hl; simp at hx hl; subst hx; subst hl; exact hk hu
    | succ m => rw [hm] at hx; simp at hx
theorem RGr.ls {A : Nat → Prop} {B : Nat} {W : World} {v : Value} {ts : List Th} (h : RGr A B W v ts) (hA : ∀ k, A k → k < B) : RLs A W v ts := by
  obtain ⟨us, h1, h2, h3⟩ := h
  have h5 : ∀ u ∈ us, u.length = 5 := by
    intro u hu
    obtain ⟨j, hj⟩ := List.getElem?_of_mem hu
    have hlt : j < ts.length := by rw [← h2]; exact (List.getElem?_eq_some_iff.1 hj).1
    exact (h3 j u _ hj (List.getElem?_eq_getElem hlt)).five
  have ha : ∀ (j : Nat) u l, us[j]? = some u → ts[j]? = some l → RTh A W u l := fun j u l hu hl => (h3 j u l hu hl).avoid (fun k hk => Or.inl (Or.inl hk))
  have hc := h1
  refine ⟨us, ?_, h2, ha⟩
  rcases h1.2 with ⟨e, hm⟩ | ⟨b, cap, cur, e, hb, hh, _⟩
  · have e0 : us = [] := by
      cases us with
      | nil => rfl
      | cons u us =>
        have : u.length = 5 := h5 u (by simp)
        cases u with
        | nil => simp at this
        | cons x xs => simp at hm
    subst e0
    exact Or.inl ⟨rfl, e⟩
  · subst e
    refine Or.inr ⟨b, 0, cap, rfl, (Array.getElem?_eq_some_iff.1 hh).1, fun hab => by have := hA b hab; omega, fun j u hj => ⟨h5 u (List.mem_of_getElem? hj), fun i x hx => ?_⟩⟩
    have := hc.cells (g := b) rfl _ _ (flat_at h5 hj hx)
    rw [Lib.add_plain, Nat.zero_add] at this
    rw [Nat.zero_add]
    exact this
/-- The append of one thing that lies in a new block. -/
theorem wpList_put5 {A : Nat → Prop} {W : World} {ops : Array Oper} {rest : List Oper} {o : Oper} {a : Act} {Q : Exit → Act → World → Prop} (hgd : o.guard = none) (s x : Operand)
    (ho : o.op = .call { callee := .builtin .append, args := #[s, x], argTypes := #[64, 64] }) (B : Nat) (v : Value) (cs : Array Value) (u : List Value) (hcs : cs.toList = u) (ts : List Th) (t : Th) (hs : a.eval s = v) (hG : RGr A B W v ts) (hu : RTh (orO A v) W u t) (hB : B ≤ W.heap.size) (hlen : ts.length < 4096)
    (q : Nat) (hq : W.heap.size = q) (hx : a.eval x = .slice (some ⟨q, 0, none⟩) 1 1)
    (h : ∀ g c w', RGr A B w' (.slice g (ts ++ [t]).length c) (ts ++ [t]) → Below B W w' → wpList Tryz.prog ops Q rest (a.put o.dst (.slice g (ts.length + 1) c)) w') : wpList Tryz.prog ops Q (o :: rest) a (W.alloc (.cells cs 69)) := by
  subst hq
  obtain ⟨i0, hi, hz0, hz1, hz2⟩ := info_parts Tryz.info69
  obtain ⟨us, h1, h2, h3⟩ := hG
  have ha : Below W.heap.size W (W.alloc (.cells cs 69)) := (Below.refl _ W).alloc (Nat.le_refl _) _
  refine wpList_append_own_at _ hgd s x 64 ho B 69 i0 _ 5 64 Tryz.underlying64 hi hz0 hz1 hz2 rfl (by decide) v us.length us.flatten hs (h1.alloc _) ⟨W.heap.size, 0, none⟩ 1 1 u hx (by rw [hu.five]) (fun j y hj => ?_) hu.ones (by unfold maxLen; omega) (by omega) (by rw [World.size_alloc]; omega) ?_
  · rw [Lib.add_plain, Nat.zero_add]
    refine cell_new W cs 69 j y ?_
    rw [← hcs] at hj
    simpa using hj
  · intro v' w' h5 h6 _ h7
    obtain ⟨g, c', e, _⟩ := Lx.own_len h5
    subst e
    have e1 : us.flatten ++ u = (us ++ [u]).flatten := by simp
    have e2 : us.length + 1 = (us ++ [u]).length := by simp
    have hgr : RGr A B w' (.slice g (us.length + 1) c') (ts ++ [t]) := by
      refine RGr.put (W := W.alloc (.cells cs 69)) h2 (fun j u l hu hl => (h3 j u l hu hl).kp (Ka.of_below ha)) (hu.kp (Ka.of_below ha)) ?_ h6 h7
      rw [← e1, ← e2]
      exact h5
    have hbel : Below B W w' := (ha.mono hB).grown h6 (by rw [World.size_alloc]; omega) (fun k hk => (World.ownsRow.lt h1 k hk).1)
    have h8 : us.length + 1 = (ts ++ [t]).length := by simp [h2]
    have := h g c' w' (by rw [← h8]; exact hgr) hbel
    rw [← h2] at this
    exact this
/-- The same within a region whose operations stand in no one order. -/
theorem step_put5 {A : Nat → Prop} {W : World} {ops : Array Oper} {o : Oper} {a : Act} {K : Act → World → Prop} {Q : Exit → Act → World → Prop} {E : Prop} (hgd : o.guard = none) (s x : Operand)
    (ho : o.op = .call { callee := .builtin .append, args := #[s, x], argTypes := #[64, 64] }) (B : Nat) (v : Value) (cs : Array Value) (u : List Value) (hcs : cs.toList = u) (ts : List Th) (t : Th) (hs : a.eval s = v) (hG : RGr A B W v ts) (hu : RTh (orO A v) W u t) (hB : B ≤ W.heap.size) (hlen : ts.length < 4096)
    (q : Nat) (hq : W.heap.size = q) (hx : a.eval x = .slice (some ⟨q, 0, none⟩) 1 1)
    (h : ∀ g c w', RGr A B w' (.slice (some ⟨g, 0, none⟩) (ts.length + 1) c) (ts ++ [t]) → Below B W w' → K (a.put o.dst (.slice (some ⟨g, 0, none⟩) (ts.length + 1) c)) w') :
    if Region.wanted o (yielded ops a.tmps) = true then Oper.wp Tryz.prog o a (W.alloc (.cells cs 69)).drew K Q else E := by
  subst hq
  obtain ⟨i0, hi, hz0, hz1, hz2⟩ := info_parts Tryz.info69
  obtain ⟨us, h1, h2, h3⟩ := hG
  have ha : Below W.heap.size W (W.alloc (.cells cs 69)) := (Below.refl _ W).alloc (Nat.le_refl _) _
  refine step_append_lies _ hgd s x 64 ho B 69 i0 _ 5 64 Tryz.underlying64 hi hz0 hz1 hz2 rfl (by decide) v us.length us.flatten hs ((h1.alloc _).drew) ⟨W.heap.size, 0, none⟩ 1 1 u hx (by rw [hu.five]) (fun j y hj => ?_) hu.ones (by decide) (by unfold maxLen; omega) (by omega) (by show _ ≤ (W.alloc (.cells cs 69)).heap.size; rw [World.size_alloc]; omega) _ rfl ?_
  · rw [Lib.add_plain, Nat.zero_add]
    show (W.alloc (.cells cs 69)).cell? _ = _
    refine cell_new W cs 69 j y ?_
    rw [← hcs] at hj
    simpa using hj
  · intro g cap w' h5 h6' h7 _
    have h6 : (W.alloc (.cells cs 69)).grownBy w' v.ownBlock := ⟨h6'.os, h6'.tape, h6'.output, h6'.size, h6'.block⟩
    have e1 : us.flatten ++ u = (us ++ [u]).flatten := by simp
    have e2 : us.length + 1 = (us ++ [u]).length := by simp
    have h8 : (Value.slice (some ⟨g, 0, none⟩) (us.length + 1) cap).ownBlock = v.ownBlock ∨ (Value.slice (some ⟨g, 0, none⟩) (us.length + 1) cap).ownBlock = some (W.alloc (.cells cs 69)).heap.size := by
      rcases h7 with e | e
      · exact Or.inl e.symm
      · right; rw [e]; rfl
    have hgr : RGr A B w' (.slice (some ⟨g, 0, none⟩) (us.length + 1) cap) (ts ++ [t]) := by
      refine RGr.put (W := W.alloc (.cells cs 69)) h2 (fun j u l hu hl => (h3 j u l hu hl).kp (Ka.of_below ha)) (hu.kp (Ka.of_below ha)) ?_ h6 h8
      rw [← e1, ← e2]
      exact h5
    have hbel : Below B W w' := (ha.mono hB).grown h6 (by rw [World.size_alloc]; omega) (fun k hk => (World.ownsRow.lt h1 k hk).1)
    rw [← h2] at h
    exact h g cap w' hgr hbel
end Go.Proofs.YtjamknejllbmkaaGreatDoor

namespace Go.Proofs.YtjamknejllbmkaaGreatDoor
open Go.RowKit
set_option linter.unusedVariables false
abbrev thV (d a : Nat) (lv : Value) : Value := .agg #[.bool false, .string ⟨#[]⟩, .int .i64 (d : Int), .int .i64 (a : Int), lv]
set_option maxHeartbeats 4000000 in
set_option maxRecDepth 100000 in
theorem rkids_at {A : Nat → Prop} {W : World} (d a : Nat) (gl : Option Addr) (cl : Nat) (ls : List Th) (xs : List Int) (gk : Option Addr) (ck : Nat) (hA : ∀ k, A k → k < W.heap.size) (hl : RLs A W (.slice gl ls.length cl) ls) (hk : Nums W gk xs) (h0 : ∀ k ∈ xs, 0 ≤ k) (hn : xs.length ≤ 3) :
    Calls Tryz.prog 35 #[thV d a (.slice gl ls.length cl), .slice gk xs.length ck] W fun e w' => ∃ g c, e = .returned (.slice g xs.length c) ∧ RLs A w' (.slice g xs.length c) (xs.map fun k => .prt d k.toNat ls) ∧ Below W.heap.size W w' := by
  obtain ⟨n, hnn⟩ : ∃ n, xs.length = n := ⟨_, rfl⟩
  obtain ⟨m, hmm⟩ : ∃ m, ls.length = m := ⟨_, rfl⟩
  have HX : Hid (Nums W gk xs ∧ xs.length = n ∧ (∀ k, A k → k < W.heap.size) ∧ ∀ k ∈ xs, 0 ≤ k) := ⟨hk, hnn, hA, h0⟩
  rw [hmm] at hl
  have HL : Hid (RLs A W (.slice gl m cl) ls) := hl
  rw [hnn] at hn ⊢
  rw [hmm]
  clear hk hnn hA h0 hl hmm
  have HW1 : Hid (Below W.heap.size W (W.alloc (.cells #[.bool false, .string ⟨#[]⟩, .int .i64 (d : Int), .int .i64 (a : Int), .slice gl m cl] 69))) := (Below.refl _ W).alloc (Nat.le_refl _) _
  have HC : Hid ((W.alloc (.cells #[.bool false, .string ⟨#[]⟩, .int .i64 (d : Int), .int .i64 (a : Int), .slice gl m cl] 69)).cell? ⟨W.heap.size, 2, none⟩ = some (.int .i64 (d : Int)) ∧ (W.alloc (.cells #[.bool false, .string ⟨#[]⟩, .int .i64 (d : Int), .int .i64 (a : Int), .slice gl m cl] 69)).cell? ⟨W.heap.size, 4, none⟩ = some (.slice gl m cl) ∧ W.heap.size < (W.alloc (.cells #[.bool false, .string ⟨#[]⟩, .int .i64 (d : Int), .int .i64 (a : Int), .slice gl m cl] 69)).heap.size) :=
    ⟨cell_new W _ 69 2 _ rfl, cell_new W _ 69 4 _ rfl, by simp⟩
  go_enter Tryz.func35, Tryz.ntmps35
  go_wp2_with fail
  refine grabW (fun U => Hid (Below W.heap.size W U) ∧ Hid (U.cell? ⟨W.heap.size, 2, none⟩ = some (.int .i64 (d : Int)) ∧ U.cell? ⟨W.heap.size, 4, none⟩ = some (.slice gl m cl) ∧ W.heap.size < U.heap.size)) ⟨HW1, HC⟩ (fun U hU => ?_)
  obtain ⟨HU, HD⟩ := hU
  clear HW1 HC
  go_loopw [5, 6] (fun s5 s6 wr => ∃ (j : Nat) (g1 : Option Addr) (c1 : Nat), j ≤ n ∧ s6 = .int .i64 (j : Int) ∧ s5 = .slice g1 j c1 ∧ Hid (RGr A U.heap.size wr (.slice g1 j c1) ((xs.map fun k => Th.prt d k.toNat ls).take j)) ∧ Hid (Below U.heap.size U wr)) (fun _ s6 _ => n - (intOf s6).toNat)
  case atStart => exact ⟨0, none, 0, Nat.zero_le _, rfl, rfl, RGr.nil _ _ _, Below.refl _ _⟩
  case round =>
    obtain ⟨j, g1, c1, hj, rfl, rfl, HG, HB⟩ := hrel
    by_cases hlt : j < n
    · have hlt' : (j : Int) < (n : Int) := by omega
      obtain ⟨bk, o, e, hbk, hc⟩ := HX.out.1.at (j := j) (by have := HX.out.2.1; omega)
      obtain ⟨x, hx⟩ : ∃ x, xs[j]'(by have := HX.out.2.1; omega) = x := ⟨_, rfl⟩
      have HS : Hid (xs[j]? = some x) := by
        have : xs[j]? = some (xs[j]'(by have := HX.out.2.1; omega)) := List.getElem?_eq_getElem _
        rw [hx] at this; exact this
      rw [hx] at hc
      have hx0 : 0 ≤ x := HX.out.2.2.2 x (List.mem_of_getElem? HS.out)
      obtain ⟨b, rfl⟩ : ∃ b : Nat, x = (b : Int) := ⟨x.toNat, by omega⟩
      subst e
      have HBW : Hid (Below W.heap.size W wr) := HU.out.trans (HB.out.mono HU.out.size)
      have hc' := (HBW.out.cell (p := ⟨bk, o + j, none⟩) hbk).trans hc
      have c2 := (HB.out.cell (p := ⟨W.heap.size, 2, none⟩) HD.out.2.2).trans HD.out.1
      have c4 := (HB.out.cell (p := ⟨W.heap.size, 4, none⟩) HD.out.2.2).trans HD.out.2.1
      have hlen : ((xs.map fun k => Th.prt d k.toNat ls).take j).length = j := by rw [List.length_take, List.length_map]; have := HX.out.2.1; omega
      have HLn := hid hlen
      have hbs : U.heap.size ≤ wr.heap.size := HB.out.size
      have hbk' : bk < wr.heap.size := Nat.lt_of_lt_of_le hbk HBW.out.size
      have hwl : W.heap.size < wr.heap.size := Nat.lt_of_lt_of_le HD.out.2.2 hbs
      have HT0 : Hid (RTh (orO A (.slice g1 j c1)) wr [.bool false, .string ⟨#[]⟩, .int .i64 (d : Int), .int .i64 (b : Int), .slice gl m cl] (.prt d b ls)) := by
        obtain ⟨vs, h1, h2, h3⟩ := HL.out
        obtain ⟨us, g1', _, _⟩ := HG.out
        have hav : ∀ k, orO A (.slice g1 j c1) k → A k ∨ W.heap.size ≤ k := by
          rintro k (h | h)
          · exact Or.inl h
          · have := (World.ownsRow.lt g1' k h).1
            have := HU.out.size
            right; omega
        exact RTh.prt d b ls _ vs ((h1.avoid hav).kp (Ka.of_below HBW.out)) h2 (fun i u l hu hl => ((h3 i u l hu hl).avoid hav).kp (Ka.of_below HBW.out))
      clear hx hc hlen hx0
      go_wp2_with fail
      go_region_law (refine step_put5 (A := A) (by rfl) _ _ (by rfl) U.heap.size (.slice g1 j c1) #[.bool false, .string ⟨#[]⟩, .int .i64 (d : Int), .int .i64 (b : Int), .slice gl m cl] [.bool false, .string ⟨#[]⟩, .int .i64 (d : Int), .int .i64 (b : Int), .slice gl m cl] rfl ((xs.map fun k => Th.prt d k.toNat ls).take j) (.prt d b ls) (by rfl) HG.out HT0.out hbs (by have := HLn.out; omega) _ rfl (by rfl) ?_; intro g7 c7 w7 hG7 hb7; have HG7 := hid hG7; have HB7 := hid hb7; clear hG7 hb7)
      all_goals
        have HT : ((xs.map fun k => Th.prt d k.toNat ls).take j) ++ [.prt d b ls] = (xs.map fun k => Th.prt d k.toNat ls).take (j + 1) := by
          rw [List.take_add_one, List.getElem?_map, HS.out]
          rfl
        have h9 : min j xs.length = j := by have := HX.out.2.1; omega
        have HR : Hid (RGr A U.heap.size w7 (.slice (some ⟨g7, 0, none⟩) (j + 1) c7) ((xs.map fun k => Th.prt d k.toNat ls).take (j + 1)) ∧ Below U.heap.size U w7) := by
          have hG7 := HG7.out
          rw [HT, HLn.out] at hG7
          exact ⟨hG7, HB.out.trans HB7.out⟩
        simp only [h9]
        clear HT h9 HG7 HB7 HT0 HLn HS HG HB c2 c4 hc'
        go_wp2_with fail
        go_roundw
        case rel => exact ⟨j + 1, some ⟨g7, 0, none⟩, c7, by omega, by go_num, rfl, HR.out.1, HR.out.2⟩
        case measure => simp [intOf]; omega
    · have hlt' : ¬ (j : Int) < (n : Int) := by omega
      obtain rfl : j = n := by omega
      go_wp2_with fail
      go_ret
      refine ⟨g1, c1, rfl, ?_, HU.out.trans (HB.out.mono HU.out.size)⟩
      have h := HG.out
      rw [List.take_of_length_le (by rw [List.length_map, HX.out.2.1]; exact Nat.le_refl _)] at h
      exact h.ls (fun k hk => Nat.lt_of_lt_of_le (HX.out.2.2.1 k hk) HU.out.size)
end Go.Proofs.YtjamknejllbmkaaGreatDoor

namespace Go.Proofs.YtjamknejllbmkaaGreatDoor
open Go.RowKit
set_option linter.unusedVariables false
theorem RGr.far {A : Nat → Prop} {B : Nat} {W : World} {v : Value} {ts : List Th} (h : RGr A B W v ts) {z : Nat} (hz : z < B) (ha : A z) (j : Nat) (u : Value) : RGr A B (W.setCell ⟨z, j, none⟩ u) v ts := by
  obtain ⟨us, h1, h2, h3⟩ := h
  exact ⟨us, own_far h1 (fun e => by have := (World.ownsRow.lt h1 z e).1; omega) j u, h2, fun i x l hx hl => (h3 i x l hx hl).kp ⟨rfl, rfl, rfl, by simp, fun k _ hna => Below.heap_setCell W _ _ k (fun e => hna (Or.inl (by rw [e]; exact ha)))⟩⟩
theorem RLs.avoid {A B : Nat → Prop} {W : World} {v : Value} {ls : List Th} (h : RLs A W v ls) (hAB : ∀ k, B k → A k ∨ W.heap.size ≤ k) : RLs B W v ls := by
  obtain ⟨vs, h1, h2, h3⟩ := h
  exact ⟨vs, h1.avoid hAB, h2, fun j u l hu hl => (h3 j u l hu hl).avoid hAB⟩
theorem txts_cellR {W : World} {g : Option Addr} {xs : List ByteArray} (h : Tm.Txts W g xs) {j : Nat} (hj : j < xs.length) : ∃ bk o, g = some ⟨bk, o, none⟩ ∧ bk < W.heap.size ∧ W.cell? ⟨bk, o + j, none⟩ = some (.string xs[j]) := by
  rcases h with h | ⟨bk, o, h1, h2, h3⟩
  · subst h; simp at hj
  · exact ⟨bk, o, h1, h2, h3 j _ (List.getElem?_eq_getElem hj)⟩
theorem grabPost {P : Program} {fn : Func} {Post : Ending → World → Prop} {e : Exit} {a : Act} {W : World} (p : World → Prop) (h : p W) (g : ∀ W', p W' → bodyPost P fn Post e a W') : bodyPost P fn Post e a W := g W h
set_option maxHeartbeats 4000000 in
set_option maxRecDepth 100000 in
theorem rcalled_at {A : Nat → Prop} {W : World} {P : List Df} {gp : Option Addr} {cp d : Nat} {df : Df} (g : Option Addr) (c : Nat) (xs : List ByteArray) (hA : ∀ k, A k → k < W.heap.size) (hD : Defs Exs W gp P) (hd : P[d]? = some df) (h1 : 1 ≤ df.body.length) (h2 : df.body.length ≤ 4096) (hx : Tm.Txts W g xs) (hn : xs.length < 4096) :
    Calls Tryz.prog 20 #[.agg #[.slice gp P.length cp], .int .i64 (d : Int), .slice g xs.length c] W fun e w' => ∃ gl cl, e = .returned (thV d (df.body.length - 1) (.slice gl xs.length cl)) ∧ RLs A w' (.slice gl xs.length cl) ((Tm.lst xs).map .giv) ∧ Below W.heap.size W w' := by
  obtain ⟨bk, o, hgp, hbk, gk, ck, k0, k1, k2⟩ := hD.at (j := d) (List.getElem?_eq_some_iff.1 hd).1
  subst hgp
  have hdl : d < P.length := (List.getElem?_eq_some_iff.1 hd).1
  have edf : P[d]'hdl = df := (List.getElem?_eq_some_iff.1 hd).2
  rw [edf] at k1
  obtain ⟨bn, hbn⟩ : ∃ bn, df.body.length = bn := ⟨_, rfl⟩
  obtain ⟨n, hnn⟩ : ∃ n, xs.length = n := ⟨_, rfl⟩
  obtain ⟨pn, hpn⟩ : ∃ pn, P.length = pn := ⟨_, rfl⟩
  rw [hbn] at k1 h1 h2 ⊢
  rw [hpn] at hdl ⊢
  have HX : Hid (Tm.Txts W g xs ∧ xs.length = n ∧ ∀ k, A k → k < W.heap.size) := ⟨hx, hnn, hA⟩
  rw [hnn] at hn ⊢
  have hd0 : (0 : Int) ≤ (d : Int) := by omega
  have hdl' : (d : Int) < (pn : Int) := by omega
  have hb1 : (1 : Int) ≤ (bn : Int) := by omega
  have hb2 : (bn : Int) ≤ 4096 := by omega
  clear hx hnn hA hD hd k0 k2 edf hbn hpn
  go_enter Tryz.func20, Tryz.ntmps20
  go_wp2_with fail
  refine grabW (fun U => Hid (Below W.heap.size W U) ∧ Hid (Bx 69 U (W.heap.size + 1 + 1) #[.bool false, .string ⟨#[]⟩, .int .i64 (d : Int), .int .i64 ((bn : Int) - 1), .slice none 0 0]) ∧ W.heap.size + 3 ≤ U.heap.size ∧ Hid (Bx 69 U (W.heap.size + 1) #[.bool false, .string ⟨#[]⟩, .int .i64 0, .int .i64 0, .slice none 0 0])) ⟨(((Below.refl _ W).alloc (Nat.le_refl _) _).alloc (by simp) _).alloc (by simp; omega) _, ?_, by simp, ?_⟩ (fun U hU => ?_)
  · have h := Bx.new 69 ((W.alloc (Obj.cells #[.slice (some ⟨bk, o, none⟩) pn cp] 30)).alloc (Obj.cells #[.bool false, .string ⟨#[]⟩, .int .i64 0, .int .i64 0, .slice none 0 0] 69)) #[.bool false, .string ⟨#[]⟩, .int .i64 (d : Int), .int .i64 ((bn : Int) - 1), .slice none 0 0]
    simp only [World.size_alloc] at h
    exact h
  · have h := (Bx.new 69 (W.alloc (Obj.cells #[.slice (some ⟨bk, o, none⟩) pn cp] 30)) #[.bool false, .string ⟨#[]⟩, .int .i64 0, .int .i64 0, .slice none 0 0]).alloc (Obj.cells #[.bool false, .string ⟨#[]⟩, .int .i64 (d : Int), .int .i64 ((bn : Int) - 1), .slice none 0 0] 69)
    simp only [World.size_alloc] at h
    exact h
  obtain ⟨HU, HY, HZ, HR0⟩ := hU
  have HZ := hid HZ
  obtain ⟨R, hR⟩ : ∃ R, W.heap.size + 1 = R := ⟨_, rfl⟩
  rw [hR] at HR0 HY
  simp only [hR]
  obtain ⟨Z, hZ⟩ : ∃ Z, R + 1 = Z := ⟨_, rfl⟩
  rw [hZ] at HY
  simp only [hZ]
  have HZ2 : Hid (W.heap.size + 1 = R ∧ R + 1 = Z) := ⟨hR, hZ⟩
  clear hZ hR k1
  go_loopw [8] (fun s8 wr => ∃ (j : Nat) (g1 : Option Addr) (c1 : Nat), j ≤ n ∧ s8 = .int .i64 (j : Int) ∧ Hid (RGr (fun k => A k ∨ k = Z ∨ k = R) (Z + 1) wr (.slice g1 j c1) (((Tm.lst xs).map Th.giv).take j)) ∧ Hid (Bx 69 wr Z #[.bool false, .string ⟨#[]⟩, .int .i64 (d : Int), .int .i64 ((bn : Int) - 1), .slice g1 j c1]) ∧ Hid (Below W.heap.size W wr) ∧ Hid (Z + 1 ≤ wr.heap.size) ∧ Hid (Bx 69 wr R #[.bool false, .string ⟨#[]⟩, .int .i64 0, .int .i64 0, .slice none 0 0])) (fun s8 _ => n - (intOf s8).toNat)
  case atStart => exact ⟨0, none, 0, Nat.zero_le _, rfl, RGr.nil _ _ _, HY, HU, by have h1 := HZ.out; have h2 := HZ2.out; show _ ≤ _; omega, HR0⟩
  case round =>
    obtain ⟨j, g1, c1, hj, rfl, HG, HBX, HB, HS, HRB⟩ := hrel
    have y0 := HBX.out.cell 0 _ rfl
    have y1 := HBX.out.cell 1 _ rfl
    have y2 := HBX.out.cell 2 _ rfl
    have y3 := HBX.out.cell 3 _ rfl
    have y4 := HBX.out.cell 4 _ rfl
    have z0 := HRB.out.cell 0 _ rfl
    have z1 := HRB.out.cell 1 _ rfl
    have z2 := HRB.out.cell 2 _ rfl
    have z3 := HRB.out.cell 3 _ rfl
    have z4 := HRB.out.cell 4 _ rfl
    have r0 := HRB.out.frozen 0
    have r1 := HRB.out.frozen 1
    have r2 := HRB.out.frozen 2
    have r3 := HRB.out.frozen 3
    have r4 := HRB.out.frozen 4
    have rl := HRB.out.lt
    have rz : R < Z := by have h2 := HZ2.out.2; omega
    by_cases hlt : j < n
    · have hlt' : (j : Int) < (n : Int) := by omega
      obtain ⟨bt, ot, e, hbt, hc⟩ := txts_cellR HX.out.1 (j := j) (by have := HX.out.2.1; omega)
      obtain ⟨s, hs⟩ : ∃ s, xs[j]'(by have := HX.out.2.1; omega) = s := ⟨_, rfl⟩
      have HSS : Hid (xs[j]? = some s) := by
        have : xs[j]? = some (xs[j]'(by have := HX.out.2.1; omega)) := List.getElem?_eq_getElem _
        rw [hs] at this; exact this
      rw [hs] at hc
      subst e
      have hc' := (HB.out.cell (p := ⟨bt, ot + j, none⟩) hbt).trans hc
      have hbt' : bt < wr.heap.size := Nat.lt_of_lt_of_le hbt HB.out.size
      have hzl : Z < wr.heap.size := HBX.out.lt
      have hlen : (((Tm.lst xs).map Th.giv).take j).length = j := by rw [List.length_take, List.length_map]; unfold Tm.lst; rw [List.length_map]; have := HX.out.2.1; omega
      have HLn := hid hlen
      have HT0 : Hid (RTh (orO (fun k => A k ∨ k = Z ∨ k = R) (.slice g1 j c1)) wr [.bool true, .string s, .int .i64 0, .int .i64 0, .slice none 0 0] (.giv s.data.toList)) := RTh.giv s.data.toList
      clear hs hc hlen
      go_wp2_with fail
      go_region_law (refine step_put5 (A := fun k => A k ∨ k = Z ∨ k = R) (by rfl) _ _ (by rfl) (Z + 1) (.slice g1 j c1) #[.bool true, .string s, .int .i64 0, .int .i64 0, .slice none 0 0] [.bool true, .string s, .int .i64 0, .int .i64 0, .slice none 0 0] rfl (((Tm.lst xs).map Th.giv).take j) (.giv s.data.toList) (by rfl) HG.out HT0.out HS.out (by have := HLn.out; omega) _ rfl (by rfl) ?_; intro g7 c7 w7 hG7 hb7; have hbx := HBX.out.on hb7 (Nat.lt_succ_self Z); have y7 := hbx.cell 4 _ rfl; have f7 := hbx.frozen 4; have yl7 := hbx.lt; have HBX7 := hid hbx; have HRB7 := hid (HRB.out.on hb7 (Nat.lt_succ_of_lt rz)); have HG7 := hid hG7; have HB7 := hid hb7; clear hG7 hb7 hbx)
      all_goals
        have HT : (((Tm.lst xs).map Th.giv).take j) ++ [.giv s.data.toList] = ((Tm.lst xs).map Th.giv).take (j + 1) := by
          rw [List.take_add_one]
          have : ((Tm.lst xs).map Th.giv)[j]? = some (.giv s.data.toList) := by unfold Tm.lst; rw [List.getElem?_map, List.getElem?_map, HSS.out]; rfl
          rw [this]; rfl
        have h9 : min j (Tm.lst xs).length = j := by have := HLn.out; rw [List.length_take, List.length_map] at this; exact this
        have HR7 : Hid (RGr (fun k => A k ∨ k = Z ∨ k = R) (Z + 1) w7 (.slice (some ⟨g7, 0, none⟩) (j + 1) c7) (((Tm.lst xs).map Th.giv).take (j + 1)) ∧ Below (Z + 1) wr w7) := by
          have hG7 := HG7.out
          rw [HT, HLn.out] at hG7
          exact ⟨hG7, HB7.out⟩
        simp only [h9]
        clear HT h9 HG7 HB7 HT0 HLn HSS HG
        go_wp2_with fail
        go_roundw
        case rel =>
          refine ⟨j + 1, some ⟨g7, 0, none⟩, c7, by omega, by go_num, HR7.out.1.far (Nat.lt_succ_self Z) (Or.inr (Or.inl rfl)) _ _, ?_, ?_, ?_, ?_⟩
          · exact HBX7.out.set 4 _
          · exact (HB.out.trans (HR7.out.2.mono (by have h1 := HZ2.out.1; have h2 := HZ2.out.2; omega))).setCell (p := ⟨Z, 4, none⟩) (by have h1 := HZ2.out.1; have h2 := HZ2.out.2; show _ ≤ Z; omega) _
          · show Z + 1 ≤ (w7.setCell _ _).heap.size
            simp; omega
          · exact HRB7.out.other 4 _ (by omega)
        case measure => simp [intOf]; omega
    · have hlt' : ¬ (j : Int) < (n : Int) := by omega
      obtain rfl : j = n := by omega
      go_wp2_with fail
      refine grabPost (fun W9 => Bx 69 W9 R #[.bool false, .string ⟨#[]⟩, .int .i64 (d : Int), .int .i64 ((bn : Int) - 1), .slice g1 j c1] ∧ RGr (fun k => A k ∨ k = Z ∨ k = R) (Z + 1) W9 (.slice g1 j c1) (((Tm.lst xs).map Th.giv).take j) ∧ Below W.heap.size W W9) ⟨?_, ?_, ?_⟩ (fun W9 h9 => ?_)
      · exact ((((HRB.out.set 0 _).set 1 _).set 2 _).set 3 _).set 4 _
      · exact ((((HG.out.far (Nat.lt_succ_of_lt rz) (Or.inr (Or.inr rfl)) _ _).far (Nat.lt_succ_of_lt rz) (Or.inr (Or.inr rfl)) _ _).far (Nat.lt_succ_of_lt rz) (Or.inr (Or.inr rfl)) _ _).far (Nat.lt_succ_of_lt rz) (Or.inr (Or.inr rfl)) _ _).far (Nat.lt_succ_of_lt rz) (Or.inr (Or.inr rfl)) _ _
      · have hR : W.heap.size ≤ R := by have h1 := HZ2.out.1; omega
        exact ((((HB.out.setCell (p := ⟨R, 0, none⟩) hR _).setCell (p := ⟨R, 1, none⟩) hR _).setCell (p := ⟨R, 2, none⟩) hR _).setCell (p := ⟨R, 3, none⟩) hR _).setCell (p := ⟨R, 4, none⟩) hR _
      obtain ⟨h9a, h9b, h9c⟩ := h9
      have q0 := h9a.cell 0 _ rfl
      have q1 := h9a.cell 1 _ rfl
      have q2 := h9a.cell 2 _ rfl
      have q3 := h9a.cell 3 _ rfl
      have q4 := h9a.cell 4 _ rfl
      refine bodyPost_ret (v := .agg #[.bool false, .string ⟨#[]⟩, .int .i64 (d : Int), .int .i64 ((bn : Int) - 1), .slice g1 j c1]) (by simp [results, Tryz.results20, go_sem, q0, q1, q2, q3, q4]) rfl ⟨g1, c1, ?_, ?_, h9c⟩
      · show Ending.returned (Value.agg #[_, _, _, .int .i64 ((bn : Int) - 1), _]) = Ending.returned (Value.agg #[_, _, _, .int .i64 ((bn - 1 : Nat) : Int), _])
        rw [show ((bn - 1 : Nat) : Int) = (bn : Int) - 1 by omega]
      · rw [List.take_of_length_le (by rw [List.length_map]; unfold Tm.lst; rw [List.length_map, HX.out.2.1]; exact Nat.le_refl _)] at h9b
        refine (h9b.ls (fun k hk => ?_)).avoid (fun k hk => Or.inl (Or.inl hk))
        rcases hk with hk | hk | hk
        · have h1 := HX.out.2.2 k hk; have h2 := HZ2.out; omega
        · omega
        · omega
end Go.Proofs.YtjamknejllbmkaaGreatDoor

namespace Go.Proofs.YtjamknejllbmkaaGreatDoor
open Go.RowKit
set_option linter.unusedVariables false
/-- The namer's box. -/
abbrev nmC (gp : Option Addr) (pn cp : Nat) (f e : Int) : Array Value := #[.slice gp pn cp, .int .i64 f, .int .i64 e]
set_option maxHeartbeats 4000000 in
set_option maxRecDepth 100000 in
theorem rread_hole {W : World} {z : Nat} {gp : Option Addr} {pn cp : Nat} {f x : Int} {ks : List Wdn} (s : ByteArray) (hs : s.size ≤ 140737488355328) (hz : Bx 63 W z (nmC gp pn cp f 0)) (hw : Tm.whole s.data.toList = some (0, x, ks)) :
    Calls Tryz.prog 33 #[.pointer (some ⟨z, 0, none⟩), .string s] W fun e w' => e = .returned (hV 3 0 (.slice none 0 0)) ∧ Bx 63 w' z (nmC gp pn cp f 902) ∧ Ka (Zz z) W w' := by
  have HZ := hid hz
  have HC : Hid (∀ w, Calls Tryz.prog 39 #[.string s] w fun e w' => ∃ y g n c, e = .returned (.tuple #[.int .i64 0, .int .i64 y, .slice g n c, .int .i64 0]) ∧ Below w.heap.size w w') := by
    intro w
    refine (Tm.rcut_any s w hs).mono ?_
    rintro e w' ⟨k, y, v, er, rfl, ⟨g, n, c, rfl⟩, hb, hg⟩
    rw [hw] at hg
    obtain ⟨rfl, rfl, rfl, _⟩ := hg
    exact ⟨_, _, _, _, rfl, hb⟩
  have hzl := hz.lt
  clear hz hw
  have HB : Hid (Below W.heap.size W W) := Below.refl _ _
  go_enter Tryz.func33, Tryz.ntmps33
  go_wp2_with fail
  refine (HC.out _).mono ?_
  rintro e w1 ⟨y, g, n, c, rfl, hb1⟩
  have hb0 : Below W.heap.size W (W.alloc (Obj.cells #[.int .i64 0, .int .i64 0, .slice none 0 0] 66)) := (Below.refl _ W).alloc (Nat.le_refl _) _
  have HB1 : Hid (Below W.heap.size W w1) := hb0.trans (hb1.mono (by simp))
  have HZ1 : Hid (Bx 63 w1 z (nmC gp pn cp f 0)) := HZ.out.on HB1.out hzl
  have HR1 : Hid (Bx 66 w1 W.heap.size #[.int .i64 0, .int .i64 0, .slice none 0 0]) := (Bx.new 66 W #[.int .i64 0, .int .i64 0, .slice none 0 0]).next hb1
  obtain ⟨R, hR⟩ : ∃ R, W.heap.size = R := ⟨_, rfl⟩
  rw [hR] at HR1 hzl
  have HRR := hid hR
  have m0 := HZ1.out.cell 2 _ rfl
  have m1 := HZ1.out.frozen 2
  have m2 := HZ1.out.lt
  simp only [hR]
  clear hb1 hb0 hR
  go_wp2_with fail
  refine grabK (fun W2 => Bx 63 W2 z (nmC gp pn cp f 902) ∧ Bx 66 W2 R #[.int .i64 0, .int .i64 0, .slice none 0 0] ∧ Ka (Zz z) W W2) ⟨HZ1.out.set 2 _, HR1.out.other 2 _ (by omega), ?_⟩ (fun W2 h2 => ?_)
  · refine (Ka.of_below HB1.out).next ⟨rfl, rfl, rfl, by simp, fun k _ hna => Below.heap_setCell w1 _ _ k (fun e => hna e)⟩
  obtain ⟨h2a, h2b, h2c⟩ := h2
  have H2 : Hid (Bx 63 W2 z (nmC gp pn cp f 902) ∧ Ka (Zz z) W W2) := ⟨h2a, h2c⟩
  have HR3 : Hid (Bx 66 (W2.alloc (Obj.cells #[.int .i64 3, .int .i64 0, .slice none 0 0] 66)) R #[.int .i64 0, .int .i64 0, .slice none 0 0]) := h2b.alloc _
  have q0 := HR3.out.cell 0 _ rfl
  have q1 := HR3.out.cell 1 _ rfl
  have q2 := HR3.out.cell 2 _ rfl
  have p0 := HR3.out.frozen 0
  have p1 := HR3.out.frozen 1
  have p2 := HR3.out.frozen 2
  have pl := HR3.out.lt
  refine (rfail_any W2).mono ?_
  rintro e w3 ⟨rfl, hw3⟩
  rw [← hw3] at HR3 q0 q1 q2 p0 p1 p2 pl
  have HW3 := hid hw3
  clear hw3 h2a h2b h2c m0 m1 m2
  go_wp2_with fail
  refine grabPost (fun W9 => Bx 66 W9 R #[.int .i64 3, .int .i64 0, .slice none 0 0] ∧ Bx 63 W9 z (nmC gp pn cp f 902) ∧ Ka (Zz z) W W9) ⟨((HR3.out.set 0 _).set 1 _).set 2 _, ?_, ?_⟩ (fun W9 h9 => ?_)
  · have h3 : Bx 63 w3 z (nmC gp pn cp f 902) := by rw [HW3.out]; exact H2.out.1.alloc _
    exact ((h3.other 0 _ (by omega)).other 1 _ (by omega)).other 2 _ (by omega)
  · have h3 : Ka (Zz z) W w3 := by rw [HW3.out]; exact H2.out.2.next (Ka.of_below ((Below.refl _ W2).alloc (Nat.le_refl _) _))
    have hsz : W.heap.size ≤ w3.heap.size := h3.size
    have hf : ∀ (i : Nat) (u : Value) (U : World), Ka (Zz z) W U → Ka (Zz z) W (U.setCell ⟨R, i, none⟩ u) := fun i u U hU =>
      ⟨hU.os, hU.tape, hU.output, by simpa using hU.size, fun k hk hna => (Below.heap_setCell U _ _ k (fun e => by have := HRR.out; have h5 : k = R := e; omega)).trans (hU.block k hk hna)⟩
    exact hf 2 _ _ (hf 1 _ _ (hf 0 _ _ h3))
  have s0 := h9.1.cell 0 _ rfl
  have s1 := h9.1.cell 1 _ rfl
  have s2 := h9.1.cell 2 _ rfl
  exact bodyPost_ret (v := hV 3 0 (.slice none 0 0)) (by simp [results, Tryz.results33, go_sem, s0, s1, s2]) rfl ⟨rfl, h9.2⟩
theorem own_txtsS {W : World} {B n c : Nat} {g : Option Addr} {ks : List Wdn} (h : W.ownsRow B 9 1 (.slice g n c) ks.length (ks.map Tm.S)) : n = ks.length ∧ Tm.Txts W g (ks.map fun k => (⟨k.toArray⟩ : ByteArray)) := by
  obtain ⟨g', c', e, _⟩ := Lx.own_len h
  have en : n = ks.length := by cases e; simp
  refine ⟨en, ?_⟩
  rcases h.2 with ⟨e1, e2⟩ | ⟨b, cap, cur, e1, hb, hh, _⟩
  · left
    cases ks with
    | nil => rfl
    | cons k ks => simp at e2
  · cases e1
    refine Or.inr ⟨b, 0, rfl, (Array.getElem?_eq_some_iff.1 hh).1, fun j x hx => ?_⟩
    have hc := h.cells (g := b) rfl j (.string x) (by
      rw [List.getElem?_map] at hx ⊢
      cases hk : ks[j]? with
      | none => rw [hk] at hx; cases hx
      | some k => rw [hk] at hx; cases hx; rfl)
    rw [Lib.add_plain] at hc
    exact hc
theorem lst_back (ks : List Wdn) : Tm.lst (ks.map fun k => (⟨k.toArray⟩ : ByteArray)) = ks := by
  unfold Tm.lst
  rw [List.map_map]
  exact List.map_id'' (fun k => by simp) ks
set_option maxHeartbeats 4000000 in
set_option maxRecDepth 100000 in
theorem rread_got {A : Nat → Prop} {W : World} {z : Nat} {k x : Int} {ks : List Wdn} (s : ByteArray) (hs : s.size ≤ 140737488355328) (hA : ∀ k, A k → k < W.heap.size) (hw : Tm.whole s.data.toList = some (k, x, ks)) (hk : ¬ k = 0) (hn : ks.length < 4096) :
    Calls Tryz.prog 33 #[.pointer (some ⟨z, 0, none⟩), .string s] W fun e w' => ∃ gl cl, e = .returned (hV k x (.slice gl ks.length cl)) ∧ RLs A w' (.slice gl ks.length cl) (ks.map .giv) ∧ Below W.heap.size W w' := by
  obtain ⟨xs, hxs⟩ : ∃ xs : List ByteArray, (ks.map fun k => (⟨k.toArray⟩ : ByteArray)) = xs := ⟨_, rfl⟩
  obtain ⟨n, hnn⟩ : ∃ n, ks.length = n := ⟨_, rfl⟩
  have HC : Hid (∀ w, Calls Tryz.prog 39 #[.string s] w fun e w' => ∃ g c, e = .returned (.tuple #[.int .i64 k, .int .i64 x, .slice g n c, .int .i64 0]) ∧ Tm.Txts w' g xs ∧ Below w.heap.size w w') := by
    intro w
    refine (Tm.rcut_any s w hs).mono ?_
    rintro e w' ⟨k, y, v, er, rfl, ⟨g, n', c, rfl⟩, hb, hg⟩
    rw [hw] at hg
    obtain ⟨rfl, rfl, rfl, ho⟩ := hg
    obtain ⟨h1, h2⟩ := own_txtsS ho
    rw [hxs] at h2
    rw [h1, hnn]
    exact ⟨_, _, rfl, h2, hb⟩
  have HN : Hid (xs.length = n ∧ Tm.lst xs = ks ∧ ∀ k, A k → k < W.heap.size) := ⟨by rw [← hxs, List.length_map, hnn], by rw [← hxs, lst_back], hA⟩
  rw [hnn] at hn ⊢
  clear hA hw hs hxs hnn
  go_enter Tryz.func33, Tryz.ntmps33
  go_wp2_with fail
  refine (HC.out _).mono ?_
  rintro e w1 ⟨g, c, rfl, hx1, hb1⟩
  have hb0 : Below W.heap.size W (W.alloc (Obj.cells #[.int .i64 0, .int .i64 0, .slice none 0 0] 66)) := (Below.refl _ W).alloc (Nat.le_refl _) _
  have HB1 : Hid (Below W.heap.size W w1) := hb0.trans (hb1.mono (by simp))
  have HR1 : Hid (Bx 66 w1 W.heap.size #[.int .i64 0, .int .i64 0, .slice none 0 0]) := (Bx.new 66 W #[.int .i64 0, .int .i64 0, .slice none 0 0]).next hb1
  have HX := hid hx1
  obtain ⟨R, hR⟩ : ∃ R, W.heap.size = R := ⟨_, rfl⟩
  have HRR := hid hR
  rw [hR] at HR1
  simp only [hR]
  clear hb1 hb0 hR hx1 HC
  go_wp2_with fail
  obtain ⟨Z, hZ⟩ : ∃ Z, w1.heap.size = Z := ⟨_, rfl⟩
  have hWZ : W.heap.size < Z := by have h := HR1.out.lt; have h2 := HRR.out; omega
  have HY0 : Hid (Bx 66 (w1.alloc (Obj.cells #[.int .i64 k, .int .i64 x, .slice none 0 0] 66)) Z #[.int .i64 k, .int .i64 x, .slice none 0 0]) := by
    have h := Bx.new 66 w1 #[.int .i64 k, .int .i64 x, .slice none 0 0]
    rw [hZ] at h
    exact h
  refine grabW (fun U => Hid (Below Z w1 U) ∧ Hid (Bx 66 U Z #[.int .i64 k, .int .i64 x, .slice none 0 0]) ∧ Hid (Z + 1 ≤ U.heap.size) ∧ Hid (Bx 66 U R #[.int .i64 0, .int .i64 0, .slice none 0 0])) ⟨?_, HY0, by show _ ≤ _; simp; omega, HR1.out.alloc _⟩ (fun U hU => ?_)
  · have h := (Below.refl w1.heap.size w1).alloc (Nat.le_refl _) (Obj.cells #[.int .i64 k, .int .i64 x, .slice none 0 0] 66)
    rw [hZ] at h
    exact h
  obtain ⟨HU, HY, HZ, HR0⟩ := hU
  have HZ2 : Hid (w1.heap.size = Z ∧ W.heap.size = R ∧ R < Z) := ⟨hZ, HRR.out, by have := HRR.out; omega⟩
  have hkb : (k == 0) = false := by simpa using hk
  simp only [hZ, hkb]
  clear hZ HY0 HR1 HRR hWZ hkb
  go_loopw [10] (fun s8 wr => ∃ (j : Nat) (g1 : Option Addr) (c1 : Nat), j ≤ n ∧ s8 = .int .i64 (j : Int) ∧ Hid (RGr (fun k => A k ∨ k = Z ∨ k = R) (Z + 1) wr (.slice g1 j c1) ((ks.map Th.giv).take j)) ∧ Hid (Bx 66 wr Z #[.int .i64 k, .int .i64 x, .slice g1 j c1]) ∧ Hid (Below Z w1 wr) ∧ Hid (Z + 1 ≤ wr.heap.size) ∧ Hid (Bx 66 wr R #[.int .i64 0, .int .i64 0, .slice none 0 0])) (fun s8 _ => n - (intOf s8).toNat)
  case atStart => exact ⟨0, none, 0, Nat.zero_le _, rfl, RGr.nil _ _ _, HY, HU, HZ, HR0⟩
  case round =>
    obtain ⟨j, g1, c1, hj, rfl, HG, HBX, HB, HS, HRB⟩ := hrel
    have y0 := HBX.out.cell 0 _ rfl
    have y1 := HBX.out.cell 1 _ rfl
    have y2 := HBX.out.cell 2 _ rfl
    have z0 := HRB.out.cell 0 _ rfl
    have z1 := HRB.out.cell 1 _ rfl
    have z2 := HRB.out.cell 2 _ rfl
    have r0 := HRB.out.frozen 0
    have r1 := HRB.out.frozen 1
    have r2 := HRB.out.frozen 2
    have rl := HRB.out.lt
    have rz : R < Z := HZ2.out.2.2
    by_cases hlt : j < n
    · have hlt' : (j : Int) < (n : Int) := by omega
      obtain ⟨bt, ot, e, hbt, hc⟩ := txts_cellR HX.out (j := j) (by have := HN.out.1; omega)
      obtain ⟨q, hq⟩ : ∃ q, xs[j]'(by have := HN.out.1; omega) = q := ⟨_, rfl⟩
      have HSS : Hid (ks[j]? = some q.data.toList) := by
        have : xs[j]? = some (xs[j]'(by have := HN.out.1; omega)) := List.getElem?_eq_getElem _
        rw [hq] at this
        show ks[j]? = _
        rw [← HN.out.2.1]
        unfold Tm.lst
        rw [List.getElem?_map, this]; rfl
      rw [hq] at hc
      subst e
      have hbz : bt < Z := by have h := HZ2.out.1; omega
      have hc' := (HB.out.cell (p := ⟨bt, ot + j, none⟩) hbz).trans hc
      have hzl : Z < wr.heap.size := HBX.out.lt
      have hbt' : bt < wr.heap.size := Nat.lt_trans hbz hzl
      have hlen : ((ks.map Th.giv).take j).length = j := by rw [List.length_take, List.length_map]; have h1 := HN.out.1; have h2 := HN.out.2.1; have h3 : ks.length = xs.length := by rw [← h2]; unfold Tm.lst; rw [List.length_map]
                                                            omega
      have HLn := hid hlen
      have HT0 : Hid (RTh (orO (fun k => A k ∨ k = Z ∨ k = R) (.slice g1 j c1)) wr [.bool true, .string q, .int .i64 0, .int .i64 0, .slice none 0 0] (.giv q.data.toList)) := RTh.giv q.data.toList
      clear hq hc hlen
      go_wp2_with fail
      go_region_law (refine step_put5 (A := fun k => A k ∨ k = Z ∨ k = R) (by rfl) _ _ (by rfl) (Z + 1) (.slice g1 j c1) #[.bool true, .string q, .int .i64 0, .int .i64 0, .slice none 0 0] [.bool true, .string q, .int .i64 0, .int .i64 0, .slice none 0 0] rfl ((ks.map Th.giv).take j) (.giv q.data.toList) (by rfl) HG.out HT0.out HS.out (by have := HLn.out; omega) _ rfl (by rfl) ?_; intro g7 c7 w7 hG7 hb7; have hbx := HBX.out.on hb7 (Nat.lt_succ_self Z); have y7 := hbx.cell 2 _ rfl; have f7 := hbx.frozen 2; have yl7 := hbx.lt; have HBX7 := hid hbx; have HRB7 := hid (HRB.out.on hb7 (Nat.lt_succ_of_lt rz)); have HG7 := hid hG7; have HB7 := hid hb7; clear hG7 hb7 hbx)
      all_goals
        have HT : ((ks.map Th.giv).take j) ++ [.giv q.data.toList] = (ks.map Th.giv).take (j + 1) := by
          rw [List.take_add_one, List.getElem?_map, HSS.out]
          rfl
        have h9 : min j ks.length = j := by have := HLn.out; rw [List.length_take, List.length_map] at this; exact this
        have HR7 : Hid (RGr (fun k => A k ∨ k = Z ∨ k = R) (Z + 1) w7 (.slice (some ⟨g7, 0, none⟩) (j + 1) c7) ((ks.map Th.giv).take (j + 1)) ∧ Below (Z + 1) wr w7) := by
          have hG7 := HG7.out
          rw [HT, HLn.out] at hG7
          exact ⟨hG7, HB7.out⟩
        simp only [h9]
        clear HT h9 HG7 HB7 HT0 HLn HSS HG
        go_wp2_with fail
        go_roundw
        case rel =>
          refine ⟨j + 1, some ⟨g7, 0, none⟩, c7, by omega, by go_num, HR7.out.1.far (Nat.lt_succ_self Z) (Or.inr (Or.inl rfl)) _ _, ?_, ?_, ?_, ?_⟩
          · exact HBX7.out.set 2 _
          · exact (HB.out.trans (HR7.out.2.mono (Nat.le_succ Z))).setCell (p := ⟨Z, 2, none⟩) (Nat.le_refl _) _
          · show Z + 1 ≤ (w7.setCell _ _).heap.size
            simp; omega
          · exact HRB7.out.other 2 _ (by omega)
        case measure => simp [intOf]; omega
    · have hlt' : ¬ (j : Int) < (n : Int) := by omega
      obtain rfl : j = n := by omega
      go_wp2_with fail
      refine grabPost (fun W9 => Bx 66 W9 R #[.int .i64 k, .int .i64 x, .slice g1 j c1] ∧ RGr (fun k => A k ∨ k = Z ∨ k = R) (Z + 1) W9 (.slice g1 j c1) ((ks.map Th.giv).take j) ∧ Below R w1 W9) ⟨((HRB.out.set 0 _).set 1 _).set 2 _, ?_, ?_⟩ (fun W9 h9 => ?_)
      · exact ((HG.out.far (Nat.lt_succ_of_lt rz) (Or.inr (Or.inr rfl)) _ _).far (Nat.lt_succ_of_lt rz) (Or.inr (Or.inr rfl)) _ _).far (Nat.lt_succ_of_lt rz) (Or.inr (Or.inr rfl)) _ _
      · exact (((HB.out.mono (Nat.le_of_lt rz)).setCell (p := ⟨R, 0, none⟩) (Nat.le_refl _) _).setCell (p := ⟨R, 1, none⟩) (Nat.le_refl _) _).setCell (p := ⟨R, 2, none⟩) (Nat.le_refl _) _
      obtain ⟨h9a, h9b, h9c⟩ := h9
      have q0 := h9a.cell 0 _ rfl
      have q1 := h9a.cell 1 _ rfl
      have q2 := h9a.cell 2 _ rfl
      refine bodyPost_ret (v := hV k x (.slice g1 j c1)) (by simp [results, Tryz.results33, go_sem, q0, q1, q2]) rfl ⟨g1, c1, rfl, ?_, HB1.out.trans (h9c.mono (by have := HZ2.out.2.1; omega))⟩
      rw [List.take_of_length_le (by rw [List.length_map]; have h1 := HN.out.1; have h2 := HN.out.2.1; have h3 : ks.length = xs.length := (by rw [← h2]; unfold Tm.lst; rw [List.length_map]); omega)] at h9b
      refine (h9b.ls (fun k hk => ?_)).avoid (fun k hk => Or.inl (Or.inl hk))
      rcases hk with hk | hk | hk
      · have h1 := HN.out.2.2 k hk; have h2 := HZ2.out; omega
      · omega
      · omega
end Go.Proofs.YtjamknejllbmkaaGreatDoor
