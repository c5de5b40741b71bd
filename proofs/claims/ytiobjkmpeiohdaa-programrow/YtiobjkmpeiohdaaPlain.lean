/- Programs as plain data, and which of them may be; two definitions that change places, with their calls, turn nothing. -/
import Derived.Test.YtiobjkmpeiohdaaPure
namespace Go.Proofs.Ytiobjkmpeiohdaa
set_option linter.unusedVariables false

/-- A definition. -/
structure Df where
  params : Int
  body : List Ex
deriving DecidableEq

/-- Is there one that takes this call? -/
def takes (ds : List Df) (e : Ex) : Bool :=
  decide (0 ≤ e.num) && (match ds[e.num.toNat]? with | none => false | some d => decide ((e.kids.length : Int) = d.params))
/-- A call that nobody takes. -/
def wrong (ds : List Df) (e : Ex) : Bool := decide (e.kind = 2) && !takes ds e
def dOk (ds : List Df) (d : Df) : Bool := may d.params d.body && !d.body.any (wrong ds)
def pmay (ds : List Df) : Bool :=
  decide (1 ≤ ds.length ∧ ds.length ≤ 8) && (match ds[0]? with | none => false | some d => decide (d.params = 0)) && ds.all (dOk ds)

/-! What may be has parts that may be. -/
theorem run_ok : ∀ {xs : List (Nat × Ex)} {L : List Int}, (run L xs).isSome = true → ∀ x ∈ xs, ∃ t, x.2.ok t = true
  | [], L, _, x, hx => by cases hx
  | y :: xs, L, h, x, hx => by
    rw [run] at h
    cases hs : stp L y with
    | none => rw [hs] at h; cases h
    | some L1 =>
      rw [hs] at h
      rcases List.mem_cons.1 hx with rfl | hx
      · unfold stp at hs
        split at hs
        · cases hs
        · rename_i t _
          split at hs
          · cases hs
          · split at hs
            · cases hs
            · rename_i hk
              exact ⟨t, by simpa using hk⟩
      · exact run_ok h x hx
theorem mem_backw {xs : List Ex} {x : Ex} (h : x ∈ xs) : ∃ n, (n, x) ∈ backw xs := by
  obtain ⟨i, hi, rfl⟩ := List.getElem_of_mem h
  refine ⟨i, ?_⟩
  unfold backw
  rw [List.mem_reverse, List.mem_map]
  exact ⟨(xs[i], i), by rw [List.mem_zipIdx_iff_getElem?]; exact List.getElem?_eq_getElem hi, rfl⟩
theorem may_parts {p : Int} {xs : List Ex} (h : may p xs = true) : ∀ x ∈ xs, ∃ t, x.ok t = true := by
  intro x hx
  unfold may at h
  split at h
  · obtain ⟨n, hn⟩ := mem_backw hx
    obtain ⟨t, ht⟩ := run_ok h _ hn
    exact ⟨t, ht⟩
  · cases h
theorem may_len {p : Int} {xs : List Ex} (h : may p xs = true) : xs.length ≤ 24 := by
  unfold may at h
  split at h
  · omega
  · cases h
theorem ok_call {e : Ex} {t : Int} (h : e.ok t = true) (hk : e.kind = 2) : 0 ≤ e.num ∧ e.num ≤ 7 := by
  unfold Ex.ok at h
  rw [hk] at h
  simp [okE] at h
  omega
/-- A call in what may be: its number is none below 0. -/
theorem may_call {p : Int} {xs : List Ex} (h : may p xs = true) {x : Ex} (hx : x ∈ xs) (hk : x.kind = 2) : 0 ≤ x.num := by
  obtain ⟨t, ht⟩ := may_parts h x hx
  exact (ok_call ht hk).1

/-! Two definitions change places. -/
/-- The number y for x and x for y. -/
def swp (x y m : Int) : Int := if m = x then y else if m = y then x else m
/-- The same part with its call turned. -/
def Ex.sw (x y : Int) (e : Ex) : Ex := if e.kind = 2 then { e with num := swp x y e.num } else e
def Df.sw (x y : Int) (d : Df) : Df := { d with body := d.body.map (Ex.sw x y) }
theorem sw_kind (x y : Int) (e : Ex) : (e.sw x y).kind = e.kind := by unfold Ex.sw; split <;> rfl
theorem sw_bind (x y : Int) (e : Ex) : (e.sw x y).bind = e.bind := by unfold Ex.sw; split <;> rfl
theorem sw_kids (x y : Int) (e : Ex) : (e.sw x y).kids = e.kids := by unfold Ex.sw; split <;> rfl
theorem sw_bd (x y : Int) (e : Ex) (i : Int) : (e.sw x y).bd i = e.bd i := by unfold Ex.bd; rw [sw_kind, sw_bind]
theorem sw_ok {x y : Int} (hx : 0 ≤ x ∧ x ≤ 7) (hy : 0 ≤ y ∧ y ≤ 7) (e : Ex) (t : Int) : (e.sw x y).ok t = e.ok t := by
  unfold Ex.ok
  rw [sw_kind, sw_bind, sw_kids]
  unfold Ex.sw
  by_cases h : e.kind = 2
  · rw [if_pos h, h]
    simp only [okE]
    have : (0 ≤ swp x y e.num ∧ swp x y e.num ≤ 7) ↔ (0 ≤ e.num ∧ e.num ≤ 7) := by
      unfold swp
      split
      · omega
      · split <;> omega
    simp [this]
  · rw [if_neg h]
theorem sw_hd {n : Nat} {e : Ex} {t : Int} (x y : Int) : ∀ (ks : List Int) (i : Nat) (L : List Int), hd n (e.sw x y) t i ks L = hd n e t i ks L
  | [], i, L => rfl
  | k :: ks, i, L => by
    rw [hd, hd, sw_bd]
    split
    · split
      · rfl
      · exact sw_hd x y ks _ _
    · rfl
theorem sw_stp {x y : Int} (hx : 0 ≤ x ∧ x ≤ 7) (hy : 0 ≤ y ∧ y ≤ 7) (L : List Int) (n : Nat) (e : Ex) : stp L (n, e.sw x y) = stp L (n, e) := by
  unfold stp
  dsimp only
  cases L[n]? with
  | none => rfl
  | some t =>
    dsimp only
    rw [sw_ok hx hy, sw_kids, sw_hd]
theorem sw_run {x y : Int} (hx : 0 ≤ x ∧ x ≤ 7) (hy : 0 ≤ y ∧ y ≤ 7) : ∀ (xs : List (Nat × Ex)) (L : List Int), run L (xs.map fun q => (q.1, q.2.sw x y)) = run L xs
  | [], L => rfl
  | q :: xs, L => by
    rw [List.map_cons, run, run, sw_stp hx hy]
    cases stp L (q.1, q.2) with
    | none => rfl
    | some L' => exact sw_run hx hy xs L'
theorem backw_map (f : Ex → Ex) (xs : List Ex) : backw (xs.map f) = (backw xs).map fun q => (q.1, f q.2) := by
  induction xs using list_snoc_ind with
  | h0 => rfl
  | h1 xs x ih => rw [List.map_append, List.map_singleton, backw_snoc, backw_snoc, List.map_cons, ih, List.length_map]
theorem sw_may {x y : Int} (hx : 0 ≤ x ∧ x ≤ 7) (hy : 0 ≤ y ∧ y ≤ 7) (p : Int) (xs : List Ex) : may p (xs.map (Ex.sw x y)) = may p xs := by
  unfold may
  rw [List.length_map, backw_map, sw_run hx hy]

/-- The places x and y change. -/
def swl {α : Type} (x y : Nat) (ds : List α) : List α :=
  match ds[x]?, ds[y]? with
  | some a, some b => (ds.set x b).set y a
  | _, _ => ds
theorem swl_len {α : Type} (x y : Nat) (ds : List α) : (swl x y ds).length = ds.length := by
  unfold swl; split <;> simp
theorem swl_at {α : Type} {x y : Nat} {ds : List α} (hx : x < ds.length) (hy : y < ds.length) (j : Nat) :
    (swl x y ds)[j]? = if j = x then ds[y]? else if j = y then ds[x]? else ds[j]? := by
  unfold swl
  rw [List.getElem?_eq_getElem hx, List.getElem?_eq_getElem hy]
  simp only [List.getElem?_set, List.length_set]
  by_cases h1 : y = j
  · subst h1
    by_cases h2 : x = y
    · subst h2; simp [hx]
    · rw [if_pos rfl, if_pos hy, if_neg (fun e => h2 e.symm), if_pos rfl]
  · rw [if_neg h1]
    by_cases h2 : x = j
    · subst h2; simp [hx]
    · rw [if_neg h2, if_neg (fun e => h2 e.symm), if_neg (fun e => h1 e.symm)]
/-- The program whose definitions x and y change places, with its calls turned. -/
def swP (x y : Nat) (ds : List Df) : List Df := (swl x y ds).map (Df.sw (x : Int) (y : Int))
theorem swP_len (x y : Nat) (ds : List Df) : (swP x y ds).length = ds.length := by unfold swP; rw [List.length_map, swl_len]
theorem swP_at {x y : Nat} {ds : List Df} (hx : x < ds.length) (hy : y < ds.length) (j : Nat) :
    (swP x y ds)[j]? = (if j = x then ds[y]? else if j = y then ds[x]? else ds[j]?).map (Df.sw (x : Int) (y : Int)) := by
  unfold swP
  rw [List.getElem?_map, swl_at hx hy]
/-- What is asked of where a call's number is. -/
theorem swP_swp {x y : Nat} {ds : List Df} (hx : x < ds.length) (hy : y < ds.length) {m : Int} (hm : 0 ≤ m) :
    (swP x y ds)[(swp x y m).toNat]? = (ds[m.toNat]?).map (Df.sw (x : Int) (y : Int)) := by
  rw [swP_at hx hy]
  unfold swp
  by_cases h1 : m = x
  · subst h1
    rw [if_pos rfl]
    by_cases h2 : (y : Int) = (x : Int)
    · have : y = x := by omega
      subst this; simp
    · have h3 : ¬ y = x := by omega
      simp [h3]
  · rw [if_neg h1]
    by_cases h2 : m = y
    · subst h2; simp
    · rw [if_neg h2, if_neg (by omega), if_neg (by omega)]
theorem sw_takes {x y : Nat} {ds : List Df} (hx : x < ds.length) (hy : y < ds.length) {e : Ex} (hk : e.kind = 2) : takes (swP x y ds) (e.sw x y) = takes ds e := by
  unfold takes
  rw [sw_kids]
  have hn : (e.sw x y).num = swp x y e.num := by unfold Ex.sw; rw [if_pos hk]
  rw [hn]
  have h0 : (0 ≤ swp x y e.num) ↔ (0 ≤ e.num) := by
    unfold swp
    split
    · omega
    · split <;> omega
  by_cases hm : 0 ≤ e.num
  · rw [swP_swp hx hy hm, decide_eq_true (h0.2 hm), decide_eq_true hm]
    cases ds[e.num.toNat]? <;> rfl
  · rw [decide_eq_false hm, decide_eq_false (fun h => hm (h0.1 h)), Bool.false_and, Bool.false_and]
theorem sw_wrong {x y : Nat} {ds : List Df} (hx : x < ds.length) (hy : y < ds.length) (e : Ex) : wrong (swP x y ds) (e.sw x y) = wrong ds e := by
  unfold wrong
  rw [sw_kind]
  by_cases h : e.kind = 2
  · rw [sw_takes hx hy h]
  · rw [decide_eq_false h]; rfl
theorem sw_dOk {x y : Nat} {ds : List Df} (hx : x < ds.length) (hy : y < ds.length) (hl : ds.length ≤ 8) (d : Df) : dOk (swP x y ds) (d.sw x y) = dOk ds d := by
  unfold dOk
  show (may d.params (d.body.map (Ex.sw x y)) && _) = _
  rw [sw_may (by omega) (by omega)]
  congr 2
  show (d.body.map (Ex.sw x y)).any _ = _
  rw [List.any_map]
  congr 1
  funext e
  exact sw_wrong hx hy e
theorem swl_mem {α : Type} {x y : Nat} {ds : List α} (hx : x < ds.length) (hy : y < ds.length) (d : α) : d ∈ swl x y ds ↔ d ∈ ds := by
  rw [List.mem_iff_getElem?, List.mem_iff_getElem?]
  constructor
  · rintro ⟨j, hj⟩
    rw [swl_at hx hy] at hj
    split at hj
    · exact ⟨_, hj⟩
    · split at hj
      · exact ⟨_, hj⟩
      · exact ⟨_, hj⟩
  · rintro ⟨j, hj⟩
    by_cases h1 : j = x
    · subst h1
      refine ⟨y, ?_⟩
      rw [swl_at hx hy]
      by_cases h2 : y = j
      · subst h2; rw [if_pos rfl]; exact hj
      · rw [if_neg h2, if_pos rfl]; exact hj
    · by_cases h2 : j = y
      · subst h2
        exact ⟨x, by rw [swl_at hx hy, if_pos rfl]; exact hj⟩
      · exact ⟨j, by rw [swl_at hx hy, if_neg h1, if_neg h2]; exact hj⟩
/-- It turns nothing. -/
theorem sw_pmay {x y : Nat} {ds : List Df} (hx : x < ds.length) (hy : y < ds.length) (hx1 : 1 ≤ x) (hy1 : 1 ≤ y) : pmay (swP x y ds) = pmay ds := by
  unfold pmay
  rw [swP_len]
  by_cases hl : 1 ≤ ds.length ∧ ds.length ≤ 8
  · have h0 : (swP x y ds)[0]? = (ds[0]?).map (Df.sw (x : Int) (y : Int)) := by
      rw [swP_at hx hy, if_neg (by omega), if_neg (by omega)]
    rw [h0]
    have h1 : (swP x y ds).all (dOk (swP x y ds)) = ds.all (dOk ds) := by
      rw [Bool.eq_iff_iff, List.all_eq_true, List.all_eq_true]
      constructor
      · intro h d hd
        have := h (d.sw x y) (by unfold swP; exact List.mem_map.2 ⟨d, (swl_mem hx hy d).2 hd, rfl⟩)
        rwa [sw_dOk hx hy hl.2] at this
      · intro h d hd
        unfold swP at hd
        obtain ⟨d', hd', rfl⟩ := List.mem_map.1 hd
        rw [sw_dOk hx hy hl.2]
        exact h d' ((swl_mem hx hy d').1 hd')
    rw [h1]
    cases ds[0]? <;> rfl
  · rw [decide_eq_false hl]; rfl
end Go.Proofs.Ytiobjkmpeiohdaa
