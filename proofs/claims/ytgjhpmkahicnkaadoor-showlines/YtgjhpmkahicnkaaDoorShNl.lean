/- The lines of a program's text: no line end within, how each begins and ends. -/
import Derived.Test.YtgjhpmkahicnkaaDoorMShow
namespace Go.Proofs.YtgjhpmkahicnkaaDoor
set_option linter.unusedVariables false

def NL (t : Wd) : Prop := ∀ b ∈ t, b ≠ 10
theorem nl_app {a b : Wd} (ha : NL a) (hb : NL b) : NL (a ++ b) := fun x hx => (List.mem_append.1 hx).elim (ha x) (hb x)
theorem nl_cons {c : UInt8} {t : Wd} (hc : c ≠ 10) (h : NL t) : NL (c :: t) := fun x hx => (List.mem_cons.1 hx).elim (fun e => e ▸ hc) (h x)
theorem nl_nil : NL [] := fun x hx => by cases hx
theorem nl_itoa (v : Int) : NL (Lib.itoa v) := fun c hc e => by
  have := Tm.itoa_nc v c hc
  subst e; exact absurd this (by decide)
theorem nl_jn : ∀ {ts : List Wd}, (∀ t ∈ ts, NL t) → NL (Tm.jn ts)
  | [], _ => nl_nil
  | [t], h => by simpa [Tm.jn] using h t (by simp)
  | t :: t' :: ts, h => by
    have h1 := nl_jn (ts := t' :: ts) fun u hu => h u (List.mem_cons_of_mem _ hu)
    have : NL (t ++ 32 :: Tm.jn (t' :: ts)) := nl_app (h t (by simp)) (nl_cons (by decide) h1)
    simpa [Tm.jn] using this
theorem nl_op (m : Int) : NL (opS m) := by
  unfold opS
  (repeat' split) <;> exact nl_cons (by decide) nl_nil
theorem nl_fm (x : Ex) {ts : List Wd} (h : ∀ t ∈ ts, NL t) : NL (fm x ts) := by
  have hg : ∀ i, NL (ts.getD i []) := fun i => by
    rw [List.getD_eq_getElem?_getD]
    cases hi : ts[i]? with
    | none => exact nl_nil
    | some s => exact h s (List.mem_of_getElem? hi)
  have hs : ∀ c : UInt8, c ≠ 10 → ∀ v, NL (c :: Lib.itoa v) := fun c hc v => nl_cons hc (nl_itoa v)
  unfold fm
  split
  · exact nl_itoa _
  split
  · exact hs _ (by decide) _
  split
  · exact nl_cons (by decide) (nl_cons (by decide) (nl_cons (by decide) (nl_cons (by decide) (nl_cons (by decide) nl_nil))))
  split
  · exact hs _ (by decide) _
  refine nl_cons (by decide) (nl_app ?_ (nl_cons (by decide) nl_nil))
  unfold inn
  split
  · exact nl_app (nl_cons (by decide) (nl_cons (by decide) (nl_cons (by decide) nl_nil))) (nl_cons (by decide) (nl_jn h))
  split
  · exact nl_app (nl_op _) (nl_cons (by decide) (nl_jn h))
  split
  · refine nl_app (nl_cons (by decide) (nl_cons (by decide) (nl_cons (by decide) (nl_cons (by decide) nl_nil)))) (nl_cons (by decide) (nl_app (hg 0) (nl_cons (by decide) (nl_app (hs _ (by decide) _) (nl_cons (by decide) (nl_app (nl_itoa _) (nl_cons (by decide) (nl_app (hg 1) (nl_cons (by decide) (hg 2))))))))))
  · refine nl_jn fun t ht => ?_
    rcases List.mem_cons.1 ht with rfl | ht
    · split <;> exact hs _ (by decide) _
    · exact h t ht
theorem nl_sh (B : List Ex) : ∀ (f : Nat) (i : Int), NL (sh f B i)
  | 0, i => nl_nil
  | f + 1, i => by
    rw [sh]
    cases B[i.toNat]? with
    | none => exact nl_nil
    | some x =>
      refine nl_fm x fun t ht => ?_
      obtain ⟨k, _, rfl⟩ := List.mem_map.1 ht
      exact nl_sh B f k
theorem nl_df (d : Df) : NL (dfS d) :=
  nl_cons (by decide) (nl_app (nl_app (nl_cons (by decide) (nl_cons (by decide) (nl_cons (by decide) nl_nil))) (nl_cons (by decide) (nl_app (nl_itoa _) (nl_cons (by decide) (nl_sh _ _ _))))) (nl_cons (by decide) nl_nil))
/-- How a line begins and ends. -/
theorem df_shape {d : Df} (h : may d.params d.body = true) : ∃ c u, Lib.itoa d.params = [c] ∧ u ≠ [] ∧ dfS d = 40 :: 100 :: 101 :: 102 :: 32 :: c :: 32 :: (u ++ [41]) := by
  obtain ⟨h1, h2, h3⟩ := may_ne h
  have hc : ∃ c, Lib.itoa d.params = [c] := by
    have : d.params = 0 ∨ d.params = 1 ∨ d.params = 2 ∨ d.params = 3 := by omega
    rcases this with e | e | e | e <;> rw [e]
    · exact ⟨48, by decide +kernel⟩
    · exact ⟨49, by decide +kernel⟩
    · exact ⟨50, by decide +kernel⟩
    · exact ⟨51, by decide +kernel⟩
  obtain ⟨c, hc⟩ := hc
  refine ⟨c, sh d.body.length d.body (lastAt d.body), hc, ?_, by rw [dfS, hc]; rfl⟩
  have hw := wt_sh (fit_of_may h) d.body.length (lastAt d.body) (by unfold lastAt; omega) (by unfold lastAt; omega) (by unfold lastAt; omega)
  intro e
  obtain ⟨a, r, e1, _, _, e2⟩ := hw.2
  have h0 := hw.1.2 [] (fun c hc => by cases hc)
  rw [e, e1] at h0
  have e3 : Lx.wd false [] ([] ++ [] : List UInt8) = [] := rfl
  rw [e3] at h0
  simp at h0
/-- Where the k-th line begins. -/
def pos (ds : List Df) (k : Nat) : Nat := (showS (ds.take k)).length
theorem show_app (a b : List Df) : showS (a ++ b) = showS a ++ showS b := by simp [showS]
theorem pos_step {ds : List Df} {k : Nat} (h : k < ds.length) : pos ds (k + 1) = pos ds k + (dfS ds[k]).length + 1 := by
  unfold pos
  rw [List.take_succ_eq_append_getElem h, show_app]
  simp [showS]; omega
theorem pos_end (ds : List Df) : pos ds ds.length = (showS ds).length := by unfold pos; rw [List.take_length]
theorem pos_split {ds : List Df} {k : Nat} (h : k < ds.length) : showS ds = showS (ds.take k) ++ ((dfS ds[k] ++ [10]) ++ showS (ds.drop (k + 1))) := by
  conv => lhs; rw [← List.take_append_drop k ds]
  rw [show_app, List.drop_eq_getElem_cons h]
  rfl
/-- The byte at that place of the k-th line. -/
theorem byte_at {ds : List Df} {k : Nat} (h : k < ds.length) (r : Nat) (hr : r ≤ (dfS ds[k]).length) : (showS ds)[pos ds k + r]? = (dfS ds[k] ++ [10])[r]? := by
  rw [pos_split h]
  unfold pos
  rw [List.getElem?_append_right (by omega), Nat.add_sub_cancel_left, List.getElem?_append_left (by simp; omega)]
theorem pos_le {ds : List Df} {k : Nat} (h : k ≤ ds.length) : pos ds k ≤ (showS ds).length := by
  have : showS ds = showS (ds.take k) ++ showS (ds.drop k) := by rw [← show_app, List.take_append_drop]
  rw [this]; unfold pos; simp
end Go.Proofs.YtgjhpmkahicnkaaDoor
