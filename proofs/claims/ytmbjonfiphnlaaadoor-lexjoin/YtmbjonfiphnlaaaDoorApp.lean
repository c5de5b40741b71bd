/- A row of texts put behind another one by append. -/
import Derived.Laws.AppendOwnNone
import Derived.Test.YtmbjonfiphnlaaaDoorWake
namespace Go.Proofs.YtmbjonfiphnlaaaDoor
open Go.RowKit
set_option linter.unusedVariables false

theorem S_one (ks : List (List UInt8)) : ∀ u ∈ ks.map S, u.oneCell' = true := by
  intro u hu
  obtain ⟨b, _, rfl⟩ := List.mem_map.1 hu
  rfl
theorem own_none (W : World) (B : Nat) (hB : B ≤ W.heap.size) : (W.alloc (.cells #[] 9)).ownsRow B 9 1 (.slice (some ⟨W.heap.size, 0, none⟩) 0 0) 0 [] :=
  World.ownsRow_lit W #[] 0 hB (Nat.zero_le _) rfl
theorem app_two {w : World} {ops : Array Oper} {rest : List Oper} {o : Oper} {a : Act} {Q : Exit → Act → World → Prop} (hgd : o.guard = none) (s x : Operand)
    (ho : o.op = .call { callee := .builtin .append, args := #[s, x], argTypes := #[22, 22] }) (base B : Nat) (v X : Value) (ks ms : List (List UInt8)) (hs : a.eval s = v) (hx : a.eval x = X)
    (hown : w.ownsRow base 9 1 v ks.length (ks.map S)) (hX : w.ownsRow B 9 1 X ms.length (ms.map S)) (hb : base ≤ w.heap.size) (hlen : ks.length + ms.length ≤ 1073741824)
    (h : ∀ v' w', w'.ownsRow base 9 1 v' (ks ++ ms).length ((ks ++ ms).map S) → w.grownBy w' v.ownBlock → wpList Tryd.prog ops Q rest (a.put o.dst v') w') : wpList Tryd.prog ops Q (o :: rest) a w := by
  obtain ⟨i0, hi, hz0, hz1, hz2⟩ := info_parts Tryd.info9
  rcases hX.2 with ⟨rfl, hm⟩ | ⟨g, cap, cur, rfl, _⟩
  · have e : ms = [] := List.length_eq_zero_iff.1 hm
    subst e
    refine wpList_append_own_none hgd s x 22 ho base 9 i0 1 Tryd.underlying22 hi v _ _ hs hown hx (h v w ?_ ⟨rfl, rfl, rfl, Nat.le_refl _, fun _ _ _ => rfl⟩)
    rw [List.append_nil]; exact hown
  · refine wpList_append_own w hgd s x 22 ho base 9 i0 (.string ⟨#[]⟩) 1 16 Tryd.underlying22 hi hz0 hz1 hz2 rfl (by decide) v _ _ hs hown ⟨g, 0, none⟩ ms.length cap (ms.map S) hx (by simp) (fun j u hj => hX.cells (g := g) rfl j u hj) (S_one ms) (by unfold maxLen; omega) (by omega) hb ?_
    intro v' w' h1 h2 _
    refine h v' w' ?_ h2
    rw [List.length_append, List.map_append]; exact h1
end Go.Proofs.YtmbjonfiphnlaaaDoor
