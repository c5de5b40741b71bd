/- The contract of the laws' CopyProgram. -/
import Derived.Test.YtiobjkmpeiohdaaTyped
import Derived.Test.YtiobjkmpeiohdaaCopy
import Derived.Test.YtiobjkmpeiohdaaOpenP
namespace Go.Proofs.Ytiobjkmpeiohdaa
open Go.RowKit
set_option linter.unusedVariables false

theorem KdO.numsT {W : World} {base : Nat} {p : Pt} (h : KdO W base p) : NumsT W p.2.1 p.1.kids := by
  rcases h.2 with ⟨_, h3⟩ | ⟨b, cap, cur, hv, _, hh, _, _, _, ht⟩
  · exact Or.inl (List.length_eq_zero_iff.1 h3)
  · simp at hv
    refine Or.inr ⟨b, cur, hv.1, hh, fun j x hx => ?_⟩
    have hl : j < p.1.kids.length := (List.getElem?_eq_some_iff.1 hx).1
    have h1 : (cur.toList.take (p.1.kids.length * 1))[j]? = some (.int .i64 x) := by rw [ht, List.getElem?_map, hx]; rfl
    rw [List.getElem?_take, if_pos (by omega)] at h1
    simpa using h1
theorem rowT_c4 {W : World} : ∀ {ps : List Pt}, (∀ p ∈ ps, NumsT W p.2.1 p.1.kids) → RowT W (ps.flatMap c4) (ps.map (·.1))
  | [], _ => trivial
  | p :: ps, h => ⟨rfl, rfl, rfl, ⟨_, _, rfl, h p (by simp)⟩, rowT_c4 (fun q hq => h q (by simp [hq]))⟩
theorem BdO.exsT {W : World} {base : Nat} {g : Option Addr} {c : Nat} {ps : List Pt} (h : BdO W base (.slice g ps.length c) ps) : ExsT W g (ps.map (·.1)) := by
  rcases h.own.2 with ⟨_, h3⟩ | ⟨b, cap, cur, hv, _, hh, _, _, _, ht⟩
  · exact Or.inl (by rw [List.length_eq_zero_iff.1 h3]; rfl)
  · simp at hv
    obtain ⟨rfl, _⟩ := hv
    refine exsT_of_row hh ?_
    rw [List.length_map, ht]
    exact rowT_c4 (fun p hp => (h.kids p hp).numsT)
/-- No two of the bodies lie in one block. -/
def Apart (qs : List Dt) : Prop := ∀ (i j : Nat) (p q : Dt), qs[i]? = some p → qs[j]? = some q → i ≠ j → ∀ a b, p.2.1 = some a → q.2.1 = some b → a.block ≠ b.block
/-- The bodies lie from here on. -/
def Lo (lo : Nat) (qs : List Dt) : Prop := ∀ q ∈ qs, ∀ a, q.2.1 = some a → lo ≤ a.block
def Ap (lo : Nat) (w : World) (qs : List Dt) : Prop := Apart qs ∧ ∀ q ∈ qs, ∀ a, q.2.1 = some a → lo ≤ a.block ∧ a.block < w.heap.size
theorem Ap.nil (lo : Nat) (w : World) : Ap lo w [] := ⟨fun i j p q h => by simp at h, fun q hq => by cases hq⟩
theorem Ap.snoc {lo : Nat} {w w' : World} {qs : List Dt} {q : Dt} (h : Ap lo w qs) (hlo : lo ≤ w.heap.size) (hs : w.heap.size ≤ w'.heap.size) (hq : ∀ a, q.2.1 = some a → w.heap.size ≤ a.block ∧ a.block < w'.heap.size) : Ap lo w' (qs ++ [q]) := by
  have key : ∀ (i : Nat) (p : Dt), (qs ++ [q])[i]? = some p → (i < qs.length ∧ p ∈ qs ∧ qs[i]? = some p) ∨ (i = qs.length ∧ p = q) := fun i p hp => by
    by_cases hi : i < qs.length
    · rw [List.getElem?_append_left hi] at hp
      exact .inl ⟨hi, List.mem_of_getElem? hp, hp⟩
    · rw [List.getElem?_append_right (by omega)] at hp
      have h0 : i - qs.length = 0 := by
        have := (List.getElem?_eq_some_iff.1 hp).1
        simp at this; omega
      rw [h0] at hp
      exact .inr ⟨by omega, by simpa using hp.symm⟩
  refine ⟨fun i j a b ha hb hij x y hx hy => ?_, fun p hp a ha => ?_⟩
  · rcases key i a ha with ⟨i1, am, ai⟩ | ⟨i1, rfl⟩
    · rcases key j b hb with ⟨j1, bm, bj⟩ | ⟨j1, rfl⟩
      · exact h.1 i j a b ai bj hij x y hx hy
      · have h1 := h.2 a am x hx
        have h2 := (hq y hy).1
        omega
    · rcases key j b hb with ⟨j1, bm, bj⟩ | ⟨j1, rfl⟩
      · have h1 := h.2 b bm y hy
        have h2 := (hq x hx).1
        omega
      · omega
  · rcases List.mem_append.1 hp with hp | hp
    · exact ⟨(h.2 p hp a ha).1, Nat.lt_of_lt_of_le (h.2 p hp a ha).2 hs⟩
    · rw [List.mem_singleton] at hp; subst hp; exact ⟨Nat.le_trans hlo (hq a ha).1, (hq a ha).2⟩
theorem BdO.block {W : World} {base : Nat} {g : Option Addr} {n c : Nat} {ps : List Pt} (h : BdO W base (.slice g n c) ps) : ∀ a, g = some a → base ≤ a.block ∧ a.block < W.heap.size := by
  intro a ha
  subst ha
  exact h.own.lt a.block rfl

set_option maxHeartbeats 1600000 in
set_option maxRecDepth 100000 in
theorem copyprog_any (g : Option Addr) (c : Nat) (ds : List Df) (w : World) (hd : Defs ExsN w g ds) (hn : ds.length * 32 ≤ 140737488351232) (hk : ∀ d ∈ ds, DBd d) :
    Calls Try.prog 7 #[.agg #[.slice g ds.length c]] w fun e w' => ∃ g' c', e = .returned (.agg #[.slice g' ds.length c']) ∧ (∃ qs : List Dt, qs.map (·.1) = ds ∧ qs.length = ds.length ∧ Pd w' (w.heap.size + 2) (.slice g' ds.length c') qs ∧ Apart qs ∧ Lo w.heap.size qs) ∧ Below w.heap.size w w' := by
  go_enter Try.func7, Try.ntmps7
  go_wp2_with fail
  have HX0 : Hid (Bx1 ((w.alloc (.cells #[.slice g ds.length c] 24)).alloc (.cells #[.slice none 0 0] 24)) w.heap.size (.slice g ds.length c)) := (Bx1.new w _).alloc _
  have HY0 : Hid (Bx1 ((w.alloc (.cells #[.slice g ds.length c] 24)).alloc (.cells #[.slice none 0 0] 24)) (w.heap.size + 1) (.slice none 0 0)) := by
    have h := Bx1.new (w.alloc (.cells #[.slice g ds.length c] 24)) (.slice none 0 0)
    rw [World.size_alloc] at h
    exact h
  have HL0 : Hid (Below w.heap.size w ((w.alloc (.cells #[.slice g ds.length c] 24)).alloc (.cells #[.slice none 0 0] 24))) := ((Below.refl _ w).alloc (Nat.le_refl _) _).alloc (by simp) _
  have HS0 : Hid (w.heap.size + 2 ≤ ((w.alloc (.cells #[.slice g ds.length c] 24)).alloc (.cells #[.slice none 0 0] 24)).heap.size) := by show _ ≤ _; simp
  have HD : Hid (Defs ExsN w g ds) := hd
  have HK : Hid (∀ d ∈ ds, DBd d) := hk
  clear hd hk
  go_loopw [3, 4] (fun s3 s4 wr => ∃ (j : Nat) (qs : List Dt) (g' : Option Addr) (c' : Nat), j ≤ ds.length ∧ s3 = .slice g' j c' ∧ s4 = .int .i64 (j : Int) ∧ Hid (Pd wr (w.heap.size + 2) (.slice g' j c') qs) ∧ Hid (qs.map (·.1) = ds.take j ∧ qs.length = j) ∧ Hid (Ap w.heap.size wr qs) ∧ Hid (Bx1 wr w.heap.size (.slice g ds.length c)) ∧ Hid (Bx1 wr (w.heap.size + 1) (.slice none 0 0)) ∧ Hid (Below w.heap.size w wr) ∧ Hid (w.heap.size + 2 ≤ wr.heap.size))
    (fun _ s4 _ => ds.length - (intOf s4).toNat)
  case atStart => exact ⟨0, [], none, 0, Nat.zero_le _, rfl, rfl, Pd.nil _ _, ⟨by simp, rfl⟩, Ap.nil _ _, HX0, HY0, HL0, HS0⟩
  case round =>
    obtain ⟨j, qs, g', c', hj, rfl, rfl, HP, HQ, HA, HX, HY, HL, HS⟩ := hrel
    have x0 := HX.out.c0
    by_cases hlt : j < ds.length
    · have hlt' : (j : Int) < (ds.length : Int) := by omega
      obtain ⟨bk, o, rfl, hbk, gk, ck, a0, a1, an⟩ := ((HD.out.onE (E' := ExsN) HL.out (fun _ _ k => k.on HL.out)).at hlt)
      have hkj := HK.out ds[j] (List.getElem_mem hlt)
      have HTJ : Hid (ds.take (j + 1) = ds.take j ++ [ds[j]]) := List.take_succ_eq_append_getElem hlt
      obtain ⟨d, he⟩ : ∃ d, ds[j] = d := ⟨_, rfl⟩
      rw [he] at a0 a1 an hkj HTJ
      clear he
      obtain ⟨pp, xs⟩ := d
      dsimp only at a0 a1 an hkj
      have hcp := copydef_any pp gk ck xs wr an hkj.1 hkj.2
      clear an hkj
      go_wp2_with fail
      refine hcp.mono ?_
      rintro e w1 ⟨g1, c1, rfl, ⟨ps, hps, hpl, hB1⟩, hb1⟩
      have hE1 : ExsT w1 g1 xs := by
        have h := hB1
        rw [← hpl] at h
        have h := h.exsT
        rwa [hps] at h
      have hblk := hB1.block
      have hpl2 : (qs.length + 1) * 32 ≤ 140737488355328 := by have := HQ.out.2; omega
      have hsz := hb1.size
      have HW0 : Hid (w.heap.size ≤ wr.heap.size) := HL.out.size
      have HP1 : Hid (Pd w1 (w.heap.size + 2) (.slice g' j c') qs) := HP.out.on hb1
      have HX1 : Hid (Bx1 w1 w.heap.size (.slice (some ⟨bk, o, none⟩) ds.length c)) := HX.out.on hb1
      have HY1 : Hid (Bx1 w1 (w.heap.size + 1) (.slice none 0 0)) := HY.out.on hb1
      have HL1 : Hid (Below w.heap.size w w1) := below_next HL.out hb1
      have HS1 : Hid (w.heap.size + 2 ≤ w1.heap.size) := Nat.le_trans HS.out hsz
      have HE1 : Hid (ExsT w1 g1 xs) := hE1
      have HB1 : Hid (wr.heap.size ≤ w1.heap.size ∧ ∀ a, g1 = some a → wr.heap.size ≤ a.block ∧ a.block < w1.heap.size) := ⟨hsz, fun a ha => by have := hblk a ha; omega⟩
      clear hb1 hB1 hE1 hps hpl hblk hsz HP HX HY HL HS HX0 HY0 HL0 HS0 x0 a0 a1 hcp hbk
      go_wp2_with (at_builtin; refine app_df rfl _ _ rfl (w.heap.size + 2) (.slice g' j c') qs (⟨pp, xs⟩, g1, c1) _ rfl rfl w1.heap.size rfl rfl HP1.out HE1.out HS1.out hpl2 ?_)
      intro v2 w2 hP2 hg2
      obtain ⟨g2, k2, rfl⟩ := hP2.val
      have hs2 := hg2.size
      rw [World.size_alloc] at hs2
      have hl2 : (qs ++ [((⟨pp, xs⟩, g1, c1) : Dt)]).length = j + 1 := by
        rw [List.length_append, HQ.out.2]; rfl
      have HQ2 : Hid ((qs ++ [((⟨pp, xs⟩, g1, c1) : Dt)]).map (·.1) = ds.take (j + 1) ∧ (qs ++ [((⟨pp, xs⟩, g1, c1) : Dt)]).length = j + 1) := by
        refine ⟨?_, hl2⟩
        rw [List.map_append, HQ.out.1, HTJ.out]; rfl
      have HA2 : Hid (Ap w.heap.size w2 (qs ++ [((⟨pp, xs⟩, g1, c1) : Dt)])) := HA.out.snoc HW0.out (by have := HB1.out.1; omega) (fun a ha => by have := HB1.out.2 a ha; omega)
      rw [hl2] at hP2 ⊢
      clear hl2
      obtain ⟨p2, hp2⟩ : ∃ p2, qs ++ [((⟨pp, xs⟩, g1, c1) : Dt)] = p2 := ⟨_, rfl⟩
      rw [hp2] at hP2 HQ2 HA2
      have HX2 : Hid (Bx1 w2 w.heap.size (.slice (some ⟨bk, o, none⟩) ds.length c)) := (HX1.out.alloc _).kept hg2 (HP1.out.not_box HX1.out)
      have HY2 : Hid (Bx1 w2 (w.heap.size + 1) (.slice none 0 0)) := (HY1.out.alloc _).kept hg2 (HP1.out.not_box HY1.out)
      have HL2 : Hid (Below w.heap.size w w2) := (HL1.out.alloc HL1.out.size _).grown hg2 (by rw [World.size_alloc]; have := HL1.out.size; omega) (fun k e => by have := (HP1.out.own.lt k e).1; omega)
      have HS2 : Hid (w.heap.size + 2 ≤ w2.heap.size) := by have := HS1.out; show _ ≤ _; omega
      have HP2 : Hid (Pd w2 (w.heap.size + 2) (.slice g2 (j + 1) k2) p2) := hP2
      clear hP2 hg2 hp2 hs2 HP1 HX1 HY1 HL1 HS1 HE1 HB1 HA HQ
      go_wp2_with fail
      go_roundw
      case rel => exact ⟨j + 1, p2, g2, k2, by omega, rfl, by go_num, HP2, HQ2, HA2, HX2, HY2, HL2, HS2⟩
      case measure => simp [intOf]; omega
    · have hlt' : ¬ (j : Int) < (ds.length : Int) := by omega
      obtain rfl : j = ds.length := by omega
      have y0 := HY.out.c0
      have yf := HY.out.frozen 0
      go_wp2_with fail
      have hY := HY.out.set0 (.slice g' ds.length c')
      have hP := HP.out.far HY.out 0 (.slice g' ds.length c')
      have hL := HL.out.setCell (p := ⟨w.heap.size + 1, 0, none⟩) (Nat.le_succ _) (.slice g' ds.length c')
      obtain ⟨W3, hW3⟩ : ∃ W3, wr.setCell ⟨w.heap.size + 1, 0, none⟩ (.slice g' ds.length c') = W3 := ⟨_, rfl⟩
      rw [hW3] at hY hP hL ⊢
      have q0 := hY.c0
      have hpe := HQ.out
      rw [List.take_length] at hpe
      clear hW3 hY
      refine bodyPost_ret (v := .agg #[.slice g' ds.length c']) (by simp [results, Try.results7, go_sem, q0]) rfl ⟨g', c', rfl, ⟨qs, hpe.1, hpe.2, hP, HA.out.1, fun q hq a ha => (HA.out.2 q hq a ha).1⟩, hL⟩
end Go.Proofs.Ytiobjkmpeiohdaa
