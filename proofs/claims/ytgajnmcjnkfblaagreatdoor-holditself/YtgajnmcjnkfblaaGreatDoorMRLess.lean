/- The contracts of the reference's less and Below: through the parts they tell what the walk in one go tells. -/
import Derived.Test.YtgajnmcjnkfblaaGreatDoorMPlain
import Derived.Test.YtgajnmcjnkfblaaGreatDoorMRef

namespace Go.Proofs.YtgajnmcjnkfblaaGreatDoor.Tm
open Go.RowKit
set_option linter.unusedVariables false

/-- What Is tells. -/
def isB (a b : List UInt8) : Bool := (whole a).isSome && ((whole b).isSome && fl a b)
def isE (a b : List UInt8) : Int := if (whole a).isSome && (whole b).isSome then 0 else 300

theorem whole_size {s : ByteArray} (h : (whole s.data.toList).isSome = true) : s.size ≤ 1024 := by
  obtain ⟨⟨k, x, ks⟩, hy⟩ := Option.isSome_iff_exists.1 h
  have := (whole_some hy).1
  simpa using this

/-- What is asked of less, at most so deep. -/
def RLessSaid (f : Nat) : Prop := ∀ (a b : ByteArray) (R : Bool) (w : World), a.size < f → (whole a.data.toList).isSome = true → (whole b.data.toList).isSome = true → fl a.data.toList b.data.toList = R →
  Calls Tryz.prog 45 #[.string a, .string b] w fun e w' => e = .returned (.bool R) ∧ Below w.heap.size w w'

theorem pw_len {R : List UInt8 → List UInt8 → Bool} : ∀ {ks ms : List (List UInt8)}, ks.length ≠ ms.length → pw R ks ms = false
  | [], [], h => absurd rfl h
  | [], b :: s, _ => rfl
  | a :: r, [], _ => rfl
  | a :: r, b :: s, h => by rw [pw, pw_len (fun e => h (by simp [e])), Bool.and_false]
theorem pw_at {R : List UInt8 → List UInt8 → Bool} {ks ms : List (List UInt8)} {j : Nat} (h1 : j < ks.length) (h2 : j < ms.length) : pw R (ks.drop j) (ms.drop j) = (R ks[j] ms[j] && pw R (ks.drop (j + 1)) (ms.drop (j + 1))) := by
  rw [List.drop_eq_getElem_cons h1, List.drop_eq_getElem_cons h2, pw]

theorem less_hole {a b : List UInt8} {x m y : Int} {ks ms : List (List UInt8)} {R : Bool} (ha : whole a = some (0, x, ks)) (hb : whole b = some (m, y, ms)) (hR : fl a b = R) : R = true := by
  rw [← hR, fl_parts ha hb]; simp
theorem less_unlike {a b : List UInt8} {k x m y : Int} {ks ms : List (List UInt8)} {R : Bool} (ha : whole a = some (k, x, ks)) (hb : whole b = some (m, y, ms)) (hR : fl a b = R) (h0 : k ≠ 0) (h : k ≠ m ∨ x ≠ y ∨ ks.length ≠ ms.length) : R = false := by
  rw [← hR, fl_parts ha hb, decide_eq_false h0]
  rcases h with h | h | h
  · simp [h]
  · simp [h]
  · rw [pw_len h]; simp
theorem less_like {a b : List UInt8} {k x : Int} {ks ms : List (List UInt8)} {R : Bool} (ha : whole a = some (k, x, ks)) (hb : whole b = some (k, x, ms)) (hR : fl a b = R) (h0 : k ≠ 0) : pw fl ks ms = R := by
  rw [← hR, fl_parts ha hb, decide_eq_false h0]; simp

/-- Two cells, and all that was there, as they were. -/
theorem keep_drew {w0 wc : World} {p q : Addr} {x y : Value} (h : Below w0.heap.size w0 wc ∧ wc.cell? p = some x ∧ wc.cell? q = some y) : Below w0.heap.size w0 wc.drew ∧ wc.drew.cell? p = some x ∧ wc.drew.cell? q = some y :=
  ⟨h.1.drew, h.2.1, h.2.2⟩
theorem keep_next {w0 wc w' : World} {p q : Addr} {x y : Value} (h : Below w0.heap.size w0 wc ∧ wc.cell? p = some x ∧ wc.cell? q = some y) (hb : Below wc.heap.size wc w') : Below w0.heap.size w0 w' ∧ w'.cell? p = some x ∧ w'.cell? q = some y :=
  ⟨below_next h.1 hb, by rw [hb.cell (World.block_lt_of_cell? wc p h.2.1)]; exact h.2.1, by rw [hb.cell (World.block_lt_of_cell? wc q h.2.2)]; exact h.2.2⟩

set_option maxHeartbeats 1600000 in
set_option maxRecDepth 100000 in
theorem rless_of (f : Nat) (ih : RLessSaid f) : RLessSaid (f + 1) := by
  intro a b R w hf ha hb hR
  have hsa := whole_size ha
  have hsb := whole_size hb
  obtain ⟨⟨k, x, ks⟩, hya⟩ := Option.isSome_iff_exists.1 ha
  obtain ⟨⟨m, y, ms⟩, hyb⟩ := Option.isSome_iff_exists.1 hb
  clear ha hb
  have HA : Hid (whole a.data.toList = some (k, x, ks)) := hya
  have HB : Hid (whole b.data.toList = some (m, y, ms)) := hyb
  have HR : Hid (fl a.data.toList b.data.toList = R) := hR
  clear hya hyb hR
  go_enter Tryz.func45, Tryz.ntmps45
  go_wp2_with fail
  refine (rcut_any a _ (by omega)).mono ?_
  rintro e w1 ⟨k1, x1, v1, er1, rfl, ⟨g1, n1, c1, rfl⟩, hb1, hgot⟩
  rw [HA.out] at hgot
  obtain ⟨e1, e2, e3, hown⟩ := hgot
  subst e1 e2 e3
  obtain ⟨ga, ca, ev, htx1, _⟩ := own_txts hown
  clear hown
  have ea : g1 = ga := by cases ev; rfl
  have eb : n1 = ks.length := by cases ev; simp
  clear ev
  subst ea eb
  go_wp2_with fail
  refine (rcut_any b _ (by omega)).mono ?_
  rintro e w2 ⟨k2, x2, v2, er2, rfl, ⟨g2, n2, c2, rfl⟩, hb2, hgot⟩
  rw [HB.out] at hgot
  obtain ⟨e1, e2, e3, hown⟩ := hgot
  subst e1 e2 e3
  obtain ⟨gb, cb, ev, htx2, _⟩ := own_txts hown
  clear hown
  have ea : g2 = gb := by cases ev; rfl
  have eb : n2 = ms.length := by cases ev; simp
  clear ev
  subst ea eb
  have hka : (ks.map ba).length = ks.length := by simp
  have hkb : (ms.map ba).length = ms.length := by simp
  have HT1 : Hid (Txts w2 g1 (ks.map ba)) := htx1.on hb2
  have HT2 : Hid (Txts w2 g2 (ms.map ba)) := htx2
  clear htx1 htx2
  have h02 := below_next hb1 hb2
  clear hb1 hb2
  have hk3 := (whole_parts HA.out).2.2
  have hm3 := (whole_parts HB.out).2.2
  by_cases k0 : k1 = 0
  · have eR : R = true := less_hole (by rw [← k0]; exact HA.out) HB.out HR.out
    subst eR k0
    go_wp2_with fail
    go_ret
    exact ⟨rfl, h02⟩
  · have q0 : (k1 == 0) = false := by simp [k0]
    by_cases hkm : k1 = k2
    · have q1 : (k1 != k2) = false := by simp [hkm]
      by_cases hxy : x1 = x2
      · have q2 : (x1 != x2) = false := by simp [hxy]
        by_cases hl : ks.length = ms.length
        · have q3 : ((ks.length : Int) != (ms.length : Int)) = false := by simp [hl]
          have HP : Hid (pw fl ks ms = R) := less_like HA.out (by rw [hkm, hxy]; exact HB.out) HR.out k0
          have HKA : Hid (∀ p ∈ ks, (whole p).isSome = true ∧ p.length < a.data.toList.length) := (whole_parts HA.out).1
          have HKB : Hid (∀ p ∈ ms, (whole p).isSome = true ∧ p.length < b.data.toList.length) := (whole_parts HB.out).1
          have HL : Hid (ks.length = ms.length) := hl
          clear k0 hkm hxy hl HR HA HB
          go_wp2_with fail
          go_loopw [13] (fun i wr => ∃ j : Nat, j ≤ ks.length ∧ i = .int .i64 (j : Int) ∧ pw fl (ks.drop j) (ms.drop j) = R ∧ Below w2.heap.size w2 wr) (fun i _ => ks.length - (intOf i).toNat)
          case atStart => exact ⟨0, Nat.zero_le _, rfl, by rw [List.drop_zero, List.drop_zero]; exact HP.out, Below.refl _ _⟩
          case round =>
            obtain ⟨j, hj, rfl, he, hbr⟩ := hrel
            clear HP
            by_cases hlt : j < ks.length
            · have hlt2 : j < ms.length := by have := HL.out; omega
              have hlt2' : (j : Int) < (ms.length : Int) := by omega
              rw [pw_at hlt hlt2] at he
              obtain ⟨b1, o1, rfl, hc1⟩ := txts_at (HT1.out.on hbr) (by rw [hka]; exact hlt)
              obtain ⟨b2, o2, rfl, hc2⟩ := txts_at (HT2.out.on hbr) (by rw [hkb]; exact hlt2)
              rw [List.getElem_map] at hc1 hc2
              have hpa := HKA.out ks[j] (List.getElem_mem hlt)
              have hpb := HKB.out ms[j] (List.getElem_mem hlt2)
              generalize hp : ks[j] = p at *
              generalize hq : ms[j] = q at *
              have HPA : Hid ((whole (ba p).data.toList).isSome = true) := hpa.1
              have HPB : Hid ((whole (ba q).data.toList).isSome = true) := hpb.1
              have hps : (ba p).size < f := by
                have h1 := hpa.2
                have h2 : (ba p).size = p.length := rfl
                have h3 : a.data.toList.length = a.size := by simp
                omega
              have HE : Hid ((fl (ba p).data.toList (ba q).data.toList && pw fl (ks.drop (j + 1)) (ms.drop (j + 1))) = R) := he
              clear hp hq hpa hpb he
              obtain ⟨P, hP⟩ : ∃ P, P = ba p := ⟨_, rfl⟩
              obtain ⟨Q, hQ⟩ : ∃ Q, Q = ba q := ⟨_, rfl⟩
              rw [← hP] at hc1 HPA hps HE
              rw [← hQ] at hc2 HPB HE
              clear hP hQ
              cases hf : fl P.data.toList Q.data.toList with
              | true =>
                rw [hf] at HE
                have HF : Hid (fl P.data.toList Q.data.toList = true) := hf
                clear hf
                have hS : Below wr.heap.size wr wr ∧ wr.cell? ⟨b1, o1 + j, none⟩ = some (.string P) ∧ wr.cell? ⟨b2, o2 + j, none⟩ = some (.string Q) := ⟨Below.refl _ _, hc1, hc2⟩
                go_wp2_with fail
                go_region_held3 (fun w' => Below wr.heap.size wr w' ∧ w'.cell? ⟨b1, o1 + j, none⟩ = some (.string P) ∧ w'.cell? ⟨b2, o2 + j, none⟩ = some (.string Q)) (first | assumption | (exact keep_drew (by assumption)) | (exact keep_next (by assumption) (by assumption)))
                  (first | (go_at_call 45; refine (ih P Q true _ hps HPA.out HPB.out HF.out).mono ?_; rintro e w3 ⟨rfl, hb3⟩))
                all_goals
                  go_wp2_with fail
                  go_roundw
                  case rel =>
                    have hbn : Below w2.heap.size w2 _ := below_next hbr (by first | assumption | (exact And.left (by assumption)))
                    exact ⟨j + 1, by omega, by go_num, HE.out, hbn⟩
                  case measure => simp [intOf]; omega
              | false =>
                rw [hf] at HE
                have eR : R = false := HE.out.symm
                subst eR
                have HF : Hid (fl P.data.toList Q.data.toList = false) := hf
                clear hf HE
                have hS : Below wr.heap.size wr wr ∧ wr.cell? ⟨b1, o1 + j, none⟩ = some (.string P) ∧ wr.cell? ⟨b2, o2 + j, none⟩ = some (.string Q) := ⟨Below.refl _ _, hc1, hc2⟩
                go_wp2_with fail
                go_region_held3 (fun w' => Below wr.heap.size wr w' ∧ w'.cell? ⟨b1, o1 + j, none⟩ = some (.string P) ∧ w'.cell? ⟨b2, o2 + j, none⟩ = some (.string Q)) (first | assumption | (exact keep_drew (by assumption)) | (exact keep_next (by assumption) (by assumption)))
                  (first | (go_at_call 45; refine (ih P Q false _ hps HPA.out HPB.out HF.out).mono ?_; rintro e w3 ⟨rfl, hb3⟩))
                all_goals
                  go_wp2_with fail
                  go_ret
                  exact ⟨rfl, below_next h02 (below_next hbr (by first | assumption | (exact And.left (by assumption))))⟩
            · have ej : j = ks.length := by omega
              subst ej
              rw [List.drop_of_length_le (Nat.le_refl _), List.drop_of_length_le (by rw [HL.out]; exact Nat.le_refl _)] at he
              have eR : R = true := he.symm
              subst eR
              clear he
              go_wp2_with fail
              go_ret
              exact ⟨rfl, below_next h02 hbr⟩
        · have q3 : ((ks.length : Int) != (ms.length : Int)) = true := by simp; omega
          have eR : R = false := less_unlike HA.out HB.out HR.out k0 (Or.inr (Or.inr hl))
          subst eR
          clear k0 hkm hxy hl HR HA HB
          go_wp2_with fail
          go_ret
          exact ⟨rfl, h02⟩
      · have q2 : (x1 != x2) = true := by simp [hxy]
        have eR : R = false := less_unlike HA.out HB.out HR.out k0 (Or.inr (Or.inl hxy))
        subst eR
        clear k0 hkm hxy HR HA HB
        go_wp2_with fail
        go_ret
        exact ⟨rfl, h02⟩
    · have q1 : (k1 != k2) = true := by simp [hkm]
      have eR : R = false := less_unlike HA.out HB.out HR.out k0 (Or.inl hkm)
      subst eR
      clear k0 hkm HR HA HB
      go_wp2_with fail
      go_ret
      exact ⟨rfl, h02⟩

theorem rless_all : ∀ f, RLessSaid f
  | 0 => fun a b R w h _ _ _ => by omega
  | f + 1 => rless_of f (rless_all f)

set_option maxHeartbeats 1600000 in
set_option maxRecDepth 100000 in
theorem rbelow_any (a b : ByteArray) (w : World) (ha : a.size ≤ 140737488355328) (hb : b.size ≤ 140737488355328) :
    Calls Tryz.prog 25 #[.string a, .string b] w fun e w' => e = .returned (.tuple #[.bool (isB a.data.toList b.data.toList), .int .i64 (isE a.data.toList b.data.toList)]) ∧ Below w.heap.size w w' := by
  cases h1 : (whole a.data.toList).isSome with
  | false =>
    have e1 : isB a.data.toList b.data.toList = false := by unfold isB; rw [h1]; rfl
    have e2 : isE a.data.toList b.data.toList = 300 := by unfold isE; rw [h1]; rfl
    rw [e1, e2]
    clear e1 e2
    have H1 : Hid ((whole a.data.toList).isSome = false) := h1
    clear h1
    go_enter Tryz.func25, Tryz.ntmps25
    go_wp2_with fail
    refine (rmay_any a _ ha).mono ?_
    rintro e w1 ⟨rfl, hb1⟩
    rw [H1.out]
    go_wp2_with fail
    go_ret2
    exact ⟨rfl, hb1⟩
  | true =>
    cases h2 : (whole b.data.toList).isSome with
    | false =>
      have e1 : isB a.data.toList b.data.toList = false := by unfold isB; rw [h1, h2]; rfl
      have e2 : isE a.data.toList b.data.toList = 300 := by unfold isE; rw [h1, h2]; rfl
      rw [e1, e2]
      clear e1 e2
      have H1 : Hid ((whole a.data.toList).isSome = true) := h1
      have H2 : Hid ((whole b.data.toList).isSome = false) := h2
      clear h1 h2
      go_enter Tryz.func25, Tryz.ntmps25
      go_wp2_with fail
      refine (rmay_any a _ ha).mono ?_
      rintro e w1 ⟨rfl, hb1⟩
      rw [H1.out]
      go_wp2_with fail
      refine (rmay_any b _ hb).mono ?_
      rintro e w2 ⟨rfl, hb2⟩
      rw [H2.out]
      go_wp2_with fail
      go_ret2
      exact ⟨rfl, below_next hb1 hb2⟩
    | true =>
      have e1 : isB a.data.toList b.data.toList = fl a.data.toList b.data.toList := by unfold isB; rw [h1, h2]; rfl
      have e2 : isE a.data.toList b.data.toList = 0 := by unfold isE; rw [h1, h2]; rfl
      rw [e1, e2]
      clear e1 e2
      have H1 : Hid ((whole a.data.toList).isSome = true) := h1
      have H2 : Hid ((whole b.data.toList).isSome = true) := h2
      clear h1 h2
      go_enter Tryz.func25, Tryz.ntmps25
      go_wp2_with fail
      refine (rmay_any a _ ha).mono ?_
      rintro e w1 ⟨rfl, hb1⟩
      rw [H1.out]
      go_wp2_with fail
      refine (rmay_any b _ hb).mono ?_
      rintro e w2 ⟨rfl, hb2⟩
      rw [H2.out]
      have hb12 := below_next hb1 hb2
      clear hb1 hb2
      go_wp2_with fail
      refine (rless_all (a.size + 1) a b _ _ (Nat.lt_succ_self _) H1.out H2.out rfl).mono ?_
      rintro e w3 ⟨rfl, hb3⟩
      go_wp2_with fail
      go_ret2
      exact ⟨rfl, below_next hb12 hb3⟩
end Go.Proofs.YtgajnmcjnkfblaaGreatDoor.Tm
