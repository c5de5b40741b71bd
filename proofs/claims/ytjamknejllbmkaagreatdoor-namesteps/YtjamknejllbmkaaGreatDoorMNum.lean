/- The reference's digits at a word of whatever length; digits up to so many, both ways the same. · A body that is spoiled: no program that holds it may be. -/
import Derived.Test.YtjamknejllbmkaaGreatDoorMTerm
import Derived.Test.YtjamknejllbmkaaGreatDoorMPlain

namespace Go.Proofs.YtjamknejllbmkaaGreatDoor.Tm
open Go.RowKit
set_option linter.unusedVariables false

set_option maxHeartbeats 1600000 in
set_option maxRecDepth 100000 in
theorem digits_wide (s : ByteArray) (w : World) (hs : s.size ≤ 4096) :
    Calls Tryz.prog 49 #[.string s] w fun e w' => ∃ x k : Nat, e = .returned (.tuple #[.int .i64 (x : Int), .int .i64 (k : Int)]) ∧ w = w' ∧ DigQ s.data.toList x k := by
  go_enter Tryz.func49, Tryz.ntmps49
  go_wp2_with fail
  go_loop [4, 5] (fun a b => ∃ x j : Nat, j ≤ s.size ∧ j ≤ 6 ∧ a = .int .i64 (x : Int) ∧ b = .int .i64 (j : Int) ∧ Lib.decFrom 0 (s.data.toList.take j) = some x ∧ (2 ≤ j → s.data.toList[0]? ≠ some 48))
    (fun _ b => s.size - (intOf b).toNat)
  case atStart => exact ⟨0, 0, Nat.zero_le _, by omega, rfl, rfl, rfl, fun h => by omega⟩
  case round =>
    obtain ⟨x, j, hj, hj6, rfl, rfl, hd, hz⟩ := hrel
    have HD : Hid (Lib.decFrom 0 (s.data.toList.take j) = some x) := hd
    clear hd
    have HZ : Hid (2 ≤ j → s.data.toList[0]? ≠ some 48) := hz
    clear hz
    by_cases hlt : j < s.size
    · by_cases h6 : j < 6
      · have hx := dig_bound HD.out (by omega)
        by_cases hdg : 48 ≤ (s[j].toNat : Int) ∧ (s[j].toNat : Int) ≤ 57
        · obtain ⟨h1, h2⟩ := hdg
          have HN : Hid (Lib.decFrom 0 (s.data.toList.take (j + 1)) = some (x * 10 + (s[j].toNat - 48))) := dig_step HD.out hlt h1 h2
          by_cases hj0 : j = 0
          · have HJ : Hid (j = 0) := hj0
            have hb0 : ((j : Int) == 0) = true := by simp [hj0]
            clear hj0
            go_wp2_with fail
            go_round
            case rel =>
              refine ⟨x * 10 + (s[j].toNat - 48), j + 1, by omega, by omega, ?_, by go_num, HN.out, fun h => ?_⟩
              · congr 1; omega
              · have := HJ.out; omega
            case measure => simp [intOf]; omega
          · have hb0 : ((j : Int) == 0) = false := by simp; exact hj0
            have hpos : 0 < s.size := by omega
            by_cases hs0 : (s[0].toNat : Int) = 48
            · have hq : ((s[0].toNat : Int) == 48) = true := by simp [hs0]
              have hq2 : ((s[0].toNat : Int) != 48) = false := by simp [hs0]
              have HS0 : Hid ((s[0].toNat : Int) = 48) := hs0
              clear hs0
              go_wp2_with fail
              go_ret2
              refine ⟨x, j, rfl, rfl, by simpa using hj, hj6, HD.out, HZ.out, Or.inr (Or.inr (Or.inr ⟨?_, ?_⟩))⟩
              · intro e; rw [e] at hb0; simp at hb0
              · rw [zero_at hpos]; congr 1; exact UInt8.toNat_inj.1 (by have := HS0.out; simp; omega)
            · have hq2 : ((s[0].toNat : Int) != 48) = true := by simp; exact hs0
              have HNZ : Hid (s.data.toList[0]? ≠ some 48) := by
                show s.data.toList[0]? ≠ some 48
                rw [zero_at hpos]
                intro e
                have e := Option.some.inj e
                exact hs0 (by rw [e]; rfl)
              clear hs0
              go_wp2_with fail
              go_round
              case rel =>
                refine ⟨x * 10 + (s[j].toNat - 48), j + 1, by omega, by omega, ?_, by go_num, HN.out, fun _ => HNZ.out⟩
                congr 1; omega
              case measure => simp [intOf]; omega
        · have hor : (s[j].toNat : Int) < 48 ∨ (48 ≤ (s[j].toNat : Int) ∧ 57 < (s[j].toNat : Int)) := by omega
          have HND : Hid (∀ c, s.data.toList[j]? = some c → isDg c = false) := by
            show ∀ c, s.data.toList[j]? = some c → isDg c = false
            intro c hc
            rw [List.getElem?_eq_getElem (by simpa using hlt)] at hc
            have e : s[j] = c := Option.some.inj hc
            subst e
            unfold isDg
            simp only [Bool.and_eq_false_iff, decide_eq_false_iff_not]
            omega
          clear hdg
          rcases hor with h1 | ⟨h1, h2⟩
          all_goals
            go_wp2_with fail
            go_ret2
            exact ⟨x, j, rfl, rfl, by simpa using hj, hj6, HD.out, HZ.out, Or.inr (Or.inr (Or.inl HND.out))⟩
      · go_wp2_with fail
        go_ret2
        exact ⟨x, j, rfl, rfl, by simpa using hj, hj6, HD.out, HZ.out, Or.inr (Or.inl (by omega))⟩
    · go_wp2_with fail
      go_ret2
      exact ⟨x, j, rfl, rfl, by simpa using hj, hj6, HD.out, HZ.out, Or.inl (by simp; omega)⟩
end Go.Proofs.YtjamknejllbmkaaGreatDoor.Tm
namespace Go.Proofs.YtjamknejllbmkaaGreatDoor
open Go.RowKit
/-- Up to so many. -/
def lim (most : Int) (o : Option Int) : Option Int := match o with
  | some x => if x ≤ most then some x else none
  | none => none
theorem lim_some {most x : Int} {o : Option Int} (h : lim most o = some x) : o = some x ∧ x ≤ most := by
  unfold lim at h
  split at h
  · split at h
    · cases h; exact ⟨rfl, by assumption⟩
    · cases h
  · cases h
theorem lim_none {most : Int} {o : Option Int} (h : lim most o = none) : o = none ∨ ∃ x, o = some x ∧ most < x := by
  unfold lim at h
  split at h
  · split at h
    · cases h
    · rename_i x hx
      exact Or.inr ⟨x, rfl, by omega⟩
  · exact Or.inl rfl
theorem nb_whole {w : Wd} {v : Int} (h : nb w = some v) : w.length ≤ 1024 ∧ Tm.canon (Tm.numPart w) = some v ∧ (Tm.numPart w).length = w.length := by
  unfold nb at h
  split at h
  · rename_i k x ks hw
    split at h
    · rename_i hk
      cases h
      unfold Tm.whole at hw
      split at hw
      · rename_i hl
        split at hw
        · cases hw
        · rename_i k' x' ks' n hT
          split at hw
          · rename_i hn
            cases hw
            subst hk
            rw [Tm.T] at hT
            split at hT
            · cases hT
            · split at hT
              · cases hT
              · split at hT
                · unfold Tm.conT at hT
                  split at hT
                  · cases hT
                  · split at hT
                    · split at hT
                      · split at hT
                        · cases hT
                        · cases hT
                      · cases hT
                    · cases hT
                · unfold Tm.numT at hT
                  split at hT
                  · cases hT
                  · rename_i v hv
                    split at hT
                    · cases hT; exact ⟨hl, hv, hn⟩
                    · cases hT
          · cases hw
      · cases hw
    · cases h
  · cases h
theorem nb_mk {w : Wd} {v : Int} (hl : w.length ≤ 1024) (hv : Tm.canon (Tm.numPart w) = some v) (hn : (Tm.numPart w).length = w.length) (h0 : 0 ≤ v) (h9 : v ≤ 99) (hd : ∀ c, w[0]? = some c → Tm.isDg c = true) : nb w = some v := by
  have hne : ∀ c : UInt8, Tm.isDg c = false → w[0]? ≠ some c := fun c hc e => by rw [hd c e] at hc; cases hc
  have hm : Tm.mayB v = true := by unfold Tm.mayB; simp; omega
  have hT : Tm.T 1025 w = some (1, v, [], (Tm.numPart w).length) := by
    rw [Tm.T, if_neg (hne 95 (by decide)), if_neg (hne 33 (by decide)), if_neg (hne 64 (by decide))]
    unfold Tm.numT
    rw [hv]
    simp [hm]
  have hw : Tm.whole w = some (1, v, []) := by
    unfold Tm.whole
    rw [if_pos hl, hT]
    simp [hn]
  unfold nb
  rw [hw]; rfl
/-- What the reference reads is what a word of digits tells, up to so many. -/
theorem lim_yes {w : Wd} {x k : Nat} {most : Int} (h : Tm.DigQ w x k) (hk : k ≠ 0) (hl : k = w.length) (hx : (x : Int) ≤ most) (hm : most ≤ 99) : lim most (dg w) = some (x : Int) := by
  have hsm := Tm.dig_small h hk (by omega)
  obtain ⟨c, l', hw, hc⟩ := Tm.digit_first h hk
  have hnb : nb w = some (x : Int) := by
    rcases hsm with ⟨h1, h2⟩ | ⟨_, c', h2, _⟩
    · exact nb_mk (by have := h.2.1; omega) h2 (by omega) (by omega) (by omega) (fun c' e => by rw [hw] at e; simp at e; subst e; exact hc)
    · rw [hl] at h2; simp at h2
  have hd : dg w = some (x : Int) := by unfold dg; rw [hnb]; simp
  unfold lim
  rw [hd]; simp [hx]
theorem lim_no {w : Wd} {x k : Nat} {most : Int} (h : Tm.DigQ w x k) (hm : most ≤ 99) (hno : k = 0 ∨ k ≠ w.length ∨ most < (x : Int)) : lim most (dg w) = none := by
  cases hl : lim most (dg w) with
  | none => rfl
  | some v =>
    exfalso
    obtain ⟨hd, hv⟩ := lim_some hl
    have hnb : nb w = some v ∧ 0 ≤ v := by
      unfold dg at hd
      split at hd
      · split at hd
        · cases hd
        · rename_i x' hx' h0
          cases hd; exact ⟨hx', by omega⟩
      · cases hd
    obtain ⟨h1, h2, h3⟩ := nb_whole hnb.1
    by_cases hk : k = 0
    · subst hk
      have := Tm.dig_none h v h2
      omega
    · have hle := Tm.dig_least h hk v h2
      rcases Tm.dig_small h hk (by omega) with ⟨h4, h5⟩ | ⟨h4, _⟩
      · rw [h2] at h5
        have e : v = (x : Int) := Option.some.inj h5
        omega
      · rw [h2] at h4; cases h4
theorem nb_sign {c : UInt8} {r : Wd} (h : Tm.isNC c = false) : nb (c :: r) = none := by
  cases hn : nb (c :: r) with
  | none => rfl
  | some v =>
    obtain ⟨_, h2, _⟩ := nb_whole hn
    unfold Tm.numPart at h2
    rw [List.takeWhile_cons, if_neg (by rw [h]; decide)] at h2
    cases h2
end Go.Proofs.YtjamknejllbmkaaGreatDoor

namespace Go.Proofs.YtjamknejllbmkaaGreatDoor
set_option linter.unusedVariables false

/-- A part that may not be, however many levels there are. -/
def Nok (x : Ex) : Prop := ∀ t : Int, t ≤ 8 → x.ok t = false
/-- A spoiled body. -/
def Sp (b : List Ex) : Prop := 24 < b.length ∨ ∃ x ∈ b, Nok x
theorem Sp.mono {b b' : List Ex} (h : Sp b) (hp : b <+: b') : Sp b' := by
  rcases h with h | ⟨x, hx, hn⟩
  · left; have := hp.length_le; omega
  · exact Or.inr ⟨x, hp.subset hx, hn⟩
theorem Sp.last {b : List Ex} {x : Ex} (h : Nok x) : Sp (b ++ [x]) := Or.inr ⟨x, by simp, h⟩
/-! No level is greater than eight. -/
def Low8 (L : List Int) : Prop := ∀ t ∈ L, t ≤ 8
theorem hd_low {n : Nat} {e : Ex} {t : Int} : ∀ {ks : List Int} {i : Nat} {L L' : List Int}, Low8 L → hd n e t i ks L = some L' → Low8 L'
  | [], i, L, L', hL, h => by rw [hd] at h; cases h; exact hL
  | k :: ks, i, L, L', hL, h => by
    rw [hd] at h
    split at h
    · split at h
      · cases h
      · refine hd_low (fun u hu => ?_) h
        rcases List.mem_or_eq_of_mem_set hu with hu | hu
        · exact hL u hu
        · omega
    · cases h
theorem stp_low {L L' : List Int} {x : Nat × Ex} (hL : Low8 L) (h : stp L x = some L') : Low8 L' ∧ ∃ t, t ≤ 8 ∧ x.2.ok t = true := by
  unfold stp at h
  split at h
  · cases h
  · rename_i t ht
    split at h
    · cases h
    · split at h
      · cases h
      · rename_i hk
        exact ⟨hd_low hL h, t, hL t (List.mem_of_getElem? ht), by simpa using hk⟩
theorem run_low : ∀ {xs : List (Nat × Ex)} {L : List Int}, Low8 L → (run L xs).isSome = true → ∀ x ∈ xs, ∃ t, t ≤ 8 ∧ x.2.ok t = true
  | [], L, _, _, x, hx => by cases hx
  | y :: xs, L, hL, h, x, hx => by
    rw [run] at h
    cases hs : stp L y with
    | none => rw [hs] at h; cases h
    | some L1 =>
      rw [hs] at h
      obtain ⟨h1, h2⟩ := stp_low hL hs
      rcases List.mem_cons.1 hx with rfl | hx
      · exact h2
      · exact run_low h1 h x hx
theorem start_low {p : Int} {n : Nat} (hp : p ≤ 3) : Low8 (start p n) := by
  intro t ht
  unfold start at ht
  rcases List.mem_or_eq_of_mem_set ht with ht | ht
  · have := List.eq_of_mem_replicate ht; omega
  · omega
theorem sp_may {p : Int} {b : List Ex} (h : Sp b) : may p b = false := by
  cases hm : may p b with
  | false => rfl
  | true =>
    exfalso
    have hl := may_len hm
    rcases h with h | ⟨x, hx, hn⟩
    · omega
    · unfold may at hm
      split at hm
      · rename_i hb
        obtain ⟨n, hn'⟩ := mem_backw hx
        obtain ⟨t, ht, hk⟩ := run_low (start_low hb.2.1) hm _ hn'
        have := hn t ht
        rw [this] at hk; cases hk
      · cases hm
theorem big_may {p : Int} {b : List Ex} (h : 3 < p) : may p b = false := by unfold may; rw [if_neg (by omega)]
/-! Parts that may not be. -/
theorem nok_prim {m : Int} {ks : List Int} (h : 2 < ks.length) : Nok ⟨4, m, 0, ks⟩ := fun t _ => by
  unfold Ex.ok okE; simp; omega
theorem nok_let {ks : List Int} (h : 2 < ks.length) : Nok ⟨6, 0, 0, ks⟩ := fun t _ => by
  unfold Ex.ok okE; simp; omega
theorem nok_call {m : Int} {ks : List Int} (h : 7 < m ∨ 3 < ks.length) : Nok ⟨2, m, 0, ks⟩ := fun t _ => by
  unfold Ex.ok okE; simp; omega
theorem nok_con {m : Int} {ks : List Int} (h : 99 < m ∨ 3 < ks.length) : Nok ⟨3, m, 0, ks⟩ := fun t _ => by
  unfold Ex.ok okE; simp; omega
theorem nok_case {m b : Int} {ks : List Int} (h : 99 < m ∨ 3 < b ∨ 3 < ks.length) : Nok ⟨5, m, b, ks⟩ := fun t _ => by
  unfold Ex.ok okE; simp; omega
theorem nok_var {m : Int} (h : 8 < m) : Nok ⟨1, m, 0, []⟩ := fun t ht => by
  unfold Ex.ok okE; simp; omega

/-- The reading fails, or what it reads is spoiled. -/
def Fl (o : Option (List Wd × List Ex)) : Prop := o = none ∨ ∃ ws b, o = some (ws, b) ∧ Sp b
/-- The same of kids, at most so many. -/
def FlR (most : Nat) (o : Option (List Wd × List Ex × List Int)) : Prop := o = none ∨ ∃ ws b ks, o = some (ws, b, ks) ∧ (Sp b ∨ most < ks.length)
/-- What a reading begins with stays. -/
theorem Fl.of_sp {f : Rf} (hf : Gd f) {ws : List Wd} {b : List Ex} (h : Sp b) : Fl (f ws b) := by
  cases hx : f ws b with
  | none => exact Or.inl rfl
  | some y => exact Or.inr ⟨y.1, y.2, rfl, h.mono (hf _ _ _ _ hx).2.2.2.1⟩
theorem FlR.of_sp {f : Rf} (hf : Gd f) {most m : Nat} {ks : List Int} {ws : List Wd} {b : List Ex} (h : Sp b) : FlR most (rr f m ks ws b) := by
  cases hx : rr f m ks ws b with
  | none => exact Or.inl rfl
  | some y => exact Or.inr ⟨y.1, y.2.1, y.2.2, rfl, Or.inl (h.mono (rr_gd hf _ _ _ _ _ _ _ hx).2.2.2.1)⟩
theorem rr_more {f : Rf} : ∀ (m : Nat) (ks : List Int) (ws : List Wd) (b : List Ex) (ws' : List Wd) (b' : List Ex) (ks' : List Int), rr f m ks ws b = some (ws', b', ks') → ks <+: ks'
  | 0, _, _, _, _, _, _, h => by simp [rr] at h
  | _ + 1, _, [], _, _, _, _, h => by simp [rr] at h
  | m + 1, ks, w :: ws, b, ws', b', ks', h => by
    rw [rr] at h
    split at h
    · cases h; exact List.prefix_refl _
    · split at h
      · cases h
      · exact (List.prefix_append _ _).trans (rr_more m _ _ _ _ _ _ h)
/-- Kids ahead of the others. -/
theorem rr_pre {f : Rf} (k0 : List Int) : ∀ (m : Nat) (ks : List Int) (ws : List Wd) (b : List Ex), rr f m (k0 ++ ks) ws b = (rr f m ks ws b).map (fun y => (y.1, y.2.1, k0 ++ y.2.2))
  | 0, _, _, _ => by simp [rr]
  | _ + 1, _, [], _ => by simp [rr]
  | m + 1, ks, w :: ws, b => by
    rw [rr, rr]
    split
    · rfl
    · split
      · rfl
      · rw [← rr_pre k0 m, List.append_assoc]
end Go.Proofs.YtjamknejllbmkaaGreatDoor
