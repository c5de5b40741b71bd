/- The reference's digits at a word of whatever length; digits up to so many, both ways the same. · What the document's Show prints, as a plain function over lists of bytes: its words are the words that were read. · A body that is spoiled: no program that holds it may be. · What may be can be shown: its kids stand ahead of it; how long the text is. · What package show writes, as words; the line of these words is the document's text. · What is read of what is shown: the parts in the row in which they are read. · What is read of what is shown may be. · What a program's text is, and how long. -/
import Derived.Test.YtgjhpmkahicnkaaDoorMTerm
import Derived.Test.YtgjhpmkahicnkaaDoorMPlain
import Derived.Lib.ItoaLen

namespace Go.Proofs.YtgjhpmkahicnkaaDoor.Tm
open Go.RowKit
set_option linter.unusedVariables false

set_option maxHeartbeats 1600000 in
set_option maxRecDepth 100000 in
theorem digits_wide (s : ByteArray) (w : World) (hs : s.size ≤ 4096) :
    Calls Tryd.prog 43 #[.string s] w fun e w' => ∃ x k : Nat, e = .returned (.tuple #[.int .i64 (x : Int), .int .i64 (k : Int)]) ∧ w = w' ∧ DigQ s.data.toList x k := by
  go_enter Tryd.func43, Tryd.ntmps43
  go_wp2_with fail
  go_loop [4, 5] (fun a b => ∃ x j : Nat, j ≤ s.size ∧ j ≤ 6 ∧ a = .int .i64 (x : Int) ∧ b = .int .i64 (j : Int) ∧ Lib.decFrom 0 (s.data.toList.take j) = some x ∧ (2 ≤ j → s.data.toList[0]? ≠ some 48))
    (fun _ b => s.size - (intOf b).toNat)
  case atStart => exact ⟨0, 0, Nat.zero_le _, by omega, rfl, rfl, rfl, fun h => by omega⟩
  case round =>
    obtain ⟨x, j, hj, hj6, rfl, rfl, hd, hz⟩ := hrel
    have HD : Hid (Lib.decFrom 0 (s.data.toList.take j) = some x) := hd
    clear hd
    have HZ : Hid (2 ≤ j → s.data.toList[0]? ≠ some 48) := hz
    clear hz
    by_cases hlt : j < s.size
    · by_cases h6 : j < 6
      · have hx := dig_bound HD.out (by omega)
        by_cases hdg : 48 ≤ (s[j].toNat : Int) ∧ (s[j].toNat : Int) ≤ 57
        · obtain ⟨h1, h2⟩ := hdg
          have HN : Hid (Lib.decFrom 0 (s.data.toList.take (j + 1)) = some (x * 10 + (s[j].toNat - 48))) := dig_step HD.out hlt h1 h2
          by_cases hj0 : j = 0
          · have HJ : Hid (j = 0) := hj0
            have hb0 : ((j : Int) == 0) = true := by simp [hj0]
            clear hj0
            go_wp2_with fail
            go_round
            case rel =>
              refine ⟨x * 10 + (s[j].toNat - 48), j + 1, by omega, by omega, ?_, by go_num, HN.out, fun h => ?_⟩
              · congr 1; omega
              · have := HJ.out; omega
            case measure => simp [intOf]; omega
          · have hb0 : ((j : Int) == 0) = false := by simp; exact hj0
            have hpos : 0 < s.size := by omega
            by_cases hs0 : (s[0].toNat : Int) = 48
            · have hq : ((s[0].toNat : Int) == 48) = true := by simp [hs0]
              have hq2 : ((s[0].toNat : Int) != 48) = false := by simp [hs0]
              have HS0 : Hid ((s[0].toNat : Int) = 48) := hs0
              clear hs0
              go_wp2_with fail
              go_ret2
              refine ⟨x, j, rfl, rfl, by simpa using hj, hj6, HD.out, HZ.out, Or.inr (Or.inr (Or.inr ⟨?_, ?_⟩))⟩
              · intro e; rw [e] at hb0; simp at hb0
              · rw [zero_at hpos]; congr 1; exact UInt8.toNat_inj.1 (by have := HS0.out; simp; omega)
            · have hq2 : ((s[0].toNat : Int) != 48) = true := by simp; exact hs0
              have HNZ : Hid (s.data.toList[0]? ≠ some 48) := by
                show s.data.toList[0]? ≠ some 48
                rw [zero_at hpos]
                intro e
                have e := Option.some.inj e
                exact hs0 (by rw [e]; rfl)
              clear hs0
              go_wp2_with fail
              go_round
              case rel =>
                refine ⟨x * 10 + (s[j].toNat - 48), j + 1, by omega, by omega, ?_, by go_num, HN.out, fun _ => HNZ.out⟩
                congr 1; omega
              case measure => simp [intOf]; omega
        · have hor : (s[j].toNat : Int) < 48 ∨ (48 ≤ (s[j].toNat : Int) ∧ 57 < (s[j].toNat : Int)) := by omega
          have HND : Hid (∀ c, s.data.toList[j]? = some c → isDg c = false) := by
            show ∀ c, s.data.toList[j]? = some c → isDg c = false
            intro c hc
            rw [List.getElem?_eq_getElem (by simpa using hlt)] at hc
            have e : s[j] = c := Option.some.inj hc
            subst e
            unfold isDg
            simp only [Bool.and_eq_false_iff, decide_eq_false_iff_not]
            omega
          clear hdg
          rcases hor with h1 | ⟨h1, h2⟩
          all_goals
            go_wp2_with fail
            go_ret2
            exact ⟨x, j, rfl, rfl, by simpa using hj, hj6, HD.out, HZ.out, Or.inr (Or.inr (Or.inl HND.out))⟩
      · go_wp2_with fail
        go_ret2
        exact ⟨x, j, rfl, rfl, by simpa using hj, hj6, HD.out, HZ.out, Or.inr (Or.inl (by omega))⟩
    · go_wp2_with fail
      go_ret2
      exact ⟨x, j, rfl, rfl, by simpa using hj, hj6, HD.out, HZ.out, Or.inl (by simp; omega)⟩
end Go.Proofs.YtgjhpmkahicnkaaDoor.Tm
namespace Go.Proofs.YtgjhpmkahicnkaaDoor
open Go.RowKit
/-- Up to so many. -/
def lim (most : Int) (o : Option Int) : Option Int := match o with
  | some x => if x ≤ most then some x else none
  | none => none
theorem lim_some {most x : Int} {o : Option Int} (h : lim most o = some x) : o = some x ∧ x ≤ most := by
  unfold lim at h
  split at h
  · split at h
    · cases h; exact ⟨rfl, by assumption⟩
    · cases h
  · cases h
theorem lim_none {most : Int} {o : Option Int} (h : lim most o = none) : o = none ∨ ∃ x, o = some x ∧ most < x := by
  unfold lim at h
  split at h
  · split at h
    · cases h
    · rename_i x hx
      exact Or.inr ⟨x, rfl, by omega⟩
  · exact Or.inl rfl
theorem nb_whole {w : Wd} {v : Int} (h : nb w = some v) : w.length ≤ 1024 ∧ Tm.canon (Tm.numPart w) = some v ∧ (Tm.numPart w).length = w.length := by
  unfold nb at h
  split at h
  · rename_i k x ks hw
    split at h
    · rename_i hk
      cases h
      unfold Tm.whole at hw
      split at hw
      · rename_i hl
        split at hw
        · cases hw
        · rename_i k' x' ks' n hT
          split at hw
          · rename_i hn
            cases hw
            subst hk
            rw [Tm.T] at hT
            split at hT
            · cases hT
            · split at hT
              · cases hT
              · split at hT
                · unfold Tm.conT at hT
                  split at hT
                  · cases hT
                  · split at hT
                    · split at hT
                      · split at hT
                        · cases hT
                        · cases hT
                      · cases hT
                    · cases hT
                · unfold Tm.numT at hT
                  split at hT
                  · cases hT
                  · rename_i v hv
                    split at hT
                    · cases hT; exact ⟨hl, hv, hn⟩
                    · cases hT
          · cases hw
      · cases hw
    · cases h
  · cases h
theorem nb_mk {w : Wd} {v : Int} (hl : w.length ≤ 1024) (hv : Tm.canon (Tm.numPart w) = some v) (hn : (Tm.numPart w).length = w.length) (h0 : 0 ≤ v) (h9 : v ≤ 99) (hd : ∀ c, w[0]? = some c → Tm.isDg c = true) : nb w = some v := by
  have hne : ∀ c : UInt8, Tm.isDg c = false → w[0]? ≠ some c := fun c hc e => by rw [hd c e] at hc; cases hc
  have hm : Tm.mayB v = true := by unfold Tm.mayB; simp; omega
  have hT : Tm.T 1025 w = some (1, v, [], (Tm.numPart w).length) := by
    rw [Tm.T, if_neg (hne 95 (by decide)), if_neg (hne 33 (by decide)), if_neg (hne 64 (by decide))]
    unfold Tm.numT
    rw [hv]
    simp [hm]
  have hw : Tm.whole w = some (1, v, []) := by
    unfold Tm.whole
    rw [if_pos hl, hT]
    simp [hn]
  unfold nb
  rw [hw]; rfl
/-- What the reference reads is what a word of digits tells, up to so many. -/
theorem lim_yes {w : Wd} {x k : Nat} {most : Int} (h : Tm.DigQ w x k) (hk : k ≠ 0) (hl : k = w.length) (hx : (x : Int) ≤ most) (hm : most ≤ 99) : lim most (dg w) = some (x : Int) := by
  have hsm := Tm.dig_small h hk (by omega)
  obtain ⟨c, l', hw, hc⟩ := Tm.digit_first h hk
  have hnb : nb w = some (x : Int) := by
    rcases hsm with ⟨h1, h2⟩ | ⟨_, c', h2, _⟩
    · exact nb_mk (by have := h.2.1; omega) h2 (by omega) (by omega) (by omega) (fun c' e => by rw [hw] at e; simp at e; subst e; exact hc)
    · rw [hl] at h2; simp at h2
  have hd : dg w = some (x : Int) := by unfold dg; rw [hnb]; simp
  unfold lim
  rw [hd]; simp [hx]
theorem lim_no {w : Wd} {x k : Nat} {most : Int} (h : Tm.DigQ w x k) (hm : most ≤ 99) (hno : k = 0 ∨ k ≠ w.length ∨ most < (x : Int)) : lim most (dg w) = none := by
  cases hl : lim most (dg w) with
  | none => rfl
  | some v =>
    exfalso
    obtain ⟨hd, hv⟩ := lim_some hl
    have hnb : nb w = some v ∧ 0 ≤ v := by
      unfold dg at hd
      split at hd
      · split at hd
        · cases hd
        · rename_i x' hx' h0
          cases hd; exact ⟨hx', by omega⟩
      · cases hd
    obtain ⟨h1, h2, h3⟩ := nb_whole hnb.1
    by_cases hk : k = 0
    · subst hk
      have := Tm.dig_none h v h2
      omega
    · have hle := Tm.dig_least h hk v h2
      rcases Tm.dig_small h hk (by omega) with ⟨h4, h5⟩ | ⟨h4, _⟩
      · rw [h2] at h5
        have e : v = (x : Int) := Option.some.inj h5
        omega
      · rw [h2] at h4; cases h4
theorem nb_sign {c : UInt8} {r : Wd} (h : Tm.isNC c = false) : nb (c :: r) = none := by
  cases hn : nb (c :: r) with
  | none => rfl
  | some v =>
    obtain ⟨_, h2, _⟩ := nb_whole hn
    unfold Tm.numPart at h2
    rw [List.takeWhile_cons, if_neg (by rw [h]; decide)] at h2
    cases h2
end Go.Proofs.YtgjhpmkahicnkaaDoor

namespace Go.Proofs.YtgjhpmkahicnkaaDoor
set_option linter.unusedVariables false

def opS (m : Int) : Wd := if m = 0 then [43] else if m = 1 then [45] else if m = 2 then [42] else if m = 3 then [61] else [60]
/-- Within the brackets. -/
def inn (x : Ex) (ts : List Wd) : Wd :=
  if x.kind = 6 then [108, 101, 116] ++ 32 :: Tm.jn ts
  else if x.kind = 4 then opS x.num ++ 32 :: Tm.jn ts
  else if x.kind = 5 then [99, 97, 115, 101] ++ 32 :: (ts.getD 0 [] ++ 32 :: ((64 :: Lib.itoa x.num) ++ 32 :: (Lib.itoa x.bind ++ 32 :: (ts.getD 1 [] ++ 32 :: ts.getD 2 []))))
  else Tm.jn (((if x.kind = 2 then 102 else 64) :: Lib.itoa x.num) :: ts)
/-- A part with its kids' texts. -/
def fm (x : Ex) (ts : List Wd) : Wd :=
  if x.kind = 0 then Lib.itoa x.num
  else if x.kind = 1 then 36 :: Lib.itoa x.num
  else if x.kind = 7 then [101, 114, 114, 111, 114]
  else if x.kind = 3 ∧ ts = [] then 64 :: Lib.itoa x.num
  else 40 :: (inn x ts ++ [41])
/-- The part at that place. -/
def sh : Nat → List Ex → Int → Wd
  | 0, _, _ => []
  | f + 1, b, i => match b[i.toNat]? with
    | none => []
    | some x => fm x (x.kids.map (sh f b))
def dfS (d : Df) : Wd := 40 :: (([100, 101, 102] ++ 32 :: (Lib.itoa d.params ++ 32 :: sh d.body.length d.body (lastAt d.body))) ++ [41])
def showS (ds : List Df) : Wd := ds.flatMap fun d => dfS d ++ [10]

/-- The words of this text, whatever stands behind it. -/
def Tx (t : Wd) (u : List Wd) : Prop := t.all Lx.okB = true ∧ ∀ r : Wd, (∀ c, r[0]? = some c → Lx.plB c = false) → Lx.wd false [] (t ++ r) = u ++ Lx.wd false [] r
theorem tx_nil : Tx [] [] := ⟨rfl, fun r _ => rfl⟩
theorem tx_word {w : Wd} (hne : w ≠ []) (ho : w.all Lx.okB = true) (hp : ∀ b ∈ w, Lx.plB b = true) : Tx w [w] := by
  refine ⟨ho, fun r hr => ?_⟩
  rw [Lx.wd_more r w [] hp, List.nil_append]
  cases r with
  | nil => rw [Lx.wd_nil, Lx.fl_ne hne]; rfl
  | cons d r => rw [Lx.wd_ends hne (hr d rfl)]; rfl
theorem tx_two {a b : Wd} {u v : List Wd} (ha : Tx a u) (hb : Tx b v) : Tx (a ++ 32 :: b) (u ++ v) := by
  refine ⟨?_, fun r hr => ?_⟩
  · rw [List.all_append, List.all_cons, ha.1, hb.1]; decide
  · rw [List.append_assoc, List.cons_append, ha.2 _ (fun c h => by cases h; decide), List.append_assoc, ← hb.2 r hr]
    rfl
theorem tx_open {a : Wd} {u : List Wd} (ha : Tx a u) : Tx (40 :: (a ++ [41])) ([40] :: (u ++ [[41]])) := by
  refine ⟨?_, fun r hr => ?_⟩
  · rw [List.all_cons, List.all_append, ha.1]; decide
  · have e : 40 :: (a ++ [41]) ++ r = 40 :: (a ++ (41 :: r)) := by simp
    rw [e, Lx.wd_bracket (Or.inl rfl), ha.2 _ (fun c h => by cases h; decide), Lx.wd_bracket (Or.inr rfl)]
    simp
/-- Texts, each with its words. -/
def AllT : List Wd → List (List Wd) → Prop
  | [], [] => True
  | t :: ts, u :: us => Tx t u ∧ AllT ts us
  | _, _ => False
theorem jn_tx : ∀ {ts : List Wd} {us : List (List Wd)}, AllT ts us → Tx (Tm.jn ts) us.flatten
  | [], [], _ => tx_nil
  | [t], [u], h => by simpa [Tm.jn] using h.1
  | t :: t' :: ts, u :: u' :: us, h => by
    have := tx_two h.1 (jn_tx (ts := t' :: ts) (us := u' :: us) h.2)
    simpa [Tm.jn] using this
  | [t], _ :: _ :: _, h => h.2.elim
  | _ :: _ :: _, [_], h => h.2.elim
  | [], _ :: _, h => h.elim
  | _ :: _, [], h => h.elim

theorem nc_pl {c : UInt8} (h : Tm.isNC c = true) : Lx.plB c = true ∧ Lx.okB c = true := by
  unfold Tm.isNC at h
  unfold Lx.plB Lx.okB
  simp only [Bool.or_eq_true, Bool.and_eq_true, decide_eq_true_eq, beq_iff_eq, bne_iff_ne, ne_eq] at h ⊢
  rcases h with rfl | ⟨h1, h2⟩
  · decide
  · refine ⟨⟨⟨⟨⟨?_, ?_⟩, ?_⟩, ?_⟩, ?_⟩, Or.inr ⟨by omega, by omega⟩⟩ <;> (intro e; subst e; exact absurd h1 (by decide))
/-- A word that tells a number is its digits. -/
theorem nb_is {w : Wd} {v : Int} (h : nb w = some v) : Lib.itoa v = w ∧ w ≠ [] ∧ w.all Lx.okB = true ∧ ∀ b ∈ w, Lx.plB b = true := by
  obtain ⟨_, hc, hl⟩ := nb_whole h
  have e : Tm.numPart w = w := by have := Tm.numPart_take w; rw [hl, List.take_length] at this; exact this.symm
  have ha := Tm.numPart_all w
  rw [e] at hc ha
  exact ⟨Tm.canon_itoa hc, Tm.canon_ne hc, List.all_eq_true.2 fun c h => (nc_pl (ha c h)).2, fun c h => (nc_pl (ha c h)).1⟩
theorem dg_nb {w : Wd} {v : Int} (h : dg w = some v) : nb w = some v := by
  unfold dg at h
  split at h
  · rename_i x hx
    split at h
    · cases h
    · cases h; exact hx
  · cases h
theorem tx_nb {w : Wd} {v : Int} (h : nb w = some v) : Tx (Lib.itoa v) [w] := by
  obtain ⟨e, h1, h2, h3⟩ := nb_is h
  rw [e]; exact tx_word h1 h2 h3
theorem tx_db {c : UInt8} (hc : Lx.plB c = true) (ho : Lx.okB c = true) {w : Wd} {v : Int} (h : db c w = some v) : Tx (c :: Lib.itoa v) [w] := by
  unfold db at h
  split at h
  · cases h
  · rename_i a r
    split at h
    · rename_i e
      subst e
      obtain ⟨e, h1, h2, h3⟩ := nb_is (dg_nb h)
      rw [e]
      refine tx_word (by simp) (by rw [List.all_cons, ho, h2]; rfl) fun b hb => ?_
      rcases List.mem_cons.1 hb with rfl | hb
      · exact hc
      · exact h3 b hb
    · cases h

/-- Each 'case' has three kids. -/
def K3 (b : List Ex) : Prop := ∀ x ∈ b, x.kind = 5 → x.kids.length = 3
theorem K3.pre {b b' : List Ex} (h : K3 b') (hp : b <+: b') : K3 b := fun x hx => h x (hp.subset hx)
/-- What is shown of what was read is what was read. -/
def Sw (f : Rf) : Prop := ∀ ws b ws' b', f ws b = some (ws', b') → K3 b' → ∃ u, ws = u ++ ws' ∧ ∀ B m, b' <+: B → b'.length ≤ m → Tx (sh m B (lastAt b')) u
theorem rr_sh {f : Rf} (hg : Gd f) (hf : Sw f) : ∀ (m : Nat) (ks : List Int) (ws : List Wd) (b : List Ex) (ws' : List Wd) (b' : List Ex) (ks' : List Int), rr f m ks ws b = some (ws', b', ks') → K3 b' →
    ∃ kk us, ks' = ks ++ kk ∧ ws = us.flatten ++ [41] :: ws' ∧ ∀ B n, b' <+: B → b'.length ≤ n → AllT (kk.map (sh n B)) us
  | 0, _, _, _, _, _, _, h, _ => by simp [rr] at h
  | _ + 1, _, [], _, _, _, _, h, _ => by simp [rr] at h
  | m + 1, ks, w :: ws, b, ws', b', ks', h, hk => by
    rw [rr] at h
    split at h
    · rename_i e
      cases h
      exact ⟨[], [], by simp, by rw [e]; rfl, fun B n _ _ => trivial⟩
    · split at h
      · cases h
      · rename_i ws1 b1 h1
        obtain ⟨c1, c2, c3, c4, c5⟩ := rr_gd hg m _ _ _ _ _ _ h
        obtain ⟨u, e1, g1⟩ := hf _ _ _ _ h1 (hk.pre c4)
        obtain ⟨kk, us, e2, e3, g2⟩ := rr_sh hg hf m _ _ _ _ _ _ h hk
        refine ⟨lastAt b1 :: kk, u :: us, by rw [e2]; simp, by rw [e1, e3]; simp, fun B n hB hn => ⟨g1 B n (c4.trans hB) ?_, g2 B n hB hn⟩⟩
        have := c4.length_le
        omega

/-- What stands within the brackets. -/
def Ib (ws ws1 : List Wd) (b1 : List Ex) (e : Ex) : Prop :=
  ∃ u, ws = u ++ [41] :: ws1 ∧ ∀ B n, b1 <+: B → b1.length ≤ n → fm e (e.kids.map (sh n B)) = 40 :: (inn e (e.kids.map (sh n B)) ++ [41]) ∧ Tx (inn e (e.kids.map (sh n B))) u
theorem rc_sh {f : Rf} (hg : Gd f) (hf : Sw f) {m : Nat} {ws : List Wd} {b : List Ex} {ws' : List Wd} {b' : List Ex} {x : Ex} (h : rc f m ws b = some (ws', b', x)) (hk : K3 b') (hx : x.kind = 5 → x.kids.length = 3) :
    Ib ([99, 97, 115, 101] :: ws) ws' b' x := by
  unfold rc at h
  split at h
  · cases h
  · rename_i wsa ba ha
    split at h
    · cases h
    · rename_i t wst
      split at h
      · cases h
      · rename_i tag ht
        split at h
        · cases h
        · rename_i v wsv
          split at h
          · cases h
          · rename_i bind hv
            split at h
            · cases h
            · rename_i ws4 b4 ks4 h4
              cases h
              obtain ⟨c1, c2, c3, c4, c5⟩ := rr_gd hg _ _ _ _ _ _ _ h4
              obtain ⟨u, e1, g1⟩ := hf _ _ _ _ ha (hk.pre c4)
              obtain ⟨kk, us, e2, e3, g2⟩ := rr_sh hg hf _ _ _ _ _ _ _ h4 hk
              have h3 := hx rfl
              have hl : kk.length = 2 := by simp only [e2, List.length_append, List.length_cons, List.length_nil] at h3; omega
              obtain ⟨k1, k2, rfl⟩ : ∃ k1 k2, kk = [k1, k2] := by
                match kk, hl with
                | [k1, k2], _ => exact ⟨k1, k2, rfl⟩
              have hus : ∃ u1 u2, us = [u1, u2] := by
                have := g2 b' b'.length (List.prefix_refl _) (Nat.le_refl _)
                match us, this with
                | [u1, u2], _ => exact ⟨u1, u2, rfl⟩
                | [], q => exact q.elim
                | [_], q => exact q.2.elim
                | _ :: _ :: _ :: _, q => exact q.2.2.elim
              obtain ⟨u1, u2, rfl⟩ := hus
              refine ⟨[99, 97, 115, 101] :: (u ++ ([t] ++ ([v] ++ (u1 ++ u2)))), by rw [e1, e3]; simp, fun B n hB hn => ?_⟩
              have q := g2 B n hB hn
              have q0 := g1 B n (c4.trans hB) (by have := c4.length_le; omega)
              refine ⟨by simp [fm], ?_⟩
              have key := tx_two (tx_word (w := [99, 97, 115, 101]) (by simp) (by decide) (by decide)) (tx_two q0 (tx_two (tx_db (by decide) (by decide) ht) (tx_two (tx_nb (dg_nb hv)) (tx_two q.1 q.2.1))))
              simpa [inn, e2] using key
theorem rb_sh {f : Rf} (hg : Gd f) (hf : Sw f) {m : Nat} {ws : List Wd} {b : List Ex} {ws' : List Wd} {b' : List Ex} {x : Ex} (h : rb f m ws b = some (ws', b', x)) (hk : K3 b') (hx : x.kind = 5 → x.kids.length = 3) : Ib ws ws' b' x := by
  unfold rb at h
  split at h
  · cases h
  · rename_i w ws
    split at h
    · rename_i hc
      subst hc
      exact rc_sh hg hf h hk hx
    · split at h
      · cases h
      · rename_i e he
        split at h
        · cases h
        · rename_i ws3 b3 ks3 h3
          split at h
          · cases h
          · rename_i hne
            cases h
            obtain ⟨kk, us, e2, e3, g2⟩ := rr_sh hg hf _ _ _ _ _ _ _ h3 hk
            rw [List.nil_append] at e2
            subst e2
            refine ⟨w :: us.flatten, by rw [e3]; rfl, fun B n hB hn => ?_⟩
            have q := g2 B n hB hn
            have qj := jn_tx q
            unfold hdw at he
            split at he
            · rename_i hw; cases he; subst hw
              exact ⟨by simp [fm], by simpa [inn, opS] using tx_two (tx_word (w := [43]) (by simp) (by decide) (by decide)) qj⟩
            split at he
            · rename_i hw; cases he; subst hw
              exact ⟨by simp [fm], by simpa [inn, opS] using tx_two (tx_word (w := [45]) (by simp) (by decide) (by decide)) qj⟩
            split at he
            · rename_i hw; cases he; subst hw
              exact ⟨by simp [fm], by simpa [inn, opS] using tx_two (tx_word (w := [42]) (by simp) (by decide) (by decide)) qj⟩
            split at he
            · rename_i hw; cases he; subst hw
              exact ⟨by simp [fm], by simpa [inn, opS] using tx_two (tx_word (w := [61]) (by simp) (by decide) (by decide)) qj⟩
            split at he
            · rename_i hw; cases he; subst hw
              exact ⟨by simp [fm], by simpa [inn, opS] using tx_two (tx_word (w := [60]) (by simp) (by decide) (by decide)) qj⟩
            split at he
            · rename_i hw; cases he; subst hw
              exact ⟨by simp [fm], by simpa [inn] using tx_two (tx_word (w := [108, 101, 116]) (by simp) (by decide) (by decide)) qj⟩
            split at he
            · rename_i y hy; cases he
              have := jn_tx (ts := (102 :: Lib.itoa y) :: ks3.map (sh n B)) (us := [w] :: us) ⟨tx_db (by decide) (by decide) hy, q⟩
              exact ⟨by simp [fm], by simpa [inn] using this⟩
            split at he
            · rename_i y hy; cases he
              have := jn_tx (ts := (64 :: Lib.itoa y) :: ks3.map (sh n B)) (us := [w] :: us) ⟨tx_db (by decide) (by decide) hy, q⟩
              exact ⟨by simpa [fm] using hne, by simpa [inn] using this⟩
            · cases he
theorem sh_last {b : List Ex} {e : Ex} {B : List Ex} (hB : (b ++ [e]) <+: B) (n : Nat) : sh (n + 1) B (lastAt (b ++ [e])) = fm e (e.kids.map (sh n B)) := by
  have hi : (lastAt (b ++ [e])).toNat = b.length := by unfold lastAt; simp
  have hb : B[b.length]? = some e := by
    obtain ⟨r, rfl⟩ := hB
    simp
  rw [sh, hi, hb]
theorem sg_sh {w : Wd} {e : Ex} (h : sg w = some e) (g : Int → Wd) : Tx (fm e (e.kids.map g)) [w] := by
  unfold sg at h
  split at h
  · rename_i hw; cases h; subst hw
    exact tx_word (by simp [fm]) (by simp [fm]; decide) (by simp [fm]; decide)
  split at h
  · rename_i y hy; cases h
    simpa [fm] using tx_db (by decide) (by decide) hy
  split at h
  · rename_i y hy; cases h
    simpa [fm] using tx_db (by decide) (by decide) hy
  split at h
  · rename_i y hy; cases h
    simpa [fm] using tx_nb hy
  · cases h
theorem rp_sh : ∀ n, Sw (rp n)
  | 0 => fun ws b ws' b' h _ => by simp [rp] at h
  | n + 1 => fun ws b ws' b' h hk => by
    cases ws with
    | nil => simp [rp] at h
    | cons w ws =>
      rw [rp] at h
      split at h
      · rename_i hw
        split at h
        · cases h
        · rename_i ws1 b1 e1 h1
          cases h
          obtain ⟨u, e2, g⟩ := rb_sh (rp_gd n) (rp_sh n) h1 (hk.pre (List.prefix_append _ _)) (hk e1 (by simp))
          refine ⟨[40] :: (u ++ [[41]]), by rw [hw, e2]; simp, fun B m hB hm => ?_⟩
          obtain ⟨m, rfl⟩ : ∃ m', m = m' + 1 := ⟨m - 1, by simp at hm; omega⟩
          rw [sh_last hB]
          obtain ⟨q1, q2⟩ := g B m ((List.prefix_append _ _).trans hB) (by simp at hm; omega)
          rw [q1]
          exact tx_open q2
      · split at h
        · cases h
        · rename_i e he
          cases h
          refine ⟨[w], rfl, fun B m hB hm => ?_⟩
          obtain ⟨m, rfl⟩ : ∃ m', m = m' + 1 := ⟨m - 1, by simp at hm; omega⟩
          rw [sh_last hB]
          exact sg_sh he _
theorem rdf_sh {n : Nat} {ws ws' : List Wd} {d : Df} (h : rdf n ws = some (ws', d)) (hk : K3 d.body) : ∃ u, ws = u ++ ws' ∧ Tx (dfS d) u := by
  unfold rdf at h
  split at h
  · rename_i a de p ws0
    split at h
    · rename_i ha
      split at h
      · rename_i hd
        split at h
        · cases h
        · rename_i x hx
          split at h
          · cases h
          · rename_i ws1 b1 h1
            split at h
            · cases h
            · rename_i c ws2
              split at h
              · rename_i hc
                cases h
                obtain ⟨u, e1, g⟩ := rp_sh n _ _ _ _ h1 hk
                refine ⟨[40] :: (([[100, 101, 102]] ++ ([p] ++ u)) ++ [[41]]), by rw [e1, ha, hd, hc]; simp, ?_⟩
                exact tx_open (tx_two (tx_word (by simp) (by decide) (by decide)) (tx_two (tx_nb (dg_nb hx)) (g _ _ (List.prefix_refl _) (Nat.le_refl _))))
              · cases h
      · cases h
    · cases h
  · cases h
theorem rpg_sh {n : Nat} : ∀ (m : Nat) (acc : List Df) (ws : List Wd) (ds : List Df), rpg n m acc ws = some ds → (∀ d ∈ ds, K3 d.body) → ∃ dd, ds = acc ++ dd ∧ (showS dd).all Lx.okB = true ∧ Lx.wd false [] (showS dd) = ws
  | 0, _, _, _, h, _ => by simp [rpg] at h
  | _ + 1, acc, [], ds, h, _ => by
    rw [rpg] at h; cases h
    exact ⟨[], by simp, rfl, rfl⟩
  | m + 1, acc, w :: ws, ds, h, hk => by
    rw [rpg] at h
    split at h
    · cases h
    · rename_i ws1 d h1
      obtain ⟨dd, e1, o1, e2⟩ := rpg_sh m _ _ _ h hk
      obtain ⟨u, e3, g⟩ := rdf_sh h1 (hk d (by rw [e1]; simp))
      refine ⟨d :: dd, by rw [e1]; simp, ?_, ?_⟩
      · show ((dfS d ++ [10]) ++ showS dd).all Lx.okB = true
        rw [List.all_append, List.all_append, g.1, o1]; decide
      · show Lx.wd false [] ((dfS d ++ [10]) ++ showS dd) = w :: ws
        rw [List.append_assoc, g.2 _ (fun c h => by cases h; decide), e3, ← e2]
        rfl
theorem pmay_k3 {ds : List Df} (h : pmay ds = true) : ∀ d ∈ ds, K3 d.body := by
  intro d hd x hx hk
  unfold pmay at h
  simp only [Bool.and_eq_true, List.all_eq_true] at h
  have h1 := h.2 d hd
  unfold dOk at h1
  rw [Bool.and_eq_true] at h1
  obtain ⟨t, ht⟩ := may_parts h1.1 x hx
  unfold Ex.ok okE at ht
  rw [hk] at ht
  simp at ht
  omega
/-- What is read of what is shown is what was shown. -/
theorem pp_show {s : List UInt8} {ds : List Df} (h : pp s = some ds) (hl : (showS ds).length ≤ 2048) : pp (showS ds) = some ds := by
  obtain ⟨hg, hr⟩ := pp_parts h
  have hm : pmay ds = true := by
    unfold pp at h
    rw [if_pos hg, hr] at h
    simp only at h
    split at h
    · assumption
    · cases h
  obtain ⟨dd, e, ho, hw⟩ := rpg_sh _ _ _ _ hr (pmay_k3 hm)
  rw [List.nil_append] at e
  subst e
  have hg' : Lx.good (showS ds) = true := by unfold Lx.good; rw [ho]; simp [hl]
  unfold pp
  rw [if_pos hg', hw, hr]
  simp [hm]
end Go.Proofs.YtgjhpmkahicnkaaDoor

namespace Go.Proofs.YtgjhpmkahicnkaaDoor
set_option linter.unusedVariables false

/-- A part that may not be, however many levels there are. -/
def Nok (x : Ex) : Prop := ∀ t : Int, t ≤ 8 → x.ok t = false
/-- A spoiled body. -/
def Sp (b : List Ex) : Prop := 24 < b.length ∨ ∃ x ∈ b, Nok x
theorem Sp.mono {b b' : List Ex} (h : Sp b) (hp : b <+: b') : Sp b' := by
  rcases h with h | ⟨x, hx, hn⟩
  · left; have := hp.length_le; omega
  · exact Or.inr ⟨x, hp.subset hx, hn⟩
theorem Sp.last {b : List Ex} {x : Ex} (h : Nok x) : Sp (b ++ [x]) := Or.inr ⟨x, by simp, h⟩
/-! No level is greater than eight. -/
def Low8 (L : List Int) : Prop := ∀ t ∈ L, t ≤ 8
theorem hd_low {n : Nat} {e : Ex} {t : Int} : ∀ {ks : List Int} {i : Nat} {L L' : List Int}, Low8 L → hd n e t i ks L = some L' → Low8 L'
  | [], i, L, L', hL, h => by rw [hd] at h; cases h; exact hL
  | k :: ks, i, L, L', hL, h => by
    rw [hd] at h
    split at h
    · split at h
      · cases h
      · refine hd_low (fun u hu => ?_) h
        rcases List.mem_or_eq_of_mem_set hu with hu | hu
        · exact hL u hu
        · omega
    · cases h
theorem stp_low {L L' : List Int} {x : Nat × Ex} (hL : Low8 L) (h : stp L x = some L') : Low8 L' ∧ ∃ t, t ≤ 8 ∧ x.2.ok t = true := by
  unfold stp at h
  split at h
  · cases h
  · rename_i t ht
    split at h
    · cases h
    · split at h
      · cases h
      · rename_i hk
        exact ⟨hd_low hL h, t, hL t (List.mem_of_getElem? ht), by simpa using hk⟩
theorem run_low : ∀ {xs : List (Nat × Ex)} {L : List Int}, Low8 L → (run L xs).isSome = true → ∀ x ∈ xs, ∃ t, t ≤ 8 ∧ x.2.ok t = true
  | [], L, _, _, x, hx => by cases hx
  | y :: xs, L, hL, h, x, hx => by
    rw [run] at h
    cases hs : stp L y with
    | none => rw [hs] at h; cases h
    | some L1 =>
      rw [hs] at h
      obtain ⟨h1, h2⟩ := stp_low hL hs
      rcases List.mem_cons.1 hx with rfl | hx
      · exact h2
      · exact run_low h1 h x hx
theorem start_low {p : Int} {n : Nat} (hp : p ≤ 3) : Low8 (start p n) := by
  intro t ht
  unfold start at ht
  rcases List.mem_or_eq_of_mem_set ht with ht | ht
  · have := List.eq_of_mem_replicate ht; omega
  · omega
theorem sp_may {p : Int} {b : List Ex} (h : Sp b) : may p b = false := by
  cases hm : may p b with
  | false => rfl
  | true =>
    exfalso
    have hl := may_len hm
    rcases h with h | ⟨x, hx, hn⟩
    · omega
    · unfold may at hm
      split at hm
      · rename_i hb
        obtain ⟨n, hn'⟩ := mem_backw hx
        obtain ⟨t, ht, hk⟩ := run_low (start_low hb.2.1) hm _ hn'
        have := hn t ht
        rw [this] at hk; cases hk
      · cases hm
theorem big_may {p : Int} {b : List Ex} (h : 3 < p) : may p b = false := by unfold may; rw [if_neg (by omega)]
/-! Parts that may not be. -/
theorem nok_prim {m : Int} {ks : List Int} (h : 2 < ks.length) : Nok ⟨4, m, 0, ks⟩ := fun t _ => by
  unfold Ex.ok okE; simp; omega
theorem nok_let {ks : List Int} (h : 2 < ks.length) : Nok ⟨6, 0, 0, ks⟩ := fun t _ => by
  unfold Ex.ok okE; simp; omega
theorem nok_call {m : Int} {ks : List Int} (h : 7 < m ∨ 3 < ks.length) : Nok ⟨2, m, 0, ks⟩ := fun t _ => by
  unfold Ex.ok okE; simp; omega
theorem nok_con {m : Int} {ks : List Int} (h : 99 < m ∨ 3 < ks.length) : Nok ⟨3, m, 0, ks⟩ := fun t _ => by
  unfold Ex.ok okE; simp; omega
theorem nok_case {m b : Int} {ks : List Int} (h : 99 < m ∨ 3 < b ∨ 3 < ks.length) : Nok ⟨5, m, b, ks⟩ := fun t _ => by
  unfold Ex.ok okE; simp; omega
theorem nok_var {m : Int} (h : 8 < m) : Nok ⟨1, m, 0, []⟩ := fun t ht => by
  unfold Ex.ok okE; simp; omega

/-- The reading fails, or what it reads is spoiled. -/
def Fl (o : Option (List Wd × List Ex)) : Prop := o = none ∨ ∃ ws b, o = some (ws, b) ∧ Sp b
/-- The same of kids, at most so many. -/
def FlR (most : Nat) (o : Option (List Wd × List Ex × List Int)) : Prop := o = none ∨ ∃ ws b ks, o = some (ws, b, ks) ∧ (Sp b ∨ most < ks.length)
/-- What a reading begins with stays. -/
theorem Fl.of_sp {f : Rf} (hf : Gd f) {ws : List Wd} {b : List Ex} (h : Sp b) : Fl (f ws b) := by
  cases hx : f ws b with
  | none => exact Or.inl rfl
  | some y => exact Or.inr ⟨y.1, y.2, rfl, h.mono (hf _ _ _ _ hx).2.2.2.1⟩
theorem FlR.of_sp {f : Rf} (hf : Gd f) {most m : Nat} {ks : List Int} {ws : List Wd} {b : List Ex} (h : Sp b) : FlR most (rr f m ks ws b) := by
  cases hx : rr f m ks ws b with
  | none => exact Or.inl rfl
  | some y => exact Or.inr ⟨y.1, y.2.1, y.2.2, rfl, Or.inl (h.mono (rr_gd hf _ _ _ _ _ _ _ hx).2.2.2.1)⟩
theorem rr_more {f : Rf} : ∀ (m : Nat) (ks : List Int) (ws : List Wd) (b : List Ex) (ws' : List Wd) (b' : List Ex) (ks' : List Int), rr f m ks ws b = some (ws', b', ks') → ks <+: ks'
  | 0, _, _, _, _, _, _, h => by simp [rr] at h
  | _ + 1, _, [], _, _, _, _, h => by simp [rr] at h
  | m + 1, ks, w :: ws, b, ws', b', ks', h => by
    rw [rr] at h
    split at h
    · cases h; exact List.prefix_refl _
    · split at h
      · cases h
      · exact (List.prefix_append _ _).trans (rr_more m _ _ _ _ _ _ h)
/-- Kids ahead of the others. -/
theorem rr_pre {f : Rf} (k0 : List Int) : ∀ (m : Nat) (ks : List Int) (ws : List Wd) (b : List Ex), rr f m (k0 ++ ks) ws b = (rr f m ks ws b).map (fun y => (y.1, y.2.1, k0 ++ y.2.2))
  | 0, _, _, _ => by simp [rr]
  | _ + 1, _, [], _ => by simp [rr]
  | m + 1, ks, w :: ws, b => by
    rw [rr, rr]
    split
    · rfl
    · split
      · rfl
      · rw [← rr_pre k0 m, List.append_assoc]
end Go.Proofs.YtgjhpmkahicnkaaDoor

namespace Go.Proofs.YtgjhpmkahicnkaaDoor
set_option linter.unusedVariables false

theorem hd_kids {n : Nat} {e : Ex} {t : Int} : ∀ {ks : List Int} {i : Nat} {L L' : List Int}, hd n e t i ks L = some L' → ∀ k ∈ ks, 0 ≤ k ∧ k < (n : Int)
  | [], _, _, _, _, k, hk => by cases hk
  | k0 :: ks, i, L, L', h, k, hk => by
    rw [hd] at h
    split at h
    · rename_i hc
      split at h
      · cases h
      · rcases List.mem_cons.1 hk with rfl | hk
        · omega
        · exact hd_kids h k hk
    · cases h
theorem run_kids : ∀ {xs : List (Nat × Ex)} {L : List Int}, (run L xs).isSome = true → ∀ x ∈ xs, ∀ k ∈ x.2.kids, 0 ≤ k ∧ k < (x.1 : Int)
  | [], L, _, x, hx => by cases hx
  | y :: xs, L, h, x, hx => by
    rw [run] at h
    cases hs : stp L y with
    | none => rw [hs] at h; cases h
    | some L1 =>
      rw [hs] at h
      rcases List.mem_cons.1 hx with rfl | hx
      · unfold stp at hs
        split at hs
        · cases hs
        · split at hs
          · cases hs
          · split at hs
            · cases hs
            · exact hd_kids hs
      · exact run_kids h x hx
/-- A body that can be shown. -/
structure Fit (B : List Ex) : Prop where
  few : B.length ≤ 24
  ok : ∀ x ∈ B, ∃ t : Int, t ≤ 8 ∧ x.ok t = true
  kid : ∀ (j : Nat) x, B[j]? = some x → ∀ k ∈ x.kids, 0 ≤ k ∧ k < (j : Int)
theorem fit_of_may {p : Int} {B : List Ex} (h : may p B = true) : Fit B := by
  refine ⟨may_len h, ?_, ?_⟩
  · intro x hx
    unfold may at h
    split at h
    · rename_i hp
      obtain ⟨n, hn⟩ := mem_backw hx
      exact run_low (start_low (by omega)) h _ hn
    · cases h
  · intro j x hj k hk
    unfold may at h
    split at h
    · have hm : (j, x) ∈ backw B := by
        unfold backw
        rw [List.mem_reverse, List.mem_map]
        exact ⟨(x, j), by rw [List.mem_zipIdx_iff_getElem?]; exact hj, rfl⟩
      exact run_kids h _ hm k hk
    · cases h
/-- What a part's numbers are. -/
theorem ok_nums {x : Ex} {t : Int} (ht : t ≤ 8) (h : x.ok t = true) : -32768 ≤ x.num ∧ x.num ≤ 32767 ∧ 0 ≤ x.bind ∧ x.bind ≤ 3 ∧ x.kids.length ≤ 3 ∧ 0 ≤ x.kind ∧ x.kind ≤ 7 ∧ (x.kind = 5 → x.kids.length = 3) ∧ (x.kind = 4 → 0 ≤ x.num ∧ x.num ≤ 4) := by
  unfold Ex.ok okE at h
  repeat (split at h; · rename_i hk; have h' := of_decide_eq_true h; omega)
  cases h
theorem itoa_six {v : Int} (h1 : -32768 ≤ v) (h2 : v ≤ 32767) : (Lib.itoa v).length ≤ 21 := Lib.itoa_length_le v (by omega) (by omega)
theorem opS_len (m : Int) : (opS m).length = 1 := by
  unfold opS
  (repeat' split) <;> rfl
theorem fm_len {x : Ex} {t : Int} (ht : t ≤ 8) (h : x.ok t = true) {ts : List Wd} (hl : ts.length ≤ 3) {L : Nat} (hL : ∀ s ∈ ts, s.length ≤ L) : (fm x ts).length ≤ 3 * L + 80 := by
  obtain ⟨h1, h2, h3, h4, _⟩ := ok_nums ht h
  have a := itoa_six h1 h2
  have b := itoa_six (show -32768 ≤ x.bind by omega) (by omega)
  have hj := Tm.jn_le ts L hL
  have hj' : (Tm.jn ts).length ≤ 3 * L + 3 := by
    have := Nat.mul_le_mul_right (L + 1) hl
    omega
  have hg : ∀ i, (ts.getD i []).length ≤ L := fun i => by
    rw [List.getD_eq_getElem?_getD]
    cases hi : ts[i]? with
    | none => simp
    | some s => exact hL s (List.mem_of_getElem? hi)
  have g0 := hg 0
  have g1 := hg 1
  have g2 := hg 2
  have hc : ∀ s : Wd, (Tm.jn (s :: ts)).length ≤ s.length + 1 + (Tm.jn ts).length := fun s => by
    cases ts with
    | nil => simp [Tm.jn]
    | cons => simp [Tm.jn]; omega
  have ho := opS_len x.num
  unfold fm
  split
  · omega
  split
  · simp; omega
  split
  · simp
  split
  · simp; omega
  unfold inn
  split
  · simp; omega
  split
  · simp; omega
  split
  · simp only [List.length_cons, List.length_append, List.length_nil]; omega
  · have := hc ((if x.kind = 2 then 102 else 64) :: Lib.itoa x.num)
    simp only [List.length_cons, List.length_append, List.length_nil] at this ⊢
    omega
theorem sh_len {B : List Ex} (hB : Fit B) : ∀ (f : Nat) (i : Int), (sh f B i).length + 40 ≤ 40 * 3 ^ f
  | 0, i => by simp [sh]
  | f + 1, i => by
    have ih := sh_len hB f
    rw [sh, Nat.pow_succ]
    cases hx : B[i.toNat]? with
    | none => simp; have := ih 0; omega
    | some x =>
      obtain ⟨t, ht, ho⟩ := hB.ok x (List.mem_of_getElem? hx)
      have := fm_len ht ho (ts := x.kids.map (sh f B)) (by rw [List.length_map]; exact (ok_nums ht ho).2.2.2.2.1) (L := 40 * 3 ^ f - 40) (fun s hs => by
        obtain ⟨k, _, rfl⟩ := List.mem_map.1 hs
        have := ih k
        omega)
      have h0 := ih 0
      simp only
      omega
theorem sh_short {B : List Ex} (hB : Fit B) {f : Nat} (hf : f ≤ 24) (i : Int) : (sh f B i).length ≤ 11297181459240 := by
  have h1 := sh_len hB f i
  have h2 : (3 : Nat) ^ f ≤ 3 ^ 24 := Nat.pow_le_pow_right (by decide) hf
  have h3 : (3 : Nat) ^ 24 = 282429536481 := by decide
  omega
end Go.Proofs.YtgjhpmkahicnkaaDoor

namespace Go.Proofs.YtgjhpmkahicnkaaDoor
set_option linter.unusedVariables false

/-- The words behind that one, with their blanks. -/
def ln2 : Wd → List Wd → Wd
  | _, [] => []
  | p, w :: ws => (if p ≠ [40] ∧ w ≠ [41] then [32] else []) ++ w ++ ln2 w ws
def ln1 : List Wd → Wd
  | [] => []
  | w :: ws => w ++ ln2 w ws
/-- The last one of words, the first one beside them. -/
def lw : Wd → List Wd → Wd
  | p, [] => p
  | _, w :: ws => lw w ws
theorem ln2_app : ∀ (u v : List Wd) (p : Wd), ln2 p (u ++ v) = ln2 p u ++ ln2 (lw p u) v
  | [], v, p => rfl
  | w :: u, v, p => by
    rw [List.cons_append, ln2, ln2, ln2_app u v w, lw]
    simp
theorem lw_app : ∀ (u v : List Wd) (p : Wd), lw p (u ++ v) = lw (lw p u) v
  | [], v, p => rfl
  | w :: u, v, p => by rw [List.cons_append, lw, lw_app u v w, lw]
/-- The line of these words is this text; it doesn't open with ')' nor end with '('. -/
def Ws (t : Wd) (u : List Wd) : Prop := ∃ a r, u = a :: r ∧ a ≠ [41] ∧ lw a r ≠ [40] ∧ ln1 u = t
theorem ws_word {w : Wd} (h1 : w ≠ [41]) (h2 : w ≠ [40]) : Ws w [w] := ⟨w, [], rfl, h1, h2, by simp [ln1, ln2]⟩
theorem ws_two {a b : Wd} {u v : List Wd} (ha : Ws a u) (hb : Ws b v) : Ws (a ++ 32 :: b) (u ++ v) := by
  obtain ⟨a0, r, rfl, a1, a2, rfl⟩ := ha
  obtain ⟨b0, s, rfl, b1, b2, rfl⟩ := hb
  refine ⟨a0, r ++ b0 :: s, rfl, a1, ?_, ?_⟩
  · rw [lw_app]; exact b2
  · rw [List.cons_append, ln1, ln1, ln1, ln2_app, ln2, if_pos ⟨a2, b1⟩]
    simp
theorem ws_open {a : Wd} {u : List Wd} (ha : Ws a u) : Ws (40 :: (a ++ [41])) ([40] :: (u ++ [[41]])) := by
  obtain ⟨a0, r, rfl, a1, a2, rfl⟩ := ha
  refine ⟨[40], (a0 :: r) ++ [[41]], rfl, by decide, ?_, ?_⟩
  · rw [lw_app]; simp [lw]
  · rw [ln1, ln1, ln2_app, ln2, lw, ln2]
    simp [ln2]
theorem ws_ne {t : Wd} {u : List Wd} (h : Ws t u) : u ≠ [] := by obtain ⟨a, r, rfl, _⟩ := h; simp
theorem ws_head {t : Wd} {u : List Wd} (h : Ws t u) : ∃ a r, u = a :: r ∧ a ≠ [41] := by obtain ⟨a, r, h, h1, _⟩ := h; exact ⟨a, r, h, h1⟩
theorem ws_line {t : Wd} {u : List Wd} (h : Ws t u) : ln1 u = t := by obtain ⟨a, r, _, _, _, h⟩ := h; exact h
/-- These are the words of this text, both ways. -/
def WT (t : Wd) (u : List Wd) : Prop := Tx t u ∧ Ws t u
theorem wt_two {a b : Wd} {u v : List Wd} (ha : WT a u) (hb : WT b v) : WT (a ++ 32 :: b) (u ++ v) := ⟨tx_two ha.1 hb.1, ws_two ha.2 hb.2⟩
theorem wt_open {a : Wd} {u : List Wd} (ha : WT a u) : WT (40 :: (a ++ [41])) ([40] :: (u ++ [[41]])) := ⟨tx_open ha.1, ws_open ha.2⟩
theorem wt_word {w : Wd} (hne : w ≠ []) (ho : w.all Lx.okB = true) (hp : ∀ b ∈ w, Lx.plB b = true) : WT w [w] := by
  refine ⟨tx_word hne ho hp, ws_word ?_ ?_⟩
  · intro e; subst e; exact absurd (hp 41 (by simp)) (by decide)
  · intro e; subst e; exact absurd (hp 40 (by simp)) (by decide)
/-- Texts, each with its words. -/
def AllW : List Wd → List (List Wd) → Prop
  | [], [] => True
  | t :: ts, u :: us => WT t u ∧ AllW ts us
  | _, _ => False
theorem wt_jn : ∀ {ts : List Wd} {us : List (List Wd)}, AllW ts us → ts ≠ [] → WT (Tm.jn ts) us.flatten
  | [], [], _, h => absurd rfl h
  | [t], [u], h, _ => by simpa [Tm.jn] using h.1
  | t :: t' :: ts, u :: u' :: us, h, _ => by
    have := wt_two h.1 (wt_jn (ts := t' :: ts) (us := u' :: us) h.2 (by simp))
    simpa [Tm.jn] using this
  | [t], _ :: _ :: _, h, _ => h.2.elim
  | _ :: _ :: _, [_], h, _ => h.2.elim
  | [], _ :: _, h, _ => h.elim
  | _ :: _, [], h, _ => h.elim

/-- The word that is a part, or that stands first in its brackets. -/
def wo (x : Ex) : Wd :=
  if x.kind = 0 then Lib.itoa x.num
  else if x.kind = 1 then 36 :: Lib.itoa x.num
  else if x.kind = 2 then 102 :: Lib.itoa x.num
  else if x.kind = 3 then 64 :: Lib.itoa x.num
  else if x.kind = 4 then opS x.num
  else if x.kind = 5 then [99, 97, 115, 101]
  else if x.kind = 6 then [108, 101, 116]
  else [101, 114, 114, 111, 114]
/-- The words of the kids, with what a case looks for behind the first ones. -/
def kw (x : Ex) : List (List Wd) → List Wd
  | [] => []
  | u :: us => u ++ ((if x.kind = 5 then [64 :: Lib.itoa x.num, Lib.itoa x.bind] else []) ++ us.flatten)
theorem kw_snoc (x : Ex) (us : List (List Wd)) (u : List Wd) : kw x (us ++ [u]) = kw x us ++ u ++ (if x.kind = 5 ∧ us = [] then [64 :: Lib.itoa x.num, Lib.itoa x.bind] else []) := by
  cases us with
  | nil => simp [kw]
  | cons a us => simp [kw]
theorem kw_flat {x : Ex} (h : x.kind ≠ 5) (us : List (List Wd)) : kw x us = us.flatten := by
  cases us with
  | nil => rfl
  | cons a us => simp [kw, h]
/-- The words of the part at that place. -/
def pw : Nat → List Ex → Int → List Wd
  | 0, _, _ => []
  | f + 1, b, i => match b[i.toNat]? with
    | none => []
    | some x => if x.kids = [] ∧ x.kind ≠ 2 then [wo x] else [40] :: wo x :: (kw x (x.kids.map (pw f b)) ++ [[41]])
def dw (d : Df) : List Wd := [40] :: [100, 101, 102] :: Lib.itoa d.params :: (pw d.body.length d.body (lastAt d.body) ++ [[41]])

theorem itoa_pl (v : Int) : Lib.itoa v ≠ [] ∧ (Lib.itoa v).all Lx.okB = true ∧ ∀ b ∈ Lib.itoa v, Lx.plB b = true := by
  obtain ⟨c, r, h, _⟩ := Tm.itoa_first v
  exact ⟨by rw [h]; simp, List.all_eq_true.2 fun c h => (nc_pl (Tm.itoa_nc v c h)).2, fun c h => (nc_pl (Tm.itoa_nc v c h)).1⟩
theorem wt_itoa (v : Int) : WT (Lib.itoa v) [Lib.itoa v] := wt_word (itoa_pl v).1 (itoa_pl v).2.1 (itoa_pl v).2.2
theorem wt_sign {c : UInt8} (hc : Lx.plB c = true) (ho : Lx.okB c = true) (v : Int) : WT (c :: Lib.itoa v) [c :: Lib.itoa v] := by
  obtain ⟨h1, h2, h3⟩ := itoa_pl v
  refine wt_word (by simp) (by rw [List.all_cons, ho, h2]; rfl) fun b hb => ?_
  rcases List.mem_cons.1 hb with rfl | hb
  · exact hc
  · exact h3 b hb
theorem wt_op (m : Int) : WT (opS m) [opS m] := by
  unfold opS
  repeat' split
  all_goals exact wt_word (by simp) (by decide) (by decide)

/-- What each kind of part holds. -/
theorem ok_kinds {x : Ex} {t : Int} (h : x.ok t = true) :
    (x.kind = 0 ∧ x.bind = 0 ∧ -32768 ≤ x.num ∧ x.num ≤ 32767 ∧ x.kids.length = 0) ∨ (x.kind = 1 ∧ x.bind = 0 ∧ 0 ≤ x.num ∧ x.num ≤ t - 1 ∧ x.kids.length = 0) ∨
    (x.kind = 2 ∧ x.bind = 0 ∧ 0 ≤ x.num ∧ x.num ≤ 7 ∧ x.kids.length ≤ 3) ∨ (x.kind = 3 ∧ x.bind = 0 ∧ 0 ≤ x.num ∧ x.num ≤ 99 ∧ x.kids.length ≤ 3) ∨
    (x.kind = 4 ∧ x.bind = 0 ∧ 0 ≤ x.num ∧ x.num ≤ 4 ∧ x.kids.length = 2) ∨ (x.kind = 5 ∧ 0 ≤ x.bind ∧ x.bind ≤ 3 ∧ 0 ≤ x.num ∧ x.num ≤ 99 ∧ x.kids.length = 3) ∨
    (x.kind = 6 ∧ x.bind = 0 ∧ x.num = 0 ∧ x.kids.length = 2) ∨ (x.kind = 7 ∧ x.bind = 0 ∧ x.num = 0 ∧ x.kids.length = 0) := by
  unfold Ex.ok okE at h
  repeat (split at h; · rename_i hk; have h' := of_decide_eq_true h; omega)
  cases h

theorem allw_map {B : List Ex} {g : Int → Wd} {p : Int → List Wd} : ∀ {ks : List Int}, (∀ k ∈ ks, WT (g k) (p k)) → AllW (ks.map g) (ks.map p)
  | [], _ => trivial
  | k :: ks, h => ⟨h k (by simp), allw_map (B := B) fun k' hk => h k' (by simp [hk])⟩
/-- A part whose kids have these words. -/
theorem wt_fm {x : Ex} {t : Int} (h : x.ok t = true) {ts : List Wd} {us : List (List Wd)} (hl : ts.length = x.kids.length) (hA : AllW ts us) :
    WT (fm x ts) (if x.kids = [] ∧ x.kind ≠ 2 then [wo x] else [40] :: wo x :: (kw x us ++ [[41]])) := by
  have e0 : ∀ {n : Nat}, x.kids.length = n + 1 → ¬ (x.kids = [] ∧ x.kind ≠ 2) := fun h1 h2 => by rw [h2.1] at h1; simp at h1
  have e1 : ts ≠ [] → ¬ (x.kids = []) := fun h1 h2 => h1 (by cases ts with | nil => rfl | cons => rw [h2] at hl; simp at hl)
  rcases ok_kinds h with ⟨hk, _, _, _, hn⟩ | ⟨hk, _, _, _, hn⟩ | ⟨hk, _, _, _, hn⟩ | ⟨hk, _, _, _, hn⟩ | ⟨hk, _, _, _, hn⟩ | ⟨hk, _, _, _, _, hn⟩ | ⟨hk, _, _, hn⟩ | ⟨hk, _, _, hn⟩
  · rw [if_pos ⟨by simpa using hn, by omega⟩]; simpa [fm, wo, hk] using wt_itoa x.num
  · rw [if_pos ⟨by simpa using hn, by omega⟩]; simpa [fm, wo, hk] using wt_sign (by decide) (by decide) x.num
  · rw [if_neg (by simp [hk]), kw_flat (by omega)]
    have : WT (Tm.jn ((102 :: Lib.itoa x.num) :: ts)) ([102 :: Lib.itoa x.num] ++ us.flatten) := by
      have := wt_jn (ts := (102 :: Lib.itoa x.num) :: ts) (us := [102 :: Lib.itoa x.num] :: us) ⟨wt_sign (by decide) (by decide) x.num, hA⟩ (by simp)
      simpa using this
    simpa [fm, inn, wo, hk] using wt_open this
  · by_cases hts : ts = []
    · subst hts
      rw [if_pos ⟨by simpa using hl.symm, by omega⟩]
      simpa [fm, wo, hk] using wt_sign (by decide) (by decide) x.num
    · rw [if_neg (fun q => e1 hts q.1), kw_flat (by omega)]
      have : WT (Tm.jn ((64 :: Lib.itoa x.num) :: ts)) ([64 :: Lib.itoa x.num] ++ us.flatten) := by
        have := wt_jn (ts := (64 :: Lib.itoa x.num) :: ts) (us := [64 :: Lib.itoa x.num] :: us) ⟨wt_sign (by decide) (by decide) x.num, hA⟩ (by simp)
        simpa using this
      simpa [fm, inn, wo, hk, hts] using wt_open this
  · rw [if_neg (e0 hn), kw_flat (by omega)]
    have := wt_two (wt_op x.num) (wt_jn hA (by intro e; rw [e, hn] at hl; simp at hl))
    simpa [fm, inn, wo, hk] using wt_open this
  · rw [if_neg (e0 hn)]
    rw [hn] at hl
    obtain ⟨t1, t2, t3, rfl⟩ : ∃ t1 t2 t3, ts = [t1, t2, t3] := by
      match ts, hl with
      | [t1, t2, t3], _ => exact ⟨t1, t2, t3, rfl⟩
    obtain ⟨u1, u2, u3, rfl⟩ : ∃ u1 u2 u3, us = [u1, u2, u3] := by
      match us, hA with
      | [u1, u2, u3], _ => exact ⟨u1, u2, u3, rfl⟩
      | [], q => exact q.elim
      | [_], q => exact q.2.elim
      | [_, _], q => exact q.2.2.elim
      | _ :: _ :: _ :: _ :: _, q => exact q.2.2.2.elim
    have := wt_two (wt_word (w := [99, 97, 115, 101]) (by simp) (by decide) (by decide)) (wt_two hA.1 (wt_two (wt_sign (c := 64) (by decide) (by decide) x.num) (wt_two (wt_itoa x.bind) (wt_two hA.2.1 hA.2.2.1))))
    simpa [fm, inn, wo, hk, kw] using wt_open this
  · rw [if_neg (e0 hn), kw_flat (by omega)]
    have := wt_two (wt_word (w := [108, 101, 116]) (by simp) (by decide) (by decide)) (wt_jn hA (by intro e; rw [e, hn] at hl; simp at hl))
    simpa [fm, inn, wo, hk] using wt_open this
  · rw [if_pos ⟨by simpa using hn, by omega⟩]; simpa [fm, wo, hk] using wt_word (w := [101, 114, 114, 111, 114]) (by simp) (by decide) (by decide)
theorem wt_sh {B : List Ex} (hB : Fit B) : ∀ (f : Nat) (i : Int), 0 ≤ i → i < (f : Int) → i < (B.length : Int) → WT (sh f B i) (pw f B i)
  | 0, i, h0, h1, _ => by omega
  | f + 1, i, h0, h1, h2 => by
    have hlt : i.toNat < B.length := by omega
    obtain ⟨x, hx⟩ : ∃ x, B[i.toNat]? = some x := ⟨_, List.getElem?_eq_getElem hlt⟩
    obtain ⟨t, ht, ho⟩ := hB.ok x (List.mem_of_getElem? hx)
    have hkid := hB.kid _ x hx
    rw [sh, pw, hx]
    exact wt_fm ho (by rw [List.length_map]) (allw_map (B := B) fun k hk => wt_sh hB f k (hkid k hk).1 (by have := hkid k hk; omega) (by have := hkid k hk; omega))
theorem may_ne {p : Int} {B : List Ex} (h : may p B = true) : 1 ≤ B.length ∧ 0 ≤ p ∧ p ≤ 3 := by
  unfold may at h
  split at h
  · omega
  · cases h
theorem wt_df {d : Df} (h : may d.params d.body = true) : WT (dfS d) (dw d) := by
  have h1 := (may_ne h).1
  have := wt_open (wt_two (wt_word (w := [100, 101, 102]) (by simp) (by decide) (by decide)) (wt_two (wt_itoa d.params) (wt_sh (fit_of_may h) d.body.length (lastAt d.body) (by unfold lastAt; omega) (by unfold lastAt; omega) (by unfold lastAt; omega))))
  simpa [dfS, dw] using this
/-- What is written. -/
def lines (ds : List Df) : Wd := ds.flatMap fun d => ln1 (dw d) ++ [10]
theorem lines_show {ds : List Df} (h : ∀ d ∈ ds, may d.params d.body = true) : lines ds = showS ds := by
  induction ds with
  | nil => rfl
  | cons d ds ih =>
    show (ln1 (dw d) ++ [10]) ++ lines ds = (dfS d ++ [10]) ++ showS ds
    rw [ws_line (wt_df (h d (by simp))).2, ih fun e he => h e (by simp [he])]
end Go.Proofs.YtgjhpmkahicnkaaDoor

namespace Go.Proofs.YtgjhpmkahicnkaaDoor
set_option linter.unusedVariables false

/-- Kids laid one behind the other from that place on, and where they stand. -/
def cnk (g : Int → Nat → List Ex) : List Int → Nat → List Ex × List Int
  | [], _ => ([], [])
  | k :: ks, n => (g k n ++ (cnk g ks (n + (g k n).length)).1, (((n + (g k n).length : Nat) : Int) - 1) :: (cnk g ks (n + (g k n).length)).2)
/-- The part at that place, laid from n on. -/
def cn : Nat → List Ex → Int → Nat → List Ex
  | 0, _, _, _ => []
  | f + 1, b, i, n => match b[i.toNat]? with
    | none => []
    | some x => (cnk (cn f b) x.kids n).1 ++ [{ x with kids := (cnk (cn f b) x.kids n).2 }]
def cnd (d : Df) : Df := ⟨d.params, cn d.body.length d.body (lastAt d.body) 0⟩
theorem cnk_len (g : Int → Nat → List Ex) : ∀ (ks : List Int) (n : Nat), (cnk g ks n).2.length = ks.length
  | [], n => rfl
  | k :: ks, n => by rw [cnk, List.length_cons, List.length_cons, cnk_len g ks]

theorem nb_itoa {v : Int} (h1 : -32768 ≤ v) (h2 : v ≤ 32767) : nb (Lib.itoa v) = some v := by
  have hm : Tm.mk 1 v [] = some (Lib.itoa v) := by
    unfold Tm.mk Tm.head Tm.behind Tm.tail
    have : (Lib.itoa v).length ≤ 1024 := by have := itoa_six h1 h2; omega
    simp [Tm.mayB, h1, h2, this]
  unfold nb
  rw [Tm.mkd_whole hm]
  rfl
theorem dg_itoa {v : Int} (h1 : 0 ≤ v) (h2 : v ≤ 32767) : dg (Lib.itoa v) = some v := by
  unfold dg; rw [nb_itoa (by omega) h2]; simp only; rw [if_neg (by omega)]
theorem db_itoa {c : UInt8} {v : Int} (h1 : 0 ≤ v) (h2 : v ≤ 32767) : db c (c :: Lib.itoa v) = some v := by
  unfold db; simp only; rw [if_pos trivial, dg_itoa h1 h2]
theorem db_other {c a : UInt8} (h : a ≠ c) (r : Wd) : db c (a :: r) = none := by
  unfold db; simp only; rw [if_neg h]
theorem db_num {c : UInt8} (hc : Tm.isNC c = false) (v : Int) : db c (Lib.itoa v) = none := by
  obtain ⟨a, r, h, ha⟩ := Tm.itoa_first v
  rw [h]
  refine db_other (fun e => ?_) r
  subst e; rw [hc] at ha; cases ha
theorem itoa_not {w : Wd} (h : (w.head?.map Tm.isNC) ≠ some true) (v : Int) : Lib.itoa v ≠ w := by
  obtain ⟨a, r, e, ha⟩ := Tm.itoa_first v
  rw [e]; intro q; subst q; simp [ha] at h
theorem sg_num {v : Int} (h1 : -32768 ≤ v) (h2 : v ≤ 32767) : sg (Lib.itoa v) = some ⟨0, v, 0, []⟩ := by
  unfold sg
  rw [if_neg (itoa_not (by decide) v), db_num (by decide) v, db_num (by decide) v, nb_itoa h1 h2]
theorem sg_var {v : Int} (h1 : 0 ≤ v) (h2 : v ≤ 32767) : sg (36 :: Lib.itoa v) = some ⟨1, v, 0, []⟩ := by
  unfold sg
  rw [if_neg (by simp), db_itoa h1 h2]
theorem sg_con {v : Int} (h1 : 0 ≤ v) (h2 : v ≤ 32767) : sg (64 :: Lib.itoa v) = some ⟨3, v, 0, []⟩ := by
  unfold sg
  rw [if_neg (by simp), db_other (by decide), db_itoa h1 h2]
theorem hdw_call {v : Int} (h1 : 0 ≤ v) (h2 : v ≤ 32767) : hdw (102 :: Lib.itoa v) = some ⟨2, v, 0, []⟩ := by
  unfold hdw
  simp [db_itoa h1 h2]
theorem hdw_con {v : Int} (h1 : 0 ≤ v) (h2 : v ≤ 32767) : hdw (64 :: Lib.itoa v) = some ⟨3, v, 0, []⟩ := by
  unfold hdw
  simp [db_itoa h1 h2, db_other]
theorem hdw_op {v : Int} (h1 : 0 ≤ v) (h2 : v ≤ 4) : hdw (opS v) = some ⟨4, v, 0, []⟩ := by
  have : v = 0 ∨ v = 1 ∨ v = 2 ∨ v = 3 ∨ v = 4 := by omega
  rcases this with rfl | rfl | rfl | rfl | rfl <;> rfl
theorem opS_case (m : Int) : opS m ≠ [99, 97, 115, 101] := by
  unfold opS; (repeat' split) <;> decide

/-- A reading that takes these words for that part. -/
def Takes (f : Rf) (g : Int → Nat → List Ex) (p : Int → List Wd) (N : Nat) (k : Int) : Prop :=
  (∃ a r, p k = a :: r ∧ a ≠ [41]) ∧ ∀ rest b, (p k ++ rest).length ≤ N → f (p k ++ rest) b = some (rest, b ++ g k b.length)
theorem rr_takes {f : Rf} {g : Int → Nat → List Ex} {p : Int → List Wd} {N : Nat} : ∀ (ks : List Int) (m : Nat) (acc : List Int) (rest : List Wd) (b : List Ex), (∀ k ∈ ks, Takes f g p N k) → ks.length < m → ((ks.map p).flatten ++ [41] :: rest).length ≤ N →
    rr f m acc ((ks.map p).flatten ++ [41] :: rest) b = some (rest, b ++ (cnk g ks b.length).1, acc ++ (cnk g ks b.length).2)
  | [], m + 1, acc, rest, b, _, _, _ => by simp [rr, cnk]
  | k :: ks, m + 1, acc, rest, b, h, hm, hN => by
    obtain ⟨⟨a, r, ha, hne⟩, hf⟩ := h k (by simp)
    have e : ((k :: ks).map p).flatten ++ [41] :: rest = p k ++ ((ks.map p).flatten ++ [41] :: rest) := by simp
    rw [e] at hN ⊢
    have hf' := hf ((ks.map p).flatten ++ [41] :: rest) b hN
    have e2 : p k ++ ((ks.map p).flatten ++ [41] :: rest) = a :: (r ++ ((ks.map p).flatten ++ [41] :: rest)) := by rw [ha]; rfl
    rw [e2, rr, if_neg hne, ← e2, hf']
    simp only
    rw [rr_takes ks m (acc ++ [lastAt (b ++ g k b.length)]) rest (b ++ g k b.length) (fun k' hk => h k' (by simp [hk])) (by simp at hm; omega) (by rw [List.length_append] at hN; omega)]
    simp [cnk, lastAt]
  | _ :: _, 0, _, _, _, _, hm, _ => by simp at hm
theorem flat_len {us : List (List Wd)} (h : ∀ u ∈ us, u ≠ []) : us.length ≤ us.flatten.length := by
  induction us with
  | nil => simp
  | cons u us ih =>
    have h1 := ih fun v hv => h v (by simp [hv])
    have h2 := List.length_pos_iff.2 (h u (by simp))
    simp only [List.length_cons, List.flatten_cons, List.length_append]
    omega
theorem rb_plain {f : Rf} {g : Int → Nat → List Ex} {p : Int → List Wd} {N m : Nat} {w : Wd} {e : Ex} {ks : List Int} {rest : List Wd} {b : List Ex} (hw : w ≠ [99, 97, 115, 101]) (hh : hdw w = some e) (hk : e.kind = 3 → ks ≠ [])
    (hT : ∀ k ∈ ks, Takes f g p N k) (hm : ks.length < m) (hN : ((ks.map p).flatten ++ [41] :: rest).length ≤ N) :
    rb f m (w :: ((ks.map p).flatten ++ [41] :: rest)) b = some (rest, b ++ (cnk g ks b.length).1, { e with kids := (cnk g ks b.length).2 }) := by
  unfold rb
  simp only
  rw [if_neg hw, hh]
  simp only
  rw [rr_takes ks m [] rest b hT hm hN]
  simp only [List.nil_append]
  rw [if_neg]
  intro q
  have := cnk_len g ks b.length
  rw [q.2] at this
  exact hk q.1 (List.length_eq_zero_iff.1 (by simpa using this.symm))
theorem rp_pw {B : List Ex} (hB : Fit B) : ∀ (n f : Nat) (i : Int) (rest : List Wd) (b : List Ex), 0 ≤ i → i < (f : Int) → i < (B.length : Int) → (pw f B i ++ rest).length ≤ n → rp n (pw f B i ++ rest) b = some (rest, b ++ cn f B i b.length)
  | n, 0, i, _, _, h0, h1, _, _ => by omega
  | 0, f + 1, i, rest, b, h0, h1, h2, hn => by
    obtain ⟨a, r, e, _⟩ := ws_head (wt_sh hB (f + 1) i h0 h1 h2).2
    rw [e] at hn; simp at hn
  | n + 1, f + 1, i, rest, b, h0, h1, h2, hn => by
    have hlt : i.toNat < B.length := by omega
    obtain ⟨x, hx⟩ : ∃ x, B[i.toNat]? = some x := ⟨_, List.getElem?_eq_getElem hlt⟩
    obtain ⟨t, ht, ho⟩ := hB.ok x (List.mem_of_getElem? hx)
    have hkid := hB.kid _ x hx
    have hT : ∀ k ∈ x.kids, Takes (rp n) (cn f B) (pw f B) n k := fun k hk =>
      ⟨ws_head (wt_sh hB f k (hkid k hk).1 (by have := hkid k hk; omega) (by have := hkid k hk; omega)).2,
        fun rest b hl => rp_pw hB n f k rest b (hkid k hk).1 (by have := hkid k hk; omega) (by have := hkid k hk; omega) hl⟩
    have hfl := flat_len (us := x.kids.map (pw f B)) (fun u hu => by
      obtain ⟨k, hk, rfl⟩ := List.mem_map.1 hu
      obtain ⟨a, r, e, _⟩ := (hT k hk).1
      rw [e]; simp)
    rw [List.length_map] at hfl
    rw [pw, hx] at hn ⊢
    rw [cn, hx]
    simp only at hn ⊢
    have single : x.kids = [] → x.kind ≠ 2 → sg (wo x) = some ⟨x.kind, x.num, x.bind, []⟩ →
        rp (n + 1) ((if x.kids = [] ∧ x.kind ≠ 2 then [wo x] else [40] :: wo x :: (kw x (x.kids.map (pw f B)) ++ [[41]])) ++ rest) b = some (rest, b ++ ((cnk (cn f B) x.kids b.length).1 ++ [{ x with kids := (cnk (cn f B) x.kids b.length).2 }])) := by
      intro h1 h2 h3
      rw [if_pos ⟨h1, h2⟩, List.singleton_append, rp]
      have hne : wo x ≠ [40] := by
        intro e
        have h9 : sg [40] = none := by decide +kernel
        rw [e, h9] at h3; cases h3
      rw [if_neg hne, h3, h1]
      simp [cnk]
    have plain : x.kind ≠ 5 → ¬ (x.kids = [] ∧ x.kind ≠ 2) → wo x ≠ [99, 97, 115, 101] → hdw (wo x) = some ⟨x.kind, x.num, x.bind, []⟩ → (x.kind = 3 → x.kids ≠ []) →
        rp (n + 1) ((if x.kids = [] ∧ x.kind ≠ 2 then [wo x] else [40] :: wo x :: (kw x (x.kids.map (pw f B)) ++ [[41]])) ++ rest) b = some (rest, b ++ ((cnk (cn f B) x.kids b.length).1 ++ [{ x with kids := (cnk (cn f B) x.kids b.length).2 }])) := by
      intro h5 hne hc hh h3
      rw [if_neg hne] at hn ⊢
      rw [kw_flat h5] at hn ⊢
      have e : ([40] :: wo x :: ((x.kids.map (pw f B)).flatten ++ [[41]])) ++ rest = [40] :: (wo x :: ((x.kids.map (pw f B)).flatten ++ [41] :: rest)) := by simp
      rw [e] at hn ⊢
      rw [rp, if_pos rfl, rb_plain hc hh h3 hT (by simp only [List.length_cons, List.length_append] at hn; omega) (by simp only [List.length_cons, List.length_append] at hn ⊢; omega)]
      simp
    rcases ok_kinds ho with ⟨hk, hb, m1, m2, hl⟩ | ⟨hk, hb, m1, m2, hl⟩ | ⟨hk, hb, m1, m2, hl⟩ | ⟨hk, hb, m1, m2, hl⟩ | ⟨hk, hb, m1, m2, hl⟩ | ⟨hk, b1, b2, m1, m2, hl⟩ | ⟨hk, hb, m1, hl⟩ | ⟨hk, hb, m1, hl⟩
    · exact single (by simpa using hl) (by omega) (by simp only [wo, hk, hb, if_pos]; exact sg_num m1 m2)
    · exact single (by simpa using hl) (by omega) (by simpa [wo, hk, hb] using sg_var m1 (by omega))
    · exact plain (by omega) (by simp [hk]) (by simp [wo, hk]) (by simpa [wo, hk, hb] using hdw_call m1 (by omega)) (by omega)
    · by_cases hks : x.kids = []
      · exact single hks (by omega) (by simpa [wo, hk, hb] using sg_con m1 (by omega))
      · exact plain (by omega) (by simp [hks]) (by simp [wo, hk]) (by simpa [wo, hk, hb] using hdw_con m1 (by omega)) (fun _ => hks)
    · exact plain (by omega) (by intro q; rw [q.1] at hl; simp at hl) (by simpa [wo, hk] using opS_case x.num) (by simpa [wo, hk, hb] using hdw_op m1 m2) (by omega)
    · obtain ⟨k1, k2, k3, hks⟩ : ∃ k1 k2 k3, x.kids = [k1, k2, k3] := by
        match x.kids, hl with
        | [k1, k2, k3], _ => exact ⟨k1, k2, k3, rfl⟩
      rw [hks] at hT hn ⊢
      simp only [List.map_cons, List.map_nil] at hn ⊢
      rw [if_neg (by simp)] at hn ⊢
      have e : ([40] :: wo x :: (kw x [pw f B k1, pw f B k2, pw f B k3] ++ [[41]])) ++ rest = [40] :: ([99, 97, 115, 101] :: (pw f B k1 ++ (64 :: Lib.itoa x.num) :: Lib.itoa x.bind :: (([k2, k3].map (pw f B)).flatten ++ [41] :: rest))) := by simp [kw, hk, wo]
      rw [e] at hn ⊢
      rw [rp, if_pos rfl]
      unfold rb
      simp only
      rw [if_pos trivial]
      unfold rc
      rw [(hT k1 (by simp)).2 _ b (by simp only [List.length_cons, List.length_append] at hn ⊢; omega)]
      simp only
      rw [db_itoa m1 (by omega)]
      simp only
      rw [dg_itoa b1 (by omega)]
      simp only
      rw [rr_takes [k2, k3] (n + 1) [lastAt (b ++ cn f B k1 b.length)] rest (b ++ cn f B k1 b.length) (fun k hk => hT k (by simp at hk ⊢; exact Or.inr hk)) (by simp only [List.length_cons, List.length_append, List.length_nil] at hn ⊢; omega) (by simp only [List.length_cons, List.length_append] at hn ⊢; omega)]
      simp [cnk, lastAt, hk]
    · exact plain (by omega) (by intro q; rw [q.1] at hl; simp at hl) (by simp [wo, hk]) (by simp [wo, hk, hb, m1]; rfl) (by omega)
    · exact single (by simpa using hl) (by omega) (by simp [wo, hk, hb, m1]; rfl)
theorem rdf_dw {d : Df} (h : may d.params d.body = true) {n : Nat} {rest : List Wd} (hn : (dw d ++ rest).length ≤ n) : rdf n (dw d ++ rest) = some (rest, cnd d) := by
  obtain ⟨h1, h2, h3⟩ := may_ne h
  have e : dw d ++ rest = [40] :: [100, 101, 102] :: Lib.itoa d.params :: (pw d.body.length d.body (lastAt d.body) ++ ([41] :: rest)) := by simp [dw]
  rw [e] at hn ⊢
  unfold rdf
  simp only
  rw [if_pos trivial, if_pos trivial, dg_itoa h2 (by omega)]
  simp only
  rw [rp_pw (fit_of_may h) n _ _ _ _ (by unfold lastAt; omega) (by unfold lastAt; omega) (by unfold lastAt; omega) (by simp only [List.length_cons] at hn; omega)]
  simp [cnd]
theorem rpg_dw {n : Nat} : ∀ (ds : List Df) (m : Nat) (acc : List Df), (∀ d ∈ ds, may d.params d.body = true) → ds.length < m → ((ds.map dw).flatten).length ≤ n → rpg n m acc (ds.map dw).flatten = some (acc ++ ds.map cnd)
  | [], m + 1, acc, _, _, _ => by simp [rpg]
  | d :: ds, m + 1, acc, h, hm, hn => by
    have e : ((d :: ds).map dw).flatten = dw d ++ (ds.map dw).flatten := by simp
    rw [e] at hn ⊢
    have e2 : dw d ++ (ds.map dw).flatten = [40] :: ([100, 101, 102] :: Lib.itoa d.params :: (pw d.body.length d.body (lastAt d.body) ++ [[41]]) ++ (ds.map dw).flatten) := rfl
    rw [e2, rpg, ← e2, rdf_dw (h d (by simp)) hn]
    simp only
    rw [rpg_dw ds m _ (fun d' hd => h d' (by simp [hd])) (by simp at hm; omega) (by rw [List.length_append] at hn; omega)]
    simp
  | _ :: _, 0, _, _, hm, _ => by simp at hm
theorem words_show : ∀ {ds : List Df}, (∀ d ∈ ds, may d.params d.body = true) → (showS ds).all Lx.okB = true ∧ Lx.wd false [] (showS ds) = (ds.map dw).flatten
  | [], _ => ⟨rfl, rfl⟩
  | d :: ds, h => by
    obtain ⟨o, e⟩ := words_show (ds := ds) fun d' hd => h d' (by simp [hd])
    have g := (wt_df (h d (by simp))).1
    refine ⟨?_, ?_⟩
    · show ((dfS d ++ [10]) ++ showS ds).all Lx.okB = true
      rw [List.all_append, List.all_append, g.1, o]; decide
    · show Lx.wd false [] ((dfS d ++ [10]) ++ showS ds) = dw d ++ (ds.map dw).flatten
      rw [List.append_assoc, g.2 _ (fun c h => by cases h; decide), ← e]
      rfl
/-- Two that may be and have the same words have the same text. -/
theorem same_words {d d' : Df} (h : may d.params d.body = true) (h' : may d'.params d'.body = true) (he : dw d' = dw d) : dfS d' = dfS d := by
  rw [← ws_line (wt_df h').2, ← ws_line (wt_df h).2, he]
theorem dw_cnd {d : Df} (h : may d.params d.body = true) (h' : may d.params (cnd d).body = true) : dw (cnd d) = dw d := by
  have h2 : may (cnd d).params (cnd d).body = true := h'
  have hk : K3 (cnd d).body := by
    intro x hx hk
    obtain ⟨t, ht⟩ := may_parts h2 x hx
    rcases ok_kinds ht with ⟨q, _⟩ | ⟨q, _⟩ | ⟨q, _⟩ | ⟨q, _⟩ | ⟨q, _⟩ | ⟨q, _, _, _, _, hl⟩ | ⟨q, _⟩ | ⟨q, _⟩ <;> first | exact hl | omega
  obtain ⟨u, e, g⟩ := rdf_sh (rdf_dw h (n := (dw d ++ []).length) (rest := []) (Nat.le_refl _)) hk
  rw [List.append_nil, List.append_nil] at e
  have g1 := g.2 [] (fun c hc => by cases hc)
  have g2 := (wt_df h2).1.2 [] (fun c hc => by cases hc)
  rw [g1] at g2
  have e0 : Lx.wd false [] [] = [] := rfl
  rw [e0, List.append_nil, List.append_nil] at g2
  rw [← g2, e]
end Go.Proofs.YtgjhpmkahicnkaaDoor

namespace Go.Proofs.YtgjhpmkahicnkaaDoor
set_option linter.unusedVariables false

/-! What a run tells of each part. -/
theorem hd_keeps {n : Nat} {e : Ex} {t : Int} : ∀ {ks : List Int} {i : Nat} {L L' : List Int} {j : Nat} {v : Int}, L[j]? = some v → v ≠ -1 → hd n e t i ks L = some L' → L'[j]? = some v
  | [], i, L, L', j, v, hj, hv, h => by rw [hd] at h; cases h; exact hj
  | k :: ks, i, L, L', j, v, hj, hv, h => by
    rw [hd] at h
    split at h
    · rename_i hc
      split at h
      · cases h
      · have hne : k.toNat ≠ j := by
          intro e1
          rw [e1, hj] at hc
          exact hv (Option.some.inj hc.2.2)
        exact hd_keeps (by rw [List.getElem?_set_ne hne]; exact hj) hv h
    · cases h
theorem stp_parts {L L' : List Int} {x : Nat × Ex} (h : stp L x = some L') : ∃ t, L[x.1]? = some t ∧ t ≠ -1 ∧ x.2.ok t = true ∧ hd x.1 x.2 t 0 x.2.kids L = some L' := by
  unfold stp at h
  split at h
  · cases h
  · rename_i t ht
    split at h
    · cases h
    · rename_i h1
      split at h
      · cases h
      · rename_i h2
        exact ⟨t, ht, h1, by simpa using h2, h⟩
theorem stp_keeps {L L' : List Int} {x : Nat × Ex} {j : Nat} {v : Int} (hj : L[j]? = some v) (hv : v ≠ -1) (h : stp L x = some L') : L'[j]? = some v := by
  obtain ⟨t, _, _, _, h1⟩ := stp_parts h
  exact hd_keeps hj hv h1
theorem run_keeps : ∀ {xs : List (Nat × Ex)} {L L' : List Int} {j : Nat} {v : Int}, L[j]? = some v → v ≠ -1 → run L xs = some L' → L'[j]? = some v
  | [], L, L', j, v, hj, hv, h => by rw [run] at h; cases h; exact hj
  | x :: xs, L, L', j, v, hj, hv, h => by
    rw [run] at h
    split at h
    · cases h
    · rename_i L1 h1
      exact run_keeps (stp_keeps hj hv h1) hv h
theorem hd_sets {n : Nat} {e : Ex} {t : Int} (ht : 0 ≤ t) (hb : ∀ i, 0 ≤ e.bd i) : ∀ {ks : List Int} {i : Nat} {L L' : List Int}, hd n e t i ks L = some L' → ∀ (q : Nat) k, ks[q]? = some k → 0 ≤ k ∧ k < (n : Int) ∧ t + e.bd ((i + q : Nat) : Int) ≤ 8 ∧ L'[k.toNat]? = some (t + e.bd ((i + q : Nat) : Int))
  | [], i, L, L', h, q, k, hk => by simp at hk
  | k0 :: ks, i, L, L', h, q, k, hk => by
    rw [hd] at h
    split at h
    · rename_i hc
      split at h
      · cases h
      · rename_i h8
        cases q with
        | zero =>
          simp at hk
          subst hk
          have hlt : k0.toNat < L.length := (List.getElem?_eq_some_iff.1 hc.2.2).1
          have := hb i
          exact ⟨hc.1, by omega, by simpa using h8, hd_keeps (by rw [List.getElem?_set_self hlt]; rfl) (by simp; omega) h⟩
        | succ q =>
          have := hd_sets ht hb h q k (by simpa using hk)
          rw [show i + 1 + q = i + (q + 1) by omega] at this
          exact this
    · cases h
/-- Each part's level. -/
structure Lv2 (B : List Ex) (Lf : List Int) : Prop where
  at_ : ∀ (j : Nat) x, B[j]? = some x → ∃ t, Lf[j]? = some t ∧ 0 ≤ t ∧ x.ok t = true ∧ ∀ (q : Nat) k, x.kids[q]? = some k → 0 ≤ k ∧ k < (j : Int) ∧ t + x.bd (q : Int) ≤ 8 ∧ Lf[k.toNat]? = some (t + x.bd (q : Int))
theorem run_lv : ∀ {xs : List (Nat × Ex)} {L Lf : List Int}, Fine L → run L xs = some Lf → ∀ x ∈ xs, ∃ t, Lf[x.1]? = some t ∧ 0 ≤ t ∧ x.2.ok t = true ∧ ∀ (q : Nat) k, x.2.kids[q]? = some k → 0 ≤ k ∧ k < (x.1 : Int) ∧ t + x.2.bd (q : Int) ≤ 8 ∧ Lf[k.toNat]? = some (t + x.2.bd (q : Int))
  | [], L, Lf, hf, h, x, hx => by cases hx
  | y :: xs, L, Lf, hf, h, x, hx => by
    rw [run] at h
    split at h
    · cases h
    · rename_i L1 h1
      rcases List.mem_cons.1 hx with rfl | hx
      · obtain ⟨t, a1, a2, a3, a4⟩ := stp_parts h1
        have ht := hf t (List.mem_of_getElem? a1)
        have hbd : ∀ i, 0 ≤ x.2.bd i := fun i => (bnd_le a3).1
        refine ⟨t, run_keeps (stp_keeps a1 a2 h1) a2 h, by omega, a3, fun q k hk => ?_⟩
        obtain ⟨c1, c2, c3, c4⟩ := hd_sets (by omega) hbd a4 q k hk
        rw [Nat.zero_add] at c3 c4
        have := hbd q
        exact ⟨c1, c2, c3, run_keeps c4 (by omega) h⟩
      · exact run_lv (stp_fine hf h1) h x hx
theorem may_run {p : Int} {B : List Ex} (h : may p B = true) : ∃ Lf, run (start p B.length) (backw B) = some Lf := by
  unfold may at h
  split at h
  · exact Option.isSome_iff_exists.1 h
  · cases h
theorem mem_backw_at {B : List Ex} {j : Nat} {x : Ex} (h : B[j]? = some x) : (j, x) ∈ backw B := by
  unfold backw
  rw [List.mem_reverse, List.mem_map]
  exact ⟨(x, j), by rw [List.mem_zipIdx_iff_getElem?]; exact h, rfl⟩
theorem start_last {p : Int} {n : Nat} (h : 1 ≤ n) : (start p n)[n - 1]? = some p := by
  unfold start
  rw [List.getElem?_set_self (by simp; omega)]
theorem start_other {p : Int} {n q : Nat} (h : q < n - 1) : (start p n)[q]? = some (-1) := by
  unfold start
  rw [List.getElem?_set_ne (by omega), List.getElem?_replicate, if_pos (by omega)]

/-! How many parts there are in a part. -/
def sumN : List Nat → Nat
  | [] => 0
  | a :: r => a + sumN r
def cnt : Nat → List Ex → Int → Nat
  | 0, _, _ => 0
  | f + 1, b, i => match b[i.toNat]? with
    | none => 0
    | some x => sumN (x.kids.map (cnt f b)) + 1
theorem cnk_count {g : Int → Nat → List Ex} {c : Int → Nat} (h : ∀ k n, (g k n).length = c k) : ∀ (ks : List Int) (n : Nat), (cnk g ks n).1.length = sumN (ks.map c)
  | [], n => rfl
  | k :: ks, n => by rw [cnk, List.map_cons, sumN, List.length_append, h, cnk_count h ks]
theorem cn_count (B : List Ex) : ∀ (f : Nat) (i : Int) (n : Nat), (cn f B i n).length = cnt f B i
  | 0, i, n => rfl
  | f + 1, i, n => by
    rw [cn, cnt]
    cases B[i.toNat]? with
    | none => rfl
    | some x => simp only [List.length_append, List.length_cons, List.length_nil]; rw [cnk_count (cn_count B f)]
theorem map_same {α β : Type} {f g : α → β} : ∀ {l : List α}, (∀ a ∈ l, f a = g a) → l.map f = l.map g
  | [], _ => rfl
  | a :: l, h => by rw [List.map_cons, List.map_cons, h a (by simp), map_same fun b hb => h b (by simp [hb])]
theorem cnt_same {B : List Ex} (hB : Fit B) : ∀ (f g : Nat) (i : Int), 0 ≤ i → i < (f : Int) → i < (g : Int) → cnt f B i = cnt g B i
  | 0, g, i, h0, h1, _ => by omega
  | f + 1, 0, i, h0, _, h2 => by omega
  | f + 1, g + 1, i, h0, h1, h2 => by
    rw [cnt, cnt]
    cases hx : B[i.toNat]? with
    | none => rfl
    | some x =>
      have hk := hB.kid _ x hx
      simp only
      rw [map_same fun k hm => cnt_same hB f g k (hk k hm).1 (by have := hk k hm; omega) (by have := hk k hm; omega)]
/-- The parts that somebody's level tells, below j, each as often as c says. -/
def wt (c : Nat → Nat) (L : List Int) : Nat → Nat
  | 0 => 0
  | j + 1 => wt c L j + (if L[j]? = some (-1) then 0 else c j)
theorem wt_set {c : Nat → Nat} {L : List Int} {k : Nat} {v : Int} (hk : L[k]? = some (-1)) (hv : v ≠ -1) : ∀ j, wt c (L.set k v) j = wt c L j + (if k < j then c k else 0)
  | 0 => by simp [wt]
  | j + 1 => by
    have hlt : k < L.length := (List.getElem?_eq_some_iff.1 hk).1
    rw [wt, wt, wt_set hk hv j]
    by_cases e : k = j
    · subst e
      rw [List.getElem?_set_self hlt, hk, if_neg (show ¬ k < k by omega), if_neg (show ¬ some v = some (-1) by simp [hv]), if_pos rfl, if_pos (show k < k + 1 by omega)]
    · rw [List.getElem?_set_ne e]
      generalize (if L[j]? = some (-1) then 0 else c j) = z
      by_cases h : k < j
      · rw [if_pos h, if_pos (show k < j + 1 by omega)]; omega
      · rw [if_neg h, if_neg (show ¬ k < j + 1 by omega)]
        omega
theorem hd_wt {c : Nat → Nat} {n : Nat} {e : Ex} {t : Int} (ht : 0 ≤ t) (hb : ∀ i, 0 ≤ e.bd i) : ∀ {ks : List Int} {i : Nat} {L L' : List Int}, hd n e t i ks L = some L' → wt c L' n = wt c L n + sumN (ks.map fun k => c k.toNat)
  | [], i, L, L', h => by rw [hd] at h; cases h; rfl
  | k :: ks, i, L, L', h => by
    rw [hd] at h
    split at h
    · rename_i hc
      split at h
      · cases h
      · have := hb i
        rw [hd_wt ht hb h, wt_set hc.2.2 (by omega), if_pos (by omega), List.map_cons, sumN]
        omega
    · cases h
theorem run_wt {c : Nat → Nat} : ∀ {xs : List (Nat × Ex)} {L Lf : List Int}, Fine L → Ord xs → (∀ x ∈ xs, c x.1 = sumN (x.2.kids.map fun k => c k.toNat) + 1) → run L xs = some Lf → wt c L xs.length = xs.length
  | [], L, Lf, _, _, _, _ => rfl
  | x :: xs, L, Lf, hf, ho, hc, h => by
    rw [run] at h
    split at h
    · cases h
    · rename_i L1 h1
      obtain ⟨t, a1, a2, a3, a4⟩ := stp_parts h1
      have ht := hf t (List.mem_of_getElem? a1)
      have hbd : ∀ i, 0 ≤ x.2.bd i := fun i => (bnd_le a3).1
      have ih := run_wt (stp_fine hf h1) ho.2 (fun y hy => hc y (by simp [hy])) h
      have h2 := hd_wt (c := c) (by omega) hbd a4
      have h3 := hc x (by simp)
      rw [ho.1] at h2 h3 a1
      rw [List.length_cons, wt, a1, if_neg (by simp [a2])]
      omega
theorem wt_start {c : Nat → Nat} {p : Int} (hp : 0 ≤ p) {n : Nat} : ∀ j, j < n → wt c (start p n) j = 0
  | 0, _ => rfl
  | j + 1, h => by
    rw [wt, wt_start hp j (by omega), start_other (by omega), if_pos rfl]
/-- All parts are within the last one. -/
theorem cnt_all {p : Int} {B : List Ex} (h : may p B = true) : cnt B.length B (lastAt B) = B.length := by
  obtain ⟨h1, h2, h3⟩ := may_ne h
  obtain ⟨Lf, hr⟩ := may_run h
  have hB := fit_of_may h
  have hw := run_wt (c := fun j => cnt (j + 1) B (j : Int)) (start_fine h2 h3) (backw_ord B) (fun x hx => by
    obtain ⟨j, x⟩ := x
    have hj : B[j]? = some x := by
      unfold backw at hx
      rw [List.mem_reverse, List.mem_map] at hx
      obtain ⟨y, hy, e⟩ := hx
      cases e
      rw [List.mem_zipIdx_iff_getElem?] at hy
      exact hy
    show cnt (j + 1) B (j : Int) = _
    rw [cnt, Int.toNat_natCast, hj]
    simp only
    have hk := hB.kid j x hj
    have hm2 : x.kids.map (cnt j B) = x.kids.map (fun k => cnt (k.toNat + 1) B ((k.toNat : Nat) : Int)) := map_same fun k hm => by
      rw [Int.toNat_of_nonneg (hk k hm).1]
      exact cnt_same hB j (k.toNat + 1) k (hk k hm).1 (hk k hm).2 (by have := hk k hm; omega)
    rw [hm2]) hr
  rw [backw_len] at hw
  obtain ⟨n, hn⟩ : ∃ n, B.length = n + 1 := ⟨B.length - 1, by omega⟩
  have e : lastAt B = (n : Int) := by unfold lastAt; omega
  rw [hn, wt, wt_start h2 n (by omega)] at hw
  have hl := start_last (p := p) (n := n + 1) (by omega)
  rw [Nat.add_sub_cancel] at hl
  rw [hl, if_neg (by simp; omega)] at hw
  rw [e, hn]
  simpa using hw

/-! The parts in the row in which they are read may be. -/
/-- The parts, the last one first, with their places from b0 on. -/
def bk (b0 : Nat) : List Ex → List (Nat × Ex)
  | [] => []
  | x :: xs => bk (b0 + 1) xs ++ [(b0, x)]
theorem bk_app : ∀ (xs ys : List Ex) (b0 : Nat), bk b0 (xs ++ ys) = bk (b0 + xs.length) ys ++ bk b0 xs
  | [], ys, b0 => by simp [bk]
  | x :: xs, ys, b0 => by
    rw [List.cons_append, bk, bk_app xs ys, bk, List.append_assoc, List.length_cons, show b0 + 1 + xs.length = b0 + (xs.length + 1) by omega]
theorem bk_backw (xs : List Ex) : backw xs = bk 0 xs := by
  induction xs using list_snoc_ind with
  | h0 => rfl
  | h1 xs x ih => rw [backw_snoc, ih, bk_app]; simp [bk]
theorem run_app : ∀ (xs ys : List (Nat × Ex)) (L : List Int), run L (xs ++ ys) = (run L xs).bind fun L' => run L' ys
  | [], ys, L => rfl
  | x :: xs, ys, L => by
    rw [List.cons_append, run, run]
    cases stp L x with
    | none => rfl
    | some L1 => exact run_app xs ys L1
/-- Blocks of these sizes from b0 on, the last one of each with its level, the others nobody's. -/
def Rdy (L : List Int) : Nat → List (Nat × Int) → Prop
  | _, [] => True
  | b0, (c, t) :: r => 1 ≤ c ∧ L[b0 + c - 1]? = some t ∧ (∀ q, b0 ≤ q → q < b0 + c - 1 → L[q]? = some (-1)) ∧ Rdy L (b0 + c) r
theorem Rdy.eq {L L' : List Int} : ∀ {r : List (Nat × Int)} {b0 : Nat}, Rdy L b0 r → (∀ q, b0 ≤ q → L'[q]? = L[q]?) → Rdy L' b0 r
  | [], _, _, _ => trivial
  | (c, t) :: r, b0, h, he => ⟨h.1, by rw [he _ (by have := h.1; omega)]; exact h.2.1, fun q h1 h2 => by rw [he q h1]; exact h.2.2.1 q h1 h2, h.2.2.2.eq fun q hq => he q (by omega)⟩
/-- What a run over a block leaves. -/
def Off (L L' : List Int) (a b : Nat) : Prop := L'.length = L.length ∧ ∀ q, q < a ∨ b ≤ q → L'[q]? = L[q]?
def tot : List (Nat × Int) → Nat
  | [] => 0
  | (c, _) :: r => c + tot r
/-- The kids, with their sizes and levels. -/
def szs (c : Int → Nat) (e : Ex) (t : Int) : Nat → List Int → List (Nat × Int)
  | _, [] => []
  | i, k :: ks => (c k, t + e.bd (i : Int)) :: szs c e t (i + 1) ks
theorem szs_tot (c : Int → Nat) (e : Ex) (t : Int) : ∀ (ks : List Int) (i : Nat), tot (szs c e t i ks) = sumN (ks.map c)
  | [], i => rfl
  | k :: ks, i => by rw [szs, tot, List.map_cons, sumN, szs_tot c e t ks]
/-- What a part laid from b0 on does. -/
def Goes (g : Int → Nat → List Ex) (c : Int → Nat) (k : Int) (t : Int) : Prop :=
  1 ≤ c k ∧ (∀ n, (g k n).length = c k) ∧ ∀ b0 L, Rdy L b0 [(c k, t)] → ∃ L', run L (bk b0 (g k b0)) = some L' ∧ Off L L' b0 (b0 + c k)
theorem runs_kids {g : Int → Nat → List Ex} {c : Int → Nat} {e : Ex} {t : Int} : ∀ (ks : List Int) (i b0 : Nat) (L : List Int), (∀ (q : Nat) k, ks[q]? = some k → Goes g c k (t + e.bd ((i + q : Nat) : Int))) → Rdy L b0 (szs c e t i ks) →
    ∃ L', run L (bk b0 (cnk g ks b0).1) = some L' ∧ Off L L' b0 (b0 + tot (szs c e t i ks))
  | [], i, b0, L, _, _ => ⟨L, rfl, rfl, fun _ _ => rfl⟩
  | k :: ks, i, b0, L, hg, hr => by
    obtain ⟨g1, g2, g3⟩ := hg 0 k rfl
    rw [Nat.add_zero] at g3
    rw [szs] at hr ⊢
    obtain ⟨r1, r2, r3, r4⟩ := hr
    obtain ⟨L1, e1, o1, o2⟩ := runs_kids ks (i + 1) (b0 + c k) L (fun q k' hq => by
      have := hg (q + 1) k' (by simpa using hq)
      rw [show i + (q + 1) = i + 1 + q by omega] at this
      exact this) r4
    have hr1 : Rdy L1 b0 [(c k, t + e.bd (i : Int))] := ⟨r1, by rw [o2 _ (Or.inl (by omega))]; exact r2, fun q h1 h2 => by rw [o2 _ (Or.inl (by omega))]; exact r3 q h1 h2, trivial⟩
    obtain ⟨L2, e2, p1, p2⟩ := g3 b0 L1 hr1
    refine ⟨L2, ?_, p1.trans o1, fun q hq => ?_⟩
    · rw [cnk, bk_app, run_app, g2, e1]
      exact e2
    · rw [tot] at hq
      rw [p2 q (by omega), o2 q (by omega)]
theorem hd_kids2 {g : Int → Nat → List Ex} {c : Int → Nat} {e : Ex} {t : Int} {n : Nat} : ∀ (ks : List Int) (i b0 : Nat) (L : List Int), (∀ k ∈ ks, 1 ≤ c k ∧ ∀ m, (g k m).length = c k) → (∀ (q : Nat) k, ks[q]? = some k → t + e.bd ((i + q : Nat) : Int) ≤ 8) →
    b0 + tot (szs c e t i ks) ≤ n → (∀ q, b0 ≤ q → q < b0 + tot (szs c e t i ks) → L[q]? = some (-1)) → ∀ e' : Ex, e'.kind = e.kind → e'.bind = e.bind →
    ∃ L', hd n e' t i (cnk g ks b0).2 L = some L' ∧ Rdy L' b0 (szs c e t i ks) ∧ Off L L' b0 (b0 + tot (szs c e t i ks))
  | [], i, b0, L, _, _, _, _, e', _, _ => ⟨L, rfl, trivial, rfl, fun _ _ => rfl⟩
  | k :: ks, i, b0, L, hg, h8, hn, hL, e', ek, eb => by
    obtain ⟨g1, g2⟩ := hg k (by simp)
    rw [szs, tot] at hn hL
    have hbd : e'.bd (i : Int) = e.bd (i : Int) := by unfold Ex.bd; rw [ek, eb]
    have hpos : L[b0 + c k - 1]? = some (-1) := hL _ (by omega) (by omega)
    have hlt : b0 + c k - 1 < L.length := (List.getElem?_eq_some_iff.1 hpos).1
    have h80 := h8 0 k rfl
    rw [Nat.add_zero] at h80
    obtain ⟨L', e1, r1, o1, o2⟩ := hd_kids2 (n := n) (g := g) (c := c) (e := e) (t := t) ks (i + 1) (b0 + c k) (L.set (b0 + c k - 1) (t + e.bd (i : Int))) (fun k' hk => hg k' (by simp [hk])) (fun q k' hq => by
      have := h8 (q + 1) k' (by simpa using hq)
      rw [show i + (q + 1) = i + 1 + q by omega] at this
      exact this) (by omega) (fun q h1 h2 => by rw [List.getElem?_set_ne (by omega)]; exact hL q (by omega) (by omega)) e' ek eb
    refine ⟨L', ?_, ?_, by rw [o1]; simp, fun q hq => ?_⟩
    · rw [cnk, hd, g2, hbd]
      have ht : (((b0 + c k : Nat) : Int) - 1).toNat = b0 + c k - 1 := by omega
      rw [ht, if_pos ⟨by omega, by omega, hpos⟩, if_neg (by omega)]
      exact e1
    · rw [szs]
      refine ⟨g1, ?_, fun q h1 h2 => ?_, r1⟩
      · rw [o2 _ (Or.inl (by omega)), List.getElem?_set_self hlt]
      · rw [o2 _ (Or.inl (by omega)), List.getElem?_set_ne (by omega)]
        exact hL q h1 (by omega)
    · rw [szs, tot] at hq
      rw [o2 q (by omega), List.getElem?_set_ne (by omega)]
theorem ok_len {x : Ex} {ks : List Int} (h : ks.length = x.kids.length) (t : Int) : ({ x with kids := ks } : Ex).ok t = x.ok t := by
  unfold Ex.ok; simp only; rw [h]
theorem goes_cn {B : List Ex} {Lf : List Int} (hB : Fit B) (hL : Lv2 B Lf) : ∀ (f : Nat) (i t : Int), 0 ≤ i → i < (f : Int) → i < (B.length : Int) → Lf[i.toNat]? = some t → Goes (cn f B) (cnt f B) i t
  | 0, i, t, h0, h1, _, _ => by omega
  | f + 1, i, t, h0, h1, h2, ht => by
    have hlt : i.toNat < B.length := by omega
    obtain ⟨x, hx⟩ : ∃ x, B[i.toNat]? = some x := ⟨_, List.getElem?_eq_getElem hlt⟩
    obtain ⟨t', c1, ht0, c2, c3⟩ := hL.at_ _ x hx
    have e0 : t' = t := by rw [ht] at c1; exact (Option.some.inj c1).symm
    subst e0
    have hbd : ∀ i, 0 ≤ x.bd i := fun i => (bnd_le c2).1
    have hc : cnt (f + 1) B i = sumN (x.kids.map (cnt f B)) + 1 := by rw [cnt, hx]
    have hkid : ∀ (q : Nat) k, x.kids[q]? = some k → Goes (cn f B) (cnt f B) k (t' + x.bd (q : Int)) := fun q k hq => by
      obtain ⟨d1, d2, d3, d4⟩ := c3 q k hq
      exact goes_cn hB hL f k _ d1 (by omega) (by omega) d4
    refine ⟨by omega, fun n => cn_count B _ _ _, fun b0 L hr => ?_⟩
    obtain ⟨r1, r2, r3, _⟩ := hr
    rw [hc] at r1 r2 r3 ⊢
    rw [cn, hx]
    simp only
    have hlen : (cnk (cn f B) x.kids b0).1.length = sumN (x.kids.map (cnt f B)) := cnk_count (cn_count B f) _ _
    rw [bk_app, hlen]
    have e1 : b0 + (sumN (x.kids.map (cnt f B)) + 1) - 1 = b0 + sumN (x.kids.map (cnt f B)) := by omega
    rw [e1] at r2 r3
    have hs : tot (szs (cnt f B) x t' 0 x.kids) = sumN (x.kids.map (cnt f B)) := szs_tot _ _ _ _ _
    obtain ⟨L1, e2, y1, o1, o2⟩ := hd_kids2 (g := cn f B) (c := cnt f B) (e := x) (t := t') (n := b0 + sumN (x.kids.map (cnt f B))) x.kids 0 b0 L
      (fun k hk => by obtain ⟨q, hq⟩ := List.mem_iff_getElem?.1 hk; exact ⟨(hkid q k hq).1, (hkid q k hq).2.1⟩)
      (fun q k hq => by rw [Nat.zero_add]; exact (c3 q k hq).2.2.1) (by rw [hs]; exact Nat.le_refl _) (fun q h1 h2 => r3 q h1 (by rw [hs] at h2; exact h2)) { x with kids := (cnk (cn f B) x.kids b0).2 } rfl rfl
    obtain ⟨L2, e3, p1, p2⟩ := runs_kids (g := cn f B) (c := cnt f B) (e := x) (t := t') x.kids 0 b0 L1 (fun q k hq => by rw [Nat.zero_add]; exact hkid q k hq) y1
    rw [hs] at o2 p2
    refine ⟨L2, ?_, p1.trans o1, fun q hq => by rw [p2 q (by omega), o2 q (by omega)]⟩
    show run L ((b0 + sumN (x.kids.map (cnt f B)), ({ x with kids := (cnk (cn f B) x.kids b0).2 } : Ex)) :: bk b0 (cnk (cn f B) x.kids b0).1) = some L2
    rw [run]
    have hst : stp L (b0 + sumN (x.kids.map (cnt f B)), ({ x with kids := (cnk (cn f B) x.kids b0).2 } : Ex)) = some L1 := by
      unfold stp
      simp only
      rw [r2]
      simp only
      rw [if_neg (by omega), ok_len (cnk_len _ _ _), c2, if_neg (by simp)]
      exact e2
    rw [hst]
    exact e3
theorem may_cnd {d : Df} (h : may d.params d.body = true) : may d.params (cnd d).body = true := by
  obtain ⟨h1, h2, h3⟩ := may_ne h
  have h4 := may_len h
  have hB := fit_of_may h
  obtain ⟨Lf, hr⟩ := may_run h
  have hlv := run_lv (start_fine h2 h3) hr
  have hL : Lv2 d.body Lf := ⟨fun j x hj => by
    obtain ⟨t, a1, a2, a3, a4⟩ := hlv _ (mem_backw_at hj)
    exact ⟨t, a1, a2, a3, a4⟩⟩
  have hlast : Lf[(lastAt d.body).toNat]? = some d.params := by
    have e : (lastAt d.body).toNat = d.body.length - 1 := by unfold lastAt; omega
    rw [e]
    exact run_keeps (start_last h1) (by omega) hr
  obtain ⟨g1, g2, g3⟩ := goes_cn hB hL d.body.length (lastAt d.body) d.params (by unfold lastAt; omega) (by unfold lastAt; omega) (by unfold lastAt; omega) hlast
  have hlen : (cnd d).body.length = d.body.length := (g2 0).trans (cnt_all h)
  obtain ⟨L', e1, _⟩ := g3 0 (start d.params d.body.length) ⟨by omega, by rw [cnt_all h, Nat.zero_add]; exact start_last h1, fun q _ hq => start_other (by rw [cnt_all h] at hq; omega), trivial⟩
  unfold may
  rw [hlen, if_pos ⟨h2, h3, h1, h4⟩, bk_backw]
  have : run (start d.params d.body.length) (bk 0 (cnd d).body) = some L' := e1
  rw [this]; rfl

/-- Each part that is read is one that was shown, but for where its kids stand. -/
def Of (B C : List Ex) : Prop := ∀ y ∈ C, ∃ x ∈ B, y.kind = x.kind ∧ y.num = x.num ∧ y.kids.length = x.kids.length
theorem of_cnk {B : List Ex} {g : Int → Nat → List Ex} (h : ∀ k n, Of B (g k n)) : ∀ (ks : List Int) (n : Nat), Of B (cnk g ks n).1
  | [], n => fun y hy => by cases hy
  | k :: ks, n => fun y hy => by
    rw [cnk] at hy
    rcases List.mem_append.1 hy with hy | hy
    · exact h k n y hy
    · exact of_cnk h ks _ y hy
theorem of_cn (B : List Ex) : ∀ (f : Nat) (i : Int) (n : Nat), Of B (cn f B i n)
  | 0, i, n => fun y hy => by cases hy
  | f + 1, i, n => fun y hy => by
    rw [cn] at hy
    cases hx : B[i.toNat]? with
    | none => rw [hx] at hy; cases hy
    | some x =>
      rw [hx] at hy
      rcases List.mem_append.1 hy with hy | hy
      · exact of_cnk (of_cn B f) _ _ y hy
      · rw [List.mem_singleton] at hy
        subst hy
        exact ⟨x, List.mem_of_getElem? hx, rfl, rfl, cnk_len _ _ _⟩
theorem takes_cnd (ds : List Df) {x y : Ex} (h1 : y.num = x.num) (h2 : y.kids.length = x.kids.length) : takes (ds.map cnd) y = takes ds x := by
  unfold takes
  rw [h1, h2, List.getElem?_map]
  cases ds[x.num.toNat]? <;> rfl
theorem pmay_mays {ds : List Df} (h : pmay ds = true) : ∀ d ∈ ds, may d.params d.body = true := by
  intro d hd
  unfold pmay at h
  simp only [Bool.and_eq_true, List.all_eq_true] at h
  have := h.2 d hd
  unfold dOk at this
  rw [Bool.and_eq_true] at this
  exact this.1
theorem pmay_cnd {ds : List Df} (h : pmay ds = true) : pmay (ds.map cnd) = true := by
  have hm := pmay_mays h
  unfold pmay at h ⊢
  simp only [Bool.and_eq_true, List.all_eq_true] at h ⊢
  refine ⟨⟨by rw [List.length_map]; exact h.1.1, ?_⟩, ?_⟩
  · have := h.1.2
    rw [List.getElem?_map]
    cases hd : ds[0]? with
    | none => rw [hd] at this; cases this
    | some d => rw [hd] at this; exact this
  · intro d' hd'
    obtain ⟨d, hd, rfl⟩ := List.mem_map.1 hd'
    have h1 := h.2 d hd
    unfold dOk at h1 ⊢
    rw [Bool.and_eq_true] at h1 ⊢
    refine ⟨may_cnd (hm d hd), ?_⟩
    rw [Bool.not_eq_true', List.any_eq_false] at *
    intro y hy
    obtain ⟨x, hx, k1, k2, k3⟩ := of_cn d.body _ _ _ y hy
    have := (List.any_eq_false.1 (by simpa using h1.2)) x hx
    unfold wrong at this ⊢
    rw [k1, takes_cnd ds k2 k3]
    exact this
/-- What is shown is read, and what is read is shown the same. -/
theorem show_read {ds : List Df} (h : pmay ds = true) (hl : (showS ds).length ≤ 2048) : ∃ ds', pp (showS ds) = some ds' ∧ pmay ds' = true ∧ showS ds' = showS ds := by
  have hm := pmay_mays h
  obtain ⟨ho, hw⟩ := words_show hm
  have hg : Lx.good (showS ds) = true := by unfold Lx.good; rw [ho]; simp [hl]
  have h8 : ds.length ≤ 8 := by
    unfold pmay at h
    simp only [Bool.and_eq_true] at h
    have := of_decide_eq_true h.1.1
    omega
  refine ⟨ds.map cnd, ?_, pmay_cnd h, ?_⟩
  · unfold pp
    rw [if_pos hg, hw, rpg_dw ds 2049 [] hm (by omega) ?_]
    · simp only [List.nil_append]
      rw [if_pos (pmay_cnd h)]
    · rw [← hw]
      have := Lx.wd_length (showS ds) false []
      have h0 : (Lx.fl ([] : List UInt8)).length = 0 := rfl
      omega
  · have : ∀ l : List Df, (∀ d ∈ l, may d.params d.body = true) → showS (l.map cnd) = showS l := by
      intro l
      induction l with
      | nil => intro _; rfl
      | cons d l ih =>
        intro hh
        have hd := hh d (by simp)
        show (dfS (cnd d) ++ [10]) ++ showS (l.map cnd) = (dfS d ++ [10]) ++ showS l
        rw [same_words hd (may_cnd hd) (dw_cnd hd (may_cnd hd)), ih fun e he => hh e (by simp [he])]
    exact this ds hm
end Go.Proofs.YtgjhpmkahicnkaaDoor

namespace Go.Proofs.YtgjhpmkahicnkaaDoor
set_option linter.unusedVariables false

/-- A program's text, if it has one. -/
def okS (ds : List Df) : Bool := pmay ds && decide ((showS ds).length ≤ 2048)
def txS (ds : List Df) : Wd := if okS ds then showS ds else []
def erS (ds : List Df) : Int := if okS ds then 0 else 800
theorem show_le {ds : List Df} (h : ∀ d ∈ ds, may d.params d.body = true) : (showS ds).length ≤ ds.length * 12000000000000 := by
  induction ds with
  | nil => simp [showS]
  | cons d ds ih =>
    have h1 := ih fun e he => h e (by simp [he])
    have hm := h d (by simp)
    have h2 := sh_short (fit_of_may hm) (f := d.body.length) (may_len hm) (lastAt d.body)
    have h3 := itoa_six (v := d.params) (by have := may_ne hm; omega) (by have := may_ne hm; omega)
    have e : showS (d :: ds) = (dfS d ++ [10]) ++ showS ds := rfl
    rw [e]
    simp only [dfS, List.length_append, List.length_cons, List.length_nil]
    omega
end Go.Proofs.YtgjhpmkahicnkaaDoor
