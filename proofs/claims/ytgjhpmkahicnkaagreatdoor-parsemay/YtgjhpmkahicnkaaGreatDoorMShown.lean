/- The contract of the document's shown. · The contract of the document's shown. · The contract of the document's Show. -/
import Derived.Test.YtgjhpmkahicnkaaGreatDoorMShow
import Derived.Test.YtgjhpmkahicnkaaGreatDoorMRef
import Derived.Test.YtgjhpmkahicnkaaGreatDoorMLex
import Derived.Test.YtgjhpmkahicnkaaGreatDoorMProg
import Derived.Laws.IdiomStrings
import Derived.Deep.AppendLies
import Derived.Deep.RegionLaw
import Derived.Test.YtgjhpmkahicnkaaGreatDoorMTerm

namespace Go.Proofs.YtgjhpmkahicnkaaGreatDoor
open Go.RowKit
set_option linter.unusedVariables false

/-- A part in a box of its own. -/
def Bp (W : World) (z : Nat) (x : Ex) (gk : Option Addr) (ck : Nat) : Prop := W.heap[z]? = some (.cells #[.int .i64 x.kind, .int .i64 x.num, .int .i64 x.bind, .slice gk x.kids.length ck] 51 (0, 0))
theorem Bp.lt {W : World} {z : Nat} {x : Ex} {gk : Option Addr} {ck : Nat} (h : Bp W z x gk ck) : z < W.heap.size := (Array.getElem?_eq_some_iff.1 h).1
theorem Bp.on {W W' : World} {z : Nat} {x : Ex} {gk : Option Addr} {ck : Nat} (h : Bp W z x gk ck) (hb : Below W.heap.size W W') : Bp W' z x gk ck := (hb.block z h.lt).trans h
theorem Bp.c0 {W : World} {z : Nat} {x : Ex} {gk : Option Addr} {ck : Nat} (h : Bp W z x gk ck) : W.cell? ⟨z, 0, none⟩ = some (.int .i64 x.kind) := by simp [World.cell?, show W.heap[z]? = _ from h]
theorem Bp.c1 {W : World} {z : Nat} {x : Ex} {gk : Option Addr} {ck : Nat} (h : Bp W z x gk ck) : W.cell? ⟨z, 1, none⟩ = some (.int .i64 x.num) := by simp [World.cell?, show W.heap[z]? = _ from h]
theorem Bp.c2 {W : World} {z : Nat} {x : Ex} {gk : Option Addr} {ck : Nat} (h : Bp W z x gk ck) : W.cell? ⟨z, 2, none⟩ = some (.int .i64 x.bind) := by simp [World.cell?, show W.heap[z]? = _ from h]
theorem Bp.c3 {W : World} {z : Nat} {x : Ex} {gk : Option Addr} {ck : Nat} (h : Bp W z x gk ck) : W.cell? ⟨z, 3, none⟩ = some (.slice gk x.kids.length ck) := by simp [World.cell?, show W.heap[z]? = _ from h]
theorem Bp.oth {W W' : World} {z n : Nat} {x : Ex} {gk : Option Addr} {ck : Nat} (h : Bp W z x gk ck) (ho : Lx.Oth n W W') : Bp W' z x gk ck := ho.block z _ h (fun _ cs fz e => by cases e)
theorem ba_app (a b : Wd) : Lx.ba a ++ Lx.ba b = Lx.ba (a ++ b) := by
  simp [Lx.ba, ByteArray.ext_iff]
theorem hid {p : Prop} (h : p) : Hid p := h
def ShSaid (f : Nat) : Prop := ∀ (i : Nat) (g : Option Addr) (c : Nat) (B : List Ex) (w : World), Fit B → Exs w g B → i < B.length → i < f → f ≤ 24 →
  Calls Tryz.prog 16 #[.slice g B.length c, .int .i64 (i : Int)] w fun e w' => e = .returned (.string (Lx.ba (sh f B (i : Int)))) ∧ Below w.heap.size w w'

end Go.Proofs.YtgjhpmkahicnkaaGreatDoor

namespace Go.Proofs.YtgjhpmkahicnkaaGreatDoor
open Go.RowKit
set_option linter.unusedVariables false

/-- The texts of a row that the call owns, joined. -/
theorem join_own (B : Nat) (v : Value) (ks : List Wd) (w : World) (h : w.ownsRow B 9 1 v ks.length (ks.map Lx.S)) (hn : ks.length ≤ 4) (hl : ∀ s ∈ ks, s.length ≤ 140737488355328) :
    Calls Tryz.prog 30 #[v] w fun e w' => e = .returned (.string (Lx.ba (Tm.jn ks))) ∧ w = w' := by
  obtain ⟨g, c, rfl, ht, _⟩ := Lx.own_txts h
  have hlst : Tm.lst (ks.map Lx.ba) = ks := by
    unfold Tm.lst
    rw [List.map_map]
    conv => rhs; rw [← List.map_id ks]
    exact List.map_congr_left fun s _ => rfl
  have h1 := Tm.rjoin_any g (ks.map Lx.ba) c w ht (by rw [List.length_map]; exact hn) (fun s hs => by
    obtain ⟨t, ht, rfl⟩ := List.mem_map.1 hs
    rw [Lx.ba_size]; exact hl t ht)
  rw [hlst] at h1
  exact h1
theorem cell_keep {wc w' : World} {p : Addr} {x : Value} (h : wc.cell? p = some x) (hb : Below wc.heap.size wc w') : w'.cell? p = some x := by
  rw [hb.cell (by
    rcases Nat.lt_or_ge p.block wc.heap.size with h' | h'
    · exact h'
    · unfold World.cell? at h; rw [Array.getElem?_eq_none h'] at h; cases h)]
  exact h
theorem keep4_drew {w0 wc : World} {p0 p1 p2 p3 : Addr} {x0 x1 x2 x3 : Value} (h : Below w0.heap.size w0 wc ∧ wc.cell? p0 = some x0 ∧ wc.cell? p1 = some x1 ∧ wc.cell? p2 = some x2 ∧ wc.cell? p3 = some x3) :
    Below w0.heap.size w0 wc.drew ∧ wc.drew.cell? p0 = some x0 ∧ wc.drew.cell? p1 = some x1 ∧ wc.drew.cell? p2 = some x2 ∧ wc.drew.cell? p3 = some x3 := ⟨h.1.drew, h.2.1, h.2.2.1, h.2.2.2.1, h.2.2.2.2⟩
theorem keep4_next {w0 wc w' : World} {p0 p1 p2 p3 : Addr} {x0 x1 x2 x3 : Value} (h : Below w0.heap.size w0 wc ∧ wc.cell? p0 = some x0 ∧ wc.cell? p1 = some x1 ∧ wc.cell? p2 = some x2 ∧ wc.cell? p3 = some x3) (hb : Below wc.heap.size wc w') :
    Below w0.heap.size w0 w' ∧ w'.cell? p0 = some x0 ∧ w'.cell? p1 = some x1 ∧ w'.cell? p2 = some x2 ∧ w'.cell? p3 = some x3 := ⟨h.1.trans (hb.mono h.1.size), cell_keep h.2.1 hb, cell_keep h.2.2.1 hb, cell_keep h.2.2.2.1 hb, cell_keep h.2.2.2.2 hb⟩
set_option maxHeartbeats 20000000 in
set_option maxRecDepth 100000 in
theorem shown_of (f : Nat) (hS : ShSaid f) : ShSaid (f + 1) := by
  intro i g c B w hF hE hi hif hf
  obtain ⟨bk, o, rfl, hbk, gk, ck, x0, x1, x2, x3, xn⟩ := hE.at hi
  obtain ⟨x, hx⟩ : ∃ x, B[i] = x := ⟨_, rfl⟩
  rw [hx] at x0 x1 x2 x3 xn
  have hBi : B[i]? = some x := by rw [List.getElem?_eq_getElem hi, hx]
  have HT : Hid (sh (f + 1) B (i : Int) = fm x (x.kids.map (sh f B))) := by
    show _ = _
    rw [sh, Int.toNat_natCast, hBi]
  obtain ⟨t, ht, hok⟩ := hF.ok x (List.mem_of_getElem? hBi)
  have HK : Hid (-32768 ≤ x.num ∧ x.num ≤ 32767 ∧ 0 ≤ x.bind ∧ x.bind ≤ 3 ∧ x.kids.length ≤ 3 ∧ 0 ≤ x.kind ∧ x.kind ≤ 7 ∧ (x.kind = 5 → x.kids.length = 3) ∧ (x.kind = 4 → 0 ≤ x.num ∧ x.num ≤ 4)) := ok_nums ht hok
  have HOK : Hid (x.ok t = true ∧ t ≤ 8) := ⟨hok, ht⟩
  have HC : Hid (∀ k ∈ x.kids, 0 ≤ k ∧ k < (i : Int)) := hF.kid i x hBi
  have HL : Hid (∀ k, (sh f B k).length ≤ 11297181459240) := fun k => sh_short hF (by omega) k
  have HF : Hid (Fit B) := hF
  have hb0 : Below w.heap.size w (w.alloc (.cells #[.int .i64 x.kind, .int .i64 x.num, .int .i64 x.bind, .slice gk x.kids.length ck] 51)) := (Below.refl _ w).alloc (Nat.le_refl _) _
  have HB0 := hid hb0
  have HX : Hid (Bp (w.alloc (.cells #[.int .i64 x.kind, .int .i64 x.num, .int .i64 x.bind, .slice gk x.kids.length ck] 51)) w.heap.size x gk ck) := World.alloc_heap_new w _
  have HN : Hid (Nums w gk x.kids) := xn
  have HE : Hid (Exs w (some ⟨bk, o, none⟩) B) := hE
  have HS : Hid (ShSaid f) := hS
  have HI : Hid (i < B.length ∧ i < f + 1 ∧ f + 1 ≤ 24) := ⟨hi, hif, hf⟩
  have hi' : (i : Int) < (B.length : Int) := by omega
  have hi24 : B.length ≤ 24 := hF.few
  rw [HT.out]
  obtain ⟨ts, hts⟩ : ∃ ts, x.kids.map (sh f B) = ts := ⟨_, rfl⟩
  rw [hts]
  have HTS := hid hts
  clear hE hF hS hx hBi ht hok hb0 xn hif hf hts
  go_enter Tryz.func16, Tryz.ntmps16
  go_wp2_with fail
  go_loopw [6, 7] (fun s6 s7 wr => ∃ j : Nat, j ≤ x.kids.length ∧ s7 = .int .i64 (j : Int) ∧ Hid (wr.ownsRow (w.heap.size + 1) 9 1 s6 ((x.kids.take j).map (sh f B)).length (((x.kids.take j).map (sh f B)).map Lx.S)) ∧ Hid (Bp wr w.heap.size x gk ck) ∧ Hid (Below w.heap.size w wr))
    (fun _ s7 _ => x.kids.length - (intOf s7).toNat)
  case atStart => exact ⟨0, Nat.zero_le _, rfl, ⟨rfl, Or.inl ⟨rfl, rfl⟩⟩, HX, HB0⟩
  case round =>
    obtain ⟨j, hj, rfl, HR, HX, HB⟩ := hrel
    have hk3 : x.kids.length ≤ 3 := HK.out.2.2.2.2.1
    have c3 := HX.out.c3
    by_cases hlt : j < x.kids.length
    · have hlt' : (j : Int) < (x.kids.length : Int) := by omega
      obtain ⟨bq, oq, rfl, hbq, hq⟩ := HN.out.at hlt
      have hkk := HC.out x.kids[j] (List.getElem_mem hlt)
      obtain ⟨kn, hkn⟩ : ∃ kn : Nat, x.kids[j] = (kn : Int) := ⟨x.kids[j].toNat, by omega⟩
      have hq2 : wr.cell? ⟨bq, oq + j, none⟩ = some (.int .i64 (kn : Int)) := by
        rw [← hkn]; exact (HB.out.cell (p := ⟨bq, oq + j, none⟩) hbq).trans hq
      have HTJ : Hid ((x.kids.take (j + 1)).map (sh f B) = (x.kids.take j).map (sh f B) ++ [sh f B (kn : Int)]) := by
        show _ = _
        rw [List.take_succ_eq_append_getElem hlt, List.map_append, List.map_cons, List.map_nil, hkn]
      have HKN : Hid (kn < i) := by show kn < i; omega
      obtain ⟨u, hu⟩ : ∃ u, (x.kids.take j).map (sh f B) = u := ⟨_, rfl⟩
      have hul : u.length ≤ 3 := by rw [← hu, List.length_map, List.length_take]; omega
      rw [hu] at HR HTJ
      clear hkk hkn hq hbq hu
      go_wp2_with (go_at_call 16; refine (HS.out kn (some ⟨bk, o, none⟩) c B wr HF.out (HE.out.on HB.out) (by have := HKN.out; have := HI.out; omega) (by have := HKN.out; have := HI.out; omega) (by have := HI.out; omega)).mono ?_)
      rintro e w4 ⟨rfl, hb4⟩
      have hzz := HX.out.lt
      have HR4 := hid (Lx.own_below HR.out hb4)
      have HX4 : Hid (Bp w4 w.heap.size x (some ⟨bq, oq, none⟩) ck) := HX.out.on hb4
      have HB4 : Hid (Below w.heap.size w w4) := Lx.below_next HB.out hb4
      have hz4 : w.heap.size + 1 ≤ w4.heap.size := by have := hb4.size; omega
      obtain ⟨T, hT⟩ : ∃ T, sh f B (kn : Int) = T := ⟨_, rfl⟩
      rw [hT] at HTJ ⊢
      clear hb4 HR HX HB c3 hq2 hzz hT
      go_wp2_with (at_builtin; refine Lx.app_one rfl _ _ rfl (w.heap.size + 1) u6 u T rfl rfl HR4.out hz4 (by omega) ?_)
      intro v5 w5 h5 hg5
      have H5 : Hid (w5.ownsRow (w.heap.size + 1) 9 1 v5 ((x.kids.take (j + 1)).map (sh f B)).length (((x.kids.take (j + 1)).map (sh f B)).map Lx.S)) := by
        show w5.ownsRow _ _ _ _ _ _
        rw [HTJ.out]; simpa using h5
      have ho5 : Lx.Oth (w.heap.size + 1) w4 w5 := (Lx.Oth.of_below ((Below.refl _ w4).alloc (Nat.le_refl _) _)).trans (Lx.Oth.of_grown (HR4.out.alloc _) hg5)
      have HX5 : Hid (Bp w5 w.heap.size x (some ⟨bq, oq, none⟩) ck) := HX4.out.oth ho5
      have HB5 : Hid (Below w.heap.size w w5) := HB4.out.trans ((ho5.below hz4).mono (Nat.le_succ _))
      clear h5 hg5 ho5 HR4 HX4 HB4 HTJ
      go_wp2_with fail
      go_roundw
      case rel => exact ⟨j + 1, by omega, by go_num, H5, HX5, HB5⟩
      case measure => simp [intOf]; omega
    · have ej : j = x.kids.length := by omega
      subst ej
      rw [List.take_length] at HR
      have c1 := HX.out.c1
      go_wp2_with (go_at_call 15; refine (Tm.decimal_any x.num _ HK.out.1 HK.out.2.1).mono ?_)
      rintro e w4 ⟨rfl, hb4⟩
      have HX4 : Hid (Bp w4 w.heap.size x gk ck) := HX.out.on hb4
      have HB4 : Hid (Below w.heap.size w w4) := Lx.below_next HB.out hb4
      have HR4 := hid (Lx.own_below HR.out hb4)
      have hzz := HX4.out.lt
      have hT6 : (Lib.itoa x.num).length ≤ 21 := itoa_six HK.out.1 HK.out.2.1
      have hlk : ∀ s ∈ x.kids.map (sh f B), s.length ≤ 11297181459240 := fun s hs => by
        obtain ⟨k, _, rfl⟩ := List.mem_map.1 hs
        exact HL.out k
      have HLK := hid hlk
      have hlen : ts.length = x.kids.length := by rw [← HTS.out, List.length_map]
      rw [HTS.out] at HR4 HLK
      have HLEN := hid hlen
      have hts3 : ts.length ≤ 3 := by have := HK.out.2.2.2.2.1; omega
      clear hlen
      obtain ⟨T, hT⟩ : ∃ T, Lib.itoa x.num = T := ⟨_, rfl⟩
      have HTT := hid hT
      rw [hT] at hT6 ⊢
      obtain ⟨D, hD⟩ : ∃ D, Lx.ba T = D := ⟨_, rfl⟩
      have HD := hid hD
      have hDs : D.size ≤ 21 := by rw [← hD, Lx.ba_size]; exact hT6
      have hDD : (⟨T.toArray⟩ : ByteArray) = D := hD
      rw [hDD]
      obtain ⟨gs, cs, rfl, _⟩ := Lx.own_len HR4.out
      clear hb4 HR HX HB c1 hlk hT hD hDD
      have z0 := HX4.out.c0
      have z1 := HX4.out.c1
      have z2 := HX4.out.c2
      have hne : ∀ k j : Int, x.kind = k → k ≠ j → (x.kind == j) = false := fun k j h1 h2 => by rw [beq_eq_false_iff_ne]; omega
      have heq : ∀ k : Int, x.kind = k → (x.kind == k) = true := fun k h => by rw [h]; exact beq_self_eq_true k
      have hne2 : ∀ k j : Int, x.kind = k → k ≠ j → ¬ x.kind = j := fun k j h1 h2 => by omega
      have hJL : ∀ us : List Wd, us.length ≤ 3 → (∀ s ∈ us, s.length ≤ 11297181459240) → (Tm.jn us).length ≤ 40000000000000 := fun us h1 h2 => by
        have h3 := Tm.jn_le us _ h2
        have h4 : us.length * (11297181459240 + 1) ≤ 3 * (11297181459240 + 1) := Nat.mul_le_mul_right _ h1
        omega
      rcases ok_kinds HOK.out.1 with ⟨hk, _, _, _, hn⟩ | ⟨hk, _, _, _, hn⟩ | ⟨hk, _, _, _, hn⟩ | ⟨hk, _, _, _, hn⟩ | ⟨hk, _, m1, m2, hn⟩ | ⟨hk, _, _, _, _, hn⟩ | ⟨hk, _, _, hn⟩ | ⟨hk, _, _, hn⟩
      · have HE : Hid (D = Lx.ba (fm x ts)) := by
          show _ = _
          rw [← HD.out]
          have : fm x ts = T := by simp [fm, hk, HTT.out]
          rw [this]
        have f0 := heq 0 hk
        clear hne heq hne2 hJL hk hn
        go_wp2_with fail
        go_ret
        exact ⟨congrArg (fun s => Ending.returned (Value.string s)) HE.out, HB4.out⟩
      · have HE : Hid ((⟨#[36]⟩ : ByteArray) ++ D = Lx.ba (fm x ts)) := by
          show _ = _
          rw [← HD.out]
          have : fm x ts = [36] ++ T := by simp [fm, hk, HTT.out]
          rw [this]; rw [← ba_app]; rfl
        have f0 := hne 1 0 hk (by decide)
        have g0 := hne2 1 0 hk (by decide)
        have f1 := heq 1 hk
        clear hne heq hne2 hJL hk hn
        go_wp2_with fail
        go_ret
        exact ⟨congrArg (fun s => Ending.returned (Value.string s)) HE.out, HB4.out⟩
      · have f0 := hne 2 0 hk (by decide)
        have g0 := hne2 2 0 hk (by decide)
        have f1 := hne 2 1 hk (by decide)
        have g1 := hne2 2 1 hk (by decide)
        have f7 := hne 2 7 hk (by decide)
        have g7 := hne2 2 7 hk (by decide)
        have f6 := hne 2 6 hk (by decide)
        have g6 := hne2 2 6 hk (by decide)
        have f4 := hne 2 4 hk (by decide)
        have g4 := hne2 2 4 hk (by decide)
        have f5 := hne 2 5 hk (by decide)
        have g5 := hne2 2 5 hk (by decide)
        have f2 := heq 2 hk
        have f3 := hne 2 3 hk (by decide)
        have g3 := hne2 2 3 hk (by decide)
        clear hne heq hne2
        obtain ⟨X, hX⟩ : ∃ X, Lx.ba (102 :: T) = X := ⟨_, rfl⟩
        have hX1 : (⟨#[102]⟩ : ByteArray) ++ D = X := by rw [← hX, ← HD.out]; exact ba_app [102] T
        have hH : (w4.alloc (.cells #[.string X] 9)).ownsRow (w.heap.size + 1) 9 1 (.slice (some ⟨w4.heap.size, 0, none⟩) 1 1) ([102 :: T] : List Wd).length (([102 :: T] : List Wd).map Lx.S) := by
          rw [← hX]
          exact World.ownsRow_lit w4 #[.string (Lx.ba (102 :: T))] 1 hzz (by unfold maxLen; omega) rfl
        have HH := hid hH
        have hz4 : w.heap.size + 1 ≤ (w4.alloc (.cells #[.string X] 9)).heap.size := by rw [World.size_alloc]; omega
        have hHl : ([102 :: T] : List Wd).length + ts.length ≤ 1073741824 := by rw [List.length_singleton]; omega
        have HX := hid hX
        have hJs0 : ∀ s ∈ (102 :: T) :: ts, s.length ≤ 11297181459240 := fun s hs => by
          rcases List.mem_cons.1 hs with rfl | hs
          · rw [List.length_cons]; omega
          · exact HLK.out s hs
        have HJS0 := hid hJs0
        obtain ⟨J, hJ⟩ : ∃ J, Lx.ba (Tm.jn ((102 :: T) :: ts)) = J := ⟨_, rfl⟩
        have hJs : J.size ≤ 60000000000000 := by
          rw [← hJ, Lx.ba_size]
          have h3 := Tm.jn_le ((102 :: T) :: ts) _ hJs0
          have h4 : ((102 :: T) :: ts).length * (11297181459240 + 1) ≤ 4 * (11297181459240 + 1) := Nat.mul_le_mul_right _ (by rw [List.length_cons]; omega)
          omega
        have HJ := hid hJ
        have HE : Hid ((⟨#[40]⟩ : ByteArray) ++ J ++ ⟨#[41]⟩ = Lx.ba (fm x ts)) := by
          show _ = _
          rw [← hJ]
          show Lx.ba [40] ++ Lx.ba (Tm.jn ((102 :: T) :: ts)) ++ Lx.ba [41] = _
          rw [ba_app, ba_app]
          have : fm x ts = [40] ++ Tm.jn ((102 :: T) :: ts) ++ [41] := by simp [fm, inn, hk, HTT.out]
          rw [this]
        clear hJ hJs0 hX hH hJL hk hn
        go_wp2_with (at_builtin; refine Lx.app_two rfl _ _ rfl (w.heap.size + 1) (w.heap.size + 1) (.slice (some ⟨w4.heap.size, 0, none⟩) 1 1) (.slice gs ts.length cs) [102 :: T] ts rfl rfl HH.out (HR4.out.alloc _) hz4 hHl ?_)
        intro v7 w7 h7 hg7
        have H7 : Hid (w7.ownsRow (w.heap.size + 1) 9 1 v7 ((102 :: T) :: ts).length (((102 :: T) :: ts).map Lx.S)) := by
          show w7.ownsRow _ _ _ _ _ _
          simpa [Nat.add_comm] using h7
        have HB7 : Hid (Below w.heap.size w w7) := (HB4.out.alloc HB4.out.size _).grown hg7 (by rw [World.size_alloc]; omega) (fun a e => by have : w4.heap.size = a := Option.some.inj e; omega)
        have hl4 : ((102 :: T) :: ts).length ≤ 4 := by rw [List.length_cons]; omega
        clear h7 hg7 HH HR4 HX4 HB4 z0 z1 z2
        go_wp2_with (go_at_call 30; refine (join_own (w.heap.size + 1) v7 ((102 :: T) :: ts) w7 H7.out hl4 (fun s hs => Nat.le_trans (HJS0.out s hs) (by decide))).mono ?_)
        rintro e w8 ⟨rfl, rfl⟩
        rw [HJ.out]
        go_wp2_with fail
        go_ret
        exact ⟨congrArg (fun s => Ending.returned (Value.string s)) HE.out, HB7.out⟩
      · have f0 := hne 3 0 hk (by decide)
        have g0 := hne2 3 0 hk (by decide)
        have f1 := hne 3 1 hk (by decide)
        have g1 := hne2 3 1 hk (by decide)
        have f7 := hne 3 7 hk (by decide)
        have g7 := hne2 3 7 hk (by decide)
        have f6 := hne 3 6 hk (by decide)
        have g6 := hne2 3 6 hk (by decide)
        have f4 := hne 3 4 hk (by decide)
        have g4 := hne2 3 4 hk (by decide)
        have f5 := hne 3 5 hk (by decide)
        have g5 := hne2 3 5 hk (by decide)
        have f2 := hne 3 2 hk (by decide)
        have g2 := hne2 3 2 hk (by decide)
        have f3 := heq 3 hk
        clear hne heq hne2
        by_cases hts0 : ts = []
        · have hl0 : ((ts.length : Int) == 0) = true := by rw [hts0]; rfl
          have HE : Hid ((⟨#[64]⟩ : ByteArray) ++ D = Lx.ba (fm x ts)) := by
            show _ = _
            rw [← HD.out]
            have : fm x ts = [64] ++ T := by simp [fm, hk, HTT.out, hts0]
            rw [this, ← ba_app]; rfl
          have HB5 : Hid (Below w.heap.size w (w4.alloc (.cells #[.string ((⟨#[64]⟩ : ByteArray) ++ D)] 9))) := HB4.out.alloc HB4.out.size _
          clear hJL hk hn hts0
          go_wp2_with fail
          go_ret
          exact ⟨congrArg (fun s => Ending.returned (Value.string s)) HE.out, HB5.out⟩
        · have hl0 : ((ts.length : Int) == 0) = false := by
            rw [beq_eq_false_iff_ne]; intro e
            exact hts0 (List.length_eq_zero_iff.1 (by omega))
          obtain ⟨X, hX⟩ : ∃ X, Lx.ba (64 :: T) = X := ⟨_, rfl⟩
          have hX1 : (⟨#[64]⟩ : ByteArray) ++ D = X := by rw [← hX, ← HD.out]; exact ba_app [64] T
          have hH : (w4.alloc (.cells #[.string X] 9)).ownsRow (w.heap.size + 1) 9 1 (.slice (some ⟨w4.heap.size, 0, none⟩) 1 1) ([64 :: T] : List Wd).length (([64 :: T] : List Wd).map Lx.S) := by
            rw [← hX]
            exact World.ownsRow_lit w4 #[.string (Lx.ba (64 :: T))] 1 hzz (by unfold maxLen; omega) rfl
          have HH := hid hH
          have hz4 : w.heap.size + 1 ≤ (w4.alloc (.cells #[.string X] 9)).heap.size := by rw [World.size_alloc]; omega
          have hHl : ([64 :: T] : List Wd).length + ts.length ≤ 1073741824 := by rw [List.length_singleton]; omega
          have HX := hid hX
          have hJs0 : ∀ s ∈ (64 :: T) :: ts, s.length ≤ 11297181459240 := fun s hs => by
            rcases List.mem_cons.1 hs with rfl | hs
            · rw [List.length_cons]; omega
            · exact HLK.out s hs
          have HJS0 := hid hJs0
          obtain ⟨J, hJ⟩ : ∃ J, Lx.ba (Tm.jn ((64 :: T) :: ts)) = J := ⟨_, rfl⟩
          have hJs : J.size ≤ 60000000000000 := by
            rw [← hJ, Lx.ba_size]
            have h3 := Tm.jn_le ((64 :: T) :: ts) _ hJs0
            have h4 : ((64 :: T) :: ts).length * (11297181459240 + 1) ≤ 4 * (11297181459240 + 1) := Nat.mul_le_mul_right _ (by rw [List.length_cons]; omega)
            omega
          have HJ := hid hJ
          have HE : Hid ((⟨#[40]⟩ : ByteArray) ++ J ++ ⟨#[41]⟩ = Lx.ba (fm x ts)) := by
            show _ = _
            rw [← hJ]
            show Lx.ba [40] ++ Lx.ba (Tm.jn ((64 :: T) :: ts)) ++ Lx.ba [41] = _
            rw [ba_app, ba_app]
            have : fm x ts = [40] ++ Tm.jn ((64 :: T) :: ts) ++ [41] := by simp [fm, inn, hk, HTT.out, hts0]
            rw [this]
          clear hJ hJs0 hX hH hJL hk hn hts0
          go_wp2_with (at_builtin; refine Lx.app_two rfl _ _ rfl (w.heap.size + 1) (w.heap.size + 1) (.slice (some ⟨w4.heap.size, 0, none⟩) 1 1) (.slice gs ts.length cs) [64 :: T] ts rfl rfl HH.out (HR4.out.alloc _) hz4 hHl ?_)
          intro v7 w7 h7 hg7
          have H7 : Hid (w7.ownsRow (w.heap.size + 1) 9 1 v7 ((64 :: T) :: ts).length (((64 :: T) :: ts).map Lx.S)) := by
            show w7.ownsRow _ _ _ _ _ _
            simpa [Nat.add_comm] using h7
          have HB7 : Hid (Below w.heap.size w w7) := (HB4.out.alloc HB4.out.size _).grown hg7 (by rw [World.size_alloc]; omega) (fun a e => by have : w4.heap.size = a := Option.some.inj e; omega)
          have hl4 : ((64 :: T) :: ts).length ≤ 4 := by rw [List.length_cons]; omega
          clear h7 hg7 HH HR4 HX4 HB4 z0 z1 z2
          go_wp2_with (go_at_call 30; refine (join_own (w.heap.size + 1) v7 ((64 :: T) :: ts) w7 H7.out hl4 (fun s hs => Nat.le_trans (HJS0.out s hs) (by decide))).mono ?_)
          rintro e w8 ⟨rfl, rfl⟩
          rw [HJ.out]
          go_wp2_with fail
          go_ret
          exact ⟨congrArg (fun s => Ending.returned (Value.string s)) HE.out, HB7.out⟩
      · have f0 := hne 4 0 hk (by decide)
        have g0 := hne2 4 0 hk (by decide)
        have f1 := hne 4 1 hk (by decide)
        have g1 := hne2 4 1 hk (by decide)
        have f7 := hne 4 7 hk (by decide)
        have g7 := hne2 4 7 hk (by decide)
        have f6 := hne 4 6 hk (by decide)
        have g6 := hne2 4 6 hk (by decide)
        have f4 := heq 4 hk
        clear hne heq hne2
        obtain ⟨J, hJ⟩ : ∃ J, Lx.ba (Tm.jn ts) = J := ⟨_, rfl⟩
        have hJs : J.size ≤ 60000000000000 := by rw [← hJ, Lx.ba_size]; have := hJL ts (by omega) HLK.out; omega
        have HJ := hid hJ
        have HFM : Hid (Lx.ba (fm x ts) = Lx.ba [40] ++ Lx.ba (opS x.num) ++ Lx.ba [32] ++ J ++ Lx.ba [41]) := by
          show _ = _
          rw [← hJ, ba_app, ba_app, ba_app, ba_app]
          have : fm x ts = [40] ++ opS x.num ++ [32] ++ Tm.jn ts ++ [41] := by simp [fm, inn, hk]
          rw [this]
        have hl4 : ts.length ≤ 4 := by omega
        have HJC : Hid (∀ W : World, W.ownsRow (w.heap.size + 1) 9 1 (.slice gs ts.length cs) ts.length (ts.map Lx.S) → Calls Tryz.prog 30 #[.slice gs ts.length cs] W fun e w' => e = .returned (.string J) ∧ W = w') := fun W h => by
          have := join_own (w.heap.size + 1) (.slice gs ts.length cs) ts W h hl4 (fun s hs => Nat.le_trans (HLK.out s hs) (by decide))
          rwa [hJ] at this
        obtain ⟨nm, hnm⟩ : ∃ nm, x.num = nm := ⟨_, rfl⟩
        rw [hnm] at z1 m1 m2 HFM
        have hc : nm = 0 ∨ nm = 1 ∨ nm = 2 ∨ nm = 3 ∨ nm = 4 := by omega
        have hq1 : ¬ 9223372036854775807 < 3 + J.size := by omega
        have hq2 : ¬ 9223372036854775807 < 3 + J.size + 1 := by omega
        have HB5 : Hid (Below w.heap.size w (w4.alloc (.cells #[.string ⟨#[43]⟩, .string ⟨#[45]⟩, .string ⟨#[42]⟩, .string ⟨#[61]⟩, .string ⟨#[60]⟩] 9)).drew) := (HB4.out.alloc HB4.out.size _).drew
        clear hJ hJL hk hn m1 m2 hnm
        rcases hc with rfl | rfl | rfl | rfl | rfl
        · have HE : Hid ((⟨#[40]⟩ : ByteArray) ++ ⟨#[43]⟩ ++ ⟨#[32]⟩ ++ J ++ ⟨#[41]⟩ = Lx.ba (fm x ts)) := HFM.out.symm
          go_wp2_with fail
          go_region_law (go_simp; go_at_call 30; refine (HJC.out _ (by first | exact HR4.out | exact HR4.out.alloc _)).mono ?_; rintro e w8 ⟨rfl, rfl⟩)
          all_goals
            go_wp2_with fail
            go_ret
            refine ⟨(show _ = Ending.returned (Value.string ((⟨#[40]⟩ : ByteArray) ++ ⟨#[43]⟩ ++ ⟨#[32]⟩ ++ J ++ ⟨#[41]⟩)) by kernel_rfl).trans (congrArg (fun s => Ending.returned (Value.string s)) HE.out), HB5.out⟩
        · have HE : Hid ((⟨#[40]⟩ : ByteArray) ++ ⟨#[45]⟩ ++ ⟨#[32]⟩ ++ J ++ ⟨#[41]⟩ = Lx.ba (fm x ts)) := HFM.out.symm
          go_wp2_with fail
          go_region_law (go_simp; go_at_call 30; refine (HJC.out _ (by first | exact HR4.out | exact HR4.out.alloc _)).mono ?_; rintro e w8 ⟨rfl, rfl⟩)
          all_goals
            go_wp2_with fail
            go_ret
            refine ⟨(show _ = Ending.returned (Value.string ((⟨#[40]⟩ : ByteArray) ++ ⟨#[45]⟩ ++ ⟨#[32]⟩ ++ J ++ ⟨#[41]⟩)) by kernel_rfl).trans (congrArg (fun s => Ending.returned (Value.string s)) HE.out), HB5.out⟩
        · have HE : Hid ((⟨#[40]⟩ : ByteArray) ++ ⟨#[42]⟩ ++ ⟨#[32]⟩ ++ J ++ ⟨#[41]⟩ = Lx.ba (fm x ts)) := HFM.out.symm
          go_wp2_with fail
          go_region_law (go_simp; go_at_call 30; refine (HJC.out _ (by first | exact HR4.out | exact HR4.out.alloc _)).mono ?_; rintro e w8 ⟨rfl, rfl⟩)
          all_goals
            go_wp2_with fail
            go_ret
            refine ⟨(show _ = Ending.returned (Value.string ((⟨#[40]⟩ : ByteArray) ++ ⟨#[42]⟩ ++ ⟨#[32]⟩ ++ J ++ ⟨#[41]⟩)) by kernel_rfl).trans (congrArg (fun s => Ending.returned (Value.string s)) HE.out), HB5.out⟩
        · have HE : Hid ((⟨#[40]⟩ : ByteArray) ++ ⟨#[61]⟩ ++ ⟨#[32]⟩ ++ J ++ ⟨#[41]⟩ = Lx.ba (fm x ts)) := HFM.out.symm
          go_wp2_with fail
          go_region_law (go_simp; go_at_call 30; refine (HJC.out _ (by first | exact HR4.out | exact HR4.out.alloc _)).mono ?_; rintro e w8 ⟨rfl, rfl⟩)
          all_goals
            go_wp2_with fail
            go_ret
            refine ⟨(show _ = Ending.returned (Value.string ((⟨#[40]⟩ : ByteArray) ++ ⟨#[61]⟩ ++ ⟨#[32]⟩ ++ J ++ ⟨#[41]⟩)) by kernel_rfl).trans (congrArg (fun s => Ending.returned (Value.string s)) HE.out), HB5.out⟩
        · have HE : Hid ((⟨#[40]⟩ : ByteArray) ++ ⟨#[60]⟩ ++ ⟨#[32]⟩ ++ J ++ ⟨#[41]⟩ = Lx.ba (fm x ts)) := HFM.out.symm
          go_wp2_with fail
          go_region_law (go_simp; go_at_call 30; refine (HJC.out _ (by first | exact HR4.out | exact HR4.out.alloc _)).mono ?_; rintro e w8 ⟨rfl, rfl⟩)
          all_goals
            go_wp2_with fail
            go_ret
            refine ⟨(show _ = Ending.returned (Value.string ((⟨#[40]⟩ : ByteArray) ++ ⟨#[60]⟩ ++ ⟨#[32]⟩ ++ J ++ ⟨#[41]⟩)) by kernel_rfl).trans (congrArg (fun s => Ending.returned (Value.string s)) HE.out), HB5.out⟩
      · have f0 := hne 5 0 hk (by decide)
        have g0 := hne2 5 0 hk (by decide)
        have f1 := hne 5 1 hk (by decide)
        have g1 := hne2 5 1 hk (by decide)
        have f7 := hne 5 7 hk (by decide)
        have g7 := hne2 5 7 hk (by decide)
        have f6 := hne 5 6 hk (by decide)
        have g6 := hne2 5 6 hk (by decide)
        have f4 := hne 5 4 hk (by decide)
        have g4 := hne2 5 4 hk (by decide)
        have f5 := heq 5 hk
        clear hne heq hne2
        have h3 : ts.length = 3 := by have := HLEN.out; omega
        obtain ⟨t1, t2, t3, rfl⟩ : ∃ t1 t2 t3, ts = [t1, t2, t3] := by
          match ts, h3 with
          | [t1, t2, t3], _ => exact ⟨t1, t2, t3, rfl⟩
        obtain ⟨qs, hgs⟩ : ∃ qs, gs = some ⟨qs, 0, none⟩ := by
          rcases HR4.out.2 with ⟨hv, _⟩ | ⟨q, cap, cur, hv, _⟩
          · cases hv
          · cases hv; exact ⟨q, rfl⟩
        subst hgs
        have k1 : w4.cell? ⟨qs, 0, none⟩ = some (.string (Lx.ba t1)) := HR4.out.cells (g := qs) rfl 0 _ rfl
        have k2 : w4.cell? ⟨qs, 1, none⟩ = some (.string (Lx.ba t2)) := HR4.out.cells (g := qs) rfl 1 _ rfl
        have k3 : w4.cell? ⟨qs, 2, none⟩ = some (.string (Lx.ba t3)) := HR4.out.cells (g := qs) rfl 2 _ rfl
        have l1 := HLK.out t1 (by simp)
        have l2 := HLK.out t2 (by simp)
        have l3 := HLK.out t3 (by simp)
        obtain ⟨b1, hb1⟩ : ∃ b1, Lx.ba t1 = b1 := ⟨_, rfl⟩
        obtain ⟨b2, hb2⟩ : ∃ b2, Lx.ba t2 = b2 := ⟨_, rfl⟩
        obtain ⟨b3, hb3⟩ : ∃ b3, Lx.ba t3 = b3 := ⟨_, rfl⟩
        obtain ⟨E, hE⟩ : ∃ E, Lx.ba (Lib.itoa x.bind) = E := ⟨_, rfl⟩
        have s1 : b1.size ≤ 11297181459240 := by rw [← hb1, Lx.ba_size]; exact l1
        have s2 : b2.size ≤ 11297181459240 := by rw [← hb2, Lx.ba_size]; exact l2
        have s3 : b3.size ≤ 11297181459240 := by rw [← hb3, Lx.ba_size]; exact l3
        have s4 : E.size ≤ 21 := by rw [← hE, Lx.ba_size]; exact itoa_six (by omega) (by omega)
        have HE : Hid ((⟨#[40, 99, 97, 115, 101, 32]⟩ : ByteArray) ++ b1 ++ ⟨#[32, 64]⟩ ++ D ++ ⟨#[32]⟩ ++ E ++ ⟨#[32]⟩ ++ b2 ++ ⟨#[32]⟩ ++ b3 ++ ⟨#[41]⟩ = Lx.ba (fm x [t1, t2, t3])) := by
          show _ = _
          rw [← hb1, ← hb2, ← hb3, ← hE, ← HD.out]
          show Lx.ba [40, 99, 97, 115, 101, 32] ++ Lx.ba t1 ++ Lx.ba [32, 64] ++ Lx.ba T ++ Lx.ba [32] ++ Lx.ba (Lib.itoa x.bind) ++ Lx.ba [32] ++ Lx.ba t2 ++ Lx.ba [32] ++ Lx.ba t3 ++ Lx.ba [41] = _
          simp only [ba_app]
          have : fm x [t1, t2, t3] = [40, 99, 97, 115, 101, 32] ++ t1 ++ [32, 64] ++ T ++ [32] ++ Lib.itoa x.bind ++ [32] ++ t2 ++ [32] ++ t3 ++ [41] := by simp [fm, inn, hk, HTT.out]
          rw [this]
        have HDC : Hid (∀ W : World, Calls Tryz.prog 15 #[.int .i64 x.bind] W fun e w' => e = .returned (.string E) ∧ Below W.heap.size W w') := fun W => by
          refine (Tm.decimal_any x.bind W (by omega) (by omega)).mono ?_
          rintro e w' ⟨rfl, hb⟩
          exact ⟨by rw [← hE]; rfl, hb⟩
        rw [hb1] at k1
        rw [hb2] at k2
        rw [hb3] at k3
        obtain ⟨bd, hbd⟩ : ∃ bd, x.bind = bd := ⟨_, rfl⟩
        rw [hbd] at HDC z2
        have r0 : ¬ 9223372036854775807 < 6 + b1.size := by omega
        have r1 : ¬ 9223372036854775807 < 6 + b1.size + 2 := by omega
        have r2 : ¬ 9223372036854775807 < 6 + b1.size + 2 + D.size := by omega
        have r3 : ¬ 9223372036854775807 < 6 + b1.size + 2 + D.size + 1 := by omega
        have r4 : ¬ 9223372036854775807 < 6 + b1.size + 2 + D.size + 1 + E.size := by omega
        have r5 : ¬ 9223372036854775807 < 6 + b1.size + 2 + D.size + 1 + E.size + 1 := by omega
        have r6 : ¬ 9223372036854775807 < 6 + b1.size + 2 + D.size + 1 + E.size + 1 + b2.size := by omega
        have r7 : ¬ 9223372036854775807 < 6 + b1.size + 2 + D.size + 1 + E.size + 1 + b2.size + 1 := by omega
        have r8 : ¬ 9223372036854775807 < 6 + b1.size + 2 + D.size + 1 + E.size + 1 + b2.size + 1 + b3.size := by omega
        have r9 : ¬ 9223372036854775807 < 6 + b1.size + 2 + D.size + 1 + E.size + 1 + b2.size + 1 + b3.size + 1 := by omega
        clear hb1 hb2 hb3 hE hJL hk hn h3 l1 l2 l3 hbd s1 s2 s3 s4 hDs hT6
        go_wp2_with fail
        go_region_held3 (fun w' => Below w4.heap.size w4 w' ∧ w'.cell? ⟨qs, 0, none⟩ = some (.string b1) ∧ w'.cell? ⟨qs, 1, none⟩ = some (.string b2) ∧ w'.cell? ⟨qs, 2, none⟩ = some (.string b3) ∧ w'.cell? ⟨w.heap.size, 2, none⟩ = some (.int .i64 bd))
          (first | assumption | (exact keep4_drew (by first | assumption | exact ⟨Below.refl _ _, k1, k2, k3, z2⟩)) | (exact keep4_next (by assumption) (by assumption)))
          (first | (go_at_call 15; refine (HDC.out _).mono ?_; rintro e w8 ⟨rfl, hb8⟩))
        all_goals
          have HB8 : Hid (Below w.heap.size w w8) := HB4.out.trans (Below.mono (And.left (by assumption)) HB4.out.size)
          go_wp2_with fail
          go_ret
          exact ⟨congrArg (fun s => Ending.returned (Value.string s)) HE.out, HB8.out⟩
      · have f0 := hne 6 0 hk (by decide)
        have g0 := hne2 6 0 hk (by decide)
        have f1 := hne 6 1 hk (by decide)
        have g1 := hne2 6 1 hk (by decide)
        have f7 := hne 6 7 hk (by decide)
        have g7 := hne2 6 7 hk (by decide)
        have f6 := heq 6 hk
        clear hne heq hne2
        obtain ⟨J, hJ⟩ : ∃ J, Lx.ba (Tm.jn ts) = J := ⟨_, rfl⟩
        have hJs : J.size ≤ 60000000000000 := by rw [← hJ, Lx.ba_size]; have := hJL ts (by omega) HLK.out; omega
        have HJ := hid hJ
        have HE : Hid ((⟨#[40, 108, 101, 116, 32]⟩ : ByteArray) ++ J ++ ⟨#[41]⟩ = Lx.ba (fm x ts)) := by
          show _ = _
          rw [← hJ]
          show Lx.ba [40, 108, 101, 116, 32] ++ Lx.ba (Tm.jn ts) ++ Lx.ba [41] = _
          rw [ba_app, ba_app]
          have : fm x ts = [40, 108, 101, 116, 32] ++ Tm.jn ts ++ [41] := by simp [fm, inn, hk]
          rw [this]
        have hl4 : ts.length ≤ 4 := by omega
        clear hJ hJL hk hn
        go_wp2_with (go_at_call 30; refine (join_own (w.heap.size + 1) (.slice gs ts.length cs) ts w4 HR4.out hl4 (fun s hs => Nat.le_trans (HLK.out s hs) (by decide))).mono ?_)
        rintro e w8 ⟨rfl, rfl⟩
        rw [HJ.out]
        go_wp2_with fail
        go_ret
        exact ⟨congrArg (fun s => Ending.returned (Value.string s)) HE.out, HB4.out⟩
      · have f0 := hne 7 0 hk (by decide)
        have g0 := hne2 7 0 hk (by decide)
        have f1 := hne 7 1 hk (by decide)
        have g1 := hne2 7 1 hk (by decide)
        have f7 := heq 7 hk
        have HE : Hid ((⟨#[101, 114, 114, 111, 114]⟩ : ByteArray) = Lx.ba (fm x ts)) := by
          show _ = _
          have : fm x ts = [101, 114, 114, 111, 114] := by simp [fm, hk]
          rw [this]; rfl
        clear hne heq hne2 hJL hk hn
        go_wp2_with fail
        go_ret
        exact ⟨congrArg (fun s => Ending.returned (Value.string s)) HE.out, HB4.out⟩
theorem shown_all : ∀ f, ShSaid f
  | 0 => fun i g c B w _ _ _ h _ => absurd h (by omega)
  | f + 1 => shown_of f (shown_all f)
end Go.Proofs.YtgjhpmkahicnkaaGreatDoor

namespace Go.Proofs.YtgjhpmkahicnkaaGreatDoor
open Go.RowKit
set_option linter.unusedVariables false

theorem keep2_drew {w0 wc : World} {p0 p1 : Addr} {x0 x1 : Value} (h : Below w0.heap.size w0 wc ∧ wc.cell? p0 = some x0 ∧ wc.cell? p1 = some x1) :
    Below w0.heap.size w0 wc.drew ∧ wc.drew.cell? p0 = some x0 ∧ wc.drew.cell? p1 = some x1 := ⟨h.1.drew, h.2.1, h.2.2⟩
theorem keep2_next {w0 wc w' : World} {p0 p1 : Addr} {x0 x1 : Value} (h : Below w0.heap.size w0 wc ∧ wc.cell? p0 = some x0 ∧ wc.cell? p1 = some x1) (hb : Below wc.heap.size wc w') :
    Below w0.heap.size w0 w' ∧ w'.cell? p0 = some x0 ∧ w'.cell? p1 = some x1 := ⟨h.1.trans (hb.mono h.1.size), cell_keep h.2.1 hb, cell_keep h.2.2 hb⟩
theorem show_step (l : List Df) (d : Df) : showS (l ++ [d]) = showS l ++ (40 :: 100 :: 101 :: 102 :: 32 :: (Lib.itoa d.params ++ 32 :: (sh d.body.length d.body (lastAt d.body) ++ [41, 10]))) := by
  simp [showS, dfS]
set_option maxHeartbeats 1000000 in
set_option maxRecDepth 100000 in
theorem rshow_any (g : Option Addr) (c : Nat) (ds : List Df) (w : World) (hd : Defs Exs w g ds) :
    Calls Tryz.prog 7 #[.agg #[.slice g ds.length c]] w fun e w' => e = .returned (.tuple #[.string (Lx.ba (txS ds)), .int .i64 (erS ds)]) ∧ Below w.heap.size w w' := by
  have hb0 : Below w.heap.size w (w.alloc (.cells #[.slice g ds.length c] 25)) := (Below.refl _ w).alloc (Nat.le_refl _) _
  have hX0 := Bx1.new w (.slice g ds.length c)
  have HD := hid hd
  have HB0 := hid hb0
  have HX0 := hid hX0
  by_cases hp : pmay ds = true
  · have hm := pmay_mays hp
    have h8 : ds.length ≤ 8 := by
      have h := hp
      unfold pmay at h
      simp only [Bool.and_eq_true] at h
      have := of_decide_eq_true h.1.1
      omega
    have HM := hid hm
    have HOK : Hid (okS ds = decide ((showS ds).length ≤ 2048)) := by show _ = _; unfold okS; rw [hp]; rfl
    clear hd hb0 hX0 hm
    go_enter Tryz.func7, Tryz.ntmps7
    go_wp2_with (go_at_call 8; refine (rprog_any g c ds _ (HD.out.on HB0.out)).mono ?_)
    rintro e w1 ⟨rfl, hb1⟩
    rw [hp]
    have HX1 : Hid (Bx1 w1 w.heap.size (.slice g ds.length c)) := HX0.out.on hb1
    have HB1 : Hid (Below w.heap.size w w1) := Lx.below_next HB0.out hb1
    have x0 := HX1.out.c0
    have hz1 := HX1.out.lt
    clear hb1 HX0 HB0 hp hz1 x0
    go_wp2_with fail
    go_loopw [4, 5] (fun s4 s5 wr => ∃ j : Nat, j ≤ ds.length ∧ s4 = .string (Lx.ba (showS (ds.take j))) ∧ s5 = .int .i64 (j : Int) ∧ Hid (Bx1 wr w.heap.size (.slice g ds.length c)) ∧ Hid (Below w.heap.size w wr))
      (fun _ s5 _ => ds.length - (intOf s5).toNat)
    case atStart => exact ⟨0, Nat.zero_le _, rfl, rfl, HX1, HB1⟩
    case round =>
      obtain ⟨j, hj, rfl, rfl, HX, HB⟩ := hrel
      have x0 := HX.out.c0
      by_cases hlt : j < ds.length
      · have hlt' : (j : Int) < (ds.length : Int) := by omega
        obtain ⟨bk, o, rfl, hbk, gk, ck, k0, k1, hE⟩ := HD.out.at hlt
        have hmj := HM.out ds[j] (List.getElem_mem hlt)
        have hdt : ds.take (j + 1) = ds.take j ++ [ds[j]] := List.take_succ_eq_append_getElem hlt
        obtain ⟨⟨pp, B⟩, hdj⟩ : ∃ d, ds[j] = d := ⟨_, rfl⟩
        rw [hdj] at k0 k1 hE hmj hdt
        replace hmj : may pp B = true := hmj
        replace hE : Exs w gk B := hE
        have q0 : wr.cell? ⟨bk, o + j * 2, none⟩ = some (.int .i64 pp) := (HB.out.cell (p := ⟨bk, o + j * 2, none⟩) hbk).trans k0
        have q1 : wr.cell? ⟨bk, o + j * 2 + 1, none⟩ = some (.slice gk B.length ck) := (HB.out.cell (p := ⟨bk, o + j * 2 + 1, none⟩) hbk).trans k1
        obtain ⟨n1, n2, n3⟩ := may_ne hmj
        have n4 := may_len hmj
        have hmt : ∀ d ∈ ds.take (j + 1), may d.params d.body = true := fun d hd => HM.out d (List.mem_of_mem_take hd)
        have hsz := show_le hmt
        rw [hdt, show_step] at hsz
        have hsz2 : (showS (ds.take j)).length + (Lib.itoa pp).length + (sh B.length B (lastAt B)).length ≤ 100000000000000 := by
          have h2 : (ds.take j ++ [(⟨pp, B⟩ : Df)]).length ≤ 8 := by rw [← hdt, List.length_take]; omega
          simp only [List.length_append, List.length_cons, List.length_nil] at hsz h2
          omega
        obtain ⟨S, hS⟩ : ∃ S, Lx.ba (showS (ds.take j)) = S := ⟨_, rfl⟩
        obtain ⟨P, hP⟩ : ∃ P, Lx.ba (Lib.itoa pp) = P := ⟨_, rfl⟩
        obtain ⟨H, hH⟩ : ∃ H, Lx.ba (sh B.length B (lastAt B)) = H := ⟨_, rfl⟩
        have hz : S.size + P.size + H.size ≤ 100000000000000 := by rw [← hS, ← hP, ← hH, Lx.ba_size, Lx.ba_size, Lx.ba_size]; exact hsz2
        have HE : Hid (S ++ ⟨#[40, 100, 101, 102, 32]⟩ ++ P ++ ⟨#[32]⟩ ++ H ++ ⟨#[41, 10]⟩ = Lx.ba (showS (ds.take (j + 1)))) := by
          show _ = _
          rw [hdt, show_step, ← hS, ← hP, ← hH]
          show Lx.ba (showS (ds.take j)) ++ Lx.ba [40, 100, 101, 102, 32] ++ Lx.ba (Lib.itoa pp) ++ Lx.ba [32] ++ Lx.ba (sh B.length B (lastAt B)) ++ Lx.ba [41, 10] = _
          simp only [ba_app]
          congr 1
          simp
        have HDC : Hid (∀ W : World, Calls Tryz.prog 15 #[.int .i64 pp] W fun e w' => e = .returned (.string P) ∧ Below W.heap.size W w') := fun W => by
          refine (Tm.decimal_any pp W (by omega) (by omega)).mono ?_
          rintro e w' ⟨rfl, hb⟩
          exact ⟨by rw [← hP]; rfl, hb⟩
        have HSC : Hid (∀ (W : World) (v : Int), v = (B.length : Int) - 1 → Below wr.heap.size wr W → Calls Tryz.prog 16 #[.slice gk B.length ck, .int .i64 v] W fun e w' => e = .returned (.string H) ∧ Below W.heap.size W w') := fun W v hv hW => by
          subst hv
          obtain ⟨m, hm⟩ : ∃ m, B.length = m + 1 := ⟨B.length - 1, by omega⟩
          have e1 : (B.length : Int) - 1 = (m : Int) := by omega
          have e2 : lastAt B = (m : Int) := e1
          rw [e1]
          have h := shown_all B.length m gk ck B W (fit_of_may hmj) ((hE.on HB.out).on hW) (by omega) (by omega) n4
          have hH2 : Lx.ba (sh B.length B (m : Int)) = H := by rw [← e2]; exact hH
          rw [hH2] at h
          exact h
        have HX2 := HX
        have hw1 : wrap64 ((B.length : Int) - 1) = (B.length : Int) - 1 := by unfold wrap64; omega
        have HBR : Hid (Below wr.heap.size wr (wr.alloc (.cells #[.int .i64 pp, .slice gk B.length ck] 44))) := (Below.refl _ wr).alloc (Nat.le_refl _) _
        have HZR : Hid ((wr.alloc (.cells #[.int .i64 pp, .slice gk B.length ck] 44)).heap[wr.heap.size]? = some (.cells #[.int .i64 pp, .slice gk B.length ck] 44 (0, 0))) := World.alloc_heap_new wr _
        have v0 : (wr.alloc (.cells #[.int .i64 pp, .slice gk B.length ck] 44)).cell? ⟨wr.heap.size, 0, none⟩ = some (.int .i64 pp) := by unfold World.cell?; simp only [HZR.out]; rfl
        have v1 : (wr.alloc (.cells #[.int .i64 pp, .slice gk B.length ck] 44)).cell? ⟨wr.heap.size, 1, none⟩ = some (.slice gk B.length ck) := by unfold World.cell?; simp only [HZR.out]; rfl
        have HV := hid (And.intro HBR.out (And.intro v0 v1))
        rw [hS]
        have s0 : ¬ 9223372036854775807 < S.size + 5 := by omega
        have s1 : ¬ 9223372036854775807 < S.size + 5 + P.size := by omega
        have s2 : ¬ 9223372036854775807 < S.size + 5 + P.size + 1 := by omega
        have s3 : ¬ 9223372036854775807 < S.size + 5 + P.size + 1 + H.size := by omega
        have s4 : ¬ 9223372036854775807 < S.size + 5 + P.size + 1 + H.size + 2 := by omega
        clear k0 k1 hE hmj hdt hdj hbk hmt hsz hsz2 hS hP hH HZR v0 v1 HX n2 n3 hz
        go_wp2_with fail
        clear HBR
        generalize (wr.alloc (Obj.cells #[Value.int IntKind.i64 pp, Value.slice gk B.length ck] 44)) = wa at HV ⊢
        go_region_held3 (fun w' => Below wr.heap.size wr w' ∧ w'.cell? ⟨wr.heap.size, 0, none⟩ = some (.int .i64 pp) ∧ w'.cell? ⟨wr.heap.size, 1, none⟩ = some (.slice gk B.length ck))
          (first | assumption | (exact keep2_drew (by first | assumption | exact HV.out)) | (exact keep2_next (by assumption) (by assumption)))
          (first | (go_at_call 15; refine (HDC.out _).mono ?_; rintro e w8 ⟨rfl, hb8⟩) | (go_at_call 16; refine (HSC.out _ _ (by first | rfl | exact hw1 | (rw [IntKind.wrap_i64]; exact hw1) | (rw [IntKind.wrap_i64]; omega) | (rw [IntKind.wrap_i64]; unfold wrap64 at hw1; omega)) (And.left (by assumption))).mono ?_; rintro e w8 ⟨rfl, hb8⟩))
        all_goals
          have hb9 : Below wr.heap.size wr w8 := And.left (by assumption)
          have HB9 : Hid (Below w.heap.size w w8) := HB.out.trans (Below.mono hb9 HB.out.size)
          have HX9 : Hid (Bx1 w8 w.heap.size (.slice (some ⟨bk, o, none⟩) ds.length c)) := HX2.out.on hb9
          clear hb9
          go_wp2_with fail
          go_roundw
          case rel => exact ⟨j + 1, by omega, congrArg Value.string HE.out, by go_num, HX9, HB9⟩
          case measure => simp [intOf]; omega
      · have ej : j = ds.length := by omega
        subst ej
        rw [List.take_length]
        have hsz := show_le HM.out
        obtain ⟨S, hS⟩ : ∃ S, Lx.ba (showS ds) = S := ⟨_, rfl⟩
        have hSs : S.size = (showS ds).length := by rw [← hS, Lx.ba_size]
        have HS := hid hS
        rw [hS]
        clear hS
        by_cases h20 : (showS ds).length ≤ 2048
        · have e0 : okS ds = true := by rw [HOK.out]; exact decide_eq_true h20
          have e1 : Hid (Lx.ba (txS ds) = S) := by show _ = _; unfold txS; rw [e0, if_pos rfl, HS.out]
          have e2 : Hid (erS ds = 0) := by show _ = _; unfold erS; rw [e0]; rfl
          have h21 : ¬ (S.size : Int) > 2048 := by omega
          clear h20 e0 hsz hSs
          go_wp2
          rw [e1.out, e2.out]
          go_ret2
          exact ⟨rfl, HB.out⟩
        · have e0 : okS ds = false := by rw [HOK.out]; exact decide_eq_false h20
          have e1 : Hid (Lx.ba (txS ds) = ⟨#[]⟩) := by show _ = _; unfold txS; rw [e0]; rfl
          have e2 : Hid (erS ds = 800) := by show _ = _; unfold erS; rw [e0]; rfl
          have h21 : (S.size : Int) > 2048 := by omega
          clear h20 e0 hsz hSs
          go_wp2
          rw [e1.out, e2.out]
          go_ret2
          exact ⟨rfl, HB.out⟩
  · have hp' : pmay ds = false := by simpa using hp
    have e1 : txS ds = [] := by unfold txS okS; rw [hp']; rfl
    have e2 : erS ds = 800 := by unfold erS okS; rw [hp']; rfl
    rw [e1, e2]
    clear hd hb0 hX0 hp e1 e2
    go_enter Tryz.func7, Tryz.ntmps7
    go_wp2_with (go_at_call 8; refine (rprog_any g c ds _ (HD.out.on HB0.out)).mono ?_)
    rintro e w1 ⟨rfl, hb1⟩
    rw [hp']
    go_wp2
    go_ret2
    exact ⟨rfl, Lx.below_next HB0.out hb1⟩
end Go.Proofs.YtgjhpmkahicnkaaGreatDoor
