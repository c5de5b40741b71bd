/- sleuthlaw4.LexJoin returns true at every input: words put together with blanks, line ends and remarks between are told; the input is as it was. The condition is the card's own: the two listed tables of unicode/utf8 read as their texts lay them. -/
import Derived.Test.YtmbjonfiphnlaaaDoorLaid
import Derived.Test.YtmbjonfiphnlaaaDoorApp
import Derived.SizedLaws
import Derived.ChangeMaps5
import Derived.Carry
import Derived.ChangeSlices
import Derived.Deep.Strs
namespace Go.Proofs.YtmbjonfiphnlaaaDoor.lexJoin
open Go.ChangeShapes Go.WideShapes Go.ChangeAt Go.RowKit Go.ChangeMaps Go.Deep
set_option linter.unusedVariables false

theorem app_one {W : World} {ops : Array Oper} {rest : List Oper} {o : Oper} {a : Act} {Q : Exit → Act → World → Prop} (hgd : o.guard = none) (s x : Operand)
    (ho : o.op = .call { callee := .builtin .append, args := #[s, x], argTypes := #[22, 22] }) (base : Nat) (v : Value) (ks : List (List UInt8)) (t : List UInt8) (hs : a.eval s = v)
    (hx : a.eval x = .slice (some ⟨W.heap.size, 0, none⟩) 1 1) (hown : W.ownsRow base 9 1 v ks.length (ks.map S)) (hb : base ≤ W.heap.size) (hlen : ks.length ≤ 1073741823)
    (h : ∀ v' w', w'.ownsRow base 9 1 v' (ks ++ [t]).length ((ks ++ [t]).map S) → (W.alloc (.cells #[.string (ba t)] 9)).grownBy w' v.ownBlock → wpList Tryd.prog ops Q rest (a.put o.dst v') w') :
    wpList Tryd.prog ops Q (o :: rest) a (W.alloc (.cells #[.string (ba t)] 9)) :=
  app_two hgd s x ho base W.heap.size v _ ks [t] hs hx (hown.alloc _) (World.ownsRow_lit W #[.string (ba t)] 1 (Nat.le_refl _) (by unfold maxLen; omega) rfl) (by simp; omega) (by simp; omega) h
theorem and_7 (x : Int) : ∃ m : Nat, bits .and .i64 x 7 = (m : Int) ∧ m < 8 := by
  refine ⟨(x % 8).toNat, ?_, by omega⟩
  have hb : (BitVec.ofInt 64 7).toNat = 7 := by decide
  have h : bits .and .i64 x 7 = IntKind.i64.wrap (((BitVec.ofInt 64 x &&& BitVec.ofInt 64 7).toNat : Nat) : Int) := rfl
  rw [h, BitVec.toNat_and, hb, BitVec.toNat_ofInt, show (7 : Nat) = 2 ^ 3 - 1 from rfl, Nat.and_two_pow_sub_one_eq_mod, IntKind.wrap_i64]
  simp only [show ((2 : Nat) ^ 64) = 18446744073709551616 from rfl, show ((2 : Nat) ^ 3) = 8 from rfl]
  omega
/-- Whole numbers in a slice that comes in. -/
def Nums (w : World) (g : Option Addr) (xs : List Int) : Prop :=
  xs = [] ∨ ∃ bk o, g = some ⟨bk, o, none⟩ ∧ bk < w.heap.size ∧ ∀ (j : Nat) x, xs[j]? = some x → w.cell? ⟨bk, o + j, none⟩ = some (.int .i64 x)
theorem Nums.at {w : World} {g : Option Addr} {xs : List Int} (h : Nums w g xs) {j : Nat} (hj : j < xs.length) : ∃ bk o, g = some ⟨bk, o, none⟩ ∧ bk < w.heap.size ∧ w.cell? ⟨bk, o + j, none⟩ = some (.int .i64 xs[j]) := by
  rcases h with h | ⟨bk, o, h1, h2, h3⟩
  · subst h; simp at hj
  · exact ⟨bk, o, h1, h2, h3 j _ (List.getElem?_eq_getElem hj)⟩

theorem laidOut : laidOutB Tryd.prog = true := by kernel_rfl
theorem cells3 : Tryd.prog.cellsOf 3 = 1 := by kernel_rfl
theorem open_nums {H : Type} {enc : TypeId × Value → H} {W : World} {g : Option Addr} {n c fuel : Nat} {d : DataW H} {ps : List MemPlace}
    (hf : DataW.trod enc Tryd.prog W 0 (fun _ => true) true fuel 35 [.slice g n c] = some (d, ps)) : ∃ xs : List Int, n = xs.length ∧ Nums W g xs := by
  rcases open_ints Tryd.underlying35 Tryd.underlying3 cells3 hf with ⟨hcs, _⟩ | ⟨a, len, cap, zs, hcs, _, hl, _, hz, _, hcell, _⟩
  · simp at hcs
    obtain ⟨rfl, rfl, rfl⟩ := hcs
    exact ⟨[], rfl, Or.inl rfl⟩
  · simp at hcs
    obtain ⟨rfl, rfl, rfl⟩ := hcs
    simp only [if_true] at hz
    refine ⟨zs.take n, by rw [List.length_take]; omega, ?_⟩
    by_cases h0 : n = 0
    · subst h0; exact Or.inl (by simp)
    · obtain ⟨b, off, spot⟩ := a
      have h00 := hcell 0 (by omega)
      have hspot : spot = none := by simpa [Addr.add] using World.cell?_spot h00
      subst hspot
      refine Or.inr ⟨b, off, rfl, ?_, fun j x hx => ?_⟩
      · rw [Addr.add_lit] at h00
        exact World.block_lt_of_cell? _ _ h00
      · rw [List.getElem?_take] at hx
        split at hx
        · have h1 := hcell j (by omega)
          rw [Addr.add_lit, List.getD, hx] at h1
          exact h1
        · cases hx

def allW : List (List UInt8) := [[40], [41], [100, 101, 102], [102, 48], [36, 49], [45, 55], [64, 51], [43]]
def gapW : List (List UInt8) := [[32], [10], [32, 32, 10, 32], [32, 35, 32, 110, 111, 32, 40, 32, 41, 10], [35, 10], [10, 35, 120, 35, 121, 10, 10]]
theorem pair_wd {p h : List UInt8} (hp : p ∈ allW) (hh : h ∈ gapW) (x : List UInt8) : wd false [] (p ++ (h ++ x)) = p :: wd false [] x := by
  simp only [allW, gapW, List.mem_cons, List.not_mem_nil, or_false] at hp hh
  rcases hp with rfl | rfl | rfl | rfl | rfl | rfl | rfl | rfl <;> rcases hh with rfl | rfl | rfl | rfl | rfl | rfl <;> rfl
theorem all_ok : (allW.all fun l => l.all okB && decide (l.length ≤ 3)) = true := by decide +kernel
theorem gap_ok : (gapW.all fun l => l.all okB && decide (l.length ≤ 10)) = true := by decide +kernel
theorem ba_add (a b : List UInt8) : ba a ++ ba b = ba (a ++ b) := by
  apply ByteArray.ext
  rw [ByteArray.data_append]
  unfold ba
  simp

theorem ushift (x : Int) : ∃ r : Nat, wrap64 ((IntKind.u64.wrap x / 8).tmod 6) = (r : Int) ∧ r < 6 := by
  have hx : IntKind.u64.wrap x = x % 18446744073709551616 := by
    rw [IntKind.wrap_u64]
  have h0 : 0 ≤ IntKind.u64.wrap x / 8 := by rw [hx]; omega
  obtain ⟨k, hk⟩ : ∃ k : Nat, IntKind.u64.wrap x / 8 = (k : Int) := ⟨(IntKind.u64.wrap x / 8).toNat, by omega⟩
  rw [hk]
  refine ⟨k % 6, ?_, Nat.mod_lt _ (by omega)⟩
  have e : ((k : Int)).tmod 6 = ((k % 6 : Nat) : Int) := by
    rw [Int.tmod_eq_emod_of_nonneg (by omega)]; omega
  rw [e]
  unfold wrap64
  have := Nat.mod_lt k (show 0 < 6 by omega)
  omega
theorem txts_cell {w : World} {b : Nat} {ks : List (List UInt8)} (h : Txts w (some ⟨b, 0, none⟩) (ks.map ba)) (m : Nat) (p : List UInt8) (hp : ks[m]? = some p) : w.cell? ⟨b, m, none⟩ = some (.string (ba p)) := by
  rcases h with h | ⟨bk, o, h1, _, h3⟩
  · have : ks = [] := by simpa using h
    subst this; simp at hp
  · cases h1
    have := h3 m (ba p) (by rw [List.getElem?_map, hp]; rfl)
    rwa [Nat.zero_add] at this
theorem mem_all {p : List UInt8} (h : p ∈ allW) : p.all okB = true ∧ p.length ≤ 3 := by
  have := List.all_eq_true.1 all_ok p h
  simpa only [Bool.and_eq_true, decide_eq_true_eq] using this
theorem mem_gap {p : List UInt8} (h : p ∈ gapW) : p.all okB = true ∧ p.length ≤ 10 := by
  have := List.all_eq_true.1 gap_ok p h
  simpa only [Bool.and_eq_true, decide_eq_true_eq] using this

set_option maxHeartbeats 1600000 in
set_option maxRecDepth 100000 in
theorem walk (g : Option Addr) (xs : List Int) (c : Nat) (w : World) (hx : Nums w g xs) :
    Calls Tryd.prog 5 #[.slice g xs.length c] w fun e w' => e = .returned (.bool true) ∧ Below w.heap.size w w' := by
  go_enter Tryd.func5, Tryd.ntmps5
  go_wp2_with fail
  refine (awake_any _).mono ?_
  rintro e w1 ⟨rfl, hb1⟩
  go_wp2_with fail
  have hz1 := hb1.size
  go_loopw [5, 6, 7, 8] (fun s5 s6 s7 _ wr => ∃ (j : Nat) (us : List (List UInt8)) (acc : List UInt8), s5 = .string (ba acc) ∧ s7 = .int .i64 (j : Int) ∧ j ≤ 40 ∧ wr.ownsRow (w1.heap.size + 2) 9 1 s6 us.length (us.map S) ∧ Hid (us.length = j) ∧
      acc.length ≤ 2 + 13 * j ∧ Hid (acc.all okB = true ∧ ∀ x, wd false [] (acc ++ x) = us ++ wd false [] x) ∧ Hid (∀ m p, allW[m]? = some p → wr.cell? ⟨w1.heap.size, m, none⟩ = some (.string (ba p))) ∧
      Hid (∀ m p, gapW[m]? = some p → wr.cell? ⟨w1.heap.size + 1, m, none⟩ = some (.string (ba p))) ∧ Below w.heap.size w wr ∧ w1.heap.size + 2 ≤ wr.heap.size)
    (fun _ _ s7 _ _ => 41 - (intOf s7).toNat)
  case atStart =>
    refine ⟨0, [], [10, 32], rfl, rfl, by omega, World.ownsRow_nil _ _ _ _, rfl, by simp, ⟨by decide, fun x => rfl⟩, ?_, ?_, (hb1.alloc hz1 _).alloc (by simp; omega) _, by simp⟩
    · exact txts_cell (Txts.on (new_txts w1 (allW.map ba)) ((Below.refl _ _).alloc (Nat.le_refl _) _))
    · have h := txts_cell (new_txts (w1.alloc (Obj.cells ((allW.map ba).map Value.string).toArray 9)) (gapW.map ba))
      rw [World.size_alloc] at h
      exact h
  case round =>
    obtain ⟨j, us, acc, rfl, rfl, hj, ho, HUL, hal, HA, HT, HG, hbr, hz⟩ := hrel
    obtain ⟨gv, cv, rfl, hblk⟩ := own_len ho
    have hus : us.length ≤ 40 := by rw [HUL.out]; exact hj
    have HBL : Hid _ := hblk
    have HB : Hid (Below w.heap.size w wr) := hbr
    clear hblk hbr
    by_cases hlt : j < xs.length
    · have hlt' : (j : Int) < (xs.length : Int) := by omega
      by_cases h40 : j < 40
      · have h40' : (j : Int) < 40 := by omega
        obtain ⟨bk, o, rfl, hbk, hcell0⟩ := hx.at hlt
        obtain ⟨x, hxe⟩ : ∃ x, xs[j] = x := ⟨_, rfl⟩
        rw [hxe] at hcell0
        have hcell : wr.cell? ⟨bk, o + j, none⟩ = some (.int .i64 x) := (HB.out.cell (p := ⟨bk, o + j, none⟩) hbk).trans hcell0
        clear hcell0 hxe
        obtain ⟨m, hm, hm8⟩ := and_7 x
        obtain ⟨p, hp⟩ : ∃ p, allW[m]? = some p := ⟨_, List.getElem?_eq_getElem (by show m < 8; omega)⟩
        have hpc := HT.out m p hp
        have hpm := List.mem_of_getElem? hp
        obtain ⟨hpo, hpl⟩ := mem_all hpm
        have z1 : (ba acc).size ≤ 600 := by rw [ba_size]; omega
        have z2 : (ba p).size ≤ 3 := by rw [ba_size]; omega
        have z3 : (ba (acc ++ p)).size ≤ 603 := by rw [ba_size, List.length_append]; omega
        have e1 := ba_add acc p
        have m8' : (m : Int) < 8 := by omega
        obtain ⟨r, hr, hr6⟩ := ushift x
        obtain ⟨h, hh⟩ : ∃ h, gapW[r]? = some h := ⟨_, List.getElem?_eq_getElem (by show r < 6; omega)⟩
        have hhc := HG.out r h hh
        have hhm := List.mem_of_getElem? hh
        obtain ⟨hho, hhl⟩ := mem_gap hhm
        have z4 : (ba h).size ≤ 10 := by rw [ba_size]; omega
        have e2 := ba_add (acc ++ p) h
        have r6' : (r : Int) < 6 := by omega
        have HN : Hid (((acc ++ p ++ h).all okB = true ∧ ∀ x, wd false [] (acc ++ p ++ h ++ x) = (us ++ [p]) ++ wd false [] x) ∧ (acc ++ p ++ h).length ≤ 2 + 13 * (j + 1)) := by
          refine ⟨⟨?_, fun x => ?_⟩, ?_⟩
          · rw [List.all_append, List.all_append, HA.out.1, hpo, hho]; rfl
          · rw [List.append_assoc, List.append_assoc, HA.out.2, pair_wd hpm hhm]; simp
          · rw [List.length_append, List.length_append]; omega
        clear hp hh hpo hho hpm hhm HA hpl hhl hal
        go_wp2_with (at_builtin; refine app_one rfl _ _ rfl (w1.heap.size + 2) (.slice gv us.length cv) us p rfl rfl ho hz (by omega) ?_)
        intro v' w' h1 hg1
        replace h1 : w'.ownsRow (w1.heap.size + 2) 9 1 v' (us ++ [p]).length ((us ++ [p]).map S) := by first | exact h1 | simpa using h1
        have hlow : Below (w1.heap.size + 2) wr w' := ((Below.refl _ wr).alloc hz _).grown hg1 (by simp; omega) (fun a e => (HBL.out a e).1)
        have HB' : Hid (Below w.heap.size w w') := HB.out.trans (hlow.mono (by omega))
        have HT' : Hid (∀ m p, allW[m]? = some p → w'.cell? ⟨w1.heap.size, m, none⟩ = some (.string (ba p))) := fun m p hp => (hlow.cell (p := ⟨w1.heap.size, m, none⟩) (by simp)).trans (HT.out m p hp)
        have HG' : Hid (∀ m p, gapW[m]? = some p → w'.cell? ⟨w1.heap.size + 1, m, none⟩ = some (.string (ba p))) := fun m p hp => (hlow.cell (p := ⟨w1.heap.size + 1, m, none⟩) (by simp)).trans (HG.out m p hp)
        have hz' : w1.heap.size + 2 ≤ w'.heap.size := Nat.le_trans hz hlow.size
        obtain ⟨u1, hu1⟩ : ∃ u, u = us ++ [p] := ⟨_, rfl⟩
        have HUL' : Hid (u1.length = j + 1) := by
          show u1.length = j + 1
          rw [hu1, List.length_append, HUL.out]; rfl
        rw [← hu1] at h1 HN
        obtain ⟨g1, c1, rfl, _⟩ := own_len h1
        have HOW : Hid _ := h1
        clear hg1 h1 hu1 hlow ho HT HG HB HBL HUL hr hm hcell hpc hhc z1 z2 z3 z4 e1 e2 m8' r6'
        go_wp2_with fail
        go_roundw
        case rel => exact ⟨j + 1, u1, acc ++ p ++ h, by rw [List.append_assoc], by go_num, by omega, HOW.out, HUL', HN.out.2, HN.out.1, HT', HG', HB'.out, hz'⟩
        case measure => simp [intOf]; omega
      · have h40' : ¬ (j : Int) < 40 := by omega
        have hgd : good acc = true := by
          unfold good; rw [HA.out.1]; simp; omega
        have hwd : wd false [] acc = us := by
          have := HA.out.2 []
          rwa [List.append_nil, show wd false [] ([] : List UInt8) = [] from rfl, List.append_nil] at this
        have hwg := words_good (ba acc) wr (by rw [ba_list]; exact hgd)
        rw [ba_list, hwd] at hwg
        have HO : Hid _ := ho
        clear ho HA HT HG hgd hwd
        go_wp2_with fail
        refine hwg.mono ?_
        rintro e w5 ⟨g5, c5, rfl, ho5, hb5⟩
        have h05 := below_next HB.out hb5
        have t1 := (own_ba ho5).2
        have t2 := (own_ba (own_below HO.out hb5)).2
        clear hb5 ho5 hwg HB HO
        go_wp2_with (go_at_call 11; refine (num_any _ _).mono ?_; rintro e w' ⟨rfl, rfl⟩)
        refine (same_at _ _ _ _ (us.map ba) (us.map ba) _ _ w5 (by simp) (by simp) t1 t2 (by simp; omega) (by simp; omega)).mono ?_
        rintro e w6 ⟨rfl, hb6⟩
        rw [show sameB (us.map ba) (us.map ba) = true from decide_eq_true rfl]
        go_wp2_with fail
        go_ret
        exact ⟨rfl, below_next h05 hb6⟩
    · have hlt' : ¬ (j : Int) < (xs.length : Int) := by omega
      have hgd : good acc = true := by
        unfold good; rw [HA.out.1]; simp; omega
      have hwd : wd false [] acc = us := by
        have := HA.out.2 []
        rwa [List.append_nil, show wd false [] ([] : List UInt8) = [] from rfl, List.append_nil] at this
      have hwg := words_good (ba acc) wr (by rw [ba_list]; exact hgd)
      rw [ba_list, hwd] at hwg
      have HO : Hid _ := ho
      clear ho HA HT HG hgd hwd
      go_wp2_with fail
      refine hwg.mono ?_
      rintro e w5 ⟨g5, c5, rfl, ho5, hb5⟩
      have h05 := below_next HB.out hb5
      have t1 := (own_ba ho5).2
      have t2 := (own_ba (own_below HO.out hb5)).2
      clear hb5 ho5 hwg HB HO
      go_wp2_with (go_at_call 11; refine (num_any _ _).mono ?_; rintro e w' ⟨rfl, rfl⟩)
      refine (same_at _ _ _ _ (us.map ba) (us.map ba) _ _ w5 (by simp) (by simp) t1 t2 (by simp; omega) (by simp; omega)).mono ?_
      rintro e w6 ⟨rfl, hb6⟩
      rw [show sameB (us.map ba) (us.map ba) = true from decide_eq_true rfl]
      go_wp2_with fail
      go_ret
      exact ⟨rfl, below_next h05 hb6⟩

set_option maxRecDepth 100000 in
/-- What the walk gives, for every argument and every world that holds the list. -/
theorem contract (H : Type) (enc : TypeId × Value → H) (W : World) (base : Nat) (args : Array Value) (ds gs : List (DataW H)) (before : List MemPlace)
    (hval : ∀ (j : Nat) t v, Tryd.f5.params[j]? = some t → args[j]? = some v → Value.okWide Tryd.prog W .any base t v)
    (hW : DataW.Whole enc Tryd.prog Tryd.f5.params.toList Rows.lexJoinSpec.vars false W args.toList ds gs before)
    (hL : laidMetH Tryd.prog Rows.lexJoinRow.laid W) :
    Calls Tryd.prog 5 args W fun e W' => ∃ v, e = .returned v ∧ Rows.lexJoinSpec.post enc Tryd.prog Tryd.f5 false true false false W args v W' := by
  have hW' := hW
  obtain ⟨p, q, hA0, hV, rfl, hfz, hnd⟩ := hW
  have hA : DataW.TrodAll enc Tryd.prog W 0 (fun _ => true) true Tryd.f5.params.toList args.toList ds p := hA0
  rw [Tryd.params5] at hA hval
  obtain ⟨v0, vs0, d0, ds0, p0, q0, hargs, rfl, rfl, h0, r0⟩ := trodAll_cons hA
  obtain ⟨rfl, rfl, rfl⟩ := trodAll_nil r0
  obtain rfl : args = #[v0] := by cases args; simp_all
  obtain ⟨rfl, rfl⟩ := trodVars_none hV
  obtain ⟨g0, n0, c0, rfl⟩ := okWide_slice Tryd.underlying35 (hval 0 35 v0 rfl rfl)
  have k0 := h0
  obtain ⟨fuel0, f0⟩ := h0
  obtain ⟨xs0, rfl, hin0⟩ := open_nums f0
  clear hA0
  simp only [List.append_nil] at hW'
  have hlt0 : ∀ x ∈ p0, x.block < W.heap.size := fun x hx => by simpa using hW'.lt x hx
  refine (walk g0 xs0 c0 W hin0 ).mono fun e W' ⟨he, hg⟩ => ?_
  subst he
  exact ⟨_, rfl, _, _, _, [], (p0 ++ []), [], hW', trodAll_cons_mk (shut_bool Tryd.underlying4 _) trodAll_mk0, trodAll_cons_mk (Below.trod laidOut (by kernel_rfl) (of_decide_eq_true (by kernel_rfl)) k0 hg hlt0) trodAll_mk0, rfl, hg.frame _, fun h => by cases h⟩

theorem reads (os : Os) {H : Type} (enc : TypeId × Value → H) : ∃ places, DataW.whole enc Tryd.prog ((World.laidAll Tryd.prog os Rows.lexJoinRow.laid).forCall (fun _ _ => 0) ⟨#[], #[.slice none 0 0], []⟩).memory Tryd.f5.params.toList Rows.lexJoinSpec.vars false #[Value.slice none 0 0].toList 8 = some ([.nil], [], places) :=
  ⟨[], by kernel_rfl⟩

set_option maxRecDepth 100000 in
theorem lifted (os : Os) (started : os.Started) (H : Type) (enc : TypeId × Value → H) (F : Stop.Interp) :
    ReturnsInHanded {} Tryd.checked os 5 .any ((OpenSpec.ofChange Rows.lexJoinSpec).preRow enc Tryd.prog Tryd.f5 Rows.lexJoinRow.domain false Rows.lexJoinRow.laid) (((OpenSpec.ofChange Rows.lexJoinSpec).at F).post enc Tryd.prog Tryd.f5 false true false false) := by
  obtain ⟨places, hx⟩ := reads os enc
  refine returnsInHanded_of_row (C := Tryd.checked) (s := OpenSpec.ofChange Rows.lexJoinSpec) own started (by kernel_rfl) Tryd.func5
    (witness_row_atRef (enc := enc) (C := Tryd.checked) false (World.laidAll Tryd.prog os Rows.lexJoinRow.laid) #[.slice none 0 0] (World.laidAll_os _ _ _) (by kernel_rfl) (by kernel_rfl) (by kernel_rfl)
      (OpenSpec.preRow_of_cond 8 hx (by kernel_rfl) (fun k hk => by cases hk) (by kernel_rfl) (door_met os _))) ?_
  intro W base args ds gs before hval hW _ _ _ hL _ _
  exact contract H enc W base args ds gs before hval hW hL

theorem said : Rows.LexJoinSaid :=
  OpenClaim.holds_of_cond 5 Tryd.f5 rfl rfl rfl rfl rfl rfl rfl ⟨rfl, rfl, rfl, rfl, rfl⟩ rfl rfl rfl rfl rfl (by kernel_rfl) Tryd.func5 (by kernel_rfl)
    (of_decide_eq_true (by kernel_rfl)) (by unfold Func.isWrapper; first | (rw [if_pos (by decide +kernel)]; kernel_rfl) | (rw [if_neg (by decide +kernel)]; exact ⟨rfl, rfl⟩))
    (fun os started H enc _ F => by rw [OpenClaim.pre_eq_preRow]; exact lifted os started H enc F)

theorem plain (f : FuncId) (fn : Func) (hf : Tryd.pinned.checked.prog.funcNamed "sleuth/sleuthlaw4.LexJoin" = some f) (hfn : Tryd.pinned.checked.prog.funcs[f]? = some fn) :
    false = Tryd.pinned.checked.prog.looks [] ∧ ∀ (j : Nat) t, fn.params[j]? = some t → Tryd.pinned.checked.prog.wantsStandIn t = false := by
  obtain rfl : f = 5 := Option.some.inj ((show Tryd.prog.funcNamed "sleuth/sleuthlaw4.LexJoin" = some 5 by kernel_rfl).symm.trans hf) |>.symm
  obtain rfl : fn = Tryd.f5 := (Option.some.inj (Tryd.func5.symm.trans hfn)).symm
  refine ⟨by kernel_rfl, fun j t ht => ?_⟩
  rw [Tryd.params5] at ht
  have hm : t ∈ [35] := by simpa using Array.mem_of_getElem? ht
  have hall : ([35].all fun u => !Tryd.prog.wantsStandIn u) = true := by kernel_rfl
  exact (show Tryd.prog.wantsStandIn t = false by simpa using List.all_eq_true.1 hall t hm)

/-- The given statement. -/
theorem card : Rows.LexJoinCardSaid :=
  Claim7.holds_tied_plain_at .later [] _ _ _ _ said (fun _ h => by cases h) (by kernel_rfl) (fun _ h => by cases h) lexJoin_row_tie rfl ⟨rfl, rfl⟩ (by kernel_rfl) rfl plain (by kernel_rfl)
end Go.Proofs.YtmbjonfiphnlaaaDoor.lexJoin
namespace Go.Proofs.YtmbjonfiphnlaaaDoor
theorem lexJoin_holds : Rows.LexJoinCardSaid := lexJoin.card
end Go.Proofs.YtmbjonfiphnlaaaDoor
