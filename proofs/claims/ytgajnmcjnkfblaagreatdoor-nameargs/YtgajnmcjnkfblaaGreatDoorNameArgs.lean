/- sleuthlaw9.NameArgs returns true at every input: a definition that tells its parameter has that one's head; the input is as it was. Conditions: the five listed tables and variables of Go's library read as the program's text lays them; the row's own bound on the text that comes in. -/
import Derived.Laws.OwnMore
import Derived.Laws.IdiomStrings
import Derived.Deep.OwnRows
import Derived.SizedLaws
import Derived.ChangeMaps5
import Derived.WalkKit
import Derived.ProofKit
import Derived.OpenShut
import Derived.Test.YtgajnmcjnkfblaaGreatDoorMNHead
import Derived.Test.YtgajnmcjnkfblaaGreatDoorMNPure
import Derived.Test.YtgajnmcjnkfblaaGreatDoorMRMake
import Derived.Test.YtgajnmcjnkfblaaGreatDoorMTerm
import Derived.Test.YtgajnmcjnkfblaaGreatDoorMKids
import Derived.Test.YtgajnmcjnkfblaaGreatDoorMLaid
namespace Go.Proofs.YtgajnmcjnkfblaaGreatDoor.nameArgs
open Go.RowKit
set_option linter.unusedVariables false

theorem and_1 (x : Int) : ∃ m : Nat, bits .and .i64 x 1 = (m : Int) ∧ m < 2 := by
  obtain ⟨m, h1, h2, h3⟩ : ∃ m : Int, bits .and .i64 x 1 = m ∧ 0 ≤ m ∧ m ≤ 1 := by
    refine ⟨x % 2, ?_, by omega, by omega⟩
    have hb : (BitVec.ofInt 64 1).toNat = 1 := by decide
    have h : bits .and .i64 x 1 = IntKind.i64.wrap (((BitVec.ofInt 64 x &&& BitVec.ofInt 64 1).toNat : Nat) : Int) := rfl
    rw [h, BitVec.toNat_and, hb, BitVec.toNat_ofInt, show (1 : Nat) = 2 ^ 1 - 1 from rfl, Nat.and_two_pow_sub_one_eq_mod, IntKind.wrap_i64]
    simp only [show ((2 : Nat) ^ 64) = 18446744073709551616 from rfl, show ((2 : Nat) ^ 1) = 2 from rfl]
    omega
  exact ⟨m.toNat, by rw [h1]; omega, by omega⟩
/-- The program: a definition that tells its parameter k. -/
def dsK (k : Int) : List Df := [⟨0, [⟨0, 0, 0, []⟩]⟩, ⟨2, [⟨1, k, 0, []⟩]⟩]
theorem hd_arg0 {s : Wdn} (h : (Tm.whole s).isSome = true) : hdT (dsK 0) 1 [s, [33]] 5 = txO (givO s) ∧ hdE (dsK 0) 1 [s, [33]] 5 = erO (givO s) := by
  have h33 : (Tm.whole [33]).isSome = true := by decide +kernel
  have hp : pmay (dsK 0) = true := by decide +kernel
  have hk : askB (dsK 0) 1 [s, [33]] 5 = true := by
    unfold askB
    rw [hp]
    simp [dsK, h, h33]
  have ho : hdO (dsK 0) 1 [s, [33]] 5 = givO s := by
    unfold hdO callT
    rw [show (400 : Nat) = 398 + 1 + 1 from rfl]
    simp [ev, exAt, bodyAt, dsK]
  unfold hdT hdE
  rw [if_pos hk, if_pos hk, ho]
  exact ⟨rfl, rfl⟩
theorem hd_arg1 {s : Wdn} (h : (Tm.whole s).isSome = true) : hdT (dsK 1) 1 [[33], s] 5 = txO (givO s) ∧ hdE (dsK 1) 1 [[33], s] 5 = erO (givO s) := by
  have h33 : (Tm.whole [33]).isSome = true := by decide +kernel
  have hp : pmay (dsK 1) = true := by decide +kernel
  have hk : askB (dsK 1) 1 [[33], s] 5 = true := by
    unfold askB
    rw [hp]
    simp [dsK, h, h33]
  have ho : hdO (dsK 1) 1 [[33], s] 5 = givO s := by
    unfold hdO callT
    rw [show (400 : Nat) = 398 + 1 + 1 from rfl]
    simp [ev, exAt, bodyAt, dsK]
  unfold hdT hdE
  rw [if_pos hk, if_pos hk, ho]
  exact ⟨rfl, rfl⟩
theorem mk_tags : ∀ c : Nat, c < 100 → ∀ n : Nat, n < 4 → (Tm.mk 2 (c : Int) (List.replicate n [95])).isSome = true := by decide +kernel
/-- What Make answers for the head of a term that is no hole. -/
theorem giv_mk {s : Wdn} {k x : Int} {ks : List Wdn} (h : Tm.whole s = some (k, x, ks)) (h0 : k ≠ 0) : Tm.mk k x (List.replicate ks.length [95]) = some (txO (givO s)) ∧ erO (givO s) = 0 := by
  have hm := Tm.whole_mkd h
  obtain ⟨h1, h2, _⟩ := whole_in h
  unfold givO
  rw [h]
  rcases whole_kind h with e | ⟨rfl, rfl⟩ | rfl | ⟨rfl, rfl, rfl⟩
  · exact absurd e h0
  · refine ⟨?_, rfl⟩
    show Tm.mk 1 x [] = some ((Tm.mk 1 x []).getD [])
    rw [hm]; rfl
  · obtain ⟨q1, q2, q3⟩ := h2 rfl
    refine ⟨?_, rfl⟩
    show Tm.mk 2 x (List.replicate ks.length [95]) = some ((Tm.mk 2 x (List.replicate (ks.map Th.giv).length [95])).getD [])
    rw [List.length_map]
    obtain ⟨c, rfl⟩ : ∃ c : Nat, x = (c : Int) := ⟨x.toNat, by omega⟩
    have := mk_tags c (by omega) ks.length (by omega)
    obtain ⟨y, hy⟩ := Option.isSome_iff_exists.1 this
    rw [hy]; rfl
  · refine ⟨?_, rfl⟩
    decide +kernel
/-- What the literals lay down. -/
theorem lit_at (w : World) (k : Nat) (L : List ByteArray) (vs : List Value) (hL : vs = L.map Value.string) :
    Defs Exs (((((w.alloc (Obj.cells #[.int .i64 0, .int .i64 0, .int .i64 0, .slice none 0 0] 45)).alloc (Obj.cells #[.int .i64 1, .int .i64 (k : Int), .int .i64 0, .slice none 0 0] 45)).alloc (Obj.cells #[.int .i64 0, .slice (some ⟨w.heap.size, 0, none⟩) 1 1, .int .i64 2, .slice (some ⟨w.heap.size + 1, 0, none⟩) 1 1] 48)).alloc (Obj.cells #[.slice (some ⟨w.heap.size + 1 + 1, 0, none⟩) 2 2] 24)).alloc (Obj.cells vs.toArray 9)) (some ⟨w.heap.size + 1 + 1, 0, none⟩) (dsK (k : Int))
    ∧ Tm.Txts (((((w.alloc (Obj.cells #[.int .i64 0, .int .i64 0, .int .i64 0, .slice none 0 0] 45)).alloc (Obj.cells #[.int .i64 1, .int .i64 (k : Int), .int .i64 0, .slice none 0 0] 45)).alloc (Obj.cells #[.int .i64 0, .slice (some ⟨w.heap.size, 0, none⟩) 1 1, .int .i64 2, .slice (some ⟨w.heap.size + 1, 0, none⟩) 1 1] 48)).alloc (Obj.cells #[.slice (some ⟨w.heap.size + 1 + 1, 0, none⟩) 2 2] 24)).alloc (Obj.cells vs.toArray 9)) (some ⟨w.heap.size + 1 + 1 + 1 + 1, 0, none⟩) L
    ∧ Below w.heap.size w (((((w.alloc (Obj.cells #[.int .i64 0, .int .i64 0, .int .i64 0, .slice none 0 0] 45)).alloc (Obj.cells #[.int .i64 1, .int .i64 (k : Int), .int .i64 0, .slice none 0 0] 45)).alloc (Obj.cells #[.int .i64 0, .slice (some ⟨w.heap.size, 0, none⟩) 1 1, .int .i64 2, .slice (some ⟨w.heap.size + 1, 0, none⟩) 1 1] 48)).alloc (Obj.cells #[.slice (some ⟨w.heap.size + 1 + 1, 0, none⟩) 2 2] 24)).alloc (Obj.cells vs.toArray 9)) := by
  subst hL
  have r0 : Rw (w.alloc (Obj.cells #[.int .i64 0, .int .i64 0, .int .i64 0, .slice none 0 0] 45)) w.heap.size #[.int .i64 0, .int .i64 0, .int .i64 0, .slice none 0 0] := World.alloc_heap_new w _
  obtain ⟨W1, hW1⟩ : ∃ W1, w.alloc (Obj.cells #[.int .i64 0, .int .i64 0, .int .i64 0, .slice none 0 0] 45) = W1 := ⟨_, rfl⟩
  have s1 : W1.heap.size = w.heap.size + 1 := by rw [← hW1]; simp
  have b1 : Below w.heap.size w W1 := by rw [← hW1]; exact (Below.refl _ w).alloc (Nat.le_refl _) _
  rw [hW1] at r0 ⊢
  have r1 : Rw (W1.alloc (Obj.cells #[.int .i64 1, .int .i64 (k : Int), .int .i64 0, .slice none 0 0] 45)) (w.heap.size + 1) #[.int .i64 1, .int .i64 (k : Int), .int .i64 0, .slice none 0 0] := by
    rw [← s1]; exact World.alloc_heap_new W1 _
  have r0 := r0.alloc (Obj.cells #[.int .i64 1, .int .i64 (k : Int), .int .i64 0, .slice none 0 0] 45)
  obtain ⟨W2, hW2⟩ : ∃ W2, W1.alloc (Obj.cells #[.int .i64 1, .int .i64 (k : Int), .int .i64 0, .slice none 0 0] 45) = W2 := ⟨_, rfl⟩
  have s2 : W2.heap.size = w.heap.size + 1 + 1 := by rw [← hW2]; simp [s1]
  have b2 : Below w.heap.size w W2 := by rw [← hW2]; exact b1.alloc b1.size _
  rw [hW2] at r0 r1 ⊢
  have d2 : Rd (W2.alloc (Obj.cells #[.int .i64 0, .slice (some ⟨w.heap.size, 0, none⟩) 1 1, .int .i64 2, .slice (some ⟨w.heap.size + 1, 0, none⟩) 1 1] 48)) (w.heap.size + 1 + 1) #[.int .i64 0, .slice (some ⟨w.heap.size, 0, none⟩) 1 1, .int .i64 2, .slice (some ⟨w.heap.size + 1, 0, none⟩) 1 1] := by
    rw [← s2]; exact World.alloc_heap_new W2 _
  have r0 := r0.alloc (Obj.cells #[.int .i64 0, .slice (some ⟨w.heap.size, 0, none⟩) 1 1, .int .i64 2, .slice (some ⟨w.heap.size + 1, 0, none⟩) 1 1] 48)
  have r1 := r1.alloc (Obj.cells #[.int .i64 0, .slice (some ⟨w.heap.size, 0, none⟩) 1 1, .int .i64 2, .slice (some ⟨w.heap.size + 1, 0, none⟩) 1 1] 48)
  obtain ⟨W3, hW3⟩ : ∃ W3, W2.alloc (Obj.cells #[.int .i64 0, .slice (some ⟨w.heap.size, 0, none⟩) 1 1, .int .i64 2, .slice (some ⟨w.heap.size + 1, 0, none⟩) 1 1] 48) = W3 := ⟨_, rfl⟩
  have s3 : W3.heap.size = w.heap.size + 1 + 1 + 1 := by rw [← hW3]; simp [s2]
  have b3 : Below w.heap.size w W3 := by rw [← hW3]; exact b2.alloc b2.size _
  rw [hW3] at r0 r1 d2 ⊢
  have x0 : Exs W3 (some ⟨w.heap.size, 0, none⟩) [⟨0, 0, 0, []⟩] := exs_of_row r0 ⟨rfl, rfl, rfl, ⟨_, _, rfl, nums_nil _ _⟩, trivial⟩
  have x1 : Exs W3 (some ⟨w.heap.size + 1, 0, none⟩) [⟨1, (k : Int), 0, []⟩] := exs_of_row r1 ⟨rfl, rfl, rfl, ⟨_, _, rfl, nums_nil _ _⟩, trivial⟩
  have hd : Defs Exs W3 (some ⟨w.heap.size + 1 + 1, 0, none⟩) (dsK (k : Int)) := d2.defs ⟨rfl, ⟨_, _, rfl, x0⟩, rfl, ⟨_, _, rfl, x1⟩, trivial⟩
  have b4 : Below w.heap.size w (W3.alloc (Obj.cells #[.slice (some ⟨w.heap.size + 1 + 1, 0, none⟩) 2 2] 24)) := b3.alloc b3.size _
  have b5 : ∀ o1 o2 : Obj, Below W3.heap.size W3 ((W3.alloc o1).alloc o2) := fun o1 o2 => ((Below.refl _ W3).alloc (Nat.le_refl _) _).alloc (by simp) _
  refine ⟨hd.on (b5 _ _), ?_, b4.alloc b4.size _⟩
  have h := Tm.new_txts (W3.alloc (Obj.cells #[.slice (some ⟨w.heap.size + 1 + 1, 0, none⟩) 2 2] 24)) L
  rw [World.size_alloc, s3] at h
  exact h
set_option maxRecDepth 100000 in
set_option maxHeartbeats 3200000 in
/-- The walk: the law's Go text returns true. -/
theorem walk (t : ByteArray) (a : Int) (w : World) (ht : t.size ≤ 140737488355328) (hw : Tm.Lw w) :
    Calls Tryz.prog 5 #[.string t, .int .i64 a] w fun e w' => e = .returned (.bool true) ∧ Below w.heap.size w w' := by
  obtain ⟨k, hk, hkl⟩ := and_1 a
  have HW := hid hw
  have HT := hid ht
  have HAW := hid (awake9 w hw)
  have HCU : Hid (∀ W, Calls Tryz.prog 18 #[.string t] W fun e w' => ∃ kd x v er, e = .returned (.tuple #[.int .i64 kd, .int .i64 x, v, .int .i64 er]) ∧ (∃ g n c, v = .slice g n c) ∧ Below W.heap.size W w' ∧ Tm.GotC W.heap.size w' (Tm.whole t.data.toList) kd x v er) := fun W => Tm.rcut_any t W ht
  clear hw ht
  go_enter Tryz.func5, Tryz.ntmps5
  go_wp2_with fail
  refine HAW.out.mono ?_
  rintro e w1 ⟨rfl, hb1⟩
  have HB1 := hid hb1
  clear hb1 HAW
  go_wp2_with fail
  refine (HCU.out w1).mono ?_
  rintro e w2 ⟨kd, x, v, er, rfl, ⟨g, n', c, rfl⟩, hb2, hg⟩
  have HB2 := hid (Lx.below_next HB1.out hb2)
  cases hw : Tm.whole t.data.toList with
  | none =>
    rw [hw] at hg
    obtain ⟨rfl, rfl, ev', rfl⟩ := hg
    clear hb2 HCU
    go_wp2_with fail
    go_ret
    exact ⟨rfl, HB2.out⟩
  | some y =>
    obtain ⟨ky, xy, ks⟩ := y
    rw [hw] at hg
    obtain ⟨rfl, rfl, rfl, ho⟩ := hg
    have HWH := hid hw
    have HO := hid ho
    obtain ⟨g', c', e', _⟩ := Lx.own_len ho
    obtain ⟨rfl, rfl, rfl⟩ : g = g' ∧ n' = ks.length ∧ c = c' := by simp only [Value.slice.injEq] at e'; exact e'
    have hks := (whole_in hw).2.2
    have HB12 := hid hb2
    clear hb2 HCU ho hw e' hks
    obtain ⟨n, hn⟩ : ∃ n, ks.length = n := ⟨_, rfl⟩
    have HN := hid hn
    rw [hn] at HO
    simp only [hn]
    clear hn
    have hwt : (Tm.whole t.data.toList).isSome = true := by rw [HWH.out]; rfl
    obtain ⟨L, hL, hLl, hT, hE, hsz⟩ : ∃ L : List ByteArray, ([.string ⟨#[33]⟩, .string ⟨#[33]⟩] : List Value).set k (.string t) = L.map Value.string ∧ L.length = 2 ∧ hdT (dsK (k : Int)) 1 (Tm.lst L) 5 = txO (givO t.data.toList) ∧ hdE (dsK (k : Int)) 1 (Tm.lst L) 5 = erO (givO t.data.toList) ∧ ∀ x ∈ L, x.size ≤ 140737488355328 := by
      match k, hkl with
      | 0, _ => exact ⟨[t, ⟨#[33]⟩], rfl, rfl, (hd_arg0 hwt).1, (hd_arg0 hwt).2, fun x hx => by
          simp only [List.mem_cons, List.not_mem_nil, or_false] at hx
          rcases hx with rfl | rfl
          · exact HT.out
          · decide⟩
      | 1, _ => exact ⟨[⟨#[33]⟩, t], rfl, rfl, (hd_arg1 hwt).1, (hd_arg1 hwt).2, fun x hx => by
          simp only [List.mem_cons, List.not_mem_nil, or_false] at hx
          rcases hx with rfl | rfl
          · decide
          · exact HT.out⟩
      | m + 2, h => omega
    have HLT := hid (lit_at w2 k L _ hL)
    have HL2 : Hid (L.length = 2 ∧ (∀ x ∈ L, x.size ≤ 140737488355328) ∧ hdT (dsK (k : Int)) 1 (Tm.lst L) 5 = txO (givO t.data.toList) ∧ hdE (dsK (k : Int)) 1 (Tm.lst L) 5 = erO (givO t.data.toList)) := ⟨hLl, hsz, hT, hE⟩
    obtain ⟨TX, hTX⟩ : ∃ TX : ByteArray, (⟨(txO (givO t.data.toList)).toArray⟩ : ByteArray) = TX := ⟨_, rfl⟩
    obtain ⟨ER, hER⟩ : ∃ ER, erO (givO t.data.toList) = ER := ⟨_, rfl⟩
    have HTE : Hid ((⟨(txO (givO t.data.toList)).toArray⟩ : ByteArray) = TX ∧ erO (givO t.data.toList) = ER) := ⟨hTX, hER⟩
    clear hwt hL hLl hT hE hsz hTX hER
    go_wp2_with fail
    refine grabK (fun W5 => Hid (Defs Exs W5 (some ⟨w2.heap.size + 1 + 1, 0, none⟩) (dsK (k : Int))) ∧ Hid (Tm.Txts W5 (some ⟨w2.heap.size + 1 + 1 + 1 + 1, 0, none⟩) L) ∧ Hid (Below w2.heap.size w2 W5)) ⟨HLT.out.1, HLT.out.2.1, HLT.out.2.2⟩ (fun W5 h5 => ?_)
    obtain ⟨HD5, HX5, HB5⟩ := h5
    have HHD : Hid (Calls Tryz.prog 11 #[.agg #[.slice (some ⟨w2.heap.size + 1 + 1, 0, none⟩) 2 2], .int .i64 1, .slice (some ⟨w2.heap.size + 1 + 1 + 1 + 1, 0, none⟩) 2 2, .int .i64 5] W5 fun e w' => e = .returned (.tuple #[.string TX, .int .i64 ER]) ∧ Below W5.heap.size W5 w') := by
      have h := head_any (some ⟨w2.heap.size + 1 + 1, 0, none⟩) 2 (dsK (k : Int)) 1 (some ⟨w2.heap.size + 1 + 1 + 1 + 1, 0, none⟩) 2 L 5 W5 HD5.out HX5.out HL2.out.2.1 (Tm.Lw.on (Tm.Lw.on HW.out HB2.out) HB5.out) (by have := HL2.out.1; omega)
      rw [HL2.out.1, HL2.out.2.2.1, HL2.out.2.2.2, HTE.out.1, HTE.out.2] at h
      exact h
    refine HHD.out.mono ?_
    rintro e w6 ⟨rfl, hb6⟩
    have HB6 : Hid (Below w2.heap.size w2 w6) := HB5.out.trans (hb6.mono HB5.out.size)
    clear hb6 HHD HD5 HX5 HB5 HLT HL2
    by_cases h0 : kd = 0
    · subst h0
      have eo : givO t.data.toList = .hole := by unfold givO; rw [HWH.out]; rfl
      obtain rfl : TX = ⟨#[]⟩ := by rw [← HTE.out.1, eo]; rfl
      obtain rfl : ER = 902 := by rw [← HTE.out.2, eo]; rfl
      go_wp2_with (go_at_call 13; refine (Lx.num_any 902 w6).mono ?_)
      rintro e w7 ⟨rfl, rfl⟩
      go_wp2_with fail
      go_ret
      exact ⟨rfl, Lx.below_next HB2.out HB6.out⟩
    · have h0' : (kd == 0) = false := by simp [h0]
      have hgm := giv_mk HWH.out h0
      obtain rfl : ER = 0 := by rw [← HTE.out.2]; exact hgm.2
      have HMK : Hid (Tm.mk kd x (List.replicate n [95]) = some (txO (givO t.data.toList))) := by
        have h := hgm.1
        rw [HN.out] at h; exact h
      have hn3 : n ≤ 3 := by have h := (Tm.whole_parts HWH.out).2.2; have h2 := HN.out; omega
      have HO6 : Hid (w6.ownsRow w1.heap.size 9 1 (.slice g n c) n (ks.map Tm.S)) := Lx.own_below HO.out HB6.out
      have HB16 : Hid (Below w1.heap.size w1 w6) := HB12.out.trans (HB6.out.mono HB12.out.size)
      clear hgm h0 HO HB6 HB12
      go_wp2_with fail
      go_loopw [14] (fun s14 wr => ∃ (j : Nat) (ts : List Wdn), j ≤ n ∧ s14 = .int .i64 (j : Int) ∧ ts.length = n ∧ (∀ i, i < j → ts[i]? = some [95]) ∧ Hid (wr.ownsRow w1.heap.size 9 1 (.slice g n c) n (ts.map Tm.S)) ∧ Hid (Below w1.heap.size w1 wr)) (fun s14 _ => n - (intOf s14).toNat)
      case atStart => exact ⟨0, ks, Nat.zero_le _, rfl, HN.out, fun i h => absurd h (Nat.not_lt_zero _), HO6.out, HB16.out⟩
      case round =>
        obtain ⟨j, ts, hj, rfl, htl, hts, HOJ, HBJ⟩ := hrel
        by_cases hlt : j < n
        · have hlt' : (j : Int) < (n : Int) := by omega
          obtain ⟨gb, cb, e, hB, hlb⟩ := HOJ.out.form (by omega)
          obtain ⟨rfl, rfl⟩ : g = some ⟨gb, 0, none⟩ ∧ c = cb := by simp only [Value.slice.injEq] at e; exact ⟨e.1, e.2.2⟩
          have hf : wr.frozen? ⟨gb, j, none⟩ = false := HOJ.out.frozenAt j
          obtain ⟨y, hy⟩ : ∃ y, ts[j]? = some y := ⟨_, List.getElem?_eq_getElem (by omega)⟩
          have hc : wr.cell? ⟨gb, j, none⟩ = some (Tm.S y) := by
            rw [HOJ.out.cellAt j (by omega), List.getElem?_map, hy]; rfl
          have HST : Hid ((wr.setCell ⟨gb, j, none⟩ (Tm.S [95])).ownsRow w1.heap.size 9 1 (.slice (some ⟨gb, 0, none⟩) n c) n ((ts.set j [95]).map Tm.S)) := by
            show World.ownsRow _ _ _ _ _ _ _
            rw [List.map_set]
            exact (HOJ.out.stored j (Tm.S [95])).1
          have HBS : Hid (Below w1.heap.size w1 (wr.setCell ⟨gb, j, none⟩ (Tm.S [95]))) := HBJ.out.setCell (p := ⟨gb, j, none⟩) hB _
          clear HO6 HB16
          go_wp2_with fail
          go_roundw
          case rel =>
            refine ⟨j + 1, ts.set j [95], by omega, by go_num, by rw [List.length_set]; exact htl, fun i hi => ?_, HST.out, HBS.out⟩
            by_cases e1 : i = j
            · subst e1; rw [List.getElem?_set_self (by omega)]
            · rw [List.getElem?_set_ne (fun h => e1 h.symm)]; exact hts i (by omega)
          case measure => simp [intOf]; omega
        · have hlt' : ¬ (j : Int) < (n : Int) := by omega
          obtain rfl : j = n := by omega
          have hrep : ts = List.replicate j [95] := by
            rw [List.eq_replicate_iff]
            refine ⟨htl, fun b hb => ?_⟩
            obtain ⟨i, hi⟩ := List.getElem?_of_mem hb
            have h1 := hts i (by have := (List.getElem?_eq_some_iff.1 hi).1; omega)
            rw [hi] at h1
            exact Option.some.inj h1
          subst hrep
          have HMA : Hid (Calls Tryz.prog 19 #[.int .i64 kd, .int .i64 x, .slice g j c] wr fun e w' => e = .returned (.tuple #[.string TX, .int .i64 0]) ∧ Below wr.heap.size wr w') := by
            have ho : wr.ownsRow w1.heap.size 9 1 (.slice g j c) (List.replicate j ([95] : List UInt8)).length ((List.replicate j ([95] : List UInt8)).map Tm.S) := by
              rw [List.length_replicate]; exact HOJ.out
            obtain ⟨g', c', e', htx, _⟩ := Tm.own_txts ho
            have hg : g = g' := by simp only [Value.slice.injEq] at e'; exact e'.1
            subst hg
            have h := Tm.rmake_any kd x g j ((List.replicate j ([95] : List UInt8)).map Tm.ba) c wr (by simp) htx (by simp; omega) (fun x hx => by
              obtain ⟨y, hy, rfl⟩ := List.mem_map.1 hx
              rw [(List.mem_replicate.1 hy).2]; decide)
            rw [Tm.lst_ba, HMK.out] at h
            refine h.mono ?_
            rintro e w' ⟨rfl, hb⟩
            exact ⟨by rw [← HTE.out.1]; rfl, hb⟩
          have hTT : (TX.toList == TX.toList) = true := beq_self_eq_true _
          clear HO6 HB16 HOJ
          go_wp2_with fail
          refine HMA.out.mono ?_
          rintro e w7 ⟨rfl, hb7⟩
          have HB7 := hid (Lx.below_next HB1.out (HBJ.out.trans (hb7.mono HBJ.out.size)))
          clear hb7 HMA
          go_wp2_with (go_at_call 13; refine (Lx.num_any 0 w7).mono ?_)
          rintro e w8 ⟨rfl, rfl⟩
          go_wp2_with fail
          go_ret
          exact ⟨rfl, HB7.out⟩
open Go.ChangeShapes Go.WideShapes Go.ChangeAt Go.ChangeMaps
set_option maxRecDepth 100000 in
/-- What the walk gives, for every argument and every world that holds the list. -/
theorem contract (H : Type) (enc : TypeId × Value → H) (W : World) (base : Nat) (args : Array Value) (ds gs : List (DataW H)) (before : List MemPlace)
    (hval : ∀ (j : Nat) t v, Tryz.f5.params[j]? = some t → args[j]? = some v → Value.okWide Tryz.prog W .any base t v)
    (hW : DataW.Whole enc Tryz.prog Tryz.f5.params.toList Rows.nameArgsSpec.vars false W args.toList ds gs before)
    (hsz0 : (DataW.weightsEach Tryz.prog (Tryz.f5.params.toList ++ (OpenSpec.ofChange Rows.nameArgsSpec).bare.plain.varTypes Tryz.prog) (ds ++ gs)).all (· ≤ reachBytes) = true) (hL : laidMetH Tryz.prog Rows.nameArgsRow.laid W) :
    Calls Tryz.prog 5 args W fun e W' => ∃ v, e = .returned v ∧ Rows.nameArgsSpec.post enc Tryz.prog Tryz.f5 false true false false W args v W' := by
  have hW' := hW
  obtain ⟨p, q, hA0, hV, rfl, hfz, hnd⟩ := hW
  have hA : DataW.TrodAll enc Tryz.prog W 0 (fun _ => true) true Tryz.f5.params.toList args.toList ds p := hA0
  rw [Tryz.params5] at hA hval hsz0
  obtain ⟨v0, vs0, d0, ds0, p0, q0, hargs, rfl, rfl, h0, r0⟩ := trodAll_cons hA
  obtain ⟨v1, vs1, d1, ds1, p1, q1, rfl, rfl, rfl, h1, r1⟩ := trodAll_cons r0
  obtain ⟨rfl, rfl, rfl⟩ := trodAll_nil r1
  obtain rfl : args = #[v0, v1] := by cases args; simp_all
  obtain ⟨rfl, rfl⟩ := trodVars_none hV
  obtain ⟨a0, rfl, rfl, rfl, w0⟩ := open_string Tryz.underlying9 (hval 0 9 v0 rfl rfl) h0
  have hbd0 : a0.size ≤ 140737488355328 := by
    have hb := sized_string hsz0 (j := 0) (t := 9) rfl rfl
    have e : a0.data.toList.length = a0.size := by simp
    have := reachBytes_lt
    omega
  obtain ⟨a1, rfl, rfl, rfl, w1⟩ := open_int Tryz.underlying3 (hval 1 3 v1 rfl rfl) h1
  clear hA0
  simp only [List.append_nil] at hW'
  refine (walk a0 a1 W hbd0 (lw_of hL)).mono fun e W' ⟨he, hg⟩ => ?_
  subst he
  exact ⟨_, rfl, _, _, _, [], [], [], hW', trodAll_cons_mk (shut_bool Tryz.underlying4 _) trodAll_mk0, trodAll_cons_mk (shut_string Tryz.underlying9 w0) (trodAll_cons_mk (shut_int Tryz.underlying3 w1) trodAll_mk0), rfl, hg.frame _, fun h => by cases h⟩

theorem reads (os : Os) {H : Type} (enc : TypeId × Value → H) : ∃ places, DataW.whole enc Tryz.prog ((World.doorLaid Tryz.prog 62 os).forCall (fun _ _ => 0) ⟨#[], #[.string ⟨#[]⟩, .int .i64 0], []⟩).memory Tryz.f5.params.toList Rows.nameArgsSpec.vars false #[Value.string ⟨#[]⟩, .int .i64 0].toList 8 = some ([.lit (.string []), .lit (.int .i64 0)], [], places) :=
  ⟨[], by kernel_rfl⟩

set_option maxRecDepth 100000 in
theorem lifted (os : Os) (started : os.Started) (H : Type) (enc : TypeId × Value → H) (F : Stop.Interp) :
    ReturnsInHanded {} Tryz.checked os 5 .any ((OpenSpec.ofChange Rows.nameArgsSpec).preRow enc Tryz.prog Tryz.f5 Rows.nameArgsRow.domain false Rows.nameArgsRow.laid) (((OpenSpec.ofChange Rows.nameArgsSpec).at F).post enc Tryz.prog Tryz.f5 false true false false) := by
  obtain ⟨places, hx⟩ := reads os enc
  refine returnsInHanded_of_row (C := Tryz.checked) (s := OpenSpec.ofChange Rows.nameArgsSpec) own started (by kernel_rfl) Tryz.func5
    (witness_row_atRef (enc := enc) (C := Tryz.checked) false (World.doorLaid Tryz.prog 62 os) #[.string ⟨#[]⟩, .int .i64 0] rfl (by kernel_rfl) (by kernel_rfl) (by kernel_rfl)
      (OpenSpec.preRow_of_cond 8 hx (by kernel_rfl) (fun k hk => by cases hk) (by kernel_rfl) (door_met os _))) ?_
  intro W base args ds gs before hval hW _ _ hsz hL _ _
  exact contract H enc W base args ds gs before hval hW hsz hL

theorem said : Rows.NameArgsSaid :=
  OpenClaim.holds_of_cond 5 Tryz.f5 rfl rfl rfl rfl rfl rfl rfl ⟨rfl, rfl, rfl, rfl, rfl⟩ rfl rfl rfl rfl rfl (by kernel_rfl) Tryz.func5 (by kernel_rfl)
    (of_decide_eq_true (by kernel_rfl)) (by unfold Func.isWrapper; first | (rw [if_pos (by decide +kernel)]; kernel_rfl) | (rw [if_neg (by decide +kernel)]; exact ⟨rfl, rfl⟩))
    (fun os started H enc _ F => by rw [OpenClaim.pre_eq_preRow]; exact lifted os started H enc F)

theorem plain (f : FuncId) (fn : Func) (hf : Tryz.pinned.checked.prog.funcNamed "sleuth/sleuthlaw9.NameArgs" = some f) (hfn : Tryz.pinned.checked.prog.funcs[f]? = some fn) :
    true = Tryz.pinned.checked.prog.looks [] ∧ ∀ (j : Nat) t, fn.params[j]? = some t → Tryz.pinned.checked.prog.wantsStandIn t = false := by
  obtain rfl : f = 5 := Option.some.inj ((show Tryz.prog.funcNamed "sleuth/sleuthlaw9.NameArgs" = some 5 by kernel_rfl).symm.trans hf) |>.symm
  obtain rfl : fn = Tryz.f5 := (Option.some.inj (Tryz.func5.symm.trans hfn)).symm
  refine ⟨by kernel_rfl, fun j t ht => ?_⟩
  rw [Tryz.params5] at ht
  have hm : t ∈ [9, 3] := by simpa using Array.mem_of_getElem? ht
  have hall : ([9, 3].all fun u => !Tryz.prog.wantsStandIn u) = true := by kernel_rfl
  exact (show Tryz.prog.wantsStandIn t = false by simpa using List.all_eq_true.1 hall t hm)

/-- The given statement. -/
theorem card : Rows.NameArgsCardSaid :=
  Claim7.holds_tied_plain_at .later [] _ _ _ _ said (fun _ h => by cases h) (by kernel_rfl) (fun _ h => by cases h) nameArgs_row_tie rfl ⟨rfl, rfl⟩ (by kernel_rfl) rfl plain (by kernel_rfl)
end Go.Proofs.YtgajnmcjnkfblaaGreatDoor.nameArgs
namespace Go.Proofs.YtgajnmcjnkfblaaGreatDoor
theorem nameArgs_holds : Rows.NameArgsCardSaid := nameArgs.card
end Go.Proofs.YtgajnmcjnkfblaaGreatDoor
