/- The contract of the document's shown. · Package show's words of a part: isSingle, numbered, wordOf. · Package show's appendPart: the words of a part put behind others. · Package show's defWords and writeLine. · Package show's Text. -/
import Derived.Test.YtgjhpmkahicnkaaDoorMShow
import Derived.Test.YtgjhpmkahicnkaaDoorMRef
import Derived.Test.YtgjhpmkahicnkaaDoorMLex
import Derived.Test.YtgjhpmkahicnkaaDoorMProg
import Derived.Laws.IdiomStrings
import Derived.Test.YtgjhpmkahicnkaaDoorMTerm
import Derived.Test.YtgjhpmkahicnkaaDoorMExpr
import Derived.Deep.AppendLies
import Derived.Deep.RegionLaw

namespace Go.Proofs.YtgjhpmkahicnkaaDoor
open Go.RowKit
set_option linter.unusedVariables false

/-- A part in a box of its own. -/
def Bp (W : World) (z : Nat) (x : Ex) (gk : Option Addr) (ck : Nat) : Prop := W.heap[z]? = some (.cells #[.int .i64 x.kind, .int .i64 x.num, .int .i64 x.bind, .slice gk x.kids.length ck] 40 (0, 0))
theorem Bp.lt {W : World} {z : Nat} {x : Ex} {gk : Option Addr} {ck : Nat} (h : Bp W z x gk ck) : z < W.heap.size := (Array.getElem?_eq_some_iff.1 h).1
theorem Bp.on {W W' : World} {z : Nat} {x : Ex} {gk : Option Addr} {ck : Nat} (h : Bp W z x gk ck) (hb : Below W.heap.size W W') : Bp W' z x gk ck := (hb.block z h.lt).trans h
theorem Bp.c0 {W : World} {z : Nat} {x : Ex} {gk : Option Addr} {ck : Nat} (h : Bp W z x gk ck) : W.cell? ⟨z, 0, none⟩ = some (.int .i64 x.kind) := by simp [World.cell?, show W.heap[z]? = _ from h]
theorem Bp.c1 {W : World} {z : Nat} {x : Ex} {gk : Option Addr} {ck : Nat} (h : Bp W z x gk ck) : W.cell? ⟨z, 1, none⟩ = some (.int .i64 x.num) := by simp [World.cell?, show W.heap[z]? = _ from h]
theorem Bp.c2 {W : World} {z : Nat} {x : Ex} {gk : Option Addr} {ck : Nat} (h : Bp W z x gk ck) : W.cell? ⟨z, 2, none⟩ = some (.int .i64 x.bind) := by simp [World.cell?, show W.heap[z]? = _ from h]
theorem Bp.c3 {W : World} {z : Nat} {x : Ex} {gk : Option Addr} {ck : Nat} (h : Bp W z x gk ck) : W.cell? ⟨z, 3, none⟩ = some (.slice gk x.kids.length ck) := by simp [World.cell?, show W.heap[z]? = _ from h]
theorem Bp.oth {W W' : World} {z n : Nat} {x : Ex} {gk : Option Addr} {ck : Nat} (h : Bp W z x gk ck) (ho : Lx.Oth n W W') : Bp W' z x gk ck := ho.block z _ h (fun _ cs fz e => by cases e)
theorem ba_app (a b : Wd) : Lx.ba a ++ Lx.ba b = Lx.ba (a ++ b) := by
  simp [Lx.ba, ByteArray.ext_iff]
theorem hid {p : Prop} (h : p) : Hid p := h
def ShSaid (f : Nat) : Prop := ∀ (i : Nat) (g : Option Addr) (c : Nat) (B : List Ex) (w : World), Fit B → Exs w g B → i < B.length → i < f → f ≤ 24 →
  Calls Tryd.prog 24 #[.slice g B.length c, .int .i64 (i : Int)] w fun e w' => e = .returned (.string (Lx.ba (sh f B (i : Int)))) ∧ Below w.heap.size w w'

end Go.Proofs.YtgjhpmkahicnkaaDoor

namespace Go.Proofs.YtgjhpmkahicnkaaDoor
open Go.RowKit
set_option linter.unusedVariables false


set_option maxHeartbeats 400000 in
theorem single_any (x : Ex) (g : Option Addr) (c : Nat) (w : World) :
    Calls Tryd.prog 58 #[eV x g c] w fun e w' => e = .returned (.bool (decide (x.kids = [] ∧ x.kind ≠ 2))) ∧ Below w.heap.size w w' := by
  by_cases hx : x.kids = []
  · have hl : ((x.kids.length : Int) == 0) = true := by rw [hx]; rfl
    have hR : decide (x.kids = [] ∧ x.kind ≠ 2) = (x.kind != 2) := by
      by_cases h2 : x.kind = 2 <;> simp [hx, h2]
    rw [hR]
    have HX : Hid (x.kids = []) := hx
    clear hR hx
    go_enter Tryd.func58, Tryd.ntmps58
    go_wp2
    go_ret
    exact ⟨rfl, (Below.refl _ w).alloc (Nat.le_refl _) _⟩
  · have hl : ((x.kids.length : Int) == 0) = false := by
      rw [beq_eq_false_iff_ne]
      intro e
      exact hx (List.length_eq_zero_iff.1 (by omega))
    have hR : decide (x.kids = [] ∧ x.kind ≠ 2) = false := by simp [hx]
    rw [hR]
    have HX : Hid (x.kids ≠ []) := hx
    clear hR hx
    go_enter Tryd.func58, Tryd.ntmps58
    go_wp2
    go_ret
    exact ⟨rfl, (Below.refl _ w).alloc (Nat.le_refl _) _⟩
set_option maxHeartbeats 400000 in
theorem numbered_any (c : UInt8) (v : Int) (w : World) (h1 : -32768 ≤ v) (h2 : v ≤ 32767) (hw : Tm.Lw w) :
    Calls Tryd.prog 60 #[.string (Lx.ba [c]), .int .i64 v] w fun e w' => e = .returned (.string (Lx.ba (c :: Lib.itoa v))) ∧ Below w.heap.size w w' := by
  have hl := itoa_six h1 h2
  obtain ⟨T, hT⟩ : ∃ T, Lib.itoa v = T := ⟨_, rfl⟩
  obtain ⟨A, hA⟩ : ∃ A, Lx.ba [c] = A := ⟨_, rfl⟩
  obtain ⟨B, hB⟩ : ∃ B, Lx.ba T = B := ⟨_, rfl⟩
  obtain ⟨R, hR⟩ : ∃ R, Lx.ba (c :: T) = R := ⟨_, rfl⟩
  have hsum : A ++ B = R := by rw [← hA, ← hB, ← hR, ba_app]; rfl
  have hz : A.size + B.size ≤ 100 := by rw [← hA, ← hB, Lx.ba_size, Lx.ba_size, ← hT]; simp; omega
  have HW : Hid (Tm.Lw w) := hw
  have HB : Hid (Lx.ba T = B) := hB
  rw [hT, hA, hR]
  clear hR hA hB hw
  go_enter Tryd.func60, Tryd.ntmps60
  go_wp2_with (go_at_call 39; refine (Tm.itoa_said v _ (by omega) (by omega) HW.out).mono ?_)
  rintro e w1 ⟨rfl, hb⟩
  rw [hT]
  have e1 : (⟨T.toArray⟩ : ByteArray) = B := HB.out
  rw [e1]
  go_wp2
  go_ret
  exact ⟨rfl, hb⟩
set_option maxHeartbeats 400000 in
theorem word_0 (x : Ex) (g : Option Addr) (c : Nat) (w : World) (hk : x.kind = 0) (h1 : -32768 ≤ x.num) (h2 : x.num ≤ 32767) (hw : Tm.Lw w) :
    Calls Tryd.prog 59 #[eV x g c] w fun e w' => e = .returned (.string (Lx.ba (wo x))) ∧ Below w.heap.size w w' := by
  have hwo : wo x = Lib.itoa x.num := by simp [wo, hk]
  rw [hwo]
  clear hwo
  obtain ⟨m, hm⟩ : ∃ m, x.num = m := ⟨_, rfl⟩
  obtain ⟨kd, hkd⟩ : ∃ kd, x.kind = kd := ⟨_, rfl⟩
  obtain ⟨bd, hbd⟩ : ∃ bd, x.bind = bd := ⟨_, rfl⟩
  have hv : eV x g c = .agg #[.int .i64 kd, .int .i64 m, .int .i64 bd, .slice g x.kids.length c] := by rw [← hm, ← hkd, ← hbd]
  obtain ⟨T, hT⟩ : ∃ T, Lib.itoa m = T := ⟨_, rfl⟩
  obtain ⟨R, hR⟩ : ∃ R, Lx.ba T = R := ⟨_, rfl⟩
  have HR : Hid (Lx.ba T = R) := hR
  have HW : Hid (Tm.Lw (w.alloc (.cells #[.int .i64 kd, .int .i64 m, .int .i64 bd, .slice g x.kids.length c] 40))) := Tm.Lw.on hw ((Below.refl _ w).alloc (Nat.le_refl _) _)
  rw [hm] at h1 h2 ⊢
  rw [hkd] at hk
  have hn : ∀ j : Int, j ≠ 0 → (kd == j) = false := fun j h => by rw [beq_eq_false_iff_ne]; omega
  have e0 : (kd == 0) = true := by rw [hk]; rfl
  clear hn hk
  rw [hv]
  clear hm hkd hbd hv
  rw [hT, hR]
  clear hR hw
  go_enter Tryd.func59, Tryd.ntmps59
  go_wp2_with (go_at_call 39; refine (Tm.itoa_said m _ (by omega) (by omega) HW.out).mono ?_)
  rintro e w1 ⟨rfl, hb⟩
  rw [hT]
  have e1 : (⟨T.toArray⟩ : ByteArray) = R := HR.out
  rw [e1]
  go_wp2
  go_ret
  exact ⟨rfl, Lx.below_next ((Below.refl _ w).alloc (Nat.le_refl _) _) hb⟩
set_option maxHeartbeats 400000 in
theorem word_1 (x : Ex) (g : Option Addr) (c : Nat) (w : World) (hk : x.kind = 1) (h1 : -32768 ≤ x.num) (h2 : x.num ≤ 32767) (hw : Tm.Lw w) :
    Calls Tryd.prog 59 #[eV x g c] w fun e w' => e = .returned (.string (Lx.ba (wo x))) ∧ Below w.heap.size w w' := by
  have hwo : wo x = 36 :: Lib.itoa x.num := by simp [wo, hk]
  rw [hwo]
  clear hwo
  obtain ⟨m, hm⟩ : ∃ m, x.num = m := ⟨_, rfl⟩
  obtain ⟨kd, hkd⟩ : ∃ kd, x.kind = kd := ⟨_, rfl⟩
  obtain ⟨bd, hbd⟩ : ∃ bd, x.bind = bd := ⟨_, rfl⟩
  have hv : eV x g c = .agg #[.int .i64 kd, .int .i64 m, .int .i64 bd, .slice g x.kids.length c] := by rw [← hm, ← hkd, ← hbd]
  obtain ⟨R, hR⟩ : ∃ R, Lx.ba (36 :: Lib.itoa m) = R := ⟨_, rfl⟩
  have HR : Hid (Lx.ba (36 :: Lib.itoa m) = R) := hR
  have HW : Hid (Tm.Lw (w.alloc (.cells #[.int .i64 kd, .int .i64 m, .int .i64 bd, .slice g x.kids.length c] 40))) := Tm.Lw.on hw ((Below.refl _ w).alloc (Nat.le_refl _) _)
  rw [hm] at h1 h2 ⊢
  rw [hkd] at hk
  have hn : ∀ j : Int, j ≠ 1 → (kd == j) = false := fun j h => by rw [beq_eq_false_iff_ne]; omega
  have e0 := hn 0 (by decide)
  have e1 : (kd == 1) = true := by rw [hk]; rfl
  clear hn hk
  rw [hv]
  clear hm hkd hbd hv
  rw [hR]
  clear hR hw
  go_enter Tryd.func59, Tryd.ntmps59
  go_wp2_with (go_at_call 60; refine (numbered_any 36 m _ h1 h2 HW.out).mono ?_)
  rintro e w1 ⟨rfl, hb⟩
  rw [HR.out]
  go_wp2
  go_ret
  exact ⟨rfl, Lx.below_next ((Below.refl _ w).alloc (Nat.le_refl _) _) hb⟩
set_option maxHeartbeats 400000 in
theorem word_2 (x : Ex) (g : Option Addr) (c : Nat) (w : World) (hk : x.kind = 2) (h1 : -32768 ≤ x.num) (h2 : x.num ≤ 32767) (hw : Tm.Lw w) :
    Calls Tryd.prog 59 #[eV x g c] w fun e w' => e = .returned (.string (Lx.ba (wo x))) ∧ Below w.heap.size w w' := by
  have hwo : wo x = 102 :: Lib.itoa x.num := by simp [wo, hk]
  rw [hwo]
  clear hwo
  obtain ⟨m, hm⟩ : ∃ m, x.num = m := ⟨_, rfl⟩
  obtain ⟨kd, hkd⟩ : ∃ kd, x.kind = kd := ⟨_, rfl⟩
  obtain ⟨bd, hbd⟩ : ∃ bd, x.bind = bd := ⟨_, rfl⟩
  have hv : eV x g c = .agg #[.int .i64 kd, .int .i64 m, .int .i64 bd, .slice g x.kids.length c] := by rw [← hm, ← hkd, ← hbd]
  obtain ⟨R, hR⟩ : ∃ R, Lx.ba (102 :: Lib.itoa m) = R := ⟨_, rfl⟩
  have HR : Hid (Lx.ba (102 :: Lib.itoa m) = R) := hR
  have HW : Hid (Tm.Lw (w.alloc (.cells #[.int .i64 kd, .int .i64 m, .int .i64 bd, .slice g x.kids.length c] 40))) := Tm.Lw.on hw ((Below.refl _ w).alloc (Nat.le_refl _) _)
  rw [hm] at h1 h2 ⊢
  rw [hkd] at hk
  have hn : ∀ j : Int, j ≠ 2 → (kd == j) = false := fun j h => by rw [beq_eq_false_iff_ne]; omega
  have e0 := hn 0 (by decide)
  have e1 := hn 1 (by decide)
  have e2 : (kd == 2) = true := by rw [hk]; rfl
  clear hn hk
  rw [hv]
  clear hm hkd hbd hv
  rw [hR]
  clear hR hw
  go_enter Tryd.func59, Tryd.ntmps59
  go_wp2_with (go_at_call 60; refine (numbered_any 102 m _ h1 h2 HW.out).mono ?_)
  rintro e w1 ⟨rfl, hb⟩
  rw [HR.out]
  go_wp2
  go_ret
  exact ⟨rfl, Lx.below_next ((Below.refl _ w).alloc (Nat.le_refl _) _) hb⟩
set_option maxHeartbeats 400000 in
theorem word_3 (x : Ex) (g : Option Addr) (c : Nat) (w : World) (hk : x.kind = 3) (h1 : -32768 ≤ x.num) (h2 : x.num ≤ 32767) (hw : Tm.Lw w) :
    Calls Tryd.prog 59 #[eV x g c] w fun e w' => e = .returned (.string (Lx.ba (wo x))) ∧ Below w.heap.size w w' := by
  have hwo : wo x = 64 :: Lib.itoa x.num := by simp [wo, hk]
  rw [hwo]
  clear hwo
  obtain ⟨m, hm⟩ : ∃ m, x.num = m := ⟨_, rfl⟩
  obtain ⟨kd, hkd⟩ : ∃ kd, x.kind = kd := ⟨_, rfl⟩
  obtain ⟨bd, hbd⟩ : ∃ bd, x.bind = bd := ⟨_, rfl⟩
  have hv : eV x g c = .agg #[.int .i64 kd, .int .i64 m, .int .i64 bd, .slice g x.kids.length c] := by rw [← hm, ← hkd, ← hbd]
  obtain ⟨R, hR⟩ : ∃ R, Lx.ba (64 :: Lib.itoa m) = R := ⟨_, rfl⟩
  have HR : Hid (Lx.ba (64 :: Lib.itoa m) = R) := hR
  have HW : Hid (Tm.Lw (w.alloc (.cells #[.int .i64 kd, .int .i64 m, .int .i64 bd, .slice g x.kids.length c] 40))) := Tm.Lw.on hw ((Below.refl _ w).alloc (Nat.le_refl _) _)
  rw [hm] at h1 h2 ⊢
  rw [hkd] at hk
  have hn : ∀ j : Int, j ≠ 3 → (kd == j) = false := fun j h => by rw [beq_eq_false_iff_ne]; omega
  have e0 := hn 0 (by decide)
  have e1 := hn 1 (by decide)
  have e2 := hn 2 (by decide)
  have e3 : (kd == 3) = true := by rw [hk]; rfl
  clear hn hk
  rw [hv]
  clear hm hkd hbd hv
  rw [hR]
  clear hR hw
  go_enter Tryd.func59, Tryd.ntmps59
  go_wp2_with (go_at_call 60; refine (numbered_any 64 m _ h1 h2 HW.out).mono ?_)
  rintro e w1 ⟨rfl, hb⟩
  rw [HR.out]
  go_wp2
  go_ret
  exact ⟨rfl, Lx.below_next ((Below.refl _ w).alloc (Nat.le_refl _) _) hb⟩
set_option maxHeartbeats 400000 in
theorem word_4 (x : Ex) (g : Option Addr) (c : Nat) (w : World) (hk : x.kind = 4) (h0 : 0 ≤ x.num) (h4 : x.num ≤ 4) :
    Calls Tryd.prog 59 #[eV x g c] w fun e w' => e = .returned (.string (Lx.ba (wo x))) ∧ Below w.heap.size w w' := by
  have hwo : wo x = opS x.num := by simp [wo, hk]
  rw [hwo]
  clear hwo
  obtain ⟨m, hm⟩ : ∃ m, x.num = m := ⟨_, rfl⟩
  obtain ⟨kd, hkd⟩ : ∃ kd, x.kind = kd := ⟨_, rfl⟩
  obtain ⟨bd, hbd⟩ : ∃ bd, x.bind = bd := ⟨_, rfl⟩
  have hv : eV x g c = .agg #[.int .i64 kd, .int .i64 m, .int .i64 bd, .slice g x.kids.length c] := by rw [← hm, ← hkd, ← hbd]
  rw [hm] at h0 h4 ⊢
  have hw1 : wrap64 (m + 1) = m + 1 := by unfold wrap64; omega
  obtain ⟨R, hR⟩ : ∃ R, Lx.ba (opS m) = R := ⟨_, rfl⟩
  have hs : ∀ W, (Instr.slice 9 (.string ⟨#[43, 45, 42, 61, 60]⟩) (some (.int .i64 m)) (some (.int .i64 (m + 1))) none).run Tryd.prog W = .ok (.string R) W := by
    intro W
    rw [← hR]
    have : m = 0 ∨ m = 1 ∨ m = 2 ∨ m = 3 ∨ m = 4 := by omega
    rcases this with h | h | h | h | h <;> rw [h]
    · exact (run_slice_string_if (P := Tryd.prog) (w := W) (t := 9) (s := ⟨#[43, 45, 42, 61, 60]⟩) (k := .i64) (k' := .i64) (i := 0) (j := 0 + 1) Tryd.underlying9).trans (by rw [if_pos (by decide), if_pos (by decide)]; rfl)
    · exact (run_slice_string_if (P := Tryd.prog) (w := W) (t := 9) (s := ⟨#[43, 45, 42, 61, 60]⟩) (k := .i64) (k' := .i64) (i := 1) (j := 1 + 1) Tryd.underlying9).trans (by rw [if_pos (by decide), if_pos (by decide)]; rfl)
    · exact (run_slice_string_if (P := Tryd.prog) (w := W) (t := 9) (s := ⟨#[43, 45, 42, 61, 60]⟩) (k := .i64) (k' := .i64) (i := 2) (j := 2 + 1) Tryd.underlying9).trans (by rw [if_pos (by decide), if_pos (by decide)]; rfl)
    · exact (run_slice_string_if (P := Tryd.prog) (w := W) (t := 9) (s := ⟨#[43, 45, 42, 61, 60]⟩) (k := .i64) (k' := .i64) (i := 3) (j := 3 + 1) Tryd.underlying9).trans (by rw [if_pos (by decide), if_pos (by decide)]; rfl)
    · exact (run_slice_string_if (P := Tryd.prog) (w := W) (t := 9) (s := ⟨#[43, 45, 42, 61, 60]⟩) (k := .i64) (k' := .i64) (i := 4) (j := 4 + 1) Tryd.underlying9).trans (by rw [if_pos (by decide), if_pos (by decide)]; rfl)
  rw [hkd] at hk
  have hn : ∀ j : Int, j ≠ 4 → (kd == j) = false := fun j h => by rw [beq_eq_false_iff_ne]; omega
  have e0 := hn 0 (by decide)
  have e1 := hn 1 (by decide)
  have e2 := hn 2 (by decide)
  have e3 := hn 3 (by decide)
  have e4 : (kd == 4) = true := by rw [hk]; rfl
  clear hn hk
  rw [hv]
  clear hm hkd hbd hv
  rw [hR]
  clear hR
  go_enter Tryd.func59, Tryd.ntmps59
  go_wp2
  go_ret
  exact ⟨rfl, (Below.refl _ w).alloc (Nat.le_refl _) _⟩
set_option maxHeartbeats 400000 in
theorem word_5 (x : Ex) (g : Option Addr) (c : Nat) (w : World) (hk : x.kind = 5) :
    Calls Tryd.prog 59 #[eV x g c] w fun e w' => e = .returned (.string (Lx.ba (wo x))) ∧ Below w.heap.size w w' := by
  have hwo : wo x = [99, 97, 115, 101] := by simp [wo, hk]
  rw [hwo]
  clear hwo
  obtain ⟨m, hm⟩ : ∃ m, x.num = m := ⟨_, rfl⟩
  obtain ⟨kd, hkd⟩ : ∃ kd, x.kind = kd := ⟨_, rfl⟩
  obtain ⟨bd, hbd⟩ : ∃ bd, x.bind = bd := ⟨_, rfl⟩
  have hv : eV x g c = .agg #[.int .i64 kd, .int .i64 m, .int .i64 bd, .slice g x.kids.length c] := by rw [← hm, ← hkd, ← hbd]
  rw [hkd] at hk
  have hn : ∀ j : Int, j ≠ 5 → (kd == j) = false := fun j h => by rw [beq_eq_false_iff_ne]; omega
  have e0 := hn 0 (by decide)
  have e1 := hn 1 (by decide)
  have e2 := hn 2 (by decide)
  have e3 := hn 3 (by decide)
  have e4 := hn 4 (by decide)
  have e5 : (kd == 5) = true := by rw [hk]; rfl
  clear hn hk
  rw [hv]
  clear hm hkd hbd hv
  go_enter Tryd.func59, Tryd.ntmps59
  go_wp2
  go_ret
  exact ⟨rfl, (Below.refl _ w).alloc (Nat.le_refl _) _⟩
set_option maxHeartbeats 400000 in
theorem word_6 (x : Ex) (g : Option Addr) (c : Nat) (w : World) (hk : x.kind = 6) :
    Calls Tryd.prog 59 #[eV x g c] w fun e w' => e = .returned (.string (Lx.ba (wo x))) ∧ Below w.heap.size w w' := by
  have hwo : wo x = [108, 101, 116] := by simp [wo, hk]
  rw [hwo]
  clear hwo
  obtain ⟨m, hm⟩ : ∃ m, x.num = m := ⟨_, rfl⟩
  obtain ⟨kd, hkd⟩ : ∃ kd, x.kind = kd := ⟨_, rfl⟩
  obtain ⟨bd, hbd⟩ : ∃ bd, x.bind = bd := ⟨_, rfl⟩
  have hv : eV x g c = .agg #[.int .i64 kd, .int .i64 m, .int .i64 bd, .slice g x.kids.length c] := by rw [← hm, ← hkd, ← hbd]
  rw [hkd] at hk
  have hn : ∀ j : Int, j ≠ 6 → (kd == j) = false := fun j h => by rw [beq_eq_false_iff_ne]; omega
  have e0 := hn 0 (by decide)
  have e1 := hn 1 (by decide)
  have e2 := hn 2 (by decide)
  have e3 := hn 3 (by decide)
  have e4 := hn 4 (by decide)
  have e5 := hn 5 (by decide)
  have e6 : (kd == 6) = true := by rw [hk]; rfl
  clear hn hk
  rw [hv]
  clear hm hkd hbd hv
  go_enter Tryd.func59, Tryd.ntmps59
  go_wp2
  go_ret
  exact ⟨rfl, (Below.refl _ w).alloc (Nat.le_refl _) _⟩
set_option maxHeartbeats 400000 in
theorem word_7 (x : Ex) (g : Option Addr) (c : Nat) (w : World) (hk : x.kind = 7) :
    Calls Tryd.prog 59 #[eV x g c] w fun e w' => e = .returned (.string (Lx.ba (wo x))) ∧ Below w.heap.size w w' := by
  have hwo : wo x = [101, 114, 114, 111, 114] := by simp [wo, hk]
  rw [hwo]
  clear hwo
  obtain ⟨m, hm⟩ : ∃ m, x.num = m := ⟨_, rfl⟩
  obtain ⟨kd, hkd⟩ : ∃ kd, x.kind = kd := ⟨_, rfl⟩
  obtain ⟨bd, hbd⟩ : ∃ bd, x.bind = bd := ⟨_, rfl⟩
  have hv : eV x g c = .agg #[.int .i64 kd, .int .i64 m, .int .i64 bd, .slice g x.kids.length c] := by rw [← hm, ← hkd, ← hbd]
  rw [hkd] at hk
  have hn : ∀ j : Int, j ≠ 7 → (kd == j) = false := fun j h => by rw [beq_eq_false_iff_ne]; omega
  have e0 := hn 0 (by decide)
  have e1 := hn 1 (by decide)
  have e2 := hn 2 (by decide)
  have e3 := hn 3 (by decide)
  have e4 := hn 4 (by decide)
  have e5 := hn 5 (by decide)
  have e6 := hn 6 (by decide)
  clear hn hk
  rw [hv]
  clear hm hkd hbd hv
  go_enter Tryd.func59, Tryd.ntmps59
  go_wp2
  go_ret
  exact ⟨rfl, (Below.refl _ w).alloc (Nat.le_refl _) _⟩
theorem wordOf_any (x : Ex) (t : Int) (g : Option Addr) (c : Nat) (w : World) (ht : t ≤ 8) (ho : x.ok t = true) (hw : Tm.Lw w) :
    Calls Tryd.prog 59 #[eV x g c] w fun e w' => e = .returned (.string (Lx.ba (wo x))) ∧ Below w.heap.size w w' := by
  rcases ok_kinds ho with ⟨hk, _, h1, h2, _⟩ | ⟨hk, _, h1, h2, _⟩ | ⟨hk, _, h1, h2, _⟩ | ⟨hk, _, h1, h2, _⟩ | ⟨hk, _, h1, h2, _⟩ | ⟨hk, _⟩ | ⟨hk, _⟩ | ⟨hk, _⟩
  · exact word_0 x g c w hk h1 h2 hw
  · exact word_1 x g c w hk (by omega) (by omega) hw
  · exact word_2 x g c w hk (by omega) (by omega) hw
  · exact word_3 x g c w hk (by omega) (by omega) hw
  · exact word_4 x g c w hk h1 h2
  · exact word_5 x g c w hk
  · exact word_6 x g c w hk
  · exact word_7 x g c w hk
end Go.Proofs.YtgjhpmkahicnkaaDoor

namespace Go.Proofs.YtgjhpmkahicnkaaDoor
open Go.RowKit
set_option linter.unusedVariables false

theorem pw_len (B : List Ex) : ∀ (f : Nat) (i : Int), (pw f B i).length ≤ 5 * cnt f B i
  | 0, i => by simp [pw]
  | f + 1, i => by
    rw [pw, cnt]
    cases hx : B[i.toNat]? with
    | none => simp
    | some x =>
      have hk : ∀ ks : List Int, ((ks.map (pw f B)).flatten).length ≤ 5 * sumN (ks.map (cnt f B)) := by
        intro ks
        induction ks with
        | nil => simp [sumN]
        | cons k ks ih =>
          have := pw_len B f k
          simp only [List.map_cons, List.flatten_cons, List.length_append, sumN]
          omega
      have h2 : (kw x (x.kids.map (pw f B))).length ≤ ((x.kids.map (pw f B)).flatten).length + 2 := by
        cases x.kids.map (pw f B) with
        | nil => simp [kw]
        | cons u us =>
          simp only [kw, List.length_append, List.flatten_cons]
          split <;> simp <;> omega
      have h3 := hk x.kids
      simp only
      split
      · simp only [List.length_cons, List.length_nil]; omega
      · simp only [List.length_cons, List.length_append, List.length_nil]
        omega
theorem kw_len (B : List Ex) (f : Nat) (x : Ex) (ks : List Int) : (kw x (ks.map (pw f B))).length ≤ 5 * sumN (ks.map (cnt f B)) + 2 := by
  have hk : ((ks.map (pw f B)).flatten).length ≤ 5 * sumN (ks.map (cnt f B)) := by
    induction ks with
    | nil => simp [sumN]
    | cons k ks ih =>
      have := pw_len B f k
      simp only [List.map_cons, List.flatten_cons, List.length_append, sumN]
      omega
  cases ks with
  | nil => simp [kw]
  | cons k ks =>
    simp only [kw, List.length_append, List.map_cons, List.flatten_cons] at hk ⊢
    split
    · simp only [List.length_cons, List.length_nil]; omega
    · simp only [List.length_nil]; omega
theorem sum_take (c : Int → Nat) : ∀ (ks : List Int) (j : Nat) (h : j < ks.length), sumN ((ks.take j).map c) + c ks[j] ≤ sumN (ks.map c)
  | [], j, h => by simp at h
  | k :: ks, 0, h => by simp [sumN]
  | k :: ks, j + 1, h => by
    have := sum_take c ks j (by simpa using h)
    simp only [List.take_succ_cons, List.map_cons, sumN, List.getElem_cons_succ]
    omega
/-- A row of words that the call owns. -/
abbrev Wr (B : Nat) (w : World) (v : Value) (us : List Wd) : Prop := w.ownsRow B 9 1 v us.length (us.map Lx.S)
def PwSaid (f : Nat) : Prop := ∀ (i : Nat) (g : Option Addr) (c : Nat) (B : List Ex) (w0 w : World) (v : Value) (us : List Wd), Fit B → Exs w0 g B → Tm.Lw w0 → Below w0.heap.size w0 w → i < B.length → i < f → us.length + 8 * cnt f B (i : Int) ≤ 4096 → Wr w0.heap.size w v us →
  Calls Tryd.prog 40 #[v, .slice g B.length c, .int .i64 (i : Int)] w fun e w' => ∃ v', e = .returned v' ∧ Wr w0.heap.size w' v' (us ++ pw f B (i : Int)) ∧ Lx.Oth w0.heap.size w w'
theorem Bp.grown {W W' : World} {z : Nat} {x : Ex} {gk : Option Addr} {ck : Nat} {row : Option Nat} (h : Bp W z x gk ck) (hg : W.grownBy W' row) (hne : some z ≠ row) : Bp W' z x gk ck := (hg.block z h.lt hne).trans h

theorem app_pair {W : World} {ops : Array Oper} {rest : List Oper} {o : Oper} {a : Act} {Q : Exit → Act → World → Prop} (hgd : o.guard = none) (s x : Operand)
    (ho : o.op = .call { callee := .builtin .append, args := #[s, x], argTypes := #[53, 53] }) (base : Nat) (v : Value) (ks : List Wd) (t u : Wd) (hs : a.eval s = v)
    (hx : a.eval x = .slice (some ⟨W.heap.size, 0, none⟩) 2 2) (hown : W.ownsRow base 9 1 v ks.length (ks.map Lx.S)) (hb : base ≤ W.heap.size) (hlen : ks.length ≤ 1073741822)
    (h : ∀ v' w', w'.ownsRow base 9 1 v' (ks ++ [t, u]).length ((ks ++ [t, u]).map Lx.S) → (W.alloc (.cells #[.string (Lx.ba t), .string (Lx.ba u)] 9)).grownBy w' v.ownBlock → wpList Tryd.prog ops Q rest (a.put o.dst v') w') :
    wpList Tryd.prog ops Q (o :: rest) a (W.alloc (.cells #[.string (Lx.ba t), .string (Lx.ba u)] 9)) :=
  Lx.app_two hgd s x ho base W.heap.size v _ ks [t, u] hs hx (hown.alloc _) (World.ownsRow_lit W #[.string (Lx.ba t), .string (Lx.ba u)] 2 (Nat.le_refl _) (by unfold maxLen; omega) rfl) (by simp; omega) (by simp; omega) h

/-- The same, as one step of a region that draws its order. -/
theorem step_pair {W : World} {ops : Array Oper} {o : Oper} {a : Act} {K : Act → World → Prop} {Q : Exit → Act → World → Prop} {E : Prop} (hgd : o.guard = none) (s x : Operand)
    (ho : o.op = .call { callee := .builtin .append, args := #[s, x], argTypes := #[53, 53] }) (base : Nat) (v : Value) (ks : List Wd) (t u : Wd) (hs : a.eval s = v) (z : Nat) (hz : W.heap.size = z)
    (hx : a.eval x = .slice (some ⟨z, 0, none⟩) 2 2) (hown : W.ownsRow base 9 1 v ks.length (ks.map Lx.S)) (hb : base ≤ W.heap.size) (hlen : ks.length ≤ 1073741822)
    (h : ∀ v' w', w'.ownsRow base 9 1 v' (ks ++ [t, u]).length ((ks ++ [t, u]).map Lx.S) → (W.alloc (.cells #[.string (Lx.ba t), .string (Lx.ba u)] 9)).grownBy w' v.ownBlock → K (a.put o.dst v') w') :
    if Region.wanted o (yielded ops a.tmps) = true then Oper.wp Tryd.prog o a (W.alloc (.cells #[.string (Lx.ba t), .string (Lx.ba u)] 9)) K Q else E := by
  subst hz
  obtain ⟨i0, hi, hz0, hz1, hz2⟩ := info_parts Lx.Tryd.info9
  refine step_append_lies _ hgd s x 53 ho base 9 i0 _ 1 16 Tryd.underlying53 hi hz0 hz1 hz2 rfl (by decide) v _ _ hs (hown.alloc _) ⟨W.heap.size, 0, none⟩ 2 2 [Lx.S t, Lx.S u] hx rfl ?_ (Lx.S_one [t, u]) (by decide) (by unfold maxLen; omega) (by omega) (by rw [World.size_alloc]; omega) _ rfl ?_
  · intro j q hj
    rw [Addr.add_lit, Nat.zero_add]
    refine cell_new W #[.string (Lx.ba t), .string (Lx.ba u)] 9 j q ?_
    rw [show [Lx.S t, Lx.S u] = [Value.string (Lx.ba t), Value.string (Lx.ba u)] from rfl] at hj
    simpa using hj
  · intro g cap w' h1 h2 _ _
    refine h _ w' ?_ h2
    rw [List.length_append, List.map_append]
    exact h1

set_option maxHeartbeats 2000000 in
set_option maxRecDepth 100000 in
theorem pw_of (f : Nat) (hS : PwSaid f) : PwSaid (f + 1) := by
  intro i g c B w0 w v us hF hE hw hb hi hif hl hv
  obtain ⟨bk, o, rfl, hbk, gk, ck, x0, x1, x2, x3, xn⟩ := (hE.at hi)
  obtain ⟨x, hx⟩ : ∃ x, B[i] = x := ⟨_, rfl⟩
  rw [hx] at x0 x1 x2 x3 xn
  have hBi : B[i]? = some x := by rw [List.getElem?_eq_getElem hi, hx]
  have y0 : w.cell? ⟨bk, o + i * 4, none⟩ = some (.int .i64 x.kind) := (hb.cell (p := ⟨bk, o + i * 4, none⟩) hbk).trans x0
  have y1 : w.cell? ⟨bk, o + i * 4 + 1, none⟩ = some (.int .i64 x.num) := (hb.cell (p := ⟨bk, o + i * 4 + 1, none⟩) hbk).trans x1
  have y2 : w.cell? ⟨bk, o + i * 4 + 2, none⟩ = some (.int .i64 x.bind) := (hb.cell (p := ⟨bk, o + i * 4 + 2, none⟩) hbk).trans x2
  have y3 : w.cell? ⟨bk, o + i * 4 + 3, none⟩ = some (.slice gk x.kids.length ck) := (hb.cell (p := ⟨bk, o + i * 4 + 3, none⟩) hbk).trans x3
  clear x0 x1 x2 x3
  obtain ⟨t, ht, hok⟩ := hF.ok x (List.mem_of_getElem? hBi)
  have HT : Hid (pw (f + 1) B (i : Int) = if x.kids = [] ∧ x.kind ≠ 2 then [wo x] else [40] :: wo x :: (kw x (x.kids.map (pw f B)) ++ [[41]])) := by
    show _ = _
    rw [pw, Int.toNat_natCast, hBi]
  have HCn : Hid (cnt (f + 1) B (i : Int) = sumN (x.kids.map (cnt f B)) + 1) := by
    show _ = _
    rw [cnt, Int.toNat_natCast, hBi]
  have hi' : (i : Int) < (B.length : Int) := by omega
  have hi24 : B.length ≤ 24 := hF.few
  have HBI : Hid (B[i]? = some x) := hBi
  clear hx hBi
  have hwl : w0.heap.size ≤ w.heap.size := hb.size
  have hbA : Below w0.heap.size w0 (w.alloc (.cells #[.int .i64 x.kind, .int .i64 x.num, .int .i64 x.bind, .slice gk x.kids.length ck] 40)) := hb.alloc hwl _
  have HX : Hid (Bp (w.alloc (.cells #[.int .i64 x.kind, .int .i64 x.num, .int .i64 x.bind, .slice gk x.kids.length ck] 40)) w.heap.size x gk ck) := World.alloc_heap_new w _
  have HR : Hid (Wr w0.heap.size (w.alloc (.cells #[.int .i64 x.kind, .int .i64 x.num, .int .i64 x.bind, .slice gk x.kids.length ck] 40)) v us) := hv.alloc _
  have HL : Hid (us.length + 8 * cnt (f + 1) B (i : Int) ≤ 4096) := hl
  have HOK : Hid (x.ok t = true ∧ t ≤ 8) := ⟨hok, ht⟩
  have HF : Hid (Fit B) := hF
  have HS : Hid (PwSaid f) := hS
  have HE : Hid (Exs w0 (some ⟨bk, o, none⟩) B) := hE
  have HW : Hid (Tm.Lw w0) := hw
  have HBW : Hid (Below w0.heap.size w0 w) := hb
  have HKD : Hid (∀ k ∈ x.kids, 0 ≤ k ∧ k < (i : Int)) := hF.kid i x HBI.out
  have HBA : Hid (Below w0.heap.size w0 (w.alloc (.cells #[.int .i64 x.kind, .int .i64 x.num, .int .i64 x.bind, .slice gk x.kids.length ck] 40))) := hbA
  have HI : Hid (i < B.length ∧ i < f + 1) := ⟨hi, hif⟩
  have HWL : Hid (w0.heap.size ≤ w.heap.size) := hwl
  have HO0 : Hid (Lx.Oth w0.heap.size w (w.alloc (.cells #[.int .i64 x.kind, .int .i64 x.num, .int .i64 x.bind, .slice gk x.kids.length ck] 40))) := Lx.Oth.of_below ((Below.refl _ w).alloc (Nat.le_refl _) _)
  clear hv hl hok ht hF hS hE hw hbA hi hif hb hwl
  go_enter Tryd.func40, Tryd.ntmps40
  go_wp2_with (go_at_call 58; refine (single_any x gk ck _).mono ?_)
  rintro e w1 ⟨rfl, hb1⟩
  have HX1 : Hid (Bp w1 w.heap.size x gk ck) := HX.out.on hb1
  have HR1 : Hid (Wr w0.heap.size w1 v us) := Lx.own_below HR.out hb1
  have HB1 : Hid (Below w0.heap.size w0 w1) := HBA.out.trans (hb1.mono (by rw [World.size_alloc]; have := HWL.out; omega))
  have HZ : Hid (w.heap.size < w1.heap.size) := HX1.out.lt
  have HO1 : Hid (Lx.Oth w0.heap.size w w1) := HO0.out.trans (Lx.Oth.of_below hb1)
  have c0 := HX1.out.c0
  have c1 := HX1.out.c1
  have c2 := HX1.out.c2
  have c3 := HX1.out.c3
  clear hb1 HX HR HBA HO0 y0 y1 y2 y3
  by_cases hsg : x.kids = [] ∧ x.kind ≠ 2
  · have hd : decide (x.kids = [] ∧ x.kind ≠ 2) = true := decide_eq_true hsg
    rw [hd]
    have HP : Hid (pw (f + 1) B (i : Int) = [wo x]) := by show _ = _; rw [HT.out, if_pos hsg]
    clear hd hsg HT
    go_wp2_with (go_at_call 59; refine (wordOf_any x t gk ck _ HOK.out.2 HOK.out.1 (Tm.Lw.on HW.out HB1.out)).mono ?_)
    rintro e w2 ⟨rfl, hb2⟩
    have hR2 := Lx.own_below HR1.out hb2
    have hz2 : w0.heap.size ≤ w2.heap.size := by have := HB1.out.size; have := hb2.size; omega
    have HB2 : Hid (Below w0.heap.size w0 w2) := HB1.out.trans (hb2.mono HB1.out.size)
    have hlu : us.length ≤ 4096 := by have := HL.out; omega
    go_wp2_with (at_builtin; refine Lx.app_one rfl _ _ rfl w0.heap.size v us (wo x) rfl rfl hR2 hz2 (by omega) ?_)
    intro v3 w3 h3 hg3
    go_wp2
    go_ret
    refine ⟨v3, rfl, ?_, ?_⟩
    · rw [HP.out]; show w3.ownsRow _ _ _ _ _ _; simpa using h3
    · exact ((HO1.out.trans (Lx.Oth.of_below hb2)).trans (Lx.Oth.of_below ((Below.refl _ w2).alloc (Nat.le_refl _) _))).trans (Lx.Oth.of_grown (hR2.alloc _) hg3)
  · have hd : decide (x.kids = [] ∧ x.kind ≠ 2) = false := decide_eq_false hsg
    rw [hd]
    have HP : Hid (pw (f + 1) B (i : Int) = [40] :: wo x :: (kw x (x.kids.map (pw f B)) ++ [[41]])) := by show _ = _; rw [HT.out, if_neg hsg]
    clear hd hsg HT
    go_wp2_with (go_at_call 59; refine (wordOf_any x t gk ck _ HOK.out.2 HOK.out.1 (Tm.Lw.on HW.out HB1.out)).mono ?_)
    rintro e w2 ⟨rfl, hb2⟩
    have hR2 := Lx.own_below HR1.out hb2
    have hz2 : w0.heap.size ≤ w2.heap.size := by have := HB1.out.size; have := hb2.size; omega
    have HB2 : Hid (Below w0.heap.size w0 w2) := HB1.out.trans (hb2.mono HB1.out.size)
    have HX2 : Hid (Bp w2 w.heap.size x gk ck) := HX1.out.on hb2
    have HZ2 : Hid (w.heap.size < w2.heap.size) := HX2.out.lt
    have hlu : us.length ≤ 4096 := by have := HL.out; omega
    have HO2 : Hid (Lx.Oth w0.heap.size w w2) := HO1.out.trans (Lx.Oth.of_below hb2)
    clear c0 c1 c2 c3 hb2 HX1 HR1 HB1 HZ HO1
    go_wp2_with (at_builtin; refine app_pair rfl _ _ rfl w0.heap.size v us [40] (wo x) rfl rfl hR2 hz2 (by omega) ?_)
    intro v3 w3 h3 hg3
    have HO3 : Hid (Lx.Oth w0.heap.size w w3) := (HO2.out.trans (Lx.Oth.of_below ((Below.refl _ w2).alloc (Nat.le_refl _) _))).trans (Lx.Oth.of_grown (hR2.alloc _) hg3)
    have HX3 : Hid (Bp w3 w.heap.size x gk ck) := (HX2.out.on ((Below.refl _ w2).alloc (Nat.le_refl _) (.cells #[.string (Lx.ba [40]), .string (Lx.ba (wo x))] 9))).oth (Lx.Oth.of_grown (hR2.alloc _) hg3)
    have HR3 : Hid (Wr w0.heap.size w3 v3 (us ++ [[40], wo x])) := by show w3.ownsRow _ _ _ _ _ _; simpa using h3
    have c3 := HX3.out.c3
    have HXN : Hid (Nums w0 gk x.kids) := xn
    have HK : Hid (∀ k ∈ x.kids, 0 ≤ k ∧ k < (i : Int)) := by
      show ∀ k ∈ x.kids, _
      exact HKD.out
    clear hg3 h3 hR2 HX2 HZ2 HO2 HB2 hz2 xn HKD
    go_wp2_with fail
    go_loopw [0, 29] (fun s0 s1 wr => ∃ (j : Nat) (u : List Wd), j ≤ x.kids.length ∧ s1 = .int .i64 (j : Int) ∧ Hid (u = us ++ [[40], wo x] ++ kw x ((x.kids.take j).map (pw f B))) ∧ Hid (Wr w0.heap.size wr s0 u) ∧ Hid (Bp wr w.heap.size x gk ck) ∧ Hid (Lx.Oth w0.heap.size w wr))
      (fun _ s1 _ => x.kids.length - (intOf s1).toNat)
    case atStart => exact ⟨0, us ++ [[40], wo x], Nat.zero_le _, rfl, by show us ++ _ = _; simp [kw], HR3, HX3, HO3⟩
    case round =>
      obtain ⟨j, u, hj, rfl, HU, HR, HX, HO⟩ := hrel
      have hk3 : x.kids.length ≤ 3 := (ok_nums HOK.out.2 HOK.out.1).2.2.2.2.1
      have HB4 : Hid (Below w0.heap.size w0 wr) := HBW.out.trans (HO.out.below HWL.out)
      by_cases hlt : j < x.kids.length
      · have hlt' : (j : Int) < (x.kids.length : Int) := by omega
        obtain ⟨bq, oq, rfl, hbq, hq⟩ := HXN.out.at hlt
        have hkk := HK.out x.kids[j] (List.getElem_mem hlt)
        obtain ⟨kn, hkn⟩ : ∃ kn : Nat, x.kids[j] = (kn : Int) := ⟨x.kids[j].toNat, by omega⟩
        have hq2 : wr.cell? ⟨bq, oq + j, none⟩ = some (.int .i64 (kn : Int)) := by
          rw [← hkn]; exact (HB4.out.cell (p := ⟨bq, oq + j, none⟩) hbq).trans hq
        have hlen : u.length + 8 * cnt f B (kn : Int) ≤ 4096 ∧ u.length ≤ 4096 := by
          have h1 := HL.out
          rw [HCn.out] at h1
          have h2 := sum_take (cnt f B) x.kids j hlt
          rw [hkn] at h2
          have h3 := kw_len B f x (x.kids.take j)
          have h4 : 1 ≤ cnt f B (kn : Int) ∨ cnt f B (kn : Int) = 0 := by omega
          rw [HU.out]
          simp only [List.length_append, List.length_cons, List.length_nil]
          omega
        have HKN : Hid (kn < i) := by show kn < i; omega
        have HTJ : Hid (kw x ((x.kids.take (j + 1)).map (pw f B)) = kw x ((x.kids.take j).map (pw f B)) ++ pw f B (kn : Int) ++ (if x.kind = 5 ∧ (x.kids.take j).map (pw f B) = [] then [64 :: Lib.itoa x.num, Lib.itoa x.bind] else [])) := by
          show _ = _
          rw [List.take_succ_eq_append_getElem hlt, List.map_append, List.map_cons, List.map_nil, kw_snoc, hkn]
        clear hkk hkn hq hbq
        have y0 := HX.out.c0
        go_wp2_with (go_at_call 40; refine (HS.out kn (some ⟨bk, o, none⟩) c B w0 wr u0 u HF.out HE.out HW.out HB4.out (by have := HKN.out; have := HI.out; omega) (by have := HKN.out; have := HI.out; omega) hlen.1 HR.out).mono ?_)
        rintro e w4 ⟨v4, rfl, h4, ho4⟩
        have HX4 : Hid (Bp w4 w.heap.size x (some ⟨bq, oq, none⟩) ck) := HX.out.oth ho4
        have HO4 : Hid (Lx.Oth w0.heap.size w w4) := HO.out.trans ho4
        have HR4 : Hid (Wr w0.heap.size w4 v4 (u ++ pw f B (kn : Int))) := h4
        have z0 := HX4.out.c0
        have hul : (u ++ pw f B (kn : Int)).length ≤ 8192 := by
          have h1 := pw_len B f (kn : Int)
          rw [List.length_append]; omega
        clear h4 ho4 y0 hlen hq2 HB4 HO HX HX3 HO3 HR3 c3
        by_cases h5 : x.kind = 5
        · have e5 : (x.kind == 5) = true := by rw [h5]; rfl
          by_cases hj0 : j = 0
          · subst hj0
            have HU5 : Hid (us ++ [[40], wo x] ++ kw x ((x.kids.take (0 + 1)).map (pw f B)) = (u ++ pw f B (kn : Int)) ++ [64 :: Lib.itoa x.num, Lib.itoa x.bind]) := by
              show _ = _
              rw [HTJ.out, HU.out, if_pos ⟨h5, rfl⟩]; simp
            have HK5 : Hid (x.kind = 5) := h5
            clear HTJ HU h5
            obtain ⟨u4, hu4⟩ : ∃ u4, u ++ pw f B (kn : Int) = u4 := ⟨_, rfl⟩
            rw [hu4] at HU5 HR4 hul
            clear hu4
            have HB4 : Hid (Below w0.heap.size w0 w4) := HBW.out.trans (HO4.out.below HWL.out)
            have z1 := HX4.out.c1
            have z2 := HX4.out.c2
            obtain ⟨nm, hnm⟩ : ∃ nm, x.num = nm := ⟨_, rfl⟩
            obtain ⟨bd, hbd⟩ : ∃ bd, x.bind = bd := ⟨_, rfl⟩
            have hnb : -32768 ≤ nm ∧ nm ≤ 32767 ∧ 0 ≤ bd ∧ bd ≤ 3 := by
              have := ok_nums HOK.out.2 HOK.out.1
              omega
            have HNB : Hid (x.num = nm ∧ x.bind = bd) := ⟨hnm, hbd⟩
            rw [hnm] at z1
            rw [hbd] at z2
            rw [hnm, hbd] at HU5
            clear hnm hbd
            go_wp2_with fail
            go_region_law
              (first
                | (refine step_pair rfl _ _ rfl w0.heap.size v4 u4 (64 :: Lib.itoa nm) (Lib.itoa bd) rfl w7.heap.size rfl rfl HA7.out.1 HA7.out.2.2 (by omega) ?_; intro v8 w8 h8 hg8; have HH8 : Hid (Wr w0.heap.size w8 v8 (u4 ++ [64 :: Lib.itoa nm, Lib.itoa bd]) ∧ Lx.Oth w0.heap.size w4 w8) := ⟨h8, (HA7.out.2.1.trans (Lx.Oth.of_below ((Below.refl _ w7).alloc (Nat.le_refl _) _))).trans (Lx.Oth.of_grown (HA7.out.1.alloc _) hg8)⟩; clear h8 hg8 HA7)
                | (go_simp; go_at_call 60; refine (numbered_any 64 nm _ hnb.1 hnb.2.1 (Tm.Lw.on HW.out HB4.out.drew)).mono ?_; rintro e w6 ⟨rfl, hb6⟩; have hb4 : Below w4.heap.size w4 w6 := ⟨hb6.os, hb6.tape, hb6.output, hb6.size, hb6.block⟩; have d2 : w6.cell? ⟨w.heap.size, 2, none⟩ = some (.int .i64 bd) := (hb4.cell (p := ⟨w.heap.size, 2, none⟩) HX4.out.lt).trans z2; have HB6 : Hid (Below w4.heap.size w4 w6) := hb4; clear hb6 hb4)
                | (go_simp; go_at_call 39; refine (Tm.itoa_said bd _ (by omega) (by omega) (Tm.Lw.on HW.out (HB4.out.trans (HB6.out.mono HB4.out.size)))).mono ?_; rintro e w7 ⟨rfl, hb7⟩; have HA7 : Hid (Wr w0.heap.size w7 v4 u4 ∧ Lx.Oth w0.heap.size w4 w7 ∧ w0.heap.size ≤ w7.heap.size) := ⟨Lx.own_below (Lx.own_below HR4.out HB6.out) hb7, (Lx.Oth.of_below HB6.out).trans (Lx.Oth.of_below hb7), Nat.le_trans HB4.out.size (Nat.le_trans HB6.out.size hb7.size)⟩; clear hb7))
            all_goals
              have HX8 : Hid (Bp w8 w.heap.size x (some ⟨bq, oq, none⟩) ck) := HX4.out.oth HH8.out.2
              have HO8 : Hid (Lx.Oth w0.heap.size w w8) := HO4.out.trans HH8.out.2
              have HR8 : Hid (Wr w0.heap.size w8 v8 (u4 ++ [64 :: Lib.itoa nm, Lib.itoa bd])) := HH8.out.1
              clear HH8 HX4 HO4 HR4 HB4
              go_wp2_with fail
              go_roundw
              case rel => exact ⟨1, _, by omega, rfl, HU5.out.symm, HR8, HX8, HO8⟩
              case measure => simp [intOf]; omega
          · have e0 : ((j : Int) == 0) = false := by rw [beq_eq_false_iff_ne]; omega
            have HU5 : Hid (us ++ [[40], wo x] ++ kw x ((x.kids.take (j + 1)).map (pw f B)) = u ++ pw f B (kn : Int)) := by
              show _ = _
              rw [HTJ.out, HU.out, if_neg (fun q => by
                have := q.2
                rw [List.map_eq_nil_iff, List.take_eq_nil_iff] at this
                rcases this with h | h
                · exact hj0 h
                · rw [h] at hlt; simp at hlt)]
              simp
            clear HTJ HU h5 hj0
            go_wp2_with fail
            go_roundw
            case rel => exact ⟨j + 1, _, by omega, by go_num, HU5.out.symm, HR4, HX4, HO4⟩
            case measure => simp [intOf]; omega
        · have e5 : (x.kind == 5) = false := by rw [beq_eq_false_iff_ne]; exact h5
          have HU5 : Hid (us ++ [[40], wo x] ++ kw x ((x.kids.take (j + 1)).map (pw f B)) = u ++ pw f B (kn : Int)) := by
            show _ = _
            rw [HTJ.out, HU.out, if_neg (fun q => h5 q.1)]
            simp
          clear HTJ HU h5
          go_wp2_with fail
          go_roundw
          case rel => exact ⟨j + 1, _, by omega, by go_num, HU5.out.symm, HR4, HX4, HO4⟩
          case measure => simp [intOf]; omega
      · have ej : j = x.kids.length := by omega
        subst ej
        rw [List.take_length] at HU
        have hul : u.length ≤ 4096 := by
          have h1 := HL.out
          rw [HCn.out] at h1
          have h3 := kw_len B f x x.kids
          rw [HU.out]
          simp only [List.length_append, List.length_cons, List.length_nil]
          omega
        go_wp2_with (at_builtin; refine Lx.app_one rfl _ _ rfl w0.heap.size u0 u [41] rfl rfl HR.out (by have := HB4.out.size; exact this) (by omega) ?_)
        intro v5 w5 h5 hg5
        have H5 : Hid (Wr w0.heap.size w5 v5 (u ++ [[41]])) := by show w5.ownsRow _ _ _ _ _ _; simpa using h5
        have HEQ : Hid (us ++ pw (f + 1) B (i : Int) = u ++ [[41]]) := by show _ = _; rw [HP.out, HU.out]; simp
        clear h5
        go_wp2
        go_ret
        refine ⟨v5, rfl, ?_, ?_⟩
        · rw [HEQ.out]
          exact H5.out
        · exact (HO.out.trans (Lx.Oth.of_below ((Below.refl _ wr).alloc (Nat.le_refl _) _))).trans (Lx.Oth.of_grown (HR.out.alloc _) hg5)
theorem pw_all : ∀ f, PwSaid f
  | 0 => fun i g c B w0 w v us _ _ _ _ _ h => absurd h (by omega)
  | f + 1 => pw_of f (pw_all f)
end Go.Proofs.YtgjhpmkahicnkaaDoor

namespace Go.Proofs.YtgjhpmkahicnkaaDoor
open Go.RowKit
set_option linter.unusedVariables false


theorem sub_len (n : Nat) (h1 : 1 ≤ n) (h2 : n ≤ 24) : wrap64 ((n : Int) - 1) = ((n - 1 : Nat) : Int) := by unfold wrap64; omega
set_option maxHeartbeats 1000000 in
set_option maxRecDepth 100000 in
theorem defWords_any (p : Int) (g : Option Addr) (c : Nat) (B : List Ex) (w : World) (hm : may p B = true) (hE : Exs w g B) (hw : Tm.Lw w) :
    Calls Tryd.prog 21 #[.agg #[.int .i64 p, .slice g B.length c]] w fun e w' => ∃ v', e = .returned v' ∧ Wr w.heap.size w' v' (dw ⟨p, B⟩) ∧ Below w.heap.size w w' := by
  obtain ⟨h1, h2, h3⟩ := may_ne hm
  have h24 := may_len hm
  obtain ⟨m, hmB⟩ : ∃ m, B.length = m + 1 := ⟨B.length - 1, by omega⟩
  have hsub : wrap64 ((B.length : Int) - 1) = (m : Int) := by unfold wrap64; omega
  have HMB : Hid (B.length = m + 1) := hmB
  clear hmB
  have HM : Hid (may p B = true) := hm
  have HE : Hid (Exs w g B) := hE
  have HW : Hid (Tm.Lw w) := hw
  have HB0 : Hid (Below w.heap.size w (w.alloc (.cells #[.int .i64 p, .slice g B.length c] 43))) := (Below.refl _ w).alloc (Nat.le_refl _) _
  have HX0 : Hid ((w.alloc (.cells #[.int .i64 p, .slice g B.length c] 43)).heap[w.heap.size]? = some (.cells #[.int .i64 p, .slice g B.length c] 43 (0, 0))) := World.alloc_heap_new w _
  clear hm hE hw
  obtain ⟨T, hT⟩ : ∃ T, Lib.itoa p = T := ⟨_, rfl⟩
  go_enter Tryd.func21, Tryd.ntmps21
  go_wp2_with (go_at_call 39; refine (Tm.itoa_said p _ (by omega) (by omega) (Tm.Lw.on HW.out HB0.out)).mono ?_)
  rintro e w1 ⟨rfl, hb1⟩
  rw [hT]
  have HB1 : Hid (Below w.heap.size w w1) := Lx.below_next HB0.out hb1
  have HX1 : w1.heap[w.heap.size]? = some (.cells #[.int .i64 p, .slice g B.length c] 43 (0, 0)) := (hb1.block _ (by rw [World.size_alloc]; omega)).trans HX0.out
  have c1 : w1.cell? ⟨w.heap.size, 1, none⟩ = some (.slice g B.length c) := by simp [World.cell?, HX1]
  have hz1 : w.heap.size < w1.heap.size := (Array.getElem?_eq_some_iff.1 HX1).1
  clear hb1 HX1
  have HL : Hid (lastAt B = (m : Int) ∧ cnt B.length B (lastAt B) = B.length) := ⟨by have := HMB.out; unfold lastAt; omega, cnt_all HM.out⟩
  have HR0 : Hid (Wr w.heap.size (w1.alloc (.cells #[.string ⟨#[40]⟩, .string ⟨#[100, 101, 102]⟩, .string ⟨T.toArray⟩] 9)) (.slice (some ⟨w1.heap.size, 0, none⟩) 3 3) [[40], [100, 101, 102], T]) :=
    World.ownsRow_lit w1 #[.string ⟨#[40]⟩, .string ⟨#[100, 101, 102]⟩, .string ⟨T.toArray⟩] 3 (Nat.le_of_lt hz1) (by unfold maxLen; omega) rfl
  have HB2 : Hid (Below w.heap.size w (w1.alloc (.cells #[.string ⟨#[40]⟩, .string ⟨#[100, 101, 102]⟩, .string ⟨T.toArray⟩] 9))) := HB1.out.alloc (Nat.le_of_lt hz1) _
  have HT : Hid (Lib.itoa p = T) := hT
  clear hT
  have hcn : ([[40], [100, 101, 102], T] : List Wd).length + 8 * cnt B.length B (m : Int) ≤ 4096 := by
    have h1 := HL.out.2
    rw [HL.out.1] at h1
    rw [h1]
    simp only [List.length_cons, List.length_nil]
    omega
  have key := pw_all B.length m g c B w _ _ [[40], [100, 101, 102], T] (fit_of_may HM.out) HE.out HW.out HB2.out (by have := HMB.out; omega) (by have := HMB.out; omega) hcn HR0.out
  have KEY := hid key
  clear hcn key
  go_wp2_with fail
  rw [show ((B.length : Int) - 1) = (m : Int) by have := HMB.out; omega]
  refine Calls.mono KEY.out ?_
  rintro e w2 ⟨v2, rfl, h5, ho2⟩
  have HR2 : Hid (Wr w.heap.size w2 v2 ([[40], [100, 101, 102], T] ++ pw B.length B (lastAt B))) := by
    show Wr w.heap.size w2 v2 _
    rw [HL.out.1]; exact h5
  have HB3 : Hid (Below w.heap.size w w2) := HB2.out.trans (ho2.below HB2.out.size)
  have hz2 := HB3.out.size
  have hlen : ([[40], [100, 101, 102], T] ++ pw B.length B (lastAt B)).length ≤ 1000 := by
    have h6 := pw_len B B.length (lastAt B)
    rw [HL.out.2] at h6
    simp only [List.length_append, List.length_cons, List.length_nil]
    omega
  obtain ⟨u, hu⟩ : ∃ u, [[40], [100, 101, 102], T] ++ pw B.length B (lastAt B) = u := ⟨_, rfl⟩
  rw [hu] at HR2 hlen
  have HU : Hid (dw ⟨p, B⟩ = u ++ [[41]]) := by
    show _ = _
    rw [← hu, dw]
    simp only
    rw [HT.out]; simp
  clear hu h5 ho2 HB2 HR0 HL HB1 c1
  go_wp2_with (at_builtin; refine Lx.app_one rfl _ _ rfl w.heap.size v2 u [41] rfl rfl HR2.out hz2 (by omega) ?_)
  intro v3 w3 h3 hg3
  have H3 : Hid (Wr w.heap.size w3 v3 (u ++ [[41]])) := by show w3.ownsRow _ _ _ _ _ _; simpa using h3
  clear h3
  go_wp2
  go_ret
  refine ⟨v3, rfl, ?_, ?_⟩
  · rw [HU.out]; exact H3.out
  · exact (HB3.out.alloc hz2 _).grown hg3 (by rw [World.size_alloc]; omega) (fun a e => ((Lx.own_len HR2.out).choose_spec.choose_spec.2 a e).1)
/-- A row of words is kept by what a builder writes. -/
theorem wr_kept {B b n : Nat} {w w' : World} {v : Value} {us : List Wd} {bs : List Value} (h : Wr B w v us) (hb : Lib.IsBuilderF 51 5 n b bs w) (hk : Lib.OthersKept 5 (some b) w w') : Wr B w' v us := by
  refine ⟨h.1, ?_⟩
  rcases h.2 with h2 | ⟨g, cap, cur, hv, hg, hh, r⟩
  · exact Or.inl h2
  · refine Or.inr ⟨g, cap, cur, hv, hg, ?_, r⟩
    refine hk g _ hh (fun e => ?_) (fun _ _ e => by cases e)
    have e' : g = b := Option.some.inj e
    subst e'
    have : ∃ cs fz, w.heap[g]? = some (.cells cs 51 fz) := by
      rcases hb with ⟨_, v, hv, _⟩ | ⟨_, v, hv, _⟩ <;> exact ⟨_, _, hv⟩
    obtain ⟨cs, fz, e⟩ := this
    rw [hh] at e
    cases e
theorem wb_any (B b : Nat) (l : Wd) (x : UInt8) (w : World) (h : Lib.IsBuilderF 51 5 B b (Lib.byteCells l) w) (hl : l.length + 1 ≤ 140737488355328) (hB : B ≤ w.heap.size) :
    Calls Tryd.prog 37 #[.pointer (some ⟨b, 0, none⟩), .int .u8 (x.toNat : Int)] w fun e w' => e = .returned .nilIface ∧ Lib.IsBuilderF 51 5 B b (Lib.byteCells (l ++ [x])) w' ∧ Below B w w' ∧ Lib.OthersKept 5 (some b) w w' := by
  refine (Any.Builder_WriteByte_k Tryd.lays167 Tryd.Builder_Extra_167 B b (Lib.byteCells l) _ w h (by rw [Lib.byteCells_length]; exact hl) hB).mono ?_
  rintro e w' ⟨rfl, h1, h2, h3⟩
  refine ⟨rfl, ?_, h2, h3⟩
  rw [Lib.byteCells_append]
  exact Or.inr h1
theorem ws_any (B b : Nat) (l u : Wd) (w : World) (h : Lib.IsBuilderF 51 5 B b (Lib.byteCells l) w) (hl : l.length + u.length ≤ 140737488355328) (hB : B ≤ w.heap.size) :
    Calls Tryd.prog 38 #[.pointer (some ⟨b, 0, none⟩), .string (Lx.ba u)] w fun e w' => e = .returned (.tuple #[.int .i64 u.length, .nilIface]) ∧ Lib.IsBuilderF 51 5 B b (Lib.byteCells (l ++ u)) w' ∧ Below B w w' ∧ Lib.OthersKept 5 (some b) w w' := by
  refine (Any.Builder_WriteString_k Tryd.lays166 Tryd.Builder_Extra_166 B b (Lib.byteCells l) _ w h (by rw [Lib.byteCells_length, Lx.ba_size]; exact hl) hB).mono ?_
  rintro e w' ⟨rfl, h1, h2, h3⟩
  refine ⟨by rw [Lx.ba_size], ?_, h2, h3⟩
  rw [Lib.byteCells_append]
  exact Or.inr h1
theorem lw_get : ∀ (r : List Wd) (a : Wd), (a :: r)[r.length]? = some (lw a r)
  | [], a => rfl
  | b :: r, a => by rw [lw, ← lw_get r b]; rfl
theorem ln_app (a : Wd) (r v : List Wd) : ln1 ((a :: r) ++ v) = ln1 (a :: r) ++ ln2 (lw a r) v := by
  rw [List.cons_append, ln1, ln1, ln2_app, List.append_assoc]
theorem ln_step {us : List Wd} {j : Nat} (h : j < us.length) (h0 : 0 < j) {x y : Wd} (hx : us[j]? = some x) (hy : us[j - 1]? = some y) :
    ln1 (us.take (j + 1)) = ln1 (us.take j) ++ ((if y ≠ [40] ∧ x ≠ [41] then [32] else []) ++ x) := by
  have hx' : us[j] = x := by rw [List.getElem?_eq_getElem h] at hx; exact Option.some.inj hx
  rw [List.take_succ_eq_append_getElem h, hx']
  cases ht : us.take j with
  | nil => rw [List.take_eq_nil_iff] at ht; rcases ht with ht | ht
           · omega
           · rw [ht] at h; simp at h
  | cons a r =>
    have hl : r.length = j - 1 := by
      have := congrArg List.length ht
      rw [List.length_take, List.length_cons] at this
      omega
    have hlw : lw a r = y := by
      have h1 := lw_get r a
      rw [← ht, hl, List.getElem?_take_of_lt (by omega), hy] at h1
      exact (Option.some.inj h1).symm
    rw [ln_app, ln2, hlw, ln2, List.append_nil]
theorem ln_first {us : List Wd} {x : Wd} (hx : us[0]? = some x) : ln1 (us.take 1) = x := by
  cases us with
  | nil => cases hx
  | cons a r => cases hx; simp [ln1, ln2]
theorem ln_le (us : List Wd) (j : Nat) : (ln1 (us.take j)).length ≤ (ln1 us).length := by
  cases ht : us.take j with
  | nil => simp [ln1]
  | cons a r =>
    have e : us = (a :: r) ++ us.drop j := by rw [← ht, List.take_append_drop]
    rw [e, ln_app, List.length_append]; omega
set_option maxHeartbeats 1000000 in
set_option maxRecDepth 100000 in
theorem line_any (B b n : Nat) (l : Wd) (v : Value) (us : List Wd) (w : World) (hI : Lib.IsBuilderF 51 5 B b (Lib.byteCells l) w) (hR : Wr n w v us) (hl : l.length + (ln1 us).length + us.length ≤ 140737488355000) (hB : B ≤ w.heap.size) :
    Calls Tryd.prog 20 #[.pointer (some ⟨b, 0, none⟩), v] w fun e w' => e = .returned (.tuple #[]) ∧ Lib.IsBuilderF 51 5 B b (Lib.byteCells (l ++ (ln1 us ++ [10]))) w' ∧ Below B w w' ∧ Lib.OthersKept 5 (some b) w w' := by
  obtain ⟨g, c, rfl, _⟩ := Lx.own_len hR
  have HI : Hid (Lib.IsBuilderF 51 5 B b (Lib.byteCells l) w) := hI
  have HR : Hid (Wr n w (.slice g us.length c) us) := hR
  have HL : Hid (l.length + (ln1 us).length + us.length ≤ 140737488355000) := hl
  have HB : Hid (B ≤ w.heap.size) := hB
  clear hI hR hl hB
  go_enter Tryd.func20, Tryd.ntmps20
  go_wp2_with fail
  go_loopw [8] (fun s8 wr => ∃ j : Nat, j ≤ us.length ∧ s8 = .int .i64 (j : Int) ∧ Hid (Lib.IsBuilderF 51 5 B b (Lib.byteCells (l ++ ln1 (us.take j))) wr) ∧ Hid (Wr n wr (.slice g us.length c) us) ∧ Hid (Below B w wr) ∧ Hid (Lib.OthersKept 5 (some b) w wr))
    (fun s8 _ => us.length - (intOf s8).toNat)
  case atStart => exact ⟨0, Nat.zero_le _, rfl, by simpa [ln1] using HI, HR, Below.refl _ _, Lib.OthersKept.refl _ _ _⟩
  case round =>
    obtain ⟨j, hj, rfl, HI, HR, HW, HO⟩ := hrel
    have hlen : us.length ≤ 140737488355000 := by have := HL.out; omega
    by_cases hlt : j < us.length
    · have hlt' : (j : Int) < (us.length : Int) := by omega
      obtain ⟨x, hx⟩ : ∃ x, us[j]? = some x := ⟨_, List.getElem?_eq_getElem hlt⟩
      have hcell : ∃ q, g = some ⟨q, 0, none⟩ ∧ ∀ (i : Nat) y, us[i]? = some y → wr.cell? ⟨q, i, none⟩ = some (.string (Lx.ba y)) := by
        rcases HR.out.2 with ⟨h2, h3⟩ | ⟨q, cap, cur, hv, _⟩
        · omega
        · cases hv
          refine ⟨q, rfl, fun i y hy => ?_⟩
          have := HR.out.cells (g := q) rfl i (.string (Lx.ba y)) (by rw [List.getElem?_map, hy]; rfl)
          rw [Addr.add_lit, Nat.zero_add] at this
          exact this
      obtain ⟨q, rfl, hcell⟩ := hcell
      have hcx := hcell j x hx
      have hsz : B ≤ wr.heap.size := by have := HW.out.size; have := HB.out; omega
      have hul := ln_le us (j + 1)
      by_cases h0 : j = 0
      · subst h0
        have HS : Hid (ln1 (us.take (0 + 1)) = x) := ln_first hx
        have hxl : l.length + x.length ≤ 140737488355000 := by rw [HS.out] at hul; have := HL.out; omega
        have HI2 : Hid (Lib.IsBuilderF 51 5 B b (Lib.byteCells l) wr) := by
          show Lib.IsBuilderF 51 5 B b (Lib.byteCells l) wr
          simpa [ln1] using HI.out
        clear hul hcell HI hx
        go_wp2_with (go_at_call 38; refine (ws_any B b l x wr HI2.out (by omega) hsz).mono ?_)
        rintro e w1 ⟨rfl, h1, h2, h3⟩
        have HN : Hid (Lib.IsBuilderF 51 5 B b (Lib.byteCells (l ++ ln1 (us.take (0 + 1)))) w1 ∧ Wr n w1 (.slice (some ⟨q, 0, none⟩) us.length c) us ∧ Below B w w1 ∧ Lib.OthersKept 5 (some b) w w1) :=
          ⟨by rw [HS.out]; exact h1, wr_kept HR.out HI2.out h3, HW.out.trans h2, HO.out.trans h3⟩
        clear h1 h2 h3 HI2 HR HW HO HS
        go_wp2_with fail
        go_roundw
        case rel => exact ⟨1, by omega, rfl, HN.out.1, HN.out.2.1, HN.out.2.2.1, HN.out.2.2.2⟩
        case measure => simp [intOf]; omega
      · obtain ⟨y, hy⟩ : ∃ y, us[j - 1]? = some y := ⟨_, List.getElem?_eq_getElem (by omega)⟩
        have hcy := hcell (j - 1) y hy
        have hw1 : wrap64 ((j : Int) - 1) = ((j - 1 : Nat) : Int) := by unfold wrap64; omega
        have hj1 : (0 : Int) < (j : Int) := by omega
        have HS : Hid (ln1 (us.take (j + 1)) = ln1 (us.take j) ++ ((if y ≠ [40] ∧ x ≠ [41] then [32] else []) ++ x)) := ln_step hlt (by omega) hx hy
        obtain ⟨p, hp⟩ : ∃ p, l ++ ln1 (us.take j) = p := ⟨_, rfl⟩
        have hpl : p.length + x.length + (if y ≠ [40] ∧ x ≠ [41] then 1 else 0) ≤ 140737488355000 := by
          have h1 := hul
          rw [HS.out] at h1
          have h2 := HL.out
          rw [← hp]
          simp only [List.length_append] at h1 ⊢
          split at h1 <;> rename_i hc <;> simp only [List.length_cons, List.length_nil] at h1
          · rw [if_pos hc]; omega
          · rw [if_neg hc]; omega
        have HT : Hid (l ++ ln1 (us.take (j + 1)) = p ++ ((if y ≠ [40] ∧ x ≠ [41] then [32] else []) ++ x)) := by
          show _ = _
          rw [HS.out, ← hp, List.append_assoc]
        have HI2 : Hid (Lib.IsBuilderF 51 5 B b (Lib.byteCells p) wr) := by
          have := HI.out
          rw [hp] at this; exact this
        clear hul hcell HI hx hy hp HS
        by_cases hc : y ≠ [40] ∧ x ≠ [41]
        · rw [if_pos hc] at hpl
          have HT2 : Hid (l ++ ln1 (us.take (j + 1)) = (p ++ [32]) ++ x) := by show _ = _; rw [HT.out, if_pos hc, List.append_assoc]
          have e1 : ((Lx.ba y).toList == [40]) = false := by rw [Lib.toList_data]; rw [beq_eq_false_iff_ne]; exact hc.1
          have e2 : ¬ (Lx.ba y).toList = [40] := by rw [Lib.toList_data]; exact hc.1
          have e3 : ((Lx.ba x).toList == [41]) = false := by rw [Lib.toList_data]; rw [beq_eq_false_iff_ne]; exact hc.2
          have e4 : ¬ (Lx.ba x).toList = [41] := by rw [Lib.toList_data]; exact hc.2
          clear hc HT
          go_wp2_with (go_at_call 37; refine (wb_any B b p 32 wr HI2.out (by omega) hsz).mono ?_)
          rintro e w1 ⟨rfl, h1, h2, h3⟩
          have HI3 : Hid (Lib.IsBuilderF 51 5 B b (Lib.byteCells (p ++ [32])) w1) := h1
          have HN : Hid (Wr n w1 (.slice (some ⟨q, 0, none⟩) us.length c) us ∧ Below B w w1 ∧ Lib.OthersKept 5 (some b) w w1) :=
            ⟨wr_kept HR.out HI2.out h3, HW.out.trans h2, HO.out.trans h3⟩
          have hsz1 : B ≤ w1.heap.size := Nat.le_trans hsz h2.size
          clear h1 h2 h3 HI2 HR HW HO hsz hcx hcy
          go_wp2_with (go_at_call 38; refine (ws_any B b (p ++ [32]) x w1 HI3.out (by simp only [List.length_append, List.length_cons, List.length_nil]; omega) hsz1).mono ?_)
          rintro e w2 ⟨rfl, h1, h2, h3⟩
          have HM : Hid (Lib.IsBuilderF 51 5 B b (Lib.byteCells (l ++ ln1 (us.take (j + 1)))) w2 ∧ Wr n w2 (.slice (some ⟨q, 0, none⟩) us.length c) us ∧ Below B w w2 ∧ Lib.OthersKept 5 (some b) w w2) :=
            ⟨by rw [HT2.out]; exact h1, wr_kept HN.out.1 HI3.out h3, HN.out.2.1.trans h2, HN.out.2.2.trans h3⟩
          clear h1 h2 h3 HI3 HN HT2
          go_wp2_with fail
          go_roundw
          case rel => exact ⟨j + 1, by omega, by go_num, HM.out.1, HM.out.2.1, HM.out.2.2.1, HM.out.2.2.2⟩
          case measure => simp [intOf]; omega
        · rw [if_neg hc] at hpl
          have HT2 : Hid (l ++ ln1 (us.take (j + 1)) = p ++ x) := by show _ = _; rw [HT.out, if_neg hc]; rfl
          have HC : Hid (¬ (y ≠ [40] ∧ x ≠ [41])) := hc
          clear hc HT
          by_cases hy40 : y = [40]
          · have e1 : ((Lx.ba y).toList == [40]) = true := by rw [Lib.toList_data, hy40]; rfl
            have e2 : (Lx.ba y).toList = [40] := by rw [Lib.toList_data, hy40]; rfl
            clear hy40
            go_wp2_with (go_at_call 38; refine (ws_any B b p x wr HI2.out (by omega) hsz).mono ?_)
            rintro e w1 ⟨rfl, h1, h2, h3⟩
            have HM : Hid (Lib.IsBuilderF 51 5 B b (Lib.byteCells (l ++ ln1 (us.take (j + 1)))) w1 ∧ Wr n w1 (.slice (some ⟨q, 0, none⟩) us.length c) us ∧ Below B w w1 ∧ Lib.OthersKept 5 (some b) w w1) :=
              ⟨by rw [HT2.out]; exact h1, wr_kept HR.out HI2.out h3, HW.out.trans h2, HO.out.trans h3⟩
            clear h1 h2 h3 HI2 HR HW HO HT2 HC
            go_wp2_with fail
            go_roundw
            case rel => exact ⟨j + 1, by omega, by go_num, HM.out.1, HM.out.2.1, HM.out.2.2.1, HM.out.2.2.2⟩
            case measure => simp [intOf]; omega
          · have hx41 : x = [41] := by
              by_cases h : x = [41]
              · exact h
              · exact absurd ⟨hy40, h⟩ HC.out
            have e1 : ((Lx.ba y).toList == [40]) = false := by rw [Lib.toList_data]; rw [beq_eq_false_iff_ne]; exact hy40
            have e2 : ¬ (Lx.ba y).toList = [40] := by rw [Lib.toList_data]; exact hy40
            have e3 : ((Lx.ba x).toList == [41]) = true := by rw [Lib.toList_data, hx41]; rfl
            have e4 : (Lx.ba x).toList = [41] := by rw [Lib.toList_data, hx41]; rfl
            clear hy40 hx41
            go_wp2_with (go_at_call 38; refine (ws_any B b p x wr HI2.out (by omega) hsz).mono ?_)
            rintro e w1 ⟨rfl, h1, h2, h3⟩
            have HM : Hid (Lib.IsBuilderF 51 5 B b (Lib.byteCells (l ++ ln1 (us.take (j + 1)))) w1 ∧ Wr n w1 (.slice (some ⟨q, 0, none⟩) us.length c) us ∧ Below B w w1 ∧ Lib.OthersKept 5 (some b) w w1) :=
              ⟨by rw [HT2.out]; exact h1, wr_kept HR.out HI2.out h3, HW.out.trans h2, HO.out.trans h3⟩
            clear h1 h2 h3 HI2 HR HW HO HT2 HC
            go_wp2_with fail
            go_roundw
            case rel => exact ⟨j + 1, by omega, by go_num, HM.out.1, HM.out.2.1, HM.out.2.2.1, HM.out.2.2.2⟩
            case measure => simp [intOf]; omega
    · have ej : j = us.length := by omega
      subst ej
      rw [List.take_length] at HI
      have hsz : B ≤ wr.heap.size := by have := HW.out.size; have := HB.out; omega
      have hpl : (l ++ ln1 us).length + 1 ≤ 140737488355328 := by have := HL.out; rw [List.length_append]; omega
      go_wp2_with (go_at_call 37; refine (wb_any B b (l ++ ln1 us) 10 wr HI.out hpl hsz).mono ?_)
      rintro e w1 ⟨rfl, h1, h2, h3⟩
      have HM : Hid (Lib.IsBuilderF 51 5 B b (Lib.byteCells (l ++ (ln1 us ++ [10]))) w1 ∧ Below B w w1 ∧ Lib.OthersKept 5 (some b) w w1) :=
        ⟨by rw [← List.append_assoc]; exact h1, HW.out.trans h2, HO.out.trans h3⟩
      clear h1 h2 h3
      go_wp2
      go_end0
      exact ⟨rfl, HM.out.1, HM.out.2.1, HM.out.2.2⟩
end Go.Proofs.YtgjhpmkahicnkaaDoor

namespace Go.Proofs.YtgjhpmkahicnkaaDoor
open Go.RowKit
set_option linter.unusedVariables false

set_option maxHeartbeats 400000 in
theorem limited_yes (t : Wd) (w : World) (h : t.length ≤ 2048) :
    Calls Tryd.prog 22 #[.string (Lx.ba t)] w fun e w' => e = .returned (.tuple #[.string (Lx.ba t), .int .i64 0]) ∧ w = w' := by
  rw [← Lx.ba_size t] at h
  obtain ⟨s, hse⟩ : ∃ s, Lx.ba t = s := ⟨_, rfl⟩
  rw [hse] at h ⊢
  clear hse
  have h2 : ¬ (s.size : Int) > 2048 := by omega
  go_enter Tryd.func22, Tryd.ntmps22
  go_wp2
  go_ret2
  exact ⟨rfl, rfl⟩
set_option maxHeartbeats 400000 in
theorem limited_no (t : Wd) (w : World) (h : ¬ t.length ≤ 2048) :
    Calls Tryd.prog 22 #[.string (Lx.ba t)] w fun e w' => e = .returned (.tuple #[.string ⟨#[]⟩, .int .i64 800]) ∧ w = w' := by
  rw [← Lx.ba_size t] at h
  obtain ⟨s, hse⟩ : ∃ s, Lx.ba t = s := ⟨_, rfl⟩
  rw [hse] at h ⊢
  clear hse
  have h2 : (s.size : Int) > 2048 := by omega
  go_enter Tryd.func22, Tryd.ntmps22
  go_wp2
  go_ret2
  exact ⟨rfl, rfl⟩
theorem str_any (B b : Nat) (l : Wd) (w : World) (h : Lib.IsBuilderF 51 5 B b (Lib.byteCells l) w) (hB : B ≤ w.heap.size) :
    Calls Tryd.prog 23 #[.pointer (some ⟨b, 0, none⟩)] w fun e w' => e = .returned (.string (Lx.ba l)) ∧ Below B w w' := by
  refine (Any.Builder_String_any_k Tryd.lays169 Tryd.Builder_Extra_169 B b l w h hB).mono ?_
  rintro e w' ⟨rfl, h1, h2, h3⟩
  exact ⟨rfl, h2⟩
/-- A builder is kept by what turns nothing that lay. -/
theorem isb_below {T e B b : Nat} {bs : List Value} {w w' : World} (h : Lib.IsBuilderF T e B b bs w) (hb : Below w.heap.size w w') : Lib.IsBuilderF T e B b bs w' := by
  have key : ∀ p, Lib.BuilderAtF T e B b p bs w → Lib.BuilderAtF T e B b p bs w' := by
    rintro p ⟨hB, v, hv, ho, hne⟩
    refine ⟨hB, v, (hb.block b (Array.getElem?_eq_some_iff.1 hv).1).trans hv, ⟨ho.1, ?_⟩, hne⟩
    rcases ho.2 with h2 | ⟨g, cap, cur, fz, e1, e2, e3, r⟩
    · exact Or.inl h2
    · exact Or.inr ⟨g, cap, cur, fz, e1, e2, (hb.block g (Array.getElem?_eq_some_iff.1 e3).1).trans e3, r⟩
  exact h.imp (key _) (key _)
theorem dw_len {d : Df} (h : may d.params d.body = true) : (dw d).length ≤ 1000 := by
  have h1 := pw_len d.body d.body.length (lastAt d.body)
  rw [cnt_all h] at h1
  have := may_len h
  simp only [dw, List.length_append, List.length_cons, List.length_nil]
  omega
set_option maxHeartbeats 1000000 in
set_option maxRecDepth 100000 in
theorem text_any (g : Option Addr) (c : Nat) (ds : List Df) (w : World) (hd : Defs Exs w g ds) (hw : Tm.Lw w) :
    Calls Tryd.prog 8 #[.agg #[.slice g ds.length c]] w fun e w' => e = .returned (.tuple #[.string (Lx.ba (txS ds)), .int .i64 (erS ds)]) ∧ Below w.heap.size w w' := by
  have hb0 : Below w.heap.size w (w.alloc (.cells #[.slice g ds.length c] 24)) := (Below.refl _ w).alloc (Nat.le_refl _) _
  have hX0 := Bx1.new w (.slice g ds.length c)
  have HD : Hid (Defs Exs w g ds) := hd
  have HW : Hid (Tm.Lw w) := hw
  have HB0 := hid hb0
  have HX0 := hid hX0
  by_cases hp : pmay ds = true
  · have hm := pmay_mays hp
    have h8 : ds.length ≤ 8 := by
      have h := hp
      unfold pmay at h
      simp only [Bool.and_eq_true] at h
      have := of_decide_eq_true h.1.1
      omega
    have HM := hid hm
    have HOK : Hid (okS ds = decide ((showS ds).length ≤ 2048)) := by show _ = _; unfold okS; rw [hp]; rfl
    clear hd hw hb0 hX0 hm
    go_enter Tryd.func8, Tryd.ntmps8
    go_wp2_with (go_at_call 19; refine (pmay_any g c ds _ (HD.out.on HB0.out)).mono ?_)
    rintro e w1 ⟨rfl, hb1⟩
    rw [hp]
    have HX1 : Hid (Bx1 w1 w.heap.size (.slice g ds.length c)) := HX0.out.on hb1
    have HB1 : Hid (Below w.heap.size w w1) := Lx.below_next HB0.out hb1
    have x0 := HX1.out.c0
    have hz1 := HX1.out.lt
    have HLW : Hid (Tm.Lw w1) := Tm.Lw.on HW.out HB1.out
    have HI0 : Hid (Lib.IsBuilderF 51 5 w1.heap.size w1.heap.size (Lib.byteCells []) (w1.alloc (.cells #[.pointer none, .slice none 0 0] 51))) := Lib.IsBuilderF.of (Lib.fresh_isBuilder 51 5 w1)
    clear hb1 HX0 HB0 hp
    go_wp2_with fail
    go_loopw [13] (fun s1 wr => ∃ j : Nat, j ≤ ds.length ∧ s1 = .int .i64 (j : Int) ∧ Hid (Lib.IsBuilderF 51 5 w1.heap.size w1.heap.size (Lib.byteCells (lines (ds.take j))) wr) ∧ Hid (Below w1.heap.size w1 wr))
      (fun s1 _ => ds.length - (intOf s1).toNat)
    case atStart => exact ⟨0, Nat.zero_le _, rfl, HI0, (Below.refl _ w1).alloc (Nat.le_refl _) _⟩
    case round =>
      obtain ⟨j, hj, rfl, HI, HO⟩ := hrel
      by_cases hlt : j < ds.length
      · have hlt' : (j : Int) < (ds.length : Int) := by omega
        have hbr : Below w.heap.size w wr := Lx.below_next HB1.out HO.out
        obtain ⟨bk, o, rfl, hbk, gk, ck, k0, k1, hE⟩ := HD.out.at hlt
        have hmj := HM.out ds[j] (List.getElem_mem hlt)
        have hdt : ds.take (j + 1) = ds.take j ++ [ds[j]] := List.take_succ_eq_append_getElem hlt
        obtain ⟨⟨pp, B⟩, hdj⟩ : ∃ d, ds[j] = d := ⟨_, rfl⟩
        rw [hdj] at k0 k1 hE hmj hdt
        have q0 : wr.cell? ⟨bk, o + j * 2, none⟩ = some (.int .i64 pp) := (hbr.cell (p := ⟨bk, o + j * 2, none⟩) hbk).trans k0
        have q1 : wr.cell? ⟨bk, o + j * 2 + 1, none⟩ = some (.slice gk B.length ck) := (hbr.cell (p := ⟨bk, o + j * 2 + 1, none⟩) hbk).trans k1
        have hba : Below wr.heap.size wr (wr.alloc (.cells #[.int .i64 pp, .slice gk B.length ck] 43)) := (Below.refl _ wr).alloc (Nat.le_refl _) _
        have HEJ : Hid (Exs (wr.alloc (.cells #[.int .i64 pp, .slice gk B.length ck] 43)) gk B) := (hE.on hbr).on hba
        have HMJ : Hid (may pp B = true) := hmj
        have HLN : Hid (lines (ds.take (j + 1)) = lines (ds.take j) ++ (ln1 (dw ⟨pp, B⟩) ++ [10])) := by
          show _ = _
          rw [hdt]; simp [lines]
        have HLE : Hid ((lines (ds.take (j + 1))).length ≤ 100000000000000) := by
          show _ ≤ _
          have hmt : ∀ d ∈ ds.take (j + 1), may d.params d.body = true := fun d hd => HM.out d (List.mem_of_mem_take hd)
          rw [lines_show hmt]
          have h1 := show_le hmt
          have h2 : (ds.take (j + 1)).length ≤ 8 := by rw [List.length_take]; omega
          omega
        have HLR : Hid (Tm.Lw (wr.alloc (.cells #[.int .i64 pp, .slice gk B.length ck] 43))) := Tm.Lw.on HLW.out (HO.out.trans (hba.mono HO.out.size))
        have HBA := hid hba
        have hzr : w1.heap.size ≤ wr.heap.size := HO.out.size
        clear hbr k0 k1 hE hmj hdt hdj hbk hba
        go_wp2_with (go_at_call 21; refine (defWords_any pp gk ck B _ HMJ.out HEJ.out HLR.out).mono ?_)
        rintro e w2 ⟨v2, rfl, hR2, hb2⟩
        have HI2 : Hid (Lib.IsBuilderF 51 5 w1.heap.size w1.heap.size (Lib.byteCells (lines (ds.take j))) w2) := isb_below HI.out (Lx.below_next HBA.out hb2)
        have HO2 : Hid (Below w1.heap.size w1 w2) := HO.out.trans ((Lx.below_next HBA.out hb2).mono hzr)
        have HR2 := hid hR2
        have hsz : w1.heap.size ≤ w2.heap.size := HO2.out.size
        have hll : (lines (ds.take j)).length + (ln1 (dw ⟨pp, B⟩)).length + (dw ⟨pp, B⟩).length ≤ 140737488355000 := by
          have h1 := HLE.out
          rw [HLN.out] at h1
          have h2 := dw_len (d := ⟨pp, B⟩) HMJ.out
          simp only [List.length_append, List.length_cons, List.length_nil] at h1
          omega
        clear hR2 hb2 HI HO HEJ HLR HBA
        go_wp2_with (go_at_call 20; refine (line_any w1.heap.size w1.heap.size _ (lines (ds.take j)) v2 (dw ⟨pp, B⟩) w2 HI2.out HR2.out hll hsz).mono ?_)
        rintro e w3 ⟨rfl, h1, h2, _⟩
        have HI3 : Hid (Lib.IsBuilderF 51 5 w1.heap.size w1.heap.size (Lib.byteCells (lines (ds.take (j + 1)))) w3) := by
          show Lib.IsBuilderF 51 5 w1.heap.size w1.heap.size _ w3
          rw [HLN.out]; exact h1
        have HO3 : Hid (Below w1.heap.size w1 w3) := HO2.out.trans h2
        clear h1 h2 HI2 HO2 HR2
        go_wp2_with fail
        go_roundw
        case rel => exact ⟨j + 1, by omega, by go_num, HI3, HO3⟩
        case measure => simp [intOf]; omega
      · have ej : j = ds.length := by omega
        subst ej
        rw [List.take_length] at HI
        go_wp2_with (go_at_call 23; refine (str_any w1.heap.size w1.heap.size (lines ds) wr HI.out HO.out.size).mono ?_)
        rintro e w2 ⟨rfl, hb2⟩
        have HB2 : Hid (Below w.heap.size w w2) := Lx.below_next HB1.out (HO.out.trans hb2)
        have HSH : Hid (lines ds = showS ds) := lines_show HM.out
        clear hb2
        by_cases h20 : (lines ds).length ≤ 2048
        · have e0 : okS ds = true := by rw [HOK.out, ← HSH.out]; exact decide_eq_true h20
          have e1 : Hid (txS ds = lines ds) := by show _ = _; unfold txS; rw [e0, if_pos rfl, HSH.out]
          have e2 : Hid (erS ds = 0) := by show _ = _; unfold erS; rw [e0]; rfl
          have H20 := hid h20
          clear h20 e0
          go_wp2_with (go_at_call 22; refine (limited_yes (lines ds) w2 H20.out).mono ?_)
          rintro e w3 ⟨rfl, rfl⟩
          go_wp2
          rw [e1.out, e2.out]
          go_ret2
          exact ⟨rfl, HB2.out⟩
        · have e0 : okS ds = false := by rw [HOK.out, ← HSH.out]; exact decide_eq_false h20
          have e1 : Hid (txS ds = []) := by show _ = _; unfold txS; rw [e0]; rfl
          have e2 : Hid (erS ds = 800) := by show _ = _; unfold erS; rw [e0]; rfl
          have H20 := hid h20
          clear h20 e0
          go_wp2_with (go_at_call 22; refine (limited_no (lines ds) w2 H20.out).mono ?_)
          rintro e w3 ⟨rfl, rfl⟩
          go_wp2
          rw [e1.out, e2.out]
          go_ret2
          exact ⟨rfl, HB2.out⟩
  · have hp' : pmay ds = false := by simpa using hp
    have e1 : txS ds = [] := by unfold txS okS; rw [hp']; rfl
    have e2 : erS ds = 800 := by unfold erS okS; rw [hp']; rfl
    rw [e1, e2]
    clear hd hw hb0 hX0 hp e1 e2
    go_enter Tryd.func8, Tryd.ntmps8
    go_wp2_with (go_at_call 19; refine (pmay_any g c ds _ (HD.out.on HB0.out)).mono ?_)
    rintro e w1 ⟨rfl, hb1⟩
    rw [hp']
    go_wp2
    go_ret2
    exact ⟨rfl, Lx.below_next HB0.out hb1⟩
end Go.Proofs.YtgjhpmkahicnkaaDoor
