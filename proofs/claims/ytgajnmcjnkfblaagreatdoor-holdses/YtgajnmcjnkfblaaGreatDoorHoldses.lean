/- sleuthlaw10.Holdses returns true at every program, node and fuel: package holds answers as the document does, and what is handed in stays as it is. The condition is the card's own: the five listed tables and variables of Go's library read as the program's text lays them; a program, node or text that comes in is no larger than the claim's bound. -/
import Derived.Test.YtgajnmcjnkfblaaGreatDoorMLaid
import Derived.Laws.OwnMore
import Derived.Laws.IdiomStrings
import Derived.Deep.OwnRows
import Derived.SizedLaws
import Derived.ChangeMaps5
import Derived.WalkKit
import Derived.ProofKit
import Derived.OpenShut
import Derived.Test.YtgajnmcjnkfblaaGreatDoorMHRf
import Derived.Test.YtgajnmcjnkfblaaGreatDoorMHRh
import Derived.Test.YtgajnmcjnkfblaaGreatDoorMHLaw
import Derived.Test.YtgajnmcjnkfblaaGreatDoorMCopy
import Derived.Test.YtgajnmcjnkfblaaGreatDoorMSame
namespace Go.Proofs.YtgajnmcjnkfblaaGreatDoor.holdses
open Go.RowKit
set_option linter.unusedVariables false
theorem BU.alloc {U V : World} (h : Below U.heap.size U V) (o : Obj) : Below U.heap.size U (V.alloc o) := Below.alloc h h.size o
theorem BU.drew {U V : World} (h : Below U.heap.size U V) : Below U.heap.size U V.drew := Below.drew h
theorem BU.next {U V W : World} (h : Below U.heap.size U V) (h1 : Below V.heap.size V W) : Below U.heap.size U W := Lx.below_next h h1
theorem BU.set {U V : World} (h : Below U.heap.size U V) {z : Nat} (hz : U.heap.size ≤ z) (j : Nat) (u : Value) : Below U.heap.size U (V.setCell ⟨z, j, none⟩ u) := h.setCell (p := ⟨z, j, none⟩) hz u
theorem ArrC.newz {W : World} {z : Nat} {fn par : Int} {ga : Option Addr} {na ca : Nat} {res : ByteArray} (hz : z = W.heap.size) : ArrC (W.alloc (.cells #[.int .i64 fn, .int .i64 par, .slice ga na ca, .string res] 52)) z fn par ga na ca res := by
  subst hz; exact ArrC.new W fn par ga na ca res
theorem bx_newz {W : World} {z : Nat} (v : Value) (hz : z = W.heap.size) : Bx1 (W.alloc (.cells #[v] 24)) z v := by subst hz; exact Bx1.new W v
theorem bx_drew {W : World} {z : Nat} {v : Value} (h : Bx1 W z v) : Bx1 W.drew z v := h.on (Below.refl _ W).drew
theorem cutH {P Q : Prop} (h : P) (k : P → Q) : Q := k h
/-- Where the copies stand. -/
def At (U : World) (ds : List Df) (nd : Nd) (g1 : Option Addr) (n c1 : Nat) (g2 : Option Addr) (c2 : Nat) (V : World) (z : Nat) : Prop :=
  Below U.heap.size U V ∧ U.heap.size ≤ z ∧ Bx1 V z (.slice g1 n c1) ∧ Defs Exs V g1 ds ∧ ∃ B, NGr B V (.slice g2 1 c2) [nd]
theorem At.fresh {U w1 w2 : World} {ds : List Df} {nd : Nd} {g1 g2 : Option Addr} {n c1 c2 B1 B2 : Nat} (hb : Below U.heap.size U w2) (h12 : Below w1.heap.size w1 w2) (hq : ∃ qs : List Dt, qs.map (·.1) = ds ∧ qs.length = n ∧ Pd w1 B1 (.slice g1 n c1) qs) (hn : NGr B2 w2 (.slice g2 1 c2) [nd]) :
    At U ds nd g1 n c1 g2 c2 (w2.alloc (.cells #[.slice g1 n c1] 24)) w2.heap.size := by
  obtain ⟨qs, h1, h2, h3⟩ := hq
  subst h2
  have h4 := (h3.on h12).alloc (.cells #[.slice g1 qs.length c1] 24)
  have h5 := h4.defs
  rw [h1] at h5
  exact ⟨BU.alloc hb _, hb.size, Bx1.new w2 _, h5, B2, hn.next ((Below.refl _ w2).alloc (Nat.le_refl _) _)⟩
theorem At.old {U w1 w2 : World} {ds : List Df} {nd : Nd} {g1 g2 : Option Addr} {n c1 c2 B1 B2 z : Nat} {u : Value} (hb : Below U.heap.size U w2) (h12 : Below w1.heap.size w1 w2) (hq : ∃ qs : List Dt, qs.map (·.1) = ds ∧ qs.length = n ∧ Pd w1 B1 (.slice g1 n c1) qs) (hn : NGr B2 w2 (.slice g2 1 c2) [nd])
    (hz : Bx1 w2 z u) (hU : U.heap.size ≤ z) (hzB : z < B2) :
    At U ds nd g1 n c1 g2 c2 (w2.setCell ⟨z, 0, none⟩ (.slice g1 n c1)) z := by
  obtain ⟨qs, h1, h2, h3⟩ := hq
  subst h2
  have h4 := (h3.on h12).far hz 0 (.slice g1 qs.length c1)
  have h5 := h4.defs
  rw [h1] at h5
  exact ⟨BU.set hb hU _ _, hU, hz.set0 _, h5, B2, hn.far hzB _ _⟩
theorem At.on {U V V' : World} {ds : List Df} {nd : Nd} {g1 g2 : Option Addr} {n c1 c2 z : Nat} (h : At U ds nd g1 n c1 g2 c2 V z) (hb : Below V.heap.size V V') : At U ds nd g1 n c1 g2 c2 V' z := by
  obtain ⟨h1, h2, h3, h4, B, h5⟩ := h
  exact ⟨BU.next h1 hb, h2, h3.on hb, h4.on hb, B, h5.next hb⟩
set_option hygiene false in
macro "hsz" : tactic => `(tactic| first | exact Nat.le_refl _ | exact HB1.out.size | (have := HB1.out.size; omega) | (have := HB1.out.size; have := HB2.out.size; simp; done) | (have := HB1.out.size; have := HB2.out.size; simp; omega) | (have := HB1.out.size; simp; done) | (have := HB1.out.size; simp; omega) | (simp; done) | (simp; omega))
set_option hygiene false in
macro "bel" : tactic => `(tactic| repeat (first | with_reducible exact HB2.out | with_reducible exact HB1.out | with_reducible exact HBU.out | with_reducible refine BU.drew ?_ | with_reducible refine BU.alloc ?_ _ | (with_reducible refine BU.set ?_ ?_ _ _; rotate_left; (· hsz))))
macro "bel1" : tactic => `(tactic| repeat (first | with_reducible exact Below.refl _ _ | with_reducible refine BU.drew ?_ | with_reducible refine BU.alloc ?_ _))
set_option hygiene false in
macro "bel2" : tactic => `(tactic| repeat (first | with_reducible exact HB7.out | with_reducible exact HB6.out | with_reducible exact HB5.out | with_reducible exact HB4.out | with_reducible exact HB3.out | with_reducible exact HVV.out | with_reducible refine BU.drew ?_ | with_reducible refine BU.alloc ?_ _))
set_option hygiene false in
macro "arr" : tactic => `(tactic| repeat (first | (with_reducible refine ArrC.newz ?_; simp; done) | with_reducible refine ArrC.drew ?_ | with_reducible refine ArrC.alloc ?_ _ | with_reducible refine ArrC.on ?_ hb1))
set_option hygiene false in
macro "bxx" : tactic => `(tactic| repeat (first | (with_reducible refine bx_newz _ ?_; simp; done) | with_reducible refine bx_drew ?_ | with_reducible refine Bx1.alloc ?_ _ | with_reducible refine Bx1.on ?_ hb1))
set_option maxRecDepth 100000 in
set_option maxHeartbeats 1600000 in
/-- The walk: the law's Go text returns true. -/
theorem walk (g : Option Addr) (ds : List Df) (c : Nat) (n : Nd) (ga : Option Addr) (ca : Nat) (fuel : Int) (w : World) (hd : Defs ExsN w g ds) (hb : ds.length * 32 ≤ 140737488351232) (hk : ∀ d ∈ ds, DBd d) (hi : StI w ga n.args ca) (hbn : NBd n) (hw : Tm.Lw w) :
    Calls Tryz.prog 6 #[.agg #[.slice g ds.length c], .agg #[.int .i64 n.fn, .int .i64 n.par, .slice ga n.args.length ca, .string n.res], .int .i64 fuel] w fun e w' => e = .returned (.bool true) ∧ Below w.heap.size w w' := by
  obtain ⟨fn, par, xs, res⟩ := n
  simp only [] at hi ⊢
  have HN : Hid (ds.length ≤ 4611686018427387904 ∧ ∀ d ∈ ds, d.body.length ≤ 4611686018427387904 ∧ ∀ x ∈ d.body, x.kids.length ≤ 4611686018427387904) := by
    refine ⟨by omega, fun d h => ?_⟩
    have h1 : d.body.length * 48 ≤ 140737488351232 := (hk d h).1
    refine ⟨by omega, fun x hx => ?_⟩
    have h2 : x.kids.length * 8 ≤ 140737488351232 := (hk d h).2 x hx
    omega
  have HB : Hid (xs.length * 16 ≤ 140737488351232 ∧ (∀ x ∈ xs, x.size ≤ 140737488355328) ∧ res.size ≤ 140737488355328) := ⟨hbn.1, fun x h => Nat.le_trans (hbn.2.1 x h) (by decide), Nat.le_trans hbn.2.2 (by decide)⟩
  obtain ⟨U, hU⟩ : ∃ U, ((w.alloc (.cells #[.slice g ds.length c] 24)).alloc (.cells #[.int .i64 fn, .int .i64 par, .slice ga xs.length ca, .string res] 52)) = U := ⟨_, rfl⟩
  have hwU : Below w.heap.size w U := by rw [← hU]; exact ((Below.refl _ w).alloc (Nat.le_refl _) _).alloc (by simp) _
  have HWU := hid hwU
  have HD : Hid (∀ V, Below U.heap.size U V → Defs ExsN V g ds) := fun V h => hd.onE (E' := ExsN) (hwU.trans (h.mono hwU.size)) (fun _ _ k => k.on (hwU.trans (h.mono hwU.size)))
  have HDX : Hid (∀ V, Below U.heap.size U V → Defs Exs V g ds) := fun V h => hd.onE (E' := Exs) (hwU.trans (h.mono hwU.size)) (fun _ _ k => k.exs.on (hwU.trans (h.mono hwU.size)))
  have HI : Hid (∀ V, Below U.heap.size U V → StI V ga xs ca) := fun V h => hi.on (hwU.trans (h.mono hwU.size))
  have HW : Hid (∀ V, Below U.heap.size U V → Tm.Lw V) := fun V h => Tm.Lw.on hw (hwU.trans (h.mono hwU.size))
  have hp0 : Bx 24 U w.heap.size #[.slice g ds.length c] := by rw [← hU]; exact (Bx.new 24 w _).alloc _
  have hx0 : Bx 52 U (w.heap.size + 1) #[.int .i64 fn, .int .i64 par, .slice ga xs.length ca, .string res] := by
    have h := Bx.new 52 (w.alloc (.cells #[.slice g ds.length c] 24)) #[.int .i64 fn, .int .i64 par, .slice ga xs.length ca, .string res]
    rw [World.size_alloc, hU] at h; exact h
  have HCP : Hid (∀ V, Below U.heap.size U V → Calls Tryz.prog 9 #[.agg #[.slice g ds.length c]] V fun e w' => ∃ g' c', e = .returned (.agg #[.slice g' ds.length c']) ∧ (∃ qs : List Dt, qs.map (·.1) = ds ∧ qs.length = ds.length ∧ Pd w' (V.heap.size + 2) (.slice g' ds.length c') qs) ∧ Below V.heap.size V w') := fun V h =>
    (copyprog_any g c ds V (HD.out V h) hb hk).mono (fun e w' ⟨g', c', h1, ⟨qs, h2, h3, h4, _⟩, h5⟩ => ⟨g', c', h1, ⟨qs, h2, h3, h4⟩, h5⟩)
  have HCN : Hid (∀ V b, Below U.heap.size U V → ArrC V b fn par ga xs.length ca res → Calls Tryz.prog 20 #[.slice (some ⟨b, 0, none⟩) 1 1] V fun e w' => ∃ g' c', e = .returned (.slice g' 1 c') ∧ NGr V.heap.size w' (.slice g' 1 c') [⟨fn, par, xs, res⟩] ∧ Below V.heap.size V w') := fun V b h ha =>
    copynodes_any (some ⟨b, 0, none⟩) 1 [⟨fn, par, xs, res⟩] V (ha.nds (HI.out V h)) (by simp) (fun n hn => by rw [List.mem_singleton.1 hn]; exact HB.out.1)
  have HALL : Hid (∀ V, Below U.heap.size U V → Below U.heap.size U V ∧ V.cell? ⟨w.heap.size, 0, none⟩ = some (.slice g ds.length c) ∧ V.cell? ⟨w.heap.size + 1, 0, none⟩ = some (.int .i64 fn) ∧ V.cell? ⟨w.heap.size + 1, 1, none⟩ = some (.int .i64 par) ∧ V.cell? ⟨w.heap.size + 1, 2, none⟩ = some (.slice ga xs.length ca) ∧ V.cell? ⟨w.heap.size + 1, 3, none⟩ = some (.string res)) := fun V h =>
    ⟨h, (hp0.next h).cell 0 _ rfl, (hx0.next h).cell 0 _ rfl, (hx0.next h).cell 1 _ rfl, (hx0.next h).cell 2 _ rfl, (hx0.next h).cell 3 _ rfl⟩
  have HBU : Hid (Below U.heap.size U U) := Below.refl _ _
  have HU := hid hU
  have HSZ : Hid (U.heap.size = w.heap.size + 2) := by show _ = _; rw [← hU]; simp
  obtain ⟨n, hnn⟩ : ∃ n, ds.length = n := ⟨_, rfl⟩
  have HNN := hid hnn
  obtain ⟨m, hmm⟩ : ∃ m, xs.length = m := ⟨_, rfl⟩
  have HMM := hid hmm
  simp only [hnn] at HCP HALL hU ⊢
  simp only [hmm] at HCN HALL hU ⊢
  obtain ⟨hbu, p0, x0, x1, x2, x3⟩ := HALL.out U HBU.out
  clear hd hb hk hi hbn hw hwU hp0 hx0 hnn hmm
  go_enter Tryz.func6, Tryz.ntmps6
  go_wp2_with fail
  first | rw [hU] | skip
  clear hU

  go_region_held3 (fun V => Below U.heap.size U V ∧ V.cell? ⟨w.heap.size, 0, none⟩ = some (.slice g n c) ∧ V.cell? ⟨w.heap.size + 1, 0, none⟩ = some (.int .i64 fn) ∧ V.cell? ⟨w.heap.size + 1, 1, none⟩ = some (.int .i64 par) ∧ V.cell? ⟨w.heap.size + 1, 2, none⟩ = some (.slice ga m ca) ∧ V.cell? ⟨w.heap.size + 1, 3, none⟩ = some (.string res))
    (exact HALL.out _ (by bel))
    ((first | (go_at_call 9; refine (HCP.out _ ?_).mono ?_; (· bel); rintro e w1 ⟨g1, c1, rfl, hq1, hb1⟩; have HB1 : Hid (Below U.heap.size U w1) := (by refine BU.next ?_ hb1; bel); have HQ1 := hid hq1; clear hq1; (try (refine cutH (P := Bx1 w1 U.heap.size (.slice none 0 0)) ?_ (fun z1 => ?_); (· refine Bx1.on ?_ hb1; bxx))); (try (refine cutH (P := Bx1 w1 (U.heap.size + 1) (.slice none 0 0)) ?_ (fun z2 => ?_); (· refine Bx1.on ?_ hb1; bxx))); (try have z1c := z1.c0); (try have z1l := z1.lt); (try have z1f := z1.frozen 0); (try have z2c := z2.c0); (try have z2l := z2.lt); (try have z2f := z2.frozen 0)) | (go_at_call 20; refine (HCN.out _ _ ?_ ?_).mono ?_; (· bel); (· arr); rintro e w2 ⟨g2, c2, rfl, hn2, hb2⟩; have HB2 : Hid (Below U.heap.size U w2) := (by refine BU.next ?_ hb2; bel); have HN2 := hid hn2; clear hn2; have HB12 : Hid (Below w1.heap.size w1 w2) := (by refine BU.next ?_ hb2; bel1); (try (refine cutH (P := Bx1 w2 U.heap.size (.slice none 0 0)) ?_ (fun z3 => ?_); (· refine Bx1.on ?_ hb2; bxx))); (try have z3c := z3.c0); (try have z3l := z3.lt); (try have z3f := z3.frozen 0); (try (refine cutH (P := Bx1 w2 (U.heap.size + 1) (.slice none 0 0)) ?_ (fun z4 => ?_); (· refine Bx1.on ?_ hb2; bxx))); (try have z4c := z4.c0); (try have z4l := z4.lt); (try have z4f := z4.frozen 0); (try (refine cutH (P := Bx1 w2 w1.heap.size (.slice none 0 0)) ?_ (fun z5 => ?_); (· refine Bx1.on ?_ hb2; bxx))); (try have z5c := z5.c0); (try have z5l := z5.lt); (try have z5f := z5.frozen 0); (try (refine cutH (P := Bx1 w2 (w1.heap.size + 1) (.slice none 0 0)) ?_ (fun z6 => ?_); (· refine Bx1.on ?_ hb2; bxx))); (try have z6c := z6.c0); (try have z6l := z6.lt); (try have z6f := z6.frozen 0))))
  all_goals
    first
      | (refine grabE (fun V => Hid (At U ds ⟨fn, par, xs, res⟩ g1 n c1 g2 c2 V w2.heap.size)) (At.fresh HB2.out HB12.out HQ1.out HN2.out) (fun V HV => ?_); generalize w2.heap.size = z at HV ⊢)
      | (refine grabE (fun V => Hid (At U ds ⟨fn, par, xs, res⟩ g1 n c1 g2 c2 V w1.heap.size)) (At.old HB2.out HB12.out HQ1.out HN2.out (by assumption) (by hsz) (by first | (simp; done) | (simp; omega) | (have h9 := hb1.size; simp at h9 ⊢; omega))) (fun V HV => ?_); generalize w1.heap.size = z at HV ⊢)
      | (refine grabE (fun V => Hid (At U ds ⟨fn, par, xs, res⟩ g1 n c1 g2 c2 V (w1.heap.size + 1))) (At.old HB2.out HB12.out HQ1.out HN2.out (by assumption) (by hsz) (by first | (simp; done) | (simp; omega) | (have h9 := hb1.size; simp at h9 ⊢; omega))) (fun V HV => ?_); generalize (w1.heap.size + 1) = z at HV ⊢)
      | (refine grabE (fun V => Hid (At U ds ⟨fn, par, xs, res⟩ g1 n c1 g2 c2 V U.heap.size)) (At.old HB2.out HB12.out HQ1.out HN2.out (by assumption) (by hsz) (by first | (simp; done) | (simp; omega) | (have h9 := hb1.size; simp at h9 ⊢; omega))) (fun V HV => ?_); generalize U.heap.size = z at HV ⊢)
      | (refine grabE (fun V => Hid (At U ds ⟨fn, par, xs, res⟩ g1 n c1 g2 c2 V (U.heap.size + 1))) (At.old HB2.out HB12.out HQ1.out HN2.out (by assumption) (by hsz) (by first | (simp; done) | (simp; omega) | (have h9 := hb1.size; simp at h9 ⊢; omega))) (fun V HV => ?_); generalize (U.heap.size + 1) = z at HV ⊢)
  all_goals
    obtain ⟨hbV, hzU, hbx, hdf, B, hng⟩ := HV.out
    obtain ⟨bk, cc, gx, cx, ev, hbk, ⟨y0, y1, y2, y3⟩, htx⟩ := hng.at (j := 0) rfl
    obtain ⟨rfl, _, rfl⟩ : g2 = some ⟨bk, 0, none⟩ ∧ True ∧ c2 = cc := by
      have e := ev
      injection e with e1 e2 e3
      exact ⟨e1, trivial, e3⟩
    simp only [Nat.zero_mul, Nat.zero_add] at y0 y1 y2 y3
    have HBK := hid hbk
    have HBX := hid hbx
    have HY : Hid (V.cell? ⟨bk, 0, none⟩ = some (.int .i64 fn) ∧ V.cell? ⟨bk, 1, none⟩ = some (.int .i64 par) ∧ V.cell? ⟨bk, 2, none⟩ = some (.slice gx m cx) ∧ V.cell? ⟨bk, 3, none⟩ = some (.string res)) := by
      refine ⟨y0, y1, ?_, y3⟩
      rw [← HMM.out]; exact y2
    obtain ⟨q, hq⟩ : ∃ q, hdsB ds fn (Tm.lst xs) res.data.toList fuel = q := ⟨_, rfl⟩
    obtain ⟨E, hE⟩ : ∃ E, hdsE ds fn (Tm.lst xs) res.data.toList fuel = E := ⟨_, rfl⟩
    have HIS : Hid (∀ W, Below V.heap.size V W → Calls Tryz.prog 21 #[.agg #[.slice g1 n c1], .agg #[.int .i64 fn, .int .i64 par, .slice gx m cx, .string res], .int .i64 fuel] W fun e w' => e = .returned (.tuple #[.bool q, .int .i64 E]) ∧ Below W.heap.size W w') := fun W h => by
      have := holds_any g1 c1 ds fn par gx cx xs res fuel W (hdf.on h) (htx.on h) HB.out.2.1 (by have := HB.out.1; omega) HB.out.2.2 (HW.out W (BU.next hbV h))
      rw [hq, hE, HNN.out, HMM.out] at this
      exact this
    have HRF : Hid (∀ W, Below V.heap.size V W → Calls Tryz.prog 22 #[.agg #[.slice g n c], .agg #[.int .i64 fn, .int .i64 par, .slice ga m ca, .string res], .int .i64 fuel] W fun e w' => e = .returned (.tuple #[.bool q, .int .i64 E]) ∧ Below W.heap.size W w') := fun W h => by
      have hb' := BU.next hbV h
      have := rholds_any g c ds fn par ga ca xs res fuel W (HDX.out W hb') ((HI.out W hb').txts) HB.out.2.1 (by have := HB.out.1; omega) HB.out.2.2
      rw [hq, hE, HNN.out, HMM.out] at this
      exact this
    have HSP : Hid (∀ W, Below V.heap.size V W → Calls Tryz.prog 14 #[.agg #[.slice g1 n c1], .agg #[.slice g n c]] W fun e w' => e = .returned (.bool true) ∧ Below W.heap.size W w') := fun W h => by
      have hb' := BU.next hbV h
      have := program_same g1 g ds c1 c W (hdf.on h) (HDX.out W hb') HN.out.1 HN.out.2
      rw [HNN.out] at this
      exact this
    have HSN : Hid (∀ W, Below V.heap.size V W → Calls Tryz.prog 23 #[.agg #[.int .i64 fn, .int .i64 par, .slice gx m cx, .string res], .agg #[.int .i64 fn, .int .i64 par, .slice ga m ca, .string res]] W fun e w' => e = .returned (.bool true) ∧ Below W.heap.size W w') := fun W h => by
      have hb' := BU.next hbV h
      have := samenode_any fn par gx ga cx ca xs res W (htx.on h) ((HI.out W hb').txts) (by have := HB.out.1; omega)
      rw [HMM.out] at this
      exact this
    have HAW : Hid (∀ W, Below V.heap.size V W → Calls Tryz.prog 24 #[] W fun e w' => e = .returned (.bool true) ∧ Below W.heap.size W w') := fun W h => awake10 W (HW.out W (BU.next hbV h))
    have HBV := hid hbV
    have HS2 : Hid (∀ W, Below V.heap.size V W → Below V.heap.size V W ∧ W.cell? ⟨z, 0, none⟩ = some (.slice g1 n c1) ∧ (W.cell? ⟨bk, 0, none⟩ = some (.int .i64 fn) ∧ W.cell? ⟨bk, 1, none⟩ = some (.int .i64 par) ∧ W.cell? ⟨bk, 2, none⟩ = some (.slice gx m cx) ∧ W.cell? ⟨bk, 3, none⟩ = some (.string res)) ∧ W.cell? ⟨w.heap.size, 0, none⟩ = some (.slice g n c) ∧ W.cell? ⟨w.heap.size + 1, 0, none⟩ = some (.int .i64 fn) ∧ W.cell? ⟨w.heap.size + 1, 1, none⟩ = some (.int .i64 par) ∧ W.cell? ⟨w.heap.size + 1, 2, none⟩ = some (.slice ga m ca) ∧ W.cell? ⟨w.heap.size + 1, 3, none⟩ = some (.string res)) := fun W h =>
      ⟨h, (HBX.out.on h).c0, ⟨(h.cell (p := ⟨bk, 0, none⟩) HBK.out).trans HY.out.1, (h.cell (p := ⟨bk, 1, none⟩) HBK.out).trans HY.out.2.1, (h.cell (p := ⟨bk, 2, none⟩) HBK.out).trans HY.out.2.2.1, (h.cell (p := ⟨bk, 3, none⟩) HBK.out).trans HY.out.2.2.2⟩, (HALL.out W (BU.next hbV h)).2⟩
    have hqq : (q == q) = true := beq_self_eq_true _
    have hEE : (E == E) = true := beq_self_eq_true _
    have HVV : Hid (Below V.heap.size V V) := Below.refl _ _
    clear hbV hzU hbx hdf hng ev hbk y0 y1 y2 y3 htx hq hE
    obtain ⟨hbv, k0, ⟨k1, k2, k3, k4⟩, k5, k6, k7, k8, k9⟩ := HS2.out V HVV.out
    clear p0 x0 x1 x2 x3 hbu
    go_wp2_with fail
    clear hbv k0 k1 k2 k3 k4 k5 k6 k7 k8 k9
    obtain ⟨hbv, k0, ⟨k1, k2, k3, k4⟩, k5, k6, k7, k8, k9⟩ := HS2.out V HVV.out
    go_region_held3 (fun W => Below V.heap.size V W ∧ W.cell? ⟨z, 0, none⟩ = some (.slice g1 n c1) ∧ (W.cell? ⟨bk, 0, none⟩ = some (.int .i64 fn) ∧ W.cell? ⟨bk, 1, none⟩ = some (.int .i64 par) ∧ W.cell? ⟨bk, 2, none⟩ = some (.slice gx m cx) ∧ W.cell? ⟨bk, 3, none⟩ = some (.string res)) ∧ W.cell? ⟨w.heap.size, 0, none⟩ = some (.slice g n c) ∧ W.cell? ⟨w.heap.size + 1, 0, none⟩ = some (.int .i64 fn) ∧ W.cell? ⟨w.heap.size + 1, 1, none⟩ = some (.int .i64 par) ∧ W.cell? ⟨w.heap.size + 1, 2, none⟩ = some (.slice ga m ca) ∧ W.cell? ⟨w.heap.size + 1, 3, none⟩ = some (.string res))
      (exact HS2.out _ (by bel2))
      ((first | (go_at_call 21; refine (HIS.out _ ?_).mono ?_; (· bel2); rintro e w3 ⟨rfl, hb3⟩; have HB3 : Hid (Below V.heap.size V w3) := (by refine BU.next ?_ hb3; bel2); clear hb3)))
    obtain ⟨hbv3, k0, ⟨k1, k2, k3, k4⟩, k5, k6, k7, k8, k9⟩ := HS2.out w3 HB3.out
    clear hbv3
    go_wp2_with (go_at_call 22; refine (HRF.out _ HB3.out).mono ?_)
    rintro e w4 ⟨rfl, hb4⟩
    have HB4 : Hid (Below V.heap.size V w4) := BU.next HB3.out hb4
    clear hb4
    obtain ⟨hbv4, k0, ⟨k1, k2, k3, k4⟩, k5, k6, k7, k8, k9⟩ := HS2.out w4 HB4.out
    clear hbv4
    go_wp2_with fail
    go_region_held3 (fun W => Below V.heap.size V W ∧ W.cell? ⟨z, 0, none⟩ = some (.slice g1 n c1) ∧ (W.cell? ⟨bk, 0, none⟩ = some (.int .i64 fn) ∧ W.cell? ⟨bk, 1, none⟩ = some (.int .i64 par) ∧ W.cell? ⟨bk, 2, none⟩ = some (.slice gx m cx) ∧ W.cell? ⟨bk, 3, none⟩ = some (.string res)) ∧ W.cell? ⟨w.heap.size, 0, none⟩ = some (.slice g n c) ∧ W.cell? ⟨w.heap.size + 1, 0, none⟩ = some (.int .i64 fn) ∧ W.cell? ⟨w.heap.size + 1, 1, none⟩ = some (.int .i64 par) ∧ W.cell? ⟨w.heap.size + 1, 2, none⟩ = some (.slice ga m ca) ∧ W.cell? ⟨w.heap.size + 1, 3, none⟩ = some (.string res))
      (exact HS2.out _ (by bel2))
      ((first | (go_at_call 13; refine (Lx.num_any E _).mono ?_; rintro e w5 ⟨rfl, rfl⟩) | (go_at_call 14; refine (HSP.out _ ?_).mono ?_; (· bel2); rintro e w5 ⟨rfl, hb5⟩; have HB5 : Hid (Below V.heap.size V w5) := (by refine BU.next ?_ hb5; bel2); clear hb5) | (go_at_call 23; refine (HSN.out _ ?_).mono ?_; (· bel2); rintro e w6 ⟨rfl, hb6⟩; have HB6 : Hid (Below V.heap.size V w6) := (by refine BU.next ?_ hb6; bel2); clear hb6) | (go_at_call 24; refine (HAW.out _ ?_).mono ?_; (· bel2); rintro e w7 ⟨rfl, hb7⟩; have HB7 : Hid (Below V.heap.size V w7) := (by refine BU.next ?_ hb7; bel2); clear hb7)))
    all_goals
      go_wp2
      go_ret
      exact ⟨rfl, HWU.out.trans ((BU.next HBV.out HB7.out).mono HWU.out.size)⟩
open Go.ChangeShapes Go.WideShapes Go.ChangeAt 
set_option maxRecDepth 100000 in
/-- What the walk gives, for every argument and every world that holds the list. -/
theorem contract (H : Type) (enc : TypeId × Value → H) (W : World) (base : Nat) (args : Array Value) (ds gs : List (DataW H)) (before : List MemPlace)
    (hval : ∀ (j : Nat) t v, Tryz.f6.params[j]? = some t → args[j]? = some v → Value.okWide Tryz.prog W .any base t v)
    (hW : DataW.Whole enc Tryz.prog Tryz.f6.params.toList Rows.holdsesSpec.vars false W args.toList ds gs before)
    (hsz0 : (DataW.weightsEach Tryz.prog (Tryz.f6.params.toList ++ (OpenSpec.ofChange Rows.holdsesSpec).bare.plain.varTypes Tryz.prog) (ds ++ gs)).all (· ≤ reachBytes) = true) (hL : laidMetH Tryz.prog Rows.holdsesRow.laid W) :
    Calls Tryz.prog 6 args W fun e W' => ∃ v, e = .returned v ∧ Rows.holdsesSpec.post enc Tryz.prog Tryz.f6 false true false false W args v W' := by
  have hW' := hW
  obtain ⟨p, q, hA0, hV, rfl, hfz, hnd⟩ := hW
  have hA : DataW.TrodAll enc Tryz.prog W 0 (fun _ => true) true Tryz.f6.params.toList args.toList ds p := hA0
  rw [Tryz.params6] at hA hval hsz0
  obtain ⟨v0, vs0, d0, ds0, p0, q0, hargs, rfl, rfl, h0, r0⟩ := trodAll_cons hA
  obtain ⟨v1, vs1, d1, ds1, p1, q1, rfl, rfl, rfl, h1, r1⟩ := trodAll_cons r0
  obtain ⟨v2, vs2, d2, ds2, p2, q2, rfl, rfl, rfl, h2, r2⟩ := trodAll_cons r1
  obtain ⟨rfl, rfl, rfl⟩ := trodAll_nil r2
  obtain rfl : args = #[v0, v1, v2] := by cases args; simp_all
  obtain ⟨rfl, rfl⟩ := trodVars_none hV
  have k0 := h0
  obtain ⟨g0, xs0, c0, rfl, hin0, hbd0, hkd0⟩ := open_program (j := 0) (hval 0 24 v0 rfl rfl) h0 hsz0 rfl rfl
  have k1 := h1
  obtain ⟨n1, g1, c1, rfl, hin1, hbd1⟩ := open_node (j := 1) (hval 1 52 v1 rfl rfl) h1 hsz0 rfl rfl
  obtain ⟨a2, rfl, rfl, rfl, w2⟩ := open_int Tryz.underlying3 (hval 2 3 v2 rfl rfl) h2
  clear hA0
  simp only [List.append_nil] at hW'
  have hlt0 : ∀ x ∈ p0, x.block < W.heap.size := fun x hx => by simpa using hW'.lt x (List.mem_append_left _ hx)
  have hlt1 : ∀ x ∈ p1, x.block < W.heap.size := fun x hx => by simpa using hW'.lt x (List.mem_append_right _ hx)
  refine (walk g0 xs0 c0 n1 g1 c1 a2 W hin0 hbd0 hkd0 hin1 hbd1 (lw_of hL)).mono fun e W' ⟨he, hg⟩ => ?_
  subst he
  exact ⟨_, rfl, _, _, _, [], (p0 ++ (p1 ++ ([] ++ []))), [], hW', trodAll_cons_mk (shut_bool Tryz.underlying4 _) trodAll_mk0, trodAll_cons_mk (Below.trod laidOut (by kernel_rfl) (of_decide_eq_true (by kernel_rfl)) k0 hg hlt0) (trodAll_cons_mk (Below.trod laidOut (by kernel_rfl) (of_decide_eq_true (by kernel_rfl)) k1 hg hlt1) (trodAll_cons_mk (shut_int Tryz.underlying3 w2) trodAll_mk0)), rfl, hg.frame _, fun h => by cases h⟩

theorem reads (os : Os) {H : Type} (enc : TypeId × Value → H) : ∃ places, DataW.whole enc Tryz.prog ((World.doorLaid Tryz.prog 62 os).forCall (fun _ _ => 0) ⟨#[], #[.agg #[.slice none 0 0], .agg #[.int .i64 0, .int .i64 0, .slice none 0 0, .string ⟨#[]⟩], .int .i64 0], []⟩).memory Tryz.f6.params.toList Rows.holdsesSpec.vars false #[Value.agg #[.slice none 0 0], .agg #[.int .i64 0, .int .i64 0, .slice none 0 0, .string ⟨#[]⟩], .int .i64 0].toList 8 = some ([.agg [.nil], .agg [.lit (.int .i64 0), .lit (.int .i64 0), .nil, .lit (.string [])], .lit (.int .i64 0)], [], places) :=
  ⟨[], by kernel_rfl⟩

set_option maxRecDepth 100000 in
theorem lifted (os : Os) (started : os.Started) (H : Type) (enc : TypeId × Value → H) (F : Stop.Interp) :
    ReturnsInHanded {} Tryz.checked os 6 .any ((OpenSpec.ofChange Rows.holdsesSpec).preRow enc Tryz.prog Tryz.f6 Rows.holdsesRow.domain false Rows.holdsesRow.laid) (((OpenSpec.ofChange Rows.holdsesSpec).at F).post enc Tryz.prog Tryz.f6 false true false false) := by
  obtain ⟨places, hx⟩ := reads os enc
  refine returnsInHanded_of_row (C := Tryz.checked) (s := OpenSpec.ofChange Rows.holdsesSpec) own started (by kernel_rfl) Tryz.func6
    (witness_row_atRef (enc := enc) (C := Tryz.checked) false (World.doorLaid Tryz.prog 62 os) #[.agg #[.slice none 0 0], .agg #[.int .i64 0, .int .i64 0, .slice none 0 0, .string ⟨#[]⟩], .int .i64 0] rfl (by kernel_rfl) (by kernel_rfl) (by kernel_rfl)
      (OpenSpec.preRow_of_cond 8 hx (by kernel_rfl) (fun k hk => by cases hk) (by kernel_rfl) (door_met os _))) ?_
  intro W base args ds gs before hval hW _ _ hsz hL _ _
  exact contract H enc W base args ds gs before hval hW hsz hL

theorem said : Rows.HoldsesSaid :=
  OpenClaim.holds_of_cond 6 Tryz.f6 rfl rfl rfl rfl rfl rfl rfl ⟨rfl, rfl, rfl, rfl, rfl⟩ rfl rfl rfl rfl rfl (by kernel_rfl) Tryz.func6 (by kernel_rfl)
    (of_decide_eq_true (by kernel_rfl)) (by unfold Func.isWrapper; first | (rw [if_pos (by decide +kernel)]; kernel_rfl) | (rw [if_neg (by decide +kernel)]; exact ⟨rfl, rfl⟩))
    (fun os started H enc _ F => by rw [OpenClaim.pre_eq_preRow]; exact lifted os started H enc F)

theorem plain (f : FuncId) (fn : Func) (hf : Tryz.pinned.checked.prog.funcNamed "sleuth/sleuthlaw10.Holdses" = some f) (hfn : Tryz.pinned.checked.prog.funcs[f]? = some fn) :
    true = Tryz.pinned.checked.prog.looks [] ∧ ∀ (j : Nat) t, fn.params[j]? = some t → Tryz.pinned.checked.prog.wantsStandIn t = false := by
  obtain rfl : f = 6 := Option.some.inj ((show Tryz.prog.funcNamed "sleuth/sleuthlaw10.Holdses" = some 6 by kernel_rfl).symm.trans hf) |>.symm
  obtain rfl : fn = Tryz.f6 := (Option.some.inj (Tryz.func6.symm.trans hfn)).symm
  refine ⟨by kernel_rfl, fun j t ht => ?_⟩
  rw [Tryz.params6] at ht
  have hm : t ∈ [24, 52, 3] := by simpa using Array.mem_of_getElem? ht
  have hall : ([24, 52, 3].all fun u => !Tryz.prog.wantsStandIn u) = true := by kernel_rfl
  exact (show Tryz.prog.wantsStandIn t = false by simpa using List.all_eq_true.1 hall t hm)

/-- The given statement. -/
theorem card : Rows.HoldsesCardSaid :=
  Claim7.holds_tied_plain_at .later [] _ _ _ _ said (fun _ h => by cases h) (by kernel_rfl) (fun _ h => by cases h) holdses_row_tie rfl ⟨rfl, rfl⟩ (by kernel_rfl) rfl plain (by kernel_rfl)
end Go.Proofs.YtgajnmcjnkfblaaGreatDoor.holdses
namespace Go.Proofs.YtgajnmcjnkfblaaGreatDoor
theorem holdses_holds : Rows.HoldsesCardSaid := holdses.card
end Go.Proofs.YtgajnmcjnkfblaaGreatDoor
