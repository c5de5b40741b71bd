/- The contract of the laws' SpoilTexts. -/
import Derived.Deep.AppendLies
import Derived.Laws.OwnMore
import Derived.Test.YtmbjonfiphnlaaaDoorWake
namespace Go.Proofs.YtmbjonfiphnlaaaDoor
open Go.RowKit
set_option linter.unusedVariables false

theorem bytes_add (a b : List UInt8) : (⟨a.toArray⟩ : ByteArray) ++ ⟨b.toArray⟩ = ⟨(a ++ b).toArray⟩ := by
  apply ByteArray.ext
  simp
set_option maxHeartbeats 800000 in
set_option maxRecDepth 100000 in
theorem spoil_any (v : Value) (ks : List (List UInt8)) (B : Nat) (w : World) (hv : ∃ g n c, v = .slice g n c) (hown : w.ownsRow B 9 1 v ks.length (ks.map S)) (hn : ks.length ≤ 2048) (hl : ∀ t ∈ ks, t.length ≤ 2048) :
    Calls Tryd.prog 12 #[v] w fun e w' => e = .returned (.tuple #[]) ∧ Below B w w' := by
  cases hk : ks with
  | nil =>
    subst hk
    obtain ⟨g, c, rfl, _, _⟩ := own_txts hown
    go_enter Tryd.func12, Tryd.ntmps12
    go_wp2_with fail
    go_loopw [2] (fun i wr => i = .int .i64 0 ∧ wr = w) (fun _ _ => 0)
    case atStart => exact ⟨rfl, rfl⟩
    case round =>
      obtain ⟨rfl, rfl⟩ := hrel
      go_wp2_with fail
      go_end0
      exact ⟨rfl, Below.refl _ _⟩
  | cons a r =>
    obtain ⟨gb, cb, rfl, hB, hlt⟩ := hown.form (by rw [hk]; simp)
    clear hk hv
    go_enter Tryd.func12, Tryd.ntmps12
    go_wp2_with fail
    go_loopw [2] (fun i wr => ∃ (j : Nat) (ts : List (List UInt8)), j ≤ ks.length ∧ i = .int .i64 (j : Int) ∧ ts.length = ks.length ∧ (∀ t ∈ ts, t.length ≤ 2048 + j) ∧ wr.ownsRow B 9 1 (.slice (some ⟨gb, 0, none⟩) ks.length cb) ks.length (ts.map S) ∧ Below B w wr) (fun i _ => ks.length - (intOf i).toNat)
    case atStart => exact ⟨0, ks, Nat.zero_le _, rfl, rfl, hl, hown, Below.refl _ _⟩
    case round =>
      obtain ⟨j, ts, hj, rfl, htl, hts, ho, hbr⟩ := hrel
      by_cases hlt2 : j < ks.length
      · obtain ⟨x, hx⟩ : ∃ x, ts[j]? = some x := ⟨_, List.getElem?_eq_getElem (by omega)⟩
        have hxl := hts x (List.mem_of_getElem? hx)
        have hc : wr.cell? ⟨gb, j, none⟩ = some (.string ⟨x.toArray⟩) := by
          rw [ho.cellAt j (by omega), List.getElem?_map, hx]; rfl
        have hf : wr.frozen? ⟨gb, j, none⟩ = false := ho.frozenAt j
        have hst := (ho.stored j (S (126 :: x))).1
        have HST : Hid ((wr.setCell ⟨gb, j, none⟩ (S (126 :: x))).ownsRow B 9 1 (.slice (some ⟨gb, 0, none⟩) ks.length cb) ks.length ((ts.set j (126 :: x)).map S)) := by
          show (wr.setCell ⟨gb, j, none⟩ (S (126 :: x))).ownsRow B 9 1 (.slice (some ⟨gb, 0, none⟩) ks.length cb) ks.length ((ts.set j (126 :: x)).map S)
          rw [List.map_set]; exact hst
        have HB : Hid (Below B w (wr.setCell ⟨gb, j, none⟩ (S (126 :: x)))) := hbr.setCell hB _
        have HE : Hid ((⟨#[126]⟩ : ByteArray) ++ ⟨x.toArray⟩ = ⟨(126 :: x).toArray⟩) := by
          show _ = _
          rw [show (⟨#[126]⟩ : ByteArray) = ⟨[126].toArray⟩ from rfl, bytes_add]; rfl
        have HM : Hid (∀ t ∈ ts.set j (126 :: x), t.length ≤ 2048 + (j + 1)) := by
          intro t ht
          rcases List.mem_or_eq_of_mem_set ht with h | h
          · have := hts t h; omega
          · subst h; simp; omega
        clear hst ho hbr hts
        go_wp2_with fail
        rw [HE.out]
        go_roundw
        case rel => exact ⟨j + 1, ts.set j (126 :: x), by omega, by go_num, by rw [List.length_set]; exact htl, HM.out, HST.out, HB.out⟩
        case measure => simp [intOf]; omega
      · go_wp2_with fail
        go_end0
        exact ⟨rfl, hbr⟩
end Go.Proofs.YtmbjonfiphnlaaaDoor
