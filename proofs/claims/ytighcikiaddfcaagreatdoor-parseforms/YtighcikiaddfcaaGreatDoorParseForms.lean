/- sleuthlaw7.ParseForms returns true at every input: each of forty-eight texts that are no programs is refused; the inputs are as they were. The condition is the card's own: the seven listed tables and variables of Go's library read as their texts lay them. -/
import Derived.Test.YtighcikiaddfcaaGreatDoorMLaid
import Derived.Laws.OwnMore
import Derived.Laws.IdiomStrings
import Derived.Deep.OwnRows
import Derived.SizedLaws
import Derived.ChangeMaps5
namespace Go.Proofs.YtighcikiaddfcaaGreatDoor.parseForms
open Go.ChangeShapes Go.WideShapes Go.ChangeAt Go.RowKit Go.ChangeMaps
set_option linter.unusedVariables false

def forms : List (List UInt8) := [[40], [40, 100, 101, 102, 41], [40, 100, 101, 102, 32, 48, 41], [40, 100, 101, 102, 32, 48, 32, 49, 32, 50, 41], [40, 100, 101, 102, 32, 48, 32, 49], [100, 101, 102, 32, 48, 32, 49], [40, 100, 101, 102, 32, 48, 32, 49, 41, 41], [40, 100, 101, 102, 32, 49, 32, 49, 41], [40, 100, 101, 102, 32, 52, 32, 49, 41], [40, 100, 101, 102, 32, 48, 48, 32, 49, 41], [40, 100, 101, 102, 32, 45, 49, 32, 49, 41], [40, 100, 101, 102, 32, 48, 32, 48, 49, 41], [40, 100, 101, 102, 32, 48, 32, 45, 48, 41], [40, 100, 101, 102, 32, 48, 32, 51, 50, 55, 54, 56, 41], [40, 100, 101, 102, 32, 48, 32, 45, 41], [40, 100, 101, 102, 32, 48, 32, 36, 48, 41], [40, 100, 101, 102, 32, 48, 32, 64, 49, 48, 48, 41], [40, 100, 101, 102, 32, 48, 32, 64, 41], [40, 100, 101, 102, 32, 48, 32, 40, 64, 49, 41, 41], [40, 100, 101, 102, 32, 48, 32, 40, 43, 32, 49, 41, 41], [40, 100, 101, 102, 32, 48, 32, 40, 43, 32, 49, 32, 50, 32, 51, 41, 41], [40, 100, 101, 102, 32, 48, 32, 40, 37, 32, 49, 32, 50, 41, 41], [40, 100, 101, 102, 32, 48, 32, 40, 41, 41], [40, 100, 101, 102, 32, 48, 32, 40, 102, 49, 41, 41], [40, 100, 101, 102, 32, 48, 32, 40, 102, 48, 32, 49, 41, 41], [40, 100, 101, 102, 32, 48, 32, 40, 99, 97, 115, 101, 32, 49, 32, 64, 49, 32, 48, 32, 49, 41, 41], [40, 100, 101, 102, 32, 48, 32, 40, 99, 97, 115, 101, 32, 49, 32, 49, 32, 48, 32, 49, 32, 49, 41, 41], [40, 100, 101, 102, 32, 48, 32, 40, 99, 97, 115, 101, 32, 49, 32, 64, 49, 32, 52, 32, 49, 32, 49, 41, 41], [40, 100, 101, 102, 32, 48, 32, 40, 108, 101, 116, 32, 49, 41, 41], [40, 100, 101, 102, 32, 48, 32, 40, 101, 114, 114, 111, 114, 41, 41], [40, 100, 101, 102, 32, 48, 32, 40, 49, 41, 41], [40, 100, 101, 102, 32, 48, 32, 40, 36, 48, 41, 41], [40, 100, 101, 102, 32, 48, 32, 95, 41], [40, 100, 101, 102, 32, 48, 32, 33, 41], [40, 100, 101, 102, 32, 48, 32, 102, 48, 41], [40, 100, 101, 102, 32, 48, 32, 40, 99, 97, 115, 101, 32, 49, 32, 64, 49, 32, 49, 32, 36, 49, 32, 49, 41, 41], [40, 100, 101, 102, 32, 48, 32, 40, 108, 101, 116, 32, 49, 32, 36, 49, 41, 41], [40, 100, 101, 102, 32, 48, 32, 40, 108, 101, 116, 32, 36, 48, 32, 49, 41, 41], [40, 100, 101, 102, 32, 48, 32, 40, 64, 49, 32, 49, 32, 50, 32, 51, 32, 52, 41, 41], [40, 100, 101, 102, 32, 48, 32, 40, 102, 48, 41, 32, 49, 41], [40, 100, 101, 120, 32, 48, 32, 49, 41], [40, 100, 101, 102, 32, 48, 32, 69, 114, 114, 111, 114, 41], [40, 100, 101, 102, 32, 48, 32, 40, 102, 56, 32, 49, 41, 41], [40, 100, 101, 102, 32, 48, 32, 40, 64, 48, 49, 32, 49, 41, 41], [40, 100, 101, 102, 32, 48, 32, 40, 102, 48, 48, 41, 41], [40, 100, 101, 102, 32, 48, 32, 40, 99, 97, 115, 101, 32, 49, 32, 64, 49, 32, 48, 49, 32, 49, 32, 49, 41, 41], [40, 100, 101, 102, 32, 48, 32, 40, 99, 97, 115, 101, 32, 49, 32, 64, 49, 32, 48, 32, 49, 32, 49, 32, 49, 41, 41], [49]]
theorem forms_bad : (forms.all fun l => decide (pp l = none)) = true := by decide +kernel
theorem forms_at (m : Nat) (h : m < 48) : ∃ s : ByteArray, ([.string ⟨#[40]⟩, .string ⟨#[40, 100, 101, 102, 41]⟩, .string ⟨#[40, 100, 101, 102, 32, 48, 41]⟩, .string ⟨#[40, 100, 101, 102, 32, 48, 32, 49, 32, 50, 41]⟩, .string ⟨#[40, 100, 101, 102, 32, 48, 32, 49]⟩, .string ⟨#[100, 101, 102, 32, 48, 32, 49]⟩, .string ⟨#[40, 100, 101, 102, 32, 48, 32, 49, 41, 41]⟩, .string ⟨#[40, 100, 101, 102, 32, 49, 32, 49, 41]⟩, .string ⟨#[40, 100, 101, 102, 32, 52, 32, 49, 41]⟩, .string ⟨#[40, 100, 101, 102, 32, 48, 48, 32, 49, 41]⟩, .string ⟨#[40, 100, 101, 102, 32, 45, 49, 32, 49, 41]⟩, .string ⟨#[40, 100, 101, 102, 32, 48, 32, 48, 49, 41]⟩, .string ⟨#[40, 100, 101, 102, 32, 48, 32, 45, 48, 41]⟩, .string ⟨#[40, 100, 101, 102, 32, 48, 32, 51, 50, 55, 54, 56, 41]⟩, .string ⟨#[40, 100, 101, 102, 32, 48, 32, 45, 41]⟩, .string ⟨#[40, 100, 101, 102, 32, 48, 32, 36, 48, 41]⟩, .string ⟨#[40, 100, 101, 102, 32, 48, 32, 64, 49, 48, 48, 41]⟩, .string ⟨#[40, 100, 101, 102, 32, 48, 32, 64, 41]⟩, .string ⟨#[40, 100, 101, 102, 32, 48, 32, 40, 64, 49, 41, 41]⟩, .string ⟨#[40, 100, 101, 102, 32, 48, 32, 40, 43, 32, 49, 41, 41]⟩, .string ⟨#[40, 100, 101, 102, 32, 48, 32, 40, 43, 32, 49, 32, 50, 32, 51, 41, 41]⟩, .string ⟨#[40, 100, 101, 102, 32, 48, 32, 40, 37, 32, 49, 32, 50, 41, 41]⟩, .string ⟨#[40, 100, 101, 102, 32, 48, 32, 40, 41, 41]⟩, .string ⟨#[40, 100, 101, 102, 32, 48, 32, 40, 102, 49, 41, 41]⟩, .string ⟨#[40, 100, 101, 102, 32, 48, 32, 40, 102, 48, 32, 49, 41, 41]⟩, .string ⟨#[40, 100, 101, 102, 32, 48, 32, 40, 99, 97, 115, 101, 32, 49, 32, 64, 49, 32, 48, 32, 49, 41, 41]⟩, .string ⟨#[40, 100, 101, 102, 32, 48, 32, 40, 99, 97, 115, 101, 32, 49, 32, 49, 32, 48, 32, 49, 32, 49, 41, 41]⟩, .string ⟨#[40, 100, 101, 102, 32, 48, 32, 40, 99, 97, 115, 101, 32, 49, 32, 64, 49, 32, 52, 32, 49, 32, 49, 41, 41]⟩, .string ⟨#[40, 100, 101, 102, 32, 48, 32, 40, 108, 101, 116, 32, 49, 41, 41]⟩, .string ⟨#[40, 100, 101, 102, 32, 48, 32, 40, 101, 114, 114, 111, 114, 41, 41]⟩, .string ⟨#[40, 100, 101, 102, 32, 48, 32, 40, 49, 41, 41]⟩, .string ⟨#[40, 100, 101, 102, 32, 48, 32, 40, 36, 48, 41, 41]⟩, .string ⟨#[40, 100, 101, 102, 32, 48, 32, 95, 41]⟩, .string ⟨#[40, 100, 101, 102, 32, 48, 32, 33, 41]⟩, .string ⟨#[40, 100, 101, 102, 32, 48, 32, 102, 48, 41]⟩, .string ⟨#[40, 100, 101, 102, 32, 48, 32, 40, 99, 97, 115, 101, 32, 49, 32, 64, 49, 32, 49, 32, 36, 49, 32, 49, 41, 41]⟩, .string ⟨#[40, 100, 101, 102, 32, 48, 32, 40, 108, 101, 116, 32, 49, 32, 36, 49, 41, 41]⟩, .string ⟨#[40, 100, 101, 102, 32, 48, 32, 40, 108, 101, 116, 32, 36, 48, 32, 49, 41, 41]⟩, .string ⟨#[40, 100, 101, 102, 32, 48, 32, 40, 64, 49, 32, 49, 32, 50, 32, 51, 32, 52, 41, 41]⟩, .string ⟨#[40, 100, 101, 102, 32, 48, 32, 40, 102, 48, 41, 32, 49, 41]⟩, .string ⟨#[40, 100, 101, 120, 32, 48, 32, 49, 41]⟩, .string ⟨#[40, 100, 101, 102, 32, 48, 32, 69, 114, 114, 111, 114, 41]⟩, .string ⟨#[40, 100, 101, 102, 32, 48, 32, 40, 102, 56, 32, 49, 41, 41]⟩, .string ⟨#[40, 100, 101, 102, 32, 48, 32, 40, 64, 48, 49, 32, 49, 41, 41]⟩, .string ⟨#[40, 100, 101, 102, 32, 48, 32, 40, 102, 48, 48, 41, 41]⟩, .string ⟨#[40, 100, 101, 102, 32, 48, 32, 40, 99, 97, 115, 101, 32, 49, 32, 64, 49, 32, 48, 49, 32, 49, 32, 49, 41, 41]⟩, .string ⟨#[40, 100, 101, 102, 32, 48, 32, 40, 99, 97, 115, 101, 32, 49, 32, 64, 49, 32, 48, 32, 49, 32, 49, 32, 49, 41, 41]⟩, .string ⟨#[49]⟩] : List Value)[m]? = some (.string s) ∧ pp s.data.toList = none := by
  have hl : forms.length = 48 := rfl
  obtain ⟨l, hf⟩ : ∃ l, forms[m]? = some l := ⟨_, List.getElem?_eq_getElem (by omega)⟩
  have hm := List.all_eq_true.1 forms_bad _ (List.mem_of_getElem? hf)
  simp only [decide_eq_true_eq] at hm
  refine ⟨Lx.ba l, ?_, hm⟩
  show (forms.map fun l => Value.string (Lx.ba l))[m]? = _
  rw [List.getElem?_map, hf]; rfl

set_option maxHeartbeats 1600000 in
set_option maxRecDepth 100000 in
theorem walk (a0 : Int) (w : World) (hL : Lw w) :
    Calls Tryz.prog 4 #[.int .i64 a0] w fun e w' => e = .returned (.bool true) ∧ Below w.heap.size w w' := by
  obtain ⟨m, hm, hlt⟩ := umod a0 48 (by decide) (by decide)
  obtain ⟨t, hs0, hpt⟩ := forms_at m hlt
  have hc : ∀ W, Lw W → Calls Tryz.prog 9 #[.string t] W fun e w' => e = .returned (.tuple #[pV none 0 0, .int .i64 700]) ∧ Below W.heap.size W w' := fun W h => by
    refine (parse_any t W h).mono ?_
    intro e w' hq
    rw [hpt] at hq
    exact ⟨hq.2, hq.1⟩
  have hs : ∀ h : m < 48, ([.string ⟨#[40]⟩, .string ⟨#[40, 100, 101, 102, 41]⟩, .string ⟨#[40, 100, 101, 102, 32, 48, 41]⟩, .string ⟨#[40, 100, 101, 102, 32, 48, 32, 49, 32, 50, 41]⟩, .string ⟨#[40, 100, 101, 102, 32, 48, 32, 49]⟩, .string ⟨#[100, 101, 102, 32, 48, 32, 49]⟩, .string ⟨#[40, 100, 101, 102, 32, 48, 32, 49, 41, 41]⟩, .string ⟨#[40, 100, 101, 102, 32, 49, 32, 49, 41]⟩, .string ⟨#[40, 100, 101, 102, 32, 52, 32, 49, 41]⟩, .string ⟨#[40, 100, 101, 102, 32, 48, 48, 32, 49, 41]⟩, .string ⟨#[40, 100, 101, 102, 32, 45, 49, 32, 49, 41]⟩, .string ⟨#[40, 100, 101, 102, 32, 48, 32, 48, 49, 41]⟩, .string ⟨#[40, 100, 101, 102, 32, 48, 32, 45, 48, 41]⟩, .string ⟨#[40, 100, 101, 102, 32, 48, 32, 51, 50, 55, 54, 56, 41]⟩, .string ⟨#[40, 100, 101, 102, 32, 48, 32, 45, 41]⟩, .string ⟨#[40, 100, 101, 102, 32, 48, 32, 36, 48, 41]⟩, .string ⟨#[40, 100, 101, 102, 32, 48, 32, 64, 49, 48, 48, 41]⟩, .string ⟨#[40, 100, 101, 102, 32, 48, 32, 64, 41]⟩, .string ⟨#[40, 100, 101, 102, 32, 48, 32, 40, 64, 49, 41, 41]⟩, .string ⟨#[40, 100, 101, 102, 32, 48, 32, 40, 43, 32, 49, 41, 41]⟩, .string ⟨#[40, 100, 101, 102, 32, 48, 32, 40, 43, 32, 49, 32, 50, 32, 51, 41, 41]⟩, .string ⟨#[40, 100, 101, 102, 32, 48, 32, 40, 37, 32, 49, 32, 50, 41, 41]⟩, .string ⟨#[40, 100, 101, 102, 32, 48, 32, 40, 41, 41]⟩, .string ⟨#[40, 100, 101, 102, 32, 48, 32, 40, 102, 49, 41, 41]⟩, .string ⟨#[40, 100, 101, 102, 32, 48, 32, 40, 102, 48, 32, 49, 41, 41]⟩, .string ⟨#[40, 100, 101, 102, 32, 48, 32, 40, 99, 97, 115, 101, 32, 49, 32, 64, 49, 32, 48, 32, 49, 41, 41]⟩, .string ⟨#[40, 100, 101, 102, 32, 48, 32, 40, 99, 97, 115, 101, 32, 49, 32, 49, 32, 48, 32, 49, 32, 49, 41, 41]⟩, .string ⟨#[40, 100, 101, 102, 32, 48, 32, 40, 99, 97, 115, 101, 32, 49, 32, 64, 49, 32, 52, 32, 49, 32, 49, 41, 41]⟩, .string ⟨#[40, 100, 101, 102, 32, 48, 32, 40, 108, 101, 116, 32, 49, 41, 41]⟩, .string ⟨#[40, 100, 101, 102, 32, 48, 32, 40, 101, 114, 114, 111, 114, 41, 41]⟩, .string ⟨#[40, 100, 101, 102, 32, 48, 32, 40, 49, 41, 41]⟩, .string ⟨#[40, 100, 101, 102, 32, 48, 32, 40, 36, 48, 41, 41]⟩, .string ⟨#[40, 100, 101, 102, 32, 48, 32, 95, 41]⟩, .string ⟨#[40, 100, 101, 102, 32, 48, 32, 33, 41]⟩, .string ⟨#[40, 100, 101, 102, 32, 48, 32, 102, 48, 41]⟩, .string ⟨#[40, 100, 101, 102, 32, 48, 32, 40, 99, 97, 115, 101, 32, 49, 32, 64, 49, 32, 49, 32, 36, 49, 32, 49, 41, 41]⟩, .string ⟨#[40, 100, 101, 102, 32, 48, 32, 40, 108, 101, 116, 32, 49, 32, 36, 49, 41, 41]⟩, .string ⟨#[40, 100, 101, 102, 32, 48, 32, 40, 108, 101, 116, 32, 36, 48, 32, 49, 41, 41]⟩, .string ⟨#[40, 100, 101, 102, 32, 48, 32, 40, 64, 49, 32, 49, 32, 50, 32, 51, 32, 52, 41, 41]⟩, .string ⟨#[40, 100, 101, 102, 32, 48, 32, 40, 102, 48, 41, 32, 49, 41]⟩, .string ⟨#[40, 100, 101, 120, 32, 48, 32, 49, 41]⟩, .string ⟨#[40, 100, 101, 102, 32, 48, 32, 69, 114, 114, 111, 114, 41]⟩, .string ⟨#[40, 100, 101, 102, 32, 48, 32, 40, 102, 56, 32, 49, 41, 41]⟩, .string ⟨#[40, 100, 101, 102, 32, 48, 32, 40, 64, 48, 49, 32, 49, 41, 41]⟩, .string ⟨#[40, 100, 101, 102, 32, 48, 32, 40, 102, 48, 48, 41, 41]⟩, .string ⟨#[40, 100, 101, 102, 32, 48, 32, 40, 99, 97, 115, 101, 32, 49, 32, 64, 49, 32, 48, 49, 32, 49, 32, 49, 41, 41]⟩, .string ⟨#[40, 100, 101, 102, 32, 48, 32, 40, 99, 97, 115, 101, 32, 49, 32, 64, 49, 32, 48, 32, 49, 32, 49, 32, 49, 41, 41]⟩, .string ⟨#[49]⟩] : List Value)[m]'h = .string t := fun h => by
    rw [List.getElem?_eq_getElem h] at hs0
    exact Option.some.inj hs0
  have hm' : wrap64 ((IntKind.u64.wrap a0).tmod 48) = (m : Int) := hm
  clear hs0 hpt hm
  have HL : Hid (Lw w) := hL
  go_enter Tryz.func4, Tryz.ntmps4
  go_wp2_with fail
  refine (awake_any w hL).mono ?_
  rintro e w1 ⟨rfl, hb1⟩
  have HB1 : Hid (Below w.heap.size w w1) := hb1
  clear hb1 hL
  go_wp2_with fail
  refine grabC (fun W => Below w.heap.size w W) (HB1.out.alloc HB1.out.size _) (fun W2 hB2 => ?_)
  clear hs hm' hlt HB1
  refine (hc W2 (HL.out.on hB2)).mono ?_
  rintro e w3 ⟨rfl, hb3⟩
  have HB3 : Hid (Below w.heap.size w w3) := below_next hB2 hb3
  clear hc hB2 hb3
  go_wp2_with fail
  refine (num_any _ _).mono ?_
  rintro e w4 ⟨rfl, rfl⟩
  go_wp2_with fail
  go_ret
  exact ⟨rfl, HB3.out.alloc HB3.out.size _⟩

set_option maxRecDepth 100000 in
/-- What the walk gives, for every argument and every world that holds the list. -/
theorem contract (H : Type) (enc : TypeId × Value → H) (W : World) (base : Nat) (args : Array Value) (ds gs : List (DataW H)) (before : List MemPlace)
    (hval : ∀ (j : Nat) t v, Tryz.f4.params[j]? = some t → args[j]? = some v → Value.okWide Tryz.prog W .any base t v)
    (hW : DataW.Whole enc Tryz.prog Tryz.f4.params.toList Rows.parseFormsSpec.vars false W args.toList ds gs before)
    (hL : laidMetH Tryz.prog Rows.parseFormsRow.laid W) :
    Calls Tryz.prog 4 args W fun e W' => ∃ v, e = .returned v ∧ Rows.parseFormsSpec.post enc Tryz.prog Tryz.f4 false true false false W args v W' := by
  have hW' := hW
  obtain ⟨p, q, hA0, hV, rfl, hfz, hnd⟩ := hW
  have hA : DataW.TrodAll enc Tryz.prog W 0 (fun _ => true) true Tryz.f4.params.toList args.toList ds p := hA0
  rw [Tryz.params4] at hA hval
  obtain ⟨v0, vs0, d0, ds0, p0, q0, hargs, rfl, rfl, h0, r0⟩ := trodAll_cons hA
  obtain ⟨rfl, rfl, rfl⟩ := trodAll_nil r0
  obtain rfl : args = #[v0] := by cases args; simp_all
  obtain ⟨rfl, rfl⟩ := trodVars_none hV
  obtain ⟨a0, rfl, rfl, rfl, w0⟩ := open_int Tryz.underlying3 (hval 0 3 v0 rfl rfl) h0
  clear hA0
  simp only [List.append_nil] at hW'
  refine (walk a0 W (lw_of hL)).mono fun e W' ⟨he, hg⟩ => ?_
  subst he
  exact ⟨_, rfl, _, _, _, [], [], [], hW', trodAll_cons_mk (shut_bool Tryz.underlying4 _) trodAll_mk0, trodAll_cons_mk (shut_int Tryz.underlying3 w0) trodAll_mk0, rfl, hg.frame _, fun h => by cases h⟩

theorem reads (os : Os) {H : Type} (enc : TypeId × Value → H) : ∃ places, DataW.whole enc Tryz.prog ((World.laidAll Tryz.prog os Rows.parseFormsRow.laid).forCall (fun _ _ => 0) ⟨#[], #[.int .i64 0], []⟩).memory Tryz.f4.params.toList Rows.parseFormsSpec.vars false #[Value.int .i64 0].toList 8 = some ([.lit (.int .i64 0)], [], places) :=
  ⟨[], by kernel_rfl⟩

set_option maxRecDepth 100000 in
theorem lifted (os : Os) (started : os.Started) (H : Type) (enc : TypeId × Value → H) (F : Stop.Interp) :
    ReturnsInHanded {} Tryz.checked os 4 .any ((OpenSpec.ofChange Rows.parseFormsSpec).preRow enc Tryz.prog Tryz.f4 Rows.parseFormsRow.domain false Rows.parseFormsRow.laid) (((OpenSpec.ofChange Rows.parseFormsSpec).at F).post enc Tryz.prog Tryz.f4 false true false false) := by
  obtain ⟨places, hx⟩ := reads os enc
  refine returnsInHanded_of_row (C := Tryz.checked) (s := OpenSpec.ofChange Rows.parseFormsSpec) own started (by kernel_rfl) Tryz.func4
    (witness_row_atRef (enc := enc) (C := Tryz.checked) false (World.laidAll Tryz.prog os Rows.parseFormsRow.laid) #[.int .i64 0] (World.laidAll_os _ _ _) (by kernel_rfl) (by kernel_rfl) (by kernel_rfl)
      (OpenSpec.preRow_of_cond 8 hx (by kernel_rfl) (fun k hk => by cases hk) (by kernel_rfl) (door_met os _))) ?_
  intro W base args ds gs before hval hW _ _ _ hL _ _
  exact contract H enc W base args ds gs before hval hW hL

theorem said : Rows.ParseFormsSaid :=
  OpenClaim.holds_of_cond 4 Tryz.f4 rfl rfl rfl rfl rfl rfl rfl ⟨rfl, rfl, rfl, rfl, rfl⟩ rfl rfl rfl rfl rfl (by kernel_rfl) Tryz.func4 (by kernel_rfl)
    (of_decide_eq_true (by kernel_rfl)) (by unfold Func.isWrapper; first | (rw [if_pos (by decide +kernel)]; kernel_rfl) | (rw [if_neg (by decide +kernel)]; exact ⟨rfl, rfl⟩))
    (fun os started H enc _ F => by rw [OpenClaim.pre_eq_preRow]; exact lifted os started H enc F)

theorem plain (f : FuncId) (fn : Func) (hf : Tryz.pinned.checked.prog.funcNamed "sleuth/sleuthlaw7.ParseForms" = some f) (hfn : Tryz.pinned.checked.prog.funcs[f]? = some fn) :
    true = Tryz.pinned.checked.prog.looks [] ∧ ∀ (j : Nat) t, fn.params[j]? = some t → Tryz.pinned.checked.prog.wantsStandIn t = false := by
  obtain rfl : f = 4 := Option.some.inj ((show Tryz.prog.funcNamed "sleuth/sleuthlaw7.ParseForms" = some 4 by kernel_rfl).symm.trans hf) |>.symm
  obtain rfl : fn = Tryz.f4 := (Option.some.inj (Tryz.func4.symm.trans hfn)).symm
  refine ⟨by kernel_rfl, fun j t ht => ?_⟩
  rw [Tryz.params4] at ht
  have hm : t ∈ [3] := by simpa using Array.mem_of_getElem? ht
  have hall : ([3].all fun u => !Tryz.prog.wantsStandIn u) = true := by kernel_rfl
  exact (show Tryz.prog.wantsStandIn t = false by simpa using List.all_eq_true.1 hall t hm)

/-- The given statement. -/
theorem card : Rows.ParseFormsCardSaid :=
  Claim7.holds_tied_plain_at .later [] _ _ _ _ said (fun _ h => by cases h) (by kernel_rfl) (fun _ h => by cases h) parseForms_row_tie rfl ⟨rfl, rfl⟩ (by kernel_rfl) rfl plain (by kernel_rfl)
end Go.Proofs.YtighcikiaddfcaaGreatDoor.parseForms
namespace Go.Proofs.YtighcikiaddfcaaGreatDoor
theorem parseForms_holds : Rows.ParseFormsCardSaid := parseForms.card
end Go.Proofs.YtighcikiaddfcaaGreatDoor
