/- frame.allUpTo, frame.appendNumbers. -/
import Derived.Test.YtmooddbhcccicaaGreatDoorNe
namespace Go.Proofs.YtmooddbhcccicaaGreatDoor
set_option linter.unusedVariables false
set_option linter.unusedSimpArgs false
open Go.RowKit Go.Deep

/-- all from 0 to most -/
def upTo (most : Int) (zs : List Int) : Bool := zs.all (fun z => decide (0 ≤ z ∧ z ≤ most))
theorem upTo_at {most : Int} {zs : List Int} : upTo most zs = true ↔ ∀ (k : Nat) (z : Int), zs[k]? = some z → 0 ≤ z ∧ z ≤ most := by
  unfold upTo
  rw [List.all_eq_true]
  constructor
  · intro h k z hk
    exact of_decide_eq_true (h z (List.mem_of_getElem? hk))
  · intro h z hz
    obtain ⟨k, hk⟩ := List.getElem?_of_mem hz
    exact decide_eq_true (h k z hk)
theorem wrapK9 {k : Nat} (h : k ≤ 9000000000) : wrap64 ((k : Int) + 1) = ((k + 1 : Nat) : Int) := by unfold wrap64; omega

end Go.Proofs.YtmooddbhcccicaaGreatDoor
