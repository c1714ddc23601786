/- A log of a new plate, as the verifier makes it, with what its plate has. -/
import Derived.Test.YtippipeebkkghaaGreatDoorBn
import Derived.Test.YtippipeebkkghaaGreatDoorAy
namespace Go.Proofs.YtippipeebkkghaaGreatDoor
set_option linter.unusedVariables false
set_option linter.unusedSimpArgs false
open Go.RowKit Go.Deep

theorem logN_new {n s : Nat} (hn : n = 2 + s) (hs : 1 ≤ s) : LogN (nowOf (wrHead (List.replicate (n * 64) 0) (fun _ => none) n 1 (hdB 1 1 0 1)) (fun _ => none)) s 1 1 0 1 [] := by
  have hj : ∀ j, j < n → nowOf (wrHead (List.replicate (n * 64) 0) (fun _ => none) n 1 (hdB 1 1 0 1)) (fun _ => none) j = if j = 1 then hdB 1 1 0 1 else nouW 64 := fun j hj => by
    rw [nowOf_wrHead (List.length_replicate ..) (fun _ _ h => by cases h) (hdB_len _ _ _ _) hj, nowOf_new n j hj]
  refine ⟨by rw [hj _ (by omega)]; rfl, fun i hi hne hok => ?_, trivial, Nat.zero_le _, fun t _ ht => ?_, fun ys h => by cases h⟩
  · rw [hj i (by omega), if_neg (by omega), okH_nou] at hok
    cases hok
  · rw [hj _ (by have := Nat.mod_lt (0 + t) (show 0 < s by omega); omega), if_neg (by omega)]

end Go.Proofs.YtippipeebkkghaaGreatDoor
