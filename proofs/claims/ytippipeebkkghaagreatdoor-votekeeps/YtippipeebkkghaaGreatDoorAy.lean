/- A log of a new plate, as the verifier makes it. -/
import Derived.Test.YtippipeebkkghaaGreatDoorAx
namespace Go.Proofs.YtippipeebkkghaaGreatDoor
set_option linter.unusedVariables false
set_option linter.unusedSimpArgs false
open Go.RowKit Go.Deep

def m40 (n : Int) : Nat := ((n % 18446744073709551616) % 40).toNat
theorem m40_lt (n : Int) : m40 n < 40 := by unfold m40; omega
theorem m40_eq (n : Int) : wrap64 ((IntKind.u64.wrap n).tmod 40) = (m40 n : Int) ∧ (IntKind.u64.wrap n).tmod 40 = (m40 n : Int) := by
  have e : IntKind.u64.wrap n = n % 18446744073709551616 := by simp [IntKind.wrap, IntKind.bits, IntKind.signed]
  rw [e, Int.tmod_eq_emod_of_nonneg (Int.emod_nonneg _ (by omega))]
  unfold m40 wrap64
  omega
theorem nowOf_new (n i : Nat) (hi : i < n) : nowOf (List.replicate (n * 64) 0) (fun _ => none) i = nouW 64 := by
  unfold nowOf
  rw [Option.getD_none, List.drop_replicate, List.take_replicate, Nat.min_eq_left (by omega)]

end Go.Proofs.YtippipeebkkghaaGreatDoor
