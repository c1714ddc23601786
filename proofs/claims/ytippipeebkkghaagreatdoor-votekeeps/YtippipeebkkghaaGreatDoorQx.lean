/- The same commands, votes and messages are found the same. -/
import Derived.Test.YtippipeebkkghaaGreatDoorQw
namespace Go.Proofs.YtippipeebkkghaaGreatDoor
set_option linter.unusedVariables false
open Go.RowKit Go.Deep Go.Maps

theorem wrapV' (k n : Nat) (hk : k ≤ n) (h : n * 8 ≤ 140737488355328) : wrap64 ((k : Int) + 1) = ((k + 1 : Nat) : Int) := by unfold wrap64; omega

set_option maxRecDepth 100000 in
set_option maxHeartbeats 800000 in
theorem bytesEq_run (v1 v2 : Value) (b : ByteArray) (w : World) (h1 : (convert 75 9 v1).run Tryz.prog w = .ok (.string b) w) (h2 : (convert 75 9 v2).run Tryz.prog w = .ok (.string b) w) :
    Calls Tryz.prog 49 #[v1, v2] w fun e w' => e = .returned (.bool true) ∧ w' = w := by
  go_enter Tryz.func49, Tryz.ntmps49
  go_wp2
  go_ret
  exact ⟨rfl, rfl⟩
theorem bytes_same (p1 p2 : Option Addr) (n1 n2 c1 c2 : Nat) (xs : List Nat) (w : World) (h1 : Rb w p1 n1 xs) (h2 : Rb w p2 n2 xs) :
    Calls Tryz.prog 49 #[.slice p1 n1 c1, .slice p2 n2 c2] w fun e w' => e = .returned (.bool true) ∧ w' = w :=
  bytesEq_run _ _ _ w (convert_bytes p1 n1 c1 xs w h1) (convert_bytes p2 n2 c2 xs w h2)

end Go.Proofs.YtippipeebkkghaaGreatDoor
