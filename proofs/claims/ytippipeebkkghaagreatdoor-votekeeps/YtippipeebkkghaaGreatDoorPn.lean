/- A plate that no call made: the walks of its methods. -/
import Derived.Test.YtippipeebkkghaaGreatDoorKb
namespace Go.Proofs.YtippipeebkkghaaGreatDoor
open Go.RowKit Go.Deep

/-- pv is a plate that no call made -/
def No (w : World) (pv : Value) : Prop := pv = .pointer none ∨ ∃ b, pv = .pointer (some ⟨b, 0, none⟩) ∧ w.cell? ⟨b, 0, none⟩ = some (.int .i64 0)
theorem No.keep {w w' : World} {pv : Value} (h : No w pv) (k : Kp (fun _ => False) w w') : No w' pv := by
  rcases h with h | ⟨b, h, hc⟩
  · exact Or.inl h
  · exact Or.inr ⟨b, h, k.cellv hc id⟩

set_option maxRecDepth 100000 in
set_option maxHeartbeats 400000 in
theorem made_no (pv : Value) (w : World) (h : No w pv) :
    Calls Tryz.prog 53 #[pv] w fun e w' => e = .returned (.bool false) ∧ w' = w := by
  rcases h with rfl | ⟨b, rfl, hc⟩
  · go_enter Tryz.func53, Tryz.ntmps53
    go_wp2
    go_ret
    exact ⟨rfl, rfl⟩
  · go_enter Tryz.func53, Tryz.ntmps53
    go_wp2
    go_ret
    exact ⟨rfl, rfl⟩

set_option maxRecDepth 100000 in
set_option maxHeartbeats 400000 in
theorem state_no (pv : Value) (w : World) (h : No w pv) :
    Calls Tryz.prog 25 #[pv] w fun e w' => e = .returned (.int .i64 2) ∧ w' = w := by
  have H : Hid (Calls _ _ _ w _) := made_no pv w h
  go_enter Tryz.func25, Tryz.ntmps25
  go_wp2_with (go_at_call 53; refine H.out.mono ?_; rintro e w' ⟨rfl, rfl⟩)
  go_ret
  exact ⟨rfl, rfl⟩

set_option maxRecDepth 100000 in
set_option maxHeartbeats 400000 in
theorem has_no (pv : Value) (i : Int) (w : World) (h : No w pv) :
    Calls Tryz.prog 212 #[pv, .int .i64 i] w fun e w' => e = .returned (.int .i64 2) ∧ w' = w := by
  have H : Hid (Calls _ _ _ w _) := state_no pv w h
  go_enter Tryz.func212, Tryz.ntmps212
  go_wp2_with (go_at_call 25; refine H.out.mono ?_; rintro e w' ⟨rfl, rfl⟩)
  go_ret
  exact ⟨rfl, rfl⟩

set_option maxRecDepth 100000 in
set_option maxHeartbeats 400000 in
theorem sectors_no (pv : Value) (w : World) (h : No w pv) :
    Calls Tryz.prog 59 #[pv] w fun e w' => e = .returned (.int .i64 0) ∧ w' = w := by
  have H : Hid (Calls _ _ _ w _) := made_no pv w h
  go_enter Tryz.func59, Tryz.ntmps59
  go_wp2_with (go_at_call 53; refine H.out.mono ?_; rintro e w' ⟨rfl, rfl⟩)
  go_ret
  exact ⟨rfl, rfl⟩

set_option maxRecDepth 100000 in
set_option maxHeartbeats 400000 in
theorem read_no (pv : Value) (i : Int) (w : World) (h : No w pv) :
    Calls Tryz.prog 177 #[pv, .int .i64 i] w fun e w' => e = .returned (.tuple #[.slice none 0 0, .int .i64 2]) ∧ w' = w := by
  have H : Hid (Calls _ _ _ w _) := has_no pv i w h
  go_enter Tryz.func177, Tryz.ntmps177
  go_wp2_with (go_at_call 212; refine H.out.mono ?_; rintro e w' ⟨rfl, rfl⟩)
  go_ret2
  exact ⟨rfl, rfl⟩

set_option maxRecDepth 100000 in
set_option maxHeartbeats 400000 in
theorem write_no (pv : Value) (i : Int) (x : Value) (w : World) (h : No w pv) :
    Calls Tryz.prog 206 #[pv, .int .i64 i, x] w fun e w' => e = .returned (.int .i64 2) ∧ w' = w := by
  have H : Hid (Calls _ _ _ w _) := has_no pv i w h
  go_enter Tryz.func206, Tryz.ntmps206
  go_wp2_with (go_at_call 212; refine H.out.mono ?_; rintro e w' ⟨rfl, rfl⟩)
  go_ret
  exact ⟨rfl, rfl⟩

set_option maxRecDepth 100000 in
set_option maxHeartbeats 400000 in
theorem sync_no (pv : Value) (w : World) (h : No w pv) :
    Calls Tryz.prog 124 #[pv] w fun e w' => e = .returned (.int .i64 2) ∧ w' = w := by
  have H : Hid (Calls _ _ _ w _) := state_no pv w h
  go_enter Tryz.func124, Tryz.ntmps124
  go_wp2_with (go_at_call 25; refine H.out.mono ?_; rintro e w' ⟨rfl, rfl⟩)
  go_ret
  exact ⟨rfl, rfl⟩

set_option maxRecDepth 100000 in
set_option maxHeartbeats 400000 in
theorem crash_no (pv : Value) (x : Value) (i n : Int) (w : World) (h : No w pv) :
    Calls Tryz.prog 7 #[pv, x, .int .i64 i, .int .i64 n] w fun e w' => e = .returned (.int .i64 2) ∧ w' = w := by
  have H : Hid (Calls _ _ _ w _) := state_no pv w h
  go_enter Tryz.func7, Tryz.ntmps7
  go_wp2_with (go_at_call 25; refine H.out.mono ?_; rintro e w' ⟨rfl, rfl⟩)
  go_ret
  exact ⟨rfl, rfl⟩

set_option maxRecDepth 100000 in
set_option maxHeartbeats 400000 in
theorem dirty_no (pv : Value) (w : World) (h : No w pv) :
    Calls Tryz.prog 9 #[pv] w fun e w' => e = .returned (.slice none 0 0) ∧ w' = w := by
  have H : Hid (Calls _ _ _ w _) := state_no pv w h
  go_enter Tryz.func9, Tryz.ntmps9
  go_wp2_with (go_at_call 25; refine H.out.mono ?_; rintro e w' ⟨rfl, rfl⟩)
  go_ret
  exact ⟨rfl, rfl⟩

set_option maxRecDepth 100000 in
set_option maxHeartbeats 400000 in
theorem failed_no (pv : Value) (w : World) (h : No w pv) :
    Calls Tryz.prog 91 #[pv] w fun e w' => e = .returned (.bool false) ∧ w' = w := by
  have H : Hid (Calls _ _ _ w _) := state_no pv w h
  go_enter Tryz.func91, Tryz.ntmps91
  go_wp2_with (go_at_call 25; refine H.out.mono ?_; rintro e w' ⟨rfl, rfl⟩)
  go_ret
  exact ⟨rfl, rfl⟩

end Go.Proofs.YtippipeebkkghaaGreatDoor
