/- A plate that no call made: the walks of its methods. -/
import Derived.Test.YtifapelgkfhnhaaGreatDoorKb
namespace Go.Proofs.YtifapelgkfhnhaaGreatDoor
open Go.RowKit Go.Deep

/-- pv is a plate that no call made -/
def No (w : World) (pv : Value) : Prop := pv = .pointer none ∨ ∃ b, pv = .pointer (some ⟨b, 0, none⟩) ∧ w.cell? ⟨b, 0, none⟩ = some (.int .i64 0)
theorem No.keep {w w' : World} {pv : Value} (h : No w pv) (k : Kp (fun _ => False) w w') : No w' pv := by
  rcases h with h | ⟨b, h, hc⟩
  · exact Or.inl h
  · exact Or.inr ⟨b, h, k.cellv hc id⟩

set_option maxRecDepth 100000 in
set_option maxHeartbeats 400000 in
theorem made_no (pv : Value) (w : World) (h : No w pv) :
    Calls Tryz.prog 88 #[pv] w fun e w' => e = .returned (.bool false) ∧ w' = w := by
  rcases h with rfl | ⟨b, rfl, hc⟩
  · go_enter Tryz.func88, Tryz.ntmps88
    go_wp2
    go_ret
    exact ⟨rfl, rfl⟩
  · go_enter Tryz.func88, Tryz.ntmps88
    go_wp2
    go_ret
    exact ⟨rfl, rfl⟩

set_option maxRecDepth 100000 in
set_option maxHeartbeats 400000 in
theorem state_no (pv : Value) (w : World) (h : No w pv) :
    Calls Tryz.prog 70 #[pv] w fun e w' => e = .returned (.int .i64 2) ∧ w' = w := by
  have H : Hid (Calls _ _ _ w _) := made_no pv w h
  go_enter Tryz.func70, Tryz.ntmps70
  go_wp2_with (go_at_call 88; refine H.out.mono ?_; rintro e w' ⟨rfl, rfl⟩)
  go_ret
  exact ⟨rfl, rfl⟩

set_option maxRecDepth 100000 in
set_option maxHeartbeats 400000 in
theorem has_no (pv : Value) (i : Int) (w : World) (h : No w pv) :
    Calls Tryz.prog 250 #[pv, .int .i64 i] w fun e w' => e = .returned (.int .i64 2) ∧ w' = w := by
  have H : Hid (Calls _ _ _ w _) := state_no pv w h
  go_enter Tryz.func250, Tryz.ntmps250
  go_wp2_with (go_at_call 70; refine H.out.mono ?_; rintro e w' ⟨rfl, rfl⟩)
  go_ret
  exact ⟨rfl, rfl⟩

set_option maxRecDepth 100000 in
set_option maxHeartbeats 400000 in
theorem sectors_no (pv : Value) (w : World) (h : No w pv) :
    Calls Tryz.prog 44 #[pv] w fun e w' => e = .returned (.int .i64 0) ∧ w' = w := by
  have H : Hid (Calls _ _ _ w _) := made_no pv w h
  go_enter Tryz.func44, Tryz.ntmps44
  go_wp2_with (go_at_call 88; refine H.out.mono ?_; rintro e w' ⟨rfl, rfl⟩)
  go_ret
  exact ⟨rfl, rfl⟩

set_option maxRecDepth 100000 in
set_option maxHeartbeats 400000 in
theorem read_no (pv : Value) (i : Int) (w : World) (h : No w pv) :
    Calls Tryz.prog 224 #[pv, .int .i64 i] w fun e w' => e = .returned (.tuple #[.slice none 0 0, .int .i64 2]) ∧ w' = w := by
  have H : Hid (Calls _ _ _ w _) := has_no pv i w h
  go_enter Tryz.func224, Tryz.ntmps224
  go_wp2_with (go_at_call 250; refine H.out.mono ?_; rintro e w' ⟨rfl, rfl⟩)
  go_ret2
  exact ⟨rfl, rfl⟩

set_option maxRecDepth 100000 in
set_option maxHeartbeats 400000 in
theorem write_no (pv : Value) (i : Int) (x : Value) (w : World) (h : No w pv) :
    Calls Tryz.prog 237 #[pv, .int .i64 i, x] w fun e w' => e = .returned (.int .i64 2) ∧ w' = w := by
  have H : Hid (Calls _ _ _ w _) := has_no pv i w h
  go_enter Tryz.func237, Tryz.ntmps237
  go_wp2_with (go_at_call 250; refine H.out.mono ?_; rintro e w' ⟨rfl, rfl⟩)
  go_ret
  exact ⟨rfl, rfl⟩

set_option maxRecDepth 100000 in
set_option maxHeartbeats 400000 in
theorem sync_no (pv : Value) (w : World) (h : No w pv) :
    Calls Tryz.prog 202 #[pv] w fun e w' => e = .returned (.int .i64 2) ∧ w' = w := by
  have H : Hid (Calls _ _ _ w _) := state_no pv w h
  go_enter Tryz.func202, Tryz.ntmps202
  go_wp2_with (go_at_call 70; refine H.out.mono ?_; rintro e w' ⟨rfl, rfl⟩)
  go_ret
  exact ⟨rfl, rfl⟩

set_option maxRecDepth 100000 in
set_option maxHeartbeats 400000 in
theorem crash_no (pv : Value) (x : Value) (i n : Int) (w : World) (h : No w pv) :
    Calls Tryz.prog 24 #[pv, x, .int .i64 i, .int .i64 n] w fun e w' => e = .returned (.int .i64 2) ∧ w' = w := by
  have H : Hid (Calls _ _ _ w _) := state_no pv w h
  go_enter Tryz.func24, Tryz.ntmps24
  go_wp2_with (go_at_call 70; refine H.out.mono ?_; rintro e w' ⟨rfl, rfl⟩)
  go_ret
  exact ⟨rfl, rfl⟩

set_option maxRecDepth 100000 in
set_option maxHeartbeats 400000 in
theorem image_no (pv : Value) (w : World) (h : No w pv) :
    Calls Tryz.prog 48 #[pv] w fun e w' => e = .returned (.slice none 0 0) ∧ w' = w := by
  have H : Hid (Calls _ _ _ w _) := state_no pv w h
  go_enter Tryz.func48, Tryz.ntmps48
  go_wp2_with (go_at_call 70; refine H.out.mono ?_; rintro e w' ⟨rfl, rfl⟩)
  go_ret
  exact ⟨rfl, rfl⟩

set_option maxRecDepth 100000 in
set_option maxHeartbeats 400000 in
theorem dirty_no (pv : Value) (w : World) (h : No w pv) :
    Calls Tryz.prog 26 #[pv] w fun e w' => e = .returned (.slice none 0 0) ∧ w' = w := by
  have H : Hid (Calls _ _ _ w _) := state_no pv w h
  go_enter Tryz.func26, Tryz.ntmps26
  go_wp2_with (go_at_call 70; refine H.out.mono ?_; rintro e w' ⟨rfl, rfl⟩)
  go_ret
  exact ⟨rfl, rfl⟩

set_option maxRecDepth 100000 in
set_option maxHeartbeats 400000 in
theorem failed_no (pv : Value) (w : World) (h : No w pv) :
    Calls Tryz.prog 45 #[pv] w fun e w' => e = .returned (.bool false) ∧ w' = w := by
  have H : Hid (Calls _ _ _ w _) := state_no pv w h
  go_enter Tryz.func45, Tryz.ntmps45
  go_wp2_with (go_at_call 70; refine H.out.mono ?_; rintro e w' ⟨rfl, rfl⟩)
  go_ret
  exact ⟨rfl, rfl⟩

end Go.Proofs.YtifapelgkfhnhaaGreatDoor
