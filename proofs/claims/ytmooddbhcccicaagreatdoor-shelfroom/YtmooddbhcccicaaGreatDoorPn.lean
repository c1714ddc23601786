/- A plate that no call made: the walks of its methods. -/
import Derived.Test.YtmooddbhcccicaaGreatDoorKb
namespace Go.Proofs.YtmooddbhcccicaaGreatDoor
open Go.RowKit Go.Deep

/-- pv is a plate that no call made -/
def No (w : World) (pv : Value) : Prop := pv = .pointer none ∨ ∃ b, pv = .pointer (some ⟨b, 0, none⟩) ∧ w.cell? ⟨b, 0, none⟩ = some (.int .i64 0)
theorem No.keep {w w' : World} {pv : Value} (h : No w pv) (k : Kp (fun _ => False) w w') : No w' pv := by
  rcases h with h | ⟨b, h, hc⟩
  · exact Or.inl h
  · exact Or.inr ⟨b, h, k.cellv hc id⟩

set_option maxRecDepth 100000 in
set_option maxHeartbeats 400000 in
theorem made_no (pv : Value) (w : World) (h : No w pv) :
    Calls Tryz.prog 96 #[pv] w fun e w' => e = .returned (.bool false) ∧ w' = w := by
  rcases h with rfl | ⟨b, rfl, hc⟩
  · go_enter Tryz.func96, Tryz.ntmps96
    go_wp2
    go_ret
    exact ⟨rfl, rfl⟩
  · go_enter Tryz.func96, Tryz.ntmps96
    go_wp2
    go_ret
    exact ⟨rfl, rfl⟩

set_option maxRecDepth 100000 in
set_option maxHeartbeats 400000 in
theorem state_no (pv : Value) (w : World) (h : No w pv) :
    Calls Tryz.prog 51 #[pv] w fun e w' => e = .returned (.int .i64 2) ∧ w' = w := by
  have H : Hid (Calls _ _ _ w _) := made_no pv w h
  go_enter Tryz.func51, Tryz.ntmps51
  go_wp2_with (go_at_call 96; refine H.out.mono ?_; rintro e w' ⟨rfl, rfl⟩)
  go_ret
  exact ⟨rfl, rfl⟩

set_option maxRecDepth 100000 in
set_option maxHeartbeats 400000 in
theorem has_no (pv : Value) (i : Int) (w : World) (h : No w pv) :
    Calls Tryz.prog 227 #[pv, .int .i64 i] w fun e w' => e = .returned (.int .i64 2) ∧ w' = w := by
  have H : Hid (Calls _ _ _ w _) := state_no pv w h
  go_enter Tryz.func227, Tryz.ntmps227
  go_wp2_with (go_at_call 51; refine H.out.mono ?_; rintro e w' ⟨rfl, rfl⟩)
  go_ret
  exact ⟨rfl, rfl⟩

set_option maxRecDepth 100000 in
set_option maxHeartbeats 400000 in
theorem sectors_no (pv : Value) (w : World) (h : No w pv) :
    Calls Tryz.prog 65 #[pv] w fun e w' => e = .returned (.int .i64 0) ∧ w' = w := by
  have H : Hid (Calls _ _ _ w _) := made_no pv w h
  go_enter Tryz.func65, Tryz.ntmps65
  go_wp2_with (go_at_call 96; refine H.out.mono ?_; rintro e w' ⟨rfl, rfl⟩)
  go_ret
  exact ⟨rfl, rfl⟩

set_option maxRecDepth 100000 in
set_option maxHeartbeats 400000 in
theorem read_no (pv : Value) (i : Int) (w : World) (h : No w pv) :
    Calls Tryz.prog 218 #[pv, .int .i64 i] w fun e w' => e = .returned (.tuple #[.slice none 0 0, .int .i64 2]) ∧ w' = w := by
  have H : Hid (Calls _ _ _ w _) := has_no pv i w h
  go_enter Tryz.func218, Tryz.ntmps218
  go_wp2_with (go_at_call 227; refine H.out.mono ?_; rintro e w' ⟨rfl, rfl⟩)
  go_ret2
  exact ⟨rfl, rfl⟩

set_option maxRecDepth 100000 in
set_option maxHeartbeats 400000 in
theorem write_no (pv : Value) (i : Int) (x : Value) (w : World) (h : No w pv) :
    Calls Tryz.prog 205 #[pv, .int .i64 i, x] w fun e w' => e = .returned (.int .i64 2) ∧ w' = w := by
  have H : Hid (Calls _ _ _ w _) := has_no pv i w h
  go_enter Tryz.func205, Tryz.ntmps205
  go_wp2_with (go_at_call 227; refine H.out.mono ?_; rintro e w' ⟨rfl, rfl⟩)
  go_ret
  exact ⟨rfl, rfl⟩

set_option maxRecDepth 100000 in
set_option maxHeartbeats 400000 in
theorem sync_no (pv : Value) (w : World) (h : No w pv) :
    Calls Tryz.prog 137 #[pv] w fun e w' => e = .returned (.int .i64 2) ∧ w' = w := by
  have H : Hid (Calls _ _ _ w _) := state_no pv w h
  go_enter Tryz.func137, Tryz.ntmps137
  go_wp2_with (go_at_call 51; refine H.out.mono ?_; rintro e w' ⟨rfl, rfl⟩)
  go_ret
  exact ⟨rfl, rfl⟩

set_option maxRecDepth 100000 in
set_option maxHeartbeats 400000 in
theorem crash_no (pv : Value) (x : Value) (i n : Int) (w : World) (h : No w pv) :
    Calls Tryz.prog 23 #[pv, x, .int .i64 i, .int .i64 n] w fun e w' => e = .returned (.int .i64 2) ∧ w' = w := by
  have H : Hid (Calls _ _ _ w _) := state_no pv w h
  go_enter Tryz.func23, Tryz.ntmps23
  go_wp2_with (go_at_call 51; refine H.out.mono ?_; rintro e w' ⟨rfl, rfl⟩)
  go_ret
  exact ⟨rfl, rfl⟩

set_option maxRecDepth 100000 in
set_option maxHeartbeats 400000 in
theorem image_no (pv : Value) (w : World) (h : No w pv) :
    Calls Tryz.prog 69 #[pv] w fun e w' => e = .returned (.slice none 0 0) ∧ w' = w := by
  have H : Hid (Calls _ _ _ w _) := state_no pv w h
  go_enter Tryz.func69, Tryz.ntmps69
  go_wp2_with (go_at_call 51; refine H.out.mono ?_; rintro e w' ⟨rfl, rfl⟩)
  go_ret
  exact ⟨rfl, rfl⟩

set_option maxRecDepth 100000 in
set_option maxHeartbeats 400000 in
theorem dirty_no (pv : Value) (w : World) (h : No w pv) :
    Calls Tryz.prog 25 #[pv] w fun e w' => e = .returned (.slice none 0 0) ∧ w' = w := by
  have H : Hid (Calls _ _ _ w _) := state_no pv w h
  go_enter Tryz.func25, Tryz.ntmps25
  go_wp2_with (go_at_call 51; refine H.out.mono ?_; rintro e w' ⟨rfl, rfl⟩)
  go_ret
  exact ⟨rfl, rfl⟩

set_option maxRecDepth 100000 in
set_option maxHeartbeats 400000 in
theorem failed_no (pv : Value) (w : World) (h : No w pv) :
    Calls Tryz.prog 66 #[pv] w fun e w' => e = .returned (.bool false) ∧ w' = w := by
  have H : Hid (Calls _ _ _ w _) := state_no pv w h
  go_enter Tryz.func66, Tryz.ntmps66
  go_wp2_with (go_at_call 51; refine H.out.mono ?_; rintro e w' ⟨rfl, rfl⟩)
  go_ret
  exact ⟨rfl, rfl⟩

end Go.Proofs.YtmooddbhcccicaaGreatDoor
