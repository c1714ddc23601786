/- A log is not opened on a plate that no call made. -/
import Derived.Test.YtifapelgkfhnhaaGreatDoorPn
import Derived.Test.YtifapelgkfhnhaaGreatDoorFs
namespace Go.Proofs.YtifapelgkfhnhaaGreatDoor
open Go.RowKit Go.Deep

set_option maxRecDepth 100000 in
set_option maxHeartbeats 400000 in
theorem unfit_no (pv : Value) (w : World) (h : No w pv) :
    Calls Tryz.prog 92 #[pv] w fun e w' => e = .returned (.int .i64 2) ∧ w' = w := by
  have H : Hid (Calls _ _ _ w _) := sectors_no pv w h
  go_enter Tryz.func92, Tryz.ntmps92
  go_wp2_with (go_at_call 44; refine H.out.mono ?_; rintro e w' ⟨rfl, rfl⟩)
  go_ret
  exact ⟨rfl, rfl⟩

set_option maxRecDepth 100000 in
set_option maxHeartbeats 400000 in
theorem wopen_no (pv : Value) (w : World) (h : No w pv) :
    Calls Tryz.prog 50 #[pv] w fun e w' => e = .returned (.tuple #[.pointer none, .slice none 0 0, .int .i64 2]) ∧ w' = w := by
  have H : Hid (Calls _ _ _ w _) := unfit_no pv w h
  go_enter Tryz.func50, Tryz.ntmps50
  go_wp2_with (go_at_call 92; refine H.out.mono ?_; rintro e w' ⟨rfl, rfl⟩)
  go_ret3
  exact ⟨rfl, rfl⟩

end Go.Proofs.YtifapelgkfhnhaaGreatDoor
