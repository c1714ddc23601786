/- A plate that has failed: the walks of its methods; Fail. -/
import Derived.Test.YtippipeebkkghaaGreatDoorPl5
import Derived.Deep.RegionHeld3
namespace Go.Proofs.YtippipeebkkghaaGreatDoor
open Go.RowKit Go.Deep Go.Maps

/-- pv is a plate that has failed -/
def Dd (w : World) (pv : Value) : Prop := ∃ b n : Nat, pv = .pointer (some ⟨b, 0, none⟩) ∧ 0 < n ∧ w.cell? ⟨b, 0, none⟩ = some (.int .i64 (n : Int)) ∧ w.cell? ⟨b, 1, none⟩ = some (.slice none 0 0) ∧ w.cell? ⟨b, 2, none⟩ = some (.map none) ∧ w.cell? ⟨b, 3, none⟩ = some (.bool true)
theorem Dd.keep {w w' : World} {pv : Value} (h : Dd w pv) (k : Kp (fun _ => False) w w') : Dd w' pv := by
  obtain ⟨b, n, e, hn, c0, c1, c2, c3⟩ := h
  exact ⟨b, n, e, hn, k.cellv c0 id, k.cellv c1 id, k.cellv c2 id, k.cellv c3 id⟩

set_option maxRecDepth 100000 in
set_option maxHeartbeats 400000 in
theorem made_dead (pv : Value) (w : World) (h : Dd w pv) :
    Calls Tryz.prog 53 #[pv] w fun e w' => e = .returned (.bool true) ∧ w' = w := by
  obtain ⟨b, n, rfl, hn, c0, c1, c2, c3⟩ := h
  have hn' : decide (0 < n) = true := decide_eq_true hn
  go_enter Tryz.func53, Tryz.ntmps53
  go_wp2
  go_ret
  exact ⟨rfl, rfl⟩

set_option maxRecDepth 100000 in
set_option maxHeartbeats 400000 in
theorem state_dead (pv : Value) (w : World) (h : Dd w pv) :
    Calls Tryz.prog 25 #[pv] w fun e w' => e = .returned (.int .i64 60) ∧ w' = w := by
  have H : Hid (Calls _ _ _ w _) := made_dead pv w h
  obtain ⟨b, n, rfl, hn, c0, c1, c2, c3⟩ := h
  go_enter Tryz.func25, Tryz.ntmps25
  go_wp2_with (go_at_call 53; refine H.out.mono ?_; rintro e w' ⟨rfl, rfl⟩)
  go_ret
  exact ⟨rfl, rfl⟩

set_option maxRecDepth 100000 in
set_option maxHeartbeats 400000 in
theorem has_dead (pv : Value) (i : Int) (w : World) (h : Dd w pv) :
    Calls Tryz.prog 212 #[pv, .int .i64 i] w fun e w' => e = .returned (.int .i64 60) ∧ w' = w := by
  have H : Hid (Calls _ _ _ w _) := state_dead pv w h
  go_enter Tryz.func212, Tryz.ntmps212
  go_wp2_with (go_at_call 25; refine H.out.mono ?_; rintro e w' ⟨rfl, rfl⟩)
  go_ret
  exact ⟨rfl, rfl⟩

set_option maxRecDepth 100000 in
set_option maxHeartbeats 400000 in
theorem read_dead (pv : Value) (i : Int) (w : World) (h : Dd w pv) :
    Calls Tryz.prog 177 #[pv, .int .i64 i] w fun e w' => e = .returned (.tuple #[.slice none 0 0, .int .i64 60]) ∧ w' = w := by
  have H : Hid (Calls _ _ _ w _) := has_dead pv i w h
  go_enter Tryz.func177, Tryz.ntmps177
  go_wp2_with (go_at_call 212; refine H.out.mono ?_; rintro e w' ⟨rfl, rfl⟩)
  go_ret2
  exact ⟨rfl, rfl⟩

set_option maxRecDepth 100000 in
set_option maxHeartbeats 400000 in
theorem write_dead (pv : Value) (i : Int) (x : Value) (w : World) (h : Dd w pv) :
    Calls Tryz.prog 206 #[pv, .int .i64 i, x] w fun e w' => e = .returned (.int .i64 60) ∧ w' = w := by
  have H : Hid (Calls _ _ _ w _) := has_dead pv i w h
  go_enter Tryz.func206, Tryz.ntmps206
  go_wp2_with (go_at_call 212; refine H.out.mono ?_; rintro e w' ⟨rfl, rfl⟩)
  go_ret
  exact ⟨rfl, rfl⟩

set_option maxRecDepth 100000 in
set_option maxHeartbeats 400000 in
theorem sync_dead (pv : Value) (w : World) (h : Dd w pv) :
    Calls Tryz.prog 124 #[pv] w fun e w' => e = .returned (.int .i64 60) ∧ w' = w := by
  have H : Hid (Calls _ _ _ w _) := state_dead pv w h
  go_enter Tryz.func124, Tryz.ntmps124
  go_wp2_with (go_at_call 25; refine H.out.mono ?_; rintro e w' ⟨rfl, rfl⟩)
  go_ret
  exact ⟨rfl, rfl⟩

set_option maxRecDepth 100000 in
set_option maxHeartbeats 400000 in
theorem crash_dead (pv : Value) (x : Value) (i n : Int) (w : World) (h : Dd w pv) :
    Calls Tryz.prog 7 #[pv, x, .int .i64 i, .int .i64 n] w fun e w' => e = .returned (.int .i64 60) ∧ w' = w := by
  have H : Hid (Calls _ _ _ w _) := state_dead pv w h
  go_enter Tryz.func7, Tryz.ntmps7
  go_wp2_with (go_at_call 25; refine H.out.mono ?_; rintro e w' ⟨rfl, rfl⟩)
  go_ret
  exact ⟨rfl, rfl⟩

set_option maxRecDepth 100000 in
set_option maxHeartbeats 400000 in
theorem dirty_dead (pv : Value) (w : World) (h : Dd w pv) :
    Calls Tryz.prog 9 #[pv] w fun e w' => e = .returned (.slice none 0 0) ∧ w' = w := by
  have H : Hid (Calls _ _ _ w _) := state_dead pv w h
  go_enter Tryz.func9, Tryz.ntmps9
  go_wp2_with (go_at_call 25; refine H.out.mono ?_; rintro e w' ⟨rfl, rfl⟩)
  go_ret
  exact ⟨rfl, rfl⟩

set_option maxRecDepth 100000 in
set_option maxHeartbeats 400000 in
theorem failed_dead (pv : Value) (w : World) (h : Dd w pv) :
    Calls Tryz.prog 91 #[pv] w fun e w' => e = .returned (.bool true) ∧ w' = w := by
  have H : Hid (Calls _ _ _ w _) := state_dead pv w h
  go_enter Tryz.func91, Tryz.ntmps91
  go_wp2_with (go_at_call 25; refine H.out.mono ?_; rintro e w' ⟨rfl, rfl⟩)
  go_ret
  exact ⟨rfl, rfl⟩

set_option maxRecDepth 100000 in
set_option maxHeartbeats 400000 in
theorem failed_ok {w : World} {b d m n q : Nat} {dur : List Nat} {T : Nat → Option (List Nat)} (h : Pt w b d m n q dur T) :
    Calls Tryz.prog 91 #[.pointer (some ⟨b, 0, none⟩)] w fun e w' => e = .returned (.bool false) ∧ w' = w := by
  have H : Hid (Calls _ _ _ w _) := state_ok h
  clear h
  go_enter Tryz.func91, Tryz.ntmps91
  go_wp2_with (go_at_call 25; refine H.out.mono ?_; rintro e w' ⟨rfl, rfl⟩)
  go_ret
  exact ⟨rfl, rfl⟩

set_option maxRecDepth 100000 in
theorem map_nil (w : World) : (binOp .eql 81 (.map none) (.map none)).run Tryz.prog w = .ok (.bool true) w := by rfl

end Go.Proofs.YtippipeebkkghaaGreatDoor
