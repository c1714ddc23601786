/- A shelf that no call made: the walks of its methods, and of the law ShelfNobody. -/
import Derived.Test.YtifapelgkfhnhaaGreatDoorWn0
namespace Go.Proofs.YtifapelgkfhnhaaGreatDoor
open Go.RowKit Go.Deep

/-- v is a shelf that no call made -/
def Ns (w : World) (v : Value) : Prop := v = .pointer none ∨ ∃ b, v = .pointer (some ⟨b, 0, none⟩) ∧ w.cell? ⟨b, 0, none⟩ = some (.pointer none)
theorem Ns.keep {w w' : World} {v : Value} (h : Ns w v) (k : Kp (fun _ => False) w w') : Ns w' v := by
  rcases h with h | ⟨b, h, hc⟩
  · exact Or.inl h
  · exact Or.inr ⟨b, h, k.cellv hc id⟩

set_option maxRecDepth 100000 in
set_option maxHeartbeats 400000 in
theorem smade_no (v : Value) (w : World) (h : Ns w v) :
    Calls Tryz.prog 84 #[v] w fun e w' => e = .returned (.bool false) ∧ w' = w := by
  rcases h with rfl | ⟨b, rfl, hc⟩
  · go_enter Tryz.func84, Tryz.ntmps84
    go_wp2
    go_ret
    exact ⟨rfl, rfl⟩
  · go_enter Tryz.func84, Tryz.ntmps84
    go_wp2
    go_ret
    exact ⟨rfl, rfl⟩

set_option maxRecDepth 100000 in
set_option maxHeartbeats 400000 in
theorem asked_no (v x : Value) (w : World) (h : Ns w v) :
    Calls Tryz.prog 55 #[v, x] w fun e w' => e = .returned (.int .i64 2) ∧ w' = w := by
  have H : Hid (Calls _ _ _ w _) := smade_no v w h
  go_enter Tryz.func55, Tryz.ntmps55
  go_wp2_with (go_at_call 84; refine H.out.mono ?_; rintro e w' ⟨rfl, rfl⟩)
  go_ret
  exact ⟨rfl, rfl⟩

set_option maxRecDepth 100000 in
set_option maxHeartbeats 400000 in
theorem snote_no (v : Value) (i : Int) (x : Value) (w : World) (h : Ns w v) :
    Calls Tryz.prog 18 #[v, .int .i64 i, x] w fun e w' => e = .returned (.int .i64 2) ∧ Kp (fun _ => False) w w' := by
  have H : Hid (∀ x w', Kp (fun _ => False) w w' → Calls _ _ #[v, x] w' _) := fun x w' k => asked_no v x w' (h.keep k)
  go_enter Tryz.func18, Tryz.ntmps18
  go_wp2_with (go_at_call 55; refine (H.out _ _ (by exact (Kp.refl _ _).alloc _)).mono ?_; rintro e w' ⟨rfl, rfl⟩)
  go_ret
  exact ⟨rfl, (Kp.refl _ _).alloc _⟩

set_option maxRecDepth 100000 in
set_option maxHeartbeats 400000 in
theorem ssync_no (v : Value) (w : World) (h : Ns w v) :
    Calls Tryz.prog 67 #[v] w fun e w' => e = .returned (.int .i64 2) ∧ Kp (fun _ => False) w w' := by
  have H : Hid (Calls _ _ _ w _) := smade_no v w h
  go_enter Tryz.func67, Tryz.ntmps67
  go_wp2_with (go_at_call 84; refine H.out.mono ?_; rintro e w' ⟨rfl, rfl⟩)
  go_ret
  exact ⟨rfl, Kp.refl _ _⟩

set_option maxRecDepth 100000 in
set_option maxHeartbeats 400000 in
theorem snoted_no (v : Value) (i : Int) (w : World) (h : Ns w v) :
    Calls Tryz.prog 40 #[v, .int .i64 i] w fun e w' => e = .returned (.slice none 0 0) ∧ Kp (fun _ => False) w w' := by
  have H : Hid (Calls _ _ _ w _) := smade_no v w h
  go_enter Tryz.func40, Tryz.ntmps40
  go_wp2_with (go_at_call 84; refine H.out.mono ?_; rintro e w' ⟨rfl, rfl⟩)
  go_ret
  exact ⟨rfl, Kp.refl _ _⟩

set_option maxRecDepth 100000 in
set_option maxHeartbeats 400000 in
theorem snotes_no (v : Value) (w : World) (h : Ns w v) :
    Calls Tryz.prog 38 #[v] w fun e w' => e = .returned (.slice none 0 0) ∧ Kp (fun _ => False) w w' := by
  have H : Hid (Calls _ _ _ w _) := smade_no v w h
  go_enter Tryz.func38, Tryz.ntmps38
  go_wp2_with (go_at_call 84; refine H.out.mono ?_; rintro e w' ⟨rfl, rfl⟩)
  go_ret
  exact ⟨rfl, Kp.refl _ _⟩

set_option maxRecDepth 100000 in
set_option maxHeartbeats 400000 in
theorem slife_no (v : Value) (w : World) (h : Ns w v) :
    Calls Tryz.prog 62 #[v] w fun e w' => e = .returned (.int .i64 0) ∧ Kp (fun _ => False) w w' := by
  have H : Hid (Calls _ _ _ w _) := smade_no v w h
  go_enter Tryz.func62, Tryz.ntmps62
  go_wp2_with (go_at_call 84; refine H.out.mono ?_; rintro e w' ⟨rfl, rfl⟩)
  go_ret
  exact ⟨rfl, Kp.refl _ _⟩

set_option maxRecDepth 100000 in
set_option maxHeartbeats 400000 in
theorem sopen_nil (w : World) :
    Calls Tryz.prog 16 #[.pointer none] w fun e w' => e = .returned (.tuple #[.pointer none, .int .i64 2]) ∧ w' = w := by
  have H : Hid (Calls _ _ _ w _) := wopen_no (.pointer none) w (Or.inl rfl)
  go_enter Tryz.func16, Tryz.ntmps16
  go_wp2_with (go_at_call 50; refine H.out.mono ?_; rintro e w' ⟨rfl, rfl⟩)
  go_ret2
  exact ⟨rfl, rfl⟩

abbrev six2 : Array Value := #[.int .i64 2, .int .i64 2, .int .i64 2, .int .i64 2, .int .i64 2, .int .i64 2]
theorem six_at (w : World) (t : TypeId) (j : Nat) (hj : j < 6) : (w.alloc (.cells six2 t)).cell? ⟨w.heap.size, j, none⟩ = some (.int .i64 2) := by
  have hh : (w.alloc (.cells six2 t)).heap[w.heap.size]? = _ := heap_alloc_new w _
  unfold World.cell?
  simp only [hh]
  have hj' : j = 0 ∨ j = 1 ∨ j = 2 ∨ j = 3 ∨ j = 4 ∨ j = 5 := by omega
  rcases hj' with rfl | rfl | rfl | rfl | rfl | rfl <;> rfl

end Go.Proofs.YtifapelgkfhnhaaGreatDoor
