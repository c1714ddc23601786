/- A plate that has failed: the walks of its methods; Fail. -/
import Derived.Test.YtfaaikblkakiaaaPl5
import Derived.Deep.RegionHeld3
namespace Go.Proofs.Ytfaaikblkakiaaa
open Go.RowKit Go.Deep Go.Maps

/-- pv is a plate that has failed -/
def Dd (w : World) (pv : Value) : Prop := ∃ b n : Nat, pv = .pointer (some ⟨b, 0, none⟩) ∧ 0 < n ∧ w.cell? ⟨b, 0, none⟩ = some (.int .i64 (n : Int)) ∧ w.cell? ⟨b, 1, none⟩ = some (.slice none 0 0) ∧ w.cell? ⟨b, 2, none⟩ = some (.map none) ∧ w.cell? ⟨b, 3, none⟩ = some (.bool true)
theorem Dd.keep {w w' : World} {pv : Value} (h : Dd w pv) (k : Kp (fun _ => False) w w') : Dd w' pv := by
  obtain ⟨b, n, e, hn, c0, c1, c2, c3⟩ := h
  exact ⟨b, n, e, hn, k.cellv c0 id, k.cellv c1 id, k.cellv c2 id, k.cellv c3 id⟩

set_option maxRecDepth 100000 in
set_option maxHeartbeats 400000 in
theorem made_dead (pv : Value) (w : World) (h : Dd w pv) :
    Calls Try.prog 35 #[pv] w fun e w' => e = .returned (.bool true) ∧ w' = w := by
  obtain ⟨b, n, rfl, hn, c0, c1, c2, c3⟩ := h
  have hn' : decide (0 < n) = true := decide_eq_true hn
  go_enter Try.func35, Try.ntmps35
  go_wp2
  go_ret
  exact ⟨rfl, rfl⟩

set_option maxRecDepth 100000 in
set_option maxHeartbeats 400000 in
theorem state_dead (pv : Value) (w : World) (h : Dd w pv) :
    Calls Try.prog 49 #[pv] w fun e w' => e = .returned (.int .i64 60) ∧ w' = w := by
  have H : Hid (Calls _ _ _ w _) := made_dead pv w h
  obtain ⟨b, n, rfl, hn, c0, c1, c2, c3⟩ := h
  go_enter Try.func49, Try.ntmps49
  go_wp2_with (go_at_call 35; refine H.out.mono ?_; rintro e w' ⟨rfl, rfl⟩)
  go_ret
  exact ⟨rfl, rfl⟩

set_option maxRecDepth 100000 in
set_option maxHeartbeats 400000 in
theorem has_dead (pv : Value) (i : Int) (w : World) (h : Dd w pv) :
    Calls Try.prog 53 #[pv, .int .i64 i] w fun e w' => e = .returned (.int .i64 60) ∧ w' = w := by
  have H : Hid (Calls _ _ _ w _) := state_dead pv w h
  go_enter Try.func53, Try.ntmps53
  go_wp2_with (go_at_call 49; refine H.out.mono ?_; rintro e w' ⟨rfl, rfl⟩)
  go_ret
  exact ⟨rfl, rfl⟩

set_option maxRecDepth 100000 in
set_option maxHeartbeats 400000 in
theorem read_dead (pv : Value) (i : Int) (w : World) (h : Dd w pv) :
    Calls Try.prog 29 #[pv, .int .i64 i] w fun e w' => e = .returned (.tuple #[.slice none 0 0, .int .i64 60]) ∧ w' = w := by
  have H : Hid (Calls _ _ _ w _) := has_dead pv i w h
  go_enter Try.func29, Try.ntmps29
  go_wp2_with (go_at_call 53; refine H.out.mono ?_; rintro e w' ⟨rfl, rfl⟩)
  go_ret2
  exact ⟨rfl, rfl⟩

set_option maxRecDepth 100000 in
set_option maxHeartbeats 400000 in
theorem write_dead (pv : Value) (i : Int) (x : Value) (w : World) (h : Dd w pv) :
    Calls Try.prog 30 #[pv, .int .i64 i, x] w fun e w' => e = .returned (.int .i64 60) ∧ w' = w := by
  have H : Hid (Calls _ _ _ w _) := has_dead pv i w h
  go_enter Try.func30, Try.ntmps30
  go_wp2_with (go_at_call 53; refine H.out.mono ?_; rintro e w' ⟨rfl, rfl⟩)
  go_ret
  exact ⟨rfl, rfl⟩

set_option maxRecDepth 100000 in
set_option maxHeartbeats 400000 in
theorem sync_dead (pv : Value) (w : World) (h : Dd w pv) :
    Calls Try.prog 26 #[pv] w fun e w' => e = .returned (.int .i64 60) ∧ w' = w := by
  have H : Hid (Calls _ _ _ w _) := state_dead pv w h
  go_enter Try.func26, Try.ntmps26
  go_wp2_with (go_at_call 49; refine H.out.mono ?_; rintro e w' ⟨rfl, rfl⟩)
  go_ret
  exact ⟨rfl, rfl⟩

set_option maxRecDepth 100000 in
set_option maxHeartbeats 400000 in
theorem crash_dead (pv : Value) (x : Value) (i n : Int) (w : World) (h : Dd w pv) :
    Calls Try.prog 24 #[pv, x, .int .i64 i, .int .i64 n] w fun e w' => e = .returned (.int .i64 60) ∧ w' = w := by
  have H : Hid (Calls _ _ _ w _) := state_dead pv w h
  go_enter Try.func24, Try.ntmps24
  go_wp2_with (go_at_call 49; refine H.out.mono ?_; rintro e w' ⟨rfl, rfl⟩)
  go_ret
  exact ⟨rfl, rfl⟩

set_option maxRecDepth 100000 in
set_option maxHeartbeats 400000 in
theorem fail_dead (pv : Value) (w : World) (h : Dd w pv) :
    Calls Try.prog 28 #[pv] w fun e w' => e = .returned (.int .i64 60) ∧ w' = w := by
  have H : Hid (Calls _ _ _ w _) := state_dead pv w h
  go_enter Try.func28, Try.ntmps28
  go_wp2_with (go_at_call 49; refine H.out.mono ?_; rintro e w' ⟨rfl, rfl⟩)
  go_ret
  exact ⟨rfl, rfl⟩

set_option maxRecDepth 100000 in
set_option maxHeartbeats 400000 in
theorem image_dead (pv : Value) (w : World) (h : Dd w pv) :
    Calls Try.prog 25 #[pv] w fun e w' => e = .returned (.slice none 0 0) ∧ w' = w := by
  have H : Hid (Calls _ _ _ w _) := state_dead pv w h
  go_enter Try.func25, Try.ntmps25
  go_wp2_with (go_at_call 49; refine H.out.mono ?_; rintro e w' ⟨rfl, rfl⟩)
  go_ret
  exact ⟨rfl, rfl⟩

set_option maxRecDepth 100000 in
set_option maxHeartbeats 400000 in
theorem dirty_dead (pv : Value) (w : World) (h : Dd w pv) :
    Calls Try.prog 22 #[pv] w fun e w' => e = .returned (.slice none 0 0) ∧ w' = w := by
  have H : Hid (Calls _ _ _ w _) := state_dead pv w h
  go_enter Try.func22, Try.ntmps22
  go_wp2_with (go_at_call 49; refine H.out.mono ?_; rintro e w' ⟨rfl, rfl⟩)
  go_ret
  exact ⟨rfl, rfl⟩

set_option maxRecDepth 100000 in
set_option maxHeartbeats 400000 in
theorem failed_dead (pv : Value) (w : World) (h : Dd w pv) :
    Calls Try.prog 27 #[pv] w fun e w' => e = .returned (.bool true) ∧ w' = w := by
  have H : Hid (Calls _ _ _ w _) := state_dead pv w h
  go_enter Try.func27, Try.ntmps27
  go_wp2_with (go_at_call 49; refine H.out.mono ?_; rintro e w' ⟨rfl, rfl⟩)
  go_ret
  exact ⟨rfl, rfl⟩

set_option maxRecDepth 100000 in
set_option maxHeartbeats 400000 in
theorem failed_ok {w : World} {b d m n q : Nat} {dur : List Nat} {T : Nat → Option (List Nat)} (h : Pt w b d m n q dur T) :
    Calls Try.prog 27 #[.pointer (some ⟨b, 0, none⟩)] w fun e w' => e = .returned (.bool false) ∧ w' = w := by
  have H : Hid (Calls _ _ _ w _) := state_ok h
  clear h
  go_enter Try.func27, Try.ntmps27
  go_wp2_with (go_at_call 49; refine H.out.mono ?_; rintro e w' ⟨rfl, rfl⟩)
  go_ret
  exact ⟨rfl, rfl⟩

set_option maxRecDepth 100000 in
set_option maxHeartbeats 800000 in
theorem fail_ok {w : World} {b d m n q : Nat} {dur : List Nat} {T : Nat → Option (List Nat)} (h : Pt w b d m n q dur T) :
    Calls Try.prog 28 #[.pointer (some ⟨b, 0, none⟩)] w fun e w' => e = .returned (.int .i64 0) ∧ Kp (fun x => x = b) w w' ∧ Dd w' (.pointer (some ⟨b, 0, none⟩)) := by
  have H : Hid (Calls _ _ _ w _) := state_ok h
  have c0 := h.c0
  obtain ⟨cp, hcp, c1⟩ := h.c1
  have c2 := h.c2
  have c3 := h.c3
  have f1 := h.fz 1
  have f2 := h.fz 2
  have f3 := h.fz 3
  have hn : 0 < n := h.n1
  clear h
  go_enter Try.func28, Try.ntmps28
  go_wp2_with (go_at_call 49; refine H.out.mono ?_; rintro e w' ⟨rfl, rfl⟩)
  go_ret
  obtain ⟨w3, hw3⟩ : ∃ x, x = ((w'.setCell ⟨b, 1, none⟩ (.slice none 0 0)).setCell ⟨b, 2, none⟩ (.map none)).setCell ⟨b, 3, none⟩ (.bool true) := ⟨_, rfl⟩
  have d0 : w3.cell? ⟨b, 0, none⟩ = some (.int .i64 (n : Int)) := by rw [hw3]; go_simp
  have d1 : w3.cell? ⟨b, 1, none⟩ = some (.slice none 0 0) := by rw [hw3]; go_simp
  have d2 : w3.cell? ⟨b, 2, none⟩ = some (.map none) := by rw [hw3]; go_simp
  have d3 : w3.cell? ⟨b, 3, none⟩ = some (.bool true) := by rw [hw3]; go_simp
  refine ⟨rfl, (((Kp.refl (fun x => x = b) w').setCell (a := ⟨b, 1, none⟩) (fun _ => rfl) _).setCell (a := ⟨b, 2, none⟩) (fun _ => rfl) _).setCell (a := ⟨b, 3, none⟩) (fun _ => rfl) _, ?_⟩
  rw [← hw3]
  exact ⟨b, n, rfl, hn, d0, d1, d2, d3⟩

set_option maxRecDepth 100000 in
theorem map_nil (w : World) : (binOp .eql 62 (.map none) (.map none)).run Try.prog w = .ok (.bool true) w := by rfl

set_option maxRecDepth 100000 in
set_option maxHeartbeats 400000 in
theorem clone_nil (w : World) : Calls Try.prog 36 #[.slice none 0 0] w fun e w' => e = .returned (.slice none 0 0) ∧ w' = w := by
  have hnn := bytes_nil 0 0
  go_enter Try.func36, Try.ntmps36
  go_wp2
  go_ret
  exact ⟨rfl, rfl⟩

set_option maxRecDepth 100000 in
set_option maxHeartbeats 400000 in
theorem mclone_nil (w : World) : Calls Try.prog 37 #[.map none] w fun e w' => e = .returned (.map none) ∧ w' = w := by
  have hnn := map_nil
  go_enter Try.func37, Try.ntmps37
  go_wp2
  go_ret
  exact ⟨rfl, rfl⟩

set_option maxRecDepth 100000 in
set_option maxHeartbeats 800000 in
theorem copy_dead (pv : Value) (w : World) (h : Dd w pv) :
    Calls Try.prog 12 #[pv] w fun e w' => ∃ v, e = .returned v ∧ Kp (fun _ => False) w w' ∧ Dd w' v := by
  have H : Hid (Calls _ _ _ w _) := made_dead pv w h
  obtain ⟨b, n, rfl, hn, c0, c1, c2, c3⟩ := h
  have H1 : Hid (∀ w, Calls _ _ _ w _) := clone_nil
  have H2 : Hid (∀ w, Calls _ _ _ w _) := mclone_nil
  go_enter Try.func12, Try.ntmps12
  go_wp2_with (go_at_call 35; refine H.out.mono ?_; rintro e w' ⟨rfl, rfl⟩)
  go_region_held3 (fun x => x.cell? ⟨b, 0, none⟩ = some (.int .i64 (n : Int)) ∧ x.cell? ⟨b, 1, none⟩ = some (.slice none 0 0) ∧ x.cell? ⟨b, 2, none⟩ = some (.map none) ∧ x.cell? ⟨b, 3, none⟩ = some (.bool true)) (go_keep)
    (first
      | (go_at_call 36; refine (H1.out _).mono ?_; rintro e w1 ⟨rfl, hw⟩; obtain rfl := hw.symm)
      | (go_at_call 37; refine (H2.out _).mono ?_; rintro e w2 ⟨rfl, hw⟩; obtain rfl := hw.symm))
  go_wp2
  go_ret
  obtain ⟨w3, hw3⟩ : ∃ x, x = (w'.alloc (.cells #[.int .i64 (n : Int), .slice none 0 0, .map none, .bool true] 64)).drew := ⟨_, rfl⟩
  have d0 : w3.cell? ⟨w'.heap.size, 0, none⟩ = some (.int .i64 (n : Int)) := by rw [hw3]; go_simp
  have d1 : w3.cell? ⟨w'.heap.size, 1, none⟩ = some (.slice none 0 0) := by rw [hw3]; go_simp
  have d2 : w3.cell? ⟨w'.heap.size, 2, none⟩ = some (.map none) := by rw [hw3]; go_simp
  have d3 : w3.cell? ⟨w'.heap.size, 3, none⟩ = some (.bool true) := by rw [hw3]; go_simp
  refine ⟨_, rfl, ((Kp.refl _ _).alloc _).drew, ?_⟩
  rw [← hw3]
  exact ⟨_, n, rfl, hn, d0, d1, d2, d3⟩
end Go.Proofs.Ytfaaikblkakiaaa
