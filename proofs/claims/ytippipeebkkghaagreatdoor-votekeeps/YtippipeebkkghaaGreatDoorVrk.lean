/- The reference's shelf and acceptor of a new plate. -/
import Derived.Test.YtippipeebkkghaaGreatDoorVri
namespace Go.Proofs.YtippipeebkkghaaGreatDoor
set_option linter.unusedVariables false
set_option linter.unusedSimpArgs false
open Go.RowKit Go.Deep Go.Maps

set_option maxRecDepth 100000 in
set_option maxHeartbeats 1600000 in
theorem x08open0_ok {w : World} {x tb tw td n : Nat} {df : Nat → Bool} {Y : Nat → Prop} (h : Rp w x tb tw td n (fun _ => List.replicate 64 0) (fun _ => List.replicate 64 0) df Y) (hY : ∀ z, Y z → z < w.heap.size) (hn6 : 6 ≤ n) :
    Calls Tryz.prog 41 #[.pointer (some ⟨x, 0, none⟩)] w fun e w' => ∃ wx sx, e = .returned (.tuple #[.pointer (some ⟨sx, 0, none⟩), .int .i64 0]) ∧ Kp (fun z => z = tb ∨ z = tw ∨ z = td) w w' ∧ w.heap.size ≤ sx ∧ Lv w' sx [.pointer (some ⟨wx, 0, none⟩), .slice none 0 0, .slice none 0 0, .slice none 0 0] := by
  have HO : Hid (Calls _ _ _ w _) := xopen0_ok h hY hn6
  clear h hY hn6
  go_enter Tryz.func41, Tryz.ntmps41
  go_wp2_with fail
  refine HO.out.mono ?_
  rintro e9 w1 ⟨wx, rfl, k1, hx, _⟩
  obtain ⟨sx, hsx⟩ : ∃ y, y = w1.heap.size := ⟨_, rfl⟩
  obtain ⟨w2, hw2⟩ : ∃ y, y = w1.alloc (.cells #[.pointer (some ⟨wx, 0, none⟩), .slice none 0 0, .slice none 0 0, .slice none 0 0] 164) := ⟨_, rfl⟩
  have k2 : Kp (fun _ => False) w1 w2 := by rw [hw2]; exact (Kp.refl _ _).alloc _
  have HF : Hid (Kp (fun z => z = tb ∨ z = tw ∨ z = td) w w2 ∧ w.heap.size ≤ sx ∧ Lv w2 sx [.pointer (some ⟨wx, 0, none⟩), .slice none 0 0, .slice none 0 0, .slice none 0 0]) := ⟨k1.trans k2 (fun _ _ e => e.elim), by rw [hsx]; exact k1.size, by rw [hw2, hsx]; exact Lv.new _ _ _⟩
  clear k1 hx k2 HO
  go_upto_region 5 with fail
  rw [← hw2, ← hsx]
  clear hw2 hsx
  go_wp2_with fail
  go_loopg [24] 0 (fun gk iv wr => gk = 0 ∧ iv = .int .i64 0 ∧ wr = w2)
  case atStart => exact ⟨rfl, rfl, rfl⟩
  case round =>
    obtain ⟨rfl, rfl, rfl⟩ := hrel
    go_wp2_with fail
    go_ret2
    exact ⟨wx, sx, rfl, HF.out⟩

set_option maxRecDepth 100000 in
set_option maxHeartbeats 1600000 in
theorem x08notes0_ok {w : World} {sx : Nat} {v0 v1 v2 : Value} (h : Lv w sx [v0, v1, v2, .slice none 0 0]) :
    Calls Tryz.prog 72 #[.pointer (some ⟨sx, 0, none⟩)] w fun e w' => e = .returned (.slice none 0 0) ∧ w' = w := by
  have c3 : w.cell? ⟨sx, 3, none⟩ = some (.slice none 0 0) := h.cell (j := 3) rfl
  clear h
  go_enter Tryz.func72, Tryz.ntmps72
  go_wp2_with fail
  go_loopg [3, 11] 0 (fun gk lv iv wr => gk = 0 ∧ lv = .slice none 0 0 ∧ iv = .int .i64 0 ∧ wr = w)
  case atStart => exact ⟨rfl, rfl, rfl, rfl⟩
  case round =>
    obtain ⟨rfl, rfl, rfl, rfl⟩ := hrel
    go_wp2_with fail
    go_ret
    exact ⟨rfl, rfl⟩

set_option maxRecDepth 100000 in
set_option maxHeartbeats 1600000 in
theorem x11open0_ok {w : World} {sx : Nat} {v0 v1 v2 : Value} (h : Lv w sx [v0, v1, v2, .slice none 0 0]) :
    Calls Tryz.prog 42 #[.pointer (some ⟨sx, 0, none⟩)] w fun e w' => ∃ ax, e = .returned (.tuple #[.pointer (some ⟨ax, 0, none⟩), .int .i64 0]) ∧ Kp (fun _ => False) w w' := by
  have HN : Hid (Calls _ _ _ w _) := x08notes0_ok h
  have HK : Hid (Kp (fun _ => False) w (w.alloc (.cells #[.pointer (some ⟨sx, 0, none⟩)] 170))) := (Kp.refl _ _).alloc _
  clear h
  go_enter Tryz.func42, Tryz.ntmps42
  go_wp2_with fail
  refine HN.out.mono ?_
  rintro e9 w9 ⟨rfl, hw9⟩
  have hw8 := hw9.symm
  subst hw8
  clear hw9 HN
  go_wp2_with fail
  go_loopg [15] 0 (fun gk iv wr => gk = 0 ∧ iv = .int .i64 0 ∧ wr = w)
  case atStart => exact ⟨rfl, rfl, rfl⟩
  case round =>
    obtain ⟨rfl, rfl, rfl⟩ := hrel
    go_wp2_with fail
    go_ret2
    exact ⟨_, rfl, HK.out⟩
end Go.Proofs.YtippipeebkkghaaGreatDoor
