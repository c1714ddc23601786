/- Are two commands the same: as the statements ask. -/
import Derived.Test.YtjbgpbafgpdciaaCb
namespace Go.Proofs.Ytjbgpbafgpdciaa
set_option linter.unusedVariables false
open Go.RowKit Go.Deep Go.Maps

set_option maxRecDepth 100000 in
set_option maxHeartbeats 6400000 in
theorem psame_ok (c d : Cs0) (Z1 Z2 : Nat → Prop) (xs ys : List Int) (nv mv : Value) (w : World) (h1 : Ni w Z1 xs nv) (h2 : Ni w Z2 ys mv) :
    Calls Try.prog 16 #[.agg (cmdA c nv), .agg (cmdA d mv)] w fun e w' => ∃ b : Bool, e = .returned (.bool b) ∧ (b = true ↔ c = d ∧ xs = ys) ∧ Kp (fun _ => False) w w' := by
  obtain ⟨p1, c1, rfl, f1, l1⟩ := h1
  obtain ⟨p2, c2, rfl, f2, l2⟩ := h2
  have HE : Hid (∀ u, Kp (fun _ => False) w u → Calls _ _ _ u _) := fun u k => eq_ints Z1 Z2 p1 p2 c1 c2 xs ys u (f1.keep k (fun _ _ => id)) (f2.keep k (fun _ _ => id)) l1
  obtain ⟨dd, hdd⟩ : ∃ dd, dd = decide (xs = ys) := ⟨_, rfl⟩
  have HD : Hid (dd = true ↔ xs = ys) := by rw [hdd]; exact decide_eq_true_iff
  rw [← hdd] at HE
  obtain ⟨L, hL⟩ : ∃ L, L = xs.length := ⟨_, rfl⟩
  obtain ⟨M, hM⟩ : ∃ M, M = ys.length := ⟨_, rfl⟩
  rw [← hL, ← hM] at HE
  rw [← hL, ← hM]
  clear f1 f2 hL hM l1 l2 hdd
  obtain ⟨a0, a1, a2, a3, a4, a5, a6, a7, a8, a9, a10⟩ := c
  obtain ⟨b0, b1, b2, b3, b4, b5, b6, b7, b8, b9, b10⟩ := d
  by_cases e0 : a0 = b0
  rotate_left
  · clear HE HD
    go_enter Try.func16, Try.ntmps16
    go_wp2
    go_ret
    exact ⟨false, rfl, ⟨fun h => (by cases h), fun h => (e0 (by injection h.1)).elim⟩, ((Kp.refl _ _).alloc _).alloc _⟩
  subst e0
  by_cases e1 : a1 = b1
  rotate_left
  · clear HE HD
    go_enter Try.func16, Try.ntmps16
    go_wp2
    go_ret
    exact ⟨false, rfl, ⟨fun h => (by cases h), fun h => (e1 (by injection h.1)).elim⟩, ((Kp.refl _ _).alloc _).alloc _⟩
  subst e1
  by_cases e2 : a2.toList = b2.toList
  rotate_left
  · clear HE HD
    go_enter Try.func16, Try.ntmps16
    go_wp2
    go_ret
    exact ⟨false, rfl, ⟨fun h => (by cases h), fun h => (e2 (by injection h.1 with _ _ h2; rw [h2])).elim⟩, ((Kp.refl _ _).alloc _).alloc _⟩
  replace e2 := key_inj e2
  subst e2
  by_cases e3 : a3 = b3
  rotate_left
  · clear HE HD
    go_enter Try.func16, Try.ntmps16
    go_wp2
    go_ret
    exact ⟨false, rfl, ⟨fun h => (by cases h), fun h => (e3 (by injection h.1)).elim⟩, ((Kp.refl _ _).alloc _).alloc _⟩
  subst e3
  by_cases e4 : a4 = b4
  rotate_left
  · clear HE HD
    go_enter Try.func16, Try.ntmps16
    go_wp2
    go_ret
    exact ⟨false, rfl, ⟨fun h => (by cases h), fun h => (e4 (by injection h.1)).elim⟩, ((Kp.refl _ _).alloc _).alloc _⟩
  subst e4
  by_cases e5 : a5 = b5
  rotate_left
  · clear HE HD
    go_enter Try.func16, Try.ntmps16
    go_wp2
    go_ret
    exact ⟨false, rfl, ⟨fun h => (by cases h), fun h => (e5 (by injection h.1)).elim⟩, ((Kp.refl _ _).alloc _).alloc _⟩
  subst e5
  by_cases e6 : a6 = b6
  rotate_left
  · clear HE HD
    go_enter Try.func16, Try.ntmps16
    go_wp2
    go_ret
    exact ⟨false, rfl, ⟨fun h => (by cases h), fun h => (e6 (by injection h.1)).elim⟩, ((Kp.refl _ _).alloc _).alloc _⟩
  subst e6
  by_cases e7 : a7 = b7
  rotate_left
  · clear HE HD
    go_enter Try.func16, Try.ntmps16
    go_wp2
    go_ret
    exact ⟨false, rfl, ⟨fun h => (by cases h), fun h => (e7 (by injection h.1)).elim⟩, ((Kp.refl _ _).alloc _).alloc _⟩
  subst e7
  by_cases e8 : a8 = b8
  rotate_left
  · clear HE HD
    go_enter Try.func16, Try.ntmps16
    go_wp2
    go_ret
    exact ⟨false, rfl, ⟨fun h => (by cases h), fun h => (e8 (by injection h.1)).elim⟩, ((Kp.refl _ _).alloc _).alloc _⟩
  subst e8
  by_cases e9 : a9 = b9
  rotate_left
  · clear HE HD
    go_enter Try.func16, Try.ntmps16
    go_wp2
    go_ret
    exact ⟨false, rfl, ⟨fun h => (by cases h), fun h => (e9 (by injection h.1)).elim⟩, ((Kp.refl _ _).alloc _).alloc _⟩
  subst e9
  by_cases e10 : a10 = b10
  rotate_left
  · clear HE HD
    go_enter Try.func16, Try.ntmps16
    go_wp2
    go_ret
    exact ⟨false, rfl, ⟨fun h => (by cases h), fun h => (e10 (by injection h.1)).elim⟩, ((Kp.refl _ _).alloc _).alloc _⟩
  subst e10
  go_enter Try.func16, Try.ntmps16
  go_wp2_with (go_at_call 28; refine (HE.out _ (by first | exact Kp.refl _ _ | exact (Kp.refl _ _).alloc _ | exact ((Kp.refl _ _).alloc _).alloc _)).mono ?_; rintro e w3 ⟨rfl, k3⟩)
  go_ret
  exact ⟨dd, rfl, by rw [HD.out]; simp, (((Kp.refl _ _).alloc _).alloc _).trans k3 (fun _ _ e => e)⟩

end Go.Proofs.Ytjbgpbafgpdciaa
