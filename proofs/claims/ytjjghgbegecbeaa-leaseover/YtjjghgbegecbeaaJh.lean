/- LeaseHolds. -/
import Derived.Test.YtjjghgbegecbeaaJa
namespace Go.Proofs.Ytjjghgbegecbeaa
open Go.RowKit Go.Deep

set_option maxRecDepth 100000 in
set_option maxHeartbeats 800000 in
theorem leaseHolds_walk (u n : Int) (w : World) : Calls Try.prog 4 #[.int .i64 u, .int .i64 n] w fun e w' => e = .returned (.bool true) ∧ Kp (fun _ => False) w w' := by
  have H1 : Hid (∀ w, Calls _ _ _ w _) := fun w => until_ok n w
  have H2 : Hid (∀ w, Calls _ _ _ w _) := fun w => runtil_ok n w
  have H3 : Hid (∀ w, Calls _ _ _ w _) := fun w => valid_ok u n w
  have H4 : Hid (∀ w, Calls _ _ _ w _) := fun w => rvalid_ok u n w
  have e5 : waits 5 + 40 = 45 := by unfold waits; omega
  have H5 := fun w => until_ok 5 w
  rw [e5] at H5
  have H5 : Hid (∀ w, Calls _ _ _ w _) := H5
  have H6 := fun w => valid_ok 45 44 w
  have e6 : decide (waits 44 < waits 45) = true := by simp only [waits]; decide
  rw [e6] at H6
  have H6 : Hid (∀ w, Calls _ _ _ w _) := H6
  have H7 := fun w => valid_ok 45 45 w
  have e7 : decide (waits 45 < waits 45) = false := by simp
  rw [e7] at H7
  have H7 : Hid (∀ w, Calls _ _ _ w _) := H7
  obtain ⟨c, hc⟩ : ∃ c, c = waits n + 40 := ⟨_, rfl⟩
  obtain ⟨d, hd⟩ : ∃ d, d = decide (waits n < waits u) := ⟨_, rfl⟩
  rw [← hc] at H1 H2
  rw [← hd] at H3 H4
  clear hc hd e5 e6 e7
  go_enter Try.func4, Try.ntmps4
  go_wp2_with fail
  refine (H1.out _).mono ?_
  rintro e w' ⟨rfl, rfl⟩
  go_wp2_with fail
  refine (H2.out _).mono ?_
  rintro e w'' ⟨rfl, rfl⟩
  go_wp2_with fail
  refine (H3.out _).mono ?_
  rintro e w'' ⟨rfl, rfl⟩
  go_wp2_with fail
  refine (H4.out _).mono ?_
  rintro e w'' ⟨rfl, rfl⟩
  go_wp2_with fail
  refine (H5.out _).mono ?_
  rintro e w'' ⟨rfl, rfl⟩
  go_wp2_with fail
  refine (H6.out _).mono ?_
  rintro e w'' ⟨rfl, rfl⟩
  go_wp2_with fail
  refine (H5.out _).mono ?_
  rintro e w'' ⟨rfl, rfl⟩
  go_wp2_with fail
  refine (H7.out _).mono ?_
  rintro e w'' ⟨rfl, rfl⟩
  go_wp2
  go_ret
  exact ⟨rfl, Kp.refl _ _⟩

end Go.Proofs.Ytjjghgbegecbeaa
