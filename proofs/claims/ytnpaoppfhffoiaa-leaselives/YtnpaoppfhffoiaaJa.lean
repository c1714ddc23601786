/- Times: until when a lease holds. -/
import Derived.Test.YtnpaoppfhffoiaaDw
namespace Go.Proofs.Ytnpaoppfhffoiaa
open Go.RowKit Go.Deep

set_option maxRecDepth 100000 in
set_option maxHeartbeats 400000 in
theorem counted_ok (n : Int) (w : World) : Calls Try.prog 29 #[.int .i64 n] w fun e w' => e = .returned (.int .i64 (waits n)) ∧ w' = w := by
  obtain ⟨c, hc⟩ : ∃ c, c = waits n := ⟨_, rfl⟩
  have hcn : min (max n 0) 1099511627776 = c := hc.symm
  rw [← hc]
  clear hc
  go_enter Try.func29, Try.ntmps29
  go_wp2
  go_ret
  exact ⟨rfl, rfl⟩

set_option maxRecDepth 100000 in
set_option maxHeartbeats 400000 in
theorem rtime_ok (n : Int) (w : World) : Calls Try.prog 30 #[.int .i64 n] w fun e w' => e = .returned (.int .i64 (waits n)) ∧ w' = w := by
  obtain ⟨c, hc⟩ : ∃ c, c = waits n := ⟨_, rfl⟩
  have hcn : min (max n 0) 1099511627776 = c := hc.symm
  rw [← hc]
  clear hc
  go_enter Try.func30, Try.ntmps30
  go_wp2
  go_ret
  exact ⟨rfl, rfl⟩

set_option maxRecDepth 100000 in
set_option maxHeartbeats 400000 in
theorem until_ok (n : Int) (w : World) : Calls Try.prog 19 #[.int .i64 n] w fun e w' => e = .returned (.int .i64 (waits n + 40)) ∧ w' = w := by
  have H : Hid (∀ w, Calls _ _ _ w _) := fun w => counted_ok n w
  have hb := waits_le n
  obtain ⟨c, hc⟩ : ∃ c, c = waits n := ⟨_, rfl⟩
  rw [← hc] at H hb ⊢
  have w1 : IntKind.i64.wrap (c + 40) = c + 40 := by rw [IntKind.wrap_i64]; omega
  clear hc hb
  go_enter Try.func19, Try.ntmps19
  go_wp2_with (go_at_call 29; refine (H.out _).mono ?_; rintro e w' ⟨rfl, rfl⟩)
  go_ret
  exact ⟨rfl, rfl⟩

set_option maxRecDepth 100000 in
set_option maxHeartbeats 400000 in
theorem runtil_ok (n : Int) (w : World) : Calls Try.prog 20 #[.int .i64 n] w fun e w' => e = .returned (.int .i64 (waits n + 40)) ∧ w' = w := by
  have H : Hid (∀ w, Calls _ _ _ w _) := fun w => rtime_ok n w
  have hb := waits_le n
  obtain ⟨c, hc⟩ : ∃ c, c = waits n := ⟨_, rfl⟩
  rw [← hc] at H hb ⊢
  have w1 : IntKind.i64.wrap (c + 40) = c + 40 := by rw [IntKind.wrap_i64]; omega
  clear hc hb
  go_enter Try.func20, Try.ntmps20
  go_wp2_with (go_at_call 30; refine (H.out _).mono ?_; rintro e w' ⟨rfl, rfl⟩)
  go_ret
  exact ⟨rfl, rfl⟩

set_option maxRecDepth 100000 in
set_option maxHeartbeats 400000 in
theorem valid_ok (u n : Int) (w : World) : Calls Try.prog 21 #[.int .i64 u, .int .i64 n] w fun e w' => e = .returned (.bool (decide (waits n < waits u))) ∧ w' = w := by
  have H1 : Hid (∀ w, Calls _ _ _ w _) := fun w => counted_ok n w
  have H2 : Hid (∀ w, Calls _ _ _ w _) := fun w => counted_ok u w
  obtain ⟨c, hc⟩ : ∃ c, c = waits n := ⟨_, rfl⟩
  obtain ⟨d, hd⟩ : ∃ c, c = waits u := ⟨_, rfl⟩
  rw [← hc] at H1 ⊢
  rw [← hd] at H2 ⊢
  clear hc hd
  go_enter Try.func21, Try.ntmps21
  go_wp2_with fail
  refine (H1.out _).mono ?_
  rintro e w' ⟨rfl, rfl⟩
  go_wp2_with fail
  refine (H2.out _).mono ?_
  rintro e w'' ⟨rfl, rfl⟩
  go_wp2
  go_ret
  exact ⟨rfl, rfl⟩

set_option maxRecDepth 100000 in
set_option maxHeartbeats 400000 in
theorem rvalid_ok (u n : Int) (w : World) : Calls Try.prog 22 #[.int .i64 u, .int .i64 n] w fun e w' => e = .returned (.bool (decide (waits n < waits u))) ∧ w' = w := by
  have H1 : Hid (∀ w, Calls _ _ _ w _) := fun w => rtime_ok n w
  have H2 : Hid (∀ w, Calls _ _ _ w _) := fun w => rtime_ok u w
  obtain ⟨c, hc⟩ : ∃ c, c = waits n := ⟨_, rfl⟩
  obtain ⟨d, hd⟩ : ∃ c, c = waits u := ⟨_, rfl⟩
  rw [← hc] at H1 ⊢
  rw [← hd] at H2 ⊢
  clear hc hd
  go_enter Try.func22, Try.ntmps22
  go_wp2_with fail
  refine (H1.out _).mono ?_
  rintro e w' ⟨rfl, rfl⟩
  go_wp2_with fail
  refine (H2.out _).mono ?_
  rintro e w'' ⟨rfl, rfl⟩
  go_wp2
  go_ret
  exact ⟨rfl, rfl⟩

end Go.Proofs.Ytnpaoppfhffoiaa
