/- How many ticks are enough: both Waits. -/
import Derived.Test.YtdhlmplpdmcjoaaKb
import Derived.Lib.MinMax
namespace Go.Proofs.Ytdhlmplpdmcjoaa
open Go.RowKit Go.Deep

/-- ticks from 0 to 2^40 -/
def waits (n : Int) : Int := min (max n 0) 1099511627776
theorem waits_le (n : Int) : 0 ≤ waits n ∧ waits n ≤ 1099511627776 := by unfold waits; omega

set_option maxRecDepth 100000 in
set_option maxHeartbeats 400000 in
theorem wait_ok (n : Int) (w : World) : Calls Try.prog 36 #[.int .i64 n] w fun e w' => e = .returned (.int .i64 (2 * waits n + 3)) ∧ w' = w := by
  obtain ⟨c, hc⟩ : ∃ c, c = waits n := ⟨_, rfl⟩
  have hcn : min (max n 0) 1099511627776 = c := hc.symm
  have hb := waits_le n
  rw [← hc] at hb
  rw [← hc]
  have w1 : IntKind.i64.wrap (2 * c) = 2 * c := by rw [IntKind.wrap_i64]; omega
  have w2 : IntKind.i64.wrap (2 * c + 2) = 2 * c + 2 := by rw [IntKind.wrap_i64]; omega
  have w3 : IntKind.i64.wrap (2 * c + 2 + 1) = 2 * c + 3 := by rw [IntKind.wrap_i64]; omega
  have w4 : IntKind.i64.wrap (2 * c + 3) = 2 * c + 3 := by rw [IntKind.wrap_i64]; omega
  clear hb hc
  go_enter Try.func36, Try.ntmps36
  go_wp2
  go_ret
  exact ⟨rfl, rfl⟩

set_option maxRecDepth 100000 in
set_option maxHeartbeats 400000 in
theorem rwait_ok (n : Int) (w : World) : Calls Try.prog 37 #[.int .i64 n] w fun e w' => e = .returned (.int .i64 (2 * waits n + 3)) ∧ w' = w := by
  obtain ⟨c, hc⟩ : ∃ c, c = waits n := ⟨_, rfl⟩
  have hcn : min (max n 0) 1099511627776 = c := hc.symm
  have hb := waits_le n
  rw [← hc] at hb
  rw [← hc]
  have w1 : IntKind.i64.wrap (2 * c) = 2 * c := by rw [IntKind.wrap_i64]; omega
  have w4 : IntKind.i64.wrap (2 * c + 3) = 2 * c + 3 := by rw [IntKind.wrap_i64]; omega
  clear hb hc
  go_enter Try.func37, Try.ntmps37
  go_wp2
  go_ret
  exact ⟨rfl, rfl⟩

set_option maxRecDepth 100000 in
set_option maxHeartbeats 400000 in
theorem driftWaits_walk (n : Int) (w : World) : Calls Try.prog 8 #[.int .i64 n] w fun e w' => e = .returned (.bool true) ∧ Kp (fun _ => False) w w' := by
  have e1 : 2 * waits (-1) + 3 = 3 := by unfold waits; omega
  have H1 := fun w => wait_ok (-1) w
  rw [e1] at H1
  have HH1 : Hid (∀ w, Calls _ _ _ w _) := H1
  have HH2 : Hid (∀ w, Calls _ _ _ w _) := fun w => wait_ok n w
  have HH3 : Hid (∀ w, Calls _ _ _ w _) := fun w => rwait_ok n w
  obtain ⟨c, hc⟩ : ∃ c, c = 2 * waits n + 3 := ⟨_, rfl⟩
  rw [← hc] at HH2 HH3
  clear hc H1 e1
  go_enter Try.func8, Try.ntmps8
  go_wp2_with (first
    | (go_at_call 37; refine (HH3.out _).mono ?_; rintro e w' ⟨rfl, rfl⟩; have k1 : True := trivial)
    | (have k2 := k1; go_at_call 36; refine (HH1.out _).mono ?_; rintro e w' ⟨rfl, rfl⟩)
    | (go_at_call 36; refine (HH2.out _).mono ?_; rintro e w' ⟨rfl, rfl⟩))
  go_ret
  exact ⟨rfl, Kp.refl _ _⟩

end Go.Proofs.Ytdhlmplpdmcjoaa
