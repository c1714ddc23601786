/- How many ticks are enough: both Waits. -/
import Derived.Test.YtnpaoppfhffoiaaKb
import Derived.Lib.MinMax
namespace Go.Proofs.Ytnpaoppfhffoiaa
open Go.RowKit Go.Deep

/-- ticks from 0 to 2^40 -/
def waits (n : Int) : Int := min (max n 0) 1099511627776
theorem waits_le (n : Int) : 0 ≤ waits n ∧ waits n ≤ 1099511627776 := by unfold waits; omega

set_option maxRecDepth 100000 in
set_option maxHeartbeats 400000 in
theorem wait_ok (n : Int) (w : World) : Calls Try.prog 23 #[.int .i64 n] w fun e w' => e = .returned (.int .i64 (2 * waits n + 3)) ∧ w' = w := by
  obtain ⟨c, hc⟩ : ∃ c, c = waits n := ⟨_, rfl⟩
  have hcn : min (max n 0) 1099511627776 = c := hc.symm
  have hb := waits_le n
  rw [← hc] at hb
  rw [← hc]
  have w1 : IntKind.i64.wrap (2 * c) = 2 * c := by rw [IntKind.wrap_i64]; omega
  have w2 : IntKind.i64.wrap (2 * c + 2) = 2 * c + 2 := by rw [IntKind.wrap_i64]; omega
  have w3 : IntKind.i64.wrap (2 * c + 2 + 1) = 2 * c + 3 := by rw [IntKind.wrap_i64]; omega
  have w4 : IntKind.i64.wrap (2 * c + 3) = 2 * c + 3 := by rw [IntKind.wrap_i64]; omega
  clear hb hc
  go_enter Try.func23, Try.ntmps23
  go_wp2
  go_ret
  exact ⟨rfl, rfl⟩

set_option maxRecDepth 100000 in
set_option maxHeartbeats 400000 in
theorem rwait_ok (n : Int) (w : World) : Calls Try.prog 31 #[.int .i64 n] w fun e w' => e = .returned (.int .i64 (2 * waits n + 3)) ∧ w' = w := by
  obtain ⟨c, hc⟩ : ∃ c, c = waits n := ⟨_, rfl⟩
  have hcn : min (max n 0) 1099511627776 = c := hc.symm
  have hb := waits_le n
  rw [← hc] at hb
  rw [← hc]
  have w1 : IntKind.i64.wrap (2 * c) = 2 * c := by rw [IntKind.wrap_i64]; omega
  have w4 : IntKind.i64.wrap (2 * c + 3) = 2 * c + 3 := by rw [IntKind.wrap_i64]; omega
  clear hb hc
  go_enter Try.func31, Try.ntmps31
  go_wp2
  go_ret
  exact ⟨rfl, rfl⟩

end Go.Proofs.Ytnpaoppfhffoiaa
