/- bits.Len64 of whatever (laid by scripts/mkne.py). -/
import Derived.Test.YtippipeebkkghaaGreatDoorNd
namespace Go.Proofs.YtippipeebkkghaaGreatDoor
set_option linter.unusedVariables false
set_option linter.unusedSimpArgs false
open Go.RowKit Go.Deep

theorem blen_le {n k : Nat} (h : n < 2 ^ k) : blen n ≤ k := by
  unfold blen
  by_cases h0 : n = 0
  · rw [if_pos h0]; exact Nat.zero_le _
  · rw [if_neg h0]
    have := (Nat.log2_lt h0).2 h
    omega
theorem wrap_small {z : Int} (h : 0 ≤ z ∧ z ≤ 1000) : wrap64 z = z := by unfold wrap64; omega

set_option maxRecDepth 100000 in
set_option maxHeartbeats 1600000 in
theorem len64_000 (n : Nat) (hn : n < 18446744073709551616) (h0 : ¬ (4294967296 : Int) ≤ (n : Int)) (h1 : ¬ (65536 : Int) ≤ (n : Int)) (h2 : ¬ (256 : Int) ≤ (n : Int)) (w : World) : Calls Tryz.prog 52 #[.int .u64 n] w fun e w' => e = .returned (.int .i64 (blen n)) ∧ w' = w := by
  have HB : Hid (blen n = blen (n / 1) + 0) := (by show _ = _; rw [Nat.div_one]; rfl)
  obtain ⟨m, hm⟩ : ∃ m : Nat, m = n / 1 := ⟨_, rfl⟩
  have hm9 : m < 256 := by omega
  have HE : Hid ((n : Int) = (m : Int)) := (by show _ = _; omega)
  rw [← hm] at HB
  have HM : Hid (m < 256) := hm9
  clear hm hm9
  go_enter Tryz.func52, Tryz.ntmps52
  have hx : ∀ u : World, (Instr.index 9 (.string tab8) (.int .u8 ((n : Int)))).run Tryz.prog u = .ok (.int .u8 (blen m : Int)) u := fun u => by rw [HE.out]; exact tab8_run m HM.out u
  have hm2 : (n : Int) < 256 := by rw [HE.out]; have := HM.out; omega
  go_wp2_with fail
  go_ret
  have h8 := blen_le (k := 8) (show m < 2 ^ 8 from HM.out)
  exact ⟨by
    show Ending.returned (.int .i64 _) = _
    rw [HB.out]
    congr 2
    have h9 : wrap64 (blen m : Int) = (blen m : Int) := wrap_small (by omega)
    rw [h9, h9]
    omega, rfl⟩

set_option maxRecDepth 100000 in
set_option maxHeartbeats 1600000 in
theorem len64_001 (n : Nat) (hn : n < 18446744073709551616) (h0 : ¬ (4294967296 : Int) ≤ (n : Int)) (h1 : ¬ (65536 : Int) ≤ (n : Int)) (h2 : (256 : Int) ≤ (n : Int)) (w : World) : Calls Tryz.prog 52 #[.int .u64 n] w fun e w' => e = .returned (.int .i64 (blen n)) ∧ w' = w := by
  have HB : Hid (blen n = blen (n / 256) + 8) := (by show _ = _; rw [show (256 : Nat) = 2 ^ 8 from rfl]; exact blen_shift 8 n (by have : (2 : Nat) ^ 8 = 256 := rfl; omega))
  obtain ⟨m, hm⟩ : ∃ m : Nat, m = n / 256 := ⟨_, rfl⟩
  have hm9 : m < 256 := by omega
  have HE : Hid ((n : Int) / 256 = (m : Int)) := (by show _ = _; omega)
  rw [← hm] at HB
  have HM : Hid (m < 256) := hm9
  clear hm hm9
  go_enter Tryz.func52, Tryz.ntmps52
  have hx : ∀ u : World, (Instr.index 9 (.string tab8) (.int .u8 ((n : Int) / 256))).run Tryz.prog u = .ok (.int .u8 (blen m : Int)) u := fun u => by rw [HE.out]; exact tab8_run m HM.out u
  have hm2 : (n : Int) / 256 < 256 := by rw [HE.out]; have := HM.out; omega
  go_wp2_with fail
  go_ret
  have h8 := blen_le (k := 8) (show m < 2 ^ 8 from HM.out)
  exact ⟨by
    show Ending.returned (.int .i64 _) = _
    rw [HB.out]
    congr 2
    have h9 : wrap64 (blen m : Int) = (blen m : Int) := wrap_small (by omega)
    rw [h9, wrap_small (by omega)]
    omega, rfl⟩

set_option maxRecDepth 100000 in
set_option maxHeartbeats 1600000 in
theorem len64_010 (n : Nat) (hn : n < 18446744073709551616) (h0 : ¬ (4294967296 : Int) ≤ (n : Int)) (h1 : (65536 : Int) ≤ (n : Int)) (h2 : ¬ (256 : Int) ≤ (n : Int) / 65536) (w : World) : Calls Tryz.prog 52 #[.int .u64 n] w fun e w' => e = .returned (.int .i64 (blen n)) ∧ w' = w := by
  have HB : Hid (blen n = blen (n / 65536) + 16) := (by show _ = _; rw [show (65536 : Nat) = 2 ^ 16 from rfl]; exact blen_shift 16 n (by have : (2 : Nat) ^ 16 = 65536 := rfl; omega))
  obtain ⟨m, hm⟩ : ∃ m : Nat, m = n / 65536 := ⟨_, rfl⟩
  have hm9 : m < 256 := by omega
  have HE : Hid ((n : Int) / 65536 = (m : Int)) := (by show _ = _; omega)
  rw [← hm] at HB
  have HM : Hid (m < 256) := hm9
  clear hm hm9
  go_enter Tryz.func52, Tryz.ntmps52
  have hx : ∀ u : World, (Instr.index 9 (.string tab8) (.int .u8 ((n : Int) / 65536))).run Tryz.prog u = .ok (.int .u8 (blen m : Int)) u := fun u => by rw [HE.out]; exact tab8_run m HM.out u
  have hm2 : (n : Int) / 65536 < 256 := by rw [HE.out]; have := HM.out; omega
  go_wp2_with fail
  go_ret
  have h8 := blen_le (k := 8) (show m < 2 ^ 8 from HM.out)
  exact ⟨by
    show Ending.returned (.int .i64 _) = _
    rw [HB.out]
    congr 2
    have h9 : wrap64 (blen m : Int) = (blen m : Int) := wrap_small (by omega)
    rw [h9, wrap_small (by omega)]
    omega, rfl⟩

set_option maxRecDepth 100000 in
set_option maxHeartbeats 1600000 in
theorem len64_011 (n : Nat) (hn : n < 18446744073709551616) (h0 : ¬ (4294967296 : Int) ≤ (n : Int)) (h1 : (65536 : Int) ≤ (n : Int)) (h2 : (256 : Int) ≤ (n : Int) / 65536) (w : World) : Calls Tryz.prog 52 #[.int .u64 n] w fun e w' => e = .returned (.int .i64 (blen n)) ∧ w' = w := by
  have HB : Hid (blen n = blen (n / 16777216) + 24) := (by show _ = _; rw [show (16777216 : Nat) = 2 ^ 24 from rfl]; exact blen_shift 24 n (by have : (2 : Nat) ^ 24 = 16777216 := rfl; omega))
  obtain ⟨m, hm⟩ : ∃ m : Nat, m = n / 16777216 := ⟨_, rfl⟩
  have hm9 : m < 256 := by omega
  have HE : Hid ((n : Int) / 65536 / 256 = (m : Int)) := (by show _ = _; omega)
  rw [← hm] at HB
  have HM : Hid (m < 256) := hm9
  clear hm hm9
  go_enter Tryz.func52, Tryz.ntmps52
  have hx : ∀ u : World, (Instr.index 9 (.string tab8) (.int .u8 ((n : Int) / 65536 / 256))).run Tryz.prog u = .ok (.int .u8 (blen m : Int)) u := fun u => by rw [HE.out]; exact tab8_run m HM.out u
  have hm2 : (n : Int) / 65536 / 256 < 256 := by rw [HE.out]; have := HM.out; omega
  go_wp2_with fail
  go_ret
  have h8 := blen_le (k := 8) (show m < 2 ^ 8 from HM.out)
  exact ⟨by
    show Ending.returned (.int .i64 _) = _
    rw [HB.out]
    congr 2
    have h9 : wrap64 (blen m : Int) = (blen m : Int) := wrap_small (by omega)
    rw [h9, wrap_small (by omega)]
    omega, rfl⟩

set_option maxRecDepth 100000 in
set_option maxHeartbeats 1600000 in
theorem len64_100 (n : Nat) (hn : n < 18446744073709551616) (h0 : (4294967296 : Int) ≤ (n : Int)) (h1 : ¬ (65536 : Int) ≤ (n : Int) / 4294967296) (h2 : ¬ (256 : Int) ≤ (n : Int) / 4294967296) (w : World) : Calls Tryz.prog 52 #[.int .u64 n] w fun e w' => e = .returned (.int .i64 (blen n)) ∧ w' = w := by
  have HB : Hid (blen n = blen (n / 4294967296) + 32) := (by show _ = _; rw [show (4294967296 : Nat) = 2 ^ 32 from rfl]; exact blen_shift 32 n (by have : (2 : Nat) ^ 32 = 4294967296 := rfl; omega))
  obtain ⟨m, hm⟩ : ∃ m : Nat, m = n / 4294967296 := ⟨_, rfl⟩
  have hm9 : m < 256 := by omega
  have HE : Hid ((n : Int) / 4294967296 = (m : Int)) := (by show _ = _; omega)
  rw [← hm] at HB
  have HM : Hid (m < 256) := hm9
  clear hm hm9
  go_enter Tryz.func52, Tryz.ntmps52
  have hx : ∀ u : World, (Instr.index 9 (.string tab8) (.int .u8 ((n : Int) / 4294967296))).run Tryz.prog u = .ok (.int .u8 (blen m : Int)) u := fun u => by rw [HE.out]; exact tab8_run m HM.out u
  have hm2 : (n : Int) / 4294967296 < 256 := by rw [HE.out]; have := HM.out; omega
  go_wp2_with fail
  go_ret
  have h8 := blen_le (k := 8) (show m < 2 ^ 8 from HM.out)
  exact ⟨by
    show Ending.returned (.int .i64 _) = _
    rw [HB.out]
    congr 2
    have h9 : wrap64 (blen m : Int) = (blen m : Int) := wrap_small (by omega)
    rw [h9, wrap_small (by omega)]
    omega, rfl⟩

set_option maxRecDepth 100000 in
set_option maxHeartbeats 1600000 in
theorem len64_101 (n : Nat) (hn : n < 18446744073709551616) (h0 : (4294967296 : Int) ≤ (n : Int)) (h1 : ¬ (65536 : Int) ≤ (n : Int) / 4294967296) (h2 : (256 : Int) ≤ (n : Int) / 4294967296) (w : World) : Calls Tryz.prog 52 #[.int .u64 n] w fun e w' => e = .returned (.int .i64 (blen n)) ∧ w' = w := by
  have HB : Hid (blen n = blen (n / 1099511627776) + 40) := (by show _ = _; rw [show (1099511627776 : Nat) = 2 ^ 40 from rfl]; exact blen_shift 40 n (by have : (2 : Nat) ^ 40 = 1099511627776 := rfl; omega))
  obtain ⟨m, hm⟩ : ∃ m : Nat, m = n / 1099511627776 := ⟨_, rfl⟩
  have hm9 : m < 256 := by omega
  have HE : Hid ((n : Int) / 4294967296 / 256 = (m : Int)) := (by show _ = _; omega)
  rw [← hm] at HB
  have HM : Hid (m < 256) := hm9
  clear hm hm9
  go_enter Tryz.func52, Tryz.ntmps52
  have hx : ∀ u : World, (Instr.index 9 (.string tab8) (.int .u8 ((n : Int) / 4294967296 / 256))).run Tryz.prog u = .ok (.int .u8 (blen m : Int)) u := fun u => by rw [HE.out]; exact tab8_run m HM.out u
  have hm2 : (n : Int) / 4294967296 / 256 < 256 := by rw [HE.out]; have := HM.out; omega
  go_wp2_with fail
  go_ret
  have h8 := blen_le (k := 8) (show m < 2 ^ 8 from HM.out)
  exact ⟨by
    show Ending.returned (.int .i64 _) = _
    rw [HB.out]
    congr 2
    have h9 : wrap64 (blen m : Int) = (blen m : Int) := wrap_small (by omega)
    rw [h9, wrap_small (by omega)]
    omega, rfl⟩

set_option maxRecDepth 100000 in
set_option maxHeartbeats 1600000 in
theorem len64_110 (n : Nat) (hn : n < 18446744073709551616) (h0 : (4294967296 : Int) ≤ (n : Int)) (h1 : (65536 : Int) ≤ (n : Int) / 4294967296) (h2 : ¬ (256 : Int) ≤ (n : Int) / 4294967296 / 65536) (w : World) : Calls Tryz.prog 52 #[.int .u64 n] w fun e w' => e = .returned (.int .i64 (blen n)) ∧ w' = w := by
  have HB : Hid (blen n = blen (n / 281474976710656) + 48) := (by show _ = _; rw [show (281474976710656 : Nat) = 2 ^ 48 from rfl]; exact blen_shift 48 n (by have : (2 : Nat) ^ 48 = 281474976710656 := rfl; omega))
  obtain ⟨m, hm⟩ : ∃ m : Nat, m = n / 281474976710656 := ⟨_, rfl⟩
  have hm9 : m < 256 := by omega
  have HE : Hid ((n : Int) / 4294967296 / 65536 = (m : Int)) := (by show _ = _; omega)
  rw [← hm] at HB
  have HM : Hid (m < 256) := hm9
  clear hm hm9
  go_enter Tryz.func52, Tryz.ntmps52
  have hx : ∀ u : World, (Instr.index 9 (.string tab8) (.int .u8 ((n : Int) / 4294967296 / 65536))).run Tryz.prog u = .ok (.int .u8 (blen m : Int)) u := fun u => by rw [HE.out]; exact tab8_run m HM.out u
  have hm2 : (n : Int) / 4294967296 / 65536 < 256 := by rw [HE.out]; have := HM.out; omega
  go_wp2_with fail
  go_ret
  have h8 := blen_le (k := 8) (show m < 2 ^ 8 from HM.out)
  exact ⟨by
    show Ending.returned (.int .i64 _) = _
    rw [HB.out]
    congr 2
    have h9 : wrap64 (blen m : Int) = (blen m : Int) := wrap_small (by omega)
    rw [h9, wrap_small (by omega)]
    omega, rfl⟩

set_option maxRecDepth 100000 in
set_option maxHeartbeats 1600000 in
theorem len64_111 (n : Nat) (hn : n < 18446744073709551616) (h0 : (4294967296 : Int) ≤ (n : Int)) (h1 : (65536 : Int) ≤ (n : Int) / 4294967296) (h2 : (256 : Int) ≤ (n : Int) / 4294967296 / 65536) (w : World) : Calls Tryz.prog 52 #[.int .u64 n] w fun e w' => e = .returned (.int .i64 (blen n)) ∧ w' = w := by
  have HB : Hid (blen n = blen (n / 72057594037927936) + 56) := (by show _ = _; rw [show (72057594037927936 : Nat) = 2 ^ 56 from rfl]; exact blen_shift 56 n (by have : (2 : Nat) ^ 56 = 72057594037927936 := rfl; omega))
  obtain ⟨m, hm⟩ : ∃ m : Nat, m = n / 72057594037927936 := ⟨_, rfl⟩
  have hm9 : m < 256 := by omega
  have HE : Hid ((n : Int) / 4294967296 / 65536 / 256 = (m : Int)) := (by show _ = _; omega)
  rw [← hm] at HB
  have HM : Hid (m < 256) := hm9
  clear hm hm9
  go_enter Tryz.func52, Tryz.ntmps52
  have hx : ∀ u : World, (Instr.index 9 (.string tab8) (.int .u8 ((n : Int) / 4294967296 / 65536 / 256))).run Tryz.prog u = .ok (.int .u8 (blen m : Int)) u := fun u => by rw [HE.out]; exact tab8_run m HM.out u
  have hm2 : (n : Int) / 4294967296 / 65536 / 256 < 256 := by rw [HE.out]; have := HM.out; omega
  go_wp2_with fail
  go_ret
  have h8 := blen_le (k := 8) (show m < 2 ^ 8 from HM.out)
  exact ⟨by
    show Ending.returned (.int .i64 _) = _
    rw [HB.out]
    congr 2
    have h9 : wrap64 (blen m : Int) = (blen m : Int) := wrap_small (by omega)
    rw [h9, wrap_small (by omega)]
    omega, rfl⟩

theorem len64_ok (n : Nat) (hn : n < 18446744073709551616) (w : World) : Calls Tryz.prog 52 #[.int .u64 n] w fun e w' => e = .returned (.int .i64 (blen n)) ∧ w' = w := by
  by_cases q0 : (4294967296 : Int) ≤ (n : Int)
  · by_cases q1 : (65536 : Int) ≤ (n : Int) / 4294967296
    · by_cases q2 : (256 : Int) ≤ (n : Int) / 4294967296 / 65536
      · exact len64_111 n hn (by omega) (by omega) (by omega) w
      · exact len64_110 n hn (by omega) (by omega) (by omega) w
    · by_cases q2 : (256 : Int) ≤ (n : Int) / 4294967296
      · exact len64_101 n hn (by omega) (by omega) (by omega) w
      · exact len64_100 n hn (by omega) (by omega) (by omega) w
  · by_cases q1 : (65536 : Int) ≤ (n : Int)
    · by_cases q2 : (256 : Int) ≤ (n : Int) / 65536
      · exact len64_011 n hn (by omega) (by omega) (by omega) w
      · exact len64_010 n hn (by omega) (by omega) (by omega) w
    · by_cases q2 : (256 : Int) ≤ (n : Int)
      · exact len64_001 n hn (by omega) (by omega) (by omega) w
      · exact len64_000 n hn (by omega) (by omega) (by omega) w
end Go.Proofs.YtippipeebkkghaaGreatDoor
