/- The walks of galois.remainder, Mul, Pow, Add, Div and Inv: each returns what the field of Gf has, given that the table of powers lies in memory; nothing in memory changes. -/
import Derived.Test.YtmncocmeafcpfaaDoorProg
import Derived.Test.YtmncocmeafcpfaaDoorMfBt
import Derived.WalkKit
import Derived.WalkSpells
import Derived.Deep.QuietTactic
import Derived.BigQuiet
import Derived.RowKit3
namespace Go.Proofs.YtmncocmeafcpfaaDoor.Mf
open Go.RowKit

/-- the table of powers lies in memory -/
def Pows (w : World) : Prop := ∀ k : Nat, k < 15 → w.cell? ⟨1, k, none⟩ = some (.int .u8 (Gf.pw k))
theorem Pows.drewN {w : World} (h : Pows w) (n : Nat) : Pows (w.drewN n) := fun k hk => by
  have := h k hk
  go_simp
theorem drewN_add (w : World) (n m : Nat) : (w.drewN n).drewN m = w.drewN (n + m) := by
  first | rfl | simp

set_option maxRecDepth 100000 in
set_option maxHeartbeats 400000 in
theorem rem_any (x : Nat) (w : World) (hx : (x : Int) < 32768) (hp : Pows w) :
    Calls Tryd.prog 154 #[.int .u64 x] w fun e w' => e = .returned (.int .u8 (Gf.rm x 15)) ∧ ∃ n, w' = w.drewN n := by
  go_enter Tryd.func154, Tryd.ntmps154
  go_wp2
  go_loopw [3, 5] (fun s i w' => ∃ k : Nat, k ≤ 15 ∧ i = .int .i64 k ∧ s = .int .u8 (Gf.rm x k) ∧ ∃ n, w' = w.drewN n) (fun _ i _ => 15 - (intOf i).toNat)
  case atStart => exact ⟨0, Nat.zero_le _, rfl, rfl, 0, rfl⟩
  case round =>
    obtain ⟨k, hk, rfl, rfl, n, rfl⟩ := hrel
    by_cases hlt : (k : Int) < 15
    · have hc := hp k (by omega)
      have HS : Hid (_ = _) := rem_step x k (by omega) (by omega)
      go_wp2
      go_quiet (fail)
      rw [HS.out]
      go_wp2
      go_roundw
      case rel => exact ⟨k + 1, by omega, by go_num, rfl, n + nq, rfl⟩
      case measure => simp [intOf]; omega
    · have e : k = 15 := by omega
      subst e
      go_wp2
      go_ret
      exact ⟨rfl, n, rfl⟩

set_option maxRecDepth 100000 in
set_option maxHeartbeats 400000 in
theorem mul_nat (a b : Nat) (w : World) (ha : (a : Int) < 256) (hb : (b : Int) < 256) (hp : Pows w) :
    Calls Tryd.prog 149 #[.int .u8 a, .int .u8 b] w fun e w' => e = .returned (.int .u8 (Gf.mul a b)) ∧ ∃ n, w' = w.drewN n := by
  go_enter Tryd.func149, Tryd.ntmps149
  go_wp2
  go_loopw [5, 7] (fun s i w' => ∃ k : Nat, k ≤ 8 ∧ i = .int .i64 k ∧ s = .int .u64 (Gf.cl a b k) ∧ ∃ n, w' = w.drewN n) (fun _ i _ => 8 - (intOf i).toNat)
  case atStart => exact ⟨0, Nat.zero_le _, rfl, rfl, 0, rfl⟩
  case round =>
    obtain ⟨k, hk, rfl, rfl, n, rfl⟩ := hrel
    by_cases hlt : (k : Int) < 8
    · have HS : Hid (_ = _) := mul_step a b k (by omega) (by omega) (by omega)
      go_wp2
      go_quiet (fail)
      rw [HS.out]
      go_wp2
      go_roundw
      case rel => exact ⟨k + 1, by omega, by go_num, rfl, n + nq, rfl⟩
      case measure => simp [intOf]; omega
    · have e : k = 8 := by omega
      subst e
      have hl := cl_lt8 a b (by omega) 8 (by omega)
      go_wp2_with (go_at_call 154; refine (rem_any _ _ (by omega) (hp.drewN _)).mono ?_; rintro e w' ⟨rfl, m, rfl⟩)
      go_ret
      exact ⟨rfl, n + m, rfl⟩

theorem i64_odd (M : Nat) (hM : M < 9223372036854775808) : bits .and .i64 (M : Int) 1 = ((M % 2 : Nat) : Int) := by
  rw [show (1 : Int) = ((1 : Nat) : Int) from rfl, i64_and_nat _ _ hM (by omega), Nat.and_one_is_mod]

set_option maxRecDepth 100000 in
set_option maxHeartbeats 400000 in
theorem pow_nat (a N : Nat) (w : World) (ha : (a : Int) < 256) (hN : Hid (N < 9223372036854775808)) (hp : Pows w) :
    Calls Tryd.prog 153 #[.int .u8 a, .int .i64 N] w fun e w' => e = .returned (.int .u8 (Gf.pow a N)) ∧ ∃ n, w' = w.drewN n := by
  go_enter Tryd.func153, Tryd.ntmps153
  go_wp2
  go_loopw [0, 1, 5] (fun s i p w' => ∃ x y M : Nat, x < 256 ∧ y < 256 ∧ Hid (M < 9223372036854775808) ∧ s = .int .u8 x ∧ i = .int .i64 M ∧ p = .int .u8 y ∧ Hid (Gf.mul y (Gf.pow x M) = Gf.pow a N) ∧ ∃ n, w' = w.drewN n) (fun _ i _ _ => (intOf i).toNat)
  case atStart => exact ⟨a, 1, N, by omega, by omega, hN, rfl, rfl, rfl, Gf.one_mul _ (Gf.pow_lt a (by omega) N), 0, rfl⟩
  case round =>
    obtain ⟨x, y, M, hx, hy, hM, rfl, rfl, rfl, hr, n, rfl⟩ := hrel
    by_cases h0 : 0 < (M : Int)
    · have hodd := i64_odd M hM.out
      have hm1 := Gf.mul_lt y x
      have hm2 := Gf.mul_lt x x
      by_cases h1 : M % 2 = 1
      · have hb : (bits .and .i64 (M : Int) 1 == 1) = true := by rw [hodd, h1]; rfl
        have HP : Hid (_ = _) := Gf.pow_odd x y M hx hy h1
        clear hodd h1
        go_wp2_with (go_at_call 149; refine (mul_nat _ _ _ (by omega) (by omega) (hp.drewN _)).mono ?_; rintro e w' ⟨rfl, m, rfl⟩)
        exact ⟨⟨_, _, M / 2, hm2, by omega, Nat.lt_of_le_of_lt (Nat.div_le_self _ _) hM.out, rfl, by go_num, rfl, HP.out.trans hr.out, _, rfl⟩, by simp [intOf]; omega⟩
      · have hb : (bits .and .i64 (M : Int) 1 == 1) = false := by rw [hodd, show M % 2 = 0 from by omega]; rfl
        have HP : Hid (_ = _) := Gf.pow_even x y M hx (by omega)
        clear hodd h1
        go_wp2_with (go_at_call 149; refine (mul_nat _ _ _ (by omega) (by omega) (hp.drewN _)).mono ?_; rintro e w' ⟨rfl, m, rfl⟩)
        exact ⟨⟨_, _, M / 2, hm2, by omega, Nat.lt_of_le_of_lt (Nat.div_le_self _ _) hM.out, rfl, by go_num, rfl, HP.out.trans hr.out, _, rfl⟩, by simp [intOf]; omega⟩
    · have e : M = 0 := by omega
      subst e
      have H5 : Hid (y = Gf.pow a N) := by rw [← hr.out]; exact (Gf.mul_one y hy).symm
      go_wp2
      go_ret
      exact ⟨by rw [← H5.out]; rfl, n, rfl⟩

set_option maxRecDepth 100000 in
set_option maxHeartbeats 400000 in
theorem pow_none (a N : Int) (w : World) (hN : N ≤ 0) :
    Calls Tryd.prog 153 #[.int .u8 a, .int .i64 N] w fun e w' => e = .returned (.int .u8 1) ∧ ∃ n, w' = w.drewN n := by
  go_enter Tryd.func153, Tryd.ntmps153
  go_wp2
  go_loopw [0, 1, 5] (fun s i p w' => s = .int .u8 a ∧ i = .int .i64 N ∧ p = .int .u8 1 ∧ w' = w) (fun _ i _ _ => (intOf i).toNat)
  case atStart => exact ⟨rfl, rfl, rfl, rfl⟩
  case round =>
    obtain ⟨rfl, rfl, rfl, rfl⟩ := hrel
    go_wp2
    go_ret
    exact ⟨rfl, 0, rfl⟩

theorem pow_any (a : Nat) (N : Int) (w : World) (ha : (a : Int) < 256) (hN : Hid (N < 9223372036854775808)) (hp : Pows w) :
    Calls Tryd.prog 153 #[.int .u8 a, .int .i64 N] w fun e w' => e = .returned (.int .u8 (Gf.powI a N)) ∧ ∃ n, w' = w.drewN n := by
  by_cases h : N ≤ 0
  · have e : Gf.powI a N = 1 := by unfold Gf.powI; rw [Int.toNat_of_nonpos h]; rfl
    rw [e]
    exact pow_none a N w h
  · obtain ⟨M, rfl⟩ := Int.eq_ofNat_of_zero_le (show 0 ≤ N by omega)
    have := hN.out
    exact pow_nat a M w ha (show M < 9223372036854775808 by omega) hp

theorem mul_any (a b : Int) (w : World) (ha0 : 0 ≤ a) (ha : a < 256) (hb0 : 0 ≤ b) (hb : b < 256) (hp : Pows w) :
    Calls Tryd.prog 149 #[.int .u8 a, .int .u8 b] w fun e w' => e = .returned (.int .u8 (Gf.mul a.toNat b.toNat)) ∧ ∃ n, w' = w.drewN n := by
  obtain ⟨a, rfl⟩ := Int.eq_ofNat_of_zero_le ha0
  obtain ⟨b, rfl⟩ := Int.eq_ofNat_of_zero_le hb0
  exact mul_nat a b w ha hb hp
theorem u8_xor_cast (a b : Nat) (ha : (a : Int) < 256) (hb : (b : Int) < 256) : bits .xor .u8 (a : Int) (b : Int) = ((a ^^^ b : Nat) : Int) := u8_xor_nat a b (by omega) (by omega)

theorem add_nat (a b : Nat) (w : World) (ha : (a : Int) < 256) (hb : (b : Int) < 256) :
    Calls Tryd.prog 137 #[.int .u8 a, .int .u8 b] w fun e w' => e = .returned (.int .u8 ((a ^^^ b : Nat) : Int)) ∧ w' = w := by
  have H : Hid (_ = _) := u8_xor_cast a b ha hb
  go_enter Tryd.func137, Tryd.ntmps137
  go_wp2
  go_ret
  exact ⟨by rw [H.out]; rfl, rfl⟩

set_option maxRecDepth 100000 in
set_option maxHeartbeats 400000 in
theorem div_zero (a : Int) (w : World) :
    Calls Tryd.prog 147 #[.int .u8 a, .int .u8 0] w fun e w' => e = .returned (.tuple #[.int .u8 0, .int .i64 1]) ∧ ∃ n, w' = w.drewN n := by
  go_enter Tryd.func147, Tryd.ntmps147
  go_wp2
  go_ret2
  exact ⟨rfl, 0, rfl⟩

theorem powI_254 (b : Nat) : Gf.powI b 254 = Gf.inv b := rfl

set_option maxRecDepth 100000 in
set_option maxHeartbeats 400000 in
theorem div_any (a b : Int) (w : World) (ha0 : 0 ≤ a) (ha : a < 256) (hb0 : 0 < b) (hb : b < 256) (hp : Pows w) :
    Calls Tryd.prog 147 #[.int .u8 a, .int .u8 b] w fun e w' => e = .returned (.tuple #[.int .u8 (Gf.mul a.toNat (Gf.inv b.toNat)), .int .i64 0]) ∧ ∃ n, w' = w.drewN n := by
  obtain ⟨a, rfl⟩ := Int.eq_ofNat_of_zero_le ha0
  obtain ⟨b, rfl⟩ := Int.eq_ofNat_of_zero_le (show 0 ≤ b by omega)
  have hn : ((b : Int) == 0) = false := beq_eq_false_iff_ne.2 (by omega)
  have hi := Gf.inv_lt b (by omega)
  go_enter Tryd.func147, Tryd.ntmps147
  go_wp2_with (first
    | (go_at_call 153; refine (pow_any _ _ _ (by omega) (show (254 : Int) < 9223372036854775808 by omega) hp).mono ?_; rw [powI_254]; rintro e w' ⟨rfl, m, rfl⟩)
    | (go_at_call 149; refine (mul_nat _ _ _ (by omega) (by omega) (hp.drewN _)).mono ?_; rintro e w' ⟨rfl, m, rfl⟩))
  go_ret2
  exact ⟨rfl, _, rfl⟩

set_option maxRecDepth 100000 in
set_option maxHeartbeats 400000 in
theorem inv_zero (w : World) :
    Calls Tryd.prog 136 #[.int .u8 0] w fun e w' => e = .returned (.tuple #[.int .u8 0, .int .i64 1]) ∧ ∃ n, w' = w.drewN n := by
  go_enter Tryd.func136, Tryd.ntmps136
  go_wp2_with (go_at_call 147; refine (div_zero _ _).mono ?_; rintro e w' ⟨rfl, m, rfl⟩)
  go_ret2
  exact ⟨rfl, _, rfl⟩

theorem mul_one_inv (b : Nat) (hb : b < 256) : Gf.mul (Int.toNat 1) (Gf.inv (Int.toNat (b : Int))) = Gf.inv b := Gf.one_mul _ (Gf.inv_lt b hb)

set_option maxRecDepth 100000 in
set_option maxHeartbeats 400000 in
theorem inv_nat (b : Nat) (w : World) (hb0 : 0 < (b : Int)) (hb : (b : Int) < 256) (hp : Pows w) :
    Calls Tryd.prog 136 #[.int .u8 b] w fun e w' => e = .returned (.tuple #[.int .u8 (Gf.inv b), .int .i64 0]) ∧ ∃ n, w' = w.drewN n := by
  have H : Hid (_ = _) := mul_one_inv b (by omega)
  go_enter Tryd.func136, Tryd.ntmps136
  go_wp2_with (go_at_call 147; refine (div_any _ _ _ (by omega) (by omega) (by omega) (by omega) hp).mono ?_; rw [H.out]; rintro e w' ⟨rfl, m, rfl⟩)
  go_ret2
  exact ⟨rfl, _, rfl⟩
/-- the quotient, 0 by 0; the error's number; the inverse -/
def dq (a b : Nat) : Nat := if b = 0 then 0 else Gf.mul a (Gf.inv b)
def de (b : Nat) : Int := if b = 0 then 1 else 0
def iq (b : Nat) : Nat := if b = 0 then 0 else Gf.inv b

theorem div_gen (a b : Nat) (w : World) (ha : (a : Int) < 256) (hb : (b : Int) < 256) (hp : Pows w) :
    Calls Tryd.prog 147 #[.int .u8 a, .int .u8 b] w fun e w' => e = .returned (.tuple #[.int .u8 (dq a b), .int .i64 (de b)]) ∧ ∃ n, w' = w.drewN n := by
  by_cases h : b = 0
  · subst h; exact div_zero a w
  · have e1 : dq a b = Gf.mul a (Gf.inv b) := if_neg h
    have e2 : de b = 0 := if_neg h
    rw [e1, e2]
    exact div_any a b w (by omega) ha (by omega) hb hp
theorem inv_gen (b : Nat) (w : World) (hb : (b : Int) < 256) (hp : Pows w) :
    Calls Tryd.prog 136 #[.int .u8 b] w fun e w' => e = .returned (.tuple #[.int .u8 (iq b), .int .i64 (de b)]) ∧ ∃ n, w' = w.drewN n := by
  by_cases h : b = 0
  · subst h; exact inv_zero w
  · have e1 : iq b = Gf.inv b := if_neg h
    have e2 : de b = 0 := if_neg h
    rw [e1, e2]
    exact inv_nat b w (by omega) hb hp
end Go.Proofs.YtmncocmeafcpfaaDoor.Mf
