/- The walks of galois.Pow, Add, Div and Inv: powers by squares, sums, quotients and inverses, as the field of Gf has them. -/
import Derived.Test.YtolgpepnjinfgaaDoorW1
namespace Go.Proofs.YtolgpepnjinfgaaDoor
open Go.RowKit
theorem i64_odd (M : Nat) (hM : M < 9223372036854775808) : bits .and .i64 (M : Int) 1 = ((M % 2 : Nat) : Int) := by
  rw [show (1 : Int) = ((1 : Nat) : Int) from rfl, i64_and_nat _ _ hM (by omega), Nat.and_one_is_mod]

set_option maxRecDepth 100000 in
set_option maxHeartbeats 400000 in
theorem pow_nat (a N : Nat) (w : World) (ha : (a : Int) < 256) (hN : Hid (N < 9223372036854775808)) (hp : Pows w) :
    Calls Tryd.prog 20 #[.int .u8 a, .int .i64 N] w fun e w' => e = .returned (.int .u8 (Gf.pow a N)) ∧ ∃ n, w' = w.drewN n := by
  go_enter Tryd.func20, Tryd.ntmps20
  go_wp2
  go_loopw [0, 1, 5] (fun s i p w' => ∃ x y M : Nat, x < 256 ∧ y < 256 ∧ Hid (M < 9223372036854775808) ∧ s = .int .u8 x ∧ i = .int .i64 M ∧ p = .int .u8 y ∧ Hid (Gf.mul y (Gf.pow x M) = Gf.pow a N) ∧ ∃ n, w' = w.drewN n) (fun _ i _ _ => (intOf i).toNat)
  case atStart => exact ⟨a, 1, N, by omega, by omega, hN, rfl, rfl, rfl, Gf.one_mul _ (Gf.pow_lt a (by omega) N), 0, rfl⟩
  case round =>
    obtain ⟨x, y, M, hx, hy, hM, rfl, rfl, rfl, hr, n, rfl⟩ := hrel
    by_cases h0 : 0 < (M : Int)
    · have hodd := i64_odd M hM.out
      have hm1 := Gf.mul_lt y x
      have hm2 := Gf.mul_lt x x
      by_cases h1 : M % 2 = 1
      · have hb : (bits .and .i64 (M : Int) 1 == 1) = true := by rw [hodd, h1]; rfl
        have HP : Hid (_ = _) := Gf.pow_odd x y M hx hy h1
        clear hodd h1
        go_wp2_with (go_at_call 14; refine (mul_nat _ _ _ (by omega) (by omega) (hp.drewN _)).mono ?_; rintro e w' ⟨rfl, m, rfl⟩)
        exact ⟨⟨_, _, M / 2, hm2, by omega, Nat.lt_of_le_of_lt (Nat.div_le_self _ _) hM.out, rfl, by go_num, rfl, HP.out.trans hr.out, _, rfl⟩, by simp [intOf]; omega⟩
      · have hb : (bits .and .i64 (M : Int) 1 == 1) = false := by rw [hodd, show M % 2 = 0 from by omega]; rfl
        have HP : Hid (_ = _) := Gf.pow_even x y M hx (by omega)
        clear hodd h1
        go_wp2_with (go_at_call 14; refine (mul_nat _ _ _ (by omega) (by omega) (hp.drewN _)).mono ?_; rintro e w' ⟨rfl, m, rfl⟩)
        exact ⟨⟨_, _, M / 2, hm2, by omega, Nat.lt_of_le_of_lt (Nat.div_le_self _ _) hM.out, rfl, by go_num, rfl, HP.out.trans hr.out, _, rfl⟩, by simp [intOf]; omega⟩
    · have e : M = 0 := by omega
      subst e
      have H5 : Hid (y = Gf.pow a N) := by rw [← hr.out]; exact (Gf.mul_one y hy).symm
      go_wp2
      go_ret
      exact ⟨by rw [← H5.out]; rfl, n, rfl⟩

set_option maxRecDepth 100000 in
set_option maxHeartbeats 400000 in
theorem pow_none (a N : Int) (w : World) (hN : N ≤ 0) :
    Calls Tryd.prog 20 #[.int .u8 a, .int .i64 N] w fun e w' => e = .returned (.int .u8 1) ∧ ∃ n, w' = w.drewN n := by
  go_enter Tryd.func20, Tryd.ntmps20
  go_wp2
  go_loopw [0, 1, 5] (fun s i p w' => s = .int .u8 a ∧ i = .int .i64 N ∧ p = .int .u8 1 ∧ w' = w) (fun _ i _ _ => (intOf i).toNat)
  case atStart => exact ⟨rfl, rfl, rfl, rfl⟩
  case round =>
    obtain ⟨rfl, rfl, rfl, rfl⟩ := hrel
    go_wp2
    go_ret
    exact ⟨rfl, 0, rfl⟩

theorem pow_any (a : Nat) (N : Int) (w : World) (ha : (a : Int) < 256) (hN : Hid (N < 9223372036854775808)) (hp : Pows w) :
    Calls Tryd.prog 20 #[.int .u8 a, .int .i64 N] w fun e w' => e = .returned (.int .u8 (Gf.powI a N)) ∧ ∃ n, w' = w.drewN n := by
  by_cases h : N ≤ 0
  · have e : Gf.powI a N = 1 := by unfold Gf.powI; rw [Int.toNat_of_nonpos h]; rfl
    rw [e]
    exact pow_none a N w h
  · obtain ⟨M, rfl⟩ := Int.eq_ofNat_of_zero_le (show 0 ≤ N by omega)
    have := hN.out
    exact pow_nat a M w ha (show M < 9223372036854775808 by omega) hp

theorem mul_any (a b : Int) (w : World) (ha0 : 0 ≤ a) (ha : a < 256) (hb0 : 0 ≤ b) (hb : b < 256) (hp : Pows w) :
    Calls Tryd.prog 14 #[.int .u8 a, .int .u8 b] w fun e w' => e = .returned (.int .u8 (Gf.mul a.toNat b.toNat)) ∧ ∃ n, w' = w.drewN n := by
  obtain ⟨a, rfl⟩ := Int.eq_ofNat_of_zero_le ha0
  obtain ⟨b, rfl⟩ := Int.eq_ofNat_of_zero_le hb0
  exact mul_nat a b w ha hb hp
theorem rmul_any (a b : Int) (w : World) (ha0 : 0 ≤ a) (ha : a < 256) (hb0 : 0 ≤ b) (hb : b < 256) :
    Calls Tryd.prog 15 #[.int .u8 a, .int .u8 b] w fun e w' => e = .returned (.int .u8 (Gf.mul a.toNat b.toNat)) ∧ w' = w := by
  obtain ⟨a, rfl⟩ := Int.eq_ofNat_of_zero_le ha0
  obtain ⟨b, rfl⟩ := Int.eq_ofNat_of_zero_le hb0
  exact rmul_nat a b w ha hb

theorem u8_xor_cast (a b : Nat) (ha : (a : Int) < 256) (hb : (b : Int) < 256) : bits .xor .u8 (a : Int) (b : Int) = ((a ^^^ b : Nat) : Int) := u8_xor_nat a b (by omega) (by omega)

theorem add_nat (a b : Nat) (w : World) (ha : (a : Int) < 256) (hb : (b : Int) < 256) :
    Calls Tryd.prog 13 #[.int .u8 a, .int .u8 b] w fun e w' => e = .returned (.int .u8 ((a ^^^ b : Nat) : Int)) ∧ w' = w := by
  have H : Hid (_ = _) := u8_xor_cast a b ha hb
  go_enter Tryd.func13, Tryd.ntmps13
  go_wp2
  go_ret
  exact ⟨by rw [H.out]; rfl, rfl⟩

set_option maxRecDepth 100000 in
set_option maxHeartbeats 400000 in
theorem div_zero (a : Int) (w : World) :
    Calls Tryd.prog 9 #[.int .u8 a, .int .u8 0] w fun e w' => e = .returned (.tuple #[.int .u8 0, .int .i64 1]) ∧ ∃ n, w' = w.drewN n := by
  go_enter Tryd.func9, Tryd.ntmps9
  go_wp2
  go_ret2
  exact ⟨rfl, 0, rfl⟩

theorem powI_254 (b : Nat) : Gf.powI b 254 = Gf.inv b := rfl

set_option maxRecDepth 100000 in
set_option maxHeartbeats 400000 in
theorem div_any (a b : Int) (w : World) (ha0 : 0 ≤ a) (ha : a < 256) (hb0 : 0 < b) (hb : b < 256) (hp : Pows w) :
    Calls Tryd.prog 9 #[.int .u8 a, .int .u8 b] w fun e w' => e = .returned (.tuple #[.int .u8 (Gf.mul a.toNat (Gf.inv b.toNat)), .int .i64 0]) ∧ ∃ n, w' = w.drewN n := by
  obtain ⟨a, rfl⟩ := Int.eq_ofNat_of_zero_le ha0
  obtain ⟨b, rfl⟩ := Int.eq_ofNat_of_zero_le (show 0 ≤ b by omega)
  have hn : ((b : Int) == 0) = false := beq_eq_false_iff_ne.2 (by omega)
  have hi := Gf.inv_lt b (by omega)
  go_enter Tryd.func9, Tryd.ntmps9
  go_wp2_with (first
    | (go_at_call 20; refine (pow_any _ _ _ (by omega) (show (254 : Int) < 9223372036854775808 by omega) hp).mono ?_; rw [powI_254]; rintro e w' ⟨rfl, m, rfl⟩)
    | (go_at_call 14; refine (mul_nat _ _ _ (by omega) (by omega) (hp.drewN _)).mono ?_; rintro e w' ⟨rfl, m, rfl⟩))
  go_ret2
  exact ⟨rfl, _, rfl⟩

set_option maxRecDepth 100000 in
set_option maxHeartbeats 400000 in
theorem inv_zero (w : World) :
    Calls Tryd.prog 11 #[.int .u8 0] w fun e w' => e = .returned (.tuple #[.int .u8 0, .int .i64 1]) ∧ ∃ n, w' = w.drewN n := by
  go_enter Tryd.func11, Tryd.ntmps11
  go_wp2_with (go_at_call 9; refine (div_zero _ _).mono ?_; rintro e w' ⟨rfl, m, rfl⟩)
  go_ret2
  exact ⟨rfl, _, rfl⟩

theorem mul_one_inv (b : Nat) (hb : b < 256) : Gf.mul (Int.toNat 1) (Gf.inv (Int.toNat (b : Int))) = Gf.inv b := Gf.one_mul _ (Gf.inv_lt b hb)

set_option maxRecDepth 100000 in
set_option maxHeartbeats 400000 in
theorem inv_nat (b : Nat) (w : World) (hb0 : 0 < (b : Int)) (hb : (b : Int) < 256) (hp : Pows w) :
    Calls Tryd.prog 11 #[.int .u8 b] w fun e w' => e = .returned (.tuple #[.int .u8 (Gf.inv b), .int .i64 0]) ∧ ∃ n, w' = w.drewN n := by
  have H : Hid (_ = _) := mul_one_inv b (by omega)
  go_enter Tryd.func11, Tryd.ntmps11
  go_wp2_with (go_at_call 9; refine (div_any _ _ _ (by omega) (by omega) (by omega) (by omega) hp).mono ?_; rw [H.out]; rintro e w' ⟨rfl, m, rfl⟩)
  go_ret2
  exact ⟨rfl, _, rfl⟩
end Go.Proofs.YtolgpepnjinfgaaDoor
