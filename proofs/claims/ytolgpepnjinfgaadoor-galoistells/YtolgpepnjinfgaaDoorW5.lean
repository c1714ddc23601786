/- The quotient, the inverse and the logarithm with their error numbers, and the walks of the laws GaloisTells, GaloisPowers and GaloisQuotients. -/
import Derived.Test.YtolgpepnjinfgaaDoorW4
namespace Go.Proofs.YtolgpepnjinfgaaDoor
open Go.RowKit

/-- the quotient, 0 by 0; the error's number; the inverse; the logarithm -/
def dq (a b : Nat) : Nat := if b = 0 then 0 else Gf.mul a (Gf.inv b)
def de (b : Nat) : Int := if b = 0 then 1 else 0
def iq (b : Nat) : Nat := if b = 0 then 0 else Gf.inv b
def lq (b : Nat) : Nat := if b = 0 then 0 else lgt b

theorem div_gen (a b : Nat) (w : World) (ha : (a : Int) < 256) (hb : (b : Int) < 256) (hp : Pows w) :
    Calls Tryd.prog 9 #[.int .u8 a, .int .u8 b] w fun e w' => e = .returned (.tuple #[.int .u8 (dq a b), .int .i64 (de b)]) ∧ ∃ n, w' = w.drewN n := by
  by_cases h : b = 0
  · subst h; exact div_zero a w
  · have e1 : dq a b = Gf.mul a (Gf.inv b) := if_neg h
    have e2 : de b = 0 := if_neg h
    rw [e1, e2]
    exact div_any a b w (by omega) ha (by omega) hb hp
theorem rdiv_gen (a b : Nat) (w : World) (ha : (a : Int) < 256) (hb : (b : Int) < 256) :
    Calls Tryd.prog 10 #[.int .u8 a, .int .u8 b] w fun e w' => e = .returned (.tuple #[.int .u8 (dq a b), .int .i64 (de b)]) ∧ w' = w := by
  by_cases h : b = 0
  · subst h; exact rdiv_zero a w
  · have e1 : dq a b = Gf.mul a (Gf.inv b) := if_neg h
    have e2 : de b = 0 := if_neg h
    rw [e1, e2]
    exact rdiv_any a b w (by omega) ha (by omega) hb
theorem inv_gen (b : Nat) (w : World) (hb : (b : Int) < 256) (hp : Pows w) :
    Calls Tryd.prog 11 #[.int .u8 b] w fun e w' => e = .returned (.tuple #[.int .u8 (iq b), .int .i64 (de b)]) ∧ ∃ n, w' = w.drewN n := by
  by_cases h : b = 0
  · subst h; exact inv_zero w
  · have e1 : iq b = Gf.inv b := if_neg h
    have e2 : de b = 0 := if_neg h
    rw [e1, e2]
    exact inv_nat b w (by omega) hb hp
theorem rinv_gen (b : Nat) (w : World) (hb : (b : Int) < 256) :
    Calls Tryd.prog 12 #[.int .u8 b] w fun e w' => e = .returned (.tuple #[.int .u8 (iq b), .int .i64 (de b)]) ∧ w' = w := by
  by_cases h : b = 0
  · subst h; exact rinv_zero w
  · have e1 : iq b = Gf.inv b := if_neg h
    have e2 : de b = 0 := if_neg h
    rw [e1, e2]
    exact rinv_nat b w (by omega) hb
theorem log_gen (b : Nat) (w : World) (hb : (b : Int) < 256) (hp : Pows w) (hs : Strs w) :
    Calls Tryd.prog 16 #[.int .u8 b] w fun e w' => e = .returned (.tuple #[.int .i64 (lq b), .int .i64 (de b)]) ∧ ∃ n, w' = w.drewN n := by
  by_cases h : b = 0
  · subst h; exact log_zero w hp hs
  · have e1 : lq b = lgt b := if_neg h
    have e2 : de b = 0 := if_neg h
    rw [e1, e2]
    exact log_nat b w (by omega) hb hp hs
theorem rlog_gen (b : Nat) (w : World) (hb : (b : Int) < 256) :
    Calls Tryd.prog 17 #[.int .u8 b] w fun e w' => e = .returned (.tuple #[.int .i64 (lq b), .int .i64 (de b)]) ∧ w' = w := by
  by_cases h : b = 0
  · subst h; exact rlog_zero w
  · have e1 : lq b = lgt b := if_neg h
    have e2 : de b = 0 := if_neg h
    rw [e1, e2]
    exact rlog_nat b w (by omega) hb

theorem mul_80_2 (w : World) (hp : Pows w) : Calls Tryd.prog 14 #[.int .u8 128, .int .u8 2] w fun e w' => e = .returned (.int .u8 29) ∧ ∃ n, w' = w.drewN n :=
  mul_any 128 2 w (by omega) (by omega) (by omega) (by omega) hp

set_option maxRecDepth 100000 in
set_option maxHeartbeats 800000 in
theorem tells_walk (a b : Nat) (w : World) (ha : (a : Int) < 256) (hb : (b : Int) < 256) (hp : Pows w) :
    Calls Tryd.prog 3 #[.int .u8 a, .int .u8 b] w fun e w' => e = .returned (.bool true) ∧ ∃ n, w' = w.drewN n := by
  have hx := u8_xor_cast a b ha hb
  go_enter Tryd.func3, Tryd.ntmps3
  go_wp2_with fail
  refine (div_gen a b _ ha hb hp).mono ?_
  rintro e w' ⟨rfl, m1, rfl⟩
  go_wp2_with fail
  refine (rdiv_gen a b _ ha hb).mono ?_
  rintro e w' ⟨rfl, rfl⟩
  go_wp2_with fail
  refine (inv_gen a _ ha (hp.drewN _)).mono ?_
  rintro e w' ⟨rfl, m2, rfl⟩
  go_wp2_with fail
  refine (rinv_gen a _ ha).mono ?_
  rintro e w' ⟨rfl, rfl⟩
  go_wp2_with fail
  refine (add_nat a b _ ha hb).mono ?_
  rintro e w' ⟨rfl, rfl⟩
  go_wp2_with fail
  refine (mul_nat a b _ ha hb (hp.drewN _)).mono ?_
  rintro e w' ⟨rfl, m3, rfl⟩
  go_wp2_with fail
  refine (rmul_nat a b _ ha hb).mono ?_
  rintro e w' ⟨rfl, rfl⟩
  go_wp2_with fail
  refine (mul_80_2 _ (hp.drewN _)).mono ?_
  rintro e w' ⟨rfl, m4, rfl⟩
  go_wp2_with fail
  go_ret
  exact ⟨rfl, _, rfl⟩

set_option maxRecDepth 100000 in
set_option maxHeartbeats 800000 in
theorem powers_walk (a : Nat) (n : Int) (w : World) (ha : (a : Int) < 256) (hn : Hid (n < 9223372036854775808)) (hp : Pows w) (hs : Strs w) :
    Calls Tryd.prog 4 #[.int .u8 a, .int .i64 n] w fun e w' => e = .returned (.bool true) ∧ ∃ n, w' = w.drewN n := by
  go_enter Tryd.func4, Tryd.ntmps4
  go_wp2_with fail
  refine (log_gen a _ ha hp hs).mono ?_
  rintro e w' ⟨rfl, m1, rfl⟩
  go_wp2_with fail
  refine (rlog_gen a _ ha).mono ?_
  rintro e w' ⟨rfl, rfl⟩
  go_wp2_with fail
  refine (exp_any n _ (hp.drewN _) (hs.drewN _)).mono ?_
  rintro e w' ⟨rfl, m2, rfl⟩
  go_wp2_with fail
  refine (rexp_any n _).mono ?_
  rintro e w' ⟨rfl, rfl⟩
  go_wp2_with fail
  refine (pow_any a n _ ha hn (hp.drewN _)).mono ?_
  rintro e w' ⟨rfl, m3, rfl⟩
  go_wp2_with fail
  refine (rpow_any a n _ ha).mono ?_
  rintro e w' ⟨rfl, rfl⟩
  go_wp2_with fail
  go_ret
  exact ⟨rfl, _, rfl⟩

set_option maxRecDepth 100000 in
set_option maxHeartbeats 800000 in
theorem quotients_walk (a b : Nat) (w : World) (ha : (a : Int) < 256) (hb : (b : Int) < 256) (hp : Pows w) :
    Calls Tryd.prog 7 #[.int .u8 a, .int .u8 b] w fun e w' => e = .returned (.bool true) ∧ ∃ n, w' = w.drewN n := by
  have hm := Gf.mul_lt a b
  by_cases h : b = 0
  · have hz : ((b : Int) == 0) = true := by rw [h]; rfl
    have e1 : dq (Gf.mul a b) b = 0 := if_pos h
    have e2 : de b = 1 := if_pos h
    have HD := div_gen (Gf.mul a b) b
    rw [e1, e2] at HD
    have HH : Hid (∀ (w : World), _ → _ → Pows w → Calls _ _ _ w _) := HD
    clear e1 e2 h HD
    go_enter Tryd.func7, Tryd.ntmps7
    go_wp2_with fail
    refine (mul_nat a b _ ha hb hp).mono ?_
    rintro e w' ⟨rfl, m1, rfl⟩
    go_wp2_with fail
    refine (HH.out _ (by omega) hb (hp.drewN _)).mono ?_
    rintro e w' ⟨rfl, m2, rfl⟩
    go_wp2_with fail
    go_ret
    exact ⟨rfl, _, rfl⟩
  · have hz : ((b : Int) == 0) = false := beq_eq_false_iff_ne.2 (by omega)
    have hz' : ((b : Int) != 0) = true := bne_iff_ne.2 (by omega)
    have e1 : dq (Gf.mul a b) b = a := (if_neg h).trans (Gf.mul_div a b (by omega) (by omega) h)
    have e2 : de b = 0 := if_neg h
    have HD := div_gen (Gf.mul a b) b
    rw [e1, e2] at HD
    have HH : Hid (∀ (w : World), _ → _ → Pows w → Calls _ _ _ w _) := HD
    clear e1 e2 h HD
    go_enter Tryd.func7, Tryd.ntmps7
    go_wp2_with fail
    refine (mul_nat a b _ ha hb hp).mono ?_
    rintro e w' ⟨rfl, m1, rfl⟩
    go_wp2_with fail
    refine (HH.out _ (by omega) hb (hp.drewN _)).mono ?_
    rintro e w' ⟨rfl, m2, rfl⟩
    go_wp2_with fail
    go_ret
    exact ⟨rfl, _, rfl⟩
end Go.Proofs.YtolgpepnjinfgaaDoor
