/- The walks of the laws GaloisField, GaloisExp and GaloisPows. -/
import Derived.Test.YtolgpepnjinfgaaDoorW5
namespace Go.Proofs.YtolgpepnjinfgaaDoor
open Go.RowKit

theorem mul_1 (a : Nat) (w : World) (ha : (a : Int) < 256) (hp : Pows w) : Calls Tryd.prog 14 #[.int .u8 a, .int .u8 1] w fun e w' => e = .returned (.int .u8 a) ∧ ∃ n, w' = w.drewN n := by
  have h := mul_any a 1 w (by omega) ha (by omega) (by omega) hp
  rw [show Gf.mul (Int.toNat (a : Int)) (Int.toNat 1) = a from Gf.mul_one a (by omega)] at h
  exact h
theorem neq_false {x y : Nat} (h : x = y) : ((x : Int) != (y : Int)) = false := by rw [h]; exact bne_self_eq_false _
theorem eq_true {x y : Nat} (h : x = y) : ((x : Int) == (y : Int)) = true := by rw [h]; exact beq_self_eq_true _
theorem xor_lt8 (b c : Nat) (hb : (b : Int) < 256) (hc : (c : Int) < 256) : b ^^^ c < 256 := Nat.xor_lt_two_pow (n := 8) (by omega) (by omega)

set_option maxRecDepth 100000 in
set_option maxHeartbeats 800000 in
theorem field_zero (a b c : Nat) (w : World) (ha : (a : Int) < 256) (hb : (b : Int) < 256) (hc : (c : Int) < 256) (hp : Pows w) (h0 : Hid (a = 0)) :
    Calls Tryd.prog 5 #[.int .u8 a, .int .u8 b, .int .u8 c] w fun e w' => e = .returned (.bool true) ∧ ∃ n, w' = w.drewN n := by
  have l1 := Gf.mul_lt a b
  have l2 := Gf.mul_lt b c
  have l3 := Gf.mul_lt a c
  have l4 := xor_lt8 b c hb hc
  have f1 := neq_false (Gf.mul_comm a b (by omega) (by omega))
  have f2 := neq_false (Gf.mul_assoc a b c (by omega) (by omega) (by omega))
  have f3 := neq_false (Gf.mul_xor_right a b c)
  have f4 := neq_false (Nat.xor_self a)
  have hz : ((a : Int) == 0) = true := by rw [h0.out]; rfl
  have e1 : iq a = 0 := if_pos h0.out
  have e2 : de a = 1 := if_pos h0.out
  have HD := inv_gen a
  rw [e1, e2] at HD
  have HH : Hid (∀ (w : World), _ → Pows w → Calls _ _ _ w _) := HD
  clear e1 e2 HD
  go_enter Tryd.func5, Tryd.ntmps5
  go_wp2_with fail
  refine (mul_nat a b _ ha hb hp).mono ?_
  rintro e w' ⟨rfl, m1, rfl⟩
  go_wp2_with fail
  refine (mul_nat b a _ hb ha (hp.drewN _)).mono ?_
  rintro e w' ⟨rfl, m2, rfl⟩
  go_wp2_with fail
  refine (mul_nat a b _ ha hb (hp.drewN _)).mono ?_
  rintro e w' ⟨rfl, m3, rfl⟩
  go_wp2_with fail
  refine (mul_nat (Gf.mul a b) c _ (by omega) hc (hp.drewN _)).mono ?_
  rintro e w' ⟨rfl, m4, rfl⟩
  go_wp2_with fail
  refine (mul_nat b c _ hb hc (hp.drewN _)).mono ?_
  rintro e w' ⟨rfl, m5, rfl⟩
  go_wp2_with fail
  refine (mul_nat a (Gf.mul b c) _ ha (by omega) (hp.drewN _)).mono ?_
  rintro e w' ⟨rfl, m6, rfl⟩
  go_wp2_with fail
  refine (add_nat b c _ hb hc).mono ?_
  rintro e w' ⟨rfl, rfl⟩
  go_wp2_with fail
  refine (mul_nat a (b ^^^ c) _ ha (by omega) (hp.drewN _)).mono ?_
  rintro e w' ⟨rfl, m7, rfl⟩
  go_wp2_with fail
  refine (mul_nat a b _ ha hb (hp.drewN _)).mono ?_
  rintro e w' ⟨rfl, m8, rfl⟩
  go_wp2_with fail
  refine (mul_nat a c _ ha hc (hp.drewN _)).mono ?_
  rintro e w' ⟨rfl, m9, rfl⟩
  go_wp2_with fail
  refine (add_nat (Gf.mul a b) (Gf.mul a c) _ (by omega) (by omega)).mono ?_
  rintro e w' ⟨rfl, rfl⟩
  go_wp2_with fail
  refine (add_nat a a _ ha ha).mono ?_
  rintro e w' ⟨rfl, rfl⟩
  go_wp2_with fail
  refine (mul_1 a _ ha (hp.drewN _)).mono ?_
  rintro e w' ⟨rfl, m10, rfl⟩
  go_wp2_with fail
  refine (HH.out _ ha (hp.drewN _)).mono ?_
  rintro e w' ⟨rfl, m11, rfl⟩
  go_wp2_with fail
  go_ret
  exact ⟨rfl, _, rfl⟩

set_option maxRecDepth 100000 in
set_option maxHeartbeats 800000 in
theorem field_yes (a b c : Nat) (w : World) (ha : (a : Int) < 256) (hb : (b : Int) < 256) (hc : (c : Int) < 256) (hp : Pows w) (h0 : Hid (a ≠ 0)) :
    Calls Tryd.prog 5 #[.int .u8 a, .int .u8 b, .int .u8 c] w fun e w' => e = .returned (.bool true) ∧ ∃ n, w' = w.drewN n := by
  have l1 := Gf.mul_lt a b
  have l2 := Gf.mul_lt b c
  have l3 := Gf.mul_lt a c
  have l4 := xor_lt8 b c hb hc
  have f1 := neq_false (Gf.mul_comm a b (by omega) (by omega))
  have f2 := neq_false (Gf.mul_assoc a b c (by omega) (by omega) (by omega))
  have f3 := neq_false (Gf.mul_xor_right a b c)
  have f4 := neq_false (Nat.xor_self a)
  have hz : ((a : Int) == 0) = false := beq_eq_false_iff_ne.2 (by have := h0.out; omega)
  have hz' : ((a : Int) != 0) = true := bne_iff_ne.2 (by have := h0.out; omega)
  have e1 : iq a = Gf.inv a := if_neg h0.out
  have e2 : de a = 0 := if_neg h0.out
  have HD := inv_gen a
  rw [e1, e2] at HD
  have HH : Hid (∀ (w : World), _ → Pows w → Calls _ _ _ w _) := HD
  have l5 := Gf.inv_lt a (by omega)
  have f6 : (((Gf.mul a (Gf.inv a) : Nat) : Int) == 1) = true := eq_true (Gf.mul_inv a (by omega) h0.out)
  clear e1 e2 HD
  go_enter Tryd.func5, Tryd.ntmps5
  go_wp2_with fail
  refine (mul_nat a b _ ha hb hp).mono ?_
  rintro e w' ⟨rfl, m1, rfl⟩
  go_wp2_with fail
  refine (mul_nat b a _ hb ha (hp.drewN _)).mono ?_
  rintro e w' ⟨rfl, m2, rfl⟩
  go_wp2_with fail
  refine (mul_nat a b _ ha hb (hp.drewN _)).mono ?_
  rintro e w' ⟨rfl, m3, rfl⟩
  go_wp2_with fail
  refine (mul_nat (Gf.mul a b) c _ (by omega) hc (hp.drewN _)).mono ?_
  rintro e w' ⟨rfl, m4, rfl⟩
  go_wp2_with fail
  refine (mul_nat b c _ hb hc (hp.drewN _)).mono ?_
  rintro e w' ⟨rfl, m5, rfl⟩
  go_wp2_with fail
  refine (mul_nat a (Gf.mul b c) _ ha (by omega) (hp.drewN _)).mono ?_
  rintro e w' ⟨rfl, m6, rfl⟩
  go_wp2_with fail
  refine (add_nat b c _ hb hc).mono ?_
  rintro e w' ⟨rfl, rfl⟩
  go_wp2_with fail
  refine (mul_nat a (b ^^^ c) _ ha (by omega) (hp.drewN _)).mono ?_
  rintro e w' ⟨rfl, m7, rfl⟩
  go_wp2_with fail
  refine (mul_nat a b _ ha hb (hp.drewN _)).mono ?_
  rintro e w' ⟨rfl, m8, rfl⟩
  go_wp2_with fail
  refine (mul_nat a c _ ha hc (hp.drewN _)).mono ?_
  rintro e w' ⟨rfl, m9, rfl⟩
  go_wp2_with fail
  refine (add_nat (Gf.mul a b) (Gf.mul a c) _ (by omega) (by omega)).mono ?_
  rintro e w' ⟨rfl, rfl⟩
  go_wp2_with fail
  refine (add_nat a a _ ha ha).mono ?_
  rintro e w' ⟨rfl, rfl⟩
  go_wp2_with fail
  refine (mul_1 a _ ha (hp.drewN _)).mono ?_
  rintro e w' ⟨rfl, m10, rfl⟩
  go_wp2_with fail
  refine (HH.out _ ha (hp.drewN _)).mono ?_
  rintro e w' ⟨rfl, m11, rfl⟩
  go_wp2_with fail
  refine (mul_nat a (Gf.inv a) _ ha (by omega) (hp.drewN _)).mono ?_
  rintro e w' ⟨rfl, m12, rfl⟩
  go_wp2_with fail
  go_ret
  exact ⟨rfl, _, rfl⟩

theorem field_walk (a b c : Nat) (w : World) (ha : (a : Int) < 256) (hb : (b : Int) < 256) (hc : (c : Int) < 256) (hp : Pows w) :
    Calls Tryd.prog 5 #[.int .u8 a, .int .u8 b, .int .u8 c] w fun e w' => e = .returned (.bool true) ∧ ∃ n, w' = w.drewN n := by
  by_cases h : a = 0
  · exact field_zero a b c w ha hb hc hp h
  · exact field_yes a b c w ha hb hc hp h

theorem ex_add (x y : Int) : Gf.ex (md (x + y)) = Gf.mul (Gf.ex (md x)) (Gf.ex (md y)) := by
  rw [Gf.pow2_check _ (md_lt _), Gf.pow2_check _ (md_lt _), Gf.pow2_check _ (md_lt _), ← Gf.pow_add 2 (by omega), Gf.pow_mod 2 (by omega) (by omega) (md x + md y)]
  congr 1
  unfold md; omega
theorem exp_0 (w : World) (hp : Pows w) (hs : Strs w) : Calls Tryd.prog 18 #[.int .i64 0] w fun e w' => e = .returned (.int .u8 1) ∧ ∃ n, w' = w.drewN n :=
  exp_any 0 w hp hs
theorem wrap_quarters (n m : Int) (hn : -9223372036854775808 ≤ n) (hn' : n < 9223372036854775808) (hm : -9223372036854775808 ≤ m) (hm' : m < 9223372036854775808) :
    wrap64 (n / 4 + m / 4) = n / 4 + m / 4 := by unfold wrap64; omega

set_option maxRecDepth 100000 in
set_option maxHeartbeats 800000 in
theorem exp_zero (a : Nat) (n m : Int) (w : World) (ha : (a : Int) < 256) (hw : wrap64 (n / 4 + m / 4) = n / 4 + m / 4) (hp : Pows w) (hs : Strs w) (h0 : Hid (a = 0)) :
    Calls Tryd.prog 6 #[.int .u8 a, .int .i64 n, .int .i64 m] w fun e w' => e = .returned (.bool true) ∧ ∃ n, w' = w.drewN n := by
  have HW : Hid (_ = _) := hw
  have f1 := neq_false (ex_add (n / 4) (m / 4))
  have l1 := Gf.ex_lt (md (n / 4))
  have l2 := Gf.ex_lt (md (m / 4))
  clear hw
  have hz : ((a : Int) == 0) = true := by rw [h0.out]; rfl
  have e2 : de a = 1 := if_pos h0.out
  have HD := log_gen a
  rw [e2] at HD
  have HH : Hid (∀ (w : World), _ → Pows w → Strs w → Calls _ _ _ w _) := HD
  clear e2 HD
  go_enter Tryd.func6, Tryd.ntmps6
  go_wp2_with fail
  rw [HW.out]
  refine (exp_any (n / 4 + m / 4) _ hp hs).mono ?_
  rintro e w' ⟨rfl, m1, rfl⟩
  go_wp2_with fail
  refine (exp_any (n / 4) _ (hp.drewN _) (hs.drewN _)).mono ?_
  rintro e w' ⟨rfl, m2, rfl⟩
  go_wp2_with fail
  refine (exp_any (m / 4) _ (hp.drewN _) (hs.drewN _)).mono ?_
  rintro e w' ⟨rfl, m3, rfl⟩
  go_wp2_with fail
  refine (mul_nat (Gf.ex (md (n / 4))) (Gf.ex (md (m / 4))) _ (by omega) (by omega) (hp.drewN _)).mono ?_
  rintro e w' ⟨rfl, m4, rfl⟩
  go_wp2_with fail
  refine (exp_0 _ (hp.drewN _) (hs.drewN _)).mono ?_
  rintro e w' ⟨rfl, m5, rfl⟩
  go_wp2_with fail
  refine (HH.out _ ha (hp.drewN _) (hs.drewN _)).mono ?_
  rintro e w' ⟨rfl, m6, rfl⟩
  go_wp2_with fail
  go_ret
  exact ⟨rfl, _, rfl⟩

set_option maxRecDepth 100000 in
set_option maxHeartbeats 800000 in
theorem exp_yes (a : Nat) (n m : Int) (w : World) (ha : (a : Int) < 256) (hw : wrap64 (n / 4 + m / 4) = n / 4 + m / 4) (hp : Pows w) (hs : Strs w) (h0 : Hid (a ≠ 0)) :
    Calls Tryd.prog 6 #[.int .u8 a, .int .i64 n, .int .i64 m] w fun e w' => e = .returned (.bool true) ∧ ∃ n, w' = w.drewN n := by
  have HW : Hid (_ = _) := hw
  have f1 := neq_false (ex_add (n / 4) (m / 4))
  have l1 := Gf.ex_lt (md (n / 4))
  have l2 := Gf.ex_lt (md (m / 4))
  clear hw
  have hz : ((a : Int) == 0) = false := beq_eq_false_iff_ne.2 (by have := h0.out; omega)
  have hz' : ((a : Int) != 0) = true := bne_iff_ne.2 (by have := h0.out; omega)
  have e1 : lq a = lgt a := if_neg h0.out
  have e2 : de a = 0 := if_neg h0.out
  have HD := log_gen a
  rw [e1, e2] at HD
  have HH : Hid (∀ (w : World), _ → Pows w → Strs w → Calls _ _ _ w _) := HD
  obtain ⟨l5, h6⟩ := ex_lgt a (by omega) h0.out
  have l6 : (lgt a : Int) < 255 := by omega
  have f6 : (((Gf.ex (md (lgt a : Int)) : Nat) : Int) == (a : Int)) = true := eq_true (by rw [md_nat _ l5, h6])
  clear e1 e2 HD h6
  go_enter Tryd.func6, Tryd.ntmps6
  go_wp2_with fail
  rw [HW.out]
  refine (exp_any (n / 4 + m / 4) _ hp hs).mono ?_
  rintro e w' ⟨rfl, m1, rfl⟩
  go_wp2_with fail
  refine (exp_any (n / 4) _ (hp.drewN _) (hs.drewN _)).mono ?_
  rintro e w' ⟨rfl, m2, rfl⟩
  go_wp2_with fail
  refine (exp_any (m / 4) _ (hp.drewN _) (hs.drewN _)).mono ?_
  rintro e w' ⟨rfl, m3, rfl⟩
  go_wp2_with fail
  refine (mul_nat (Gf.ex (md (n / 4))) (Gf.ex (md (m / 4))) _ (by omega) (by omega) (hp.drewN _)).mono ?_
  rintro e w' ⟨rfl, m4, rfl⟩
  go_wp2_with fail
  refine (exp_0 _ (hp.drewN _) (hs.drewN _)).mono ?_
  rintro e w' ⟨rfl, m5, rfl⟩
  go_wp2_with fail
  refine (HH.out _ ha (hp.drewN _) (hs.drewN _)).mono ?_
  rintro e w' ⟨rfl, m6, rfl⟩
  go_wp2_with fail
  refine (exp_any (lgt a : Int) _ (hp.drewN _) (hs.drewN _)).mono ?_
  rintro e w' ⟨rfl, m7, rfl⟩
  go_wp2_with fail
  go_ret
  exact ⟨rfl, _, rfl⟩

theorem exp_walk (a : Nat) (n m : Int) (w : World) (ha : (a : Int) < 256) (hw : wrap64 (n / 4 + m / 4) = n / 4 + m / 4) (hp : Pows w) (hs : Strs w) :
    Calls Tryd.prog 6 #[.int .u8 a, .int .i64 n, .int .i64 m] w fun e w' => e = .returned (.bool true) ∧ ∃ n, w' = w.drewN n := by
  by_cases h : a = 0
  · exact exp_zero a n m w ha hw hp hs h
  · exact exp_yes a n m w ha hw hp hs h

/-- how many factors -/
def nn (n : Int) : Nat := ((n % 18446744073709551616) % 1000).toNat + 1
theorem nn_bd (n : Int) : 1 ≤ nn n ∧ nn n ≤ 1000 := by unfold nn; omega
theorem nn_eq (n : Int) : wrap64 (wrap64 ((IntKind.u64.wrap n).tmod 1000) + 1) = (nn n : Int) := by
  have e : IntKind.u64.wrap n = n % 18446744073709551616 := by simp [IntKind.wrap, IntKind.bits, IntKind.signed]
  rw [e, Int.tmod_eq_emod_of_nonneg (by omega)]
  unfold wrap64 nn; omega
theorem powI_succ (a N : Nat) (h : 1 ≤ N) : Gf.powI a (N : Int) = Gf.mul a (Gf.powI a ((N : Int) - 1)) := by
  unfold Gf.powI
  rw [show ((N : Int)).toNat = ((N : Int) - 1).toNat + 1 from by omega]
  rfl
theorem powI_lt (a : Nat) (n : Int) (ha : (a : Int) < 256) : Gf.powI a n < 256 := Gf.pow_lt a (by omega) _

set_option maxRecDepth 100000 in
set_option maxHeartbeats 800000 in
theorem pows_walk (a : Nat) (n : Int) (w : World) (ha : (a : Int) < 256) (hp : Pows w) :
    Calls Tryd.prog 8 #[.int .u8 a, .int .i64 n] w fun e w' => e = .returned (.bool true) ∧ ∃ n, w' = w.drewN n := by
  have HN : Hid (_ = _) := nn_eq n
  obtain ⟨b1, b2⟩ := nn_bd n
  have l1 := powI_lt a ((nn n : Int) - 1) ha
  have f1 := eq_true (powI_succ a (nn n) b1)
  go_enter Tryd.func8, Tryd.ntmps8
  go_wp2_with fail
  rw [HN.out]
  refine (pow_any a (nn n : Int) _ ha (show (nn n : Int) < 9223372036854775808 by omega) hp).mono ?_
  rintro e w' ⟨rfl, m1, rfl⟩
  go_wp2_with fail
  refine (pow_any a ((nn n : Int) - 1) _ ha (show (nn n : Int) - 1 < 9223372036854775808 by omega) (hp.drewN _)).mono ?_
  rintro e w' ⟨rfl, m2, rfl⟩
  go_wp2_with fail
  refine (mul_nat a (Gf.powI a ((nn n : Int) - 1)) _ ha (by omega) (hp.drewN _)).mono ?_
  rintro e w' ⟨rfl, m3, rfl⟩
  go_wp2_with fail
  refine (pow_none a 0 _ (by omega)).mono ?_
  rintro e w' ⟨rfl, m4, rfl⟩
  go_wp2_with fail
  refine (pow_none a (-(nn n : Int)) _ (by omega)).mono ?_
  rintro e w' ⟨rfl, m5, rfl⟩
  go_wp2_with fail
  go_ret
  exact ⟨rfl, _, rfl⟩
end Go.Proofs.YtolgpepnjinfgaaDoor
