/- The walks of galois.Log and of the reference's Exp, Log and Pow. -/
import Derived.Test.YtolgpepnjinfgaaDoorW3
namespace Go.Proofs.YtolgpepnjinfgaaDoor
open Go.RowKit

/-- the logarithms, a table -/
def lgt (a : Nat) : Nat := [0, 0, 1, 25, 2, 50, 26, 198, 3, 223, 51, 238, 27, 104, 199, 75, 4, 100, 224, 14, 52, 141, 239, 129, 28, 193, 105, 248, 200, 8, 76, 113, 5, 138, 101, 47, 225, 36, 15, 33, 53, 147, 142, 218, 240, 18, 130, 69, 29, 181, 194, 125, 106, 39, 249, 185, 201, 154, 9, 120, 77, 228, 114, 166, 6, 191, 139, 98, 102, 221, 48, 253, 226, 152, 37, 179, 16, 145, 34, 136, 54, 208, 148, 206, 143, 150, 219, 189, 241, 210, 19, 92, 131, 56, 70, 64, 30, 66, 182, 163, 195, 72, 126, 110, 107, 58, 40, 84, 250, 133, 186, 61, 202, 94, 155, 159, 10, 21, 121, 43, 78, 212, 229, 172, 115, 243, 167, 87, 7, 112, 192, 247, 140, 128, 99, 13, 103, 74, 222, 237, 49, 197, 254, 24, 227, 165, 153, 119, 38, 184, 180, 124, 17, 68, 146, 217, 35, 32, 137, 46, 55, 63, 209, 91, 149, 188, 207, 205, 144, 135, 151, 178, 220, 252, 190, 97, 242, 86, 211, 171, 20, 42, 93, 158, 132, 60, 57, 83, 71, 109, 65, 162, 31, 45, 67, 216, 183, 123, 164, 118, 196, 23, 73, 236, 127, 12, 111, 246, 108, 161, 59, 82, 41, 157, 85, 170, 251, 96, 134, 177, 187, 204, 62, 90, 203, 89, 95, 176, 156, 169, 160, 81, 11, 245, 22, 235, 122, 117, 44, 215, 79, 174, 213, 233, 230, 231, 173, 232, 116, 214, 244, 234, 168, 80, 88, 175].getD a 0
theorem lgt_ex : ∀ n, n < 255 → lgt (Gf.ex n) = n := by decide +kernel
theorem ex_lgt (a : Nat) (ha : a < 256) (h : a ≠ 0) : lgt a < 255 ∧ Gf.ex (lgt a) = a := by
  rcases Gf.log_check a ha with e | ⟨n, hn, e⟩
  · exact absurd e h
  · rw [← e, lgt_ex n hn]; exact ⟨hn, rfl⟩
theorem md_nat (k : Nat) (h : k < 255) : md (k : Int) = k := by unfold md; omega

set_option maxRecDepth 100000 in
set_option maxHeartbeats 400000 in
theorem log_zero (w : World) (hp : Pows w) (hs : Strs w) :
    Calls Tryd.prog 16 #[.int .u8 0] w fun e w' => e = .returned (.tuple #[.int .i64 0, .int .i64 1]) ∧ ∃ n, w' = w.drewN n := by
  go_enter Tryd.func16, Tryd.ntmps16
  go_wp2
  go_loopw [5] (fun i w' => ∃ k : Nat, k ≤ 255 ∧ i = .int .i64 k ∧ ∃ n, w' = w.drewN n) (fun i _ => 255 - (intOf i).toNat)
  case atStart => exact ⟨0, Nat.zero_le _, rfl, 0, rfl⟩
  case round =>
    obtain ⟨k, hk, rfl, n, rfl⟩ := hrel
    by_cases hlt : (k : Int) < 255
    · have HM : Hid (_ = _) := md_nat k (by omega)
      have hn := Gf.ex_ne_zero k (by omega)
      have hq : (((Gf.ex k : Nat) : Int) == 0) = false := beq_eq_false_iff_ne.2 (by omega)
      clear hn
      go_wp2_with (go_at_call 18; refine (exp_any _ _ (hp.drewN _) (hs.drewN _)).mono ?_; rw [HM.out]; rintro e w' ⟨rfl, m, rfl⟩)
      exact ⟨⟨k + 1, by omega, by go_num, _, rfl⟩, by simp [intOf]; omega⟩
    · go_wp2
      go_ret2
      exact ⟨rfl, n, rfl⟩

set_option maxRecDepth 100000 in
set_option maxHeartbeats 400000 in
theorem log_nat (a : Nat) (w : World) (ha0 : 0 < (a : Int)) (ha : (a : Int) < 256) (hp : Pows w) (hs : Strs w) :
    Calls Tryd.prog 16 #[.int .u8 a] w fun e w' => e = .returned (.tuple #[.int .i64 (lgt a), .int .i64 0]) ∧ ∃ n, w' = w.drewN n := by
  have HL : Hid (_ ∧ _) := ex_lgt a (by omega) (by omega)
  go_enter Tryd.func16, Tryd.ntmps16
  go_wp2
  go_loopw [5] (fun i w' => ∃ k : Nat, k ≤ 255 ∧ i = .int .i64 k ∧ Hid (∀ j, j < k → Gf.ex j ≠ a) ∧ ∃ n, w' = w.drewN n) (fun i _ => 255 - (intOf i).toNat)
  case atStart => exact ⟨0, Nat.zero_le _, rfl, fun j hj => by omega, 0, rfl⟩
  case round =>
    obtain ⟨k, hk, rfl, hr, n, rfl⟩ := hrel
    by_cases hlt : (k : Int) < 255
    · have HM : Hid (_ = _) := md_nat k (by omega)
      by_cases he : Gf.ex k = a
      · have HK : Hid (lgt a = k) := by rw [← he]; exact lgt_ex k (by omega)
        have hq : (((Gf.ex k : Nat) : Int) == (a : Int)) = true := by rw [he]; simp
        clear he
        go_wp2_with (go_at_call 18; refine (exp_any _ _ (hp.drewN _) (hs.drewN _)).mono ?_; rw [HM.out]; rintro e w' ⟨rfl, m, rfl⟩)
        go_ret2
        exact ⟨by rw [HK.out]; rfl, _, rfl⟩
      · have hq : (((Gf.ex k : Nat) : Int) == (a : Int)) = false := beq_eq_false_iff_ne.2 (by omega)
        have HN : Hid (Gf.ex k ≠ a) := he
        clear he
        go_wp2_with (go_at_call 18; refine (exp_any _ _ (hp.drewN _) (hs.drewN _)).mono ?_; rw [HM.out]; rintro e w' ⟨rfl, m, rfl⟩)
        exact ⟨⟨k + 1, by omega, by go_num, fun j hj => by
          by_cases h : j < k
          · exact hr.out j h
          · rw [show j = k from by omega]; exact HN.out, _, rfl⟩, by simp [intOf]; omega⟩
    · exact absurd HL.out.2 (hr.out _ (by have := HL.out.1; omega))

theorem pow_step (a j : Nat) (ha : a < 256) : Gf.mul (Gf.pow a j) a = Gf.pow a (j + 1) := Gf.mul_comm _ _ (Gf.pow_lt a ha j) ha
theorem pow_step2 (j : Nat) : Gf.mul (Int.toNat ((Gf.pow 2 j : Nat) : Int)) (Int.toNat 2) = Gf.pow 2 (j + 1) := pow_step 2 j (by omega)
theorem tmod2 (n : Int) : (n.tmod 255 + 255).tmod 255 = (md n : Int) := by
  have := tmod_form n
  have h2 : (n.tmod 255 + 255).tmod 255 = (n.tmod 255 + 255) % 255 := Int.tmod_eq_emod_of_nonneg (by omega)
  rw [h2]; unfold md; omega
theorem tmod2_bd (n : Int) : 0 ≤ n.tmod 255 + 255 ∧ n.tmod 255 + 255 ≤ 509 := by
  have := tmod_form n
  omega
theorem tmod2' (n : Int) : (n.tmod 255 + 255) % 255 = (md n : Int) := by
  have := tmod_form n
  unfold md; omega

set_option maxRecDepth 100000 in
set_option maxHeartbeats 400000 in
theorem rexp_any (n : Int) (w : World) :
    Calls Tryd.prog 19 #[.int .i64 n] w fun e w' => e = .returned (.int .u8 (Gf.ex (md n))) ∧ w' = w := by
  have hl := md_lt n
  have HE : Hid (_ = _) := Gf.pow2_check (md n) hl
  obtain ⟨hb1, hb2⟩ := tmod2_bd n
  have HM : Hid (_ = _) := tmod2' n
  go_enter Tryd.func19, Tryd.ntmps19
  go_wp2
  rw [HM.out]
  clear hb1 hb2
  go_loopw [3, 9] (fun x i w' => ∃ k : Nat, k ≤ md n ∧ i = .int .i64 k ∧ x = .int .u8 (Gf.pow 2 k) ∧ w' = w) (fun _ i _ => md n - (intOf i).toNat)
  case atStart => exact ⟨0, Nat.zero_le _, rfl, rfl, rfl⟩
  case round =>
    obtain ⟨k, hk, rfl, rfl, rfl⟩ := hrel
    have hlt' := Gf.pow_lt 2 (by omega) k
    have HS : Hid (_ = _) := pow_step2 k
    by_cases hlt : (k : Int) < (md n : Int)
    · go_wp2_with (go_at_call 15; refine (rmul_any _ _ _ (by omega) (by omega) (by omega) (by omega)).mono ?_; rw [HS.out]; rintro e w' ⟨rfl, rfl⟩)
      exact ⟨⟨k + 1, by omega, by go_num, rfl, trivial⟩, by simp [intOf]; omega⟩
    · have e : k = md n := by omega
      have HK : Hid (k = md n) := e
      clear e
      go_wp2
      go_ret
      exact ⟨by rw [HE.out, ← HK.out]; rfl, rfl⟩

set_option maxRecDepth 100000 in
set_option maxHeartbeats 400000 in
theorem rlog_zero (w : World) :
    Calls Tryd.prog 17 #[.int .u8 0] w fun e w' => e = .returned (.tuple #[.int .i64 0, .int .i64 1]) ∧ w' = w := by
  go_enter Tryd.func17, Tryd.ntmps17
  go_wp2
  go_loopw [4, 6] (fun x i w' => ∃ k : Nat, k ≤ 255 ∧ i = .int .i64 k ∧ x = .int .u8 (Gf.pow 2 k) ∧ w' = w) (fun _ i _ => 255 - (intOf i).toNat)
  case atStart => exact ⟨0, Nat.zero_le _, rfl, rfl, rfl⟩
  case round =>
    obtain ⟨k, hk, rfl, rfl, rfl⟩ := hrel
    have hlt' := Gf.pow_lt 2 (by omega) k
    have HS : Hid (_ = _) := pow_step2 k
    by_cases hlt : (k : Int) < 255
    · have hn := Gf.ex_ne_zero k (by omega)
      rw [Gf.pow2_check k (by omega)] at hn
      have hq : (((Gf.pow 2 k : Nat) : Int) == 0) = false := beq_eq_false_iff_ne.2 (by omega)
      clear hn
      go_wp2_with (go_at_call 15; refine (rmul_any _ _ _ (by omega) (by omega) (by omega) (by omega)).mono ?_; rw [HS.out]; rintro e w' ⟨rfl, rfl⟩)
      exact ⟨⟨k + 1, by omega, by go_num, rfl, trivial⟩, by simp [intOf]; omega⟩
    · go_wp2
      go_ret2
      exact ⟨rfl, rfl⟩

set_option maxRecDepth 100000 in
set_option maxHeartbeats 400000 in
theorem rlog_nat (a : Nat) (w : World) (ha0 : 0 < (a : Int)) (ha : (a : Int) < 256) :
    Calls Tryd.prog 17 #[.int .u8 a] w fun e w' => e = .returned (.tuple #[.int .i64 (lgt a), .int .i64 0]) ∧ w' = w := by
  have HL : Hid (_ ∧ _) := ex_lgt a (by omega) (by omega)
  go_enter Tryd.func17, Tryd.ntmps17
  go_wp2
  go_loopw [4, 6] (fun x i w' => ∃ k : Nat, k ≤ 255 ∧ i = .int .i64 k ∧ x = .int .u8 (Gf.pow 2 k) ∧ Hid (∀ j, j < k → Gf.ex j ≠ a) ∧ w' = w) (fun _ i _ => 255 - (intOf i).toNat)
  case atStart => exact ⟨0, Nat.zero_le _, rfl, rfl, fun j hj => by omega, rfl⟩
  case round =>
    obtain ⟨k, hk, rfl, rfl, hr, rfl⟩ := hrel
    have hlt' := Gf.pow_lt 2 (by omega) k
    have HS : Hid (_ = _) := pow_step2 k
    by_cases hlt : (k : Int) < 255
    · have HX : Hid (_ = _) := Gf.pow2_check k (by omega)
      by_cases he : Gf.pow 2 k = a
      · have HK : Hid (lgt a = k) := by rw [← he, ← HX.out]; exact lgt_ex k (by omega)
        have hq : (((Gf.pow 2 k : Nat) : Int) == (a : Int)) = true := by rw [he]; simp
        clear he
        go_wp2
        go_ret2
        exact ⟨by rw [HK.out]; rfl, rfl⟩
      · have hq : (((Gf.pow 2 k : Nat) : Int) == (a : Int)) = false := beq_eq_false_iff_ne.2 (by omega)
        have HN : Hid (Gf.ex k ≠ a) := by rw [HX.out]; exact he
        clear he
        go_wp2_with (go_at_call 15; refine (rmul_any _ _ _ (by omega) (by omega) (by omega) (by omega)).mono ?_; rw [HS.out]; rintro e w' ⟨rfl, rfl⟩)
        exact ⟨⟨k + 1, by omega, by go_num, rfl, fun j hj => by
          by_cases h : j < k
          · exact hr.out j h
          · rw [show j = k from by omega]; exact HN.out, trivial⟩, by simp [intOf]; omega⟩
    · exact absurd HL.out.2 (hr.out _ (by have := HL.out.1; omega))

theorem powI_none (a : Nat) (n : Int) (h : n ≤ 0) : Gf.powI a n = 1 := by unfold Gf.powI; rw [Int.toNat_of_nonpos h]; rfl
theorem powI_zero (n : Int) (h : 0 < n) : Gf.powI 0 n = 0 := Gf.zero_pow _ (by omega)
theorem powI_mod (a : Nat) (n : Int) (ha : a < 256) (h0 : a ≠ 0) (h : 0 < n) : Gf.powI a n = Gf.pow a (md n) := by
  unfold Gf.powI md
  rw [Gf.pow_mod a ha h0, show n.toNat % 255 = (n % 255).toNat from by omega]
theorem tmod3 (n : Int) (h : 0 < n) : n.tmod 255 = (md n : Int) := by
  rw [Int.tmod_eq_emod_of_nonneg (by omega)]; unfold md; omega
theorem tmod3' (n : Int) : n % 255 = (md n : Int) := by unfold md; omega

set_option maxRecDepth 100000 in
set_option maxHeartbeats 400000 in
theorem rpow_none (a : Nat) (n : Int) (w : World) (h : n ≤ 0) :
    Calls Tryd.prog 21 #[.int .u8 a, .int .i64 n] w fun e w' => e = .returned (.int .u8 (Gf.powI a n)) ∧ w' = w := by
  have H : Hid (_ = _) := powI_none a n h
  go_enter Tryd.func21, Tryd.ntmps21
  go_wp2
  go_ret
  exact ⟨by rw [H.out]; rfl, rfl⟩

set_option maxRecDepth 100000 in
set_option maxHeartbeats 400000 in
theorem rpow_zero (n : Int) (w : World) (h : 0 < n) :
    Calls Tryd.prog 21 #[.int .u8 0, .int .i64 n] w fun e w' => e = .returned (.int .u8 (Gf.powI 0 n)) ∧ w' = w := by
  have H : Hid (_ = _) := powI_zero n h
  go_enter Tryd.func21, Tryd.ntmps21
  go_wp2
  go_ret
  exact ⟨by rw [H.out]; rfl, rfl⟩

set_option maxRecDepth 100000 in
set_option maxHeartbeats 400000 in
theorem rpow_yes (a : Nat) (n : Int) (w : World) (ha0 : 0 < (a : Int)) (ha : (a : Int) < 256) (h : 0 < n) :
    Calls Tryd.prog 21 #[.int .u8 a, .int .i64 n] w fun e w' => e = .returned (.int .u8 (Gf.powI a n)) ∧ w' = w := by
  have H : Hid (_ = _) := powI_mod a n (by omega) (by omega) h
  have HM : Hid (_ = _) := tmod3' n
  have hn : ((a : Int) == 0) = false := beq_eq_false_iff_ne.2 (by omega)
  have hl := md_lt n
  go_enter Tryd.func21, Tryd.ntmps21
  go_wp2
  rw [HM.out]
  go_loopw [5, 12] (fun x i w' => ∃ k : Nat, k ≤ md n ∧ i = .int .i64 k ∧ x = .int .u8 (Gf.pow a k) ∧ w' = w) (fun _ i _ => md n - (intOf i).toNat)
  case atStart => exact ⟨0, Nat.zero_le _, rfl, rfl, rfl⟩
  case round =>
    obtain ⟨k, hk, rfl, rfl, rfl⟩ := hrel
    have hlt' := Gf.pow_lt a (by omega) k
    have HS : Hid (_ = _) := pow_step a k (by omega)
    by_cases hlt : (k : Int) < (md n : Int)
    · go_wp2_with (go_at_call 15; refine (rmul_nat _ _ _ (by omega) (by omega)).mono ?_; rw [HS.out]; rintro e w' ⟨rfl, rfl⟩)
      exact ⟨⟨k + 1, by omega, by go_num, rfl, trivial⟩, by simp [intOf]; omega⟩
    · have e : k = md n := by omega
      have HK : Hid (k = md n) := e
      clear e
      go_wp2
      go_ret
      exact ⟨by rw [H.out, ← HK.out]; rfl, rfl⟩

theorem rpow_any (a : Nat) (n : Int) (w : World) (ha : (a : Int) < 256) :
    Calls Tryd.prog 21 #[.int .u8 a, .int .i64 n] w fun e w' => e = .returned (.int .u8 (Gf.powI a n)) ∧ w' = w := by
  by_cases h : n ≤ 0
  · exact rpow_none a n w h
  · by_cases h0 : a = 0
    · subst h0; exact rpow_zero n w (by omega)
    · exact rpow_yes a n w (by omega) ha (by omega)
end Go.Proofs.YtolgpepnjinfgaaDoor
