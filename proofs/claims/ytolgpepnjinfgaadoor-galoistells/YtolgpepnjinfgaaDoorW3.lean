/- The walks of the reference's Div and Inv, and of galois.Exp, given that both tables lie in memory. -/
import Derived.Test.YtolgpepnjinfgaaDoorW2
namespace Go.Proofs.YtolgpepnjinfgaaDoor
open Go.RowKit

theorem rdiv_zero (a : Int) (w : World) :
    Calls Tryd.prog 10 #[.int .u8 a, .int .u8 0] w fun e w' => e = .returned (.tuple #[.int .u8 0, .int .i64 1]) ∧ w' = w := by
  go_enter Tryd.func10, Tryd.ntmps10
  go_wp2
  go_ret2
  exact ⟨rfl, rfl⟩

set_option maxRecDepth 100000 in
set_option maxHeartbeats 400000 in
theorem rdiv_any (a b : Int) (w : World) (ha0 : 0 ≤ a) (ha : a < 256) (hb0 : 0 < b) (hb : b < 256) :
    Calls Tryd.prog 10 #[.int .u8 a, .int .u8 b] w fun e w' => e = .returned (.tuple #[.int .u8 (Gf.mul a.toNat (Gf.inv b.toNat)), .int .i64 0]) ∧ w' = w := by
  obtain ⟨a, rfl⟩ := Int.eq_ofNat_of_zero_le ha0
  obtain ⟨b, rfl⟩ := Int.eq_ofNat_of_zero_le (show 0 ≤ b by omega)
  have hn : ((b : Int) == 0) = false := beq_eq_false_iff_ne.2 (by omega)
  have hl := Gf.mul_lt a (Gf.inv b)
  have HB : Hid (_ = _) := Gf.div_back a b (by omega) (by omega) (by omega)
  go_enter Tryd.func10, Tryd.ntmps10
  go_wp2
  go_loopw [9] (fun i w' => ∃ k : Nat, k ≤ 256 ∧ i = .int .i64 k ∧ Hid (∀ j, j < k → Gf.mul j b ≠ a) ∧ w' = w) (fun i _ => 256 - (intOf i).toNat)
  case atStart => exact ⟨0, Nat.zero_le _, rfl, fun j hj => by omega, rfl⟩
  case round =>
    obtain ⟨k, hk, rfl, hr, rfl⟩ := hrel
    by_cases hlt : (k : Int) < 256
    · by_cases he : Gf.mul k b = a
      · have HF : Hid (_ = _) := Gf.div_found a b k (by omega) (by omega) (by omega) (by omega) he
        have hq : ((Gf.mul k b : Nat) : Int) == (a : Int) := by rw [he]; simp
        clear he
        go_wp2_with (go_at_call 15; refine (rmul_nat _ _ _ (by omega) (by omega)).mono ?_; rintro e w' ⟨rfl, rfl⟩)
        go_ret2
        exact ⟨by simp only [Int.toNat_natCast]; rw [HF.out]; rfl, rfl⟩
      · have hq : (((Gf.mul k b : Nat) : Int) == (a : Int)) = false := beq_eq_false_iff_ne.2 (by omega)
        have HN : Hid (Gf.mul k b ≠ a) := he
        clear he
        go_wp2_with (go_at_call 15; refine (rmul_nat _ _ _ (by omega) (by omega)).mono ?_; rintro e w' ⟨rfl, rfl⟩)
        exact ⟨⟨k + 1, by omega, by go_num, fun j hj => by
          by_cases h : j < k
          · exact hr.out j h
          · rw [show j = k from by omega]; exact HN.out, trivial⟩, by simp [intOf]; omega⟩
    · exact absurd HB.out (hr.out _ (by omega))

set_option maxRecDepth 100000 in
set_option maxHeartbeats 400000 in
theorem rinv_zero (w : World) :
    Calls Tryd.prog 12 #[.int .u8 0] w fun e w' => e = .returned (.tuple #[.int .u8 0, .int .i64 1]) ∧ w' = w := by
  go_enter Tryd.func12, Tryd.ntmps12
  go_wp2_with (go_at_call 10; refine (rdiv_zero _ _).mono ?_; rintro e w' ⟨rfl, rfl⟩)
  go_ret2
  exact ⟨rfl, rfl⟩

set_option maxRecDepth 100000 in
set_option maxHeartbeats 400000 in
theorem rinv_nat (b : Nat) (w : World) (hb0 : 0 < (b : Int)) (hb : (b : Int) < 256) :
    Calls Tryd.prog 12 #[.int .u8 b] w fun e w' => e = .returned (.tuple #[.int .u8 (Gf.inv b), .int .i64 0]) ∧ w' = w := by
  have H : Hid (_ = _) := mul_one_inv b (by omega)
  go_enter Tryd.func12, Tryd.ntmps12
  go_wp2_with (go_at_call 10; refine (rdiv_any _ _ _ (by omega) (by omega) (by omega) (by omega)).mono ?_; rw [H.out]; rintro e w' ⟨rfl, rfl⟩)
  go_ret2
  exact ⟨rfl, rfl⟩

/-- both tables lie in memory -/
def Strs (w : World) : Prop := ∀ k : Nat, k < 17 → w.cell? ⟨0, k, none⟩ = some (.int .u8 (Gf.st k))
theorem Strs.drewN {w : World} (h : Strs w) (n : Nat) : Strs (w.drewN n) := fun k hk => by
  have := h k hk
  go_simp

/-- which power of 2 a number's is -/
def md (n : Int) : Nat := (n % 255).toNat
theorem md_lt (n : Int) : md n < 255 := by unfold md; omega
theorem tmod_form (n : Int) : n.tmod 255 = n % 255 ∧ 0 ≤ n ∨ n.tmod 255 = -((-n) % 255) ∧ n < 0 := by
  by_cases h : 0 ≤ n
  · exact Or.inl ⟨Int.tmod_eq_emod_of_nonneg h, h⟩
  · refine Or.inr ⟨?_, by omega⟩
    have e := Int.neg_tmod (-n) 255
    rw [Int.neg_neg] at e
    rw [e, Int.tmod_eq_emod_of_nonneg (by omega)]
theorem tmod_neg (n : Int) (h : n.tmod 255 < 0) : n.tmod 255 + 255 = (md n : Int) := by
  have := tmod_form n
  unfold md; omega
theorem tmod_pos (n : Int) (h : ¬ n.tmod 255 < 0) : n.tmod 255 = (md n : Int) := by
  have := tmod_form n
  unfold md; omega

theorem st_lt : ∀ k, k < 17 → Gf.st k < 256 := by decide
theorem pw_lt : ∀ k, k < 15 → Gf.pw k < 256 := by decide

set_option maxRecDepth 100000 in
set_option maxHeartbeats 400000 in
theorem exp_any (n : Int) (w : World) (hp : Pows w) (hs : Strs w) :
    Calls Tryd.prog 18 #[.int .i64 n] w fun e w' => e = .returned (.int .u8 (Gf.ex (md n))) ∧ ∃ m, w' = w.drewN m := by
  have hl := md_lt n
  by_cases h : n.tmod 255 < 0
  · have H : Hid (_ = _) := tmod_neg n h
    go_enter Tryd.func18, Tryd.ntmps18
    go_wp2
    rw [H.out, wrap64_nat _ (by omega)]
    clear H h
    have hc1 := hs (md n / 15) (by omega)
    have hc2 := hp (md n % 15) (by omega)
    have b1 : Gf.st (md n / 15) < 256 := st_lt _ (by omega)
    have b2 : Gf.pw (md n % 15) < 256 := pw_lt _ (by omega)
    go_quiet ((go_at_call 14; exact Calls.quiet_of (mul_nat _ _ _ (by omega) (by omega) (hp.drewN _))))
    go_wp2
    go_ret
    exact ⟨rfl, _, rfl⟩
  · have H : Hid (_ = _) := tmod_pos n h
    go_enter Tryd.func18, Tryd.ntmps18
    go_wp2
    rw [H.out]
    clear H h
    have hc1 := hs (md n / 15) (by omega)
    have hc2 := hp (md n % 15) (by omega)
    have b1 : Gf.st (md n / 15) < 256 := st_lt _ (by omega)
    have b2 : Gf.pw (md n % 15) < 256 := pw_lt _ (by omega)
    go_quiet ((go_at_call 14; exact Calls.quiet_of (mul_nat _ _ _ (by omega) (by omega) (hp.drewN _))))
    go_wp2
    go_ret
    exact ⟨rfl, _, rfl⟩
end Go.Proofs.YtolgpepnjinfgaaDoor
