/- The walks of the reference's Mul, Div and Inv: each returns what the field of Gf has. -/
import Derived.Test.YtmncocmeafcpfaaDoorMfGa
namespace Go.Proofs.YtmncocmeafcpfaaDoor.Mf
open Go.RowKit

set_option maxRecDepth 100000 in
set_option maxHeartbeats 400000 in
theorem rmul_nat (a b : Nat) (w : World) (ha : (a : Int) < 256) (hb : (b : Int) < 256) :
    Calls Tryd.prog 111 #[.int .u8 a, .int .u8 b] w fun e w' => e = .returned (.int .u8 (Gf.mul a b)) ∧ w' = w := by
  go_enter Tryd.func111, Tryd.ntmps111
  go_wp2
  go_loop [5, 8] (fun s i => ∃ k : Nat, k ≤ 8 ∧ i = .int .i64 k ∧ s = .int .i64 (Gf.cl a b k)) (fun _ i => 8 - (intOf i).toNat)
  case atStart => exact ⟨0, Nat.zero_le _, rfl, rfl⟩
  case round =>
    obtain ⟨k, hk, rfl, rfl⟩ := hrel
    by_cases hlt : (k : Int) < 8
    · go_wp2
      · exact ⟨⟨k + 1, by omega, by go_num, by rw [rmul_yes a b k (by omega) (by omega) (by omega) ‹_›]⟩, by simp [intOf]; omega⟩
      · exact ⟨⟨k + 1, by omega, by go_num, by rw [rmul_no a b k (by omega) ‹_›]⟩, by simp [intOf]; omega⟩
    · have e : k = 8 := by omega
      subst e
      have hcl := cl_lt8 a b (by omega) 8 (by omega)
      have hred := Gf.red_rm (Gf.cl a b 8) hcl
      go_wp2
      go_loop [5, 7] (fun s i => ∃ k : Nat, k ≤ 7 ∧ i = .int .i64 (7 + k) ∧ ∃ p : Nat, p < 32768 ∧ s = .int .i64 p ∧ Hid (Gf.red p k % 256 = Gf.mul a b)) (fun _ i => (intOf i).toNat - 7)
      case atStart => exact ⟨7, by omega, by go_num, _, hcl, rfl, hred⟩
      case round =>
        clear hred
        obtain ⟨j, hj, rfl, p, hp, rfl, hr⟩ := hrel
        by_cases hj0 : 1 ≤ (j : Int)
        · go_wp2
          · obtain ⟨e1, e2, e3⟩ := red_yes p j (by omega) hj hp ‹_›
            exact ⟨⟨j - 1, by omega, by go_num, _, e2, by rw [e1], by rw [← e3]; exact hr⟩, by simp [intOf]; omega⟩
          · have e3 := red_no p j (by omega) hp ‹_›
            exact ⟨⟨j - 1, by omega, by go_num, _, hp, rfl, by rw [← e3]; exact hr⟩, by simp [intOf]; omega⟩
        · have e : j = 0 := by omega
          subst e
          have hr' := hr.out
          clear hr
          have e5 : (p : Int) % 256 = (Gf.mul a b : Nat) := by rw [← hr']; simp [Gf.red]
          have H5 : Hid ((p : Int) % 256 = (Gf.mul a b : Nat)) := e5
          clear e5 hr'
          go_wp2
          go_ret
          exact ⟨by rw [H5.out]; rfl, rfl⟩

theorem rmul_any (a b : Int) (w : World) (ha0 : 0 ≤ a) (ha : a < 256) (hb0 : 0 ≤ b) (hb : b < 256) :
    Calls Tryd.prog 111 #[.int .u8 a, .int .u8 b] w fun e w' => e = .returned (.int .u8 (Gf.mul a.toNat b.toNat)) ∧ w' = w := by
  obtain ⟨a, rfl⟩ := Int.eq_ofNat_of_zero_le ha0
  obtain ⟨b, rfl⟩ := Int.eq_ofNat_of_zero_le hb0
  exact rmul_nat a b w ha hb

theorem rdiv_zero (a : Int) (w : World) :
    Calls Tryd.prog 120 #[.int .u8 a, .int .u8 0] w fun e w' => e = .returned (.tuple #[.int .u8 0, .int .i64 1]) ∧ w' = w := by
  go_enter Tryd.func120, Tryd.ntmps120
  go_wp2
  go_ret2
  exact ⟨rfl, rfl⟩

set_option maxRecDepth 100000 in
set_option maxHeartbeats 400000 in
theorem rdiv_any (a b : Int) (w : World) (ha0 : 0 ≤ a) (ha : a < 256) (hb0 : 0 < b) (hb : b < 256) :
    Calls Tryd.prog 120 #[.int .u8 a, .int .u8 b] w fun e w' => e = .returned (.tuple #[.int .u8 (Gf.mul a.toNat (Gf.inv b.toNat)), .int .i64 0]) ∧ w' = w := by
  obtain ⟨a, rfl⟩ := Int.eq_ofNat_of_zero_le ha0
  obtain ⟨b, rfl⟩ := Int.eq_ofNat_of_zero_le (show 0 ≤ b by omega)
  have hn : ((b : Int) == 0) = false := beq_eq_false_iff_ne.2 (by omega)
  have hl := Gf.mul_lt a (Gf.inv b)
  have HB : Hid (_ = _) := Gf.div_back a b (by omega) (by omega) (by omega)
  go_enter Tryd.func120, Tryd.ntmps120
  go_wp2
  go_loopw [9] (fun i w' => ∃ k : Nat, k ≤ 256 ∧ i = .int .i64 k ∧ Hid (∀ j, j < k → Gf.mul j b ≠ a) ∧ w' = w) (fun i _ => 256 - (intOf i).toNat)
  case atStart => exact ⟨0, Nat.zero_le _, rfl, fun j hj => by omega, rfl⟩
  case round =>
    obtain ⟨k, hk, rfl, hr, rfl⟩ := hrel
    by_cases hlt : (k : Int) < 256
    · by_cases he : Gf.mul k b = a
      · have HF : Hid (_ = _) := Gf.div_found a b k (by omega) (by omega) (by omega) (by omega) he
        have hq : ((Gf.mul k b : Nat) : Int) == (a : Int) := by rw [he]; simp
        clear he
        go_wp2_with (go_at_call 111; refine (rmul_nat _ _ _ (by omega) (by omega)).mono ?_; rintro e w' ⟨rfl, rfl⟩)
        go_ret2
        exact ⟨by simp only [Int.toNat_natCast]; rw [HF.out]; rfl, rfl⟩
      · have hq : (((Gf.mul k b : Nat) : Int) == (a : Int)) = false := beq_eq_false_iff_ne.2 (by omega)
        have HN : Hid (Gf.mul k b ≠ a) := he
        clear he
        go_wp2_with (go_at_call 111; refine (rmul_nat _ _ _ (by omega) (by omega)).mono ?_; rintro e w' ⟨rfl, rfl⟩)
        exact ⟨⟨k + 1, by omega, by go_num, fun j hj => by
          by_cases h : j < k
          · exact hr.out j h
          · rw [show j = k from by omega]; exact HN.out, trivial⟩, by simp [intOf]; omega⟩
    · exact absurd HB.out (hr.out _ (by omega))

set_option maxRecDepth 100000 in
set_option maxHeartbeats 400000 in
theorem rinv_zero (w : World) :
    Calls Tryd.prog 109 #[.int .u8 0] w fun e w' => e = .returned (.tuple #[.int .u8 0, .int .i64 1]) ∧ w' = w := by
  go_enter Tryd.func109, Tryd.ntmps109
  go_wp2_with (go_at_call 120; refine (rdiv_zero _ _).mono ?_; rintro e w' ⟨rfl, rfl⟩)
  go_ret2
  exact ⟨rfl, rfl⟩

set_option maxRecDepth 100000 in
set_option maxHeartbeats 400000 in
theorem rinv_nat (b : Nat) (w : World) (hb0 : 0 < (b : Int)) (hb : (b : Int) < 256) :
    Calls Tryd.prog 109 #[.int .u8 b] w fun e w' => e = .returned (.tuple #[.int .u8 (Gf.inv b), .int .i64 0]) ∧ w' = w := by
  have H : Hid (_ = _) := mul_one_inv b (by omega)
  go_enter Tryd.func109, Tryd.ntmps109
  go_wp2_with (go_at_call 120; refine (rdiv_any _ _ _ (by omega) (by omega) (by omega) (by omega)).mono ?_; rw [H.out]; rintro e w' ⟨rfl, rfl⟩)
  go_ret2
  exact ⟨rfl, rfl⟩

theorem rdiv_gen (a b : Nat) (w : World) (ha : (a : Int) < 256) (hb : (b : Int) < 256) :
    Calls Tryd.prog 120 #[.int .u8 a, .int .u8 b] w fun e w' => e = .returned (.tuple #[.int .u8 (dq a b), .int .i64 (de b)]) ∧ w' = w := by
  by_cases h : b = 0
  · subst h; exact rdiv_zero a w
  · have e1 : dq a b = Gf.mul a (Gf.inv b) := if_neg h
    have e2 : de b = 0 := if_neg h
    rw [e1, e2]
    exact rdiv_any a b w (by omega) ha (by omega) hb
theorem rinv_gen (b : Nat) (w : World) (hb : (b : Int) < 256) :
    Calls Tryd.prog 109 #[.int .u8 b] w fun e w' => e = .returned (.tuple #[.int .u8 (iq b), .int .i64 (de b)]) ∧ w' = w := by
  by_cases h : b = 0
  · subst h; exact rinv_zero w
  · have e1 : iq b = Gf.inv b := if_neg h
    have e2 : de b = 0 := if_neg h
    rw [e1, e2]
    exact rinv_nat b w (by omega) hb
end Go.Proofs.YtmncocmeafcpfaaDoor.Mf
