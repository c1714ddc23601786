/- The walk of the law DriftEven: clocks that tick in turn. -/
import Derived.Test.YtdhlmplpdmcjoaaDn
import Derived.Test.YtdhlmplpdmcjoaaDv
namespace Go.Proofs.Ytdhlmplpdmcjoaa
open Go.RowKit Go.Deep Go.Maps
def mm (q : Nat) (n : Int) : Nat := ((n % 18446744073709551616) % (q : Int)).toNat
theorem mm_lt (q : Nat) (n : Int) (hq : 0 < q) : mm q n < q := by
  unfold mm
  have := Int.emod_lt_of_pos (n % 18446744073709551616) (show (0 : Int) < (q : Int) by omega)
  have := Int.emod_nonneg (n % 18446744073709551616) (show (q : Int) ≠ 0 by omega)
  omega
theorem mm_eq (q : Nat) (n : Int) (hq : 0 < q) (hq2 : q ≤ 1000) : wrap64 ((IntKind.u64.wrap n).tmod (q : Int)) = (mm q n : Int) := by
  have e : IntKind.u64.wrap n = n % 18446744073709551616 := by rw [IntKind.wrap_u64]
  rw [e, Int.tmod_eq_emod_of_nonneg (by omega)]
  have := Int.emod_lt_of_pos (n % 18446744073709551616) (show (0 : Int) < (q : Int) by omega)
  have := Int.emod_nonneg (n % 18446744073709551616) (show (q : Int) ≠ 0 by omega)
  unfold mm wrap64
  omega

set_option maxRecDepth 100000 in
set_option maxHeartbeats 1600000 in
theorem driftEven_walk (a0 a1 a2 : Int) (w : World) :
    Calls Try.prog 13 #[.int .i64 a0, .int .i64 a1, .int .i64 a2] w fun e w' => e = .returned (.bool true) ∧ Kp (fun _ => False) w w' := by
  have e1 : wrap64 ((IntKind.u64.wrap a0).tmod 16) = ((mm 16 a0 : Nat) : Int) := mm_eq 16 a0 (by omega) (by omega)
  have e2 : wrap64 ((IntKind.u64.wrap a1).tmod 30) = ((mm 30 a1 : Nat) : Int) := mm_eq 30 a1 (by omega) (by omega)
  have l1 := mm_lt 16 a0 (by omega)
  have l2 := mm_lt 30 a1 (by omega)
  obtain ⟨N, hN⟩ : ∃ x, x = mm 16 a0 + 1 := ⟨_, rfl⟩
  have e3 : wrap64 (1 + ((mm 16 a0 : Nat) : Int)) = (N : Int) := by unfold wrap64; omega
  have e4 : IntKind.u64.wrap (N : Int) = (N : Int) := by rw [IntKind.wrap_u64]; omega
  have e7a : ((N - 1 : Nat) : Int) = (N : Int) - 1 := by omega
  have e7 : wrap64 ((N : Int) - 1) = (N : Int) - 1 := by unfold wrap64; omega
  have e5 := mm_eq N a2 (by omega) (by omega)
  have l5 := mm_lt N a2 (by omega)
  obtain ⟨R, hR⟩ : ∃ x, x = mm 30 a1 := ⟨_, rfl⟩
  obtain ⟨F, hF⟩ : ∃ x, x = mm N a2 := ⟨_, rfl⟩
  rw [← hF] at e5 l5
  rw [← hR] at e2 l2
  have hN1 : 1 ≤ (N : Int) := by omega
  have hN16 : (N : Int) ≤ 16 := by omega
  have hNR : N * R ≤ 16 * 30 := Nat.mul_le_mul (show N ≤ 16 by omega) (show R ≤ 30 by omega)
  obtain ⟨M, hM⟩ : ∃ M, M = N * R := ⟨_, rfl⟩
  have e6 : wrap64 ((N : Int) * (R : Int)) = (M : Int) := by rw [hM]; unfold wrap64; rw [← Int.natCast_mul]; omega
  have hM480 : (M : Int) ≤ 480 := by rw [hM]; exact Int.ofNat_le.2 hNR
  have HNw : Hid (∀ w, Calls _ _ _ w _) := fun w => cknew_cs N w hN1 hN16
  have HMy : Hid (∀ y, y < N → may N (turns F N M) y) := turns_may l5 M
  have HTk : Hid (∀ k, k < M → tickE N (turns F N k) (((F + k) % N : Nat) : Int) = 0 ∧ tickH N (turns F N k) (((F + k) % N : Nat) : Int) = turns F N (k + 1)) := fun k _ => by
    have hx : (F + k) % N < N := Nat.mod_lt _ (by omega)
    have hm := turns_may l5 k _ hx
    show _ ∧ _ = ((F + k) % N) :: turns F N k
    generalize (F + k) % N = y at hx hm
    have hy : ¬ ((y : Int) < 0 ∨ (N : Int) ≤ (y : Int)) := by omega
    unfold tickE tickH
    rw [if_neg hy, if_neg hy, Int.toNat_natCast, if_pos hm, if_pos hm]
    exact ⟨rfl, rfl⟩
  have HNo : Hid (∀ y : Nat, y < N → nowX N (turns F N M) (y : Int) = (R : Int)) := fun y hy => by
    unfold nowX
    rw [if_neg (by omega), Int.toNat_natCast, hM, turns_count l5 R y hy]
  have HM1 : Hid (mayX N (turns F N M) ((N : Int) - 1) = true) := by
    show _ = _
    rw [← e7a]
    unfold mayX tickE
    rw [if_neg (by omega), Int.toNat_natCast, if_pos (HMy.out _ (by omega))]
    rfl
  have HM2 : Hid (mayX N (turns F N M) (N : Int) = false) := by
    show _ = _
    unfold mayX tickE
    rw [if_pos (by omega)]
    rfl
  have HMod : Hid (∀ k : Nat, k < M → ((F : Int) + (k : Int)).tmod (N : Int) = (((F + k) % N : Nat) : Int)) := fun k _ => by
    rw [Int.tmod_eq_emod_of_nonneg (by omega), ← Int.natCast_add, ← Int.natCast_emod]
  have HNR : Hid (N ≠ 0) := by show N ≠ 0; omega
  have d0 : decide ((N : Int) = 0) = false := by simp; omega
  have HLF : Hid (F < N) := l5
  clear hN hR hF hM l1 l2 hNR HMy l5 e7a
  go_enter Try.func13, Try.ntmps13
  go_wp2_with (go_at_call 28; refine (HNw.out _).mono ?_; rintro e w1 ⟨b, t, m, rfl, k1, hb, ht, hm, HC⟩)
  have HC0 : Hid (Cs w1 b t m N (turns F N 0)) := HC
  clear HC
  rw [e6]
  go_loopg [30] M (fun gk i wr => ∃ k : Nat, k ≤ M ∧ gk = M - k ∧ i = .int .i64 k ∧ Kp (fun _ => False) w wr ∧ Hid (Cs wr b t m N (turns F N k)))
  case atStart => exact ⟨0, Nat.zero_le _, rfl, rfl, k1, HC0⟩
  case round =>
    obtain ⟨k, hk, rfl, rfl, kr, HCr⟩ := hrel
    clear HC0
    by_cases hlt : (k : Int) < (M : Int)
    · obtain ⟨q1, q2⟩ := HTk.out k (by omega)
      have hmod := HMod.out k (by omega)
      have hadd : wrap64 ((F : Int) + (k : Int)) = (F : Int) + (k : Int) := by have := HLF.out; unfold wrap64; omega
      obtain ⟨y, hy⟩ : ∃ y, y = (F + k) % N := ⟨_, rfl⟩
      rw [← hy] at q1 q2 hmod
      have HT : Hid (Calls _ _ _ wr _) := cktick_cs HCr.out (y : Int) (by rw [turns_len]; omega)
      rw [q1, q2] at HT
      clear q1 q2 hy
      go_wp2_with (go_at_call 32; refine HT.out.mono ?_; rintro e w2 ⟨rfl, k2, HC2⟩)
      go_roundg (M - (k + 1))
      case rel => exact ⟨k + 1, by omega, rfl, by go_num, kr.trans k2 (fun x hx e => by omega), HC2⟩
      case measure => omega
    · obtain rfl : k = M := by omega
      go_wp2
      obtain ⟨wr0, hwr0⟩ : ∃ x, x = wr := ⟨_, rfl⟩
      go_loopg [48] N (fun gk i wq => ∃ j : Nat, j ≤ N ∧ gk = N - j ∧ i = .int .i64 j ∧ Kp (fun _ => False) w wq ∧ Hid (Cs wq b t m N (turns F N k)))
      case atStart => exact ⟨0, Nat.zero_le _, rfl, rfl, kr, HCr⟩
      case round =>
        obtain ⟨j, hj, rfl, rfl, kq, HCq⟩ := hrel
        by_cases hltj : (j : Int) < (N : Int)
        · have HT : Hid (Calls _ _ _ _ _) := cknow_cs HCq.out (j : Int)
          rw [HNo.out j (by omega)] at HT
          go_wp2_with (go_at_call 34; refine HT.out.mono ?_; rintro e w2 ⟨rfl, k2⟩)
          go_roundg (N - (j + 1))
          case rel => exact ⟨j + 1, by omega, rfl, by go_num, kq.trans k2 (fun x hx e => e), HCq.out.keep k2 id id id⟩
          case measure => omega
        · have HT1 : Hid (Calls _ _ _ _ _) := ckmay_cs HCq.out ((N : Int) - 1)
          rw [HM1.out] at HT1
          have HT2 : Hid (∀ w2, Kp (fun _ => False) _ w2 → Calls _ _ _ w2 _) := fun w2 k2 => ckmay_cs (HCq.out.keep k2 id id id) (N : Int)
          rw [HM2.out] at HT2
          go_wp2_with (first
            | (have k22 := k2; go_at_call 30; refine (HT2.out _ k2).mono ?_; rintro e w3 ⟨rfl, k3⟩)
            | (go_at_call 30; refine HT1.out.mono ?_; rintro e w2 ⟨rfl, k2⟩))
          go_ret
          exact ⟨rfl, (kq.trans k2 (fun x hx e => e)).trans k3 (fun x hx e => e)⟩
end Go.Proofs.Ytdhlmplpdmcjoaa
