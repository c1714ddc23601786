/- The walks of galois.remainder, galois.Mul and of the reference's Mul: each returns the field's product of its two bytes (Gf.mul), given that the table of powers lies in memory. -/
import Derived.Test.YtolgpepnjinfgaaDoorProg
import Derived.Test.YtolgpepnjinfgaaDoorBt
import Derived.WalkKit
import Derived.WalkSpells
import Derived.Deep.QuietTactic
import Derived.BigQuiet
import Derived.Outline
import Derived.RowKit3
namespace Go.Proofs.YtolgpepnjinfgaaDoor
open Go.RowKit

/-- the table of powers lies in memory -/
def Pows (w : World) : Prop := ∀ k : Nat, k < 15 → w.cell? ⟨1, k, none⟩ = some (.int .u8 (Gf.pw k))
theorem Pows.drewN {w : World} (h : Pows w) (n : Nat) : Pows (w.drewN n) := fun k hk => by
  have := h k hk
  go_simp
theorem drewN_add (w : World) (n m : Nat) : (w.drewN n).drewN m = w.drewN (n + m) := by
  first | rfl | simp

set_option maxRecDepth 100000 in
set_option maxHeartbeats 400000 in
theorem rem_any (x : Nat) (w : World) (hx : (x : Int) < 32768) (hp : Pows w) :
    Calls Tryd.prog 22 #[.int .u64 x] w fun e w' => e = .returned (.int .u8 (Gf.rm x 15)) ∧ ∃ n, w' = w.drewN n := by
  go_enter Tryd.func22, Tryd.ntmps22
  go_wp2
  go_loopw [3, 5] (fun s i w' => ∃ k : Nat, k ≤ 15 ∧ i = .int .i64 k ∧ s = .int .u8 (Gf.rm x k) ∧ ∃ n, w' = w.drewN n) (fun _ i _ => 15 - (intOf i).toNat)
  case atStart => exact ⟨0, Nat.zero_le _, rfl, rfl, 0, rfl⟩
  case round =>
    obtain ⟨k, hk, rfl, rfl, n, rfl⟩ := hrel
    by_cases hlt : (k : Int) < 15
    · have hc := hp k (by omega)
      have HS : Hid (_ = _) := rem_step x k (by omega) (by omega)
      go_wp2
      go_quiet (fail)
      rw [HS.out]
      go_wp2
      go_roundw
      case rel => exact ⟨k + 1, by omega, by go_num, rfl, n + nq, rfl⟩
      case measure => simp [intOf]; omega
    · have e : k = 15 := by omega
      subst e
      go_wp2
      go_ret
      exact ⟨rfl, n, rfl⟩

set_option maxRecDepth 100000 in
set_option maxHeartbeats 400000 in
theorem mul_nat (a b : Nat) (w : World) (ha : (a : Int) < 256) (hb : (b : Int) < 256) (hp : Pows w) :
    Calls Tryd.prog 14 #[.int .u8 a, .int .u8 b] w fun e w' => e = .returned (.int .u8 (Gf.mul a b)) ∧ ∃ n, w' = w.drewN n := by
  go_enter Tryd.func14, Tryd.ntmps14
  go_wp2
  go_loopw [5, 7] (fun s i w' => ∃ k : Nat, k ≤ 8 ∧ i = .int .i64 k ∧ s = .int .u64 (Gf.cl a b k) ∧ ∃ n, w' = w.drewN n) (fun _ i _ => 8 - (intOf i).toNat)
  case atStart => exact ⟨0, Nat.zero_le _, rfl, rfl, 0, rfl⟩
  case round =>
    obtain ⟨k, hk, rfl, rfl, n, rfl⟩ := hrel
    by_cases hlt : (k : Int) < 8
    · have HS : Hid (_ = _) := mul_step a b k (by omega) (by omega) (by omega)
      go_wp2
      go_quiet (fail)
      rw [HS.out]
      go_wp2
      go_roundw
      case rel => exact ⟨k + 1, by omega, by go_num, rfl, n + nq, rfl⟩
      case measure => simp [intOf]; omega
    · have e : k = 8 := by omega
      subst e
      have hl := cl_lt8 a b (by omega) 8 (by omega)
      go_wp2_with (go_at_call 22; refine (rem_any _ _ (by omega) (hp.drewN _)).mono ?_; rintro e w' ⟨rfl, m, rfl⟩)
      go_ret
      exact ⟨rfl, n + m, rfl⟩

set_option maxRecDepth 100000 in
set_option maxHeartbeats 400000 in
theorem rmul_nat (a b : Nat) (w : World) (ha : (a : Int) < 256) (hb : (b : Int) < 256) :
    Calls Tryd.prog 15 #[.int .u8 a, .int .u8 b] w fun e w' => e = .returned (.int .u8 (Gf.mul a b)) ∧ w' = w := by
  go_enter Tryd.func15, Tryd.ntmps15
  go_wp2
  go_loop [5, 8] (fun s i => ∃ k : Nat, k ≤ 8 ∧ i = .int .i64 k ∧ s = .int .i64 (Gf.cl a b k)) (fun _ i => 8 - (intOf i).toNat)
  case atStart => exact ⟨0, Nat.zero_le _, rfl, rfl⟩
  case round =>
    obtain ⟨k, hk, rfl, rfl⟩ := hrel
    by_cases hlt : (k : Int) < 8
    · go_wp2
      · exact ⟨⟨k + 1, by omega, by go_num, by rw [rmul_yes a b k (by omega) (by omega) (by omega) ‹_›]⟩, by simp [intOf]; omega⟩
      · exact ⟨⟨k + 1, by omega, by go_num, by rw [rmul_no a b k (by omega) ‹_›]⟩, by simp [intOf]; omega⟩
    · have e : k = 8 := by omega
      subst e
      have hcl := cl_lt8 a b (by omega) 8 (by omega)
      have hred := Gf.red_rm (Gf.cl a b 8) hcl
      go_wp2
      go_loop [5, 7] (fun s i => ∃ k : Nat, k ≤ 7 ∧ i = .int .i64 (7 + k) ∧ ∃ p : Nat, p < 32768 ∧ s = .int .i64 p ∧ Hid (Gf.red p k % 256 = Gf.mul a b)) (fun _ i => (intOf i).toNat - 7)
      case atStart => exact ⟨7, by omega, by go_num, _, hcl, rfl, hred⟩
      case round =>
        clear hred
        obtain ⟨j, hj, rfl, p, hp, rfl, hr⟩ := hrel
        by_cases hj0 : 1 ≤ (j : Int)
        · go_wp2
          · obtain ⟨e1, e2, e3⟩ := red_yes p j (by omega) hj hp ‹_›
            exact ⟨⟨j - 1, by omega, by go_num, _, e2, by rw [e1], by rw [← e3]; exact hr⟩, by simp [intOf]; omega⟩
          · have e3 := red_no p j (by omega) hp ‹_›
            exact ⟨⟨j - 1, by omega, by go_num, _, hp, rfl, by rw [← e3]; exact hr⟩, by simp [intOf]; omega⟩
        · have e : j = 0 := by omega
          subst e
          have hr' := hr.out
          clear hr
          have e5 : (p : Int) % 256 = (Gf.mul a b : Nat) := by rw [← hr']; simp [Gf.red]
          have H5 : Hid ((p : Int) % 256 = (Gf.mul a b : Nat)) := e5
          clear e5 hr'
          go_wp2
          go_ret
          exact ⟨by rw [H5.out]; rfl, rfl⟩

end Go.Proofs.YtolgpepnjinfgaaDoor
