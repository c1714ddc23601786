/- The reference's stripes, Length and Cut. -/
import Derived.Test.YtmncocmeafcpfaaDoorMfKz
import Derived.Test.YtmncocmeafcpfaaDoorMfR7
import Derived.Test.YtmncocmeafcpfaaDoorMfS2
import Derived.Deep.RegionLaw
namespace Go.Proofs.YtmncocmeafcpfaaDoor.Mf
open Go.RowKit Go.Deep

set_option maxRecDepth 100000 in
set_option maxHeartbeats 1600000 in
theorem refStripes_yes (K M size : Nat) (w : World) (h1 : 1 ≤ (K : Int)) (h3 : (M : Int) ≤ 255 - (K : Int)) (hs : (size : Int) ≤ 400) :
    Calls Tryd.prog 45 #[.agg #[.int .i64 K, .int .i64 M], .int .i64 size] w fun e w' => e = .returned (.int .i64 (stripesOf K size : Int)) ∧ Kp (fun _ => False) w w' := by
  have hq := quot_eq (K := K) (size := size) (by omega)
  have hq2 := quot_le (K := K) (size := size) (by omega) (by omega)
  have HL : Hid (stripesOf K size = max 1 ((size + K * 8 - 1) / (K * 8))) := rfl
  generalize (size + K * 8 - 1) / (K * 8) = Q at *
  have d2 : ((K : Int) * 8 == 0) = false := beq_eq_false_iff_ne.2 (by omega)
  go_enter Tryd.func45, Tryd.ntmps45
  go_wp2
  · go_ret
    exact ⟨by rw [show (stripesOf K size : Int) = (Q : Int) from by rw [HL.out]; omega]; rfl, (Kp.refl _ _).alloc _⟩
  · go_ret
    exact ⟨by rw [show (stripesOf K size : Int) = 1 from by rw [HL.out]; omega]; rfl, (Kp.refl _ _).alloc _⟩

set_option maxRecDepth 100000 in
set_option maxHeartbeats 1600000 in
theorem refLength_yes (K M size : Nat) (w : World) (h1 : 1 ≤ (K : Int)) (h3 : (M : Int) ≤ 255 - (K : Int)) (hs : (size : Int) ≤ 400) :
    Calls Tryd.prog 44 #[.agg #[.int .i64 K, .int .i64 M], .int .i64 size] w fun e w' => e = .returned (.int .i64 (lenOf K size : Int)) ∧ Kp (fun _ => False) w w' := by
  obtain ⟨wa, hwa, ka, za, q1, q2⟩ := code_alloc w K M
  have HC : Hid (Calls _ _ _ wa _) := refCan_yes K M wa h1 (by omega) h3
  have d1 : decide (400 < (size : Int)) = false := by simp; omega
  have HS : Hid (∀ w, Calls _ _ _ w _) := fun w => refStripes_yes K M size w h1 h3 hs
  have hsb : (stripesOf K size : Int) ≤ 50 := by have := quot_le (K := K) (size := size) (by omega) (by omega); unfold stripesOf; omega
  have HL : Hid (lenOf K size = stripesOf K size * 8) := rfl
  generalize stripesOf K size = Q at *
  go_enter Tryd.func44, Tryd.ntmps44
  go_wp2_with fail
  rw [← hwa]
  refine HC.out.mono ?_
  rintro e w1 ⟨rfl, k1⟩
  have r1 := k1.cellv q1 id
  have r2 := k1.cellv q2 id
  have kk := ka.trans k1 (fun _ _ e => e)
  clear hwa
  go_wp2_with fail
  refine (HS.out _).mono ?_
  rintro e w2 ⟨rfl, k2⟩
  go_wp2
  go_ret
  exact ⟨by rw [show (lenOf K size : Int) = 8 * (Q : Int) from by rw [HL.out]; omega]; rfl, kk.trans k2 (fun _ _ e => e)⟩

set_option maxRecDepth 100000 in
set_option maxHeartbeats 1600000 in
theorem refLength_no (K M size : Int) (w : World) (h : ¬ ((1 ≤ K ∧ 0 ≤ M ∧ M ≤ 255 - K) ∧ 0 ≤ size ∧ size ≤ 400)) :
    Calls Tryd.prog 44 #[.agg #[.int .i64 K, .int .i64 M], .int .i64 size] w fun e w' => e = .returned (.int .i64 0) ∧ Kp (fun _ => False) w w' := by
  obtain ⟨wa, hwa, ka, za, q1, q2⟩ := code_alloc w K M
  by_cases hc : 1 ≤ K ∧ 0 ≤ M ∧ M ≤ 255 - K
  · have HC : Hid (Calls _ _ _ wa _) := refCan_yes K M wa hc.1 hc.2.1 hc.2.2
    have hs : size < 0 ∨ 400 < size := by omega
    rcases hs with hs | hs
    · clear h hc
      go_enter Tryd.func44, Tryd.ntmps44
      go_wp2_with fail
      rw [← hwa]
      refine HC.out.mono ?_
      rintro e w1 ⟨rfl, k1⟩
      clear hwa
      go_wp2
      go_ret
      exact ⟨rfl, ka.trans k1 (fun _ _ e => e)⟩
    · have hs' : ¬ size < 0 := by omega
      clear h hc
      go_enter Tryd.func44, Tryd.ntmps44
      go_wp2_with fail
      rw [← hwa]
      refine HC.out.mono ?_
      rintro e w1 ⟨rfl, k1⟩
      clear hwa
      go_wp2
      go_ret
      exact ⟨rfl, ka.trans k1 (fun _ _ e => e)⟩
  · have HC : Hid (Calls _ _ _ wa _) := refCan_no K M wa hc
    clear h hc
    go_enter Tryd.func44, Tryd.ntmps44
    go_wp2_with fail
    rw [← hwa]
    refine HC.out.mono ?_
    rintro e w1 ⟨rfl, k1⟩
    clear hwa
    go_wp2
    go_ret
    exact ⟨rfl, ka.trans k1 (fun _ _ e => e)⟩

set_option maxRecDepth 100000 in
set_option maxHeartbeats 1600000 in
theorem length_no (K M size : Int) (w : World) (hw : 1 ≤ K → wrap64 (255 - K) = 255 - K) (h : ¬ ((1 ≤ K ∧ 0 ≤ M ∧ M ≤ 255 - K) ∧ 0 ≤ size ∧ size ≤ 400)) :
    Calls Tryd.prog 95 #[.agg #[.int .i64 K, .int .i64 M], .int .i64 size] w fun e w' => e = .returned (.int .i64 0) ∧ Kp (fun _ => False) w w' := by
  obtain ⟨wa, hwa, ka, za, q1, q2⟩ := code_alloc w K M
  by_cases hc : 1 ≤ K ∧ 0 ≤ M ∧ M ≤ 255 - K
  · have HC : Hid (Calls _ _ _ wa _) := can_yes K M wa hc.1 hc.2.1 hc.2.2
    have hs : size < 0 ∨ 400 < size := by omega
    rcases hs with hs | hs
    · clear h hc hw
      go_enter Tryd.func95, Tryd.ntmps95
      go_wp2_with fail
      rw [← hwa]
      refine HC.out.mono ?_
      rintro e w1 ⟨rfl, k1⟩
      clear hwa
      go_wp2
      go_ret
      exact ⟨rfl, ka.trans k1 (fun _ _ e => e)⟩
    · have hs' : ¬ size < 0 := by omega
      clear h hc hw
      go_enter Tryd.func95, Tryd.ntmps95
      go_wp2_with fail
      rw [← hwa]
      refine HC.out.mono ?_
      rintro e w1 ⟨rfl, k1⟩
      clear hwa
      go_wp2
      go_ret
      exact ⟨rfl, ka.trans k1 (fun _ _ e => e)⟩
  · have HC : Hid (Calls _ _ _ wa _) := can_no K M wa hw hc
    clear h hc hw
    go_enter Tryd.func95, Tryd.ntmps95
    go_wp2_with fail
    rw [← hwa]
    refine HC.out.mono ?_
    rintro e w1 ⟨rfl, k1⟩
    clear hwa
    go_wp2
    go_ret
    exact ⟨rfl, ka.trans k1 (fun _ _ e => e)⟩

set_option maxRecDepth 100000 in
set_option maxHeartbeats 1600000 in
theorem cut_no (K M : Int) (p : Option Addr) (la ca : Nat) (w : World) (hw : 1 ≤ K → wrap64 (255 - K) = 255 - K) (h : ¬ ((1 ≤ K ∧ 0 ≤ M ∧ M ≤ 255 - K) ∧ (la : Int) ≤ 400)) :
    Calls Tryd.prog 101 #[.agg #[.int .i64 K, .int .i64 M], .slice p la ca] w fun e w' => e = .returned (.tuple #[.slice none 0 0, .int .i64 1]) ∧ Kp (fun _ => False) w w' := by
  obtain ⟨wa, hwa, ka, za, q1, q2⟩ := code_alloc w K M
  have HC : Hid (Calls _ _ _ wa _) := length_no K M la wa hw (by omega)
  clear h hw
  go_enter Tryd.func101, Tryd.ntmps101
  go_wp2_with fail
  rw [← hwa]
  refine HC.out.mono ?_
  rintro e w1 ⟨rfl, k1⟩
  clear hwa
  go_wp2
  go_ret2
  exact ⟨rfl, ka.trans k1 (fun _ _ e => e)⟩

set_option maxRecDepth 100000 in
set_option maxHeartbeats 1600000 in
theorem refCut_no (K M : Int) (p : Option Addr) (la ca : Nat) (w : World) (h : ¬ ((1 ≤ K ∧ 0 ≤ M ∧ M ≤ 255 - K) ∧ (la : Int) ≤ 400)) :
    Calls Tryd.prog 13 #[.agg #[.int .i64 K, .int .i64 M], .slice p la ca] w fun e w' => e = .returned (.tuple #[.slice none 0 0, .int .i64 1]) ∧ Kp (fun _ => False) w w' := by
  obtain ⟨wa, hwa, ka, za, q1, q2⟩ := code_alloc w K M
  have HC : Hid (Calls _ _ _ wa _) := refLength_no K M la wa (by omega)
  clear h
  go_enter Tryd.func13, Tryd.ntmps13
  go_wp2_with fail
  rw [← hwa]
  refine HC.out.mono ?_
  rintro e w1 ⟨rfl, k1⟩
  clear hwa
  go_wp2
  go_ret2
  exact ⟨rfl, ka.trans k1 (fun _ _ e => e)⟩
end Go.Proofs.YtmncocmeafcpfaaDoor.Mf
