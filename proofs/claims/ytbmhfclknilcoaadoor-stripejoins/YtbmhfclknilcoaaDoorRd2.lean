/- The errors of Decode and Repair, whatever is handed in; Right and Same, of the program and of the reference. -/
import Derived.Test.YtbmhfclknilcoaaDoorRd1
import Derived.Test.YtbmhfclknilcoaaDoorLen
namespace Go.Proofs.YtbmhfclknilcoaaDoor
open Go.RowKit Go.Deep

/-- as many shards as a code asks -/
def Vd (K M : Int) (G : Nat) : Prop := (1 ≤ K ∧ 0 ≤ M ∧ M ≤ 255 - K) ∧ (G : Int) = K + M

set_option maxRecDepth 100000 in
set_option maxHeartbeats 800000 in
theorem firstThere_bad (K M : Int) (g : Option Addr) (G cap : Nat) (w : World) (hw : 1 ≤ K → wrap64 (255 - K) = 255 - K) (h : ¬ Vd K M G) :
    Calls Tryd.prog 21 #[.agg #[.int .i64 K, .int .i64 M], .slice g G cap] w fun e w' => e = .returned (.tuple #[.slice none 0 0, .int .i64 1]) ∧ Kp (fun _ => False) w w' := by
  obtain ⟨wa, hwa, ka, za, q1, q2⟩ := code_alloc w K M
  by_cases hc : 1 ≤ K ∧ 0 ≤ M ∧ M ≤ 255 - K
  · have HC : Hid (Calls _ _ _ wa _) := can_yes K M wa hc.1 hc.2.1 hc.2.2
    have hne : ((G : Int) != K + M) = true := by rw [bne_iff_ne]; intro e; exact h ⟨hc, e⟩
    have b1 : 0 ≤ K := by omega
    have b2 : K ≤ 255 := by omega
    have b3 : 0 ≤ M := by omega
    have b4 : M ≤ 255 := by omega
    clear h hc hw
    go_enter Tryd.func21, Tryd.ntmps21
    go_wp2_with fail
    rw [← hwa]
    refine HC.out.mono ?_
    rintro e w1 ⟨rfl, k1⟩
    have r1 := k1.cellv q1 id
    have r2 := k1.cellv q2 id
    clear hwa q1 q2
    go_wp2
    go_ret2
    exact ⟨rfl, ka.trans k1 (fun _ _ e => e)⟩
  · have HC : Hid (Calls _ _ _ wa _) := can_no K M wa hw hc
    clear h hc hw
    go_enter Tryd.func21, Tryd.ntmps21
    go_wp2_with fail
    rw [← hwa]
    refine HC.out.mono ?_
    rintro e w1 ⟨rfl, k1⟩
    clear hwa q1 q2
    go_wp2
    go_ret2
    exact ⟨rfl, ka.trans k1 (fun _ _ e => e)⟩

set_option maxRecDepth 100000 in
set_option maxHeartbeats 800000 in
theorem decode_bad (K M : Int) (g : Option Addr) (G cap : Nat) (w : World) (hw : 1 ≤ K → wrap64 (255 - K) = 255 - K) (h : ¬ Vd K M G) :
    Calls Tryd.prog 7 #[.agg #[.int .i64 K, .int .i64 M], .slice g G cap] w fun e w' => e = .returned (.tuple #[.slice none 0 0, .int .i64 1]) ∧ Kp (fun _ => False) w w' := by
  obtain ⟨wa, hwa, ka, za, q1, q2⟩ := code_alloc w K M
  have HC : Hid (Calls _ _ _ wa _) := firstThere_bad K M g G cap wa hw h
  clear h hw
  go_enter Tryd.func7, Tryd.ntmps7
  go_wp2_with fail
  rw [← hwa]
  refine HC.out.mono ?_
  rintro e w1 ⟨rfl, k1⟩
  clear hwa q1 q2
  go_wp2
  go_ret2
  exact ⟨rfl, ka.trans k1 (fun _ _ e => e)⟩

set_option maxRecDepth 100000 in
set_option maxHeartbeats 800000 in
theorem repair_bad (K M i : Int) (g : Option Addr) (G cap : Nat) (w : World) (hw : 1 ≤ K → wrap64 (255 - K) = 255 - K) (h : ¬ (Vd K M G ∧ 0 ≤ i ∧ i < K + M)) :
    Calls Tryd.prog 9 #[.agg #[.int .i64 K, .int .i64 M], .slice g G cap, .int .i64 i] w fun e w' => e = .returned (.tuple #[.slice none 0 0, .int .i64 1]) ∧ Kp (fun _ => False) w w' := by
  obtain ⟨wa, hwa, ka, za, q1, q2⟩ := code_alloc w K M
  by_cases hc : 1 ≤ K ∧ 0 ≤ M ∧ M ≤ 255 - K
  · have HC : Hid (Calls _ _ _ wa _) := can_yes K M wa hc.1 hc.2.1 hc.2.2
    have b1 : 0 ≤ K := by omega
    have b2 : K ≤ 255 := by omega
    have b3 : 0 ≤ M := by omega
    have b4 : M ≤ 255 := by omega
    by_cases h1 : i < 0
    · have d1 : decide (i < 0) = true := by simp; omega
      clear h hc hw
      go_enter Tryd.func9, Tryd.ntmps9
      go_wp2_with fail
      rw [← hwa]
      refine HC.out.mono ?_
      rintro e w1 ⟨rfl, k1⟩
      have r1 := k1.cellv q1 id
      have r2 := k1.cellv q2 id
      clear hwa q1 q2
      go_wp2
      go_ret2
      exact ⟨rfl, ka.trans k1 (fun _ _ e => e)⟩
    · have d1 : decide (i < 0) = false := by simp; omega
      by_cases h2 : K + M ≤ i
      · have d2 : decide (K + M ≤ i) = true := by simp; omega
        clear h hc hw
        go_enter Tryd.func9, Tryd.ntmps9
        go_wp2_with fail
        rw [← hwa]
        refine HC.out.mono ?_
        rintro e w1 ⟨rfl, k1⟩
        have r1 := k1.cellv q1 id
        have r2 := k1.cellv q2 id
        clear hwa q1 q2
        go_wp2
        go_ret2
        exact ⟨rfl, ka.trans k1 (fun _ _ e => e)⟩
      · have d2 : decide (K + M ≤ i) = false := by simp; omega
        have HF : Hid (∀ w', Calls _ _ _ w' _) := fun w' => firstThere_bad K M g G cap w' hw (fun hv => h ⟨hv, by omega, by omega⟩)
        clear h hc hw
        go_enter Tryd.func9, Tryd.ntmps9
        go_wp2_with fail
        rw [← hwa]
        refine HC.out.mono ?_
        rintro e w1 ⟨rfl, k1⟩
        have r1 := k1.cellv q1 id
        have r2 := k1.cellv q2 id
        clear hwa q1 q2
        go_wp2_with fail
        refine (HF.out _).mono ?_
        rintro e w2 ⟨rfl, k2⟩
        go_wp2
        go_ret2
        exact ⟨rfl, (ka.trans k1 (fun _ _ e => e)).trans k2 (fun _ _ e => e)⟩
  · have HC : Hid (Calls _ _ _ wa _) := can_no K M wa hw hc
    clear h hc hw
    go_enter Tryd.func9, Tryd.ntmps9
    go_wp2_with fail
    rw [← hwa]
    refine HC.out.mono ?_
    rintro e w1 ⟨rfl, k1⟩
    clear hwa q1 q2
    go_wp2
    go_ret2
    exact ⟨rfl, ka.trans k1 (fun _ _ e => e)⟩

set_option maxRecDepth 100000 in
set_option maxHeartbeats 800000 in
theorem right_bad (K M : Int) (g : Option Addr) (G cap : Nat) (w : World) (hw : 1 ≤ K → wrap64 (255 - K) = 255 - K) (h : ¬ Vd K M G) :
    Calls Tryd.prog 13 #[.agg #[.int .i64 K, .int .i64 M], .slice g G cap] w fun e w' => e = .returned (.bool false) ∧ Kp (fun _ => False) w w' := by
  obtain ⟨wa, hwa, ka, za, q1, q2⟩ := code_alloc w K M
  by_cases hc : 1 ≤ K ∧ 0 ≤ M ∧ M ≤ 255 - K
  · have HC : Hid (Calls _ _ _ wa _) := can_yes K M wa hc.1 hc.2.1 hc.2.2
    have hne : ((G : Int) != K + M) = true := by rw [bne_iff_ne]; intro e; exact h ⟨hc, e⟩
    have b1 : 0 ≤ K := by omega
    have b2 : K ≤ 255 := by omega
    have b3 : 0 ≤ M := by omega
    have b4 : M ≤ 255 := by omega
    clear h hc hw
    go_enter Tryd.func13, Tryd.ntmps13
    go_wp2_with fail
    rw [← hwa]
    refine HC.out.mono ?_
    rintro e w1 ⟨rfl, k1⟩
    have r1 := k1.cellv q1 id
    have r2 := k1.cellv q2 id
    clear hwa q1 q2
    go_wp2
    go_ret
    exact ⟨rfl, ka.trans k1 (fun _ _ e => e)⟩
  · have HC : Hid (Calls _ _ _ wa _) := can_no K M wa hw hc
    clear h hc hw
    go_enter Tryd.func13, Tryd.ntmps13
    go_wp2_with fail
    rw [← hwa]
    refine HC.out.mono ?_
    rintro e w1 ⟨rfl, k1⟩
    clear hwa q1 q2
    go_wp2
    go_ret
    exact ⟨rfl, ka.trans k1 (fun _ _ e => e)⟩

set_option maxRecDepth 100000 in
set_option maxHeartbeats 800000 in
theorem refDecode_bad (K M : Int) (g : Option Addr) (G cap : Nat) (w : World) (h : ¬ Vd K M G) :
    Calls Tryd.prog 8 #[.agg #[.int .i64 K, .int .i64 M], .slice g G cap] w fun e w' => e = .returned (.tuple #[.slice none 0 0, .int .i64 1]) ∧ Kp (fun _ => False) w w' := by
  obtain ⟨wa, hwa, ka, za, q1, q2⟩ := code_alloc w K M
  have HC : Hid (Calls _ _ _ wa _) := refSome_no K M g G cap wa h
  clear h
  go_enter Tryd.func8, Tryd.ntmps8
  go_wp2_with fail
  rw [← hwa]
  refine HC.out.mono ?_
  rintro e w1 ⟨rfl, k1⟩
  clear hwa q1 q2
  go_wp2
  go_ret2
  exact ⟨rfl, ka.trans k1 (fun _ _ e => e)⟩

set_option maxRecDepth 100000 in
set_option maxHeartbeats 800000 in
theorem refDecode_no (K M : Nat) (s : Sh) (w : World) (hs : Rd w s) (hG : s.G = K + M) (h1 : 1 ≤ (K : Int)) (h3 : (M : Int) ≤ 255 - (K : Int)) (c : Int)
    (h : (alikeTo s.L (K + M) (K + M) = false ∧ c = 1) ∨ (alikeTo s.L (K + M) (K + M) = true ∧ (thereTo s.L (K + M)).length < K ∧ c = 30)) :
    Calls Tryd.prog 8 #[.agg #[.int .i64 K, .int .i64 M], .slice s.g (K + M) s.cap] w fun e w' => e = .returned (.tuple #[.slice none 0 0, .int .i64 c]) ∧ Kp (fun _ => False) w w' := by
  obtain ⟨wa, hwa, ka, za, q1, q2⟩ := code_alloc w K M
  have HC : Hid (Calls _ _ _ wa _) := refSome_yes K M s wa (hs.keep ka) hG h1 h3
  have HH : Hid (_ ∨ _) := h
  clear h hs hG
  go_enter Tryd.func8, Tryd.ntmps8
  go_wp2_with fail
  rw [← hwa]
  refine HC.out.mono ?_
  rintro e w1 ⟨k1, ⟨hal, rfl⟩ | ⟨hal, v, rfl, hSel⟩⟩
  · rcases HH.out with ⟨_, rfl⟩ | ⟨h2, _⟩
    · clear hwa q1 q2 HC hal HH
      go_wp2
      go_ret2
      exact ⟨rfl, ka.trans k1 (fun _ _ e => e)⟩
    · rw [hal] at h2; cases h2
  · rcases HH.out with ⟨h2, _⟩ | ⟨_, hfew, rfl⟩
    · rw [hal] at h2; cases h2
    · obtain ⟨pa, ba, cv, rfl, hx1, hx2⟩ := hSel.ls
      have r1 := k1.cellv q1 id
      obtain ⟨m, hm⟩ : ∃ m, m = (thereTo s.L (K + M)).length := ⟨_, rfl⟩
      rw [← hm] at hfew ⊢
      have d1 : decide ((m : Int) < (K : Int)) = true := by simp; omega
      have d2 : (m : Int) < (K : Int) := by omega
      clear hwa q1 q2 HC hal HH hSel hx1 hx2 hm
      go_wp2
      go_ret2
      exact ⟨rfl, ka.trans k1 (fun _ _ e => e)⟩

set_option maxRecDepth 100000 in
set_option maxHeartbeats 800000 in
theorem refRepair_bad (K M i : Int) (g : Option Addr) (G cap : Nat) (w : World) (h : ¬ Vd K M G) :
    Calls Tryd.prog 10 #[.agg #[.int .i64 K, .int .i64 M], .slice g G cap, .int .i64 i] w fun e w' => e = .returned (.tuple #[.slice none 0 0, .int .i64 1]) ∧ Kp (fun _ => False) w w' := by
  obtain ⟨wa, hwa, ka, za, q1, q2⟩ := code_alloc w K M
  have HC : Hid (Calls _ _ _ wa _) := refSome_no K M g G cap wa h
  clear h
  go_enter Tryd.func10, Tryd.ntmps10
  go_wp2_with fail
  rw [← hwa]
  refine HC.out.mono ?_
  rintro e w1 ⟨rfl, k1⟩
  clear hwa q1 q2
  go_wp2
  go_ret2
  exact ⟨rfl, ka.trans k1 (fun _ _ e => e)⟩

end Go.Proofs.YtbmhfclknilcoaaDoor
