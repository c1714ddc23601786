/- Same of a state of one node with itself (laid by scripts/mkwj.py). -/
import Derived.Test.YtfeecopjacpjnaaGreatWi
namespace Go.Proofs.YtfeecopjacpjnaaGreat
set_option linter.unusedVariables false
set_option linter.unusedSimpArgs false
open Go.RowKit Go.Deep Go.Maps

theorem szTr : (Tryz.prog.info? 80).map (·.size) = some 2 := by kernel_rfl
theorem dsTr : ∃ d, Tryz.prog.underlying 80 = some d ∧ d.isRow = true := ⟨_, Tryz.underlying80, rfl⟩

set_option maxRecDepth 100000 in
set_option maxHeartbeats 800000 in
theorem eq1 (q : Option Addr) (c : Nat) (w : World) (h : Fl w (fun _ => True) q [.int .i64 0]) : Calls Tryz.prog 53 #[.slice q 1 c, .slice q 1 c] w fun e w' => e = .returned (.bool true) ∧ Kp (fun _ => False) w w' := by
  obtain ⟨b, o, rfl, _, hc⟩ := h 0 _ rfl
  rw [Nat.add_zero] at hc
  have HC : Hid (∀ u, Kp (fun _ => False) w u → u.cell? ⟨b, o, none⟩ = some (.int .i64 0)) := fun u k => k.cellv hc id
  clear h hc
  go_enter Tryz.func53, Tryz.ntmps53
  go_wp2_with fail
  go_loopg [13] 1 (fun gk iv wz => ∃ k : Nat, k ≤ 1 ∧ gk = 1 - k ∧ iv = .int .i64 k ∧ Hid (Kp (fun _ => False) w wz))
  case atStart => exact ⟨0, by omega, rfl, rfl, Kp.refl _ _⟩
  case round =>
    obtain ⟨k, hk, rfl, rfl, HK⟩ := hrel
    have hk2 : k = 0 ∨ k = 1 := by omega
    rcases hk2 with rfl | rfl
    · have c0 := HC.out wr HK.out
      go_upto_region 6 with fail
      go_big_quiet (fail)
      go_wp2_with fail
      go_roundg 0
      case rel => exact ⟨1, by omega, rfl, by first | rfl | go_num, by first | exact HK.out | exact HK.out.drew | exact HK.out.drewN _⟩
      case measure => omega
    · go_wp2_with fail
      go_ret
      exact ⟨rfl, HK.out⟩

set_option maxRecDepth 100000 in
set_option maxHeartbeats 800000 in
theorem clo1 (q : Option Addr) (c : Nat) (w : World) (h : Fl w (fun _ => True) q [.int .i64 0]) : Calls Tryz.prog 66 #[.agg #[.int .i64 1, .slice q 1 c], .agg #[.int .i64 1, .slice q 1 c]] w fun e w' => e = .returned (.bool true) ∧ Kp (fun _ => False) w w' := by
  have HE : Hid (∀ u, Kp (fun _ => False) w u → Calls Tryz.prog 53 #[.slice q 1 c, .slice q 1 c] u fun e w' => e = .returned (.bool true) ∧ Kp (fun _ => False) u w') := fun u k => eq1 q c u (h.keep k (fun _ _ => id))
  have HK : Hid (Kp (fun _ => False) w ((w.alloc (.cells #[.int .i64 1, .slice q 1 c] 80)).alloc (.cells #[.int .i64 1, .slice q 1 c] 80))) := ((Kp.refl _ _).alloc _).alloc _
  clear h
  go_enter Tryz.func66, Tryz.ntmps66
  go_wp2_with (go_at_call 53; refine (HE.out _ HK.out).mono ?_; rintro e9 w1 ⟨rfl, k1⟩)
  go_ret
  exact ⟨rfl, HK.out.trans k1 (fun _ _ e => e)⟩

set_option maxRecDepth 100000 in
set_option maxHeartbeats 1600000 in
theorem terms1 (v : Value) (w : World) (h : Tm1 w v) : Calls Tryz.prog 65 #[v, v, .func (.func 66) #[] #[]] w fun e w' => e = .returned (.bool true) ∧ Kp (fun _ => False) w w' := by
  obtain ⟨gt, q, c, rfl, hl, hf⟩ := h
  have HL : Hid (∀ u, Kp (fun _ => False) w u → Lv u gt [.int .i64 1, .slice q 1 c]) := fun u k => hl.keep k id
  have HC : Hid (∀ u, Kp (fun _ => False) w u → Calls Tryz.prog 66 #[.agg #[.int .i64 1, .slice q 1 c], .agg #[.int .i64 1, .slice q 1 c]] u fun e w' => e = .returned (.bool true) ∧ Kp (fun _ => False) u w') := fun u k => clo1 q c u (hf.keep k (fun _ _ => id))
  clear hl hf
  go_enter Tryz.func65, Tryz.ntmps65
  go_wp2_with fail
  go_loopg [17] 1 (fun gk iv wz => ∃ k : Nat, k ≤ 1 ∧ gk = 1 - k ∧ iv = .int .i64 k ∧ Hid (Kp (fun _ => False) w wz))
  case atStart => exact ⟨0, by omega, rfl, rfl, Kp.refl _ _⟩
  case round =>
    obtain ⟨k, hk, rfl, rfl, HK⟩ := hrel
    have hk2 : k = 0 ∨ k = 1 := by omega
    rcases hk2 with rfl | rfl
    · have HK2 : Hid (Kp (fun _ => False) w ((wr.alloc (.cells #[.int .i64 1, .slice q 1 c] 80)).alloc (.cells #[.int .i64 1, .slice q 1 c] 80))) := (HK.out.alloc _).alloc _
      have c0 := (HL.out wr HK.out).cell (j := 0) rfl
      have c1 := (HL.out wr HK.out).cell (j := 1) rfl
      have d0 := (HL.out _ (HK.out.alloc (.cells #[.int .i64 1, .slice q 1 c] 80))).cell (j := 0) rfl
      have d1 := (HL.out _ (HK.out.alloc (.cells #[.int .i64 1, .slice q 1 c] 80))).cell (j := 1) rfl
      go_wp2_with (first
        | (go_at_call 66; refine (HC.out _ HK2.out).mono ?_; rintro e9 w1 ⟨rfl, k1⟩; have HK3 : Hid (Kp (fun _ => False) w w1) := HK2.out.trans k1 (fun _ _ e => e); clear k1)
        | fail)
      go_roundg 0
      case rel => exact ⟨1, by omega, rfl, by first | rfl | go_num, HK3.out⟩
      case measure => omega
    · go_wp2_with fail
      go_ret
      exact ⟨rfl, HK.out⟩

set_option maxRecDepth 100000 in
set_option maxHeartbeats 800000 in
theorem made1 (v : Value) (w : World) (h : Ep w v) : Calls Tryz.prog 21 #[v] w fun e w' => e = .returned (.bool true) ∧ w' = w := by
  obtain ⟨g, tv, m1, m2, m3, m4, m5, rfl, hl, _, _⟩ := h
  have c0 : w.cell? ⟨g, 0, none⟩ = some (.int .i64 1) := hl.cell (j := 0) rfl
  clear hl
  go_enter Tryz.func21, Tryz.ntmps21
  go_wp2
  go_ret
  exact ⟨rfl, rfl⟩

end Go.Proofs.YtfeecopjacpjnaaGreat
