/- The reference's Right; what both sides answer of whatever shards. -/
import Derived.Test.YtbmhfclknilcoaaDoorRd3
namespace Go.Proofs.YtbmhfclknilcoaaDoor
open Go.RowKit Go.Deep

set_option maxRecDepth 100000 in
set_option maxHeartbeats 800000 in
theorem refRight_bad (K M : Int) (g : Option Addr) (G cap : Nat) (w : World) (h : ¬ Vd K M G) :
    Calls Tryd.prog 14 #[.agg #[.int .i64 K, .int .i64 M], .slice g G cap] w fun e w' => e = .returned (.bool false) ∧ Kp (fun _ => False) w w' := by
  obtain ⟨wa, hwa, ka, za, q1, q2⟩ := code_alloc w K M
  have HC : Hid (Calls _ _ _ wa _) := refSome_no K M g G cap wa h
  clear h
  go_enter Tryd.func14, Tryd.ntmps14
  go_wp2_with fail
  rw [← hwa]
  refine HC.out.mono ?_
  rintro e w1 ⟨rfl, k1⟩
  clear hwa q1 q2
  go_wp2
  go_ret
  exact ⟨rfl, ka.trans k1 (fun _ _ e => e)⟩

set_option maxRecDepth 100000 in
set_option maxHeartbeats 800000 in
theorem refRight_no (K M : Nat) (s : Sh) (w : World) (hs : Rd w s) (hG : s.G = K + M) (h1 : 1 ≤ (K : Int)) (h3 : (M : Int) ≤ 255 - (K : Int)) (h : ¬ (alikeTo s.L (K + M) (K + M) = true ∧ (thereTo s.L (K + M)).length = K + M)) :
    Calls Tryd.prog 14 #[.agg #[.int .i64 K, .int .i64 M], .slice s.g (K + M) s.cap] w fun e w' => e = .returned (.bool false) ∧ Kp (fun _ => False) w w' := by
  obtain ⟨wa, hwa, ka, za, q1, q2⟩ := code_alloc w K M
  have HC : Hid (Calls _ _ _ wa _) := refSome_yes K M s wa (hs.keep ka) hG h1 h3
  have HH : Hid (¬ _) := h
  have HLe := thereTo_le s.L (K + M)
  clear h hs hG
  go_enter Tryd.func14, Tryd.ntmps14
  go_wp2_with fail
  rw [← hwa]
  refine HC.out.mono ?_
  rintro e w1 ⟨k1, ⟨hal, rfl⟩ | ⟨hal, v, rfl, hSel⟩⟩
  · clear hwa q1 q2 HC hal HH HLe
    go_wp2
    go_ret
    exact ⟨rfl, ka.trans k1 (fun _ _ e => e)⟩
  · obtain ⟨pa, ba, cv, rfl, hx1, hx2⟩ := hSel.ls
    have r1 := k1.cellv q1 id
    have r2 := k1.cellv q2 id
    have hne : (thereTo s.L (K + M)).length ≠ K + M := fun e => HH.out ⟨hal, e⟩
    obtain ⟨m, hm⟩ : ∃ m, m = (thereTo s.L (K + M)).length := ⟨_, rfl⟩
    rw [← hm] at hne HLe ⊢
    have d1 : ((m : Int) != (K : Int) + (M : Int)) = true := by rw [bne_iff_ne]; omega
    clear hwa q1 q2 HC hal HH hSel hx1 hx2 hm hne HLe
    go_wp2
    go_ret
    exact ⟨rfl, ka.trans k1 (fun _ _ e => e)⟩

set_option maxRecDepth 100000 in
set_option maxHeartbeats 1600000 in
theorem refRight_yes (K M n : Nat) (s : Sh) (w : World) (hs : Rd w s) (hG : s.G = K + M) (h1 : 1 ≤ (K : Int)) (h3 : (M : Int) ≤ 255 - (K : Int)) (hal : alikeTo s.L (K + M) (K + M) = true) (hall : (thereTo s.L (K + M)).length = K + M) (hL : ∀ r, r < K + M → s.L r = n) (hn : (n : Int) ≤ 1000000) (hn1 : 1 ≤ (n : Int)) (hcap : (K : Int) ≤ (s.cap : Int))
    (b : Bool) (hyes : b = true → ∀ i, i < K + M → ∀ p, p < n → enc K s.M i p = s.M i p) (hno : b = false → ¬ ∀ i, i < K + M → ∀ p, p < n → enc K s.M i p = s.M i p) :
    Calls Tryd.prog 14 #[.agg #[.int .i64 K, .int .i64 M], .slice s.g (K + M) s.cap] w fun e w' => e = .returned (.bool b) ∧ Kp (fun _ => False) w w' := by
  obtain ⟨wa, hwa, ka, za, q1, q2⟩ := code_alloc w K M
  have HC : Hid (Calls _ _ _ wa _) := refSome_yes K M s wa (hs.keep ka) hG h1 h3
  have HA : Hid (alikeTo s.L (K + M) (K + M) = true) := hal
  have hg := hs.at0 (by omega)
  rw [hg] at HC ⊢
  have Hg : Hid (s.g = some ⟨s.gb, s.go, none⟩) := hg
  have HL : Hid (∀ r, r < K + M → s.L r = n) := hL
  have hG' : Hid (s.G = K + M) := hG
  have hneq : ((K : Int) + (M : Int) != (K : Int) + (M : Int)) = false := bne_self_eq_false _
  have hle2 : (K : Int) ≤ (K : Int) + (M : Int) := by omega
  have HY : Hid (b = true → ∀ i, i < K + M → ∀ p, p < n → enc K s.M i p = s.M i p) := hyes
  have HN : Hid (b = false → ¬ ∀ i, i < K + M → ∀ p, p < n → enc K s.M i p = s.M i p) := hno
  have Hall : Hid ((thereTo s.L (K + M)).length = K + M) := hall
  clear hal hG hL hyes hno hg hall
  go_enter Tryd.func14, Tryd.ntmps14
  go_wp2_with fail
  rw [← hwa]
  refine HC.out.mono ?_
  rintro e w1 ⟨k1, ⟨hal, rfl⟩ | ⟨hal, v, rfl, hSel⟩⟩
  · rw [HA.out] at hal; cases hal
  · obtain ⟨pa, ba, cv, rfl, hx1, hx2⟩ := hSel.ls
    have r1 := k1.cellv q1 id
    have r2 := k1.cellv q2 id
    rw [Hall.out]
    have kk := ka.trans k1 (fun _ _ e => e)
    clear hwa q1 q2 HC hal hSel hx1 hx2
    have HE : Hid (∀ w' cap, Kp (fun _ => False) w1 w' → Calls _ _ #[_, .slice _ _ cap] w' _) := fun w' cap k' => refEncode_yes K M n ⟨s.g, K, cap, s.gb, s.go, s.A, s.L, s.C, s.RB, s.RO, s.M⟩ w' (by
      have h := (hs.keep kk).keep k'
      exact ⟨fun h0 => h.at0 (by rw [hG'.out]; simp at h0; omega), fun r hr => h.hd r (by rw [hG'.out]; simp at hr; omega), fun r hr => h.to r (by rw [hG'.out]; simp at hr; omega), fun r hr => h.cell r (by rw [hG'.out]; simp at hr; omega), h.byte⟩) rfl (fun r hr => HL.out r (by omega)) h1 h3 hn hn1
    rw [show s.g = some ⟨s.gb, s.go, none⟩ from Hg.out] at HE
    go_wp2
    go_region_with (go_at_call 28; refine (HE.out _ _ (by exact ⟨rfl, rfl, rfl, Nat.le_refl _, fun _ _ _ => rfl⟩)).mono ?_; rintro e w2 ⟨v, rfl, k2, hM⟩)
    all_goals
      have kk2 := kk.trans (((Kp.refl (fun _ => False) w1).drew).trans k2 (fun _ _ e => e)) (fun _ _ e => e)
      obtain ⟨q, rfl, hq, hqG, hqL, hqM⟩ := hM
      have HF : Hid (Calls _ _ _ w2 _) := refSame_any q s w2 hq (hs.keep kk2) (by rw [hqG, hG'.out]) (by omega) (by omega) b
        (fun h r hr => ⟨by rw [hqL r (by omega), HL.out r (by omega)], fun c hc => by rw [hqM]; exact HY.out h r (by omega) c (by rw [hqL r (by omega)] at hc; exact hc)⟩)
        (fun h hx => HN.out h (fun i hi p hp => by have := (hx i (by omega)).2 p (by rw [hqL i (by omega)]; exact hp); rw [hqM] at this; exact this))
      rw [hqG, Hg.out] at HF
      rw [hqG]
      clear HE hq hqL hqM hqG
      go_wp2_with fail
      refine HF.out.mono ?_
      rintro e w3 ⟨rfl, k3⟩
      go_wp2
      go_ret
      exact ⟨rfl, kk2.trans k3 (fun _ _ e => e)⟩
end Go.Proofs.YtbmhfclknilcoaaDoor
