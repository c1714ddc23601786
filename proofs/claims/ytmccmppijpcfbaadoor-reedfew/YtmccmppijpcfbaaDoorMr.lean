/- The walk of reed.Right where some of the data are missing. -/
import Derived.Test.YtmccmppijpcfbaaDoorMk
namespace Go.Proofs.YtmccmppijpcfbaaDoor
open Go.RowKit Go.Deep

theorem cnt_mono (q : Nat → Bool) (a : Nat) : ∀ b, cnt q a ≤ cnt q (a + b)
  | 0 => Nat.le_refl _
  | b + 1 => by
    have := cnt_mono q a b
    rw [show a + (b + 1) = (a + b) + 1 from by omega, cnt_succ]
    omega

set_option maxRecDepth 100000 in
set_option maxHeartbeats 1600000 in
theorem right_missing (K M : Nat) (s : Sh) (w : World) (hs : Rd w s) (hG : s.G = K + M) (h1 : 1 ≤ (K : Int)) (h3 : (M : Int) ≤ 255 - (K : Int)) (hcap : (K : Int) ≤ (s.cap : Int)) (hbad : (thereTo s.L K).length ≠ K ∨ alikeTo s.L K K = false) :
    Calls Tryd.prog 12 #[.agg #[.int .i64 K, .int .i64 M], .slice s.g (K + M) s.cap] w fun e w' => e = .returned (.bool false) ∧ Kp (fun _ => False) w w' := by
  obtain ⟨wa, hwa, ka, za, q1, q2⟩ := code_alloc w K M
  have HC : Hid (Calls _ _ _ wa _) := can_yes K M wa h1 (by omega) h3
  have hneq' : (((K + M : Nat) : Int) != (K : Int) + (M : Int)) = false := by rw [show ((K + M : Nat) : Int) = (K : Int) + (M : Int) from by simp]; exact bne_self_eq_false _
  have hneq : ((K : Int) + (M : Int) != (K : Int) + (M : Int)) = false := bne_self_eq_false _
  have hle2 : (K : Int) ≤ (K : Int) + (M : Int) := by omega
  have hg := hs.at0 (by omega)
  rw [hg]
  have hG' : Hid (s.G = K + M) := hG
  have Hg : Hid (s.g = some ⟨s.gb, s.go, none⟩) := hg
  have HB : Hid ((thereTo s.L K).length ≠ K ∨ alikeTo s.L K K = false) := hbad
  clear hG hg hbad
  go_enter Tryd.func12, Tryd.ntmps12
  go_wp2_with fail
  rw [← hwa]
  refine HC.out.mono ?_
  rintro e w1 ⟨rfl, k1⟩
  have r1 := k1.cellv q1 id
  have r2 := k1.cellv q2 id
  have kk := ka.trans k1 (fun _ _ e => e)
  clear HC q1 q2 k1 hwa
  have HE : Hid (∀ w' cap, Kp (fun _ => False) w1 w' → Calls _ _ #[_, .slice _ _ cap] w' _) := fun w' cap k' => encode_no K M ⟨s.g, K, cap, s.gb, s.go, s.A, s.L, s.C, s.RB, s.RO, s.M⟩ w' (by
    have h := (hs.keep kk).keep k'
    exact ⟨fun h0 => h.at0 (by rw [hG'.out]; simp at h0; omega), fun r hr => h.hd r (by rw [hG'.out]; simp at hr; omega), fun r hr => h.to r (by rw [hG'.out]; simp at hr; omega), fun r hr => h.cell r (by rw [hG'.out]; simp at hr; omega), h.byte⟩) rfl h1 h3 HB.out
  rw [show s.g = some ⟨s.gb, s.go, none⟩ from Hg.out] at HE
  go_wp2
  go_region_with (go_at_call 21; refine (HE.out _ _ (by exact ⟨rfl, rfl, rfl, Nat.le_refl _, fun _ _ _ => rfl⟩)).mono ?_; rintro e w2 ⟨rfl, k2⟩)
  all_goals
    have kk2 := kk.trans (((Kp.refl (fun _ => False) w1).drew).trans k2 (fun _ _ e => e)) (fun _ _ e => e)
    clear HE
    go_wp2
    go_ret
    exact ⟨rfl, kk2⟩
end Go.Proofs.YtmccmppijpcfbaaDoor
