/- The walk of SameTexts of the same. -/
import Derived.Test.YtmooddbhcccicaaGreatDoorFe2
namespace Go.Proofs.YtmooddbhcccicaaGreatDoor
open Go.RowKit Go.Deep

/-- texts, as they lie: row t, text r at place r -/
def Rt (w : World) (t n : Nat) (N : Nat → List Nat) : Prop := ∃ (cp : Nat) (V : Nat → Value), n ≤ cp ∧ w.rowIs t 34 cp V ∧ ∀ r, r < n → ∃ p k c, V r = .slice p k c ∧ Rb w p k (N r)

set_option maxRecDepth 100000 in
set_option maxHeartbeats 800000 in
theorem same_texts (t1 t2 n c1 c2 : Nat) (N : Nat → List Nat) (w : World) (h1 : Rt w t1 n N) (h2 : Rt w t2 n N) (hn : (n : Int) ≤ 1000000) :
    Calls Tryz.prog 117 #[.slice (some ⟨t1, 0, none⟩) n c1, .slice (some ⟨t2, 0, none⟩) n c2, .func (.func 20) #[] #[]] w fun e w' => e = .returned (.bool true) ∧ w' = w := by
  obtain ⟨cp1, V1, hc1, r1, e1⟩ := h1
  obtain ⟨cp2, V2, hc2, r2, e2⟩ := h2
  have HE1 : Hid _ := e1
  have HE2 : Hid _ := e2
  clear e1 e2
  go_enter Tryz.func117, Tryz.ntmps117
  go_wp2
  go_loopg [17] n (fun gk x wr => ∃ k : Nat, k ≤ n ∧ gk = n - k ∧ x = .int .i64 k ∧ wr = w)
  case atStart => exact ⟨0, Nat.zero_le _, rfl, rfl, rfl⟩
  case round =>
    obtain ⟨k, hk, rfl, rfl, rfl⟩ := hrel
    by_cases hlt : (k : Int) < (n : Int)
    · obtain ⟨p1, k1, d1, v1, b1⟩ := HE1.out k (by omega)
      obtain ⟨p2, k2, d2, v2, b2⟩ := HE2.out k (by omega)
      have x1 := r1.cell (i := k) (by omega)
      have x2 := r2.cell (i := k) (by omega)
      rw [v1] at x1
      rw [v2] at x2
      have HEq : Hid (Calls _ _ _ wr _) := equal_same p1 p2 k1 k2 d1 d2 _ wr b1 b2
      clear v1 v2 b1 b2 r1 r2 HE1 HE2
      go_wp2_with (go_at_call 20; refine HEq.out.mono ?_; rintro e w' ⟨rfl, hw⟩; obtain rfl := hw.symm)
      go_roundg (n - (k + 1))
      case rel => exact ⟨k + 1, by omega, rfl, by go_num, rfl⟩
      case measure => omega
    · clear r1 r2 HE1 HE2
      go_wp2
      go_ret
      exact ⟨rfl, rfl⟩

set_option maxRecDepth 100000 in
set_option maxHeartbeats 800000 in
theorem sameTexts_ok (t1 t2 n c1 c2 : Nat) (N : Nat → List Nat) (w : World) (h1 : Rt w t1 n N) (h2 : Rt w t2 n N) (hn : (n : Int) ≤ 1000000) :
    Calls Tryz.prog 68 #[.slice (some ⟨t1, 0, none⟩) n c1, .slice (some ⟨t2, 0, none⟩) n c2] w fun e w' => e = .returned (.bool true) ∧ w' = w := by
  have H : Hid (Calls _ _ _ w _) := same_texts t1 t2 n c1 c2 N w h1 h2 hn
  clear h1 h2
  go_enter Tryz.func68, Tryz.ntmps68
  go_wp2_with (go_at_call 117; refine H.out.mono ?_; rintro e w' ⟨rfl, hw⟩; obtain rfl := hw.symm)
  go_ret
  exact ⟨rfl, rfl⟩
end Go.Proofs.YtmooddbhcccicaaGreatDoor
