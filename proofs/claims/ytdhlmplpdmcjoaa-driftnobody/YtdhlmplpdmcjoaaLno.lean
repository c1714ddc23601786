/- The walk of the law DriftNobody: clocks that no call made. -/
import Derived.Test.YtdhlmplpdmcjoaaLl
namespace Go.Proofs.Ytdhlmplpdmcjoaa
open Go.RowKit Go.Deep Go.Maps

/-- a pointer to clocks that no call made -/
def Nc (w : World) (pv : Value) : Prop := pv = .pointer none ∨ ∃ b, pv = .pointer (some ⟨b, 0, none⟩) ∧ w.cell? ⟨b, 0, none⟩ = some (.slice none 0 0)
theorem Nc.keep {w w' : World} {pv : Value} (h : Nc w pv) (k : Kp (fun _ => False) w w') : Nc w' pv := by
  rcases h with h | ⟨b, h, hc⟩
  · exact Or.inl h
  · exact Or.inr ⟨b, h, k.cellv hc id⟩

set_option maxRecDepth 100000 in
set_option maxHeartbeats 400000 in
theorem ckmade_nc (pv : Value) (w : World) (h : Nc w pv) : Calls Try.prog 62 #[pv] w fun e w' => e = .returned (.bool false) ∧ w' = w := by
  have hne : ∀ w, (binOp .neq 32 (.slice none 0 0) (.slice none 0 0)).run Try.prog w = .ok (.bool false) w := fun w => run_neq_slice_nil_any w 32 3 none 0 0 0 0 Try.underlying32
  rcases h with rfl | ⟨b, rfl, hc⟩
  · go_enter Try.func62, Try.ntmps62
    go_wp2
    go_ret
    exact ⟨rfl, rfl⟩
  · go_enter Try.func62, Try.ntmps62
    go_wp2
    go_ret
    exact ⟨rfl, rfl⟩

set_option maxRecDepth 100000 in
set_option maxHeartbeats 400000 in
theorem ckhas_nc (pv : Value) (n : Int) (w : World) (h : Nc w pv) : Calls Try.prog 54 #[pv, .int .i64 n] w fun e w' => e = .returned (.bool false) ∧ w' = w := by
  have H : Hid (Calls _ _ _ w _) := ckmade_nc pv w h
  clear h
  go_enter Try.func54, Try.ntmps54
  go_wp2_with (go_at_call 62; refine H.out.mono ?_; rintro e w' ⟨rfl, rfl⟩)
  go_ret
  exact ⟨rfl, rfl⟩

set_option maxRecDepth 100000 in
set_option maxHeartbeats 400000 in
theorem why_nc (pv : Value) (n : Int) (w : World) (h : Nc w pv) : Calls Try.prog 52 #[pv, .int .i64 n] w fun e w' => e = .returned (.int .i64 2) ∧ w' = w := by
  have H : Hid (Calls _ _ _ w _) := ckmade_nc pv w h
  clear h
  go_enter Try.func52, Try.ntmps52
  go_wp2_with (go_at_call 62; refine H.out.mono ?_; rintro e w' ⟨rfl, rfl⟩)
  go_ret
  exact ⟨rfl, rfl⟩

set_option maxRecDepth 100000 in
set_option maxHeartbeats 400000 in
theorem cktick_nc (pv : Value) (n : Int) (w : World) (h : Nc w pv) : Calls Try.prog 32 #[pv, .int .i64 n] w fun e w' => e = .returned (.int .i64 2) ∧ w' = w := by
  have H : Hid (Calls _ _ _ w _) := why_nc pv n w h
  clear h
  go_enter Try.func32, Try.ntmps32
  go_wp2_with (go_at_call 52; refine H.out.mono ?_; rintro e w' ⟨rfl, rfl⟩)
  go_ret
  exact ⟨rfl, rfl⟩

set_option maxRecDepth 100000 in
set_option maxHeartbeats 400000 in
theorem ckmay_nc (pv : Value) (n : Int) (w : World) (h : Nc w pv) : Calls Try.prog 30 #[pv, .int .i64 n] w fun e w' => e = .returned (.bool false) ∧ w' = w := by
  have H : Hid (Calls _ _ _ w _) := why_nc pv n w h
  clear h
  go_enter Try.func30, Try.ntmps30
  go_wp2_with (go_at_call 52; refine H.out.mono ?_; rintro e w' ⟨rfl, rfl⟩)
  go_ret
  exact ⟨rfl, rfl⟩

set_option maxRecDepth 100000 in
set_option maxHeartbeats 400000 in
theorem cknow_nc (pv : Value) (n : Int) (w : World) (h : Nc w pv) : Calls Try.prog 34 #[pv, .int .i64 n] w fun e w' => e = .returned (.int .i64 0) ∧ w' = w := by
  have H : Hid (Calls _ _ _ w _) := ckhas_nc pv n w h
  clear h
  go_enter Try.func34, Try.ntmps34
  go_wp2_with (go_at_call 54; refine H.out.mono ?_; rintro e w' ⟨rfl, rfl⟩)
  go_ret
  exact ⟨rfl, rfl⟩

set_option maxRecDepth 100000 in
set_option maxHeartbeats 1600000 in
theorem driftNobody_walk (n : Int) (w : World) :
    Calls Try.prog 12 #[.int .i64 n] w fun e w' => e = .returned (.bool true) ∧ Kp (fun _ => False) w w' := by
  have HLi : Hid (∀ u : World, Calls Try.prog 7 #[.int .i64 1, .slice (some ⟨u.heap.size, 0, none⟩) 1 1] (u.alloc (.cells #[.int .i64 0] 3)) fun e w' => e = .returned (.bool true) ∧ Kp (fun _ => False) (u.alloc (.cells #[.int .i64 0] 3)) w') := fun (u : World) =>
    driftLives_walk 1 _ 1 _ ⟨some ⟨u.heap.size, 0, none⟩, 1, [0], rfl, rfl, Nat.le_refl _, fun j hj => by
      have hj0 : j = 0 := by simp at hj; exact hj
      subst hj0
      exact ⟨u.heap.size, 0, rfl, by go_simp⟩, by omega⟩
  go_enter Try.func12, Try.ntmps12
  go_wp2
  go_loopg [9] 2 (fun gk x wr => ∃ k : Nat, k ≤ 2 ∧ gk = 2 - k ∧ x = .int .i64 k ∧ Kp (fun _ => False) w wr ∧ Hid (∀ k, k < 2 → ∃ pv, wr.cell? ⟨w.heap.size + 1, k, none⟩ = some pv ∧ Nc wr pv))
  case atStart =>
    refine ⟨0, Nat.zero_le _, rfl, rfl, ((Kp.refl _ _).alloc _).alloc _, fun k hk => ?_⟩
    have hk' : k = 0 ∨ k = 1 := by omega
    rcases hk' with rfl | rfl
    · exact ⟨_, by go_simp, Or.inl rfl⟩
    · exact ⟨_, by go_simp, Or.inr ⟨w.heap.size, rfl, by go_simp⟩⟩
  case round =>
    obtain ⟨k, hk, rfl, rfl, hK, HN⟩ := hrel
    obtain ⟨wr0, rfl⟩ : ∃ x, x = wr := ⟨_, rfl⟩
    by_cases hlt : (k : Int) < 2
    · obtain ⟨pv, c1, hn⟩ := HN.out k (by omega)
      have H1 : Hid (Calls _ _ _ wr0 _) := cktick_nc pv n wr0 hn
      have H2 : Hid (Calls _ _ _ wr0 _) := cknow_nc pv n wr0 hn
      have H3 : Hid (Calls _ _ _ wr0 _) := ckmay_nc pv n wr0 hn
      clear hn
      go_wp2_with (first
        | (go_at_call 32; refine H1.out.mono ?_; rintro e w' ⟨rfl, hw'⟩; obtain rfl := hw'.symm; clear hw')
        | (go_at_call 34; refine H2.out.mono ?_; rintro e w' ⟨rfl, hw'⟩; obtain rfl := hw'.symm; clear hw')
        | (go_at_call 30; refine H3.out.mono ?_; rintro e w' ⟨rfl, hw'⟩; obtain rfl := hw'.symm; clear hw'))
      go_roundg (2 - (k + 1))
      case rel => exact ⟨k + 1, by omega, rfl, by go_num, hK, HN⟩
      case measure => omega
    · have HLo : Hid (Calls _ _ _ _ _) := HLi.out wr0
      go_wp2_with (go_at_call 7; refine HLo.out.mono ?_; rintro e w3 ⟨rfl, k3⟩)
      go_ret
      exact ⟨rfl, (hK.alloc _).trans k3 (fun _ _ e => e)⟩
end Go.Proofs.Ytdhlmplpdmcjoaa
