/- The same commands, votes and messages are found the same. -/
import Derived.Test.YtoepemgflbmlcaaDoorQw
namespace Go.Proofs.YtoepemgflbmlcaaDoor
set_option linter.unusedVariables false
open Go.RowKit Go.Deep Go.Maps

theorem wrapV' (k n : Nat) (hk : k ≤ n) (h : n * 8 ≤ 140737488355328) : wrap64 ((k : Int) + 1) = ((k + 1 : Nat) : Int) := by unfold wrap64; omega

set_option maxRecDepth 100000 in
set_option maxHeartbeats 800000 in
theorem same_ints (Z1 Z2 : Nat → Prop) (p1 p2 : Option Addr) (c1 c2 : Nat) (zs : List Int) (w : World) (h1 : Fl w Z1 p1 (zs.map encI)) (h2 : Fl w Z2 p2 (zs.map encI)) (hl : Hid (zs.length * 8 ≤ 140737488355328)) :
    Calls Tryd.prog 34 #[.slice p1 zs.length c1, .slice p2 zs.length c2] w fun e w' => e = .returned (.bool true) ∧ Kp (fun _ => False) w w' := by
  obtain ⟨L, hL⟩ : ∃ L, L = zs.length := ⟨_, rfl⟩
  have HL : Hid (L = zs.length) := hL
  have HK : Hid (L * 8 ≤ 140737488355328) := by rw [hL]; exact hl
  rw [← hL]
  have H1 : Hid (Fl w Z1 p1 (zs.map encI)) := h1
  have H2 : Hid (Fl w Z2 p2 (zs.map encI)) := h2
  clear h1 h2 hL hl
  go_enter Tryd.func34, Tryd.ntmps34
  go_wp2
  go_loopg [13] L (fun gk i wr => ∃ k : Nat, k ≤ L ∧ gk = L - k ∧ i = .int .i64 k ∧ Kp (fun _ => False) w wr)
  case atStart => exact ⟨0, Nat.zero_le _, rfl, rfl, Kp.refl _ _⟩
  case round =>
    obtain ⟨k, hk, rfl, rfl, hK⟩ := hrel
    by_cases hlt : (k : Int) < (L : Int)
    · have hkl : k < zs.length := by have := HL.out; omega
      have hg : (zs.map encI)[k]? = some (encI zs[k]) := by rw [List.getElem?_map, List.getElem?_eq_getElem hkl]; rfl
      obtain ⟨b1, o1, rfl, _, e1⟩ := (H1.out.keep hK (fun _ _ => id)) k _ hg
      obtain ⟨b2, o2, rfl, _, e2⟩ := (H2.out.keep hK (fun _ _ => id)) k _ hg
      have HK1 : Hid (wrap64 ((k : Int) + 1) = ((k + 1 : Nat) : Int)) := wrapV' k L hk HK.out
      obtain ⟨z, hz⟩ : ∃ z, z = zs[k] := ⟨_, rfl⟩
      rw [← hz] at e1 e2
      clear hg hz
      go_wp2
      go_region
      go_wp2
      go_roundg (L - (k + 1))
      case rel => exact ⟨k + 1, by omega, rfl, by rw [HK1.out], hK.drew⟩
      case measure => omega
    · go_wp2
      go_ret
      exact ⟨rfl, hK⟩

set_option maxRecDepth 100000 in
set_option maxHeartbeats 1600000 in
theorem same_cmd (c : Cs0) (Z1 Z2 : Nat → Prop) (p1 p2 : Option Addr) (c1 c2 : Nat) (zs : List Int) (w : World) (h1 : Fl w Z1 p1 (zs.map encI)) (h2 : Fl w Z2 p2 (zs.map encI)) (hl : Hid (zs.length * 8 ≤ 140737488355328)) :
    Calls Tryd.prog 12 #[.agg (cmdA c (.slice p1 zs.length c1)), .agg (cmdA c (.slice p2 zs.length c2))] w fun e w' => e = .returned (.bool true) ∧ Kp (fun _ => False) w w' := by
  have HE : Hid (∀ u, Kp (fun _ => False) w u → Calls _ _ _ u _) := fun u k => same_ints Z1 Z2 p1 p2 c1 c2 zs u (h1.keep k (fun _ _ => id)) (h2.keep k (fun _ _ => id)) hl
  obtain ⟨L, hL⟩ : ∃ L, L = zs.length := ⟨_, rfl⟩
  rw [← hL] at HE ⊢
  clear h1 h2 hL hl
  go_enter Tryd.func12, Tryd.ntmps12
  go_wp2_with (go_at_call 34; refine (HE.out _ (by first | exact Kp.refl _ _ | exact (Kp.refl _ _).alloc _ | exact ((Kp.refl _ _).alloc _).alloc _)).mono ?_; rintro e w3 ⟨rfl, k3⟩)
  go_ret
  exact ⟨rfl, (((Kp.refl _ _).alloc _).alloc _).trans k3 (fun _ _ e => e)⟩

set_option maxRecDepth 100000 in
set_option maxHeartbeats 800000 in
theorem bytesEq_run (v1 v2 : Value) (b : ByteArray) (w : World) (h1 : (convert 28 9 v1).run Tryd.prog w = .ok (.string b) w) (h2 : (convert 28 9 v2).run Tryd.prog w = .ok (.string b) w) :
    Calls Tryd.prog 11 #[v1, v2] w fun e w' => e = .returned (.bool true) ∧ w' = w := by
  go_enter Tryd.func11, Tryd.ntmps11
  go_wp2
  go_ret
  exact ⟨rfl, rfl⟩
theorem bytes_same (p1 p2 : Option Addr) (n1 n2 c1 c2 : Nat) (xs : List Nat) (w : World) (h1 : Rb w p1 n1 xs) (h2 : Rb w p2 n2 xs) :
    Calls Tryd.prog 11 #[.slice p1 n1 c1, .slice p2 n2 c2] w fun e w' => e = .returned (.bool true) ∧ w' = w :=
  bytesEq_run _ _ _ w (convert_bytes p1 n1 c1 xs w h1) (convert_bytes p2 n2 c2 xs w h2)

set_option maxRecDepth 100000 in
set_option maxHeartbeats 1600000 in
theorem same_vote (v : Vo) (Z1 Z2 : Nat → Prop) (p1 p2 : Option Addr) (c1 c2 : Nat) (w : World) (h1 : Fl w Z1 p1 (v.nodes.map encI)) (h2 : Fl w Z2 p2 (v.nodes.map encI)) (hl : Hid (v.nodes.length * 8 ≤ 140737488355328)) :
    Calls Tryd.prog 48 #[.agg (vcell v (.slice p1 v.nodes.length c1)).toArray, .agg (vcell v (.slice p2 v.nodes.length c2)).toArray] w fun e w' => e = .returned (.bool true) ∧ Kp (fun _ => False) w w' := by
  have HE : Hid (∀ u, Kp (fun _ => False) w u → Calls _ _ _ u _) := fun u k => same_cmd v.c Z1 Z2 p1 p2 c1 c2 v.nodes u (h1.keep k (fun _ _ => id)) (h2.keep k (fun _ _ => id)) hl
  obtain ⟨L, hL⟩ : ∃ L, L = v.nodes.length := ⟨_, rfl⟩
  rw [← hL] at HE ⊢
  clear h1 h2 hL hl
  go_enter Tryd.func48, Tryd.ntmps48
  go_wp2_with (go_at_call 12; refine (HE.out _ (by first | exact Kp.refl _ _ | exact (Kp.refl _ _).alloc _ | exact ((Kp.refl _ _).alloc _).alloc _)).mono ?_; rintro e w3 ⟨rfl, k3⟩)
  go_ret
  exact ⟨rfl, (((Kp.refl _ _).alloc _).alloc _).trans k3 (fun _ _ e => e)⟩

end Go.Proofs.YtoepemgflbmlcaaDoor
