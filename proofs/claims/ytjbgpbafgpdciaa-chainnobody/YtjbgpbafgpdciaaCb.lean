/- Lists of numbers and commands held against each other. -/
import Derived.Test.YtjbgpbafgpdciaaCa
namespace Go.Proofs.Ytjbgpbafgpdciaa
set_option linter.unusedVariables false
open Go.RowKit Go.Deep Go.Maps

theorem key_inj {a b : ByteArray} (h : a.toList = b.toList) : a = b := by
  rw [ByteArray.toList_eq, ByteArray.toList_eq] at h
  exact ByteArray.ext (Array.toList_inj.mp h)
theorem wrapV' (k n : Nat) (hk : k ≤ n) (h : n * 8 ≤ 140737488355328) : wrap64 ((k : Int) + 1) = ((k + 1 : Nat) : Int) := by unfold wrap64; omega

set_option maxRecDepth 100000 in
set_option maxHeartbeats 800000 in
theorem eq_ints (Z1 Z2 : Nat → Prop) (p1 p2 : Option Addr) (c1 c2 : Nat) (xs ys : List Int) (w : World) (h1 : Fl w Z1 p1 (xs.map encI)) (h2 : Fl w Z2 p2 (ys.map encI)) (hl : Hid (xs.length * 8 ≤ 140737488355328)) :
    Calls Try.prog 28 #[.slice p1 xs.length c1, .slice p2 ys.length c2] w fun e w' => e = .returned (.bool (decide (xs = ys))) ∧ Kp (fun _ => False) w w' := by
  obtain ⟨L, hL⟩ : ∃ L, L = xs.length := ⟨_, rfl⟩
  obtain ⟨M, hM⟩ : ∃ M, M = ys.length := ⟨_, rfl⟩
  have HL : Hid (L = xs.length ∧ M = ys.length) := ⟨hL, hM⟩
  have HK : Hid (L * 8 ≤ 140737488355328) := by rw [hL]; exact hl
  rw [← hL, ← hM]
  have H1 : Hid (Fl w Z1 p1 (xs.map encI)) := h1
  have H2 : Hid (Fl w Z2 p2 (ys.map encI)) := h2
  by_cases hlm : (L : Int) = (M : Int)
  · obtain rfl : L = M := by omega
    obtain ⟨d, hd⟩ : ∃ d, d = decide (xs = ys) := ⟨_, rfl⟩
    have HD : Hid (d = decide (xs = ys)) := hd
    rw [← hd]
    clear h1 h2 hL hl hM hlm hd
    go_enter Try.func28, Try.ntmps28
    go_wp2
    go_loopg [13] L (fun gk i wr => ∃ k : Nat, k ≤ L ∧ gk = L - k ∧ i = .int .i64 k ∧ Kp (fun _ => False) w wr ∧ xs.take k = ys.take k)
    case atStart => exact ⟨0, Nat.zero_le _, rfl, rfl, Kp.refl _ _, rfl⟩
    case round =>
      obtain ⟨k, hk, rfl, rfl, hK, htk⟩ := hrel
      have HTk : Hid (xs.take k = ys.take k) := htk
      clear htk
      by_cases hlt : (k : Int) < (L : Int)
      · have hkl : k < xs.length := by have := HL.out; omega
        have hkm : k < ys.length := by have := HL.out; omega
        have hg : (xs.map encI)[k]? = some (encI xs[k]) := by rw [List.getElem?_map, List.getElem?_eq_getElem hkl]; rfl
        have hg2 : (ys.map encI)[k]? = some (encI ys[k]) := by rw [List.getElem?_map, List.getElem?_eq_getElem hkm]; rfl
        obtain ⟨b1, o1, rfl, _, e1⟩ := (H1.out.keep hK (fun _ _ => id)) k _ hg
        obtain ⟨b2, o2, rfl, _, e2⟩ := (H2.out.keep hK (fun _ _ => id)) k _ hg2
        have HK1 : Hid (wrap64 ((k : Int) + 1) = ((k + 1 : Nat) : Int)) := wrapV' k L hk HK.out
        obtain ⟨z, hz⟩ : ∃ z, z = xs[k] := ⟨_, rfl⟩
        obtain ⟨y, hy⟩ : ∃ y, y = ys[k] := ⟨_, rfl⟩
        rw [← hz] at e1
        rw [← hy] at e2
        have HT : Hid (xs.take (k + 1) = xs.take k ++ [z] ∧ ys.take (k + 1) = ys.take k ++ [y]) := ⟨by rw [hz, List.take_succ_eq_append_getElem hkl], by rw [hy, List.take_succ_eq_append_getElem hkm]⟩
        clear hg hg2 hz hy
        by_cases hzy : z = y
        · subst hzy
          go_wp2
          go_region
          go_wp2
          go_roundg (L - (k + 1))
          case rel => exact ⟨k + 1, by omega, rfl, by rw [HK1.out], hK.drew, by rw [HT.out.1, HT.out.2, HTk.out]⟩
          case measure => omega
        · have HDf : Hid (d = false) := by
            show d = false
            rw [HD.out, decide_eq_false_iff_not]
            intro e
            have := HT.out
            rw [e, this.2] at this
            have h3 := List.append_cancel_left this.1
            exact hzy (by injection h3 with h3 _; exact h3.symm)
          go_wp2
          go_region
          go_wp2
          go_ret
          exact ⟨by rw [HDf.out]; rfl, hK.drew⟩
      · have HDt : Hid (d = true) := by
          show d = true
          have h3 := HTk.out
          have h4 := HL.out
          rw [List.take_of_length_le (by omega), List.take_of_length_le (by omega)] at h3
          rw [HD.out, decide_eq_true_iff]
          exact h3
        go_wp2
        go_ret
        exact ⟨by rw [HDt.out]; rfl, hK⟩
  · have HDf : Hid (decide (xs = ys) = false) := by
      show _ = false
      rw [decide_eq_false_iff_not]
      intro e
      rw [e] at hL
      omega
    clear h1 h2 hL hM hl
    go_enter Try.func28, Try.ntmps28
    go_wp2
    go_ret
    exact ⟨by rw [HDf.out]; rfl, Kp.refl _ _⟩

end Go.Proofs.Ytjbgpbafgpdciaa
