/- slices.Index, slices.Contains of numbers (as in Ho). -/
import Derived.Test.YtmncocmeafcpfaaDoorQg
namespace Go.Proofs.YtmncocmeafcpfaaDoor
set_option linter.unusedVariables false
set_option linter.unusedSimpArgs false
open Go.RowKit Go.Deep

theorem wrapI (k n : Nat) (hk : k ≤ n) (h : n * 8 ≤ 140737488355328) : wrap64 ((k : Int) + 1) = ((k + 1 : Nat) : Int) := by unfold wrap64; omega

set_option maxRecDepth 100000 in
set_option maxHeartbeats 1600000 in
theorem index_ok (Z : Nat → Prop) (p : Option Addr) (c : Nat) (z : Int) (xs : List Int) (w : World) (h : Fl w Z p (xs.map encI)) (hl : Hid (xs.length * 8 ≤ 140737488355328)) :
    Calls Tryd.prog 90 #[.slice p xs.length c, .int .i64 z] w fun e w' => ∃ r : Int, e = .returned (.int .i64 r) ∧ decide (0 ≤ r) = decide (z ∈ xs) ∧ w' = w := by
  obtain ⟨L, hL⟩ : ∃ L, L = xs.length := ⟨_, rfl⟩
  have HL : Hid (L = xs.length) := hL
  rw [← hL]
  have HF : Hid (Fl w Z p (xs.map encI)) := h
  have HK : Hid (L * 8 ≤ 140737488355328) := by rw [hL]; exact hl
  clear h hL hl
  go_enter Tryd.func90, Tryd.ntmps90
  go_wp2
  go_loopg [8] L (fun gk i wr => ∃ k : Nat, k ≤ L ∧ gk = L - k ∧ i = .int .i64 k ∧ wr = w ∧ Hid (z ∉ xs.take k))
  case atStart => exact ⟨0, Nat.zero_le _, rfl, rfl, rfl, by simp [Hid]⟩
  case round =>
    obtain ⟨k, hk, rfl, rfl, hwr, HT⟩ := hrel
    subst hwr
    by_cases hlt : (k : Int) < (L : Int)
    · have hkl : k < xs.length := by have := HL.out; omega
      have hg : (xs.map encI)[k]? = some (encI xs[k]) := by rw [List.getElem?_map, List.getElem?_eq_getElem hkl]; rfl
      obtain ⟨b1, o1, rfl, _, e1⟩ := HF.out k _ hg
      obtain ⟨y, hy⟩ : ∃ y, y = xs[k] := ⟨_, rfl⟩
      rw [← hy] at e1
      have HTk : Hid (xs.take (k + 1) = xs.take k ++ [y] ∧ y ∈ xs) := ⟨by rw [hy, List.take_succ_eq_append_getElem hkl], by rw [hy]; exact List.getElem_mem hkl⟩
      have HW : Hid (wrap64 ((k : Int) + 1) = ((k + 1 : Nat) : Int)) := wrapI k L hk HK.out
      clear hg hy hkl
      by_cases hzy : z = y
      · subst hzy
        go_wp2
        go_ret
        exact ⟨_, rfl, by rw [decide_eq_true HTk.out.2, decide_eq_true (by omega)], rfl⟩
      · go_wp2
        go_roundg (L - (k + 1))
        case rel => exact ⟨k + 1, by omega, rfl, by rw [HW.out], rfl, by show _ ∉ _; rw [HTk.out.1]; simp only [List.mem_append, List.mem_singleton]; exact fun e => e.elim HT.out hzy⟩
        case measure => omega
    · have HA : Hid (z ∉ xs) := by
        have := HT.out
        rw [List.take_of_length_le (by have := HL.out; omega)] at this
        exact this
      go_wp2
      go_ret
      exact ⟨_, rfl, by first | exact ⟨fun h => absurd h (by omega), fun h => absurd h HA.out⟩ | (rw [decide_eq_false HA.out]; rfl), rfl⟩

set_option maxRecDepth 100000 in
set_option maxHeartbeats 800000 in
theorem contains_ok (Z : Nat → Prop) (p : Option Addr) (c : Nat) (z : Int) (xs : List Int) (w : World) (h : Fl w Z p (xs.map encI)) (hl : Hid (xs.length * 8 ≤ 140737488355328)) :
    Calls Tryd.prog 49 #[.slice p xs.length c, .int .i64 z] w fun e w' => e = .returned (.bool (decide (z ∈ xs))) ∧ w' = w := by
  have H : Hid (Calls _ _ _ w _) := index_ok Z p c z xs w h hl
  obtain ⟨L, hL⟩ : ∃ L, L = xs.length := ⟨_, rfl⟩
  obtain ⟨an, han⟩ : ∃ an, an = decide (z ∈ xs) := ⟨_, rfl⟩
  rw [← hL, ← han] at H
  rw [← hL, ← han]
  clear h hl hL han
  go_enter Tryd.func49, Tryd.ntmps49
  go_wp2_with (go_at_call 90; refine H.out.mono ?_; rintro e u4 ⟨r, rfl, hr, hw⟩; obtain rfl := hw; subst hr)
  go_ret
  exact ⟨rfl, rfl⟩

end Go.Proofs.YtmncocmeafcpfaaDoor
