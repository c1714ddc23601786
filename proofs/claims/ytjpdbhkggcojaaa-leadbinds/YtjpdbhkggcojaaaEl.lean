/- slices.IsSorted; texts for the law LeadOpens. -/
import Derived.Test.YtjpdbhkggcojaaaEj
import Derived.Test.YtjpdbhkggcojaaaEi
import Derived.Test.YtjpdbhkggcojaaaEk
namespace Go.Proofs.Ytjpdbhkggcojaaa
set_option linter.unusedVariables false
open Go.RowKit Go.Deep Go.Maps

set_option maxRecDepth 100000 in
set_option maxHeartbeats 1600000 in
theorem issorted_ok (Z : Nat → Prop) (q : Option Addr) (c N : Nat) (ss : List Int) (w : World) (h : Fl w Z q (ss.map encI)) (hN : N = ss.length) (hn : N ≤ 100000) (hs : ss.Pairwise (fun x y => x ≤ y)) :
    Calls Try.prog 32 #[.slice q N c] w fun e w' => e = .returned (.bool true) ∧ Kp (fun _ => False) w w' := by
  have HF : Hid (Fl w Z q (ss.map encI)) := h
  have HN : Hid (N = ss.length) := hN
  have HS : Hid (∀ i j, (hi : i < ss.length) → (hj : j < ss.length) → i < j → ss[i] ≤ ss[j]) := List.pairwise_iff_getElem.1 hs
  have hn9 : (N : Int) ≤ 100000 := by omega
  have HL : Hid (∀ (x y : Int) (u : World), Calls _ _ _ u _) := less_ok
  clear h hN hs hn
  have hw0 : wrap64 ((N : Int) - 1) = (N : Int) - 1 := by unfold wrap64; omega
  go_enter Try.func32, Try.ntmps32
  go_wp2
  clear hw0
  go_loopg [3] N (fun gk iv wr => ∃ i : Int, -1 ≤ i ∧ i ≤ (N : Int) - 1 ∧ gk = (i + 1).toNat ∧ iv = .int .i64 i ∧ Kp (fun _ => False) w wr)
  case atStart => exact ⟨(N : Int) - 1, by omega, by omega, by omega, rfl, Kp.refl _ _⟩
  case round =>
    obtain ⟨i, hi1, hi2, rfl, rfl, kr⟩ := hrel
    obtain ⟨wr0, rfl⟩ : ∃ x, x = wr := ⟨_, rfl⟩
    by_cases hlt : 0 < i
    · obtain ⟨k, hk⟩ : ∃ k : Nat, i = ((k + 1 : Nat) : Int) := ⟨i.toNat - 1, by omega⟩
      have hkz : k + 1 < ss.length := by rw [← HN.out]; omega
      obtain ⟨b, off, rfl, hb, hcl⟩ := HF.out (k + 1) (encI ss[k + 1]) (by rw [List.getElem?_map, List.getElem?_eq_getElem hkz]; rfl)
      obtain ⟨b', off', e', hb', hcl'⟩ := HF.out k (encI ss[k]) (by rw [List.getElem?_map, List.getElem?_eq_getElem (by omega)]; rfl)
      cases e'
      obtain ⟨x, hx⟩ : ∃ x, x = ss[k + 1] := ⟨_, rfl⟩
      obtain ⟨y, hy⟩ : ∃ y, y = ss[k] := ⟨_, rfl⟩
      have hxy : y ≤ x := by rw [hx, hy]; exact HS.out k (k + 1) _ _ (by omega)
      have hlx : decide (x < y) = false := decide_eq_false (by omega)
      rw [← hx] at hcl
      rw [← hy] at hcl'
      have HL1 : Hid (∀ u, Calls _ _ _ u _) := HL.out x y
      rw [hlx] at HL1
      clear hx hy hxy hlx hb hb'
      obtain ⟨j, hj⟩ : ∃ j, j = k + 1 := ⟨_, rfl⟩
      rw [← hj] at hk hcl
      subst hk
      have hw1 : wrap64 ((j : Int) - 1) = (k : Int) := by unfold wrap64; omega
      have hw2 : IntKind.i64.wrap ((j : Int) - 1) = (k : Int) := by rw [IntKind.wrap_i64]; omega
      have hk9 : (j : Int) < (N : Int) := by omega
      have HJ : Hid (j = k + 1) := hj
      have hk8 : (k : Int) < (N : Int) := by omega
      clear hj hkz
      go_wp2_with fail
      refine wp_region_still_tail 9 (by kernel_rfl) (by kernel_rfl) ?_
      obtain ⟨wd, hwd⟩ : ∃ y : World, y = { wr0 with drawn := wr0.drawn + 1 } := ⟨_, rfl⟩
      have kd : Kp (fun _ => False) w wd := by rw [hwd]; exact kr.drew
      rw [← hwd]
      have cx := kd.cellv hcl id
      have cy := kd.cellv hcl' id
      clear hwd hcl hcl' kr
      simp only [List.take_succ_cons, List.take_zero, List.drop_succ_cons, List.drop_zero]
      repeat still_step
      refine wpStill_nil ?_
      go_wp2_with (go_at_call 45; refine (HL1.out _).mono ?_; rintro e w3 ⟨rfl, hw3⟩; obtain rfl := hw3.symm; clear hw3)
      go_roundg (k + 1)
      case rel => exact ⟨(k : Int), by omega, by omega, by omega, by go_num, kd⟩
      case measure => have := HJ.out; omega
    · go_wp2
      go_ret
      exact ⟨rfl, kr⟩
end Go.Proofs.Ytjpdbhkggcojaaa
