/- frame.allUpTo, frame.appendNumbers. -/
import Derived.Test.YtippipeebkkghaaGreatDoorNe
namespace Go.Proofs.YtippipeebkkghaaGreatDoor
set_option linter.unusedVariables false
set_option linter.unusedSimpArgs false
open Go.RowKit Go.Deep

/-- all from 0 to most -/
def upTo (most : Int) (zs : List Int) : Bool := zs.all (fun z => decide (0 ≤ z ∧ z ≤ most))
theorem upTo_at {most : Int} {zs : List Int} : upTo most zs = true ↔ ∀ (k : Nat) (z : Int), zs[k]? = some z → 0 ≤ z ∧ z ≤ most := by
  unfold upTo
  rw [List.all_eq_true]
  constructor
  · intro h k z hk
    exact of_decide_eq_true (h z (List.mem_of_getElem? hk))
  · intro h z hz
    obtain ⟨k, hk⟩ := List.getElem?_of_mem hz
    exact decide_eq_true (h k z hk)
theorem wrapK9 {k : Nat} (h : k ≤ 9000000000) : wrap64 ((k : Int) + 1) = ((k + 1 : Nat) : Int) := by unfold wrap64; omega

set_option maxRecDepth 100000 in
set_option maxHeartbeats 1600000 in
theorem allUpTo_ok (Z : Nat → Prop) (most : Int) (q : Option Addr) (n c : Nat) (zs : List Int) (w : World) (h : Fl w Z q (zs.map encI)) (hn : n = zs.length) (hn9 : n ≤ 1000000000) :
    Calls Tryz.prog 78 #[.int .i64 most, .slice q n c] w fun e w' => e = .returned (.bool (upTo most zs)) ∧ w' = w := by
  have HF : Hid (Fl w Z q (zs.map encI)) := h
  have HN : Hid (n = zs.length ∧ n ≤ 1000000000) := ⟨hn, hn9⟩
  have hn9' : (n : Int) ≤ 1000000000 := by omega
  clear h hn hn9
  go_enter Tryz.func78, Tryz.ntmps78
  go_wp2_with fail
  go_loopg [9] n (fun gk iv wz => ∃ k : Nat, k ≤ n ∧ gk = n - k ∧ iv = .int .i64 k ∧ w = wz ∧ Hid (∀ (i : Nat) (z : Int), i < k → zs[i]? = some z → 0 ≤ z ∧ z ≤ most))
  case atStart => exact ⟨0, Nat.zero_le _, rfl, rfl, rfl, fun i z hi => absurd hi (Nat.not_lt_zero _)⟩
  case round =>
    obtain ⟨k, hk, rfl, rfl, rfl, HT⟩ := hrel
    by_cases hlt : (k : Int) < (n : Int)
    · have hkl : k < zs.length := by have := HN.out; omega
      obtain ⟨z, hz⟩ : ∃ z, zs[k]? = some z := ⟨_, List.getElem?_eq_getElem hkl⟩
      obtain ⟨b, o, rfl, _, hc⟩ := HF.out k (encI z) (by rw [List.getElem?_map, hz]; rfl)
      have hc' : w.cell? ⟨b, o + k, none⟩ = some (.int .i64 z) := hc
      have HZ : Hid (zs[k]? = some z) := hz
      have HKi : Hid (wrap64 ((k : Int) + 1) = ((k + 1 : Nat) : Int)) := wrapK9 (by have := HN.out; omega)
      clear hc hz hkl
      by_cases h0 : z < 0
      · have HR : Hid (upTo most zs = false) := by
          show _ = _
          cases q : upTo most zs with
          | false => rfl
          | true => have := upTo_at.1 q k z HZ.out; omega
        go_wp2_with fail
        go_ret
        exact ⟨by rw [HR.out]; rfl, rfl⟩
      · by_cases hm : most < z
        · have HR : Hid (upTo most zs = false) := by
            show _ = _
            cases q : upTo most zs with
            | false => rfl
            | true => have := upTo_at.1 q k z HZ.out; omega
          go_wp2_with fail
          go_ret
          exact ⟨by rw [HR.out]; rfl, rfl⟩
        · have HO : Hid (0 ≤ z ∧ z ≤ most) := ⟨by omega, by omega⟩
          go_wp2_with fail
          go_roundg (n - (k + 1))
          case rel =>
            refine ⟨k + 1, by omega, rfl, by first | rw [HKi.out] | rfl | go_num, rfl, fun i y hi hy => ?_⟩
            by_cases e : i = k
            · subst e
              rw [HZ.out] at hy
              cases hy
              exact HO.out
            · exact HT.out i y (by omega) hy
          case measure => omega
    · have HR : Hid (upTo most zs = true) := upTo_at.2 (fun i z hz => HT.out i z (by have := HN.out; have := (List.getElem?_eq_some_iff.1 hz).1; omega) hz)
      go_wp2_with fail
      go_ret
      exact ⟨by rw [HR.out]; rfl, rfl⟩
end Go.Proofs.YtippipeebkkghaaGreatDoor
