/- The document's numbers as bytes. -/
import Derived.Test.YtoepemgflbmlcaaDoorNk2
import Derived.Test.YtoepemgflbmlcaaDoorFs
namespace Go.Proofs.YtoepemgflbmlcaaDoor
set_option linter.unusedVariables false
set_option linter.unusedSimpArgs false
open Go.RowKit Go.Deep

theorem big_digs : ∀ (w n : Nat), big n w = digs w n := fun w n => by
  apply List.ext_getElem?
  intro j
  by_cases hj : j < w
  · rw [digs_get w n j hj]
    unfold big
    rw [List.getElem?_map, List.getElem?_range hj]
    rfl
  · rw [List.getElem?_eq_none (by rw [big_length]; omega), List.getElem?_eq_none (by rw [digs_len]; omega)]
/-- bytes of one's own read as a slice -/
theorem Ow.src {w : World} {base : Nat} {v : Value} {xs : List Nat} (h : Ow w base v xs) (hb : ∀ x ∈ xs, x < 256) : ∃ p c, v = .slice p xs.length c ∧ Rb w p xs.length xs := by
  obtain ⟨p, c, h1, _, h3, _⟩ := h.rb hb
  exact ⟨p, c, h1, h3⟩

set_option maxRecDepth 100000 in
set_option maxHeartbeats 1600000 in
theorem rnum_ok (n : Nat) (hn : n < 9223372036854775808) (w : World) : Calls Tryd.prog 27 #[.int .i64 n] w fun e w' => ∃ v, e = .returned v ∧ Ow w' w.heap.size v (numB n) ∧ Kp (fun _ => False) w w' := by
  have HNn : Hid (n < 9223372036854775808) := hn
  have hn' : (n : Int) < 9223372036854775808 := by omega
  clear hn
  go_enter Tryd.func27, Tryd.ntmps27
  go_wp2_with fail
  go_loopg [3, 4] (numW n) (fun gk kv xv wz => ∃ (k : Nat) (y : Int), gk = numW y.toNat ∧ kv = .int .i64 k ∧ xv = .int .i64 y ∧ w = wz ∧ Hid (numW n = k + numW y.toNat ∧ 0 ≤ y ∧ y < 9223372036854775808))
  case atStart => exact ⟨0, n, rfl, rfl, rfl, rfl, by rw [Int.toNat_natCast]; omega, by omega, by have := HNn.out; omega⟩
  case round =>
    obtain ⟨k, y, rfl, rfl, rfl, rfl, HY⟩ := hrel
    have HW8 : Hid (numW n ≤ 8) := numW8 HNn.out
    by_cases hy : (0 : Int) < y
    · have HP : Hid (numW y.toNat = numW (y / 256).toNat + 1) := by
        have h1 := HY.out
        have h2 : (y / 256).toNat = y.toNat / 256 := by omega
        show _ = _
        rw [h2]
        exact numW_pos (by omega)
      have HT : Hid (wrap64 (y.tdiv 256) = y / 256) := by
        have h1 := HY.out
        show _ = _
        rw [Int.tdiv_eq_ediv_of_nonneg (by omega)]
        unfold wrap64
        omega
      have hy9 : y < 9223372036854775808 := HY.out.2.2
      have HK1 : Hid (wrap64 ((k : Int) + 1) = ((k + 1 : Nat) : Int)) := by
        have h1 := HY.out
        have h2 := HW8.out
        show _ = _
        unfold wrap64
        omega
      go_wp2_with fail
      go_roundg (numW (y / 256).toNat)
      case rel => exact ⟨k + 1, y / 256, rfl, by first | rw [HK1.out] | rfl | go_num, by first | rw [HT.out] | rfl | go_num, rfl, by have := HY.out; have := HP.out; omega, by have := HY.out; omega, by have := HY.out; omega⟩
      case measure => have := HP.out; omega
    · have hy0 : y = 0 := by have := HY.out; omega
      subst hy0
      have HK : Hid (k = numW n) := by have := HY.out.1; rw [show (0 : Int).toNat = 0 from rfl, numW_zero] at this; show _ = _; omega
      have hk8 : (k : Int) ≤ 8 := by have := HK.out; have := HW8.out; omega
      have HB : Hid (∀ u, Calls Tryd.prog 54 #[.int .i64 n, .int .i64 k] u fun e w' => e = .returned (.slice (some ⟨u.heap.size, 0, none⟩) k k) ∧ Kp (fun _ => False) u w' ∧ w'.heap.size = u.heap.size + 1 ∧ Ow w' u.heap.size (.slice (some ⟨u.heap.size, 0, none⟩) k k) (big n k)) := fun u => big_any n k u (by have := HNn.out; omega) (by omega)
      have HO1 : Hid (Ow (w.alloc (.cells #[.int .u8 (k : Int)] 5)) w.heap.size (.slice (some ⟨w.heap.size, 0, none⟩) 1 1) [k]) := ⟨rfl, .inr ⟨w.heap.size, 1, #[.int .u8 (k : Int)], rfl, Nat.le_refl _, heap_alloc_new w _, Nat.le_refl _, by decide, rfl, rfl⟩⟩
      have HK0 : Hid (Kp (fun _ => False) w (w.alloc (.cells #[.int .u8 (k : Int)] 5))) := (Kp.refl _ _).alloc _
      go_wp2_with fail
      refine (HB.out _).mono ?_
      rintro e9 w1 ⟨rfl, k1, z1, o1⟩
      have HK1 : Hid (Kp (fun _ => False) w w1) := HK0.out.trans k1 (fun _ _ e => e)
      have HO2 : Hid (Ow w1 w.heap.size (.slice (some ⟨w.heap.size, 0, none⟩) 1 1) [k]) := ownsRow_keep HO1.out k1 (fun _ _ => id)
      obtain ⟨p, c, hv, hrb⟩ := o1.src (big_byte n k)
      have HR : Hid (Rb w1 (some ⟨w.heap.size + 1, 0, none⟩) k (big n k)) := by
        show Rb _ _ _ _
        rw [show (w.alloc (.cells #[.int .u8 (k : Int)] 5)).heap.size = w.heap.size + 1 by simp] at hv
        rw [big_length] at hv hrb
        injection hv with h1 h2 h3
        rw [h1]
        exact hrb
      clear k1 z1 o1 hv hrb
      rw [show (w.alloc (.cells #[.int .u8 (k : Int)] 5)).heap.size = w.heap.size + 1 by simp]
      go_wp2_with (at_builtin; refine wpList_append_bytes w1 rfl _ _ rfl w.heap.size _ [k] rfl HO2.out _ k k (big n k) rfl HR.out (by have := HK.out; have := HW8.out; simp; omega) HK1.out.size ?_; intro v2 w2 o2 k2 b2)
      have HK2 : Hid (Kp (fun _ => False) w w2) := HK1.out.trans k2 (fun b hb e => by have := (ownBlock_lt HO2.out e).1; omega)
      have HO3 : Hid (Ow w2 w.heap.size v2 ([k] ++ big n k)) := o2
      clear o2 k2 b2
      go_ret
      refine ⟨v2, rfl, ?_, HK2.out⟩
      have := HO3.out
      rw [big_digs] at this
      show Ow _ _ _ (numW n :: digs (numW n) n)
      rw [← HK.out]
      exact this
end Go.Proofs.YtoepemgflbmlcaaDoor
