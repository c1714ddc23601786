/- The reference's log: sealed, a head's bytes. -/
import Derived.Test.YtippipeebkkghaaGreatDoorVrd
import Derived.Test.YtippipeebkkghaaGreatDoorVrb
namespace Go.Proofs.YtippipeebkkghaaGreatDoor
set_option linter.unusedVariables false
set_option linter.unusedSimpArgs false
open Go.RowKit Go.Deep

/-- a sector's bytes -/
def sealX (xs : List Nat) : List Nat := (xs ++ List.replicate (59 - xs.length) 0) ++ big (Crc.sum (xs ++ List.replicate (59 - xs.length) 0)) 4 ++ [167]

set_option maxRecDepth 100000 in
set_option maxHeartbeats 3200000 in
theorem xsealed_ok {w : World} {p : Option Addr} {n c : Nat} {xs : List Nat} (h : Rb w p n xs) (hn : n ≤ 59) :
    Calls Tryz.prog 199 #[.slice p n c] w fun e w' => ∃ v, e = .returned v ∧ Kp (fun _ => False) w w' ∧ Ow w' w.heap.size v (sealX xs) := by
  have hlen := h.len
  obtain ⟨w0, hw0⟩ : ∃ y, y = w.alloc (.cells #[] 5) := ⟨_, rfl⟩
  have HK0 : Hid (Kp (fun _ => False) w w0) := by rw [hw0]; exact (Kp.refl _ _).alloc _
  have HO0 : Hid (Ow w0 w.heap.size (.slice (some ⟨w.heap.size, 0, none⟩) 0 0) []) := by rw [hw0]; exact empty_own w
  have HR0 : Hid (Rb w0 p n xs) := h.keep0 HK0.out
  obtain ⟨m, hm⟩ : ∃ m : Nat, m = 59 - n := ⟨_, rfl⟩
  have hsub : wrap64 (59 - (n : Int)) = (m : Int) := by unfold wrap64; omega
  have hsub2 : (59 : Int) - (n : Int) = (m : Int) := by omega
  have HN : Hid (n = xs.length ∧ n ≤ 59 ∧ m = 59 - xs.length ∧ m + n = 59) := ⟨hlen.symm, hn, by omega, by omega⟩
  have HBy : Hid (∀ x ∈ xs, x < 256) := h.byte
  have hn9 : (n : Int) ≤ 59 := by omega
  clear h hlen hn hm
  go_enter Tryz.func199, Tryz.ntmps199
  go_upto_region 2 with (first
    | (at_builtin; rw [← hw0]; refine wpList_append_bytes w0 rfl _ _ rfl w.heap.size (.slice (some ⟨w.heap.size, 0, none⟩) 0 0) [] rfl HO0.out p n c xs rfl HR0.out (by have := HN.out; show 0 + n ≤ _; omega) HK0.out.size ?_; intro v1 w1 o1 k1 b1)
    | (at_builtin; refine wpList_append_zeros w1 w.heap.size rfl _ _ rfl v1 ([] ++ xs) rfl o1 m (by first | rfl | (simp [hsub, hsub2]; done)) (by have := HN.out; show xs.length + m ≤ _; omega) (Nat.le_trans HK0.out.size k1.size) ?_; intro v2 w2 o2 k2))
  obtain ⟨ys, hys⟩ : ∃ ys, ys = xs ++ List.replicate m 0 := ⟨_, rfl⟩
  have o2' : Ow w2 w.heap.size v2 ys := by rw [hys]; exact o2
  have HY : Hid (sealX xs = ys ++ big (Crc.sum ys) 4 ++ [167] ∧ ys.length = 59) := by
    have e : m = 59 - xs.length := HN.out.2.2.1
    refine ⟨?_, ?_⟩
    · unfold sealX
      rw [hys, e]
    · rw [hys, List.length_append, List.length_replicate]
      have := HN.out
      omega
  have hyb : ∀ x ∈ ys, x < 256 := fun x hx => by
    rw [hys] at hx
    rcases List.mem_append.1 hx with hx | hx
    · exact HBy.out x hx
    · rw [List.eq_of_mem_replicate hx]; omega
  have HK1 : Hid (Kp (fun _ => False) w w1) := HK0.out.trans k1 (fun b hb e => by have := (ownBlock_lt HO0.out e).1; omega)
  have HK2 : Hid (Kp (fun _ => False) w w2) := HK1.out.trans k2 (fun b hb e => by have := (ownBlock_lt o1 e).1; omega)
  obtain ⟨q2, c2, rfl, hc2, hr2, _⟩ := o2'.rb hyb
  have HO2 : Hid (Ow w2 w.heap.size (.slice q2 ys.length c2) ys) := o2'
  rw [HY.out.2] at hr2 HO2 ⊢
  have HSm : Hid (Calls _ _ _ w2 _) := refSum_any q2 59 c2 ys w2 hr2 (by omega)
  obtain ⟨cs, hcs⟩ : ∃ z, z = Crc.sum ys := ⟨_, rfl⟩
  have hc32 : cs < 2 ^ 32 := by rw [hcs]; exact Crc.sum_lt hyb
  have HBg : Hid (Calls _ _ _ w2 _) := big_any cs 4 w2 (by have : (2 : Nat) ^ 32 = 4294967296 := rfl; omega) (by omega)
  have HY2 : Hid (sealX xs = ys ++ big cs 4 ++ [167]) := by rw [hcs]; exact HY.out.1
  rw [← hcs] at HSm
  have hc33 : (cs : Int) < 4294967296 := by have : (2 : Nat) ^ 32 = 4294967296 := rfl; omega
  clear o1 k1 b1 o2 o2' k2 hys hyb hc2 hr2 hcs hc32 HO0 HR0 hw0 hsub hsub2
  go_wp2_with fail
  refine HSm.out.mono ?_
  rintro e9 w9 ⟨rfl, hw9⟩
  have hw8 := hw9.symm
  subst hw8
  clear hw9 HSm
  go_wp2_with fail
  refine HBg.out.mono ?_
  rintro e9 w3 ⟨rfl, k3, z3, o3⟩
  have HO3 : Hid (Ow w3 w.heap.size (.slice q2 59 c2) ys) := ownsRow_keep HO2.out k3 (fun _ _ e => e)
  obtain ⟨q4, c4, e4, hc4, hr4, _⟩ := o3.rb (big_byte cs 4)
  have hl4 : (big cs 4).length = 4 := big_length cs 4
  rw [hl4] at e4 hr4
  cases e4
  have HR4 : Hid (Rb w3 (some ⟨w2.heap.size, 0, none⟩) 4 (big cs 4)) := hr4
  have HK3 : Hid (Kp (fun _ => False) w w3) := HK2.out.trans k3 (fun _ _ e => e)
  clear k3 z3 o3 hc4 hr4 hl4 HBg HO2
  go_wp2_with (first
    | (at_builtin; refine wpList_append_bytes w3 rfl _ _ rfl w.heap.size (.slice q2 59 c2) ys rfl HO3.out (some ⟨w2.heap.size, 0, none⟩) 4 4 (big cs 4) rfl HR4.out (by have := HY.out.2; omega) HK3.out.size ?_; intro v5 w5 o5 k5 b5)
    | (at_builtin; refine wpList_append_bytes _ rfl _ _ rfl w.heap.size v5 (ys ++ big cs 4) rfl (ownsRow_keep o5 ((Kp.refl (fun _ => False) _).alloc _) (fun _ _ e => e)) (some ⟨w5.heap.size, 0, none⟩) 1 1 [167] rfl (rb_one w5 167 (by decide)) (by rw [List.length_append, big_length]; have := HY.out.2; omega) (by have h1 := HK3.out.size; have h2 := k5.size; simp; omega) ?_; intro v6 w6 o6 k6 b6))
  have HF : Hid (Kp (fun _ => False) w w6 ∧ Ow w6 w.heap.size v6 (sealX xs)) := by
    refine ⟨((HK3.out.trans k5 (fun b hb e => by have := (ownBlock_lt HO3.out e).1; omega)).trans ((Kp.refl (fun _ => False) _).alloc _) (fun _ _ e => e)).trans k6 (fun b hb e => by have := (ownBlock_lt o5 e).1; omega), ?_⟩
    rw [HY2.out]
    exact o6
  clear o5 k5 b5 o6 k6 b6
  go_wp2_with fail
  go_ret
  exact ⟨v6, rfl, HF.out⟩
end Go.Proofs.YtippipeebkkghaaGreatDoor
