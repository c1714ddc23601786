/- The reference's log: a head's bytes. -/
import Derived.Test.YtippipeebkkghaaGreatDoorVre
import Derived.Test.YtippipeebkkghaaGreatDoorVoc
namespace Go.Proofs.YtippipeebkkghaaGreatDoor
set_option linter.unusedVariables false
set_option linter.unusedSimpArgs false
open Go.RowKit Go.Deep

/-- a head's bytes, ahead of the sum -/
def hdX (ns : List Nat) : List Nat := 104 :: ns.flatMap (fun n => big n 8)
theorem hdX_len : ∀ ns : List Nat, (ns.flatMap (fun n => big n 8)).length = 8 * ns.length
  | [] => rfl
  | n :: l => by rw [List.flatMap_cons, List.length_append, big_length, hdX_len l, List.length_cons]; omega
theorem hdX_byte {ns : List Nat} : ∀ x ∈ hdX ns, x < 256 := fun x hx => by
  rcases List.mem_cons.1 hx with rfl | hx
  · decide
  · obtain ⟨n, _, hn⟩ := List.mem_flatMap.1 hx
    exact big_byte n 8 x hn
theorem sealX_len {xs : List Nat} (h : xs.length ≤ 59) : (sealX xs).length = 64 := by
  unfold sealX
  simp only [List.length_append, List.length_replicate, big_length, List.length_cons, List.length_nil]
  omega
theorem sealX_byte {xs : List Nat} (h : ∀ x ∈ xs, x < 256) : ∀ x ∈ sealX xs, x < 256 := fun x hx => by
  unfold sealX at hx
  rcases List.mem_append.1 hx with hx | hx
  · rcases List.mem_append.1 hx with hx | hx
    · rcases List.mem_append.1 hx with hx | hx
      · exact h x hx
      · rw [List.eq_of_mem_replicate hx]; omega
    · exact big_byte _ 4 x hx
  · rw [List.mem_singleton.1 hx]; decide

set_option maxRecDepth 100000 in
set_option maxHeartbeats 3200000 in
theorem xhbytes_ok (w : World) (a b c d : Nat) (hb : ∀ n ∈ [a, b, c, d], (n : Int) < 9223372036854775808) :
    Calls Tryz.prog 158 #[.agg #[.int .i64 (a : Int), .int .i64 (b : Int), .int .i64 (c : Int), .int .i64 (d : Int)]] w fun e w' => ∃ v, e = .returned v ∧ Kp (fun _ => False) w w' ∧ Ow w' w.heap.size v (sealX (hdX [a, b, c, d])) := by
  obtain ⟨h0, hh0⟩ : ∃ y, y = w.heap.size := ⟨_, rfl⟩
  obtain ⟨w0, hw0⟩ : ∃ y, y = w.alloc (.cells #[.int .i64 (a : Int), .int .i64 (b : Int), .int .i64 (c : Int), .int .i64 (d : Int)] 218) := ⟨_, rfl⟩
  have HK0 : Hid (Kp (fun _ => False) w w0) := by rw [hw0]; exact (Kp.refl _ _).alloc _
  have hl0 : Lv w0 h0 [.int .i64 (a : Int), .int .i64 (b : Int), .int .i64 (c : Int), .int .i64 (d : Int)] := by rw [hw0, hh0]; exact Lv.new _ _ _
  obtain ⟨h1, hh1⟩ : ∃ y, y = w0.heap.size := ⟨_, rfl⟩
  obtain ⟨w1, hw1⟩ : ∃ y, y = w0.alloc (.cells #[.int .u8 104] 5) := ⟨_, rfl⟩
  have k1 : Kp (fun _ => False) w0 w1 := by rw [hw1]; exact (Kp.refl _ _).alloc _
  have o1 : Ow w1 w0.heap.size (.slice (some ⟨h1, 0, none⟩) 1 1) [104] := by rw [hw1, hh1]; exact ow_one1 w0 104
  have hl1 := hl0.keep k1 id
  have c0 : w1.cell? ⟨h0, 0, none⟩ = some (.int .i64 (a : Int)) := hl1.cell (j := 0) rfl
  have c1 : w1.cell? ⟨h0, 1, none⟩ = some (.int .i64 (b : Int)) := hl1.cell (j := 1) rfl
  have c2 : w1.cell? ⟨h0, 2, none⟩ = some (.int .i64 (c : Int)) := hl1.cell (j := 2) rfl
  have c3 : w1.cell? ⟨h0, 3, none⟩ = some (.int .i64 (d : Int)) := hl1.cell (j := 3) rfl
  obtain ⟨h2, hh2⟩ : ∃ y, y = w1.heap.size := ⟨_, rfl⟩
  obtain ⟨w2, hw2⟩ : ∃ y, y = w1.alloc (.cells #[.int .i64 (a : Int), .int .i64 (b : Int), .int .i64 (c : Int), .int .i64 (d : Int)] 3) := ⟨_, rfl⟩
  have k2 : Kp (fun _ => False) w1 w2 := by rw [hw2]; exact (Kp.refl _ _).alloc _
  obtain ⟨ns, hns⟩ : ∃ ns, ns = [a, b, c, d] := ⟨_, rfl⟩
  have HLn : Hid (∀ j, j < 4 → w2.cell? ⟨h2, j, none⟩ = some (.int .i64 ((ns.getD j 0 : Nat) : Int)) ∧ ((ns.getD j 0 : Nat) : Int) < 9223372036854775808) := fun j hj => by
    have l2 : Lv w2 h2 [.int .i64 (a : Int), .int .i64 (b : Int), .int .i64 (c : Int), .int .i64 (d : Int)] := by rw [hw2, hh2]; exact Lv.new w1 _ _
    rw [hns]
    rcases (by omega : j = 0 ∨ j = 1 ∨ j = 2 ∨ j = 3) with rfl | rfl | rfl | rfl
    · exact ⟨l2.cell (j := 0) rfl, hb a (by simp)⟩
    · exact ⟨l2.cell (j := 1) rfl, hb b (by simp)⟩
    · exact ⟨l2.cell (j := 2) rfl, hb c (by simp)⟩
    · exact ⟨l2.cell (j := 3) rfl, hb d (by simp)⟩
  have HO2 : Hid (Ow w2 w0.heap.size (.slice (some ⟨h1, 0, none⟩) 1 1) [104]) := ownsRow_keep o1 k2 (fun _ _ e => e)
  have HK2 : Hid (Kp (fun _ => False) w0 w2) := k1.trans k2 (fun _ _ e => e)
  have HNe : Hid (¬ h2 = h1 ∧ h1 = w0.heap.size) := ⟨by have e : w1.heap.size = w0.heap.size + 1 := by rw [hw1]; simp
                                                        omega, hh1⟩
  have HNs : Hid (ns.length = 4 ∧ ns = [a, b, c, d]) := ⟨by rw [hns]; rfl, hns⟩
  clear hb hl0 hl1 k1 k2 o1 hns
  go_enter Tryz.func158, Tryz.ntmps158
  go_upto_region 1 with fail
  rw [← hw0, ← hh0]
  clear hw0 hh0
  go_upto_region 2 with fail
  rw [← hw1, ← hh1]
  clear hw1 hh1
  go_wp2_with fail
  rw [← hw2, ← hh2]
  clear c0 c1 c2 c3 hw2 hh2
  go_loopg [3, 17] 4 (fun gk bv iv wr => ∃ (j : Nat) (v1 : Value), j ≤ 4 ∧ gk = 4 - j ∧ bv = v1 ∧ iv = .int .i64 (j : Int) ∧ Hid (Kp (fun x => x = h1) w2 wr ∧ Ow wr w0.heap.size v1 (hdX (ns.take j)) ∧ ∀ x, v1.ownBlock = some x → x = h1 ∨ w2.heap.size ≤ x))
  case atStart => exact ⟨0, _, Nat.zero_le _, rfl, rfl, rfl, Kp.refl _ _, HO2.out, fun x hx => Or.inl (by injection hx with hx; exact hx.symm)⟩
  case round =>
    obtain ⟨j, v1, hj, rfl, hvv, rfl, HK⟩ := hrel
    have hv2 := hvv.symm
    subst hv2
    clear hvv
    by_cases hlt : j < 4
    · have hlt2 : (j : Int) < 4 := by omega
      obtain ⟨y0, hb9⟩ := HLn.out j hlt
      have y1 := HK.out.1.cellv y0 HNe.out.1
      obtain ⟨z, hz⟩ : ∃ z, z = ns.getD j 0 := ⟨_, rfl⟩
      rw [← hz] at y1 hb9
      have HTk : Hid (hdX (ns.take (j + 1)) = hdX (ns.take j) ++ big z 8) := by
        show _ = _
        have e : ns.take (j + 1) = ns.take j ++ [z] := by
          rw [List.take_add_one, hz, List.getD_eq_getElem?_getD, List.getElem?_eq_getElem (by have := HNs.out.1; omega)]
          rfl
        unfold hdX
        rw [e, List.flatMap_append]
        simp
      have HBg : Hid (Calls _ _ _ wr _) := big_any z 8 wr hb9 (by omega)
      have hw1 : wrap64 ((j : Int) + 1) = ((j + 1 : Nat) : Int) := by unfold wrap64; omega
      have HJ : Hid (j < 4) := hlt
      have HLj : Hid ((hdX (ns.take j)).length ≤ 1000) := by
        show (_ :: _).length ≤ _
        rw [List.length_cons, hdX_len, List.length_take]
        omega
      clear y0 hz hlt hb9
      go_wp2_with fail
      refine HBg.out.mono ?_
      rintro e9 w3 ⟨rfl, k3, z3, o3⟩
      obtain ⟨q4, c4, e4, hc4, hr4, _⟩ := o3.rb (big_byte z 8)
      rw [big_length] at e4 hr4
      cases e4
      have HR4 : Hid (Rb w3 (some ⟨wr.heap.size, 0, none⟩) 8 (big z 8)) := hr4
      have HO3 : Hid (Ow w3 w0.heap.size v1 (hdX (ns.take j))) := ownsRow_keep HK.out.2.1 k3 (fun _ _ e => e)
      have HK3 : Hid (Kp (fun x => x = h1) w2 w3 ∧ w0.heap.size ≤ w3.heap.size ∧ (∀ x, v1.ownBlock = some x → x = h1 ∨ w2.heap.size ≤ x) ∧ w2.heap.size ≤ w3.heap.size) := ⟨HK.out.1.trans k3 (fun _ _ e => e.elim), by have h1 := HK2.out.size; have h2 := HK.out.1.size; have h3 := k3.size; omega, HK.out.2.2, Nat.le_trans HK.out.1.size k3.size⟩
      clear k3 z3 o3 hc4 hr4 HBg HK y1
      go_wp2_with (at_builtin; refine wpList_append_bytes w3 rfl _ _ rfl w0.heap.size v1 (hdX (ns.take j)) rfl HO3.out (some ⟨wr.heap.size, 0, none⟩) 8 8 (big z 8) rfl HR4.out (by have := HLj.out; omega) HK3.out.2.1 ?_; intro v5 w5 o5 k5 b5)
      have HF5 : Hid (Kp (fun x => x = h1) w2 w5 ∧ Ow w5 w0.heap.size v5 (hdX (ns.take (j + 1))) ∧ ∀ x, v5.ownBlock = some x → x = h1 ∨ w2.heap.size ≤ x) := ⟨HK3.out.1.trans k5 (fun x hx e => by
        rcases HK3.out.2.2.1 x e with e2 | e2
        · exact e2
        · omega), by rw [HTk.out]; exact o5, fun x hx => by
        rcases b5 with e2 | e2
        · exact HK3.out.2.2.1 x (e2.symm.trans hx)
        · rw [e2] at hx
          injection hx with hx
          have := HK3.out.2.2.2
          omega⟩
      clear o5 k5 b5 HO3 HK3 HR4
      go_roundg (4 - (j + 1))
      case rel => exact ⟨j + 1, v5, HJ.out, rfl, rfl, by first | rw [hw1] | simp, HF5.out⟩
      case measure => exact Nat.sub_lt_sub_left HJ.out (Nat.lt_succ_self j)
    · have hj4 : j = 4 := by omega
      subst hj4
      have ht : ns.take 4 = [a, b, c, d] := by rw [HNs.out.2]; rfl
      have ov : Ow wr w0.heap.size v1 (hdX [a, b, c, d]) := by have := HK.out.2.1; rw [ht] at this; exact this
      have hl : (hdX [a, b, c, d]).length = 33 := by show (_ :: _).length = 33; rw [List.length_cons, hdX_len]; rfl
      obtain ⟨q9, c9, rfl, _, hr9, _⟩ := ov.rb (hdX_byte)
      rw [hl] at hr9
      have HSe : Hid (Calls _ _ _ wr _) := xsealed_ok (c := c9) hr9 (by omega)
      have HKw : Hid (Kp (fun _ => False) w wr) := HK0.out.trans (HK2.out.trans HK.out.1 (fun x hx e => by have e' : x = h1 := e; have := HNe.out.2; omega)) (fun _ _ e => e)
      have hlt2 : ¬ ((4 : Int) < 4) := by omega
      rw [hl]
      clear ht ov hr9 HK hlt
      go_wp2_with fail
      refine HSe.out.mono ?_
      rintro e9 w5 ⟨v5, rfl, k5, o5⟩
      have HF : Hid (Kp (fun _ => False) w w5 ∧ Ow w5 w.heap.size v5 (sealX (hdX [a, b, c, d]))) := ⟨HKw.out.trans k5 (fun _ _ e => e), ownsRow_base o5 HKw.out.size⟩
      clear k5 o5 HSe
      go_wp2_with fail
      go_ret
      exact ⟨v5, rfl, HF.out⟩
end Go.Proofs.YtippipeebkkghaaGreatDoor
