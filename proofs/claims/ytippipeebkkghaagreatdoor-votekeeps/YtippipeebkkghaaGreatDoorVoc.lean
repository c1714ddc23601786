/- Ranks: below, written, readRank. -/
import Derived.Test.YtippipeebkkghaaGreatDoorNk2
namespace Go.Proofs.YtippipeebkkghaaGreatDoor
set_option linter.unusedVariables false
set_option linter.unusedSimpArgs false
open Go.RowKit Go.Deep

set_option maxRecDepth 100000 in
theorem vmade_ok {w : World} {ac sh : Nat} (h : w.cell? ⟨ac, 0, none⟩ = some (.pointer (some ⟨sh, 0, none⟩))) :
    Calls Tryz.prog 36 #[.pointer (some ⟨ac, 0, none⟩)] w fun e w' => e = .returned (.bool true) ∧ w' = w := by
  go_enter Tryz.func36, Tryz.ntmps36
  go_wp2
  go_ret
  exact ⟨rfl, rfl⟩

set_option maxRecDepth 100000 in
theorem vasked_ok {w : World} {ac sh : Nat} (h : w.cell? ⟨ac, 0, none⟩ = some (.pointer (some ⟨sh, 0, none⟩))) (x y : Nat) (hx : 1 ≤ x ∧ x ≤ 20) (hy : 1 ≤ y ∧ y ≤ 20) :
    Calls Tryz.prog 17 #[.pointer (some ⟨ac, 0, none⟩), .int .i64 (x : Int), .int .i64 (y : Int)] w fun e w' => e = .returned (.int .i64 0) ∧ w' = w := by
  have HM : Hid (Calls _ _ _ w _) := vmade_ok h
  have h1 : ¬ ((x : Int) < 1) := by omega
  have h2 : ¬ ((1152921504606846976 : Int) < (x : Int)) := by omega
  have h3 : ¬ ((y : Int) < 1) := by omega
  have h4 : ¬ ((1152921504606846976 : Int) < (y : Int)) := by omega
  clear h hx hy
  go_enter Tryz.func17, Tryz.ntmps17
  go_wp2_with fail
  refine HM.out.mono ?_
  rintro e9 w9 ⟨rfl, hw9⟩
  have hw8 := hw9.symm
  subst hw8
  clear hw9 HM
  go_wp2
  go_ret
  exact ⟨rfl, rfl⟩

set_option maxRecDepth 100000 in
theorem below_ok (x y : Int) (w : World) :
    Calls Tryz.prog 18 #[.agg #[.int .i64 x], .agg #[.int .i64 y]] w fun e w' => e = .returned (.bool (decide (x < y))) ∧ Kp (fun _ => False) w w' := by
  have HK : Hid (Kp (fun _ => False) w ((w.alloc (.cells #[.int .i64 x] 68)).alloc (.cells #[.int .i64 y] 68))) := ((Kp.refl _ _).alloc _).alloc _
  go_enter Tryz.func18, Tryz.ntmps18
  go_wp2
  go_ret
  exact ⟨rfl, HK.out⟩

theorem ow_one1 (w : World) (x : Nat) : Ow (w.alloc (.cells #[.int .u8 (x : Int)] 5)) w.heap.size (.slice (some ⟨w.heap.size, 0, none⟩) 1 1) [x] := ⟨rfl, .inr ⟨w.heap.size, 1, #[.int .u8 (x : Int)], rfl, Nat.le_refl _, heap_alloc_new w _, Nat.le_refl _, by unfold maxLen; omega, rfl, rfl⟩⟩

set_option maxRecDepth 100000 in
set_option maxHeartbeats 3200000 in
theorem vwritten_ok (x : Nat) (hx : x < 9223372036854775808) (w : World) :
    Calls Tryz.prog 24 #[.agg #[.int .i64 (x : Int)]] w fun e w' => ∃ v, e = .returned v ∧ Kp (fun _ => False) w w' ∧ Ow w' w.heap.size v (numB x) := by
  obtain ⟨h0, hh0⟩ : ∃ y, y = w.heap.size := ⟨_, rfl⟩
  obtain ⟨w0, hw0⟩ : ∃ y, y = w.alloc (.cells #[.int .i64 (x : Int)] 68) := ⟨_, rfl⟩
  have HK0 : Hid (Kp (fun _ => False) w w0) := by rw [hw0]; exact (Kp.refl _ _).alloc _
  have HL0 : Hid (Lv w0 h0 [.int .i64 (x : Int)]) := by rw [hw0, hh0]; exact Lv.new _ _ _
  have HC1 : Hid (Calls _ _ _ w0 _) := len64_ok x (by omega) w0
  have hx9' : (x : Int) < 9223372036854775808 := by omega
  have HX : Hid (x < 9223372036854775808) := hx
  have c0 : w0.cell? ⟨h0, 0, none⟩ = some (.int .i64 (x : Int)) := HL0.out.cell (j := 0) rfl
  clear hx
  go_enter Tryz.func24, Tryz.ntmps24
  go_upto_region 1 with fail
  rw [← hw0, ← hh0]
  clear hw0 hh0
  go_upto_region 2 with (go_at_call 52; refine HC1.out.mono ?_; rintro e9 w9 ⟨rfl, hw9⟩; have hw8 := hw9.symm; subst hw8; clear hw9)
  obtain ⟨W, hW⟩ : ∃ W, W = numW x := ⟨_, rfl⟩
  have hW8 : W ≤ 8 := by rw [hW]; exact numW8 HX.out
  have HW : Hid (W = numW x) := hW
  have HWd : Hid (wrap64 ((wrap64 ((blen x : Int) + 7)).tdiv 8) = (W : Int)) := by
    show _ = _
    have h1 := blen_numW x
    have h2 : blen x ≤ 64 := blen_le (show x < 2 ^ 64 by have : (2 : Nat) ^ 64 = 18446744073709551616 := rfl; have := HX.out; omega)
    have h3 : wrap64 ((blen x : Int) + 7) = (blen x : Int) + 7 := wrap_small (by omega)
    rw [h3, Int.tdiv_eq_ediv_of_nonneg (by omega), wrap_small (by omega)]
    omega
  rw [HWd.out]
  have hW8' : (W : Int) ≤ 8 := by omega
  obtain ⟨w1, hw1⟩ : ∃ y, y = w0.alloc (.cells #[.int .u8 (W : Int)] 5) := ⟨_, rfl⟩
  have HO1 : Hid (Ow w1 w0.heap.size (.slice (some ⟨w0.heap.size, 0, none⟩) 1 1) [W]) := by rw [hw1]; exact ow_one1 w0 W
  have HK1 : Hid (Kp (fun _ => False) w0 w1) := by rw [hw1]; exact (Kp.refl _ _).alloc _
  obtain ⟨v1, hv1⟩ : ∃ v, v = (.slice (some ⟨w0.heap.size, 0, none⟩) 1 1 : Value) := ⟨_, rfl⟩
  rw [← hv1] at HO1
  clear HC1 hW
  go_upto_region 4 with fail
  rw [← hw1, ← hv1]
  clear hw1 hv1 c0
  go_loopg [4, 5] W (fun gk bv lv wz => ∃ (j : Nat) (v3 : Value), j ≤ W ∧ gk = W - j ∧ lv = .int .i64 ((W : Int) - 1 - j) ∧ v3 = bv ∧ Hid (Kp (fun _ => False) w0 wz ∧ Ow wz w0.heap.size v3 (W :: (digs W x).take j)))
  case atStart => exact ⟨0, v1, Nat.zero_le _, rfl, by first | rfl | (congr 1; omega) | go_num, rfl, HK1.out, HO1.out⟩
  case round =>
    obtain ⟨j, v3, hj, rfl, rfl, rfl, HA3⟩ := hrel
    by_cases hjw : j < W
    · obtain ⟨L, hL⟩ : ∃ L : Nat, (W : Int) - 1 - j = (L : Int) := ⟨W - 1 - j, by omega⟩
      rw [hL]
      have hL8 : (L : Int) ≤ 7 := by omega
      have hL0 : ¬ (L : Int) < 0 := by omega
      have c1 : wr.cell? ⟨h0, 0, none⟩ = some (.int .i64 (x : Int)) := (HL0.out.keep HA3.out.1 id).cell (j := 0) rfl
      obtain ⟨d, hd⟩ : ∃ d : Nat, d = x / 256 ^ L % 256 := ⟨_, rfl⟩
      have HD : Hid ((x : Int) / 2 ^ (8 * L) % 256 = (d : Int)) := by
        show _ = _
        rw [hd, show (256 : Nat) ^ L = 2 ^ (8 * L) by rw [show (256 : Nat) = 2 ^ 8 from rfl, ← Nat.pow_mul]]
        rw [Int.natCast_emod, Int.natCast_ediv, Int.natCast_pow]
        rfl
      have HDg : Hid ((digs W x).take (j + 1) = (digs W x).take j ++ [d]) := by
        show _ = _
        have : W - 1 - j = L := by omega
        rw [List.take_add_one, digs_get W x j hjw, this, hd]
        rfl
      have HD9 : Hid (d < 256) := by rw [hd]; exact Nat.mod_lt _ (by decide)
      have HLt : Hid ((W :: (digs W x).take j).length ≤ 1000000000) := by
        show _ ≤ _
        rw [List.length_cons, List.length_take, digs_len]
        omega
      have HBt : Hid (w0.heap.size ≤ wr.heap.size) := HA3.out.1.size
      clear hd
      go_wp2_with (at_builtin; rw [HD.out]; refine wpList_append_bytes _ rfl _ _ rfl w0.heap.size v3 (W :: (digs W x).take j) rfl (HA3.out.2.alloc _) (some ⟨wr.heap.size, 0, none⟩) 1 1 [d] rfl (rb_one wr d HD9.out) (by have := HLt.out; omega) (by have := HBt.out; simp; omega) ?_; intro v4 w4 ho4 k4 hb4)
      have HA4 : Hid (Kp (fun _ => False) w0 w4 ∧ Ow w4 w0.heap.size v4 (W :: (digs W x).take j ++ [d])) := ⟨(HA3.out.1.trans ((Kp.refl (fun _ => False) _).alloc _) (fun _ _ e => e)).trans k4 (fun b hb e => by have := (ownBlock_lt HA3.out.2 e).1; omega), ho4⟩
      clear ho4 k4 hb4
      go_roundg (W - (j + 1))
      case rel =>
        refine ⟨j + 1, v4, by omega, rfl, by first | rfl | (congr 1; omega), rfl, HA4.out.1, ?_⟩
        rw [HDg.out]
        exact HA4.out.2
      case measure => omega
    · have hjw2 : j = W := by omega
      subst hjw2
      have HA5 : Hid (Kp (fun _ => False) w wr ∧ Ow wr w.heap.size v3 (numB x)) := by
        refine ⟨HK0.out.trans HA3.out.1 (fun _ _ e => e), ?_⟩
        have := HA3.out.2
        have ht : (digs j x).take j = digs j x := List.take_of_length_le (by rw [digs_len]; exact Nat.le_refl _)
        rw [ht] at this
        have h9 := ownsRow_base this HK0.out.size
        show Ow wr w.heap.size v3 (numW x :: digs (numW x) x)
        rw [← HW.out]
        exact h9
      have hneg2 : ((j : Int) - 1 - j) = -1 := by omega
      rw [hneg2]
      clear HA3
      go_wp2_with fail
      go_ret
      exact ⟨v3, rfl, HA5.out⟩
end Go.Proofs.YtippipeebkkghaaGreatDoor
