/- A shelf's numbers: areNumbers, appendNumber. -/
import Derived.Test.YtippipeebkkghaaGreatDoorIb
import Derived.Test.YtippipeebkkghaaGreatDoorNg0
import Derived.Test.YtippipeebkkghaaGreatDoorPc
namespace Go.Proofs.YtippipeebkkghaaGreatDoor
set_option linter.unusedVariables false
set_option linter.unusedSimpArgs false
open Go.RowKit Go.Deep

set_option maxRecDepth 100000 in
set_option maxHeartbeats 1600000 in
theorem areNumbers_ok (q : Option Addr) (n c : Nat) (zs : List Int) (w : World) (h : Rz w q zs) (hn : n = zs.length) (hn9 : n ≤ 1000000000) :
    Calls Tryz.prog 80 #[.slice q n c] w fun e w' => e = .returned (.bool (upTo 1152921504606846976 zs)) ∧ w' = w := by
  obtain ⟨most, hmost⟩ : ∃ m : Int, m = 1152921504606846976 := ⟨_, rfl⟩
  rw [← hmost]
  have HMo : Hid (most = 1152921504606846976) := hmost
  have HF : Hid (Rz w q zs) := h
  have HN : Hid (n = zs.length ∧ n ≤ 1000000000) := ⟨hn, hn9⟩
  have hn9' : (n : Int) ≤ 1000000000 := by omega
  clear h hn hn9 hmost
  go_enter Tryz.func80, Tryz.ntmps80
  go_wp2_with fail
  go_loopg [7] n (fun gk iv wz => ∃ k : Nat, k ≤ n ∧ gk = n - k ∧ iv = .int .i64 k ∧ w = wz ∧ Hid (∀ (i : Nat) (z : Int), i < k → zs[i]? = some z → 0 ≤ z ∧ z ≤ most))
  case atStart => exact ⟨0, Nat.zero_le _, rfl, rfl, rfl, fun i z hi => absurd hi (Nat.not_lt_zero _)⟩
  case round =>
    obtain ⟨k, hk, rfl, rfl, rfl, HT⟩ := hrel
    by_cases hlt : (k : Int) < (n : Int)
    · have hkl : k < zs.length := by have := HN.out; omega
      obtain ⟨z, hz⟩ : ∃ z, zs[k]? = some z := ⟨_, List.getElem?_eq_getElem hkl⟩
      obtain ⟨b, o, rfl, hc⟩ := HF.out k hkl
      have hc' : w.cell? ⟨b, o + k, none⟩ = some (.int .i64 z) := by rw [hc, List.getD_eq_getElem?_getD, hz]; rfl
      have HZ : Hid (zs[k]? = some z) := hz
      have HKi : Hid (wrap64 ((k : Int) + 1) = ((k + 1 : Nat) : Int)) := wrapK9 (by have := HN.out; omega)
      clear hc hz hkl
      by_cases h0 : z < 0
      · have HR : Hid (upTo most zs = false) := by
          show _ = _
          cases q : upTo most zs with
          | false => rfl
          | true => have := upTo_at.1 q k z HZ.out; omega
        go_wp2_with fail
        go_ret
        exact ⟨by rw [HR.out]; rfl, rfl⟩
      · by_cases hm : most < z
        · have HR : Hid (upTo most zs = false) := by
            show _ = _
            cases q : upTo most zs with
            | false => rfl
            | true => have := upTo_at.1 q k z HZ.out; omega
          have hm2 : decide ((1152921504606846976 : Int) < z) = true := decide_eq_true (by have := HMo.out; omega)
          clear hm
          go_wp2_with fail
          go_ret
          exact ⟨by rw [HR.out]; rfl, rfl⟩
        · have HO : Hid (0 ≤ z ∧ z ≤ most) := ⟨by omega, by omega⟩
          have hm2 : decide ((1152921504606846976 : Int) < z) = false := decide_eq_false (by have := HMo.out; omega)
          clear hm
          go_wp2_with fail
          go_roundg (n - (k + 1))
          case rel =>
            refine ⟨k + 1, by omega, rfl, by first | rw [HKi.out] | rfl | go_num, rfl, fun i y hi hy => ?_⟩
            by_cases e : i = k
            · subst e
              rw [HZ.out] at hy
              cases hy
              exact HO.out
            · exact HT.out i y (by omega) hy
          case measure => omega
    · have HR : Hid (upTo most zs = true) := upTo_at.2 (fun i z hz => HT.out i z (by have := HN.out; have := (List.getElem?_eq_some_iff.1 hz).1; omega) hz)
      go_wp2_with fail
      go_ret
      exact ⟨by rw [HR.out]; rfl, rfl⟩

set_option maxRecDepth 100000 in
set_option maxHeartbeats 3200000 in
theorem appNum_ok (base : Nat) (v : Value) (xs : List Nat) (x : Nat) (w : World) (ho : Ow w base v xs) (hb : base ≤ w.heap.size) (hx9 : x < 9223372036854775808) (hl : xs.length ≤ 1000000) :
    Calls Tryz.prog 129 #[v, .int .i64 (x : Int)] w fun e w' => ∃ v', e = .returned v' ∧ Ap w w' base v v' (xs ++ numB x) := by
  have HN : Hid (xs.length ≤ 1000000 ∧ base ≤ w.heap.size) := ⟨hl, hb⟩
  have HO : Hid (Ow w base v xs) := ho
  have HX : Hid (x < 9223372036854775808) := hx9
  have hx9' : (x : Int) < 9223372036854775808 := by omega
  have HC1 : Hid (Calls _ _ _ w _) := len64_ok x (by omega) w
  clear hl hb ho hx9
  go_enter Tryz.func129, Tryz.ntmps129
  go_upto_region 2 with (go_at_call 52; refine HC1.out.mono ?_; rintro e9 w9 ⟨rfl, hw9⟩; have hw8 := hw9.symm; subst hw8; clear hw9)
  obtain ⟨W, hW⟩ : ∃ W, W = numW x := ⟨_, rfl⟩
  have hW8 : W ≤ 8 := by rw [hW]; exact numW8 HX.out
  have HW : Hid (W = numW x) := hW
  have HWd : Hid (wrap64 ((wrap64 ((blen x : Int) + 7)).tdiv 8) = (W : Int)) := by
    show _ = _
    have h1 := blen_numW x
    have h2 : blen x ≤ 64 := blen_le (show x < 2 ^ 64 by have : (2 : Nat) ^ 64 = 18446744073709551616 := rfl; have := HX.out; omega)
    have h3 : wrap64 ((blen x : Int) + 7) = (blen x : Int) + 7 := wrap_small (by omega)
    rw [h3, Int.tdiv_eq_ediv_of_nonneg (by omega), wrap_small (by omega)]
    omega
  rw [HWd.out]
  have hW8' : (W : Int) ≤ 8 := by omega
  clear hW
  have o1 : xs.length + 1 ≤ 140737488355328 := by have := HN.out; omega
  have o2 : base ≤ (w.alloc (.cells #[.int .u8 (W : Int)] 5)).heap.size := by have := HN.out; simp; omega
  go_upto_region 3 with (at_builtin; refine wpList_append_bytes _ rfl _ _ rfl base v xs rfl (HO.out.alloc _) (some ⟨w.heap.size, 0, none⟩) 1 1 [W] rfl (rb_one w W (by omega)) o1 o2 ?_; intro v2 w2 ho2 k2 hb2)
  have HA2 : Hid (Ap w w2 base v v2 (xs ++ [W])) := (Ap.refl HO.out).one _ ho2 k2 hb2
  clear ho2 k2 hb2 o1 o2
  go_wp2_with fail
  go_loopg [0, 6] W (fun gk bv lv wz => ∃ (j : Nat) (v3 : Value), j ≤ W ∧ gk = W - j ∧ lv = .int .i64 ((W : Int) - 1 - j) ∧ v3 = bv ∧ Hid (Ap w wz base v v3 (xs ++ (W :: (digs W x).take j))))
  case atStart => exact ⟨0, v2, Nat.zero_le _, rfl, by first | rfl | (congr 1; omega) | go_num, rfl, HA2.out⟩
  case round =>
    obtain ⟨j, v3, hj, rfl, rfl, rfl, HA3⟩ := hrel
    by_cases hjw : j < W
    · obtain ⟨L, hL⟩ : ∃ L : Nat, (W : Int) - 1 - j = (L : Int) := ⟨W - 1 - j, by omega⟩
      rw [hL]
      have hL8 : (L : Int) ≤ 7 := by omega
      have hL0 : ¬ (L : Int) < 0 := by omega
      obtain ⟨d, hd⟩ : ∃ d : Nat, d = x / 256 ^ L % 256 := ⟨_, rfl⟩
      have HD : Hid ((x : Int) / 2 ^ (8 * L) % 256 = (d : Int)) := by
        show _ = _
        rw [hd, show (256 : Nat) ^ L = 2 ^ (8 * L) by rw [show (256 : Nat) = 2 ^ 8 from rfl, ← Nat.pow_mul]]
        rw [Int.natCast_emod, Int.natCast_ediv, Int.natCast_pow]
        rfl
      have HDg : Hid ((digs W x).take (j + 1) = (digs W x).take j ++ [d]) := by
        show _ = _
        have : W - 1 - j = L := by omega
        rw [List.take_add_one, digs_get W x j hjw, this, hd]
        rfl
      have HD9 : Hid (d < 256) := by rw [hd]; exact Nat.mod_lt _ (by decide)
      have HLt : Hid ((xs ++ (W :: (digs W x).take j)).length ≤ 1000000000) := by
        show _ ≤ _
        have := HN.out
        rw [List.length_append, List.length_cons, List.length_take, digs_len]
        omega
      have HBt : Hid (base ≤ wr.heap.size) := Nat.le_trans HN.out.2 HA3.out.k.size
      clear hd
      go_wp2_with (at_builtin; rw [HD.out]; refine wpList_append_bytes _ rfl _ _ rfl base v3 (xs ++ (W :: (digs W x).take j)) rfl (HA3.out.o.alloc _) (some ⟨wr.heap.size, 0, none⟩) 1 1 [d] rfl (rb_one wr d HD9.out) (by have := HLt.out; omega) (by have := HBt.out; simp; omega) ?_; intro v4 w4 ho4 k4 hb4)
      have HA4 : Hid (Ap w w4 base v v4 (xs ++ (W :: (digs W x).take j) ++ [d])) := HA3.out.one _ ho4 k4 hb4
      clear ho4 k4 hb4
      go_roundg (W - (j + 1))
      case rel =>
        refine ⟨j + 1, v4, by omega, rfl, by first | rfl | (congr 1; omega), rfl, ?_⟩
        show Ap _ _ _ _ _ _
        rw [HDg.out]
        have := HA4.out
        rw [List.append_assoc] at this
        exact this
      case measure => omega
    · have hjw2 : j = W := by omega
      subst hjw2
      have HA5 : Hid (Ap w wr base v v3 (xs ++ numB x)) := by
        show Ap _ _ _ _ _ _
        have := HA3.out
        have ht : (digs j x).take j = digs j x := List.take_of_length_le (by rw [digs_len]; exact Nat.le_refl _)
        rw [ht] at this
        show Ap _ _ _ _ _ (_ ++ (numW x :: digs (numW x) x))
        rw [← HW.out]
        exact this
      have hneg : ((j : Int) - 1 - j) < 0 := by omega
      have hneg2 : ((j : Int) - 1 - j) = -1 := by omega
      rw [hneg2]
      go_wp2_with fail
      go_ret
      exact ⟨v3, rfl, HA5.out⟩
end Go.Proofs.YtippipeebkkghaaGreatDoor
