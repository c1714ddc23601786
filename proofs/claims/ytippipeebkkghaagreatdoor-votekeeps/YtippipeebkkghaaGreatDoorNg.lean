/- frame.appendNumbers. -/
import Derived.Test.YtippipeebkkghaaGreatDoorNg0
namespace Go.Proofs.YtippipeebkkghaaGreatDoor
set_option linter.unusedVariables false
set_option linter.unusedSimpArgs false
open Go.RowKit Go.Deep

set_option maxRecDepth 100000 in
set_option maxHeartbeats 3200000 in
theorem appN_ok (Z : Nat → Prop) (base : Nat) (v : Value) (xs ns : List Nat) (q : Option Addr) (n c : Nat) (w : World) (ho : Ow w base v xs) (hb : base ≤ w.heap.size) (hf : Fl w Z q (ns.map (fun x : Nat => Value.int .i64 (x : Int)))) (hZ : ∀ b, Z b → v.ownBlock ≠ some b ∧ b < w.heap.size) (hn : n = ns.length) (hs : ∀ x ∈ ns, x < 9223372036854775808) (hl : xs.length + 9 * ns.length ≤ 1000000000) :
    Calls Tryz.prog 79 #[v, .slice q n c] w fun e w' => ∃ v', e = .returned v' ∧ Ap w w' base v v' (xs ++ numsB ns) := by
  have HF : Hid (Fl w Z q (ns.map (fun x : Nat => Value.int .i64 (x : Int)))) := hf
  have HZ : Hid (∀ b, Z b → v.ownBlock ≠ some b ∧ b < w.heap.size) := hZ
  have HN : Hid (n = ns.length ∧ xs.length + 9 * ns.length ≤ 1000000000 ∧ base ≤ w.heap.size) := ⟨hn, hl, hb⟩
  have HS : Hid (∀ x ∈ ns, x < 9223372036854775808) := hs
  have HO : Hid (Ow w base v xs) := ho
  have hn9' : (n : Int) ≤ 1000000000 := by omega
  have HLn : Hid (∀ x, x < 18446744073709551616 → ∀ u, Calls _ _ _ u _) := fun x hx u => len64_ok x hx u
  clear hf hZ hn hs hl hb ho
  go_enter Tryz.func79, Tryz.ntmps79
  go_wp2_with fail
  go_loopg [0, 11] n (fun gk bv iv wz => ∃ (k : Nat) (v1 : Value), k ≤ n ∧ gk = n - k ∧ iv = .int .i64 k ∧ v1 = bv ∧ Hid (Ap w wz base v v1 (xs ++ numsB (ns.take k))))
  case atStart => exact ⟨0, v, Nat.zero_le _, rfl, rfl, rfl, by rw [List.take_zero]; show Ap _ _ _ _ _ (xs ++ []); rw [List.append_nil]; exact Ap.refl HO.out⟩
  case round =>
    obtain ⟨k, v1, hk, rfl, rfl, rfl, HA⟩ := hrel
    by_cases hlt : (k : Int) < (n : Int)
    · have hkl : k < ns.length := by have := HN.out; omega
      obtain ⟨x, hx⟩ : ∃ x, ns[k]? = some x := ⟨_, List.getElem?_eq_getElem hkl⟩
      have hx9 : x < 9223372036854775808 := HS.out x (List.mem_of_getElem? hx)
      obtain ⟨b, o, rfl, hzb, hc⟩ := HF.out k (.int .i64 (x : Int)) (by rw [List.getElem?_map, hx]; rfl)
      have hc' : wr.cell? ⟨b, o + k, none⟩ = some (.int .i64 (x : Int)) := HA.out.k.cellv hc (HZ.out b hzb).1
      have HX : Hid (ns[k]? = some x) := hx
      have HKi : Hid (wrap64 ((k : Int) + 1) = ((k + 1 : Nat) : Int)) := wrapK9 (by have := HN.out; omega)
      have hx9' : (x : Int) < 9223372036854775808 := by omega
      have HC1 : Hid (Calls _ _ _ wr _) := HLn.out x (by omega) wr
      clear hc hx hkl hzb
      go_upto_region 5 with (go_at_call 52; refine HC1.out.mono ?_; rintro e9 w9 ⟨rfl, hw9⟩; have hw8 := hw9.symm; subst hw8; clear hw9)
      obtain ⟨W, hW⟩ : ∃ W, W = numW x := ⟨_, rfl⟩
      have hW8 : W ≤ 8 := by rw [hW]; exact numW8 hx9
      have HW : Hid (W = numW x) := hW
      have HWd : Hid (wrap64 ((wrap64 ((blen x : Int) + 7)).tdiv 8) = (W : Int)) := by
        show _ = _
        have h1 := blen_numW x
        have h2 : blen x ≤ 64 := blen_le (show x < 2 ^ 64 by have : (2 : Nat) ^ 64 = 18446744073709551616 := rfl; omega)
        have h3 : wrap64 ((blen x : Int) + 7) = (blen x : Int) + 7 := wrap_small (by omega)
        rw [h3, Int.tdiv_eq_ediv_of_nonneg (by omega), wrap_small (by omega)]
        omega
      rw [HWd.out]
      have hW8' : (W : Int) ≤ 8 := by omega
      have HLe : Hid ((xs ++ numsB (ns.take k)).length ≤ 1000000000 - 9) := by
        show _ ≤ _
        have h1 := numsB_len (ns.take k) (fun y hy => HS.out y (List.mem_of_mem_take hy))
        rw [List.length_take] at h1
        rw [List.length_append]
        have := HN.out
        omega
      have HBs : Hid (base ≤ wr.heap.size) := Nat.le_trans HN.out.2.2 HA.out.k.size
      clear hW hc'
      go_wp2_with (at_builtin; refine wpList_append_bytes _ rfl _ _ rfl base v1 (xs ++ numsB (ns.take k)) rfl (HA.out.o.alloc _) (some ⟨wr.heap.size, 0, none⟩) 1 1 [W] rfl (rb_one wr W (by omega)) (by have := HLe.out; omega) (by have := HBs.out; simp; omega) ?_; intro v2 w2 ho2 k2 hb2)
      have HA2 : Hid (Ap w w2 base v v2 (xs ++ numsB (ns.take k) ++ [W])) := HA.out.one _ ho2 k2 hb2
      clear ho2 k2 hb2
      go_loopg [0, 8] W (fun gk bv lv wz => ∃ (j : Nat) (v3 : Value), j ≤ W ∧ gk = W - j ∧ lv = .int .i64 ((W : Int) - 1 - j) ∧ v3 = bv ∧ Hid (Ap w wz base v v3 (xs ++ numsB (ns.take k) ++ (W :: (digs W x).take j))))
      case atStart => exact ⟨0, v2, Nat.zero_le _, rfl, by first | rfl | (congr 1; omega) | go_num, rfl, HA2.out⟩
      case round =>
        obtain ⟨j, v3, hj, rfl, rfl, rfl, HA3⟩ := hrel
        by_cases hjw : j < W
        · obtain ⟨L, hL⟩ : ∃ L : Nat, (W : Int) - 1 - j = (L : Int) := ⟨W - 1 - j, by omega⟩
          rw [hL]
          have hL8 : (L : Int) ≤ 7 := by omega
          have hL0 : ¬ (L : Int) < 0 := by omega
          obtain ⟨d, hd⟩ : ∃ d : Nat, d = x / 256 ^ L % 256 := ⟨_, rfl⟩
          have HD : Hid ((x : Int) / 2 ^ (8 * L) % 256 = (d : Int)) := by
            show _ = _
            rw [hd, show (256 : Nat) ^ L = 2 ^ (8 * L) by rw [show (256 : Nat) = 2 ^ 8 from rfl, ← Nat.pow_mul]]
            rw [Int.natCast_emod, Int.natCast_ediv, Int.natCast_pow]
            rfl
          have HDg : Hid ((digs W x).take (j + 1) = (digs W x).take j ++ [d]) := by
            show _ = _
            have : W - 1 - j = L := by omega
            rw [List.take_add_one, digs_get W x j hjw, this, hd]
            rfl
          have HD9 : Hid (d < 256) := by rw [hd]; exact Nat.mod_lt _ (by decide)
          have HLt : Hid ((xs ++ numsB (ns.take k) ++ (W :: (digs W x).take j)).length ≤ 1000000000) := by
            show _ ≤ _
            have := HLe.out
            rw [List.length_append, List.length_cons, List.length_take, digs_len]
            omega
          have HBt : Hid (base ≤ wr.heap.size) := Nat.le_trans HN.out.2.2 HA3.out.k.size
          clear hd
          go_wp2_with (at_builtin; rw [HD.out]; refine wpList_append_bytes _ rfl _ _ rfl base v3 (xs ++ numsB (ns.take k) ++ (W :: (digs W x).take j)) rfl (HA3.out.o.alloc _) (some ⟨wr.heap.size, 0, none⟩) 1 1 [d] rfl (rb_one wr d HD9.out) (by have := HLt.out; omega) (by have := HBt.out; simp; omega) ?_; intro v4 w4 ho4 k4 hb4)
          have HA4 : Hid (Ap w w4 base v v4 (xs ++ numsB (ns.take k) ++ (W :: (digs W x).take j) ++ [d])) := HA3.out.one _ ho4 k4 hb4
          clear ho4 k4 hb4
          go_roundg (W - (j + 1))
          case rel =>
            refine ⟨j + 1, v4, by omega, rfl, by first | rfl | (congr 1; omega), rfl, ?_⟩
            show Ap _ _ _ _ _ _
            rw [HDg.out]
            have := HA4.out
            rw [List.append_assoc] at this
            exact this
          case measure => omega
        · have hjw2 : j = W := by omega
          subst hjw2
          have HA5 : Hid (Ap w wr base v v3 (xs ++ numsB (ns.take (k + 1)))) := by
            show Ap _ _ _ _ _ _
            have := HA3.out
            have ht : (digs j x).take j = digs j x := List.take_of_length_le (by rw [digs_len]; exact Nat.le_refl _)
            rw [ht] at this
            rw [numsB_take HX.out, ← List.append_assoc]
            show Ap _ _ _ _ _ (_ ++ (numW x :: digs (numW x) x))
            rw [← HW.out]
            exact this
          have hneg : ((j : Int) - 1 - j) < 0 := by omega
          have hneg2 : ((j : Int) - 1 - j) = -1 := by omega
          rw [hneg2]
          go_wp2_with fail
          go_roundg (n - (k + 1))
          case rel => exact ⟨k + 1, v3, by omega, rfl, by first | rw [HKi.out] | rfl | go_num, rfl, HA5.out⟩
          case measure => omega
    · have hkn : ns.take k = ns := List.take_of_length_le (by have := HN.out; omega)
      rw [hkn] at HA
      clear hkn
      go_wp2_with fail
      go_ret
      exact ⟨v1, rfl, HA.out⟩
end Go.Proofs.YtippipeebkkghaaGreatDoor
