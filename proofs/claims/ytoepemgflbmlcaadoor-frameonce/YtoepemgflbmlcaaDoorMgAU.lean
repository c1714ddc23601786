/- Texts of this proof, joined: Nk2, Nl. -/
import Derived.Test.YtoepemgflbmlcaaDoorMgAT
import Derived.Test.YtoepemgflbmlcaaDoorMgAF
/- frame.Cmd. -/
namespace Go.Proofs.YtoepemgflbmlcaaDoor
set_option linter.unusedVariables false
set_option linter.unusedSimpArgs false
open Go.RowKit Go.Deep

theorem ints_nat {zs : List Int} (h : ∀ z ∈ zs, 0 ≤ z) : zs.map encI = (zs.map Int.toNat).map (fun x : Nat => Value.int .i64 (x : Int)) := by
  rw [List.map_map]
  refine List.map_congr_left (fun z hz => ?_)
  have := h z hz
  show Value.int .i64 z = Value.int .i64 ((z.toNat : Nat) : Int)
  congr 1
  omega
theorem appC_ok (base : Nat) (v : Value) (xs : List Nat) (c : Cs0) (Z : Nat → Prop) (p : Option Addr) (n cap : Nat) (zs : List Int) (w : World) (ho : Ow w base v xs) (hb : base ≤ w.heap.size) (hf : Fl w Z p (zs.map encI)) (hZ : ∀ b, Z b → v.ownBlock ≠ some b ∧ b < w.heap.size) (hn : n = zs.length) (hm : MayF c zs) (hs : 0 ≤ c.sum ∧ c.sum < 4294967296) (hl : xs.length ≤ 100000000) :
    Calls Tryd.prog 24 #[v, .agg (cmdA c (.slice p n cap))] w fun e w' => ∃ v', e = .returned v' ∧ Ap w w' base v v' (xs ++ cmdB (cpOf c zs)) := by
  obtain ⟨a0, a1, key, a3, a4, a5, a6, a7, a8, a9, a10⟩ := c
  have hmn := hm.n
  have hmk := hm.key
  have hml := hm.len
  have hmz := hm.z
  dsimp only at hmn hmk hs
  simp only [List.mem_cons, List.not_mem_nil, or_false, forall_eq_or_imp, forall_eq] at hmn
  obtain ⟨m0, m1, m3, m4, m5, m6, m7, m9, m10⟩ := hmn
  obtain ⟨a0, rfl⟩ := nat_of m0.1
  obtain ⟨a1, rfl⟩ := nat_of m1.1
  obtain ⟨a3, rfl⟩ := nat_of m3.1
  obtain ⟨a4, rfl⟩ := nat_of m4.1
  obtain ⟨a5, rfl⟩ := nat_of m5.1
  obtain ⟨a6, rfl⟩ := nat_of m6.1
  obtain ⟨a7, rfl⟩ := nat_of m7.1
  obtain ⟨a8, rfl⟩ := nat_of hs.1
  obtain ⟨a9, rfl⟩ := nat_of m9.1
  obtain ⟨a10, rfl⟩ := nat_of m10.1
  rw [ints_nat (fun z hz => (hmz z hz).1)] at hf
  refine (appC_nat base v xs a0 a1 a3 a4 a5 a6 a7 a8 a9 a10 key Z p n cap (zs.map Int.toNat) w ho hb hf hZ (by rw [List.length_map]; exact hn) hmk (by omega) (fun x hx => ?_) (by omega) (fun x hx => ?_) hl).mono ?_
  · simp only [List.mem_cons, List.not_mem_nil, or_false] at hx
    omega
  · obtain ⟨z, hz, rfl⟩ := List.mem_map.1 hx
    have := hmz z hz
    omega
  · intro e w' h
    exact h

/-- what Cmd answers -/
def CmdRes (c : Cs0) (zs : List Int) (w : World) (e : Ending) (w' : World) : Prop :=
  if mayC c zs = true then ∃ v, e = .returned (.tuple #[v, .int .i64 0]) ∧ Ow w' w.heap.size v (cmdB (cpOf c zs)) else e = .returned (.tuple #[.slice none 0 0, .int .i64 1])

set_option maxRecDepth 100000 in
set_option maxHeartbeats 1600000 in
theorem fcmd_ok (c : Cs0) (Z : Nat → Prop) (p : Option Addr) (n cap : Nat) (zs : List Int) (w : World) (hf : Fl w Z p (zs.map encI)) (hZ : ∀ b, Z b → b < w.heap.size) (hn : n = zs.length) (hn9 : n ≤ 1000000000000000) (hk9 : c.key.size ≤ 9223372036854775807) (hs : 0 ≤ c.sum ∧ c.sum < 4294967296) :
    Calls Tryd.prog 7 #[.agg (cmdA c (.slice p n cap))] w fun e w' => CmdRes c zs w e w' ∧ Kp (fun _ => False) w w' := by
  have HM : Hid (∀ u, Kp (fun _ => False) w u → Calls Tryd.prog 23 #[.agg (cmdA c (.slice p n cap))] u fun e w' => e = .returned (.bool (mayC c zs)) ∧ Kp (fun _ => False) u w') := fun u k => mayCmd_ok c Z p n cap zs u (hf.keep k (fun _ _ => id)) hn hn9 hk9
  have HA : Hid (mayC c zs = true → ∀ u, Kp (fun _ => False) w u → Calls Tryd.prog 24 #[.slice none 0 0, .agg (cmdA c (.slice p n cap))] u fun e w' => ∃ v', e = .returned v' ∧ Ap u w' w.heap.size (.slice none 0 0) v' ([] ++ cmdB (cpOf c zs))) := fun hm u k => appC_ok w.heap.size (.slice none 0 0) [] c Z p n cap zs u (World.ownsRow_nil _ _ _ _) k.size (hf.keep k (fun _ _ => id)) (fun b hb => ⟨by simp [Value.ownBlock], Nat.lt_of_lt_of_le (hZ b hb) k.size⟩) hn (mayC_full hm) hs (by simp)
  have HK0 : Hid (Kp (fun _ => False) w (w.alloc (.cells (cmdA c (.slice p n cap)) 27))) := (Kp.refl _ _).alloc _
  have HL0 : Hid (Lv (w.alloc (.cells (cmdA c (.slice p n cap)) 27)) w.heap.size (cmdA c (.slice p n cap)).toList) := Lv.new w _ _
  obtain ⟨B, hB⟩ : ∃ b, b = mayC c zs := ⟨_, rfl⟩
  have HB : Hid (B = mayC c zs) := hB
  rw [← hB] at HM HA
  obtain ⟨xa, hxa⟩ : ∃ x, x = cmdA c (.slice p n cap) := ⟨_, rfl⟩
  have HXl : Hid (xa.toList.length = 12) := by rw [hxa]; rfl
  rw [← hxa] at HM HA HK0 HL0 ⊢
  clear hf hZ hn hn9 hk9 hs hB hxa
  obtain ⟨dC, hdC⟩ := dsCmd
  go_enter Tryd.func7, Tryd.ntmps7
  go_upto_region 1 with fail
  obtain ⟨u0, hu0⟩ : ∃ x, x = w.alloc (.cells xa 27) := ⟨_, rfl⟩
  rw [← hu0] at HK0 HL0 ⊢
  clear hu0
  go_wp2_with (refine wpList_load_all rfl 27 _ rfl 12 w.heap.size xa.toList rfl HL0.out ⟨dC, hdC⟩ szCmd HXl.out ?_; rw [Array.toArray_toList])
  refine (HM.out u0 HK0.out).mono ?_
  rintro e9 w1 ⟨rfl, k1⟩
  have HK1 : Hid (Kp (fun _ => False) w w1) := HK0.out.trans k1 (fun _ _ e => e)
  have HL1 : Hid (Lv w1 w.heap.size xa.toList) := HL0.out.keep k1 id
  clear k1
  cases B with
  | false =>
    go_wp2_with fail
    go_ret2
    refine ⟨?_, HK1.out⟩
    unfold CmdRes
    rw [← HB.out]
    rfl
  | true =>
    go_wp2_with (refine wpList_load_all rfl 27 _ rfl 12 w.heap.size xa.toList rfl HL1.out ⟨dC, hdC⟩ szCmd HXl.out ?_; rw [Array.toArray_toList])
    refine (HA.out (by trivial) w1 HK1.out).mono ?_
    rintro e9 w2 ⟨v, rfl, h2⟩
    have HA2 : Hid (Ap w1 w2 w.heap.size (.slice none 0 0) v ([] ++ cmdB (cpOf c zs))) := h2
    clear h2
    go_wp2_with fail
    go_ret2
    refine ⟨?_, HK1.out.trans HA2.out.k (fun b _ e => by simp [Value.ownBlock] at e)⟩
    unfold CmdRes
    rw [← HB.out]
    exact ⟨v, rfl, HA2.out.o⟩
end Go.Proofs.YtoepemgflbmlcaaDoor

/- The document's numbers as bytes. -/
namespace Go.Proofs.YtoepemgflbmlcaaDoor
set_option linter.unusedVariables false
set_option linter.unusedSimpArgs false
open Go.RowKit Go.Deep

theorem big_digs : ∀ (w n : Nat), big n w = digs w n := fun w n => by
  apply List.ext_getElem?
  intro j
  by_cases hj : j < w
  · rw [digs_get w n j hj]
    unfold big
    rw [List.getElem?_map, List.getElem?_range hj]
    rfl
  · rw [List.getElem?_eq_none (by rw [big_length]; omega), List.getElem?_eq_none (by rw [digs_len]; omega)]
/-- bytes of one's own read as a slice -/
theorem Ow.src {w : World} {base : Nat} {v : Value} {xs : List Nat} (h : Ow w base v xs) (hb : ∀ x ∈ xs, x < 256) : ∃ p c, v = .slice p xs.length c ∧ Rb w p xs.length xs := by
  obtain ⟨p, c, h1, _, h3, _⟩ := h.rb hb
  exact ⟨p, c, h1, h3⟩

set_option maxRecDepth 100000 in
set_option maxHeartbeats 1600000 in
theorem rnum_ok (n : Nat) (hn : n < 9223372036854775808) (w : World) : Calls Tryd.prog 27 #[.int .i64 n] w fun e w' => ∃ v, e = .returned v ∧ Ow w' w.heap.size v (numB n) ∧ Kp (fun _ => False) w w' := by
  have HNn : Hid (n < 9223372036854775808) := hn
  have hn' : (n : Int) < 9223372036854775808 := by omega
  clear hn
  go_enter Tryd.func27, Tryd.ntmps27
  go_wp2_with fail
  go_loopg [3, 4] (numW n) (fun gk kv xv wz => ∃ (k : Nat) (y : Int), gk = numW y.toNat ∧ kv = .int .i64 k ∧ xv = .int .i64 y ∧ w = wz ∧ Hid (numW n = k + numW y.toNat ∧ 0 ≤ y ∧ y < 9223372036854775808))
  case atStart => exact ⟨0, n, rfl, rfl, rfl, rfl, by rw [Int.toNat_natCast]; omega, by omega, by have := HNn.out; omega⟩
  case round =>
    obtain ⟨k, y, rfl, rfl, rfl, rfl, HY⟩ := hrel
    have HW8 : Hid (numW n ≤ 8) := numW8 HNn.out
    by_cases hy : (0 : Int) < y
    · have HP : Hid (numW y.toNat = numW (y / 256).toNat + 1) := by
        have h1 := HY.out
        have h2 : (y / 256).toNat = y.toNat / 256 := by omega
        show _ = _
        rw [h2]
        exact numW_pos (by omega)
      have HT : Hid (wrap64 (y.tdiv 256) = y / 256) := by
        have h1 := HY.out
        show _ = _
        rw [Int.tdiv_eq_ediv_of_nonneg (by omega)]
        unfold wrap64
        omega
      have hy9 : y < 9223372036854775808 := HY.out.2.2
      have HK1 : Hid (wrap64 ((k : Int) + 1) = ((k + 1 : Nat) : Int)) := by
        have h1 := HY.out
        have h2 := HW8.out
        show _ = _
        unfold wrap64
        omega
      go_wp2_with fail
      go_roundg (numW (y / 256).toNat)
      case rel => exact ⟨k + 1, y / 256, rfl, by first | rw [HK1.out] | rfl | go_num, by first | rw [HT.out] | rfl | go_num, rfl, by have := HY.out; have := HP.out; omega, by have := HY.out; omega, by have := HY.out; omega⟩
      case measure => have := HP.out; omega
    · have hy0 : y = 0 := by have := HY.out; omega
      subst hy0
      have HK : Hid (k = numW n) := by have := HY.out.1; rw [show (0 : Int).toNat = 0 from rfl, numW_zero] at this; show _ = _; omega
      have hk8 : (k : Int) ≤ 8 := by have := HK.out; have := HW8.out; omega
      have HB : Hid (∀ u, Calls Tryd.prog 54 #[.int .i64 n, .int .i64 k] u fun e w' => e = .returned (.slice (some ⟨u.heap.size, 0, none⟩) k k) ∧ Kp (fun _ => False) u w' ∧ w'.heap.size = u.heap.size + 1 ∧ Ow w' u.heap.size (.slice (some ⟨u.heap.size, 0, none⟩) k k) (big n k)) := fun u => big_any n k u (by have := HNn.out; omega) (by omega)
      have HO1 : Hid (Ow (w.alloc (.cells #[.int .u8 (k : Int)] 5)) w.heap.size (.slice (some ⟨w.heap.size, 0, none⟩) 1 1) [k]) := ⟨rfl, .inr ⟨w.heap.size, 1, #[.int .u8 (k : Int)], rfl, Nat.le_refl _, heap_alloc_new w _, Nat.le_refl _, by decide, rfl, rfl⟩⟩
      have HK0 : Hid (Kp (fun _ => False) w (w.alloc (.cells #[.int .u8 (k : Int)] 5))) := (Kp.refl _ _).alloc _
      go_wp2_with fail
      refine (HB.out _).mono ?_
      rintro e9 w1 ⟨rfl, k1, z1, o1⟩
      have HK1 : Hid (Kp (fun _ => False) w w1) := HK0.out.trans k1 (fun _ _ e => e)
      have HO2 : Hid (Ow w1 w.heap.size (.slice (some ⟨w.heap.size, 0, none⟩) 1 1) [k]) := ownsRow_keep HO1.out k1 (fun _ _ => id)
      obtain ⟨p, c, hv, hrb⟩ := o1.src (big_byte n k)
      have HR : Hid (Rb w1 (some ⟨w.heap.size + 1, 0, none⟩) k (big n k)) := by
        show Rb _ _ _ _
        rw [show (w.alloc (.cells #[.int .u8 (k : Int)] 5)).heap.size = w.heap.size + 1 by simp] at hv
        rw [big_length] at hv hrb
        injection hv with h1 h2 h3
        rw [h1]
        exact hrb
      clear k1 z1 o1 hv hrb
      rw [show (w.alloc (.cells #[.int .u8 (k : Int)] 5)).heap.size = w.heap.size + 1 by simp]
      go_wp2_with (at_builtin; refine wpList_append_bytes w1 rfl _ _ rfl w.heap.size _ [k] rfl HO2.out _ k k (big n k) rfl HR.out (by have := HK.out; have := HW8.out; simp; omega) HK1.out.size ?_; intro v2 w2 o2 k2 b2)
      have HK2 : Hid (Kp (fun _ => False) w w2) := HK1.out.trans k2 (fun b hb e => by have := (ownBlock_lt HO2.out e).1; omega)
      have HO3 : Hid (Ow w2 w.heap.size v2 ([k] ++ big n k)) := o2
      clear o2 k2 b2
      go_ret
      refine ⟨v2, rfl, ?_, HK2.out⟩
      have := HO3.out
      rw [big_digs] at this
      show Ow _ _ _ (numW n :: digs (numW n) n)
      rw [← HK.out]
      exact this
end Go.Proofs.YtoepemgflbmlcaaDoor
