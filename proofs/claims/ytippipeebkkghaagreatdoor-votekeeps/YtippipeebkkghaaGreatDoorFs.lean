/- The walks of frame.Sum and of the reference's Sum and Big. -/
import Derived.Test.YtippipeebkkghaaGreatDoorKb
import Derived.Test.YtippipeebkkghaaGreatDoorFc
namespace Go.Proofs.YtippipeebkkghaaGreatDoor
open Go.RowKit Go.Deep

/-- the table of turns lies in memory -/
def Turns (w : World) : Prop := ∀ k : Nat, k < 16 → w.cell? ⟨0, k, none⟩ = some (.int .u32 ((Crc.tn k : Nat) : Int))
theorem Turns.keep {S : Nat → Prop} {w w' : World} (h : Turns w) (k : Kp S w w') (hb : ¬ S 0) : Turns w' := fun i hi => k.cellv (h i hi) hb
theorem Turns.keep0 {w w' : World} (h : Turns w) (k : Kp (fun _ => False) w w') : Turns w' := h.keep k id
theorem Turns.lt {w : World} (h : Turns w) : 0 < w.heap.size := World.block_lt_of_cell? _ _ (h 0 (by omega))

theorem u32_xor_c (a b : Nat) (ha : a < 2 ^ 32) (hb : b < 2 ^ 32) : bits .xor .u32 (a : Int) (b : Int) = ((a ^^^ b : Nat) : Int) := u32_xor_nat a b (by omega) (by omega)
theorem u32_and_c (a b : Nat) (ha : a < 2 ^ 32) (hb : b < 2 ^ 32) : bits .and .u32 (a : Int) (b : Int) = ((a &&& b : Nat) : Int) := u32_and_nat a b (by omega) (by omega)

theorem ret_num {k : IntKind} {a b : Int} (h : a = b) : Ending.returned (.int k a) = .returned (.int k b) := by rw [h]
theorem nib (t : Nat) (h : t < 2 ^ 32) : ∃ y : Nat, y < 16 ∧ bits .and .u32 (t : Int) 15 = (y : Int) ∧ bits .xor .u32 ((t : Int) / 16) ((Crc.tn y : Nat) : Int) = ((Crc.it 4 t : Nat) : Int) := by
  have hy : t &&& 15 < 16 := Nat.and_lt_two_pow (n := 4) _ (by omega)
  have ht : Crc.tn (t &&& 15) < 2 ^ 32 := Crc.it_lt 4 (by omega)
  refine ⟨t &&& 15, hy, u32_and_c t 15 h (by omega), ?_⟩
  rw [show (t : Int) / 16 = ((t / 16 : Nat) : Int) from by omega, u32_xor_c _ _ (by omega) ht, Crc.it4, Nat.shiftRight_eq_div_pow]
theorem take_snoc {xs : List Nat} {k : Nat} (h : k < xs.length) : xs.take (k + 1) = xs.take k ++ [xs.getD k 0] := by
  rw [List.take_succ_eq_append_getElem h, List.getD_eq_getElem?_getD, List.getElem?_eq_getElem h]; rfl
theorem run_snoc {xs : List Nat} {k : Nat} (s : Nat) (h : k < xs.length) : Crc.run s (xs.take (k + 1)) = Crc.stp (Crc.run s (xs.take k)) (xs.getD k 0) := by
  rw [take_snoc h, Crc.run_append]; rfl
theorem Rb.take_byte {w : World} {p : Option Addr} {n : Nat} {xs : List Nat} (h : Rb w p n xs) (k : Nat) : ∀ x ∈ xs.take k, x < 256 := fun x hx => h.byte x (List.mem_of_mem_take hx)

set_option maxRecDepth 100000 in
set_option maxHeartbeats 400000 in
theorem sum_any (p : Option Addr) (n c : Nat) (xs : List Nat) (w : World) (h : Rb w p n xs) (hn : (n : Int) ≤ 1000000000000000) (ht : Turns w) :
    Calls Tryz.prog 223 #[.slice p n c] w fun e w' => e = .returned (.int .u32 ((Crc.sum xs : Nat) : Int)) ∧ w' = w := by
  go_enter Tryz.func223, Tryz.ntmps223
  go_wp2
  go_loopw [3, 8] (fun s i w' => ∃ k : Nat, k ≤ n ∧ i = .int .i64 k ∧ s = .int .u32 ((Crc.run 4294967295 (xs.take k) : Nat) : Int) ∧ w' = w) (fun _ i _ => n - (intOf i).toNat)
  case atStart => exact ⟨0, Nat.zero_le _, rfl, rfl, rfl⟩
  case round =>
    obtain ⟨k, hk, rfl, rfl, rfl⟩ := hrel
    have hs0 : Crc.run 4294967295 (xs.take k) < 2 ^ 32 := Crc.run_lt (by omega) (h.take_byte k)
    by_cases hlt : (k : Int) < (n : Int)
    · obtain ⟨b, o, rfl, hb⟩ := h.pt (by omega)
      have hc := hb k (by omega)
      have hx := h.byteAt k
      have HR : Hid (_ = _) := run_snoc (xs := xs) 4294967295 (k := k) (by rw [h.len]; omega)
      obtain ⟨x, hxe⟩ : ∃ x, x = xs.getD k 0 := ⟨_, rfl⟩
      obtain ⟨s, hse⟩ : ∃ s, s = Crc.run 4294967295 (xs.take k) := ⟨_, rfl⟩
      rw [← hxe] at hc hx HR
      rw [← hse] at hs0 HR ⊢
      clear hxe hse hb h
      have e1 := u32_xor_c s x hs0 (by omega)
      obtain ⟨t, hte⟩ : ∃ t, t = s ^^^ x := ⟨_, rfl⟩
      have ht0 : t < 2 ^ 32 := by rw [hte]; exact Nat.xor_lt_two_pow hs0 (by omega)
      rw [← hte] at e1
      have HT : Hid (_ = _) := Crc.stp_by4 s x
      rw [← hte] at HT
      clear hte
      obtain ⟨y, hy, e2, e3⟩ := nib t ht0
      have ht1 := Crc.it_lt 4 ht0
      obtain ⟨t', hte⟩ : ∃ t', t' = Crc.it 4 t := ⟨_, rfl⟩
      rw [← hte] at e3 ht1 HT
      clear hte
      obtain ⟨z, hz, e4, e5⟩ := nib t' ht1
      have c1 := ht y hy
      have c2 := ht z hz
      obtain ⟨t2, hte⟩ : ∃ t2, t2 = Crc.it 4 t' := ⟨_, rfl⟩
      rw [← hte] at e5 HT
      clear hte
      go_wp2
      go_roundw
      case rel => exact ⟨k + 1, by omega, by go_num, by rw [HR.out, HT.out], trivial⟩
      case measure => simp [intOf]; omega
    · have e : k = n := by omega
      subst e
      have hte : xs.take k = xs := List.take_of_length_le (by rw [h.len]; omega)
      have HS : Hid (bits .xor .u32 IntKind.u32.max ((Crc.run 4294967295 xs : Nat) : Int) = ((Crc.sum xs : Nat) : Int)) := by
        show bits .xor .u32 ((4294967295 : Nat) : Int) _ = _
        rw [u32_xor_c 4294967295 _ (by omega) (by rw [← hte]; exact hs0), Nat.xor_comm]; rfl
      rw [hte]
      clear hte
      go_wp2
      go_ret
      exact ⟨ret_num HS.out, rfl⟩

theorem bit_even (s : Nat) (h : s % 2 = 0) : Crc.bit s = s / 2 := by unfold Crc.bit; rw [if_neg (by omega), Nat.xor_zero]
theorem bit_odd (s : Nat) (h : s % 2 = 1) : Crc.bit s = s / 2 ^^^ 2197175160 := by unfold Crc.bit; rw [if_pos h]; rfl

set_option maxRecDepth 100000 in
set_option maxHeartbeats 400000 in
theorem refSum_any (p : Option Addr) (n c : Nat) (xs : List Nat) (w : World) (h : Rb w p n xs) (hn : (n : Int) ≤ 1000000000000000) :
    Calls Tryz.prog 219 #[.slice p n c] w fun e w' => e = .returned (.int .u32 ((Crc.sum xs : Nat) : Int)) ∧ w' = w := by
  go_enter Tryz.func219, Tryz.ntmps219
  go_wp2
  go_loopw [3, 9] (fun s i w' => ∃ k : Nat, k ≤ n ∧ i = .int .i64 k ∧ s = .int .u32 ((Crc.run 4294967295 (xs.take k) : Nat) : Int) ∧ w' = w) (fun _ i _ => n - (intOf i).toNat)
  case atStart => exact ⟨0, Nat.zero_le _, rfl, rfl, rfl⟩
  case round =>
    obtain ⟨k, hk, rfl, rfl, rfl⟩ := hrel
    have hs0 : Crc.run 4294967295 (xs.take k) < 2 ^ 32 := Crc.run_lt (by omega) (h.take_byte k)
    by_cases hlt : (k : Int) < (n : Int)
    · obtain ⟨b, o, rfl, hb⟩ := h.pt (by omega)
      have hc := hb k (by omega)
      have hx := h.byteAt k
      have HR : Hid (_ = _) := run_snoc (xs := xs) 4294967295 (k := k) (by rw [h.len]; omega)
      obtain ⟨x, hxe⟩ : ∃ x, x = xs.getD k 0 := ⟨_, rfl⟩
      obtain ⟨s, hse⟩ : ∃ s, s = Crc.run 4294967295 (xs.take k) := ⟨_, rfl⟩
      rw [← hxe] at hc hx HR
      rw [← hse] at hs0 HR ⊢
      clear hxe hse hb h
      have e1 := u32_xor_c s x hs0 (by omega)
      obtain ⟨t, hte⟩ : ∃ t, t = s ^^^ x := ⟨_, rfl⟩
      have ht0 : t < 2 ^ 32 := by rw [hte]; exact Nat.xor_lt_two_pow hs0 (by omega)
      rw [← hte] at e1
      have HT : Hid (Crc.stp s x = Crc.it 8 t) := by rw [hte]; rfl
      clear hte
      obtain ⟨wr0, rfl⟩ : ∃ x, x = wr := ⟨_, rfl⟩
      go_wp2
      go_loopw [3, 17] (fun s i w' => ∃ j : Nat, j ≤ 8 ∧ i = .int .i64 j ∧ s = .int .u32 ((Crc.it j t : Nat) : Int) ∧ w' = wr0) (fun _ i _ => 8 - (intOf i).toNat)
      case atStart => exact ⟨0, Nat.zero_le _, rfl, rfl, rfl⟩
      case round =>
        obtain ⟨j, hj, rfl, rfl, rfl⟩ := hrel
        have hq := Crc.it_lt j ht0
        have HI : Hid (_ = _) := Crc.it_succ j t
        obtain ⟨q, hqe⟩ : ∃ q, q = Crc.it j t := ⟨_, rfl⟩
        rw [← hqe] at hq HI ⊢
        by_cases hlj : (j : Int) < 8
        · clear hqe
          by_cases ho : q % 2 = 1
          · have d1 : ((q : Int) % 2 == 1) = true := by rw [beq_iff_eq]; omega
            have HB : Hid (_ = _) := bit_odd q ho
            have e5 : bits .xor .u32 ((q : Int) / 2) 2197175160 = ((q / 2 ^^^ 2197175160 : Nat) : Int) := by
              rw [show (q : Int) / 2 = ((q / 2 : Nat) : Int) from by omega]
              exact u32_xor_c (q / 2) 2197175160 (by omega) (by omega)
            obtain ⟨q2, hq2⟩ : ∃ q2, q2 = q / 2 ^^^ 2197175160 := ⟨_, rfl⟩
            rw [← hq2] at HB e5
            clear hq2 ho
            go_wp2
            go_roundw
            case rel => exact ⟨j + 1, by omega, by go_num, by rw [HI.out, HB.out], trivial⟩
            case measure => simp [intOf]; omega
          · have d1 : ((q : Int) % 2 == 1) = false := by rw [beq_eq_false_iff_ne]; omega
            have HB : Hid (_ = _) := bit_even q (by omega)
            clear ho
            go_wp2
            go_roundw
            case rel => exact ⟨j + 1, by omega, by go_num, by rw [HI.out, HB.out]; go_num, trivial⟩
            case measure => simp [intOf]; omega
        · have e : j = 8 := by omega
          subst e
          have HQ : Hid (q = Crc.it 8 t) := hqe
          clear hqe
          go_wp2
          go_roundw
          case rel => exact ⟨k + 1, by omega, by go_num, by rw [HR.out, HT.out, HQ.out], trivial⟩
          case measure => simp [intOf]; omega
    · have e : k = n := by omega
      subst e
      have hte : xs.take k = xs := List.take_of_length_le (by rw [h.len]; omega)
      have HS : Hid (bits .xor .u32 ((Crc.run 4294967295 xs : Nat) : Int) 4294967295 = ((Crc.sum xs : Nat) : Int)) := by
        have := u32_xor_c (Crc.run 4294967295 xs) 4294967295 (by rw [← hte]; exact hs0) (by omega)
        exact this
      rw [hte]
      clear hte
      go_wp2
      go_ret
      exact ⟨ret_num HS.out, rfl⟩

/-- a number in so many bytes, the highest first -/
def big (n w : Nat) : List Nat := (List.range w).map fun j => n / 256 ^ (w - 1 - j) % 256
theorem big_length (n w : Nat) : (big n w).length = w := by simp [big]
theorem big_byte (n w : Nat) : ∀ x ∈ big n w, x < 256 := fun x hx => by
  obtain ⟨j, _, rfl⟩ := List.mem_map.1 hx
  exact Nat.mod_lt _ (by omega)
theorem big_at (n w j : Nat) (h : j < w) : (big n w).getD j 0 = n / 256 ^ (w - 1 - j) % 256 := by
  unfold big
  rw [List.getD_eq_getElem?_getD, List.getElem?_map, List.getElem?_range h]; rfl
def bigF (n w r : Nat) : Nat → Value := fun j => .int .u8 (((if w - r ≤ j then n / 256 ^ (w - 1 - j) % 256 else 0 : Nat) : Nat) : Int)
theorem bigF_succ (n w r j : Nat) (hr : r < w) : bigF n w (r + 1) j = if j = w - 1 - r then .int .u8 ((n / 256 ^ r % 256 : Nat) : Int) else bigF n w r j := by
  unfold bigF
  by_cases e : j = w - 1 - r
  · subst e; rw [if_pos rfl, if_pos (by omega), show w - 1 - (w - 1 - r) = r from by omega]
  · rw [if_neg e]
    by_cases h : w - r ≤ j
    · rw [if_pos h, if_pos (by omega)]
    · rw [if_neg h, if_neg (by omega)]
theorem ow_of_row {w : World} {base b n : Nat} {f : Nat → Value} {xs : List Nat} (h : w.rowIs b 5 n f) (hb : base ≤ b) (hl : xs.length = n) (hm : n ≤ maxLen) (hf : ∀ j, j < n → f j = .int .u8 ((xs.getD j 0 : Nat) : Int)) :
    Ow w base (.slice (some ⟨b, 0, none⟩) n n) xs := by
  obtain ⟨cs, hh, hs, hc⟩ := h
  refine ⟨by rw [vl_length]; omega, Or.inr ⟨b, n, cs, by rw [hl], hb, hh, by omega, hm, by omega, ?_⟩⟩
  rw [List.take_of_length_le (by simp; omega)]
  apply List.ext_getElem?
  intro i
  by_cases hi : i < n
  · rw [Array.getElem?_toList, hc i hi, hf i hi, vl_get (by omega)]
  · rw [Array.getElem?_toList, Array.getElem?_eq_none (by omega), List.getElem?_eq_none (by rw [vl_length]; omega)]

set_option maxRecDepth 100000 in
set_option maxHeartbeats 400000 in
theorem big_any (n wd : Nat) (w : World) (hn : (n : Int) < 9223372036854775808) (hw : (wd : Int) ≤ 100) :
    Calls Tryz.prog 198 #[.int .i64 n, .int .i64 wd] w fun e w' => e = .returned (.slice (some ⟨w.heap.size, 0, none⟩) wd wd) ∧ Kp (fun _ => False) w w' ∧ w'.heap.size = w.heap.size + 1 ∧ Ow w' w.heap.size (.slice (some ⟨w.heap.size, 0, none⟩) wd wd) (big n wd) := by
  have hmk := run_make_row' (P := Tryz.prog) 75 5 (.int .u8 0) 1 Tryz.underlying75 info5 rfl .i64 .i64 wd (by omega) (by omega)
  have HN : Hid ((n : Int) < 9223372036854775808) := hn
  clear hn
  go_enter Tryz.func198, Tryz.ntmps198
  go_wp2
  clear hmk
  go_loopg [0, 6] wd (fun gk x i wr => ∃ r : Nat, r ≤ wd ∧ gk = wd - r ∧ i = .int .i64 ((wd : Int) - 1 - r) ∧ x = .int .i64 ((n / 256 ^ r : Nat) : Int) ∧ Kp (fun _ => False) w wr ∧ wr.heap.size = w.heap.size + 1 ∧ wr.rowIs w.heap.size 5 wd (bigF n wd r))
  case atStart => exact ⟨0, Nat.zero_le _, rfl, by simp, by simp, (Kp.refl _ _).alloc _, by simp, (World.rowIs_made w _ wd 5).congr (fun j hj => by unfold bigF; rw [if_neg (by omega)]; rfl)⟩
  case round =>
    obtain ⟨r, hr, rfl, rfl, rfl, hK, hz, hR⟩ := hrel
    have HD : Hid (n / 256 ^ (r + 1) = n / 256 ^ r / 256) := by rw [Nat.pow_succ, Nat.div_div_eq_div_mul]; rfl
    have HQ : Hid (n / 256 ^ r ≤ n) := Nat.div_le_self _ _
    have HB : Hid (∀ j, bigF n wd (r + 1) j = if j = wd - 1 - r then .int .u8 ((n / 256 ^ r % 256 : Nat) : Int) else bigF n wd r j) ∨ wd ≤ r := by
      by_cases h : r < wd
      · exact Or.inl (fun j => bigF_succ n wd r j h)
      · exact Or.inr (by omega)
    obtain ⟨q, hq⟩ : ∃ q, q = n / 256 ^ r := ⟨_, rfl⟩
    rw [← hq] at HD HQ HB ⊢
    clear hq
    by_cases hlt : (0 : Int) ≤ (wd : Int) - 1 - r
    · obtain ⟨j, hj⟩ : ∃ j : Nat, (wd : Int) - 1 - r = j := ⟨wd - 1 - r, by omega⟩
      have hjj : j = wd - 1 - r := by omega
      replace HB : Hid (∀ j, bigF n wd (r + 1) j = if j = wd - 1 - r then .int .u8 ((q % 256 : Nat) : Int) else bigF n wd r j) := by
        rcases HB with h | h
        · exact h
        · omega
      rw [← hjj] at HB
      have HJ : Hid ((wd : Int) - 1 - ((r + 1 : Nat) : Int) = (j : Int) - 1) := by show _ = _; omega
      rw [hj]
      have hjl : (j : Int) < (wd : Int) := by omega
      have hrl : r < wd := by omega
      clear hjj hlt hj
      have c1 := hR.cell (i := j) (by omega)
      have c2 := hR.frozen j
      have HQ2 : Hid ((q : Int) < 9223372036854775808) := by show _ < _; have := HQ.out; have := HN.out; omega
      have hq0 : (0 : Int) ≤ (q : Int) := by omega
      have HW : Hid (wrap64 ((q : Int) / 256) = ((q / 256 : Nat) : Int)) := by show _ = _; have := HQ2.out; unfold wrap64; omega
      go_wp2
      go_roundg (wd - (r + 1))
      case rel => exact ⟨r + 1, by omega, rfl, by rw [HJ.out], by rw [HD.out]; exact congrArg (Value.int .i64) HW.out, hK.setCell (fun h => absurd h (Nat.lt_irrefl _)) _, by simpa using hz, (hR.set j _).congr (fun i _ => by
        rw [HB.out]
        split
        · congr 1
        · rfl)⟩
      case measure => omega
    · have e : r = wd := by omega
      subst e
      rw [show (r : Int) - 1 - (r : Int) = -1 from by omega]
      clear HB HD HQ hlt
      go_wp2
      go_ret
      exact ⟨rfl, hK, hz, ow_of_row hR (Nat.le_refl _) (big_length _ _) (by unfold maxLen; omega) (fun j hj => by rw [big_at n r j hj]; unfold bigF; rw [if_pos (by omega)])⟩
end Go.Proofs.YtippipeebkkghaaGreatDoor
