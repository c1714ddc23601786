/- The walks of frame.Sum and of the reference's Sum and Big. -/
import Derived.Test.YtfmndffgmemgpaaDoorKb
import Derived.Test.YtfmndffgmemgpaaDoorFc
namespace Go.Proofs.YtfmndffgmemgpaaDoor
open Go.RowKit Go.Deep

/-- the table of turns lies in memory -/
def Turns (w : World) : Prop := ∀ k : Nat, k < 16 → w.cell? ⟨0, k, none⟩ = some (.int .u32 ((Crc.tn k : Nat) : Int))
theorem Turns.keep {S : Nat → Prop} {w w' : World} (h : Turns w) (k : Kp S w w') (hb : ¬ S 0) : Turns w' := fun i hi => k.cellv (h i hi) hb
theorem Turns.keep0 {w w' : World} (h : Turns w) (k : Kp (fun _ => False) w w') : Turns w' := h.keep k id
theorem Turns.lt {w : World} (h : Turns w) : 0 < w.heap.size := World.block_lt_of_cell? _ _ (h 0 (by omega))

theorem u32_xor_c (a b : Nat) (ha : a < 2 ^ 32) (hb : b < 2 ^ 32) : bits .xor .u32 (a : Int) (b : Int) = ((a ^^^ b : Nat) : Int) := u32_xor_nat a b (by omega) (by omega)
theorem u32_and_c (a b : Nat) (ha : a < 2 ^ 32) (hb : b < 2 ^ 32) : bits .and .u32 (a : Int) (b : Int) = ((a &&& b : Nat) : Int) := u32_and_nat a b (by omega) (by omega)

theorem ret_num {k : IntKind} {a b : Int} (h : a = b) : Ending.returned (.int k a) = .returned (.int k b) := by rw [h]
theorem nib (t : Nat) (h : t < 2 ^ 32) : ∃ y : Nat, y < 16 ∧ bits .and .u32 (t : Int) 15 = (y : Int) ∧ bits .xor .u32 ((t : Int) / 16) ((Crc.tn y : Nat) : Int) = ((Crc.it 4 t : Nat) : Int) := by
  have hy : t &&& 15 < 16 := Nat.and_lt_two_pow (n := 4) _ (by omega)
  have ht : Crc.tn (t &&& 15) < 2 ^ 32 := Crc.it_lt 4 (by omega)
  refine ⟨t &&& 15, hy, u32_and_c t 15 h (by omega), ?_⟩
  rw [show (t : Int) / 16 = ((t / 16 : Nat) : Int) from by omega, u32_xor_c _ _ (by omega) ht, Crc.it4, Nat.shiftRight_eq_div_pow]
theorem take_snoc {xs : List Nat} {k : Nat} (h : k < xs.length) : xs.take (k + 1) = xs.take k ++ [xs.getD k 0] := by
  rw [List.take_succ_eq_append_getElem h, List.getD_eq_getElem?_getD, List.getElem?_eq_getElem h]; rfl
theorem run_snoc {xs : List Nat} {k : Nat} (s : Nat) (h : k < xs.length) : Crc.run s (xs.take (k + 1)) = Crc.stp (Crc.run s (xs.take k)) (xs.getD k 0) := by
  rw [take_snoc h, Crc.run_append]; rfl
theorem Rb.take_byte {w : World} {p : Option Addr} {n : Nat} {xs : List Nat} (h : Rb w p n xs) (k : Nat) : ∀ x ∈ xs.take k, x < 256 := fun x hx => h.byte x (List.mem_of_mem_take hx)

set_option maxRecDepth 100000 in
set_option maxHeartbeats 400000 in
theorem sum_any (p : Option Addr) (n c : Nat) (xs : List Nat) (w : World) (h : Rb w p n xs) (hn : (n : Int) ≤ 1000000000000000) (ht : Turns w) :
    Calls Tryd.prog 64 #[.slice p n c] w fun e w' => e = .returned (.int .u32 ((Crc.sum xs : Nat) : Int)) ∧ w' = w := by
  go_enter Tryd.func64, Tryd.ntmps64
  go_wp2
  go_loopw [3, 8] (fun s i w' => ∃ k : Nat, k ≤ n ∧ i = .int .i64 k ∧ s = .int .u32 ((Crc.run 4294967295 (xs.take k) : Nat) : Int) ∧ w' = w) (fun _ i _ => n - (intOf i).toNat)
  case atStart => exact ⟨0, Nat.zero_le _, rfl, rfl, rfl⟩
  case round =>
    obtain ⟨k, hk, rfl, rfl, rfl⟩ := hrel
    have hs0 : Crc.run 4294967295 (xs.take k) < 2 ^ 32 := Crc.run_lt (by omega) (h.take_byte k)
    by_cases hlt : (k : Int) < (n : Int)
    · obtain ⟨b, o, rfl, hb⟩ := h.pt (by omega)
      have hc := hb k (by omega)
      have hx := h.byteAt k
      have HR : Hid (_ = _) := run_snoc (xs := xs) 4294967295 (k := k) (by rw [h.len]; omega)
      obtain ⟨x, hxe⟩ : ∃ x, x = xs.getD k 0 := ⟨_, rfl⟩
      obtain ⟨s, hse⟩ : ∃ s, s = Crc.run 4294967295 (xs.take k) := ⟨_, rfl⟩
      rw [← hxe] at hc hx HR
      rw [← hse] at hs0 HR ⊢
      clear hxe hse hb h
      have e1 := u32_xor_c s x hs0 (by omega)
      obtain ⟨t, hte⟩ : ∃ t, t = s ^^^ x := ⟨_, rfl⟩
      have ht0 : t < 2 ^ 32 := by rw [hte]; exact Nat.xor_lt_two_pow hs0 (by omega)
      rw [← hte] at e1
      have HT : Hid (_ = _) := Crc.stp_by4 s x
      rw [← hte] at HT
      clear hte
      obtain ⟨y, hy, e2, e3⟩ := nib t ht0
      have ht1 := Crc.it_lt 4 ht0
      obtain ⟨t', hte⟩ : ∃ t', t' = Crc.it 4 t := ⟨_, rfl⟩
      rw [← hte] at e3 ht1 HT
      clear hte
      obtain ⟨z, hz, e4, e5⟩ := nib t' ht1
      have c1 := ht y hy
      have c2 := ht z hz
      obtain ⟨t2, hte⟩ : ∃ t2, t2 = Crc.it 4 t' := ⟨_, rfl⟩
      rw [← hte] at e5 HT
      clear hte
      go_wp2
      go_roundw
      case rel => exact ⟨k + 1, by omega, by go_num, by rw [HR.out, HT.out], trivial⟩
      case measure => simp [intOf]; omega
    · have e : k = n := by omega
      subst e
      have hte : xs.take k = xs := List.take_of_length_le (by rw [h.len]; omega)
      have HS : Hid (bits .xor .u32 IntKind.u32.max ((Crc.run 4294967295 xs : Nat) : Int) = ((Crc.sum xs : Nat) : Int)) := by
        show bits .xor .u32 ((4294967295 : Nat) : Int) _ = _
        rw [u32_xor_c 4294967295 _ (by omega) (by rw [← hte]; exact hs0), Nat.xor_comm]; rfl
      rw [hte]
      clear hte
      go_wp2
      go_ret
      exact ⟨ret_num HS.out, rfl⟩

theorem bit_even (s : Nat) (h : s % 2 = 0) : Crc.bit s = s / 2 := by unfold Crc.bit; rw [if_neg (by omega), Nat.xor_zero]
theorem bit_odd (s : Nat) (h : s % 2 = 1) : Crc.bit s = s / 2 ^^^ 2197175160 := by unfold Crc.bit; rw [if_pos h]; rfl

/-- a number in so many bytes, the highest first -/
def big (n w : Nat) : List Nat := (List.range w).map fun j => n / 256 ^ (w - 1 - j) % 256
theorem big_length (n w : Nat) : (big n w).length = w := by simp [big]
theorem big_byte (n w : Nat) : ∀ x ∈ big n w, x < 256 := fun x hx => by
  obtain ⟨j, _, rfl⟩ := List.mem_map.1 hx
  exact Nat.mod_lt _ (by omega)
theorem big_at (n w j : Nat) (h : j < w) : (big n w).getD j 0 = n / 256 ^ (w - 1 - j) % 256 := by
  unfold big
  rw [List.getD_eq_getElem?_getD, List.getElem?_map, List.getElem?_range h]; rfl
def bigF (n w r : Nat) : Nat → Value := fun j => .int .u8 (((if w - r ≤ j then n / 256 ^ (w - 1 - j) % 256 else 0 : Nat) : Nat) : Int)
theorem bigF_succ (n w r j : Nat) (hr : r < w) : bigF n w (r + 1) j = if j = w - 1 - r then .int .u8 ((n / 256 ^ r % 256 : Nat) : Int) else bigF n w r j := by
  unfold bigF
  by_cases e : j = w - 1 - r
  · subst e; rw [if_pos rfl, if_pos (by omega), show w - 1 - (w - 1 - r) = r from by omega]
  · rw [if_neg e]
    by_cases h : w - r ≤ j
    · rw [if_pos h, if_pos (by omega)]
    · rw [if_neg h, if_neg (by omega)]
theorem ow_of_row {w : World} {base b n : Nat} {f : Nat → Value} {xs : List Nat} (h : w.rowIs b 5 n f) (hb : base ≤ b) (hl : xs.length = n) (hm : n ≤ maxLen) (hf : ∀ j, j < n → f j = .int .u8 ((xs.getD j 0 : Nat) : Int)) :
    Ow w base (.slice (some ⟨b, 0, none⟩) n n) xs := by
  obtain ⟨cs, hh, hs, hc⟩ := h
  refine ⟨by rw [vl_length]; omega, Or.inr ⟨b, n, cs, by rw [hl], hb, hh, by omega, hm, by omega, ?_⟩⟩
  rw [List.take_of_length_le (by simp; omega)]
  apply List.ext_getElem?
  intro i
  by_cases hi : i < n
  · rw [Array.getElem?_toList, hc i hi, hf i hi, vl_get (by omega)]
  · rw [Array.getElem?_toList, Array.getElem?_eq_none (by omega), List.getElem?_eq_none (by rw [vl_length]; omega)]

end Go.Proofs.YtfmndffgmemgpaaDoor
