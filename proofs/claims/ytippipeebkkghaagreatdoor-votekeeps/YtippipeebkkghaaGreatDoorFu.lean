/- Slices of bytes; the walks of frame.highestFirst, look, Unwrap and of the reference's Unwrap. -/
import Derived.Test.YtippipeebkkghaaGreatDoorFw
import Derived.RegionTactic
import Derived.BigRegion
namespace Go.Proofs.YtippipeebkkghaaGreatDoor
open Go.RowKit Go.Deep

theorem slice_lh (p : Option Addr) (n c l r : Nat) (hl : l ≤ r) (hr : r ≤ c) (w : World) :
    (Instr.slice 75 (.slice p n c) (some (.int .i64 (l : Int))) (some (.int .i64 (r : Int))) none).run Tryz.prog w = .ok (.slice (if c = l then p else p.map (·.add (l * 1))) (r - l) (c - l)) w := by
  obtain ⟨i, hi, hz⟩ := Option.map_eq_some_iff.1 info5
  simp only [Prod.mk.injEq] at hz
  obtain ⟨hz, hs, hb⟩ := hz
  have h1 : (0 : Int) ≤ l ∧ (l : Int) ≤ (r : Int) := by omega
  have h2 : (0 : Int) ≤ r ∧ (r : Int) ≤ (c : Int) := by omega
  simp [Instr.slice, Instr.sliceBounds, Instr.sliceBound, asIntOf, run_underlying Tryz.underlying75, sizeOf, typeInfo, hi, hs, hl, hr]
theorem slice_h (p : Option Addr) (n c r : Nat) (hr : r ≤ c) (w : World) :
    (Instr.slice 75 (.slice p n c) none (some (.int .i64 (r : Int))) none).run Tryz.prog w = .ok (.slice (if c = 0 then p else p.map (·.add (0 * 1))) (r - 0) (c - 0)) w := by
  obtain ⟨i, hi, hz⟩ := Option.map_eq_some_iff.1 info5
  simp only [Prod.mk.injEq] at hz
  obtain ⟨hz, hs, hb⟩ := hz
  have h2 : (0 : Int) ≤ r ∧ (r : Int) ≤ (c : Int) := by omega
  simp [Instr.slice, Instr.sliceBounds, Instr.sliceBound, asIntOf, run_underlying Tryz.underlying75, sizeOf, typeInfo, hi, hr]
theorem slice_l (p : Option Addr) (n c l : Nat) (hl : l ≤ n) (w : World) :
    (Instr.slice 75 (.slice p n c) (some (.int .i64 (l : Int))) none none).run Tryz.prog w = .ok (.slice (if c = l then p else p.map (·.add (l * 1))) (n - l) (c - l)) w := by
  obtain ⟨i, hi, hz⟩ := Option.map_eq_some_iff.1 info5
  simp only [Prod.mk.injEq] at hz
  obtain ⟨hz, hs, hb⟩ := hz
  simp [Instr.slice, Instr.sliceBounds, Instr.sliceBound, asIntOf, run_underlying Tryz.underlying75, sizeOf, typeInfo, hi, hs, hl]

theorem slice_first (p : Option Addr) (n c r : Nat) (hr : r ≤ c) (w : World) :
    (Instr.slice 75 (.slice p n c) none (some (.int .i64 (r : Int))) none).run Tryz.prog w = .ok (.slice p r c) w := by
  rw [slice_h p n c r hr w]
  cases p <;> simp [Addr.add]

/-- the number of bytes, the highest first -/
def hf (xs : List Nat) : Nat := xs.foldl (fun n x => n * 256 + x) 0
theorem hf_snoc (xs : List Nat) (x : Nat) : hf (xs ++ [x]) = hf xs * 256 + x := by simp [hf]
theorem hf_lt : ∀ (n : Nat) (xs : List Nat), xs.length = n → (∀ x ∈ xs, x < 256) → hf xs < 256 ^ n
  | 0, xs, h, _ => by rw [List.eq_nil_of_length_eq_zero h]; decide
  | n + 1, xs, h, hb => by
    obtain ⟨ys, y, rfl⟩ : ∃ ys y, xs = ys ++ [y] := ⟨xs.dropLast, xs.getLast (by intro e; subst e; simp at h), (List.dropLast_concat_getLast _).symm⟩
    have := hf_lt n ys (by simpa using h) (fun x hx => hb x (by simp [hx]))
    have hy := hb y (by simp)
    rw [hf_snoc, Nat.pow_succ]
    omega
theorem big_succ (n w : Nat) : big n (w + 1) = big (n / 256) w ++ [n % 256] := by
  unfold big
  rw [List.range_succ, List.map_append]
  congr 1
  · refine List.map_congr_left (fun j hj => ?_)
    have hj' := List.mem_range.1 hj
    rw [Nat.div_div_eq_div_mul, ← Nat.pow_succ', show w + 1 - 1 - j = w - 1 - j + 1 from by omega]
  · simp
theorem hf_big : ∀ (w n : Nat), n < 256 ^ w → hf (big n w) = n
  | 0, n, h => by have : n = 0 := by simpa using h
                  subst this; rfl
  | w + 1, n, h => by
    rw [big_succ, hf_snoc, hf_big w (n / 256) (by rw [Nat.pow_succ] at h; omega)]; omega
theorem big_hf : ∀ (w : Nat) (xs : List Nat), xs.length = w → (∀ x ∈ xs, x < 256) → big (hf xs) w = xs
  | 0, xs, h, _ => by rw [List.eq_nil_of_length_eq_zero h]; rfl
  | w + 1, xs, h, hb => by
    obtain ⟨ys, y, rfl⟩ : ∃ ys y, xs = ys ++ [y] := ⟨xs.dropLast, xs.getLast (by intro e; subst e; simp at h), (List.dropLast_concat_getLast _).symm⟩
    have hy := hb y (by simp)
    rw [hf_snoc, big_succ, show (hf ys * 256 + y) / 256 = hf ys from by omega, show (hf ys * 256 + y) % 256 = y from by omega, big_hf w ys (by simpa using h) (fun x hx => hb x (by simp [hx]))]
theorem hf_eq_iff {xs : List Nat} {s : Nat} (h4 : xs.length = 4) (hb : ∀ x ∈ xs, x < 256) (hs : s < 2 ^ 32) : hf xs = s ↔ xs = big s 4 := by
  constructor
  · rintro rfl; exact (big_hf 4 xs h4 hb).symm
  · rintro rfl; exact hf_big 4 s (by omega)

theorem u64_or_shift (n x : Nat) (hn : n < 256 ^ 7) (hx : x < 256) : bits .or .u64 (IntKind.u64.wrap ((n : Int) * 256)) ((x : Nat) : Int) = ((n * 256 + x : Nat) : Int) := by
  have e : IntKind.u64.wrap ((n : Int) * 256) = ((n * 256 : Nat) : Int) := by
    have : IntKind.u64.wrap ((n : Int) * 256) = ((n : Int) * 256) % 18446744073709551616 := by simp [IntKind.wrap, IntKind.bits, IntKind.signed]
    rw [this]; omega
  rw [e, u64_or_nat _ _ (by omega) (by omega)]
  congr 1
  have := Nat.two_pow_add_eq_or_of_lt (i := 8) (b := x) (by omega) n
  rw [Nat.mul_comm n 256, show (256 : Nat) = 2 ^ 8 from rfl, ← this]
theorem pow256 : ∀ k, k ≤ 7 → 256 ^ k ≤ 256 ^ 7 := fun k hk => Nat.pow_le_pow_right (by omega) hk

set_option maxRecDepth 100000 in
set_option maxHeartbeats 400000 in
theorem highest_any (p : Option Addr) (n c : Nat) (xs : List Nat) (w : World) (h : Rb w p n xs) (hn : (n : Int) ≤ 8) :
    Calls Tryz.prog 197 #[.slice p n c] w fun e w' => e = .returned (.int .u64 ((hf xs : Nat) : Int)) ∧ w' = w := by
  go_enter Tryz.func197, Tryz.ntmps197
  go_wp2
  go_loopw [3, 8] (fun s i w' => ∃ k : Nat, k ≤ n ∧ i = .int .i64 k ∧ s = .int .u64 ((hf (xs.take k) : Nat) : Int) ∧ w' = w) (fun _ i _ => n - (intOf i).toNat)
  case atStart => exact ⟨0, Nat.zero_le _, rfl, rfl, rfl⟩
  case round =>
    obtain ⟨k, hk, rfl, rfl, rfl⟩ := hrel
    by_cases hlt : (k : Int) < (n : Int)
    · obtain ⟨b, o, rfl, hb⟩ := h.pt (by omega)
      have hc := hb k (by omega)
      have hx := h.byteAt k
      have HR : Hid (hf (xs.take (k + 1)) = hf (xs.take k) * 256 + xs.getD k 0) := by show _ = _; rw [take_snoc (by rw [h.len]; omega), hf_snoc]
      have hs := hf_lt k (xs.take k) (by rw [List.length_take, h.len]; omega) (h.take_byte k)
      have HS : Hid (hf (xs.take k) < 256 ^ 7) := Nat.lt_of_lt_of_le hs (pow256 k (by omega))
      obtain ⟨x, hxe⟩ : ∃ x, x = xs.getD k 0 := ⟨_, rfl⟩
      obtain ⟨s, hse⟩ : ∃ s, s = hf (xs.take k) := ⟨_, rfl⟩
      rw [← hxe] at hc hx HR
      rw [← hse] at HS HR ⊢
      clear hxe hse hb h hs
      have HE : Hid (_ = _) := u64_or_shift s x HS.out hx
      go_wp2
      go_roundw
      case rel => exact ⟨k + 1, by omega, by go_num, by rw [HR.out]; exact congrArg (Value.int .u64) HE.out, trivial⟩
      case measure => simp [intOf]; omega
    · have e : k = n := by omega
      subst e
      have HT : Hid (xs.take k = xs) := List.take_of_length_le (by rw [h.len]; omega)
      go_wp2
      go_ret
      exact ⟨ret_num (by rw [HT.out]), rfl⟩
/-- the length that a frame tells -/
def lkN (xs : List Nat) : Nat := xs.getD 1 0 * 256 + xs.getD 2 0
/-- what is wrong with the frame at the beginning -/
def lkE (xs : List Nat) : Nat :=
  if xs.length = 0 then 50
  else if xs.getD 0 0 ≠ 163 then 51
  else if xs.length < 3 then 50
  else if lkN xs = 0 then 51
  else if xs.length < lkN xs + 7 then 50
  else if (xs.take (3 + lkN xs + 4)).drop (3 + lkN xs) ≠ big (Crc.sum (xs.take (3 + lkN xs))) 4 then 52
  else 0
def lkP (xs : List Nat) : Nat := if lkE xs = 0 then 3 + lkN xs else 0

theorem i64_or_shift (a x : Nat) (ha : a < 256) (hx : x < 256) : bits .or .i64 ((a : Int) * 256) ((x : Nat) : Int) = ((a * 256 + x : Nat) : Int) := by
  have hor : a * 256 ||| x = a * 256 + x := by
    have := Nat.two_pow_add_eq_or_of_lt (i := 8) (b := x) (by omega) a
    rw [Nat.mul_comm a 256, show (256 : Nat) = 2 ^ 8 from rfl, ← this]
  rw [show (a : Int) * 256 = ((a * 256 : Nat) : Int) from by omega]
  show IntKind.i64.wrap ((BitVec.ofInt 64 ((a * 256 : Nat) : Int) ||| BitVec.ofInt 64 (x : Int)).toNat : Int) = _
  rw [BitVec.toNat_or, ofInt_u64 x (by omega), ofInt_u64 (a * 256) (by omega), hor, IntKind.wrap_i64]
  omega

end Go.Proofs.YtippipeebkkghaaGreatDoor
