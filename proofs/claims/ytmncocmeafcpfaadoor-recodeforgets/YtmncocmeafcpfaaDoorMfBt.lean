/- How the walk's bits read as natural numbers: the steps of the loops in galois. No Go text in sight, only the model's bits. -/
import Derived.Laws.BitsAllLaws
import Derived.WalkKit
import Derived.Test.YtmncocmeafcpfaaDoorMfGf
namespace Go.Proofs.YtmncocmeafcpfaaDoor.Mf
open Go.RowKit (wrap64)

theorem shr_cast (x k : Nat) : ((x : Int) / 2 ^ k) = ((x >>> k : Nat) : Int) := by
  rw [Nat.shiftRight_eq_div_pow]; simp

theorem rm_lt : ∀ k, k ≤ 15 → ∀ x, Gf.rm x k < 256 := by
  intro k
  induction k with
  | zero => intro _ x; simp [Gf.rm]
  | succ k ih =>
    intro hk x
    simp only [Gf.rm]
    have hp : ∀ k, k < 15 → Gf.pw k < 2 ^ 8 := by decide
    refine Nat.xor_lt_two_pow (n := 8) (ih (by omega) x) ?_
    rcases Gf.bit01 x k with e | e <;> simp [e]
    exact hp k (by omega)

theorem shr_lt (x k n : Nat) (h : x < n) : x >>> k < n := by
  rw [Nat.shiftRight_eq_div_pow]
  exact Nat.lt_of_le_of_lt (Nat.div_le_self _ _) h

theorem rem_step (x k : Nat) (hx : x < 32768) (hk : k < 15) :
    bits .xor .u8 (↑(Gf.rm x k)) (↑(Gf.pw k) * (bits .and .u64 ((x : Int) / 2 ^ k) 1 % 256) % 256) = ↑(Gf.rm x (k + 1)) := by
  have h1 := shr_lt x k _ hx
  rw [shr_cast, show (1 : Int) = ((1 : Nat) : Int) from rfl, u64_and_nat _ _ (by omega) (by omega)]
  have hp : ∀ k, k < 15 → Gf.pw k < 256 := by decide
  have hpk := hp k hk
  have hr := rm_lt k (by omega) x
  rcases Gf.bit01 x k with e | e
  · simp only [Gf.rm, e]
    rw [show ((Gf.pw k : Nat) : Int) * (((0 : Nat) : Int) % 256) % 256 = ((0 : Nat) : Int) from by simp, u8_xor_nat _ _ hr (by omega)]
    simp
  · simp only [Gf.rm, e]
    rw [show ((Gf.pw k : Nat) : Int) * (((1 : Nat) : Int) % 256) % 256 = ((Gf.pw k * 1 : Nat) : Int) from by omega, u8_xor_nat _ _ hr (by omega)]

theorem shl_lt (a k : Nat) (ha : a < 256) : a <<< k < 2 ^ (k + 8) := by
  rw [Nat.shiftLeft_eq, Nat.add_comm k 8, Nat.pow_add]
  exact Nat.mul_lt_mul_of_pos_right ha (Nat.two_pow_pos k)
theorem cl_lt (a b : Nat) (ha : a < 256) : ∀ k, Gf.cl a b k < 2 ^ (k + 7)
  | 0 => by simp [Gf.cl]
  | k + 1 => by
    simp only [Gf.cl]
    refine Nat.xor_lt_two_pow (n := k + 1 + 7) (Nat.lt_trans (cl_lt a b ha k) (Nat.pow_lt_pow_right (by omega) (by omega))) ?_
    have h := shl_lt a k ha
    rw [show k + 1 + 7 = k + 8 from by omega]
    rcases Gf.bit01 b k with e | e <;> simp [e]
    · exact Nat.lt_of_le_of_lt (Nat.zero_le _) h
    · exact h
theorem cl_lt8 (a b : Nat) (ha : a < 256) (k : Nat) (hk : k ≤ 8) : Gf.cl a b k < 32768 := by
  have h := cl_lt a b ha k
  have : 2 ^ (k + 7) ≤ 2 ^ 15 := Nat.pow_le_pow_right (by omega) (by omega)
  omega
theorem wrap_u64_nat (n : Nat) (h : n < 18446744073709551616) : IntKind.u64.wrap (n : Int) = n := by
  have : IntKind.u64.wrap (n : Int) = (n : Int) % 18446744073709551616 := by simp [IntKind.wrap, IntKind.bits, IntKind.signed]
  rw [this]; omega
theorem shl_cast (a k : Nat) : ((a : Int) * 2 ^ k) = ((a <<< k : Nat) : Int) := by
  rw [Nat.shiftLeft_eq]; simp
theorem shl_lt8 (a k : Nat) (ha : a < 256) (hk : k ≤ 7) : a <<< k < 32768 := by
  have h := shl_lt a k ha
  have : 2 ^ (k + 8) ≤ 2 ^ 15 := Nat.pow_le_pow_right (by omega) (by omega)
  omega
theorem mul_step (a b k : Nat) (ha : a < 256) (hb : b < 256) (hk : k < 8) :
    bits .xor .u64 (↑(Gf.cl a b k)) (IntKind.u64.wrap (IntKind.u64.wrap ((a : Int) * 2 ^ k) * IntKind.u64.wrap (bits .and .u8 ((b : Int) / 2 ^ k) 1))) = ↑(Gf.cl a b (k + 1)) := by
  have h1 := shr_lt b k _ hb
  have h2 := shl_lt8 a k ha (by omega)
  have h3 := cl_lt8 a b ha k (by omega)
  rw [shr_cast, shl_cast, show (1 : Int) = ((1 : Nat) : Int) from rfl, u8_and_nat _ _ h1 (by omega), wrap_u64_nat (a <<< k) (by omega)]
  simp only [Gf.cl]
  rcases Gf.bit01 b k with e | e
  · rw [e, wrap_u64_nat _ (by omega), ← Int.natCast_mul, wrap_u64_nat _ (by omega), u64_xor_nat _ _ (by omega) (by omega)]
  · rw [e, wrap_u64_nat _ (by omega), ← Int.natCast_mul, wrap_u64_nat _ (by omega), u64_xor_nat _ _ (by omega) (by omega)]
theorem wrap64_nat (n : Nat) (h : n < 9223372036854775808) : wrap64 (n : Int) = n := by
  unfold wrap64; omega
theorem wrap_i64_nat (n : Nat) (h : n < 9223372036854775808) : IntKind.i64.wrap (n : Int) = n := by
  rw [IntKind.wrap_i64]; omega
theorem i64_xor_nat (a b : Nat) (ha : a < 4611686018427387904) (hb : b < 4611686018427387904) : bits .xor .i64 (a : Int) (b : Int) = ((a ^^^ b : Nat) : Int) := by
  have hx : a ^^^ b < 2 ^ 62 := Nat.xor_lt_two_pow (by omega) (by omega)
  show IntKind.i64.wrap ((BitVec.ofInt 64 (a : Int) ^^^ BitVec.ofInt 64 (b : Int)).toNat : Int) = _
  rw [BitVec.toNat_xor, ofInt_u64 a (by omega), ofInt_u64 b (by omega), wrap_i64_nat _ (by omega)]
theorem i64_and_nat (a b : Nat) (ha : a < 9223372036854775808) (hb : b < 9223372036854775808) : bits .and .i64 (a : Int) (b : Int) = ((a &&& b : Nat) : Int) := by
  have hx : a &&& b < 2 ^ 63 := Nat.and_lt_two_pow _ (by omega)
  show IntKind.i64.wrap ((BitVec.ofInt 64 (a : Int) &&& BitVec.ofInt 64 (b : Int)).toNat : Int) = _
  rw [BitVec.toNat_and, ofInt_u64 a (by omega), ofInt_u64 b (by omega), wrap_i64_nat _ (by omega)]
theorem u8bit (b k : Nat) (hb : b < 256) : bits .and .u8 ((b : Int) / 2 ^ k) 1 = (((b >>> k) &&& 1 : Nat) : Int) := by
  rw [shr_cast, show (1 : Int) = ((1 : Nat) : Int) from rfl, u8_and_nat _ _ (shr_lt b k _ hb) (by omega)]
theorem i64bit (b k : Nat) (hb : b < 9223372036854775808) : bits .and .i64 ((b : Int) / 2 ^ k) 1 = (((b >>> k) &&& 1 : Nat) : Int) := by
  rw [shr_cast, show (1 : Int) = ((1 : Nat) : Int) from rfl, i64_and_nat _ _ (shr_lt b k _ hb) (by omega)]
theorem rmul_yes (a b k : Nat) (ha : a < 256) (hb : b < 256) (hk : k < 8) (h : (bits .and .u8 ((b : Int) / 2 ^ k) 1 == 1) = true) :
    bits .xor .i64 (↑(Gf.cl a b k)) (wrap64 ((a : Int) * 2 ^ k)) = ↑(Gf.cl a b (k + 1)) := by
  have h2 := shl_lt8 a k ha (by omega)
  have h3 := cl_lt8 a b ha k (by omega)
  rw [u8bit b k hb] at h
  have e : (b >>> k) &&& 1 = 1 := Int.natCast_inj.mp ((beq_iff_eq.1 h).trans rfl)
  rw [shl_cast, wrap64_nat _ (by omega), i64_xor_nat _ _ (by omega) (by omega)]
  simp only [Gf.cl, e, Nat.mul_one]
theorem rmul_no (a b k : Nat) (hb : b < 256) (h : (bits .and .u8 ((b : Int) / 2 ^ k) 1 == 1) = false) :
    Gf.cl a b k = Gf.cl a b (k + 1) := by
  rw [u8bit b k hb] at h
  have e : (b >>> k) &&& 1 = 0 := by
    rcases Gf.bit01 b k with e | e
    · exact e
    · rw [e] at h; simp at h
  simp [Gf.cl, e]
theorem red_yes (p j : Nat) (h1 : 1 ≤ j) (hj : j ≤ 7) (hp : p < 32768) (h : (bits .and .i64 ((p : Int) / 2 ^ (7 + j)) 1 == 1) = true) :
    bits .xor .i64 (p : Int) (wrap64 (285 * 2 ^ (7 + j - 8))) = ↑(p ^^^ (0x11d <<< (j - 1))) ∧ p ^^^ (0x11d <<< (j - 1)) < 32768 ∧ Gf.red p j = Gf.red (p ^^^ (0x11d <<< (j - 1))) (j - 1) := by
  obtain ⟨i, rfl⟩ : ∃ i, j = i + 1 := ⟨j - 1, by omega⟩
  rw [i64bit p _ (by omega)] at h
  have e : (p >>> (i + 8)) &&& 1 = 1 := by
    have : (p >>> (7 + (i + 1))) &&& 1 = 1 := Int.natCast_inj.mp ((beq_iff_eq.1 h).trans rfl)
    rwa [show 7 + (i + 1) = i + 8 from by omega] at this
  have hs : 285 <<< i < 2 ^ 15 := by
    have : ∀ i, i < 7 → 285 <<< i < 2 ^ 15 := by decide
    exact this i (by omega)
  refine ⟨?_, Nat.xor_lt_two_pow (n := 15) hp (by simpa using hs), ?_⟩
  · rw [show 7 + (i + 1) - 8 = i from by omega, show (285 : Int) = ((285 : Nat) : Int) from rfl, shl_cast, wrap64_nat _ (by omega), i64_xor_nat _ _ (by omega) (by omega)]
    simp
  · simp [Gf.red, e]
theorem red_no (p j : Nat) (h1 : 1 ≤ j) (hp : p < 32768) (h : (bits .and .i64 ((p : Int) / 2 ^ (7 + j)) 1 == 1) = false) :
    Gf.red p j = Gf.red p (j - 1) := by
  obtain ⟨i, rfl⟩ : ∃ i, j = i + 1 := ⟨j - 1, by omega⟩
  rw [i64bit p _ (by omega)] at h
  have e : (p >>> (i + 8)) &&& 1 = 0 := by
    have h' : ((((p >>> (i + 8)) &&& 1 : Nat) : Int) == 1) = false := by rwa [show 7 + (i + 1) = i + 8 from by omega] at h
    rcases Gf.bit01 p (i + 8) with e | e
    · exact e
    · rw [e] at h'; simp at h'
  simp [Gf.red, e]
end Go.Proofs.YtmncocmeafcpfaaDoor.Mf
