/- Texts of this proof, joined: S0, Bt, Ga. -/
import Derived.Test.YtbmhfclknilcoaaDoorMgAB
import Derived.Laws.BitsAllLaws
import Derived.WalkKit
import Derived.Test.YtbmhfclknilcoaaDoorMgAA
import Derived.Test.YtbmhfclknilcoaaDoorProg
import Derived.WalkSpells
import Derived.Deep.QuietTactic
import Derived.BigQuiet
import Derived.RowKit3
/- Stripes, plain: how long shards are, where each byte of a blob stands. No Go in sight. -/
namespace Go.Proofs.YtbmhfclknilcoaaDoor

def stripesOf (K size : Nat) : Nat := max 1 ((size + K * 8 - 1) / (K * 8))
def lenOf (K size : Nat) : Nat := stripesOf K size * 8
theorem quot_le {K size : Nat} (hK : 1 ≤ K) (hs : size ≤ 400) : (size + K * 8 - 1) / (K * 8) ≤ 50 := by
  have h : (size + K * 8 - 1) / (K * 8) * (K * 8) ≤ size + K * 8 - 1 := Nat.div_mul_le_self _ _
  generalize (size + K * 8 - 1) / (K * 8) = q at h
  rcases Nat.lt_or_ge 50 q with hq | hq
  · have : 51 * (K * 8) ≤ q * (K * 8) := Nat.mul_le_mul_right _ hq
    omega
  · exact hq
theorem stripesOf_bd {K size : Nat} (hK : 1 ≤ K) (hs : size ≤ 400) : 1 ≤ stripesOf K size ∧ stripesOf K size ≤ 50 := by
  have := quot_le hK hs
  unfold stripesOf; omega
theorem lenOf_bd {K size : Nat} (hK : 1 ≤ K) (hs : size ≤ 400) : 8 ≤ lenOf K size ∧ lenOf K size ≤ 400 := by
  have := stripesOf_bd hK hs
  unfold lenOf; omega
theorem quot_eq {K size : Nat} (hK : 1 ≤ K) : ((size : Int) + (K : Int) * 8 - 1).tdiv ((K : Int) * 8) = (((size + K * 8 - 1) / (K * 8) : Nat) : Int) := by
  rw [show (size : Int) + (K : Int) * 8 - 1 = ((size + K * 8 - 1 : Nat) : Int) from by omega, show (K : Int) * 8 = ((K * 8 : Nat) : Int) from by omega]
  rfl
/-- in which shard byte i stands, and where -/
def seatK (K i : Nat) : Nat := i % (K * 8) / 8
def seatAt (K i : Nat) : Nat := i / (K * 8) * 8 + i % (K * 8) % 8
/-- which byte stands in shard j at p -/
def byteAt (K j p : Nat) : Nat := (p / 8 * K + j) * 8 + p % 8
theorem seatK_lt {K : Nat} (hK : 1 ≤ K) (i : Nat) : seatK K i < K := by
  have := Nat.mod_lt i (show 0 < K * 8 by omega)
  unfold seatK; omega
theorem byteAt_seat {K : Nat} (i : Nat) : byteAt K (seatK K i) (seatAt K i) = i := by
  unfold byteAt seatK seatAt
  have e1 : (i / (K * 8) * 8 + i % (K * 8) % 8) / 8 = i / (K * 8) := by omega
  have e2 : (i / (K * 8) * 8 + i % (K * 8) % 8) % 8 = i % (K * 8) % 8 := by omega
  rw [e1, e2]
  have h := Nat.div_add_mod i (K * 8)
  have e3 : (i / (K * 8) * K + i % (K * 8) / 8) * 8 = K * 8 * (i / (K * 8)) + i % (K * 8) / 8 * 8 := by
    rw [Nat.add_mul, Nat.mul_assoc, Nat.mul_comm (i / (K * 8)) (K * 8)]
  omega
theorem byte_split {K j p : Nat} (hj : j < K) : byteAt K j p / (K * 8) = p / 8 ∧ byteAt K j p % (K * 8) = j * 8 + p % 8 := by
  have e : byteAt K j p = (j * 8 + p % 8) + K * 8 * (p / 8) := by
    unfold byteAt
    rw [Nat.add_mul, Nat.mul_assoc, Nat.mul_comm (p / 8) (K * 8)]; omega
  have hl : j * 8 + p % 8 < K * 8 := by omega
  rw [e, Nat.add_mul_div_left _ _ (by omega), Nat.add_mul_mod_self_left, Nat.div_eq_of_lt hl, Nat.mod_eq_of_lt hl]
  omega
theorem seat_byte {K j p : Nat} (hj : j < K) : seatK K (byteAt K j p) = j ∧ seatAt K (byteAt K j p) = p := by
  obtain ⟨h1, h2⟩ := byte_split (p := p) hj
  unfold seatK seatAt
  rw [h1, h2]; omega
theorem byteAt_iff {K j p i : Nat} (hj : j < K) : byteAt K j p = i ↔ j = seatK K i ∧ p = seatAt K i := by
  constructor
  · rintro rfl
    obtain ⟨h1, h2⟩ := seat_byte (p := p) hj
    exact ⟨h1.symm, h2.symm⟩
  · rintro ⟨rfl, rfl⟩
    exact byteAt_seat i
theorem seatAt_lt {K size i : Nat} (hK : 1 ≤ K) (hi : i < size) : seatAt K i < lenOf K size := by
  unfold seatAt lenOf
  have h1 : i / (K * 8) + 1 ≤ (size + K * 8 - 1) / (K * 8) := by
    rw [Nat.le_div_iff_mul_le (by omega), Nat.add_mul, Nat.one_mul]
    have := Nat.div_mul_le_self i (K * 8)
    omega
  have h2 : i / (K * 8) + 1 ≤ stripesOf K size := by unfold stripesOf; omega
  omega
/-- the data, when cnt of the bytes f are dealt out -/
def cutAt (K : Nat) (f : Nat → Nat) (cnt : Nat) : Nat → Nat → Nat := fun j p => if byteAt K j p < cnt then f (byteAt K j p) else 0
theorem cutAt_zero (K : Nat) (f : Nat → Nat) : cutAt K f 0 = fun _ _ => 0 := by funext j p; simp [cutAt]
theorem cutAt_lt {f : Nat → Nat} (hf : ∀ i, f i < 256) (K cnt j p : Nat) : cutAt K f cnt j p < 256 := by
  unfold cutAt; split
  · exact hf _
  · omega
theorem cutAt_step (K : Nat) (f : Nat → Nat) (cnt : Nat) {j : Nat} (hj : j < K) (p : Nat) : (if j = seatK K cnt ∧ p = seatAt K cnt then f cnt else cutAt K f cnt j p) = cutAt K f (cnt + 1) j p := by
  unfold cutAt
  by_cases e : byteAt K j p = cnt
  · rw [if_pos ((byteAt_iff hj).1 e), if_pos (by omega), e]
  · rw [if_neg (fun h => e ((byteAt_iff hj).2 h))]
    by_cases h : byteAt K j p < cnt
    · rw [if_pos h, if_pos (by omega)]
    · rw [if_neg h, if_neg (by omega)]
theorem cutAt_seat (K : Nat) (f : Nat → Nat) {cnt i : Nat} (hi : i < cnt) : cutAt K f cnt (seatK K i) (seatAt K i) = f i := by
  unfold cutAt
  rw [byteAt_seat, if_pos hi]
theorem seat_eq {K i : Nat} (_hK : 1 ≤ K) : (i : Int).tdiv ((K : Int) * 8) = ((i / (K * 8) : Nat) : Int) ∧ (i : Int).tmod ((K : Int) * 8) = ((i % (K * 8) : Nat) : Int) := by
  rw [show (K : Int) * 8 = ((K * 8 : Nat) : Int) from by omega]
  exact ⟨rfl, rfl⟩
end Go.Proofs.YtbmhfclknilcoaaDoor

/- How the walk's bits read as natural numbers: the steps of the loops in galois. No Go text in sight, only the model's bits. -/
namespace Go.Proofs.YtbmhfclknilcoaaDoor
open Go.RowKit (wrap64)

theorem shr_cast (x k : Nat) : ((x : Int) / 2 ^ k) = ((x >>> k : Nat) : Int) := by
  rw [Nat.shiftRight_eq_div_pow]; simp

theorem rm_lt : ∀ k, k ≤ 15 → ∀ x, Gf.rm x k < 256 := by
  intro k
  induction k with
  | zero => intro _ x; simp [Gf.rm]
  | succ k ih =>
    intro hk x
    simp only [Gf.rm]
    have hp : ∀ k, k < 15 → Gf.pw k < 2 ^ 8 := by decide
    refine Nat.xor_lt_two_pow (n := 8) (ih (by omega) x) ?_
    rcases Gf.bit01 x k with e | e <;> simp [e]
    exact hp k (by omega)

theorem shr_lt (x k n : Nat) (h : x < n) : x >>> k < n := by
  rw [Nat.shiftRight_eq_div_pow]
  exact Nat.lt_of_le_of_lt (Nat.div_le_self _ _) h

theorem rem_step (x k : Nat) (hx : x < 32768) (hk : k < 15) :
    bits .xor .u8 (↑(Gf.rm x k)) (↑(Gf.pw k) * (bits .and .u64 ((x : Int) / 2 ^ k) 1 % 256) % 256) = ↑(Gf.rm x (k + 1)) := by
  have h1 := shr_lt x k _ hx
  rw [shr_cast, show (1 : Int) = ((1 : Nat) : Int) from rfl, u64_and_nat _ _ (by omega) (by omega)]
  have hp : ∀ k, k < 15 → Gf.pw k < 256 := by decide
  have hpk := hp k hk
  have hr := rm_lt k (by omega) x
  rcases Gf.bit01 x k with e | e
  · simp only [Gf.rm, e]
    rw [show ((Gf.pw k : Nat) : Int) * (((0 : Nat) : Int) % 256) % 256 = ((0 : Nat) : Int) from by simp, u8_xor_nat _ _ hr (by omega)]
    simp
  · simp only [Gf.rm, e]
    rw [show ((Gf.pw k : Nat) : Int) * (((1 : Nat) : Int) % 256) % 256 = ((Gf.pw k * 1 : Nat) : Int) from by omega, u8_xor_nat _ _ hr (by omega)]

theorem shl_lt (a k : Nat) (ha : a < 256) : a <<< k < 2 ^ (k + 8) := by
  rw [Nat.shiftLeft_eq, Nat.add_comm k 8, Nat.pow_add]
  exact Nat.mul_lt_mul_of_pos_right ha (Nat.two_pow_pos k)
theorem cl_lt (a b : Nat) (ha : a < 256) : ∀ k, Gf.cl a b k < 2 ^ (k + 7)
  | 0 => by simp [Gf.cl]
  | k + 1 => by
    simp only [Gf.cl]
    refine Nat.xor_lt_two_pow (n := k + 1 + 7) (Nat.lt_trans (cl_lt a b ha k) (Nat.pow_lt_pow_right (by omega) (by omega))) ?_
    have h := shl_lt a k ha
    rw [show k + 1 + 7 = k + 8 from by omega]
    rcases Gf.bit01 b k with e | e <;> simp [e]
    · exact Nat.lt_of_le_of_lt (Nat.zero_le _) h
    · exact h
theorem cl_lt8 (a b : Nat) (ha : a < 256) (k : Nat) (hk : k ≤ 8) : Gf.cl a b k < 32768 := by
  have h := cl_lt a b ha k
  have : 2 ^ (k + 7) ≤ 2 ^ 15 := Nat.pow_le_pow_right (by omega) (by omega)
  omega
theorem wrap_u64_nat (n : Nat) (h : n < 18446744073709551616) : IntKind.u64.wrap (n : Int) = n := by
  have : IntKind.u64.wrap (n : Int) = (n : Int) % 18446744073709551616 := by simp [IntKind.wrap, IntKind.bits, IntKind.signed]
  rw [this]; omega
theorem shl_cast (a k : Nat) : ((a : Int) * 2 ^ k) = ((a <<< k : Nat) : Int) := by
  rw [Nat.shiftLeft_eq]; simp
theorem shl_lt8 (a k : Nat) (ha : a < 256) (hk : k ≤ 7) : a <<< k < 32768 := by
  have h := shl_lt a k ha
  have : 2 ^ (k + 8) ≤ 2 ^ 15 := Nat.pow_le_pow_right (by omega) (by omega)
  omega
theorem mul_step (a b k : Nat) (ha : a < 256) (hb : b < 256) (hk : k < 8) :
    bits .xor .u64 (↑(Gf.cl a b k)) (IntKind.u64.wrap (IntKind.u64.wrap ((a : Int) * 2 ^ k) * IntKind.u64.wrap (bits .and .u8 ((b : Int) / 2 ^ k) 1))) = ↑(Gf.cl a b (k + 1)) := by
  have h1 := shr_lt b k _ hb
  have h2 := shl_lt8 a k ha (by omega)
  have h3 := cl_lt8 a b ha k (by omega)
  rw [shr_cast, shl_cast, show (1 : Int) = ((1 : Nat) : Int) from rfl, u8_and_nat _ _ h1 (by omega), wrap_u64_nat (a <<< k) (by omega)]
  simp only [Gf.cl]
  rcases Gf.bit01 b k with e | e
  · rw [e, wrap_u64_nat _ (by omega), ← Int.natCast_mul, wrap_u64_nat _ (by omega), u64_xor_nat _ _ (by omega) (by omega)]
  · rw [e, wrap_u64_nat _ (by omega), ← Int.natCast_mul, wrap_u64_nat _ (by omega), u64_xor_nat _ _ (by omega) (by omega)]
theorem wrap64_nat (n : Nat) (h : n < 9223372036854775808) : wrap64 (n : Int) = n := by
  unfold wrap64; omega
theorem wrap_i64_nat (n : Nat) (h : n < 9223372036854775808) : IntKind.i64.wrap (n : Int) = n := by
  rw [IntKind.wrap_i64]; omega
theorem i64_xor_nat (a b : Nat) (ha : a < 4611686018427387904) (hb : b < 4611686018427387904) : bits .xor .i64 (a : Int) (b : Int) = ((a ^^^ b : Nat) : Int) := by
  have hx : a ^^^ b < 2 ^ 62 := Nat.xor_lt_two_pow (by omega) (by omega)
  show IntKind.i64.wrap ((BitVec.ofInt 64 (a : Int) ^^^ BitVec.ofInt 64 (b : Int)).toNat : Int) = _
  rw [BitVec.toNat_xor, ofInt_u64 a (by omega), ofInt_u64 b (by omega), wrap_i64_nat _ (by omega)]
theorem i64_and_nat (a b : Nat) (ha : a < 9223372036854775808) (hb : b < 9223372036854775808) : bits .and .i64 (a : Int) (b : Int) = ((a &&& b : Nat) : Int) := by
  have hx : a &&& b < 2 ^ 63 := Nat.and_lt_two_pow _ (by omega)
  show IntKind.i64.wrap ((BitVec.ofInt 64 (a : Int) &&& BitVec.ofInt 64 (b : Int)).toNat : Int) = _
  rw [BitVec.toNat_and, ofInt_u64 a (by omega), ofInt_u64 b (by omega), wrap_i64_nat _ (by omega)]
theorem u8bit (b k : Nat) (hb : b < 256) : bits .and .u8 ((b : Int) / 2 ^ k) 1 = (((b >>> k) &&& 1 : Nat) : Int) := by
  rw [shr_cast, show (1 : Int) = ((1 : Nat) : Int) from rfl, u8_and_nat _ _ (shr_lt b k _ hb) (by omega)]
theorem i64bit (b k : Nat) (hb : b < 9223372036854775808) : bits .and .i64 ((b : Int) / 2 ^ k) 1 = (((b >>> k) &&& 1 : Nat) : Int) := by
  rw [shr_cast, show (1 : Int) = ((1 : Nat) : Int) from rfl, i64_and_nat _ _ (shr_lt b k _ hb) (by omega)]
theorem rmul_yes (a b k : Nat) (ha : a < 256) (hb : b < 256) (hk : k < 8) (h : (bits .and .u8 ((b : Int) / 2 ^ k) 1 == 1) = true) :
    bits .xor .i64 (↑(Gf.cl a b k)) (wrap64 ((a : Int) * 2 ^ k)) = ↑(Gf.cl a b (k + 1)) := by
  have h2 := shl_lt8 a k ha (by omega)
  have h3 := cl_lt8 a b ha k (by omega)
  rw [u8bit b k hb] at h
  have e : (b >>> k) &&& 1 = 1 := Int.natCast_inj.mp ((beq_iff_eq.1 h).trans rfl)
  rw [shl_cast, wrap64_nat _ (by omega), i64_xor_nat _ _ (by omega) (by omega)]
  simp only [Gf.cl, e, Nat.mul_one]
theorem rmul_no (a b k : Nat) (hb : b < 256) (h : (bits .and .u8 ((b : Int) / 2 ^ k) 1 == 1) = false) :
    Gf.cl a b k = Gf.cl a b (k + 1) := by
  rw [u8bit b k hb] at h
  have e : (b >>> k) &&& 1 = 0 := by
    rcases Gf.bit01 b k with e | e
    · exact e
    · rw [e] at h; simp at h
  simp [Gf.cl, e]
theorem red_yes (p j : Nat) (h1 : 1 ≤ j) (hj : j ≤ 7) (hp : p < 32768) (h : (bits .and .i64 ((p : Int) / 2 ^ (7 + j)) 1 == 1) = true) :
    bits .xor .i64 (p : Int) (wrap64 (285 * 2 ^ (7 + j - 8))) = ↑(p ^^^ (0x11d <<< (j - 1))) ∧ p ^^^ (0x11d <<< (j - 1)) < 32768 ∧ Gf.red p j = Gf.red (p ^^^ (0x11d <<< (j - 1))) (j - 1) := by
  obtain ⟨i, rfl⟩ : ∃ i, j = i + 1 := ⟨j - 1, by omega⟩
  rw [i64bit p _ (by omega)] at h
  have e : (p >>> (i + 8)) &&& 1 = 1 := by
    have : (p >>> (7 + (i + 1))) &&& 1 = 1 := Int.natCast_inj.mp ((beq_iff_eq.1 h).trans rfl)
    rwa [show 7 + (i + 1) = i + 8 from by omega] at this
  have hs : 285 <<< i < 2 ^ 15 := by
    have : ∀ i, i < 7 → 285 <<< i < 2 ^ 15 := by decide
    exact this i (by omega)
  refine ⟨?_, Nat.xor_lt_two_pow (n := 15) hp (by simpa using hs), ?_⟩
  · rw [show 7 + (i + 1) - 8 = i from by omega, show (285 : Int) = ((285 : Nat) : Int) from rfl, shl_cast, wrap64_nat _ (by omega), i64_xor_nat _ _ (by omega) (by omega)]
    simp
  · simp [Gf.red, e]
theorem red_no (p j : Nat) (h1 : 1 ≤ j) (hp : p < 32768) (h : (bits .and .i64 ((p : Int) / 2 ^ (7 + j)) 1 == 1) = false) :
    Gf.red p j = Gf.red p (j - 1) := by
  obtain ⟨i, rfl⟩ : ∃ i, j = i + 1 := ⟨j - 1, by omega⟩
  rw [i64bit p _ (by omega)] at h
  have e : (p >>> (i + 8)) &&& 1 = 0 := by
    have h' : ((((p >>> (i + 8)) &&& 1 : Nat) : Int) == 1) = false := by rwa [show 7 + (i + 1) = i + 8 from by omega] at h
    rcases Gf.bit01 p (i + 8) with e | e
    · exact e
    · rw [e] at h'; simp at h'
  simp [Gf.red, e]
end Go.Proofs.YtbmhfclknilcoaaDoor

/- The walks of galois.remainder, Mul, Pow, Add, Div and Inv: each returns what the field of Gf has, given that the table of powers lies in memory; nothing in memory changes. -/
namespace Go.Proofs.YtbmhfclknilcoaaDoor
open Go.RowKit

/-- the table of powers lies in memory -/
def Pows (w : World) : Prop := ∀ k : Nat, k < 15 → w.cell? ⟨0, k, none⟩ = some (.int .u8 (Gf.pw k))
theorem Pows.drewN {w : World} (h : Pows w) (n : Nat) : Pows (w.drewN n) := fun k hk => by
  have := h k hk
  go_simp
theorem drewN_add (w : World) (n m : Nat) : (w.drewN n).drewN m = w.drewN (n + m) := by
  first | rfl | simp

set_option maxRecDepth 100000 in
set_option maxHeartbeats 400000 in
theorem rem_any (x : Nat) (w : World) (hx : (x : Int) < 32768) (hp : Pows w) :
    Calls Tryd.prog 74 #[.int .u64 x] w fun e w' => e = .returned (.int .u8 (Gf.rm x 15)) ∧ ∃ n, w' = w.drewN n := by
  go_enter Tryd.func74, Tryd.ntmps74
  go_wp2
  go_loopw [3, 5] (fun s i w' => ∃ k : Nat, k ≤ 15 ∧ i = .int .i64 k ∧ s = .int .u8 (Gf.rm x k) ∧ ∃ n, w' = w.drewN n) (fun _ i _ => 15 - (intOf i).toNat)
  case atStart => exact ⟨0, Nat.zero_le _, rfl, rfl, 0, rfl⟩
  case round =>
    obtain ⟨k, hk, rfl, rfl, n, rfl⟩ := hrel
    by_cases hlt : (k : Int) < 15
    · have hc := hp k (by omega)
      have HS : Hid (_ = _) := rem_step x k (by omega) (by omega)
      go_wp2
      go_quiet (fail)
      rw [HS.out]
      go_wp2
      go_roundw
      case rel => exact ⟨k + 1, by omega, by go_num, rfl, n + nq, rfl⟩
      case measure => simp [intOf]; omega
    · have e : k = 15 := by omega
      subst e
      go_wp2
      go_ret
      exact ⟨rfl, n, rfl⟩

set_option maxRecDepth 100000 in
set_option maxHeartbeats 400000 in
theorem mul_nat (a b : Nat) (w : World) (ha : (a : Int) < 256) (hb : (b : Int) < 256) (hp : Pows w) :
    Calls Tryd.prog 69 #[.int .u8 a, .int .u8 b] w fun e w' => e = .returned (.int .u8 (Gf.mul a b)) ∧ ∃ n, w' = w.drewN n := by
  go_enter Tryd.func69, Tryd.ntmps69
  go_wp2
  go_loopw [5, 7] (fun s i w' => ∃ k : Nat, k ≤ 8 ∧ i = .int .i64 k ∧ s = .int .u64 (Gf.cl a b k) ∧ ∃ n, w' = w.drewN n) (fun _ i _ => 8 - (intOf i).toNat)
  case atStart => exact ⟨0, Nat.zero_le _, rfl, rfl, 0, rfl⟩
  case round =>
    obtain ⟨k, hk, rfl, rfl, n, rfl⟩ := hrel
    by_cases hlt : (k : Int) < 8
    · have HS : Hid (_ = _) := mul_step a b k (by omega) (by omega) (by omega)
      go_wp2
      go_quiet (fail)
      rw [HS.out]
      go_wp2
      go_roundw
      case rel => exact ⟨k + 1, by omega, by go_num, rfl, n + nq, rfl⟩
      case measure => simp [intOf]; omega
    · have e : k = 8 := by omega
      subst e
      have hl := cl_lt8 a b (by omega) 8 (by omega)
      go_wp2_with (go_at_call 74; refine (rem_any _ _ (by omega) (hp.drewN _)).mono ?_; rintro e w' ⟨rfl, m, rfl⟩)
      go_ret
      exact ⟨rfl, n + m, rfl⟩

theorem i64_odd (M : Nat) (hM : M < 9223372036854775808) : bits .and .i64 (M : Int) 1 = ((M % 2 : Nat) : Int) := by
  rw [show (1 : Int) = ((1 : Nat) : Int) from rfl, i64_and_nat _ _ hM (by omega), Nat.and_one_is_mod]

set_option maxRecDepth 100000 in
set_option maxHeartbeats 400000 in
theorem pow_nat (a N : Nat) (w : World) (ha : (a : Int) < 256) (hN : Hid (N < 9223372036854775808)) (hp : Pows w) :
    Calls Tryd.prog 73 #[.int .u8 a, .int .i64 N] w fun e w' => e = .returned (.int .u8 (Gf.pow a N)) ∧ ∃ n, w' = w.drewN n := by
  go_enter Tryd.func73, Tryd.ntmps73
  go_wp2
  go_loopw [0, 1, 5] (fun s i p w' => ∃ x y M : Nat, x < 256 ∧ y < 256 ∧ Hid (M < 9223372036854775808) ∧ s = .int .u8 x ∧ i = .int .i64 M ∧ p = .int .u8 y ∧ Hid (Gf.mul y (Gf.pow x M) = Gf.pow a N) ∧ ∃ n, w' = w.drewN n) (fun _ i _ _ => (intOf i).toNat)
  case atStart => exact ⟨a, 1, N, by omega, by omega, hN, rfl, rfl, rfl, Gf.one_mul _ (Gf.pow_lt a (by omega) N), 0, rfl⟩
  case round =>
    obtain ⟨x, y, M, hx, hy, hM, rfl, rfl, rfl, hr, n, rfl⟩ := hrel
    by_cases h0 : 0 < (M : Int)
    · have hodd := i64_odd M hM.out
      have hm1 := Gf.mul_lt y x
      have hm2 := Gf.mul_lt x x
      by_cases h1 : M % 2 = 1
      · have hb : (bits .and .i64 (M : Int) 1 == 1) = true := by rw [hodd, h1]; rfl
        have HP : Hid (_ = _) := Gf.pow_odd x y M hx hy h1
        clear hodd h1
        go_wp2_with (go_at_call 69; refine (mul_nat _ _ _ (by omega) (by omega) (hp.drewN _)).mono ?_; rintro e w' ⟨rfl, m, rfl⟩)
        exact ⟨⟨_, _, M / 2, hm2, by omega, Nat.lt_of_le_of_lt (Nat.div_le_self _ _) hM.out, rfl, by go_num, rfl, HP.out.trans hr.out, _, rfl⟩, by simp [intOf]; omega⟩
      · have hb : (bits .and .i64 (M : Int) 1 == 1) = false := by rw [hodd, show M % 2 = 0 from by omega]; rfl
        have HP : Hid (_ = _) := Gf.pow_even x y M hx (by omega)
        clear hodd h1
        go_wp2_with (go_at_call 69; refine (mul_nat _ _ _ (by omega) (by omega) (hp.drewN _)).mono ?_; rintro e w' ⟨rfl, m, rfl⟩)
        exact ⟨⟨_, _, M / 2, hm2, by omega, Nat.lt_of_le_of_lt (Nat.div_le_self _ _) hM.out, rfl, by go_num, rfl, HP.out.trans hr.out, _, rfl⟩, by simp [intOf]; omega⟩
    · have e : M = 0 := by omega
      subst e
      have H5 : Hid (y = Gf.pow a N) := by rw [← hr.out]; exact (Gf.mul_one y hy).symm
      go_wp2
      go_ret
      exact ⟨by rw [← H5.out]; rfl, n, rfl⟩

set_option maxRecDepth 100000 in
set_option maxHeartbeats 400000 in
theorem pow_none (a N : Int) (w : World) (hN : N ≤ 0) :
    Calls Tryd.prog 73 #[.int .u8 a, .int .i64 N] w fun e w' => e = .returned (.int .u8 1) ∧ ∃ n, w' = w.drewN n := by
  go_enter Tryd.func73, Tryd.ntmps73
  go_wp2
  go_loopw [0, 1, 5] (fun s i p w' => s = .int .u8 a ∧ i = .int .i64 N ∧ p = .int .u8 1 ∧ w' = w) (fun _ i _ _ => (intOf i).toNat)
  case atStart => exact ⟨rfl, rfl, rfl, rfl⟩
  case round =>
    obtain ⟨rfl, rfl, rfl, rfl⟩ := hrel
    go_wp2
    go_ret
    exact ⟨rfl, 0, rfl⟩

theorem pow_any (a : Nat) (N : Int) (w : World) (ha : (a : Int) < 256) (hN : Hid (N < 9223372036854775808)) (hp : Pows w) :
    Calls Tryd.prog 73 #[.int .u8 a, .int .i64 N] w fun e w' => e = .returned (.int .u8 (Gf.powI a N)) ∧ ∃ n, w' = w.drewN n := by
  by_cases h : N ≤ 0
  · have e : Gf.powI a N = 1 := by unfold Gf.powI; rw [Int.toNat_of_nonpos h]; rfl
    rw [e]
    exact pow_none a N w h
  · obtain ⟨M, rfl⟩ := Int.eq_ofNat_of_zero_le (show 0 ≤ N by omega)
    have := hN.out
    exact pow_nat a M w ha (show M < 9223372036854775808 by omega) hp

theorem mul_any (a b : Int) (w : World) (ha0 : 0 ≤ a) (ha : a < 256) (hb0 : 0 ≤ b) (hb : b < 256) (hp : Pows w) :
    Calls Tryd.prog 69 #[.int .u8 a, .int .u8 b] w fun e w' => e = .returned (.int .u8 (Gf.mul a.toNat b.toNat)) ∧ ∃ n, w' = w.drewN n := by
  obtain ⟨a, rfl⟩ := Int.eq_ofNat_of_zero_le ha0
  obtain ⟨b, rfl⟩ := Int.eq_ofNat_of_zero_le hb0
  exact mul_nat a b w ha hb hp
theorem u8_xor_cast (a b : Nat) (ha : (a : Int) < 256) (hb : (b : Int) < 256) : bits .xor .u8 (a : Int) (b : Int) = ((a ^^^ b : Nat) : Int) := u8_xor_nat a b (by omega) (by omega)

theorem add_nat (a b : Nat) (w : World) (ha : (a : Int) < 256) (hb : (b : Int) < 256) :
    Calls Tryd.prog 57 #[.int .u8 a, .int .u8 b] w fun e w' => e = .returned (.int .u8 ((a ^^^ b : Nat) : Int)) ∧ w' = w := by
  have H : Hid (_ = _) := u8_xor_cast a b ha hb
  go_enter Tryd.func57, Tryd.ntmps57
  go_wp2
  go_ret
  exact ⟨by rw [H.out]; rfl, rfl⟩

set_option maxRecDepth 100000 in
set_option maxHeartbeats 400000 in
theorem div_zero (a : Int) (w : World) :
    Calls Tryd.prog 67 #[.int .u8 a, .int .u8 0] w fun e w' => e = .returned (.tuple #[.int .u8 0, .int .i64 1]) ∧ ∃ n, w' = w.drewN n := by
  go_enter Tryd.func67, Tryd.ntmps67
  go_wp2
  go_ret2
  exact ⟨rfl, 0, rfl⟩

theorem powI_254 (b : Nat) : Gf.powI b 254 = Gf.inv b := rfl

set_option maxRecDepth 100000 in
set_option maxHeartbeats 400000 in
theorem div_any (a b : Int) (w : World) (ha0 : 0 ≤ a) (ha : a < 256) (hb0 : 0 < b) (hb : b < 256) (hp : Pows w) :
    Calls Tryd.prog 67 #[.int .u8 a, .int .u8 b] w fun e w' => e = .returned (.tuple #[.int .u8 (Gf.mul a.toNat (Gf.inv b.toNat)), .int .i64 0]) ∧ ∃ n, w' = w.drewN n := by
  obtain ⟨a, rfl⟩ := Int.eq_ofNat_of_zero_le ha0
  obtain ⟨b, rfl⟩ := Int.eq_ofNat_of_zero_le (show 0 ≤ b by omega)
  have hn : ((b : Int) == 0) = false := beq_eq_false_iff_ne.2 (by omega)
  have hi := Gf.inv_lt b (by omega)
  go_enter Tryd.func67, Tryd.ntmps67
  go_wp2_with (first
    | (go_at_call 73; refine (pow_any _ _ _ (by omega) (show (254 : Int) < 9223372036854775808 by omega) hp).mono ?_; rw [powI_254]; rintro e w' ⟨rfl, m, rfl⟩)
    | (go_at_call 69; refine (mul_nat _ _ _ (by omega) (by omega) (hp.drewN _)).mono ?_; rintro e w' ⟨rfl, m, rfl⟩))
  go_ret2
  exact ⟨rfl, _, rfl⟩

set_option maxRecDepth 100000 in
set_option maxHeartbeats 400000 in
theorem inv_zero (w : World) :
    Calls Tryd.prog 56 #[.int .u8 0] w fun e w' => e = .returned (.tuple #[.int .u8 0, .int .i64 1]) ∧ ∃ n, w' = w.drewN n := by
  go_enter Tryd.func56, Tryd.ntmps56
  go_wp2_with (go_at_call 67; refine (div_zero _ _).mono ?_; rintro e w' ⟨rfl, m, rfl⟩)
  go_ret2
  exact ⟨rfl, _, rfl⟩

theorem mul_one_inv (b : Nat) (hb : b < 256) : Gf.mul (Int.toNat 1) (Gf.inv (Int.toNat (b : Int))) = Gf.inv b := Gf.one_mul _ (Gf.inv_lt b hb)

set_option maxRecDepth 100000 in
set_option maxHeartbeats 400000 in
theorem inv_nat (b : Nat) (w : World) (hb0 : 0 < (b : Int)) (hb : (b : Int) < 256) (hp : Pows w) :
    Calls Tryd.prog 56 #[.int .u8 b] w fun e w' => e = .returned (.tuple #[.int .u8 (Gf.inv b), .int .i64 0]) ∧ ∃ n, w' = w.drewN n := by
  have H : Hid (_ = _) := mul_one_inv b (by omega)
  go_enter Tryd.func56, Tryd.ntmps56
  go_wp2_with (go_at_call 67; refine (div_any _ _ _ (by omega) (by omega) (by omega) (by omega) hp).mono ?_; rw [H.out]; rintro e w' ⟨rfl, m, rfl⟩)
  go_ret2
  exact ⟨rfl, _, rfl⟩
/-- the quotient, 0 by 0; the error's number; the inverse -/
def dq (a b : Nat) : Nat := if b = 0 then 0 else Gf.mul a (Gf.inv b)
def de (b : Nat) : Int := if b = 0 then 1 else 0
def iq (b : Nat) : Nat := if b = 0 then 0 else Gf.inv b

theorem div_gen (a b : Nat) (w : World) (ha : (a : Int) < 256) (hb : (b : Int) < 256) (hp : Pows w) :
    Calls Tryd.prog 67 #[.int .u8 a, .int .u8 b] w fun e w' => e = .returned (.tuple #[.int .u8 (dq a b), .int .i64 (de b)]) ∧ ∃ n, w' = w.drewN n := by
  by_cases h : b = 0
  · subst h; exact div_zero a w
  · have e1 : dq a b = Gf.mul a (Gf.inv b) := if_neg h
    have e2 : de b = 0 := if_neg h
    rw [e1, e2]
    exact div_any a b w (by omega) ha (by omega) hb hp
theorem inv_gen (b : Nat) (w : World) (hb : (b : Int) < 256) (hp : Pows w) :
    Calls Tryd.prog 56 #[.int .u8 b] w fun e w' => e = .returned (.tuple #[.int .u8 (iq b), .int .i64 (de b)]) ∧ ∃ n, w' = w.drewN n := by
  by_cases h : b = 0
  · subst h; exact inv_zero w
  · have e1 : iq b = Gf.inv b := if_neg h
    have e2 : de b = 0 := if_neg h
    rw [e1, e2]
    exact inv_nat b w (by omega) hb hp
end Go.Proofs.YtbmhfclknilcoaaDoor
