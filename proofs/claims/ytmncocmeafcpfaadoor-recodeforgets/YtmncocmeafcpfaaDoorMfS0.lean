/- Stripes, plain: how long shards are, where each byte of a blob stands. No Go in sight. -/
import Derived.Test.YtmncocmeafcpfaaDoorMfRs
namespace Go.Proofs.YtmncocmeafcpfaaDoor.Mf

def stripesOf (K size : Nat) : Nat := max 1 ((size + K * 8 - 1) / (K * 8))
def lenOf (K size : Nat) : Nat := stripesOf K size * 8
theorem quot_le {K size : Nat} (hK : 1 ≤ K) (hs : size ≤ 400) : (size + K * 8 - 1) / (K * 8) ≤ 50 := by
  have h : (size + K * 8 - 1) / (K * 8) * (K * 8) ≤ size + K * 8 - 1 := Nat.div_mul_le_self _ _
  generalize (size + K * 8 - 1) / (K * 8) = q at h
  rcases Nat.lt_or_ge 50 q with hq | hq
  · have : 51 * (K * 8) ≤ q * (K * 8) := Nat.mul_le_mul_right _ hq
    omega
  · exact hq
theorem stripesOf_bd {K size : Nat} (hK : 1 ≤ K) (hs : size ≤ 400) : 1 ≤ stripesOf K size ∧ stripesOf K size ≤ 50 := by
  have := quot_le hK hs
  unfold stripesOf; omega
theorem lenOf_bd {K size : Nat} (hK : 1 ≤ K) (hs : size ≤ 400) : 8 ≤ lenOf K size ∧ lenOf K size ≤ 400 := by
  have := stripesOf_bd hK hs
  unfold lenOf; omega
theorem quot_eq {K size : Nat} (hK : 1 ≤ K) : ((size : Int) + (K : Int) * 8 - 1).tdiv ((K : Int) * 8) = (((size + K * 8 - 1) / (K * 8) : Nat) : Int) := by
  rw [show (size : Int) + (K : Int) * 8 - 1 = ((size + K * 8 - 1 : Nat) : Int) from by omega, show (K : Int) * 8 = ((K * 8 : Nat) : Int) from by omega]
  rfl
/-- in which shard byte i stands, and where -/
def seatK (K i : Nat) : Nat := i % (K * 8) / 8
def seatAt (K i : Nat) : Nat := i / (K * 8) * 8 + i % (K * 8) % 8
/-- which byte stands in shard j at p -/
def byteAt (K j p : Nat) : Nat := (p / 8 * K + j) * 8 + p % 8
theorem seatK_lt {K : Nat} (hK : 1 ≤ K) (i : Nat) : seatK K i < K := by
  have := Nat.mod_lt i (show 0 < K * 8 by omega)
  unfold seatK; omega
theorem byteAt_seat {K : Nat} (i : Nat) : byteAt K (seatK K i) (seatAt K i) = i := by
  unfold byteAt seatK seatAt
  have e1 : (i / (K * 8) * 8 + i % (K * 8) % 8) / 8 = i / (K * 8) := by omega
  have e2 : (i / (K * 8) * 8 + i % (K * 8) % 8) % 8 = i % (K * 8) % 8 := by omega
  rw [e1, e2]
  have h := Nat.div_add_mod i (K * 8)
  have e3 : (i / (K * 8) * K + i % (K * 8) / 8) * 8 = K * 8 * (i / (K * 8)) + i % (K * 8) / 8 * 8 := by
    rw [Nat.add_mul, Nat.mul_assoc, Nat.mul_comm (i / (K * 8)) (K * 8)]
  omega
theorem byte_split {K j p : Nat} (hj : j < K) : byteAt K j p / (K * 8) = p / 8 ∧ byteAt K j p % (K * 8) = j * 8 + p % 8 := by
  have e : byteAt K j p = (j * 8 + p % 8) + K * 8 * (p / 8) := by
    unfold byteAt
    rw [Nat.add_mul, Nat.mul_assoc, Nat.mul_comm (p / 8) (K * 8)]; omega
  have hl : j * 8 + p % 8 < K * 8 := by omega
  rw [e, Nat.add_mul_div_left _ _ (by omega), Nat.add_mul_mod_self_left, Nat.div_eq_of_lt hl, Nat.mod_eq_of_lt hl]
  omega
theorem seat_byte {K j p : Nat} (hj : j < K) : seatK K (byteAt K j p) = j ∧ seatAt K (byteAt K j p) = p := by
  obtain ⟨h1, h2⟩ := byte_split (p := p) hj
  unfold seatK seatAt
  rw [h1, h2]; omega
theorem byteAt_iff {K j p i : Nat} (hj : j < K) : byteAt K j p = i ↔ j = seatK K i ∧ p = seatAt K i := by
  constructor
  · rintro rfl
    obtain ⟨h1, h2⟩ := seat_byte (p := p) hj
    exact ⟨h1.symm, h2.symm⟩
  · rintro ⟨rfl, rfl⟩
    exact byteAt_seat i
theorem seatAt_lt {K size i : Nat} (hK : 1 ≤ K) (hi : i < size) : seatAt K i < lenOf K size := by
  unfold seatAt lenOf
  have h1 : i / (K * 8) + 1 ≤ (size + K * 8 - 1) / (K * 8) := by
    rw [Nat.le_div_iff_mul_le (by omega), Nat.add_mul, Nat.one_mul]
    have := Nat.div_mul_le_self i (K * 8)
    omega
  have h2 : i / (K * 8) + 1 ≤ stripesOf K size := by unfold stripesOf; omega
  omega
/-- the data, when cnt of the bytes f are dealt out -/
def cutAt (K : Nat) (f : Nat → Nat) (cnt : Nat) : Nat → Nat → Nat := fun j p => if byteAt K j p < cnt then f (byteAt K j p) else 0
theorem cutAt_zero (K : Nat) (f : Nat → Nat) : cutAt K f 0 = fun _ _ => 0 := by funext j p; simp [cutAt]
theorem cutAt_lt {f : Nat → Nat} (hf : ∀ i, f i < 256) (K cnt j p : Nat) : cutAt K f cnt j p < 256 := by
  unfold cutAt; split
  · exact hf _
  · omega
theorem cutAt_step (K : Nat) (f : Nat → Nat) (cnt : Nat) {j : Nat} (hj : j < K) (p : Nat) : (if j = seatK K cnt ∧ p = seatAt K cnt then f cnt else cutAt K f cnt j p) = cutAt K f (cnt + 1) j p := by
  unfold cutAt
  by_cases e : byteAt K j p = cnt
  · rw [if_pos ((byteAt_iff hj).1 e), if_pos (by omega), e]
  · rw [if_neg (fun h => e ((byteAt_iff hj).2 h))]
    by_cases h : byteAt K j p < cnt
    · rw [if_pos h, if_pos (by omega)]
    · rw [if_neg h, if_neg (by omega)]
theorem cutAt_seat (K : Nat) (f : Nat → Nat) {cnt i : Nat} (hi : i < cnt) : cutAt K f cnt (seatK K i) (seatAt K i) = f i := by
  unfold cutAt
  rw [byteAt_seat, if_pos hi]
theorem seat_eq {K i : Nat} (_hK : 1 ≤ K) : (i : Int).tdiv ((K : Int) * 8) = ((i / (K * 8) : Nat) : Int) ∧ (i : Int).tmod ((K : Int) * 8) = ((i % (K * 8) : Nat) : Int) := by
  rw [show (K : Int) * 8 = ((K * 8 : Nat) : Int) from by omega]
  exact ⟨rfl, rfl⟩
end Go.Proofs.YtmncocmeafcpfaaDoor.Mf
