/- Sums plain: one byte, turned, turns the sum. -/
import Derived.Test.YtmncocmeafcpfaaDoorFc
namespace Go.Proofs.YtmncocmeafcpfaaDoor
theorem zip_zeros : ∀ xs : List Nat, xs.zipWith (· ^^^ ·) (List.replicate xs.length 0) = xs
  | [] => rfl
  | x :: xs => by
    show (x ^^^ 0) :: xs.zipWith (· ^^^ ·) (List.replicate xs.length 0) = x :: xs
    rw [zip_zeros xs, Nat.xor_zero]
theorem run_state_inj {s t : Nat} (hs : s < 2 ^ 32) (ht : t < 2 ^ 32) (xs : List Nat) (h : Crc.run s xs = Crc.run t xs) : s = t := by
  have hx := Crc.run_xor (d := s ^^^ t) s xs (List.replicate xs.length 0) (by simp)
  rw [zip_zeros, ← Nat.xor_assoc, Nat.xor_self, Nat.zero_xor, ← h] at hx
  have h0 : Crc.run (s ^^^ t) (List.replicate xs.length 0) = 0 := by
    have := congrArg (fun z => Crc.run s xs ^^^ z) hx
    simp only [← Nat.xor_assoc, Nat.xor_self, Nat.zero_xor] at this
    exact this.symm
  have := Crc.run_zeros_inj xs.length (Nat.xor_lt_two_pow hs ht) h0
  have h2 := congrArg (fun z => s ^^^ z) this
  simp only [← Nat.xor_assoc, Nat.xor_self, Nat.zero_xor, Nat.xor_zero] at h2
  exact h2.symm
theorem sum_head {a b : Nat} {r : List Nat} (ha : a < 256) (hb : b < 256) (h : Crc.sum (a :: r) = Crc.sum (b :: r)) : a = b := by
  unfold Crc.sum at h
  have h1 : Crc.run 0xffffffff (a :: r) = Crc.run 0xffffffff (b :: r) := by
    have := congrArg (fun z => z ^^^ 0xffffffff) h
    simp only [Nat.xor_assoc, Nat.xor_self, Nat.xor_zero] at this
    exact this
  have h2 : Crc.run (Crc.stp 0xffffffff a) r = Crc.run (Crc.stp 0xffffffff b) r := h1
  have h3 := run_state_inj (Crc.stp_lt (by decide) ha) (Crc.stp_lt (by decide) hb) r h2
  unfold Crc.stp at h3
  rw [Crc.it_xor, Crc.it_xor 8 _ b] at h3
  have h4 : Crc.it 8 (a ^^^ b) = 0 := by
    rw [Crc.it_xor]
    have := congrArg (fun z => Crc.it 8 0xffffffff ^^^ z) h3
    simp only [← Nat.xor_assoc, Nat.xor_self, Nat.zero_xor] at this
    rw [this, Nat.xor_self]
  have h5 := Crc.it_inj0 8 (Nat.xor_lt_two_pow (n := 32) (by omega) (by omega)) h4
  have h6 := congrArg (fun z => a ^^^ z) h5
  simp only [← Nat.xor_assoc, Nat.xor_self, Nat.zero_xor, Nat.xor_zero] at h6
  exact h6.symm
end Go.Proofs.YtmncocmeafcpfaaDoor
