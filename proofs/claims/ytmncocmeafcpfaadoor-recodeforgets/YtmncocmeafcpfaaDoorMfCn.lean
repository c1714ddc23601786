/- A slice of bytes that came in, as the laws' walks take it. -/
import Derived.Test.YtmncocmeafcpfaaDoorMfFr
import Derived.Test.YtmncocmeafcpfaaDoorMfM7
namespace Go.Proofs.YtmncocmeafcpfaaDoor.Mf
open Go.ChangeShapes Go.WideShapes Go.ChangeAt Go.RowKit
theorem bs_of_ns {w : World} {v : Value} {n : Nat} {z : Nat → Int} (h : Ns .u8 w v n z) : ∃ f, Bs w v n f := by
  obtain ⟨pa, ba, oa, ca, h1, h2, h3, h4, _⟩ := h
  refine ⟨fun j => if j < n then (z j).toNat else 0, pa, ba, oa, ca, h1, h2, fun j hj => ?_, fun j => ?_⟩
  · have := bounds_u8 (h4 j hj)
    dsimp only
    rw [h3 j hj, if_pos hj, Int.toNat_of_nonneg this.1]
  · dsimp only
    by_cases hj : j < n
    · have := bounds_u8 (h4 j hj)
      rw [if_pos hj]; omega
    · rw [if_neg hj]; omega
end Go.Proofs.YtmncocmeafcpfaaDoor.Mf
