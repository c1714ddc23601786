/- Numbers taken from 0 to k - 1. -/
import Derived.Test.YtjbgpbafgpdciaaCl
namespace Go.Proofs.Ytjbgpbafgpdciaa
set_option linter.unusedVariables false
open Go.RowKit Go.Deep Go.Maps

def md (k n : Int) : Nat := ((n % 18446744073709551616) % k).toNat
theorem md_lt (k n : Int) (hk : 0 < k) : (md k n : Int) < k := by
  unfold md
  have h1 := Int.emod_nonneg (n % 18446744073709551616) (Int.ne_of_gt hk)
  have h2 := Int.emod_lt_of_pos (n % 18446744073709551616) hk
  omega
theorem md_eq (k n : Int) (hk : 0 < k) (hk2 : k ≤ 4611686018427387904) : wrap64 ((IntKind.u64.wrap n).tmod k) = (md k n : Int) := by
  have h : IntKind.u64.wrap n = n % 18446744073709551616 := by simp [IntKind.wrap, IntKind.bits, IntKind.signed]
  rw [h]
  have h0 : 0 ≤ n % 18446744073709551616 := Int.emod_nonneg _ (by omega)
  rw [Int.tmod_eq_emod_of_nonneg h0]
  have h1 := Int.emod_nonneg (n % 18446744073709551616) (Int.ne_of_gt hk)
  have h2 := Int.emod_lt_of_pos (n % 18446744073709551616) hk
  unfold md wrap64
  omega
end Go.Proofs.Ytjbgpbafgpdciaa
