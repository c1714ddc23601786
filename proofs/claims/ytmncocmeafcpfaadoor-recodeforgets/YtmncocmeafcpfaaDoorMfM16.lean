/- The walk of the reference's Invert. -/
import Derived.Test.YtmncocmeafcpfaaDoorMfM15
import Derived.Test.YtmncocmeafcpfaaDoorMfM11
import Derived.RegionTactic
import Derived.BigRegion
import Derived.StillTailTactics
namespace Go.Proofs.YtmncocmeafcpfaaDoor.Mf
open Go.RowKit Go.Deep

/-- the row c, of which k of each half are multiplied -/
def scl (V : Nat → Nat → Nat) (n c b k : Nat) : Nat → Nat → Nat := fun r q => if r = c ∧ (q < k ∨ (n ≤ q ∧ q < n + k)) then Gf.mul (V c q) b else V r q
theorem scl_zero (V : Nat → Nat → Nat) (n c b : Nat) : scl V n c b 0 = V := by
  funext r q; unfold scl; rw [if_neg (by omega)]
theorem scl_lt {V : Nat → Nat → Nat} (h : ∀ r q, V r q < 256) (n c b k r q : Nat) : scl V n c b k r q < 256 := by
  unfold scl; split
  · exact Gf.mul_lt _ _
  · exact h _ _
theorem scl_here (V : Nat → Nat → Nat) (n c b k : Nat) (hk : k < n) : scl V n c b k c k = V c k := by unfold scl; rw [if_neg (by omega)]
theorem scl_here2 (V : Nat → Nat → Nat) (n c b k : Nat) : scl V n c b k c (n + k) = V c (n + k) := by
  unfold scl
  by_cases h : c = c ∧ (n + k < k ∨ n ≤ n + k ∧ n + k < n + k)
  · omega
  · rw [if_neg h]
/-- the rows, of which the first k are cleared -/
def clr (U : Nat → Nat → Nat) (c k : Nat) : Nat → Nat → Nat := fun r q => if r < k ∧ r ≠ c then U r q ^^^ Gf.mul (U c q) (U r c) else U r q
theorem clr_zero (U : Nat → Nat → Nat) (c : Nat) : clr U c 0 = U := by funext r q; unfold clr; rw [if_neg (by omega)]
theorem clr_here (U : Nat → Nat → Nat) (c k q : Nat) : clr U c k k q = U k q := by unfold clr; rw [if_neg (by omega)]
theorem clr_piv (U : Nat → Nat → Nat) (c k q : Nat) : clr U c k c q = U c q := by unfold clr; rw [if_neg (by omega)]
theorem clr_skip {U : Nat → Nat → Nat} {c k : Nat} (h : k = c ∨ U k c = 0) (r q : Nat) : clr U c k r q = clr U c (k + 1) r q := by
  unfold clr
  by_cases e : r = k
  · subst e
    rw [if_neg (by omega)]
    rcases h with h | h
    · rw [if_neg (by omega)]
    · split
      · rw [h, Gf.mul_zero, Nat.xor_zero]
      · rfl
  · by_cases h2 : r < k ∧ r ≠ c
    · rw [if_pos h2, if_pos (by omega)]
    · rw [if_neg h2, if_neg (by omega)]
theorem clr_cleared {U : Nat → Nat → Nat} {c n : Nat} (h0 : ∀ q, q < c → U c q = 0) (r : Nat) (hr : r < n) (q : Nat) : clr U c n r q = cleared U c r q := by
  rw [cleared_all h0]
  unfold clr
  by_cases e : r = c
  · rw [if_neg (by omega), if_pos e, e]
  · rw [if_pos (by omega), if_neg e]

/-- what the scaling and the exchange come to -/
theorem scl_brought {W : Nat → Nat → Nat} {n c p : Nat} (r q : Nat) (hq : q < 2 * n) : scl (swp W c p) n c (Gf.inv (W p c)) n r q = brought W c p r q := by
  unfold scl brought swp
  by_cases e : r = c
  · rw [if_pos ⟨e, by omega⟩, if_pos e, if_pos rfl]
  · rw [if_neg (by omega), if_neg e, if_neg e]
    by_cases e2 : r = p
    · rw [if_pos e2, if_pos e2]
    · rw [if_neg e2, if_neg e2]

end Go.Proofs.YtmncocmeafcpfaaDoor.Mf
