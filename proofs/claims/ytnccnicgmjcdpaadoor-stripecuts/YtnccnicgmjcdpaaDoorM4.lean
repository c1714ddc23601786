/- The walk of matrix.Mul: the product, or the error. -/
import Derived.Test.YtnccnicgmjcdpaaDoorM2
import Derived.Test.YtnccnicgmjcdpaaDoorXs
namespace Go.Proofs.YtnccnicgmjcdpaaDoor
open Go.RowKit Go.Deep

/-- the product, when i rows are done and j terms of the next -/
def prodAt (a b : Nat → Nat → Nat) (n i j : Nat) : Nat → Nat → Nat := fun r k => if r < i then prodTo a b n r k else if r = i then prodTo a b j r k else 0
theorem prodAt_lt (a b : Nat → Nat → Nat) (n i j r k : Nat) : prodAt a b n i j r k < 256 := by
  unfold prodAt; split
  · exact prodTo_lt _ _ _ _ _
  · split
    · exact prodTo_lt _ _ _ _ _
    · omega
theorem prodAt_next (a b : Nat → Nat → Nat) (n i r k : Nat) : prodAt a b n i n r k = prodAt a b n (i + 1) 0 r k := by
  unfold prodAt
  by_cases h : r < i
  · rw [if_pos h, if_pos (by omega)]
  · rw [if_neg h]
    by_cases e : r = i
    · rw [if_pos e, if_pos (by omega)]
    · rw [if_neg e, if_neg (by omega)]
      split
      · rfl
      · rfl
theorem prodAt_start (a b : Nat → Nat → Nat) (n : Nat) : prodAt a b n 0 0 = fun _ _ => 0 := by
  funext r k; unfold prodAt
  rw [if_neg (by omega)]
  split <;> rfl
theorem prodAt_step (a b : Nat → Nat → Nat) (n i j k C : Nat) (hk : k < C) : plusRow (prodAt a b n i j i) (b j) (a i j) 0 C k = prodAt a b n i (j + 1) i k := by
  unfold plusRow prodAt
  rw [if_pos (by omega), if_neg (by omega), if_pos rfl, if_neg (by omega), if_pos rfl, Nat.sub_zero]
  rfl
theorem prodAt_other (a b : Nat → Nat → Nat) (n i j r k : Nat) (h : r ≠ i) : prodAt a b n i j r k = prodAt a b n i (j + 1) r k := by
  unfold prodAt
  rw [if_neg h, if_neg h]



end Go.Proofs.YtnccnicgmjcdpaaDoor
