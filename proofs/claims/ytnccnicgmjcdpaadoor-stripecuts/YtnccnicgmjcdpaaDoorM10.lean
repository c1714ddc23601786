/- The walk of matrix.Invert on a square matrix: the inverse that elimination finds, or the error. -/
import Derived.Test.YtnccnicgmjcdpaaDoorM9
import Derived.Test.YtnccnicgmjcdpaaDoorM6
namespace Go.Proofs.YtnccnicgmjcdpaaDoor
open Go.RowKit Go.Deep

/-- a pivot is found, or there is none -/
theorem piv_or (W : Nat → Nat → Nat) (n i : Nat) : (∃ j, Piv W n i j) ∨ NoPiv W n i := by
  have key : ∀ k, (∃ j, Piv W n i j) ∨ ∀ j, i ≤ j → j < k → j < n → W j i = 0 := by
    intro k
    induction k with
    | zero => exact Or.inr (fun j _ h => by omega)
    | succ k ih =>
      rcases ih with h | h
      · exact Or.inl h
      · by_cases hk : i ≤ k ∧ k < n ∧ W k i ≠ 0
        · exact Or.inl ⟨k, hk.1, hk.2.1, hk.2.2, fun j h1 h2 => h j h1 h2 (by omega)⟩
        · refine Or.inr (fun j h1 h2 h3 => ?_)
          by_cases e : j = k
          · subst e
            by_cases e0 : W j i = 0
            · exact e0
            · exact absurd ⟨h1, h3, e0⟩ hk
          · exact h j h1 (by omega) h3
  rcases key n with h | h
  · exact Or.inl h
  · exact Or.inr (fun j h1 h2 => h j h1 h2 h2)

/-- what stands in memory when i columns are done -/
structure Elim (w wr : World) (t n i : Nat) (A : Nat → Nat → Nat) (B : Nat → Nat) (W : Nat → Nat → Nat) : Prop where
  kept : Kp (fun _ => False) w wr
  mat : Mat wr t B n (2 * n) W
  el : El A n i W
  top : w.heap.size ≤ t
  lo : ∀ r, r < n → w.heap.size ≤ B r
theorem Elim.step {w wr w2 w3 : World} {t n i j : Nat} {A : Nat → Nat → Nat} {B : Nat → Nat} {W : Nat → Nat → Nat} (h : Elim w wr t n i A B W) (hi : i < n) (p : Piv W n i j)
    (k2 : Kp (fun b => b = t ∨ ∃ r, r < n ∧ b = B r) wr w2) (k3 : Kp (fun b => ∃ r, r < n ∧ b = exch B i j r) w2 w3) (m3 : Mat w3 t (exch B i j) n (2 * n) (cleared (brought W i j) i)) :
    Elim w w3 t n (i + 1) A (exch B i j) (cleared (brought W i j) i) := by
  have lo : ∀ r, r < n → w.heap.size ≤ exch B i j r := fun r hr => by
    obtain ⟨q, hq, e⟩ := exch_mem B hi p.2.1 hr
    rw [e]; exact h.lo q hq
  refine ⟨(h.kept.trans k2 (fun b hb e => ?_)).trans k3 (fun b hb e => ?_), m3, h.el.step hi p, h.top, lo⟩
  · rcases e with e | ⟨r, hr, e⟩
    · have := h.top; omega
    · have := h.lo r hr; omega
  · obtain ⟨r, hr, e⟩ := e
    have := lo r hr; omega

end Go.Proofs.YtnccnicgmjcdpaaDoor
