/- The walk of matrix.Rows: some rows, or the error. -/
import Derived.Test.YtnccnicgmjcdpaaDoorM2
namespace Go.Proofs.YtnccnicgmjcdpaaDoor
open Go.RowKit Go.Deep

/-- the headers of new rows at B, when r are made -/
def heads2 (B : Nat → Nat) (C r : Nat) : Nat → Value := fun j => if j < r then .slice (some ⟨B j, 0, none⟩) C C else .slice none 0 0
theorem heads2_succ (B : Nat → Nat) (C r g j : Nat) : heads2 (fun i => if i = r then g else B i) C (r + 1) j = if j = r then .slice (some ⟨g, 0, none⟩) C C else heads2 B C r j := by
  unfold heads2
  by_cases e : j = r
  · subst e; simp
  · rw [if_neg e]
    by_cases h : j < r
    · rw [if_pos h, if_pos (by omega)]; simp [e]
    · rw [if_neg h, if_neg (by omega)]

/-- r rows of the new matrix at t are made -/
structure Part (w wr : World) (t n C r : Nat) (B : Nat → Nat) (M : Nat → Nat → Nat) : Prop where
  kept : Kp (fun _ => False) w wr
  top : wr.rowIs t 24 n (heads2 B C r)
  row : ∀ j, j < r → wr.rowIs (B j) 5 C (By (M j))
  lo : ∀ j, j < r → t < B j
  inj : ∀ i j, i < r → j < r → B i = B j → i = j
theorem Part.start (w : World) (n C : Nat) (M : Nat → Nat → Nat) : Part w (w.alloc (.cells (madeCells #[.slice none 0 0] n) 24)) w.heap.size n C 0 (fun _ => 0) M :=
  ⟨(Kp.refl _ _).alloc _, (World.rowIs_made w _ n 24).congr (fun j _ => by simp [heads2]), fun _ h => absurd h (Nat.not_lt_zero _), fun _ h => absurd h (Nat.not_lt_zero _), fun _ _ h => absurd h (Nat.not_lt_zero _)⟩
theorem Part.step {w wr w2 : World} {t n C r : Nat} {B : Nat → Nat} {M : Nat → Nat → Nat} (h : Part w wr t n C r B M) (ht : w.heap.size ≤ t) (k : Kp (fun _ => False) wr w2) (hr : w2.rowIs wr.heap.size 5 C (By (M r))) :
    Part w (w2.setCell ⟨t, r, none⟩ (.slice (some ⟨wr.heap.size, 0, none⟩) C C)) t n C (r + 1) (fun i => if i = r then wr.heap.size else B i) M := by
  have htl := h.top.lt
  refine ⟨(h.kept.trans k (fun _ _ e => e.elim)).setCell (fun hh => absurd hh (by show ¬ t < w.heap.size; omega)) _, ((k.row h.top id).set r _).congr (fun j _ => by rw [heads2_succ]), fun j hj => ?_, fun j hj => ?_, fun i j hi hj e => ?_⟩
  · by_cases e : j = r
    · subst e; simp only [if_true]
      exact hr.setOther (by show wr.heap.size ≠ t; omega) _
    · simp only [if_neg e]
      exact (k.row (h.row j (by omega)) id).setOther (by show B j ≠ t; have := h.lo j (by omega); omega) _
  · by_cases e : j = r
    · simp only [if_pos e]; exact htl
    · simp only [if_neg e]; exact h.lo j (by omega)
  · by_cases e1 : i = r <;> by_cases e2 : j = r
    · omega
    · simp only [if_pos e1, if_neg e2] at e
      have := (h.row j (by omega)).lt
      omega
    · simp only [if_neg e1, if_pos e2] at e
      have := (h.row i (by omega)).lt
      omega
    · simp only [if_neg e1, if_neg e2] at e
      exact h.inj i j (by omega) (by omega) e
theorem Part.mat {w wr : World} {t n C : Nat} {B : Nat → Nat} {M : Nat → Nat → Nat} (h : Part w wr t n C n B M) (hM : ∀ i j, M i j < 256) : Mat wr t B n C M :=
  ⟨h.top.congr (fun i hi => by simp [heads2, hi]), h.row, h.inj, fun i hi => by have := h.lo i hi; omega, hM⟩

end Go.Proofs.YtnccnicgmjcdpaaDoor
