/- The walk of the verifier's square: a matrix of bytes, so many each way. -/
import Derived.Test.YtmncocmeafcpfaaDoorMfM2
import Derived.Maps.AppendAt
namespace Go.Proofs.YtmncocmeafcpfaaDoor.Mf
open Go.RowKit Go.Deep

/-- A matrix in memory of its own, its headers in a block that may be longer. -/
structure Mt (w : World) (t : Nat) (B : Nat → Nat) (R C : Nat) (M : Nat → Nat → Nat) : Prop where
  top : ∀ i, i < R → w.cell? ⟨t, i, none⟩ = some (.slice (some ⟨B i, 0, none⟩) C C)
  row : ∀ i, i < R → w.rowIs (B i) 5 C (By (M i))
  inj : ∀ i j, i < R → j < R → B i = B j → i = j
  ne : ∀ i, i < R → B i ≠ t
  byte : ∀ i j, M i j < 256
abbrev ofMt (t cap : Nat) (B : Nat → Nat) (R C : Nat) (M : Nat → Nat → Nat) : Sh := ⟨some ⟨t, 0, none⟩, R, cap, t, 0, fun r => some ⟨B r, 0, none⟩, fun _ => C, fun _ => C, B, fun _ => 0, M⟩
theorem Mt.rd {w : World} {t : Nat} {B : Nat → Nat} {R C : Nat} {M : Nat → Nat → Nat} (h : Mt w t B R C M) (cap : Nat) : Rd w (ofMt t cap B R C M) :=
  ⟨fun _ => rfl, fun r hr => by have := h.top r hr; simpa [ofMt] using this, fun _ _ _ _ => rfl, fun r hr c hc => by have := (h.row r hr).cell hc; simpa [ofMt] using this, h.byte⟩
theorem Mt.keep {S : Nat → Prop} {w w' : World} {t : Nat} {B : Nat → Nat} {R C : Nat} {M : Nat → Nat → Nat} (h : Mt w t B R C M) (k : Kp S w w') (ht : ¬ S t) (hB : ∀ i, i < R → ¬ S (B i)) : Mt w' t B R C M :=
  ⟨fun i hi => k.cellv (h.top i hi) ht, fun i hi => k.row (h.row i hi) (hB i hi), h.inj, h.ne, h.byte⟩

/-- the square's entries -/
def sq (f : Nat → Nat) (la n : Nat) : Nat → Nat → Nat := fun r c => if r * n + c < la then f (r * n + c) else 0
theorem sq_lt {f : Nat → Nat} (hf : ∀ j, f j < 256) (la n r c : Nat) : sq f la n r c < 256 := by
  unfold sq; split
  · exact hf _
  · omega
/-- a row's first k entries, then noughts -/
def upTo (f : Nat → Nat) (k : Nat) : Nat → Nat := fun j => if j < k then f j else 0
theorem upTo_zero (f : Nat → Nat) : upTo f 0 = fun _ => 0 := by funext j; simp [upTo]
theorem upTo_succ (f : Nat → Nat) (k j : Nat) : upTo f (k + 1) j = if j = k then f k else upTo f k j := by
  unfold upTo
  by_cases e : j = k
  · subst e; rw [if_pos (by omega), if_pos rfl]
  · rw [if_neg e]
    by_cases h : j < k
    · rw [if_pos h, if_pos (by omega)]
    · rw [if_neg h, if_neg (by omega)]
theorem upTo_skip (f : Nat → Nat) (k j : Nat) (h : f k = 0) : upTo f (k + 1) j = upTo f k j := by
  rw [upTo_succ]; split
  · rename_i e; subst e; rw [h]; simp [upTo]
  · rfl

theorem sq_off (oa r n k : Nat) : oa + ((r : Int) * (n : Int) + (k : Int)).toNat = oa + (r * n + k) := by
  rw [show (r : Int) * (n : Int) + (k : Int) = ((r * n + k : Nat) : Int) from by simp]; rfl

/-- the headers of the rows at B -/
def hdrs (B : Nat → Nat) (n r : Nat) : List Value := (List.range r).map fun j => .slice (some ⟨B j, 0, none⟩) n n
theorem hdrs_length (B : Nat → Nat) (n r : Nat) : (hdrs B n r).length = r := by simp [hdrs]
theorem hdrs_succ (B : Nat → Nat) (n r g : Nat) : hdrs (fun j => if j = r then g else B j) n (r + 1) = hdrs B n r ++ [.slice (some ⟨g, 0, none⟩) n n] := by
  unfold hdrs
  rw [List.range_succ, List.map_append]
  congr 1
  · refine List.map_congr_left (fun j hj => ?_)
    have hj' := List.mem_range.1 hj
    simp only []
    rw [if_neg (by omega)]
  · simp
theorem hdrs_at (B : Nat → Nat) (n : Nat) {r j : Nat} (h : j < r) : (hdrs B n r)[j]? = some (.slice (some ⟨B j, 0, none⟩) n n) := by
  unfold hdrs
  rw [List.getElem?_map, List.getElem?_range h]; rfl

/-- the rows that are made, and the headers that are gathered -/
structure Gath (w wr : World) (v : Value) (n r : Nat) (B : Nat → Nat) (M : Nat → Nat → Nat) : Prop where
  kept : Kp (fun _ => False) w wr
  own : wr.ownsRow w.heap.size 22 1 v r (hdrs B n r)
  row : ∀ j, j < r → wr.rowIs (B j) 5 n (By (M j))
  lo : ∀ j, j < r → w.heap.size ≤ B j
  inj : ∀ i j, i < r → j < r → B i = B j → i = j
  ne : ∀ j, j < r → v.ownBlock ≠ some (B j)
theorem Gath.start (w : World) (n : Nat) (M : Nat → Nat → Nat) : Gath w w (.slice none 0 0) n 0 (fun _ => 0) M :=
  ⟨Kp.refl _ _, World.ownsRow_nil _ _ _ _, fun _ h => absurd h (Nat.not_lt_zero _), fun _ h => absurd h (Nat.not_lt_zero _), fun _ _ h => absurd h (Nat.not_lt_zero _), fun _ h => absurd h (Nat.not_lt_zero _)⟩
theorem grownBy_kp {w w' : World} {v : Option Nat} (h : w.grownBy w' v) : Kp (fun b => v = some b) w w' :=
  ⟨h.os, h.tape, h.output, h.size, fun k hk hn => h.block k hk (fun e => hn e.symm)⟩

theorem ownsRow_keep {w w' : World} {base : Nat} {e : TypeId} {size : Nat} {v : Value} {n : Nat} {xs : List Value} (h : w.ownsRow base e size v n xs) (k : Kp (fun _ => False) w w') : w'.ownsRow base e size v n xs := by
  obtain ⟨h1, h2⟩ := h
  refine ⟨h1, ?_⟩
  rcases h2 with h2 | ⟨g, cap, cur, hv, hg, hh, r⟩
  · exact Or.inl h2
  · exact Or.inr ⟨g, cap, cur, hv, hg, (k.block g (Array.getElem?_eq_some_iff.1 hh).1 id).trans hh, r⟩
theorem ownBlock_lt {w : World} {base : Nat} {e : TypeId} {size : Nat} {v : Value} {n : Nat} {xs : List Value} (h : w.ownsRow base e size v n xs) {g : Nat} (hg : v.ownBlock = some g) : base ≤ g ∧ g < w.heap.size := by
  rcases h.2 with ⟨rfl, _⟩ | ⟨g', cap, cur, rfl, hb, hh, _⟩
  · simp [Value.ownBlock] at hg
  · simp [Value.ownBlock] at hg
    subst hg
    exact ⟨hb, (Array.getElem?_eq_some_iff.1 hh).1⟩

/-- one row more: the row at g is new, its header is gathered -/
theorem Gath.step {w wr wq wn : World} {v v' : Value} {n r : Nat} {B : Nat → Nat} {M : Nat → Nat → Nat} {o : Obj} (h : Gath w wr v n r B M) (k : Kp (fun _ => False) wr wq) (hrow : wq.rowIs wr.heap.size 5 n (By (M r)))
    (hown : wn.ownsRow w.heap.size 22 1 v' (r + 1) (hdrs B n r ++ [.slice (some ⟨wr.heap.size, 0, none⟩) n n])) (hg : (wq.alloc o).grownBy wn v.ownBlock)
    (hv : v'.ownBlock = v.ownBlock ∨ v'.ownBlock = some (wq.alloc o).heap.size) : Gath w wn v' n (r + 1) (fun j => if j = r then wr.heap.size else B j) M := by
  have hz : wr.heap.size < wq.heap.size := hrow.lt
  have hsz : (wq.alloc o).heap.size = wq.heap.size + 1 := by simp
  have hwr := h.kept.size
  refine ⟨?_, by rw [hdrs_succ]; exact hown, fun j hj => ?_, fun j hj => ?_, fun i j hi hj e => ?_, fun j hj => ?_⟩
  · refine Kp.trans (h.kept.trans (k.alloc o) (fun _ _ e => e.elim)) (grownBy_kp hg) (fun b hb e => ?_)
    have := ownBlock_lt h.own e
    omega
  · by_cases e : j = r
    · subst e
      simp only [if_true]
      exact (grownBy_kp hg).row (hrow.alloc o) (fun e => by have := ownBlock_lt h.own e; omega)
    · simp only [if_neg e]
      exact (grownBy_kp hg).row ((k.row (h.row j (by omega)) id).alloc o) (h.ne j (by omega))
  · by_cases e : j = r
    · simp only [if_pos e]; exact hwr
    · simp only [if_neg e]; exact h.lo j (by omega)
  · by_cases e1 : i = r <;> by_cases e2 : j = r
    · omega
    · simp only [if_pos e1, if_neg e2] at e
      have := (h.row j (by omega)).lt
      omega
    · simp only [if_neg e1, if_pos e2] at e
      have := (h.row i (by omega)).lt
      omega
    · simp only [if_neg e1, if_neg e2] at e
      exact h.inj i j (by omega) (by omega) e
  · intro e
    by_cases e1 : j = r
    · simp only [if_pos e1] at e
      rcases hv with hv | hv
      · rw [hv] at e; have := ownBlock_lt h.own e; omega
      · rw [hv] at e; have := Option.some.inj e; omega
    · simp only [if_neg e1] at e
      rcases hv with hv | hv
      · rw [hv] at e; exact h.ne j (by omega) e
      · rw [hv] at e
        have := Option.some.inj e
        have := (h.row j (by omega)).lt
        omega

/-- what is gathered, as a matrix -/
theorem Gath.mt {w wr : World} {v : Value} {n r : Nat} {B : Nat → Nat} {M : Nat → Nat → Nat} (h : Gath w wr v n r B M) (hr : 0 < r) (hM : ∀ i j, M i j < 256) : ∃ t cap, v = .slice (some ⟨t, 0, none⟩) r cap ∧ w.heap.size ≤ t ∧ Mt wr t B r n M := by
  rcases h.own.2 with ⟨_, h0⟩ | ⟨g, cap, cur, rfl, hb, hh, hn, _, hcs, htk⟩
  · omega
  · refine ⟨g, cap, rfl, hb, fun i hi => ?_, h.row, h.inj, fun i hi e => h.ne i hi (by simp [Value.ownBlock, e]), hM⟩
    have h1 : (cur.toList.take (r * 1))[i]? = some (.slice (some ⟨B i, 0, none⟩) n n) := by rw [htk]; exact hdrs_at B n hi
    rw [List.getElem?_take_of_lt (by omega), Array.getElem?_toList] at h1
    simp [World.cell?, hh, h1]

end Go.Proofs.YtmncocmeafcpfaaDoor.Mf
