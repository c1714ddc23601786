/- The walks of matrix.besideOnes, bringPivot and clearColumn. -/
import Derived.Test.YtnccnicgmjcdpaaDoorM2
import Derived.Test.YtnccnicgmjcdpaaDoorEl
import Derived.StillTailTactics
namespace Go.Proofs.YtnccnicgmjcdpaaDoor
open Go.RowKit Go.Deep

theorem mixed : Tryd.prog.follows .mixedOrders = true := by kernel_rfl

/-- a row, its first n written over -/
def overRow (f g : Nat → Nat) (n : Nat) : Nat → Nat := fun j => if j < n then g j else f j

theorem kp_setRow (w : World) (g : Nat) (cs : Array Value) : Kp (fun b => b = g) w (w.setRow g cs) :=
  ⟨rfl, rfl, rfl, by simp [World.setRow], fun k _ hn => setRow_other w g k cs hn⟩

/-- a copy into a row of the program's own: what it leaves -/
theorem wpList_copy_kp {P : Program} {w : World} {ops : Array Oper} {rest : List Oper} {o : Oper} {a : Act} {Q : Exit → Act → World → Prop} (hgd : o.guard = none) (d s : Operand) (dT sT : TypeId)
    (ho : o.op = .call { callee := .builtin .copy, args := #[d, s], argTypes := #[dT, sT] }) (elem : TypeId) (hu : P.underlying dT = some (.slice elem)) (hsz : (P.info? elem).map (·.size) = some 1)
    (g dLen dCap : Nat) (br ob n sCap : Nat) (hd : a.eval d = .slice (some ⟨g, 0, none⟩) dLen dCap) (hs : a.eval s = .slice (some ⟨br, ob, none⟩) n sCap)
    (m : Nat) (t : TypeId) (f src : Nat → Nat) (hg : w.rowIs g t m (By f)) (hn : n ≤ dLen) (hm : dLen ≤ m)
    (hsrc : ∀ j, j < n → w.cell? ⟨br, ob + j, none⟩ = some (.int .u8 ((src j : Nat) : Int)))
    (h : ∀ w', Kp (fun b => b = g) w w' → w'.heap.size = w.heap.size → w'.rowIs g t m (By (overRow f src n)) → wpList P ops Q rest (a.put o.dst (goInt n)) w') : wpList P ops Q (o :: rest) a w := by
  obtain ⟨cur, hc, hcs, hcv⟩ := hg
  have hl := vals_length src n
  have := wpList_copy_own (P := P) (w := w) (ops := ops) (rest := rest) (o := o) (a := a) (Q := Q) hgd d s dT sT ho elem hu hsz g 0 dLen dCap ⟨br, ob, none⟩ n sCap hd hs cur t hc (vals src n)
    (by rw [hl]; exact (Nat.min_eq_left hn).symm) (fun j v hj => by
      obtain ⟨hlt, rfl⟩ := vals_get hj
      rw [addr_add]
      exact hsrc j hlt) (by rw [hl]; omega) (vals_one src n)
  refine this ?_
  rw [hl]
  refine h _ (kp_setRow _ _ _) (by simp [World.setRow]) ⟨_, setRow_heap w g cur _ t (0, 0) hc, ?_, fun i hi => ?_⟩
  · simp [hl]; omega
  · simp only [List.take_zero, List.nil_append, List.getElem?_toArray, Nat.zero_add]
    unfold overRow By
    dsimp only
    by_cases hin : i < n
    · rw [List.getElem?_append_left (by rw [hl]; exact hin), vals_at src hin, if_pos hin]
    · rw [List.getElem?_append_right (by rw [hl]; omega), hl, List.getElem?_drop, if_neg hin, Array.getElem?_toList, show n + (i - n) = i from by omega]
      exact hcv i hi

/-- the wide rows, when r are filled -/
def wideAt (A : Nat → Nat → Nat) (n r : Nat) : Nat → Nat → Nat := fun i c => if i < r then wide A n i c else 0
theorem wideAt_zero (A : Nat → Nat → Nat) (n : Nat) : wideAt A n 0 = fun _ _ => 0 := by funext i c; simp [wideAt]
theorem wideAt_lt {A : Nat → Nat → Nat} (hA : ∀ i j, A i j < 256) (n r i c : Nat) : wideAt A n r i c < 256 := by
  unfold wideAt; split
  · exact wide_lt hA n i c
  · omega
theorem wideAt_here (A : Nat → Nat → Nat) (n r j : Nat) : (if j = n + r then 1 else overRow (wideAt A n r r) (A r) n j) = wideAt A n (r + 1) r j := by
  unfold overRow wideAt wide
  rw [if_neg (Nat.lt_irrefl r), if_pos (Nat.lt_succ_self r)]
  by_cases h : j < n
  · rw [if_neg (by omega), if_pos h, if_pos h]
  · rw [if_neg h, if_neg h]
theorem wideAt_other (A : Nat → Nat → Nat) (n r i j : Nat) (h : i ≠ r) : wideAt A n r i j = wideAt A n (r + 1) i j := by
  unfold wideAt
  by_cases e : i < r
  · rw [if_pos e, if_pos (by omega)]
  · rw [if_neg e, if_neg (by omega)]

/-- the rows, when the first k are cleared -/
def clearTo (W : Nat → Nat → Nat) (i k : Nat) : Nat → Nat → Nat := fun r => if r < k then cleared W i r else W r
theorem clearTo_zero (W : Nat → Nat → Nat) (i : Nat) : clearTo W i 0 = W := by funext r; simp [clearTo]
theorem clearTo_lt {W : Nat → Nat → Nat} (h : ∀ r c, W r c < 256) (i k r c : Nat) : clearTo W i k r c < 256 := by
  unfold clearTo; split
  · exact cleared_lt h i r c
  · exact h r c
theorem clearTo_pivot (W : Nat → Nat → Nat) (i k : Nat) : clearTo W i k i = W i := by
  unfold clearTo; split
  · funext c; unfold cleared; rw [if_pos rfl]
  · rfl
theorem clearTo_here (W : Nat → Nat → Nat) (i k : Nat) : clearTo W i k k = W k := by unfold clearTo; rw [if_neg (Nat.lt_irrefl k)]
theorem clearTo_succ (W : Nat → Nat → Nat) (i k : Nat) : clearTo W i (k + 1) k = cleared W i k := by unfold clearTo; rw [if_pos (Nat.lt_succ_self k)]
theorem clearTo_other (W : Nat → Nat → Nat) (i k r : Nat) (h : r ≠ k) : clearTo W i (k + 1) r = clearTo W i k r := by
  unfold clearTo
  by_cases e : r < k
  · rw [if_pos e, if_pos (by omega)]
  · rw [if_neg e, if_neg (by omega)]
theorem cleared_row (W : Nat → Nat → Nat) (i r n c : Nat) (hr : r ≠ i) (hc : c < i + n) : plusRow (W r) (fun j => W i (i + j)) (W r i) i n c = cleared W i r c := by
  unfold plusRow cleared
  rw [if_neg hr]
  by_cases h : i ≤ c
  · rw [if_pos ⟨h, hc⟩, if_pos h]
    dsimp only
    rw [show i + (c - i) = c from by omega]
  · rw [if_neg (by omega), if_neg h]
theorem cleared_self (W : Nat → Nat → Nat) (i : Nat) : cleared W i i = W i := by funext c; unfold cleared; rw [if_pos rfl]

end Go.Proofs.YtnccnicgmjcdpaaDoor
