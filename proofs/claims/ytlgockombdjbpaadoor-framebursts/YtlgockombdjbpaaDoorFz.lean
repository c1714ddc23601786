/- Frames of which four neighbours were turned, plain. -/
import Derived.Test.YtlgockombdjbpaaDoorFp
namespace Go.Proofs.YtlgockombdjbpaaDoor

/-- bytes of which those from K on, r of them, are turned by b -/
def tr (xs : List Nat) (K : Nat) (b : Nat → Nat) (r : Nat) : List Nat := (List.range xs.length).map fun j => xs.getD j 0 ^^^ (if K ≤ j ∧ j < K + r then b (j - K) else 0)
theorem tr_length (xs : List Nat) (K : Nat) (b : Nat → Nat) (r : Nat) : (tr xs K b r).length = xs.length := by simp [tr]
theorem tr_get (xs : List Nat) (K : Nat) (b : Nat → Nat) (r j : Nat) (h : j < xs.length) : (tr xs K b r)[j]? = some (xs.getD j 0 ^^^ (if K ≤ j ∧ j < K + r then b (j - K) else 0)) := by
  unfold tr
  rw [List.getElem?_map, List.getElem?_range h]; rfl
theorem tr_at (xs : List Nat) (K : Nat) (b : Nat → Nat) (r j : Nat) (h : j < xs.length) : (tr xs K b r).getD j 0 = xs.getD j 0 ^^^ (if K ≤ j ∧ j < K + r then b (j - K) else 0) := by
  rw [List.getD_eq_getElem?_getD, tr_get xs K b r j h]; rfl
theorem getD_get {xs : List Nat} {j : Nat} (h : j < xs.length) : xs[j]? = some (xs.getD j 0) := by
  rw [List.getD_eq_getElem?_getD, List.getElem?_eq_getElem h]; rfl
theorem tr_zero (xs : List Nat) (K : Nat) (b : Nat → Nat) : tr xs K b 0 = xs := by
  apply List.ext_getElem?
  intro j
  by_cases h : j < xs.length
  · rw [tr_get xs K b 0 j h, if_neg (by omega), Nat.xor_zero, getD_get h]
  · rw [List.getElem?_eq_none (by rw [tr_length]; omega), List.getElem?_eq_none (by omega)]
theorem tr_succ (xs : List Nat) (K : Nat) (b : Nat → Nat) (r : Nat) (h : K + r < xs.length) : tr xs K b (r + 1) = (tr xs K b r).set (K + r) (xs.getD (K + r) 0 ^^^ b r) := by
  apply List.ext_getElem?
  intro j
  by_cases hj : j < xs.length
  · rw [tr_get xs K b (r + 1) j hj, List.getElem?_set]
    by_cases e : K + r = j
    · subst e
      rw [if_pos (show K ≤ K + r ∧ K + r < K + (r + 1) by omega), if_pos rfl, if_pos (by rw [tr_length]; exact h), show K + r - K = r from by omega]
    · rw [if_neg e, tr_get xs K b r j hj]
      by_cases hh : K ≤ j ∧ j < K + r
      · rw [if_pos hh, if_pos (by omega)]
      · rw [if_neg hh, if_neg (by omega)]
  · rw [List.getElem?_eq_none (by rw [tr_length]; omega), List.getElem?_eq_none (by rw [List.length_set, tr_length]; omega)]
theorem tr_here (xs : List Nat) (K : Nat) (b : Nat → Nat) (r : Nat) (h : K + r < xs.length) : (tr xs K b r).getD (K + r) 0 = xs.getD (K + r) 0 := by
  rw [tr_at xs K b r _ h, if_neg (by omega), Nat.xor_zero]
theorem tr_byte {xs : List Nat} {K : Nat} {b : Nat → Nat} (hx : ∀ x ∈ xs, x < 256) (hb : ∀ i, b i < 256) (r : Nat) : ∀ x ∈ tr xs K b r, x < 256 := fun x h => by
  obtain ⟨j, hj, rfl⟩ := List.mem_map.1 h
  have hj' := List.mem_range.1 hj
  have h1 : xs.getD j 0 < 256 := by rw [List.getD_eq_getElem?_getD, List.getElem?_eq_getElem hj']; exact hx _ (List.getElem_mem hj')
  refine Nat.xor_lt_two_pow (n := 8) h1 ?_
  split
  · exact hb _
  · omega
theorem tr_none (xs : List Nat) (K : Nat) (r : Nat) : tr xs K (fun _ => 0) r = xs := by
  apply List.ext_getElem?
  intro j
  by_cases h : j < xs.length
  · rw [tr_get xs K _ r j h, getD_get h]
    split <;> rw [Nat.xor_zero]
  · rw [List.getElem?_eq_none (by rw [tr_length]; omega), List.getElem?_eq_none (by omega)]

/-- the turns alone -/
theorem tr_zip (xs : List Nat) (K : Nat) (b : Nat → Nat) (h : K + 4 ≤ xs.length) :
    tr xs K b 4 = xs.zipWith (· ^^^ ·) (List.replicate K 0 ++ ([b 0, b 1, b 2, b 3] ++ List.replicate (xs.length - K - 4) 0)) := by
  apply List.ext_getElem?
  intro j
  have hl : (List.replicate K 0 ++ ([b 0, b 1, b 2, b 3] ++ List.replicate (xs.length - K - 4) 0)).length = xs.length := by simp; omega
  by_cases hj : j < xs.length
  · rw [tr_get xs K b 4 j hj, List.getElem?_zipWith, getD_get hj]
    by_cases h1 : j < K
    · rw [List.getElem?_append_left (by simpa using h1), List.getElem?_replicate, if_pos h1, if_neg (by omega)]
    · rw [List.getElem?_append_right (by simpa using h1), List.length_replicate]
      by_cases h2 : j < K + 4
      · rw [List.getElem?_append_left (by simp; omega), if_pos ⟨by omega, h2⟩]
        have : j - K = 0 ∨ j - K = 1 ∨ j - K = 2 ∨ j - K = 3 := by omega
        rcases this with e | e | e | e <;> rw [e] <;> rfl
      · rw [List.getElem?_append_right (by simp; omega), List.getElem?_replicate, if_neg (show ¬ (K ≤ j ∧ j < K + 4) by omega), if_pos (by show j - K - 4 < _; omega)]
  · rw [List.getElem?_eq_none (by rw [tr_length]; omega), List.getElem?_eq_none (by rw [List.length_zipWith, hl]; omega)]
theorem run_zeros (n : Nat) : Crc.run 0 (List.replicate n 0) = 0 := by
  induction n with
  | zero => rfl
  | succ n ih =>
    rw [List.replicate_succ]
    show Crc.run (Crc.stp 0 0) (List.replicate n 0) = 0
    rw [show Crc.stp 0 0 = 0 from by decide, ih]
/-- turned bytes have another sum -/
theorem sum_turned (xs : List Nat) (K : Nat) (b : Nat → Nat) (h : K + 4 ≤ xs.length) (hb : ∀ i, b i < 256) (he : Crc.sum (tr xs K b 4) = Crc.sum xs) : b 0 = 0 ∧ b 1 = 0 ∧ b 2 = 0 ∧ b 3 = 0 := by
  have hl : (List.replicate K 0 ++ ([b 0, b 1, b 2, b 3] ++ List.replicate (xs.length - K - 4) 0)).length = xs.length := by simp; omega
  have e1 : Crc.run 4294967295 (tr xs K b 4) = Crc.run 4294967295 xs := by
    unfold Crc.sum at he
    have := congrArg (· ^^^ 4294967295) he
    simpa [Nat.xor_assoc] using this
  have e2 := Crc.run_xor (d := 0) 4294967295 xs _ hl.symm
  rw [Nat.xor_zero, ← tr_zip xs K b h, e1] at e2
  have e3 : Crc.run 0 (List.replicate K 0 ++ ([b 0, b 1, b 2, b 3] ++ List.replicate (xs.length - K - 4) 0)) = 0 := by
    have := congrArg (Crc.run 4294967295 xs ^^^ ·) e2
    simp only [Nat.xor_self, ← Nat.xor_assoc, Nat.zero_xor] at this
    exact this.symm
  rw [Crc.run_append, run_zeros, Crc.run_append] at e3
  have e4 := Crc.run_zeros_inj _ (Crc.run_lt (s := 0) (xs := [b 0, b 1, b 2, b 3]) (by decide) (fun x hx => by
    simp only [List.mem_cons, List.not_mem_nil, or_false] at hx
    rcases hx with rfl | rfl | rfl | rfl <;> exact hb _)) e3
  exact Crc.word_zero (hb 0) (hb 1) (hb 2) (hb 3) e4
/-- a frame of which four neighbours of what it holds were turned -/
theorem lk_turned (ys : List Nat) (K : Nat) (b : Nat → Nat) (h1 : 1 ≤ ys.length) (hy : ∀ y ∈ ys, y < 256) (hl : ys.length ≤ 65535) (hK : 3 ≤ K) (hK2 : K + 4 ≤ ys.length + 3) (hb : ∀ i, b i < 256) (hne : ¬ (b 0 = 0 ∧ b 1 = 0 ∧ b 2 = 0 ∧ b 3 = 0)) :
    lkE (tr (frm ys) K b 4) = 52 := by
  have hfl := frm_length ys
  have hlen : (tr (frm ys) K b 4).length = ys.length + 7 := by rw [tr_length, hfl]
  have g : ∀ j, j < 3 → (tr (frm ys) K b 4).getD j 0 = (frm ys).getD j 0 := fun j hj => by rw [tr_at _ _ _ _ _ (by omega), if_neg (by omega), Nat.xor_zero]
  have hN : lkN (tr (frm ys) K b 4) = ys.length := by
    unfold lkN
    rw [g 1 (by omega), g 2 (by omega)]
    have := lkN_frame' ys []
    rw [List.append_nil] at this
    exact this
  have hhl := hdr_length ys
  have ht : (tr (frm ys) K b 4).take (3 + ys.length) = tr (hdr ys) K b 4 := by
    apply List.ext_getElem?
    intro j
    by_cases hj : j < 3 + ys.length
    · rw [List.getElem?_take_of_lt hj, tr_get _ _ _ _ _ (by omega), tr_get _ _ _ _ _ (by omega)]
      congr 2
      unfold frm
      rw [List.getD_eq_getElem?_getD, List.getD_eq_getElem?_getD, List.getElem?_append_left (by omega)]
    · rw [List.getElem?_eq_none (by rw [List.length_take]; omega), List.getElem?_eq_none (by rw [tr_length]; omega)]
  have hd : ((tr (frm ys) K b 4).take (3 + ys.length + 4)).drop (3 + ys.length) = big (Crc.sum (hdr ys)) 4 := by
    have := sum_frame ys []
    rw [List.append_nil] at this
    rw [← this]
    apply List.ext_getElem?
    intro j
    rw [List.getElem?_drop, List.getElem?_drop]
    by_cases hj : 3 + ys.length + j < 3 + ys.length + 4
    · rw [List.getElem?_take_of_lt hj, List.getElem?_take_of_lt hj, tr_get _ _ _ _ _ (by omega), if_neg (by omega), Nat.xor_zero, getD_get (by omega)]
    · rw [List.getElem?_eq_none (by rw [List.length_take]; omega), List.getElem?_eq_none (by rw [List.length_take]; omega)]
  unfold lkE
  rw [if_neg (by omega), if_neg (by rw [g 0 (by omega)]; unfold frm hdr; simp), if_neg (by omega), hN, if_neg (by omega), if_neg (by omega), ht, hd, if_pos]
  intro e
  have hby := hdr_byte hy hl
  have hs1 := Crc.sum_lt hby
  have hs2 : Crc.sum (tr (hdr ys) K b 4) < 2 ^ 32 := Crc.sum_lt (tr_byte hby hb 4)
  have := congrArg hf e
  rw [hf_big 4 _ (by omega), hf_big 4 _ (by omega)] at this
  exact hne (sum_turned (hdr ys) K b (by omega) hb this.symm)
end Go.Proofs.YtlgockombdjbpaaDoor
