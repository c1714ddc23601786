/- Numbers as bytes, plain: how many bytes, which, and back. -/
import Derived.Test.YtippipeebkkghaaGreatDoorKb
namespace Go.Proofs.YtippipeebkkghaaGreatDoor
set_option linter.unusedVariables false

/-- the number of bytes, the highest first -/
def valB (xs : List Nat) : Nat := xs.foldl (fun a x => a * 256 + x) 0
/-- w bytes of a number, the highest first -/
def digs : Nat → Nat → List Nat
  | 0, _ => []
  | w + 1, n => (n / 256 ^ w) % 256 :: digs w n
/-- how many bytes a number takes -/
def numW (n : Nat) : Nat := if h : n = 0 then 0 else numW (n / 256) + 1
termination_by n
decreasing_by exact Nat.div_lt_self (Nat.pos_of_ne_zero h) (by decide)
/-- a number's bytes -/
def numB (n : Nat) : List Nat := numW n :: digs (numW n) n
theorem foldl_val (xs : List Nat) (a : Nat) : xs.foldl (fun a x => a * 256 + x) a = a * 256 ^ xs.length + valB xs := by
  induction xs generalizing a with
  | nil => simp [valB]
  | cons x l ih =>
    simp only [List.foldl_cons, List.length_cons, valB]
    rw [ih, ih (0 * 256 + x), Nat.pow_succ, Nat.add_mul, Nat.zero_mul, Nat.zero_add, Nat.mul_assoc, Nat.mul_comm 256, Nat.add_assoc]
theorem valB_cons (x : Nat) (l : List Nat) : valB (x :: l) = x * 256 ^ l.length + valB l := by
  show (x :: l).foldl _ 0 = _
  rw [List.foldl_cons, foldl_val, Nat.zero_mul, Nat.zero_add]
theorem valB_lt : ∀ (xs : List Nat), (∀ x ∈ xs, x < 256) → valB xs < 256 ^ xs.length
  | [], _ => by simp [valB]
  | x :: l, h => by
    have h1 := valB_lt l (fun y hy => h y (List.mem_cons_of_mem _ hy))
    have h2 := h x (List.mem_cons_self ..)
    rw [valB_cons, List.length_cons, Nat.pow_succ]
    have : (x + 1) * 256 ^ l.length ≤ 256 * 256 ^ l.length := Nat.mul_le_mul_right _ (by omega)
    rw [Nat.add_mul] at this
    rw [Nat.mul_comm (256 ^ l.length)]
    omega
theorem digs_len : ∀ w n, (digs w n).length = w
  | 0, _ => rfl
  | w + 1, n => by show (digs w n).length + 1 = _; rw [digs_len w n]
theorem digs_lt : ∀ w n, ∀ x ∈ digs w n, x < 256
  | 0, _, _, h => by cases h
  | w + 1, n, x, h => by
    rcases List.mem_cons.1 h with e | e
    · rw [e]; exact Nat.mod_lt _ (by decide)
    · exact digs_lt w n x e
theorem val_digs : ∀ w n, valB (digs w n) = n % 256 ^ w
  | 0, n => by simp [digs, valB, Nat.mod_one]
  | w + 1, n => by
    show valB ((n / 256 ^ w) % 256 :: digs w n) = _
    rw [valB_cons, digs_len, val_digs w n, Nat.pow_succ, Nat.mod_mul, Nat.mul_comm (n / 256 ^ w % 256), Nat.add_comm]
theorem digs_add (w n a : Nat) : digs w (a * 256 ^ w + n) = digs w n := by
  have : ∀ k m, k ≤ w → digs k (a * 256 ^ w + m) = digs k m := by
    intro k
    induction k with
    | zero => intros; rfl
    | succ k ih =>
      intro m hk
      show _ :: _ = _ :: _
      rw [ih m (by omega)]
      congr 1
      have e : 256 ^ w = 256 ^ k * (256 * 256 ^ (w - k - 1)) := by
        rw [← Nat.pow_succ', ← Nat.pow_add]
        congr 1
        omega
      rw [e, show a * (256 ^ k * (256 * 256 ^ (w - k - 1))) + m = m + 256 ^ k * (256 * (a * 256 ^ (w - k - 1))) by
        rw [Nat.add_comm]
        congr 1
        rw [Nat.mul_left_comm, Nat.mul_left_comm a]]
      rw [Nat.add_mul_div_left _ _ (Nat.pow_pos (by decide)), Nat.add_mul_mod_self_left]
  exact this w n (Nat.le_refl _)
theorem digs_val : ∀ xs : List Nat, (∀ x ∈ xs, x < 256) → digs xs.length (valB xs) = xs
  | [], _ => rfl
  | x :: l, h => by
    have h1 := digs_val l (fun y hy => h y (List.mem_cons_of_mem _ hy))
    have h2 := valB_lt l (fun y hy => h y (List.mem_cons_of_mem _ hy))
    have h3 := h x (List.mem_cons_self ..)
    show (valB (x :: l) / 256 ^ l.length) % 256 :: digs l.length (valB (x :: l)) = _
    rw [valB_cons, digs_add, h1]
    congr 1
    rw [Nat.add_comm, Nat.add_mul_div_right _ _ (Nat.pow_pos (by decide)), Nat.div_eq_of_lt h2, Nat.zero_add, Nat.mod_eq_of_lt h3]
theorem numW_zero : numW 0 = 0 := by unfold numW; rfl
theorem numW_pos {n : Nat} (h : n ≠ 0) : numW n = numW (n / 256) + 1 := by rw [numW, dif_neg h]
theorem numW_lt (n : Nat) : n < 256 ^ numW n := by
  induction n using Nat.strongRecOn with
  | _ n ih =>
    by_cases h : n = 0
    · subst h; rw [numW_zero]; decide
    · have := ih (n / 256) (Nat.div_lt_self (Nat.pos_of_ne_zero h) (by decide))
      rw [numW_pos h, Nat.pow_succ]
      have h2 := Nat.div_add_mod n 256
      have h3 := Nat.mod_lt n (show 256 > 0 by decide)
      omega
theorem numW_le {n k : Nat} (h : n < 256 ^ k) : numW n ≤ k := by
  induction k generalizing n with
  | zero =>
    have : n = 0 := by simpa using h
    rw [this, numW_zero]
    exact Nat.le_refl 0
  | succ k ih =>
    by_cases h0 : n = 0
    · rw [h0, numW_zero]; exact Nat.zero_le _
    · rw [numW_pos h0]
      have : n / 256 < 256 ^ k := Nat.div_lt_of_lt_mul (by rw [Nat.mul_comm, ← Nat.pow_succ]; exact h)
      have := ih this
      omega
theorem numW_ge {n k : Nat} (h : 256 ^ k ≤ n) : k < numW n := by
  induction k generalizing n with
  | zero =>
    have h0 : n ≠ 0 := by simp at h; omega
    rw [numW_pos h0]
    exact Nat.succ_pos _
  | succ k ih =>
    have hp : 0 < 256 ^ (k + 1) := Nat.pow_pos (by decide)
    have h0 : n ≠ 0 := by omega
    rw [numW_pos h0]
    have : 256 ^ k ≤ n / 256 := (Nat.le_div_iff_mul_le (by decide)).2 (by rw [← Nat.pow_succ]; exact h)
    have := ih this
    omega
theorem val_num (n : Nat) : valB (digs (numW n) n) = n := by rw [val_digs, Nat.mod_eq_of_lt (numW_lt n)]
/-- bytes whose first is no nought are those of their number -/
theorem numW_val {x : Nat} {l : List Nat} (h : ∀ y ∈ x :: l, y < 256) (hx : x ≠ 0) : numW (valB (x :: l)) = l.length + 1 := by
  have h1 : numW (valB (x :: l)) ≤ l.length + 1 := numW_le (valB_lt (x :: l) h)
  have h2 : l.length < numW (valB (x :: l)) := numW_ge (by
    rw [valB_cons]
    have : 1 * 256 ^ l.length ≤ x * 256 ^ l.length := Nat.mul_le_mul_right _ (by omega)
    omega)
  omega
theorem digs_head {n : Nat} (h : n ≠ 0) : ∃ x l, digs (numW n) n = x :: l ∧ x ≠ 0 := by
  cases hd : digs (numW n) n with
  | nil =>
    have := digs_len (numW n) n
    rw [hd, numW_pos h] at this
    cases this
  | cons x l =>
    refine ⟨x, l, rfl, fun e => ?_⟩
    have h1 := val_num n
    rw [hd, e, valB_cons, Nat.zero_mul, Nat.zero_add] at h1
    have h2 := valB_lt l (fun y hy => digs_lt (numW n) n y (by rw [hd]; exact List.mem_cons_of_mem _ hy))
    have h3 : l.length + 1 = numW n := by rw [← digs_len (numW n) n, hd]; rfl
    rw [h1] at h2
    have := numW_le h2
    omega
/-- a number of at most so much, and what is left -/
def rdNum (most : Nat) : List Nat → Option (Nat × List Nat)
  | [] => none
  | w :: t => if w ≤ 8 ∧ w ≤ t.length ∧ (t.take w).head? ≠ some 0 ∧ valB (t.take w) ≤ most then some (valB (t.take w), t.drop w) else none
theorem rdNum_cons (most w : Nat) (t : List Nat) : rdNum most (w :: t) = if w ≤ 8 ∧ w ≤ t.length ∧ (t.take w).head? ≠ some 0 ∧ valB (t.take w) ≤ most then some (valB (t.take w), t.drop w) else none := rfl
theorem rdNum_num {n most : Nat} (hn : n ≤ most) (hm : n < 256 ^ 8) (t : List Nat) : rdNum most (numB n ++ t) = some (n, t) := by
  have hw : numW n ≤ 8 := numW_le hm
  have ht : (digs (numW n) n ++ t).take (numW n) = digs (numW n) n := by rw [List.take_left' (digs_len _ _)]
  have hd : (digs (numW n) n ++ t).drop (numW n) = t := by rw [List.drop_left' (digs_len _ _)]
  rw [show numB n ++ t = numW n :: (digs (numW n) n ++ t) from rfl, rdNum_cons, ht, hd, val_num, if_pos]
  refine ⟨hw, by rw [List.length_append, digs_len]; omega, fun e => ?_, hn⟩
  by_cases h0 : n = 0
  · rw [h0, numW_zero] at e; cases e
  · obtain ⟨x, l, hx, h1⟩ := digs_head h0
    rw [hx] at e
    simp at e
    exact h1 e
theorem rdNum_back {n most : Nat} {xs t : List Nat} (hb : ∀ x ∈ xs, x < 256) (h : rdNum most xs = some (n, t)) : xs = numB n ++ t ∧ n ≤ most ∧ n < 256 ^ 8 ∧ ∀ x ∈ t, x < 256 := by
  cases xs with
  | nil => cases h
  | cons w l =>
    rw [rdNum_cons] at h
    by_cases hc : w ≤ 8 ∧ w ≤ l.length ∧ (l.take w).head? ≠ some 0 ∧ valB (l.take w) ≤ most
    · rw [if_pos hc] at h
      injection h with h
      injection h with h1 h2
      have hbt : ∀ x ∈ l.take w, x < 256 := fun x hx => hb x (List.mem_cons_of_mem _ (List.mem_of_mem_take hx))
      have hl : (l.take w).length = w := by rw [List.length_take]; omega
      have hn : n < 256 ^ w := by
        rw [← h1]
        have := valB_lt _ hbt
        rwa [hl] at this
      have hnw : numW n = w := by
        cases hq : l.take w with
        | nil =>
          rw [hq] at hl h1
          have : n = 0 := by rw [← h1]; rfl
          rw [this, numW_zero]
          exact hl
        | cons x m =>
          rw [hq] at hl h1 hbt
          have := numW_val hbt (fun e => hc.2.2.1 (by rw [hq, e]; rfl))
          rw [h1] at this
          rw [this]
          exact hl
      refine ⟨?_, by rw [← h1]; exact hc.2.2.2, Nat.lt_of_lt_of_le hn (Nat.pow_le_pow_right (by decide) hc.1), fun x hx => ?_⟩
      · show w :: l = numW n :: digs (numW n) n ++ t
        rw [hnw, List.cons_append]
        congr 1
        have : digs w n = l.take w := by
          have := digs_val _ hbt
          rw [hl, h1] at this
          exact this
        rw [this, ← h2, List.take_append_drop]
      · rw [← h2] at hx
        exact hb x (List.mem_cons_of_mem _ (List.mem_of_mem_drop hx))
    · rw [if_neg hc] at h
      cases h
end Go.Proofs.YtippipeebkkghaaGreatDoor
