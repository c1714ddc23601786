/- Texts of this proof, joined: Na, Ib. -/
import Derived.Test.YtblaabjjcanifaaGreatDoorMgAA
import Derived.Test.YtblaabjjcanifaaGreatDoorMgBA
import Derived.Test.YtblaabjjcanifaaGreatDoorMgAW
/- Numbers as bytes, plain: how many bytes, which, and back. -/
namespace Go.Proofs.YtblaabjjcanifaaGreatDoor
set_option linter.unusedVariables false

/-- the number of bytes, the highest first -/
def valB (xs : List Nat) : Nat := xs.foldl (fun a x => a * 256 + x) 0
/-- w bytes of a number, the highest first -/
def digs : Nat → Nat → List Nat
  | 0, _ => []
  | w + 1, n => (n / 256 ^ w) % 256 :: digs w n
/-- how many bytes a number takes -/
def numW (n : Nat) : Nat := if h : n = 0 then 0 else numW (n / 256) + 1
termination_by n
decreasing_by exact Nat.div_lt_self (Nat.pos_of_ne_zero h) (by decide)
/-- a number's bytes -/
def numB (n : Nat) : List Nat := numW n :: digs (numW n) n
theorem foldl_val (xs : List Nat) (a : Nat) : xs.foldl (fun a x => a * 256 + x) a = a * 256 ^ xs.length + valB xs := by
  induction xs generalizing a with
  | nil => simp [valB]
  | cons x l ih =>
    simp only [List.foldl_cons, List.length_cons, valB]
    rw [ih, ih (0 * 256 + x), Nat.pow_succ, Nat.add_mul, Nat.zero_mul, Nat.zero_add, Nat.mul_assoc, Nat.mul_comm 256, Nat.add_assoc]
theorem valB_cons (x : Nat) (l : List Nat) : valB (x :: l) = x * 256 ^ l.length + valB l := by
  show (x :: l).foldl _ 0 = _
  rw [List.foldl_cons, foldl_val, Nat.zero_mul, Nat.zero_add]
theorem valB_lt : ∀ (xs : List Nat), (∀ x ∈ xs, x < 256) → valB xs < 256 ^ xs.length
  | [], _ => by simp [valB]
  | x :: l, h => by
    have h1 := valB_lt l (fun y hy => h y (List.mem_cons_of_mem _ hy))
    have h2 := h x (List.mem_cons_self ..)
    rw [valB_cons, List.length_cons, Nat.pow_succ]
    have : (x + 1) * 256 ^ l.length ≤ 256 * 256 ^ l.length := Nat.mul_le_mul_right _ (by omega)
    rw [Nat.add_mul] at this
    rw [Nat.mul_comm (256 ^ l.length)]
    omega
theorem digs_len : ∀ w n, (digs w n).length = w
  | 0, _ => rfl
  | w + 1, n => by show (digs w n).length + 1 = _; rw [digs_len w n]
theorem digs_lt : ∀ w n, ∀ x ∈ digs w n, x < 256
  | 0, _, _, h => by cases h
  | w + 1, n, x, h => by
    rcases List.mem_cons.1 h with e | e
    · rw [e]; exact Nat.mod_lt _ (by decide)
    · exact digs_lt w n x e
theorem val_digs : ∀ w n, valB (digs w n) = n % 256 ^ w
  | 0, n => by simp [digs, valB, Nat.mod_one]
  | w + 1, n => by
    show valB ((n / 256 ^ w) % 256 :: digs w n) = _
    rw [valB_cons, digs_len, val_digs w n, Nat.pow_succ, Nat.mod_mul, Nat.mul_comm (n / 256 ^ w % 256), Nat.add_comm]
theorem digs_add (w n a : Nat) : digs w (a * 256 ^ w + n) = digs w n := by
  have : ∀ k m, k ≤ w → digs k (a * 256 ^ w + m) = digs k m := by
    intro k
    induction k with
    | zero => intros; rfl
    | succ k ih =>
      intro m hk
      show _ :: _ = _ :: _
      rw [ih m (by omega)]
      congr 1
      have e : 256 ^ w = 256 ^ k * (256 * 256 ^ (w - k - 1)) := by
        rw [← Nat.pow_succ', ← Nat.pow_add]
        congr 1
        omega
      rw [e, show a * (256 ^ k * (256 * 256 ^ (w - k - 1))) + m = m + 256 ^ k * (256 * (a * 256 ^ (w - k - 1))) by
        rw [Nat.add_comm]
        congr 1
        rw [Nat.mul_left_comm, Nat.mul_left_comm a]]
      rw [Nat.add_mul_div_left _ _ (Nat.pow_pos (by decide)), Nat.add_mul_mod_self_left]
  exact this w n (Nat.le_refl _)
theorem digs_val : ∀ xs : List Nat, (∀ x ∈ xs, x < 256) → digs xs.length (valB xs) = xs
  | [], _ => rfl
  | x :: l, h => by
    have h1 := digs_val l (fun y hy => h y (List.mem_cons_of_mem _ hy))
    have h2 := valB_lt l (fun y hy => h y (List.mem_cons_of_mem _ hy))
    have h3 := h x (List.mem_cons_self ..)
    show (valB (x :: l) / 256 ^ l.length) % 256 :: digs l.length (valB (x :: l)) = _
    rw [valB_cons, digs_add, h1]
    congr 1
    rw [Nat.add_comm, Nat.add_mul_div_right _ _ (Nat.pow_pos (by decide)), Nat.div_eq_of_lt h2, Nat.zero_add, Nat.mod_eq_of_lt h3]
theorem numW_zero : numW 0 = 0 := by unfold numW; rfl
theorem numW_pos {n : Nat} (h : n ≠ 0) : numW n = numW (n / 256) + 1 := by rw [numW, dif_neg h]
theorem numW_lt (n : Nat) : n < 256 ^ numW n := by
  induction n using Nat.strongRecOn with
  | _ n ih =>
    by_cases h : n = 0
    · subst h; rw [numW_zero]; decide
    · have := ih (n / 256) (Nat.div_lt_self (Nat.pos_of_ne_zero h) (by decide))
      rw [numW_pos h, Nat.pow_succ]
      have h2 := Nat.div_add_mod n 256
      have h3 := Nat.mod_lt n (show 256 > 0 by decide)
      omega
theorem numW_le {n k : Nat} (h : n < 256 ^ k) : numW n ≤ k := by
  induction k generalizing n with
  | zero =>
    have : n = 0 := by simpa using h
    rw [this, numW_zero]
    exact Nat.le_refl 0
  | succ k ih =>
    by_cases h0 : n = 0
    · rw [h0, numW_zero]; exact Nat.zero_le _
    · rw [numW_pos h0]
      have : n / 256 < 256 ^ k := Nat.div_lt_of_lt_mul (by rw [Nat.mul_comm, ← Nat.pow_succ]; exact h)
      have := ih this
      omega
theorem numW_ge {n k : Nat} (h : 256 ^ k ≤ n) : k < numW n := by
  induction k generalizing n with
  | zero =>
    have h0 : n ≠ 0 := by simp at h; omega
    rw [numW_pos h0]
    exact Nat.succ_pos _
  | succ k ih =>
    have hp : 0 < 256 ^ (k + 1) := Nat.pow_pos (by decide)
    have h0 : n ≠ 0 := by omega
    rw [numW_pos h0]
    have : 256 ^ k ≤ n / 256 := (Nat.le_div_iff_mul_le (by decide)).2 (by rw [← Nat.pow_succ]; exact h)
    have := ih this
    omega
theorem val_num (n : Nat) : valB (digs (numW n) n) = n := by rw [val_digs, Nat.mod_eq_of_lt (numW_lt n)]
/-- bytes whose first is no nought are those of their number -/
theorem numW_val {x : Nat} {l : List Nat} (h : ∀ y ∈ x :: l, y < 256) (hx : x ≠ 0) : numW (valB (x :: l)) = l.length + 1 := by
  have h1 : numW (valB (x :: l)) ≤ l.length + 1 := numW_le (valB_lt (x :: l) h)
  have h2 : l.length < numW (valB (x :: l)) := numW_ge (by
    rw [valB_cons]
    have : 1 * 256 ^ l.length ≤ x * 256 ^ l.length := Nat.mul_le_mul_right _ (by omega)
    omega)
  omega
theorem digs_head {n : Nat} (h : n ≠ 0) : ∃ x l, digs (numW n) n = x :: l ∧ x ≠ 0 := by
  cases hd : digs (numW n) n with
  | nil =>
    have := digs_len (numW n) n
    rw [hd, numW_pos h] at this
    cases this
  | cons x l =>
    refine ⟨x, l, rfl, fun e => ?_⟩
    have h1 := val_num n
    rw [hd, e, valB_cons, Nat.zero_mul, Nat.zero_add] at h1
    have h2 := valB_lt l (fun y hy => digs_lt (numW n) n y (by rw [hd]; exact List.mem_cons_of_mem _ hy))
    have h3 : l.length + 1 = numW n := by rw [← digs_len (numW n) n, hd]; rfl
    rw [h1] at h2
    have := numW_le h2
    omega
/-- a number of at most so much, and what is left -/
def rdNum (most : Nat) : List Nat → Option (Nat × List Nat)
  | [] => none
  | w :: t => if w ≤ 8 ∧ w ≤ t.length ∧ (t.take w).head? ≠ some 0 ∧ valB (t.take w) ≤ most then some (valB (t.take w), t.drop w) else none
theorem rdNum_cons (most w : Nat) (t : List Nat) : rdNum most (w :: t) = if w ≤ 8 ∧ w ≤ t.length ∧ (t.take w).head? ≠ some 0 ∧ valB (t.take w) ≤ most then some (valB (t.take w), t.drop w) else none := rfl
theorem rdNum_num {n most : Nat} (hn : n ≤ most) (hm : n < 256 ^ 8) (t : List Nat) : rdNum most (numB n ++ t) = some (n, t) := by
  have hw : numW n ≤ 8 := numW_le hm
  have ht : (digs (numW n) n ++ t).take (numW n) = digs (numW n) n := by rw [List.take_left' (digs_len _ _)]
  have hd : (digs (numW n) n ++ t).drop (numW n) = t := by rw [List.drop_left' (digs_len _ _)]
  rw [show numB n ++ t = numW n :: (digs (numW n) n ++ t) from rfl, rdNum_cons, ht, hd, val_num, if_pos]
  refine ⟨hw, by rw [List.length_append, digs_len]; omega, fun e => ?_, hn⟩
  by_cases h0 : n = 0
  · rw [h0, numW_zero] at e; cases e
  · obtain ⟨x, l, hx, h1⟩ := digs_head h0
    rw [hx] at e
    simp at e
    exact h1 e
theorem rdNum_back {n most : Nat} {xs t : List Nat} (hb : ∀ x ∈ xs, x < 256) (h : rdNum most xs = some (n, t)) : xs = numB n ++ t ∧ n ≤ most ∧ n < 256 ^ 8 ∧ ∀ x ∈ t, x < 256 := by
  cases xs with
  | nil => cases h
  | cons w l =>
    rw [rdNum_cons] at h
    by_cases hc : w ≤ 8 ∧ w ≤ l.length ∧ (l.take w).head? ≠ some 0 ∧ valB (l.take w) ≤ most
    · rw [if_pos hc] at h
      injection h with h
      injection h with h1 h2
      have hbt : ∀ x ∈ l.take w, x < 256 := fun x hx => hb x (List.mem_cons_of_mem _ (List.mem_of_mem_take hx))
      have hl : (l.take w).length = w := by rw [List.length_take]; omega
      have hn : n < 256 ^ w := by
        rw [← h1]
        have := valB_lt _ hbt
        rwa [hl] at this
      have hnw : numW n = w := by
        cases hq : l.take w with
        | nil =>
          rw [hq] at hl h1
          have : n = 0 := by rw [← h1]; rfl
          rw [this, numW_zero]
          exact hl
        | cons x m =>
          rw [hq] at hl h1 hbt
          have := numW_val hbt (fun e => hc.2.2.1 (by rw [hq, e]; rfl))
          rw [h1] at this
          rw [this]
          exact hl
      refine ⟨?_, by rw [← h1]; exact hc.2.2.2, Nat.lt_of_lt_of_le hn (Nat.pow_le_pow_right (by decide) hc.1), fun x hx => ?_⟩
      · show w :: l = numW n :: digs (numW n) n ++ t
        rw [hnw, List.cons_append]
        congr 1
        have : digs w n = l.take w := by
          have := digs_val _ hbt
          rw [hl, h1] at this
          exact this
        rw [this, ← h2, List.take_append_drop]
      · rw [← h2] at hx
        exact hb x (List.mem_cons_of_mem _ (List.mem_of_mem_drop hx))
    · rw [if_neg hc] at h
      cases h
end Go.Proofs.YtblaabjjcanifaaGreatDoor

/- A shelf's records and what they come to (plain). -/
namespace Go.Proofs.YtblaabjjcanifaaGreatDoor
set_option linter.unusedVariables false
set_option linter.unusedSimpArgs false
open Go.RowKit Go.Deep

/-- a shelf's record: kind, number, index, epoch, bytes -/
structure Rc where
  (k n i e : Nat)
  b : List Nat
/-- its bytes in the log -/
def wrS (r : Rc) : List Nat := [r.k] ++ numB r.n ++ (if r.k = 4 then [] else numB r.i) ++ (if r.k = 3 then numB r.e else []) ++ r.b
/-- the thing that it has be otherwise -/
def subS (r : Rc) : K3 := ⟨((if r.k = 2 then 1 else r.k : Nat) : Int), (r.n : Int), (r.i : Int)⟩
def staysS (r : Rc) : Bool := decide (r.k ≠ 2) && (decide (r.k ≠ 3) || decide (0 < r.e))
def secS (r : Rc) : Nat := needW (wrS r)
/-- what a shelf has behind a record -/
def putS (M : K3 → Option Rc) (r : Rc) : K3 → Option Rc := fun x => if x = subS r then (if staysS r = true then some r else none) else M x
/-- how many sectors all have behind a record -/
def behS (M : K3 → Option Rc) (t : Int) (r : Rc) : Int := t - (match M (subS r) with | some o => (secS o : Int) | none => 0) + (if staysS r = true then (secS r : Int) else 0)
/-- what records come to, and how many sectors they have -/
def stS (h : List Rc) : (K3 → Option Rc) × Int := h.foldl (fun x r => (putS x.1 r, behS x.1 x.2 r)) (fun _ => none, 0)
theorem stS_nil : stS [] = (fun _ => none, 0) := rfl
theorem stS_snoc (h : List Rc) (r : Rc) : stS (h ++ [r]) = (putS (stS h).1 r, behS (stS h).1 (stS h).2 r) := by
  unfold stS
  rw [List.foldl_append]
  rfl
theorem behS_le (M : K3 → Option Rc) (t : Int) (r : Rc) : behS M t r ≤ t + (secS r : Int) := by
  unfold behS
  cases hM : M (subS r) with
  | none => dsimp only; split <;> omega
  | some o =>
    dsimp only
    have h1 : (0 : Int) ≤ (secS o : Int) := Int.natCast_nonneg _
    have h2 : (0 : Int) ≤ (secS r : Int) := Int.natCast_nonneg _
    split <;> omega
theorem stS_le (h : List Rc) : (stS h).2 ≤ (totW (h.map wrS) : Int) := by
  suffices H : ∀ n, ∀ h : List Rc, h.length = n → (stS h).2 ≤ (totW (h.map wrS) : Int) from H _ h rfl
  intro n
  induction n with
  | zero =>
    intro h hl
    rw [List.eq_nil_of_length_eq_zero hl]
    exact Int.le_refl _
  | succ n ih =>
    intro h hl
    obtain ⟨l, r, rfl⟩ : ∃ l r, h = l ++ [r] := ⟨h.dropLast, h.getLast (by intro e; subst e; simp at hl), (List.dropLast_concat_getLast _).symm⟩
    have h1 := ih l (by simpa using hl)
    have h2 := behS_le (stS l).1 (stS l).2 r
    rw [stS_snoc, List.map_append, totW_app]
    show behS _ _ _ ≤ ((totW (l.map wrS) + needW (wrS r) : Nat) : Int)
    have : secS r = needW (wrS r) := rfl
    omega
/-- the least that it can be -/
theorem stS_ge (h : List Rc) (hb : ∀ r ∈ h, secS r ≤ 50) : (-50 * (h.length : Int)) ≤ (stS h).2 ∧ ∀ x o, (stS h).1 x = some o → o ∈ h := by
  suffices H : ∀ n, ∀ h : List Rc, h.length = n → (∀ r ∈ h, secS r ≤ 50) → (-50 * (h.length : Int)) ≤ (stS h).2 ∧ ∀ x o, (stS h).1 x = some o → o ∈ h from H _ h rfl hb
  intro n
  induction n with
  | zero =>
    intro h hl _
    rw [List.eq_nil_of_length_eq_zero hl]
    exact ⟨by simp [stS], fun x o e => by cases e⟩
  | succ n ih =>
    intro h hl hb
    obtain ⟨l, r, rfl⟩ : ∃ l r, h = l ++ [r] := ⟨h.dropLast, h.getLast (by intro e; subst e; simp at hl), (List.dropLast_concat_getLast _).symm⟩
    obtain ⟨h1, h2⟩ := ih l (by simpa using hl) (fun z hz => hb z (List.mem_append_left _ hz))
    rw [stS_snoc]
    refine ⟨?_, fun x o e => ?_⟩
    · show _ ≤ behS _ _ _
      unfold behS
      rw [List.length_append]
      cases hM : (stS l).1 (subS r) with
      | none => simp; split <;> omega
      | some o =>
        have := hb o (List.mem_append_left _ (h2 _ _ hM))
        simp
        split <;> omega
    · have e' : putS (stS l).1 r x = some o := e
      unfold putS at e'
      split at e'
      · split at e'
        · cases e'; simp
        · cases e'
      · exact List.mem_append_left _ (h2 _ _ e')
/-- a record that a shelf may have -/
structure GoodR (r : Rc) : Prop where
  k1 : 1 ≤ r.k ∧ r.k ≤ 4
  n1 : r.n ≤ 1152921504606846976
  i1 : r.i ≤ 1152921504606846976
  e1 : r.e ≤ 1152921504606846976
  by_ : ∀ x ∈ r.b, x < 256
  bl : r.b.length ≤ 1980
  b23 : r.k = 2 ∨ r.k = 3 → r.b = []
theorem numB_len {n : Nat} (h : n ≤ 1152921504606846976) : 1 ≤ (numB n).length ∧ (numB n).length ≤ 9 := by
  have h8 : numW n ≤ 8 := numW_le (show n < 256 ^ 8 by have : (256 : Nat) ^ 8 = 18446744073709551616 := rfl; omega)
  have : (numB n).length = numW n + 1 := by show (_ :: digs _ _).length = _; rw [List.length_cons, digs_len]
  omega
theorem wrS_len {r : Rc} (h : GoodR r) : 1 ≤ (wrS r).length ∧ (wrS r).length ≤ 2000 ∧ (wrS r).length ≤ 28 + r.b.length := by
  obtain ⟨n1, n2⟩ := numB_len h.n1
  obtain ⟨i1, i2⟩ := numB_len h.i1
  obtain ⟨e1, e2⟩ := numB_len h.e1
  have hbl := h.bl
  unfold wrS
  by_cases h4 : r.k = 4
  · rw [if_pos h4, if_neg (by omega)]
    simp only [List.length_append, List.length_cons, List.length_nil]
    omega
  · rw [if_neg h4]
    by_cases h3 : r.k = 3
    · rw [if_pos h3, h.b23 (Or.inr h3)]
      simp only [List.length_append, List.length_cons, List.length_nil]
      omega
    · rw [if_neg h3]
      simp only [List.length_append, List.length_cons, List.length_nil]
      omega
theorem wrS_b {r : Rc} (h : GoodR r) : ∀ x ∈ wrS r, x < 256 := by
  have hn : ∀ n, n ≤ 1152921504606846976 → ∀ x ∈ numB n, x < 256 := fun n hn x hx => by
    have h8 : numW n ≤ 8 := numW_le (show n < 256 ^ 8 by have : (256 : Nat) ^ 8 = 18446744073709551616 := rfl; omega)
    rcases List.mem_cons.1 (show x ∈ numW n :: digs (numW n) n from hx) with rfl | h1
    · omega
    · exact digs_lt _ _ x h1
  intro x hx
  unfold wrS at hx
  rcases List.mem_append.1 hx with hx | hx
  · rcases List.mem_append.1 hx with hx | hx
    · rcases List.mem_append.1 hx with hx | hx
      · rcases List.mem_append.1 hx with hx | hx
        · have := h.k1
          have : x = r.k := by simpa using hx
          omega
        · exact hn _ h.n1 x hx
      · split at hx
        · cases hx
        · exact hn _ h.i1 x hx
    · split at hx
      · exact hn _ h.e1 x hx
      · cases hx
  · exact h.by_ x hx
theorem secS_le {r : Rc} (h : GoodR r) : 1 ≤ secS r ∧ secS r ≤ 50 := by
  have := wrS_len h
  unfold secS needW
  omega
theorem wf_n60 {n : Nat} (h : n ≤ 1152921504606846976) : (Lit.int .i64 (n : Int)).wf = true := WalkArith.wf_i64 (by omega)
theorem subS_wf {r : Rc} (h : GoodR r) : wf3 (subS r) := by
  have := h.k1
  refine ⟨?_, wf_n60 h.n1, wf_n60 h.i1⟩
  show (Lit.int .i64 ((if r.k = 2 then 1 else r.k : Nat) : Int)).wf = true
  split <;> exact wf_n60 (by omega)
end Go.Proofs.YtblaabjjcanifaaGreatDoor
