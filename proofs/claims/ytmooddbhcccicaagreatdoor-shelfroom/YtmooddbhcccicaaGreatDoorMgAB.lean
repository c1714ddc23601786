/- Texts of this proof, joined: Na, Fc, Fs. -/
import Derived.Test.YtmooddbhcccicaaGreatDoorMgAA
import Derived.Laws.BitsAllLaws
/- Numbers as bytes, plain: how many bytes, which, and back. -/
namespace Go.Proofs.YtmooddbhcccicaaGreatDoor
set_option linter.unusedVariables false

/-- the number of bytes, the highest first -/
def valB (xs : List Nat) : Nat := xs.foldl (fun a x => a * 256 + x) 0
/-- w bytes of a number, the highest first -/
def digs : Nat → Nat → List Nat
  | 0, _ => []
  | w + 1, n => (n / 256 ^ w) % 256 :: digs w n
/-- how many bytes a number takes -/
def numW (n : Nat) : Nat := if h : n = 0 then 0 else numW (n / 256) + 1
termination_by n
decreasing_by exact Nat.div_lt_self (Nat.pos_of_ne_zero h) (by decide)
/-- a number's bytes -/
def numB (n : Nat) : List Nat := numW n :: digs (numW n) n
theorem foldl_val (xs : List Nat) (a : Nat) : xs.foldl (fun a x => a * 256 + x) a = a * 256 ^ xs.length + valB xs := by
  induction xs generalizing a with
  | nil => simp [valB]
  | cons x l ih =>
    simp only [List.foldl_cons, List.length_cons, valB]
    rw [ih, ih (0 * 256 + x), Nat.pow_succ, Nat.add_mul, Nat.zero_mul, Nat.zero_add, Nat.mul_assoc, Nat.mul_comm 256, Nat.add_assoc]
theorem valB_cons (x : Nat) (l : List Nat) : valB (x :: l) = x * 256 ^ l.length + valB l := by
  show (x :: l).foldl _ 0 = _
  rw [List.foldl_cons, foldl_val, Nat.zero_mul, Nat.zero_add]
theorem valB_lt : ∀ (xs : List Nat), (∀ x ∈ xs, x < 256) → valB xs < 256 ^ xs.length
  | [], _ => by simp [valB]
  | x :: l, h => by
    have h1 := valB_lt l (fun y hy => h y (List.mem_cons_of_mem _ hy))
    have h2 := h x (List.mem_cons_self ..)
    rw [valB_cons, List.length_cons, Nat.pow_succ]
    have : (x + 1) * 256 ^ l.length ≤ 256 * 256 ^ l.length := Nat.mul_le_mul_right _ (by omega)
    rw [Nat.add_mul] at this
    rw [Nat.mul_comm (256 ^ l.length)]
    omega
theorem digs_len : ∀ w n, (digs w n).length = w
  | 0, _ => rfl
  | w + 1, n => by show (digs w n).length + 1 = _; rw [digs_len w n]
theorem digs_lt : ∀ w n, ∀ x ∈ digs w n, x < 256
  | 0, _, _, h => by cases h
  | w + 1, n, x, h => by
    rcases List.mem_cons.1 h with e | e
    · rw [e]; exact Nat.mod_lt _ (by decide)
    · exact digs_lt w n x e
theorem val_digs : ∀ w n, valB (digs w n) = n % 256 ^ w
  | 0, n => by simp [digs, valB, Nat.mod_one]
  | w + 1, n => by
    show valB ((n / 256 ^ w) % 256 :: digs w n) = _
    rw [valB_cons, digs_len, val_digs w n, Nat.pow_succ, Nat.mod_mul, Nat.mul_comm (n / 256 ^ w % 256), Nat.add_comm]
theorem digs_add (w n a : Nat) : digs w (a * 256 ^ w + n) = digs w n := by
  have : ∀ k m, k ≤ w → digs k (a * 256 ^ w + m) = digs k m := by
    intro k
    induction k with
    | zero => intros; rfl
    | succ k ih =>
      intro m hk
      show _ :: _ = _ :: _
      rw [ih m (by omega)]
      congr 1
      have e : 256 ^ w = 256 ^ k * (256 * 256 ^ (w - k - 1)) := by
        rw [← Nat.pow_succ', ← Nat.pow_add]
        congr 1
        omega
      rw [e, show a * (256 ^ k * (256 * 256 ^ (w - k - 1))) + m = m + 256 ^ k * (256 * (a * 256 ^ (w - k - 1))) by
        rw [Nat.add_comm]
        congr 1
        rw [Nat.mul_left_comm, Nat.mul_left_comm a]]
      rw [Nat.add_mul_div_left _ _ (Nat.pow_pos (by decide)), Nat.add_mul_mod_self_left]
  exact this w n (Nat.le_refl _)
theorem digs_val : ∀ xs : List Nat, (∀ x ∈ xs, x < 256) → digs xs.length (valB xs) = xs
  | [], _ => rfl
  | x :: l, h => by
    have h1 := digs_val l (fun y hy => h y (List.mem_cons_of_mem _ hy))
    have h2 := valB_lt l (fun y hy => h y (List.mem_cons_of_mem _ hy))
    have h3 := h x (List.mem_cons_self ..)
    show (valB (x :: l) / 256 ^ l.length) % 256 :: digs l.length (valB (x :: l)) = _
    rw [valB_cons, digs_add, h1]
    congr 1
    rw [Nat.add_comm, Nat.add_mul_div_right _ _ (Nat.pow_pos (by decide)), Nat.div_eq_of_lt h2, Nat.zero_add, Nat.mod_eq_of_lt h3]
theorem numW_zero : numW 0 = 0 := by unfold numW; rfl
theorem numW_pos {n : Nat} (h : n ≠ 0) : numW n = numW (n / 256) + 1 := by rw [numW, dif_neg h]
theorem numW_lt (n : Nat) : n < 256 ^ numW n := by
  induction n using Nat.strongRecOn with
  | _ n ih =>
    by_cases h : n = 0
    · subst h; rw [numW_zero]; decide
    · have := ih (n / 256) (Nat.div_lt_self (Nat.pos_of_ne_zero h) (by decide))
      rw [numW_pos h, Nat.pow_succ]
      have h2 := Nat.div_add_mod n 256
      have h3 := Nat.mod_lt n (show 256 > 0 by decide)
      omega
theorem numW_le {n k : Nat} (h : n < 256 ^ k) : numW n ≤ k := by
  induction k generalizing n with
  | zero =>
    have : n = 0 := by simpa using h
    rw [this, numW_zero]
    exact Nat.le_refl 0
  | succ k ih =>
    by_cases h0 : n = 0
    · rw [h0, numW_zero]; exact Nat.zero_le _
    · rw [numW_pos h0]
      have : n / 256 < 256 ^ k := Nat.div_lt_of_lt_mul (by rw [Nat.mul_comm, ← Nat.pow_succ]; exact h)
      have := ih this
      omega
theorem numW_ge {n k : Nat} (h : 256 ^ k ≤ n) : k < numW n := by
  induction k generalizing n with
  | zero =>
    have h0 : n ≠ 0 := by simp at h; omega
    rw [numW_pos h0]
    exact Nat.succ_pos _
  | succ k ih =>
    have hp : 0 < 256 ^ (k + 1) := Nat.pow_pos (by decide)
    have h0 : n ≠ 0 := by omega
    rw [numW_pos h0]
    have : 256 ^ k ≤ n / 256 := (Nat.le_div_iff_mul_le (by decide)).2 (by rw [← Nat.pow_succ]; exact h)
    have := ih this
    omega
theorem val_num (n : Nat) : valB (digs (numW n) n) = n := by rw [val_digs, Nat.mod_eq_of_lt (numW_lt n)]
/-- bytes whose first is no nought are those of their number -/
theorem numW_val {x : Nat} {l : List Nat} (h : ∀ y ∈ x :: l, y < 256) (hx : x ≠ 0) : numW (valB (x :: l)) = l.length + 1 := by
  have h1 : numW (valB (x :: l)) ≤ l.length + 1 := numW_le (valB_lt (x :: l) h)
  have h2 : l.length < numW (valB (x :: l)) := numW_ge (by
    rw [valB_cons]
    have : 1 * 256 ^ l.length ≤ x * 256 ^ l.length := Nat.mul_le_mul_right _ (by omega)
    omega)
  omega
theorem digs_head {n : Nat} (h : n ≠ 0) : ∃ x l, digs (numW n) n = x :: l ∧ x ≠ 0 := by
  cases hd : digs (numW n) n with
  | nil =>
    have := digs_len (numW n) n
    rw [hd, numW_pos h] at this
    cases this
  | cons x l =>
    refine ⟨x, l, rfl, fun e => ?_⟩
    have h1 := val_num n
    rw [hd, e, valB_cons, Nat.zero_mul, Nat.zero_add] at h1
    have h2 := valB_lt l (fun y hy => digs_lt (numW n) n y (by rw [hd]; exact List.mem_cons_of_mem _ hy))
    have h3 : l.length + 1 = numW n := by rw [← digs_len (numW n) n, hd]; rfl
    rw [h1] at h2
    have := numW_le h2
    omega
/-- a number of at most so much, and what is left -/
def rdNum (most : Nat) : List Nat → Option (Nat × List Nat)
  | [] => none
  | w :: t => if w ≤ 8 ∧ w ≤ t.length ∧ (t.take w).head? ≠ some 0 ∧ valB (t.take w) ≤ most then some (valB (t.take w), t.drop w) else none
theorem rdNum_cons (most w : Nat) (t : List Nat) : rdNum most (w :: t) = if w ≤ 8 ∧ w ≤ t.length ∧ (t.take w).head? ≠ some 0 ∧ valB (t.take w) ≤ most then some (valB (t.take w), t.drop w) else none := rfl
theorem rdNum_num {n most : Nat} (hn : n ≤ most) (hm : n < 256 ^ 8) (t : List Nat) : rdNum most (numB n ++ t) = some (n, t) := by
  have hw : numW n ≤ 8 := numW_le hm
  have ht : (digs (numW n) n ++ t).take (numW n) = digs (numW n) n := by rw [List.take_left' (digs_len _ _)]
  have hd : (digs (numW n) n ++ t).drop (numW n) = t := by rw [List.drop_left' (digs_len _ _)]
  rw [show numB n ++ t = numW n :: (digs (numW n) n ++ t) from rfl, rdNum_cons, ht, hd, val_num, if_pos]
  refine ⟨hw, by rw [List.length_append, digs_len]; omega, fun e => ?_, hn⟩
  by_cases h0 : n = 0
  · rw [h0, numW_zero] at e; cases e
  · obtain ⟨x, l, hx, h1⟩ := digs_head h0
    rw [hx] at e
    simp at e
    exact h1 e
theorem rdNum_back {n most : Nat} {xs t : List Nat} (hb : ∀ x ∈ xs, x < 256) (h : rdNum most xs = some (n, t)) : xs = numB n ++ t ∧ n ≤ most ∧ n < 256 ^ 8 ∧ ∀ x ∈ t, x < 256 := by
  cases xs with
  | nil => cases h
  | cons w l =>
    rw [rdNum_cons] at h
    by_cases hc : w ≤ 8 ∧ w ≤ l.length ∧ (l.take w).head? ≠ some 0 ∧ valB (l.take w) ≤ most
    · rw [if_pos hc] at h
      injection h with h
      injection h with h1 h2
      have hbt : ∀ x ∈ l.take w, x < 256 := fun x hx => hb x (List.mem_cons_of_mem _ (List.mem_of_mem_take hx))
      have hl : (l.take w).length = w := by rw [List.length_take]; omega
      have hn : n < 256 ^ w := by
        rw [← h1]
        have := valB_lt _ hbt
        rwa [hl] at this
      have hnw : numW n = w := by
        cases hq : l.take w with
        | nil =>
          rw [hq] at hl h1
          have : n = 0 := by rw [← h1]; rfl
          rw [this, numW_zero]
          exact hl
        | cons x m =>
          rw [hq] at hl h1 hbt
          have := numW_val hbt (fun e => hc.2.2.1 (by rw [hq, e]; rfl))
          rw [h1] at this
          rw [this]
          exact hl
      refine ⟨?_, by rw [← h1]; exact hc.2.2.2, Nat.lt_of_lt_of_le hn (Nat.pow_le_pow_right (by decide) hc.1), fun x hx => ?_⟩
      · show w :: l = numW n :: digs (numW n) n ++ t
        rw [hnw, List.cons_append]
        congr 1
        have : digs w n = l.take w := by
          have := digs_val _ hbt
          rw [hl, h1] at this
          exact this
        rw [this, ← h2, List.take_append_drop]
      · rw [← h2] at hx
        exact hb x (List.mem_cons_of_mem _ (List.mem_of_mem_drop hx))
    · rw [if_neg hc] at h
      cases h
end Go.Proofs.YtmooddbhcccicaaGreatDoor

/- CRC-32C, plain: bit by bit, by nibbles; linear; one to one. No Go text in sight. -/
namespace Go.Proofs.YtmooddbhcccicaaGreatDoor
namespace Crc

def P : Nat := 0x82f63b78
/-- one bit leaves -/
def bit (s : Nat) : Nat := (s / 2) ^^^ (if s % 2 = 1 then P else 0)
def it : Nat → Nat → Nat
  | 0, s => s
  | n + 1, s => it n (bit s)
theorem it_succ (n s : Nat) : it (n + 1) s = bit (it n s) := by
  induction n generalizing s with
  | zero => rfl
  | succ n ih => show it (n + 1) (bit s) = _; rw [ih]; rfl
theorem it_add (m n s : Nat) : it (m + n) s = it n (it m s) := by
  induction m generalizing s with
  | zero => simp [it]
  | succ m ih => rw [Nat.succ_add]; show it (m + n) (bit s) = _; rw [ih]; rfl
/-- a byte goes in -/
def stp (s x : Nat) : Nat := it 8 (s ^^^ x)
def run (s : Nat) (xs : List Nat) : Nat := xs.foldl stp s
def sum (xs : List Nat) : Nat := run 0xffffffff xs ^^^ 0xffffffff

theorem bit_lt {s : Nat} (h : s < 2 ^ 32) : bit s < 2 ^ 32 := by
  unfold bit
  refine Nat.xor_lt_two_pow (by omega) ?_
  split
  · unfold P; omega
  · omega
theorem it_lt {s : Nat} (n : Nat) (h : s < 2 ^ 32) : it n s < 2 ^ 32 := by
  induction n generalizing s with
  | zero => exact h
  | succ n ih => exact ih (bit_lt h)
theorem stp_lt {s x : Nat} (h : s < 2 ^ 32) (hx : x < 256) : stp s x < 2 ^ 32 := it_lt 8 (Nat.xor_lt_two_pow h (by omega))
theorem run_lt {s : Nat} {xs : List Nat} (h : s < 2 ^ 32) (hx : ∀ x ∈ xs, x < 256) : run s xs < 2 ^ 32 := by
  induction xs generalizing s with
  | nil => exact h
  | cons x xs ih => exact ih (stp_lt h (hx x (by simp))) (fun y hy => hx y (by simp [hy]))
theorem sum_lt {xs : List Nat} (hx : ∀ x ∈ xs, x < 256) : sum xs < 2 ^ 32 := Nat.xor_lt_two_pow (run_lt (by decide) hx) (by decide)
theorem run_append (s : Nat) (xs ys : List Nat) : run s (xs ++ ys) = run (run s xs) ys := List.foldl_append

theorem bit_zero : bit 0 = 0 := by decide
theorem bit_xor (a b : Nat) : bit (a ^^^ b) = bit a ^^^ bit b := by
  unfold bit
  have h1 : (a ^^^ b) / 2 = a / 2 ^^^ b / 2 := by
    apply Nat.eq_of_testBit_eq; intro i
    simp [Nat.testBit_div_two]
  have h2 : (a ^^^ b) % 2 = (a % 2 + b % 2) % 2 := by
    have := Nat.testBit_xor a b 0
    simp only [Nat.testBit_zero] at this
    have ha := Nat.mod_two_eq_zero_or_one a
    have hb := Nat.mod_two_eq_zero_or_one b
    have hc := Nat.mod_two_eq_zero_or_one (a ^^^ b)
    rcases ha with ha | ha <;> rcases hb with hb | hb <;> rcases hc with hc | hc <;> simp [ha, hb, hc] at this ⊢
  rw [h1, h2]
  have ha := Nat.mod_two_eq_zero_or_one a
  have hb := Nat.mod_two_eq_zero_or_one b
  rcases ha with ha | ha <;> rcases hb with hb | hb <;> simp [ha, hb]
  · rw [Nat.xor_assoc]
  · rw [Nat.xor_assoc, Nat.xor_assoc, Nat.xor_comm P]
  · rw [Nat.xor_assoc, Nat.xor_comm P, Nat.xor_assoc, Nat.xor_self, Nat.xor_zero]
theorem it_xor (n a b : Nat) : it n (a ^^^ b) = it n a ^^^ it n b := by
  induction n generalizing a b with
  | zero => rfl
  | succ n ih => show it n (bit (a ^^^ b)) = _; rw [bit_xor, ih]; rfl
theorem it_zero (n : Nat) : it n 0 = 0 := by
  induction n with
  | zero => rfl
  | succ n ih => show it n (bit 0) = 0; rw [bit_zero, ih]
theorem bit_double (s : Nat) : bit (2 * s) = s := by
  unfold bit
  rw [if_neg (by omega), Nat.xor_zero]; omega
theorem it_shift (n s : Nat) : it n (2 ^ n * s) = s := by
  induction n generalizing s with
  | zero => simp [it]
  | succ n ih =>
    show it n (bit (2 ^ (n + 1) * s)) = s
    rw [show 2 ^ (n + 1) * s = 2 * (2 ^ n * s) from by rw [Nat.pow_succ, Nat.mul_comm (2 ^ n) 2, Nat.mul_assoc], bit_double, ih]
/-- bits that leave by four -/
def tn (k : Nat) : Nat := it 4 k
theorem split4 (s : Nat) : s = (16 * (s / 16)) ^^^ (s % 16) := by
  have h := Nat.two_pow_add_eq_or_of_lt (i := 4) (b := s % 16) (by omega) (s / 16)
  have hx : 2 ^ 4 * (s / 16) ||| s % 16 = (2 ^ 4 * (s / 16)) ^^^ s % 16 := by
    apply Nat.eq_of_testBit_eq; intro i
    simp only [Nat.testBit_or, Nat.testBit_xor]
    by_cases hi : i < 4
    · have : (2 ^ 4 * (s / 16)).testBit i = false := by
        rw [Nat.mul_comm, Nat.testBit_mul_two_pow]; simp; intro h4; omega
      simp [this]
    · have : (s % 16).testBit i = false := Nat.testBit_lt_two_pow (Nat.lt_of_lt_of_le (by omega : s % 16 < 2 ^ 4) (Nat.pow_le_pow_right (by omega) (by omega)))
      simp [this]
  rw [show (16 : Nat) = 2 ^ 4 from rfl] at *
  rw [← hx, ← h]; omega
theorem it4 (s : Nat) : it 4 s = (s >>> 4) ^^^ tn (s &&& 15) := by
  have e : s &&& 15 = s % 16 := Nat.and_two_pow_sub_one_eq_mod s 4
  rw [Nat.shiftRight_eq_div_pow, e]
  conv => lhs; rw [split4 s]
  rw [it_xor, show (16 : Nat) = 2 ^ 4 from rfl, it_shift]; rfl
theorem stp_by4 (s x : Nat) : stp s x = it 4 (it 4 (s ^^^ x)) := (it_add 4 4 _)

/-- nothing but nought becomes nought -/
theorem bit_inj0 {s : Nat} (hs : s < 2 ^ 32) (h : bit s = 0) : s = 0 := by
  unfold bit at h
  split at h
  · exfalso
    have e : s / 2 = P := by
      have := congrArg (· ^^^ P) h
      simpa [Nat.xor_assoc] using this
    unfold P at e
    omega
  · simp at h; omega
theorem it_inj0 {s : Nat} (n : Nat) (hs : s < 2 ^ 32) (h : it n s = 0) : s = 0 := by
  induction n generalizing s with
  | zero => exact h
  | succ n ih => exact bit_inj0 hs (ih (bit_lt hs) h)
/-- both runs, held against each other -/
theorem run_xor {d : Nat} (s : Nat) : ∀ (xs ys : List Nat), xs.length = ys.length → run (s ^^^ d) (xs.zipWith (· ^^^ ·) ys) = run s xs ^^^ run d ys := by
  intro xs
  induction xs generalizing s d with
  | nil => intro ys h; cases ys <;> simp_all [run]
  | cons x xs ih =>
    intro ys h
    cases ys with
    | nil => simp at h
    | cons y ys =>
      simp only [List.zipWith_cons_cons]
      show run (stp (s ^^^ d) (x ^^^ y)) _ = run (stp s x) xs ^^^ run (stp d y) ys
      rw [← ih (d := stp d y) (stp s x) ys (by simpa using h)]
      congr 1
      unfold stp
      rw [← it_xor]
      congr 1
      rw [Nat.xor_assoc, Nat.xor_assoc, ← Nat.xor_assoc d, ← Nat.xor_assoc x, Nat.xor_comm d]
theorem run_zeros_inj {d : Nat} (n : Nat) (hd : d < 2 ^ 32) (h : run d (List.replicate n 0) = 0) : d = 0 := by
  induction n generalizing d with
  | zero => exact h
  | succ n ih =>
    rw [List.replicate_succ] at h
    have : stp d 0 = 0 := ih (stp_lt hd (by omega)) h
    unfold stp at this
    rw [Nat.xor_zero] at this
    exact it_inj0 8 hd this
/-- four bytes are a word -/
theorem run_word (a b c d : Nat) : run 0 [a, b, c, d] = it 32 (a ^^^ (256 * b) ^^^ (256 ^ 2 * c) ^^^ (256 ^ 3 * d)) := by
  show stp (stp (stp (stp 0 a) b) c) d = _
  simp only [stp, Nat.zero_xor]
  rw [show (32 : Nat) = 8 + (8 + (8 + 8)) from rfl]
  simp only [it_add, it_xor]
  rw [show it 8 (256 * b) = b from it_shift 8 b, show (256 ^ 2 * c) = 2 ^ 8 * (2 ^ 8 * c) from by omega, it_shift, show it 8 (2 ^ 8 * c) = c from it_shift 8 c,
    show (256 ^ 3 * d) = 2 ^ 8 * (2 ^ 8 * (2 ^ 8 * d)) from by omega, it_shift, it_shift, it_shift]
theorem word_zero {a b c d : Nat} (ha : a < 256) (hb : b < 256) (hc : c < 256) (hd : d < 256) (h : run 0 [a, b, c, d] = 0) : a = 0 ∧ b = 0 ∧ c = 0 ∧ d = 0 := by
  rw [run_word] at h
  have hw : a ^^^ (256 * b) ^^^ (256 ^ 2 * c) ^^^ (256 ^ 3 * d) < 2 ^ 32 :=
    Nat.xor_lt_two_pow (Nat.xor_lt_two_pow (Nat.xor_lt_two_pow (by omega) (by omega)) (by omega)) (by omega)
  have h0 := it_inj0 32 hw h
  have t : ∀ i, (a.testBit i ^^ (256 * b).testBit i ^^ (256 ^ 2 * c).testBit i ^^ (256 ^ 3 * d).testBit i) = false := fun i => by
    have := congrArg (fun n => n.testBit i) h0
    simpa [Nat.testBit_xor] using this
  have sh : ∀ (k x i : Nat), (2 ^ k * x).testBit i = (decide (k ≤ i) && x.testBit (i - k)) := fun k x i => Nat.testBit_two_pow_mul
  have out : ∀ {x i : Nat}, x < 256 → 8 ≤ i → x.testBit i = false := fun hx hi => Nat.testBit_lt_two_pow (Nat.lt_of_lt_of_le hx (Nat.pow_le_pow_right (n := 2) (by omega) hi))
  have e8 : (256 : Nat) = 2 ^ 8 := rfl
  have e16 : (256 ^ 2 : Nat) = 2 ^ 16 := rfl
  have e24 : (256 ^ 3 : Nat) = 2 ^ 24 := rfl
  rw [e16, e24, e8] at t
  have z : ∀ {x : Nat}, x < 256 → (∀ i, i < 8 → x.testBit i = false) → x = 0 := fun {x} hx h => by
    apply Nat.eq_of_testBit_eq; intro i
    rw [Nat.zero_testBit]
    by_cases hi : i < 8
    · exact h i hi
    · exact out hx (by omega)
  have ea : a = 0 := z ha fun i hi => by
    have := t i
    rw [sh, sh, sh] at this
    simpa [show ¬ 8 ≤ i from by omega, show ¬ 16 ≤ i from by omega, show ¬ 24 ≤ i from by omega] using this
  have eb : b = 0 := z hb fun i hi => by
    have := t (i + 8)
    rw [sh, sh, sh, out ha (by omega)] at this
    simpa [show ¬ 16 ≤ i + 8 from by omega, show ¬ 24 ≤ i + 8 from by omega] using this
  have ec : c = 0 := z hc fun i hi => by
    have := t (i + 16)
    rw [sh, sh, sh, out ha (by omega), out (i := i + 16 - 8) hb (by omega)] at this
    simpa [show ¬ 24 ≤ i + 16 from by omega] using this
  have ed : d = 0 := z hd fun i hi => by
    have := t (i + 24)
    rw [sh, sh, sh, out ha (by omega), out (i := i + 24 - 8) hb (by omega), out (i := i + 24 - 16) hc (by omega)] at this
    simpa using this
  exact ⟨ea, eb, ec, ed⟩
end Crc
end Go.Proofs.YtmooddbhcccicaaGreatDoor

/- The walks of frame.Sum and of the reference's Sum and Big. -/
namespace Go.Proofs.YtmooddbhcccicaaGreatDoor
open Go.RowKit Go.Deep

/-- the table of turns lies in memory -/
def Turns (w : World) : Prop := ∀ k : Nat, k < 16 → w.cell? ⟨0, k, none⟩ = some (.int .u32 ((Crc.tn k : Nat) : Int))
theorem Turns.keep {S : Nat → Prop} {w w' : World} (h : Turns w) (k : Kp S w w') (hb : ¬ S 0) : Turns w' := fun i hi => k.cellv (h i hi) hb
theorem Turns.keep0 {w w' : World} (h : Turns w) (k : Kp (fun _ => False) w w') : Turns w' := h.keep k id
theorem Turns.lt {w : World} (h : Turns w) : 0 < w.heap.size := World.block_lt_of_cell? _ _ (h 0 (by omega))

theorem u32_xor_c (a b : Nat) (ha : a < 2 ^ 32) (hb : b < 2 ^ 32) : bits .xor .u32 (a : Int) (b : Int) = ((a ^^^ b : Nat) : Int) := u32_xor_nat a b (by omega) (by omega)
theorem u32_and_c (a b : Nat) (ha : a < 2 ^ 32) (hb : b < 2 ^ 32) : bits .and .u32 (a : Int) (b : Int) = ((a &&& b : Nat) : Int) := u32_and_nat a b (by omega) (by omega)

theorem ret_num {k : IntKind} {a b : Int} (h : a = b) : Ending.returned (.int k a) = .returned (.int k b) := by rw [h]
theorem nib (t : Nat) (h : t < 2 ^ 32) : ∃ y : Nat, y < 16 ∧ bits .and .u32 (t : Int) 15 = (y : Int) ∧ bits .xor .u32 ((t : Int) / 16) ((Crc.tn y : Nat) : Int) = ((Crc.it 4 t : Nat) : Int) := by
  have hy : t &&& 15 < 16 := Nat.and_lt_two_pow (n := 4) _ (by omega)
  have ht : Crc.tn (t &&& 15) < 2 ^ 32 := Crc.it_lt 4 (by omega)
  refine ⟨t &&& 15, hy, u32_and_c t 15 h (by omega), ?_⟩
  rw [show (t : Int) / 16 = ((t / 16 : Nat) : Int) from by omega, u32_xor_c _ _ (by omega) ht, Crc.it4, Nat.shiftRight_eq_div_pow]
theorem take_snoc {xs : List Nat} {k : Nat} (h : k < xs.length) : xs.take (k + 1) = xs.take k ++ [xs.getD k 0] := by
  rw [List.take_succ_eq_append_getElem h, List.getD_eq_getElem?_getD, List.getElem?_eq_getElem h]; rfl
theorem run_snoc {xs : List Nat} {k : Nat} (s : Nat) (h : k < xs.length) : Crc.run s (xs.take (k + 1)) = Crc.stp (Crc.run s (xs.take k)) (xs.getD k 0) := by
  rw [take_snoc h, Crc.run_append]; rfl
theorem Rb.take_byte {w : World} {p : Option Addr} {n : Nat} {xs : List Nat} (h : Rb w p n xs) (k : Nat) : ∀ x ∈ xs.take k, x < 256 := fun x hx => h.byte x (List.mem_of_mem_take hx)

set_option maxRecDepth 100000 in
set_option maxHeartbeats 400000 in
theorem sum_any (p : Option Addr) (n c : Nat) (xs : List Nat) (w : World) (h : Rb w p n xs) (hn : (n : Int) ≤ 1000000000000000) (ht : Turns w) :
    Calls Tryz.prog 228 #[.slice p n c] w fun e w' => e = .returned (.int .u32 ((Crc.sum xs : Nat) : Int)) ∧ w' = w := by
  go_enter Tryz.func228, Tryz.ntmps228
  go_wp2
  go_loopw [3, 8] (fun s i w' => ∃ k : Nat, k ≤ n ∧ i = .int .i64 k ∧ s = .int .u32 ((Crc.run 4294967295 (xs.take k) : Nat) : Int) ∧ w' = w) (fun _ i _ => n - (intOf i).toNat)
  case atStart => exact ⟨0, Nat.zero_le _, rfl, rfl, rfl⟩
  case round =>
    obtain ⟨k, hk, rfl, rfl, rfl⟩ := hrel
    have hs0 : Crc.run 4294967295 (xs.take k) < 2 ^ 32 := Crc.run_lt (by omega) (h.take_byte k)
    by_cases hlt : (k : Int) < (n : Int)
    · obtain ⟨b, o, rfl, hb⟩ := h.pt (by omega)
      have hc := hb k (by omega)
      have hx := h.byteAt k
      have HR : Hid (_ = _) := run_snoc (xs := xs) 4294967295 (k := k) (by rw [h.len]; omega)
      obtain ⟨x, hxe⟩ : ∃ x, x = xs.getD k 0 := ⟨_, rfl⟩
      obtain ⟨s, hse⟩ : ∃ s, s = Crc.run 4294967295 (xs.take k) := ⟨_, rfl⟩
      rw [← hxe] at hc hx HR
      rw [← hse] at hs0 HR ⊢
      clear hxe hse hb h
      have e1 := u32_xor_c s x hs0 (by omega)
      obtain ⟨t, hte⟩ : ∃ t, t = s ^^^ x := ⟨_, rfl⟩
      have ht0 : t < 2 ^ 32 := by rw [hte]; exact Nat.xor_lt_two_pow hs0 (by omega)
      rw [← hte] at e1
      have HT : Hid (_ = _) := Crc.stp_by4 s x
      rw [← hte] at HT
      clear hte
      obtain ⟨y, hy, e2, e3⟩ := nib t ht0
      have ht1 := Crc.it_lt 4 ht0
      obtain ⟨t', hte⟩ : ∃ t', t' = Crc.it 4 t := ⟨_, rfl⟩
      rw [← hte] at e3 ht1 HT
      clear hte
      obtain ⟨z, hz, e4, e5⟩ := nib t' ht1
      have c1 := ht y hy
      have c2 := ht z hz
      obtain ⟨t2, hte⟩ : ∃ t2, t2 = Crc.it 4 t' := ⟨_, rfl⟩
      rw [← hte] at e5 HT
      clear hte
      go_wp2
      go_roundw
      case rel => exact ⟨k + 1, by omega, by go_num, by rw [HR.out, HT.out], trivial⟩
      case measure => simp [intOf]; omega
    · have e : k = n := by omega
      subst e
      have hte : xs.take k = xs := List.take_of_length_le (by rw [h.len]; omega)
      have HS : Hid (bits .xor .u32 IntKind.u32.max ((Crc.run 4294967295 xs : Nat) : Int) = ((Crc.sum xs : Nat) : Int)) := by
        show bits .xor .u32 ((4294967295 : Nat) : Int) _ = _
        rw [u32_xor_c 4294967295 _ (by omega) (by rw [← hte]; exact hs0), Nat.xor_comm]; rfl
      rw [hte]
      clear hte
      go_wp2
      go_ret
      exact ⟨ret_num HS.out, rfl⟩

theorem bit_even (s : Nat) (h : s % 2 = 0) : Crc.bit s = s / 2 := by unfold Crc.bit; rw [if_neg (by omega), Nat.xor_zero]
theorem bit_odd (s : Nat) (h : s % 2 = 1) : Crc.bit s = s / 2 ^^^ 2197175160 := by unfold Crc.bit; rw [if_pos h]; rfl

set_option maxRecDepth 100000 in
set_option maxHeartbeats 400000 in
theorem refSum_any (p : Option Addr) (n c : Nat) (xs : List Nat) (w : World) (h : Rb w p n xs) (hn : (n : Int) ≤ 1000000000000000) :
    Calls Tryz.prog 224 #[.slice p n c] w fun e w' => e = .returned (.int .u32 ((Crc.sum xs : Nat) : Int)) ∧ w' = w := by
  go_enter Tryz.func224, Tryz.ntmps224
  go_wp2
  go_loopw [3, 9] (fun s i w' => ∃ k : Nat, k ≤ n ∧ i = .int .i64 k ∧ s = .int .u32 ((Crc.run 4294967295 (xs.take k) : Nat) : Int) ∧ w' = w) (fun _ i _ => n - (intOf i).toNat)
  case atStart => exact ⟨0, Nat.zero_le _, rfl, rfl, rfl⟩
  case round =>
    obtain ⟨k, hk, rfl, rfl, rfl⟩ := hrel
    have hs0 : Crc.run 4294967295 (xs.take k) < 2 ^ 32 := Crc.run_lt (by omega) (h.take_byte k)
    by_cases hlt : (k : Int) < (n : Int)
    · obtain ⟨b, o, rfl, hb⟩ := h.pt (by omega)
      have hc := hb k (by omega)
      have hx := h.byteAt k
      have HR : Hid (_ = _) := run_snoc (xs := xs) 4294967295 (k := k) (by rw [h.len]; omega)
      obtain ⟨x, hxe⟩ : ∃ x, x = xs.getD k 0 := ⟨_, rfl⟩
      obtain ⟨s, hse⟩ : ∃ s, s = Crc.run 4294967295 (xs.take k) := ⟨_, rfl⟩
      rw [← hxe] at hc hx HR
      rw [← hse] at hs0 HR ⊢
      clear hxe hse hb h
      have e1 := u32_xor_c s x hs0 (by omega)
      obtain ⟨t, hte⟩ : ∃ t, t = s ^^^ x := ⟨_, rfl⟩
      have ht0 : t < 2 ^ 32 := by rw [hte]; exact Nat.xor_lt_two_pow hs0 (by omega)
      rw [← hte] at e1
      have HT : Hid (Crc.stp s x = Crc.it 8 t) := by rw [hte]; rfl
      clear hte
      obtain ⟨wr0, rfl⟩ : ∃ x, x = wr := ⟨_, rfl⟩
      go_wp2
      go_loopw [3, 17] (fun s i w' => ∃ j : Nat, j ≤ 8 ∧ i = .int .i64 j ∧ s = .int .u32 ((Crc.it j t : Nat) : Int) ∧ w' = wr0) (fun _ i _ => 8 - (intOf i).toNat)
      case atStart => exact ⟨0, Nat.zero_le _, rfl, rfl, rfl⟩
      case round =>
        obtain ⟨j, hj, rfl, rfl, rfl⟩ := hrel
        have hq := Crc.it_lt j ht0
        have HI : Hid (_ = _) := Crc.it_succ j t
        obtain ⟨q, hqe⟩ : ∃ q, q = Crc.it j t := ⟨_, rfl⟩
        rw [← hqe] at hq HI ⊢
        by_cases hlj : (j : Int) < 8
        · clear hqe
          by_cases ho : q % 2 = 1
          · have d1 : ((q : Int) % 2 == 1) = true := by rw [beq_iff_eq]; omega
            have HB : Hid (_ = _) := bit_odd q ho
            have e5 : bits .xor .u32 ((q : Int) / 2) 2197175160 = ((q / 2 ^^^ 2197175160 : Nat) : Int) := by
              rw [show (q : Int) / 2 = ((q / 2 : Nat) : Int) from by omega]
              exact u32_xor_c (q / 2) 2197175160 (by omega) (by omega)
            obtain ⟨q2, hq2⟩ : ∃ q2, q2 = q / 2 ^^^ 2197175160 := ⟨_, rfl⟩
            rw [← hq2] at HB e5
            clear hq2 ho
            go_wp2
            go_roundw
            case rel => exact ⟨j + 1, by omega, by go_num, by rw [HI.out, HB.out], trivial⟩
            case measure => simp [intOf]; omega
          · have d1 : ((q : Int) % 2 == 1) = false := by rw [beq_eq_false_iff_ne]; omega
            have HB : Hid (_ = _) := bit_even q (by omega)
            clear ho
            go_wp2
            go_roundw
            case rel => exact ⟨j + 1, by omega, by go_num, by rw [HI.out, HB.out]; go_num, trivial⟩
            case measure => simp [intOf]; omega
        · have e : j = 8 := by omega
          subst e
          have HQ : Hid (q = Crc.it 8 t) := hqe
          clear hqe
          go_wp2
          go_roundw
          case rel => exact ⟨k + 1, by omega, by go_num, by rw [HR.out, HT.out, HQ.out], trivial⟩
          case measure => simp [intOf]; omega
    · have e : k = n := by omega
      subst e
      have hte : xs.take k = xs := List.take_of_length_le (by rw [h.len]; omega)
      have HS : Hid (bits .xor .u32 ((Crc.run 4294967295 xs : Nat) : Int) 4294967295 = ((Crc.sum xs : Nat) : Int)) := by
        have := u32_xor_c (Crc.run 4294967295 xs) 4294967295 (by rw [← hte]; exact hs0) (by omega)
        exact this
      rw [hte]
      clear hte
      go_wp2
      go_ret
      exact ⟨ret_num HS.out, rfl⟩

/-- a number in so many bytes, the highest first -/
def big (n w : Nat) : List Nat := (List.range w).map fun j => n / 256 ^ (w - 1 - j) % 256
theorem big_length (n w : Nat) : (big n w).length = w := by simp [big]
theorem big_byte (n w : Nat) : ∀ x ∈ big n w, x < 256 := fun x hx => by
  obtain ⟨j, _, rfl⟩ := List.mem_map.1 hx
  exact Nat.mod_lt _ (by omega)
theorem big_at (n w j : Nat) (h : j < w) : (big n w).getD j 0 = n / 256 ^ (w - 1 - j) % 256 := by
  unfold big
  rw [List.getD_eq_getElem?_getD, List.getElem?_map, List.getElem?_range h]; rfl
def bigF (n w r : Nat) : Nat → Value := fun j => .int .u8 (((if w - r ≤ j then n / 256 ^ (w - 1 - j) % 256 else 0 : Nat) : Nat) : Int)
theorem bigF_succ (n w r j : Nat) (hr : r < w) : bigF n w (r + 1) j = if j = w - 1 - r then .int .u8 ((n / 256 ^ r % 256 : Nat) : Int) else bigF n w r j := by
  unfold bigF
  by_cases e : j = w - 1 - r
  · subst e; rw [if_pos rfl, if_pos (by omega), show w - 1 - (w - 1 - r) = r from by omega]
  · rw [if_neg e]
    by_cases h : w - r ≤ j
    · rw [if_pos h, if_pos (by omega)]
    · rw [if_neg h, if_neg (by omega)]
theorem ow_of_row {w : World} {base b n : Nat} {f : Nat → Value} {xs : List Nat} (h : w.rowIs b 5 n f) (hb : base ≤ b) (hl : xs.length = n) (hm : n ≤ maxLen) (hf : ∀ j, j < n → f j = .int .u8 ((xs.getD j 0 : Nat) : Int)) :
    Ow w base (.slice (some ⟨b, 0, none⟩) n n) xs := by
  obtain ⟨cs, hh, hs, hc⟩ := h
  refine ⟨by rw [vl_length]; omega, Or.inr ⟨b, n, cs, by rw [hl], hb, hh, by omega, hm, by omega, ?_⟩⟩
  rw [List.take_of_length_le (by simp; omega)]
  apply List.ext_getElem?
  intro i
  by_cases hi : i < n
  · rw [Array.getElem?_toList, hc i hi, hf i hi, vl_get (by omega)]
  · rw [Array.getElem?_toList, Array.getElem?_eq_none (by omega), List.getElem?_eq_none (by rw [vl_length]; omega)]

set_option maxRecDepth 100000 in
set_option maxHeartbeats 400000 in
theorem big_any (n wd : Nat) (w : World) (hn : (n : Int) < 9223372036854775808) (hw : (wd : Int) ≤ 100) :
    Calls Tryz.prog 195 #[.int .i64 n, .int .i64 wd] w fun e w' => e = .returned (.slice (some ⟨w.heap.size, 0, none⟩) wd wd) ∧ Kp (fun _ => False) w w' ∧ w'.heap.size = w.heap.size + 1 ∧ Ow w' w.heap.size (.slice (some ⟨w.heap.size, 0, none⟩) wd wd) (big n wd) := by
  have hmk := run_make_row' (P := Tryz.prog) 34 5 (.int .u8 0) 1 Tryz.underlying34 info5 rfl .i64 .i64 wd (by omega) (by omega)
  have HN : Hid ((n : Int) < 9223372036854775808) := hn
  clear hn
  go_enter Tryz.func195, Tryz.ntmps195
  go_wp2
  clear hmk
  go_loopg [0, 6] wd (fun gk x i wr => ∃ r : Nat, r ≤ wd ∧ gk = wd - r ∧ i = .int .i64 ((wd : Int) - 1 - r) ∧ x = .int .i64 ((n / 256 ^ r : Nat) : Int) ∧ Kp (fun _ => False) w wr ∧ wr.heap.size = w.heap.size + 1 ∧ wr.rowIs w.heap.size 5 wd (bigF n wd r))
  case atStart => exact ⟨0, Nat.zero_le _, rfl, by simp, by simp, (Kp.refl _ _).alloc _, by simp, (World.rowIs_made w _ wd 5).congr (fun j hj => by unfold bigF; rw [if_neg (by omega)]; rfl)⟩
  case round =>
    obtain ⟨r, hr, rfl, rfl, rfl, hK, hz, hR⟩ := hrel
    have HD : Hid (n / 256 ^ (r + 1) = n / 256 ^ r / 256) := by rw [Nat.pow_succ, Nat.div_div_eq_div_mul]; rfl
    have HQ : Hid (n / 256 ^ r ≤ n) := Nat.div_le_self _ _
    have HB : Hid (∀ j, bigF n wd (r + 1) j = if j = wd - 1 - r then .int .u8 ((n / 256 ^ r % 256 : Nat) : Int) else bigF n wd r j) ∨ wd ≤ r := by
      by_cases h : r < wd
      · exact Or.inl (fun j => bigF_succ n wd r j h)
      · exact Or.inr (by omega)
    obtain ⟨q, hq⟩ : ∃ q, q = n / 256 ^ r := ⟨_, rfl⟩
    rw [← hq] at HD HQ HB ⊢
    clear hq
    by_cases hlt : (0 : Int) ≤ (wd : Int) - 1 - r
    · obtain ⟨j, hj⟩ : ∃ j : Nat, (wd : Int) - 1 - r = j := ⟨wd - 1 - r, by omega⟩
      have hjj : j = wd - 1 - r := by omega
      replace HB : Hid (∀ j, bigF n wd (r + 1) j = if j = wd - 1 - r then .int .u8 ((q % 256 : Nat) : Int) else bigF n wd r j) := by
        rcases HB with h | h
        · exact h
        · omega
      rw [← hjj] at HB
      have HJ : Hid ((wd : Int) - 1 - ((r + 1 : Nat) : Int) = (j : Int) - 1) := by show _ = _; omega
      rw [hj]
      have hjl : (j : Int) < (wd : Int) := by omega
      have hrl : r < wd := by omega
      clear hjj hlt hj
      have c1 := hR.cell (i := j) (by omega)
      have c2 := hR.frozen j
      have HQ2 : Hid ((q : Int) < 9223372036854775808) := by show _ < _; have := HQ.out; have := HN.out; omega
      have hq0 : (0 : Int) ≤ (q : Int) := by omega
      have HW : Hid (wrap64 ((q : Int) / 256) = ((q / 256 : Nat) : Int)) := by show _ = _; have := HQ2.out; unfold wrap64; omega
      go_wp2
      go_roundg (wd - (r + 1))
      case rel => exact ⟨r + 1, by omega, rfl, by rw [HJ.out], by rw [HD.out]; exact congrArg (Value.int .i64) HW.out, hK.setCell (fun h => absurd h (Nat.lt_irrefl _)) _, by simpa using hz, (hR.set j _).congr (fun i _ => by
        rw [HB.out]
        split
        · congr 1
        · rfl)⟩
      case measure => omega
    · have e : r = wd := by omega
      subst e
      rw [show (r : Int) - 1 - (r : Int) = -1 from by omega]
      clear HB HD HQ hlt
      go_wp2
      go_ret
      exact ⟨rfl, hK, hz, ow_of_row hR (Nat.le_refl _) (big_length _ _) (by unfold maxLen; omega) (fun j hj => by rw [big_at n r j hj]; unfold bigF; rw [if_pos (by omega)])⟩
end Go.Proofs.YtmooddbhcccicaaGreatDoor
