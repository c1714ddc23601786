/- CRC-32C, plain: bit by bit, by nibbles; linear; one to one. No Go text in sight. -/
import Derived.Laws.BitsAllLaws
namespace Go.Proofs.YtippipeebkkghaaGreatDoor
namespace Crc

def P : Nat := 0x82f63b78
/-- one bit leaves -/
def bit (s : Nat) : Nat := (s / 2) ^^^ (if s % 2 = 1 then P else 0)
def it : Nat → Nat → Nat
  | 0, s => s
  | n + 1, s => it n (bit s)
theorem it_succ (n s : Nat) : it (n + 1) s = bit (it n s) := by
  induction n generalizing s with
  | zero => rfl
  | succ n ih => show it (n + 1) (bit s) = _; rw [ih]; rfl
theorem it_add (m n s : Nat) : it (m + n) s = it n (it m s) := by
  induction m generalizing s with
  | zero => simp [it]
  | succ m ih => rw [Nat.succ_add]; show it (m + n) (bit s) = _; rw [ih]; rfl
/-- a byte goes in -/
def stp (s x : Nat) : Nat := it 8 (s ^^^ x)
def run (s : Nat) (xs : List Nat) : Nat := xs.foldl stp s
def sum (xs : List Nat) : Nat := run 0xffffffff xs ^^^ 0xffffffff

theorem bit_lt {s : Nat} (h : s < 2 ^ 32) : bit s < 2 ^ 32 := by
  unfold bit
  refine Nat.xor_lt_two_pow (by omega) ?_
  split
  · unfold P; omega
  · omega
theorem it_lt {s : Nat} (n : Nat) (h : s < 2 ^ 32) : it n s < 2 ^ 32 := by
  induction n generalizing s with
  | zero => exact h
  | succ n ih => exact ih (bit_lt h)
theorem stp_lt {s x : Nat} (h : s < 2 ^ 32) (hx : x < 256) : stp s x < 2 ^ 32 := it_lt 8 (Nat.xor_lt_two_pow h (by omega))
theorem run_lt {s : Nat} {xs : List Nat} (h : s < 2 ^ 32) (hx : ∀ x ∈ xs, x < 256) : run s xs < 2 ^ 32 := by
  induction xs generalizing s with
  | nil => exact h
  | cons x xs ih => exact ih (stp_lt h (hx x (by simp))) (fun y hy => hx y (by simp [hy]))
theorem sum_lt {xs : List Nat} (hx : ∀ x ∈ xs, x < 256) : sum xs < 2 ^ 32 := Nat.xor_lt_two_pow (run_lt (by decide) hx) (by decide)
theorem run_append (s : Nat) (xs ys : List Nat) : run s (xs ++ ys) = run (run s xs) ys := List.foldl_append

theorem bit_zero : bit 0 = 0 := by decide
theorem bit_xor (a b : Nat) : bit (a ^^^ b) = bit a ^^^ bit b := by
  unfold bit
  have h1 : (a ^^^ b) / 2 = a / 2 ^^^ b / 2 := by
    apply Nat.eq_of_testBit_eq; intro i
    simp [Nat.testBit_div_two]
  have h2 : (a ^^^ b) % 2 = (a % 2 + b % 2) % 2 := by
    have := Nat.testBit_xor a b 0
    simp only [Nat.testBit_zero] at this
    have ha := Nat.mod_two_eq_zero_or_one a
    have hb := Nat.mod_two_eq_zero_or_one b
    have hc := Nat.mod_two_eq_zero_or_one (a ^^^ b)
    rcases ha with ha | ha <;> rcases hb with hb | hb <;> rcases hc with hc | hc <;> simp [ha, hb, hc] at this ⊢
  rw [h1, h2]
  have ha := Nat.mod_two_eq_zero_or_one a
  have hb := Nat.mod_two_eq_zero_or_one b
  rcases ha with ha | ha <;> rcases hb with hb | hb <;> simp [ha, hb]
  · rw [Nat.xor_assoc]
  · rw [Nat.xor_assoc, Nat.xor_assoc, Nat.xor_comm P]
  · rw [Nat.xor_assoc, Nat.xor_comm P, Nat.xor_assoc, Nat.xor_self, Nat.xor_zero]
theorem it_xor (n a b : Nat) : it n (a ^^^ b) = it n a ^^^ it n b := by
  induction n generalizing a b with
  | zero => rfl
  | succ n ih => show it n (bit (a ^^^ b)) = _; rw [bit_xor, ih]; rfl
theorem it_zero (n : Nat) : it n 0 = 0 := by
  induction n with
  | zero => rfl
  | succ n ih => show it n (bit 0) = 0; rw [bit_zero, ih]
theorem bit_double (s : Nat) : bit (2 * s) = s := by
  unfold bit
  rw [if_neg (by omega), Nat.xor_zero]; omega
theorem it_shift (n s : Nat) : it n (2 ^ n * s) = s := by
  induction n generalizing s with
  | zero => simp [it]
  | succ n ih =>
    show it n (bit (2 ^ (n + 1) * s)) = s
    rw [show 2 ^ (n + 1) * s = 2 * (2 ^ n * s) from by rw [Nat.pow_succ, Nat.mul_comm (2 ^ n) 2, Nat.mul_assoc], bit_double, ih]
/-- bits that leave by four -/
def tn (k : Nat) : Nat := it 4 k
theorem split4 (s : Nat) : s = (16 * (s / 16)) ^^^ (s % 16) := by
  have h := Nat.two_pow_add_eq_or_of_lt (i := 4) (b := s % 16) (by omega) (s / 16)
  have hx : 2 ^ 4 * (s / 16) ||| s % 16 = (2 ^ 4 * (s / 16)) ^^^ s % 16 := by
    apply Nat.eq_of_testBit_eq; intro i
    simp only [Nat.testBit_or, Nat.testBit_xor]
    by_cases hi : i < 4
    · have : (2 ^ 4 * (s / 16)).testBit i = false := by
        rw [Nat.mul_comm, Nat.testBit_mul_two_pow]; simp; intro h4; omega
      simp [this]
    · have : (s % 16).testBit i = false := Nat.testBit_lt_two_pow (Nat.lt_of_lt_of_le (by omega : s % 16 < 2 ^ 4) (Nat.pow_le_pow_right (by omega) (by omega)))
      simp [this]
  rw [show (16 : Nat) = 2 ^ 4 from rfl] at *
  rw [← hx, ← h]; omega
theorem it4 (s : Nat) : it 4 s = (s >>> 4) ^^^ tn (s &&& 15) := by
  have e : s &&& 15 = s % 16 := Nat.and_two_pow_sub_one_eq_mod s 4
  rw [Nat.shiftRight_eq_div_pow, e]
  conv => lhs; rw [split4 s]
  rw [it_xor, show (16 : Nat) = 2 ^ 4 from rfl, it_shift]; rfl
theorem stp_by4 (s x : Nat) : stp s x = it 4 (it 4 (s ^^^ x)) := (it_add 4 4 _)

/-- nothing but nought becomes nought -/
theorem bit_inj0 {s : Nat} (hs : s < 2 ^ 32) (h : bit s = 0) : s = 0 := by
  unfold bit at h
  split at h
  · exfalso
    have e : s / 2 = P := by
      have := congrArg (· ^^^ P) h
      simpa [Nat.xor_assoc] using this
    unfold P at e
    omega
  · simp at h; omega
theorem it_inj0 {s : Nat} (n : Nat) (hs : s < 2 ^ 32) (h : it n s = 0) : s = 0 := by
  induction n generalizing s with
  | zero => exact h
  | succ n ih => exact bit_inj0 hs (ih (bit_lt hs) h)
/-- both runs, held against each other -/
theorem run_xor {d : Nat} (s : Nat) : ∀ (xs ys : List Nat), xs.length = ys.length → run (s ^^^ d) (xs.zipWith (· ^^^ ·) ys) = run s xs ^^^ run d ys := by
  intro xs
  induction xs generalizing s d with
  | nil => intro ys h; cases ys <;> simp_all [run]
  | cons x xs ih =>
    intro ys h
    cases ys with
    | nil => simp at h
    | cons y ys =>
      simp only [List.zipWith_cons_cons]
      show run (stp (s ^^^ d) (x ^^^ y)) _ = run (stp s x) xs ^^^ run (stp d y) ys
      rw [← ih (d := stp d y) (stp s x) ys (by simpa using h)]
      congr 1
      unfold stp
      rw [← it_xor]
      congr 1
      rw [Nat.xor_assoc, Nat.xor_assoc, ← Nat.xor_assoc d, ← Nat.xor_assoc x, Nat.xor_comm d]
theorem run_zeros_inj {d : Nat} (n : Nat) (hd : d < 2 ^ 32) (h : run d (List.replicate n 0) = 0) : d = 0 := by
  induction n generalizing d with
  | zero => exact h
  | succ n ih =>
    rw [List.replicate_succ] at h
    have : stp d 0 = 0 := ih (stp_lt hd (by omega)) h
    unfold stp at this
    rw [Nat.xor_zero] at this
    exact it_inj0 8 hd this
/-- four bytes are a word -/
theorem run_word (a b c d : Nat) : run 0 [a, b, c, d] = it 32 (a ^^^ (256 * b) ^^^ (256 ^ 2 * c) ^^^ (256 ^ 3 * d)) := by
  show stp (stp (stp (stp 0 a) b) c) d = _
  simp only [stp, Nat.zero_xor]
  rw [show (32 : Nat) = 8 + (8 + (8 + 8)) from rfl]
  simp only [it_add, it_xor]
  rw [show it 8 (256 * b) = b from it_shift 8 b, show (256 ^ 2 * c) = 2 ^ 8 * (2 ^ 8 * c) from by omega, it_shift, show it 8 (2 ^ 8 * c) = c from it_shift 8 c,
    show (256 ^ 3 * d) = 2 ^ 8 * (2 ^ 8 * (2 ^ 8 * d)) from by omega, it_shift, it_shift, it_shift]
theorem word_zero {a b c d : Nat} (ha : a < 256) (hb : b < 256) (hc : c < 256) (hd : d < 256) (h : run 0 [a, b, c, d] = 0) : a = 0 ∧ b = 0 ∧ c = 0 ∧ d = 0 := by
  rw [run_word] at h
  have hw : a ^^^ (256 * b) ^^^ (256 ^ 2 * c) ^^^ (256 ^ 3 * d) < 2 ^ 32 :=
    Nat.xor_lt_two_pow (Nat.xor_lt_two_pow (Nat.xor_lt_two_pow (by omega) (by omega)) (by omega)) (by omega)
  have h0 := it_inj0 32 hw h
  have t : ∀ i, (a.testBit i ^^ (256 * b).testBit i ^^ (256 ^ 2 * c).testBit i ^^ (256 ^ 3 * d).testBit i) = false := fun i => by
    have := congrArg (fun n => n.testBit i) h0
    simpa [Nat.testBit_xor] using this
  have sh : ∀ (k x i : Nat), (2 ^ k * x).testBit i = (decide (k ≤ i) && x.testBit (i - k)) := fun k x i => Nat.testBit_two_pow_mul
  have out : ∀ {x i : Nat}, x < 256 → 8 ≤ i → x.testBit i = false := fun hx hi => Nat.testBit_lt_two_pow (Nat.lt_of_lt_of_le hx (Nat.pow_le_pow_right (n := 2) (by omega) hi))
  have e8 : (256 : Nat) = 2 ^ 8 := rfl
  have e16 : (256 ^ 2 : Nat) = 2 ^ 16 := rfl
  have e24 : (256 ^ 3 : Nat) = 2 ^ 24 := rfl
  rw [e16, e24, e8] at t
  have z : ∀ {x : Nat}, x < 256 → (∀ i, i < 8 → x.testBit i = false) → x = 0 := fun {x} hx h => by
    apply Nat.eq_of_testBit_eq; intro i
    rw [Nat.zero_testBit]
    by_cases hi : i < 8
    · exact h i hi
    · exact out hx (by omega)
  have ea : a = 0 := z ha fun i hi => by
    have := t i
    rw [sh, sh, sh] at this
    simpa [show ¬ 8 ≤ i from by omega, show ¬ 16 ≤ i from by omega, show ¬ 24 ≤ i from by omega] using this
  have eb : b = 0 := z hb fun i hi => by
    have := t (i + 8)
    rw [sh, sh, sh, out ha (by omega)] at this
    simpa [show ¬ 16 ≤ i + 8 from by omega, show ¬ 24 ≤ i + 8 from by omega] using this
  have ec : c = 0 := z hc fun i hi => by
    have := t (i + 16)
    rw [sh, sh, sh, out ha (by omega), out (i := i + 16 - 8) hb (by omega)] at this
    simpa [show ¬ 24 ≤ i + 16 from by omega] using this
  have ed : d = 0 := z hd fun i hi => by
    have := t (i + 24)
    rw [sh, sh, sh, out ha (by omega), out (i := i + 24 - 8) hb (by omega), out (i := i + 24 - 16) hc (by omega)] at this
    simpa using this
  exact ⟨ea, eb, ec, ed⟩
end Crc
end Go.Proofs.YtippipeebkkghaaGreatDoor
