/- Texts of this proof, joined: Fc, Fs, Mz, Mb. -/
import Derived.Laws.BitsAllLaws
import Derived.Test.YtmncocmeafcpfaaDoorMgAN
import Derived.Test.YtmncocmeafcpfaaDoorMgAG
import Derived.Test.YtmncocmeafcpfaaDoorMgAR
/- CRC-32C, plain: bit by bit, by nibbles; linear; one to one. No Go text in sight. -/
namespace Go.Proofs.YtmncocmeafcpfaaDoor
namespace Crc

def P : Nat := 0x82f63b78
/-- one bit leaves -/
def bit (s : Nat) : Nat := (s / 2) ^^^ (if s % 2 = 1 then P else 0)
def it : Nat → Nat → Nat
  | 0, s => s
  | n + 1, s => it n (bit s)
theorem it_succ (n s : Nat) : it (n + 1) s = bit (it n s) := by
  induction n generalizing s with
  | zero => rfl
  | succ n ih => show it (n + 1) (bit s) = _; rw [ih]; rfl
theorem it_add (m n s : Nat) : it (m + n) s = it n (it m s) := by
  induction m generalizing s with
  | zero => simp [it]
  | succ m ih => rw [Nat.succ_add]; show it (m + n) (bit s) = _; rw [ih]; rfl
/-- a byte goes in -/
def stp (s x : Nat) : Nat := it 8 (s ^^^ x)
def run (s : Nat) (xs : List Nat) : Nat := xs.foldl stp s
def sum (xs : List Nat) : Nat := run 0xffffffff xs ^^^ 0xffffffff

theorem bit_lt {s : Nat} (h : s < 2 ^ 32) : bit s < 2 ^ 32 := by
  unfold bit
  refine Nat.xor_lt_two_pow (by omega) ?_
  split
  · unfold P; omega
  · omega
theorem it_lt {s : Nat} (n : Nat) (h : s < 2 ^ 32) : it n s < 2 ^ 32 := by
  induction n generalizing s with
  | zero => exact h
  | succ n ih => exact ih (bit_lt h)
theorem stp_lt {s x : Nat} (h : s < 2 ^ 32) (hx : x < 256) : stp s x < 2 ^ 32 := it_lt 8 (Nat.xor_lt_two_pow h (by omega))
theorem run_lt {s : Nat} {xs : List Nat} (h : s < 2 ^ 32) (hx : ∀ x ∈ xs, x < 256) : run s xs < 2 ^ 32 := by
  induction xs generalizing s with
  | nil => exact h
  | cons x xs ih => exact ih (stp_lt h (hx x (by simp))) (fun y hy => hx y (by simp [hy]))
theorem sum_lt {xs : List Nat} (hx : ∀ x ∈ xs, x < 256) : sum xs < 2 ^ 32 := Nat.xor_lt_two_pow (run_lt (by decide) hx) (by decide)
theorem run_append (s : Nat) (xs ys : List Nat) : run s (xs ++ ys) = run (run s xs) ys := List.foldl_append

theorem bit_zero : bit 0 = 0 := by decide
theorem bit_xor (a b : Nat) : bit (a ^^^ b) = bit a ^^^ bit b := by
  unfold bit
  have h1 : (a ^^^ b) / 2 = a / 2 ^^^ b / 2 := by
    apply Nat.eq_of_testBit_eq; intro i
    simp [Nat.testBit_div_two]
  have h2 : (a ^^^ b) % 2 = (a % 2 + b % 2) % 2 := by
    have := Nat.testBit_xor a b 0
    simp only [Nat.testBit_zero] at this
    have ha := Nat.mod_two_eq_zero_or_one a
    have hb := Nat.mod_two_eq_zero_or_one b
    have hc := Nat.mod_two_eq_zero_or_one (a ^^^ b)
    rcases ha with ha | ha <;> rcases hb with hb | hb <;> rcases hc with hc | hc <;> simp [ha, hb, hc] at this ⊢
  rw [h1, h2]
  have ha := Nat.mod_two_eq_zero_or_one a
  have hb := Nat.mod_two_eq_zero_or_one b
  rcases ha with ha | ha <;> rcases hb with hb | hb <;> simp [ha, hb]
  · rw [Nat.xor_assoc]
  · rw [Nat.xor_assoc, Nat.xor_assoc, Nat.xor_comm P]
  · rw [Nat.xor_assoc, Nat.xor_comm P, Nat.xor_assoc, Nat.xor_self, Nat.xor_zero]
theorem it_xor (n a b : Nat) : it n (a ^^^ b) = it n a ^^^ it n b := by
  induction n generalizing a b with
  | zero => rfl
  | succ n ih => show it n (bit (a ^^^ b)) = _; rw [bit_xor, ih]; rfl
theorem it_zero (n : Nat) : it n 0 = 0 := by
  induction n with
  | zero => rfl
  | succ n ih => show it n (bit 0) = 0; rw [bit_zero, ih]
theorem bit_double (s : Nat) : bit (2 * s) = s := by
  unfold bit
  rw [if_neg (by omega), Nat.xor_zero]; omega
theorem it_shift (n s : Nat) : it n (2 ^ n * s) = s := by
  induction n generalizing s with
  | zero => simp [it]
  | succ n ih =>
    show it n (bit (2 ^ (n + 1) * s)) = s
    rw [show 2 ^ (n + 1) * s = 2 * (2 ^ n * s) from by rw [Nat.pow_succ, Nat.mul_comm (2 ^ n) 2, Nat.mul_assoc], bit_double, ih]
/-- bits that leave by four -/
def tn (k : Nat) : Nat := it 4 k
theorem split4 (s : Nat) : s = (16 * (s / 16)) ^^^ (s % 16) := by
  have h := Nat.two_pow_add_eq_or_of_lt (i := 4) (b := s % 16) (by omega) (s / 16)
  have hx : 2 ^ 4 * (s / 16) ||| s % 16 = (2 ^ 4 * (s / 16)) ^^^ s % 16 := by
    apply Nat.eq_of_testBit_eq; intro i
    simp only [Nat.testBit_or, Nat.testBit_xor]
    by_cases hi : i < 4
    · have : (2 ^ 4 * (s / 16)).testBit i = false := by
        rw [Nat.mul_comm, Nat.testBit_mul_two_pow]; simp; intro h4; omega
      simp [this]
    · have : (s % 16).testBit i = false := Nat.testBit_lt_two_pow (Nat.lt_of_lt_of_le (by omega : s % 16 < 2 ^ 4) (Nat.pow_le_pow_right (by omega) (by omega)))
      simp [this]
  rw [show (16 : Nat) = 2 ^ 4 from rfl] at *
  rw [← hx, ← h]; omega
theorem it4 (s : Nat) : it 4 s = (s >>> 4) ^^^ tn (s &&& 15) := by
  have e : s &&& 15 = s % 16 := Nat.and_two_pow_sub_one_eq_mod s 4
  rw [Nat.shiftRight_eq_div_pow, e]
  conv => lhs; rw [split4 s]
  rw [it_xor, show (16 : Nat) = 2 ^ 4 from rfl, it_shift]; rfl
theorem stp_by4 (s x : Nat) : stp s x = it 4 (it 4 (s ^^^ x)) := (it_add 4 4 _)

/-- nothing but nought becomes nought -/
theorem bit_inj0 {s : Nat} (hs : s < 2 ^ 32) (h : bit s = 0) : s = 0 := by
  unfold bit at h
  split at h
  · exfalso
    have e : s / 2 = P := by
      have := congrArg (· ^^^ P) h
      simpa [Nat.xor_assoc] using this
    unfold P at e
    omega
  · simp at h; omega
theorem it_inj0 {s : Nat} (n : Nat) (hs : s < 2 ^ 32) (h : it n s = 0) : s = 0 := by
  induction n generalizing s with
  | zero => exact h
  | succ n ih => exact bit_inj0 hs (ih (bit_lt hs) h)
/-- both runs, held against each other -/
theorem run_xor {d : Nat} (s : Nat) : ∀ (xs ys : List Nat), xs.length = ys.length → run (s ^^^ d) (xs.zipWith (· ^^^ ·) ys) = run s xs ^^^ run d ys := by
  intro xs
  induction xs generalizing s d with
  | nil => intro ys h; cases ys <;> simp_all [run]
  | cons x xs ih =>
    intro ys h
    cases ys with
    | nil => simp at h
    | cons y ys =>
      simp only [List.zipWith_cons_cons]
      show run (stp (s ^^^ d) (x ^^^ y)) _ = run (stp s x) xs ^^^ run (stp d y) ys
      rw [← ih (d := stp d y) (stp s x) ys (by simpa using h)]
      congr 1
      unfold stp
      rw [← it_xor]
      congr 1
      rw [Nat.xor_assoc, Nat.xor_assoc, ← Nat.xor_assoc d, ← Nat.xor_assoc x, Nat.xor_comm d]
theorem run_zeros_inj {d : Nat} (n : Nat) (hd : d < 2 ^ 32) (h : run d (List.replicate n 0) = 0) : d = 0 := by
  induction n generalizing d with
  | zero => exact h
  | succ n ih =>
    rw [List.replicate_succ] at h
    have : stp d 0 = 0 := ih (stp_lt hd (by omega)) h
    unfold stp at this
    rw [Nat.xor_zero] at this
    exact it_inj0 8 hd this
/-- four bytes are a word -/
theorem run_word (a b c d : Nat) : run 0 [a, b, c, d] = it 32 (a ^^^ (256 * b) ^^^ (256 ^ 2 * c) ^^^ (256 ^ 3 * d)) := by
  show stp (stp (stp (stp 0 a) b) c) d = _
  simp only [stp, Nat.zero_xor]
  rw [show (32 : Nat) = 8 + (8 + (8 + 8)) from rfl]
  simp only [it_add, it_xor]
  rw [show it 8 (256 * b) = b from it_shift 8 b, show (256 ^ 2 * c) = 2 ^ 8 * (2 ^ 8 * c) from by omega, it_shift, show it 8 (2 ^ 8 * c) = c from it_shift 8 c,
    show (256 ^ 3 * d) = 2 ^ 8 * (2 ^ 8 * (2 ^ 8 * d)) from by omega, it_shift, it_shift, it_shift]
theorem word_zero {a b c d : Nat} (ha : a < 256) (hb : b < 256) (hc : c < 256) (hd : d < 256) (h : run 0 [a, b, c, d] = 0) : a = 0 ∧ b = 0 ∧ c = 0 ∧ d = 0 := by
  rw [run_word] at h
  have hw : a ^^^ (256 * b) ^^^ (256 ^ 2 * c) ^^^ (256 ^ 3 * d) < 2 ^ 32 :=
    Nat.xor_lt_two_pow (Nat.xor_lt_two_pow (Nat.xor_lt_two_pow (by omega) (by omega)) (by omega)) (by omega)
  have h0 := it_inj0 32 hw h
  have t : ∀ i, (a.testBit i ^^ (256 * b).testBit i ^^ (256 ^ 2 * c).testBit i ^^ (256 ^ 3 * d).testBit i) = false := fun i => by
    have := congrArg (fun n => n.testBit i) h0
    simpa [Nat.testBit_xor] using this
  have sh : ∀ (k x i : Nat), (2 ^ k * x).testBit i = (decide (k ≤ i) && x.testBit (i - k)) := fun k x i => Nat.testBit_two_pow_mul
  have out : ∀ {x i : Nat}, x < 256 → 8 ≤ i → x.testBit i = false := fun hx hi => Nat.testBit_lt_two_pow (Nat.lt_of_lt_of_le hx (Nat.pow_le_pow_right (n := 2) (by omega) hi))
  have e8 : (256 : Nat) = 2 ^ 8 := rfl
  have e16 : (256 ^ 2 : Nat) = 2 ^ 16 := rfl
  have e24 : (256 ^ 3 : Nat) = 2 ^ 24 := rfl
  rw [e16, e24, e8] at t
  have z : ∀ {x : Nat}, x < 256 → (∀ i, i < 8 → x.testBit i = false) → x = 0 := fun {x} hx h => by
    apply Nat.eq_of_testBit_eq; intro i
    rw [Nat.zero_testBit]
    by_cases hi : i < 8
    · exact h i hi
    · exact out hx (by omega)
  have ea : a = 0 := z ha fun i hi => by
    have := t i
    rw [sh, sh, sh] at this
    simpa [show ¬ 8 ≤ i from by omega, show ¬ 16 ≤ i from by omega, show ¬ 24 ≤ i from by omega] using this
  have eb : b = 0 := z hb fun i hi => by
    have := t (i + 8)
    rw [sh, sh, sh, out ha (by omega)] at this
    simpa [show ¬ 16 ≤ i + 8 from by omega, show ¬ 24 ≤ i + 8 from by omega] using this
  have ec : c = 0 := z hc fun i hi => by
    have := t (i + 16)
    rw [sh, sh, sh, out ha (by omega), out (i := i + 16 - 8) hb (by omega)] at this
    simpa [show ¬ 24 ≤ i + 16 from by omega] using this
  have ed : d = 0 := z hd fun i hi => by
    have := t (i + 24)
    rw [sh, sh, sh, out ha (by omega), out (i := i + 24 - 8) hb (by omega), out (i := i + 24 - 16) hc (by omega)] at this
    simpa using this
  exact ⟨ea, eb, ec, ed⟩
end Crc
end Go.Proofs.YtmncocmeafcpfaaDoor

/- The walks of frame.Sum and of the reference's Sum and Big. -/
namespace Go.Proofs.YtmncocmeafcpfaaDoor
open Go.RowKit Go.Deep

/-- the table of turns lies in memory -/
def Turns (w : World) : Prop := ∀ k : Nat, k < 16 → w.cell? ⟨0, k, none⟩ = some (.int .u32 ((Crc.tn k : Nat) : Int))
theorem Turns.keep {S : Nat → Prop} {w w' : World} (h : Turns w) (k : Kp S w w') (hb : ¬ S 0) : Turns w' := fun i hi => k.cellv (h i hi) hb
theorem Turns.keep0 {w w' : World} (h : Turns w) (k : Kp (fun _ => False) w w') : Turns w' := h.keep k id
theorem Turns.lt {w : World} (h : Turns w) : 0 < w.heap.size := World.block_lt_of_cell? _ _ (h 0 (by omega))

theorem u32_xor_c (a b : Nat) (ha : a < 2 ^ 32) (hb : b < 2 ^ 32) : bits .xor .u32 (a : Int) (b : Int) = ((a ^^^ b : Nat) : Int) := u32_xor_nat a b (by omega) (by omega)
theorem u32_and_c (a b : Nat) (ha : a < 2 ^ 32) (hb : b < 2 ^ 32) : bits .and .u32 (a : Int) (b : Int) = ((a &&& b : Nat) : Int) := u32_and_nat a b (by omega) (by omega)

theorem ret_num {k : IntKind} {a b : Int} (h : a = b) : Ending.returned (.int k a) = .returned (.int k b) := by rw [h]
theorem nib (t : Nat) (h : t < 2 ^ 32) : ∃ y : Nat, y < 16 ∧ bits .and .u32 (t : Int) 15 = (y : Int) ∧ bits .xor .u32 ((t : Int) / 16) ((Crc.tn y : Nat) : Int) = ((Crc.it 4 t : Nat) : Int) := by
  have hy : t &&& 15 < 16 := Nat.and_lt_two_pow (n := 4) _ (by omega)
  have ht : Crc.tn (t &&& 15) < 2 ^ 32 := Crc.it_lt 4 (by omega)
  refine ⟨t &&& 15, hy, u32_and_c t 15 h (by omega), ?_⟩
  rw [show (t : Int) / 16 = ((t / 16 : Nat) : Int) from by omega, u32_xor_c _ _ (by omega) ht, Crc.it4, Nat.shiftRight_eq_div_pow]
theorem take_snoc {xs : List Nat} {k : Nat} (h : k < xs.length) : xs.take (k + 1) = xs.take k ++ [xs.getD k 0] := by
  rw [List.take_succ_eq_append_getElem h, List.getD_eq_getElem?_getD, List.getElem?_eq_getElem h]; rfl
theorem run_snoc {xs : List Nat} {k : Nat} (s : Nat) (h : k < xs.length) : Crc.run s (xs.take (k + 1)) = Crc.stp (Crc.run s (xs.take k)) (xs.getD k 0) := by
  rw [take_snoc h, Crc.run_append]; rfl
theorem Rb.take_byte {w : World} {p : Option Addr} {n : Nat} {xs : List Nat} (h : Rb w p n xs) (k : Nat) : ∀ x ∈ xs.take k, x < 256 := fun x hx => h.byte x (List.mem_of_mem_take hx)

set_option maxRecDepth 100000 in
set_option maxHeartbeats 400000 in
theorem sum_any (p : Option Addr) (n c : Nat) (xs : List Nat) (w : World) (h : Rb w p n xs) (hn : (n : Int) ≤ 1000000000000000) (ht : Turns w) :
    Calls Tryd.prog 70 #[.slice p n c] w fun e w' => e = .returned (.int .u32 ((Crc.sum xs : Nat) : Int)) ∧ w' = w := by
  go_enter Tryd.func70, Tryd.ntmps70
  go_wp2
  go_loopw [3, 8] (fun s i w' => ∃ k : Nat, k ≤ n ∧ i = .int .i64 k ∧ s = .int .u32 ((Crc.run 4294967295 (xs.take k) : Nat) : Int) ∧ w' = w) (fun _ i _ => n - (intOf i).toNat)
  case atStart => exact ⟨0, Nat.zero_le _, rfl, rfl, rfl⟩
  case round =>
    obtain ⟨k, hk, rfl, rfl, rfl⟩ := hrel
    have hs0 : Crc.run 4294967295 (xs.take k) < 2 ^ 32 := Crc.run_lt (by omega) (h.take_byte k)
    by_cases hlt : (k : Int) < (n : Int)
    · obtain ⟨b, o, rfl, hb⟩ := h.pt (by omega)
      have hc := hb k (by omega)
      have hx := h.byteAt k
      have HR : Hid (_ = _) := run_snoc (xs := xs) 4294967295 (k := k) (by rw [h.len]; omega)
      obtain ⟨x, hxe⟩ : ∃ x, x = xs.getD k 0 := ⟨_, rfl⟩
      obtain ⟨s, hse⟩ : ∃ s, s = Crc.run 4294967295 (xs.take k) := ⟨_, rfl⟩
      rw [← hxe] at hc hx HR
      rw [← hse] at hs0 HR ⊢
      clear hxe hse hb h
      have e1 := u32_xor_c s x hs0 (by omega)
      obtain ⟨t, hte⟩ : ∃ t, t = s ^^^ x := ⟨_, rfl⟩
      have ht0 : t < 2 ^ 32 := by rw [hte]; exact Nat.xor_lt_two_pow hs0 (by omega)
      rw [← hte] at e1
      have HT : Hid (_ = _) := Crc.stp_by4 s x
      rw [← hte] at HT
      clear hte
      obtain ⟨y, hy, e2, e3⟩ := nib t ht0
      have ht1 := Crc.it_lt 4 ht0
      obtain ⟨t', hte⟩ : ∃ t', t' = Crc.it 4 t := ⟨_, rfl⟩
      rw [← hte] at e3 ht1 HT
      clear hte
      obtain ⟨z, hz, e4, e5⟩ := nib t' ht1
      have c1 := ht y hy
      have c2 := ht z hz
      obtain ⟨t2, hte⟩ : ∃ t2, t2 = Crc.it 4 t' := ⟨_, rfl⟩
      rw [← hte] at e5 HT
      clear hte
      go_wp2
      go_roundw
      case rel => exact ⟨k + 1, by omega, by go_num, by rw [HR.out, HT.out], trivial⟩
      case measure => simp [intOf]; omega
    · have e : k = n := by omega
      subst e
      have hte : xs.take k = xs := List.take_of_length_le (by rw [h.len]; omega)
      have HS : Hid (bits .xor .u32 IntKind.u32.max ((Crc.run 4294967295 xs : Nat) : Int) = ((Crc.sum xs : Nat) : Int)) := by
        show bits .xor .u32 ((4294967295 : Nat) : Int) _ = _
        rw [u32_xor_c 4294967295 _ (by omega) (by rw [← hte]; exact hs0), Nat.xor_comm]; rfl
      rw [hte]
      clear hte
      go_wp2
      go_ret
      exact ⟨ret_num HS.out, rfl⟩

theorem bit_even (s : Nat) (h : s % 2 = 0) : Crc.bit s = s / 2 := by unfold Crc.bit; rw [if_neg (by omega), Nat.xor_zero]
theorem bit_odd (s : Nat) (h : s % 2 = 1) : Crc.bit s = s / 2 ^^^ 2197175160 := by unfold Crc.bit; rw [if_pos h]; rfl

set_option maxRecDepth 100000 in
set_option maxHeartbeats 400000 in
theorem refSum_any (p : Option Addr) (n c : Nat) (xs : List Nat) (w : World) (h : Rb w p n xs) (hn : (n : Int) ≤ 1000000000000000) :
    Calls Tryd.prog 26 #[.slice p n c] w fun e w' => e = .returned (.int .u32 ((Crc.sum xs : Nat) : Int)) ∧ w' = w := by
  go_enter Tryd.func26, Tryd.ntmps26
  go_wp2
  go_loopw [3, 9] (fun s i w' => ∃ k : Nat, k ≤ n ∧ i = .int .i64 k ∧ s = .int .u32 ((Crc.run 4294967295 (xs.take k) : Nat) : Int) ∧ w' = w) (fun _ i _ => n - (intOf i).toNat)
  case atStart => exact ⟨0, Nat.zero_le _, rfl, rfl, rfl⟩
  case round =>
    obtain ⟨k, hk, rfl, rfl, rfl⟩ := hrel
    have hs0 : Crc.run 4294967295 (xs.take k) < 2 ^ 32 := Crc.run_lt (by omega) (h.take_byte k)
    by_cases hlt : (k : Int) < (n : Int)
    · obtain ⟨b, o, rfl, hb⟩ := h.pt (by omega)
      have hc := hb k (by omega)
      have hx := h.byteAt k
      have HR : Hid (_ = _) := run_snoc (xs := xs) 4294967295 (k := k) (by rw [h.len]; omega)
      obtain ⟨x, hxe⟩ : ∃ x, x = xs.getD k 0 := ⟨_, rfl⟩
      obtain ⟨s, hse⟩ : ∃ s, s = Crc.run 4294967295 (xs.take k) := ⟨_, rfl⟩
      rw [← hxe] at hc hx HR
      rw [← hse] at hs0 HR ⊢
      clear hxe hse hb h
      have e1 := u32_xor_c s x hs0 (by omega)
      obtain ⟨t, hte⟩ : ∃ t, t = s ^^^ x := ⟨_, rfl⟩
      have ht0 : t < 2 ^ 32 := by rw [hte]; exact Nat.xor_lt_two_pow hs0 (by omega)
      rw [← hte] at e1
      have HT : Hid (Crc.stp s x = Crc.it 8 t) := by rw [hte]; rfl
      clear hte
      obtain ⟨wr0, rfl⟩ : ∃ x, x = wr := ⟨_, rfl⟩
      go_wp2
      go_loopw [3, 17] (fun s i w' => ∃ j : Nat, j ≤ 8 ∧ i = .int .i64 j ∧ s = .int .u32 ((Crc.it j t : Nat) : Int) ∧ w' = wr0) (fun _ i _ => 8 - (intOf i).toNat)
      case atStart => exact ⟨0, Nat.zero_le _, rfl, rfl, rfl⟩
      case round =>
        obtain ⟨j, hj, rfl, rfl, rfl⟩ := hrel
        have hq := Crc.it_lt j ht0
        have HI : Hid (_ = _) := Crc.it_succ j t
        obtain ⟨q, hqe⟩ : ∃ q, q = Crc.it j t := ⟨_, rfl⟩
        rw [← hqe] at hq HI ⊢
        by_cases hlj : (j : Int) < 8
        · clear hqe
          by_cases ho : q % 2 = 1
          · have d1 : ((q : Int) % 2 == 1) = true := by rw [beq_iff_eq]; omega
            have HB : Hid (_ = _) := bit_odd q ho
            have e5 : bits .xor .u32 ((q : Int) / 2) 2197175160 = ((q / 2 ^^^ 2197175160 : Nat) : Int) := by
              rw [show (q : Int) / 2 = ((q / 2 : Nat) : Int) from by omega]
              exact u32_xor_c (q / 2) 2197175160 (by omega) (by omega)
            obtain ⟨q2, hq2⟩ : ∃ q2, q2 = q / 2 ^^^ 2197175160 := ⟨_, rfl⟩
            rw [← hq2] at HB e5
            clear hq2 ho
            go_wp2
            go_roundw
            case rel => exact ⟨j + 1, by omega, by go_num, by rw [HI.out, HB.out], trivial⟩
            case measure => simp [intOf]; omega
          · have d1 : ((q : Int) % 2 == 1) = false := by rw [beq_eq_false_iff_ne]; omega
            have HB : Hid (_ = _) := bit_even q (by omega)
            clear ho
            go_wp2
            go_roundw
            case rel => exact ⟨j + 1, by omega, by go_num, by rw [HI.out, HB.out]; go_num, trivial⟩
            case measure => simp [intOf]; omega
        · have e : j = 8 := by omega
          subst e
          have HQ : Hid (q = Crc.it 8 t) := hqe
          clear hqe
          go_wp2
          go_roundw
          case rel => exact ⟨k + 1, by omega, by go_num, by rw [HR.out, HT.out, HQ.out], trivial⟩
          case measure => simp [intOf]; omega
    · have e : k = n := by omega
      subst e
      have hte : xs.take k = xs := List.take_of_length_le (by rw [h.len]; omega)
      have HS : Hid (bits .xor .u32 ((Crc.run 4294967295 xs : Nat) : Int) 4294967295 = ((Crc.sum xs : Nat) : Int)) := by
        have := u32_xor_c (Crc.run 4294967295 xs) 4294967295 (by rw [← hte]; exact hs0) (by omega)
        exact this
      rw [hte]
      clear hte
      go_wp2
      go_ret
      exact ⟨ret_num HS.out, rfl⟩

/-- a number in so many bytes, the highest first -/
def big (n w : Nat) : List Nat := (List.range w).map fun j => n / 256 ^ (w - 1 - j) % 256
theorem big_length (n w : Nat) : (big n w).length = w := by simp [big]
theorem big_byte (n w : Nat) : ∀ x ∈ big n w, x < 256 := fun x hx => by
  obtain ⟨j, _, rfl⟩ := List.mem_map.1 hx
  exact Nat.mod_lt _ (by omega)
theorem big_at (n w j : Nat) (h : j < w) : (big n w).getD j 0 = n / 256 ^ (w - 1 - j) % 256 := by
  unfold big
  rw [List.getD_eq_getElem?_getD, List.getElem?_map, List.getElem?_range h]; rfl
def bigF (n w r : Nat) : Nat → Value := fun j => .int .u8 (((if w - r ≤ j then n / 256 ^ (w - 1 - j) % 256 else 0 : Nat) : Nat) : Int)
theorem bigF_succ (n w r j : Nat) (hr : r < w) : bigF n w (r + 1) j = if j = w - 1 - r then .int .u8 ((n / 256 ^ r % 256 : Nat) : Int) else bigF n w r j := by
  unfold bigF
  by_cases e : j = w - 1 - r
  · subst e; rw [if_pos rfl, if_pos (by omega), show w - 1 - (w - 1 - r) = r from by omega]
  · rw [if_neg e]
    by_cases h : w - r ≤ j
    · rw [if_pos h, if_pos (by omega)]
    · rw [if_neg h, if_neg (by omega)]
theorem ow_of_row {w : World} {base b n : Nat} {f : Nat → Value} {xs : List Nat} (h : w.rowIs b 5 n f) (hb : base ≤ b) (hl : xs.length = n) (hm : n ≤ maxLen) (hf : ∀ j, j < n → f j = .int .u8 ((xs.getD j 0 : Nat) : Int)) :
    Ow w base (.slice (some ⟨b, 0, none⟩) n n) xs := by
  obtain ⟨cs, hh, hs, hc⟩ := h
  refine ⟨by rw [vl_length]; omega, Or.inr ⟨b, n, cs, by rw [hl], hb, hh, by omega, hm, by omega, ?_⟩⟩
  rw [List.take_of_length_le (by simp; omega)]
  apply List.ext_getElem?
  intro i
  by_cases hi : i < n
  · rw [Array.getElem?_toList, hc i hi, hf i hi, vl_get (by omega)]
  · rw [Array.getElem?_toList, Array.getElem?_eq_none (by omega), List.getElem?_eq_none (by rw [vl_length]; omega)]

end Go.Proofs.YtmncocmeafcpfaaDoor

/- Maps by whatever numbers. -/
namespace Go.Proofs.YtmncocmeafcpfaaDoor
set_option linter.unusedVariables false
open Go.RowKit Go.Deep Go.Maps

/-- what D has under numbers: T, c of them -/
structure Md (D : DataW Value) (c : Nat) (T : Int → Option Value) : Prop where
  no : ∀ z, T z = none → Maps.has D (.int .i64 z) = false
  yes : ∀ z v, T z = some v → Maps.has D (.int .i64 z) = true ∧ ∀ y, D.atKey (.int .i64 z) y = .held v
  size : Maps.size D = c
/-- block m is a map of c values by numbers -/
def Mm (w : World) (m q c : Nat) (T : Int → Option Value) : Prop := ∃ D, w.ownsMap Tryd.prog 3 idR m q D ∧ Md D c T
theorem Mm.lt {w : World} {m q c : Nat} {T : Int → Option Value} (h : Mm w m q c T) : m < w.heap.size := by
  obtain ⟨D, h1, h2⟩ := h
  exact h1.lt
theorem Mm.keep {S : Nat → Prop} {w w' : World} {m q c : Nat} {T : Int → Option Value} (h : Mm w m q c T) (k : Kp S w w') (hS : ¬ S m) : Mm w' m q c T := by
  have hlt := h.lt
  obtain ⟨D, ⟨es, clock, hb, r⟩, h2⟩ := h
  exact ⟨D, ⟨es, clock, (k.block m hlt hS).trans hb, r⟩, h2⟩
theorem Mm.made (w : World) : Mm (w.alloc (.map #[] 0)) w.heap.size 0 0 (fun _ => none) :=
  ⟨_, World.ownsMap_made w _ _ _, fun _ _ => rfl, fun _ _ h => (by cases h), rfl⟩
/-- T with v at z -/
def upd (T : Int → Option Value) (z : Int) (v : Value) : Int → Option Value := fun x => if x = z then some v else T x
theorem Md.put {D : DataW Value} {c : Nat} {T : Int → Option Value} {v : Value} {z : Int} (hT : Tidy D) (h : Md D c T) : Md (D.put (.int .i64 z) (.held v)) (c + (if (T z).isSome then 0 else 1)) (upd T z v) := by
  have hM := hT.isMap
  have hzz : WideAt.IsKeyLit (Lit.int .i64 z) := trivial
  refine ⟨fun x hx => ?_, fun x u hx => ?_, ?_⟩
  · unfold upd at hx
    by_cases e : x = z
    · rw [if_pos e] at hx; cases hx
    · rw [if_neg e] at hx
      rw [has_put_other (fun h => e (by injection h))]
      exact h.no x hx
  · unfold upd at hx
    by_cases e : x = z
    · rw [if_pos e] at hx
      injection hx with hx
      subst hx e
      exact ⟨has_put_same hM hzz _, fun y => atKey_put_same hM hzz _ y⟩
    · rw [if_neg e] at hx
      have hne : Lit.int .i64 x ≠ Lit.int .i64 z := fun h => e (by injection h)
      obtain ⟨b, c⟩ := h.yes x u hx
      exact ⟨by rw [has_put_other hne]; exact b, fun y => by rw [atKey_put_other hne]; exact c y⟩
  · rw [size_put hT, h.size]
    cases hz : T z with
    | none => rw [h.no z hz]; rfl
    | some u => rw [(h.yes z u hz).1]; rfl
theorem Md.look {D : DataW Value} {c : Nat} {T : Int → Option Value} (h : Md D c T) (z : Int) (y : Value) : Maps.has D (.int .i64 z) = (T z).isSome ∧ D.atKey (.int .i64 z) (.held y) = .held ((T z).getD y) := by
  cases hz : T z with
  | none => exact ⟨h.no z hz, atKey_of_not_has (h.no z hz) _⟩
  | some v => exact ⟨(h.yes z v hz).1, (h.yes z v hz).2 _⟩
theorem z_key (z : Int) (h : (Lit.int .i64 z).wf = true) : keyOf Tryd.prog 3 (.int .i64 z) = some (.int .i64 z) := keyOf_int_mk Tryd.underlying3 h
theorem z_wf {z : Int} (h : -9223372036854775808 ≤ z ∧ z ≤ 9223372036854775807) : (Lit.int .i64 z).wf = true := WalkArith.wf_i64 h

section
variable {MT ET : TypeId} {zv : Value}
theorem wpList_look_mm {ops : Array Oper} {rest : List Oper} {o : Oper} {a : Act} {w : World} {Q : Exit → Act → World → Prop} (hg : o.guard = none) (mm x : Operand) (hop : o.op = Op.lookup MT mm x true)
    (hu : Tryd.prog.underlying MT = some (.map 3 ET)) (hz : ∀ w, (zeroValue ET).run Tryd.prog w = .ok zv w)
    (m q c : Nat) (T : Int → Option Value) (h : Mm w m q c T) (hm : a.eval mm = .map (some m)) (z : Int) (hw : (Lit.int .i64 z).wf = true) (hx : a.eval x = .int .i64 z)
    (hK : wpList Tryd.prog ops Q rest (a.put o.dst (.tuple #[(T z).getD zv, .bool (T z).isSome])) w) : wpList Tryd.prog ops Q (o :: rest) a w := by
  obtain ⟨D, h1, h2⟩ := h
  obtain ⟨e1, e2⟩ := h2.look z zv
  refine wpList_lookup_own_ok _ hg mm x MT hop 3 ET intLaw hu idR (hz w) (.held zv) [] rfl m q D hm h1 _ _ hx (z_key z hw) ?_
  intro v ps hv
  rw [e2] at hv
  injection hv with hv
  injection hv with hv _
  injection hv with hv
  rw [hv, e1]
  exact hK
set_option maxRecDepth 100000 in
theorem look_mm_ok {w : World} {m q c : Nat} {T : Int → Option Value} (hu : Tryd.prog.underlying MT = some (.map 3 ET)) (hz : ∀ w, (zeroValue ET).run Tryd.prog w = .ok zv w) (h : Mm w m q c T) (z : Int) (hw : (Lit.int .i64 z).wf = true) : (Instr.lookup MT (.map (some m)) (.int .i64 z) true).run Tryd.prog w = .ok (.tuple #[(T z).getD zv, .bool (T z).isSome]) w := by
  obtain ⟨D, h1, h2⟩ := h
  obtain ⟨e1, e2⟩ := h2.look z zv
  obtain ⟨v, ps, hrun, hv⟩ := h1.look_ok intLaw hu (hz w) (zd := .held zv) (zp := []) rfl (z_key z hw)
  rw [e2] at hv
  injection hv with hv
  injection hv with hv _
  injection hv with hv
  rw [hrun, hv, e1]
set_option maxRecDepth 100000 in
theorem look_mm {w : World} {m q c : Nat} {T : Int → Option Value} (hu : Tryd.prog.underlying MT = some (.map 3 ET)) (hz : ∀ w, (zeroValue ET).run Tryd.prog w = .ok zv w) (h : Mm w m q c T) (z : Int) (hw : (Lit.int .i64 z).wf = true) : (Instr.lookup MT (.map (some m)) (.int .i64 z) false).run Tryd.prog w = .ok ((T z).getD zv) w := by
  obtain ⟨D, h1, h2⟩ := h
  obtain ⟨e1, e2⟩ := h2.look z zv
  obtain ⟨v, ps, hrun, hv⟩ := h1.lookup intLaw hu (hz w) (zd := .held zv) (zp := []) rfl (z_key z hw)
  rw [e2] at hv
  injection hv with hv
  injection hv with hv _
  injection hv with hv
  rw [hrun, hv]
theorem wpList_put_mm {ops : Array Oper} {rest : List Oper} {o : Oper} {a : Act} {w : World} {Q : Exit → Act → World → Prop} (hg : o.guard = none) (mm x v : Operand) (hop : o.op = Op.mapUpdate MT mm x v)
    (hu : Tryd.prog.underlying MT = some (.map 3 ET))
    (m q c : Nat) (T : Int → Option Value) (h : Mm w m q c T) (hm : a.eval mm = .map (some m)) (hq : q < 4611686018427387904) (z : Int) (hw : (Lit.int .i64 z).wf = true) (hx : a.eval x = .int .i64 z) (u : Value) (hv : a.eval v = u)
    (hK : ∀ w', Mm w' m (q + 1) (c + (if (T z).isSome then 0 else 1)) (upd T z u) → Kp (fun x => x = m) w w' → wpList Tryd.prog ops Q rest (a.put o.dst undef) w') : wpList Tryd.prog ops Q (o :: rest) a w := by
  obtain ⟨D, h1, h2⟩ := h
  refine wpList_mapUpdate_own _ hg mm x v MT hop 3 ET intLaw hu _ m q D hm h1 (by unfold maxLen; omega) _ _ _ hx hv (z_key _ hw) (.held u) [] rfl ?_
  intro w' h3 hg'
  exact hK w' ⟨_, h3, h2.put (h1.tidy intLaw)⟩ ((grownBy_kp hg').mono (fun b _ e => by cases e; rfl))
theorem len_mm {w : World} {m q c : Nat} {T : Int → Option Value} (hu : Tryd.prog.underlying MT = some (.map 3 ET)) (h : Mm w m q c T) (ty : TypeId) : (Builtin.len_ #[MT] ty #[.map (some m)]).run Tryd.prog w = .ok (.int .i64 (c : Int)) w := by
  obtain ⟨D, h1, h2⟩ := h
  rw [h1.len hu ty, h2.size]
end

/-- a list of numbers, as a slice, in blocks of which Z holds -/
def Ni (w : World) (Z : Nat → Prop) (zs : List Int) (nv : Value) : Prop := ∃ p cap, nv = .slice p zs.length cap ∧ Fl w Z p (zs.map encI) ∧ zs.length * 8 ≤ 140737488355328
theorem Ni.keep {S Z : Nat → Prop} {w w' : World} {zs : List Int} {nv : Value} (h : Ni w Z zs nv) (k : Kp S w w') (hS : ∀ b, Z b → ¬ S b) : Ni w' Z zs nv := by
  obtain ⟨p, cap, e, hf, hn⟩ := h
  exact ⟨p, cap, e, hf.keep k hS, hn⟩
theorem Ni.mono {Z Z' : Nat → Prop} {w : World} {zs : List Int} {nv : Value} (h : Ni w Z zs nv) (hz : ∀ b, Z b → Z' b) : Ni w Z' zs nv := by
  obtain ⟨p, cap, e, hf, hn⟩ := h
  exact ⟨p, cap, e, hf.mono hz, hn⟩

end Go.Proofs.YtmncocmeafcpfaaDoor

/- The Mem family (namespace Mf) beside Kb's: what keeps memory, bytes; stripe.Length and stripe.Cut; shards.Fit of nodes that fit. -/
namespace Go.Proofs.YtmncocmeafcpfaaDoor
set_option linter.unusedVariables false
set_option linter.unusedSimpArgs false
open Go.RowKit Go.Deep

theorem kp_of {S : Nat → Prop} {w w' : World} (h : Mf.Kp S w w') : Kp S w w' := ⟨h.os, h.tape, h.output, h.size, h.block⟩
theorem kp_to {S : Nat → Prop} {w w' : World} (h : Kp S w w') : Mf.Kp S w w' := ⟨h.os, h.tape, h.output, h.size, h.block⟩
theorem pows_keep {S : Nat → Prop} {w w' : World} (h : Mf.Pows w) (k : Kp S w w') (hb : ¬ S 1) : Mf.Pows w' := (kp_to k).pows h hb
theorem bs_of_rb {w : World} {p : Option Addr} {n c : Nat} {xs : List Nat} (h : Rb w p n xs) : Mf.Bs w (.slice p n c) n (fun i => xs.getD i 0) := by
  by_cases hn : 0 < n
  · obtain ⟨b, o, rfl, hc⟩ := h.pt hn
    exact ⟨_, b, o, c, rfl, fun _ _ => rfl, hc, fun k => h.byteAt k⟩
  · obtain rfl : n = 0 := by omega
    exact ⟨p, 0, 0, c, rfl, fun k hk => absurd hk (by omega), fun k hk => absurd hk (by omega), fun k => h.byteAt k⟩
theorem len_pos (K n : Nat) (h1 : 1 ≤ K) (hn : n ≤ 400) : 1 ≤ Mf.lenOf K n ∧ Mf.lenOf K n ≤ 100000 := by
  have := Mf.lenOf_bd (K := K) (size := n) h1 hn
  constructor
  · first | omega | (have h2 := this.1; omega)
  · first | omega | (have h2 := this.2; omega)
theorem length_ok (K M size : Nat) (w : World) (h1 : 1 ≤ (K : Int)) (h3 : (M : Int) ≤ 255 - (K : Int)) (hs : (size : Int) ≤ 400) :
    Calls Tryd.prog 95 #[.agg #[.int .i64 K, .int .i64 M], .int .i64 size] w fun e w' => e = .returned (.int .i64 (Mf.lenOf K size : Int)) ∧ Kp (fun _ => False) w w' :=
  (Mf.length_yes K M size w h1 h3 hs).mono fun e w' h => ⟨h.1, kp_of h.2⟩
theorem cut_ok (K M n c : Nat) (p : Option Addr) (xs : List Nat) (w : World) (h : Rb w p n xs) (h1 : 1 ≤ (K : Int)) (h3 : (M : Int) ≤ 255 - (K : Int)) (hl : (n : Int) ≤ 400) (hp : Mf.Pows w) :
    Calls Tryd.prog 101 #[.agg #[.int .i64 K, .int .i64 M], .slice p n c] w fun e w' =>
      ∃ t B, e = .returned (.tuple #[.slice (some ⟨t, 0, none⟩) (K + M) (K + M), .int .i64 0]) ∧ Kp (fun _ => False) w w' ∧ w.heap.size ≤ t ∧ (∀ i, i < K + M → w.heap.size ≤ B i) ∧ Mf.Mat w' t B (K + M) (Mf.lenOf K n) (Mf.enc K (Mf.cutAt K (fun i => xs.getD i 0) n)) :=
  (Mf.cut_yes K M n _ _ w (bs_of_rb h) h1 h3 hl hp).mono fun e w' h => by
    obtain ⟨t, B, he, hk, h5⟩ := h
    exact ⟨t, B, he, kp_of hk, h5⟩

/-- nodes, each once -/
structure Nds (zs : List Int) : Prop where
  rng : ∀ z ∈ zs, 0 ≤ z ∧ z < 16
  one : ∀ i j, (hi : i < zs.length) → (hj : j < zs.length) → j < i → zs[j] ≠ zs[i]

set_option maxRecDepth 100000 in
set_option maxHeartbeats 1600000 in
theorem fit_yes (K M size L : Nat) (p : Option Addr) (c : Nat) (Z : Nat → Prop) (zs : List Int) (w : World) (h1 : 1 ≤ (K : Int)) (h3 : (M : Int) ≤ 255 - (K : Int)) (hs : (size : Int) ≤ 400) (hf : Fl w Z p (zs.map encI)) (hL : Hid (L = zs.length ∧ L = K + M)) (hN : Hid (Nds zs)) (hc : Hid (L ≤ c)) :
    Calls Tryd.prog 57 #[.agg #[.int .i64 K, .int .i64 M], .int .i64 size, .slice p L c] w fun e w' => e = .returned (.bool true) ∧ Kp (fun _ => False) w w' := by
  have H1 : Hid (∀ z, Calls Tryd.prog 95 _ z _) := fun z => length_ok K M size z h1 h3 hs
  have H2 : Hid (∀ n z, Calls Tryd.prog 48 #[.int .i64 n] z _) := fun n z => isNode_ok n z
  have HF : Hid (Fl w Z p (zs.map encI)) := hf
  have HP : Hid ((0 : Int) < (Mf.lenOf K size : Int)) := by have := len_pos K size (by omega) (by omega); show _ < _; omega
  have HKM : Hid (1 ≤ K ∧ K + M ≤ 255) := ⟨by omega, by omega⟩
  obtain ⟨ln, hln⟩ : ∃ ln : Nat, ln = Mf.lenOf K size := ⟨_, rfl⟩
  rw [← hln] at H1 HP
  have hl : Lv (w.alloc (.cells #[.int .i64 K, .int .i64 M] 26)) w.heap.size [.int .i64 K, .int .i64 M] := Lv.new w _ _
  have k0 : Kp (fun _ => False) w (w.alloc (.cells #[.int .i64 K, .int .i64 M] 26)) := (Kp.refl _ _).alloc _
  have c0 := hl.cell (j := 0) rfl
  have c1 := hl.cell (j := 1) rfl
  have hp : (decide ((ln : Int) > 0)) = true := by have := HP.out; simp; omega
  have hsum : wrap64 ((K : Int) + (M : Int)) = (L : Int) := by
    have h5 := hL.out
    unfold wrap64
    omega
  clear hf hl h1 h3 hs hln
  go_enter Tryd.func57, Tryd.ntmps57
  go_wp2
  go_step3
  go_wp2_with (go_at_call 95; refine (H1.out _).mono ?_; rintro e w1 ⟨rfl, k1⟩; have d0 := k1.cellv c0 id; have d1 := k1.cellv c1 id; have HK1 : Hid (Kp (fun _ => False) w w1) := k0.trans k1 (fun _ _ e => e); have hpos : (ln : Int) > 0 := HP.out)
  go_step3
  go_wp2
  clear hsum
  go_loopg [7, 28] L (fun gk f i wr => ∃ (k : Nat), k ≤ L ∧ gk = L - k ∧ f = .bool true ∧ i = .int .i64 k ∧ wr = w1)
  case atStart => exact ⟨0, by omega, rfl, by first | rfl | simp, rfl, rfl⟩
  case round =>
    obtain ⟨k, hk, rfl, rfl, rfl, rfl⟩ := hrel
    obtain ⟨w1, rfl⟩ : ∃ x, x = wr := ⟨_, rfl⟩
    by_cases h : (k : Int) < (L : Int)
    · have hkl : k < zs.length := by have := hL.out; omega
      obtain ⟨b, o, rfl, _, e1⟩ := (HF.out.keep HK1.out (fun _ _ => id)) k (encI zs[k]) (by rw [List.getElem?_map, List.getElem?_eq_getElem hkl]; rfl)
      obtain ⟨z, hz⟩ : ∃ z, z = zs[k] := ⟨_, rfl⟩
      have hzn : (decide (0 ≤ z) && decide (z < 16)) = true := by
        have := hN.out.rng zs[k] (List.getElem_mem hkl)
        rw [← hz] at this
        simp [this.1, this.2]
      have H2z : Hid (Calls Tryd.prog 48 #[.int .i64 z] w1 fun e w' => e = .returned (.bool true) ∧ w' = w1) := by
        have := H2.out z w1
        rw [hzn] at this
        exact this
      rw [← hz] at e1
      have HK1k : Hid (wrap64 ((k : Int) + 1) = ((k + 1 : Nat) : Int)) := by have := HKM.out; have := hL.out; show _ = _; unfold wrap64; omega
      have HZ : Hid (∀ j, (hj : j < zs.length) → j < k → zs[j] ≠ z) := fun j hj hjk => by rw [hz]; exact hN.out.one k j hkl hj hjk
      have HC : Hid (k ≤ c) := by have := hc.out; show _ ≤ _; omega
      clear hz hzn
      go_wp2_with (go_at_call 48; refine H2z.out.mono ?_; rintro e w2 ⟨rfl, hw2⟩; obtain rfl := hw2.symm)
      go_loopg [7, 40] k (fun gk f i wr => ∃ (j : Nat), j ≤ k ∧ gk = k - j ∧ f = .bool true ∧ i = .int .i64 j ∧ wr = w1)
      case atStart => exact ⟨0, by omega, rfl, rfl, rfl, rfl⟩
      case round =>
        obtain ⟨j, hj, rfl, rfl, rfl, rfl⟩ := hrel
        by_cases h2 : (j : Int) < (k : Int)
        · have hjl : j < zs.length := by omega
          obtain ⟨b', o', eb, _, e2⟩ := (HF.out.keep HK1.out (fun _ _ => id)) j (encI zs[j]) (by rw [List.getElem?_map, List.getElem?_eq_getElem hjl]; rfl)
          obtain ⟨rfl, rfl⟩ : b' = b ∧ o' = o := by injection eb with eb; injection eb with x y; exact ⟨x.symm, y.symm⟩
          obtain ⟨y, hy⟩ : ∃ y, y = zs[j] := ⟨_, rfl⟩
          have hyz : (y == z) = false := by rw [hy]; simpa using HZ.out j hjl (by omega)
          have HK1j : Hid (wrap64 ((j : Int) + 1) = ((j + 1 : Nat) : Int)) := by have := HKM.out; have := hL.out; show _ = _; unfold wrap64; omega
          rw [← hy] at e2
          clear hy
          go_wp2
          go_roundg (k - (j + 1))
          case rel => exact ⟨j + 1, by omega, rfl, rfl, by first | rfl | rw [HK1j.out], rfl⟩
          case measure => omega
        · go_wp2
          go_roundg (L - (k + 1))
          case rel => exact ⟨k + 1, by omega, rfl, rfl, by first | rfl | rw [HK1k.out], rfl⟩
          case measure => omega
    · go_wp2
      try rw [Exit.noGoto_ret]
      go_ret
      exact ⟨rfl, HK1.out⟩
end Go.Proofs.YtmncocmeafcpfaaDoor
