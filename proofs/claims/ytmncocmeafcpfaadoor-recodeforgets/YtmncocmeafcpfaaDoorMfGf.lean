/- The field of 256 numbers, over natural numbers: sums are xor, products are carry-less products with the remainder by 0x11d. No Go in sight. -/
namespace Gf

/-- 2 to the k-th, for k below 15. -/
def pw (k : Nat) : Nat := [1, 2, 4, 8, 16, 32, 64, 128, 29, 58, 116, 232, 205, 135, 19].getD k 0

def st (k : Nat) : Nat := [1, 38, 96, 193, 185, 15, 223, 26, 59, 169, 85, 145, 150, 100, 89, 36, 44].getD k 0

/-- the carry-less product with the first k bits of b -/
def cl (a b : Nat) : Nat → Nat
  | 0 => 0
  | k + 1 => cl a b k ^^^ ((a <<< k) * ((b >>> k) &&& 1))

/-- the remainder, of the first k bits -/
def rm (x : Nat) : Nat → Nat
  | 0 => 0
  | k + 1 => rm x k ^^^ (pw k * ((x >>> k) &&& 1))

def mul (a b : Nat) : Nat := rm (cl a b 8) 15

theorem bit01 (x k : Nat) : (x >>> k) &&& 1 = 0 ∨ (x >>> k) &&& 1 = 1 := by
  rw [Nat.and_one_is_mod]; omega

theorem bit_xor (x y k : Nat) : ((x ^^^ y) >>> k) &&& 1 = ((x >>> k) &&& 1) ^^^ ((y >>> k) &&& 1) := by
  rw [Nat.shiftRight_xor_distrib, Nat.and_xor_distrib_right]

theorem mul_bit_xor (c x y k : Nat) : c * (((x ^^^ y) >>> k) &&& 1) = c * ((x >>> k) &&& 1) ^^^ c * ((y >>> k) &&& 1) := by
  rw [bit_xor]
  rcases bit01 x k with h | h <;> rcases bit01 y k with h' | h' <;> simp [h, h']

theorem xor_mul_bit (c d x k : Nat) : (c ^^^ d) * ((x >>> k) &&& 1) = c * ((x >>> k) &&& 1) ^^^ d * ((x >>> k) &&& 1) := by
  rcases bit01 x k with h | h <;> simp [h]

theorem xor4 (a b c d : Nat) : (a ^^^ b) ^^^ (c ^^^ d) = (a ^^^ c) ^^^ (b ^^^ d) := by
  rw [Nat.xor_assoc, Nat.xor_assoc, ← Nat.xor_assoc b c d, Nat.xor_comm b c, Nat.xor_assoc c b d]

theorem cl_xor_right (a b c : Nat) : ∀ k, cl a (b ^^^ c) k = cl a b k ^^^ cl a c k
  | 0 => by simp [cl]
  | k + 1 => by
    simp only [cl]; rw [cl_xor_right a b c k, mul_bit_xor, xor4]

theorem cl_xor_left (a b c : Nat) : ∀ k, cl (a ^^^ b) c k = cl a c k ^^^ cl b c k
  | 0 => by simp [cl]
  | k + 1 => by
    simp only [cl]; rw [cl_xor_left a b c k, Nat.shiftLeft_xor_distrib, xor_mul_bit, xor4]

theorem rm_xor (x y : Nat) : ∀ k, rm (x ^^^ y) k = rm x k ^^^ rm y k
  | 0 => by simp [rm]
  | k + 1 => by
    simp only [rm]; rw [rm_xor x y k, mul_bit_xor, xor4]

theorem mul_xor_right (a b c : Nat) : mul a (b ^^^ c) = mul a b ^^^ mul a c := by
  unfold mul; rw [cl_xor_right, rm_xor]

theorem mul_xor_left (a b c : Nat) : mul (a ^^^ b) c = mul a c ^^^ mul b c := by
  unfold mul; rw [cl_xor_left, rm_xor]

theorem cl_zero_left (b : Nat) : ∀ k, cl 0 b k = 0
  | 0 => rfl
  | k + 1 => by simp [cl, cl_zero_left b k]
theorem cl_zero_right (a : Nat) : ∀ k, cl a 0 k = 0
  | 0 => rfl
  | k + 1 => by simp [cl, cl_zero_right a k]
theorem rm_zero : ∀ k, rm 0 k = 0
  | 0 => rfl
  | k + 1 => by simp [rm, rm_zero k]
theorem zero_mul (b : Nat) : mul 0 b = 0 := by unfold mul; rw [cl_zero_left]; rfl
theorem mul_zero (b : Nat) : mul b 0 = 0 := by unfold mul; rw [cl_zero_right]; rfl

theorem split_bit (x n : Nat) (h : x < 2 ^ (n + 1)) : ∃ y, y < 2 ^ n ∧ (x = y ∨ x = y ^^^ 2 ^ n) := by
  by_cases hx : x < 2 ^ n
  · exact ⟨x, hx, Or.inl rfl⟩
  · refine ⟨x - 2 ^ n, by rw [Nat.pow_succ] at h; omega, Or.inr ?_⟩
    have h1 : x - 2 ^ n < 2 ^ n := by rw [Nat.pow_succ] at h; omega
    have := Nat.two_pow_add_eq_or_of_lt h1 1
    have e : (2 ^ n * 1 ||| (x - 2 ^ n)) = (2 ^ n ^^^ (x - 2 ^ n)) := by
      apply Nat.eq_of_testBit_eq
      intro i
      simp [Nat.testBit_or, Nat.testBit_xor, Nat.testBit_two_pow]
      by_cases hi : n = i
      · subst hi
        simp [Nat.testBit_lt_two_pow h1]
      · simp [hi]
    rw [Nat.xor_comm, ← e, ← this]; omega

/-- two functions that are linear, and agree on powers of two, agree -/
theorem linear_ext (f g : Nat → Nat) (hf : ∀ x y, f (x ^^^ y) = f x ^^^ f y) (hg : ∀ x y, g (x ^^^ y) = g x ^^^ g y) (h0 : f 0 = g 0) :
    ∀ n, (∀ i, i < n → f (2 ^ i) = g (2 ^ i)) → ∀ x, x < 2 ^ n → f x = g x
  | 0, _, x, hx => by
    have : x = 0 := by simpa using hx
    rw [this, h0]
  | n + 1, h, x, hx => by
    obtain ⟨y, hy, e | e⟩ := split_bit x n hx
    · rw [e]; exact linear_ext f g hf hg h0 n (fun i hi => h i (by omega)) y hy
    · rw [e, hf, hg, linear_ext f g hf hg h0 n (fun i hi => h i (by omega)) y hy, h n (by omega)]

theorem mul_comm (a b : Nat) (ha : a < 256) (hb : b < 256) : mul a b = mul b a := by
  refine linear_ext (fun a => mul a b) (fun a => mul b a) (fun x y => mul_xor_left x y b) (fun x y => mul_xor_right b x y) (by simp [zero_mul, mul_zero]) 8 ?_ a ha
  intro i hi
  refine linear_ext (fun b => mul (2 ^ i) b) (fun b => mul b (2 ^ i)) (fun x y => mul_xor_right _ x y) (fun x y => mul_xor_left x y _) (by simp [zero_mul, mul_zero]) 8 ?_ b hb
  have h : ∀ i, i < 8 → ∀ j, j < 8 → mul (2 ^ i) (2 ^ j) = mul (2 ^ j) (2 ^ i) := by decide +kernel
  exact h i hi

theorem mul_one (a : Nat) (ha : a < 256) : mul a 1 = a := by
  have h : ∀ a, a < 256 → mul a 1 = a := by decide +kernel
  exact h a ha

theorem mul_lt (a b : Nat) : mul a b < 256 := by
  have h : ∀ k, k ≤ 15 → ∀ x, rm x k < 256 := by
    intro k
    induction k with
    | zero => intro _ x; simp [rm]
    | succ k ih =>
      intro hk x
      simp only [rm]
      have hp : ∀ k, k < 15 → pw k < 2 ^ 8 := by decide
      refine Nat.xor_lt_two_pow (n := 8) (ih (by omega) x) ?_
      rcases bit01 x k with e | e <;> simp [e]
      exact hp k (by omega)
  exact h 15 (by omega) _

theorem mul_assoc (a b c : Nat) (ha : a < 256) (hb : b < 256) (hc : c < 256) : mul (mul a b) c = mul a (mul b c) := by
  refine linear_ext (fun a => mul (mul a b) c) (fun a => mul a (mul b c)) (fun x y => by rw [mul_xor_left, mul_xor_left]) (fun x y => mul_xor_left x y _) (by simp [zero_mul]) 8 ?_ a ha
  intro i hi
  refine linear_ext (fun b => mul (mul (2 ^ i) b) c) (fun b => mul (2 ^ i) (mul b c)) (fun x y => by rw [mul_xor_right, mul_xor_left]) (fun x y => by rw [mul_xor_left, mul_xor_right]) (by simp [zero_mul, mul_zero]) 8 ?_ b hb
  intro j hj
  refine linear_ext (fun c => mul (mul (2 ^ i) (2 ^ j)) c) (fun c => mul (2 ^ i) (mul (2 ^ j) c)) (fun x y => by rw [mul_xor_right]) (fun x y => by rw [mul_xor_right, mul_xor_right]) (by simp [mul_zero]) 8 ?_ c hc
  intro k hk
  have h : ∀ i, i < 8 → ∀ j, j < 8 → ∀ k, k < 8 → mul (mul (2 ^ i) (2 ^ j)) (2 ^ k) = mul (2 ^ i) (mul (2 ^ j) (2 ^ k)) := by decide +kernel
  exact h i hi j hj k hk

/-- a product of n times a -/
def pow (a : Nat) : Nat → Nat
  | 0 => 1
  | n + 1 => mul a (pow a n)

theorem pow_lt (a : Nat) (_ha : a < 256) : ∀ n, pow a n < 256
  | 0 => by simp [pow]
  | _ + 1 => mul_lt _ _

theorem one_mul (a : Nat) (ha : a < 256) : mul 1 a = a := by
  rw [mul_comm 1 a (by omega) ha, mul_one a ha]

theorem pow_add (a : Nat) (ha : a < 256) (m : Nat) : ∀ n, pow a (n + m) = mul (pow a n) (pow a m)
  | 0 => by rw [Nat.zero_add, pow, one_mul _ (pow_lt a ha m)]
  | n + 1 => by
    rw [show n + 1 + m = (n + m) + 1 from by omega, pow, pow, pow_add a ha m n, mul_assoc _ _ _ ha (pow_lt a ha n) (pow_lt a ha m)]

theorem pow_mul (a : Nat) (ha : a < 256) (m : Nat) : ∀ n, pow a (m * n) = pow (pow a m) n
  | 0 => rfl
  | n + 1 => by
    rw [Nat.mul_succ, pow_add a ha, pow_mul a ha m n, pow, mul_comm _ _ (pow_lt _ (pow_lt a ha m) n) (pow_lt a ha m)]

theorem one_pow : ∀ n, pow 1 n = 1
  | 0 => rfl
  | n + 1 => by rw [pow, one_pow n]; exact mul_one 1 (by omega)

/-- b to the 255th, by squares (quick to reckon) -/
def p254 (b : Nat) : Nat :=
  let b2 := mul b b; let b4 := mul b2 b2; let b8 := mul b4 b4; let b16 := mul b8 b8
  let b32 := mul b16 b16; let b64 := mul b32 b32; let b128 := mul b64 b64
  mul b2 (mul b4 (mul b8 (mul b16 (mul b32 (mul b64 b128)))))

theorem pow_one (a : Nat) (ha : a < 256) : pow a 1 = a := mul_one a ha
theorem pow_dbl (a : Nat) (ha : a < 256) (n : Nat) : pow a (n + n) = mul (pow a n) (pow a n) := pow_add a ha n n

theorem p254_eq (b : Nat) (hb : b < 256) : pow b 254 = p254 b := by
  have e2 : mul b b = pow b 2 := by rw [pow_dbl b hb 1, pow_one b hb]
  have e4 : mul (pow b 2) (pow b 2) = pow b 4 := (pow_dbl b hb 2).symm
  have e8 : mul (pow b 4) (pow b 4) = pow b 8 := (pow_dbl b hb 4).symm
  have e16 : mul (pow b 8) (pow b 8) = pow b 16 := (pow_dbl b hb 8).symm
  have e32 : mul (pow b 16) (pow b 16) = pow b 32 := (pow_dbl b hb 16).symm
  have e64 : mul (pow b 32) (pow b 32) = pow b 64 := (pow_dbl b hb 32).symm
  have e128 : mul (pow b 64) (pow b 64) = pow b 128 := (pow_dbl b hb 64).symm
  unfold p254
  simp only [e2, e4, e8, e16, e32, e64, e128]
  rw [← pow_add b hb, ← pow_add b hb, ← pow_add b hb, ← pow_add b hb, ← pow_add b hb, ← pow_add b hb]

theorem inv_check : ∀ b, b < 256 → b = 0 ∨ mul b (p254 b) = 1 := by decide +kernel

def inv (b : Nat) : Nat := pow b 254
theorem inv_lt (b : Nat) (hb : b < 256) : inv b < 256 := pow_lt b hb _
theorem mul_inv (b : Nat) (hb : b < 256) (h : b ≠ 0) : mul b (inv b) = 1 := by
  rcases inv_check b hb with e | e
  · exact absurd e h
  · unfold inv; rw [p254_eq b hb, e]

theorem pow_255 (b : Nat) (hb : b < 256) (h : b ≠ 0) : pow b 255 = 1 := mul_inv b hb h

theorem pow_mod (b : Nat) (hb : b < 256) (h : b ≠ 0) (n : Nat) : pow b n = pow b (n % 255) := by
  have e : n = n % 255 + 255 * (n / 255) := by omega
  have := pow_add b hb (255 * (n / 255)) (n % 255)
  rw [← e] at this
  rw [this, pow_mul b hb, pow_255 b hb h, one_pow, mul_one _ (pow_lt b hb _)]

theorem zero_pow (n : Nat) (h : 0 < n) : pow 0 n = 0 := by
  cases n with
  | zero => omega
  | succ n => exact zero_mul _

theorem cancel (x y b : Nat) (hx : x < 256) (hy : y < 256) (hb : b < 256) (h : b ≠ 0) (e : mul x b = mul y b) : x = y := by
  have h1 : mul (mul x b) (inv b) = mul (mul y b) (inv b) := by rw [e]
  rwa [mul_assoc x b _ hx hb (inv_lt b hb), mul_assoc y b _ hy hb (inv_lt b hb), mul_inv b hb h, mul_one x hx, mul_one y hy] at h1

theorem square_xor (a b : Nat) (ha : a < 256) (hb : b < 256) : mul (a ^^^ b) (a ^^^ b) = mul a a ^^^ mul b b := by
  rw [mul_xor_left, mul_xor_right, mul_xor_right, mul_comm b a hb ha, Nat.xor_assoc, ← Nat.xor_assoc (mul a b), Nat.xor_self, Nat.zero_xor]

/-- the power of 2, as the program makes it -/
def ex (n : Nat) : Nat := mul (st (n / 15)) (pw (n % 15))

theorem pow2_check : ∀ n, n < 255 → ex n = pow 2 n := by decide +kernel

/-- the reference's remainder -/
def red (p : Nat) : Nat → Nat
  | 0 => p
  | k + 1 => red (p ^^^ ((0x11d <<< k) * ((p >>> (k + 8)) &&& 1))) k

theorem red_xor : ∀ k x y, red (x ^^^ y) k = red x k ^^^ red y k
  | 0, _, _ => rfl
  | k + 1, x, y => by
    simp only [red]; rw [mul_bit_xor, ← red_xor k, xor4]

theorem red_rm (x : Nat) (hx : x < 32768) : red x 7 % 256 = rm x 15 := by
  refine linear_ext (fun x => red x 7 % 256) (fun x => rm x 15) (fun x y => ?_) (fun x y => rm_xor x y 15) (by decide +kernel) 15 ?_ x hx
  · show red (x ^^^ y) 7 % 256 = (red x 7 % 256) ^^^ (red y 7 % 256)
    rw [red_xor]; exact Nat.xor_mod_two_pow (n := 8)
  · decide +kernel

theorem pow_sq (x : Nat) (hx : x < 256) (h : Nat) : pow (mul x x) h = pow x (2 * h) := by
  rw [pow_mul x hx 2 h]
  congr 1
  exact (congrArg (mul x) (mul_one x hx)).symm
theorem pow_odd (x y M : Nat) (hx : x < 256) (hy : y < 256) (h : M % 2 = 1) : mul (mul y x) (pow (mul x x) (M / 2)) = mul y (pow x M) := by
  rw [pow_sq x hx, mul_assoc y x _ hy hx (pow_lt x hx _)]
  have e : M = 2 * (M / 2) + 1 := by omega
  conv => rhs; rw [e]
  rfl
theorem pow_even (x y M : Nat) (hx : x < 256) (h : M % 2 = 0) : mul y (pow (mul x x) (M / 2)) = mul y (pow x M) := by
  rw [pow_sq x hx]
  have e : 2 * (M / 2) = M := by omega
  rw [e]
/-- a product of so many; 1, where there are none -/
def powI (a : Nat) (n : Int) : Nat := pow a n.toNat

/-- whatever x is found by a search, it is a times the inverse of b -/
theorem div_found (a b x : Nat) (_ha : a < 256) (hb : b < 256) (hx : x < 256) (h0 : b ≠ 0) (e : mul x b = a) : mul a (inv b) = x := by
  rw [← e, mul_assoc x b _ hx hb (inv_lt b hb), mul_inv b hb h0, mul_one x hx]
theorem div_back (a b : Nat) (ha : a < 256) (hb : b < 256) (h0 : b ≠ 0) : mul (mul a (inv b)) b = a := by
  rw [mul_assoc a _ b ha (inv_lt b hb) hb, mul_comm (inv b) b (inv_lt b hb) hb, mul_inv b hb h0, mul_one a ha]
theorem mul_div (a b : Nat) (ha : a < 256) (hb : b < 256) (h0 : b ≠ 0) : mul (mul a b) (inv b) = a := by
  rw [mul_assoc a b _ ha hb (inv_lt b hb), mul_inv b hb h0, mul_one a ha]
/-- each number but 0 is a power of 2 -/
theorem log_check : ∀ a, a < 256 → a = 0 ∨ ∃ n, n < 255 ∧ ex n = a := by
  have h : ∀ a, a < 256 → a = 0 ∨ (List.range 255).any (fun n => ex n == a) = true := by decide +kernel
  intro a ha
  rcases h a ha with e | e
  · exact Or.inl e
  · rw [List.any_eq_true] at e
    obtain ⟨n, hn, he⟩ := e
    exact Or.inr ⟨n, List.mem_range.1 hn, beq_iff_eq.1 he⟩
theorem ex_ne_zero : ∀ n, n < 255 → ex n ≠ 0 := by decide +kernel
theorem ex_lt (n : Nat) : ex n < 256 := mul_lt _ _
end Gf
