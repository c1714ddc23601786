/- Texts of this proof, joined: MfGf, MfXs, MfEl, MfCau. -/

/- The field of 256 numbers, over natural numbers: sums are xor, products are carry-less products with the remainder by 0x11d. No Go in sight. -/
namespace Gf

/-- 2 to the k-th, for k below 15. -/
def pw (k : Nat) : Nat := [1, 2, 4, 8, 16, 32, 64, 128, 29, 58, 116, 232, 205, 135, 19].getD k 0

def st (k : Nat) : Nat := [1, 38, 96, 193, 185, 15, 223, 26, 59, 169, 85, 145, 150, 100, 89, 36, 44].getD k 0

/-- the carry-less product with the first k bits of b -/
def cl (a b : Nat) : Nat → Nat
  | 0 => 0
  | k + 1 => cl a b k ^^^ ((a <<< k) * ((b >>> k) &&& 1))

/-- the remainder, of the first k bits -/
def rm (x : Nat) : Nat → Nat
  | 0 => 0
  | k + 1 => rm x k ^^^ (pw k * ((x >>> k) &&& 1))

def mul (a b : Nat) : Nat := rm (cl a b 8) 15

theorem bit01 (x k : Nat) : (x >>> k) &&& 1 = 0 ∨ (x >>> k) &&& 1 = 1 := by
  rw [Nat.and_one_is_mod]; omega

theorem bit_xor (x y k : Nat) : ((x ^^^ y) >>> k) &&& 1 = ((x >>> k) &&& 1) ^^^ ((y >>> k) &&& 1) := by
  rw [Nat.shiftRight_xor_distrib, Nat.and_xor_distrib_right]

theorem mul_bit_xor (c x y k : Nat) : c * (((x ^^^ y) >>> k) &&& 1) = c * ((x >>> k) &&& 1) ^^^ c * ((y >>> k) &&& 1) := by
  rw [bit_xor]
  rcases bit01 x k with h | h <;> rcases bit01 y k with h' | h' <;> simp [h, h']

theorem xor_mul_bit (c d x k : Nat) : (c ^^^ d) * ((x >>> k) &&& 1) = c * ((x >>> k) &&& 1) ^^^ d * ((x >>> k) &&& 1) := by
  rcases bit01 x k with h | h <;> simp [h]

theorem xor4 (a b c d : Nat) : (a ^^^ b) ^^^ (c ^^^ d) = (a ^^^ c) ^^^ (b ^^^ d) := by
  rw [Nat.xor_assoc, Nat.xor_assoc, ← Nat.xor_assoc b c d, Nat.xor_comm b c, Nat.xor_assoc c b d]

theorem cl_xor_right (a b c : Nat) : ∀ k, cl a (b ^^^ c) k = cl a b k ^^^ cl a c k
  | 0 => by simp [cl]
  | k + 1 => by
    simp only [cl]; rw [cl_xor_right a b c k, mul_bit_xor, xor4]

theorem cl_xor_left (a b c : Nat) : ∀ k, cl (a ^^^ b) c k = cl a c k ^^^ cl b c k
  | 0 => by simp [cl]
  | k + 1 => by
    simp only [cl]; rw [cl_xor_left a b c k, Nat.shiftLeft_xor_distrib, xor_mul_bit, xor4]

theorem rm_xor (x y : Nat) : ∀ k, rm (x ^^^ y) k = rm x k ^^^ rm y k
  | 0 => by simp [rm]
  | k + 1 => by
    simp only [rm]; rw [rm_xor x y k, mul_bit_xor, xor4]

theorem mul_xor_right (a b c : Nat) : mul a (b ^^^ c) = mul a b ^^^ mul a c := by
  unfold mul; rw [cl_xor_right, rm_xor]

theorem mul_xor_left (a b c : Nat) : mul (a ^^^ b) c = mul a c ^^^ mul b c := by
  unfold mul; rw [cl_xor_left, rm_xor]

theorem cl_zero_left (b : Nat) : ∀ k, cl 0 b k = 0
  | 0 => rfl
  | k + 1 => by simp [cl, cl_zero_left b k]
theorem cl_zero_right (a : Nat) : ∀ k, cl a 0 k = 0
  | 0 => rfl
  | k + 1 => by simp [cl, cl_zero_right a k]
theorem rm_zero : ∀ k, rm 0 k = 0
  | 0 => rfl
  | k + 1 => by simp [rm, rm_zero k]
theorem zero_mul (b : Nat) : mul 0 b = 0 := by unfold mul; rw [cl_zero_left]; rfl
theorem mul_zero (b : Nat) : mul b 0 = 0 := by unfold mul; rw [cl_zero_right]; rfl

theorem split_bit (x n : Nat) (h : x < 2 ^ (n + 1)) : ∃ y, y < 2 ^ n ∧ (x = y ∨ x = y ^^^ 2 ^ n) := by
  by_cases hx : x < 2 ^ n
  · exact ⟨x, hx, Or.inl rfl⟩
  · refine ⟨x - 2 ^ n, by rw [Nat.pow_succ] at h; omega, Or.inr ?_⟩
    have h1 : x - 2 ^ n < 2 ^ n := by rw [Nat.pow_succ] at h; omega
    have := Nat.two_pow_add_eq_or_of_lt h1 1
    have e : (2 ^ n * 1 ||| (x - 2 ^ n)) = (2 ^ n ^^^ (x - 2 ^ n)) := by
      apply Nat.eq_of_testBit_eq
      intro i
      simp [Nat.testBit_or, Nat.testBit_xor, Nat.testBit_two_pow]
      by_cases hi : n = i
      · subst hi
        simp [Nat.testBit_lt_two_pow h1]
      · simp [hi]
    rw [Nat.xor_comm, ← e, ← this]; omega

/-- two functions that are linear, and agree on powers of two, agree -/
theorem linear_ext (f g : Nat → Nat) (hf : ∀ x y, f (x ^^^ y) = f x ^^^ f y) (hg : ∀ x y, g (x ^^^ y) = g x ^^^ g y) (h0 : f 0 = g 0) :
    ∀ n, (∀ i, i < n → f (2 ^ i) = g (2 ^ i)) → ∀ x, x < 2 ^ n → f x = g x
  | 0, _, x, hx => by
    have : x = 0 := by simpa using hx
    rw [this, h0]
  | n + 1, h, x, hx => by
    obtain ⟨y, hy, e | e⟩ := split_bit x n hx
    · rw [e]; exact linear_ext f g hf hg h0 n (fun i hi => h i (by omega)) y hy
    · rw [e, hf, hg, linear_ext f g hf hg h0 n (fun i hi => h i (by omega)) y hy, h n (by omega)]

theorem mul_comm (a b : Nat) (ha : a < 256) (hb : b < 256) : mul a b = mul b a := by
  refine linear_ext (fun a => mul a b) (fun a => mul b a) (fun x y => mul_xor_left x y b) (fun x y => mul_xor_right b x y) (by simp [zero_mul, mul_zero]) 8 ?_ a ha
  intro i hi
  refine linear_ext (fun b => mul (2 ^ i) b) (fun b => mul b (2 ^ i)) (fun x y => mul_xor_right _ x y) (fun x y => mul_xor_left x y _) (by simp [zero_mul, mul_zero]) 8 ?_ b hb
  have h : ∀ i, i < 8 → ∀ j, j < 8 → mul (2 ^ i) (2 ^ j) = mul (2 ^ j) (2 ^ i) := by decide +kernel
  exact h i hi

theorem mul_one (a : Nat) (ha : a < 256) : mul a 1 = a := by
  have h : ∀ a, a < 256 → mul a 1 = a := by decide +kernel
  exact h a ha

theorem mul_lt (a b : Nat) : mul a b < 256 := by
  have h : ∀ k, k ≤ 15 → ∀ x, rm x k < 256 := by
    intro k
    induction k with
    | zero => intro _ x; simp [rm]
    | succ k ih =>
      intro hk x
      simp only [rm]
      have hp : ∀ k, k < 15 → pw k < 2 ^ 8 := by decide
      refine Nat.xor_lt_two_pow (n := 8) (ih (by omega) x) ?_
      rcases bit01 x k with e | e <;> simp [e]
      exact hp k (by omega)
  exact h 15 (by omega) _

theorem mul_assoc (a b c : Nat) (ha : a < 256) (hb : b < 256) (hc : c < 256) : mul (mul a b) c = mul a (mul b c) := by
  refine linear_ext (fun a => mul (mul a b) c) (fun a => mul a (mul b c)) (fun x y => by rw [mul_xor_left, mul_xor_left]) (fun x y => mul_xor_left x y _) (by simp [zero_mul]) 8 ?_ a ha
  intro i hi
  refine linear_ext (fun b => mul (mul (2 ^ i) b) c) (fun b => mul (2 ^ i) (mul b c)) (fun x y => by rw [mul_xor_right, mul_xor_left]) (fun x y => by rw [mul_xor_left, mul_xor_right]) (by simp [zero_mul, mul_zero]) 8 ?_ b hb
  intro j hj
  refine linear_ext (fun c => mul (mul (2 ^ i) (2 ^ j)) c) (fun c => mul (2 ^ i) (mul (2 ^ j) c)) (fun x y => by rw [mul_xor_right]) (fun x y => by rw [mul_xor_right, mul_xor_right]) (by simp [mul_zero]) 8 ?_ c hc
  intro k hk
  have h : ∀ i, i < 8 → ∀ j, j < 8 → ∀ k, k < 8 → mul (mul (2 ^ i) (2 ^ j)) (2 ^ k) = mul (2 ^ i) (mul (2 ^ j) (2 ^ k)) := by decide +kernel
  exact h i hi j hj k hk

/-- a product of n times a -/
def pow (a : Nat) : Nat → Nat
  | 0 => 1
  | n + 1 => mul a (pow a n)

theorem pow_lt (a : Nat) (_ha : a < 256) : ∀ n, pow a n < 256
  | 0 => by simp [pow]
  | _ + 1 => mul_lt _ _

theorem one_mul (a : Nat) (ha : a < 256) : mul 1 a = a := by
  rw [mul_comm 1 a (by omega) ha, mul_one a ha]

theorem pow_add (a : Nat) (ha : a < 256) (m : Nat) : ∀ n, pow a (n + m) = mul (pow a n) (pow a m)
  | 0 => by rw [Nat.zero_add, pow, one_mul _ (pow_lt a ha m)]
  | n + 1 => by
    rw [show n + 1 + m = (n + m) + 1 from by omega, pow, pow, pow_add a ha m n, mul_assoc _ _ _ ha (pow_lt a ha n) (pow_lt a ha m)]

theorem pow_mul (a : Nat) (ha : a < 256) (m : Nat) : ∀ n, pow a (m * n) = pow (pow a m) n
  | 0 => rfl
  | n + 1 => by
    rw [Nat.mul_succ, pow_add a ha, pow_mul a ha m n, pow, mul_comm _ _ (pow_lt _ (pow_lt a ha m) n) (pow_lt a ha m)]

theorem one_pow : ∀ n, pow 1 n = 1
  | 0 => rfl
  | n + 1 => by rw [pow, one_pow n]; exact mul_one 1 (by omega)

/-- b to the 255th, by squares (quick to reckon) -/
def p254 (b : Nat) : Nat :=
  let b2 := mul b b; let b4 := mul b2 b2; let b8 := mul b4 b4; let b16 := mul b8 b8
  let b32 := mul b16 b16; let b64 := mul b32 b32; let b128 := mul b64 b64
  mul b2 (mul b4 (mul b8 (mul b16 (mul b32 (mul b64 b128)))))

theorem pow_one (a : Nat) (ha : a < 256) : pow a 1 = a := mul_one a ha
theorem pow_dbl (a : Nat) (ha : a < 256) (n : Nat) : pow a (n + n) = mul (pow a n) (pow a n) := pow_add a ha n n

theorem p254_eq (b : Nat) (hb : b < 256) : pow b 254 = p254 b := by
  have e2 : mul b b = pow b 2 := by rw [pow_dbl b hb 1, pow_one b hb]
  have e4 : mul (pow b 2) (pow b 2) = pow b 4 := (pow_dbl b hb 2).symm
  have e8 : mul (pow b 4) (pow b 4) = pow b 8 := (pow_dbl b hb 4).symm
  have e16 : mul (pow b 8) (pow b 8) = pow b 16 := (pow_dbl b hb 8).symm
  have e32 : mul (pow b 16) (pow b 16) = pow b 32 := (pow_dbl b hb 16).symm
  have e64 : mul (pow b 32) (pow b 32) = pow b 64 := (pow_dbl b hb 32).symm
  have e128 : mul (pow b 64) (pow b 64) = pow b 128 := (pow_dbl b hb 64).symm
  unfold p254
  simp only [e2, e4, e8, e16, e32, e64, e128]
  rw [← pow_add b hb, ← pow_add b hb, ← pow_add b hb, ← pow_add b hb, ← pow_add b hb, ← pow_add b hb]

theorem inv_check : ∀ b, b < 256 → b = 0 ∨ mul b (p254 b) = 1 := by decide +kernel

def inv (b : Nat) : Nat := pow b 254
theorem inv_lt (b : Nat) (hb : b < 256) : inv b < 256 := pow_lt b hb _
theorem mul_inv (b : Nat) (hb : b < 256) (h : b ≠ 0) : mul b (inv b) = 1 := by
  rcases inv_check b hb with e | e
  · exact absurd e h
  · unfold inv; rw [p254_eq b hb, e]

theorem pow_255 (b : Nat) (hb : b < 256) (h : b ≠ 0) : pow b 255 = 1 := mul_inv b hb h

theorem pow_mod (b : Nat) (hb : b < 256) (h : b ≠ 0) (n : Nat) : pow b n = pow b (n % 255) := by
  have e : n = n % 255 + 255 * (n / 255) := by omega
  have := pow_add b hb (255 * (n / 255)) (n % 255)
  rw [← e] at this
  rw [this, pow_mul b hb, pow_255 b hb h, one_pow, mul_one _ (pow_lt b hb _)]

theorem zero_pow (n : Nat) (h : 0 < n) : pow 0 n = 0 := by
  cases n with
  | zero => omega
  | succ n => exact zero_mul _

theorem cancel (x y b : Nat) (hx : x < 256) (hy : y < 256) (hb : b < 256) (h : b ≠ 0) (e : mul x b = mul y b) : x = y := by
  have h1 : mul (mul x b) (inv b) = mul (mul y b) (inv b) := by rw [e]
  rwa [mul_assoc x b _ hx hb (inv_lt b hb), mul_assoc y b _ hy hb (inv_lt b hb), mul_inv b hb h, mul_one x hx, mul_one y hy] at h1

theorem square_xor (a b : Nat) (ha : a < 256) (hb : b < 256) : mul (a ^^^ b) (a ^^^ b) = mul a a ^^^ mul b b := by
  rw [mul_xor_left, mul_xor_right, mul_xor_right, mul_comm b a hb ha, Nat.xor_assoc, ← Nat.xor_assoc (mul a b), Nat.xor_self, Nat.zero_xor]

/-- the power of 2, as the program makes it -/
def ex (n : Nat) : Nat := mul (st (n / 15)) (pw (n % 15))

theorem pow2_check : ∀ n, n < 255 → ex n = pow 2 n := by decide +kernel

/-- the reference's remainder -/
def red (p : Nat) : Nat → Nat
  | 0 => p
  | k + 1 => red (p ^^^ ((0x11d <<< k) * ((p >>> (k + 8)) &&& 1))) k

theorem red_xor : ∀ k x y, red (x ^^^ y) k = red x k ^^^ red y k
  | 0, _, _ => rfl
  | k + 1, x, y => by
    simp only [red]; rw [mul_bit_xor, ← red_xor k, xor4]

theorem red_rm (x : Nat) (hx : x < 32768) : red x 7 % 256 = rm x 15 := by
  refine linear_ext (fun x => red x 7 % 256) (fun x => rm x 15) (fun x y => ?_) (fun x y => rm_xor x y 15) (by decide +kernel) 15 ?_ x hx
  · show red (x ^^^ y) 7 % 256 = (red x 7 % 256) ^^^ (red y 7 % 256)
    rw [red_xor]; exact Nat.xor_mod_two_pow (n := 8)
  · decide +kernel

theorem pow_sq (x : Nat) (hx : x < 256) (h : Nat) : pow (mul x x) h = pow x (2 * h) := by
  rw [pow_mul x hx 2 h]
  congr 1
  exact (congrArg (mul x) (mul_one x hx)).symm
theorem pow_odd (x y M : Nat) (hx : x < 256) (hy : y < 256) (h : M % 2 = 1) : mul (mul y x) (pow (mul x x) (M / 2)) = mul y (pow x M) := by
  rw [pow_sq x hx, mul_assoc y x _ hy hx (pow_lt x hx _)]
  have e : M = 2 * (M / 2) + 1 := by omega
  conv => rhs; rw [e]
  rfl
theorem pow_even (x y M : Nat) (hx : x < 256) (h : M % 2 = 0) : mul y (pow (mul x x) (M / 2)) = mul y (pow x M) := by
  rw [pow_sq x hx]
  have e : 2 * (M / 2) = M := by omega
  rw [e]
/-- a product of so many; 1, where there are none -/
def powI (a : Nat) (n : Int) : Nat := pow a n.toNat

/-- whatever x is found by a search, it is a times the inverse of b -/
theorem div_found (a b x : Nat) (_ha : a < 256) (hb : b < 256) (hx : x < 256) (h0 : b ≠ 0) (e : mul x b = a) : mul a (inv b) = x := by
  rw [← e, mul_assoc x b _ hx hb (inv_lt b hb), mul_inv b hb h0, mul_one x hx]
theorem div_back (a b : Nat) (ha : a < 256) (hb : b < 256) (h0 : b ≠ 0) : mul (mul a (inv b)) b = a := by
  rw [mul_assoc a _ b ha (inv_lt b hb) hb, mul_comm (inv b) b (inv_lt b hb) hb, mul_inv b hb h0, mul_one a ha]
theorem mul_div (a b : Nat) (ha : a < 256) (hb : b < 256) (h0 : b ≠ 0) : mul (mul a b) (inv b) = a := by
  rw [mul_assoc a b _ ha hb (inv_lt b hb), mul_inv b hb h0, mul_one a ha]
/-- each number but 0 is a power of 2 -/
theorem log_check : ∀ a, a < 256 → a = 0 ∨ ∃ n, n < 255 ∧ ex n = a := by
  have h : ∀ a, a < 256 → a = 0 ∨ (List.range 255).any (fun n => ex n == a) = true := by decide +kernel
  intro a ha
  rcases h a ha with e | e
  · exact Or.inl e
  · rw [List.any_eq_true] at e
    obtain ⟨n, hn, he⟩ := e
    exact Or.inr ⟨n, List.mem_range.1 hn, beq_iff_eq.1 he⟩
theorem ex_ne_zero : ∀ n, n < 255 → ex n ≠ 0 := by decide +kernel
theorem ex_lt (n : Nat) : ex n < 256 := mul_lt _ _
end Gf

/- Sums and products of matrices over the field of Gf. No Go in sight. -/
namespace Go.Proofs.YtmncocmeafcpfaaDoor.Mf

theorem xor8 {a b : Nat} (ha : a < 256) (hb : b < 256) : a ^^^ b < 256 := Nat.xor_lt_two_pow (n := 8) ha hb
/-- the sum of the first n -/
def xsum (f : Nat → Nat) : Nat → Nat
  | 0 => 0
  | n + 1 => xsum f n ^^^ f n
theorem xsum_lt {f : Nat → Nat} (hf : ∀ j, f j < 256) : ∀ n, xsum f n < 256
  | 0 => by simp [xsum]
  | n + 1 => xor8 (xsum_lt hf n) (hf n)
theorem xsum_congr {f g : Nat → Nat} : ∀ {n : Nat}, (∀ j, j < n → f j = g j) → xsum f n = xsum g n
  | 0, _ => rfl
  | n + 1, h => by simp only [xsum]; rw [xsum_congr (fun j hj => h j (by omega)), h n (by omega)]
theorem xsum_zero : ∀ n, xsum (fun _ => 0) n = 0
  | 0 => rfl
  | n + 1 => by simp only [xsum]; rw [xsum_zero n, Nat.xor_zero]
theorem xsum_xor (f g : Nat → Nat) : ∀ n, xsum (fun j => f j ^^^ g j) n = xsum f n ^^^ xsum g n
  | 0 => by simp [xsum]
  | n + 1 => by simp only [xsum]; rw [xsum_xor f g n, Gf.xor4]
theorem mul_xsum (c : Nat) (f : Nat → Nat) : ∀ n, Gf.mul c (xsum f n) = xsum (fun j => Gf.mul c (f j)) n
  | 0 => Gf.mul_zero c
  | n + 1 => by simp only [xsum]; rw [Gf.mul_xor_right, mul_xsum c f n]
theorem xsum_mul (c : Nat) (f : Nat → Nat) : ∀ n, Gf.mul (xsum f n) c = xsum (fun j => Gf.mul (f j) c) n
  | 0 => Gf.zero_mul c
  | n + 1 => by simp only [xsum]; rw [Gf.mul_xor_left, xsum_mul c f n]
theorem xsum_swap (f : Nat → Nat → Nat) (m : Nat) : ∀ n, xsum (fun i => xsum (fun j => f i j) m) n = xsum (fun j => xsum (fun i => f i j) n) m
  | 0 => by simp only [xsum]; rw [xsum_zero]
  | n + 1 => by simp only [xsum]; rw [xsum_swap f m n, ← xsum_xor]
theorem xsum_single {f : Nat → Nat} {i : Nat} (h : ∀ j, j ≠ i → f j = 0) : ∀ {n : Nat}, i < n → xsum f n = f i
  | 0, hn => by omega
  | n + 1, hn => by
    simp only [xsum]
    by_cases e : i = n
    · subst e
      rw [xsum_congr (g := fun _ => 0) (fun j hj => h j (by omega)), xsum_zero, Nat.zero_xor]
    · rw [xsum_single h (by omega), h n (by omega), Nat.xor_zero]

/-- the product's entry, of the first j terms -/
def prodTo (a b : Nat → Nat → Nat) (j i k : Nat) : Nat := xsum (fun x => Gf.mul (b x k) (a i x)) j
theorem prodTo_lt (a b : Nat → Nat → Nat) (j i k : Nat) : prodTo a b j i k < 256 := xsum_lt (fun _ => Gf.mul_lt _ _) j
theorem prodTo_congr {a a' b b' : Nat → Nat → Nat} {j i k : Nat} (ha : ∀ x, x < j → a i x = a' i x) (hb : ∀ x, x < j → b x k = b' x k) : prodTo a b j i k = prodTo a' b' j i k :=
  xsum_congr (fun x hx => by rw [ha x hx, hb x hx])
/-- products do not hang on the brackets -/
theorem prod_assoc (a b c : Nat → Nat → Nat) (ha : ∀ i j, a i j < 256) (hb : ∀ i j, b i j < 256) (hc : ∀ i j, c i j < 256) (m p i k : Nat) :
    prodTo (fun i k => prodTo a b m i k) c p i k = prodTo a (fun i k => prodTo b c p i k) m i k := by
  unfold prodTo
  rw [xsum_congr (g := fun x => xsum (fun y => Gf.mul (c x k) (Gf.mul (b y x) (a i y))) m) (fun x _ => mul_xsum _ _ _),
    xsum_congr (n := m) (g := fun y => xsum (fun x => Gf.mul (Gf.mul (c x k) (b y x)) (a i y)) p) (fun y _ => xsum_mul _ _ _),
    xsum_swap]
  exact xsum_congr (fun y _ => xsum_congr (fun x _ => (Gf.mul_assoc _ _ _ (hc _ _) (hb _ _) (ha _ _)).symm))

/-- ones on the diagonal, of the first k rows -/
def ones (k : Nat) : Nat → Nat → Nat := fun i j => if i < k ∧ i = j then 1 else 0
theorem ones_zero : ones 0 = fun _ _ => 0 := by funext i j; unfold ones; rw [if_neg (by omega)]
theorem ones_lt (k i j : Nat) : ones k i j < 256 := by unfold ones; split <;> omega
theorem ones_succ_here (k j : Nat) : ones (k + 1) k j = if j = k then 1 else ones k k j := by
  unfold ones
  by_cases e : j = k
  · subst e; simp
  · rw [if_neg e, if_neg (by omega), if_neg (by omega)]
theorem ones_succ_other (k i j : Nat) (h : i ≠ k) : ones (k + 1) i j = ones k i j := by
  unfold ones
  by_cases e : i < k ∧ i = j
  · rw [if_pos e, if_pos (by omega)]
  · rw [if_neg e, if_neg (by omega)]
theorem ones_ne (k i j : Nat) (h : j ≠ i) : ones k i j = 0 := if_neg (by omega)
theorem ones_self (k i : Nat) (h : i < k) : ones k i i = 1 := if_pos ⟨h, rfl⟩
/-- ones, times a matrix -/
theorem ones_prod (b : Nat → Nat → Nat) (hb : ∀ i j, b i j < 256) (n i k : Nat) (hi : i < n) : prodTo (ones n) b n i k = b i k := by
  unfold prodTo
  rw [xsum_single (i := i) (fun j hj => by rw [ones_ne n i j hj, Gf.mul_zero]) hi, ones_self n i hi, Gf.mul_one _ (hb _ _)]
/-- a matrix, times ones -/
theorem prod_ones (a : Nat → Nat → Nat) (ha : ∀ i j, a i j < 256) (n i k : Nat) (hk : k < n) : prodTo a (ones n) n i k = a i k := by
  unfold prodTo
  rw [xsum_single (i := k) (fun j hj => by rw [ones_ne n j k (fun e => hj e.symm), Gf.zero_mul]) hk, ones_self n k hk, Gf.one_mul _ (ha _ _)]
end Go.Proofs.YtmncocmeafcpfaaDoor.Mf

/- Elimination over the field of Gf: what its steps keep, what it finds, and when it fails. No Go in sight. -/
namespace Go.Proofs.YtmncocmeafcpfaaDoor.Mf

theorem xor_cancel (a b : Nat) : a ^^^ b ^^^ b = a := by rw [Nat.xor_assoc, Nat.xor_self, Nat.xor_zero]
theorem xsum_update (f : Nat → Nat) (i a : Nat) : ∀ n, i < n → xsum (fun x => if x = i then a else f x) n = xsum f n ^^^ f i ^^^ a
  | 0, h => by omega
  | n + 1, h => by
    simp only [xsum]
    by_cases e : i = n
    · subst e
      rw [if_pos rfl, xsum_congr (g := f) (fun j hj => if_neg (by omega)), xor_cancel]
    · rw [xsum_update f i a n (by omega), if_neg (by omega)]
      rw [Nat.xor_assoc (xsum f n), Nat.xor_assoc (xsum f n), Nat.xor_assoc (xsum f n), Nat.xor_assoc (xsum f n)]
      congr 1
      rw [Nat.xor_comm (f i ^^^ a) (f n), Nat.xor_assoc]
/-- a sum does not hang on which of two places its terms stand at -/
theorem xsum_transpose (f : Nat → Nat) (i j n : Nat) (hi : i < n) (hj : j < n) : xsum (fun x => if x = i then f j else if x = j then f i else f x) n = xsum f n := by
  by_cases e : i = j
  · subst e
    exact xsum_congr (fun x _ => by split <;> simp_all)
  · have h1 := xsum_update (fun x => if x = j then f i else f x) i (f j) n hi
    have h2 := xsum_update f j (f i) n hj
    rw [h1, if_neg e, h2, xor_cancel, xor_cancel]

/-- a matrix, with ones beside it -/
def wide (A : Nat → Nat → Nat) (n : Nat) : Nat → Nat → Nat := fun r c => if c < n then A r c else if c = n + r then 1 else 0
theorem wide_lt {A : Nat → Nat → Nat} (hA : ∀ i j, A i j < 256) (n r c : Nat) : wide A n r c < 256 := by
  unfold wide; split
  · exact hA r c
  · split <;> omega

/-- row j is brought to place i, and begins with a one there -/
def brought (W : Nat → Nat → Nat) (i j : Nat) : Nat → Nat → Nat := fun r c => if r = i then Gf.mul (W j c) (Gf.inv (W j i)) else if r = j then W i c else W r c
/-- column i has noughts, but in row i -/
def cleared (W : Nat → Nat → Nat) (i : Nat) : Nat → Nat → Nat := fun r c => if r = i then W i c else if i ≤ c then W r c ^^^ Gf.mul (W i c) (W r i) else W r c
def Piv (W : Nat → Nat → Nat) (n i j : Nat) : Prop := i ≤ j ∧ j < n ∧ W j i ≠ 0 ∧ ∀ j', i ≤ j' → j' < j → W j' i = 0
def NoPiv (W : Nat → Nat → Nat) (n i : Nat) : Prop := ∀ j, i ≤ j → j < n → W j i = 0
theorem Piv.unique {W : Nat → Nat → Nat} {n i j k : Nat} (a : Piv W n i j) (b : Piv W n i k) : j = k := by
  by_cases h : j < k
  · exact absurd (b.2.2.2 j a.1 h) a.2.2.1
  · by_cases h' : k < j
    · exact absurd (a.2.2.2 k b.1 h') b.2.2.1
    · omega
theorem brought_lt {W : Nat → Nat → Nat} (h : ∀ r c, W r c < 256) (i j r c : Nat) : brought W i j r c < 256 := by
  unfold brought; split
  · exact Gf.mul_lt _ _
  · split
    · exact h _ _
    · exact h _ _
theorem cleared_lt {W : Nat → Nat → Nat} (h : ∀ r c, W r c < 256) (i r c : Nat) : cleared W i r c < 256 := by
  unfold cleared; split
  · exact h _ _
  · split
    · exact xor8 (h _ _) (Gf.mul_lt _ _)
    · exact h _ _

/-- what stands in the wide rows when i columns are done -/
inductive El (A : Nat → Nat → Nat) (n : Nat) : Nat → (Nat → Nat → Nat) → Prop
  | start : El A n 0 (wide A n)
  | step {i j : Nat} {W : Nat → Nat → Nat} : El A n i W → i < n → Piv W n i j → El A n (i + 1) (cleared (brought W i j) i)

theorem El.unique {A : Nat → Nat → Nat} {n : Nat} : ∀ {i : Nat} {W V : Nat → Nat → Nat}, El A n i W → El A n i V → W = V
  | 0, _, _, .start, .start => rfl
  | _ + 1, _, _, .step a _ p, .step b _ q => by
    obtain rfl := El.unique a b
    rw [p.unique q]

/-- what each step keeps -/
structure Keeps (A : Nat → Nat → Nat) (n i : Nat) (W : Nat → Nat → Nat) : Prop where
  abyte : ∀ r c, A r c < 256
  byte : ∀ r c, W r c < 256
  unit : ∀ r c, r < n → c < i → W r c = if r = c then 1 else 0
  back : ∃ F : Nat → Nat → Nat, (∀ r c, F r c < 256) ∧ ∀ r c, r < n → c < 2 * n → prodTo F W n r c = wide A n r c
  forth : ∃ G : Nat → Nat → Nat, (∀ r c, G r c < 256) ∧ ∀ r c, r < n → c < 2 * n → prodTo G (wide A n) n r c = W r c

theorem keeps_start {A : Nat → Nat → Nat} (hA : ∀ i j, A i j < 256) (n : Nat) : Keeps A n 0 (wide A n) :=
  ⟨hA, wide_lt hA n, fun r c _ h => by omega, ⟨ones n, ones_lt n, fun r c hr _ => ones_prod _ (wide_lt hA n) n r c hr⟩, ⟨ones n, ones_lt n, fun r c hr _ => ones_prod _ (wide_lt hA n) n r c hr⟩⟩

theorem mul_inv_mul (a s f : Nat) (ha : a < 256) (hs : s < 256) (hf : f < 256) (h : s ≠ 0) : Gf.mul (Gf.mul a (Gf.inv s)) (Gf.mul f s) = Gf.mul a f := by
  have hi := Gf.inv_lt s hs
  rw [Gf.mul_assoc a (Gf.inv s) _ ha hi (Gf.mul_lt _ _), Gf.mul_comm f s hf hs, ← Gf.mul_assoc (Gf.inv s) s f hi hs hf, Gf.mul_comm (Gf.inv s) s hi hs, Gf.mul_inv s hs h, Gf.one_mul f hf]

theorem keeps_brought {A : Nat → Nat → Nat} {n i j : Nat} {W : Nat → Nat → Nat} (h : Keeps A n i W) (hi : i < n) (p : Piv W n i j) : Keeps A n i (brought W i j) ∧ (∀ c, c < i → brought W i j i c = 0) ∧ brought W i j i i = 1 := by
  obtain ⟨p1, p2, p3, _⟩ := p
  have hs := h.byte j i
  refine ⟨⟨h.abyte, brought_lt h.byte i j, fun r c hr hc => ?_, ?_, ?_⟩, fun c hc => ?_, ?_⟩
  · unfold brought
    by_cases e1 : r = i
    · rw [if_pos e1, h.unit j c p2 hc, if_neg (by omega), Gf.zero_mul, if_neg (by omega)]
    · rw [if_neg e1]
      by_cases e2 : r = j
      · rw [if_pos e2, h.unit i c hi hc, if_neg (by omega), if_neg (by omega)]
      · rw [if_neg e2]; exact h.unit r c hr hc
  · obtain ⟨F, hF, hFW⟩ := h.back
    refine ⟨fun r x => if x = i then Gf.mul (F r j) (W j i) else if x = j then F r i else F r x, fun r x => ?_, fun r c hr hc => ?_⟩
    · dsimp only
      split
      · exact Gf.mul_lt _ _
      · split
        · exact hF _ _
        · exact hF _ _
    · rw [← hFW r c hr hc]
      unfold prodTo
      rw [← xsum_transpose (fun x => Gf.mul (W x c) (F r x)) i j n hi p2]
      refine xsum_congr (fun x _ => ?_)
      dsimp only [brought]
      by_cases e1 : x = i
      · rw [if_pos e1, if_pos e1, if_pos e1]
        exact mul_inv_mul _ _ _ (h.byte _ _) hs (hF _ _) p3
      · rw [if_neg e1, if_neg e1, if_neg e1]
        by_cases e2 : x = j
        · rw [if_pos e2, if_pos e2, if_pos e2]
        · rw [if_neg e2, if_neg e2, if_neg e2]
  · obtain ⟨G, hG, hGW⟩ := h.forth
    refine ⟨fun r x => if r = i then Gf.mul (G j x) (Gf.inv (W j i)) else if r = j then G i x else G r x, fun r x => ?_, fun r c hr hc => ?_⟩
    · dsimp only
      split
      · exact Gf.mul_lt _ _
      · split
        · exact hG _ _
        · exact hG _ _
    · dsimp only [brought]
      by_cases e1 : r = i
      · rw [if_pos e1, ← hGW j c p2 hc]
        unfold prodTo
        rw [xsum_mul]
        refine xsum_congr (fun x _ => ?_)
        dsimp only
        rw [if_pos e1]
        exact (Gf.mul_assoc _ _ _ (wide_lt h.abyte n x c) (hG _ _) (Gf.inv_lt _ hs)).symm
      · rw [if_neg e1]
        by_cases e2 : r = j
        · rw [if_pos e2, ← hGW i c hi hc]
          exact xsum_congr (fun x _ => by dsimp only; rw [if_neg e1, if_pos e2])
        · rw [if_neg e2, ← hGW r c hr hc]
          exact xsum_congr (fun x _ => by dsimp only; rw [if_neg e1, if_neg e2])
  · unfold brought
    rw [if_pos rfl, h.unit j c p2 hc, if_neg (by omega), Gf.zero_mul]
  · unfold brought
    rw [if_pos rfl]
    exact Gf.mul_inv _ hs p3

theorem cleared_all {W : Nat → Nat → Nat} {i : Nat} (h0 : ∀ c, c < i → W i c = 0) (r c : Nat) : cleared W i r c = if r = i then W i c else W r c ^^^ Gf.mul (W i c) (W r i) := by
  unfold cleared
  by_cases e : r = i
  · rw [if_pos e, if_pos e]
  · rw [if_neg e, if_neg e]
    by_cases h : i ≤ c
    · rw [if_pos h]
    · rw [if_neg h, h0 c (by omega), Gf.zero_mul, Nat.xor_zero]

theorem keeps_cleared {A : Nat → Nat → Nat} {n i : Nat} {W : Nat → Nat → Nat} (h : Keeps A n i W) (hi : i < n) (h0 : ∀ c, c < i → W i c = 0) (h1 : W i i = 1) : Keeps A n (i + 1) (cleared W i) := by
  refine ⟨h.abyte, cleared_lt h.byte i, fun r c hr hc => ?_, ?_, ?_⟩
  · rw [cleared_all h0]
    by_cases e : r = i
    · rw [if_pos e]
      by_cases hc' : c = i
      · subst hc'; rw [h1, if_pos e]
      · rw [h0 c (by omega), if_neg (by omega)]
    · rw [if_neg e]
      by_cases hc' : c = i
      · subst hc'
        rw [h1, Gf.one_mul _ (h.byte _ _), Nat.xor_self, if_neg e]
      · rw [h0 c (by omega), Gf.zero_mul, Nat.xor_zero, h.unit r c hr (by omega)]
  · obtain ⟨F, hF, hFW⟩ := h.back
    refine ⟨fun r x => if x = i then F r i ^^^ (xsum (fun y => if y = i then 0 else Gf.mul (W y i) (F r y)) n) else F r x, fun r x => ?_, fun r c hr hc => ?_⟩
    · dsimp only
      split
      · exact xor8 (hF _ _) (xsum_lt (fun y => by split; · omega
                                                  · exact Gf.mul_lt _ _) n)
      · exact hF _ _
    · rw [← hFW r c hr hc]
      unfold prodTo
      have e1 : xsum (fun x => Gf.mul (cleared W i x c) (if x = i then F r i ^^^ (xsum (fun y => if y = i then 0 else Gf.mul (W y i) (F r y)) n) else F r x)) n
          = xsum (fun x => Gf.mul (W x c) (F r x) ^^^ (if x = i then Gf.mul (W i c) (xsum (fun y => if y = i then 0 else Gf.mul (W y i) (F r y)) n) else Gf.mul (W i c) (Gf.mul (W x i) (F r x)))) n := by
        refine xsum_congr (fun x _ => ?_)
        rw [cleared_all h0]
        by_cases e : x = i
        · subst e
          rw [if_pos rfl, if_pos rfl, if_pos rfl, Gf.mul_xor_right]
        · rw [if_neg e, if_neg e, if_neg e, Gf.mul_xor_left, Gf.mul_assoc _ _ _ (h.byte _ _) (h.byte _ _) (hF _ _)]
      rw [e1, xsum_xor]
      have e2 : xsum (fun x => if x = i then Gf.mul (W i c) (xsum (fun y => if y = i then 0 else Gf.mul (W y i) (F r y)) n) else Gf.mul (W i c) (Gf.mul (W x i) (F r x))) n = 0 := by
        rw [mul_xsum, xsum_update (fun x => Gf.mul (W i c) (Gf.mul (W x i) (F r x))) i _ n hi]
        have e3 : xsum (fun x => Gf.mul (W i c) (if x = i then 0 else Gf.mul (W x i) (F r x))) n = xsum (fun x => if x = i then 0 else Gf.mul (W i c) (Gf.mul (W x i) (F r x))) n :=
          xsum_congr (fun x _ => by split; · exact Gf.mul_zero _
                                    · rfl)
        rw [e3, xsum_update (fun x => Gf.mul (W i c) (Gf.mul (W x i) (F r x))) i 0 n hi, Nat.xor_zero, Nat.xor_self]
      rw [e2, Nat.xor_zero]
  · obtain ⟨G, hG, hGW⟩ := h.forth
    refine ⟨fun r x => if r = i then G i x else G r x ^^^ Gf.mul (G i x) (W r i), fun r x => ?_, fun r c hr hc => ?_⟩
    · dsimp only
      split
      · exact hG _ _
      · exact xor8 (hG _ _) (Gf.mul_lt _ _)
    · rw [cleared_all h0]
      by_cases e : r = i
      · rw [if_pos e, ← hGW i c hi hc]
        exact xsum_congr (fun x _ => by dsimp only; rw [if_pos e])
      · rw [if_neg e, ← hGW r c hr hc, ← hGW i c hi hc]
        unfold prodTo
        rw [xsum_mul, ← xsum_xor]
        refine xsum_congr (fun x _ => ?_)
        dsimp only
        rw [if_neg e, Gf.mul_xor_right, Gf.mul_assoc _ _ _ (wide_lt h.abyte n x c) (hG _ _) (h.byte _ _)]

theorem El.keeps {A : Nat → Nat → Nat} {n : Nat} (hA : ∀ i j, A i j < 256) {i : Nat} {W : Nat → Nat → Nat} (h : El A n i W) : Keeps A n i W := by
  induction h with
  | start => exact keeps_start hA n
  | step _ hi p ih =>
    obtain ⟨k, h0, h1⟩ := keeps_brought ih hi p
    exact keeps_cleared k hi h0 h1

/-- the right half -/
def right (W : Nat → Nat → Nat) (n : Nat) : Nat → Nat → Nat := fun r c => W r (n + c)
theorem wide_left (A : Nat → Nat → Nat) {n c : Nat} (r : Nat) (h : c < n) : wide A n r c = A r c := if_pos h
theorem wide_right (A : Nat → Nat → Nat) (n : Nat) {r : Nat} (c : Nat) (hr : r < n) : wide A n r (n + c) = ones n r c := by
  unfold wide ones
  rw [if_neg (by omega)]
  by_cases e : c = r
  · rw [if_pos (by omega), if_pos ⟨hr, e.symm⟩]
  · rw [if_neg (by omega), if_neg (by omega)]

/-- where all columns are done, the right half is an inverse from both sides -/
theorem El.inverse {A : Nat → Nat → Nat} {n : Nat} (hA : ∀ i j, A i j < 256) {W : Nat → Nat → Nat} (h : El A n n W) :
    (∀ r c, r < n → c < n → prodTo A (right W n) n r c = ones n r c) ∧ (∀ r c, r < n → c < n → prodTo (right W n) A n r c = ones n r c) := by
  have k := h.keeps hA
  obtain ⟨F, hF, hFW⟩ := k.back
  obtain ⟨G, hG, hGW⟩ := k.forth
  have hFA : ∀ r c, r < n → c < n → F r c = A r c := fun r c hr hc => by
    have := hFW r c hr (by omega)
    rw [wide_left A r hc] at this
    rw [← this]
    unfold prodTo
    rw [xsum_congr (g := fun x => Gf.mul (ones n x c) (F r x)) (fun x hx => by rw [k.unit x c hx hc]; unfold ones; by_cases e : x = c <;> simp [e, hx, hc])]
    exact (prod_ones F hF n r c hc).symm
  have hGE : ∀ r c, r < n → c < n → G r c = right W n r c := fun r c hr hc => by
    have := hGW r (n + c) hr (by omega)
    unfold right
    rw [← this]
    unfold prodTo
    rw [xsum_congr (g := fun x => Gf.mul (ones n x c) (G r x)) (fun x hx => by rw [wide_right A n c hx])]
    exact (prod_ones G hG n r c hc).symm
  refine ⟨fun r c hr hc => ?_, fun r c hr hc => ?_⟩
  · have := hFW r (n + c) hr (by omega)
    rw [wide_right A n c hr] at this
    rw [← this]
    unfold prodTo right
    exact xsum_congr (fun x hx => by rw [hFA r x hr hx])
  · have := hGW r c hr (by omega)
    rw [k.unit r c hr hc] at this
    rw [← prodTo_congr (a := G) (b := wide A n) (fun x hx => hGE r x hr hx) (fun x _ => wide_left A x hc), this]
    unfold ones
    by_cases e : r = c <;> simp [e, hc]

/-- the vector that is turned into noughts -/
def kv (W : Nat → Nat → Nat) (i : Nat) : Nat → Nat := fun c => if c = i then 1 else if c < i then W c i else 0
theorem kv_lt {W : Nat → Nat → Nat} (h : ∀ r c, W r c < 256) (i c : Nat) : kv W i c < 256 := by
  unfold kv; split
  · omega
  · split
    · exact h _ _
    · omega
theorem kv_self (W : Nat → Nat → Nat) (i : Nat) : kv W i i = 1 := if_pos rfl
theorem kv_low (W : Nat → Nat → Nat) {i c : Nat} (h : c < i) : kv W i c = W c i := by unfold kv; rw [if_neg (by omega), if_pos h]
theorem kv_high (W : Nat → Nat → Nat) {i c : Nat} (h : i < c) : kv W i c = 0 := by unfold kv; rw [if_neg (by omega), if_neg (by omega)]
theorem kv_rows {A : Nat → Nat → Nat} {n i : Nat} {W : Nat → Nat → Nat} (k : Keeps A n i W) (hi : i < n) (hn : NoPiv W n i) (x : Nat) (hx : x < n) : xsum (fun c => Gf.mul (kv W i c) (W x c)) n = 0 := by
  by_cases hxi : x < i
  · have e : ∀ c, c < n → Gf.mul (kv W i c) (W x c) = if c = i then W x i else if c = x then W x i else 0 := fun c hc => by
      by_cases e1 : c = i
      · rw [if_pos e1, e1, kv_self, Gf.one_mul _ (k.byte _ _)]
      · rw [if_neg e1]
        by_cases e2 : c < i
        · rw [kv_low W e2, k.unit x c hx e2]
          by_cases e3 : c = x
          · rw [if_pos e3.symm, if_pos e3, Gf.mul_one _ (k.byte _ _), e3]
          · rw [if_neg (fun e => e3 e.symm), if_neg e3, Gf.mul_zero]
        · rw [kv_high W (by omega), Gf.zero_mul, if_neg (by omega)]
    rw [xsum_congr e, xsum_update (fun c => if c = x then W x i else 0) i (W x i) n hi, if_neg (by omega), Nat.xor_zero,
      xsum_update (fun _ => 0) x (W x i) n hx, xsum_zero, Nat.zero_xor, Nat.zero_xor, Nat.xor_self]
  · rw [xsum_congr (g := fun _ => 0) (fun c hc => ?_), xsum_zero]
    by_cases e1 : c = i
    · rw [e1, hn x (by omega) hx, Gf.mul_zero]
    · by_cases e2 : c < i
      · rw [k.unit x c hx e2, if_neg (by omega), Gf.mul_zero]
      · rw [kv_high W (by omega), Gf.zero_mul]

/-- where no pivot is found, there is a vector that the matrix turns into noughts -/
theorem El.kernel {A : Nat → Nat → Nat} {n i : Nat} (hA : ∀ i j, A i j < 256) {W : Nat → Nat → Nat} (h : El A n i W) (hi : i < n) (hn : NoPiv W n i) :
    ∃ v : Nat → Nat, (∀ c, v c < 256) ∧ v i = 1 ∧ ∀ r, r < n → prodTo A (fun x _ => v x) n r 0 = 0 := by
  have k := h.keeps hA
  obtain ⟨F, hF, hFW⟩ := k.back
  refine ⟨kv W i, kv_lt k.byte i, kv_self W i, fun r hr => ?_⟩
  have h1 : prodTo A (fun x _ => kv W i x) n r 0 = prodTo (fun r c => prodTo F W n r c) (fun x _ => kv W i x) n r 0 :=
    prodTo_congr (fun x hx => by rw [hFW r x hr (by omega), wide_left A r hx]) (fun _ _ => rfl)
  rw [h1, prod_assoc F W _ hF k.byte (fun x _ => kv_lt k.byte i x) n n r 0]
  have h2 : ∀ x, x < n → Gf.mul (prodTo W (fun x _ => kv W i x) n x 0) (F r x) = 0 := fun x hx => by
    have := kv_rows k hi hn x hx
    unfold prodTo
    rw [this, Gf.zero_mul]
  show xsum (fun x => Gf.mul (prodTo W (fun x _ => kv W i x) n x 0) (F r x)) n = 0
  rw [xsum_congr (g := fun _ => 0) h2, xsum_zero]

/-- a matrix that has an inverse from the left turns no vector into noughts but noughts: elimination does not fail -/
theorem no_fail {A B : Nat → Nat → Nat} {n i : Nat} (hA : ∀ i j, A i j < 256) (hB : ∀ i j, B i j < 256) (hBA : ∀ r c, r < n → c < n → prodTo B A n r c = ones n r c) {W : Nat → Nat → Nat} (h : El A n i W) (hi : i < n) : ¬ NoPiv W n i := fun hn => by
  obtain ⟨v, hv, h1, h0⟩ := h.kernel hA hi hn
  have e := prod_assoc B A (fun x _ => v x) hB hA (fun x _ => hv x) n n i 0
  rw [prodTo_congr (a' := ones n) (b' := fun x _ => v x) (fun x hx => hBA i x hi hx) (fun _ _ => rfl), ones_prod (fun x _ => v x) (fun x _ => hv x) n i 0 hi] at e
  have e0 : prodTo B (fun i k => prodTo A (fun x _ => v x) n i k) n i 0 = 0 := by
    show xsum (fun x => Gf.mul (prodTo A (fun x _ => v x) n x 0) (B i x)) n = 0
    rw [xsum_congr (g := fun _ => 0) (fun x hx => by rw [h0 x hx, Gf.zero_mul]), xsum_zero]
  rw [e0, h1] at e
  omega
end Go.Proofs.YtmncocmeafcpfaaDoor.Mf

/- The matrix of a code: any rows of it, as many as its columns, turn no vector into noughts but noughts. No Go in sight. -/
namespace Go.Proofs.YtmncocmeafcpfaaDoor.Mf

/-- one times the other's part -/
theorem cau (p q s : Nat) (hp : p < 256) (hq : q < 256) (hs : s < 256) (p0 : p ≠ 0) (q0 : q ≠ 0) :
    Gf.mul (p ^^^ s) (Gf.inv p) ^^^ Gf.mul (q ^^^ s) (Gf.inv q) = Gf.mul (p ^^^ q) (Gf.mul s (Gf.mul (Gf.inv p) (Gf.inv q))) := by
  have ip := Gf.inv_lt p hp
  have iq := Gf.inv_lt q hq
  have e1 : Gf.mul p (Gf.mul s (Gf.mul (Gf.inv p) (Gf.inv q))) = Gf.mul s (Gf.inv q) := by
    rw [← Gf.mul_assoc p s _ hp hs (Gf.mul_lt _ _), Gf.mul_comm p s hp hs, Gf.mul_assoc s p _ hs hp (Gf.mul_lt _ _), ← Gf.mul_assoc p _ _ hp ip iq, Gf.mul_inv p hp p0, Gf.one_mul _ iq]
  have e2 : Gf.mul q (Gf.mul s (Gf.mul (Gf.inv p) (Gf.inv q))) = Gf.mul s (Gf.inv p) := by
    rw [Gf.mul_comm (Gf.inv p) (Gf.inv q) ip iq, ← Gf.mul_assoc q s _ hq hs (Gf.mul_lt _ _), Gf.mul_comm q s hq hs, Gf.mul_assoc s q _ hs hq (Gf.mul_lt _ _), ← Gf.mul_assoc q _ _ hq iq ip, Gf.mul_inv q hq q0, Gf.one_mul _ ip]
  rw [Gf.mul_xor_left, Gf.mul_xor_left, Gf.mul_xor_left, Gf.mul_inv p hp p0, Gf.mul_inv q hq q0, e1, e2, Gf.xor4, Nat.xor_self, Nat.zero_xor, Nat.xor_comm]

theorem mul_eq_zero {a b : Nat} (ha : a < 256) (hb : b < 256) (h : Gf.mul a b = 0) (h0 : b ≠ 0) : a = 0 :=
  Gf.cancel a 0 b ha (by omega) hb h0 (by rw [h, Gf.zero_mul])
theorem inv_ne {a : Nat} (ha : a < 256) (h : a ≠ 0) : Gf.inv a ≠ 0 := fun e => by
  have := Gf.mul_inv a ha h
  rw [e, Gf.mul_zero] at this
  omega
theorem xor_ne {a b : Nat} (h : a ≠ b) : a ^^^ b ≠ 0 := fun e => h (by
  have := congrArg (· ^^^ b) e
  simp only [xor_cancel, Nat.zero_xor] at this
  exact this)

/-- the sum over a list -/
def lsum (f : Nat → Nat) : List Nat → Nat
  | [] => 0
  | y :: ys => f y ^^^ lsum f ys
theorem lsum_congr {f g : Nat → Nat} : ∀ {ys : List Nat}, (∀ y, y ∈ ys → f y = g y) → lsum f ys = lsum g ys
  | [], _ => rfl
  | y :: ys, h => by simp only [lsum]; rw [h y (List.mem_cons_self ..), lsum_congr (fun z hz => h z (List.mem_cons_of_mem _ hz))]
theorem lsum_zero : ∀ ys, lsum (fun _ => 0) ys = 0
  | [] => rfl
  | _ :: ys => by simp only [lsum]; rw [lsum_zero ys]; rfl
theorem lsum_xor (f g : Nat → Nat) : ∀ ys, lsum (fun y => f y ^^^ g y) ys = lsum f ys ^^^ lsum g ys
  | [] => by simp [lsum]
  | y :: ys => by simp only [lsum]; rw [lsum_xor f g ys, Gf.xor4]
theorem lsum_mul (c : Nat) (f : Nat → Nat) : ∀ ys, Gf.mul (lsum f ys) c = lsum (fun y => Gf.mul (f y) c) ys
  | [] => Gf.zero_mul c
  | y :: ys => by simp only [lsum]; rw [Gf.mul_xor_left, lsum_mul c f ys]
theorem lsum_lt {f : Nat → Nat} (hf : ∀ y, f y < 256) : ∀ ys, lsum f ys < 256
  | [] => by simp [lsum]
  | y :: ys => xor8 (hf y) (lsum_lt hf ys)

theorem cauchy : ∀ (ys xs : List Nat) (v : Nat → Nat), (∀ y, v y < 256) → (∀ x, x ∈ xs → x < 256) → (∀ y, y ∈ ys → y < 256) → xs.Nodup → ys.Nodup → (∀ x, x ∈ xs → ∀ y, y ∈ ys → x ≠ y) → ys.length ≤ xs.length →
    (∀ x, x ∈ xs → lsum (fun y => Gf.mul (v y) (Gf.inv (x ^^^ y))) ys = 0) → ∀ y, y ∈ ys → v y = 0
  | [], _, _, _, _, _, _, _, _, _, _, y, hy => by simp at hy
  | y0 :: ys, [], _, _, _, _, _, _, _, hl, _, _, _ => by simp at hl
  | y0 :: ys, x0 :: xs, v, hv, hx, hy, nx, ny, hne, hl, he, y, hym => by
    have bx0 := hx x0 (List.mem_cons_self ..)
    have by0 := hy y0 (List.mem_cons_self ..)
    have nx' := List.nodup_cons.1 nx
    have ny' := List.nodup_cons.1 ny
    have key : ∀ y, y ∈ ys → v y = 0 := by
      have ih := cauchy ys xs (fun y => Gf.mul (v y) (Gf.mul (y ^^^ y0) (Gf.inv (x0 ^^^ y)))) (fun y => Gf.mul_lt _ _) (fun x h => hx x (List.mem_cons_of_mem _ h)) (fun y h => hy y (List.mem_cons_of_mem _ h)) nx'.2 ny'.2
        (fun x h y h' => hne x (List.mem_cons_of_mem _ h) y (List.mem_cons_of_mem _ h')) (by simpa using hl) (fun x hxm => by
          have bx := hx x (List.mem_cons_of_mem _ hxm)
          have hxx0 : x ≠ x0 := fun e => nx'.1 (e ▸ hxm)
          have hxy0 := hne x (List.mem_cons_of_mem _ hxm) y0 (List.mem_cons_self ..)
          have hx0y0 := hne x0 (List.mem_cons_self ..) y0 (List.mem_cons_self ..)
          have E1 := he x (List.mem_cons_of_mem _ hxm)
          have E2 := he x0 (List.mem_cons_self ..)
          simp only [lsum] at E1 E2
          have F : ∀ z, z < 256 → z ≠ y0 → Gf.mul (v y0) (Gf.inv (z ^^^ y0)) ^^^ lsum (fun y => Gf.mul (v y) (Gf.inv (z ^^^ y))) ys = 0 → v y0 = lsum (fun y => Gf.mul (Gf.mul (v y) (Gf.inv (z ^^^ y))) (z ^^^ y0)) ys := by
            intro z hz hzy E
            have b := xor8 hz by0
            have h1 : Gf.mul (Gf.mul (v y0) (Gf.inv (z ^^^ y0))) (z ^^^ y0) = v y0 := by
              rw [Gf.mul_assoc _ _ _ (hv y0) (Gf.inv_lt _ b) b, Gf.mul_comm (Gf.inv (z ^^^ y0)) _ (Gf.inv_lt _ b) b, Gf.mul_inv _ b (xor_ne hzy), Gf.mul_one _ (hv y0)]
            have h2 := congrArg (fun t => Gf.mul t (z ^^^ y0)) E
            simp only [Gf.mul_xor_left, Gf.zero_mul, h1, lsum_mul] at h2
            have h3 := congrArg (· ^^^ lsum (fun y => Gf.mul (Gf.mul (v y) (Gf.inv (z ^^^ y))) (z ^^^ y0)) ys) h2
            simp only [xor_cancel, Nat.zero_xor] at h3
            exact h3
          have G1 := F x bx hxy0 E1
          have G2 := F x0 bx0 hx0y0 E2
          have G3 : lsum (fun y => Gf.mul (Gf.mul (v y) (Gf.inv (x ^^^ y))) (x ^^^ y0) ^^^ Gf.mul (Gf.mul (v y) (Gf.inv (x0 ^^^ y))) (x0 ^^^ y0)) ys = 0 := by
            rw [lsum_xor, ← G1, ← G2, Nat.xor_self]
          have bb := xor8 bx bx0
          refine mul_eq_zero (b := x ^^^ x0) (lsum_lt (fun _ => Gf.mul_lt _ _) _) bb ?_ (xor_ne hxx0)
          rw [lsum_mul, ← G3]
          refine lsum_congr (fun y hym => ?_)
          have by' := hy y (List.mem_cons_of_mem _ hym)
          have bp := xor8 bx by'
          have bq := xor8 bx0 by'
          have bs := xor8 by' by0
          have hp0 := xor_ne (hne x (List.mem_cons_of_mem _ hxm) y (List.mem_cons_of_mem _ hym))
          have hq0 := xor_ne (hne x0 (List.mem_cons_self ..) y (List.mem_cons_of_mem _ hym))
          have ip := Gf.inv_lt _ bp
          have iq := Gf.inv_lt _ bq
          have c := cau (x ^^^ y) (x0 ^^^ y) (y ^^^ y0) bp bq bs hp0 hq0
          have x1 : x ^^^ y ^^^ (y ^^^ y0) = x ^^^ y0 := by rw [← Nat.xor_assoc, xor_cancel]
          have x2 : x0 ^^^ y ^^^ (y ^^^ y0) = x0 ^^^ y0 := by rw [← Nat.xor_assoc, xor_cancel]
          have x3 : x ^^^ y ^^^ (x0 ^^^ y) = x ^^^ x0 := by rw [Nat.xor_comm x0 y, ← Nat.xor_assoc, xor_cancel]
          rw [x1, x2, x3] at c
          rw [Gf.mul_assoc (v y) _ _ (hv y) ip (xor8 bx by0), Gf.mul_assoc (v y) _ _ (hv y) iq (xor8 bx0 by0), ← Gf.mul_xor_right, Gf.mul_comm (Gf.inv (x ^^^ y)) _ ip (xor8 bx by0), Gf.mul_comm (Gf.inv (x0 ^^^ y)) _ iq (xor8 bx0 by0), c,
            Gf.mul_assoc (v y) _ _ (hv y) (Gf.mul_lt _ _) ip, Gf.mul_assoc (v y) _ _ (hv y) (Gf.mul_lt _ _) bb]
          congr 1
          rw [Gf.mul_comm (x ^^^ x0) _ bb (Gf.mul_lt _ _)]
          congr 1
          rw [Gf.mul_assoc _ _ _ bs iq ip, Gf.mul_comm (Gf.inv (x0 ^^^ y)) _ iq ip])
      intro y hym
      have h := ih y hym
      have by' := hy y (List.mem_cons_of_mem _ hym)
      have hyy0 : y ≠ y0 := fun e => ny'.1 (e ▸ hym)
      have bq := xor8 bx0 by'
      have hq0 := xor_ne (hne x0 (List.mem_cons_self ..) y (List.mem_cons_of_mem _ hym))
      refine mul_eq_zero (hv y) (Gf.mul_lt _ _) h (fun e => ?_)
      exact xor_ne hyy0 (mul_eq_zero (xor8 by' by0) (Gf.inv_lt _ bq) e (inv_ne bq hq0))
    rcases List.mem_cons.1 hym with rfl | hym'
    · have E := he x0 (List.mem_cons_self ..)
      simp only [lsum] at E
      rw [lsum_congr (g := fun _ => 0) (fun z hz => by rw [key z hz, Gf.zero_mul]), lsum_zero, Nat.xor_zero] at E
      have b := xor8 bx0 by0
      exact mul_eq_zero (hv _) (Gf.inv_lt _ b) E (inv_ne b (xor_ne (hne x0 (List.mem_cons_self ..) _ (List.mem_cons_self ..))))
    · exact key y hym'
end Go.Proofs.YtmncocmeafcpfaaDoor.Mf
