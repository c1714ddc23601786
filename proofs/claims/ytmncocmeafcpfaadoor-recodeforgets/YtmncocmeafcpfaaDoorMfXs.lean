/- Sums and products of matrices over the field of Gf. No Go in sight. -/
import Derived.Test.YtmncocmeafcpfaaDoorMfGf
namespace Go.Proofs.YtmncocmeafcpfaaDoor.Mf

theorem xor8 {a b : Nat} (ha : a < 256) (hb : b < 256) : a ^^^ b < 256 := Nat.xor_lt_two_pow (n := 8) ha hb
/-- the sum of the first n -/
def xsum (f : Nat → Nat) : Nat → Nat
  | 0 => 0
  | n + 1 => xsum f n ^^^ f n
theorem xsum_lt {f : Nat → Nat} (hf : ∀ j, f j < 256) : ∀ n, xsum f n < 256
  | 0 => by simp [xsum]
  | n + 1 => xor8 (xsum_lt hf n) (hf n)
theorem xsum_congr {f g : Nat → Nat} : ∀ {n : Nat}, (∀ j, j < n → f j = g j) → xsum f n = xsum g n
  | 0, _ => rfl
  | n + 1, h => by simp only [xsum]; rw [xsum_congr (fun j hj => h j (by omega)), h n (by omega)]
theorem xsum_zero : ∀ n, xsum (fun _ => 0) n = 0
  | 0 => rfl
  | n + 1 => by simp only [xsum]; rw [xsum_zero n, Nat.xor_zero]
theorem xsum_xor (f g : Nat → Nat) : ∀ n, xsum (fun j => f j ^^^ g j) n = xsum f n ^^^ xsum g n
  | 0 => by simp [xsum]
  | n + 1 => by simp only [xsum]; rw [xsum_xor f g n, Gf.xor4]
theorem mul_xsum (c : Nat) (f : Nat → Nat) : ∀ n, Gf.mul c (xsum f n) = xsum (fun j => Gf.mul c (f j)) n
  | 0 => Gf.mul_zero c
  | n + 1 => by simp only [xsum]; rw [Gf.mul_xor_right, mul_xsum c f n]
theorem xsum_mul (c : Nat) (f : Nat → Nat) : ∀ n, Gf.mul (xsum f n) c = xsum (fun j => Gf.mul (f j) c) n
  | 0 => Gf.zero_mul c
  | n + 1 => by simp only [xsum]; rw [Gf.mul_xor_left, xsum_mul c f n]
theorem xsum_swap (f : Nat → Nat → Nat) (m : Nat) : ∀ n, xsum (fun i => xsum (fun j => f i j) m) n = xsum (fun j => xsum (fun i => f i j) n) m
  | 0 => by simp only [xsum]; rw [xsum_zero]
  | n + 1 => by simp only [xsum]; rw [xsum_swap f m n, ← xsum_xor]
theorem xsum_single {f : Nat → Nat} {i : Nat} (h : ∀ j, j ≠ i → f j = 0) : ∀ {n : Nat}, i < n → xsum f n = f i
  | 0, hn => by omega
  | n + 1, hn => by
    simp only [xsum]
    by_cases e : i = n
    · subst e
      rw [xsum_congr (g := fun _ => 0) (fun j hj => h j (by omega)), xsum_zero, Nat.zero_xor]
    · rw [xsum_single h (by omega), h n (by omega), Nat.xor_zero]

/-- the product's entry, of the first j terms -/
def prodTo (a b : Nat → Nat → Nat) (j i k : Nat) : Nat := xsum (fun x => Gf.mul (b x k) (a i x)) j
theorem prodTo_lt (a b : Nat → Nat → Nat) (j i k : Nat) : prodTo a b j i k < 256 := xsum_lt (fun _ => Gf.mul_lt _ _) j
theorem prodTo_congr {a a' b b' : Nat → Nat → Nat} {j i k : Nat} (ha : ∀ x, x < j → a i x = a' i x) (hb : ∀ x, x < j → b x k = b' x k) : prodTo a b j i k = prodTo a' b' j i k :=
  xsum_congr (fun x hx => by rw [ha x hx, hb x hx])
/-- products do not hang on the brackets -/
theorem prod_assoc (a b c : Nat → Nat → Nat) (ha : ∀ i j, a i j < 256) (hb : ∀ i j, b i j < 256) (hc : ∀ i j, c i j < 256) (m p i k : Nat) :
    prodTo (fun i k => prodTo a b m i k) c p i k = prodTo a (fun i k => prodTo b c p i k) m i k := by
  unfold prodTo
  rw [xsum_congr (g := fun x => xsum (fun y => Gf.mul (c x k) (Gf.mul (b y x) (a i y))) m) (fun x _ => mul_xsum _ _ _),
    xsum_congr (n := m) (g := fun y => xsum (fun x => Gf.mul (Gf.mul (c x k) (b y x)) (a i y)) p) (fun y _ => xsum_mul _ _ _),
    xsum_swap]
  exact xsum_congr (fun y _ => xsum_congr (fun x _ => (Gf.mul_assoc _ _ _ (hc _ _) (hb _ _) (ha _ _)).symm))

/-- ones on the diagonal, of the first k rows -/
def ones (k : Nat) : Nat → Nat → Nat := fun i j => if i < k ∧ i = j then 1 else 0
theorem ones_zero : ones 0 = fun _ _ => 0 := by funext i j; unfold ones; rw [if_neg (by omega)]
theorem ones_lt (k i j : Nat) : ones k i j < 256 := by unfold ones; split <;> omega
theorem ones_succ_here (k j : Nat) : ones (k + 1) k j = if j = k then 1 else ones k k j := by
  unfold ones
  by_cases e : j = k
  · subst e; simp
  · rw [if_neg e, if_neg (by omega), if_neg (by omega)]
theorem ones_succ_other (k i j : Nat) (h : i ≠ k) : ones (k + 1) i j = ones k i j := by
  unfold ones
  by_cases e : i < k ∧ i = j
  · rw [if_pos e, if_pos (by omega)]
  · rw [if_neg e, if_neg (by omega)]
theorem ones_ne (k i j : Nat) (h : j ≠ i) : ones k i j = 0 := if_neg (by omega)
theorem ones_self (k i : Nat) (h : i < k) : ones k i i = 1 := if_pos ⟨h, rfl⟩
/-- ones, times a matrix -/
theorem ones_prod (b : Nat → Nat → Nat) (hb : ∀ i j, b i j < 256) (n i k : Nat) (hi : i < n) : prodTo (ones n) b n i k = b i k := by
  unfold prodTo
  rw [xsum_single (i := i) (fun j hj => by rw [ones_ne n i j hj, Gf.mul_zero]) hi, ones_self n i hi, Gf.mul_one _ (hb _ _)]
/-- a matrix, times ones -/
theorem prod_ones (a : Nat → Nat → Nat) (ha : ∀ i j, a i j < 256) (n i k : Nat) (hk : k < n) : prodTo a (ones n) n i k = a i k := by
  unfold prodTo
  rw [xsum_single (i := k) (fun j hj => by rw [ones_ne n j k (fun e => hj e.symm), Gf.zero_mul]) hk, ones_self n k hk, Gf.one_mul _ (ha _ _)]
end Go.Proofs.YtmncocmeafcpfaaDoor.Mf
