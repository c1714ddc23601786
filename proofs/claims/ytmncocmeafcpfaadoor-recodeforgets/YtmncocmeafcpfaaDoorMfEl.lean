/- Elimination over the field of Gf: what its steps keep, what it finds, and when it fails. No Go in sight. -/
import Derived.Test.YtmncocmeafcpfaaDoorMfXs
namespace Go.Proofs.YtmncocmeafcpfaaDoor.Mf

theorem xor_cancel (a b : Nat) : a ^^^ b ^^^ b = a := by rw [Nat.xor_assoc, Nat.xor_self, Nat.xor_zero]
theorem xsum_update (f : Nat → Nat) (i a : Nat) : ∀ n, i < n → xsum (fun x => if x = i then a else f x) n = xsum f n ^^^ f i ^^^ a
  | 0, h => by omega
  | n + 1, h => by
    simp only [xsum]
    by_cases e : i = n
    · subst e
      rw [if_pos rfl, xsum_congr (g := f) (fun j hj => if_neg (by omega)), xor_cancel]
    · rw [xsum_update f i a n (by omega), if_neg (by omega)]
      rw [Nat.xor_assoc (xsum f n), Nat.xor_assoc (xsum f n), Nat.xor_assoc (xsum f n), Nat.xor_assoc (xsum f n)]
      congr 1
      rw [Nat.xor_comm (f i ^^^ a) (f n), Nat.xor_assoc]
/-- a sum does not hang on which of two places its terms stand at -/
theorem xsum_transpose (f : Nat → Nat) (i j n : Nat) (hi : i < n) (hj : j < n) : xsum (fun x => if x = i then f j else if x = j then f i else f x) n = xsum f n := by
  by_cases e : i = j
  · subst e
    exact xsum_congr (fun x _ => by split <;> simp_all)
  · have h1 := xsum_update (fun x => if x = j then f i else f x) i (f j) n hi
    have h2 := xsum_update f j (f i) n hj
    rw [h1, if_neg e, h2, xor_cancel, xor_cancel]

/-- a matrix, with ones beside it -/
def wide (A : Nat → Nat → Nat) (n : Nat) : Nat → Nat → Nat := fun r c => if c < n then A r c else if c = n + r then 1 else 0
theorem wide_lt {A : Nat → Nat → Nat} (hA : ∀ i j, A i j < 256) (n r c : Nat) : wide A n r c < 256 := by
  unfold wide; split
  · exact hA r c
  · split <;> omega

/-- row j is brought to place i, and begins with a one there -/
def brought (W : Nat → Nat → Nat) (i j : Nat) : Nat → Nat → Nat := fun r c => if r = i then Gf.mul (W j c) (Gf.inv (W j i)) else if r = j then W i c else W r c
/-- column i has noughts, but in row i -/
def cleared (W : Nat → Nat → Nat) (i : Nat) : Nat → Nat → Nat := fun r c => if r = i then W i c else if i ≤ c then W r c ^^^ Gf.mul (W i c) (W r i) else W r c
def Piv (W : Nat → Nat → Nat) (n i j : Nat) : Prop := i ≤ j ∧ j < n ∧ W j i ≠ 0 ∧ ∀ j', i ≤ j' → j' < j → W j' i = 0
def NoPiv (W : Nat → Nat → Nat) (n i : Nat) : Prop := ∀ j, i ≤ j → j < n → W j i = 0
theorem Piv.unique {W : Nat → Nat → Nat} {n i j k : Nat} (a : Piv W n i j) (b : Piv W n i k) : j = k := by
  by_cases h : j < k
  · exact absurd (b.2.2.2 j a.1 h) a.2.2.1
  · by_cases h' : k < j
    · exact absurd (a.2.2.2 k b.1 h') b.2.2.1
    · omega
theorem brought_lt {W : Nat → Nat → Nat} (h : ∀ r c, W r c < 256) (i j r c : Nat) : brought W i j r c < 256 := by
  unfold brought; split
  · exact Gf.mul_lt _ _
  · split
    · exact h _ _
    · exact h _ _
theorem cleared_lt {W : Nat → Nat → Nat} (h : ∀ r c, W r c < 256) (i r c : Nat) : cleared W i r c < 256 := by
  unfold cleared; split
  · exact h _ _
  · split
    · exact xor8 (h _ _) (Gf.mul_lt _ _)
    · exact h _ _

/-- what stands in the wide rows when i columns are done -/
inductive El (A : Nat → Nat → Nat) (n : Nat) : Nat → (Nat → Nat → Nat) → Prop
  | start : El A n 0 (wide A n)
  | step {i j : Nat} {W : Nat → Nat → Nat} : El A n i W → i < n → Piv W n i j → El A n (i + 1) (cleared (brought W i j) i)

theorem El.unique {A : Nat → Nat → Nat} {n : Nat} : ∀ {i : Nat} {W V : Nat → Nat → Nat}, El A n i W → El A n i V → W = V
  | 0, _, _, .start, .start => rfl
  | _ + 1, _, _, .step a _ p, .step b _ q => by
    obtain rfl := El.unique a b
    rw [p.unique q]

/-- what each step keeps -/
structure Keeps (A : Nat → Nat → Nat) (n i : Nat) (W : Nat → Nat → Nat) : Prop where
  abyte : ∀ r c, A r c < 256
  byte : ∀ r c, W r c < 256
  unit : ∀ r c, r < n → c < i → W r c = if r = c then 1 else 0
  back : ∃ F : Nat → Nat → Nat, (∀ r c, F r c < 256) ∧ ∀ r c, r < n → c < 2 * n → prodTo F W n r c = wide A n r c
  forth : ∃ G : Nat → Nat → Nat, (∀ r c, G r c < 256) ∧ ∀ r c, r < n → c < 2 * n → prodTo G (wide A n) n r c = W r c

theorem keeps_start {A : Nat → Nat → Nat} (hA : ∀ i j, A i j < 256) (n : Nat) : Keeps A n 0 (wide A n) :=
  ⟨hA, wide_lt hA n, fun r c _ h => by omega, ⟨ones n, ones_lt n, fun r c hr _ => ones_prod _ (wide_lt hA n) n r c hr⟩, ⟨ones n, ones_lt n, fun r c hr _ => ones_prod _ (wide_lt hA n) n r c hr⟩⟩

theorem mul_inv_mul (a s f : Nat) (ha : a < 256) (hs : s < 256) (hf : f < 256) (h : s ≠ 0) : Gf.mul (Gf.mul a (Gf.inv s)) (Gf.mul f s) = Gf.mul a f := by
  have hi := Gf.inv_lt s hs
  rw [Gf.mul_assoc a (Gf.inv s) _ ha hi (Gf.mul_lt _ _), Gf.mul_comm f s hf hs, ← Gf.mul_assoc (Gf.inv s) s f hi hs hf, Gf.mul_comm (Gf.inv s) s hi hs, Gf.mul_inv s hs h, Gf.one_mul f hf]

theorem keeps_brought {A : Nat → Nat → Nat} {n i j : Nat} {W : Nat → Nat → Nat} (h : Keeps A n i W) (hi : i < n) (p : Piv W n i j) : Keeps A n i (brought W i j) ∧ (∀ c, c < i → brought W i j i c = 0) ∧ brought W i j i i = 1 := by
  obtain ⟨p1, p2, p3, _⟩ := p
  have hs := h.byte j i
  refine ⟨⟨h.abyte, brought_lt h.byte i j, fun r c hr hc => ?_, ?_, ?_⟩, fun c hc => ?_, ?_⟩
  · unfold brought
    by_cases e1 : r = i
    · rw [if_pos e1, h.unit j c p2 hc, if_neg (by omega), Gf.zero_mul, if_neg (by omega)]
    · rw [if_neg e1]
      by_cases e2 : r = j
      · rw [if_pos e2, h.unit i c hi hc, if_neg (by omega), if_neg (by omega)]
      · rw [if_neg e2]; exact h.unit r c hr hc
  · obtain ⟨F, hF, hFW⟩ := h.back
    refine ⟨fun r x => if x = i then Gf.mul (F r j) (W j i) else if x = j then F r i else F r x, fun r x => ?_, fun r c hr hc => ?_⟩
    · dsimp only
      split
      · exact Gf.mul_lt _ _
      · split
        · exact hF _ _
        · exact hF _ _
    · rw [← hFW r c hr hc]
      unfold prodTo
      rw [← xsum_transpose (fun x => Gf.mul (W x c) (F r x)) i j n hi p2]
      refine xsum_congr (fun x _ => ?_)
      dsimp only [brought]
      by_cases e1 : x = i
      · rw [if_pos e1, if_pos e1, if_pos e1]
        exact mul_inv_mul _ _ _ (h.byte _ _) hs (hF _ _) p3
      · rw [if_neg e1, if_neg e1, if_neg e1]
        by_cases e2 : x = j
        · rw [if_pos e2, if_pos e2, if_pos e2]
        · rw [if_neg e2, if_neg e2, if_neg e2]
  · obtain ⟨G, hG, hGW⟩ := h.forth
    refine ⟨fun r x => if r = i then Gf.mul (G j x) (Gf.inv (W j i)) else if r = j then G i x else G r x, fun r x => ?_, fun r c hr hc => ?_⟩
    · dsimp only
      split
      · exact Gf.mul_lt _ _
      · split
        · exact hG _ _
        · exact hG _ _
    · dsimp only [brought]
      by_cases e1 : r = i
      · rw [if_pos e1, ← hGW j c p2 hc]
        unfold prodTo
        rw [xsum_mul]
        refine xsum_congr (fun x _ => ?_)
        dsimp only
        rw [if_pos e1]
        exact (Gf.mul_assoc _ _ _ (wide_lt h.abyte n x c) (hG _ _) (Gf.inv_lt _ hs)).symm
      · rw [if_neg e1]
        by_cases e2 : r = j
        · rw [if_pos e2, ← hGW i c hi hc]
          exact xsum_congr (fun x _ => by dsimp only; rw [if_neg e1, if_pos e2])
        · rw [if_neg e2, ← hGW r c hr hc]
          exact xsum_congr (fun x _ => by dsimp only; rw [if_neg e1, if_neg e2])
  · unfold brought
    rw [if_pos rfl, h.unit j c p2 hc, if_neg (by omega), Gf.zero_mul]
  · unfold brought
    rw [if_pos rfl]
    exact Gf.mul_inv _ hs p3

theorem cleared_all {W : Nat → Nat → Nat} {i : Nat} (h0 : ∀ c, c < i → W i c = 0) (r c : Nat) : cleared W i r c = if r = i then W i c else W r c ^^^ Gf.mul (W i c) (W r i) := by
  unfold cleared
  by_cases e : r = i
  · rw [if_pos e, if_pos e]
  · rw [if_neg e, if_neg e]
    by_cases h : i ≤ c
    · rw [if_pos h]
    · rw [if_neg h, h0 c (by omega), Gf.zero_mul, Nat.xor_zero]

theorem keeps_cleared {A : Nat → Nat → Nat} {n i : Nat} {W : Nat → Nat → Nat} (h : Keeps A n i W) (hi : i < n) (h0 : ∀ c, c < i → W i c = 0) (h1 : W i i = 1) : Keeps A n (i + 1) (cleared W i) := by
  refine ⟨h.abyte, cleared_lt h.byte i, fun r c hr hc => ?_, ?_, ?_⟩
  · rw [cleared_all h0]
    by_cases e : r = i
    · rw [if_pos e]
      by_cases hc' : c = i
      · subst hc'; rw [h1, if_pos e]
      · rw [h0 c (by omega), if_neg (by omega)]
    · rw [if_neg e]
      by_cases hc' : c = i
      · subst hc'
        rw [h1, Gf.one_mul _ (h.byte _ _), Nat.xor_self, if_neg e]
      · rw [h0 c (by omega), Gf.zero_mul, Nat.xor_zero, h.unit r c hr (by omega)]
  · obtain ⟨F, hF, hFW⟩ := h.back
    refine ⟨fun r x => if x = i then F r i ^^^ (xsum (fun y => if y = i then 0 else Gf.mul (W y i) (F r y)) n) else F r x, fun r x => ?_, fun r c hr hc => ?_⟩
    · dsimp only
      split
      · exact xor8 (hF _ _) (xsum_lt (fun y => by split; · omega
                                                  · exact Gf.mul_lt _ _) n)
      · exact hF _ _
    · rw [← hFW r c hr hc]
      unfold prodTo
      have e1 : xsum (fun x => Gf.mul (cleared W i x c) (if x = i then F r i ^^^ (xsum (fun y => if y = i then 0 else Gf.mul (W y i) (F r y)) n) else F r x)) n
          = xsum (fun x => Gf.mul (W x c) (F r x) ^^^ (if x = i then Gf.mul (W i c) (xsum (fun y => if y = i then 0 else Gf.mul (W y i) (F r y)) n) else Gf.mul (W i c) (Gf.mul (W x i) (F r x)))) n := by
        refine xsum_congr (fun x _ => ?_)
        rw [cleared_all h0]
        by_cases e : x = i
        · subst e
          rw [if_pos rfl, if_pos rfl, if_pos rfl, Gf.mul_xor_right]
        · rw [if_neg e, if_neg e, if_neg e, Gf.mul_xor_left, Gf.mul_assoc _ _ _ (h.byte _ _) (h.byte _ _) (hF _ _)]
      rw [e1, xsum_xor]
      have e2 : xsum (fun x => if x = i then Gf.mul (W i c) (xsum (fun y => if y = i then 0 else Gf.mul (W y i) (F r y)) n) else Gf.mul (W i c) (Gf.mul (W x i) (F r x))) n = 0 := by
        rw [mul_xsum, xsum_update (fun x => Gf.mul (W i c) (Gf.mul (W x i) (F r x))) i _ n hi]
        have e3 : xsum (fun x => Gf.mul (W i c) (if x = i then 0 else Gf.mul (W x i) (F r x))) n = xsum (fun x => if x = i then 0 else Gf.mul (W i c) (Gf.mul (W x i) (F r x))) n :=
          xsum_congr (fun x _ => by split; · exact Gf.mul_zero _
                                    · rfl)
        rw [e3, xsum_update (fun x => Gf.mul (W i c) (Gf.mul (W x i) (F r x))) i 0 n hi, Nat.xor_zero, Nat.xor_self]
      rw [e2, Nat.xor_zero]
  · obtain ⟨G, hG, hGW⟩ := h.forth
    refine ⟨fun r x => if r = i then G i x else G r x ^^^ Gf.mul (G i x) (W r i), fun r x => ?_, fun r c hr hc => ?_⟩
    · dsimp only
      split
      · exact hG _ _
      · exact xor8 (hG _ _) (Gf.mul_lt _ _)
    · rw [cleared_all h0]
      by_cases e : r = i
      · rw [if_pos e, ← hGW i c hi hc]
        exact xsum_congr (fun x _ => by dsimp only; rw [if_pos e])
      · rw [if_neg e, ← hGW r c hr hc, ← hGW i c hi hc]
        unfold prodTo
        rw [xsum_mul, ← xsum_xor]
        refine xsum_congr (fun x _ => ?_)
        dsimp only
        rw [if_neg e, Gf.mul_xor_right, Gf.mul_assoc _ _ _ (wide_lt h.abyte n x c) (hG _ _) (h.byte _ _)]

theorem El.keeps {A : Nat → Nat → Nat} {n : Nat} (hA : ∀ i j, A i j < 256) {i : Nat} {W : Nat → Nat → Nat} (h : El A n i W) : Keeps A n i W := by
  induction h with
  | start => exact keeps_start hA n
  | step _ hi p ih =>
    obtain ⟨k, h0, h1⟩ := keeps_brought ih hi p
    exact keeps_cleared k hi h0 h1

/-- the right half -/
def right (W : Nat → Nat → Nat) (n : Nat) : Nat → Nat → Nat := fun r c => W r (n + c)
theorem wide_left (A : Nat → Nat → Nat) {n c : Nat} (r : Nat) (h : c < n) : wide A n r c = A r c := if_pos h
theorem wide_right (A : Nat → Nat → Nat) (n : Nat) {r : Nat} (c : Nat) (hr : r < n) : wide A n r (n + c) = ones n r c := by
  unfold wide ones
  rw [if_neg (by omega)]
  by_cases e : c = r
  · rw [if_pos (by omega), if_pos ⟨hr, e.symm⟩]
  · rw [if_neg (by omega), if_neg (by omega)]

/-- where all columns are done, the right half is an inverse from both sides -/
theorem El.inverse {A : Nat → Nat → Nat} {n : Nat} (hA : ∀ i j, A i j < 256) {W : Nat → Nat → Nat} (h : El A n n W) :
    (∀ r c, r < n → c < n → prodTo A (right W n) n r c = ones n r c) ∧ (∀ r c, r < n → c < n → prodTo (right W n) A n r c = ones n r c) := by
  have k := h.keeps hA
  obtain ⟨F, hF, hFW⟩ := k.back
  obtain ⟨G, hG, hGW⟩ := k.forth
  have hFA : ∀ r c, r < n → c < n → F r c = A r c := fun r c hr hc => by
    have := hFW r c hr (by omega)
    rw [wide_left A r hc] at this
    rw [← this]
    unfold prodTo
    rw [xsum_congr (g := fun x => Gf.mul (ones n x c) (F r x)) (fun x hx => by rw [k.unit x c hx hc]; unfold ones; by_cases e : x = c <;> simp [e, hx, hc])]
    exact (prod_ones F hF n r c hc).symm
  have hGE : ∀ r c, r < n → c < n → G r c = right W n r c := fun r c hr hc => by
    have := hGW r (n + c) hr (by omega)
    unfold right
    rw [← this]
    unfold prodTo
    rw [xsum_congr (g := fun x => Gf.mul (ones n x c) (G r x)) (fun x hx => by rw [wide_right A n c hx])]
    exact (prod_ones G hG n r c hc).symm
  refine ⟨fun r c hr hc => ?_, fun r c hr hc => ?_⟩
  · have := hFW r (n + c) hr (by omega)
    rw [wide_right A n c hr] at this
    rw [← this]
    unfold prodTo right
    exact xsum_congr (fun x hx => by rw [hFA r x hr hx])
  · have := hGW r c hr (by omega)
    rw [k.unit r c hr hc] at this
    rw [← prodTo_congr (a := G) (b := wide A n) (fun x hx => hGE r x hr hx) (fun x _ => wide_left A x hc), this]
    unfold ones
    by_cases e : r = c <;> simp [e, hc]

/-- the vector that is turned into noughts -/
def kv (W : Nat → Nat → Nat) (i : Nat) : Nat → Nat := fun c => if c = i then 1 else if c < i then W c i else 0
theorem kv_lt {W : Nat → Nat → Nat} (h : ∀ r c, W r c < 256) (i c : Nat) : kv W i c < 256 := by
  unfold kv; split
  · omega
  · split
    · exact h _ _
    · omega
theorem kv_self (W : Nat → Nat → Nat) (i : Nat) : kv W i i = 1 := if_pos rfl
theorem kv_low (W : Nat → Nat → Nat) {i c : Nat} (h : c < i) : kv W i c = W c i := by unfold kv; rw [if_neg (by omega), if_pos h]
theorem kv_high (W : Nat → Nat → Nat) {i c : Nat} (h : i < c) : kv W i c = 0 := by unfold kv; rw [if_neg (by omega), if_neg (by omega)]
theorem kv_rows {A : Nat → Nat → Nat} {n i : Nat} {W : Nat → Nat → Nat} (k : Keeps A n i W) (hi : i < n) (hn : NoPiv W n i) (x : Nat) (hx : x < n) : xsum (fun c => Gf.mul (kv W i c) (W x c)) n = 0 := by
  by_cases hxi : x < i
  · have e : ∀ c, c < n → Gf.mul (kv W i c) (W x c) = if c = i then W x i else if c = x then W x i else 0 := fun c hc => by
      by_cases e1 : c = i
      · rw [if_pos e1, e1, kv_self, Gf.one_mul _ (k.byte _ _)]
      · rw [if_neg e1]
        by_cases e2 : c < i
        · rw [kv_low W e2, k.unit x c hx e2]
          by_cases e3 : c = x
          · rw [if_pos e3.symm, if_pos e3, Gf.mul_one _ (k.byte _ _), e3]
          · rw [if_neg (fun e => e3 e.symm), if_neg e3, Gf.mul_zero]
        · rw [kv_high W (by omega), Gf.zero_mul, if_neg (by omega)]
    rw [xsum_congr e, xsum_update (fun c => if c = x then W x i else 0) i (W x i) n hi, if_neg (by omega), Nat.xor_zero,
      xsum_update (fun _ => 0) x (W x i) n hx, xsum_zero, Nat.zero_xor, Nat.zero_xor, Nat.xor_self]
  · rw [xsum_congr (g := fun _ => 0) (fun c hc => ?_), xsum_zero]
    by_cases e1 : c = i
    · rw [e1, hn x (by omega) hx, Gf.mul_zero]
    · by_cases e2 : c < i
      · rw [k.unit x c hx e2, if_neg (by omega), Gf.mul_zero]
      · rw [kv_high W (by omega), Gf.zero_mul]

/-- where no pivot is found, there is a vector that the matrix turns into noughts -/
theorem El.kernel {A : Nat → Nat → Nat} {n i : Nat} (hA : ∀ i j, A i j < 256) {W : Nat → Nat → Nat} (h : El A n i W) (hi : i < n) (hn : NoPiv W n i) :
    ∃ v : Nat → Nat, (∀ c, v c < 256) ∧ v i = 1 ∧ ∀ r, r < n → prodTo A (fun x _ => v x) n r 0 = 0 := by
  have k := h.keeps hA
  obtain ⟨F, hF, hFW⟩ := k.back
  refine ⟨kv W i, kv_lt k.byte i, kv_self W i, fun r hr => ?_⟩
  have h1 : prodTo A (fun x _ => kv W i x) n r 0 = prodTo (fun r c => prodTo F W n r c) (fun x _ => kv W i x) n r 0 :=
    prodTo_congr (fun x hx => by rw [hFW r x hr (by omega), wide_left A r hx]) (fun _ _ => rfl)
  rw [h1, prod_assoc F W _ hF k.byte (fun x _ => kv_lt k.byte i x) n n r 0]
  have h2 : ∀ x, x < n → Gf.mul (prodTo W (fun x _ => kv W i x) n x 0) (F r x) = 0 := fun x hx => by
    have := kv_rows k hi hn x hx
    unfold prodTo
    rw [this, Gf.zero_mul]
  show xsum (fun x => Gf.mul (prodTo W (fun x _ => kv W i x) n x 0) (F r x)) n = 0
  rw [xsum_congr (g := fun _ => 0) h2, xsum_zero]

/-- a matrix that has an inverse from the left turns no vector into noughts but noughts: elimination does not fail -/
theorem no_fail {A B : Nat → Nat → Nat} {n i : Nat} (hA : ∀ i j, A i j < 256) (hB : ∀ i j, B i j < 256) (hBA : ∀ r c, r < n → c < n → prodTo B A n r c = ones n r c) {W : Nat → Nat → Nat} (h : El A n i W) (hi : i < n) : ¬ NoPiv W n i := fun hn => by
  obtain ⟨v, hv, h1, h0⟩ := h.kernel hA hi hn
  have e := prod_assoc B A (fun x _ => v x) hB hA (fun x _ => hv x) n n i 0
  rw [prodTo_congr (a' := ones n) (b' := fun x _ => v x) (fun x hx => hBA i x hi hx) (fun _ _ => rfl), ones_prod (fun x _ => v x) (fun x _ => hv x) n i 0 hi] at e
  have e0 : prodTo B (fun i k => prodTo A (fun x _ => v x) n i k) n i 0 = 0 := by
    show xsum (fun x => Gf.mul (prodTo A (fun x _ => v x) n x 0) (B i x)) n = 0
    rw [xsum_congr (g := fun _ => 0) (fun x hx => by rw [h0 x hx, Gf.zero_mul]), xsum_zero]
  rw [e0, h1] at e
  omega
end Go.Proofs.YtmncocmeafcpfaaDoor.Mf
