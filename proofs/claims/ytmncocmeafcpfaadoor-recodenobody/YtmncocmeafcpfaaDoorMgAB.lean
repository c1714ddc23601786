/- Texts of this proof, joined: MfCav, MfRs, MfS0, MfBt. -/
import Derived.Test.YtmncocmeafcpfaaDoorMgAA
import Derived.Laws.BitsAllLaws
import Derived.WalkKit
/- Any K rows of a code's matrix have an inverse: the counting. No Go in sight. -/
namespace Go.Proofs.YtmncocmeafcpfaaDoor.Mf

/-- the matrix of a code of K data -/
def gen (K : Nat) : Nat → Nat → Nat := fun r c => if r < K then ones K r c else Gf.inv (r ^^^ c)

theorem nodup_lt : ∀ (K : Nat) (l : List Nat), l.Nodup → (∀ x, x ∈ l → x < K) → l.length ≤ K
  | 0, [], _, _ => Nat.le_refl _
  | 0, x :: _, _, h => absurd (h x (List.mem_cons_self ..)) (Nat.not_lt_zero _)
  | K + 1, l, hn, h => by
    by_cases hm : K ∈ l
    · have h1 := nodup_lt K (l.erase K) (hn.erase K) (fun x hx => by
        have := (hn.mem_erase_iff).1 hx
        have := h x this.2
        omega)
      rw [List.length_erase_of_mem hm] at h1
      have : 0 < l.length := List.length_pos_of_mem hm
      omega
    · have := nodup_lt K l hn (fun x hx => by
        have h1 := h x hx
        have : x ≠ K := fun e => hm (e ▸ hx)
        omega)
      omega
theorem filter_both (p : Nat → Bool) : ∀ l : List Nat, (l.filter p).length + (l.filter fun x => !p x).length = l.length
  | [] => rfl
  | x :: l => by
    have := filter_both p l
    cases h : p x <;> simp [h] <;> omega
theorem lsum_append (f : Nat → Nat) : ∀ a b, lsum f (a ++ b) = lsum f a ^^^ lsum f b
  | [], b => by simp [lsum]
  | x :: a, b => by simp only [List.cons_append, lsum]; rw [lsum_append f a b, Nat.xor_assoc]
theorem xsum_lsum (f : Nat → Nat) : ∀ n, xsum f n = lsum f (List.range n)
  | 0 => rfl
  | n + 1 => by rw [List.range_succ, lsum_append, ← xsum_lsum f n]; simp [xsum, lsum]
theorem lsum_filter (f : Nat → Nat) (p : Nat → Bool) : ∀ l : List Nat, (∀ y, y ∈ l → p y = false → f y = 0) → lsum f (l.filter p) = lsum f l
  | [], _ => rfl
  | y :: l, h => by
    have ih := lsum_filter f p l (fun z hz => h z (List.mem_cons_of_mem _ hz))
    cases hp : p y
    · rw [List.filter_cons_of_neg (by simp [hp]), ih]
      simp only [lsum]
      rw [h y (List.mem_cons_self ..) hp, Nat.zero_xor]
    · rw [List.filter_cons_of_pos hp]
      simp only [lsum]
      rw [ih]

/-- of which columns the unit row is picked -/
def picked (l : Nat → Nat) (K c : Nat) : Bool := (List.range K).any fun j => l j == c
theorem picked_iff {l : Nat → Nat} {K c : Nat} : picked l K c = true ↔ ∃ j, j < K ∧ l j = c := by
  unfold picked
  rw [List.any_eq_true]
  exact ⟨fun ⟨j, h1, h2⟩ => ⟨j, List.mem_range.1 h1, beq_iff_eq.1 h2⟩, fun ⟨j, h1, h2⟩ => ⟨j, List.mem_range.2 h1, beq_iff_eq.2 h2⟩⟩

theorem map_nodup {l : Nat → Nat} {K : Nat} (inc : ∀ j j', j < j' → j' < K → l j < l j') (p : Nat → Bool) : (((List.range K).filter p).map l).Nodup := by
  show List.Pairwise (fun a b => a ≠ b) _
  rw [List.pairwise_map]
  have h1 : List.Pairwise (fun a b => a < b) ((List.range K).filter p) := List.Pairwise.sublist List.filter_sublist List.pairwise_lt_range
  refine List.Pairwise.imp_of_mem (fun {a b} ha hb hab => ?_) h1
  have hb' := List.mem_range.1 (List.mem_filter.1 hb).1
  have := inc a b hab hb'
  omega

theorem any_kernel (K : Nat) (l : Nat → Nat) (hl : ∀ j, j < K → l j < 256) (hK : K ≤ 256) (inc : ∀ j j', j < j' → j' < K → l j < l j') (v : Nat → Nat) (hv : ∀ c, v c < 256)
    (h : ∀ j, j < K → prodTo (fun r => gen K (l r)) (fun x _ => v x) K j 0 = 0) : ∀ c, c < K → v c = 0 := by
  have hpick : ∀ c, c < K → picked l K c = true → v c = 0 := fun c hc hp => by
    obtain ⟨j, hj, e⟩ := picked_iff.1 hp
    have hz := h j hj
    unfold prodTo at hz
    rw [xsum_congr (g := fun x => Gf.mul (v x) (ones K c x)) (fun x _ => by dsimp only; unfold gen; rw [e, if_pos hc]),
      xsum_single (i := c) (fun x hx => by rw [ones_ne K c x hx, Gf.mul_zero]) hc, ones_self K c hc, Gf.mul_one _ (hv c)] at hz
    exact hz
  have hrest : ∀ c, c ∈ (List.range K).filter (fun c => !picked l K c) → v c = 0 := by
    refine cauchy ((List.range K).filter (fun c => !picked l K c)) (((List.range K).filter (fun j => !decide (l j < K))).map l) v hv ?_ ?_ (map_nodup inc _) ?_ ?_ ?_ ?_
    · intro x hx
      obtain ⟨j, hj, rfl⟩ := List.mem_map.1 hx
      exact hl j (List.mem_range.1 (List.mem_filter.1 hj).1)
    · intro y hy
      have := List.mem_range.1 (List.mem_filter.1 hy).1
      omega
    · exact List.Pairwise.sublist List.filter_sublist List.nodup_range
    · intro x hx y hy
      obtain ⟨j, hj, rfl⟩ := List.mem_map.1 hx
      have h1 := (List.mem_filter.1 hj).2
      have h2 := List.mem_range.1 (List.mem_filter.1 hy).1
      simp at h1
      omega
    · have hsel : (((List.range K).filter (fun j => decide (l j < K))).map l ++ (List.range K).filter (fun c => !picked l K c)).length ≤ K := by
        refine nodup_lt K _ ?_ ?_
        · refine List.nodup_append.2 ⟨map_nodup inc _, List.Pairwise.sublist List.filter_sublist List.nodup_range, fun a ha b hb e => ?_⟩
          subst e
          obtain ⟨j, hj, e⟩ := List.mem_map.1 ha
          have h1 := (List.mem_filter.1 hb).2
          have h2 : picked l K a = true := picked_iff.2 ⟨j, List.mem_range.1 (List.mem_filter.1 hj).1, e⟩
          rw [h2] at h1
          simp at h1
        · intro x hx
          rcases List.mem_append.1 hx with hx | hx
          · obtain ⟨j, hj, rfl⟩ := List.mem_map.1 hx
            have h1 := (List.mem_filter.1 hj).2
            simpa using h1
          · exact List.mem_range.1 (List.mem_filter.1 hx).1
      have hb := filter_both (fun j => decide (l j < K)) (List.range K)
      rw [List.length_append, List.length_map] at hsel
      rw [List.length_map]
      rw [List.length_range] at hb
      omega
    · intro x hx
      obtain ⟨j, hj, rfl⟩ := List.mem_map.1 hx
      have hjK := List.mem_range.1 (List.mem_filter.1 hj).1
      have h1 := (List.mem_filter.1 hj).2
      simp at h1
      have hz := h j hjK
      unfold prodTo at hz
      rw [xsum_congr (g := fun x => Gf.mul (v x) (Gf.inv (l j ^^^ x))) (fun x _ => by dsimp only; unfold gen; rw [if_neg (by omega)]), xsum_lsum] at hz
      rw [lsum_filter _ _ _ (fun y hy hp => ?_)]
      · exact hz
      · have hp' : picked l K y = true := by simpa using hp
        rw [hpick y (List.mem_range.1 hy) hp', Gf.zero_mul]
  intro c hc
  by_cases hp : picked l K c = true
  · exact hpick c hc hp
  · exact hrest c (List.mem_filter.2 ⟨List.mem_range.2 hc, by simpa using hp⟩)

theorem gen_lt (K r c : Nat) : gen K r c < 256 := by
  unfold gen; split
  · exact ones_lt _ _ _
  · exact Gf.mul_lt _ _
end Go.Proofs.YtmncocmeafcpfaaDoor.Mf

/- Shards, plain: what is encoded, what any K of them tell, what a turned byte does. No Go in sight. -/
namespace Go.Proofs.YtmncocmeafcpfaaDoor.Mf

/-- all shards of the data -/
def enc (K : Nat) (D : Nat → Nat → Nat) : Nat → Nat → Nat := fun i p => prodTo (gen K) D K i p
theorem enc_lt (K : Nat) (D : Nat → Nat → Nat) (i p : Nat) : enc K D i p < 256 := prodTo_lt _ _ _ _ _
theorem gen_ones {K i : Nat} (h : i < K) (c : Nat) : gen K i c = ones K i c := by unfold gen; rw [if_pos h]
theorem enc_data {K : Nat} {D : Nat → Nat → Nat} (hD : ∀ i j, D i j < 256) {i : Nat} (h : i < K) (p : Nat) : enc K D i p = D i p := by
  unfold enc
  rw [prodTo_congr (a' := ones K) (b' := D) (fun x _ => gen_ones h x) (fun _ _ => rfl)]
  exact ones_prod D hD K i p h
theorem enc_congr {K : Nat} {D D' : Nat → Nat → Nat} {p p' : Nat} (h : ∀ j, j < K → D j p = D' j p') (i : Nat) : enc K D i p = enc K D' i p' := by
  unfold enc prodTo
  exact xsum_congr (fun x hx => by rw [h x hx])
theorem enc_xor (K : Nat) (D D' : Nat → Nat → Nat) (i p : Nat) : enc K (fun j q => D j q ^^^ D' j q) i p = enc K D i p ^^^ enc K D' i p := by
  unfold enc prodTo
  rw [← xsum_xor]
  exact xsum_congr (fun x _ => by rw [Gf.mul_xor_left])
/-- the inverse of the rows that are there, times those shards, is the data -/
theorem back_data {K : Nat} {D : Nat → Nat → Nat} (hD : ∀ i j, D i j < 256) {l : Nat → Nat} {W : Nat → Nat → Nat} (hE : El (fun r => gen K (l r)) K K W) (i p : Nat) (hi : i < K) :
    prodTo (right W K) (fun j q => enc K D (l j) q) K i p = D i p := by
  have hg : ∀ i j, (fun r => gen K (l r)) i j < 256 := fun _ _ => gen_lt _ _ _
  have hW : ∀ i j, right W K i j < 256 := fun i j => (hE.keeps hg).byte _ _
  have e := prod_assoc (right W K) (fun r => gen K (l r)) D hW hg hD K K i p
  have e2 : prodTo (right W K) (fun j q => enc K D (l j) q) K i p = prodTo (right W K) (fun i k => prodTo (fun r => gen K (l r)) D K i k) K i p := rfl
  rw [e2, ← e]
  rw [prodTo_congr (a' := ones K) (b' := D) (fun x hx => (hE.inverse hg).2 i x hi hx) (fun _ _ => rfl)]
  exact ones_prod D hD K i p hi
/-- of any K shards all are told -/
theorem dec_all {K : Nat} {D : Nat → Nat → Nat} (hD : ∀ i j, D i j < 256) {l to : Nat → Nat} {W : Nat → Nat → Nat} (hE : El (fun r => gen K (l r)) K K W) (i p : Nat) :
    prodTo (fun i k => prodTo (fun r => gen K (to r)) (right W K) K i k) (fun j q => enc K D (l j) q) K i p = enc K D (to i) p := by
  have hg : ∀ i j, (fun r => gen K (l r)) i j < 256 := fun _ _ => gen_lt _ _ _
  have hW : ∀ i j, right W K i j < 256 := fun i j => (hE.keeps hg).byte _ _
  have hg2 : ∀ i j, (fun r => gen K (to r)) i j < 256 := fun _ _ => gen_lt _ _ _
  have hk : ∀ i j, (fun j q => enc K D (l j) q) i j < 256 := fun _ _ => enc_lt _ _ _ _
  have e := prod_assoc (fun r => gen K (to r)) (right W K) (fun j q => enc K D (l j) q) hg2 hW hk K K i p
  rw [e]
  exact prodTo_congr (a := fun r => gen K (to r)) (a' := fun r => gen K (to r)) (b' := D) (i := i) (k := p) (fun _ _ => rfl) (fun x hx => back_data hD hE x p hx)

theorem gen_ne {K i c : Nat} (h : K ≤ i) (hc : c < K) (hi : i < 256) : gen K i c ≠ 0 := by
  unfold gen
  rw [if_neg (by omega)]
  exact inv_ne (xor8 hi (by omega)) (xor_ne (by omega))
theorem mul_ne {a b : Nat} (ha : a < 256) (hb : b < 256) (a0 : a ≠ 0) (b0 : b ≠ 0) : Gf.mul a b ≠ 0 := fun h => a0 (mul_eq_zero ha hb h b0)
theorem xor_eq_self {a b : Nat} (h : a ^^^ b = a) : b = 0 := by
  have : a ^^^ (a ^^^ b) = a ^^^ a := by rw [h]
  rwa [← Nat.xor_assoc, Nat.xor_self, Nat.zero_xor] at this
/-- with one of the data turned each of the others' bytes there is another one -/
theorem enc_turned {K : Nat} {D D' : Nat → Nat → Nat} {k p v : Nat} (hk : k < K) (hv : v < 256) (v0 : v ≠ 0) (h1 : D' k p = D k p ^^^ v) (h2 : ∀ j, j < K → j ≠ k → D' j p = D j p) {i : Nat} (hi : K ≤ i) (hi2 : i < 256) :
    enc K D' i p ≠ enc K D i p := by
  have e : enc K D' i p = enc K D i p ^^^ Gf.mul v (gen K i k) := by
    have e1 : enc K D' i p = enc K (fun j q => D j q ^^^ (if j = k then v else 0)) i p := enc_congr (fun j hj => by
      by_cases e : j = k
      · subst e; simp [h1]
      · simp [e, h2 j hj e]) i
    rw [e1, enc_xor]
    congr 1
    unfold enc prodTo
    rw [xsum_single (i := k) (fun j hj => by simp [hj, Gf.zero_mul]) hk]
    simp
  intro hE
  rw [e] at hE
  exact mul_ne hv (gen_lt _ _ _) v0 (gen_ne hi hk hi2) (xor_eq_self hE)
end Go.Proofs.YtmncocmeafcpfaaDoor.Mf

/- Stripes, plain: how long shards are, where each byte of a blob stands. No Go in sight. -/
namespace Go.Proofs.YtmncocmeafcpfaaDoor.Mf

def stripesOf (K size : Nat) : Nat := max 1 ((size + K * 8 - 1) / (K * 8))
def lenOf (K size : Nat) : Nat := stripesOf K size * 8
theorem quot_le {K size : Nat} (hK : 1 ≤ K) (hs : size ≤ 400) : (size + K * 8 - 1) / (K * 8) ≤ 50 := by
  have h : (size + K * 8 - 1) / (K * 8) * (K * 8) ≤ size + K * 8 - 1 := Nat.div_mul_le_self _ _
  generalize (size + K * 8 - 1) / (K * 8) = q at h
  rcases Nat.lt_or_ge 50 q with hq | hq
  · have : 51 * (K * 8) ≤ q * (K * 8) := Nat.mul_le_mul_right _ hq
    omega
  · exact hq
theorem stripesOf_bd {K size : Nat} (hK : 1 ≤ K) (hs : size ≤ 400) : 1 ≤ stripesOf K size ∧ stripesOf K size ≤ 50 := by
  have := quot_le hK hs
  unfold stripesOf; omega
theorem lenOf_bd {K size : Nat} (hK : 1 ≤ K) (hs : size ≤ 400) : 8 ≤ lenOf K size ∧ lenOf K size ≤ 400 := by
  have := stripesOf_bd hK hs
  unfold lenOf; omega
theorem quot_eq {K size : Nat} (hK : 1 ≤ K) : ((size : Int) + (K : Int) * 8 - 1).tdiv ((K : Int) * 8) = (((size + K * 8 - 1) / (K * 8) : Nat) : Int) := by
  rw [show (size : Int) + (K : Int) * 8 - 1 = ((size + K * 8 - 1 : Nat) : Int) from by omega, show (K : Int) * 8 = ((K * 8 : Nat) : Int) from by omega]
  rfl
/-- in which shard byte i stands, and where -/
def seatK (K i : Nat) : Nat := i % (K * 8) / 8
def seatAt (K i : Nat) : Nat := i / (K * 8) * 8 + i % (K * 8) % 8
/-- which byte stands in shard j at p -/
def byteAt (K j p : Nat) : Nat := (p / 8 * K + j) * 8 + p % 8
theorem seatK_lt {K : Nat} (hK : 1 ≤ K) (i : Nat) : seatK K i < K := by
  have := Nat.mod_lt i (show 0 < K * 8 by omega)
  unfold seatK; omega
theorem byteAt_seat {K : Nat} (i : Nat) : byteAt K (seatK K i) (seatAt K i) = i := by
  unfold byteAt seatK seatAt
  have e1 : (i / (K * 8) * 8 + i % (K * 8) % 8) / 8 = i / (K * 8) := by omega
  have e2 : (i / (K * 8) * 8 + i % (K * 8) % 8) % 8 = i % (K * 8) % 8 := by omega
  rw [e1, e2]
  have h := Nat.div_add_mod i (K * 8)
  have e3 : (i / (K * 8) * K + i % (K * 8) / 8) * 8 = K * 8 * (i / (K * 8)) + i % (K * 8) / 8 * 8 := by
    rw [Nat.add_mul, Nat.mul_assoc, Nat.mul_comm (i / (K * 8)) (K * 8)]
  omega
theorem byte_split {K j p : Nat} (hj : j < K) : byteAt K j p / (K * 8) = p / 8 ∧ byteAt K j p % (K * 8) = j * 8 + p % 8 := by
  have e : byteAt K j p = (j * 8 + p % 8) + K * 8 * (p / 8) := by
    unfold byteAt
    rw [Nat.add_mul, Nat.mul_assoc, Nat.mul_comm (p / 8) (K * 8)]; omega
  have hl : j * 8 + p % 8 < K * 8 := by omega
  rw [e, Nat.add_mul_div_left _ _ (by omega), Nat.add_mul_mod_self_left, Nat.div_eq_of_lt hl, Nat.mod_eq_of_lt hl]
  omega
theorem seat_byte {K j p : Nat} (hj : j < K) : seatK K (byteAt K j p) = j ∧ seatAt K (byteAt K j p) = p := by
  obtain ⟨h1, h2⟩ := byte_split (p := p) hj
  unfold seatK seatAt
  rw [h1, h2]; omega
theorem byteAt_iff {K j p i : Nat} (hj : j < K) : byteAt K j p = i ↔ j = seatK K i ∧ p = seatAt K i := by
  constructor
  · rintro rfl
    obtain ⟨h1, h2⟩ := seat_byte (p := p) hj
    exact ⟨h1.symm, h2.symm⟩
  · rintro ⟨rfl, rfl⟩
    exact byteAt_seat i
theorem seatAt_lt {K size i : Nat} (hK : 1 ≤ K) (hi : i < size) : seatAt K i < lenOf K size := by
  unfold seatAt lenOf
  have h1 : i / (K * 8) + 1 ≤ (size + K * 8 - 1) / (K * 8) := by
    rw [Nat.le_div_iff_mul_le (by omega), Nat.add_mul, Nat.one_mul]
    have := Nat.div_mul_le_self i (K * 8)
    omega
  have h2 : i / (K * 8) + 1 ≤ stripesOf K size := by unfold stripesOf; omega
  omega
/-- the data, when cnt of the bytes f are dealt out -/
def cutAt (K : Nat) (f : Nat → Nat) (cnt : Nat) : Nat → Nat → Nat := fun j p => if byteAt K j p < cnt then f (byteAt K j p) else 0
theorem cutAt_zero (K : Nat) (f : Nat → Nat) : cutAt K f 0 = fun _ _ => 0 := by funext j p; simp [cutAt]
theorem cutAt_lt {f : Nat → Nat} (hf : ∀ i, f i < 256) (K cnt j p : Nat) : cutAt K f cnt j p < 256 := by
  unfold cutAt; split
  · exact hf _
  · omega
theorem cutAt_step (K : Nat) (f : Nat → Nat) (cnt : Nat) {j : Nat} (hj : j < K) (p : Nat) : (if j = seatK K cnt ∧ p = seatAt K cnt then f cnt else cutAt K f cnt j p) = cutAt K f (cnt + 1) j p := by
  unfold cutAt
  by_cases e : byteAt K j p = cnt
  · rw [if_pos ((byteAt_iff hj).1 e), if_pos (by omega), e]
  · rw [if_neg (fun h => e ((byteAt_iff hj).2 h))]
    by_cases h : byteAt K j p < cnt
    · rw [if_pos h, if_pos (by omega)]
    · rw [if_neg h, if_neg (by omega)]
theorem cutAt_seat (K : Nat) (f : Nat → Nat) {cnt i : Nat} (hi : i < cnt) : cutAt K f cnt (seatK K i) (seatAt K i) = f i := by
  unfold cutAt
  rw [byteAt_seat, if_pos hi]
theorem seat_eq {K i : Nat} (_hK : 1 ≤ K) : (i : Int).tdiv ((K : Int) * 8) = ((i / (K * 8) : Nat) : Int) ∧ (i : Int).tmod ((K : Int) * 8) = ((i % (K * 8) : Nat) : Int) := by
  rw [show (K : Int) * 8 = ((K * 8 : Nat) : Int) from by omega]
  exact ⟨rfl, rfl⟩
end Go.Proofs.YtmncocmeafcpfaaDoor.Mf

/- How the walk's bits read as natural numbers: the steps of the loops in galois. No Go text in sight, only the model's bits. -/
namespace Go.Proofs.YtmncocmeafcpfaaDoor.Mf
open Go.RowKit (wrap64)

theorem shr_cast (x k : Nat) : ((x : Int) / 2 ^ k) = ((x >>> k : Nat) : Int) := by
  rw [Nat.shiftRight_eq_div_pow]; simp

theorem rm_lt : ∀ k, k ≤ 15 → ∀ x, Gf.rm x k < 256 := by
  intro k
  induction k with
  | zero => intro _ x; simp [Gf.rm]
  | succ k ih =>
    intro hk x
    simp only [Gf.rm]
    have hp : ∀ k, k < 15 → Gf.pw k < 2 ^ 8 := by decide
    refine Nat.xor_lt_two_pow (n := 8) (ih (by omega) x) ?_
    rcases Gf.bit01 x k with e | e <;> simp [e]
    exact hp k (by omega)

theorem shr_lt (x k n : Nat) (h : x < n) : x >>> k < n := by
  rw [Nat.shiftRight_eq_div_pow]
  exact Nat.lt_of_le_of_lt (Nat.div_le_self _ _) h

theorem rem_step (x k : Nat) (hx : x < 32768) (hk : k < 15) :
    bits .xor .u8 (↑(Gf.rm x k)) (↑(Gf.pw k) * (bits .and .u64 ((x : Int) / 2 ^ k) 1 % 256) % 256) = ↑(Gf.rm x (k + 1)) := by
  have h1 := shr_lt x k _ hx
  rw [shr_cast, show (1 : Int) = ((1 : Nat) : Int) from rfl, u64_and_nat _ _ (by omega) (by omega)]
  have hp : ∀ k, k < 15 → Gf.pw k < 256 := by decide
  have hpk := hp k hk
  have hr := rm_lt k (by omega) x
  rcases Gf.bit01 x k with e | e
  · simp only [Gf.rm, e]
    rw [show ((Gf.pw k : Nat) : Int) * (((0 : Nat) : Int) % 256) % 256 = ((0 : Nat) : Int) from by simp, u8_xor_nat _ _ hr (by omega)]
    simp
  · simp only [Gf.rm, e]
    rw [show ((Gf.pw k : Nat) : Int) * (((1 : Nat) : Int) % 256) % 256 = ((Gf.pw k * 1 : Nat) : Int) from by omega, u8_xor_nat _ _ hr (by omega)]

theorem shl_lt (a k : Nat) (ha : a < 256) : a <<< k < 2 ^ (k + 8) := by
  rw [Nat.shiftLeft_eq, Nat.add_comm k 8, Nat.pow_add]
  exact Nat.mul_lt_mul_of_pos_right ha (Nat.two_pow_pos k)
theorem cl_lt (a b : Nat) (ha : a < 256) : ∀ k, Gf.cl a b k < 2 ^ (k + 7)
  | 0 => by simp [Gf.cl]
  | k + 1 => by
    simp only [Gf.cl]
    refine Nat.xor_lt_two_pow (n := k + 1 + 7) (Nat.lt_trans (cl_lt a b ha k) (Nat.pow_lt_pow_right (by omega) (by omega))) ?_
    have h := shl_lt a k ha
    rw [show k + 1 + 7 = k + 8 from by omega]
    rcases Gf.bit01 b k with e | e <;> simp [e]
    · exact Nat.lt_of_le_of_lt (Nat.zero_le _) h
    · exact h
theorem cl_lt8 (a b : Nat) (ha : a < 256) (k : Nat) (hk : k ≤ 8) : Gf.cl a b k < 32768 := by
  have h := cl_lt a b ha k
  have : 2 ^ (k + 7) ≤ 2 ^ 15 := Nat.pow_le_pow_right (by omega) (by omega)
  omega
theorem wrap_u64_nat (n : Nat) (h : n < 18446744073709551616) : IntKind.u64.wrap (n : Int) = n := by
  have : IntKind.u64.wrap (n : Int) = (n : Int) % 18446744073709551616 := by simp [IntKind.wrap, IntKind.bits, IntKind.signed]
  rw [this]; omega
theorem shl_cast (a k : Nat) : ((a : Int) * 2 ^ k) = ((a <<< k : Nat) : Int) := by
  rw [Nat.shiftLeft_eq]; simp
theorem shl_lt8 (a k : Nat) (ha : a < 256) (hk : k ≤ 7) : a <<< k < 32768 := by
  have h := shl_lt a k ha
  have : 2 ^ (k + 8) ≤ 2 ^ 15 := Nat.pow_le_pow_right (by omega) (by omega)
  omega
theorem mul_step (a b k : Nat) (ha : a < 256) (hb : b < 256) (hk : k < 8) :
    bits .xor .u64 (↑(Gf.cl a b k)) (IntKind.u64.wrap (IntKind.u64.wrap ((a : Int) * 2 ^ k) * IntKind.u64.wrap (bits .and .u8 ((b : Int) / 2 ^ k) 1))) = ↑(Gf.cl a b (k + 1)) := by
  have h1 := shr_lt b k _ hb
  have h2 := shl_lt8 a k ha (by omega)
  have h3 := cl_lt8 a b ha k (by omega)
  rw [shr_cast, shl_cast, show (1 : Int) = ((1 : Nat) : Int) from rfl, u8_and_nat _ _ h1 (by omega), wrap_u64_nat (a <<< k) (by omega)]
  simp only [Gf.cl]
  rcases Gf.bit01 b k with e | e
  · rw [e, wrap_u64_nat _ (by omega), ← Int.natCast_mul, wrap_u64_nat _ (by omega), u64_xor_nat _ _ (by omega) (by omega)]
  · rw [e, wrap_u64_nat _ (by omega), ← Int.natCast_mul, wrap_u64_nat _ (by omega), u64_xor_nat _ _ (by omega) (by omega)]
theorem wrap64_nat (n : Nat) (h : n < 9223372036854775808) : wrap64 (n : Int) = n := by
  unfold wrap64; omega
theorem wrap_i64_nat (n : Nat) (h : n < 9223372036854775808) : IntKind.i64.wrap (n : Int) = n := by
  rw [IntKind.wrap_i64]; omega
theorem i64_xor_nat (a b : Nat) (ha : a < 4611686018427387904) (hb : b < 4611686018427387904) : bits .xor .i64 (a : Int) (b : Int) = ((a ^^^ b : Nat) : Int) := by
  have hx : a ^^^ b < 2 ^ 62 := Nat.xor_lt_two_pow (by omega) (by omega)
  show IntKind.i64.wrap ((BitVec.ofInt 64 (a : Int) ^^^ BitVec.ofInt 64 (b : Int)).toNat : Int) = _
  rw [BitVec.toNat_xor, ofInt_u64 a (by omega), ofInt_u64 b (by omega), wrap_i64_nat _ (by omega)]
theorem i64_and_nat (a b : Nat) (ha : a < 9223372036854775808) (hb : b < 9223372036854775808) : bits .and .i64 (a : Int) (b : Int) = ((a &&& b : Nat) : Int) := by
  have hx : a &&& b < 2 ^ 63 := Nat.and_lt_two_pow _ (by omega)
  show IntKind.i64.wrap ((BitVec.ofInt 64 (a : Int) &&& BitVec.ofInt 64 (b : Int)).toNat : Int) = _
  rw [BitVec.toNat_and, ofInt_u64 a (by omega), ofInt_u64 b (by omega), wrap_i64_nat _ (by omega)]
theorem u8bit (b k : Nat) (hb : b < 256) : bits .and .u8 ((b : Int) / 2 ^ k) 1 = (((b >>> k) &&& 1 : Nat) : Int) := by
  rw [shr_cast, show (1 : Int) = ((1 : Nat) : Int) from rfl, u8_and_nat _ _ (shr_lt b k _ hb) (by omega)]
theorem i64bit (b k : Nat) (hb : b < 9223372036854775808) : bits .and .i64 ((b : Int) / 2 ^ k) 1 = (((b >>> k) &&& 1 : Nat) : Int) := by
  rw [shr_cast, show (1 : Int) = ((1 : Nat) : Int) from rfl, i64_and_nat _ _ (shr_lt b k _ hb) (by omega)]
theorem rmul_yes (a b k : Nat) (ha : a < 256) (hb : b < 256) (hk : k < 8) (h : (bits .and .u8 ((b : Int) / 2 ^ k) 1 == 1) = true) :
    bits .xor .i64 (↑(Gf.cl a b k)) (wrap64 ((a : Int) * 2 ^ k)) = ↑(Gf.cl a b (k + 1)) := by
  have h2 := shl_lt8 a k ha (by omega)
  have h3 := cl_lt8 a b ha k (by omega)
  rw [u8bit b k hb] at h
  have e : (b >>> k) &&& 1 = 1 := Int.natCast_inj.mp ((beq_iff_eq.1 h).trans rfl)
  rw [shl_cast, wrap64_nat _ (by omega), i64_xor_nat _ _ (by omega) (by omega)]
  simp only [Gf.cl, e, Nat.mul_one]
theorem rmul_no (a b k : Nat) (hb : b < 256) (h : (bits .and .u8 ((b : Int) / 2 ^ k) 1 == 1) = false) :
    Gf.cl a b k = Gf.cl a b (k + 1) := by
  rw [u8bit b k hb] at h
  have e : (b >>> k) &&& 1 = 0 := by
    rcases Gf.bit01 b k with e | e
    · exact e
    · rw [e] at h; simp at h
  simp [Gf.cl, e]
theorem red_yes (p j : Nat) (h1 : 1 ≤ j) (hj : j ≤ 7) (hp : p < 32768) (h : (bits .and .i64 ((p : Int) / 2 ^ (7 + j)) 1 == 1) = true) :
    bits .xor .i64 (p : Int) (wrap64 (285 * 2 ^ (7 + j - 8))) = ↑(p ^^^ (0x11d <<< (j - 1))) ∧ p ^^^ (0x11d <<< (j - 1)) < 32768 ∧ Gf.red p j = Gf.red (p ^^^ (0x11d <<< (j - 1))) (j - 1) := by
  obtain ⟨i, rfl⟩ : ∃ i, j = i + 1 := ⟨j - 1, by omega⟩
  rw [i64bit p _ (by omega)] at h
  have e : (p >>> (i + 8)) &&& 1 = 1 := by
    have : (p >>> (7 + (i + 1))) &&& 1 = 1 := Int.natCast_inj.mp ((beq_iff_eq.1 h).trans rfl)
    rwa [show 7 + (i + 1) = i + 8 from by omega] at this
  have hs : 285 <<< i < 2 ^ 15 := by
    have : ∀ i, i < 7 → 285 <<< i < 2 ^ 15 := by decide
    exact this i (by omega)
  refine ⟨?_, Nat.xor_lt_two_pow (n := 15) hp (by simpa using hs), ?_⟩
  · rw [show 7 + (i + 1) - 8 = i from by omega, show (285 : Int) = ((285 : Nat) : Int) from rfl, shl_cast, wrap64_nat _ (by omega), i64_xor_nat _ _ (by omega) (by omega)]
    simp
  · simp [Gf.red, e]
theorem red_no (p j : Nat) (h1 : 1 ≤ j) (hp : p < 32768) (h : (bits .and .i64 ((p : Int) / 2 ^ (7 + j)) 1 == 1) = false) :
    Gf.red p j = Gf.red p (j - 1) := by
  obtain ⟨i, rfl⟩ : ∃ i, j = i + 1 := ⟨j - 1, by omega⟩
  rw [i64bit p _ (by omega)] at h
  have e : (p >>> (i + 8)) &&& 1 = 0 := by
    have h' : ((((p >>> (i + 8)) &&& 1 : Nat) : Int) == 1) = false := by rwa [show 7 + (i + 1) = i + 8 from by omega] at h
    rcases Gf.bit01 p (i + 8) with e | e
    · exact e
    · rw [e] at h'; simp at h'
  simp [Gf.red, e]
end Go.Proofs.YtmncocmeafcpfaaDoor.Mf
