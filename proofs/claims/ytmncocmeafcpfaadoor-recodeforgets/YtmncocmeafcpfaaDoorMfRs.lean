/- Shards, plain: what is encoded, what any K of them tell, what a turned byte does. No Go in sight. -/
import Derived.Test.YtmncocmeafcpfaaDoorMfEl
import Derived.Test.YtmncocmeafcpfaaDoorMfCav
namespace Go.Proofs.YtmncocmeafcpfaaDoor.Mf

/-- all shards of the data -/
def enc (K : Nat) (D : Nat → Nat → Nat) : Nat → Nat → Nat := fun i p => prodTo (gen K) D K i p
theorem enc_lt (K : Nat) (D : Nat → Nat → Nat) (i p : Nat) : enc K D i p < 256 := prodTo_lt _ _ _ _ _
theorem gen_ones {K i : Nat} (h : i < K) (c : Nat) : gen K i c = ones K i c := by unfold gen; rw [if_pos h]
theorem enc_data {K : Nat} {D : Nat → Nat → Nat} (hD : ∀ i j, D i j < 256) {i : Nat} (h : i < K) (p : Nat) : enc K D i p = D i p := by
  unfold enc
  rw [prodTo_congr (a' := ones K) (b' := D) (fun x _ => gen_ones h x) (fun _ _ => rfl)]
  exact ones_prod D hD K i p h
theorem enc_congr {K : Nat} {D D' : Nat → Nat → Nat} {p p' : Nat} (h : ∀ j, j < K → D j p = D' j p') (i : Nat) : enc K D i p = enc K D' i p' := by
  unfold enc prodTo
  exact xsum_congr (fun x hx => by rw [h x hx])
theorem enc_xor (K : Nat) (D D' : Nat → Nat → Nat) (i p : Nat) : enc K (fun j q => D j q ^^^ D' j q) i p = enc K D i p ^^^ enc K D' i p := by
  unfold enc prodTo
  rw [← xsum_xor]
  exact xsum_congr (fun x _ => by rw [Gf.mul_xor_left])
/-- the inverse of the rows that are there, times those shards, is the data -/
theorem back_data {K : Nat} {D : Nat → Nat → Nat} (hD : ∀ i j, D i j < 256) {l : Nat → Nat} {W : Nat → Nat → Nat} (hE : El (fun r => gen K (l r)) K K W) (i p : Nat) (hi : i < K) :
    prodTo (right W K) (fun j q => enc K D (l j) q) K i p = D i p := by
  have hg : ∀ i j, (fun r => gen K (l r)) i j < 256 := fun _ _ => gen_lt _ _ _
  have hW : ∀ i j, right W K i j < 256 := fun i j => (hE.keeps hg).byte _ _
  have e := prod_assoc (right W K) (fun r => gen K (l r)) D hW hg hD K K i p
  have e2 : prodTo (right W K) (fun j q => enc K D (l j) q) K i p = prodTo (right W K) (fun i k => prodTo (fun r => gen K (l r)) D K i k) K i p := rfl
  rw [e2, ← e]
  rw [prodTo_congr (a' := ones K) (b' := D) (fun x hx => (hE.inverse hg).2 i x hi hx) (fun _ _ => rfl)]
  exact ones_prod D hD K i p hi
/-- of any K shards all are told -/
theorem dec_all {K : Nat} {D : Nat → Nat → Nat} (hD : ∀ i j, D i j < 256) {l to : Nat → Nat} {W : Nat → Nat → Nat} (hE : El (fun r => gen K (l r)) K K W) (i p : Nat) :
    prodTo (fun i k => prodTo (fun r => gen K (to r)) (right W K) K i k) (fun j q => enc K D (l j) q) K i p = enc K D (to i) p := by
  have hg : ∀ i j, (fun r => gen K (l r)) i j < 256 := fun _ _ => gen_lt _ _ _
  have hW : ∀ i j, right W K i j < 256 := fun i j => (hE.keeps hg).byte _ _
  have hg2 : ∀ i j, (fun r => gen K (to r)) i j < 256 := fun _ _ => gen_lt _ _ _
  have hk : ∀ i j, (fun j q => enc K D (l j) q) i j < 256 := fun _ _ => enc_lt _ _ _ _
  have e := prod_assoc (fun r => gen K (to r)) (right W K) (fun j q => enc K D (l j) q) hg2 hW hk K K i p
  rw [e]
  exact prodTo_congr (a := fun r => gen K (to r)) (a' := fun r => gen K (to r)) (b' := D) (i := i) (k := p) (fun _ _ => rfl) (fun x hx => back_data hD hE x p hx)

theorem gen_ne {K i c : Nat} (h : K ≤ i) (hc : c < K) (hi : i < 256) : gen K i c ≠ 0 := by
  unfold gen
  rw [if_neg (by omega)]
  exact inv_ne (xor8 hi (by omega)) (xor_ne (by omega))
theorem mul_ne {a b : Nat} (ha : a < 256) (hb : b < 256) (a0 : a ≠ 0) (b0 : b ≠ 0) : Gf.mul a b ≠ 0 := fun h => a0 (mul_eq_zero ha hb h b0)
theorem xor_eq_self {a b : Nat} (h : a ^^^ b = a) : b = 0 := by
  have : a ^^^ (a ^^^ b) = a ^^^ a := by rw [h]
  rwa [← Nat.xor_assoc, Nat.xor_self, Nat.zero_xor] at this
/-- with one of the data turned each of the others' bytes there is another one -/
theorem enc_turned {K : Nat} {D D' : Nat → Nat → Nat} {k p v : Nat} (hk : k < K) (hv : v < 256) (v0 : v ≠ 0) (h1 : D' k p = D k p ^^^ v) (h2 : ∀ j, j < K → j ≠ k → D' j p = D j p) {i : Nat} (hi : K ≤ i) (hi2 : i < 256) :
    enc K D' i p ≠ enc K D i p := by
  have e : enc K D' i p = enc K D i p ^^^ Gf.mul v (gen K i k) := by
    have e1 : enc K D' i p = enc K (fun j q => D j q ^^^ (if j = k then v else 0)) i p := enc_congr (fun j hj => by
      by_cases e : j = k
      · subst e; simp [h1]
      · simp [e, h2 j hj e]) i
    rw [e1, enc_xor]
    congr 1
    unfold enc prodTo
    rw [xsum_single (i := k) (fun j hj => by simp [hj, Gf.zero_mul]) hk]
    simp
  intro hE
  rw [e] at hE
  exact mul_ne hv (gen_lt _ _ _) v0 (gen_ne hi hk hi2) (xor_eq_self hE)
end Go.Proofs.YtmncocmeafcpfaaDoor.Mf
