/- The walk of the law ReedTurned: with a byte of one shard turned they are not right, if there are more than the data. -/
import Derived.Test.YtokicnokinkpfaaDoorMa
import Derived.Test.YtokicnokinkpfaaDoorR4
namespace Go.Proofs.YtokicnokinkpfaaDoor
open Go.RowKit Go.Deep

def modOf (x : Int) (n : Nat) : Nat := ((x % 18446744073709551616) % n).toNat
theorem modOf_lt (x : Int) {n : Nat} (h : 1 ≤ n) : modOf x n < n := by
  unfold modOf
  have h1 := Int.emod_nonneg (x % 18446744073709551616) (show (n : Int) ≠ 0 by omega)
  have h2 := Int.emod_lt_of_pos (x % 18446744073709551616) (show (0 : Int) < n by omega)
  omega
theorem modOf_eq (x : Int) {n : Nat} (h : 1 ≤ n) (_h2 : n ≤ 1000) : wrap64 ((IntKind.u64.wrap x).tmod (n : Int)) = (modOf x n : Int) := by
  rw [u64_wrap, Int.tmod_eq_emod_of_nonneg (by omega)]
  have h1 := Int.emod_nonneg (x % 18446744073709551616) (show (n : Int) ≠ 0 by omega)
  have h2 := Int.emod_lt_of_pos (x % 18446744073709551616) (show (0 : Int) < n by omega)
  unfold wrap64 modOf; omega
def byOf (x : Int) : Nat := 1 + ((x % 18446744073709551616) % 255).toNat
theorem byOf_bd (x : Int) : 1 ≤ byOf x ∧ byOf x < 256 := by unfold byOf; omega
theorem byOf_eq (x : Int) : IntKind.u8.wrap (IntKind.u64.wrap (1 + (IntKind.u64.wrap x).tmod 255)) = (byOf x : Int) := by
  rw [u64_wrap, u64_wrap, Int.tmod_eq_emod_of_nonneg (by omega), IntKind.wrap_u8']
  unfold byOf; omega
/-- a matrix of which one byte is turned -/
theorem Mat.setByte {w : World} {t : Nat} {B : Nat → Nat} {R C : Nat} {M : Nat → Nat → Nat} (h : Mat w t B R C M) {i : Nat} (hi : i < R) (j x : Nat) (hx : x < 256) :
    Mat (w.setCell ⟨B i, j, none⟩ (.int .u8 ((x : Nat) : Int))) t B R C (fun i' j' => if i' = i ∧ j' = j then x else M i' j') := by
  refine ⟨h.top.setOther (by show t ≠ B i; exact fun e => h.ne i hi e.symm) _, fun q hq => ?_, h.inj, h.ne, fun i' j' => ?_⟩
  · by_cases e : q = i
    · subst e
      refine ((h.row q hq).set j _).congr (fun c _ => ?_)
      by_cases e2 : c = j <;> simp [By, e2]
    · refine ((h.row q hq).setOther (by show B q ≠ B i; exact fun e' => e (h.inj q i hq hi e')) _).congr (fun c _ => ?_)
      simp [By, e]
  · split
    · exact hx
    · exact h.byte _ _
theorem Mat.drew {w : World} {t : Nat} {B : Nat → Nat} {R C : Nat} {M : Nat → Nat → Nat} (h : Mat w t B R C M) : Mat w.drew t B R C M := ⟨h.top, h.row, h.inj, h.ne, h.byte⟩
/-- a code word with one byte turned is none, if there are more than the data -/
theorem turned_not {K M N : Nat} {D : Nat → Nat → Nat} (hD : ∀ i j, D i j < 256) (hKM : K + M ≤ 255) {i p v : Nat} (hi : i < K + M) (hp : p < N) (hv : v < 256) (v0 : v ≠ 0) (hM : M ≠ 0) :
    ¬ ∀ q, q < K + M → ∀ c, c < N → enc K (fun i' j' => if i' = i ∧ j' = p then enc K D i p ^^^ v else enc K D i' j') q c = (fun i' j' => if i' = i ∧ j' = p then enc K D i p ^^^ v else enc K D i' j') q c := by
  intro h
  by_cases hiK : i < K
  · have e := h K (by omega) p hp
    dsimp only at e
    rw [if_neg (by omega)] at e
    have e2 : enc K (fun i' j' => if i' = i ∧ j' = p then enc K D i p ^^^ v else enc K D i' j') K p ≠ enc K D K p := by
      refine enc_turned (k := i) (v := v) hiK hv v0 ?_ (fun j hj hji => ?_) (Nat.le_refl K) (by omega)
      · simp only [and_self, if_true]; rw [enc_data hD hiK]
      · rw [if_neg (by omega)]; exact enc_data hD hj p
    exact e2 e
  · have e := h i hi p hp
    simp only [and_self, if_true] at e
    rw [enc_congr (D' := D) (p' := p) (fun j hj => by rw [if_neg (by omega)]; exact enc_data hD hj p)] at e
    exact v0 (xor_eq_self e.symm)

end Go.Proofs.YtokicnokinkpfaaDoor
