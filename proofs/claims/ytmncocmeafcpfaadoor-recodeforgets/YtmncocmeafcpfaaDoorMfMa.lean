/- The walk of the verifier's made: a small code, and the shards of data of a length. -/
import Derived.Test.YtmncocmeafcpfaaDoorMfR3
import Derived.Test.YtmncocmeafcpfaaDoorMfLan
import Derived.RegionTactic
namespace Go.Proofs.YtmncocmeafcpfaaDoor.Mf
open Go.RowKit Go.Deep

def nn10 (n : Int) : Nat := 1 + ((n % 18446744073709551616) % 10).toNat
theorem nn10_bd (n : Int) : 1 ≤ nn10 n ∧ nn10 n ≤ 10 := by unfold nn10; omega
theorem nn10_eq (n : Int) : wrap64 (1 + wrap64 ((IntKind.u64.wrap n).tmod 10)) = (nn10 n : Int) := by
  rw [u64_wrap, Int.tmod_eq_emod_of_nonneg (by omega)]
  unfold wrap64 nn10; omega

/-- one byte of a row that is made -/
theorem Part.setByte {w wr : World} {t n C r : Nat} {B : Nat → Nat} {M : Nat → Nat → Nat} (h : Part w wr t n C r B M) (ht : w.heap.size ≤ t) {i : Nat} (hi : i < r) (j x : Nat) :
    Part w (wr.setCell ⟨B i, j, none⟩ (.int .u8 ((x : Nat) : Int))) t n C r B (fun i' => if i' = i then (fun c => if c = j then x else M i c) else M i') := by
  have hlo := h.lo i hi
  refine ⟨h.kept.setCell (fun hh => absurd hh (by show ¬ B i < w.heap.size; omega)) _, h.top.setOther (by show t ≠ B i; omega) _, fun q hq => ?_, h.lo, h.inj⟩
  by_cases e : q = i
  · subst e
    refine ((h.row q hq).set j _).congr (fun c _ => ?_)
    simp only [By, if_true]
    split <;> rfl
  · refine ((h.row q hq).setOther (by show B q ≠ B i; exact fun e' => e (h.inj q i hq hi e')) _).congr (fun c _ => ?_)
    simp only [By, if_neg e]
theorem Part.drewN {w wr : World} {t n C r : Nat} {B : Nat → Nat} {M : Nat → Nat → Nat} (h : Part w wr t n C r B M) (m : Nat) : Part w (wr.drewN m) t n C r B M :=
  ⟨h.kept.drewN m, rowIs_drewN h.top m, fun j hj => rowIs_drewN (h.row j hj) m, h.lo, h.inj⟩
theorem Part.congr {w wr : World} {t n C r : Nat} {B : Nat → Nat} {M M' : Nat → Nat → Nat} (h : Part w wr t n C r B M) (e : ∀ i, i < r → ∀ c, c < C → M i c = M' i c) : Part w wr t n C r B M' :=
  ⟨h.kept, h.top, fun j hj => (h.row j hj).congr (fun c hc => by simp only [By]; rw [e j hj c hc]), h.lo, h.inj⟩
theorem Mat.mxTake {w : World} {t : Nat} {B : Nat → Nat} {R C : Nat} {M : Nat → Nat → Nat} (h : Mat w t B R C M) {r : Nat} (hr : r ≤ R) (cap : Nat) : Mx w (.slice (some ⟨t, 0, none⟩) r cap) r C M :=
  ⟨⟨some ⟨t, 0, none⟩, r, cap, t, 0, fun r => some ⟨B r, 0, none⟩, fun _ => C, fun _ => C, B, fun _ => 0, M⟩, rfl,
    ⟨fun _ => rfl, fun i hi => by have := h.top.cell (i := i) (by simp at hi; omega); simpa using this, fun _ _ _ _ => rfl, fun i hi c hc => by have := (h.row i (by simp at hi; omega)).cell hc; simpa using this, h.byte⟩, rfl, fun _ _ => rfl, rfl⟩

/-- the code in a variable of its own -/
theorem code_alloc (w : World) (K M : Int) : ∃ wa, wa = w.alloc (.cells #[.int .i64 K, .int .i64 M] 26) ∧ Kp (fun _ => False) w wa ∧ wa.heap.size = w.heap.size + 1 ∧ wa.cell? ⟨w.heap.size, 0, none⟩ = some (.int .i64 K) ∧ wa.cell? ⟨w.heap.size, 1, none⟩ = some (.int .i64 M) :=
  ⟨_, rfl, (Kp.refl _ _).alloc _, by simp, by go_simp, by go_simp⟩
end Go.Proofs.YtmncocmeafcpfaaDoor.Mf
