/- Matrices as values: what the laws hand from call to call. -/
import Derived.Test.YtmncocmeafcpfaaDoorMfM3
import Derived.Test.YtmncocmeafcpfaaDoorMfM4
import Derived.Test.YtmncocmeafcpfaaDoorMfM5
import Derived.Test.YtmncocmeafcpfaaDoorMfM6
namespace Go.Proofs.YtmncocmeafcpfaaDoor.Mf
open Go.RowKit Go.Deep

/-- The value v reads as the n by m matrix M. -/
def Mx (w : World) (v : Value) (n m : Nat) (M : Nat → Nat → Nat) : Prop :=
  ∃ s : Sh, v = .slice s.g s.G s.cap ∧ Rd w s ∧ s.G = n ∧ (∀ r, r < n → s.L r = m) ∧ s.M = M
theorem Mx.keep {w w' : World} {v : Value} {n m : Nat} {M : Nat → Nat → Nat} (h : Mx w v n m M) (k : Kp (fun _ => False) w w') : Mx w' v n m M := by
  obtain ⟨s, h1, h2, h3, h4, h5⟩ := h
  exact ⟨s, h1, h2.keep k, h3, h4, h5⟩
theorem Mx.byte {w : World} {v : Value} {n m : Nat} {M : Nat → Nat → Nat} (h : Mx w v n m M) (i j : Nat) : M i j < 256 := by
  obtain ⟨s, _, h2, _, _, rfl⟩ := h
  exact h2.byte i j
theorem Mat.mx {w : World} {t : Nat} {B : Nat → Nat} {R C : Nat} {M : Nat → Nat → Nat} (h : Mat w t B R C M) : Mx w (.slice (some ⟨t, 0, none⟩) R R) R C M := ⟨ofMat t B R C M, rfl, h.rd, rfl, fun _ _ => rfl, rfl⟩
theorem Mt.mx {w : World} {t : Nat} {B : Nat → Nat} {R C : Nat} {M : Nat → Nat → Nat} (h : Mt w t B R C M) (cap : Nat) : Mx w (.slice (some ⟨t, 0, none⟩) R cap) R C M := ⟨ofMt t cap B R C M, rfl, h.rd cap, rfl, fun _ _ => rfl, rfl⟩

theorem isM_of {s : Sh} {n m : Nat} (h1 : s.G = n) (h2 : ∀ r, r < n → s.L r = m) (a : 1 ≤ n) (b : n ≤ 255) (c : 1 ≤ m) (d : m ≤ 255) : isM s = true :=
  decide_eq_true ⟨by omega, by omega, by rw [h2 0 (by omega)]; exact c, by rw [h2 0 (by omega)]; exact d, fun r hr => by rw [h2 r (by omega), h2 0 (by omega)]⟩

theorem mulX (a b : Value) (n m k : Nat) (A Bm : Nat → Nat → Nat) (w : World) (ha : Mx w a n m A) (hb : Mx w b m k Bm) (n1 : 1 ≤ n) (n2 : n ≤ 255) (m1 : 1 ≤ m) (m2 : m ≤ 255) (k1 : 1 ≤ k) (k2 : k ≤ 255) (hp : Pows w) :
    Calls Tryd.prog 125 #[a, b] w fun e w' => ∃ v, e = .returned (.tuple #[v, .int .i64 0]) ∧ Kp (fun _ => False) w w' ∧ Mx w' v n k (fun i j => prodTo A Bm m i j) := by
  obtain ⟨s, rfl, hs, rfl, hsL, rfl⟩ := ha
  obtain ⟨t, rfl, ht, rfl, htL, rfl⟩ := hb
  refine (mul_ok s t w hs ht (isM_of rfl hsL n1 n2 m1 m2) (isM_of rfl htL m1 m2 k1 k2) (hsL 0 (by omega)) hp).mono ?_
  rintro e w' ⟨rfl, hK, _, hM⟩
  rw [htL 0 (by omega)] at hM
  exact ⟨_, rfl, hK, hM.mx⟩

/-- The value v reads as la bytes f. -/
def Bs (w : World) (v : Value) (la : Nat) (f : Nat → Nat) : Prop :=
  ∃ pa ba oa ca, v = .slice pa la ca ∧ (∀ k, k < la → pa = some ⟨ba, oa, none⟩) ∧ (∀ k, k < la → w.cell? ⟨ba, oa + k, none⟩ = some (.int .u8 ((f k : Nat) : Int))) ∧ (∀ k, f k < 256)
theorem Bs.keep {w w' : World} {v : Value} {la : Nat} {f : Nat → Nat} (h : Bs w v la f) (k : Kp (fun _ => False) w w') : Bs w' v la f := by
  obtain ⟨pa, ba, oa, ca, h1, h2, h3, h4⟩ := h
  exact ⟨pa, ba, oa, ca, h1, h2, fun j hj => k.cellv (h3 j hj) id, h4⟩


/-- The value v reads as n numbers l. -/
def Ls (w : World) (v : Value) (n : Nat) (l : Nat → Nat) : Prop :=
  ∃ pa ba oa ca, v = .slice pa n ca ∧ (∀ k, k < n → pa = some ⟨ba, oa, none⟩) ∧ (∀ k, k < n → w.cell? ⟨ba, oa + k, none⟩ = some (.int .i64 ((l k : Nat) : Int)))

theorem rowsX (a v : Value) (n m k : Nat) (A : Nat → Nat → Nat) (l : Nat → Nat) (w : World) (ha : Mx w a n m A) (hl : Ls w v k l) (hb : ∀ j, j < k → l j < n) (n1 : 1 ≤ n) (n2 : n ≤ 255) (m1 : 1 ≤ m) (m2 : m ≤ 255) (k1 : 1 ≤ k) (k2 : k ≤ 255) :
    Calls Tryd.prog 123 #[a, v] w fun e w' => ∃ v', e = .returned (.tuple #[v', .int .i64 0]) ∧ Kp (fun _ => False) w w' ∧ Mx w' v' k m (fun r => A (l r)) := by
  obtain ⟨s, rfl, hs, rfl, hsL, rfl⟩ := ha
  obtain ⟨pa, ba, oa, ca, rfl, h1, h2⟩ := hl
  refine (rows_ok s pa ba oa k ca l w hs (isM_of rfl hsL n1 n2 m1 m2) h1 h2 hb (by omega) (by omega)).mono ?_
  rintro e w' ⟨B, rfl, hP⟩
  rw [hsL 0 (by omega)] at hP
  exact ⟨_, rfl, hP.kept, (hP.mat (fun i j => hs.byte _ _)).mx⟩

/-- how many each way: from 1 to 6 -/
def nn6 (n : Int) : Nat := 1 + ((n % 18446744073709551616) % 6).toNat
theorem nn6_bd (n : Int) : 1 ≤ nn6 n ∧ nn6 n ≤ 6 := by unfold nn6; omega
theorem nn6_eq (n : Int) : wrap64 (1 + wrap64 ((IntKind.u64.wrap n).tmod 6)) = (nn6 n : Int) := by
  have e : IntKind.u64.wrap n = n % 18446744073709551616 := by simp [IntKind.wrap, IntKind.bits, IntKind.signed]
  rw [e, Int.tmod_eq_emod_of_nonneg (by omega)]
  unfold wrap64 nn6; omega
end Go.Proofs.YtmncocmeafcpfaaDoor.Mf
