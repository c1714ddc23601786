/- matrix.Invert, as the laws take it. -/
import Derived.Test.YtmncocmeafcpfaaDoorMfM10
import Derived.Test.YtmncocmeafcpfaaDoorMfM7
namespace Go.Proofs.YtmncocmeafcpfaaDoor.Mf
open Go.RowKit Go.Deep

theorem invertX (a : Value) (n : Nat) (A : Nat → Nat → Nat) (w : World) (ha : Mx w a n n A) (h1 : 1 ≤ n) (h2 : n ≤ 255) (hp : Pows w) :
    Calls Tryd.prog 124 #[a] w fun e w' =>
      Kp (fun _ => False) w w' ∧ ((e = .returned (.tuple #[.slice none 0 0, .int .i64 20]) ∧ ∃ i W, i < n ∧ El A n i W ∧ NoPiv W n i) ∨
        ∃ t W, e = .returned (.tuple #[.slice (some ⟨t, 0, none⟩) n n, .int .i64 0]) ∧ El A n n W ∧ Mx w' (.slice (some ⟨t, 0, none⟩) n n) n n (right W n)) := by
  obtain ⟨s, rfl, hs, hG, hsL, rfl⟩ := ha
  have := invert_any s n w hs hG hsL (by omega) (by omega) hp
  rw [hG]
  refine this.mono ?_
  rintro e w' ⟨hK, ⟨rfl, h⟩ | ⟨t, B, W, rfl, hE, hM⟩⟩
  · exact ⟨hK, Or.inl ⟨rfl, h⟩⟩
  · exact ⟨hK, Or.inr ⟨t, W, rfl, hE, hM.mx⟩⟩

/-- a matrix of which two rows are the same has no inverse from the right -/
theorem twice_none {A E : Nat → Nat → Nat} {n p q : Nat} (hp : p < n) (hq : q < n) (hpq : p ≠ q) (h : ∀ c, A p c = A q c) (hE : ∀ r c, r < n → c < n → prodTo A E n r c = ones n r c) : False := by
  have e1 := hE p p hp hp
  have e2 := hE q p hq hp
  rw [ones_self n p hp] at e1
  rw [ones_ne n q p hpq] at e2
  have : prodTo A E n p p = prodTo A E n q p := xsum_congr (fun x _ => by rw [h x])
  omega
end Go.Proofs.YtmncocmeafcpfaaDoor.Mf
