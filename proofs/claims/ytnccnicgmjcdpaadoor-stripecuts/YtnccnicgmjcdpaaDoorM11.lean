/- matrix.Invert, as the laws take it. -/
import Derived.Test.YtnccnicgmjcdpaaDoorM10
import Derived.Test.YtnccnicgmjcdpaaDoorM7
namespace Go.Proofs.YtnccnicgmjcdpaaDoor
open Go.RowKit Go.Deep

/-- a matrix of which two rows are the same has no inverse from the right -/
theorem twice_none {A E : Nat → Nat → Nat} {n p q : Nat} (hp : p < n) (hq : q < n) (hpq : p ≠ q) (h : ∀ c, A p c = A q c) (hE : ∀ r c, r < n → c < n → prodTo A E n r c = ones n r c) : False := by
  have e1 := hE p p hp hp
  have e2 := hE q p hq hp
  rw [ones_self n p hp] at e1
  rw [ones_ne n q p hpq] at e2
  have : prodTo A E n p p = prodTo A E n q p := xsum_congr (fun x _ => by rw [h x])
  omega
end Go.Proofs.YtnccnicgmjcdpaaDoor
