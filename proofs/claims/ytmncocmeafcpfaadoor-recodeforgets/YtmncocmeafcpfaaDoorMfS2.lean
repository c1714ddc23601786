/- The walk of the verifier's code; what the laws of stripe take. -/
import Derived.Test.YtmncocmeafcpfaaDoorMfS1
import Derived.Test.YtmncocmeafcpfaaDoorMfCn
namespace Go.Proofs.YtmncocmeafcpfaaDoor.Mf
open Go.RowKit Go.Deep

/-- The value v reads as la bytes f, with room for them. -/
def Bc (w : World) (v : Value) (la : Nat) (f : Nat → Nat) : Prop :=
  ∃ pa ba oa ca, v = .slice pa la ca ∧ (∀ k, k < la → pa = some ⟨ba, oa, none⟩) ∧ (∀ k, k < la → w.cell? ⟨ba, oa + k, none⟩ = some (.int .u8 ((f k : Nat) : Int))) ∧ (∀ k, f k < 256) ∧ la ≤ ca
theorem bc_of_ns {w : World} {v : Value} {n : Nat} {z : Nat → Int} (h : Ns .u8 w v n z) : ∃ f, Bc w v n f := by
  obtain ⟨f, hb⟩ := bs_of_ns h
  obtain ⟨pa, ba, oa, ca, h1, h2, h3, h4, _, h6⟩ := h
  obtain ⟨pa', ba', oa', ca', e1, e2, e3, e4⟩ := hb
  refine ⟨f, pa', ba', oa', ca', e1, e2, e3, e4, ?_⟩
  rw [h1] at e1
  have := congrArg (fun v => match v with | Value.slice _ _ c => c | _ => 0) e1
  simp only at this
  omega
end Go.Proofs.YtmncocmeafcpfaaDoor.Mf
