/- The walk of the verifier's code; what the laws of stripe take. -/
import Derived.Test.YtokicnokinkpfaaDoorS1
import Derived.Test.YtokicnokinkpfaaDoorCn
namespace Go.Proofs.YtokicnokinkpfaaDoor
open Go.RowKit Go.Deep

set_option maxRecDepth 100000 in
set_option maxHeartbeats 800000 in
theorem code_any (k m : Int) (w : World) :
    Calls Tryd.prog 4 #[.int .i64 k, .int .i64 m] w fun e w' => e = .returned (.agg #[.int .i64 (kk12 k : Int), .int .i64 (mm6 m : Int)]) ∧ Kp (fun _ => False) w w' := by
  have HK : Hid (_ = _) := kk12_eq k
  have HM : Hid (_ = _) := mm6_eq m
  go_enter Tryd.func4, Tryd.ntmps4
  go_wp2
  rw [HK.out, HM.out]
  refine bodyPost_ret (v := .agg #[.int .i64 (kk12 k : Int), .int .i64 (mm6 m : Int)]) (by simp [results, Tryd.results4, go_sem]) rfl ?_
  exact ⟨rfl, (Kp.refl _ _).alloc _⟩

theorem codeX (k m : Int) : ∃ K M : Nat, (1 ≤ K ∧ K ≤ 12 ∧ M ≤ 5) ∧ ∀ w : World, Calls Tryd.prog 4 #[.int .i64 k, .int .i64 m] w fun e w' => e = .returned (.agg #[.int .i64 (K : Int), .int .i64 (M : Int)]) ∧ Kp (fun _ => False) w w' :=
  ⟨kk12 k, mm6 m, ⟨(kk12_bd k).1, (kk12_bd k).2, mm6_bd m⟩, code_any k m⟩

/-- The value v reads as la bytes f, with room for them. -/
def Bc (w : World) (v : Value) (la : Nat) (f : Nat → Nat) : Prop :=
  ∃ pa ba oa ca, v = .slice pa la ca ∧ (∀ k, k < la → pa = some ⟨ba, oa, none⟩) ∧ (∀ k, k < la → w.cell? ⟨ba, oa + k, none⟩ = some (.int .u8 ((f k : Nat) : Int))) ∧ (∀ k, f k < 256) ∧ la ≤ ca
theorem bc_of_ns {w : World} {v : Value} {n : Nat} {z : Nat → Int} (h : Ns .u8 w v n z) : ∃ f, Bc w v n f := by
  obtain ⟨f, hb⟩ := bs_of_ns h
  obtain ⟨pa, ba, oa, ca, h1, h2, h3, h4, _, h6⟩ := h
  obtain ⟨pa', ba', oa', ca', e1, e2, e3, e4⟩ := hb
  refine ⟨f, pa', ba', oa', ca', e1, e2, e3, e4, ?_⟩
  rw [h1] at e1
  have := congrArg (fun v => match v with | Value.slice _ _ c => c | _ => 0) e1
  simp only at this
  omega
end Go.Proofs.YtokicnokinkpfaaDoor
