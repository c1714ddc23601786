/- The law MatrixPicks, called with what comes in. -/
import Derived.Test.YtolgpepnjinfgacDoorLpk
import Derived.Test.YtolgpepnjinfgacDoorCn
namespace Go.Proofs.YtolgpepnjinfgacDoor
open Go.ChangeShapes Go.WideShapes Go.ChangeAt Go.RowKit
theorem matrixPicks_call {w : World} {a l : Value} {la ll : Nat} {za zl : Nat → Int} (ha : Ns .u8 w a la za) (n : Int) (_wn : (Lit.int .i64 n).wf = true) (hl : Ns .i64 w l ll zl) (w' : World) (hw : w' = w) (hp : Pows w') :
    Calls Tryd.prog 4 #[a, .int .i64 n, l] w' fun e w'' => e = .returned (.bool true) ∧ Below w'.heap.size w' w'' := by
  subst hw
  obtain ⟨fa, ha⟩ := bs_of_ns ha
  obtain ⟨pl, bl, ol, cl, rfl, h1, h2, _, _, hc⟩ := hl
  by_cases h0 : ll = 0
  · subst h0
    exact (picks_none a la fa n pl cl zl w' ha hp).mono fun e w'' ⟨he, hk⟩ => ⟨he, hk.below⟩
  · obtain rfl := h1 0 (by omega)
    by_cases h : 20 < (ll : Int)
    · exact (picks_many a la fa n bl ol ll cl zl w' ha h2 (by omega) h hp).mono fun e w'' ⟨he, hk⟩ => ⟨he, hk.below⟩
    · exact (picks_some a la fa n bl ol ll cl zl w' ha h2 (by omega) (by omega) hp).mono fun e w'' ⟨he, hk⟩ => ⟨he, hk.below⟩
end Go.Proofs.YtolgpepnjinfgacDoor
