/- The law StripeCuts, called with what comes in. -/
import Derived.Test.YtnccnicgmjcdpaaDoorLct
import Derived.Test.YtnccnicgmjcdpaaDoorFt2
namespace Go.Proofs.YtnccnicgmjcdpaaDoor
open Go.ChangeShapes Go.WideShapes Go.ChangeAt Go.RowKit
theorem stripeCuts_call {w : World} {a : Option Addr} {len cap : Nat} {xs : List Nat} (a0 : Int) (_w0 : (Lit.int .i64 a0).wf = true) (a1 : Int) (_w1 : (Lit.int .i64 a1).wf = true) (a2 : Int) (_w2 : (Lit.int .i64 a2).wf = true) (h : Bl.Rb w a len xs) (hn : Hid (len ≤ 140737488355328)) (w' : World) (hw : w' = w) (hp : Pows w') :
    Calls Tryd.prog 3 #[.agg #[.int .i64 a0, .int .i64 a1], .int .i64 a2, .slice a len cap] w' fun e w'' => e = .returned (.bool true) ∧ Below w'.heap.size w' w'' := by
  subst hw
  have hl := h.len
  subst hl
  exact (cuts_walk a0 a1 a2 a cap xs w' h hn hp).mono fun e w'' ⟨he, hk⟩ => ⟨he, hk.below⟩
end Go.Proofs.YtnccnicgmjcdpaaDoor
