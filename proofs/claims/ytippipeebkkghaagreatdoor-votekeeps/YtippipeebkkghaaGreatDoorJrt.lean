/- A shelf whose log may be written anew: Drop, Store. -/
import Derived.Test.YtippipeebkkghaaGreatDoorJrs
namespace Go.Proofs.YtippipeebkkghaaGreatDoor
set_option linter.unusedVariables false
set_option linter.unusedSimpArgs false
open Go.RowKit Go.Deep Go.Maps

theorem Wrd.mono {w' : World} {w0 w1 sh mp g bp d m gf s b N : Nat} {h : List Rc} {r : Rc} {Z : Nat → Prop} (x : Wrd w' w0 sh mp g bp d m gf s b N h r Z) (hw : w1 ≤ w0) : Wrd w' w1 sh mp g bp d m gf s b N h r Z := by
  obtain ⟨Z', gf', h', e, a, b, c, d⟩ := x
  exact ⟨Z', gf', h', e.imp id (fun e => Nat.le_trans hw e), a, b, c, fun v hv => (d v hv).imp id (fun e => Nat.le_trans hw e)⟩

section
variable {w : World} {Z : Nat → Prop} {sh mp g bp d m gf s b N : Nat} {h : List Rc}

end
end Go.Proofs.YtippipeebkkghaaGreatDoor
