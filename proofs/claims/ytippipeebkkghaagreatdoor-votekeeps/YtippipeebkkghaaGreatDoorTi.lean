/- Drawn regions: operations that are not wanted. -/
import Derived.Test.YtippipeebkkghaaGreatDoorTh
namespace Go.Proofs.YtippipeebkkghaaGreatDoor
set_option linter.unusedVariables false
set_option linter.unusedSimpArgs false
open Go.RowKit Go.Deep

section
variable {P : Program} {md : Region.Mode} {ops : Array Oper} {Q : Exit → Act → World → Prop} {S : World → Prop}
theorem wanted_not {o : Oper} {f : Nat → Option Bool} {j : Nat} {b : Bool} (h : o.guard = some (j, b)) (hf : f j = some (!b)) : Region.wanted o f = false := by unfold Region.wanted; rw [h]; cases b <;> simp [hf]
/-- an operation that is not wanted is taken -/
theorem wpTake_stepU {K : Act → Prop} {i : Nat} {is : List Nat} {a : Act} (o : Oper) (d : Nat) (ho : (ops[i]?).map bare = some o) (hd : o.dst = some d) (hl : d < a.tmps.size) (hg : Region.wanted o (yielded ops a.tmps) = false)
    (h : ∀ a' : Act, a' = a.put (some d) undef → a'.tmps.size = a.tmps.size → a'.defers = a.defers → a'.eval (.tmp d) = undef → (∀ t, t ≠ d → a'.eval (.tmp t) = a.eval (.tmp t)) → wpTake P ops S K is a') : wpTake P ops S K (i :: is) a := by
  obtain ⟨o', ho', rfl⟩ := Option.map_eq_some_iff.1 ho
  obtain ⟨h1, h2, h3, h4⟩ := act_put a d undef hl
  refine ⟨o', undef, ho', Or.inr ⟨?_, rfl⟩, ?_⟩
  · have : Region.wanted (bare o') (yielded ops a.tmps) = Region.wanted o' (yielded ops a.tmps) := by cases o'; rfl
    rw [← this]; exact hg
  · have hd' : o'.dst = some d := hd
    rw [hd']
    exact h _ rfl h1 h2 h3 h4
/-- the one operation that may come up, guarded and not wanted -/
theorem wpAnyH_oneU {i fuel : Nat} {listed : Array Bool} {a : Act} {w : World} (o : Oper) (d : Nat) (hr : Region.ready md ops listed = [i]) (ho : (ops[i]?).map bare = some o) (hd : o.dst = some d) (hg : Region.wanted o (yielded ops a.tmps) = false) (hS : S w)
    (h : wpAnyH P md ops Q S fuel (listed.setIfInBounds i true) (a.put (some d) undef) w) : wpAnyH P md ops Q S (fuel + 1) listed a w := by
  obtain ⟨o', ho', rfl⟩ := Option.map_eq_some_iff.1 ho
  refine wpAnyH_ready hr (by simp) (AllReadyH.cons ho' (fun K' hK => ?_) AllReadyH.nil)
  have e : Region.wanted (bare o') (yielded ops a.tmps) = Region.wanted o' (yielded ops a.tmps) := by cases o'; rfl
  rw [e] at hg
  rw [if_neg (by rw [hg]; decide)]
  have hd' : o'.dst = some d := hd
  rw [hd']
  exact hK.out _ _ hS (fun _ => h)
end
end Go.Proofs.YtippipeebkkghaaGreatDoor
