/- Regions that draw their order: guarded operations that are wanted; calls. (Over Tk.) -/
import Derived.Test.YtippipeebkkghaaGreatDoorTk
namespace Go.Proofs.YtippipeebkkghaaGreatDoor
open Go.RowKit Go.Deep

section
variable {P : Program} {md : Region.Mode} {ops : Array Oper} {Q : Exit → Act → World → Prop} {S : World → Prop}
theorem yielded_of {a : Act} {j d : Nat} {b : Bool} {oj : Oper} (hj : (ops[j]?).map bare = some oj) (hd : oj.dst = some d) (he : a.eval (.tmp d) = .bool b) (hs : d < a.tmps.size) : yielded ops a.tmps j = some b := by
  obtain ⟨o', ho', rfl⟩ := Option.map_eq_some_iff.1 hj
  have hd' : o'.dst = some d := hd
  have he' : a.tmps[d]? = some (.bool b) := by
    have h2 : a.tmps.getD d undef = .bool b := he
    rw [Array.getD_eq_getD_getElem?, Array.getElem?_eq_getElem hs] at h2
    rw [Array.getElem?_eq_getElem hs]
    exact congrArg some h2
  unfold yielded
  rw [ho']
  simp [hd', he']
theorem wanted_none {o : Oper} {f : Nat → Option Bool} (h : o.guard = none) : Region.wanted o f = true := by unfold Region.wanted; rw [h]
theorem wanted_some {o : Oper} {f : Nat → Option Bool} {j : Nat} {b : Bool} (h : o.guard = some (j, b)) (hf : f j = some b) : Region.wanted o f = true := by unfold Region.wanted; rw [h]; simp [hf]
/-- a quiet operation is taken -/
theorem wpTake_stepE {K : Act → Prop} {i : Nat} {is : List Nat} {a : Act} (o : Oper) (d : Nat) (v : Value) (ho : (ops[i]?).map bare = some o) (hd : o.dst = some d) (hl : d < a.tmps.size) (hg : Region.wanted o (yielded ops a.tmps) = true)
    (hy : ∀ w, S w → (execOp a.eval o).run P w = .ok (.value v) w)
    (h : ∀ a' : Act, a' = a.put (some d) v → a'.tmps.size = a.tmps.size → a'.defers = a.defers → a'.eval (.tmp d) = v → (∀ t, t ≠ d → a'.eval (.tmp t) = a.eval (.tmp t)) → wpTake P ops S K is a') : wpTake P ops S K (i :: is) a := by
  obtain ⟨o', ho', rfl⟩ := Option.map_eq_some_iff.1 ho
  obtain ⟨h1, h2, h3, h4⟩ := act_put a d v hl
  refine ⟨o', v, ho', Or.inl ⟨?_, fun w hS => ?_⟩, ?_⟩
  · have : Region.wanted (bare o') (yielded ops a.tmps) = Region.wanted o' (yielded ops a.tmps) := by cases o'; rfl
    rw [← this]; exact hg
  · have := hy w hS
    rwa [exec_bare] at this
  · have hd' : o'.dst = some d := hd
    rw [hd']
    exact h _ rfl h1 h2 h3 h4
/-- the one operation that may come up, guarded and wanted, is run -/
theorem wpAnyH_oneG {i fuel : Nat} {listed : Array Bool} {a : Act} {w : World} (o : Oper) (hr : Region.ready md ops listed = [i]) (ho : (ops[i]?).map bare = some o) (hg : Region.wanted o (yielded ops a.tmps) = true)
    (h : ∀ K' : Act → World → Prop, Shut (∀ a' w', S w' → wpAnyH P md ops Q S fuel (listed.setIfInBounds i true) a' w' → K' a' w') → Oper.wp P o a w K' Q) : wpAnyH P md ops Q S (fuel + 1) listed a w := by
  obtain ⟨o', ho', rfl⟩ := Option.map_eq_some_iff.1 ho
  refine wpAnyH_ready hr (by simp) (AllReadyH.cons ho' (fun K' hK => ?_) AllReadyH.nil)
  have e : Region.wanted (bare o') (yielded ops a.tmps) = Region.wanted o' (yielded ops a.tmps) := by cases o'; rfl
  rw [e] at hg
  rw [if_pos hg]
  have := h K' (fun a' w' hS hW => hK.out a' w' hS (fun _ => hW))
  rwa [wp_bare] at this
/-- a call, by its contract -/
theorem wp_enter {o : Oper} {a : Act} {w : World} {K : Act → World → Prop} {f : FuncId} {args : Array Value} {R : Ending → World → Prop} (hrun : (execOp a.eval o).run P w = .ok (.enter f args) w) (hc : Calls P f args w R)
    (h : ∀ e w', R e w' → ∃ v, e = .returned v ∧ K (a.put o.dst v) w') : Oper.wp P o a w K Q := by
  unfold Oper.wp
  rw [hrun, Oper.upon_enter]
  refine hc.mono ?_
  intro e w' hR
  obtain ⟨v, rfl, hk⟩ := h e w' hR
  exact hk
theorem enter_run {ev : Operand → Value} {g : Option (Nat × Bool)} {d : Option Tmp} {fn : FuncId} {xs : Array Operand} {ts : Array TypeId} {ty : TypeId} {z : World} (args : Array Value) (hf : ev (.func fn) = .func (.func fn) #[] #[]) (ha : xs.map ev = args) (hE : ∀ u : World, (callFunc fn args).run Tryz.prog u = .ok (.enter fn args) u) :
    (execOp ev ⟨d, Op.call { callee := Callee.value (Operand.func fn), args := xs, argTypes := ts }, ty, "", #[], g⟩).run Tryz.prog z = .ok (.enter fn args) z := by
  unfold execOp
  simp only [resolve, hf, ha]
  simp [invoke, Deferred.ofValue, hE]
end
end Go.Proofs.YtippipeebkkghaaGreatDoor
