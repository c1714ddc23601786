/- Regions that draw their order: many operations that read are taken at once. -/
import Derived.Test.YtippipeebkkghaaGreatDoorKb
namespace Go.Proofs.YtippipeebkkghaaGreatDoor
open Go.RowKit Go.Deep

section
variable {P : Program} {md : Region.Mode} {ops : Array Oper} {Q : Exit → Act → World → Prop} {S : World → Prop}
/-- these may be taken first, in this order -/
def takeB (md : Region.Mode) (ops : Array Oper) : List Nat → Array Bool → Bool
  | [], _ => true
  | i :: is, listed => (Region.ready md ops listed).contains i && (Region.free md ops listed i && takeB md ops is (listed.setIfInBounds i true))
def mark : List Nat → Array Bool → Array Bool
  | [], listed => listed
  | i :: is, listed => mark is (listed.setIfInBounds i true)
/-- each of these yields its value in every world of which S holds -/
def wpTake (P : Program) (ops : Array Oper) (S : World → Prop) (K : Act → Prop) : List Nat → Act → Prop
  | [], a => K a
  | i :: is, a => ∃ o v, ops[i]? = some o ∧ YieldsIf P ops S o v a ∧ wpTake P ops S K is (a.put o.dst v)
theorem wpTake_cons {K : Act → Prop} {i : Nat} {is : List Nat} {o : Oper} {v : Value} {a : Act} (hi : ops[i]? = some o) (hy : YieldsIf P ops S o v a) (h : wpTake P ops S K is (a.put o.dst v)) : wpTake P ops S K (i :: is) a := ⟨o, v, hi, hy, h⟩
theorem wpTake_nil {K : Act → Prop} {a : Act} (h : K a) : wpTake P ops S K [] a := h
theorem wpAnyH_takes {w : World} (hs : Region.noSelect ops = true) (hQ : ∀ d v c a w, Q (.panic c) (a.put d v) w → Q (.panic c) a w) (hS : S w) :
    ∀ (is : List Nat) (fuel : Nat) (listed : Array Bool) (a : Act), takeB md ops is listed = true → wpTake P ops S (fun a' => wpAnyH P md ops Q S fuel (mark is listed) a' w) is a → wpAnyH P md ops Q S (fuel + is.length) listed a w
  | [], fuel, listed, a, _, h => h
  | i :: is, fuel, listed, a, hB, h => by
    obtain ⟨o, v, hi, hy, h⟩ := h
    simp only [takeB, Bool.and_eq_true] at hB
    show wpAnyH P md ops Q S ((fuel + is.length) + 1) listed a w
    exact wpAnyH_take hi hs hB.2.1 hB.1 (fun c a w => hQ _ _ c a w) hy hS (wpAnyH_takes hs hQ hS is fuel _ _ hB.2.2 h)
/-- an operation without what it waits for -/
def bare (o : Oper) : Oper := { o with after := #[], pos := "" }
theorem exec_bare (ev : Operand → Value) (o : Oper) : execOp ev (bare o) = execOp ev o := by cases o; rfl
/-- as wpTake, of operations written out -/
def wpTk (P : Program) (S : World → Prop) (K : Act → Prop) : List Oper → Act → Prop
  | [], a => K a
  | o :: l, a => ∃ v, (∀ w, S w → (execOp a.eval o).run P w = .ok (.value v) w) ∧ wpTk P S K l (a.put o.dst v)
theorem wpTk_cons {K : Act → Prop} {o : Oper} {l : List Oper} {a : Act} (v : Value) (hy : ∀ w, S w → (execOp a.eval o).run P w = .ok (.value v) w) (h : wpTk P S K l (a.put o.dst v)) : wpTk P S K (o :: l) a := ⟨v, hy, h⟩
theorem wpTk_nil {K : Act → Prop} {a : Act} (h : K a) : wpTk P S K [] a := h
theorem wpTake_of_tk {K : Act → Prop} : ∀ (is : List Nat) (os : List Oper) (a : Act), is.map (fun i => (ops[i]?).map bare) = os.map some → os.all (·.guard.isNone) = true → wpTk P S K os a → wpTake P ops S K is a
  | [], [], a, _, _, h => h
  | [], _ :: _, _, h, _, _ => by cases h
  | _ :: _, [], _, h, _, _ => by cases h
  | i :: is, o :: os, a, h, hg, hw => by
    simp only [List.map_cons, List.cons.injEq] at h
    obtain ⟨h1, h2⟩ := h
    obtain ⟨o', ho', rfl⟩ := Option.map_eq_some_iff.1 h1
    simp only [List.all_cons, Bool.and_eq_true, Option.isNone_iff_eq_none] at hg
    obtain ⟨v, hy, hw⟩ := hw
    have hgo : o'.guard = none := hg.1
    refine ⟨o', v, ho', Or.inl ⟨by unfold Region.wanted; rw [hgo], fun w hS => ?_⟩, wpTake_of_tk is os _ h2 hg.2 hw⟩
    have := hy w hS
    rwa [exec_bare] at this
theorem wpAnyH_tk {w : World} (hs : Region.noSelect ops = true) (hQ : ∀ d v c a w, Q (.panic c) (a.put d v) w → Q (.panic c) a w) (hS : S w)
    (is : List Nat) (os : List Oper) (fuel : Nat) (listed : Array Bool) (a : Act) (ho : is.map (fun i => (ops[i]?).map bare) = os.map some) (hg : os.all (·.guard.isNone) = true) (hB : takeB md ops is listed = true)
    (h : ∀ K : Act → Prop, Shut (∀ a', wpAnyH P md ops Q S fuel (mark is listed) a' w → K a') → wpTk P S K os a) : wpAnyH P md ops Q S (fuel + is.length) listed a w :=
  wpAnyH_takes hs hQ hS is fuel listed a hB (wpTake_of_tk is os a ho hg (h _ (fun _ h => h)))
theorem act_put (a : Act) (d : Nat) (v : Value) (hd : d < a.tmps.size) : (a.put (some d) v).tmps.size = a.tmps.size ∧ (a.put (some d) v).defers = a.defers ∧ (a.put (some d) v).eval (.tmp d) = v ∧ ∀ t, t ≠ d → (a.put (some d) v).eval (.tmp t) = a.eval (.tmp t) := by
  refine ⟨by simp [Act.put], rfl, ?_, fun t ht => ?_⟩
  · show (a.tmps.setIfInBounds d v).getD d undef = v
    simp [hd]
  · show (a.tmps.setIfInBounds d v).getD t undef = a.tmps.getD t undef
    simp [Array.getElem?_setIfInBounds_ne (fun e => ht e.symm)]
theorem wpTk_step {K : Act → Prop} {o : Oper} {l : List Oper} {a : Act} (d : Nat) (v : Value) (ho : o.dst = some d) (hd : d < a.tmps.size) (hy : ∀ w, S w → (execOp a.eval o).run P w = .ok (.value v) w)
    (h : ∀ a' : Act, a'.tmps.size = a.tmps.size → a'.defers = a.defers → a'.eval (.tmp d) = v → (∀ t, t ≠ d → a'.eval (.tmp t) = a.eval (.tmp t)) → wpTk P S K l a') : wpTk P S K (o :: l) a := by
  obtain ⟨h1, h2, h3, h4⟩ := act_put a d v hd
  exact ⟨v, hy, by rw [ho]; exact h _ h1 h2 h3 h4⟩
theorem wp_bare (o : Oper) (a : Act) (w : World) (K : Act → World → Prop) : Oper.wp P (bare o) a w K Q = Oper.wp P o a w K Q := by cases o; rfl
/-- the one operation that may come up is run -/
theorem wpAnyH_one {i fuel : Nat} {listed : Array Bool} {a : Act} {w : World} (o : Oper) (hr : Region.ready md ops listed = [i]) (ho : (ops[i]?).map bare = some o) (hg : o.guard = none)
    (h : ∀ K' : Act → World → Prop, Shut (∀ a' w', S w' → wpAnyH P md ops Q S fuel (listed.setIfInBounds i true) a' w' → K' a' w') → Oper.wp P o a w K' Q) : wpAnyH P md ops Q S (fuel + 1) listed a w := by
  obtain ⟨o', ho', rfl⟩ := Option.map_eq_some_iff.1 ho
  refine wpAnyH_ready hr (by simp) (AllReadyH.cons ho' (fun K' hK => ?_) AllReadyH.nil)
  have hgo : o'.guard = none := hg
  rw [if_pos (by unfold Region.wanted; rw [hgo])]
  have := h K' (fun a' w' hS hW => hK.out a' w' hS (fun _ => hW))
  rwa [wp_bare] at this
/-- the one operation that may come up yields v -/
theorem wpAnyH_run {i fuel : Nat} {listed : Array Bool} {a : Act} {w : World} (o : Oper) (d : Option Tmp) (v : Value) (w1 : World) (hr : Region.ready md ops listed = [i]) (ho : (ops[i]?).map bare = some o) (hg : o.guard = none) (hd : o.dst = d)
    (hrun : (execOp a.eval o).run P w = .ok (.value v) w1) (hS : S w1) (h : wpAnyH P md ops Q S fuel (listed.setIfInBounds i true) (a.put d v) w1) : wpAnyH P md ops Q S (fuel + 1) listed a w := by
  refine wpAnyH_one o hr ho hg (fun K' hK => ?_)
  unfold Oper.wp
  rw [hrun, Oper.upon_value, hd]
  exact hK.out _ _ hS h
theorem wpAnyH_skip {i fuel : Nat} {listed : Array Bool} {a : Act} {w : World} (o : Oper) (w1 : World) (hr : Region.ready md ops listed = [i]) (ho : (ops[i]?).map bare = some o) (hg : o.guard = none) (hd : o.dst = none)
    (hrun : (execOp a.eval o).run P w = .ok .skip w1) (hS : S w1) (h : wpAnyH P md ops Q S fuel (listed.setIfInBounds i true) a w1) : wpAnyH P md ops Q S (fuel + 1) listed a w := by
  refine wpAnyH_one o hr ho hg (fun K' hK => ?_)
  unfold Oper.wp
  rw [hrun, Oper.upon_skip, hd]
  exact hK.out _ _ hS h
/-- one of two operations comes up -/
theorem wpAnyH_two {i j fuel : Nat} {listed : Array Bool} {a : Act} {w : World} (o : Oper) (o2 : Oper) (hr : Region.ready md ops listed = [i, j]) (ho : (ops[i]?).map bare = some o) (ho2 : (ops[j]?).map bare = some o2) (hg : o.guard = none) (hg2 : o2.guard = none)
    (h : ∀ K' : Act → World → Prop, Shut (∀ a' w', S w' → wpAnyH P md ops Q S fuel (listed.setIfInBounds i true) a' w' → K' a' w') → Oper.wp P o a w K' Q)
    (h2 : ∀ K' : Act → World → Prop, Shut (∀ a' w', S w' → wpAnyH P md ops Q S fuel (listed.setIfInBounds j true) a' w' → K' a' w') → Oper.wp P o2 a w K' Q) : wpAnyH P md ops Q S (fuel + 1) listed a w := by
  obtain ⟨o', ho', rfl⟩ := Option.map_eq_some_iff.1 ho
  obtain ⟨o2', ho2', rfl⟩ := Option.map_eq_some_iff.1 ho2
  have hgo : o'.guard = none := hg
  have hgo2 : o2'.guard = none := hg2
  refine wpAnyH_ready hr (by simp) (AllReadyH.cons ho' (fun K' hK => ?_) (AllReadyH.cons ho2' (fun K' hK => ?_) AllReadyH.nil))
  · rw [if_pos (by unfold Region.wanted; rw [hgo])]
    have := h K' (fun a' w' hS hW => hK.out a' w' hS (fun _ => hW))
    rwa [wp_bare] at this
  · rw [if_pos (by unfold Region.wanted; rw [hgo2])]
    have := h2 K' (fun a' w' hS hW => hK.out a' w' hS (fun _ => hW))
    rwa [wp_bare] at this
theorem wp_value {o : Oper} {a : Act} {w w1 : World} {K : Act → World → Prop} {v : Value} (hrun : (execOp a.eval o).run P w = .ok (.value v) w1) (h : K (a.put o.dst v) w1) : Oper.wp P o a w K Q := by
  unfold Oper.wp
  rw [hrun, Oper.upon_value]
  exact h
end
end Go.Proofs.YtippipeebkkghaaGreatDoor
