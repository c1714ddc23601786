/- Texts of this proof, joined: Tk, Th, Wm. -/
import Derived.Test.YtmooddbhcccicaaGreatDoorMgAA
/- Regions that draw their order: many operations that read are taken at once. -/
namespace Go.Proofs.YtmooddbhcccicaaGreatDoor
open Go.RowKit Go.Deep

section
variable {P : Program} {md : Region.Mode} {ops : Array Oper} {Q : Exit → Act → World → Prop} {S : World → Prop}
/-- these may be taken first, in this order -/
def takeB (md : Region.Mode) (ops : Array Oper) : List Nat → Array Bool → Bool
  | [], _ => true
  | i :: is, listed => (Region.ready md ops listed).contains i && (Region.free md ops listed i && takeB md ops is (listed.setIfInBounds i true))
def mark : List Nat → Array Bool → Array Bool
  | [], listed => listed
  | i :: is, listed => mark is (listed.setIfInBounds i true)
/-- each of these yields its value in every world of which S holds -/
def wpTake (P : Program) (ops : Array Oper) (S : World → Prop) (K : Act → Prop) : List Nat → Act → Prop
  | [], a => K a
  | i :: is, a => ∃ o v, ops[i]? = some o ∧ YieldsIf P ops S o v a ∧ wpTake P ops S K is (a.put o.dst v)
theorem wpTake_cons {K : Act → Prop} {i : Nat} {is : List Nat} {o : Oper} {v : Value} {a : Act} (hi : ops[i]? = some o) (hy : YieldsIf P ops S o v a) (h : wpTake P ops S K is (a.put o.dst v)) : wpTake P ops S K (i :: is) a := ⟨o, v, hi, hy, h⟩
theorem wpTake_nil {K : Act → Prop} {a : Act} (h : K a) : wpTake P ops S K [] a := h
theorem wpAnyH_takes {w : World} (hs : Region.noSelect ops = true) (hQ : ∀ d v c a w, Q (.panic c) (a.put d v) w → Q (.panic c) a w) (hS : S w) :
    ∀ (is : List Nat) (fuel : Nat) (listed : Array Bool) (a : Act), takeB md ops is listed = true → wpTake P ops S (fun a' => wpAnyH P md ops Q S fuel (mark is listed) a' w) is a → wpAnyH P md ops Q S (fuel + is.length) listed a w
  | [], fuel, listed, a, _, h => h
  | i :: is, fuel, listed, a, hB, h => by
    obtain ⟨o, v, hi, hy, h⟩ := h
    simp only [takeB, Bool.and_eq_true] at hB
    show wpAnyH P md ops Q S ((fuel + is.length) + 1) listed a w
    exact wpAnyH_take hi hs hB.2.1 hB.1 (fun c a w => hQ _ _ c a w) hy hS (wpAnyH_takes hs hQ hS is fuel _ _ hB.2.2 h)
/-- an operation without what it waits for -/
def bare (o : Oper) : Oper := { o with after := #[], pos := "" }
theorem exec_bare (ev : Operand → Value) (o : Oper) : execOp ev (bare o) = execOp ev o := by cases o; rfl
/-- as wpTake, of operations written out -/
def wpTk (P : Program) (S : World → Prop) (K : Act → Prop) : List Oper → Act → Prop
  | [], a => K a
  | o :: l, a => ∃ v, (∀ w, S w → (execOp a.eval o).run P w = .ok (.value v) w) ∧ wpTk P S K l (a.put o.dst v)
theorem wpTk_cons {K : Act → Prop} {o : Oper} {l : List Oper} {a : Act} (v : Value) (hy : ∀ w, S w → (execOp a.eval o).run P w = .ok (.value v) w) (h : wpTk P S K l (a.put o.dst v)) : wpTk P S K (o :: l) a := ⟨v, hy, h⟩
theorem wpTk_nil {K : Act → Prop} {a : Act} (h : K a) : wpTk P S K [] a := h
theorem wpTake_of_tk {K : Act → Prop} : ∀ (is : List Nat) (os : List Oper) (a : Act), is.map (fun i => (ops[i]?).map bare) = os.map some → os.all (·.guard.isNone) = true → wpTk P S K os a → wpTake P ops S K is a
  | [], [], a, _, _, h => h
  | [], _ :: _, _, h, _, _ => by cases h
  | _ :: _, [], _, h, _, _ => by cases h
  | i :: is, o :: os, a, h, hg, hw => by
    simp only [List.map_cons, List.cons.injEq] at h
    obtain ⟨h1, h2⟩ := h
    obtain ⟨o', ho', rfl⟩ := Option.map_eq_some_iff.1 h1
    simp only [List.all_cons, Bool.and_eq_true, Option.isNone_iff_eq_none] at hg
    obtain ⟨v, hy, hw⟩ := hw
    have hgo : o'.guard = none := hg.1
    refine ⟨o', v, ho', Or.inl ⟨by unfold Region.wanted; rw [hgo], fun w hS => ?_⟩, wpTake_of_tk is os _ h2 hg.2 hw⟩
    have := hy w hS
    rwa [exec_bare] at this
theorem wpAnyH_tk {w : World} (hs : Region.noSelect ops = true) (hQ : ∀ d v c a w, Q (.panic c) (a.put d v) w → Q (.panic c) a w) (hS : S w)
    (is : List Nat) (os : List Oper) (fuel : Nat) (listed : Array Bool) (a : Act) (ho : is.map (fun i => (ops[i]?).map bare) = os.map some) (hg : os.all (·.guard.isNone) = true) (hB : takeB md ops is listed = true)
    (h : ∀ K : Act → Prop, Shut (∀ a', wpAnyH P md ops Q S fuel (mark is listed) a' w → K a') → wpTk P S K os a) : wpAnyH P md ops Q S (fuel + is.length) listed a w :=
  wpAnyH_takes hs hQ hS is fuel listed a hB (wpTake_of_tk is os a ho hg (h _ (fun _ h => h)))
theorem act_put (a : Act) (d : Nat) (v : Value) (hd : d < a.tmps.size) : (a.put (some d) v).tmps.size = a.tmps.size ∧ (a.put (some d) v).defers = a.defers ∧ (a.put (some d) v).eval (.tmp d) = v ∧ ∀ t, t ≠ d → (a.put (some d) v).eval (.tmp t) = a.eval (.tmp t) := by
  refine ⟨by simp [Act.put], rfl, ?_, fun t ht => ?_⟩
  · show (a.tmps.setIfInBounds d v).getD d undef = v
    simp [hd]
  · show (a.tmps.setIfInBounds d v).getD t undef = a.tmps.getD t undef
    simp [Array.getElem?_setIfInBounds_ne (fun e => ht e.symm)]
theorem wpTk_step {K : Act → Prop} {o : Oper} {l : List Oper} {a : Act} (d : Nat) (v : Value) (ho : o.dst = some d) (hd : d < a.tmps.size) (hy : ∀ w, S w → (execOp a.eval o).run P w = .ok (.value v) w)
    (h : ∀ a' : Act, a'.tmps.size = a.tmps.size → a'.defers = a.defers → a'.eval (.tmp d) = v → (∀ t, t ≠ d → a'.eval (.tmp t) = a.eval (.tmp t)) → wpTk P S K l a') : wpTk P S K (o :: l) a := by
  obtain ⟨h1, h2, h3, h4⟩ := act_put a d v hd
  exact ⟨v, hy, by rw [ho]; exact h _ h1 h2 h3 h4⟩
theorem wp_bare (o : Oper) (a : Act) (w : World) (K : Act → World → Prop) : Oper.wp P (bare o) a w K Q = Oper.wp P o a w K Q := by cases o; rfl
/-- the one operation that may come up is run -/
theorem wpAnyH_one {i fuel : Nat} {listed : Array Bool} {a : Act} {w : World} (o : Oper) (hr : Region.ready md ops listed = [i]) (ho : (ops[i]?).map bare = some o) (hg : o.guard = none)
    (h : ∀ K' : Act → World → Prop, Shut (∀ a' w', S w' → wpAnyH P md ops Q S fuel (listed.setIfInBounds i true) a' w' → K' a' w') → Oper.wp P o a w K' Q) : wpAnyH P md ops Q S (fuel + 1) listed a w := by
  obtain ⟨o', ho', rfl⟩ := Option.map_eq_some_iff.1 ho
  refine wpAnyH_ready hr (by simp) (AllReadyH.cons ho' (fun K' hK => ?_) AllReadyH.nil)
  have hgo : o'.guard = none := hg
  rw [if_pos (by unfold Region.wanted; rw [hgo])]
  have := h K' (fun a' w' hS hW => hK.out a' w' hS (fun _ => hW))
  rwa [wp_bare] at this
/-- the one operation that may come up yields v -/
theorem wpAnyH_run {i fuel : Nat} {listed : Array Bool} {a : Act} {w : World} (o : Oper) (d : Option Tmp) (v : Value) (w1 : World) (hr : Region.ready md ops listed = [i]) (ho : (ops[i]?).map bare = some o) (hg : o.guard = none) (hd : o.dst = d)
    (hrun : (execOp a.eval o).run P w = .ok (.value v) w1) (hS : S w1) (h : wpAnyH P md ops Q S fuel (listed.setIfInBounds i true) (a.put d v) w1) : wpAnyH P md ops Q S (fuel + 1) listed a w := by
  refine wpAnyH_one o hr ho hg (fun K' hK => ?_)
  unfold Oper.wp
  rw [hrun, Oper.upon_value, hd]
  exact hK.out _ _ hS h
theorem wpAnyH_skip {i fuel : Nat} {listed : Array Bool} {a : Act} {w : World} (o : Oper) (w1 : World) (hr : Region.ready md ops listed = [i]) (ho : (ops[i]?).map bare = some o) (hg : o.guard = none) (hd : o.dst = none)
    (hrun : (execOp a.eval o).run P w = .ok .skip w1) (hS : S w1) (h : wpAnyH P md ops Q S fuel (listed.setIfInBounds i true) a w1) : wpAnyH P md ops Q S (fuel + 1) listed a w := by
  refine wpAnyH_one o hr ho hg (fun K' hK => ?_)
  unfold Oper.wp
  rw [hrun, Oper.upon_skip, hd]
  exact hK.out _ _ hS h
/-- one of two operations comes up -/
theorem wpAnyH_two {i j fuel : Nat} {listed : Array Bool} {a : Act} {w : World} (o : Oper) (o2 : Oper) (hr : Region.ready md ops listed = [i, j]) (ho : (ops[i]?).map bare = some o) (ho2 : (ops[j]?).map bare = some o2) (hg : o.guard = none) (hg2 : o2.guard = none)
    (h : ∀ K' : Act → World → Prop, Shut (∀ a' w', S w' → wpAnyH P md ops Q S fuel (listed.setIfInBounds i true) a' w' → K' a' w') → Oper.wp P o a w K' Q)
    (h2 : ∀ K' : Act → World → Prop, Shut (∀ a' w', S w' → wpAnyH P md ops Q S fuel (listed.setIfInBounds j true) a' w' → K' a' w') → Oper.wp P o2 a w K' Q) : wpAnyH P md ops Q S (fuel + 1) listed a w := by
  obtain ⟨o', ho', rfl⟩ := Option.map_eq_some_iff.1 ho
  obtain ⟨o2', ho2', rfl⟩ := Option.map_eq_some_iff.1 ho2
  have hgo : o'.guard = none := hg
  have hgo2 : o2'.guard = none := hg2
  refine wpAnyH_ready hr (by simp) (AllReadyH.cons ho' (fun K' hK => ?_) (AllReadyH.cons ho2' (fun K' hK => ?_) AllReadyH.nil))
  · rw [if_pos (by unfold Region.wanted; rw [hgo])]
    have := h K' (fun a' w' hS hW => hK.out a' w' hS (fun _ => hW))
    rwa [wp_bare] at this
  · rw [if_pos (by unfold Region.wanted; rw [hgo2])]
    have := h2 K' (fun a' w' hS hW => hK.out a' w' hS (fun _ => hW))
    rwa [wp_bare] at this
theorem wp_value {o : Oper} {a : Act} {w w1 : World} {K : Act → World → Prop} {v : Value} (hrun : (execOp a.eval o).run P w = .ok (.value v) w1) (h : K (a.put o.dst v) w1) : Oper.wp P o a w K Q := by
  unfold Oper.wp
  rw [hrun, Oper.upon_value]
  exact h
end
end Go.Proofs.YtmooddbhcccicaaGreatDoor

/- Regions that draw their order: guarded operations that are wanted; calls. (Over Tk.) -/
namespace Go.Proofs.YtmooddbhcccicaaGreatDoor
open Go.RowKit Go.Deep

section
variable {P : Program} {md : Region.Mode} {ops : Array Oper} {Q : Exit → Act → World → Prop} {S : World → Prop}
theorem yielded_of {a : Act} {j d : Nat} {b : Bool} {oj : Oper} (hj : (ops[j]?).map bare = some oj) (hd : oj.dst = some d) (he : a.eval (.tmp d) = .bool b) (hs : d < a.tmps.size) : yielded ops a.tmps j = some b := by
  obtain ⟨o', ho', rfl⟩ := Option.map_eq_some_iff.1 hj
  have hd' : o'.dst = some d := hd
  have he' : a.tmps[d]? = some (.bool b) := by
    have h2 : a.tmps.getD d undef = .bool b := he
    rw [Array.getD_eq_getD_getElem?, Array.getElem?_eq_getElem hs] at h2
    rw [Array.getElem?_eq_getElem hs]
    exact congrArg some h2
  unfold yielded
  rw [ho']
  simp [hd', he']
theorem wanted_none {o : Oper} {f : Nat → Option Bool} (h : o.guard = none) : Region.wanted o f = true := by unfold Region.wanted; rw [h]
theorem wanted_some {o : Oper} {f : Nat → Option Bool} {j : Nat} {b : Bool} (h : o.guard = some (j, b)) (hf : f j = some b) : Region.wanted o f = true := by unfold Region.wanted; rw [h]; simp [hf]
/-- a quiet operation is taken -/
theorem wpTake_stepE {K : Act → Prop} {i : Nat} {is : List Nat} {a : Act} (o : Oper) (d : Nat) (v : Value) (ho : (ops[i]?).map bare = some o) (hd : o.dst = some d) (hl : d < a.tmps.size) (hg : Region.wanted o (yielded ops a.tmps) = true)
    (hy : ∀ w, S w → (execOp a.eval o).run P w = .ok (.value v) w)
    (h : ∀ a' : Act, a' = a.put (some d) v → a'.tmps.size = a.tmps.size → a'.defers = a.defers → a'.eval (.tmp d) = v → (∀ t, t ≠ d → a'.eval (.tmp t) = a.eval (.tmp t)) → wpTake P ops S K is a') : wpTake P ops S K (i :: is) a := by
  obtain ⟨o', ho', rfl⟩ := Option.map_eq_some_iff.1 ho
  obtain ⟨h1, h2, h3, h4⟩ := act_put a d v hl
  refine ⟨o', v, ho', Or.inl ⟨?_, fun w hS => ?_⟩, ?_⟩
  · have : Region.wanted (bare o') (yielded ops a.tmps) = Region.wanted o' (yielded ops a.tmps) := by cases o'; rfl
    rw [← this]; exact hg
  · have := hy w hS
    rwa [exec_bare] at this
  · have hd' : o'.dst = some d := hd
    rw [hd']
    exact h _ rfl h1 h2 h3 h4
/-- the one operation that may come up, guarded and wanted, is run -/
theorem wpAnyH_oneG {i fuel : Nat} {listed : Array Bool} {a : Act} {w : World} (o : Oper) (hr : Region.ready md ops listed = [i]) (ho : (ops[i]?).map bare = some o) (hg : Region.wanted o (yielded ops a.tmps) = true)
    (h : ∀ K' : Act → World → Prop, Shut (∀ a' w', S w' → wpAnyH P md ops Q S fuel (listed.setIfInBounds i true) a' w' → K' a' w') → Oper.wp P o a w K' Q) : wpAnyH P md ops Q S (fuel + 1) listed a w := by
  obtain ⟨o', ho', rfl⟩ := Option.map_eq_some_iff.1 ho
  refine wpAnyH_ready hr (by simp) (AllReadyH.cons ho' (fun K' hK => ?_) AllReadyH.nil)
  have e : Region.wanted (bare o') (yielded ops a.tmps) = Region.wanted o' (yielded ops a.tmps) := by cases o'; rfl
  rw [e] at hg
  rw [if_pos hg]
  have := h K' (fun a' w' hS hW => hK.out a' w' hS (fun _ => hW))
  rwa [wp_bare] at this
/-- a call, by its contract -/
theorem wp_enter {o : Oper} {a : Act} {w : World} {K : Act → World → Prop} {f : FuncId} {args : Array Value} {R : Ending → World → Prop} (hrun : (execOp a.eval o).run P w = .ok (.enter f args) w) (hc : Calls P f args w R)
    (h : ∀ e w', R e w' → ∃ v, e = .returned v ∧ K (a.put o.dst v) w') : Oper.wp P o a w K Q := by
  unfold Oper.wp
  rw [hrun, Oper.upon_enter]
  refine hc.mono ?_
  intro e w' hR
  obtain ⟨v, rfl, hk⟩ := h e w' hR
  exact hk
theorem enter_run {ev : Operand → Value} {g : Option (Nat × Bool)} {d : Option Tmp} {fn : FuncId} {xs : Array Operand} {ts : Array TypeId} {ty : TypeId} {z : World} (args : Array Value) (hf : ev (.func fn) = .func (.func fn) #[] #[]) (ha : xs.map ev = args) (hE : ∀ u : World, (callFunc fn args).run Tryz.prog u = .ok (.enter fn args) u) :
    (execOp ev ⟨d, Op.call { callee := Callee.value (Operand.func fn), args := xs, argTypes := ts }, ty, "", #[], g⟩).run Tryz.prog z = .ok (.enter fn args) z := by
  unfold execOp
  simp only [resolve, hf, ha]
  simp [invoke, Deferred.ofValue, hE]
end
end Go.Proofs.YtmooddbhcccicaaGreatDoor

/- Regions that draw their order, and whose operations only add: whatever order is drawn, each operation's result has what is said of it. -/
namespace Go.Proofs.YtmooddbhcccicaaGreatDoor
set_option linter.unusedVariables false
open Go.RowKit Go.Deep

section
variable {P : Program} {md : Region.Mode} {ops : Array Oper} {Q : Exit → Act → World → Prop}
/-- how many have not come up -/
def leftN (n : Nat) (listed : Array Bool) : Nat := (List.range n).countP (fun i => !listed.getD i true)
theorem countP_lt_of {α : Type} (p q : α → Bool) (l : List α) (h : ∀ x ∈ l, q x = true → p x = true) (x : α) (hx : x ∈ l) (hp : p x = true) (hq : q x = false) : l.countP q < l.countP p := by
  induction l with
  | nil => cases hx
  | cons y l ih =>
    have hle : l.countP q ≤ l.countP p := List.countP_mono_left (fun z hz hqz => h z (List.mem_cons_of_mem _ hz) hqz)
    rcases List.mem_cons.1 hx with e | e
    · subst e
      rw [List.countP_cons_of_neg (by simp [hq]), List.countP_cons_of_pos hp]
      omega
    · have := ih (fun z hz => h z (List.mem_cons_of_mem _ hz)) e
      cases hqy : q y with
      | true => rw [List.countP_cons_of_pos hqy, List.countP_cons_of_pos (h y (List.mem_cons_self ..) hqy)]; omega
      | false =>
        rw [List.countP_cons_of_neg (by simp [hqy])]
        rw [List.countP_cons]
        omega
theorem leftN_set {n i : Nat} {listed : Array Bool} (hi : i < n) (hl : listed.getD i true = false) : leftN n (listed.setIfInBounds i true) < leftN n listed := by
  have hz : i < listed.size := by
    by_cases h : i < listed.size
    · exact h
    · simp [h] at hl
  refine countP_lt_of _ _ _ (fun x _ hx => ?_) i (List.mem_range.2 hi) (by simp only [hl, Bool.not_false]) ?_
  · by_cases e : i = x
    · subst e; simp [hz] at hx
    · simpa [Array.getElem?_setIfInBounds_ne e] using hx
  · simp [hz]
theorem wpAnyH_inv (I : Array Bool → Act → World → Prop)
    (hstep : ∀ listed a w i, I listed a w → i ∈ Region.ready md ops listed → wpOp P ops Q i (fun a' w' => I (listed.setIfInBounds i true) a' w') a w)
    (hend : ∀ listed a w, I listed a w → Region.ready md ops listed = [] → Q .normal a w) :
    ∀ (fuel : Nat) (listed : Array Bool) (a : Act) (w : World), leftN ops.size listed ≤ fuel → I listed a w → wpAnyH P md ops Q (fun _ => True) fuel listed a w := by
  intro fuel
  induction fuel with
  | zero =>
    intro listed a w hf hI
    have hr : Region.ready md ops listed = [] := by
      rw [List.eq_nil_iff_forall_not_mem]
      intro i hi
      obtain ⟨hu, o, ho, _⟩ := mem_ready.1 hi
      have := leftN_set (n := ops.size) (Array.getElem?_eq_some_iff.1 ho).1 hu
      omega
    exact ⟨hr, hend _ _ _ hI hr⟩
  | succ fuel ih =>
    intro listed a w hf hI
    refine ⟨fun hr => hend _ _ _ hI hr, fun i hi => ?_⟩
    obtain ⟨hu, o, ho, _⟩ := mem_ready.1 hi
    have hlt := leftN_set (n := ops.size) (Array.getElem?_eq_some_iff.1 ho).1 hu
    exact wpOp_mono (fun a' w' h => ⟨trivial, ih _ a' w' (by omega) h⟩) (hstep _ _ _ _ hI hi)

/-- what an operation waits for -/
def deps (o : Oper) : List Nat := (o.after.toList.filter (Region.binds .any)).map (·.on)
/-- it is wanted, whatever came -/
def Gok (R : Nat → Value → World → Prop) (o : Oper) (l : List Nat) : Prop := o.guard = none ∨ ∃ j b, o.guard = some (j, b) ∧ j ∈ l ∧ ∀ v w, R j v w → v = .bool b
/-- what must be shown of the k-th operation: it adds to the world, and what it yields has R -/
def StepB (P : Program) (Q : Exit → Act → World → Prop) (n : Nat) (B : Act → Prop) (w0 : World) (R : Nat → Value → World → Prop) (D : Nat → Nat) (k : Nat) (o : Oper) (l : List Nat) : Prop :=
  o.dst = some (D k) ∧ Gok R o l ∧ (∀ j ∈ l, j < k) ∧ D k < n ∧ ∀ (a : Act) (w : World), a.tmps.size = n → B a → Kp (fun _ => False) w0 w → (∀ j ∈ l, R j (a.eval (.tmp (D j))) w) →
    ∀ K : Act → World → Prop, Shut (∀ v w', Kp (fun _ => False) w w' → R k v w' → K (a.put (some (D k)) v) w') → Oper.wp P o a w K Q
/-- of each -/
def Steps (P : Program) (Q : Exit → Act → World → Prop) (n : Nat) (B : Act → Prop) (w0 : World) (R : Nat → Value → World → Prop) (D : Nat → Nat) : Nat → List (Oper × List Nat) → Prop
  | _, [] => True
  | k, (o, l) :: t => StepB P Q n B w0 R D k o l ∧ Steps P Q n B w0 R D (k + 1) t
theorem Steps.get {n : Nat} {B : Act → Prop} {w0 : World} {R : Nat → Value → World → Prop} {D : Nat → Nat} : ∀ (t : List (Oper × List Nat)) (k i : Nat) (o : Oper) (l : List Nat), Steps P Q n B w0 R D k t → t[i]? = some (o, l) → StepB P Q n B w0 R D (k + i) o l
  | [], _, _, _, _, _, h => by simp at h
  | x :: t, k, 0, o, l, h, hi => by
    simp at hi
    subst hi
    exact h.1
  | x :: t, k, i + 1, o, l, h, hi => by
    have := Steps.get t (k + 1) i o l h.2 (by simpa using hi)
    rw [show k + (i + 1) = k + 1 + i by omega]
    exact this
theorem mono_region {id : Nat} {a : Act} {y : World} (hm : P.follows .mixedOrders = true) (T : List (Oper × List Nat)) (hT : ops.toList.map (fun o => (bare o, deps o)) = T) (n : Nat) (B : Act → Prop) (R : Nat → Value → World → Prop) (D : Nat → Nat) (hn : a.tmps.size = n) (hB : B a)
    (hBp : ∀ k v a, k < T.length → B a → B (a.put (some (D k)) v))
    (hD : ∀ i j, i < T.length → j < T.length → D i = D j → i = j)
    (hR : ∀ i v w w', R i v w → Kp (fun _ => False) w w' → R i v w')
    (hs : Steps P Q n B y.drew R D 0 T)
    (hend : ∀ a w, a.tmps.size = n → B a → Kp (fun _ => False) y.drew w → (∀ i, i < T.length → R i (a.eval (.tmp (D i))) w) → Q .normal a w) :
    (Code.region id ops true).wp P Q a y := by
  have hTl : T.length = ops.size := by rw [← hT]; simp
  have hTi : ∀ (i : Nat) (o : Oper), ops[i]? = some o → T[i]? = some (bare o, deps o) := fun i o ho => by
    rw [← hT, List.getElem?_map]
    simp [ho]
  have hst : ∀ (i : Nat) (o : Oper), ops[i]? = some o → StepB P Q n B y.drew R D i (bare o) (deps o) := fun i o ho => by
    have := Steps.get T 0 i _ _ hs (hTi i o ho)
    rwa [Nat.zero_add] at this
  refine wp_region_held_drew (S := fun _ => True) hm trivial (fun _ => ?_)
  refine wpAnyH_inv (fun listed a w => a.tmps.size = n ∧ B a ∧ listed.size = ops.size ∧ Kp (fun _ => False) y.drew w ∧ ∀ i, i < ops.size → listed.getD i false = true → R i (a.eval (.tmp (D i))) w) ?_ ?_ _ _ _ _ ?_ ?_
  · rintro listed a w i ⟨h1, h2, h3, h4, h5⟩ hi
    obtain ⟨hu, o, ho, hall⟩ := mem_ready.1 hi
    have hlt := (Array.getElem?_eq_some_iff.1 ho).1
    obtain ⟨hdo, hg, hj, hdn, hw⟩ := hst i o ho
    unfold wpOp
    rw [ho]
    dsimp only
    have hdep : ∀ j ∈ deps o, R j (a.eval (.tmp (D j))) w := fun j hjl => by
      obtain ⟨e, he, rfl⟩ := List.mem_map.1 hjl
      obtain ⟨he1, he2⟩ := List.mem_filter.1 he
      exact h5 e.on (Nat.lt_trans (hj _ hjl) hlt) (hall e (by simpa using he1) he2)
    have hwant : Region.wanted o (yielded ops a.tmps) = true := by
      rcases hg with hg | ⟨j, b, hg, hjl, hb⟩
      · exact wanted_none hg
      · have hlt2 : j < ops.size := Nat.lt_trans (hj _ hjl) hlt
        have hoj := Array.getElem?_eq_getElem hlt2
        have hsj := hst j _ hoj
        exact wanted_some hg (yielded_of (by rw [hoj]; rfl) hsj.1 (hb _ _ (hdep j hjl)) (by rw [h1]; exact hsj.2.2.2.1))
    rw [if_pos hwant]
    refine Or.inl ?_
    rw [← wp_bare]
    refine hw a w h1 h2 h4 hdep _ ?_
    · intro v w' hk hv
      obtain ⟨p1, p2, p3, p4⟩ := act_put a (D i) v (by rw [h1]; exact hdn)
      refine ⟨p1.trans h1, hBp i v a (by omega) h2, by rw [Array.size_setIfInBounds]; exact h3, h4.trans hk (fun _ _ e => e), fun j hjs hl => ?_⟩
      by_cases e : i = j
      · subst e
        rw [p3]
        exact hv
      · rw [p4 (D j) (fun h => e (hD i j (by omega) (by omega) h.symm))]
        exact hR _ _ _ _ (h5 j hjs (by simpa [Array.getElem?_setIfInBounds_ne e] using hl)) hk
  · rintro listed a w ⟨h1, h2, h3, h4, h5⟩ hr
    have hall : ∀ m i, i < m → i < ops.size → listed.getD i false = true := by
      intro m
      induction m with
      | zero => intro i hi; omega
      | succ m ih =>
        intro i hi hs'
        by_cases e : i < m
        · exact ih i e hs'
        · cases hl : listed.getD i false with
          | true => rfl
          | false =>
            have hac := (hst i ops[i] (Array.getElem?_eq_getElem hs')).2.2.1
            have hmem : i ∈ Region.ready .any ops listed := by
              refine mem_ready.2 ⟨?_, ops[i], Array.getElem?_eq_getElem hs', fun e' he' hb' => ?_⟩
              · have hsz : i < listed.size := by omega
                simpa [hsz] using hl
              · have hlt := hac e'.on (List.mem_map.2 ⟨e', List.mem_filter.2 ⟨by simpa using he', hb'⟩, rfl⟩)
                exact ih e'.on (by omega) (by omega)
            rw [hr] at hmem
            cases hmem
    exact hend a w h1 h2 h4 (fun i hi => h5 i (by omega) (hall (i + 1) i (by omega) (by omega)))
  · unfold leftN
    have := List.countP_le_length (p := fun i => !(Array.replicate ops.size false).getD i true) (l := List.range ops.size)
    rw [List.length_range] at this
    exact this
  · refine ⟨hn, hB, by simp, Kp.refl _ _, fun i hi hl => ?_⟩
    simp [hi] at hl
end
end Go.Proofs.YtmooddbhcccicaaGreatDoor
