/- Regions that draw their order, and whose operations only add: whatever order is drawn, each operation's result has what is said of it. -/
import Derived.Test.YtippipeebkkghaaGreatDoorTh
namespace Go.Proofs.YtippipeebkkghaaGreatDoor
set_option linter.unusedVariables false
open Go.RowKit Go.Deep

section
variable {P : Program} {md : Region.Mode} {ops : Array Oper} {Q : Exit → Act → World → Prop}
/-- how many have not come up -/
def leftN (n : Nat) (listed : Array Bool) : Nat := (List.range n).countP (fun i => !listed.getD i true)
theorem countP_lt_of {α : Type} (p q : α → Bool) (l : List α) (h : ∀ x ∈ l, q x = true → p x = true) (x : α) (hx : x ∈ l) (hp : p x = true) (hq : q x = false) : l.countP q < l.countP p := by
  induction l with
  | nil => cases hx
  | cons y l ih =>
    have hle : l.countP q ≤ l.countP p := List.countP_mono_left (fun z hz hqz => h z (List.mem_cons_of_mem _ hz) hqz)
    rcases List.mem_cons.1 hx with e | e
    · subst e
      rw [List.countP_cons_of_neg (by simp [hq]), List.countP_cons_of_pos hp]
      omega
    · have := ih (fun z hz => h z (List.mem_cons_of_mem _ hz)) e
      cases hqy : q y with
      | true => rw [List.countP_cons_of_pos hqy, List.countP_cons_of_pos (h y (List.mem_cons_self ..) hqy)]; omega
      | false =>
        rw [List.countP_cons_of_neg (by simp [hqy])]
        rw [List.countP_cons]
        omega
theorem leftN_set {n i : Nat} {listed : Array Bool} (hi : i < n) (hl : listed.getD i true = false) : leftN n (listed.setIfInBounds i true) < leftN n listed := by
  have hz : i < listed.size := by
    by_cases h : i < listed.size
    · exact h
    · simp [h] at hl
  refine countP_lt_of _ _ _ (fun x _ hx => ?_) i (List.mem_range.2 hi) (by simp only [hl, Bool.not_false]) ?_
  · by_cases e : i = x
    · subst e; simp [hz] at hx
    · simpa [Array.getElem?_setIfInBounds_ne e] using hx
  · simp [hz]
theorem wpAnyH_inv (I : Array Bool → Act → World → Prop)
    (hstep : ∀ listed a w i, I listed a w → i ∈ Region.ready md ops listed → wpOp P ops Q i (fun a' w' => I (listed.setIfInBounds i true) a' w') a w)
    (hend : ∀ listed a w, I listed a w → Region.ready md ops listed = [] → Q .normal a w) :
    ∀ (fuel : Nat) (listed : Array Bool) (a : Act) (w : World), leftN ops.size listed ≤ fuel → I listed a w → wpAnyH P md ops Q (fun _ => True) fuel listed a w := by
  intro fuel
  induction fuel with
  | zero =>
    intro listed a w hf hI
    have hr : Region.ready md ops listed = [] := by
      rw [List.eq_nil_iff_forall_not_mem]
      intro i hi
      obtain ⟨hu, o, ho, _⟩ := mem_ready.1 hi
      have := leftN_set (n := ops.size) (Array.getElem?_eq_some_iff.1 ho).1 hu
      omega
    exact ⟨hr, hend _ _ _ hI hr⟩
  | succ fuel ih =>
    intro listed a w hf hI
    refine ⟨fun hr => hend _ _ _ hI hr, fun i hi => ?_⟩
    obtain ⟨hu, o, ho, _⟩ := mem_ready.1 hi
    have hlt := leftN_set (n := ops.size) (Array.getElem?_eq_some_iff.1 ho).1 hu
    exact wpOp_mono (fun a' w' h => ⟨trivial, ih _ a' w' (by omega) h⟩) (hstep _ _ _ _ hI hi)

/-- what an operation waits for -/
def deps (o : Oper) : List Nat := (o.after.toList.filter (Region.binds .any)).map (·.on)
/-- it is wanted, whatever came -/
def Gok (R : Nat → Value → World → Prop) (o : Oper) (l : List Nat) : Prop := o.guard = none ∨ ∃ j b, o.guard = some (j, b) ∧ j ∈ l ∧ ∀ v w, R j v w → v = .bool b
/-- what must be shown of the k-th operation: it adds to the world, and what it yields has R -/
def StepB (P : Program) (Q : Exit → Act → World → Prop) (n : Nat) (B : Act → Prop) (w0 : World) (R : Nat → Value → World → Prop) (D : Nat → Nat) (k : Nat) (o : Oper) (l : List Nat) : Prop :=
  o.dst = some (D k) ∧ Gok R o l ∧ (∀ j ∈ l, j < k) ∧ D k < n ∧ ∀ (a : Act) (w : World), a.tmps.size = n → B a → Kp (fun _ => False) w0 w → (∀ j ∈ l, R j (a.eval (.tmp (D j))) w) →
    ∀ K : Act → World → Prop, Shut (∀ v w', Kp (fun _ => False) w w' → R k v w' → K (a.put (some (D k)) v) w') → Oper.wp P o a w K Q
/-- of each -/
def Steps (P : Program) (Q : Exit → Act → World → Prop) (n : Nat) (B : Act → Prop) (w0 : World) (R : Nat → Value → World → Prop) (D : Nat → Nat) : Nat → List (Oper × List Nat) → Prop
  | _, [] => True
  | k, (o, l) :: t => StepB P Q n B w0 R D k o l ∧ Steps P Q n B w0 R D (k + 1) t
theorem Steps.get {n : Nat} {B : Act → Prop} {w0 : World} {R : Nat → Value → World → Prop} {D : Nat → Nat} : ∀ (t : List (Oper × List Nat)) (k i : Nat) (o : Oper) (l : List Nat), Steps P Q n B w0 R D k t → t[i]? = some (o, l) → StepB P Q n B w0 R D (k + i) o l
  | [], _, _, _, _, _, h => by simp at h
  | x :: t, k, 0, o, l, h, hi => by
    simp at hi
    subst hi
    exact h.1
  | x :: t, k, i + 1, o, l, h, hi => by
    have := Steps.get t (k + 1) i o l h.2 (by simpa using hi)
    rw [show k + (i + 1) = k + 1 + i by omega]
    exact this
theorem mono_region {id : Nat} {a : Act} {y : World} (hm : P.follows .mixedOrders = true) (T : List (Oper × List Nat)) (hT : ops.toList.map (fun o => (bare o, deps o)) = T) (n : Nat) (B : Act → Prop) (R : Nat → Value → World → Prop) (D : Nat → Nat) (hn : a.tmps.size = n) (hB : B a)
    (hBp : ∀ k v a, k < T.length → B a → B (a.put (some (D k)) v))
    (hD : ∀ i j, i < T.length → j < T.length → D i = D j → i = j)
    (hR : ∀ i v w w', R i v w → Kp (fun _ => False) w w' → R i v w')
    (hs : Steps P Q n B y.drew R D 0 T)
    (hend : ∀ a w, a.tmps.size = n → B a → Kp (fun _ => False) y.drew w → (∀ i, i < T.length → R i (a.eval (.tmp (D i))) w) → Q .normal a w) :
    (Code.region id ops true).wp P Q a y := by
  have hTl : T.length = ops.size := by rw [← hT]; simp
  have hTi : ∀ (i : Nat) (o : Oper), ops[i]? = some o → T[i]? = some (bare o, deps o) := fun i o ho => by
    rw [← hT, List.getElem?_map]
    simp [ho]
  have hst : ∀ (i : Nat) (o : Oper), ops[i]? = some o → StepB P Q n B y.drew R D i (bare o) (deps o) := fun i o ho => by
    have := Steps.get T 0 i _ _ hs (hTi i o ho)
    rwa [Nat.zero_add] at this
  refine wp_region_held_drew (S := fun _ => True) hm trivial (fun _ => ?_)
  refine wpAnyH_inv (fun listed a w => a.tmps.size = n ∧ B a ∧ listed.size = ops.size ∧ Kp (fun _ => False) y.drew w ∧ ∀ i, i < ops.size → listed.getD i false = true → R i (a.eval (.tmp (D i))) w) ?_ ?_ _ _ _ _ ?_ ?_
  · rintro listed a w i ⟨h1, h2, h3, h4, h5⟩ hi
    obtain ⟨hu, o, ho, hall⟩ := mem_ready.1 hi
    have hlt := (Array.getElem?_eq_some_iff.1 ho).1
    obtain ⟨hdo, hg, hj, hdn, hw⟩ := hst i o ho
    unfold wpOp
    rw [ho]
    dsimp only
    have hdep : ∀ j ∈ deps o, R j (a.eval (.tmp (D j))) w := fun j hjl => by
      obtain ⟨e, he, rfl⟩ := List.mem_map.1 hjl
      obtain ⟨he1, he2⟩ := List.mem_filter.1 he
      exact h5 e.on (Nat.lt_trans (hj _ hjl) hlt) (hall e (by simpa using he1) he2)
    have hwant : Region.wanted o (yielded ops a.tmps) = true := by
      rcases hg with hg | ⟨j, b, hg, hjl, hb⟩
      · exact wanted_none hg
      · have hlt2 : j < ops.size := Nat.lt_trans (hj _ hjl) hlt
        have hoj := Array.getElem?_eq_getElem hlt2
        have hsj := hst j _ hoj
        exact wanted_some hg (yielded_of (by rw [hoj]; rfl) hsj.1 (hb _ _ (hdep j hjl)) (by rw [h1]; exact hsj.2.2.2.1))
    rw [if_pos hwant]
    refine Or.inl ?_
    rw [← wp_bare]
    refine hw a w h1 h2 h4 hdep _ ?_
    · intro v w' hk hv
      obtain ⟨p1, p2, p3, p4⟩ := act_put a (D i) v (by rw [h1]; exact hdn)
      refine ⟨p1.trans h1, hBp i v a (by omega) h2, by rw [Array.size_setIfInBounds]; exact h3, h4.trans hk (fun _ _ e => e), fun j hjs hl => ?_⟩
      by_cases e : i = j
      · subst e
        rw [p3]
        exact hv
      · rw [p4 (D j) (fun h => e (hD i j (by omega) (by omega) h.symm))]
        exact hR _ _ _ _ (h5 j hjs (by simpa [Array.getElem?_setIfInBounds_ne e] using hl)) hk
  · rintro listed a w ⟨h1, h2, h3, h4, h5⟩ hr
    have hall : ∀ m i, i < m → i < ops.size → listed.getD i false = true := by
      intro m
      induction m with
      | zero => intro i hi; omega
      | succ m ih =>
        intro i hi hs'
        by_cases e : i < m
        · exact ih i e hs'
        · cases hl : listed.getD i false with
          | true => rfl
          | false =>
            have hac := (hst i ops[i] (Array.getElem?_eq_getElem hs')).2.2.1
            have hmem : i ∈ Region.ready .any ops listed := by
              refine mem_ready.2 ⟨?_, ops[i], Array.getElem?_eq_getElem hs', fun e' he' hb' => ?_⟩
              · have hsz : i < listed.size := by omega
                simpa [hsz] using hl
              · have hlt := hac e'.on (List.mem_map.2 ⟨e', List.mem_filter.2 ⟨by simpa using he', hb'⟩, rfl⟩)
                exact ih e'.on (by omega) (by omega)
            rw [hr] at hmem
            cases hmem
    exact hend a w h1 h2 h4 (fun i hi => h5 i (by omega) (hall (i + 1) i (by omega) (by omega)))
  · unfold leftN
    have := List.countP_le_length (p := fun i => !(Array.replicate ops.size false).getD i true) (l := List.range ops.size)
    rw [List.length_range] at this
    exact this
  · refine ⟨hn, hB, by simp, Kp.refl _ _, fun i hi hl => ?_⟩
    simp [hi] at hl
end
end Go.Proofs.YtippipeebkkghaaGreatDoor
