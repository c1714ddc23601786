/- Regions that draw their order, whose operations only add, and that are wanted or not as it comes. -/
import Derived.Test.YtippipeebkkghaaGreatDoorWm
namespace Go.Proofs.YtippipeebkkghaaGreatDoor
set_option linter.unusedVariables false
open Go.RowKit Go.Deep

section
variable {P : Program} {ops : Array Oper} {Q : Exit → Act → World → Prop}
/-- what must be shown of the k-th operation: where it is wanted, it adds to the world, and what it yields has R; where it is not, undef has R -/
def StepC (P : Program) (Q : Exit → Act → World → Prop) (n : Nat) (B : Act → Prop) (w0 : World) (R : Nat → Value → World → Prop) (D : Nat → Nat) (k : Nat) (o : Oper) (l : List Nat) : Prop :=
  o.dst = some (D k) ∧ (∀ j ∈ l, j < k) ∧ D k < n ∧ (∀ j b, o.guard = some (j, b) → j ∈ l ∧ (∀ v w, R j v w → ∃ c : Bool, v = .bool c) ∧ ∀ w, R j (.bool !b) w → R k undef w) ∧
  ∀ (a : Act) (w : World), a.tmps.size = n → B a → Kp (fun _ => False) w0 w → (∀ j ∈ l, R j (a.eval (.tmp (D j))) w) → (∀ j b, o.guard = some (j, b) → R j (.bool b) w) →
    ∀ K : Act → World → Prop, Shut (∀ v w', Kp (fun _ => False) w w' → R k v w' → K (a.put (some (D k)) v) w') → Oper.wp P o a w K Q
def StepsC (P : Program) (Q : Exit → Act → World → Prop) (n : Nat) (B : Act → Prop) (w0 : World) (R : Nat → Value → World → Prop) (D : Nat → Nat) : Nat → List (Oper × List Nat) → Prop
  | _, [] => True
  | k, (o, l) :: t => StepC P Q n B w0 R D k o l ∧ StepsC P Q n B w0 R D (k + 1) t
theorem StepsC.get {n : Nat} {B : Act → Prop} {w0 : World} {R : Nat → Value → World → Prop} {D : Nat → Nat} : ∀ (t : List (Oper × List Nat)) (k i : Nat) (o : Oper) (l : List Nat), StepsC P Q n B w0 R D k t → t[i]? = some (o, l) → StepC P Q n B w0 R D (k + i) o l
  | [], _, _, _, _, _, h => by simp at h
  | x :: t, k, 0, o, l, h, hi => by
    simp at hi
    subst hi
    exact h.1
  | x :: t, k, i + 1, o, l, h, hi => by
    have := StepsC.get t (k + 1) i o l h.2 (by simpa using hi)
    rw [show k + (i + 1) = k + 1 + i by omega]
    exact this
theorem wanted_no {o : Oper} {f : Nat → Option Bool} {j : Nat} {b : Bool} (h : o.guard = some (j, b)) (hf : f j = some !b) : Region.wanted o f = false := by
  unfold Region.wanted
  rw [h]
  simp [hf]
theorem mono_regionC {id : Nat} {a : Act} {y : World} (hm : P.follows .mixedOrders = true) (T : List (Oper × List Nat)) (hT : ops.toList.map (fun o => (bare o, deps o)) = T) (n : Nat) (B : Act → Prop) (R : Nat → Value → World → Prop) (D : Nat → Nat) (hn : a.tmps.size = n) (hB : B a)
    (hBp : ∀ k v a, k < T.length → B a → B (a.put (some (D k)) v))
    (hD : ∀ i j, i < T.length → j < T.length → D i = D j → i = j)
    (hR : ∀ i v w w', R i v w → Kp (fun _ => False) w w' → R i v w')
    (hs : StepsC P Q n B y.drew R D 0 T)
    (hend : ∀ a w, a.tmps.size = n → B a → Kp (fun _ => False) y.drew w → (∀ i, i < T.length → R i (a.eval (.tmp (D i))) w) → Q .normal a w) :
    (Code.region id ops true).wp P Q a y := by
  have hTl : T.length = ops.size := by rw [← hT]; simp
  have hTi : ∀ (i : Nat) (o : Oper), ops[i]? = some o → T[i]? = some (bare o, deps o) := fun i o ho => by
    rw [← hT, List.getElem?_map]
    simp [ho]
  have hst : ∀ (i : Nat) (o : Oper), ops[i]? = some o → StepC P Q n B y.drew R D i (bare o) (deps o) := fun i o ho => by
    have := StepsC.get T 0 i _ _ hs (hTi i o ho)
    rwa [Nat.zero_add] at this
  refine wp_region_held_drew (S := fun _ => True) hm trivial (fun _ => ?_)
  refine wpAnyH_inv (fun listed a w => a.tmps.size = n ∧ B a ∧ listed.size = ops.size ∧ Kp (fun _ => False) y.drew w ∧ ∀ i, i < ops.size → listed.getD i false = true → R i (a.eval (.tmp (D i))) w) ?_ ?_ _ _ _ _ ?_ ?_
  · rintro listed a w i ⟨h1, h2, h3, h4, h5⟩ hi
    obtain ⟨hu, o, ho, hall⟩ := mem_ready.1 hi
    have hlt := (Array.getElem?_eq_some_iff.1 ho).1
    obtain ⟨hdo, hj, hdn, hg, hw⟩ := hst i o ho
    unfold wpOp
    rw [ho]
    dsimp only
    have hdep : ∀ j ∈ deps o, R j (a.eval (.tmp (D j))) w := fun j hjl => by
      obtain ⟨e, he, rfl⟩ := List.mem_map.1 hjl
      obtain ⟨he1, he2⟩ := List.mem_filter.1 he
      exact h5 e.on (Nat.lt_trans (hj _ hjl) hlt) (hall e (by simpa using he1) he2)
    have hout : ∀ v w', Kp (fun _ => False) w w' → R i v w' → (a.put (some (D i)) v).tmps.size = n ∧ B (a.put (some (D i)) v) ∧ (listed.setIfInBounds i true).size = ops.size ∧ Kp (fun _ => False) y.drew w' ∧ ∀ j, j < ops.size → (listed.setIfInBounds i true).getD j false = true → R j ((a.put (some (D i)) v).eval (.tmp (D j))) w' := by
      intro v w' hk hv
      obtain ⟨p1, p2, p3, p4⟩ := act_put a (D i) v (by rw [h1]; exact hdn)
      refine ⟨p1.trans h1, hBp i v a (by omega) h2, by rw [Array.size_setIfInBounds]; exact h3, h4.trans hk (fun _ _ e => e), fun j hjs hl => ?_⟩
      by_cases e : i = j
      · subst e
        rw [p3]
        exact hv
      · rw [p4 (D j) (fun h => e (hD i j (by omega) (by omega) h.symm))]
        exact hR _ _ _ _ (h5 j hjs (by simpa [Array.getElem?_setIfInBounds_ne e] using hl)) hk
    have hy : ∀ j b, o.guard = some (j, b) → ∀ c : Bool, a.eval (.tmp (D j)) = .bool c → yielded ops a.tmps j = some c := fun j b hgd c hc => by
      have hjl := (hg j b hgd).1
      have hlt2 : j < ops.size := Nat.lt_trans (hj _ hjl) hlt
      have hoj := Array.getElem?_eq_getElem hlt2
      have hsj := hst j _ hoj
      exact yielded_of (by rw [hoj]; rfl) hsj.1 hc (by rw [h1]; exact hsj.2.2.1)
    by_cases hno : ∃ j b, o.guard = some (j, b) ∧ a.eval (.tmp (D j)) = .bool !b
    · obtain ⟨j, b, hgd, hv⟩ := hno
      have hRj := hdep j (hg j b hgd).1
      rw [hv] at hRj
      rw [if_neg (by rw [wanted_no hgd (hy j b hgd _ hv)]; simp)]
      rw [show o.dst = some (D i) from hdo]
      exact hout undef w (Kp.refl _ _) ((hg j b hgd).2.2 w hRj)
    · have hwant : Region.wanted o (yielded ops a.tmps) = true ∧ ∀ j b, o.guard = some (j, b) → R j (.bool b) w := by
        cases hgq : o.guard with
        | none => exact ⟨wanted_none hgq, fun j b h => (by cases h)⟩
        | some p =>
          obtain ⟨j, b⟩ := p
          obtain ⟨g1, g2, g3⟩ := hg j b hgq
          have hRj := hdep j g1
          obtain ⟨c, hc⟩ := g2 _ _ hRj
          have hcb : c = b := by
            cases c <;> cases b <;> first | rfl | exact absurd ⟨j, _, hgq, hc⟩ hno
          subst hcb
          refine ⟨wanted_some hgq (hy j c hgq c hc), fun j' b' h' => ?_⟩
          cases h'
          rw [← hc]
          exact hRj
      rw [if_pos hwant.1]
      refine Or.inl ?_
      rw [← wp_bare]
      exact hw a w h1 h2 h4 hdep hwant.2 _ (fun v w' hk hv => hout v w' hk hv)
  · rintro listed a w ⟨h1, h2, h3, h4, h5⟩ hr
    have hall : ∀ m i, i < m → i < ops.size → listed.getD i false = true := by
      intro m
      induction m with
      | zero => intro i hi; omega
      | succ m ih =>
        intro i hi hs'
        by_cases e : i < m
        · exact ih i e hs'
        · cases hl : listed.getD i false with
          | true => rfl
          | false =>
            have hac := (hst i ops[i] (Array.getElem?_eq_getElem hs')).2.1
            have hmem : i ∈ Region.ready .any ops listed := by
              refine mem_ready.2 ⟨?_, ops[i], Array.getElem?_eq_getElem hs', fun e' he' hb' => ?_⟩
              · have hsz : i < listed.size := by omega
                simpa [hsz] using hl
              · have hlt := hac e'.on (List.mem_map.2 ⟨e', List.mem_filter.2 ⟨by simpa using he', hb'⟩, rfl⟩)
                exact ih e'.on (by omega) (by omega)
            rw [hr] at hmem
            cases hmem
    exact hend a w h1 h2 h4 (fun i hi => h5 i (by omega) (hall (i + 1) i (by omega) (by omega)))
  · unfold leftN
    have := List.countP_le_length (p := fun i => !(Array.replicate ops.size false).getD i true) (l := List.range ops.size)
    rw [List.length_range] at this
    exact this
  · refine ⟨hn, hB, by simp, Kp.refl _ _, fun i hi hl => ?_⟩
    simp [hi] at hl
end
end Go.Proofs.YtippipeebkkghaaGreatDoor
