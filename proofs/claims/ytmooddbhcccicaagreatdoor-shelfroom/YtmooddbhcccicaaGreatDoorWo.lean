/- Regions that draw their order, whose operations add to the world, or write over what one earlier operation made: each is taken by one at most. -/
import Derived.Test.YtmooddbhcccicaaGreatDoorWm
namespace Go.Proofs.YtmooddbhcccicaaGreatDoor
set_option linter.unusedVariables false
open Go.RowKit Go.Deep

section
variable {P : Program} {ops : Array Oper} {Q : Exit → Act → World → Prop}
/-- the parts of such a region: n slots, B of the acts, R of what is yielded, D where it lies, E which one an operation takes, Bl the block that one made, U whose results it uses -/
structure Owr where
  n : Nat
  B : (Nat → Bool) → Act → Prop
  R : Nat → Value → World → Prop
  D : Nat → Nat
  E : Nat → Option Nat
  Bl : Nat → Value → Option Nat
  U : Nat → List Nat
  T : List (Oper × List Nat)
/-- what must be shown of the k-th operation -/
def Owr.Step (c : Owr) (P : Program) (Q : Exit → Act → World → Prop) (w0 : World) (k : Nat) (o : Oper) (l : List Nat) : Prop :=
  o.dst = some (c.D k) ∧ o.guard = none ∧ (∀ j ∈ l, j < k) ∧ c.D k < c.n ∧ (∀ j, c.E k = some j → j ∈ c.U k) ∧ (∀ j ∈ c.U k, j ∈ l) ∧
  ∀ (L : Nat → Bool) (a : Act) (w : World), a.tmps.size = c.n → L k = false → (∀ i ol, c.T[i]? = some ol → L i = true → ∀ j ∈ ol.2, L j = true) → c.B L a → Kp (fun _ => False) w0 w →
    (∀ j ∈ c.U k, c.R j (a.eval (.tmp (c.D j))) w ∧ ∀ g, c.Bl j (a.eval (.tmp (c.D j))) = some g → w0.heap.size ≤ g ∧ g < w.heap.size) →
    ∀ K : Act → World → Prop, Shut (∀ v w', Kp (fun b => ∃ j, c.E k = some j ∧ c.Bl j (a.eval (.tmp (c.D j))) = some b) w w' → c.R k v w' →
      (∀ g, c.Bl k v = some g → (∃ j, c.E k = some j ∧ c.Bl j (a.eval (.tmp (c.D j))) = some g) ∨ (w.heap.size ≤ g ∧ g < w'.heap.size)) → K (a.put (some (c.D k)) v) w') → Oper.wp P o a w K Q
def Owr.Steps (c : Owr) (P : Program) (Q : Exit → Act → World → Prop) (w0 : World) : Nat → List (Oper × List Nat) → Prop
  | _, [] => True
  | k, (o, l) :: t => c.Step P Q w0 k o l ∧ c.Steps P Q w0 (k + 1) t
theorem Owr.Steps.get {c : Owr} {w0 : World} : ∀ (t : List (Oper × List Nat)) (k i : Nat) (o : Oper) (l : List Nat), c.Steps P Q w0 k t → t[i]? = some (o, l) → c.Step P Q w0 (k + i) o l
  | [], _, _, _, _, _, h => by simp at h
  | x :: t, k, 0, o, l, h, hi => by
    simp at hi
    subst hi
    exact h.1
  | x :: t, k, i + 1, o, l, h, hi => by
    have := Owr.Steps.get t (k + 1) i o l h.2 (by simpa using hi)
    rw [show k + (i + 1) = k + 1 + i by omega]
    exact this
theorem own_region (c : Owr) {id : Nat} {a0 : Act} {y : World} (hm : P.follows .mixedOrders = true) (hT : ops.toList.map (fun o => (bare o, deps o)) = c.T) (hn : a0.tmps.size = c.n) (hB : c.B (fun _ => false) a0)
    (hBp : ∀ k v a L, k < c.T.length → L k = false → c.B L a → c.B (fun i => if i = k then true else L i) (a.put (some (c.D k)) v))
    (hD : ∀ i j, i < c.T.length → j < c.T.length → c.D i = c.D j → i = j)
    (hE : ∀ k k', k < c.T.length → k' < c.T.length → ∀ j, c.E k = some j → j ∈ c.U k' → k' = k)
    (hR : ∀ i v w w' S, c.R i v w → Kp S w w' → (∀ g, c.Bl i v = some g → ¬ S g) → c.R i v w')
    (hs : c.Steps P Q y.drew 0 c.T)
    (hend : ∀ L a w, a.tmps.size = c.n → c.B L a → Kp (fun _ => False) y.drew w → (∀ i, i < c.T.length → (∀ k, k < c.T.length → c.E k ≠ some i) → c.R i (a.eval (.tmp (c.D i))) w ∧ ∀ g, c.Bl i (a.eval (.tmp (c.D i))) = some g → y.drew.heap.size ≤ g ∧ g < w.heap.size) → Q .normal a w) :
    (Code.region id ops true).wp P Q a0 y := by
  have hTl : c.T.length = ops.size := by rw [← hT]; simp
  have hTi : ∀ (i : Nat) (o : Oper), ops[i]? = some o → c.T[i]? = some (bare o, deps o) := fun i o ho => by
    rw [← hT, List.getElem?_map]
    simp [ho]
  have hst : ∀ (i : Nat) (o : Oper), ops[i]? = some o → c.Step P Q y.drew i (bare o) (deps o) := fun i o ho => by
    have := Owr.Steps.get c.T 0 i _ _ hs (hTi i o ho)
    rwa [Nat.zero_add] at this
  refine wp_region_held_drew (S := fun _ => True) hm trivial (fun _ => ?_)
  refine wpAnyH_inv (fun listed a w => a.tmps.size = c.n ∧ (c.B (fun i => listed.getD i false) a ∧ ∀ i o, ops[i]? = some o → listed.getD i false = true → ∀ j ∈ deps o, listed.getD j false = true) ∧ listed.size = ops.size ∧ Kp (fun _ => False) y.drew w ∧
    (∀ i, i < ops.size → listed.getD i false = true → (∀ k, k < ops.size → c.E k = some i → listed.getD k false = false) → c.R i (a.eval (.tmp (c.D i))) w ∧ ∀ g, c.Bl i (a.eval (.tmp (c.D i))) = some g → y.drew.heap.size ≤ g ∧ g < w.heap.size) ∧
    ∀ i, i < ops.size → listed.getD i false = true → (∀ k, k < ops.size → c.E k = some i → listed.getD k false = false) → ∀ j, j < ops.size → listed.getD j false = true → (∀ k, k < ops.size → c.E k = some j → listed.getD k false = false) → i ≠ j → ∀ g, c.Bl i (a.eval (.tmp (c.D i))) = some g → c.Bl j (a.eval (.tmp (c.D j))) = some g → False) ?_ ?_ _ _ _ _ ?_ ?_
  · rintro listed a w i ⟨h1, ⟨h2, hcl⟩, h3, h4, h5, h6⟩ hi
    obtain ⟨hu, o, ho, hall⟩ := mem_ready.1 hi
    have hlt := (Array.getElem?_eq_some_iff.1 ho).1
    have hul : listed.getD i false = false := by
      have hsz : i < listed.size := by omega
      simpa [hsz] using hu
    obtain ⟨hdo, hg, hj, hdn, hEi, hU, hw⟩ := hst i o ho
    unfold wpOp
    rw [ho]
    dsimp only
    have hlist : ∀ j ∈ c.U i, j < ops.size ∧ listed.getD j false = true ∧ (∀ k, k < ops.size → c.E k = some j → listed.getD k false = false) := fun j hmem => by
      have hjl := hU j hmem
      have hjlt := hj j hjl
      obtain ⟨e, he, rfl⟩ := List.mem_map.1 hjl
      obtain ⟨he1, he2⟩ := List.mem_filter.1 he
      refine ⟨Nat.lt_trans hjlt hlt, hall e (by simpa using he1) he2, fun k hk hek => ?_⟩
      have := hE k i (by omega) (by omega) _ hek hmem
      rw [← this]
      exact hul
    have hdep : ∀ j ∈ c.U i, c.R j (a.eval (.tmp (c.D j))) w ∧ ∀ g, c.Bl j (a.eval (.tmp (c.D j))) = some g → y.drew.heap.size ≤ g ∧ g < w.heap.size := fun j hjl => h5 j (hlist j hjl).1 (hlist j hjl).2.1 (hlist j hjl).2.2
    have hset : ∀ j, j ≠ i → (listed.setIfInBounds i true).getD j false = listed.getD j false := fun j hji => by
      simp [Array.getElem?_setIfInBounds_ne (fun e => hji e.symm)]
    have hseti : (listed.setIfInBounds i true).getD i false = true := by
      have hsz : i < listed.size := by omega
      simp [hsz]
    have halive : ∀ j, (∀ k, k < ops.size → c.E k = some j → (listed.setIfInBounds i true).getD k false = false) → (∀ k, k < ops.size → c.E k = some j → listed.getD k false = false) ∧ c.E i ≠ some j := fun j hA => by
      refine ⟨fun k hk hek => ?_, fun e => ?_⟩
      · by_cases e : k = i
        · rw [e]; exact hul
        · rw [← hset k e]; exact hA k hk hek
      · have := hA i hlt e
        rw [hseti] at this
        cases this
    rw [if_pos (wanted_none (o := o) hg)]
    refine Or.inl ?_
    rw [← wp_bare]
    refine hw (fun i => listed.getD i false) a w h1 hul (fun i' ol hol hl j hjl => ?_) h2 h4 hdep _ ?_
    · have hlt' : i' < ops.size := by rw [← hTl]; exact (List.getElem?_eq_some_iff.1 hol).1
      have ho' := Array.getElem?_eq_getElem hlt'
      have h9 := hTi i' _ ho'
      rw [hol] at h9
      injection h9 with h9
      subst h9
      exact hcl i' _ ho' hl j hjl
    intro v w' hk hv hbl
    have hdl : ∀ j ∈ deps o, listed.getD j false = true := fun j hjl => by
      obtain ⟨e, he, rfl⟩ := List.mem_map.1 hjl
      obtain ⟨he1, he2⟩ := List.mem_filter.1 he
      exact hall e (by simpa using he1) he2
    have hmono : ∀ j, listed.getD j false = true → (listed.setIfInBounds i true).getD j false = true := fun j hj2 => by
      by_cases e : j = i
      · rw [e]; exact hseti
      · rw [hset j e]; exact hj2
    have hcl' : ∀ i' o', ops[i']? = some o' → (listed.setIfInBounds i true).getD i' false = true → ∀ j ∈ deps o', (listed.setIfInBounds i true).getD j false = true := fun i' o' ho' hl' j hj2 => by
      by_cases e : i' = i
      · subst e
        rw [ho] at ho'
        cases ho'
        exact hmono j (hdl j hj2)
      · rw [hset i' e] at hl'
        exact hmono j (hcl i' o' ho' hl' j hj2)
    have hfun : (fun j => (listed.setIfInBounds i true).getD j false) = fun j => if j = i then true else listed.getD j false := by
      funext j
      by_cases e : j = i
      · rw [if_pos e, e]; exact hseti
      · rw [if_neg e]; exact hset j e
    obtain ⟨p1, p2, p3, p4⟩ := act_put a (c.D i) v (by rw [h1]; exact hdn)
    have hsz' := hk.size
    have hother : ∀ j, j < ops.size → j ≠ i → (a.put (some (c.D i)) v).eval (.tmp (c.D j)) = a.eval (.tmp (c.D j)) := fun j hjs hji => p4 (c.D j) (fun h => hji (hD j i (by omega) (by omega) h))
    refine ⟨p1.trans h1, ⟨by rw [hfun]; exact hBp i v a _ (by omega) hul h2, hcl'⟩, by rw [Array.size_setIfInBounds]; exact h3, ?_, ?_, ?_⟩
    · refine h4.trans hk (fun b hb e => ?_)
      obtain ⟨j, hej, hbj⟩ := e
      have := ((hdep j (hEi j hej)).2 b hbj).1
      omega
    · intro j hjs hl hA
      by_cases e : j = i
      · subst e
        rw [p3]
        refine ⟨hv, fun g hg => ?_⟩
        rcases hbl g hg with ⟨q, hq1, hq2⟩ | hq
        · have := (hdep q (hEi q hq1)).2 g hq2
          omega
        · have := h4.size
          omega
      · rw [hother j hjs e]
        obtain ⟨hA1, hA2⟩ := halive j hA
        rw [hset j e] at hl
        obtain ⟨r1, r2⟩ := h5 j hjs hl hA1
        refine ⟨hR j _ w w' _ r1 hk (fun g hg hS => ?_), fun g hg => by have := r2 g hg; omega⟩
        obtain ⟨q, hq1, hq2⟩ := hS
        have hql := hlist q (hEi q hq1)
        exact h6 j hjs hl hA1 q hql.1 hql.2.1 hql.2.2 (fun e2 => hA2 (by rw [e2]; exact hq1)) g hg hq2
    · have key : ∀ j, j < ops.size → (listed.setIfInBounds i true).getD j false = true → (∀ k, k < ops.size → c.E k = some j → (listed.setIfInBounds i true).getD k false = false) → j ≠ i → ∀ g, c.Bl i v = some g → c.Bl j (a.eval (.tmp (c.D j))) = some g → False := fun j hjs hl hA e g hg1 hg2 => by
        obtain ⟨hA1, hA2⟩ := halive j hA
        rw [hset j e] at hl
        rcases hbl g hg1 with ⟨q, hq1, hq2⟩ | hq
        · have hql := hlist q (hEi q hq1)
          exact h6 j hjs hl hA1 q hql.1 hql.2.1 hql.2.2 (fun e2 => hA2 (by rw [e2]; exact hq1)) g hg2 hq2
        · have := ((h5 j hjs hl hA1).2 g hg2).2
          omega
      intro j hjs hl hA q hqs hql hqA hne g hg1 hg2
      by_cases e : j = i
      · subst e
        rw [p3] at hg1
        rw [hother q hqs (fun e => hne e.symm)] at hg2
        exact key q hqs hql hqA (fun e => hne e.symm) g hg1 hg2
      · by_cases e2 : q = i
        · subst e2
          rw [p3] at hg2
          rw [hother j hjs e] at hg1
          exact key j hjs hl hA e g hg2 hg1
        · rw [hother j hjs e] at hg1
          rw [hother q hqs e2] at hg2
          rw [hset j e] at hl
          rw [hset q e2] at hql
          exact h6 j hjs hl (halive j hA).1 q hqs hql (halive q hqA).1 hne g hg1 hg2
  · rintro listed a w ⟨h1, ⟨h2, _⟩, h3, h4, h5, h6⟩ hr
    have hall : ∀ m i, i < m → i < ops.size → listed.getD i false = true := by
      intro m
      induction m with
      | zero => intro i hi; omega
      | succ m ih =>
        intro i hi hs'
        by_cases e : i < m
        · exact ih i e hs'
        · cases hl : listed.getD i false with
          | true => rfl
          | false =>
            have hac := (hst i ops[i] (Array.getElem?_eq_getElem hs')).2.2.1
            have hmem : i ∈ Region.ready .any ops listed := by
              refine mem_ready.2 ⟨?_, ops[i], Array.getElem?_eq_getElem hs', fun e' he' hb' => ?_⟩
              · have hsz : i < listed.size := by omega
                simpa [hsz] using hl
              · have hlt := hac e'.on (List.mem_map.2 ⟨e', List.mem_filter.2 ⟨by simpa using he', hb'⟩, rfl⟩)
                exact ih e'.on (by omega) (by omega)
            rw [hr] at hmem
            cases hmem
    exact hend _ a w h1 h2 h4 (fun i hi hne => h5 i (by omega) (hall (i + 1) i (by omega) (by omega)) (fun k hk hek => absurd hek (hne k (by omega))))
  · unfold leftN
    have := List.countP_le_length (p := fun i => !(Array.replicate ops.size false).getD i true) (l := List.range ops.size)
    rw [List.length_range] at this
    exact this
  · have hz : ∀ i, (Array.replicate ops.size false).getD i false = false := fun i => by
      by_cases h : i < ops.size <;> simp [h]
    refine ⟨hn, ⟨by rw [show (fun i => (Array.replicate ops.size false).getD i false) = fun _ => false from funext hz]; exact hB, fun i o ho hl => ?_⟩, by simp, Kp.refl _ _, fun i hi hl => ?_, fun i hi hl => ?_⟩ <;> (rw [hz] at hl; cases hl)
end
end Go.Proofs.YtmooddbhcccicaaGreatDoor
