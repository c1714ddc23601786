/- Texts of this proof, joined: MgCC, MgCD, MgCE. -/
import Derived.Test.YtmooddbhcccicaaGreatDoorMgCB
import Derived.Test.YtmooddbhcccicaaGreatDoorMgBQ
import Derived.Test.YtmooddbhcccicaaGreatDoorMgBZ
import Derived.Test.YtmooddbhcccicaaGreatDoorMgBT
import Derived.Test.YtmooddbhcccicaaGreatDoorMgBV
import Derived.Test.YtmooddbhcccicaaGreatDoorMgBY
import Derived.Test.YtmooddbhcccicaaGreatDoorMgCA
import Derived.StillTailTactics
/- Texts of this proof, joined: Wq, Iv. -/
/- Regions that draw their order, whose operations that change the world stand in a chain; calls may give up. -/
namespace Go.Proofs.YtmooddbhcccicaaGreatDoor
set_option linter.unusedVariables false
open Go.RowKit Go.Deep

section
variable {P : Program} {ops : Array Oper} {Q : Exit → Act → World → Prop}
/-- a call, by its contract: it answers, or it gives up -/
theorem wp_enterP {o : Oper} {a : Act} {w : World} {K : Act → World → Prop} {f : FuncId} {args : Array Value} {R : Ending → World → Prop} (hrun : (execOp a.eval o).run P w = .ok (.enter f args) w) (hc : Calls P f args w R)
    (h : ∀ e w', R e w' → (∃ v, e = .returned v ∧ K (a.put o.dst v) w') ∨ ∃ c, e = .panicked c ∧ Q (.panic c) a w') : Oper.wp P o a w K Q := by
  unfold Oper.wp
  rw [hrun, Oper.upon_enter]
  refine hc.mono ?_
  intro e w' hR
  rcases h e w' hR with ⟨v, rfl, hk⟩ | ⟨c, rfl, hq⟩
  · exact hk
  · exact hq
/-- the parts of a region in a chain: n slots, B of the acts, R of what is yielded, D where it lies, pos who stands where in the chain of N, W of the world behind so many of it -/
structure Chn where
  n : Nat
  B : Act → Prop
  R : Nat → Value → World → Prop
  D : Nat → Nat
  pos : Nat → Option Nat
  N : Nat
  W : Nat → World → Prop
  T : List (Oper × List Nat)
/-- what must be shown of the k-th operation -/
def Chn.Step (c : Chn) (P : Program) (Q : Exit → Act → World → Prop) (k : Nat) (o : Oper) (l : List Nat) : Prop :=
  (o.dst = some (c.D k) ∧ c.D k < c.n ∨ o.dst = none ∧ c.n ≤ c.D k ∧ ∀ v w, c.R k v w) ∧ (∀ j ∈ l, j < k) ∧
  (∀ j b, o.guard = some (j, b) → j ∈ l ∧ c.D j < c.n ∧ (∀ v w, c.R j v w → ∃ d : Bool, v = .bool d) ∧ (∀ w, c.R j (.bool !b) w → c.R k undef w ∧ ∀ p, c.pos k = some p → c.W p w → c.W (p + 1) w)) ∧
  (match c.pos k with
    | none => ∀ (a : Act) (w : World) (m : Nat), a.tmps.size = c.n → c.B a → m ≤ c.N → c.W m w → (∀ j ∈ l, ∀ p, c.pos j = some p → p < m) → (∀ i ol, c.T[i]? = some ol → k ∈ ol.2 → ∀ p, c.pos i = some p → m ≤ p) → (∀ j ∈ l, c.R j (a.eval (.tmp (c.D j))) w) → (∀ j b, o.guard = some (j, b) → c.R j (.bool b) w) →
        ∀ K : Act → World → Prop, Shut (∀ v w', Kp (fun _ => False) w w' → c.R k v w' → K (a.put o.dst v) w') → Oper.wp P o a w K Q
    | some p => (∀ q, p = q + 1 → ∃ j ∈ l, c.pos j = some q) ∧ p < c.N ∧ ∀ (a : Act) (w : World), a.tmps.size = c.n → c.B a → c.W p w → (∀ j ∈ l, c.R j (a.eval (.tmp (c.D j))) w) → (∀ j b, o.guard = some (j, b) → c.R j (.bool b) w) →
        ∀ K : Act → World → Prop, Shut (∀ v w', c.W (p + 1) w' → (∀ i u, i ≠ k → c.R i u w → c.R i u w') → c.R k v w' → K (a.put o.dst v) w') → Oper.wp P o a w K Q)
def Chn.Steps (c : Chn) (P : Program) (Q : Exit → Act → World → Prop) : Nat → List (Oper × List Nat) → Prop
  | _, [] => True
  | k, (o, l) :: t => c.Step P Q k o l ∧ c.Steps P Q (k + 1) t
theorem Chn.Steps.get {c : Chn} : ∀ (t : List (Oper × List Nat)) (k i : Nat) (o : Oper) (l : List Nat), c.Steps P Q k t → t[i]? = some (o, l) → c.Step P Q (k + i) o l
  | [], _, _, _, _, _, h => by simp at h
  | x :: t, k, 0, o, l, h, hi => by
    simp at hi
    subst hi
    exact h.1
  | x :: t, k, i + 1, o, l, h, hi => by
    have := Chn.Steps.get t (k + 1) i o l h.2 (by simpa using hi)
    rw [show k + (i + 1) = k + 1 + i by omega]
    exact this
theorem eval_past (a : Act) (t : Nat) (h : a.tmps.size ≤ t) : a.eval (.tmp t) = undef := by
  show a.tmps.getD t undef = undef
  simp [Array.getElem?_eq_none h]
theorem chain_region (c : Chn) {id : Nat} {a0 : Act} {y : World} (hm : P.follows .mixedOrders = true) (hT : ops.toList.map (fun o => (bare o, deps o)) = c.T) (hn : a0.tmps.size = c.n) (hB : c.B a0)
    (hBp : ∀ k v a, k < c.T.length → c.D k < c.n → c.B a → c.B (a.put (some (c.D k)) v))
    (hD : ∀ i j, i < c.T.length → j < c.T.length → c.D i = c.D j → i = j)
    (hp : ∀ i j p, i < c.T.length → j < c.T.length → c.pos i = some p → c.pos j = some p → i = j)
    (hN : ∀ p, p < c.N → ∃ i, i < c.T.length ∧ c.pos i = some p)
    (hW : c.W 0 y.drew)
    (hWk : ∀ m w w', Kp (fun _ => False) w w' → c.W m w → c.W m w')
    (hRk : ∀ i v w w', Kp (fun _ => False) w w' → c.R i v w → c.R i v w')
    (hs : c.Steps P Q 0 c.T)
    (hend : ∀ a w, a.tmps.size = c.n → c.B a → (∀ t, (∀ k, k < c.T.length → c.D k ≠ t) → a.eval (.tmp t) = a0.eval (.tmp t)) → c.W c.N w → (∀ i, i < c.T.length → c.R i (a.eval (.tmp (c.D i))) w) → Q .normal a w) :
    (Code.region id ops true).wp P Q a0 y := by
  have hTl : c.T.length = ops.size := by rw [← hT]; simp
  have hTi : ∀ (i : Nat) (o : Oper), ops[i]? = some o → c.T[i]? = some (bare o, deps o) := fun i o ho => by
    rw [← hT, List.getElem?_map]
    simp [ho]
  have hst : ∀ (i : Nat) (o : Oper), ops[i]? = some o → c.Step P Q i (bare o) (deps o) := fun i o ho => by
    have := Chn.Steps.get c.T 0 i _ _ hs (hTi i o ho)
    rwa [Nat.zero_add] at this
  refine wp_region_held_drew (S := fun _ => True) hm trivial (fun _ => ?_)
  refine wpAnyH_inv (fun listed a w => a.tmps.size = c.n ∧ (c.B a ∧ ∀ t, (∀ k, k < c.T.length → c.D k ≠ t) → a.eval (.tmp t) = a0.eval (.tmp t)) ∧ listed.size = ops.size ∧ (∃ m, m ≤ c.N ∧ c.W m w ∧ ∀ i, i < ops.size → ∀ p, c.pos i = some p → (listed.getD i false = true ↔ p < m)) ∧ (∀ i o, ops[i]? = some o → listed.getD i false = true → ∀ j ∈ deps o, listed.getD j false = true) ∧ ∀ i, i < ops.size → listed.getD i false = true → c.R i (a.eval (.tmp (c.D i))) w) ?_ ?_ _ _ _ _ ?_ ?_
  · rintro listed a w i ⟨h1, h2, h3, ⟨m, hmN, hWm, hmp⟩, hcl, h5⟩ hi
    obtain ⟨hu, o, ho, hall⟩ := mem_ready.1 hi
    have hlt := (Array.getElem?_eq_some_iff.1 ho).1
    have hul : listed.getD i false = false := by
      have hsz : i < listed.size := by omega
      simpa [hsz] using hu
    obtain ⟨hdo, hj, hg, hw⟩ := hst i o ho
    unfold wpOp
    rw [ho]
    dsimp only
    have hlist : ∀ j ∈ deps o, j < ops.size ∧ listed.getD j false = true := fun j hjl => by
      have hjlt := hj j hjl
      obtain ⟨e, he, rfl⟩ := List.mem_map.1 hjl
      obtain ⟨he1, he2⟩ := List.mem_filter.1 he
      exact ⟨Nat.lt_trans hjlt hlt, hall e (by simpa using he1) he2⟩
    have hdep : ∀ j ∈ deps o, c.R j (a.eval (.tmp (c.D j))) w := fun j hjl => h5 j (hlist j hjl).1 (hlist j hjl).2
    have hdm : ∀ j ∈ deps o, ∀ p, c.pos j = some p → p < m := fun j hjl p hp2 => (hmp j (hlist j hjl).1 p hp2).1 (hlist j hjl).2
    have hset : ∀ j, j ≠ i → (listed.setIfInBounds i true).getD j false = listed.getD j false := fun j hji => by
      simp [Array.getElem?_setIfInBounds_ne (fun e => hji e.symm)]
    have hseti : (listed.setIfInBounds i true).getD i false = true := by
      have hsz : i < listed.size := by omega
      simp [hsz]
    have hmono : ∀ j, listed.getD j false = true → (listed.setIfInBounds i true).getD j false = true := fun j hj2 => by
      by_cases e : j = i
      · rw [e]; exact hseti
      · rw [hset j e]; exact hj2
    have hcl' : ∀ i' o', ops[i']? = some o' → (listed.setIfInBounds i true).getD i' false = true → ∀ j ∈ deps o', (listed.setIfInBounds i true).getD j false = true := fun i' o' ho' hl' j hj2 => by
      by_cases e : i' = i
      · subst e
        rw [ho] at ho'
        cases ho'
        exact hmono j (hlist j hj2).2
      · rw [hset i' e] at hl'
        exact hmono j (hcl i' o' ho' hl' j hj2)
    have hup : ∀ i' ol, c.T[i']? = some ol → i ∈ ol.2 → ∀ p, c.pos i' = some p → m ≤ p := fun i' ol hol hmem p hp2 => by
      have hlt' : i' < ops.size := by rw [← hTl]; exact (List.getElem?_eq_some_iff.1 hol).1
      have ho' := Array.getElem?_eq_getElem hlt'
      have h9 := hTi i' _ ho'
      rw [hol] at h9
      injection h9 with h9
      subst h9
      rcases Nat.lt_or_ge p m with h8 | h8
      · have := hcl i' _ ho' ((hmp i' hlt' p hp2).2 h8) i hmem
        rw [hul] at this
        cases this
      · exact h8
    have hout : ∀ v w' m', m' ≤ c.N → c.W m' w' → (∀ j, j < ops.size → ∀ p, c.pos j = some p → ((listed.setIfInBounds i true).getD j false = true ↔ p < m')) → (∀ j u, j ≠ i → c.R j u w → c.R j u w') → c.R i v w' → (o.dst = none ∨ o.dst = some (c.D i)) →
        (a.put o.dst v).tmps.size = c.n ∧ (c.B (a.put o.dst v) ∧ ∀ t, (∀ k, k < c.T.length → c.D k ≠ t) → (a.put o.dst v).eval (.tmp t) = a0.eval (.tmp t)) ∧ (listed.setIfInBounds i true).size = ops.size ∧ (∃ m, m ≤ c.N ∧ c.W m w' ∧ ∀ i', i' < ops.size → ∀ p, c.pos i' = some p → ((listed.setIfInBounds i true).getD i' false = true ↔ p < m)) ∧ (∀ i' o', ops[i']? = some o' → (listed.setIfInBounds i true).getD i' false = true → ∀ j ∈ deps o', (listed.setIfInBounds i true).getD j false = true) ∧ ∀ j, j < ops.size → (listed.setIfInBounds i true).getD j false = true → c.R j ((a.put o.dst v).eval (.tmp (c.D j))) w' := by
      intro v w' m' hm' hW' hpos hRs hv hdst
      rcases hdo with ⟨hd1, hd2⟩ | ⟨hd1, hd2, hd3⟩
      · have hd1' : o.dst = some (c.D i) := hd1
        obtain ⟨p1, p2, p3, p4⟩ := act_put a (c.D i) v (by rw [h1]; exact hd2)
        rw [hd1']
        refine ⟨p1.trans h1, ⟨hBp i v a (by omega) hd2 h2.1, fun t ht => by rw [p4 t (fun e => ht i (by omega) e.symm)]; exact h2.2 t ht⟩, by rw [Array.size_setIfInBounds]; exact h3, ⟨m', hm', hW', hpos⟩, hcl', fun j hjs hl => ?_⟩
        by_cases e : i = j
        · subst e
          rw [p3]
          exact hv
        · rw [p4 (c.D j) (fun h => e (hD i j (by omega) (by omega) h.symm))]
          rw [hset j (fun h => e h.symm)] at hl
          exact hRs _ _ (fun h => e h.symm) (h5 j hjs hl)
      · have hd1' : o.dst = none := hd1
        rw [hd1']
        show a.tmps.size = _ ∧ (c.B a ∧ ∀ t, _ → a.eval _ = _) ∧ _ ∧ _ ∧ _ ∧ ∀ j, _ → _ → c.R j (a.eval _) w'
        refine ⟨h1, h2, by rw [Array.size_setIfInBounds]; exact h3, ⟨m', hm', hW', hpos⟩, hcl', fun j hjs hl => ?_⟩
        by_cases e : i = j
        · subst e
          exact hd3 _ _
        · rw [hset j (fun h => e h.symm)] at hl
          exact hRs _ _ (fun h => e h.symm) (h5 j hjs hl)
    have hposk : c.pos i = none → ∀ j, j < ops.size → ∀ p, c.pos j = some p → ((listed.setIfInBounds i true).getD j false = true ↔ p < m) := fun hk j hjs p hp2 => by
      by_cases e : j = i
      · subst e
        rw [hk] at hp2
        cases hp2
      · rw [hset j e]
        exact hmp j hjs p hp2
    have hposc : ∀ p, c.pos i = some p → p < c.N → (∀ q, p = q + 1 → ∃ j ∈ deps o, c.pos j = some q) → p = m ∧ ∀ j, j < ops.size → ∀ p', c.pos j = some p' → ((listed.setIfInBounds i true).getD j false = true ↔ p' < m + 1) := fun p hk hpN hq => by
      have hle : ¬ p < m := fun h => by
        have := (hmp i hlt p hk).2 h
        rw [hul] at this
        cases this
      have hpm : p = m := by
        cases p with
        | zero => omega
        | succ q =>
          obtain ⟨j, hjl, hj2⟩ := hq q rfl
          have := hdm j hjl q hj2
          omega
      refine ⟨hpm, fun j hjs p' hp2 => ?_⟩
      by_cases e : j = i
      · subst e
        rw [hk] at hp2
        cases hp2
        rw [hseti]
        exact ⟨fun _ => by omega, fun _ => rfl⟩
      · rw [hset j e, hmp j hjs p' hp2]
        refine ⟨fun h => by omega, fun h => ?_⟩
        by_cases e2 : p' = m
        · subst e2
          subst hpm
          exact absurd (hp j i _ (by omega) (by omega) hp2 hk) e
        · omega
    have hy : ∀ j b, o.guard = some (j, b) → ∀ d : Bool, a.eval (.tmp (c.D j)) = .bool d → yielded ops a.tmps j = some d := fun j b hgd d hc => by
      have hjl := (hg j b hgd).1
      have hlt2 : j < ops.size := Nat.lt_trans (hj _ hjl) hlt
      have hoj := Array.getElem?_eq_getElem hlt2
      have hsj := hst j _ hoj
      have hDj := (hg j b hgd).2.1
      have hsd : (bare ops[j]).dst = some (c.D j) := by
        rcases hsj.1 with h | h
        · exact h.1
        · have := h.2.1
          omega
      exact yielded_of (by rw [hoj]; rfl) hsd hc (by rw [h1]; exact hDj)
    have hdst : o.dst = none ∨ o.dst = some (c.D i) := by
      rcases hdo with h | h
      · exact Or.inr h.1
      · exact Or.inl h.1
    by_cases hno : ∃ j b, o.guard = some (j, b) ∧ a.eval (.tmp (c.D j)) = .bool !b
    · obtain ⟨j, b, hgd, hv⟩ := hno
      have hRj := hdep j (hg j b hgd).1
      rw [hv] at hRj
      rw [if_neg (by rw [wanted_no hgd (hy j b hgd _ hv)]; simp)]
      have hgu := (hg j b hgd).2.2.2 w hRj
      cases hk : c.pos i with
      | none => exact hout undef w m hmN hWm (hposk hk) (fun _ _ _ h => h) hgu.1 hdst
      | some p =>
        rw [hk] at hw
        obtain ⟨hq, hpN, _⟩ := hw
        obtain ⟨rfl, hpp⟩ := hposc p hk hpN hq
        exact hout undef w (p + 1) (by omega) (hgu.2 p hk hWm) hpp (fun _ _ _ h => h) hgu.1 hdst
    · have hwant : Region.wanted o (yielded ops a.tmps) = true ∧ ∀ j b, o.guard = some (j, b) → c.R j (.bool b) w := by
        cases hgq : o.guard with
        | none => exact ⟨wanted_none hgq, fun j b h => (by cases h)⟩
        | some p =>
          obtain ⟨j, b⟩ := p
          obtain ⟨g1, g1b, g2, g3⟩ := hg j b hgq
          have hRj := hdep j g1
          obtain ⟨d, hc⟩ := g2 _ _ hRj
          have hcb : d = b := by
            cases d <;> cases b <;> first | rfl | exact absurd ⟨j, _, hgq, hc⟩ hno
          subst hcb
          refine ⟨wanted_some hgq (hy j d hgq d hc), fun j' b' h' => ?_⟩
          cases h'
          rw [← hc]
          exact hRj
      rw [if_pos hwant.1]
      refine Or.inl ?_
      rw [← wp_bare]
      cases hk : c.pos i with
      | none =>
        rw [hk] at hw
        exact hw a w m h1 h2.1 hmN hWm hdm hup hdep hwant.2 _ (fun v w' hk' hv => hout v w' m hmN (hWk m w w' hk' hWm) (hposk hk) (fun j u _ h => hRk j u w w' hk' h) hv hdst)
      | some p =>
        rw [hk] at hw
        obtain ⟨hq, hpN, hw⟩ := hw
        obtain ⟨rfl, hpp⟩ := hposc p hk hpN hq
        exact hw a w h1 h2.1 hWm hdep hwant.2 _ (fun v w' hW' hRs hv => hout v w' (p + 1) (by omega) hW' hpp hRs hv hdst)
  · rintro listed a w ⟨h1, h2, h3, ⟨m, hmN, hWm, hmp⟩, hcl, h5⟩ hr
    have hall : ∀ m i, i < m → i < ops.size → listed.getD i false = true := by
      intro m
      induction m with
      | zero => intro i hi; omega
      | succ m ih =>
        intro i hi hs'
        by_cases e : i < m
        · exact ih i e hs'
        · cases hl : listed.getD i false with
          | true => rfl
          | false =>
            have hac := (hst i ops[i] (Array.getElem?_eq_getElem hs')).2.1
            have hmem : i ∈ Region.ready .any ops listed := by
              refine mem_ready.2 ⟨?_, ops[i], Array.getElem?_eq_getElem hs', fun e' he' hb' => ?_⟩
              · have hsz : i < listed.size := by omega
                simpa [hsz] using hl
              · have hlt := hac e'.on (List.mem_map.2 ⟨e', List.mem_filter.2 ⟨by simpa using he', hb'⟩, rfl⟩)
                exact ih e'.on (by omega) (by omega)
            rw [hr] at hmem
            cases hmem
    have hmE : m = c.N := by
      by_cases e : m = c.N
      · exact e
      · obtain ⟨i, hi, hpi⟩ := hN m (by omega)
        have := (hmp i (by omega) m hpi).1 (hall (i + 1) i (by omega) (by omega))
        omega
    subst hmE
    exact hend a w h1 h2.1 h2.2 hWm (fun i hi => h5 i (by omega) (hall (i + 1) i (by omega) (by omega)))
  · unfold leftN
    have := List.countP_le_length (p := fun i => !(Array.replicate ops.size false).getD i true) (l := List.range ops.size)
    rw [List.length_range] at this
    exact this
  · refine ⟨hn, ⟨hB, fun _ _ => rfl⟩, by simp, ⟨0, Nat.zero_le _, hW, fun i hi p _ => ?_⟩, fun i o ho hl => ?_, fun i hi hl => ?_⟩
    · simp [hi]
    · simp [(Array.getElem?_eq_some_iff.1 ho).1] at hl
    · simp [hi] at hl
/-- an operation outside the chain, with no guard -/
theorem Chn.pure (c : Chn) {k : Nat} {o : Oper} {l : List Nat} (hpos : c.pos k = none) (hd : o.dst = some (c.D k)) (hn : c.D k < c.n) (hj : ∀ j ∈ l, j < k) (hg : o.guard = none)
    (h : ∀ (a : Act) (w : World) (m : Nat), a.tmps.size = c.n → c.B a → c.W m w → (∀ j ∈ l, ∀ p, c.pos j = some p → p < m) → (∀ i ol, c.T[i]? = some ol → k ∈ ol.2 → ∀ p, c.pos i = some p → m ≤ p) → (∀ j ∈ l, c.R j (a.eval (.tmp (c.D j))) w) →
        ∀ K : Act → World → Prop, Shut (∀ v w', Kp (fun _ => False) w w' → c.R k v w' → K (a.put o.dst v) w') → Oper.wp P o a w K Q) : c.Step P Q k o l := by
  refine ⟨Or.inl ⟨hd, hn⟩, hj, fun j b e => (by rw [hg] at e; cases e), ?_⟩
  rw [hpos]
  intro a w m h1 h2 h3 h4 h5 h6 h7 h8 K hK
  exact h a w m h1 h2 h4 h5 h6 h7 K hK
/-- a link of the chain, with no guard -/
theorem Chn.link (c : Chn) {k : Nat} {o : Oper} {l : List Nat} (p : Nat) (hpos : c.pos k = some p) (hq : ∀ q, p = q + 1 → ∃ j ∈ l, c.pos j = some q) (hpN : p < c.N) (hd : o.dst = some (c.D k) ∧ c.D k < c.n ∨ o.dst = none ∧ c.n ≤ c.D k ∧ ∀ v w, c.R k v w) (hj : ∀ j ∈ l, j < k) (hg : o.guard = none)
    (h : ∀ (a : Act) (w : World), a.tmps.size = c.n → c.B a → c.W p w → (∀ j ∈ l, c.R j (a.eval (.tmp (c.D j))) w) →
        ∀ K : Act → World → Prop, Shut (∀ v w', c.W (p + 1) w' → (∀ i u, i ≠ k → c.R i u w → c.R i u w') → c.R k v w' → K (a.put o.dst v) w') → Oper.wp P o a w K Q) : c.Step P Q k o l := by
  refine ⟨hd, hj, fun j b e => (by rw [hg] at e; cases e), ?_⟩
  rw [hpos]
  refine ⟨hq, hpN, ?_⟩
  intro a w h1 h2 h3 h4 h5 K hK
  exact h a w h1 h2 h3 h4 K hK
theorem run_value {o : Oper} {a : Act} {w w' : World} {v : Value} {K : Act → World → Prop} (hrun : (execOp a.eval o).run P w = .ok (.value v) w') (hK : K (a.put o.dst v) w') : Oper.wp P o a w K Q := by
  unfold Oper.wp
  rw [hrun, Oper.upon_value]
  exact hK
theorem run_skip {o : Oper} {a : Act} {w w' : World} {K : Act → World → Prop} (hd : o.dst = none) (hrun : (execOp a.eval o).run P w = .ok .skip w') (hK : ∀ v, K (a.put o.dst v) w') : Oper.wp P o a w K Q := by
  unfold Oper.wp
  rw [hrun, Oper.upon_skip]
  exact hK _
theorem prevOf {c : Chn} {l : List Nat} (j p : Nat) (hj : j ∈ l) (hp : c.pos j = some p) : ∀ q, p + 1 = q + 1 → ∃ j ∈ l, c.pos j = some q := fun q h => ⟨j, hj, by rw [hp]; congr 1; omega⟩
/-- the chain's order, by a list of who stands where -/
def posOf (C : List Nat) (k : Nat) : Option Nat := C.findIdx? (· == k)
theorem posOf_get {C : List Nat} {k p : Nat} (h : posOf C k = some p) : C[p]? = some k := by
  obtain ⟨h1, h2, _⟩ := List.findIdx?_eq_some_iff_getElem.1 h
  rw [List.getElem?_eq_getElem h1]
  simpa using h2
theorem posOf_inj (C : List Nat) (i j p : Nat) (h : posOf C i = some p) (h2 : posOf C j = some p) : i = j := by
  have := (posOf_get h).symm.trans (posOf_get h2)
  injection this
theorem posOf_at (C : List Nat) (n : Nat) (hn : C.Nodup) (hl : ∀ x ∈ C, x < n) (p : Nat) (hp : p < C.length) : ∃ i, i < n ∧ posOf C i = some p := by
  refine ⟨C[p], hl _ (List.getElem_mem hp), List.findIdx?_eq_some_iff_getElem.2 ⟨hp, by simp, fun j hj => ?_⟩⟩
  simp only [Bool.not_eq_true, beq_eq_false_iff_ne]
  intro e
  exact List.pairwise_iff_getElem.1 hn j p (by omega) hp hj e
/-- an act is told by the slots that were put -/
theorem act_puts (a : Act) : ∀ (Ds : List Nat) (a0 : Act), a.tmps.size = a0.tmps.size → a.defers = a0.defers → (∀ t, t ∉ Ds → a.eval (.tmp t) = a0.eval (.tmp t)) → a = Ds.foldl (fun b d => b.put (some d) (a.eval (.tmp d))) a0
  | [], a0, hs, hd, h => by
    obtain ⟨t, d⟩ := a
    obtain ⟨t0, d0⟩ := a0
    dsimp only at hs hd
    subst hd
    show Act.mk t d = Act.mk t0 d
    congr 1
    refine Array.ext hs (fun i h1 h2 => ?_)
    have := h i (by simp)
    simpa [Act.eval, Array.getD, h1, h2] using this
  | x :: Ds, a0, hs, hd, h => by
    show a = Ds.foldl _ (a0.put (some x) (a.eval (.tmp x)))
    refine act_puts a Ds _ ?_ hd (fun t ht => ?_)
    · rw [hs]
      simp [Act.put]
    · by_cases e : t = x
      · subst e
        by_cases hl : t < a0.tmps.size
        · exact (act_put a0 t _ hl).2.2.1.symm
        · rw [eval_past a t (by omega), eval_past _ t (by simp [Act.put]; omega)]
      · have h1 := h t (by simp [e, ht])
        rw [h1]
        show a0.tmps.getD t undef = (a0.tmps.setIfInBounds x _).getD t undef
        simp [Array.getElem?_setIfInBounds_ne (fun h => e h.symm)]
theorem cons_len {α : Type} {l : List α} {n : Nat} (h : l.length = n + 1) : ∃ x t, l = x :: t ∧ t.length = n := by
  cases l with
  | nil => cases h
  | cons x t => exact ⟨x, t, rfl, by simpa using h⟩
end
end Go.Proofs.YtmooddbhcccicaaGreatDoor

/- ShelfDrops' drawn region (laid by scripts/mkiv.py). -/
namespace Go.Proofs.YtmooddbhcccicaaGreatDoor
set_option linter.unusedVariables false
set_option linter.unusedSimpArgs false
open Go.RowKit Go.Deep

def drK (na ca nb cb la lb : Nat) (pa pb : Option Addr) (ya yb : List Nat) : Nat → Kd
  | 0 => .eq (.slice pa na ca)
  | 1 => .eq (.slice pa na ca)
  | 2 => .eq (.int .i64 (na : Int))
  | 3 => .eq (.int .i64 (la : Int))
  | 4 => .eq (.slice pa la ca)
  | 5 => .ow ya
  | 6 => .ow [1]
  | 7 => .ow (ya ++ [1])
  | 8 => .eq (.slice pb nb cb)
  | 9 => .eq (.slice pb nb cb)
  | 10 => .eq (.int .i64 (nb : Int))
  | 11 => .eq (.int .i64 (lb : Int))
  | 12 => .eq (.slice pb lb cb)
  | 13 => .ow yb
  | 14 => .ow [2]
  | 15 => .ow (yb ++ [2])
  | 16 => .ow (ya ++ [1])
  | 17 => .ow (yb ++ [2])
  | _ => .eq undef
def drL : List Nat := [38, 39, 40, 41, 42, 43, 44, 45, 46, 47, 48, 49, 50, 51, 52, 53, 3, 4]
def drD (k : Nat) : Nat := drL.getD k 0
def drE : Nat → Option Nat
  | 7 => some 5
  | 15 => some 13
  | 16 => some 7
  | 17 => some 15
  | _ => none
def drU : Nat → List Nat
  | 2 => [1]
  | 3 => [2]
  | 4 => [0, 3]
  | 5 => [4]
  | 7 => [5, 6]
  | 10 => [9]
  | 11 => [10]
  | 12 => [8, 11]
  | 13 => [12]
  | 15 => [13, 14]
  | 16 => [7]
  | 17 => [15]
  | _ => []
def drB (pa : Option Addr) (na ca : Nat) (pb : Option Addr) (nb cb : Nat) (f : Nat → Value) (df : List Deferred) (L : Nat → Bool) (a : Act) : Prop := (L 16 = false → a.eval (.tmp 3) = .slice pa na ca) ∧ (L 17 = false → a.eval (.tmp 4) = .slice pb nb cb) ∧ (∀ t, t ∉ drL → a.eval (.tmp t) = f t) ∧ a.defers = df
theorem drD3 : ∀ k, k < 18 → k ≠ 16 → drD k ≠ 3 := by decide
theorem drD4 : ∀ k, k < 18 → k ≠ 17 → drD k ≠ 4 := by decide
theorem drDn : ∀ k, k < 18 → drD k ∈ drL := by decide
theorem drDi : ∀ i, i < 18 → ∀ j, j < 18 → drD i = drD j → i = j := by decide
set_option maxRecDepth 100000 in
theorem drEU : ∀ k, k < 18 → ∀ k', k' < 18 → ∀ j ∈ drU k', drE k = some j → k' = k := by decide
theorem drE16 : ∀ k, k < 18 → drE k ≠ some 16 := by decide
theorem drE17 : ∀ k, k < 18 → drE k ≠ some 17 := by decide
theorem put_ne {a : Act} {d t : Nat} {v : Value} (h : d ≠ t) : (a.put (some d) v).eval (.tmp t) = a.eval (.tmp t) := by
  show (a.tmps.setIfInBounds d v).getD t undef = a.tmps.getD t undef
  simp [Array.getElem?_setIfInBounds_ne h]
theorem drB_put (pa : Option Addr) (na ca : Nat) (pb : Option Addr) (nb cb : Nat) (f : Nat → Value) (df : List Deferred) (k : Nat) (v : Value) (a : Act) (L : Nat → Bool) (hk : k < 18) (h : drB pa na ca pb nb cb f df L a) : drB pa na ca pb nb cb f df (fun i => if i = k then true else L i) (a.put (some (drD k)) v) := by
  obtain ⟨h3, h4, h0, hd⟩ := h
  refine ⟨fun hl => ?_, fun hl => ?_, fun t ht => by rw [put_ne (fun e : drD k = t => ht (e ▸ drDn k hk))]; exact h0 t ht, hd⟩
  · by_cases e : 16 = k
    · dsimp only at hl
      rw [if_pos e] at hl; cases hl
    · dsimp only at hl
      rw [if_neg e] at hl
      rw [put_ne (drD3 k hk (fun h => e h.symm))]
      exact h3 hl
  · by_cases e : 17 = k
    · dsimp only at hl
      rw [if_pos e] at hl; cases hl
    · dsimp only at hl
      rw [if_neg e] at hl
      rw [put_ne (drD4 k hk (fun h => e h.symm))]
      exact h4 hl
def drT : List (Oper × List Nat) := [(⟨some 38, Op.move (Operand.tmp 3), 34, "", #[], none⟩, []), (⟨some 39, Op.move (Operand.tmp 3), 34, "", #[], none⟩, []), (⟨some 40, Op.call { callee := Callee.builtin Builtin.len, args := #[Operand.tmp 39], argTypes := #[34] }, 3, "", #[], none⟩, [1]), (⟨some 41, Op.call { callee := Callee.builtin Builtin.min, args := #[Operand.tmp 40, Operand.const (Value.int IntKind.i64 100)], argTypes := #[3, 3] }, 3, "", #[], none⟩, [2]), (⟨some 42, Op.slice 34 (Operand.tmp 38) none (some (Operand.tmp 41)) none, 34, "", #[], none⟩, [0, 3]), (⟨some 43, Op.call { callee := Callee.value (Operand.func 13), args := #[Operand.tmp 42], argTypes := #[34] }, 34, "", #[], none⟩, [4]), (⟨some 44, Op.buildSlice 34 1 #[(0, Operand.const (Value.int IntKind.u8 1))], 34, "", #[], none⟩, []), (⟨some 45, Op.call { callee := Callee.builtin Builtin.append, args := #[Operand.tmp 43, Operand.tmp 44], argTypes := #[34, 34] }, 34, "", #[], none⟩, [5, 6, 5]), (⟨some 46, Op.move (Operand.tmp 4), 34, "", #[], none⟩, []), (⟨some 47, Op.move (Operand.tmp 4), 34, "", #[], none⟩, []), (⟨some 48, Op.call { callee := Callee.builtin Builtin.len, args := #[Operand.tmp 47], argTypes := #[34] }, 3, "", #[], none⟩, [9]), (⟨some 49, Op.call { callee := Callee.builtin Builtin.min, args := #[Operand.tmp 48, Operand.const (Value.int IntKind.i64 100)], argTypes := #[3, 3] }, 3, "", #[], none⟩, [10]), (⟨some 50, Op.slice 34 (Operand.tmp 46) none (some (Operand.tmp 49)) none, 34, "", #[], none⟩, [8, 11]), (⟨some 51, Op.call { callee := Callee.value (Operand.func 13), args := #[Operand.tmp 50], argTypes := #[34] }, 34, "", #[], none⟩, [12, 7]), (⟨some 52, Op.buildSlice 34 1 #[(0, Operand.const (Value.int IntKind.u8 2))], 34, "", #[], none⟩, []), (⟨some 53, Op.call { callee := Callee.builtin Builtin.append, args := #[Operand.tmp 51, Operand.tmp 52], argTypes := #[34, 34] }, 34, "", #[], none⟩, [13, 14, 13]), (⟨some 3, Op.assign (Operand.tmp 45), 34, "", #[], none⟩, [7, 15, 0, 1, 2, 3, 4, 5, 6, 7]), (⟨some 4, Op.assign (Operand.tmp 53), 34, "", #[], none⟩, [15, 16, 0, 1, 2, 3, 4, 5, 6, 7, 8, 9, 10, 11, 12, 13, 14, 15, 16])]
def drC (na ca nb cb la lb : Nat) (pa pb : Option Addr) (ya yb : List Nat) (base : Nat) (f : Nat → Value) (df : List Deferred) : Owr := { n := 146, B := drB pa na ca pb nb cb f df, R := fun k => (drK na ca nb cb la lb pa pb ya yb k).R base, D := drD, E := drE, Bl := fun k => (drK na ca nb cb la lb pa pb ya yb k).Bl, U := drU, T := drT }

set_option maxRecDepth 100000 in
theorem dr_s0 {Q : Exit → Act → World → Prop} (na ca nb cb la lb : Nat) (pa pb : Option Addr) (ya yb : List Nat) (base : Nat) (f : Nat → Value) (df : List Deferred) (w0 : World) (hla : min (na : Int) 100 = (la : Int)) (hlb : min (nb : Int) 100 = (lb : Int)) (ra : Rb w0 pa la ya) (rb : Rb w0 pb lb yb) (hca : la ≤ ca ∧ la ≤ 100) (hcb : lb ≤ cb ∧ lb ≤ 100) (hbase : base = w0.heap.size) : (drC na ca nb cb la lb pa pb ya yb base f df).Step Tryz.prog Q w0 0 ⟨some 38, Op.move (Operand.tmp 3), 34, "", #[], none⟩ [] := by
  refine ⟨rfl, rfl, by decide, show drD 0 < 146 by decide, fun j h => ?_, show ∀ j ∈ drU 0, j ∈ ([] : List Nat) by decide, fun L a w hn hL hcl hB hk hd K hK => ?_⟩
  · have h2 : (none : Option Nat) = some j := h
    cases h2
  have hsz := hk.size
  have hq : L 16 = false := by
    cases h : L 16 with
    | false => rfl
    | true =>
      have := hcl 16 _ rfl h 0 (show 0 ∈ ([7, 15, 0, 1, 2, 3, 4, 5, 6, 7] : List Nat) by decide)
      rw [hL] at this
      cases this
  have e : a.eval (.tmp 3) = (.slice pa na ca) := hB.1 hq
  refine owr_eq (X := True) (base := base) rfl rfl ?_ rfl hK
  generalize a.eval = ev at e
  go_simp
set_option maxRecDepth 100000 in
theorem dr_s1 {Q : Exit → Act → World → Prop} (na ca nb cb la lb : Nat) (pa pb : Option Addr) (ya yb : List Nat) (base : Nat) (f : Nat → Value) (df : List Deferred) (w0 : World) (hla : min (na : Int) 100 = (la : Int)) (hlb : min (nb : Int) 100 = (lb : Int)) (ra : Rb w0 pa la ya) (rb : Rb w0 pb lb yb) (hca : la ≤ ca ∧ la ≤ 100) (hcb : lb ≤ cb ∧ lb ≤ 100) (hbase : base = w0.heap.size) : (drC na ca nb cb la lb pa pb ya yb base f df).Step Tryz.prog Q w0 1 ⟨some 39, Op.move (Operand.tmp 3), 34, "", #[], none⟩ [] := by
  refine ⟨rfl, rfl, by decide, show drD 1 < 146 by decide, fun j h => ?_, show ∀ j ∈ drU 1, j ∈ ([] : List Nat) by decide, fun L a w hn hL hcl hB hk hd K hK => ?_⟩
  · have h2 : (none : Option Nat) = some j := h
    cases h2
  have hsz := hk.size
  have hq : L 16 = false := by
    cases h : L 16 with
    | false => rfl
    | true =>
      have := hcl 16 _ rfl h 1 (show 1 ∈ ([7, 15, 0, 1, 2, 3, 4, 5, 6, 7] : List Nat) by decide)
      rw [hL] at this
      cases this
  have e : a.eval (.tmp 3) = (.slice pa na ca) := hB.1 hq
  refine owr_eq (X := True) (base := base) rfl rfl ?_ rfl hK
  generalize a.eval = ev at e
  go_simp
set_option maxRecDepth 100000 in
theorem dr_s2 {Q : Exit → Act → World → Prop} (na ca nb cb la lb : Nat) (pa pb : Option Addr) (ya yb : List Nat) (base : Nat) (f : Nat → Value) (df : List Deferred) (w0 : World) (hla : min (na : Int) 100 = (la : Int)) (hlb : min (nb : Int) 100 = (lb : Int)) (ra : Rb w0 pa la ya) (rb : Rb w0 pb lb yb) (hca : la ≤ ca ∧ la ≤ 100) (hcb : lb ≤ cb ∧ lb ≤ 100) (hbase : base = w0.heap.size) : (drC na ca nb cb la lb pa pb ya yb base f df).Step Tryz.prog Q w0 2 ⟨some 40, Op.call { callee := Callee.builtin Builtin.len, args := #[Operand.tmp 39], argTypes := #[34] }, 3, "", #[], none⟩ [1] := by
  refine ⟨rfl, rfl, by decide, show drD 2 < 146 by decide, fun j h => ?_, show ∀ j ∈ drU 2, j ∈ ([1] : List Nat) by decide, fun L a w hn hL hcl hB hk hd K hK => ?_⟩
  · have h2 : (none : Option Nat) = some j := h
    cases h2
  have hsz := hk.size
  have e : a.eval (.tmp 39) = (.slice pa na ca) := (hd 1 (show 1 ∈ drU 2 by decide)).1
  refine owr_eq (X := True) (base := base) rfl rfl ?_ rfl hK
  generalize a.eval = ev at e
  go_simp
set_option maxRecDepth 100000 in
theorem dr_s3 {Q : Exit → Act → World → Prop} (na ca nb cb la lb : Nat) (pa pb : Option Addr) (ya yb : List Nat) (base : Nat) (f : Nat → Value) (df : List Deferred) (w0 : World) (hla : min (na : Int) 100 = (la : Int)) (hlb : min (nb : Int) 100 = (lb : Int)) (ra : Rb w0 pa la ya) (rb : Rb w0 pb lb yb) (hca : la ≤ ca ∧ la ≤ 100) (hcb : lb ≤ cb ∧ lb ≤ 100) (hbase : base = w0.heap.size) : (drC na ca nb cb la lb pa pb ya yb base f df).Step Tryz.prog Q w0 3 ⟨some 41, Op.call { callee := Callee.builtin Builtin.min, args := #[Operand.tmp 40, Operand.const (Value.int IntKind.i64 100)], argTypes := #[3, 3] }, 3, "", #[], none⟩ [2] := by
  refine ⟨rfl, rfl, by decide, show drD 3 < 146 by decide, fun j h => ?_, show ∀ j ∈ drU 3, j ∈ ([2] : List Nat) by decide, fun L a w hn hL hcl hB hk hd K hK => ?_⟩
  · have h2 : (none : Option Nat) = some j := h
    cases h2
  have hsz := hk.size
  have e : a.eval (.tmp 40) = (.int .i64 (na : Int)) := (hd 2 (show 2 ∈ drU 3 by decide)).1
  have ec : ∀ c, a.eval (.const c) = c := fun c => rfl
  refine owr_eq (X := True) (base := base) (v := .int .i64 (min (na : Int) 100)) rfl rfl ?_ (congrArg (Value.int .i64) hla) hK
  generalize a.eval = ev at e ec
  go_simp
set_option maxRecDepth 100000 in
theorem dr_s4 {Q : Exit → Act → World → Prop} (na ca nb cb la lb : Nat) (pa pb : Option Addr) (ya yb : List Nat) (base : Nat) (f : Nat → Value) (df : List Deferred) (w0 : World) (hla : min (na : Int) 100 = (la : Int)) (hlb : min (nb : Int) 100 = (lb : Int)) (ra : Rb w0 pa la ya) (rb : Rb w0 pb lb yb) (hca : la ≤ ca ∧ la ≤ 100) (hcb : lb ≤ cb ∧ lb ≤ 100) (hbase : base = w0.heap.size) : (drC na ca nb cb la lb pa pb ya yb base f df).Step Tryz.prog Q w0 4 ⟨some 42, Op.slice 34 (Operand.tmp 38) none (some (Operand.tmp 41)) none, 34, "", #[], none⟩ [0, 3] := by
  refine ⟨rfl, rfl, by decide, show drD 4 < 146 by decide, fun j h => ?_, show ∀ j ∈ drU 4, j ∈ ([0, 3] : List Nat) by decide, fun L a w hn hL hcl hB hk hd K hK => ?_⟩
  · have h2 : (none : Option Nat) = some j := h
    cases h2
  have hsz := hk.size
  have e1 : a.eval (.tmp 38) = (.slice pa na ca) := (hd 0 (show 0 ∈ drU 4 by decide)).1
  have e2 : a.eval (.tmp 41) = (.int .i64 (la : Int)) := (hd 3 (show 3 ∈ drU 4 by decide)).1
  have hs := slice_firstO pa na ca la hca.1 w
  refine owr_eq (X := True) (base := base) rfl rfl ?_ rfl hK
  generalize a.eval = ev at e1 e2
  unfold execOp
  simp only [e1, e2, Option.map_some, Option.map_none]
  simp [Instr.sliceAt, run_underlying Tryz.underlying34, hs]
set_option maxRecDepth 100000 in
theorem dr_s5 {Q : Exit → Act → World → Prop} (na ca nb cb la lb : Nat) (pa pb : Option Addr) (ya yb : List Nat) (base : Nat) (f : Nat → Value) (df : List Deferred) (w0 : World) (hla : min (na : Int) 100 = (la : Int)) (hlb : min (nb : Int) 100 = (lb : Int)) (ra : Rb w0 pa la ya) (rb : Rb w0 pb lb yb) (hca : la ≤ ca ∧ la ≤ 100) (hcb : lb ≤ cb ∧ lb ≤ 100) (hbase : base = w0.heap.size) : (drC na ca nb cb la lb pa pb ya yb base f df).Step Tryz.prog Q w0 5 ⟨some 43, Op.call { callee := Callee.value (Operand.func 13), args := #[Operand.tmp 42], argTypes := #[34] }, 34, "", #[], none⟩ [4] := by
  refine ⟨rfl, rfl, by decide, show drD 5 < 146 by decide, fun j h => ?_, show ∀ j ∈ drU 5, j ∈ ([4] : List Nat) by decide, fun L a w hn hL hcl hB hk hd K hK => ?_⟩
  · have h2 : (none : Option Nat) = some j := h
    cases h2
  have hsz := hk.size
  have e : a.eval (.tmp 42) = (.slice pa la ca) := (hd 4 (show 4 ∈ drU 5 by decide)).1
  exact owr_clone rfl pa la ca ya rfl (enter_run _ rfl (by simp only [List.map_toArray, List.map_cons, List.map_nil, e]) (fun _ => by rfl)) (ra.keep0 hk) (by omega) (by omega) hK
set_option maxRecDepth 100000 in
theorem dr_s6 {Q : Exit → Act → World → Prop} (na ca nb cb la lb : Nat) (pa pb : Option Addr) (ya yb : List Nat) (base : Nat) (f : Nat → Value) (df : List Deferred) (w0 : World) (hla : min (na : Int) 100 = (la : Int)) (hlb : min (nb : Int) 100 = (lb : Int)) (ra : Rb w0 pa la ya) (rb : Rb w0 pb lb yb) (hca : la ≤ ca ∧ la ≤ 100) (hcb : lb ≤ cb ∧ lb ≤ 100) (hbase : base = w0.heap.size) : (drC na ca nb cb la lb pa pb ya yb base f df).Step Tryz.prog Q w0 6 ⟨some 44, Op.buildSlice 34 1 #[(0, Operand.const (Value.int IntKind.u8 1))], 34, "", #[], none⟩ [] := by
  refine ⟨rfl, rfl, by decide, show drD 6 < 146 by decide, fun j h => ?_, show ∀ j ∈ drU 6, j ∈ ([] : List Nat) by decide, fun L a w hn hL hcl hB hk hd K hK => ?_⟩
  · have h2 : (none : Option Nat) = some j := h
    cases h2
  have hsz := hk.size
  have ec : ∀ c, a.eval (.const c) = c := fun c => rfl
  refine owr_one rfl 1 rfl ?_ (by omega) hK
  generalize a.eval = ev at ec
  go_simp
set_option maxRecDepth 100000 in
theorem dr_s7 {Q : Exit → Act → World → Prop} (na ca nb cb la lb : Nat) (pa pb : Option Addr) (ya yb : List Nat) (base : Nat) (f : Nat → Value) (df : List Deferred) (w0 : World) (hla : min (na : Int) 100 = (la : Int)) (hlb : min (nb : Int) 100 = (lb : Int)) (ra : Rb w0 pa la ya) (rb : Rb w0 pb lb yb) (hca : la ≤ ca ∧ la ≤ 100) (hcb : lb ≤ cb ∧ lb ≤ 100) (hbase : base = w0.heap.size) : (drC na ca nb cb la lb pa pb ya yb base f df).Step Tryz.prog Q w0 7 ⟨some 45, Op.call { callee := Callee.builtin Builtin.append, args := #[Operand.tmp 43, Operand.tmp 44], argTypes := #[34, 34] }, 34, "", #[], none⟩ [5, 6, 5] := by
  refine ⟨rfl, rfl, by decide, show drD 7 < 146 by decide, fun j h => ?_, show ∀ j ∈ drU 7, j ∈ ([5, 6, 5] : List Nat) by decide, fun L a w hn hL hcl hB hk hd K hK => ?_⟩
  · have h2 : (some 5 : Option Nat) = some j := h
    cases h2
    exact (show 5 ∈ drU 7 by decide)
  have hsz := hk.size
  have h1 := hd 5 (show 5 ∈ drU 7 by decide)
  have h2 := hd 6 (show 6 ∈ drU 7 by decide)
  exact owr_app rfl rfl (.tmp 43) (.tmp 44) rfl ya [1] rfl _ _ rfl rfl h1.1 h2.1 (by decide) (by rw [ra.len]; show _ + 1 ≤ _; omega) (by omega) (fun b hb => ⟨⟨5, rfl, hb⟩, ⟨5, rfl, hb⟩⟩) hK
set_option maxRecDepth 100000 in
theorem dr_s8 {Q : Exit → Act → World → Prop} (na ca nb cb la lb : Nat) (pa pb : Option Addr) (ya yb : List Nat) (base : Nat) (f : Nat → Value) (df : List Deferred) (w0 : World) (hla : min (na : Int) 100 = (la : Int)) (hlb : min (nb : Int) 100 = (lb : Int)) (ra : Rb w0 pa la ya) (rb : Rb w0 pb lb yb) (hca : la ≤ ca ∧ la ≤ 100) (hcb : lb ≤ cb ∧ lb ≤ 100) (hbase : base = w0.heap.size) : (drC na ca nb cb la lb pa pb ya yb base f df).Step Tryz.prog Q w0 8 ⟨some 46, Op.move (Operand.tmp 4), 34, "", #[], none⟩ [] := by
  refine ⟨rfl, rfl, by decide, show drD 8 < 146 by decide, fun j h => ?_, show ∀ j ∈ drU 8, j ∈ ([] : List Nat) by decide, fun L a w hn hL hcl hB hk hd K hK => ?_⟩
  · have h2 : (none : Option Nat) = some j := h
    cases h2
  have hsz := hk.size
  have hq : L 17 = false := by
    cases h : L 17 with
    | false => rfl
    | true =>
      have := hcl 17 _ rfl h 8 (show 8 ∈ ([15, 16, 0, 1, 2, 3, 4, 5, 6, 7, 8, 9, 10, 11, 12, 13, 14, 15, 16] : List Nat) by decide)
      rw [hL] at this
      cases this
  have e : a.eval (.tmp 4) = (.slice pb nb cb) := hB.2.1 hq
  refine owr_eq (X := True) (base := base) rfl rfl ?_ rfl hK
  generalize a.eval = ev at e
  go_simp
set_option maxRecDepth 100000 in
theorem dr_s9 {Q : Exit → Act → World → Prop} (na ca nb cb la lb : Nat) (pa pb : Option Addr) (ya yb : List Nat) (base : Nat) (f : Nat → Value) (df : List Deferred) (w0 : World) (hla : min (na : Int) 100 = (la : Int)) (hlb : min (nb : Int) 100 = (lb : Int)) (ra : Rb w0 pa la ya) (rb : Rb w0 pb lb yb) (hca : la ≤ ca ∧ la ≤ 100) (hcb : lb ≤ cb ∧ lb ≤ 100) (hbase : base = w0.heap.size) : (drC na ca nb cb la lb pa pb ya yb base f df).Step Tryz.prog Q w0 9 ⟨some 47, Op.move (Operand.tmp 4), 34, "", #[], none⟩ [] := by
  refine ⟨rfl, rfl, by decide, show drD 9 < 146 by decide, fun j h => ?_, show ∀ j ∈ drU 9, j ∈ ([] : List Nat) by decide, fun L a w hn hL hcl hB hk hd K hK => ?_⟩
  · have h2 : (none : Option Nat) = some j := h
    cases h2
  have hsz := hk.size
  have hq : L 17 = false := by
    cases h : L 17 with
    | false => rfl
    | true =>
      have := hcl 17 _ rfl h 9 (show 9 ∈ ([15, 16, 0, 1, 2, 3, 4, 5, 6, 7, 8, 9, 10, 11, 12, 13, 14, 15, 16] : List Nat) by decide)
      rw [hL] at this
      cases this
  have e : a.eval (.tmp 4) = (.slice pb nb cb) := hB.2.1 hq
  refine owr_eq (X := True) (base := base) rfl rfl ?_ rfl hK
  generalize a.eval = ev at e
  go_simp
set_option maxRecDepth 100000 in
theorem dr_s10 {Q : Exit → Act → World → Prop} (na ca nb cb la lb : Nat) (pa pb : Option Addr) (ya yb : List Nat) (base : Nat) (f : Nat → Value) (df : List Deferred) (w0 : World) (hla : min (na : Int) 100 = (la : Int)) (hlb : min (nb : Int) 100 = (lb : Int)) (ra : Rb w0 pa la ya) (rb : Rb w0 pb lb yb) (hca : la ≤ ca ∧ la ≤ 100) (hcb : lb ≤ cb ∧ lb ≤ 100) (hbase : base = w0.heap.size) : (drC na ca nb cb la lb pa pb ya yb base f df).Step Tryz.prog Q w0 10 ⟨some 48, Op.call { callee := Callee.builtin Builtin.len, args := #[Operand.tmp 47], argTypes := #[34] }, 3, "", #[], none⟩ [9] := by
  refine ⟨rfl, rfl, by decide, show drD 10 < 146 by decide, fun j h => ?_, show ∀ j ∈ drU 10, j ∈ ([9] : List Nat) by decide, fun L a w hn hL hcl hB hk hd K hK => ?_⟩
  · have h2 : (none : Option Nat) = some j := h
    cases h2
  have hsz := hk.size
  have e : a.eval (.tmp 47) = (.slice pb nb cb) := (hd 9 (show 9 ∈ drU 10 by decide)).1
  refine owr_eq (X := True) (base := base) rfl rfl ?_ rfl hK
  generalize a.eval = ev at e
  go_simp
set_option maxRecDepth 100000 in
theorem dr_s11 {Q : Exit → Act → World → Prop} (na ca nb cb la lb : Nat) (pa pb : Option Addr) (ya yb : List Nat) (base : Nat) (f : Nat → Value) (df : List Deferred) (w0 : World) (hla : min (na : Int) 100 = (la : Int)) (hlb : min (nb : Int) 100 = (lb : Int)) (ra : Rb w0 pa la ya) (rb : Rb w0 pb lb yb) (hca : la ≤ ca ∧ la ≤ 100) (hcb : lb ≤ cb ∧ lb ≤ 100) (hbase : base = w0.heap.size) : (drC na ca nb cb la lb pa pb ya yb base f df).Step Tryz.prog Q w0 11 ⟨some 49, Op.call { callee := Callee.builtin Builtin.min, args := #[Operand.tmp 48, Operand.const (Value.int IntKind.i64 100)], argTypes := #[3, 3] }, 3, "", #[], none⟩ [10] := by
  refine ⟨rfl, rfl, by decide, show drD 11 < 146 by decide, fun j h => ?_, show ∀ j ∈ drU 11, j ∈ ([10] : List Nat) by decide, fun L a w hn hL hcl hB hk hd K hK => ?_⟩
  · have h2 : (none : Option Nat) = some j := h
    cases h2
  have hsz := hk.size
  have e : a.eval (.tmp 48) = (.int .i64 (nb : Int)) := (hd 10 (show 10 ∈ drU 11 by decide)).1
  have ec : ∀ c, a.eval (.const c) = c := fun c => rfl
  refine owr_eq (X := True) (base := base) (v := .int .i64 (min (nb : Int) 100)) rfl rfl ?_ (congrArg (Value.int .i64) hlb) hK
  generalize a.eval = ev at e ec
  go_simp
set_option maxRecDepth 100000 in
theorem dr_s12 {Q : Exit → Act → World → Prop} (na ca nb cb la lb : Nat) (pa pb : Option Addr) (ya yb : List Nat) (base : Nat) (f : Nat → Value) (df : List Deferred) (w0 : World) (hla : min (na : Int) 100 = (la : Int)) (hlb : min (nb : Int) 100 = (lb : Int)) (ra : Rb w0 pa la ya) (rb : Rb w0 pb lb yb) (hca : la ≤ ca ∧ la ≤ 100) (hcb : lb ≤ cb ∧ lb ≤ 100) (hbase : base = w0.heap.size) : (drC na ca nb cb la lb pa pb ya yb base f df).Step Tryz.prog Q w0 12 ⟨some 50, Op.slice 34 (Operand.tmp 46) none (some (Operand.tmp 49)) none, 34, "", #[], none⟩ [8, 11] := by
  refine ⟨rfl, rfl, by decide, show drD 12 < 146 by decide, fun j h => ?_, show ∀ j ∈ drU 12, j ∈ ([8, 11] : List Nat) by decide, fun L a w hn hL hcl hB hk hd K hK => ?_⟩
  · have h2 : (none : Option Nat) = some j := h
    cases h2
  have hsz := hk.size
  have e1 : a.eval (.tmp 46) = (.slice pb nb cb) := (hd 8 (show 8 ∈ drU 12 by decide)).1
  have e2 : a.eval (.tmp 49) = (.int .i64 (lb : Int)) := (hd 11 (show 11 ∈ drU 12 by decide)).1
  have hs := slice_firstO pb nb cb lb hcb.1 w
  refine owr_eq (X := True) (base := base) rfl rfl ?_ rfl hK
  generalize a.eval = ev at e1 e2
  unfold execOp
  simp only [e1, e2, Option.map_some, Option.map_none]
  simp [Instr.sliceAt, run_underlying Tryz.underlying34, hs]
set_option maxRecDepth 100000 in
theorem dr_s13 {Q : Exit → Act → World → Prop} (na ca nb cb la lb : Nat) (pa pb : Option Addr) (ya yb : List Nat) (base : Nat) (f : Nat → Value) (df : List Deferred) (w0 : World) (hla : min (na : Int) 100 = (la : Int)) (hlb : min (nb : Int) 100 = (lb : Int)) (ra : Rb w0 pa la ya) (rb : Rb w0 pb lb yb) (hca : la ≤ ca ∧ la ≤ 100) (hcb : lb ≤ cb ∧ lb ≤ 100) (hbase : base = w0.heap.size) : (drC na ca nb cb la lb pa pb ya yb base f df).Step Tryz.prog Q w0 13 ⟨some 51, Op.call { callee := Callee.value (Operand.func 13), args := #[Operand.tmp 50], argTypes := #[34] }, 34, "", #[], none⟩ [12, 7] := by
  refine ⟨rfl, rfl, by decide, show drD 13 < 146 by decide, fun j h => ?_, show ∀ j ∈ drU 13, j ∈ ([12, 7] : List Nat) by decide, fun L a w hn hL hcl hB hk hd K hK => ?_⟩
  · have h2 : (none : Option Nat) = some j := h
    cases h2
  have hsz := hk.size
  have e : a.eval (.tmp 50) = (.slice pb lb cb) := (hd 12 (show 12 ∈ drU 13 by decide)).1
  exact owr_clone rfl pb lb cb yb rfl (enter_run _ rfl (by simp only [List.map_toArray, List.map_cons, List.map_nil, e]) (fun _ => by rfl)) (rb.keep0 hk) (by omega) (by omega) hK
set_option maxRecDepth 100000 in
theorem dr_s14 {Q : Exit → Act → World → Prop} (na ca nb cb la lb : Nat) (pa pb : Option Addr) (ya yb : List Nat) (base : Nat) (f : Nat → Value) (df : List Deferred) (w0 : World) (hla : min (na : Int) 100 = (la : Int)) (hlb : min (nb : Int) 100 = (lb : Int)) (ra : Rb w0 pa la ya) (rb : Rb w0 pb lb yb) (hca : la ≤ ca ∧ la ≤ 100) (hcb : lb ≤ cb ∧ lb ≤ 100) (hbase : base = w0.heap.size) : (drC na ca nb cb la lb pa pb ya yb base f df).Step Tryz.prog Q w0 14 ⟨some 52, Op.buildSlice 34 1 #[(0, Operand.const (Value.int IntKind.u8 2))], 34, "", #[], none⟩ [] := by
  refine ⟨rfl, rfl, by decide, show drD 14 < 146 by decide, fun j h => ?_, show ∀ j ∈ drU 14, j ∈ ([] : List Nat) by decide, fun L a w hn hL hcl hB hk hd K hK => ?_⟩
  · have h2 : (none : Option Nat) = some j := h
    cases h2
  have hsz := hk.size
  have ec : ∀ c, a.eval (.const c) = c := fun c => rfl
  refine owr_one rfl 2 rfl ?_ (by omega) hK
  generalize a.eval = ev at ec
  go_simp
set_option maxRecDepth 100000 in
theorem dr_s15 {Q : Exit → Act → World → Prop} (na ca nb cb la lb : Nat) (pa pb : Option Addr) (ya yb : List Nat) (base : Nat) (f : Nat → Value) (df : List Deferred) (w0 : World) (hla : min (na : Int) 100 = (la : Int)) (hlb : min (nb : Int) 100 = (lb : Int)) (ra : Rb w0 pa la ya) (rb : Rb w0 pb lb yb) (hca : la ≤ ca ∧ la ≤ 100) (hcb : lb ≤ cb ∧ lb ≤ 100) (hbase : base = w0.heap.size) : (drC na ca nb cb la lb pa pb ya yb base f df).Step Tryz.prog Q w0 15 ⟨some 53, Op.call { callee := Callee.builtin Builtin.append, args := #[Operand.tmp 51, Operand.tmp 52], argTypes := #[34, 34] }, 34, "", #[], none⟩ [13, 14, 13] := by
  refine ⟨rfl, rfl, by decide, show drD 15 < 146 by decide, fun j h => ?_, show ∀ j ∈ drU 15, j ∈ ([13, 14, 13] : List Nat) by decide, fun L a w hn hL hcl hB hk hd K hK => ?_⟩
  · have h2 : (some 13 : Option Nat) = some j := h
    cases h2
    exact (show 13 ∈ drU 15 by decide)
  have hsz := hk.size
  have h1 := hd 13 (show 13 ∈ drU 15 by decide)
  have h2 := hd 14 (show 14 ∈ drU 15 by decide)
  exact owr_app rfl rfl (.tmp 51) (.tmp 52) rfl yb [2] rfl _ _ rfl rfl h1.1 h2.1 (by decide) (by rw [rb.len]; show _ + 1 ≤ _; omega) (by omega) (fun b hb => ⟨⟨13, rfl, hb⟩, ⟨13, rfl, hb⟩⟩) hK
set_option maxRecDepth 100000 in
theorem dr_s16 {Q : Exit → Act → World → Prop} (na ca nb cb la lb : Nat) (pa pb : Option Addr) (ya yb : List Nat) (base : Nat) (f : Nat → Value) (df : List Deferred) (w0 : World) (hla : min (na : Int) 100 = (la : Int)) (hlb : min (nb : Int) 100 = (lb : Int)) (ra : Rb w0 pa la ya) (rb : Rb w0 pb lb yb) (hca : la ≤ ca ∧ la ≤ 100) (hcb : lb ≤ cb ∧ lb ≤ 100) (hbase : base = w0.heap.size) : (drC na ca nb cb la lb pa pb ya yb base f df).Step Tryz.prog Q w0 16 ⟨some 3, Op.assign (Operand.tmp 45), 34, "", #[], none⟩ [7, 15, 0, 1, 2, 3, 4, 5, 6, 7] := by
  refine ⟨rfl, rfl, by decide, show drD 16 < 146 by decide, fun j h => ?_, show ∀ j ∈ drU 16, j ∈ ([7, 15, 0, 1, 2, 3, 4, 5, 6, 7] : List Nat) by decide, fun L a w hn hL hcl hB hk hd K hK => ?_⟩
  · have h2 : (some 7 : Option Nat) = some j := h
    cases h2
    exact (show 7 ∈ drU 16 by decide)
  have hsz := hk.size
  have h1 := hd 7 (show 7 ∈ drU 16 by decide)
  refine owr_move rfl _ rfl (a.eval (.tmp 45)) ?_ h1.1 (fun b hb => ⟨7, rfl, hb⟩) hK
  generalize a.eval = ev
  go_simp
set_option maxRecDepth 100000 in
theorem dr_s17 {Q : Exit → Act → World → Prop} (na ca nb cb la lb : Nat) (pa pb : Option Addr) (ya yb : List Nat) (base : Nat) (f : Nat → Value) (df : List Deferred) (w0 : World) (hla : min (na : Int) 100 = (la : Int)) (hlb : min (nb : Int) 100 = (lb : Int)) (ra : Rb w0 pa la ya) (rb : Rb w0 pb lb yb) (hca : la ≤ ca ∧ la ≤ 100) (hcb : lb ≤ cb ∧ lb ≤ 100) (hbase : base = w0.heap.size) : (drC na ca nb cb la lb pa pb ya yb base f df).Step Tryz.prog Q w0 17 ⟨some 4, Op.assign (Operand.tmp 53), 34, "", #[], none⟩ [15, 16, 0, 1, 2, 3, 4, 5, 6, 7, 8, 9, 10, 11, 12, 13, 14, 15, 16] := by
  refine ⟨rfl, rfl, by decide, show drD 17 < 146 by decide, fun j h => ?_, show ∀ j ∈ drU 17, j ∈ ([15, 16, 0, 1, 2, 3, 4, 5, 6, 7, 8, 9, 10, 11, 12, 13, 14, 15, 16] : List Nat) by decide, fun L a w hn hL hcl hB hk hd K hK => ?_⟩
  · have h2 : (some 15 : Option Nat) = some j := h
    cases h2
    exact (show 15 ∈ drU 17 by decide)
  have hsz := hk.size
  have h1 := hd 15 (show 15 ∈ drU 17 by decide)
  refine owr_move rfl _ rfl (a.eval (.tmp 53)) ?_ h1.1 (fun b hb => ⟨15, rfl, hb⟩) hK
  generalize a.eval = ev
  go_simp
theorem dr_steps {Q : Exit → Act → World → Prop} (na ca nb cb la lb : Nat) (pa pb : Option Addr) (ya yb : List Nat) (base : Nat) (f : Nat → Value) (df : List Deferred) (w0 : World) (hla : min (na : Int) 100 = (la : Int)) (hlb : min (nb : Int) 100 = (lb : Int)) (ra : Rb w0 pa la ya) (rb : Rb w0 pb lb yb) (hca : la ≤ ca ∧ la ≤ 100) (hcb : lb ≤ cb ∧ lb ≤ 100) (hbase : base = w0.heap.size) : (drC na ca nb cb la lb pa pb ya yb base f df).Steps Tryz.prog Q w0 0 drT := ⟨dr_s0 na ca nb cb la lb pa pb ya yb base f df w0 hla hlb ra rb hca hcb hbase, dr_s1 na ca nb cb la lb pa pb ya yb base f df w0 hla hlb ra rb hca hcb hbase, dr_s2 na ca nb cb la lb pa pb ya yb base f df w0 hla hlb ra rb hca hcb hbase, dr_s3 na ca nb cb la lb pa pb ya yb base f df w0 hla hlb ra rb hca hcb hbase, dr_s4 na ca nb cb la lb pa pb ya yb base f df w0 hla hlb ra rb hca hcb hbase, dr_s5 na ca nb cb la lb pa pb ya yb base f df w0 hla hlb ra rb hca hcb hbase, dr_s6 na ca nb cb la lb pa pb ya yb base f df w0 hla hlb ra rb hca hcb hbase, dr_s7 na ca nb cb la lb pa pb ya yb base f df w0 hla hlb ra rb hca hcb hbase, dr_s8 na ca nb cb la lb pa pb ya yb base f df w0 hla hlb ra rb hca hcb hbase, dr_s9 na ca nb cb la lb pa pb ya yb base f df w0 hla hlb ra rb hca hcb hbase, dr_s10 na ca nb cb la lb pa pb ya yb base f df w0 hla hlb ra rb hca hcb hbase, dr_s11 na ca nb cb la lb pa pb ya yb base f df w0 hla hlb ra rb hca hcb hbase, dr_s12 na ca nb cb la lb pa pb ya yb base f df w0 hla hlb ra rb hca hcb hbase, dr_s13 na ca nb cb la lb pa pb ya yb base f df w0 hla hlb ra rb hca hcb hbase, dr_s14 na ca nb cb la lb pa pb ya yb base f df w0 hla hlb ra rb hca hcb hbase, dr_s15 na ca nb cb la lb pa pb ya yb base f df w0 hla hlb ra rb hca hcb hbase, dr_s16 na ca nb cb la lb pa pb ya yb base f df w0 hla hlb ra rb hca hcb hbase, dr_s17 na ca nb cb la lb pa pb ya yb base f df w0 hla hlb ra rb hca hcb hbase, trivial⟩
set_option maxRecDepth 100000 in
/-- the region as a whole -/
theorem dr_region {ops : Array Oper} {Q : Exit → Act → World → Prop} (hT : ops.toList.map (fun o => (bare o, deps o)) = drT) {id : Nat} {a0 : Act} {y : World} (na ca nb cb la lb : Nat) (pa pb : Option Addr) (ya yb : List Nat)
    (hn : a0.tmps.size = 146) (h3 : a0.eval (.tmp 3) = .slice pa na ca) (h4 : a0.eval (.tmp 4) = .slice pb nb cb) (hla : min (na : Int) 100 = (la : Int)) (hlb : min (nb : Int) 100 = (lb : Int)) (ra : Rb y pa la ya) (rb : Rb y pb lb yb) (hca : la ≤ ca ∧ la ≤ 100) (hcb : lb ≤ cb ∧ lb ≤ 100)
    (hend : ∀ q38 q39 q40 q41 q42 q43 q44 q45 q46 q47 q48 q49 q50 q51 q52 q53 q3 q4 w, Kp (fun _ => False) y w → Ow w y.heap.size q3 (ya ++ [1]) → Ow w y.heap.size q4 (yb ++ [2]) → Q .normal ((((((((((((((((((a0.put (some 38) q38).put (some 39) q39).put (some 40) q40).put (some 41) q41).put (some 42) q42).put (some 43) q43).put (some 44) q44).put (some 45) q45).put (some 46) q46).put (some 47) q47).put (some 48) q48).put (some 49) q49).put (some 50) q50).put (some 51) q51).put (some 52) q52).put (some 53) q53).put (some 3) q3).put (some 4) q4) w) :
    (Code.region id ops true).wp Tryz.prog Q a0 y := by
  have kd : Kp (fun _ => False) y y.drew := (Kp.refl _ _).drew
  have kx : (drC na ca nb cb la lb pa pb ya yb y.heap.size (fun t => a0.eval (.tmp t)) a0.defers).Steps Tryz.prog Q y.drew 0 drT := dr_steps na ca nb cb la lb pa pb ya yb y.heap.size (fun t => a0.eval (.tmp t)) a0.defers y.drew hla hlb (ra.keep0 kd) (rb.keep0 kd) hca hcb rfl
  refine own_region (drC na ca nb cb la lb pa pb ya yb y.heap.size (fun t => a0.eval (.tmp t)) a0.defers) (by kernel_rfl) hT hn ⟨fun _ => h3, fun _ => h4, fun _ _ => rfl, rfl⟩ (fun k v a L hk _ h => drB_put _ _ _ _ _ _ _ _ k v a L hk h) (fun i j h1 h2 => drDi i h1 j h2) (fun k k' h1 h2 j he hu => drEU k h1 k' h2 j hu he)
    (fun i v w w' S h k hS => Kd.keep h k hS) kx (fun L a w h1 h2 h3 h4 => ?_)
  obtain ⟨_, _, hfr, bd⟩ := h2
  have e := act_puts a drL a0 (h1.trans hn.symm) bd hfr
  rw [e]
  exact hend (a.eval (.tmp 38)) (a.eval (.tmp 39)) (a.eval (.tmp 40)) (a.eval (.tmp 41)) (a.eval (.tmp 42)) (a.eval (.tmp 43)) (a.eval (.tmp 44)) (a.eval (.tmp 45)) (a.eval (.tmp 46)) (a.eval (.tmp 47)) (a.eval (.tmp 48)) (a.eval (.tmp 49)) (a.eval (.tmp 50)) (a.eval (.tmp 51)) (a.eval (.tmp 52)) (a.eval (.tmp 53)) (a.eval (.tmp 3)) (a.eval (.tmp 4)) w (kd.trans h3 (fun _ _ e => e)) (h4 16 (show 16 < drT.length by decide) drE16).1 (h4 17 (show 17 < drT.length by decide) drE17).1
end Go.Proofs.YtmooddbhcccicaaGreatDoor

/- Texts of this proof, joined: Iw, Jq. -/
/- ShelfDrops. -/
namespace Go.Proofs.YtmooddbhcccicaaGreatDoor
set_option linter.unusedVariables false
set_option linter.unusedSimpArgs false
open Go.RowKit Go.Deep Go.Maps

theorem sh8 (z : Int) : ∃ b : Nat, wrap64 (IntKind.u64.wrap z / 256) = (b : Int) ∧ b ≤ 72057594037927936 := by
  have h1 : IntKind.u64.wrap z = z % 18446744073709551616 := by simp [IntKind.wrap, IntKind.bits, IntKind.signed]
  refine ⟨(IntKind.u64.wrap z / 256).toNat, ?_, ?_⟩
  · rw [h1]; unfold wrap64; omega
  · rw [h1]; omega
theorem md100 (z : Int) : ∃ f : Nat, wrap64 (1 + wrap64 ((IntKind.u64.wrap z).tmod 100)) = ((f + 1 : Nat) : Int) ∧ f ≤ 99 := by
  have h1 : IntKind.u64.wrap z = z % 18446744073709551616 := by simp [IntKind.wrap, IntKind.bits, IntKind.signed]
  have h0 : 0 ≤ IntKind.u64.wrap z := by rw [h1]; omega
  have h2 : (IntKind.u64.wrap z).tmod 100 = IntKind.u64.wrap z % 100 := Int.tmod_eq_emod_of_nonneg h0
  refine ⟨((IntKind.u64.wrap z).tmod 100).toNat, ?_, ?_⟩
  · rw [h2]; unfold wrap64; omega
  · rw [h2]; omega
theorem min100 (n : Nat) : min (n : Int) 100 = ((min n 100 : Nat) : Int) := by omega
theorem Rb.fst {w : World} {p : Option Addr} {n : Nat} {xs : List Nat} (h : Rb w p n xs) {m : Nat} (hm : m ≤ n) : Rb w p m (xs.take m) := by
  refine ⟨by rw [List.length_take, h.len]; omega, fun x hx => h.byte x (List.mem_of_mem_take hx), fun j hj => ?_⟩
  obtain ⟨b, o, e, c⟩ := h.cell j (by omega)
  refine ⟨b, o, e, ?_⟩
  rw [c, List.getD_eq_getElem?_getD, List.getD_eq_getElem?_getD, List.getElem?_take_of_lt hj]
theorem ne_last (xs ys : List Nat) : ¬ xs ++ [1] = ys ++ [2] := fun e => by
  have := congrArg List.getLast? e
  simp at this

set_option maxRecDepth 100000 in
set_option maxHeartbeats 64000000 in
theorem shelfDrops_walk (z0 z1 z2 : Int) (pa : Option Addr) (na ca : Nat) (xa : List Nat) (pb : Option Addr) (nb cb : Nat) (xb : List Nat) (w : World) (h0 : (Lit.int .i64 z0).wf = true) (h1 : (Lit.int .i64 z1).wf = true) (h2 : (Lit.int .i64 z2).wf = true)
    (ra : Rb w pa na xa) (lca : na ≤ ca) (sa : Hid (na ≤ 140737488355328)) (rb : Rb w pb nb xb) (lcb : nb ≤ cb) (sb : Hid (nb ≤ 140737488355328)) (ht : Turns w) :
    Calls Tryz.prog 7 #[.int .i64 z0, .int .i64 z1, .int .i64 z2, .slice pa na ca, .slice pb nb cb] w fun e w' => e = .returned (.bool true) ∧ Kp (fun _ => False) w w' := by
  have HFr : Hid (Calls _ _ _ w _) := fresh8_ok w ht
  have HA : Hid (Rb w pa na xa ∧ na ≤ ca ∧ na ≤ 140737488355328) := ⟨ra, lca, sa.out⟩
  have HB : Hid (Rb w pb nb xb ∧ nb ≤ cb ∧ nb ≤ 140737488355328) := ⟨rb, lcb, sb.out⟩
  clear ra lca sa rb lcb sb ht
  go_enter Tryz.func7, Tryz.ntmps7
  go_wp2_with fail
  refine HFr.out.mono ?_
  rintro e9 w1 ⟨sh, mp, g, gf, bp, d, m, dur, rfl, k1, hz1, s1⟩
  have HK1 : Hid (Kp (fun _ => False) w w1) := k1
  have HZ1 : Hid (w.heap.size ≤ sh ∧ w.heap.size ≤ mp ∧ w.heap.size ≤ g ∧ w.heap.size ≤ gf ∧ w.heap.size ≤ bp ∧ w.heap.size ≤ d ∧ w.heap.size ≤ m) := hz1
  have HS1 : Hid (Shf w1 (fun x => w1.heap.size ≤ x) sh mp g bp d m gf 298 1 1 0 1 0 dur []) := s1
  clear k1 hz1 s1 HFr
  obtain ⟨bl, e0, hbl⟩ := sh8 z0
  obtain ⟨ix, e1, hix⟩ := sh8 z1
  obtain ⟨f, e2, hf⟩ := md100 z2
  obtain ⟨F, hF⟩ : ∃ F, F = f + 1 := ⟨_, rfl⟩
  rw [← hF] at e2
  go_upto_region 5 with fail
  rw [e0, e1, e2]
  have HQ : Hid (bl ≤ 1152921504606846976 ∧ ix ≤ 1152921504606846976 ∧ F ≤ 1152921504606846976 ∧ f ≤ 1152921504606846976) := ⟨by omega, by omega, by omega, by omega⟩
  have HFf : Hid (F = f + 1) := hF
  have hwf : wrap64 ((F : Int) - 1) = (f : Int) := by unfold wrap64; omega
  clear h0 h1 h2 hbl hix hf e0 e1 e2 hF
  obtain ⟨a1, a2, a3⟩ := HA.out
  obtain ⟨b1, b2, b3⟩ := HB.out
  have ra := (a1.keep0 HK1.out).fst (m := min na 100) (by omega)
  have rb := (b1.keep0 HK1.out).fst (m := min nb 100) (by omega)
  refine dr_region (by kernel_rfl) na ca nb cb (min na 100) (min nb 100) pa pb (xa.take (min na 100)) (xb.take (min nb 100)) rfl rfl rfl (min100 na) (min100 nb) ra rb ⟨by omega, by omega⟩ ⟨by omega, by omega⟩ ?_
  have HL : Hid (1 ≤ (xa.take (min na 100) ++ [1]).length ∧ (xa.take (min na 100) ++ [1]).length ≤ 600 ∧ 1 ≤ (xb.take (min nb 100) ++ [2]).length ∧ (xb.take (min nb 100) ++ [2]).length ≤ 600) := by
    have l1 := ra.len
    have l2 := rb.len
    show 1 ≤ _ ∧ _ ≤ 600 ∧ 1 ≤ _ ∧ _ ≤ 600
    simp only [List.length_append, List.length_cons, List.length_nil]
    omega
  have HBy : Hid ((∀ x ∈ xa.take (min na 100) ++ [1], x < 256) ∧ ∀ x ∈ xb.take (min nb 100) ++ [2], x < 256) := by
    refine ⟨fun x hx => ?_, fun x hx => ?_⟩
    · rcases List.mem_append.1 hx with hx | hx
      · exact ra.byte x hx
      · rw [List.mem_singleton.1 hx]; decide
    · rcases List.mem_append.1 hx with hx | hx
      · exact rb.byte x hx
      · rw [List.mem_singleton.1 hx]; decide
  have HNe : Hid (¬ xa.take (min na 100) ++ [1] = xb.take (min nb 100) ++ [2]) := ne_last _ _
  clear ra rb a1 a2 a3 b1 b2 b3 HA HB
  obtain ⟨xa1, hxa⟩ : ∃ y, y = xa.take (min na 100) ++ [1] := ⟨_, rfl⟩
  obtain ⟨xb1, hxb⟩ : ∃ y, y = xb.take (min nb 100) ++ [2] := ⟨_, rfl⟩
  obtain ⟨N, hN⟩ : ∃ N, N = w1.heap.size := ⟨_, rfl⟩
  rw [← hxa, ← hxb] at HNe HL HBy
  rw [← hxa, ← hxb, ← hN]
  rw [← hN] at HS1
  have HN : Hid (N = w1.heap.size) := hN
  clear hxa hxb hN
  intro q38 q39 q40 q41 q42 q43 q44 q45 q46 q47 q48 q49 q50 q51 q52 q53 q3 q4 w2 k2 oa ob
  simp only [Act.put, List.setIfInBounds_toArray, List.set_cons_succ, List.set_cons_zero]
  have HX0 : Hid (D8 w w2 N sh mp g bp d m gf dur [] ∧ Ow w2 N q3 xa1 ∧ Ow w2 N q4 xb1) := by
    have z := HZ1.out
    exact ⟨⟨HS1.out.keep0 k2, HK1.out.trans k2 (fun _ _ e => e), by rw [HN.out]; exact k2.size, ⟨z.1, z.2.1, z.2.2.1, z.2.2.2.1, z.2.2.2.2.2.2⟩, fun r hr => absurd hr List.not_mem_nil⟩, oa, ob⟩
  clear k2 oa ob HS1 HK1 HZ1 HN
  obtain ⟨A, hA⟩ : ∃ A, A = (⟨1, bl, ix, 0, xa1⟩ : Rc) := ⟨_, rfl⟩
  have HSt : Hid ((stS ([] : List Rc)).1 ⟨1, (bl : Int), (ix : Int)⟩ = none ∧ fncd [] bl ix = 0 ∧
      (stS [⟨1, bl, ix, 0, xa1⟩]).1 ⟨1, (bl : Int), (ix : Int)⟩ = some ⟨1, bl, ix, 0, xa1⟩ ∧ fncd [⟨1, bl, ix, 0, xa1⟩] bl ix = 0 ∧
      (stS [⟨1, bl, ix, 0, xa1⟩, ⟨3, bl, ix, F, []⟩]).1 ⟨1, (bl : Int), (ix : Int)⟩ = some ⟨1, bl, ix, 0, xa1⟩ ∧
      (stS [⟨1, bl, ix, 0, xa1⟩, ⟨3, bl, ix, F, []⟩, ⟨2, bl, ix, 0, []⟩]).1 ⟨1, (bl : Int), (ix : Int)⟩ = none ∧ fncd [⟨1, bl, ix, 0, xa1⟩, ⟨3, bl, ix, F, []⟩, ⟨2, bl, ix, 0, []⟩] bl ix = F ∧
      (stS [⟨1, bl, ix, 0, xa1⟩, ⟨3, bl, ix, F, []⟩, ⟨2, bl, ix, 0, []⟩, ⟨1, bl, ix, 0, xb1⟩]).1 ⟨1, (bl : Int), (ix : Int)⟩ = some ⟨1, bl, ix, 0, xb1⟩ ∧ fncd [⟨1, bl, ix, 0, xa1⟩, ⟨3, bl, ix, F, []⟩, ⟨2, bl, ix, 0, []⟩, ⟨1, bl, ix, 0, xb1⟩] bl ix = F) := by
    have s1 := stS_shard [] bl ix xa1
    have s2 := stS_fence [⟨1, bl, ix, 0, xa1⟩] bl ix F (by have := HFf.out; omega)
    have s3 := stS_drop [⟨1, bl, ix, 0, xa1⟩, ⟨3, bl, ix, F, []⟩] bl ix
    have s4 := stS_shard [⟨1, bl, ix, 0, xa1⟩, ⟨3, bl, ix, F, []⟩, ⟨2, bl, ix, 0, []⟩] bl ix xb1
    refine ⟨rfl, fncd_nil bl ix, s1.1, (s1.2 bl ix).trans (fncd_nil bl ix), (s2.2 bl ix).trans s1.1, s3.1, (s3.2 bl ix).trans s2.1, s4.1, (s4.2 bl ix).trans ((s3.2 bl ix).trans s2.1)⟩
  clear hA
  have HC : Hid (Calls _ _ _ w2 _) := HX0.out.1.drop_none bl ix HQ.out.1 HQ.out.2.1 (by decide) HSt.out.1
  go_wp2_with fail
  refine HC.out.mono ?_
  rintro e9 w3 ⟨rfl, x, o⟩
  have HX1 : Hid (D8 w w3 N sh mp g bp d m gf dur [] ∧ Ow w3 N q3 xa1 ∧ Ow w3 N q4 xb1) := ⟨x, o.ow HX0.out.2.1, o.ow HX0.out.2.2⟩
  clear x o HX0 HC
  have HC : Hid (Calls Tryz.prog 14 #[.pointer (some ⟨sh, 0, none⟩), .int .i64 (bl : Int), .int .i64 (ix : Int), .int .i64 0, q3] w3 _) := HX1.out.1.store_new bl ix 0 HQ.out.1 HQ.out.2.1 (by decide) (show 0 ≤ 5 by decide) HX1.out.2.1 ⟨HL.out.1, HL.out.2.1⟩ HBy.out.1 (Nat.le_of_eq HSt.out.2.1) HSt.out.1
  go_wp2_with fail
  refine HC.out.mono ?_
  rintro e9 w4 ⟨rfl, x, o⟩
  have HX2 : Hid (D8 w w4 N sh mp g bp d m gf dur [⟨1, bl, ix, 0, xa1⟩] ∧ Ow w4 N q3 xa1 ∧ Ow w4 N q4 xb1) := ⟨x, o.ow HX1.out.2.1, o.ow HX1.out.2.2⟩
  clear x o HX1 HC
  have HC : Hid (Calls Tryz.prog 14 #[.pointer (some ⟨sh, 0, none⟩), .int .i64 (bl : Int), .int .i64 (ix : Int), .int .i64 0, q4] w4 fun e9 u' => e9 = .returned (.int .i64 82) ∧ D8 w u' N sh mp g bp d m gf dur [⟨1, bl, ix, 0, xa1⟩] ∧ Oks N w4 u') := by
    have h9 := HX2.out.1.store_there bl ix 0 HQ.out.1 HQ.out.2.1 (by decide) (show 1 ≤ 5 by decide) HX2.out.2.2 HL.out.2.2 HBy.out.2 (Nat.le_of_eq HSt.out.2.2.2.1) HSt.out.2.2.1
    rw [if_neg HNe.out] at h9
    exact h9
  go_wp2_with fail
  refine HC.out.mono ?_
  rintro e9 w5 ⟨rfl, x, o⟩
  have HX3 : Hid (D8 w w5 N sh mp g bp d m gf dur [⟨1, bl, ix, 0, xa1⟩] ∧ Ow w5 N q3 xa1 ∧ Ow w5 N q4 xb1) := ⟨x, o.ow HX2.out.2.1, o.ow HX2.out.2.2⟩
  clear x o HX2 HC
  have HC : Hid (Calls _ _ _ w5 _) := HX3.out.1.fence bl ix F HQ.out.1 HQ.out.2.1 HQ.out.2.2.1 (show 1 ≤ 5 by decide) (by rw [HSt.out.2.2.2.1]; have := HFf.out; omega)
  go_wp2_with fail
  refine HC.out.mono ?_
  rintro e9 w6 ⟨rfl, x, o⟩
  have HX4 : Hid (D8 w w6 N sh mp g bp d m gf dur [⟨1, bl, ix, 0, xa1⟩, ⟨3, bl, ix, F, []⟩] ∧ Ow w6 N q3 xa1 ∧ Ow w6 N q4 xb1) := ⟨x, o.ow HX3.out.2.1, o.ow HX3.out.2.2⟩
  clear x o HX3 HC
  have HC : Hid (Calls _ _ _ w6 _) := HX4.out.1.drop_some bl ix HQ.out.1 HQ.out.2.1 (show 2 ≤ 5 by decide) HSt.out.2.2.2.2.1
  go_wp2_with fail
  refine HC.out.mono ?_
  rintro e9 w7 ⟨rfl, x, o⟩
  have HX5 : Hid (D8 w w7 N sh mp g bp d m gf dur [⟨1, bl, ix, 0, xa1⟩, ⟨3, bl, ix, F, []⟩, ⟨2, bl, ix, 0, []⟩] ∧ Ow w7 N q3 xa1 ∧ Ow w7 N q4 xb1) := ⟨x, o.ow HX4.out.2.1, o.ow HX4.out.2.2⟩
  clear x o HX4 HC
  have HC : Hid (Calls _ _ _ w7 _) := HX5.out.1.fetch_none bl ix F HQ.out.1 HQ.out.2.1 HQ.out.2.2.1 (Nat.le_of_eq HSt.out.2.2.2.2.2.2.1) HSt.out.2.2.2.2.2.1
  go_wp2_with fail
  refine HC.out.mono ?_
  rintro e9 w8 ⟨rfl, x, o⟩
  have HX6 : Hid (D8 w w8 N sh mp g bp d m gf dur [⟨1, bl, ix, 0, xa1⟩, ⟨3, bl, ix, F, []⟩, ⟨2, bl, ix, 0, []⟩] ∧ Ow w8 N q3 xa1 ∧ Ow w8 N q4 xb1) := ⟨x, o.ow HX5.out.2.1, o.ow HX5.out.2.2⟩
  clear x o HX5 HC
  have HC : Hid (Calls _ _ _ w8 _) := HX6.out.1.store_low bl ix f HQ.out.1 HQ.out.2.1 HQ.out.2.2.2 (show 3 ≤ 5 by decide) HX6.out.2.2 HL.out.2.2 HBy.out.2 (by rw [HSt.out.2.2.2.2.2.2.1]; have := HFf.out; omega)
  go_wp2_with fail
  refine HC.out.mono ?_
  rintro e9 w9 ⟨rfl, x, o⟩
  have HX7 : Hid (D8 w w9 N sh mp g bp d m gf dur [⟨1, bl, ix, 0, xa1⟩, ⟨3, bl, ix, F, []⟩, ⟨2, bl, ix, 0, []⟩] ∧ Ow w9 N q3 xa1 ∧ Ow w9 N q4 xb1) := ⟨x, o.ow HX6.out.2.1, o.ow HX6.out.2.2⟩
  clear x o HX6 HC
  have HC : Hid (Calls _ _ _ w9 _) := HX7.out.1.store_new bl ix F HQ.out.1 HQ.out.2.1 HQ.out.2.2.1 (show 3 ≤ 5 by decide) HX7.out.2.2 HL.out.2.2 HBy.out.2 (Nat.le_of_eq HSt.out.2.2.2.2.2.2.1) HSt.out.2.2.2.2.2.1
  go_wp2_with fail
  refine HC.out.mono ?_
  rintro e9 wa ⟨rfl, x, o⟩
  have HX8 : Hid (D8 w wa N sh mp g bp d m gf dur [⟨1, bl, ix, 0, xa1⟩, ⟨3, bl, ix, F, []⟩, ⟨2, bl, ix, 0, []⟩, ⟨1, bl, ix, 0, xb1⟩] ∧ Ow wa N q3 xa1 ∧ Ow wa N q4 xb1) := ⟨x, o.ow HX7.out.2.1, o.ow HX7.out.2.2⟩
  clear x o HX7 HC
  have HC : Hid (Calls _ _ _ wa _) := HX8.out.1.fetch_some bl ix F HQ.out.1 HQ.out.2.1 HQ.out.2.2.1 (Nat.le_of_eq HSt.out.2.2.2.2.2.2.2.2) HSt.out.2.2.2.2.2.2.2.1
  go_wp2_with fail
  refine HC.out.mono ?_
  rintro e9 wb ⟨vx, rfl, ox, x, o⟩
  have HX9 : Hid (D8 w wb N sh mp g bp d m gf dur [⟨1, bl, ix, 0, xa1⟩, ⟨3, bl, ix, F, []⟩, ⟨2, bl, ix, 0, []⟩, ⟨1, bl, ix, 0, xb1⟩]) := x
  have HC2 : Hid (Calls Tryz.prog 20 #[vx, q4] wb fun e u' => e = .returned (.bool true) ∧ u' = wb) := by
    have h9 := eq_own ox (o.ow HX8.out.2.2) HBy.out.2 HBy.out.2
    rw [decide_eq_true rfl] at h9
    exact h9
  have HC3 : Hid (Calls Tryz.prog 19 #[.pointer (some ⟨sh, 0, none⟩), .int .i64 (bl : Int), .int .i64 (ix : Int)] wb fun e u' => e = .returned (.int .i64 (F : Int)) ∧ u' = wb) := by
    have h9 := x.fenced bl ix HQ.out.1 HQ.out.2.1
    rw [HSt.out.2.2.2.2.2.2.2.2] at h9
    exact h9
  clear x o HX8 HC ox
  go_wp2_with fail
  refine HC2.out.mono ?_
  rintro e9 wc ⟨rfl, hw9⟩
  have hw8 := hw9.symm
  subst hw8
  clear hw9 HC2
  go_wp2_with fail
  refine HC3.out.mono ?_
  rintro e9 wc ⟨rfl, hw9⟩
  have hw8 := hw9.symm
  subst hw8
  clear hw9 HC3
  go_wp2
  go_ret
  exact ⟨rfl, HX9.out.k⟩
end Go.Proofs.YtmooddbhcccicaaGreatDoor

/- ShelfFences. -/
namespace Go.Proofs.YtmooddbhcccicaaGreatDoor
set_option linter.unusedVariables false
set_option linter.unusedSimpArgs false
open Go.RowKit Go.Deep Go.Maps

theorem md1000 (z : Int) : ∃ f : Nat, wrap64 ((IntKind.u64.wrap z).tmod 1000) = (f : Int) ∧ f ≤ 999 := by
  have h1 : IntKind.u64.wrap z = z % 18446744073709551616 := by simp [IntKind.wrap, IntKind.bits, IntKind.signed]
  have h0 : 0 ≤ IntKind.u64.wrap z := by rw [h1]; omega
  have h2 : (IntKind.u64.wrap z).tmod 1000 = IntKind.u64.wrap z % 1000 := Int.tmod_eq_emod_of_nonneg h0
  refine ⟨((IntKind.u64.wrap z).tmod 1000).toNat, ?_, ?_⟩
  · rw [h2]; unfold wrap64; omega
  · rw [h2]; omega
theorem min500 (n : Nat) : min (n : Int) 500 = ((min n 500 : Nat) : Int) := by omega
theorem ne_12 (xs : List Nat) : ¬ xs ++ [1] = [1, 2] := fun e => by
  have := congrArg List.getLast? e
  simp at this
theorem slice_firstA (p : Option Addr) (n c r : Nat) (hr : r ≤ c) (w : World) :
    (Instr.sliceAt 34 (.slice p n c) none (some (.int .i64 (r : Int))) none).run Tryz.prog w = .ok (.slice p r c) w := by
  have hs := slice_firstO p n c r hr w
  simp [Instr.sliceAt, run_underlying Tryz.underlying34, hs]
theorem Oks.hr {N : Nat} {u u' : World} (o : Oks N u u') {v : Value} {ps : List (Rc × Value)} (h : Hr u N v ps) : Hr u' N v ps := ⟨o.row _ _ _ _ _ h.1, fun z hz => ⟨o.ow (h.2 z hz).1, (h.2 z hz).2⟩⟩
theorem D8.held {w u : World} {N sh mp g bp d m gf : Nat} {dur : List Nat} {h : List Rc} (x : D8 w u N sh mp g bp d m gf dur h) :
    Calls Tryz.prog 16 #[.pointer (some ⟨sh, 0, none⟩)] u fun e u' => ∃ v ps ss, e = .returned v ∧ Hr u' N v ps ∧ Ths h ss ∧ ps.map Prod.fst = hldL h (srt3 ss) ∧ ps.length ≤ 1000 ∧ D8 w u' N sh mp g bp d m gf dur h ∧ Oks N u u' := by
  refine (held_ok x.s.sk).mono ?_
  rintro e u' ⟨v, ps, ss, rfl, k, hh, ht, he⟩
  refine ⟨v, ps, ss, rfl, hh.base x.n, ht, he, ?_, x.keep0 k⟩
  have h1 := congrArg List.length he
  rw [List.length_map] at h1
  have h2 : (hldL h (srt3 ss)).length ≤ (srt3 ss).length := List.length_filterMap_le _ _
  have h3 := ht.len x.s.sk
  rw [srt3_len] at h2
  omega

set_option maxRecDepth 100000 in
set_option maxHeartbeats 6400000 in
theorem shelfFences_walk (z0 z1 z2 z3 : Int) (pa : Option Addr) (na ca : Nat) (xa : List Nat) (w : World) (h0 : (Lit.int .i64 z0).wf = true) (h1 : (Lit.int .i64 z1).wf = true) (h2 : (Lit.int .i64 z2).wf = true) (h3 : (Lit.int .i64 z3).wf = true)
    (ra : Rb w pa na xa) (lca : na ≤ ca) (sa : Hid (na ≤ 140737488355328)) (ht : Turns w) :
    Calls Tryz.prog 4 #[.int .i64 z0, .int .i64 z1, .int .i64 z2, .int .i64 z3, .slice pa na ca] w fun e w' => e = .returned (.bool true) ∧ Kp (fun _ => False) w w' := by
  have HFr : Hid (Calls _ _ _ w _) := fresh8_ok w ht
  have HA : Hid (Rb w pa na xa ∧ na ≤ ca ∧ na ≤ 140737488355328) := ⟨ra, lca, sa.out⟩
  clear ra lca sa ht
  obtain ⟨bl, e0, hbl⟩ := sh8 z0
  obtain ⟨ix, e1, hix⟩ := sh8 z1
  obtain ⟨ep, e2, hep⟩ := md1000 z2
  obtain ⟨f, e3, hf⟩ := md1000 z3
  have HQ : Hid (bl ≤ 1152921504606846976 ∧ ix ≤ 1152921504606846976 ∧ ep ≤ 1152921504606846976 ∧ f ≤ 1152921504606846976) := ⟨by omega, by omega, by omega, by omega⟩
  clear h0 h1 h2 h3 hbl hix hep hf
  obtain ⟨la, hla⟩ : ∃ la, la = min na 500 := ⟨_, rfl⟩
  have hmin : min (na : Int) 500 = (la : Int) := by rw [hla]; exact min500 na
  have hsl : ∀ z, (Instr.sliceAt 34 (.slice pa na ca) none (some (.int .i64 (la : Int))) none).run Tryz.prog z = .ok (.slice pa la ca) z := fun z => slice_firstA pa na ca la (by have := HA.out.2.1; omega) z
  have HLa : Hid (la ≤ na ∧ la ≤ 500) := ⟨by omega, by omega⟩
  clear hla
  go_enter Tryz.func4, Tryz.ntmps4
  go_wp2_with fail
  refine HFr.out.mono ?_
  rintro e9 w1 ⟨sh, mp, g, gf, bp, d, m, dur, rfl, k1, hz1, s1⟩
  obtain ⟨N, hN⟩ : ∃ N, N = w1.heap.size := ⟨_, rfl⟩
  rw [← hN] at s1
  have HX0 : Hid (D8 w w1 N sh mp g bp d m gf dur []) := ⟨s1, k1, Nat.le_of_eq hN, ⟨hz1.1, hz1.2.1, hz1.2.2.1, hz1.2.2.2.1, hz1.2.2.2.2.2.2⟩, fun r hr => absurd hr List.not_mem_nil⟩
  have HCl : Hid (Calls _ _ _ w1 _) := clone_any pa la ca (xa.take la) w1 ((HA.out.1.keep0 k1).fst HLa.out.1) (show la ≤ 140737488355328 by have := HLa.out; omega)
  have HN1 : Hid (N = w1.heap.size) := hN
  clear k1 hz1 s1 HFr hN
  go_wp2_with fail
  refine HCl.out.mono ?_
  rintro e9 w2 ⟨v, rfl, k2, o2⟩
  have HO2 : Hid (Ow w2 w1.heap.size v (xa.take la)) := o2
  have HLen : Hid ((xa.take la).length = la ∧ ∀ x ∈ xa.take la, x < 256) := by
    have h1 := HA.out.1.fst HLa.out.1
    exact ⟨h1.len, h1.byte⟩
  have k3 : Kp (fun _ => False) w2 (w2.alloc (.cells #[.int .u8 1] 5)) := (Kp.refl _ _).alloc _
  have HO3 : Hid (Ow (w2.alloc (.cells #[.int .u8 1] 5)) w1.heap.size v (xa.take la)) := ownsRow_keep o2 k3 (fun _ _ e => e)
  have HR3 : Hid (Rb (w2.alloc (.cells #[.int .u8 1] 5)) (some ⟨w2.heap.size, 0, none⟩) 1 [1]) := by
    obtain ⟨p, c, e, _, hr, _⟩ := (own_oneI w2 1 (by decide)).rb (by decide)
    cases e
    exact hr
  have HK3 : Hid (Kp (fun _ => False) w1 (w2.alloc (.cells #[.int .u8 1] 5))) := k2.trans k3 (fun _ _ e => e)
  have HBl : Hid (∀ b, v.ownBlock = some b → w1.heap.size ≤ b) := fun b hb => (ownBlock_lt o2 hb).1
  clear k2 k3 o2 HCl HO2
  go_wp2_with (refine wpList_append_bytes _ rfl _ _ rfl w1.heap.size v (xa.take la) rfl HO3.out (some ⟨w2.heap.size, 0, none⟩) 1 1 [1] rfl HR3.out (by have := HLen.out.1; have := HLa.out; omega) HK3.out.size ?_; intro vb w4 o4 k4 _)
  obtain ⟨xb, hxb⟩ : ∃ xb, xb = xa.take la ++ [1] := ⟨_, rfl⟩
  rw [← hxb] at o4
  have HXb : Hid (1 ≤ xb.length ∧ xb.length ≤ 600 ∧ (∀ x ∈ xb, x < 256) ∧ ¬ xb = [1, 2]) := by
    have h1 := HLen.out
    have h2 := HLa.out
    refine ⟨?_, ?_, ?_, by rw [hxb]; exact ne_12 _⟩
    · rw [hxb, List.length_append, h1.1]; show 1 ≤ la + 1; omega
    · rw [hxb, List.length_append, h1.1]; show la + 1 ≤ 600; omega
    · rw [hxb]
      intro x hx
      rcases List.mem_append.1 hx with hx | hx
      · exact h1.2 x hx
      · rw [List.mem_singleton.1 hx]; decide
  have HX4 : Hid (D8 w w4 N sh mp g bp d m gf dur [] ∧ Ow w4 N vb xb) := by
    refine ⟨(HX0.out.keep0 (HK3.out.trans k4 (fun b hb e => by have := HBl.out b e; omega))).1, by rw [HN1.out]; exact o4⟩
  clear o4 k4 HX0 HK3 HO3 HR3 HBl HN1 hxb hmin hsl HLen HLa HA e0 e1 e2 e3
  have hs1 := stS_shard [] bl ix xb
  have HSt : Hid ((stS [⟨1, bl, ix, 0, xb⟩]).1 ⟨1, (bl : Int), (ix : Int)⟩ = some ⟨1, bl, ix, 0, xb⟩ ∧ fncd [⟨1, bl, ix, 0, xb⟩] bl ix = 0) := ⟨hs1.1, (hs1.2 bl ix).trans (fncd_nil bl ix)⟩
  clear hs1
  have HC : Hid (Calls Tryz.prog 14 #[.pointer (some ⟨sh, 0, none⟩), .int .i64 (bl : Int), .int .i64 (ix : Int), .int .i64 0, vb] w4 _) := HX4.out.1.store_new bl ix 0 HQ.out.1 HQ.out.2.1 (by decide) (show 0 ≤ 5 by decide) HX4.out.2 ⟨HXb.out.1, HXb.out.2.1⟩ HXb.out.2.2.1 (Nat.le_of_eq (fncd_nil bl ix)) rfl
  refine HC.out.mono ?_
  rintro e9 w5 ⟨rfl, x, o⟩
  have HX5 : Hid (D8 w w5 N sh mp g bp d m gf dur [⟨1, bl, ix, 0, xb⟩] ∧ Ow w5 N vb xb) := ⟨x, o.ow HX4.out.2⟩
  clear x o HX4 HC
  have HC : Hid (Calls _ _ _ w5 _) := HX5.out.1.fence_any bl ix f HQ.out.1 HQ.out.2.1 HQ.out.2.2.2 (show 1 ≤ 5 by decide) (by rw [HSt.out.2]; exact Nat.zero_le _)
  go_wp2_with fail
  refine HC.out.mono ?_
  rintro e9 w6 ⟨rfl, o, h, x, hl, hf, hst⟩
  have HX6 : Hid (D8 w w6 N sh mp g bp d m gf dur h ∧ Ow w6 N vb xb) := ⟨x, o.ow HX5.out.2⟩
  have HH : Hid (h.length ≤ 5 ∧ fncd h bl ix = f ∧ (stS h).1 ⟨1, (bl : Int), (ix : Int)⟩ = some ⟨1, bl, ix, 0, xb⟩) := ⟨Nat.le_trans hl (show 2 ≤ 5 by decide), hf, (hst _ _).trans HSt.out.1⟩
  clear x o HX5 HC hl hf hst HSt
  have HC : Hid (Calls _ _ _ w6 _) := HX6.out.1.held
  go_wp2_with fail
  refine HC.out.mono ?_
  rintro e9 w7 ⟨va, psa, ssa, rfl, ha, ta, ea, la, x, o⟩
  have HX7 : Hid (D8 w w7 N sh mp g bp d m gf dur h ∧ Ow w7 N vb xb ∧ Hr w7 N va psa) := ⟨x, o.ow HX6.out.2, ha⟩
  have HPa : Hid (Ths h ssa ∧ psa.map Prod.fst = hldL h (srt3 ssa) ∧ psa.length ≤ 1000) := ⟨ta, ea, la⟩
  clear x o HX6 HC ha ta ea la
  by_cases hlt : ep < f
  · have hlt2 : (ep : Int) < (f : Int) := by omega
    have HC : Hid (Calls _ _ _ w7 _) := HX7.out.1.fetch_low bl ix ep HQ.out.1 HQ.out.2.1 HQ.out.2.2.1 (by rw [HH.out.2.1]; exact hlt)
    go_wp2_with fail
    refine HC.out.mono ?_
    rintro e9 w8 ⟨rfl, x, o⟩
    have HX8 : Hid (D8 w w8 N sh mp g bp d m gf dur h ∧ Ow w8 N vb xb ∧ Hr w8 N va psa) := ⟨x, o.ow HX7.out.2.1, o.hr HX7.out.2.2⟩
    clear x o HX7 HC
    have k9 : Kp (fun _ => False) w8 (w8.alloc (.cells #[.int .u8 1, .int .u8 2] 5)) := (Kp.refl _ _).alloc _
    have o12 : Ow (w8.alloc (.cells #[.int .u8 1, .int .u8 2] 5)) w8.heap.size (.slice (some ⟨w8.heap.size, 0, none⟩) 2 2) [1, 2] := World.ownsRow_lit w8 #[.int .u8 1, .int .u8 2] 2 (Nat.le_refl _) (by unfold maxLen; omega) rfl
    have HX9 : Hid (D8 w (w8.alloc (.cells #[.int .u8 1, .int .u8 2] 5)) N sh mp g bp d m gf dur h ∧ Ow (w8.alloc (.cells #[.int .u8 1, .int .u8 2] 5)) N vb xb ∧ Hr (w8.alloc (.cells #[.int .u8 1, .int .u8 2] 5)) N va psa) := ⟨(HX8.out.1.keep0 k9).1, (HX8.out.1.keep0 k9).2.ow HX8.out.2.1, (HX8.out.1.keep0 k9).2.hr HX8.out.2.2⟩
    have HC : Hid (Calls Tryz.prog 14 #[.pointer (some ⟨sh, 0, none⟩), .int .i64 (bl : Int), .int .i64 (ix : Int), .int .i64 (ep : Int), .slice (some ⟨w8.heap.size, 0, none⟩) 2 2] (w8.alloc (.cells #[.int .u8 1, .int .u8 2] 5)) _) := HX9.out.1.store_low bl ix ep HQ.out.1 HQ.out.2.1 HQ.out.2.2.1 HH.out.1 o12 (by decide) (by decide) (by rw [HH.out.2.1]; exact hlt)
    clear o12 k9 HX8
    go_wp2_with fail
    refine HC.out.mono ?_
    rintro e9 w9 ⟨rfl, x, o⟩
    have HXa : Hid (D8 w w9 N sh mp g bp d m gf dur h ∧ Ow w9 N vb xb ∧ Hr w9 N va psa) := ⟨x, o.ow HX9.out.2.1, o.hr HX9.out.2.2⟩
    clear x o HX9 HC
    have HC : Hid (Calls _ _ _ w9 _) := HXa.out.1.held
    go_wp2_with fail
    refine HC.out.mono ?_
    rintro e9 wa ⟨vc, psc, ssc, rfl, hc, tc, ec, lc, x, o⟩
    have HSm : Hid (Calls Tryz.prog 18 #[va, vc] wa fun e w' => e = .returned (.bool true) ∧ Kp (fun _ => False) wa w') := by
      have h9 := sameHeld_ok (o.hr HXa.out.2.2) hc ⟨Nat.le_trans HPa.out.2.2 (by decide), Nat.le_trans lc (by decide)⟩
      rw [decide_eq_true (by rw [HPa.out.2.1, ec, srt3_perm (HPa.out.1.perm tc)])] at h9
      exact h9
    have HXq : Hid (D8 w wa N sh mp g bp d m gf dur h ∧ Ow wa N vb xb) := ⟨x, o.ow HXa.out.2.1⟩
    clear x o HXa HC hc tc ec lc
    go_wp2_with fail
    refine HSm.out.mono ?_
    rintro e9 wb ⟨rfl, kb⟩
    have HXc : Hid (D8 w wb N sh mp g bp d m gf dur h ∧ Ow wb N vb xb) := ⟨(HXq.out.1.keep0 kb).1, (HXq.out.1.keep0 kb).2.ow HXq.out.2⟩
    clear kb HXq HSm
    have HC : Hid (Calls Tryz.prog 19 #[.pointer (some ⟨sh, 0, none⟩), .int .i64 (bl : Int), .int .i64 (ix : Int)] wb fun e u' => e = .returned (.int .i64 (f : Int)) ∧ u' = wb) := by
      have h9 := HXc.out.1.fenced bl ix HQ.out.1 HQ.out.2.1
      rw [HH.out.2.1] at h9
      exact h9
    go_wp2_with fail
    refine HC.out.mono ?_
    rintro e9 wc ⟨rfl, hw9⟩
    have hw8 := hw9.symm
    subst hw8
    clear hw9 HC
    go_wp2
    go_ret
    exact ⟨rfl, HXc.out.1.k⟩
  · have hlt2 : ¬ (ep : Int) < (f : Int) := by omega
    have HXb0 := HXb
    have HC : Hid (Calls _ _ _ w7 _) := HX7.out.1.fetch_some bl ix ep HQ.out.1 HQ.out.2.1 HQ.out.2.2.1 (by rw [HH.out.2.1]; omega) HH.out.2.2
    clear HXb
    go_wp2_with fail
    refine HC.out.mono ?_
    rintro e9 w8 ⟨vx, rfl, ox, x, o⟩
    have HX8 : Hid (D8 w w8 N sh mp g bp d m gf dur h ∧ Ow w8 N vb xb ∧ Hr w8 N va psa ∧ Ow w8 N vx xb) := ⟨x, o.ow HX7.out.2.1, o.hr HX7.out.2.2, ox⟩
    clear x o ox HX7 HC
    have k9 : Kp (fun _ => False) w8 (w8.alloc (.cells #[.int .u8 1, .int .u8 2] 5)) := (Kp.refl _ _).alloc _
    have o12 : Ow (w8.alloc (.cells #[.int .u8 1, .int .u8 2] 5)) w8.heap.size (.slice (some ⟨w8.heap.size, 0, none⟩) 2 2) [1, 2] := World.ownsRow_lit w8 #[.int .u8 1, .int .u8 2] 2 (Nat.le_refl _) (by unfold maxLen; omega) rfl
    have HX9 : Hid (D8 w (w8.alloc (.cells #[.int .u8 1, .int .u8 2] 5)) N sh mp g bp d m gf dur h ∧ Ow (w8.alloc (.cells #[.int .u8 1, .int .u8 2] 5)) N vb xb ∧ Hr (w8.alloc (.cells #[.int .u8 1, .int .u8 2] 5)) N va psa ∧ Ow (w8.alloc (.cells #[.int .u8 1, .int .u8 2] 5)) N vx xb) := ⟨(HX8.out.1.keep0 k9).1, (HX8.out.1.keep0 k9).2.ow HX8.out.2.1, (HX8.out.1.keep0 k9).2.hr HX8.out.2.2.1, (HX8.out.1.keep0 k9).2.ow HX8.out.2.2.2⟩
    have HC : Hid (Calls Tryz.prog 14 #[.pointer (some ⟨sh, 0, none⟩), .int .i64 (bl : Int), .int .i64 (ix : Int), .int .i64 (ep : Int), .slice (some ⟨w8.heap.size, 0, none⟩) 2 2] (w8.alloc (.cells #[.int .u8 1, .int .u8 2] 5)) fun e9 u' => e9 = .returned (.int .i64 82) ∧ D8 w u' N sh mp g bp d m gf dur h ∧ Oks N (w8.alloc (.cells #[.int .u8 1, .int .u8 2] 5)) u') := by
      have h9 := HX9.out.1.store_there bl ix ep HQ.out.1 HQ.out.2.1 HQ.out.2.2.1 HH.out.1 o12 (by decide) (by decide) (by rw [HH.out.2.1]; omega) HH.out.2.2
      rw [if_neg HXb0.out.2.2.2] at h9
      exact h9
    clear o12 k9 HX8
    go_wp2_with fail
    refine HC.out.mono ?_
    rintro e9 w9 ⟨rfl, x, o⟩
    have HXa : Hid (D8 w w9 N sh mp g bp d m gf dur h ∧ Ow w9 N vb xb ∧ Hr w9 N va psa ∧ Ow w9 N vx xb) := ⟨x, o.ow HX9.out.2.1, o.hr HX9.out.2.2.1, o.ow HX9.out.2.2.2⟩
    clear x o HX9 HC
    have HC : Hid (Calls _ _ _ w9 _) := HXa.out.1.held
    go_wp2_with fail
    refine HC.out.mono ?_
    rintro e9 wa ⟨vc, psc, ssc, rfl, hc, tc, ec, lc, x, o⟩
    have HSm : Hid (Calls Tryz.prog 18 #[va, vc] wa fun e w' => e = .returned (.bool true) ∧ Kp (fun _ => False) wa w') := by
      have h9 := sameHeld_ok (o.hr HXa.out.2.2.1) hc ⟨Nat.le_trans HPa.out.2.2 (by decide), Nat.le_trans lc (by decide)⟩
      rw [decide_eq_true (by rw [HPa.out.2.1, ec, srt3_perm (HPa.out.1.perm tc)])] at h9
      exact h9
    have HXb : Hid (D8 w wa N sh mp g bp d m gf dur h ∧ Ow wa N vb xb ∧ Ow wa N vx xb) := ⟨x, o.ow HXa.out.2.1, o.ow HXa.out.2.2.2⟩
    clear x o HXa HC hc tc ec lc
    go_wp2_with fail
    refine HSm.out.mono ?_
    rintro e9 wb ⟨rfl, kb⟩
    have HXc : Hid (D8 w wb N sh mp g bp d m gf dur h ∧ Ow wb N vb xb ∧ Ow wb N vx xb) := ⟨(HXb.out.1.keep0 kb).1, (HXb.out.1.keep0 kb).2.ow HXb.out.2.1, (HXb.out.1.keep0 kb).2.ow HXb.out.2.2⟩
    clear kb HXb HSm
    have HC : Hid (Calls Tryz.prog 19 #[.pointer (some ⟨sh, 0, none⟩), .int .i64 (bl : Int), .int .i64 (ix : Int)] wb fun e u' => e = .returned (.int .i64 (f : Int)) ∧ u' = wb) := by
      have h9 := HXc.out.1.fenced bl ix HQ.out.1 HQ.out.2.1
      rw [HH.out.2.1] at h9
      exact h9
    go_wp2_with fail
    refine HC.out.mono ?_
    rintro e9 wc ⟨rfl, hw9⟩
    have hw8 := hw9.symm
    subst hw8
    clear hw9 HC
    have HEq : Hid (Calls Tryz.prog 20 #[vx, vb] wb fun e u' => e = .returned (.bool true) ∧ u' = wb) := by
      have h9 := eq_own HXc.out.2.2 HXc.out.2.1 HXb0.out.2.2.1 HXb0.out.2.2.1
      rw [decide_eq_true rfl] at h9
      exact h9
    go_wp2_with fail
    refine HEq.out.mono ?_
    rintro e9 wc ⟨rfl, hw9⟩
    have hw8 := hw9.symm
    subst hw8
    clear hw9 HEq
    go_wp2
    go_ret
    exact ⟨rfl, HXc.out.1.k⟩
end Go.Proofs.YtmooddbhcccicaaGreatDoor

/- Texts of this proof, joined: Jri, Jrj. -/
/- ShelfSynced, ahead of its walk. -/
namespace Go.Proofs.YtmooddbhcccicaaGreatDoor
set_option linter.unusedVariables false
set_option linter.unusedSimpArgs false
open Go.RowKit Go.Deep Go.Maps

theorem held_hd {u : World} {Z : Nat → Prop} {sh mp g : Nat} {h : List Rc} (x : Sk u Z sh mp g h) :
    Calls Tryz.prog 16 #[.pointer (some ⟨sh, 0, none⟩)] u fun e u' => ∃ p c rs ss, e = .returned (.slice p rs.length c) ∧ Kp (fun _ => False) u u' ∧ HdZ u' (fun b => u.heap.size ≤ b ∧ b < u'.heap.size) p rs ∧ Ths h ss ∧ rs = hldL h (srt3 ss) ∧ rs.length ≤ 1000 := by
  refine (held_ok x).mono ?_
  rintro e u' ⟨v, ps, ss, rfl, k, hh, ht, he⟩
  obtain ⟨p, c, ev, hz⟩ := hh.hdz
  refine ⟨p, c, ps.map Prod.fst, ss, by rw [ev], k, hz, ht, he, ?_⟩
  rw [he]
  have h2 : (hldL h (srt3 ss)).length ≤ (srt3 ss).length := List.length_filterMap_le _ _
  have h3 := ht.len x
  rw [srt3_len] at h2
  omega
/-- what may lie where a shelf's bytes lie: all that is new, but the row of states -/
def Zv (N : Nat) (v : Value) : Nat → Prop := fun b => N ≤ b ∧ ¬ v.ownBlock = some b
/-- a shelf of few records, the law's own: y of them are durable; beside it a row v of the law's -/
structure S8 (w u : World) (N : Nat) (v : Value) (sh mp g bp d m gf b y : Nat) (dur : List Nat) (h : List Rc) : Prop where
  s : Shf u (Zv N v) sh mp g bp d m gf 298 b b 0 1 y dur h
  k : Kp (fun _ => False) w u
  n : N ≤ u.heap.size
  z : w.heap.size ≤ sh ∧ w.heap.size ≤ mp ∧ w.heap.size ≤ g ∧ w.heap.size ≤ gf ∧ w.heap.size ≤ m ∧ w.heap.size ≤ d ∧ w.heap.size ≤ bp
  sm : Sm h
  dn : sh < N ∧ mp < N ∧ g < N ∧ gf < N ∧ m < N ∧ d < N ∧ bp < N ∧ d ≠ g ∧ d ≠ gf
  vb : ∀ c, v.ownBlock = some c → N ≤ c ∧ c < u.heap.size
  wn : w.heap.size ≤ N
  tn : (0 : Nat) < N
section
variable {w u : World} {N sh mp g bp d m gf b y : Nat} {v : Value} {dur : List Nat} {h : List Rc}
theorem S8.sw (x : S8 w u N v sh mp g bp d m gf b y dur h) : ∀ c, N ≤ c → ¬ SW sh mp g m gf c := fun c hc e => by
  have := x.dn
  rcases e with e | e | e | e | e <;> omega
theorem S8.dm (x : S8 w u N v sh mp g bp d m gf b y dur h) : ∀ c, N ≤ c → ¬ (c = d ∨ c = m) := fun c hc e => by
  have := x.dn
  rcases e with e | e <;> omega
theorem S8.keep0 (x : S8 w u N v sh mp g bp d m gf b y dur h) {u' : World} (k : Kp (fun _ => False) u u') : S8 w u' N v sh mp g bp d m gf b y dur h :=
  ⟨x.s.keep0 k, x.k.trans k (fun _ _ e => e), Nat.le_trans x.n k.size, x.z, x.sm, x.dn, fun c hc => ⟨(x.vb c hc).1, Nat.lt_of_lt_of_le (x.vb c hc).2 k.size⟩, x.wn, x.tn⟩
/-- the row has grown -/
theorem S8.row (x : S8 w u N v sh mp g bp d m gf b y dur h) {u' : World} {v' : Value} (k : Kp (fun c => v.ownBlock = some c) u u') (hv : v'.ownBlock = v.ownBlock ∨ v'.ownBlock = some u.heap.size) (hb : ∀ c, v'.ownBlock = some c → c < u'.heap.size) : S8 w u' N v' sh mp g bp d m gf b y dur h := by
  have dn := x.dn
  have hlt : ∀ c, c < N → ¬ v.ownBlock = some c := fun c hc e => by have := (x.vb c e).1; omega
  have hlt2 : ∀ c, c < N → ¬ Zv N v' c := fun c hc e => by have := e.1; omega
  obtain ⟨q, lt, T, hl⟩ := x.s.lg
  have hsk : Sk u' (Zv N v') sh mp g h := ((x.s.sk.zb x.sm).keep k (hlt sh dn.1) (hlt mp dn.2.1) (fun c hc => hc.1.2)).zm (fun c hc => ⟨hc.1.1, fun e => by
    rcases hv with e9 | e9
    · exact hc.1.2 (e9.symm.trans e)
    · rw [e9] at e
      injection e with e
      have := hc.2
      omega⟩)
  refine ⟨⟨⟨q, lt, T, hl.keep k (hlt g (by omega)) (hlt bp (by omega)) (hlt d (by omega)) (hlt m (by omega)) (hlt gf (by omega))⟩, hsk, ?_, ⟨x.s.ap.1, hlt2 sh (by omega), hlt2 mp (by omega)⟩, fun c hc => ⟨hlt2 c (by rcases hc with e | e | e <;> omega), (x.s.aq c hc).2⟩, x.s.ar, x.s.at_⟩, x.k.trans k (fun c hc e => by have h1 := (x.vb c e).1; have h2 := x.wn; omega), Nat.le_trans x.n k.size, x.z, x.sm, x.dn, fun c hc => ⟨?_, hb c hc⟩, x.wn, x.tn⟩
  · exact fun j hj => k.cellv (x.s.tu j hj) (fun e => by
      have h1 := (x.vb _ e).1
      have h2 := x.tn
      have h3 : (⟨0, j, none⟩ : Addr).block = 0 := rfl
      omega)
  · rcases hv with e | e
    · exact (x.vb c (e.symm.trans hc)).1
    · rw [e] at hc
      injection hc with hc
      have := x.n
      omega
/-- the row is given up -/
theorem S8.give (x : S8 w u N v sh mp g bp d m gf b y dur h) : S8 w u N (.slice none 0 0) sh mp g bp d m gf b y dur h := by
  have dn := x.dn
  have hlt2 : ∀ c, c < N → ¬ Zv N (.slice none 0 0) c := fun c hc e => by have := e.1; omega
  exact ⟨⟨x.s.lg, x.s.sk.zm (fun c hc => ⟨hc.1, fun e => by cases e⟩), x.s.tu, ⟨x.s.ap.1, hlt2 sh (by omega), hlt2 mp (by omega)⟩, fun c hc => ⟨hlt2 c (by rcases hc with e | e | e <;> omega), (x.s.aq c hc).2⟩, x.s.ar, x.s.at_⟩, x.k, x.n, x.z, x.sm, x.dn, fun c hc => (by cases hc), x.wn, x.tn⟩
theorem S8.put {u' : World} {h' : List Rc} (x : S8 w u N v sh mp g bp d m gf b y dur h) (k : Kp (SW sh mp g m gf) u u') (hh : h' = h ∨ ∃ r, Cn r ∧ secS r ≤ 3 ∧ (r.k = 2 ∨ 1 ≤ r.b.length) ∧ h' = h ++ [r]) (s : Shf u' (Zv N v) sh mp g bp d m gf 298 b b 0 1 y dur h') : (h' = h ∨ ∃ r, h' = h ++ [r]) ∧ S8 w u' N v sh mp g bp d m gf b y dur h' := by
  have z := x.z
  refine ⟨?_, s, x.k.trans k (fun c hc e => ?_), Nat.le_trans x.n k.size, x.z, ?_, x.dn, fun c hc => ⟨(x.vb c hc).1, Nat.lt_of_lt_of_le (x.vb c hc).2 k.size⟩, x.wn, x.tn⟩
  · rcases hh with e | ⟨r, _, _, _, e⟩
    · exact Or.inl e
    · exact Or.inr ⟨r, e⟩
  · rcases e with e | e | e | e | e <;> omega
  · rcases hh with e | ⟨r, h1, h2, h3, e⟩
    · rw [e]; exact x.sm
    · rw [e]; exact x.sm.snoc h1 h2 h3
theorem S8.store (x : S8 w u N v sh mp g bp d m gf b y dur h) (hn : h.length ≤ 45) (z0 z1 z2 : Int) (p : Option Addr) (n cp : Nat) (xs : List Nat) (hr : Rb u p n xs) (hn1 : n ≤ 100) :
    Calls Tryz.prog 14 #[.pointer (some ⟨sh, 0, none⟩), .int .i64 z0, .int .i64 z1, .int .i64 z2, .slice p n cp] u fun e9 u' => (∃ q, e9 = .returned (.int .i64 q)) ∧ Kp (SW sh mp g m gf) u u' ∧ ∃ h', (h' = h ∨ ∃ r, h' = h ++ [r]) ∧ S8 w u' N v sh mp g bp d m gf b y dur h' := by
  refine (sstore_any x.s x.sm hn z0 z1 z2 p n cp xs hr hn1 (fun c hc => ⟨Nat.le_trans x.n hc, fun e => by have := (x.vb c e).2; omega⟩)).mono ?_
  rintro e9 u' ⟨hq, k, h', hh, s⟩
  exact ⟨hq, k, h', x.put k hh s⟩
theorem S8.drop (x : S8 w u N v sh mp g bp d m gf b y dur h) (hn : h.length ≤ 45) (z0 z1 : Int) :
    Calls Tryz.prog 22 #[.pointer (some ⟨sh, 0, none⟩), .int .i64 z0, .int .i64 z1] u fun e9 u' => (∃ q, e9 = .returned (.int .i64 q)) ∧ Kp (SW sh mp g m gf) u u' ∧ ∃ h', (h' = h ∨ ∃ r, h' = h ++ [r]) ∧ S8 w u' N v sh mp g bp d m gf b y dur h' := by
  refine (sdrop_any x.s x.sm hn z0 z1).mono ?_
  rintro e9 u' ⟨hq, k, h', hh, s⟩
  exact ⟨hq, k, h', x.put k hh s⟩
theorem S8.sync (x : S8 w u N v sh mp g bp d m gf b y dur h) :
    Calls Tryz.prog 21 #[.pointer (some ⟨sh, 0, none⟩)] u fun e9 u' => e9 = .returned (.int .i64 0) ∧ Kp (fun c => c = d ∨ c = m) u u' ∧ ∃ dur', S8 w u' N v sh mp g bp d m gf b h.length dur' h := by
  refine (ssync_ok x.s ⟨fun e => by have := x.dn; have := e.1; omega, x.dn.2.2.2.2.2.2.2⟩).mono ?_
  rintro e9 u' ⟨rfl, k, dur', s⟩
  have z := x.z
  exact ⟨rfl, k, dur', s, x.k.trans k (fun c hc e => by rcases e with e | e <;> omega), Nat.le_trans x.n k.size, x.z, x.sm, x.dn, fun c hc => ⟨(x.vb c hc).1, Nat.lt_of_lt_of_le (x.vb c hc).2 k.size⟩, x.wn, x.tn⟩
theorem S8.held (x : S8 w u N v sh mp g bp d m gf b y dur h) :
    Calls Tryz.prog 16 #[.pointer (some ⟨sh, 0, none⟩)] u fun e u' => ∃ p c rs ss, e = .returned (.slice p rs.length c) ∧ Kp (fun _ => False) u u' ∧ HdZ u' (fun b => u.heap.size ≤ b ∧ b < u'.heap.size) p rs ∧ Ths h ss ∧ rs = hldL h (srt3 ss) ∧ rs.length ≤ 1000 := held_hd x.s.sk
end
/-- what was there at some time: a beginning of the history -/
def At8 (h : List Rc) (j : Nat) (rs : List Rc) : Prop := ∃ ss, Ths (h.take j) ss ∧ rs = hldL (h.take j) (srt3 ss)
/-- all beginnings from y on, up to (not with) e, are among the rows -/
def Cov (h : List Rc) (y e : Nat) (ls : List (List Rc)) : Prop := ∀ j, y ≤ j → j < e → ∃ rs ∈ ls, At8 h j rs
theorem Cov.put {h h' : List Rc} {y : Nat} {ls : List (List Rc)} (hc : Cov h y (h.length + 1) ls) (hh : h' = h ∨ ∃ r, h' = h ++ [r]) : Cov h' y h'.length ls := fun j h1 h2 => by
  have hj : j < h.length + 1 := by
    rcases hh with e | ⟨r, e⟩
    · rw [e] at h2; omega
    · rw [e, List.length_append] at h2; exact h2
  obtain ⟨rs, hm, ss, ht, e⟩ := hc j h1 hj
  have htk : h'.take j = h.take j := by
    rcases hh with e | ⟨r, e⟩
    · rw [e]
    · rw [e, List.take_append_of_le_length (by omega)]
  exact ⟨rs, hm, ss, by rw [htk]; exact ht, by rw [htk]; exact e⟩
theorem Cov.add {h : List Rc} {y : Nat} {ls : List (List Rc)} {rs : List Rc} {ss : List K3} (hc : Cov h y h.length ls) (ht : Ths h ss) (e : rs = hldL h (srt3 ss)) : Cov h y (h.length + 1) (ls ++ [rs]) := fun j h1 h2 => by
  by_cases hj : j < h.length
  · obtain ⟨r, hm, ha⟩ := hc j h1 hj
    exact ⟨r, List.mem_append_left _ hm, ha⟩
  · have : j = h.length := by omega
    subst this
    refine ⟨rs, List.mem_append_right _ (List.mem_singleton.2 rfl), ss, ?_, ?_⟩
    · rw [List.take_length]; exact ht
    · rw [List.take_length]; exact e
theorem At8.same {h : List Rc} {j : Nat} {a : List Rc} {ss : List K3} (ha : At8 h j a) (ht : Ths (h.take j) ss) : a = hldL (h.take j) (srt3 ss) := by
  obtain ⟨s2, h1, h2⟩ := ha
  rw [h2, srt3_perm (h1.perm ht)]

set_option maxRecDepth 100000 in
theorem sameHeld_hd {p1 p2 : Option Addr} {c1 c2 : Nat} {a b : List Rc} {w : World} (h1 : Hd w p1 a) (h2 : Hd w p2 b) (hl : a.length ≤ 2000 ∧ b.length ≤ 2000) :
    Calls Tryz.prog 18 #[.slice p1 a.length c1, .slice p2 b.length c2] w fun e w' => e = .returned (.bool (decide (a.map keyR = b.map keyR))) ∧ Kp (fun _ => False) w w' := by
  have H : Hid (Calls _ _ _ w _) := eqf_hd p1 p2 c1 c2 a b w h1 h2 hl
  obtain ⟨B, hB⟩ : ∃ B, B = decide (a.map keyR = b.map keyR) := ⟨_, rfl⟩
  obtain ⟨n1, hn1⟩ : ∃ n, n = a.length := ⟨_, rfl⟩
  obtain ⟨n2, hn2⟩ : ∃ n, n = b.length := ⟨_, rfl⟩
  rw [← hB, ← hn1, ← hn2] at H
  rw [← hB, ← hn1, ← hn2]
  clear h1 h2 hl hB hn1 hn2
  go_enter Tryz.func18, Tryz.ntmps18
  go_wp2_with fail
  refine H.out.mono ?_
  rintro e9 w9 ⟨rfl, k9⟩
  clear H
  go_wp2
  go_ret
  exact ⟨rfl, k9⟩
theorem u64_succ {L : Nat} (h : (L : Int) ≤ 9223372036854775807) : IntKind.u64.wrap (wrap64 ((L : Int) + 1)) = ((L + 1 : Nat) : Int) := by
  simp [IntKind.wrap, IntKind.bits, IntKind.signed]
  unfold wrap64
  omega
end Go.Proofs.YtmooddbhcccicaaGreatDoor

/- ShelfSynced (laid by scripts/mkjrj.py). -/
namespace Go.Proofs.YtmooddbhcccicaaGreatDoor
set_option linter.unusedVariables false
set_option linter.unusedSimpArgs false
open Go.RowKit Go.Deep Go.Maps

theorem tmod3b (op : Int) : wrap64 (op.tmod 3) = op.tmod 3 := by
  have h1 := Int.tmod_lt_of_pos op (show (0 : Int) < 3 by decide)
  have h2 := Int.lt_tmod_of_pos op (show (0 : Int) < 3 by decide)
  unfold wrap64
  omega
theorem min100b (n : Nat) : min (n : Int) 100 = ((min n 100 : Nat) : Int) := by omega

set_option maxRecDepth 100000 in
set_option maxHeartbeats 12800000 in
theorem shelfSynced_walk (v0 : Value) (L : Nat) (z1 mask torn nn : Int) (w : World) (h : Dos8 w v0 L) (hz1 : (Lit.int .i64 z1).wf = true) (hmask : (Lit.int .u64 mask).wf = true) (htorn : (Lit.int .i64 torn).wf = true) (hnn : (Lit.int .i64 nn).wf = true) (ht : Turns w) :
    Calls Tryz.prog 5 #[v0, .int .i64 z1, .int .u64 mask, .int .i64 torn, .int .i64 nn] w fun e w' => e = .returned (.bool true) ∧ Kp (fun _ => False) w w' := by
  obtain ⟨g0, gb, go, cap, rfl, hg0, hdo⟩ := h.form
  have hmany := h.many
  have HFr : Hid (Calls _ _ _ w _) := fresh8_ok w ht
  have HWt : Hid ((Lit.int .i64 torn).wf = true) := htorn
  have HT : Hid (Turns w) := ht
  have HTn : Hid ((0 : Nat) < w.heap.size) := World.block_lt_of_cell? _ _ (ht 0 (by decide))
  have HDo : Hid (∀ r, r < L → ∃ (op bl ix ep tn nn : Int) (pb : Option Addr) (cb : Nat) (xs : List Nat) (mk : Int), Do8 w gb (go + r * 8) op bl ix ep tn nn pb cb xs mk) := hdo
  have HG0 : Hid (0 < L → g0 = some ⟨gb, go, none⟩) := hg0
  have HM : Hid ((L : Int) ≤ 9223372036854775807) := hmany
  obtain ⟨U, hU0⟩ : ∃ U, U = L + 1 := ⟨_, rfl⟩
  have hU : IntKind.u64.wrap (wrap64 ((L : Int) + 1)) = (U : Int) := by rw [hU0]; exact u64_succ hmany
  have hUn : ¬ (U : Int) = 0 := by omega
  clear h hdo hg0 ht hz1 hmask htorn hnn hmany hU0
  go_enter Tryz.func5, Tryz.ntmps5
  go_wp2_with fail
  refine HFr.out.mono ?_
  rintro e9 w1 ⟨sh, mp, g, gf, bp, d, m, dur0, rfl, k1, hz1, s1⟩
  obtain ⟨N, hN⟩ : ∃ N, N = w1.heap.size := ⟨_, rfl⟩
  rw [← hN] at s1
  have HX1 : Hid (S8 w w1 N (.slice none 0 0) sh mp g bp d m gf 1 0 dur0 []) := by
    obtain ⟨q, lt, T, hl⟩ := s1.lg
    have hb := hl.blk
    have ha := s1.ap
    have h1 := k1.size
    have h2 := HTn.out
    exact ⟨⟨s1.lg, s1.sk.zm (fun c hc => ⟨hc, fun e => by cases e⟩), s1.tu, ⟨s1.ap.1, fun e => ha.2.1 e.1, fun e => ha.2.2 e.1⟩, fun x hx => ⟨fun e => (s1.aq x hx).1 e.1, (s1.aq x hx).2⟩, s1.ar, s1.at_⟩, k1, Nat.le_of_eq hN, ⟨hz1.1, hz1.2.1, hz1.2.2.1, hz1.2.2.2.1, hz1.2.2.2.2.2.2, hz1.2.2.2.2.2.1, hz1.2.2.2.2.1⟩, fun r hr => absurd hr List.not_mem_nil, ⟨by omega, by omega, by omega, by omega, by omega, by omega, by omega, fun e => hl.lp.gd e.symm, fun e => hl.lp.fd e.symm⟩, fun c hc => (by cases hc), by omega, by omega⟩
  have k2 : Kp (fun _ => False) w1 (w1.alloc (.cells #[] 47)) := (Kp.refl _ _).alloc _
  have HX2 : Hid (S8 w (w1.alloc (.cells #[] 47)) N (.slice (some ⟨w1.heap.size, 0, none⟩) 0 0) sh mp g bp d m gf 1 0 dur0 [] ∧ Ors (w1.alloc (.cells #[] 47)) N (.slice (some ⟨w1.heap.size, 0, none⟩) 0 0) []) := by
    refine ⟨HX1.out.row (k2.mono (fun _ _ e => e.elim)) (Or.inr rfl) (fun c hc => ?_), [], ?_, rfl, fun i x u hx => by cases hx⟩
    · have e : w1.heap.size = c := Option.some.inj hc
      rw [← e]
      simp
    · rw [hN]
      exact World.ownsRow_made w1 #[] 0 (Nat.le_refl _) (by unfold maxLen; omega) rfl
  clear k1 hz1 s1 HFr hN k2 HX1
  go_wp2_with fail
  obtain ⟨A, hA0⟩ : ∃ A, A = wrap64 ((IntKind.u64.wrap z1).tmod (U : Int)) := ⟨_, rfl⟩
  rw [← hA0]
  clear hA0
  go_loopg [13, 37] L (fun gk v iv wr => ∃ (i y : Nat) (dur : List Nat) (h : List Rc) (ls : List (List Rc)) (v1 : Value), i ≤ L ∧ i ≤ 41 ∧ gk = L - i ∧ v = v1 ∧ iv = .int .i64 (i : Int) ∧ Hid (S8 w wr N v1 sh mp g bp d m gf 1 y dur h ∧ Ors wr N v1 ls ∧ Cov h y h.length ls ∧ (h.length ≤ i ∧ ls.length ≤ i ∧ y ≤ h.length)))
  case atStart => exact ⟨0, 0, dur0, [], [], _, Nat.zero_le _, by decide, rfl, rfl, rfl, HX2.out.1, HX2.out.2, fun j _ hj => absurd hj (Nat.not_lt_zero _), ⟨Nat.le_refl _, Nat.le_refl _, Nat.le_refl _⟩⟩
  case round =>
    obtain ⟨i, y, dur, h, ls, v, hi, hi41, rfl, hvv, rfl, HK⟩ := hrel
    have hv2 := hvv.symm
    subst hv2
    clear hvv HX2
    by_cases hlt : i < L
    · have hlt2 : (i : Int) < (L : Int) := by omega
      have hg0 := HG0.out (by omega)
      subst hg0
      obtain ⟨op, bl, ix, ep, tn, n2, pb, cb, xs, mk, dd⟩ := HDo.out i hlt
      have hwi : wrap64 ((i : Int) + 1) = ((i + 1 : Nat) : Int) := by have := HM.out; unfold wrap64; omega
      obtain ⟨M, hM0⟩ : ∃ M, M = xs.length := ⟨_, rfl⟩
      have HKw := HK.out.1.k
      have d0 := HKw.cellv dd.c0 id
      have d1 := HKw.cellv dd.c1 id
      have d2 := HKw.cellv dd.c2 id
      have d3 := HKw.cellv dd.c3 id
      have d4 := HKw.cellv dd.c4 id
      have d5 := HKw.cellv dd.c5 id
      have d6 := HKw.cellv dd.c6 id
      have d7 := HKw.cellv dd.c7 id
      rw [← hM0] at d6
      have HD : Hid (Do8 w gb (go + i * 8) op bl ix ep tn n2 pb cb xs mk ∧ M = xs.length ∧ i < L) := ⟨dd, hM0, hlt⟩
      obtain ⟨h15, hh15⟩ : ∃ x, x = wr.heap.size := ⟨_, rfl⟩
      obtain ⟨w2, hw2⟩ : ∃ z, z = wr.alloc (.cells #[.int .i64 op, .int .i64 bl, .int .i64 ix, .int .i64 ep, .int .i64 tn, .int .i64 n2, .slice pb M cb, .int .u64 mk] 37) := ⟨_, rfl⟩
      have k2 : Kp (fun _ => False) wr w2 := by rw [hw2]; exact (Kp.refl _ _).alloc _
      have HB2 : Hid (Lv w2 h15 (#[.int .i64 op, .int .i64 bl, .int .i64 ix, .int .i64 ep, .int .i64 tn, .int .i64 n2, .slice pb M cb, .int .u64 mk] : Array Value).toList ∧ N ≤ h15 ∧ h15 < w2.heap.size ∧ ¬ v.ownBlock = some h15) := by
        refine ⟨by rw [hw2, hh15]; exact Lv.new wr _ _, by rw [hh15]; exact HK.out.1.n, by rw [hw2, hh15]; simp, fun e => ?_⟩
        have := (HK.out.1.vb _ e).2
        omega
      have HS2 : Hid (S8 w w2 N v sh mp g bp d m gf 1 y dur h ∧ Ors w2 N v ls ∧ Cov h y h.length ls ∧ (h.length ≤ i ∧ ls.length ≤ i ∧ y ≤ h.length)) := ⟨HK.out.1.keep0 k2, HK.out.2.1.keep k2 (fun _ _ e => e), HK.out.2.2⟩
      clear dd hM0 HKw k2 HK hlt
      by_cases hbr : 40 < i
      · have hbr2 : (40 : Int) < (i : Int) := by omega
        go_upto_region 19 with fail
        rw [← hw2]
        clear hw2 hh15 d0 d1 d2 d3 d4 d5 d6 d7 HD HB2 hlt2 hwi
        have HS : Hid (S8 w w2 N v sh mp g bp d m gf 1 y dur h ∧ Ors w2 N v ls ∧ Cov h y h.length ls ∧ (h.length ≤ i ∧ ls.length ≤ i)) := ⟨HS2.out.1, HS2.out.2.1, HS2.out.2.2.1, HS2.out.2.2.2.1, HS2.out.2.2.2.2.1⟩
        clear HS2
        have HHe : Hid (Calls _ _ _ w2 _) := HS.out.1.held
        go_wp2_with fail
        refine HHe.out.mono ?_
        rintro e9 ua ⟨pr, cr, rs, ss, rfl, ka, hz, hth, hrs, hrl⟩
        obtain ⟨R, hR⟩ : ∃ R, R = rs.length := ⟨_, rfl⟩
        obtain ⟨ub, hub⟩ : ∃ z, z = ua.alloc (.cells #[.slice pr R cr] 47) := ⟨_, rfl⟩
        have kb : Kp (fun _ => False) ua ub := by rw [hub]; exact (Kp.refl _ _).alloc _
        have kub : Kp (fun _ => False) w2 ub := ka.trans kb (fun _ _ e => e)
        have HCb : Hid (ub.cell? ⟨ua.heap.size, 0, none⟩ = some (.slice pr R cr)) := by rw [hub]; exact (show Lv _ _ [.slice pr R cr] from Lv.new ua _ _).cell (j := 0) rfl
        obtain ⟨vs, o1, o2, o3⟩ := HS.out.2.1
        obtain ⟨ln, hln⟩ : ∃ n, n = ls.length := ⟨_, rfl⟩
        have HVb := HS.out.1.vb
        have HO1 : Hid (ub.ownsRow N 47 1 v ln vs ∧ ln ≤ 45 ∧ N ≤ ub.heap.size) := ⟨by rw [hln]; exact ownsRow_keep o1 kub (fun _ _ e => e), by rw [hln]; have := HS.out.2.2.2; omega, (HS.out.1.keep0 kub).n⟩
        have HAp : Hid (∀ v' w', w'.ownsRow N 47 1 v' (ln + 1) (vs ++ [.slice pr R cr]) → Kp (fun b => (v).ownBlock = some b) ub w' → (v'.ownBlock = (v).ownBlock ∨ v'.ownBlock = some ub.heap.size) → S8 w w' N v' sh mp g bp d m gf 1 y dur h ∧ Ors w' N v' (ls ++ [rs]) ∧ Cov h y (h.length + 1) (ls ++ [rs])) := fun v' w' o7 k7 hv7 => by
          refine ⟨(HS.out.1.keep0 kub).row k7 hv7 (fun c hc => (ownBlock_lt o7 hc).2), Ors.app o2 o3 kub hrl ((hz.keep kb (fun _ _ e => e)).mono (fun b hb => ⟨Nat.le_trans HS.out.1.n hb.1, Nat.lt_of_lt_of_le hb.2 kb.size, fun e => by have := (HVb b e).2; have := hb.1; omega⟩)) (by rw [hR, hln] at o7; exact o7) k7 hv7, HS.out.2.2.1.add hth hrs⟩
        rw [← hR]
        clear ka hz hth hrs hrl kb kub o1 o2 o3 HHe HVb hR hln
        go_upto_region 20 with (refine wpList_append_hrow (ua.alloc (.cells #[.slice pr R cr] 47)) rfl _ _ rfl N v ln vs (.slice pr R cr) ua.heap.size rfl (by rw [← hub]; exact HO1.out.1) rfl rfl (by rw [← hub]; exact HCb.out) (by have := HO1.out.2.1; omega) (by rw [← hub]; exact HO1.out.2.2) ?_; intro v7 w7 o7 k7 hv7; rw [← hub] at k7 hv7)
        have HS7 : Hid (S8 w w7 N v7 sh mp g bp d m gf 1 y dur h ∧ Ors w7 N v7 (ls ++ [rs]) ∧ Cov h y (h.length + 1) (ls ++ [rs])) := HAp.out v7 w7 o7 k7 hv7
        have HLs : Hid ((ls ++ [rs]).length ≤ 45 ∧ h.length ≤ 45) := ⟨by rw [List.length_append]; have := HS.out.2.2.2; show _ + 1 ≤ _; omega, by have := HS.out.2.2.2; omega⟩
        clear o7 k7 hv7 HAp HO1 HCb hub HS
        obtain ⟨q, lt, T, hl⟩ := HS7.out.1.s.lg
        have HLg : Hid (Lg w7 g bp d m gf 298 q 1 1 0 1 lt y (h.map wrS) dur T) := hl
        have HDi : Hid (Calls _ _ _ w7 _) := dirty_ok hl.pt
        clear hl
        go_wp2_with fail
        refine HDi.out.mono ?_
        rintro e9 wa ⟨v2, rfl, ka, is2⟩
        obtain ⟨p2, cc2, rfl, rz2, hp2⟩ := is2.rz
        obtain ⟨zs, hzs⟩ : ∃ zs, zs = dks T (2 + 298) := ⟨_, rfl⟩
        rw [← hzs] at rz2 is2
        obtain ⟨Z, hZ⟩ : ∃ Z, Z = zs.length := ⟨_, rfl⟩
        have HZ : Hid (zs = dks T (2 + 298) ∧ Z = zs.length ∧ Z ≤ 300) := ⟨hzs, hZ, by rw [hZ, hzs]; exact dks_len T (2 + 298)⟩
        rw [← hzs, ← hZ]
        have HKe : Hid (Calls _ _ _ wa _) := kept8_ok p2 Z cc2 zs mask wa hZ rz2 (by have := HZ.out; omega)
        have HKa : Hid (Kp (fun _ => False) w7 wa) := ka
        clear ka is2 rz2 hp2 hzs hZ HDi
        go_wp2_with fail
        refine HKe.out.mono ?_
        rintro e9 wb ⟨v3, ks, rfl, kb, is3, hin, hkl⟩
        obtain ⟨p3, cc3, rfl, rz3, hp3⟩ := is3.rz
        have HLb : Lg wb g bp d m gf 298 q 1 1 0 1 lt y (h.map wrS) dur T := (HLg.out.keep0 HKa.out).keep0 kb
        have HCr : Hid (Calls _ _ _ wb _) := lg_crash HLb p3 cc3 ks torn nn (fun w' k' => rz3.keep k' (fun a ha e => by have h1 := (hp3 a ha).1; have h2 := (HLg.out.keep0 HKa.out).blk; have e' : a.block = d := e; omega)) (fun z hz => by
          have := hin z hz
          rw [HZ.out.1] at this
          obtain ⟨j, hj, _, rfl⟩ := mem_dks.1 this
          exact wf_nat j (by omega)) HWt.out (by have := HZ.out; omega)
        have HKb : Hid (Kp (fun _ => False) w7 wb) := HKa.out.trans kb (fun _ _ e => e)
        obtain ⟨Z3, hZ3⟩ : ∃ Z, Z = ks.length := ⟨_, rfl⟩
        rw [← hZ3] at HCr
        rw [← hZ3]
        clear kb is3 hin hkl rz3 hp3 HLb HKe hZ3
        go_wp2_with fail
        refine HCr.out.mono ?_
        rintro e9 wc ⟨rfl, kc, lc, _⟩
        have HKc : Hid (Kp (fun x => x = d ∨ x = m) w7 wc) := (HKb.out.mono (fun _ _ e => e.elim)).trans kc (fun _ _ e => e)
        have HKcw : Hid (Kp (fun _ => False) w wc) := HS7.out.1.k.trans HKc.out (fun b hb e9 => by have e' : b = d ∨ b = m := e9; have := HS7.out.1.z; omega)
        obtain ⟨k9, hk1, hk2, hop⟩ := sopen_any lc (fun r hr => (HS7.out.1.sm r hr).1) (by have := HLs.out.2; omega) (by decide) (by decide) (fun j hj => HKcw.out.cellv (HT.out j hj) id)
        have HOp : Hid (Calls _ _ _ wc _) := hop
        obtain ⟨r0, hr0m, hr0⟩ := HS7.out.2.2 k9 hk1 (by omega)
        have HR0 : Hid (r0 ∈ ls ++ [rs] ∧ At8 h k9 r0) := ⟨hr0m, hr0⟩
        clear kc lc hk1 hk2 hop HCr hr0m hr0 HLg HZ HKa HKb
        go_wp2_with fail
        refine HOp.out.mono ?_
        rintro e9 we ⟨sh2, mp2, g2, gf2, dur2, N2, rfl, ke, _, hN2, s2⟩
        have HKe : Hid (Kp (fun _ => False) w we) := HKcw.out.trans ke (fun b hb e9 => by have e' : b = d ∨ b = m := e9; have := HS7.out.1.z; omega)
        have HSk : Hid (Sk we (fun x => N2 ≤ x) sh2 mp2 g2 (h.take k9)) := s2.sk
        have HLf : Hid (Calls _ _ _ we _) := slife_ok s2
        have hOr : Ors we N v7 (ls ++ [rs]) := (HS7.out.2.1.keep HKc.out HS7.out.1.dm).keep ke HS7.out.1.dm
        obtain ⟨pv, cv, hv7, hcells⟩ := hOr.form
        obtain ⟨ln2, hln2⟩ : ∃ n, n = (ls ++ [rs]).length := ⟨_, rfl⟩
        rw [← hln2] at hv7 hcells
        have HL2 : Hid (ln2 = (ls ++ [rs]).length ∧ ln2 ≤ 45) := ⟨hln2, by rw [hln2]; exact HLs.out.1⟩
        have HCe : Hid (∀ i, i < ln2 → ∃ g o q d, pv = some ⟨g, o, none⟩ ∧ we.cell? ⟨g, o + i, none⟩ = some (.slice q ((ls ++ [rs]).getD i []).length d) ∧ ((ls ++ [rs]).getD i []).length ≤ 1000 ∧ Hd we q ((ls ++ [rs]).getD i [])) := hcells
        subst hv7
        clear ke hN2 s2 HOp HKc HKcw HS7 HLs hOr hcells hln2
        go_wp2_with fail
        refine HLf.out.mono ?_
        rintro e9 w9 ⟨rfl, hw9⟩
        have hw8 := hw9.symm
        subst hw8
        clear hw9 HLf
        go_wp2_with fail
        obtain ⟨lsx, hlsx⟩ : ∃ l, l = ls ++ [rs] := ⟨_, rfl⟩
        rw [← hlsx] at HL2 HCe HR0
        clear hlsx
        go_loopg [109] ln2 (fun gk iv wr2 => ∃ j : Nat, j ≤ ln2 ∧ gk = ln2 - j ∧ iv = .int .i64 (j : Int) ∧ Hid (Kp (fun _ => False) we wr2 ∧ ∀ j', j' < j → ¬ (lsx.getD j' []).map keyR = r0.map keyR))
        case atStart => exact ⟨0, Nat.zero_le _, rfl, rfl, Kp.refl _ _, fun j' hj => absurd hj (Nat.not_lt_zero _)⟩
        case round =>
          obtain ⟨j, hj, rfl, rfl, HK2⟩ := hrel
          by_cases hlt9 : j < ln2
          · have hlt8 : (j : Int) < (ln2 : Int) := by omega
            obtain ⟨gO, oO, q, dO, hpv, hcq, hq1, hq2⟩ := HCe.out j hlt9
            subst hpv
            have x0 := HK2.out.1.cellv hcq id
            have HHd : Hid (Hd wr q (lsx.getD j []) ∧ (lsx.getD j []).length ≤ 1000) := ⟨hq2.keep0 HK2.out.1, hq1⟩
            have HHe : Hid (Calls _ _ _ wr _) := held_hd (HSk.out.keep HK2.out.1 id id (fun _ _ => id))
            obtain ⟨M1, hM1⟩ : ∃ M, M = (lsx.getD j []).length := ⟨_, rfl⟩
            rw [← hM1] at x0
            have HM1 : Hid (M1 = (lsx.getD j []).length) := hM1
            have hwj : wrap64 ((j : Int) + 1) = ((j + 1 : Nat) : Int) := by have := HL2.out; unfold wrap64; omega
            have HJ9 : Hid (j < ln2) := hlt9
            clear hcq hq1 hq2 hM1 hlt9
            go_wp2_with fail
            refine HHe.out.mono ?_
            rintro e9 wx ⟨px, cx, rx, ssx, rfl, kx, hzx, htx, hrx, hlx⟩
            obtain rfl : rx = r0 := hrx.trans (HR0.out.2.same htx).symm
            have HSm := sameHeld_hd (c1 := dO) (c2 := cx) (HHd.out.1.keep0 kx) hzx.hd ⟨Nat.le_trans HHd.out.2 (by decide), Nat.le_trans hlx (by decide)⟩
            rw [← HM1.out] at HSm
            have HKx : Hid (Kp (fun _ => False) wr wx) := kx
            obtain ⟨M2, hM2⟩ : ∃ M, M = rx.length := ⟨_, rfl⟩
            rw [← hM2] at HSm
            rw [← hM2]
            clear kx hzx htx hrx hlx HHe hM2 HHd HM1
            by_cases heq : (lsx.getD j []).map keyR = rx.map keyR
            · rw [decide_eq_true heq] at HSm
              have HS9 : Hid (Calls _ _ _ wx _) := HSm
              clear HSm heq
              go_wp2_with fail
              refine HS9.out.mono ?_
              rintro e9 wy ⟨rfl, ky⟩
              have HKf : Hid (Kp (fun _ => False) w wy) := ((HKe.out.trans HK2.out.1 (fun _ _ e => e)).trans HKx.out (fun _ _ e => e)).trans ky (fun _ _ e => e)
              clear ky HS9
              go_wp2
              go_ret
              exact ⟨rfl, HKf.out⟩
            · rw [decide_eq_false heq] at HSm
              have HS9 : Hid (Calls _ _ _ wx _) := HSm
              have HNe : Hid (¬ (lsx.getD j []).map keyR = rx.map keyR) := heq
              clear HSm heq
              go_wp2_with fail
              refine HS9.out.mono ?_
              rintro e9 wy ⟨rfl, ky⟩
              have HKf : Hid (Kp (fun _ => False) we wy) := (HK2.out.1.trans HKx.out (fun _ _ e => e)).trans ky (fun _ _ e => e)
              have HNn : Hid (∀ j', j' < j + 1 → ¬ (lsx.getD j' []).map keyR = rx.map keyR) := fun j' hj' => by
                by_cases e : j' = j
                · rw [e]; exact HNe.out
                · exact HK2.out.2 j' (Nat.lt_of_le_of_ne (Nat.le_of_lt_succ hj') e)
              clear ky HS9 HKx HK2 x0
              go_wp2
              go_roundg (ln2 - (j + 1))
              case rel => exact ⟨j + 1, HJ9.out, rfl, by first | rw [hwj] | (simp; done), HKf.out, HNn.out⟩
              case measure => exact Nat.sub_lt_sub_left HJ9.out (Nat.lt_succ_self j)
          · exfalso
            obtain ⟨idx, hi9, he9⟩ := List.getElem_of_mem HR0.out.1
            have h8 := HL2.out.1
            refine HK2.out.2 idx (by omega) ?_
            rw [List.getD_eq_getElem?_getD, List.getElem?_eq_getElem hi9, ← he9]
            rfl
      · have hbr2 : ¬ (40 : Int) < (i : Int) := by omega
        go_upto_region 10 with fail
        rw [← hw2, ← hh15]
        clear hw2 hh15 d0 d1 d2 d3 d4 d5 d6 d7 hlt2
        by_cases hat : (i : Int) = A
        · have HSy : Hid (Calls _ _ _ w2 _) := HS2.out.1.sync
          go_wp2_with fail
          refine HSy.out.mono ?_
          rintro e9 w3 ⟨rfl, k3, dur3, s3⟩
          have HS : Hid (S8 w w3 N (.slice none 0 0) sh mp g bp d m gf 1 h.length dur3 h ∧ Ors w3 N (.slice none 0 0) [] ∧ Cov h h.length h.length [] ∧ (h.length ≤ i ∧ ([] : List (List Rc)).length ≤ i)) := ⟨s3.give, Ors.nil _ _, fun j h1 h2 => by omega, HS2.out.2.2.2.1, Nat.zero_le _⟩
          have HB3 : Hid (Lv w3 h15 (#[.int .i64 op, .int .i64 bl, .int .i64 ix, .int .i64 ep, .int .i64 tn, .int .i64 n2, .slice pb M cb, .int .u64 mk] : Array Value).toList ∧ N ≤ h15 ∧ h15 < w3.heap.size) := ⟨HB2.out.1.keep k3 (HS2.out.1.dm h15 HB2.out.2.1), HB2.out.2.1, Nat.lt_of_lt_of_le HB2.out.2.2.1 k3.size⟩
          have HVn : Hid (∀ b, (Value.slice none 0 0).ownBlock = some b → ¬ b = h15) := fun b e => by cases e
          clear k3 s3 HSy HS2 HB2
          have HY : Hid (h.length ≤ h.length) := Nat.le_refl _
          have HHe : Hid (Calls _ _ _ w3 _) := HS.out.1.held
          go_wp2_with fail
          refine HHe.out.mono ?_
          rintro e9 ua ⟨pr, cr, rs, ss, rfl, ka, hz, hth, hrs, hrl⟩
          obtain ⟨R, hR⟩ : ∃ R, R = rs.length := ⟨_, rfl⟩
          obtain ⟨ub, hub⟩ : ∃ z, z = ua.alloc (.cells #[.slice pr R cr] 47) := ⟨_, rfl⟩
          have kb : Kp (fun _ => False) ua ub := by rw [hub]; exact (Kp.refl _ _).alloc _
          have kub : Kp (fun _ => False) w3 ub := ka.trans kb (fun _ _ e => e)
          have HCb : Hid (ub.cell? ⟨ua.heap.size, 0, none⟩ = some (.slice pr R cr)) := by rw [hub]; exact (show Lv _ _ [.slice pr R cr] from Lv.new ua _ _).cell (j := 0) rfl
          obtain ⟨vs, o1, o2, o3⟩ := HS.out.2.1
          obtain ⟨ln, hln⟩ : ∃ n, n = ([] : List (List Rc)).length := ⟨_, rfl⟩
          have HVb := HS.out.1.vb
          have HO1 : Hid (ub.ownsRow N 47 1 (Value.slice none 0 0) ln vs ∧ ln ≤ 45 ∧ N ≤ ub.heap.size) := ⟨by rw [hln]; exact ownsRow_keep o1 kub (fun _ _ e => e), by rw [hln]; have := HS.out.2.2.2; omega, (HS.out.1.keep0 kub).n⟩
          have HAp : Hid (∀ v' w', w'.ownsRow N 47 1 v' (ln + 1) (vs ++ [.slice pr R cr]) → Kp (fun b => ((Value.slice none 0 0)).ownBlock = some b) ub w' → (v'.ownBlock = ((Value.slice none 0 0)).ownBlock ∨ v'.ownBlock = some ub.heap.size) → S8 w w' N v' sh mp g bp d m gf 1 h.length dur3 h ∧ Ors w' N v' (([] : List (List Rc)) ++ [rs]) ∧ Cov h h.length (h.length + 1) (([] : List (List Rc)) ++ [rs])) := fun v' w' o7 k7 hv7 => by
            refine ⟨(HS.out.1.keep0 kub).row k7 hv7 (fun c hc => (ownBlock_lt o7 hc).2), Ors.app o2 o3 kub hrl ((hz.keep kb (fun _ _ e => e)).mono (fun b hb => ⟨Nat.le_trans HS.out.1.n hb.1, Nat.lt_of_lt_of_le hb.2 kb.size, fun e => by have := (HVb b e).2; have := hb.1; omega⟩)) (by rw [hR, hln] at o7; exact o7) k7 hv7, HS.out.2.2.1.add hth hrs⟩
          have HBu : Hid (Lv ub h15 (#[.int .i64 op, .int .i64 bl, .int .i64 ix, .int .i64 ep, .int .i64 tn, .int .i64 n2, .slice pb M cb, .int .u64 mk] : Array Value).toList ∧ N ≤ h15 ∧ h15 < ub.heap.size) := ⟨HB3.out.1.keep kub id, HB3.out.2.1, Nat.lt_of_lt_of_le HB3.out.2.2 kub.size⟩
          rw [← hR]
          clear ka hz hth hrs hrl kb kub o1 o2 o3 HHe HVb hR hln
          go_upto_region 15 with (refine wpList_append_hrow (ua.alloc (.cells #[.slice pr R cr] 47)) rfl _ _ rfl N (Value.slice none 0 0) ln vs (.slice pr R cr) ua.heap.size rfl (by rw [← hub]; exact HO1.out.1) rfl rfl (by rw [← hub]; exact HCb.out) (by have := HO1.out.2.1; omega) (by rw [← hub]; exact HO1.out.2.2) ?_; intro v7 w7 o7 k7 hv7; rw [← hub] at k7 hv7)
          have HS7 : Hid (S8 w w7 N v7 sh mp g bp d m gf 1 h.length dur3 h ∧ Ors w7 N v7 (([] : List (List Rc)) ++ [rs]) ∧ Cov h h.length (h.length + 1) (([] : List (List Rc)) ++ [rs])) := HAp.out v7 w7 o7 k7 hv7
          have HB7 : Hid (Lv w7 h15 (#[.int .i64 op, .int .i64 bl, .int .i64 ix, .int .i64 ep, .int .i64 tn, .int .i64 n2, .slice pb M cb, .int .u64 mk] : Array Value).toList ∧ N ≤ h15) := ⟨HBu.out.1.keep k7 (fun e => HVn.out _ e rfl), HBu.out.2.1⟩
          have HLs : Hid (h.length ≤ i ∧ (([] : List (List Rc)) ++ [rs]).length ≤ i + 1) := ⟨HS.out.2.2.2.1, by rw [List.length_append]; have := HS.out.2.2.2.2; show _ + 1 ≤ _; omega⟩
          clear o7 k7 hv7 HAp HO1 HCb hub HBu HB3 HS HVn
          have c0 := HB7.out.1.cell (j := 0) rfl
          have hop := tmod3b op
          obtain ⟨op3, hop3⟩ : ∃ x, x = op.tmod 3 := ⟨_, rfl⟩
          rw [← hop3] at hop
          have hop4 : op.tmod 3 = op3 := hop3.symm
          clear hop3
          have HEnd : Hid (∀ w8 h', Kp (SW sh mp g m gf) w7 w8 → (h' = h ∨ ∃ r, h' = h ++ [r]) → S8 w w8 N v7 sh mp g bp d m gf 1 h.length dur3 h' → S8 w w8 N v7 sh mp g bp d m gf 1 h.length dur3 h' ∧ Ors w8 N v7 (([] : List (List Rc)) ++ [rs]) ∧ Cov h' h.length h'.length (([] : List (List Rc)) ++ [rs]) ∧ (h'.length ≤ i + 1 ∧ (([] : List (List Rc)) ++ [rs]).length ≤ i + 1 ∧ h.length ≤ h'.length)) := fun w8 h' k8 hh s8 => by
            have h1 := HLs.out
            have h2 := HY.out
            have h3 : h.length ≤ h'.length ∧ h'.length ≤ h.length + 1 := by
              rcases hh with e | ⟨r, e⟩
              · rw [e]; omega
              · rw [e, List.length_append]; exact ⟨by omega, Nat.le_refl _⟩
            exact ⟨s8, HS7.out.2.1.keep k8 HS7.out.1.sw, HS7.out.2.2.put hh, by omega, h1.2, by omega⟩
          by_cases hz : op3 = 0
          · have hz1 : (op3 == (0 : Int)) = true := by rw [beq_iff_eq]; exact hz
            have c1 := HB7.out.1.cell (j := 1) rfl
            have c2 := HB7.out.1.cell (j := 2) rfl
            have HC : Hid (Calls _ _ _ w7 _) := HS7.out.1.drop (by have := HLs.out.1; omega) bl ix
            clear hz
            go_wp2_with fail
            refine HC.out.mono ?_
            rintro e9 w8 ⟨⟨q, rfl⟩, k8, h', hh, s8⟩
            have HE8 : Hid _ := HEnd.out w8 h' k8 hh s8
            have HJ : Hid (i < L) := HD.out.2.2
            clear k8 hh s8 HC HEnd HS7 HB7 HLs hz1 hop hop4 c0 c1 c2 HD
            go_wp2
            go_roundg (L - (i + 1))
            case rel => exact ⟨i + 1, h.length, dur3, h', ([] : List (List Rc)) ++ [rs], v7, by have := HJ.out; omega, by omega, rfl, rfl, by first | rw [hwi] | (simp; done) | (simp; exact hat.symm), HE8.out⟩
            case measure => have := HJ.out; omega
          · have hz1 : (op3 == (0 : Int)) = false := by rw [beq_eq_false_iff_ne]; exact hz
            obtain ⟨la, hla⟩ : ∃ la, la = min M 100 := ⟨_, rfl⟩
            have hmin : min (M : Int) 100 = (la : Int) := by rw [hla]; exact min100b M
            have hsl : ∀ z, (Instr.sliceAt 34 (.slice pb M cb) none (some (.int .i64 (la : Int))) none).run Tryz.prog z = .ok (.slice pb la cb) z := fun z => slice_firstA pb M cb la (by have := HD.out.1.lc; have := HD.out.2.1; omega) z
            have kd : Kp (fun _ => False) w7 { w7 with drawn := w7.drawn + 1 } := (Kp.refl _ _).drew
            have HC : Hid (Calls _ _ _ { w7 with drawn := w7.drawn + 1 } _) := (HS7.out.1.keep0 kd).store (by have := HLs.out.1; omega) bl ix ep pb la cb (xs.take la) (((HD.out.1.rb.keep0 HS7.out.1.k).keep0 kd).fst (m := la) (by have := HD.out.2.1; omega)) (by omega)
            have HKd : Hid (Kp (fun _ => False) w7 { w7 with drawn := w7.drawn + 1 }) := kd
            have l3 := HB7.out.1.keep kd id
            go_upto_region 17 with fail
            refine wp_region_still_tail 14 (by kernel_rfl) (by kernel_rfl) ?_
            obtain ⟨w3x, hw3x⟩ : ∃ x, x = { w7 with drawn := w7.drawn + 1 } := ⟨_, rfl⟩
            rw [← hw3x] at HC HKd l3 ⊢
            have e1 := l3.cell (j := 1) rfl
            have e2 := l3.cell (j := 2) rfl
            have e3 := l3.cell (j := 3) rfl
            have e6 := l3.cell (j := 6) rfl
            clear hw3x kd l3 hz hla c0
            simp only [List.take_succ_cons, List.take_zero, List.drop_succ_cons, List.drop_zero]
            iterate 14 still_step
            refine wpStill_nil ?_
            clear e1 e2 e3 e6
            go_wp2_with fail
            refine HC.out.mono ?_
            rintro e9 w8 ⟨⟨q, rfl⟩, k8, h', hh, s8⟩
            have HE8 : Hid _ := HEnd.out w8 h' ((HKd.out.mono (fun _ _ e => e.elim)).trans k8 (fun _ _ e => e)) hh s8
            have HJ : Hid (i < L) := HD.out.2.2
            clear k8 hh s8 HC HEnd HS7 HB7 HLs hz1 hop hop4 HD HKd hmin hsl
            go_wp2
            go_roundg (L - (i + 1))
            case rel => exact ⟨i + 1, h.length, dur3, h', ([] : List (List Rc)) ++ [rs], v7, by have := HJ.out; omega, by omega, rfl, rfl, by first | rw [hwi] | (simp; done) | (simp; exact hat.symm), HE8.out⟩
            case measure => have := HJ.out; omega
        · have HS : Hid (S8 w w2 N v sh mp g bp d m gf 1 y dur h ∧ Ors w2 N v ls ∧ Cov h y h.length ls ∧ (h.length ≤ i ∧ ls.length ≤ i)) := ⟨HS2.out.1, HS2.out.2.1, HS2.out.2.2.1, HS2.out.2.2.2.1, HS2.out.2.2.2.2.1⟩
          have HY : Hid (y ≤ h.length) := HS2.out.2.2.2.2.2
          have HB3 : Hid (Lv w2 h15 (#[.int .i64 op, .int .i64 bl, .int .i64 ix, .int .i64 ep, .int .i64 tn, .int .i64 n2, .slice pb M cb, .int .u64 mk] : Array Value).toList ∧ N ≤ h15 ∧ h15 < w2.heap.size) := ⟨HB2.out.1, HB2.out.2.1, HB2.out.2.2.1⟩
          have HVn : Hid (∀ b, v.ownBlock = some b → ¬ b = h15) := fun b e e2 => HB2.out.2.2.2 (by rw [← e2]; exact e)
          clear HS2 HB2
          have HHe : Hid (Calls _ _ _ w2 _) := HS.out.1.held
          go_wp2_with fail
          refine HHe.out.mono ?_
          rintro e9 ua ⟨pr, cr, rs, ss, rfl, ka, hz, hth, hrs, hrl⟩
          obtain ⟨R, hR⟩ : ∃ R, R = rs.length := ⟨_, rfl⟩
          obtain ⟨ub, hub⟩ : ∃ z, z = ua.alloc (.cells #[.slice pr R cr] 47) := ⟨_, rfl⟩
          have kb : Kp (fun _ => False) ua ub := by rw [hub]; exact (Kp.refl _ _).alloc _
          have kub : Kp (fun _ => False) w2 ub := ka.trans kb (fun _ _ e => e)
          have HCb : Hid (ub.cell? ⟨ua.heap.size, 0, none⟩ = some (.slice pr R cr)) := by rw [hub]; exact (show Lv _ _ [.slice pr R cr] from Lv.new ua _ _).cell (j := 0) rfl
          obtain ⟨vs, o1, o2, o3⟩ := HS.out.2.1
          obtain ⟨ln, hln⟩ : ∃ n, n = ls.length := ⟨_, rfl⟩
          have HVb := HS.out.1.vb
          have HO1 : Hid (ub.ownsRow N 47 1 v ln vs ∧ ln ≤ 45 ∧ N ≤ ub.heap.size) := ⟨by rw [hln]; exact ownsRow_keep o1 kub (fun _ _ e => e), by rw [hln]; have := HS.out.2.2.2; omega, (HS.out.1.keep0 kub).n⟩
          have HAp : Hid (∀ v' w', w'.ownsRow N 47 1 v' (ln + 1) (vs ++ [.slice pr R cr]) → Kp (fun b => (v).ownBlock = some b) ub w' → (v'.ownBlock = (v).ownBlock ∨ v'.ownBlock = some ub.heap.size) → S8 w w' N v' sh mp g bp d m gf 1 y dur h ∧ Ors w' N v' (ls ++ [rs]) ∧ Cov h y (h.length + 1) (ls ++ [rs])) := fun v' w' o7 k7 hv7 => by
            refine ⟨(HS.out.1.keep0 kub).row k7 hv7 (fun c hc => (ownBlock_lt o7 hc).2), Ors.app o2 o3 kub hrl ((hz.keep kb (fun _ _ e => e)).mono (fun b hb => ⟨Nat.le_trans HS.out.1.n hb.1, Nat.lt_of_lt_of_le hb.2 kb.size, fun e => by have := (HVb b e).2; have := hb.1; omega⟩)) (by rw [hR, hln] at o7; exact o7) k7 hv7, HS.out.2.2.1.add hth hrs⟩
          have HBu : Hid (Lv ub h15 (#[.int .i64 op, .int .i64 bl, .int .i64 ix, .int .i64 ep, .int .i64 tn, .int .i64 n2, .slice pb M cb, .int .u64 mk] : Array Value).toList ∧ N ≤ h15 ∧ h15 < ub.heap.size) := ⟨HB3.out.1.keep kub id, HB3.out.2.1, Nat.lt_of_lt_of_le HB3.out.2.2 kub.size⟩
          rw [← hR]
          clear ka hz hth hrs hrl kb kub o1 o2 o3 HHe HVb hR hln
          go_upto_region 15 with (refine wpList_append_hrow (ua.alloc (.cells #[.slice pr R cr] 47)) rfl _ _ rfl N v ln vs (.slice pr R cr) ua.heap.size rfl (by rw [← hub]; exact HO1.out.1) rfl rfl (by rw [← hub]; exact HCb.out) (by have := HO1.out.2.1; omega) (by rw [← hub]; exact HO1.out.2.2) ?_; intro v7 w7 o7 k7 hv7; rw [← hub] at k7 hv7)
          have HS7 : Hid (S8 w w7 N v7 sh mp g bp d m gf 1 y dur h ∧ Ors w7 N v7 (ls ++ [rs]) ∧ Cov h y (h.length + 1) (ls ++ [rs])) := HAp.out v7 w7 o7 k7 hv7
          have HB7 : Hid (Lv w7 h15 (#[.int .i64 op, .int .i64 bl, .int .i64 ix, .int .i64 ep, .int .i64 tn, .int .i64 n2, .slice pb M cb, .int .u64 mk] : Array Value).toList ∧ N ≤ h15) := ⟨HBu.out.1.keep k7 (fun e => HVn.out _ e rfl), HBu.out.2.1⟩
          have HLs : Hid (h.length ≤ i ∧ (ls ++ [rs]).length ≤ i + 1) := ⟨HS.out.2.2.2.1, by rw [List.length_append]; have := HS.out.2.2.2.2; show _ + 1 ≤ _; omega⟩
          clear o7 k7 hv7 HAp HO1 HCb hub HBu HB3 HS HVn
          have c0 := HB7.out.1.cell (j := 0) rfl
          have hop := tmod3b op
          obtain ⟨op3, hop3⟩ : ∃ x, x = op.tmod 3 := ⟨_, rfl⟩
          rw [← hop3] at hop
          have hop4 : op.tmod 3 = op3 := hop3.symm
          clear hop3
          have HEnd : Hid (∀ w8 h', Kp (SW sh mp g m gf) w7 w8 → (h' = h ∨ ∃ r, h' = h ++ [r]) → S8 w w8 N v7 sh mp g bp d m gf 1 y dur h' → S8 w w8 N v7 sh mp g bp d m gf 1 y dur h' ∧ Ors w8 N v7 (ls ++ [rs]) ∧ Cov h' y h'.length (ls ++ [rs]) ∧ (h'.length ≤ i + 1 ∧ (ls ++ [rs]).length ≤ i + 1 ∧ y ≤ h'.length)) := fun w8 h' k8 hh s8 => by
            have h1 := HLs.out
            have h2 := HY.out
            have h3 : h.length ≤ h'.length ∧ h'.length ≤ h.length + 1 := by
              rcases hh with e | ⟨r, e⟩
              · rw [e]; omega
              · rw [e, List.length_append]; exact ⟨by omega, Nat.le_refl _⟩
            exact ⟨s8, HS7.out.2.1.keep k8 HS7.out.1.sw, HS7.out.2.2.put hh, by omega, h1.2, by omega⟩
          by_cases hz : op3 = 0
          · have hz1 : (op3 == (0 : Int)) = true := by rw [beq_iff_eq]; exact hz
            have c1 := HB7.out.1.cell (j := 1) rfl
            have c2 := HB7.out.1.cell (j := 2) rfl
            have HC : Hid (Calls _ _ _ w7 _) := HS7.out.1.drop (by have := HLs.out.1; omega) bl ix
            clear hz
            go_wp2_with fail
            refine HC.out.mono ?_
            rintro e9 w8 ⟨⟨q, rfl⟩, k8, h', hh, s8⟩
            have HE8 : Hid _ := HEnd.out w8 h' k8 hh s8
            have HJ : Hid (i < L) := HD.out.2.2
            clear k8 hh s8 HC HEnd HS7 HB7 HLs hz1 hop hop4 c0 c1 c2 HD
            go_wp2
            go_roundg (L - (i + 1))
            case rel => exact ⟨i + 1, y, dur, h', ls ++ [rs], v7, by have := HJ.out; omega, by omega, rfl, rfl, by first | rw [hwi] | (simp; done) | (simp; exact hat.symm), HE8.out⟩
            case measure => have := HJ.out; omega
          · have hz1 : (op3 == (0 : Int)) = false := by rw [beq_eq_false_iff_ne]; exact hz
            obtain ⟨la, hla⟩ : ∃ la, la = min M 100 := ⟨_, rfl⟩
            have hmin : min (M : Int) 100 = (la : Int) := by rw [hla]; exact min100b M
            have hsl : ∀ z, (Instr.sliceAt 34 (.slice pb M cb) none (some (.int .i64 (la : Int))) none).run Tryz.prog z = .ok (.slice pb la cb) z := fun z => slice_firstA pb M cb la (by have := HD.out.1.lc; have := HD.out.2.1; omega) z
            have kd : Kp (fun _ => False) w7 { w7 with drawn := w7.drawn + 1 } := (Kp.refl _ _).drew
            have HC : Hid (Calls _ _ _ { w7 with drawn := w7.drawn + 1 } _) := (HS7.out.1.keep0 kd).store (by have := HLs.out.1; omega) bl ix ep pb la cb (xs.take la) (((HD.out.1.rb.keep0 HS7.out.1.k).keep0 kd).fst (m := la) (by have := HD.out.2.1; omega)) (by omega)
            have HKd : Hid (Kp (fun _ => False) w7 { w7 with drawn := w7.drawn + 1 }) := kd
            have l3 := HB7.out.1.keep kd id
            go_upto_region 17 with fail
            refine wp_region_still_tail 14 (by kernel_rfl) (by kernel_rfl) ?_
            obtain ⟨w3x, hw3x⟩ : ∃ x, x = { w7 with drawn := w7.drawn + 1 } := ⟨_, rfl⟩
            rw [← hw3x] at HC HKd l3 ⊢
            have e1 := l3.cell (j := 1) rfl
            have e2 := l3.cell (j := 2) rfl
            have e3 := l3.cell (j := 3) rfl
            have e6 := l3.cell (j := 6) rfl
            clear hw3x kd l3 hz hla c0
            simp only [List.take_succ_cons, List.take_zero, List.drop_succ_cons, List.drop_zero]
            iterate 14 still_step
            refine wpStill_nil ?_
            clear e1 e2 e3 e6
            go_wp2_with fail
            refine HC.out.mono ?_
            rintro e9 w8 ⟨⟨q, rfl⟩, k8, h', hh, s8⟩
            have HE8 : Hid _ := HEnd.out w8 h' ((HKd.out.mono (fun _ _ e => e.elim)).trans k8 (fun _ _ e => e)) hh s8
            have HJ : Hid (i < L) := HD.out.2.2
            clear k8 hh s8 HC HEnd HS7 HB7 HLs hz1 hop hop4 HD HKd hmin hsl
            go_wp2
            go_roundg (L - (i + 1))
            case rel => exact ⟨i + 1, y, dur, h', ls ++ [rs], v7, by have := HJ.out; omega, by omega, rfl, rfl, by first | rw [hwi] | (simp; done) | (simp; exact hat.symm), HE8.out⟩
            case measure => have := HJ.out; omega
    · have hiL : i = L := by omega
      subst hiL
      have hlt2 : ¬ ((i : Int) < (i : Int)) := by omega
      have HS2 := HK
      clear HK
      have HS : Hid (S8 w wr N v sh mp g bp d m gf 1 y dur h ∧ Ors wr N v ls ∧ Cov h y h.length ls ∧ (h.length ≤ i ∧ ls.length ≤ i)) := ⟨HS2.out.1, HS2.out.2.1, HS2.out.2.2.1, HS2.out.2.2.2.1, HS2.out.2.2.2.2.1⟩
      clear HS2
      have HHe : Hid (Calls _ _ _ wr _) := HS.out.1.held
      go_wp2_with fail
      refine HHe.out.mono ?_
      rintro e9 ua ⟨pr, cr, rs, ss, rfl, ka, hz, hth, hrs, hrl⟩
      obtain ⟨R, hR⟩ : ∃ R, R = rs.length := ⟨_, rfl⟩
      obtain ⟨ub, hub⟩ : ∃ z, z = ua.alloc (.cells #[.slice pr R cr] 47) := ⟨_, rfl⟩
      have kb : Kp (fun _ => False) ua ub := by rw [hub]; exact (Kp.refl _ _).alloc _
      have kub : Kp (fun _ => False) wr ub := ka.trans kb (fun _ _ e => e)
      have HCb : Hid (ub.cell? ⟨ua.heap.size, 0, none⟩ = some (.slice pr R cr)) := by rw [hub]; exact (show Lv _ _ [.slice pr R cr] from Lv.new ua _ _).cell (j := 0) rfl
      obtain ⟨vs, o1, o2, o3⟩ := HS.out.2.1
      obtain ⟨ln, hln⟩ : ∃ n, n = ls.length := ⟨_, rfl⟩
      have HVb := HS.out.1.vb
      have HO1 : Hid (ub.ownsRow N 47 1 v ln vs ∧ ln ≤ 45 ∧ N ≤ ub.heap.size) := ⟨by rw [hln]; exact ownsRow_keep o1 kub (fun _ _ e => e), by rw [hln]; have := HS.out.2.2.2; omega, (HS.out.1.keep0 kub).n⟩
      have HAp : Hid (∀ v' w', w'.ownsRow N 47 1 v' (ln + 1) (vs ++ [.slice pr R cr]) → Kp (fun b => (v).ownBlock = some b) ub w' → (v'.ownBlock = (v).ownBlock ∨ v'.ownBlock = some ub.heap.size) → S8 w w' N v' sh mp g bp d m gf 1 y dur h ∧ Ors w' N v' (ls ++ [rs]) ∧ Cov h y (h.length + 1) (ls ++ [rs])) := fun v' w' o7 k7 hv7 => by
        refine ⟨(HS.out.1.keep0 kub).row k7 hv7 (fun c hc => (ownBlock_lt o7 hc).2), Ors.app o2 o3 kub hrl ((hz.keep kb (fun _ _ e => e)).mono (fun b hb => ⟨Nat.le_trans HS.out.1.n hb.1, Nat.lt_of_lt_of_le hb.2 kb.size, fun e => by have := (HVb b e).2; have := hb.1; omega⟩)) (by rw [hR, hln] at o7; exact o7) k7 hv7, HS.out.2.2.1.add hth hrs⟩
      rw [← hR]
      clear ka hz hth hrs hrl kb kub o1 o2 o3 HHe HVb hR hln
      go_upto_region 20 with (refine wpList_append_hrow (ua.alloc (.cells #[.slice pr R cr] 47)) rfl _ _ rfl N v ln vs (.slice pr R cr) ua.heap.size rfl (by rw [← hub]; exact HO1.out.1) rfl rfl (by rw [← hub]; exact HCb.out) (by have := HO1.out.2.1; omega) (by rw [← hub]; exact HO1.out.2.2) ?_; intro v7 w7 o7 k7 hv7; rw [← hub] at k7 hv7)
      have HS7 : Hid (S8 w w7 N v7 sh mp g bp d m gf 1 y dur h ∧ Ors w7 N v7 (ls ++ [rs]) ∧ Cov h y (h.length + 1) (ls ++ [rs])) := HAp.out v7 w7 o7 k7 hv7
      have HLs : Hid ((ls ++ [rs]).length ≤ 45 ∧ h.length ≤ 45) := ⟨by rw [List.length_append]; have := HS.out.2.2.2; show _ + 1 ≤ _; omega, by have := HS.out.2.2.2; omega⟩
      clear o7 k7 hv7 HAp HO1 HCb hub HS
      obtain ⟨q, lt, T, hl⟩ := HS7.out.1.s.lg
      have HLg : Hid (Lg w7 g bp d m gf 298 q 1 1 0 1 lt y (h.map wrS) dur T) := hl
      have HDi : Hid (Calls _ _ _ w7 _) := dirty_ok hl.pt
      clear hl
      go_wp2_with fail
      refine HDi.out.mono ?_
      rintro e9 wa ⟨v2, rfl, ka, is2⟩
      obtain ⟨p2, cc2, rfl, rz2, hp2⟩ := is2.rz
      obtain ⟨zs, hzs⟩ : ∃ zs, zs = dks T (2 + 298) := ⟨_, rfl⟩
      rw [← hzs] at rz2 is2
      obtain ⟨Z, hZ⟩ : ∃ Z, Z = zs.length := ⟨_, rfl⟩
      have HZ : Hid (zs = dks T (2 + 298) ∧ Z = zs.length ∧ Z ≤ 300) := ⟨hzs, hZ, by rw [hZ, hzs]; exact dks_len T (2 + 298)⟩
      rw [← hzs, ← hZ]
      have HKe : Hid (Calls _ _ _ wa _) := kept8_ok p2 Z cc2 zs mask wa hZ rz2 (by have := HZ.out; omega)
      have HKa : Hid (Kp (fun _ => False) w7 wa) := ka
      clear ka is2 rz2 hp2 hzs hZ HDi
      go_wp2_with fail
      refine HKe.out.mono ?_
      rintro e9 wb ⟨v3, ks, rfl, kb, is3, hin, hkl⟩
      obtain ⟨p3, cc3, rfl, rz3, hp3⟩ := is3.rz
      have HLb : Lg wb g bp d m gf 298 q 1 1 0 1 lt y (h.map wrS) dur T := (HLg.out.keep0 HKa.out).keep0 kb
      have HCr : Hid (Calls _ _ _ wb _) := lg_crash HLb p3 cc3 ks torn nn (fun w' k' => rz3.keep k' (fun a ha e => by have h1 := (hp3 a ha).1; have h2 := (HLg.out.keep0 HKa.out).blk; have e' : a.block = d := e; omega)) (fun z hz => by
        have := hin z hz
        rw [HZ.out.1] at this
        obtain ⟨j, hj, _, rfl⟩ := mem_dks.1 this
        exact wf_nat j (by omega)) HWt.out (by have := HZ.out; omega)
      have HKb : Hid (Kp (fun _ => False) w7 wb) := HKa.out.trans kb (fun _ _ e => e)
      obtain ⟨Z3, hZ3⟩ : ∃ Z, Z = ks.length := ⟨_, rfl⟩
      rw [← hZ3] at HCr
      rw [← hZ3]
      clear kb is3 hin hkl rz3 hp3 HLb HKe hZ3
      go_wp2_with fail
      refine HCr.out.mono ?_
      rintro e9 wc ⟨rfl, kc, lc, _⟩
      have HKc : Hid (Kp (fun x => x = d ∨ x = m) w7 wc) := (HKb.out.mono (fun _ _ e => e.elim)).trans kc (fun _ _ e => e)
      have HKcw : Hid (Kp (fun _ => False) w wc) := HS7.out.1.k.trans HKc.out (fun b hb e9 => by have e' : b = d ∨ b = m := e9; have := HS7.out.1.z; omega)
      obtain ⟨k9, hk1, hk2, hop⟩ := sopen_any lc (fun r hr => (HS7.out.1.sm r hr).1) (by have := HLs.out.2; omega) (by decide) (by decide) (fun j hj => HKcw.out.cellv (HT.out j hj) id)
      have HOp : Hid (Calls _ _ _ wc _) := hop
      obtain ⟨r0, hr0m, hr0⟩ := HS7.out.2.2 k9 hk1 (by omega)
      have HR0 : Hid (r0 ∈ ls ++ [rs] ∧ At8 h k9 r0) := ⟨hr0m, hr0⟩
      clear kc lc hk1 hk2 hop HCr hr0m hr0 HLg HZ HKa HKb
      go_wp2_with fail
      refine HOp.out.mono ?_
      rintro e9 we ⟨sh2, mp2, g2, gf2, dur2, N2, rfl, ke, _, hN2, s2⟩
      have HKe : Hid (Kp (fun _ => False) w we) := HKcw.out.trans ke (fun b hb e9 => by have e' : b = d ∨ b = m := e9; have := HS7.out.1.z; omega)
      have HSk : Hid (Sk we (fun x => N2 ≤ x) sh2 mp2 g2 (h.take k9)) := s2.sk
      have HLf : Hid (Calls _ _ _ we _) := slife_ok s2
      have hOr : Ors we N v7 (ls ++ [rs]) := (HS7.out.2.1.keep HKc.out HS7.out.1.dm).keep ke HS7.out.1.dm
      obtain ⟨pv, cv, hv7, hcells⟩ := hOr.form
      obtain ⟨ln2, hln2⟩ : ∃ n, n = (ls ++ [rs]).length := ⟨_, rfl⟩
      rw [← hln2] at hv7 hcells
      have HL2 : Hid (ln2 = (ls ++ [rs]).length ∧ ln2 ≤ 45) := ⟨hln2, by rw [hln2]; exact HLs.out.1⟩
      have HCe : Hid (∀ i, i < ln2 → ∃ g o q d, pv = some ⟨g, o, none⟩ ∧ we.cell? ⟨g, o + i, none⟩ = some (.slice q ((ls ++ [rs]).getD i []).length d) ∧ ((ls ++ [rs]).getD i []).length ≤ 1000 ∧ Hd we q ((ls ++ [rs]).getD i [])) := hcells
      subst hv7
      clear ke hN2 s2 HOp HKc HKcw HS7 HLs hOr hcells hln2
      go_wp2_with fail
      refine HLf.out.mono ?_
      rintro e9 w9 ⟨rfl, hw9⟩
      have hw8 := hw9.symm
      subst hw8
      clear hw9 HLf
      go_wp2_with fail
      obtain ⟨lsx, hlsx⟩ : ∃ l, l = ls ++ [rs] := ⟨_, rfl⟩
      rw [← hlsx] at HL2 HCe HR0
      clear hlsx
      go_loopg [109] ln2 (fun gk iv wr2 => ∃ j : Nat, j ≤ ln2 ∧ gk = ln2 - j ∧ iv = .int .i64 (j : Int) ∧ Hid (Kp (fun _ => False) we wr2 ∧ ∀ j', j' < j → ¬ (lsx.getD j' []).map keyR = r0.map keyR))
      case atStart => exact ⟨0, Nat.zero_le _, rfl, rfl, Kp.refl _ _, fun j' hj => absurd hj (Nat.not_lt_zero _)⟩
      case round =>
        obtain ⟨j, hj, rfl, rfl, HK2⟩ := hrel
        by_cases hlt9 : j < ln2
        · have hlt8 : (j : Int) < (ln2 : Int) := by omega
          obtain ⟨gO, oO, q, dO, hpv, hcq, hq1, hq2⟩ := HCe.out j hlt9
          subst hpv
          have x0 := HK2.out.1.cellv hcq id
          have HHd : Hid (Hd wr q (lsx.getD j []) ∧ (lsx.getD j []).length ≤ 1000) := ⟨hq2.keep0 HK2.out.1, hq1⟩
          have HHe : Hid (Calls _ _ _ wr _) := held_hd (HSk.out.keep HK2.out.1 id id (fun _ _ => id))
          obtain ⟨M1, hM1⟩ : ∃ M, M = (lsx.getD j []).length := ⟨_, rfl⟩
          rw [← hM1] at x0
          have HM1 : Hid (M1 = (lsx.getD j []).length) := hM1
          have hwj : wrap64 ((j : Int) + 1) = ((j + 1 : Nat) : Int) := by have := HL2.out; unfold wrap64; omega
          have HJ9 : Hid (j < ln2) := hlt9
          clear hcq hq1 hq2 hM1 hlt9
          go_wp2_with fail
          refine HHe.out.mono ?_
          rintro e9 wx ⟨px, cx, rx, ssx, rfl, kx, hzx, htx, hrx, hlx⟩
          obtain rfl : rx = r0 := hrx.trans (HR0.out.2.same htx).symm
          have HSm := sameHeld_hd (c1 := dO) (c2 := cx) (HHd.out.1.keep0 kx) hzx.hd ⟨Nat.le_trans HHd.out.2 (by decide), Nat.le_trans hlx (by decide)⟩
          rw [← HM1.out] at HSm
          have HKx : Hid (Kp (fun _ => False) wr wx) := kx
          obtain ⟨M2, hM2⟩ : ∃ M, M = rx.length := ⟨_, rfl⟩
          rw [← hM2] at HSm
          rw [← hM2]
          clear kx hzx htx hrx hlx HHe hM2 HHd HM1
          by_cases heq : (lsx.getD j []).map keyR = rx.map keyR
          · rw [decide_eq_true heq] at HSm
            have HS9 : Hid (Calls _ _ _ wx _) := HSm
            clear HSm heq
            go_wp2_with fail
            refine HS9.out.mono ?_
            rintro e9 wy ⟨rfl, ky⟩
            have HKf : Hid (Kp (fun _ => False) w wy) := ((HKe.out.trans HK2.out.1 (fun _ _ e => e)).trans HKx.out (fun _ _ e => e)).trans ky (fun _ _ e => e)
            clear ky HS9
            go_wp2
            go_ret
            exact ⟨rfl, HKf.out⟩
          · rw [decide_eq_false heq] at HSm
            have HS9 : Hid (Calls _ _ _ wx _) := HSm
            have HNe : Hid (¬ (lsx.getD j []).map keyR = rx.map keyR) := heq
            clear HSm heq
            go_wp2_with fail
            refine HS9.out.mono ?_
            rintro e9 wy ⟨rfl, ky⟩
            have HKf : Hid (Kp (fun _ => False) we wy) := (HK2.out.1.trans HKx.out (fun _ _ e => e)).trans ky (fun _ _ e => e)
            have HNn : Hid (∀ j', j' < j + 1 → ¬ (lsx.getD j' []).map keyR = rx.map keyR) := fun j' hj' => by
              by_cases e : j' = j
              · rw [e]; exact HNe.out
              · exact HK2.out.2 j' (Nat.lt_of_le_of_ne (Nat.le_of_lt_succ hj') e)
            clear ky HS9 HKx HK2 x0
            go_wp2
            go_roundg (ln2 - (j + 1))
            case rel => exact ⟨j + 1, HJ9.out, rfl, by first | rw [hwj] | (simp; done), HKf.out, HNn.out⟩
            case measure => exact Nat.sub_lt_sub_left HJ9.out (Nat.lt_succ_self j)
        · exfalso
          obtain ⟨idx, hi9, he9⟩ := List.getElem_of_mem HR0.out.1
          have h8 := HL2.out.1
          refine HK2.out.2 idx (by omega) ?_
          rw [List.getD_eq_getElem?_getD, List.getElem?_eq_getElem hi9, ← he9]
          rfl
end Go.Proofs.YtmooddbhcccicaaGreatDoor
