/- Regions that draw their order, whose operations that change the world stand in a chain; calls may give up. -/
import Derived.Test.YtippipeebkkghaaGreatDoorWp
namespace Go.Proofs.YtippipeebkkghaaGreatDoor
set_option linter.unusedVariables false
open Go.RowKit Go.Deep

section
variable {P : Program} {ops : Array Oper} {Q : Exit → Act → World → Prop}
/-- a call, by its contract: it answers, or it gives up -/
theorem wp_enterP {o : Oper} {a : Act} {w : World} {K : Act → World → Prop} {f : FuncId} {args : Array Value} {R : Ending → World → Prop} (hrun : (execOp a.eval o).run P w = .ok (.enter f args) w) (hc : Calls P f args w R)
    (h : ∀ e w', R e w' → (∃ v, e = .returned v ∧ K (a.put o.dst v) w') ∨ ∃ c, e = .panicked c ∧ Q (.panic c) a w') : Oper.wp P o a w K Q := by
  unfold Oper.wp
  rw [hrun, Oper.upon_enter]
  refine hc.mono ?_
  intro e w' hR
  rcases h e w' hR with ⟨v, rfl, hk⟩ | ⟨c, rfl, hq⟩
  · exact hk
  · exact hq
/-- the parts of a region in a chain: n slots, B of the acts, R of what is yielded, D where it lies, pos who stands where in the chain of N, W of the world behind so many of it -/
structure Chn where
  n : Nat
  B : Act → Prop
  R : Nat → Value → World → Prop
  D : Nat → Nat
  pos : Nat → Option Nat
  N : Nat
  W : Nat → World → Prop
  T : List (Oper × List Nat)
/-- what must be shown of the k-th operation -/
def Chn.Step (c : Chn) (P : Program) (Q : Exit → Act → World → Prop) (k : Nat) (o : Oper) (l : List Nat) : Prop :=
  (o.dst = some (c.D k) ∧ c.D k < c.n ∨ o.dst = none ∧ c.n ≤ c.D k ∧ ∀ v w, c.R k v w) ∧ (∀ j ∈ l, j < k) ∧
  (∀ j b, o.guard = some (j, b) → j ∈ l ∧ c.D j < c.n ∧ (∀ v w, c.R j v w → ∃ d : Bool, v = .bool d) ∧ (∀ w, c.R j (.bool !b) w → c.R k undef w ∧ ∀ p, c.pos k = some p → c.W p w → c.W (p + 1) w)) ∧
  (match c.pos k with
    | none => ∀ (a : Act) (w : World) (m : Nat), a.tmps.size = c.n → c.B a → m ≤ c.N → c.W m w → (∀ j ∈ l, ∀ p, c.pos j = some p → p < m) → (∀ i ol, c.T[i]? = some ol → k ∈ ol.2 → ∀ p, c.pos i = some p → m ≤ p) → (∀ j ∈ l, c.R j (a.eval (.tmp (c.D j))) w) → (∀ j b, o.guard = some (j, b) → c.R j (.bool b) w) →
        ∀ K : Act → World → Prop, Shut (∀ v w', Kp (fun _ => False) w w' → c.R k v w' → K (a.put o.dst v) w') → Oper.wp P o a w K Q
    | some p => (∀ q, p = q + 1 → ∃ j ∈ l, c.pos j = some q) ∧ p < c.N ∧ ∀ (a : Act) (w : World), a.tmps.size = c.n → c.B a → c.W p w → (∀ j ∈ l, c.R j (a.eval (.tmp (c.D j))) w) → (∀ j b, o.guard = some (j, b) → c.R j (.bool b) w) →
        ∀ K : Act → World → Prop, Shut (∀ v w', c.W (p + 1) w' → (∀ i u, i ≠ k → c.R i u w → c.R i u w') → c.R k v w' → K (a.put o.dst v) w') → Oper.wp P o a w K Q)
def Chn.Steps (c : Chn) (P : Program) (Q : Exit → Act → World → Prop) : Nat → List (Oper × List Nat) → Prop
  | _, [] => True
  | k, (o, l) :: t => c.Step P Q k o l ∧ c.Steps P Q (k + 1) t
theorem Chn.Steps.get {c : Chn} : ∀ (t : List (Oper × List Nat)) (k i : Nat) (o : Oper) (l : List Nat), c.Steps P Q k t → t[i]? = some (o, l) → c.Step P Q (k + i) o l
  | [], _, _, _, _, _, h => by simp at h
  | x :: t, k, 0, o, l, h, hi => by
    simp at hi
    subst hi
    exact h.1
  | x :: t, k, i + 1, o, l, h, hi => by
    have := Chn.Steps.get t (k + 1) i o l h.2 (by simpa using hi)
    rw [show k + (i + 1) = k + 1 + i by omega]
    exact this
theorem eval_past (a : Act) (t : Nat) (h : a.tmps.size ≤ t) : a.eval (.tmp t) = undef := by
  show a.tmps.getD t undef = undef
  simp [Array.getElem?_eq_none h]
theorem chain_region (c : Chn) {id : Nat} {a0 : Act} {y : World} (hm : P.follows .mixedOrders = true) (hT : ops.toList.map (fun o => (bare o, deps o)) = c.T) (hn : a0.tmps.size = c.n) (hB : c.B a0)
    (hBp : ∀ k v a, k < c.T.length → c.D k < c.n → c.B a → c.B (a.put (some (c.D k)) v))
    (hD : ∀ i j, i < c.T.length → j < c.T.length → c.D i = c.D j → i = j)
    (hp : ∀ i j p, i < c.T.length → j < c.T.length → c.pos i = some p → c.pos j = some p → i = j)
    (hN : ∀ p, p < c.N → ∃ i, i < c.T.length ∧ c.pos i = some p)
    (hW : c.W 0 y.drew)
    (hWk : ∀ m w w', Kp (fun _ => False) w w' → c.W m w → c.W m w')
    (hRk : ∀ i v w w', Kp (fun _ => False) w w' → c.R i v w → c.R i v w')
    (hs : c.Steps P Q 0 c.T)
    (hend : ∀ a w, a.tmps.size = c.n → c.B a → (∀ t, (∀ k, k < c.T.length → c.D k ≠ t) → a.eval (.tmp t) = a0.eval (.tmp t)) → c.W c.N w → (∀ i, i < c.T.length → c.R i (a.eval (.tmp (c.D i))) w) → Q .normal a w) :
    (Code.region id ops true).wp P Q a0 y := by
  have hTl : c.T.length = ops.size := by rw [← hT]; simp
  have hTi : ∀ (i : Nat) (o : Oper), ops[i]? = some o → c.T[i]? = some (bare o, deps o) := fun i o ho => by
    rw [← hT, List.getElem?_map]
    simp [ho]
  have hst : ∀ (i : Nat) (o : Oper), ops[i]? = some o → c.Step P Q i (bare o) (deps o) := fun i o ho => by
    have := Chn.Steps.get c.T 0 i _ _ hs (hTi i o ho)
    rwa [Nat.zero_add] at this
  refine wp_region_held_drew (S := fun _ => True) hm trivial (fun _ => ?_)
  refine wpAnyH_inv (fun listed a w => a.tmps.size = c.n ∧ (c.B a ∧ ∀ t, (∀ k, k < c.T.length → c.D k ≠ t) → a.eval (.tmp t) = a0.eval (.tmp t)) ∧ listed.size = ops.size ∧ (∃ m, m ≤ c.N ∧ c.W m w ∧ ∀ i, i < ops.size → ∀ p, c.pos i = some p → (listed.getD i false = true ↔ p < m)) ∧ (∀ i o, ops[i]? = some o → listed.getD i false = true → ∀ j ∈ deps o, listed.getD j false = true) ∧ ∀ i, i < ops.size → listed.getD i false = true → c.R i (a.eval (.tmp (c.D i))) w) ?_ ?_ _ _ _ _ ?_ ?_
  · rintro listed a w i ⟨h1, h2, h3, ⟨m, hmN, hWm, hmp⟩, hcl, h5⟩ hi
    obtain ⟨hu, o, ho, hall⟩ := mem_ready.1 hi
    have hlt := (Array.getElem?_eq_some_iff.1 ho).1
    have hul : listed.getD i false = false := by
      have hsz : i < listed.size := by omega
      simpa [hsz] using hu
    obtain ⟨hdo, hj, hg, hw⟩ := hst i o ho
    unfold wpOp
    rw [ho]
    dsimp only
    have hlist : ∀ j ∈ deps o, j < ops.size ∧ listed.getD j false = true := fun j hjl => by
      have hjlt := hj j hjl
      obtain ⟨e, he, rfl⟩ := List.mem_map.1 hjl
      obtain ⟨he1, he2⟩ := List.mem_filter.1 he
      exact ⟨Nat.lt_trans hjlt hlt, hall e (by simpa using he1) he2⟩
    have hdep : ∀ j ∈ deps o, c.R j (a.eval (.tmp (c.D j))) w := fun j hjl => h5 j (hlist j hjl).1 (hlist j hjl).2
    have hdm : ∀ j ∈ deps o, ∀ p, c.pos j = some p → p < m := fun j hjl p hp2 => (hmp j (hlist j hjl).1 p hp2).1 (hlist j hjl).2
    have hset : ∀ j, j ≠ i → (listed.setIfInBounds i true).getD j false = listed.getD j false := fun j hji => by
      simp [Array.getElem?_setIfInBounds_ne (fun e => hji e.symm)]
    have hseti : (listed.setIfInBounds i true).getD i false = true := by
      have hsz : i < listed.size := by omega
      simp [hsz]
    have hmono : ∀ j, listed.getD j false = true → (listed.setIfInBounds i true).getD j false = true := fun j hj2 => by
      by_cases e : j = i
      · rw [e]; exact hseti
      · rw [hset j e]; exact hj2
    have hcl' : ∀ i' o', ops[i']? = some o' → (listed.setIfInBounds i true).getD i' false = true → ∀ j ∈ deps o', (listed.setIfInBounds i true).getD j false = true := fun i' o' ho' hl' j hj2 => by
      by_cases e : i' = i
      · subst e
        rw [ho] at ho'
        cases ho'
        exact hmono j (hlist j hj2).2
      · rw [hset i' e] at hl'
        exact hmono j (hcl i' o' ho' hl' j hj2)
    have hup : ∀ i' ol, c.T[i']? = some ol → i ∈ ol.2 → ∀ p, c.pos i' = some p → m ≤ p := fun i' ol hol hmem p hp2 => by
      have hlt' : i' < ops.size := by rw [← hTl]; exact (List.getElem?_eq_some_iff.1 hol).1
      have ho' := Array.getElem?_eq_getElem hlt'
      have h9 := hTi i' _ ho'
      rw [hol] at h9
      injection h9 with h9
      subst h9
      rcases Nat.lt_or_ge p m with h8 | h8
      · have := hcl i' _ ho' ((hmp i' hlt' p hp2).2 h8) i hmem
        rw [hul] at this
        cases this
      · exact h8
    have hout : ∀ v w' m', m' ≤ c.N → c.W m' w' → (∀ j, j < ops.size → ∀ p, c.pos j = some p → ((listed.setIfInBounds i true).getD j false = true ↔ p < m')) → (∀ j u, j ≠ i → c.R j u w → c.R j u w') → c.R i v w' → (o.dst = none ∨ o.dst = some (c.D i)) →
        (a.put o.dst v).tmps.size = c.n ∧ (c.B (a.put o.dst v) ∧ ∀ t, (∀ k, k < c.T.length → c.D k ≠ t) → (a.put o.dst v).eval (.tmp t) = a0.eval (.tmp t)) ∧ (listed.setIfInBounds i true).size = ops.size ∧ (∃ m, m ≤ c.N ∧ c.W m w' ∧ ∀ i', i' < ops.size → ∀ p, c.pos i' = some p → ((listed.setIfInBounds i true).getD i' false = true ↔ p < m)) ∧ (∀ i' o', ops[i']? = some o' → (listed.setIfInBounds i true).getD i' false = true → ∀ j ∈ deps o', (listed.setIfInBounds i true).getD j false = true) ∧ ∀ j, j < ops.size → (listed.setIfInBounds i true).getD j false = true → c.R j ((a.put o.dst v).eval (.tmp (c.D j))) w' := by
      intro v w' m' hm' hW' hpos hRs hv hdst
      rcases hdo with ⟨hd1, hd2⟩ | ⟨hd1, hd2, hd3⟩
      · have hd1' : o.dst = some (c.D i) := hd1
        obtain ⟨p1, p2, p3, p4⟩ := act_put a (c.D i) v (by rw [h1]; exact hd2)
        rw [hd1']
        refine ⟨p1.trans h1, ⟨hBp i v a (by omega) hd2 h2.1, fun t ht => by rw [p4 t (fun e => ht i (by omega) e.symm)]; exact h2.2 t ht⟩, by rw [Array.size_setIfInBounds]; exact h3, ⟨m', hm', hW', hpos⟩, hcl', fun j hjs hl => ?_⟩
        by_cases e : i = j
        · subst e
          rw [p3]
          exact hv
        · rw [p4 (c.D j) (fun h => e (hD i j (by omega) (by omega) h.symm))]
          rw [hset j (fun h => e h.symm)] at hl
          exact hRs _ _ (fun h => e h.symm) (h5 j hjs hl)
      · have hd1' : o.dst = none := hd1
        rw [hd1']
        show a.tmps.size = _ ∧ (c.B a ∧ ∀ t, _ → a.eval _ = _) ∧ _ ∧ _ ∧ _ ∧ ∀ j, _ → _ → c.R j (a.eval _) w'
        refine ⟨h1, h2, by rw [Array.size_setIfInBounds]; exact h3, ⟨m', hm', hW', hpos⟩, hcl', fun j hjs hl => ?_⟩
        by_cases e : i = j
        · subst e
          exact hd3 _ _
        · rw [hset j (fun h => e h.symm)] at hl
          exact hRs _ _ (fun h => e h.symm) (h5 j hjs hl)
    have hposk : c.pos i = none → ∀ j, j < ops.size → ∀ p, c.pos j = some p → ((listed.setIfInBounds i true).getD j false = true ↔ p < m) := fun hk j hjs p hp2 => by
      by_cases e : j = i
      · subst e
        rw [hk] at hp2
        cases hp2
      · rw [hset j e]
        exact hmp j hjs p hp2
    have hposc : ∀ p, c.pos i = some p → p < c.N → (∀ q, p = q + 1 → ∃ j ∈ deps o, c.pos j = some q) → p = m ∧ ∀ j, j < ops.size → ∀ p', c.pos j = some p' → ((listed.setIfInBounds i true).getD j false = true ↔ p' < m + 1) := fun p hk hpN hq => by
      have hle : ¬ p < m := fun h => by
        have := (hmp i hlt p hk).2 h
        rw [hul] at this
        cases this
      have hpm : p = m := by
        cases p with
        | zero => omega
        | succ q =>
          obtain ⟨j, hjl, hj2⟩ := hq q rfl
          have := hdm j hjl q hj2
          omega
      refine ⟨hpm, fun j hjs p' hp2 => ?_⟩
      by_cases e : j = i
      · subst e
        rw [hk] at hp2
        cases hp2
        rw [hseti]
        exact ⟨fun _ => by omega, fun _ => rfl⟩
      · rw [hset j e, hmp j hjs p' hp2]
        refine ⟨fun h => by omega, fun h => ?_⟩
        by_cases e2 : p' = m
        · subst e2
          subst hpm
          exact absurd (hp j i _ (by omega) (by omega) hp2 hk) e
        · omega
    have hy : ∀ j b, o.guard = some (j, b) → ∀ d : Bool, a.eval (.tmp (c.D j)) = .bool d → yielded ops a.tmps j = some d := fun j b hgd d hc => by
      have hjl := (hg j b hgd).1
      have hlt2 : j < ops.size := Nat.lt_trans (hj _ hjl) hlt
      have hoj := Array.getElem?_eq_getElem hlt2
      have hsj := hst j _ hoj
      have hDj := (hg j b hgd).2.1
      have hsd : (bare ops[j]).dst = some (c.D j) := by
        rcases hsj.1 with h | h
        · exact h.1
        · have := h.2.1
          omega
      exact yielded_of (by rw [hoj]; rfl) hsd hc (by rw [h1]; exact hDj)
    have hdst : o.dst = none ∨ o.dst = some (c.D i) := by
      rcases hdo with h | h
      · exact Or.inr h.1
      · exact Or.inl h.1
    by_cases hno : ∃ j b, o.guard = some (j, b) ∧ a.eval (.tmp (c.D j)) = .bool !b
    · obtain ⟨j, b, hgd, hv⟩ := hno
      have hRj := hdep j (hg j b hgd).1
      rw [hv] at hRj
      rw [if_neg (by rw [wanted_no hgd (hy j b hgd _ hv)]; simp)]
      have hgu := (hg j b hgd).2.2.2 w hRj
      cases hk : c.pos i with
      | none => exact hout undef w m hmN hWm (hposk hk) (fun _ _ _ h => h) hgu.1 hdst
      | some p =>
        rw [hk] at hw
        obtain ⟨hq, hpN, _⟩ := hw
        obtain ⟨rfl, hpp⟩ := hposc p hk hpN hq
        exact hout undef w (p + 1) (by omega) (hgu.2 p hk hWm) hpp (fun _ _ _ h => h) hgu.1 hdst
    · have hwant : Region.wanted o (yielded ops a.tmps) = true ∧ ∀ j b, o.guard = some (j, b) → c.R j (.bool b) w := by
        cases hgq : o.guard with
        | none => exact ⟨wanted_none hgq, fun j b h => (by cases h)⟩
        | some p =>
          obtain ⟨j, b⟩ := p
          obtain ⟨g1, g1b, g2, g3⟩ := hg j b hgq
          have hRj := hdep j g1
          obtain ⟨d, hc⟩ := g2 _ _ hRj
          have hcb : d = b := by
            cases d <;> cases b <;> first | rfl | exact absurd ⟨j, _, hgq, hc⟩ hno
          subst hcb
          refine ⟨wanted_some hgq (hy j d hgq d hc), fun j' b' h' => ?_⟩
          cases h'
          rw [← hc]
          exact hRj
      rw [if_pos hwant.1]
      refine Or.inl ?_
      rw [← wp_bare]
      cases hk : c.pos i with
      | none =>
        rw [hk] at hw
        exact hw a w m h1 h2.1 hmN hWm hdm hup hdep hwant.2 _ (fun v w' hk' hv => hout v w' m hmN (hWk m w w' hk' hWm) (hposk hk) (fun j u _ h => hRk j u w w' hk' h) hv hdst)
      | some p =>
        rw [hk] at hw
        obtain ⟨hq, hpN, hw⟩ := hw
        obtain ⟨rfl, hpp⟩ := hposc p hk hpN hq
        exact hw a w h1 h2.1 hWm hdep hwant.2 _ (fun v w' hW' hRs hv => hout v w' (p + 1) (by omega) hW' hpp hRs hv hdst)
  · rintro listed a w ⟨h1, h2, h3, ⟨m, hmN, hWm, hmp⟩, hcl, h5⟩ hr
    have hall : ∀ m i, i < m → i < ops.size → listed.getD i false = true := by
      intro m
      induction m with
      | zero => intro i hi; omega
      | succ m ih =>
        intro i hi hs'
        by_cases e : i < m
        · exact ih i e hs'
        · cases hl : listed.getD i false with
          | true => rfl
          | false =>
            have hac := (hst i ops[i] (Array.getElem?_eq_getElem hs')).2.1
            have hmem : i ∈ Region.ready .any ops listed := by
              refine mem_ready.2 ⟨?_, ops[i], Array.getElem?_eq_getElem hs', fun e' he' hb' => ?_⟩
              · have hsz : i < listed.size := by omega
                simpa [hsz] using hl
              · have hlt := hac e'.on (List.mem_map.2 ⟨e', List.mem_filter.2 ⟨by simpa using he', hb'⟩, rfl⟩)
                exact ih e'.on (by omega) (by omega)
            rw [hr] at hmem
            cases hmem
    have hmE : m = c.N := by
      by_cases e : m = c.N
      · exact e
      · obtain ⟨i, hi, hpi⟩ := hN m (by omega)
        have := (hmp i (by omega) m hpi).1 (hall (i + 1) i (by omega) (by omega))
        omega
    subst hmE
    exact hend a w h1 h2.1 h2.2 hWm (fun i hi => h5 i (by omega) (hall (i + 1) i (by omega) (by omega)))
  · unfold leftN
    have := List.countP_le_length (p := fun i => !(Array.replicate ops.size false).getD i true) (l := List.range ops.size)
    rw [List.length_range] at this
    exact this
  · refine ⟨hn, ⟨hB, fun _ _ => rfl⟩, by simp, ⟨0, Nat.zero_le _, hW, fun i hi p _ => ?_⟩, fun i o ho hl => ?_, fun i hi hl => ?_⟩
    · simp [hi]
    · simp [(Array.getElem?_eq_some_iff.1 ho).1] at hl
    · simp [hi] at hl
/-- an operation outside the chain, with no guard -/
theorem Chn.pure (c : Chn) {k : Nat} {o : Oper} {l : List Nat} (hpos : c.pos k = none) (hd : o.dst = some (c.D k)) (hn : c.D k < c.n) (hj : ∀ j ∈ l, j < k) (hg : o.guard = none)
    (h : ∀ (a : Act) (w : World) (m : Nat), a.tmps.size = c.n → c.B a → c.W m w → (∀ j ∈ l, ∀ p, c.pos j = some p → p < m) → (∀ i ol, c.T[i]? = some ol → k ∈ ol.2 → ∀ p, c.pos i = some p → m ≤ p) → (∀ j ∈ l, c.R j (a.eval (.tmp (c.D j))) w) →
        ∀ K : Act → World → Prop, Shut (∀ v w', Kp (fun _ => False) w w' → c.R k v w' → K (a.put o.dst v) w') → Oper.wp P o a w K Q) : c.Step P Q k o l := by
  refine ⟨Or.inl ⟨hd, hn⟩, hj, fun j b e => (by rw [hg] at e; cases e), ?_⟩
  rw [hpos]
  intro a w m h1 h2 h3 h4 h5 h6 h7 h8 K hK
  exact h a w m h1 h2 h4 h5 h6 h7 K hK
/-- a link of the chain, with no guard -/
theorem Chn.link (c : Chn) {k : Nat} {o : Oper} {l : List Nat} (p : Nat) (hpos : c.pos k = some p) (hq : ∀ q, p = q + 1 → ∃ j ∈ l, c.pos j = some q) (hpN : p < c.N) (hd : o.dst = some (c.D k) ∧ c.D k < c.n ∨ o.dst = none ∧ c.n ≤ c.D k ∧ ∀ v w, c.R k v w) (hj : ∀ j ∈ l, j < k) (hg : o.guard = none)
    (h : ∀ (a : Act) (w : World), a.tmps.size = c.n → c.B a → c.W p w → (∀ j ∈ l, c.R j (a.eval (.tmp (c.D j))) w) →
        ∀ K : Act → World → Prop, Shut (∀ v w', c.W (p + 1) w' → (∀ i u, i ≠ k → c.R i u w → c.R i u w') → c.R k v w' → K (a.put o.dst v) w') → Oper.wp P o a w K Q) : c.Step P Q k o l := by
  refine ⟨hd, hj, fun j b e => (by rw [hg] at e; cases e), ?_⟩
  rw [hpos]
  refine ⟨hq, hpN, ?_⟩
  intro a w h1 h2 h3 h4 h5 K hK
  exact h a w h1 h2 h3 h4 K hK
theorem run_value {o : Oper} {a : Act} {w w' : World} {v : Value} {K : Act → World → Prop} (hrun : (execOp a.eval o).run P w = .ok (.value v) w') (hK : K (a.put o.dst v) w') : Oper.wp P o a w K Q := by
  unfold Oper.wp
  rw [hrun, Oper.upon_value]
  exact hK
theorem run_skip {o : Oper} {a : Act} {w w' : World} {K : Act → World → Prop} (hd : o.dst = none) (hrun : (execOp a.eval o).run P w = .ok .skip w') (hK : ∀ v, K (a.put o.dst v) w') : Oper.wp P o a w K Q := by
  unfold Oper.wp
  rw [hrun, Oper.upon_skip]
  exact hK _
theorem prevOf {c : Chn} {l : List Nat} (j p : Nat) (hj : j ∈ l) (hp : c.pos j = some p) : ∀ q, p + 1 = q + 1 → ∃ j ∈ l, c.pos j = some q := fun q h => ⟨j, hj, by rw [hp]; congr 1; omega⟩
/-- the chain's order, by a list of who stands where -/
def posOf (C : List Nat) (k : Nat) : Option Nat := C.findIdx? (· == k)
theorem posOf_get {C : List Nat} {k p : Nat} (h : posOf C k = some p) : C[p]? = some k := by
  obtain ⟨h1, h2, _⟩ := List.findIdx?_eq_some_iff_getElem.1 h
  rw [List.getElem?_eq_getElem h1]
  simpa using h2
theorem posOf_inj (C : List Nat) (i j p : Nat) (h : posOf C i = some p) (h2 : posOf C j = some p) : i = j := by
  have := (posOf_get h).symm.trans (posOf_get h2)
  injection this
theorem posOf_at (C : List Nat) (n : Nat) (hn : C.Nodup) (hl : ∀ x ∈ C, x < n) (p : Nat) (hp : p < C.length) : ∃ i, i < n ∧ posOf C i = some p := by
  refine ⟨C[p], hl _ (List.getElem_mem hp), List.findIdx?_eq_some_iff_getElem.2 ⟨hp, by simp, fun j hj => ?_⟩⟩
  simp only [Bool.not_eq_true, beq_eq_false_iff_ne]
  intro e
  exact List.pairwise_iff_getElem.1 hn j p (by omega) hp hj e
/-- an act is told by the slots that were put -/
theorem act_puts (a : Act) : ∀ (Ds : List Nat) (a0 : Act), a.tmps.size = a0.tmps.size → a.defers = a0.defers → (∀ t, t ∉ Ds → a.eval (.tmp t) = a0.eval (.tmp t)) → a = Ds.foldl (fun b d => b.put (some d) (a.eval (.tmp d))) a0
  | [], a0, hs, hd, h => by
    obtain ⟨t, d⟩ := a
    obtain ⟨t0, d0⟩ := a0
    dsimp only at hs hd
    subst hd
    show Act.mk t d = Act.mk t0 d
    congr 1
    refine Array.ext hs (fun i h1 h2 => ?_)
    have := h i (by simp)
    simpa [Act.eval, Array.getD, h1, h2] using this
  | x :: Ds, a0, hs, hd, h => by
    show a = Ds.foldl _ (a0.put (some x) (a.eval (.tmp x)))
    refine act_puts a Ds _ ?_ hd (fun t ht => ?_)
    · rw [hs]
      simp [Act.put]
    · by_cases e : t = x
      · subst e
        by_cases hl : t < a0.tmps.size
        · exact (act_put a0 t _ hl).2.2.1.symm
        · rw [eval_past a t (by omega), eval_past _ t (by simp [Act.put]; omega)]
      · have h1 := h t (by simp [e, ht])
        rw [h1]
        show a0.tmps.getD t undef = (a0.tmps.setIfInBounds x _).getD t undef
        simp [Array.getElem?_setIfInBounds_ne (fun h => e h.symm)]
theorem cons_len {α : Type} {l : List α} {n : Nat} (h : l.length = n + 1) : ∃ x t, l = x :: t ∧ t.length = n := by
  cases l with
  | nil => cases h
  | cons x t => exact ⟨x, t, rfl, by simpa using h⟩
end
end Go.Proofs.YtippipeebkkghaaGreatDoor
