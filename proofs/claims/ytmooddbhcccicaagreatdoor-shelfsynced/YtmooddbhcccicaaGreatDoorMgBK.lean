/- Texts of this proof, joined: Wq, Iv, Iw. -/
import Derived.Test.YtmooddbhcccicaaGreatDoorMgBJ
import Derived.Test.YtmooddbhcccicaaGreatDoorMgBC
/- Regions that draw their order, whose operations that change the world stand in a chain; calls may give up. -/
namespace Go.Proofs.YtmooddbhcccicaaGreatDoor
set_option linter.unusedVariables false
open Go.RowKit Go.Deep

section
variable {P : Program} {ops : Array Oper} {Q : Exit → Act → World → Prop}
/-- a call, by its contract: it answers, or it gives up -/
theorem wp_enterP {o : Oper} {a : Act} {w : World} {K : Act → World → Prop} {f : FuncId} {args : Array Value} {R : Ending → World → Prop} (hrun : (execOp a.eval o).run P w = .ok (.enter f args) w) (hc : Calls P f args w R)
    (h : ∀ e w', R e w' → (∃ v, e = .returned v ∧ K (a.put o.dst v) w') ∨ ∃ c, e = .panicked c ∧ Q (.panic c) a w') : Oper.wp P o a w K Q := by
  unfold Oper.wp
  rw [hrun, Oper.upon_enter]
  refine hc.mono ?_
  intro e w' hR
  rcases h e w' hR with ⟨v, rfl, hk⟩ | ⟨c, rfl, hq⟩
  · exact hk
  · exact hq
/-- the parts of a region in a chain: n slots, B of the acts, R of what is yielded, D where it lies, pos who stands where in the chain of N, W of the world behind so many of it -/
structure Chn where
  n : Nat
  B : Act → Prop
  R : Nat → Value → World → Prop
  D : Nat → Nat
  pos : Nat → Option Nat
  N : Nat
  W : Nat → World → Prop
  T : List (Oper × List Nat)
/-- what must be shown of the k-th operation -/
def Chn.Step (c : Chn) (P : Program) (Q : Exit → Act → World → Prop) (k : Nat) (o : Oper) (l : List Nat) : Prop :=
  (o.dst = some (c.D k) ∧ c.D k < c.n ∨ o.dst = none ∧ c.n ≤ c.D k ∧ ∀ v w, c.R k v w) ∧ (∀ j ∈ l, j < k) ∧
  (∀ j b, o.guard = some (j, b) → j ∈ l ∧ c.D j < c.n ∧ (∀ v w, c.R j v w → ∃ d : Bool, v = .bool d) ∧ (∀ w, c.R j (.bool !b) w → c.R k undef w ∧ ∀ p, c.pos k = some p → c.W p w → c.W (p + 1) w)) ∧
  (match c.pos k with
    | none => ∀ (a : Act) (w : World) (m : Nat), a.tmps.size = c.n → c.B a → m ≤ c.N → c.W m w → (∀ j ∈ l, ∀ p, c.pos j = some p → p < m) → (∀ i ol, c.T[i]? = some ol → k ∈ ol.2 → ∀ p, c.pos i = some p → m ≤ p) → (∀ j ∈ l, c.R j (a.eval (.tmp (c.D j))) w) → (∀ j b, o.guard = some (j, b) → c.R j (.bool b) w) →
        ∀ K : Act → World → Prop, Shut (∀ v w', Kp (fun _ => False) w w' → c.R k v w' → K (a.put o.dst v) w') → Oper.wp P o a w K Q
    | some p => (∀ q, p = q + 1 → ∃ j ∈ l, c.pos j = some q) ∧ p < c.N ∧ ∀ (a : Act) (w : World), a.tmps.size = c.n → c.B a → c.W p w → (∀ j ∈ l, c.R j (a.eval (.tmp (c.D j))) w) → (∀ j b, o.guard = some (j, b) → c.R j (.bool b) w) →
        ∀ K : Act → World → Prop, Shut (∀ v w', c.W (p + 1) w' → (∀ i u, i ≠ k → c.R i u w → c.R i u w') → c.R k v w' → K (a.put o.dst v) w') → Oper.wp P o a w K Q)
def Chn.Steps (c : Chn) (P : Program) (Q : Exit → Act → World → Prop) : Nat → List (Oper × List Nat) → Prop
  | _, [] => True
  | k, (o, l) :: t => c.Step P Q k o l ∧ c.Steps P Q (k + 1) t
theorem Chn.Steps.get {c : Chn} : ∀ (t : List (Oper × List Nat)) (k i : Nat) (o : Oper) (l : List Nat), c.Steps P Q k t → t[i]? = some (o, l) → c.Step P Q (k + i) o l
  | [], _, _, _, _, _, h => by simp at h
  | x :: t, k, 0, o, l, h, hi => by
    simp at hi
    subst hi
    exact h.1
  | x :: t, k, i + 1, o, l, h, hi => by
    have := Chn.Steps.get t (k + 1) i o l h.2 (by simpa using hi)
    rw [show k + (i + 1) = k + 1 + i by omega]
    exact this
theorem eval_past (a : Act) (t : Nat) (h : a.tmps.size ≤ t) : a.eval (.tmp t) = undef := by
  show a.tmps.getD t undef = undef
  simp [Array.getElem?_eq_none h]
theorem chain_region (c : Chn) {id : Nat} {a0 : Act} {y : World} (hm : P.follows .mixedOrders = true) (hT : ops.toList.map (fun o => (bare o, deps o)) = c.T) (hn : a0.tmps.size = c.n) (hB : c.B a0)
    (hBp : ∀ k v a, k < c.T.length → c.D k < c.n → c.B a → c.B (a.put (some (c.D k)) v))
    (hD : ∀ i j, i < c.T.length → j < c.T.length → c.D i = c.D j → i = j)
    (hp : ∀ i j p, i < c.T.length → j < c.T.length → c.pos i = some p → c.pos j = some p → i = j)
    (hN : ∀ p, p < c.N → ∃ i, i < c.T.length ∧ c.pos i = some p)
    (hW : c.W 0 y.drew)
    (hWk : ∀ m w w', Kp (fun _ => False) w w' → c.W m w → c.W m w')
    (hRk : ∀ i v w w', Kp (fun _ => False) w w' → c.R i v w → c.R i v w')
    (hs : c.Steps P Q 0 c.T)
    (hend : ∀ a w, a.tmps.size = c.n → c.B a → (∀ t, (∀ k, k < c.T.length → c.D k ≠ t) → a.eval (.tmp t) = a0.eval (.tmp t)) → c.W c.N w → (∀ i, i < c.T.length → c.R i (a.eval (.tmp (c.D i))) w) → Q .normal a w) :
    (Code.region id ops true).wp P Q a0 y := by
  have hTl : c.T.length = ops.size := by rw [← hT]; simp
  have hTi : ∀ (i : Nat) (o : Oper), ops[i]? = some o → c.T[i]? = some (bare o, deps o) := fun i o ho => by
    rw [← hT, List.getElem?_map]
    simp [ho]
  have hst : ∀ (i : Nat) (o : Oper), ops[i]? = some o → c.Step P Q i (bare o) (deps o) := fun i o ho => by
    have := Chn.Steps.get c.T 0 i _ _ hs (hTi i o ho)
    rwa [Nat.zero_add] at this
  refine wp_region_held_drew (S := fun _ => True) hm trivial (fun _ => ?_)
  refine wpAnyH_inv (fun listed a w => a.tmps.size = c.n ∧ (c.B a ∧ ∀ t, (∀ k, k < c.T.length → c.D k ≠ t) → a.eval (.tmp t) = a0.eval (.tmp t)) ∧ listed.size = ops.size ∧ (∃ m, m ≤ c.N ∧ c.W m w ∧ ∀ i, i < ops.size → ∀ p, c.pos i = some p → (listed.getD i false = true ↔ p < m)) ∧ (∀ i o, ops[i]? = some o → listed.getD i false = true → ∀ j ∈ deps o, listed.getD j false = true) ∧ ∀ i, i < ops.size → listed.getD i false = true → c.R i (a.eval (.tmp (c.D i))) w) ?_ ?_ _ _ _ _ ?_ ?_
  · rintro listed a w i ⟨h1, h2, h3, ⟨m, hmN, hWm, hmp⟩, hcl, h5⟩ hi
    obtain ⟨hu, o, ho, hall⟩ := mem_ready.1 hi
    have hlt := (Array.getElem?_eq_some_iff.1 ho).1
    have hul : listed.getD i false = false := by
      have hsz : i < listed.size := by omega
      simpa [hsz] using hu
    obtain ⟨hdo, hj, hg, hw⟩ := hst i o ho
    unfold wpOp
    rw [ho]
    dsimp only
    have hlist : ∀ j ∈ deps o, j < ops.size ∧ listed.getD j false = true := fun j hjl => by
      have hjlt := hj j hjl
      obtain ⟨e, he, rfl⟩ := List.mem_map.1 hjl
      obtain ⟨he1, he2⟩ := List.mem_filter.1 he
      exact ⟨Nat.lt_trans hjlt hlt, hall e (by simpa using he1) he2⟩
    have hdep : ∀ j ∈ deps o, c.R j (a.eval (.tmp (c.D j))) w := fun j hjl => h5 j (hlist j hjl).1 (hlist j hjl).2
    have hdm : ∀ j ∈ deps o, ∀ p, c.pos j = some p → p < m := fun j hjl p hp2 => (hmp j (hlist j hjl).1 p hp2).1 (hlist j hjl).2
    have hset : ∀ j, j ≠ i → (listed.setIfInBounds i true).getD j false = listed.getD j false := fun j hji => by
      simp [Array.getElem?_setIfInBounds_ne (fun e => hji e.symm)]
    have hseti : (listed.setIfInBounds i true).getD i false = true := by
      have hsz : i < listed.size := by omega
      simp [hsz]
    have hmono : ∀ j, listed.getD j false = true → (listed.setIfInBounds i true).getD j false = true := fun j hj2 => by
      by_cases e : j = i
      · rw [e]; exact hseti
      · rw [hset j e]; exact hj2
    have hcl' : ∀ i' o', ops[i']? = some o' → (listed.setIfInBounds i true).getD i' false = true → ∀ j ∈ deps o', (listed.setIfInBounds i true).getD j false = true := fun i' o' ho' hl' j hj2 => by
      by_cases e : i' = i
      · subst e
        rw [ho] at ho'
        cases ho'
        exact hmono j (hlist j hj2).2
      · rw [hset i' e] at hl'
        exact hmono j (hcl i' o' ho' hl' j hj2)
    have hup : ∀ i' ol, c.T[i']? = some ol → i ∈ ol.2 → ∀ p, c.pos i' = some p → m ≤ p := fun i' ol hol hmem p hp2 => by
      have hlt' : i' < ops.size := by rw [← hTl]; exact (List.getElem?_eq_some_iff.1 hol).1
      have ho' := Array.getElem?_eq_getElem hlt'
      have h9 := hTi i' _ ho'
      rw [hol] at h9
      injection h9 with h9
      subst h9
      rcases Nat.lt_or_ge p m with h8 | h8
      · have := hcl i' _ ho' ((hmp i' hlt' p hp2).2 h8) i hmem
        rw [hul] at this
        cases this
      · exact h8
    have hout : ∀ v w' m', m' ≤ c.N → c.W m' w' → (∀ j, j < ops.size → ∀ p, c.pos j = some p → ((listed.setIfInBounds i true).getD j false = true ↔ p < m')) → (∀ j u, j ≠ i → c.R j u w → c.R j u w') → c.R i v w' → (o.dst = none ∨ o.dst = some (c.D i)) →
        (a.put o.dst v).tmps.size = c.n ∧ (c.B (a.put o.dst v) ∧ ∀ t, (∀ k, k < c.T.length → c.D k ≠ t) → (a.put o.dst v).eval (.tmp t) = a0.eval (.tmp t)) ∧ (listed.setIfInBounds i true).size = ops.size ∧ (∃ m, m ≤ c.N ∧ c.W m w' ∧ ∀ i', i' < ops.size → ∀ p, c.pos i' = some p → ((listed.setIfInBounds i true).getD i' false = true ↔ p < m)) ∧ (∀ i' o', ops[i']? = some o' → (listed.setIfInBounds i true).getD i' false = true → ∀ j ∈ deps o', (listed.setIfInBounds i true).getD j false = true) ∧ ∀ j, j < ops.size → (listed.setIfInBounds i true).getD j false = true → c.R j ((a.put o.dst v).eval (.tmp (c.D j))) w' := by
      intro v w' m' hm' hW' hpos hRs hv hdst
      rcases hdo with ⟨hd1, hd2⟩ | ⟨hd1, hd2, hd3⟩
      · have hd1' : o.dst = some (c.D i) := hd1
        obtain ⟨p1, p2, p3, p4⟩ := act_put a (c.D i) v (by rw [h1]; exact hd2)
        rw [hd1']
        refine ⟨p1.trans h1, ⟨hBp i v a (by omega) hd2 h2.1, fun t ht => by rw [p4 t (fun e => ht i (by omega) e.symm)]; exact h2.2 t ht⟩, by rw [Array.size_setIfInBounds]; exact h3, ⟨m', hm', hW', hpos⟩, hcl', fun j hjs hl => ?_⟩
        by_cases e : i = j
        · subst e
          rw [p3]
          exact hv
        · rw [p4 (c.D j) (fun h => e (hD i j (by omega) (by omega) h.symm))]
          rw [hset j (fun h => e h.symm)] at hl
          exact hRs _ _ (fun h => e h.symm) (h5 j hjs hl)
      · have hd1' : o.dst = none := hd1
        rw [hd1']
        show a.tmps.size = _ ∧ (c.B a ∧ ∀ t, _ → a.eval _ = _) ∧ _ ∧ _ ∧ _ ∧ ∀ j, _ → _ → c.R j (a.eval _) w'
        refine ⟨h1, h2, by rw [Array.size_setIfInBounds]; exact h3, ⟨m', hm', hW', hpos⟩, hcl', fun j hjs hl => ?_⟩
        by_cases e : i = j
        · subst e
          exact hd3 _ _
        · rw [hset j (fun h => e h.symm)] at hl
          exact hRs _ _ (fun h => e h.symm) (h5 j hjs hl)
    have hposk : c.pos i = none → ∀ j, j < ops.size → ∀ p, c.pos j = some p → ((listed.setIfInBounds i true).getD j false = true ↔ p < m) := fun hk j hjs p hp2 => by
      by_cases e : j = i
      · subst e
        rw [hk] at hp2
        cases hp2
      · rw [hset j e]
        exact hmp j hjs p hp2
    have hposc : ∀ p, c.pos i = some p → p < c.N → (∀ q, p = q + 1 → ∃ j ∈ deps o, c.pos j = some q) → p = m ∧ ∀ j, j < ops.size → ∀ p', c.pos j = some p' → ((listed.setIfInBounds i true).getD j false = true ↔ p' < m + 1) := fun p hk hpN hq => by
      have hle : ¬ p < m := fun h => by
        have := (hmp i hlt p hk).2 h
        rw [hul] at this
        cases this
      have hpm : p = m := by
        cases p with
        | zero => omega
        | succ q =>
          obtain ⟨j, hjl, hj2⟩ := hq q rfl
          have := hdm j hjl q hj2
          omega
      refine ⟨hpm, fun j hjs p' hp2 => ?_⟩
      by_cases e : j = i
      · subst e
        rw [hk] at hp2
        cases hp2
        rw [hseti]
        exact ⟨fun _ => by omega, fun _ => rfl⟩
      · rw [hset j e, hmp j hjs p' hp2]
        refine ⟨fun h => by omega, fun h => ?_⟩
        by_cases e2 : p' = m
        · subst e2
          subst hpm
          exact absurd (hp j i _ (by omega) (by omega) hp2 hk) e
        · omega
    have hy : ∀ j b, o.guard = some (j, b) → ∀ d : Bool, a.eval (.tmp (c.D j)) = .bool d → yielded ops a.tmps j = some d := fun j b hgd d hc => by
      have hjl := (hg j b hgd).1
      have hlt2 : j < ops.size := Nat.lt_trans (hj _ hjl) hlt
      have hoj := Array.getElem?_eq_getElem hlt2
      have hsj := hst j _ hoj
      have hDj := (hg j b hgd).2.1
      have hsd : (bare ops[j]).dst = some (c.D j) := by
        rcases hsj.1 with h | h
        · exact h.1
        · have := h.2.1
          omega
      exact yielded_of (by rw [hoj]; rfl) hsd hc (by rw [h1]; exact hDj)
    have hdst : o.dst = none ∨ o.dst = some (c.D i) := by
      rcases hdo with h | h
      · exact Or.inr h.1
      · exact Or.inl h.1
    by_cases hno : ∃ j b, o.guard = some (j, b) ∧ a.eval (.tmp (c.D j)) = .bool !b
    · obtain ⟨j, b, hgd, hv⟩ := hno
      have hRj := hdep j (hg j b hgd).1
      rw [hv] at hRj
      rw [if_neg (by rw [wanted_no hgd (hy j b hgd _ hv)]; simp)]
      have hgu := (hg j b hgd).2.2.2 w hRj
      cases hk : c.pos i with
      | none => exact hout undef w m hmN hWm (hposk hk) (fun _ _ _ h => h) hgu.1 hdst
      | some p =>
        rw [hk] at hw
        obtain ⟨hq, hpN, _⟩ := hw
        obtain ⟨rfl, hpp⟩ := hposc p hk hpN hq
        exact hout undef w (p + 1) (by omega) (hgu.2 p hk hWm) hpp (fun _ _ _ h => h) hgu.1 hdst
    · have hwant : Region.wanted o (yielded ops a.tmps) = true ∧ ∀ j b, o.guard = some (j, b) → c.R j (.bool b) w := by
        cases hgq : o.guard with
        | none => exact ⟨wanted_none hgq, fun j b h => (by cases h)⟩
        | some p =>
          obtain ⟨j, b⟩ := p
          obtain ⟨g1, g1b, g2, g3⟩ := hg j b hgq
          have hRj := hdep j g1
          obtain ⟨d, hc⟩ := g2 _ _ hRj
          have hcb : d = b := by
            cases d <;> cases b <;> first | rfl | exact absurd ⟨j, _, hgq, hc⟩ hno
          subst hcb
          refine ⟨wanted_some hgq (hy j d hgq d hc), fun j' b' h' => ?_⟩
          cases h'
          rw [← hc]
          exact hRj
      rw [if_pos hwant.1]
      refine Or.inl ?_
      rw [← wp_bare]
      cases hk : c.pos i with
      | none =>
        rw [hk] at hw
        exact hw a w m h1 h2.1 hmN hWm hdm hup hdep hwant.2 _ (fun v w' hk' hv => hout v w' m hmN (hWk m w w' hk' hWm) (hposk hk) (fun j u _ h => hRk j u w w' hk' h) hv hdst)
      | some p =>
        rw [hk] at hw
        obtain ⟨hq, hpN, hw⟩ := hw
        obtain ⟨rfl, hpp⟩ := hposc p hk hpN hq
        exact hw a w h1 h2.1 hWm hdep hwant.2 _ (fun v w' hW' hRs hv => hout v w' (p + 1) (by omega) hW' hpp hRs hv hdst)
  · rintro listed a w ⟨h1, h2, h3, ⟨m, hmN, hWm, hmp⟩, hcl, h5⟩ hr
    have hall : ∀ m i, i < m → i < ops.size → listed.getD i false = true := by
      intro m
      induction m with
      | zero => intro i hi; omega
      | succ m ih =>
        intro i hi hs'
        by_cases e : i < m
        · exact ih i e hs'
        · cases hl : listed.getD i false with
          | true => rfl
          | false =>
            have hac := (hst i ops[i] (Array.getElem?_eq_getElem hs')).2.1
            have hmem : i ∈ Region.ready .any ops listed := by
              refine mem_ready.2 ⟨?_, ops[i], Array.getElem?_eq_getElem hs', fun e' he' hb' => ?_⟩
              · have hsz : i < listed.size := by omega
                simpa [hsz] using hl
              · have hlt := hac e'.on (List.mem_map.2 ⟨e', List.mem_filter.2 ⟨by simpa using he', hb'⟩, rfl⟩)
                exact ih e'.on (by omega) (by omega)
            rw [hr] at hmem
            cases hmem
    have hmE : m = c.N := by
      by_cases e : m = c.N
      · exact e
      · obtain ⟨i, hi, hpi⟩ := hN m (by omega)
        have := (hmp i (by omega) m hpi).1 (hall (i + 1) i (by omega) (by omega))
        omega
    subst hmE
    exact hend a w h1 h2.1 h2.2 hWm (fun i hi => h5 i (by omega) (hall (i + 1) i (by omega) (by omega)))
  · unfold leftN
    have := List.countP_le_length (p := fun i => !(Array.replicate ops.size false).getD i true) (l := List.range ops.size)
    rw [List.length_range] at this
    exact this
  · refine ⟨hn, ⟨hB, fun _ _ => rfl⟩, by simp, ⟨0, Nat.zero_le _, hW, fun i hi p _ => ?_⟩, fun i o ho hl => ?_, fun i hi hl => ?_⟩
    · simp [hi]
    · simp [(Array.getElem?_eq_some_iff.1 ho).1] at hl
    · simp [hi] at hl
/-- an operation outside the chain, with no guard -/
theorem Chn.pure (c : Chn) {k : Nat} {o : Oper} {l : List Nat} (hpos : c.pos k = none) (hd : o.dst = some (c.D k)) (hn : c.D k < c.n) (hj : ∀ j ∈ l, j < k) (hg : o.guard = none)
    (h : ∀ (a : Act) (w : World) (m : Nat), a.tmps.size = c.n → c.B a → c.W m w → (∀ j ∈ l, ∀ p, c.pos j = some p → p < m) → (∀ i ol, c.T[i]? = some ol → k ∈ ol.2 → ∀ p, c.pos i = some p → m ≤ p) → (∀ j ∈ l, c.R j (a.eval (.tmp (c.D j))) w) →
        ∀ K : Act → World → Prop, Shut (∀ v w', Kp (fun _ => False) w w' → c.R k v w' → K (a.put o.dst v) w') → Oper.wp P o a w K Q) : c.Step P Q k o l := by
  refine ⟨Or.inl ⟨hd, hn⟩, hj, fun j b e => (by rw [hg] at e; cases e), ?_⟩
  rw [hpos]
  intro a w m h1 h2 h3 h4 h5 h6 h7 h8 K hK
  exact h a w m h1 h2 h4 h5 h6 h7 K hK
/-- a link of the chain, with no guard -/
theorem Chn.link (c : Chn) {k : Nat} {o : Oper} {l : List Nat} (p : Nat) (hpos : c.pos k = some p) (hq : ∀ q, p = q + 1 → ∃ j ∈ l, c.pos j = some q) (hpN : p < c.N) (hd : o.dst = some (c.D k) ∧ c.D k < c.n ∨ o.dst = none ∧ c.n ≤ c.D k ∧ ∀ v w, c.R k v w) (hj : ∀ j ∈ l, j < k) (hg : o.guard = none)
    (h : ∀ (a : Act) (w : World), a.tmps.size = c.n → c.B a → c.W p w → (∀ j ∈ l, c.R j (a.eval (.tmp (c.D j))) w) →
        ∀ K : Act → World → Prop, Shut (∀ v w', c.W (p + 1) w' → (∀ i u, i ≠ k → c.R i u w → c.R i u w') → c.R k v w' → K (a.put o.dst v) w') → Oper.wp P o a w K Q) : c.Step P Q k o l := by
  refine ⟨hd, hj, fun j b e => (by rw [hg] at e; cases e), ?_⟩
  rw [hpos]
  refine ⟨hq, hpN, ?_⟩
  intro a w h1 h2 h3 h4 h5 K hK
  exact h a w h1 h2 h3 h4 K hK
theorem run_value {o : Oper} {a : Act} {w w' : World} {v : Value} {K : Act → World → Prop} (hrun : (execOp a.eval o).run P w = .ok (.value v) w') (hK : K (a.put o.dst v) w') : Oper.wp P o a w K Q := by
  unfold Oper.wp
  rw [hrun, Oper.upon_value]
  exact hK
theorem run_skip {o : Oper} {a : Act} {w w' : World} {K : Act → World → Prop} (hd : o.dst = none) (hrun : (execOp a.eval o).run P w = .ok .skip w') (hK : ∀ v, K (a.put o.dst v) w') : Oper.wp P o a w K Q := by
  unfold Oper.wp
  rw [hrun, Oper.upon_skip]
  exact hK _
theorem prevOf {c : Chn} {l : List Nat} (j p : Nat) (hj : j ∈ l) (hp : c.pos j = some p) : ∀ q, p + 1 = q + 1 → ∃ j ∈ l, c.pos j = some q := fun q h => ⟨j, hj, by rw [hp]; congr 1; omega⟩
/-- the chain's order, by a list of who stands where -/
def posOf (C : List Nat) (k : Nat) : Option Nat := C.findIdx? (· == k)
theorem posOf_get {C : List Nat} {k p : Nat} (h : posOf C k = some p) : C[p]? = some k := by
  obtain ⟨h1, h2, _⟩ := List.findIdx?_eq_some_iff_getElem.1 h
  rw [List.getElem?_eq_getElem h1]
  simpa using h2
theorem posOf_inj (C : List Nat) (i j p : Nat) (h : posOf C i = some p) (h2 : posOf C j = some p) : i = j := by
  have := (posOf_get h).symm.trans (posOf_get h2)
  injection this
theorem posOf_at (C : List Nat) (n : Nat) (hn : C.Nodup) (hl : ∀ x ∈ C, x < n) (p : Nat) (hp : p < C.length) : ∃ i, i < n ∧ posOf C i = some p := by
  refine ⟨C[p], hl _ (List.getElem_mem hp), List.findIdx?_eq_some_iff_getElem.2 ⟨hp, by simp, fun j hj => ?_⟩⟩
  simp only [Bool.not_eq_true, beq_eq_false_iff_ne]
  intro e
  exact List.pairwise_iff_getElem.1 hn j p (by omega) hp hj e
/-- an act is told by the slots that were put -/
theorem act_puts (a : Act) : ∀ (Ds : List Nat) (a0 : Act), a.tmps.size = a0.tmps.size → a.defers = a0.defers → (∀ t, t ∉ Ds → a.eval (.tmp t) = a0.eval (.tmp t)) → a = Ds.foldl (fun b d => b.put (some d) (a.eval (.tmp d))) a0
  | [], a0, hs, hd, h => by
    obtain ⟨t, d⟩ := a
    obtain ⟨t0, d0⟩ := a0
    dsimp only at hs hd
    subst hd
    show Act.mk t d = Act.mk t0 d
    congr 1
    refine Array.ext hs (fun i h1 h2 => ?_)
    have := h i (by simp)
    simpa [Act.eval, Array.getD, h1, h2] using this
  | x :: Ds, a0, hs, hd, h => by
    show a = Ds.foldl _ (a0.put (some x) (a.eval (.tmp x)))
    refine act_puts a Ds _ ?_ hd (fun t ht => ?_)
    · rw [hs]
      simp [Act.put]
    · by_cases e : t = x
      · subst e
        by_cases hl : t < a0.tmps.size
        · exact (act_put a0 t _ hl).2.2.1.symm
        · rw [eval_past a t (by omega), eval_past _ t (by simp [Act.put]; omega)]
      · have h1 := h t (by simp [e, ht])
        rw [h1]
        show a0.tmps.getD t undef = (a0.tmps.setIfInBounds x _).getD t undef
        simp [Array.getElem?_setIfInBounds_ne (fun h => e h.symm)]
theorem cons_len {α : Type} {l : List α} {n : Nat} (h : l.length = n + 1) : ∃ x t, l = x :: t ∧ t.length = n := by
  cases l with
  | nil => cases h
  | cons x t => exact ⟨x, t, rfl, by simpa using h⟩
end
end Go.Proofs.YtmooddbhcccicaaGreatDoor

/- ShelfDrops' drawn region (laid by scripts/mkiv.py). -/
namespace Go.Proofs.YtmooddbhcccicaaGreatDoor
set_option linter.unusedVariables false
set_option linter.unusedSimpArgs false
open Go.RowKit Go.Deep

def drK (na ca nb cb la lb : Nat) (pa pb : Option Addr) (ya yb : List Nat) : Nat → Kd
  | 0 => .eq (.slice pa na ca)
  | 1 => .eq (.slice pa na ca)
  | 2 => .eq (.int .i64 (na : Int))
  | 3 => .eq (.int .i64 (la : Int))
  | 4 => .eq (.slice pa la ca)
  | 5 => .ow ya
  | 6 => .ow [1]
  | 7 => .ow (ya ++ [1])
  | 8 => .eq (.slice pb nb cb)
  | 9 => .eq (.slice pb nb cb)
  | 10 => .eq (.int .i64 (nb : Int))
  | 11 => .eq (.int .i64 (lb : Int))
  | 12 => .eq (.slice pb lb cb)
  | 13 => .ow yb
  | 14 => .ow [2]
  | 15 => .ow (yb ++ [2])
  | 16 => .ow (ya ++ [1])
  | 17 => .ow (yb ++ [2])
  | _ => .eq undef
def drL : List Nat := [38, 39, 40, 41, 42, 43, 44, 45, 46, 47, 48, 49, 50, 51, 52, 53, 3, 4]
def drD (k : Nat) : Nat := drL.getD k 0
def drE : Nat → Option Nat
  | 7 => some 5
  | 15 => some 13
  | 16 => some 7
  | 17 => some 15
  | _ => none
def drU : Nat → List Nat
  | 2 => [1]
  | 3 => [2]
  | 4 => [0, 3]
  | 5 => [4]
  | 7 => [5, 6]
  | 10 => [9]
  | 11 => [10]
  | 12 => [8, 11]
  | 13 => [12]
  | 15 => [13, 14]
  | 16 => [7]
  | 17 => [15]
  | _ => []
def drB (pa : Option Addr) (na ca : Nat) (pb : Option Addr) (nb cb : Nat) (f : Nat → Value) (df : List Deferred) (L : Nat → Bool) (a : Act) : Prop := (L 16 = false → a.eval (.tmp 3) = .slice pa na ca) ∧ (L 17 = false → a.eval (.tmp 4) = .slice pb nb cb) ∧ (∀ t, t ∉ drL → a.eval (.tmp t) = f t) ∧ a.defers = df
theorem drD3 : ∀ k, k < 18 → k ≠ 16 → drD k ≠ 3 := by decide
theorem drD4 : ∀ k, k < 18 → k ≠ 17 → drD k ≠ 4 := by decide
theorem drDn : ∀ k, k < 18 → drD k ∈ drL := by decide
theorem drDi : ∀ i, i < 18 → ∀ j, j < 18 → drD i = drD j → i = j := by decide
set_option maxRecDepth 100000 in
theorem drEU : ∀ k, k < 18 → ∀ k', k' < 18 → ∀ j ∈ drU k', drE k = some j → k' = k := by decide
theorem drE16 : ∀ k, k < 18 → drE k ≠ some 16 := by decide
theorem drE17 : ∀ k, k < 18 → drE k ≠ some 17 := by decide
theorem put_ne {a : Act} {d t : Nat} {v : Value} (h : d ≠ t) : (a.put (some d) v).eval (.tmp t) = a.eval (.tmp t) := by
  show (a.tmps.setIfInBounds d v).getD t undef = a.tmps.getD t undef
  simp [Array.getElem?_setIfInBounds_ne h]
theorem drB_put (pa : Option Addr) (na ca : Nat) (pb : Option Addr) (nb cb : Nat) (f : Nat → Value) (df : List Deferred) (k : Nat) (v : Value) (a : Act) (L : Nat → Bool) (hk : k < 18) (h : drB pa na ca pb nb cb f df L a) : drB pa na ca pb nb cb f df (fun i => if i = k then true else L i) (a.put (some (drD k)) v) := by
  obtain ⟨h3, h4, h0, hd⟩ := h
  refine ⟨fun hl => ?_, fun hl => ?_, fun t ht => by rw [put_ne (fun e : drD k = t => ht (e ▸ drDn k hk))]; exact h0 t ht, hd⟩
  · by_cases e : 16 = k
    · dsimp only at hl
      rw [if_pos e] at hl; cases hl
    · dsimp only at hl
      rw [if_neg e] at hl
      rw [put_ne (drD3 k hk (fun h => e h.symm))]
      exact h3 hl
  · by_cases e : 17 = k
    · dsimp only at hl
      rw [if_pos e] at hl; cases hl
    · dsimp only at hl
      rw [if_neg e] at hl
      rw [put_ne (drD4 k hk (fun h => e h.symm))]
      exact h4 hl
def drT : List (Oper × List Nat) := [(⟨some 38, Op.move (Operand.tmp 3), 34, "", #[], none⟩, []), (⟨some 39, Op.move (Operand.tmp 3), 34, "", #[], none⟩, []), (⟨some 40, Op.call { callee := Callee.builtin Builtin.len, args := #[Operand.tmp 39], argTypes := #[34] }, 3, "", #[], none⟩, [1]), (⟨some 41, Op.call { callee := Callee.builtin Builtin.min, args := #[Operand.tmp 40, Operand.const (Value.int IntKind.i64 100)], argTypes := #[3, 3] }, 3, "", #[], none⟩, [2]), (⟨some 42, Op.slice 34 (Operand.tmp 38) none (some (Operand.tmp 41)) none, 34, "", #[], none⟩, [0, 3]), (⟨some 43, Op.call { callee := Callee.value (Operand.func 13), args := #[Operand.tmp 42], argTypes := #[34] }, 34, "", #[], none⟩, [4]), (⟨some 44, Op.buildSlice 34 1 #[(0, Operand.const (Value.int IntKind.u8 1))], 34, "", #[], none⟩, []), (⟨some 45, Op.call { callee := Callee.builtin Builtin.append, args := #[Operand.tmp 43, Operand.tmp 44], argTypes := #[34, 34] }, 34, "", #[], none⟩, [5, 6, 5]), (⟨some 46, Op.move (Operand.tmp 4), 34, "", #[], none⟩, []), (⟨some 47, Op.move (Operand.tmp 4), 34, "", #[], none⟩, []), (⟨some 48, Op.call { callee := Callee.builtin Builtin.len, args := #[Operand.tmp 47], argTypes := #[34] }, 3, "", #[], none⟩, [9]), (⟨some 49, Op.call { callee := Callee.builtin Builtin.min, args := #[Operand.tmp 48, Operand.const (Value.int IntKind.i64 100)], argTypes := #[3, 3] }, 3, "", #[], none⟩, [10]), (⟨some 50, Op.slice 34 (Operand.tmp 46) none (some (Operand.tmp 49)) none, 34, "", #[], none⟩, [8, 11]), (⟨some 51, Op.call { callee := Callee.value (Operand.func 13), args := #[Operand.tmp 50], argTypes := #[34] }, 34, "", #[], none⟩, [12, 7]), (⟨some 52, Op.buildSlice 34 1 #[(0, Operand.const (Value.int IntKind.u8 2))], 34, "", #[], none⟩, []), (⟨some 53, Op.call { callee := Callee.builtin Builtin.append, args := #[Operand.tmp 51, Operand.tmp 52], argTypes := #[34, 34] }, 34, "", #[], none⟩, [13, 14, 13]), (⟨some 3, Op.assign (Operand.tmp 45), 34, "", #[], none⟩, [7, 15, 0, 1, 2, 3, 4, 5, 6, 7]), (⟨some 4, Op.assign (Operand.tmp 53), 34, "", #[], none⟩, [15, 16, 0, 1, 2, 3, 4, 5, 6, 7, 8, 9, 10, 11, 12, 13, 14, 15, 16])]
def drC (na ca nb cb la lb : Nat) (pa pb : Option Addr) (ya yb : List Nat) (base : Nat) (f : Nat → Value) (df : List Deferred) : Owr := { n := 146, B := drB pa na ca pb nb cb f df, R := fun k => (drK na ca nb cb la lb pa pb ya yb k).R base, D := drD, E := drE, Bl := fun k => (drK na ca nb cb la lb pa pb ya yb k).Bl, U := drU, T := drT }

set_option maxRecDepth 100000 in
theorem dr_s0 {Q : Exit → Act → World → Prop} (na ca nb cb la lb : Nat) (pa pb : Option Addr) (ya yb : List Nat) (base : Nat) (f : Nat → Value) (df : List Deferred) (w0 : World) (hla : min (na : Int) 100 = (la : Int)) (hlb : min (nb : Int) 100 = (lb : Int)) (ra : Rb w0 pa la ya) (rb : Rb w0 pb lb yb) (hca : la ≤ ca ∧ la ≤ 100) (hcb : lb ≤ cb ∧ lb ≤ 100) (hbase : base = w0.heap.size) : (drC na ca nb cb la lb pa pb ya yb base f df).Step Tryz.prog Q w0 0 ⟨some 38, Op.move (Operand.tmp 3), 34, "", #[], none⟩ [] := by
  refine ⟨rfl, rfl, by decide, show drD 0 < 146 by decide, fun j h => ?_, show ∀ j ∈ drU 0, j ∈ ([] : List Nat) by decide, fun L a w hn hL hcl hB hk hd K hK => ?_⟩
  · have h2 : (none : Option Nat) = some j := h
    cases h2
  have hsz := hk.size
  have hq : L 16 = false := by
    cases h : L 16 with
    | false => rfl
    | true =>
      have := hcl 16 _ rfl h 0 (show 0 ∈ ([7, 15, 0, 1, 2, 3, 4, 5, 6, 7] : List Nat) by decide)
      rw [hL] at this
      cases this
  have e : a.eval (.tmp 3) = (.slice pa na ca) := hB.1 hq
  refine owr_eq (X := True) (base := base) rfl rfl ?_ rfl hK
  generalize a.eval = ev at e
  go_simp
set_option maxRecDepth 100000 in
theorem dr_s1 {Q : Exit → Act → World → Prop} (na ca nb cb la lb : Nat) (pa pb : Option Addr) (ya yb : List Nat) (base : Nat) (f : Nat → Value) (df : List Deferred) (w0 : World) (hla : min (na : Int) 100 = (la : Int)) (hlb : min (nb : Int) 100 = (lb : Int)) (ra : Rb w0 pa la ya) (rb : Rb w0 pb lb yb) (hca : la ≤ ca ∧ la ≤ 100) (hcb : lb ≤ cb ∧ lb ≤ 100) (hbase : base = w0.heap.size) : (drC na ca nb cb la lb pa pb ya yb base f df).Step Tryz.prog Q w0 1 ⟨some 39, Op.move (Operand.tmp 3), 34, "", #[], none⟩ [] := by
  refine ⟨rfl, rfl, by decide, show drD 1 < 146 by decide, fun j h => ?_, show ∀ j ∈ drU 1, j ∈ ([] : List Nat) by decide, fun L a w hn hL hcl hB hk hd K hK => ?_⟩
  · have h2 : (none : Option Nat) = some j := h
    cases h2
  have hsz := hk.size
  have hq : L 16 = false := by
    cases h : L 16 with
    | false => rfl
    | true =>
      have := hcl 16 _ rfl h 1 (show 1 ∈ ([7, 15, 0, 1, 2, 3, 4, 5, 6, 7] : List Nat) by decide)
      rw [hL] at this
      cases this
  have e : a.eval (.tmp 3) = (.slice pa na ca) := hB.1 hq
  refine owr_eq (X := True) (base := base) rfl rfl ?_ rfl hK
  generalize a.eval = ev at e
  go_simp
set_option maxRecDepth 100000 in
theorem dr_s2 {Q : Exit → Act → World → Prop} (na ca nb cb la lb : Nat) (pa pb : Option Addr) (ya yb : List Nat) (base : Nat) (f : Nat → Value) (df : List Deferred) (w0 : World) (hla : min (na : Int) 100 = (la : Int)) (hlb : min (nb : Int) 100 = (lb : Int)) (ra : Rb w0 pa la ya) (rb : Rb w0 pb lb yb) (hca : la ≤ ca ∧ la ≤ 100) (hcb : lb ≤ cb ∧ lb ≤ 100) (hbase : base = w0.heap.size) : (drC na ca nb cb la lb pa pb ya yb base f df).Step Tryz.prog Q w0 2 ⟨some 40, Op.call { callee := Callee.builtin Builtin.len, args := #[Operand.tmp 39], argTypes := #[34] }, 3, "", #[], none⟩ [1] := by
  refine ⟨rfl, rfl, by decide, show drD 2 < 146 by decide, fun j h => ?_, show ∀ j ∈ drU 2, j ∈ ([1] : List Nat) by decide, fun L a w hn hL hcl hB hk hd K hK => ?_⟩
  · have h2 : (none : Option Nat) = some j := h
    cases h2
  have hsz := hk.size
  have e : a.eval (.tmp 39) = (.slice pa na ca) := (hd 1 (show 1 ∈ drU 2 by decide)).1
  refine owr_eq (X := True) (base := base) rfl rfl ?_ rfl hK
  generalize a.eval = ev at e
  go_simp
set_option maxRecDepth 100000 in
theorem dr_s3 {Q : Exit → Act → World → Prop} (na ca nb cb la lb : Nat) (pa pb : Option Addr) (ya yb : List Nat) (base : Nat) (f : Nat → Value) (df : List Deferred) (w0 : World) (hla : min (na : Int) 100 = (la : Int)) (hlb : min (nb : Int) 100 = (lb : Int)) (ra : Rb w0 pa la ya) (rb : Rb w0 pb lb yb) (hca : la ≤ ca ∧ la ≤ 100) (hcb : lb ≤ cb ∧ lb ≤ 100) (hbase : base = w0.heap.size) : (drC na ca nb cb la lb pa pb ya yb base f df).Step Tryz.prog Q w0 3 ⟨some 41, Op.call { callee := Callee.builtin Builtin.min, args := #[Operand.tmp 40, Operand.const (Value.int IntKind.i64 100)], argTypes := #[3, 3] }, 3, "", #[], none⟩ [2] := by
  refine ⟨rfl, rfl, by decide, show drD 3 < 146 by decide, fun j h => ?_, show ∀ j ∈ drU 3, j ∈ ([2] : List Nat) by decide, fun L a w hn hL hcl hB hk hd K hK => ?_⟩
  · have h2 : (none : Option Nat) = some j := h
    cases h2
  have hsz := hk.size
  have e : a.eval (.tmp 40) = (.int .i64 (na : Int)) := (hd 2 (show 2 ∈ drU 3 by decide)).1
  have ec : ∀ c, a.eval (.const c) = c := fun c => rfl
  refine owr_eq (X := True) (base := base) (v := .int .i64 (min (na : Int) 100)) rfl rfl ?_ (congrArg (Value.int .i64) hla) hK
  generalize a.eval = ev at e ec
  go_simp
set_option maxRecDepth 100000 in
theorem dr_s4 {Q : Exit → Act → World → Prop} (na ca nb cb la lb : Nat) (pa pb : Option Addr) (ya yb : List Nat) (base : Nat) (f : Nat → Value) (df : List Deferred) (w0 : World) (hla : min (na : Int) 100 = (la : Int)) (hlb : min (nb : Int) 100 = (lb : Int)) (ra : Rb w0 pa la ya) (rb : Rb w0 pb lb yb) (hca : la ≤ ca ∧ la ≤ 100) (hcb : lb ≤ cb ∧ lb ≤ 100) (hbase : base = w0.heap.size) : (drC na ca nb cb la lb pa pb ya yb base f df).Step Tryz.prog Q w0 4 ⟨some 42, Op.slice 34 (Operand.tmp 38) none (some (Operand.tmp 41)) none, 34, "", #[], none⟩ [0, 3] := by
  refine ⟨rfl, rfl, by decide, show drD 4 < 146 by decide, fun j h => ?_, show ∀ j ∈ drU 4, j ∈ ([0, 3] : List Nat) by decide, fun L a w hn hL hcl hB hk hd K hK => ?_⟩
  · have h2 : (none : Option Nat) = some j := h
    cases h2
  have hsz := hk.size
  have e1 : a.eval (.tmp 38) = (.slice pa na ca) := (hd 0 (show 0 ∈ drU 4 by decide)).1
  have e2 : a.eval (.tmp 41) = (.int .i64 (la : Int)) := (hd 3 (show 3 ∈ drU 4 by decide)).1
  have hs := slice_firstO pa na ca la hca.1 w
  refine owr_eq (X := True) (base := base) rfl rfl ?_ rfl hK
  generalize a.eval = ev at e1 e2
  unfold execOp
  simp only [e1, e2, Option.map_some, Option.map_none]
  simp [Instr.sliceAt, run_underlying Tryz.underlying34, hs]
set_option maxRecDepth 100000 in
theorem dr_s5 {Q : Exit → Act → World → Prop} (na ca nb cb la lb : Nat) (pa pb : Option Addr) (ya yb : List Nat) (base : Nat) (f : Nat → Value) (df : List Deferred) (w0 : World) (hla : min (na : Int) 100 = (la : Int)) (hlb : min (nb : Int) 100 = (lb : Int)) (ra : Rb w0 pa la ya) (rb : Rb w0 pb lb yb) (hca : la ≤ ca ∧ la ≤ 100) (hcb : lb ≤ cb ∧ lb ≤ 100) (hbase : base = w0.heap.size) : (drC na ca nb cb la lb pa pb ya yb base f df).Step Tryz.prog Q w0 5 ⟨some 43, Op.call { callee := Callee.value (Operand.func 13), args := #[Operand.tmp 42], argTypes := #[34] }, 34, "", #[], none⟩ [4] := by
  refine ⟨rfl, rfl, by decide, show drD 5 < 146 by decide, fun j h => ?_, show ∀ j ∈ drU 5, j ∈ ([4] : List Nat) by decide, fun L a w hn hL hcl hB hk hd K hK => ?_⟩
  · have h2 : (none : Option Nat) = some j := h
    cases h2
  have hsz := hk.size
  have e : a.eval (.tmp 42) = (.slice pa la ca) := (hd 4 (show 4 ∈ drU 5 by decide)).1
  exact owr_clone rfl pa la ca ya rfl (enter_run _ rfl (by simp only [List.map_toArray, List.map_cons, List.map_nil, e]) (fun _ => by rfl)) (ra.keep0 hk) (by omega) (by omega) hK
set_option maxRecDepth 100000 in
theorem dr_s6 {Q : Exit → Act → World → Prop} (na ca nb cb la lb : Nat) (pa pb : Option Addr) (ya yb : List Nat) (base : Nat) (f : Nat → Value) (df : List Deferred) (w0 : World) (hla : min (na : Int) 100 = (la : Int)) (hlb : min (nb : Int) 100 = (lb : Int)) (ra : Rb w0 pa la ya) (rb : Rb w0 pb lb yb) (hca : la ≤ ca ∧ la ≤ 100) (hcb : lb ≤ cb ∧ lb ≤ 100) (hbase : base = w0.heap.size) : (drC na ca nb cb la lb pa pb ya yb base f df).Step Tryz.prog Q w0 6 ⟨some 44, Op.buildSlice 34 1 #[(0, Operand.const (Value.int IntKind.u8 1))], 34, "", #[], none⟩ [] := by
  refine ⟨rfl, rfl, by decide, show drD 6 < 146 by decide, fun j h => ?_, show ∀ j ∈ drU 6, j ∈ ([] : List Nat) by decide, fun L a w hn hL hcl hB hk hd K hK => ?_⟩
  · have h2 : (none : Option Nat) = some j := h
    cases h2
  have hsz := hk.size
  have ec : ∀ c, a.eval (.const c) = c := fun c => rfl
  refine owr_one rfl 1 rfl ?_ (by omega) hK
  generalize a.eval = ev at ec
  go_simp
set_option maxRecDepth 100000 in
theorem dr_s7 {Q : Exit → Act → World → Prop} (na ca nb cb la lb : Nat) (pa pb : Option Addr) (ya yb : List Nat) (base : Nat) (f : Nat → Value) (df : List Deferred) (w0 : World) (hla : min (na : Int) 100 = (la : Int)) (hlb : min (nb : Int) 100 = (lb : Int)) (ra : Rb w0 pa la ya) (rb : Rb w0 pb lb yb) (hca : la ≤ ca ∧ la ≤ 100) (hcb : lb ≤ cb ∧ lb ≤ 100) (hbase : base = w0.heap.size) : (drC na ca nb cb la lb pa pb ya yb base f df).Step Tryz.prog Q w0 7 ⟨some 45, Op.call { callee := Callee.builtin Builtin.append, args := #[Operand.tmp 43, Operand.tmp 44], argTypes := #[34, 34] }, 34, "", #[], none⟩ [5, 6, 5] := by
  refine ⟨rfl, rfl, by decide, show drD 7 < 146 by decide, fun j h => ?_, show ∀ j ∈ drU 7, j ∈ ([5, 6, 5] : List Nat) by decide, fun L a w hn hL hcl hB hk hd K hK => ?_⟩
  · have h2 : (some 5 : Option Nat) = some j := h
    cases h2
    exact (show 5 ∈ drU 7 by decide)
  have hsz := hk.size
  have h1 := hd 5 (show 5 ∈ drU 7 by decide)
  have h2 := hd 6 (show 6 ∈ drU 7 by decide)
  exact owr_app rfl rfl (.tmp 43) (.tmp 44) rfl ya [1] rfl _ _ rfl rfl h1.1 h2.1 (by decide) (by rw [ra.len]; show _ + 1 ≤ _; omega) (by omega) (fun b hb => ⟨⟨5, rfl, hb⟩, ⟨5, rfl, hb⟩⟩) hK
set_option maxRecDepth 100000 in
theorem dr_s8 {Q : Exit → Act → World → Prop} (na ca nb cb la lb : Nat) (pa pb : Option Addr) (ya yb : List Nat) (base : Nat) (f : Nat → Value) (df : List Deferred) (w0 : World) (hla : min (na : Int) 100 = (la : Int)) (hlb : min (nb : Int) 100 = (lb : Int)) (ra : Rb w0 pa la ya) (rb : Rb w0 pb lb yb) (hca : la ≤ ca ∧ la ≤ 100) (hcb : lb ≤ cb ∧ lb ≤ 100) (hbase : base = w0.heap.size) : (drC na ca nb cb la lb pa pb ya yb base f df).Step Tryz.prog Q w0 8 ⟨some 46, Op.move (Operand.tmp 4), 34, "", #[], none⟩ [] := by
  refine ⟨rfl, rfl, by decide, show drD 8 < 146 by decide, fun j h => ?_, show ∀ j ∈ drU 8, j ∈ ([] : List Nat) by decide, fun L a w hn hL hcl hB hk hd K hK => ?_⟩
  · have h2 : (none : Option Nat) = some j := h
    cases h2
  have hsz := hk.size
  have hq : L 17 = false := by
    cases h : L 17 with
    | false => rfl
    | true =>
      have := hcl 17 _ rfl h 8 (show 8 ∈ ([15, 16, 0, 1, 2, 3, 4, 5, 6, 7, 8, 9, 10, 11, 12, 13, 14, 15, 16] : List Nat) by decide)
      rw [hL] at this
      cases this
  have e : a.eval (.tmp 4) = (.slice pb nb cb) := hB.2.1 hq
  refine owr_eq (X := True) (base := base) rfl rfl ?_ rfl hK
  generalize a.eval = ev at e
  go_simp
set_option maxRecDepth 100000 in
theorem dr_s9 {Q : Exit → Act → World → Prop} (na ca nb cb la lb : Nat) (pa pb : Option Addr) (ya yb : List Nat) (base : Nat) (f : Nat → Value) (df : List Deferred) (w0 : World) (hla : min (na : Int) 100 = (la : Int)) (hlb : min (nb : Int) 100 = (lb : Int)) (ra : Rb w0 pa la ya) (rb : Rb w0 pb lb yb) (hca : la ≤ ca ∧ la ≤ 100) (hcb : lb ≤ cb ∧ lb ≤ 100) (hbase : base = w0.heap.size) : (drC na ca nb cb la lb pa pb ya yb base f df).Step Tryz.prog Q w0 9 ⟨some 47, Op.move (Operand.tmp 4), 34, "", #[], none⟩ [] := by
  refine ⟨rfl, rfl, by decide, show drD 9 < 146 by decide, fun j h => ?_, show ∀ j ∈ drU 9, j ∈ ([] : List Nat) by decide, fun L a w hn hL hcl hB hk hd K hK => ?_⟩
  · have h2 : (none : Option Nat) = some j := h
    cases h2
  have hsz := hk.size
  have hq : L 17 = false := by
    cases h : L 17 with
    | false => rfl
    | true =>
      have := hcl 17 _ rfl h 9 (show 9 ∈ ([15, 16, 0, 1, 2, 3, 4, 5, 6, 7, 8, 9, 10, 11, 12, 13, 14, 15, 16] : List Nat) by decide)
      rw [hL] at this
      cases this
  have e : a.eval (.tmp 4) = (.slice pb nb cb) := hB.2.1 hq
  refine owr_eq (X := True) (base := base) rfl rfl ?_ rfl hK
  generalize a.eval = ev at e
  go_simp
set_option maxRecDepth 100000 in
theorem dr_s10 {Q : Exit → Act → World → Prop} (na ca nb cb la lb : Nat) (pa pb : Option Addr) (ya yb : List Nat) (base : Nat) (f : Nat → Value) (df : List Deferred) (w0 : World) (hla : min (na : Int) 100 = (la : Int)) (hlb : min (nb : Int) 100 = (lb : Int)) (ra : Rb w0 pa la ya) (rb : Rb w0 pb lb yb) (hca : la ≤ ca ∧ la ≤ 100) (hcb : lb ≤ cb ∧ lb ≤ 100) (hbase : base = w0.heap.size) : (drC na ca nb cb la lb pa pb ya yb base f df).Step Tryz.prog Q w0 10 ⟨some 48, Op.call { callee := Callee.builtin Builtin.len, args := #[Operand.tmp 47], argTypes := #[34] }, 3, "", #[], none⟩ [9] := by
  refine ⟨rfl, rfl, by decide, show drD 10 < 146 by decide, fun j h => ?_, show ∀ j ∈ drU 10, j ∈ ([9] : List Nat) by decide, fun L a w hn hL hcl hB hk hd K hK => ?_⟩
  · have h2 : (none : Option Nat) = some j := h
    cases h2
  have hsz := hk.size
  have e : a.eval (.tmp 47) = (.slice pb nb cb) := (hd 9 (show 9 ∈ drU 10 by decide)).1
  refine owr_eq (X := True) (base := base) rfl rfl ?_ rfl hK
  generalize a.eval = ev at e
  go_simp
set_option maxRecDepth 100000 in
theorem dr_s11 {Q : Exit → Act → World → Prop} (na ca nb cb la lb : Nat) (pa pb : Option Addr) (ya yb : List Nat) (base : Nat) (f : Nat → Value) (df : List Deferred) (w0 : World) (hla : min (na : Int) 100 = (la : Int)) (hlb : min (nb : Int) 100 = (lb : Int)) (ra : Rb w0 pa la ya) (rb : Rb w0 pb lb yb) (hca : la ≤ ca ∧ la ≤ 100) (hcb : lb ≤ cb ∧ lb ≤ 100) (hbase : base = w0.heap.size) : (drC na ca nb cb la lb pa pb ya yb base f df).Step Tryz.prog Q w0 11 ⟨some 49, Op.call { callee := Callee.builtin Builtin.min, args := #[Operand.tmp 48, Operand.const (Value.int IntKind.i64 100)], argTypes := #[3, 3] }, 3, "", #[], none⟩ [10] := by
  refine ⟨rfl, rfl, by decide, show drD 11 < 146 by decide, fun j h => ?_, show ∀ j ∈ drU 11, j ∈ ([10] : List Nat) by decide, fun L a w hn hL hcl hB hk hd K hK => ?_⟩
  · have h2 : (none : Option Nat) = some j := h
    cases h2
  have hsz := hk.size
  have e : a.eval (.tmp 48) = (.int .i64 (nb : Int)) := (hd 10 (show 10 ∈ drU 11 by decide)).1
  have ec : ∀ c, a.eval (.const c) = c := fun c => rfl
  refine owr_eq (X := True) (base := base) (v := .int .i64 (min (nb : Int) 100)) rfl rfl ?_ (congrArg (Value.int .i64) hlb) hK
  generalize a.eval = ev at e ec
  go_simp
set_option maxRecDepth 100000 in
theorem dr_s12 {Q : Exit → Act → World → Prop} (na ca nb cb la lb : Nat) (pa pb : Option Addr) (ya yb : List Nat) (base : Nat) (f : Nat → Value) (df : List Deferred) (w0 : World) (hla : min (na : Int) 100 = (la : Int)) (hlb : min (nb : Int) 100 = (lb : Int)) (ra : Rb w0 pa la ya) (rb : Rb w0 pb lb yb) (hca : la ≤ ca ∧ la ≤ 100) (hcb : lb ≤ cb ∧ lb ≤ 100) (hbase : base = w0.heap.size) : (drC na ca nb cb la lb pa pb ya yb base f df).Step Tryz.prog Q w0 12 ⟨some 50, Op.slice 34 (Operand.tmp 46) none (some (Operand.tmp 49)) none, 34, "", #[], none⟩ [8, 11] := by
  refine ⟨rfl, rfl, by decide, show drD 12 < 146 by decide, fun j h => ?_, show ∀ j ∈ drU 12, j ∈ ([8, 11] : List Nat) by decide, fun L a w hn hL hcl hB hk hd K hK => ?_⟩
  · have h2 : (none : Option Nat) = some j := h
    cases h2
  have hsz := hk.size
  have e1 : a.eval (.tmp 46) = (.slice pb nb cb) := (hd 8 (show 8 ∈ drU 12 by decide)).1
  have e2 : a.eval (.tmp 49) = (.int .i64 (lb : Int)) := (hd 11 (show 11 ∈ drU 12 by decide)).1
  have hs := slice_firstO pb nb cb lb hcb.1 w
  refine owr_eq (X := True) (base := base) rfl rfl ?_ rfl hK
  generalize a.eval = ev at e1 e2
  unfold execOp
  simp only [e1, e2, Option.map_some, Option.map_none]
  simp [Instr.sliceAt, run_underlying Tryz.underlying34, hs]
set_option maxRecDepth 100000 in
theorem dr_s13 {Q : Exit → Act → World → Prop} (na ca nb cb la lb : Nat) (pa pb : Option Addr) (ya yb : List Nat) (base : Nat) (f : Nat → Value) (df : List Deferred) (w0 : World) (hla : min (na : Int) 100 = (la : Int)) (hlb : min (nb : Int) 100 = (lb : Int)) (ra : Rb w0 pa la ya) (rb : Rb w0 pb lb yb) (hca : la ≤ ca ∧ la ≤ 100) (hcb : lb ≤ cb ∧ lb ≤ 100) (hbase : base = w0.heap.size) : (drC na ca nb cb la lb pa pb ya yb base f df).Step Tryz.prog Q w0 13 ⟨some 51, Op.call { callee := Callee.value (Operand.func 13), args := #[Operand.tmp 50], argTypes := #[34] }, 34, "", #[], none⟩ [12, 7] := by
  refine ⟨rfl, rfl, by decide, show drD 13 < 146 by decide, fun j h => ?_, show ∀ j ∈ drU 13, j ∈ ([12, 7] : List Nat) by decide, fun L a w hn hL hcl hB hk hd K hK => ?_⟩
  · have h2 : (none : Option Nat) = some j := h
    cases h2
  have hsz := hk.size
  have e : a.eval (.tmp 50) = (.slice pb lb cb) := (hd 12 (show 12 ∈ drU 13 by decide)).1
  exact owr_clone rfl pb lb cb yb rfl (enter_run _ rfl (by simp only [List.map_toArray, List.map_cons, List.map_nil, e]) (fun _ => by rfl)) (rb.keep0 hk) (by omega) (by omega) hK
set_option maxRecDepth 100000 in
theorem dr_s14 {Q : Exit → Act → World → Prop} (na ca nb cb la lb : Nat) (pa pb : Option Addr) (ya yb : List Nat) (base : Nat) (f : Nat → Value) (df : List Deferred) (w0 : World) (hla : min (na : Int) 100 = (la : Int)) (hlb : min (nb : Int) 100 = (lb : Int)) (ra : Rb w0 pa la ya) (rb : Rb w0 pb lb yb) (hca : la ≤ ca ∧ la ≤ 100) (hcb : lb ≤ cb ∧ lb ≤ 100) (hbase : base = w0.heap.size) : (drC na ca nb cb la lb pa pb ya yb base f df).Step Tryz.prog Q w0 14 ⟨some 52, Op.buildSlice 34 1 #[(0, Operand.const (Value.int IntKind.u8 2))], 34, "", #[], none⟩ [] := by
  refine ⟨rfl, rfl, by decide, show drD 14 < 146 by decide, fun j h => ?_, show ∀ j ∈ drU 14, j ∈ ([] : List Nat) by decide, fun L a w hn hL hcl hB hk hd K hK => ?_⟩
  · have h2 : (none : Option Nat) = some j := h
    cases h2
  have hsz := hk.size
  have ec : ∀ c, a.eval (.const c) = c := fun c => rfl
  refine owr_one rfl 2 rfl ?_ (by omega) hK
  generalize a.eval = ev at ec
  go_simp
set_option maxRecDepth 100000 in
theorem dr_s15 {Q : Exit → Act → World → Prop} (na ca nb cb la lb : Nat) (pa pb : Option Addr) (ya yb : List Nat) (base : Nat) (f : Nat → Value) (df : List Deferred) (w0 : World) (hla : min (na : Int) 100 = (la : Int)) (hlb : min (nb : Int) 100 = (lb : Int)) (ra : Rb w0 pa la ya) (rb : Rb w0 pb lb yb) (hca : la ≤ ca ∧ la ≤ 100) (hcb : lb ≤ cb ∧ lb ≤ 100) (hbase : base = w0.heap.size) : (drC na ca nb cb la lb pa pb ya yb base f df).Step Tryz.prog Q w0 15 ⟨some 53, Op.call { callee := Callee.builtin Builtin.append, args := #[Operand.tmp 51, Operand.tmp 52], argTypes := #[34, 34] }, 34, "", #[], none⟩ [13, 14, 13] := by
  refine ⟨rfl, rfl, by decide, show drD 15 < 146 by decide, fun j h => ?_, show ∀ j ∈ drU 15, j ∈ ([13, 14, 13] : List Nat) by decide, fun L a w hn hL hcl hB hk hd K hK => ?_⟩
  · have h2 : (some 13 : Option Nat) = some j := h
    cases h2
    exact (show 13 ∈ drU 15 by decide)
  have hsz := hk.size
  have h1 := hd 13 (show 13 ∈ drU 15 by decide)
  have h2 := hd 14 (show 14 ∈ drU 15 by decide)
  exact owr_app rfl rfl (.tmp 51) (.tmp 52) rfl yb [2] rfl _ _ rfl rfl h1.1 h2.1 (by decide) (by rw [rb.len]; show _ + 1 ≤ _; omega) (by omega) (fun b hb => ⟨⟨13, rfl, hb⟩, ⟨13, rfl, hb⟩⟩) hK
set_option maxRecDepth 100000 in
theorem dr_s16 {Q : Exit → Act → World → Prop} (na ca nb cb la lb : Nat) (pa pb : Option Addr) (ya yb : List Nat) (base : Nat) (f : Nat → Value) (df : List Deferred) (w0 : World) (hla : min (na : Int) 100 = (la : Int)) (hlb : min (nb : Int) 100 = (lb : Int)) (ra : Rb w0 pa la ya) (rb : Rb w0 pb lb yb) (hca : la ≤ ca ∧ la ≤ 100) (hcb : lb ≤ cb ∧ lb ≤ 100) (hbase : base = w0.heap.size) : (drC na ca nb cb la lb pa pb ya yb base f df).Step Tryz.prog Q w0 16 ⟨some 3, Op.assign (Operand.tmp 45), 34, "", #[], none⟩ [7, 15, 0, 1, 2, 3, 4, 5, 6, 7] := by
  refine ⟨rfl, rfl, by decide, show drD 16 < 146 by decide, fun j h => ?_, show ∀ j ∈ drU 16, j ∈ ([7, 15, 0, 1, 2, 3, 4, 5, 6, 7] : List Nat) by decide, fun L a w hn hL hcl hB hk hd K hK => ?_⟩
  · have h2 : (some 7 : Option Nat) = some j := h
    cases h2
    exact (show 7 ∈ drU 16 by decide)
  have hsz := hk.size
  have h1 := hd 7 (show 7 ∈ drU 16 by decide)
  refine owr_move rfl _ rfl (a.eval (.tmp 45)) ?_ h1.1 (fun b hb => ⟨7, rfl, hb⟩) hK
  generalize a.eval = ev
  go_simp
set_option maxRecDepth 100000 in
theorem dr_s17 {Q : Exit → Act → World → Prop} (na ca nb cb la lb : Nat) (pa pb : Option Addr) (ya yb : List Nat) (base : Nat) (f : Nat → Value) (df : List Deferred) (w0 : World) (hla : min (na : Int) 100 = (la : Int)) (hlb : min (nb : Int) 100 = (lb : Int)) (ra : Rb w0 pa la ya) (rb : Rb w0 pb lb yb) (hca : la ≤ ca ∧ la ≤ 100) (hcb : lb ≤ cb ∧ lb ≤ 100) (hbase : base = w0.heap.size) : (drC na ca nb cb la lb pa pb ya yb base f df).Step Tryz.prog Q w0 17 ⟨some 4, Op.assign (Operand.tmp 53), 34, "", #[], none⟩ [15, 16, 0, 1, 2, 3, 4, 5, 6, 7, 8, 9, 10, 11, 12, 13, 14, 15, 16] := by
  refine ⟨rfl, rfl, by decide, show drD 17 < 146 by decide, fun j h => ?_, show ∀ j ∈ drU 17, j ∈ ([15, 16, 0, 1, 2, 3, 4, 5, 6, 7, 8, 9, 10, 11, 12, 13, 14, 15, 16] : List Nat) by decide, fun L a w hn hL hcl hB hk hd K hK => ?_⟩
  · have h2 : (some 15 : Option Nat) = some j := h
    cases h2
    exact (show 15 ∈ drU 17 by decide)
  have hsz := hk.size
  have h1 := hd 15 (show 15 ∈ drU 17 by decide)
  refine owr_move rfl _ rfl (a.eval (.tmp 53)) ?_ h1.1 (fun b hb => ⟨15, rfl, hb⟩) hK
  generalize a.eval = ev
  go_simp
theorem dr_steps {Q : Exit → Act → World → Prop} (na ca nb cb la lb : Nat) (pa pb : Option Addr) (ya yb : List Nat) (base : Nat) (f : Nat → Value) (df : List Deferred) (w0 : World) (hla : min (na : Int) 100 = (la : Int)) (hlb : min (nb : Int) 100 = (lb : Int)) (ra : Rb w0 pa la ya) (rb : Rb w0 pb lb yb) (hca : la ≤ ca ∧ la ≤ 100) (hcb : lb ≤ cb ∧ lb ≤ 100) (hbase : base = w0.heap.size) : (drC na ca nb cb la lb pa pb ya yb base f df).Steps Tryz.prog Q w0 0 drT := ⟨dr_s0 na ca nb cb la lb pa pb ya yb base f df w0 hla hlb ra rb hca hcb hbase, dr_s1 na ca nb cb la lb pa pb ya yb base f df w0 hla hlb ra rb hca hcb hbase, dr_s2 na ca nb cb la lb pa pb ya yb base f df w0 hla hlb ra rb hca hcb hbase, dr_s3 na ca nb cb la lb pa pb ya yb base f df w0 hla hlb ra rb hca hcb hbase, dr_s4 na ca nb cb la lb pa pb ya yb base f df w0 hla hlb ra rb hca hcb hbase, dr_s5 na ca nb cb la lb pa pb ya yb base f df w0 hla hlb ra rb hca hcb hbase, dr_s6 na ca nb cb la lb pa pb ya yb base f df w0 hla hlb ra rb hca hcb hbase, dr_s7 na ca nb cb la lb pa pb ya yb base f df w0 hla hlb ra rb hca hcb hbase, dr_s8 na ca nb cb la lb pa pb ya yb base f df w0 hla hlb ra rb hca hcb hbase, dr_s9 na ca nb cb la lb pa pb ya yb base f df w0 hla hlb ra rb hca hcb hbase, dr_s10 na ca nb cb la lb pa pb ya yb base f df w0 hla hlb ra rb hca hcb hbase, dr_s11 na ca nb cb la lb pa pb ya yb base f df w0 hla hlb ra rb hca hcb hbase, dr_s12 na ca nb cb la lb pa pb ya yb base f df w0 hla hlb ra rb hca hcb hbase, dr_s13 na ca nb cb la lb pa pb ya yb base f df w0 hla hlb ra rb hca hcb hbase, dr_s14 na ca nb cb la lb pa pb ya yb base f df w0 hla hlb ra rb hca hcb hbase, dr_s15 na ca nb cb la lb pa pb ya yb base f df w0 hla hlb ra rb hca hcb hbase, dr_s16 na ca nb cb la lb pa pb ya yb base f df w0 hla hlb ra rb hca hcb hbase, dr_s17 na ca nb cb la lb pa pb ya yb base f df w0 hla hlb ra rb hca hcb hbase, trivial⟩
set_option maxRecDepth 100000 in
/-- the region as a whole -/
theorem dr_region {ops : Array Oper} {Q : Exit → Act → World → Prop} (hT : ops.toList.map (fun o => (bare o, deps o)) = drT) {id : Nat} {a0 : Act} {y : World} (na ca nb cb la lb : Nat) (pa pb : Option Addr) (ya yb : List Nat)
    (hn : a0.tmps.size = 146) (h3 : a0.eval (.tmp 3) = .slice pa na ca) (h4 : a0.eval (.tmp 4) = .slice pb nb cb) (hla : min (na : Int) 100 = (la : Int)) (hlb : min (nb : Int) 100 = (lb : Int)) (ra : Rb y pa la ya) (rb : Rb y pb lb yb) (hca : la ≤ ca ∧ la ≤ 100) (hcb : lb ≤ cb ∧ lb ≤ 100)
    (hend : ∀ q38 q39 q40 q41 q42 q43 q44 q45 q46 q47 q48 q49 q50 q51 q52 q53 q3 q4 w, Kp (fun _ => False) y w → Ow w y.heap.size q3 (ya ++ [1]) → Ow w y.heap.size q4 (yb ++ [2]) → Q .normal ((((((((((((((((((a0.put (some 38) q38).put (some 39) q39).put (some 40) q40).put (some 41) q41).put (some 42) q42).put (some 43) q43).put (some 44) q44).put (some 45) q45).put (some 46) q46).put (some 47) q47).put (some 48) q48).put (some 49) q49).put (some 50) q50).put (some 51) q51).put (some 52) q52).put (some 53) q53).put (some 3) q3).put (some 4) q4) w) :
    (Code.region id ops true).wp Tryz.prog Q a0 y := by
  have kd : Kp (fun _ => False) y y.drew := (Kp.refl _ _).drew
  have kx : (drC na ca nb cb la lb pa pb ya yb y.heap.size (fun t => a0.eval (.tmp t)) a0.defers).Steps Tryz.prog Q y.drew 0 drT := dr_steps na ca nb cb la lb pa pb ya yb y.heap.size (fun t => a0.eval (.tmp t)) a0.defers y.drew hla hlb (ra.keep0 kd) (rb.keep0 kd) hca hcb rfl
  refine own_region (drC na ca nb cb la lb pa pb ya yb y.heap.size (fun t => a0.eval (.tmp t)) a0.defers) (by kernel_rfl) hT hn ⟨fun _ => h3, fun _ => h4, fun _ _ => rfl, rfl⟩ (fun k v a L hk _ h => drB_put _ _ _ _ _ _ _ _ k v a L hk h) (fun i j h1 h2 => drDi i h1 j h2) (fun k k' h1 h2 j he hu => drEU k h1 k' h2 j hu he)
    (fun i v w w' S h k hS => Kd.keep h k hS) kx (fun L a w h1 h2 h3 h4 => ?_)
  obtain ⟨_, _, hfr, bd⟩ := h2
  have e := act_puts a drL a0 (h1.trans hn.symm) bd hfr
  rw [e]
  exact hend (a.eval (.tmp 38)) (a.eval (.tmp 39)) (a.eval (.tmp 40)) (a.eval (.tmp 41)) (a.eval (.tmp 42)) (a.eval (.tmp 43)) (a.eval (.tmp 44)) (a.eval (.tmp 45)) (a.eval (.tmp 46)) (a.eval (.tmp 47)) (a.eval (.tmp 48)) (a.eval (.tmp 49)) (a.eval (.tmp 50)) (a.eval (.tmp 51)) (a.eval (.tmp 52)) (a.eval (.tmp 53)) (a.eval (.tmp 3)) (a.eval (.tmp 4)) w (kd.trans h3 (fun _ _ e => e)) (h4 16 (show 16 < drT.length by decide) drE16).1 (h4 17 (show 17 < drT.length by decide) drE17).1
end Go.Proofs.YtmooddbhcccicaaGreatDoor

/- ShelfDrops. -/
namespace Go.Proofs.YtmooddbhcccicaaGreatDoor
set_option linter.unusedVariables false
set_option linter.unusedSimpArgs false
open Go.RowKit Go.Deep Go.Maps

theorem sh8 (z : Int) : ∃ b : Nat, wrap64 (IntKind.u64.wrap z / 256) = (b : Int) ∧ b ≤ 72057594037927936 := by
  have h1 : IntKind.u64.wrap z = z % 18446744073709551616 := by simp [IntKind.wrap, IntKind.bits, IntKind.signed]
  refine ⟨(IntKind.u64.wrap z / 256).toNat, ?_, ?_⟩
  · rw [h1]; unfold wrap64; omega
  · rw [h1]; omega
theorem md100 (z : Int) : ∃ f : Nat, wrap64 (1 + wrap64 ((IntKind.u64.wrap z).tmod 100)) = ((f + 1 : Nat) : Int) ∧ f ≤ 99 := by
  have h1 : IntKind.u64.wrap z = z % 18446744073709551616 := by simp [IntKind.wrap, IntKind.bits, IntKind.signed]
  have h0 : 0 ≤ IntKind.u64.wrap z := by rw [h1]; omega
  have h2 : (IntKind.u64.wrap z).tmod 100 = IntKind.u64.wrap z % 100 := Int.tmod_eq_emod_of_nonneg h0
  refine ⟨((IntKind.u64.wrap z).tmod 100).toNat, ?_, ?_⟩
  · rw [h2]; unfold wrap64; omega
  · rw [h2]; omega
theorem min100 (n : Nat) : min (n : Int) 100 = ((min n 100 : Nat) : Int) := by omega
theorem Rb.fst {w : World} {p : Option Addr} {n : Nat} {xs : List Nat} (h : Rb w p n xs) {m : Nat} (hm : m ≤ n) : Rb w p m (xs.take m) := by
  refine ⟨by rw [List.length_take, h.len]; omega, fun x hx => h.byte x (List.mem_of_mem_take hx), fun j hj => ?_⟩
  obtain ⟨b, o, e, c⟩ := h.cell j (by omega)
  refine ⟨b, o, e, ?_⟩
  rw [c, List.getD_eq_getElem?_getD, List.getD_eq_getElem?_getD, List.getElem?_take_of_lt hj]
theorem ne_last (xs ys : List Nat) : ¬ xs ++ [1] = ys ++ [2] := fun e => by
  have := congrArg List.getLast? e
  simp at this

set_option maxRecDepth 100000 in
set_option maxHeartbeats 64000000 in
theorem shelfDrops_walk (z0 z1 z2 : Int) (pa : Option Addr) (na ca : Nat) (xa : List Nat) (pb : Option Addr) (nb cb : Nat) (xb : List Nat) (w : World) (h0 : (Lit.int .i64 z0).wf = true) (h1 : (Lit.int .i64 z1).wf = true) (h2 : (Lit.int .i64 z2).wf = true)
    (ra : Rb w pa na xa) (lca : na ≤ ca) (sa : Hid (na ≤ 140737488355328)) (rb : Rb w pb nb xb) (lcb : nb ≤ cb) (sb : Hid (nb ≤ 140737488355328)) (ht : Turns w) :
    Calls Tryz.prog 7 #[.int .i64 z0, .int .i64 z1, .int .i64 z2, .slice pa na ca, .slice pb nb cb] w fun e w' => e = .returned (.bool true) ∧ Kp (fun _ => False) w w' := by
  have HFr : Hid (Calls _ _ _ w _) := fresh8_ok w ht
  have HA : Hid (Rb w pa na xa ∧ na ≤ ca ∧ na ≤ 140737488355328) := ⟨ra, lca, sa.out⟩
  have HB : Hid (Rb w pb nb xb ∧ nb ≤ cb ∧ nb ≤ 140737488355328) := ⟨rb, lcb, sb.out⟩
  clear ra lca sa rb lcb sb ht
  go_enter Tryz.func7, Tryz.ntmps7
  go_wp2_with fail
  refine HFr.out.mono ?_
  rintro e9 w1 ⟨sh, mp, g, gf, bp, d, m, dur, rfl, k1, hz1, s1⟩
  have HK1 : Hid (Kp (fun _ => False) w w1) := k1
  have HZ1 : Hid (w.heap.size ≤ sh ∧ w.heap.size ≤ mp ∧ w.heap.size ≤ g ∧ w.heap.size ≤ gf ∧ w.heap.size ≤ bp ∧ w.heap.size ≤ d ∧ w.heap.size ≤ m) := hz1
  have HS1 : Hid (Shf w1 (fun x => w1.heap.size ≤ x) sh mp g bp d m gf 298 1 1 0 1 0 dur []) := s1
  clear k1 hz1 s1 HFr
  obtain ⟨bl, e0, hbl⟩ := sh8 z0
  obtain ⟨ix, e1, hix⟩ := sh8 z1
  obtain ⟨f, e2, hf⟩ := md100 z2
  obtain ⟨F, hF⟩ : ∃ F, F = f + 1 := ⟨_, rfl⟩
  rw [← hF] at e2
  go_upto_region 5 with fail
  rw [e0, e1, e2]
  have HQ : Hid (bl ≤ 1152921504606846976 ∧ ix ≤ 1152921504606846976 ∧ F ≤ 1152921504606846976 ∧ f ≤ 1152921504606846976) := ⟨by omega, by omega, by omega, by omega⟩
  have HFf : Hid (F = f + 1) := hF
  have hwf : wrap64 ((F : Int) - 1) = (f : Int) := by unfold wrap64; omega
  clear h0 h1 h2 hbl hix hf e0 e1 e2 hF
  obtain ⟨a1, a2, a3⟩ := HA.out
  obtain ⟨b1, b2, b3⟩ := HB.out
  have ra := (a1.keep0 HK1.out).fst (m := min na 100) (by omega)
  have rb := (b1.keep0 HK1.out).fst (m := min nb 100) (by omega)
  refine dr_region (by kernel_rfl) na ca nb cb (min na 100) (min nb 100) pa pb (xa.take (min na 100)) (xb.take (min nb 100)) rfl rfl rfl (min100 na) (min100 nb) ra rb ⟨by omega, by omega⟩ ⟨by omega, by omega⟩ ?_
  have HL : Hid (1 ≤ (xa.take (min na 100) ++ [1]).length ∧ (xa.take (min na 100) ++ [1]).length ≤ 600 ∧ 1 ≤ (xb.take (min nb 100) ++ [2]).length ∧ (xb.take (min nb 100) ++ [2]).length ≤ 600) := by
    have l1 := ra.len
    have l2 := rb.len
    show 1 ≤ _ ∧ _ ≤ 600 ∧ 1 ≤ _ ∧ _ ≤ 600
    simp only [List.length_append, List.length_cons, List.length_nil]
    omega
  have HBy : Hid ((∀ x ∈ xa.take (min na 100) ++ [1], x < 256) ∧ ∀ x ∈ xb.take (min nb 100) ++ [2], x < 256) := by
    refine ⟨fun x hx => ?_, fun x hx => ?_⟩
    · rcases List.mem_append.1 hx with hx | hx
      · exact ra.byte x hx
      · rw [List.mem_singleton.1 hx]; decide
    · rcases List.mem_append.1 hx with hx | hx
      · exact rb.byte x hx
      · rw [List.mem_singleton.1 hx]; decide
  have HNe : Hid (¬ xa.take (min na 100) ++ [1] = xb.take (min nb 100) ++ [2]) := ne_last _ _
  clear ra rb a1 a2 a3 b1 b2 b3 HA HB
  obtain ⟨xa1, hxa⟩ : ∃ y, y = xa.take (min na 100) ++ [1] := ⟨_, rfl⟩
  obtain ⟨xb1, hxb⟩ : ∃ y, y = xb.take (min nb 100) ++ [2] := ⟨_, rfl⟩
  obtain ⟨N, hN⟩ : ∃ N, N = w1.heap.size := ⟨_, rfl⟩
  rw [← hxa, ← hxb] at HNe HL HBy
  rw [← hxa, ← hxb, ← hN]
  rw [← hN] at HS1
  have HN : Hid (N = w1.heap.size) := hN
  clear hxa hxb hN
  intro q38 q39 q40 q41 q42 q43 q44 q45 q46 q47 q48 q49 q50 q51 q52 q53 q3 q4 w2 k2 oa ob
  simp only [Act.put, List.setIfInBounds_toArray, List.set_cons_succ, List.set_cons_zero]
  have HX0 : Hid (D8 w w2 N sh mp g bp d m gf dur [] ∧ Ow w2 N q3 xa1 ∧ Ow w2 N q4 xb1) := by
    have z := HZ1.out
    exact ⟨⟨HS1.out.keep0 k2, HK1.out.trans k2 (fun _ _ e => e), by rw [HN.out]; exact k2.size, ⟨z.1, z.2.1, z.2.2.1, z.2.2.2.1, z.2.2.2.2.2.2⟩, fun r hr => absurd hr List.not_mem_nil⟩, oa, ob⟩
  clear k2 oa ob HS1 HK1 HZ1 HN
  obtain ⟨A, hA⟩ : ∃ A, A = (⟨1, bl, ix, 0, xa1⟩ : Rc) := ⟨_, rfl⟩
  have HSt : Hid ((stS ([] : List Rc)).1 ⟨1, (bl : Int), (ix : Int)⟩ = none ∧ fncd [] bl ix = 0 ∧
      (stS [⟨1, bl, ix, 0, xa1⟩]).1 ⟨1, (bl : Int), (ix : Int)⟩ = some ⟨1, bl, ix, 0, xa1⟩ ∧ fncd [⟨1, bl, ix, 0, xa1⟩] bl ix = 0 ∧
      (stS [⟨1, bl, ix, 0, xa1⟩, ⟨3, bl, ix, F, []⟩]).1 ⟨1, (bl : Int), (ix : Int)⟩ = some ⟨1, bl, ix, 0, xa1⟩ ∧
      (stS [⟨1, bl, ix, 0, xa1⟩, ⟨3, bl, ix, F, []⟩, ⟨2, bl, ix, 0, []⟩]).1 ⟨1, (bl : Int), (ix : Int)⟩ = none ∧ fncd [⟨1, bl, ix, 0, xa1⟩, ⟨3, bl, ix, F, []⟩, ⟨2, bl, ix, 0, []⟩] bl ix = F ∧
      (stS [⟨1, bl, ix, 0, xa1⟩, ⟨3, bl, ix, F, []⟩, ⟨2, bl, ix, 0, []⟩, ⟨1, bl, ix, 0, xb1⟩]).1 ⟨1, (bl : Int), (ix : Int)⟩ = some ⟨1, bl, ix, 0, xb1⟩ ∧ fncd [⟨1, bl, ix, 0, xa1⟩, ⟨3, bl, ix, F, []⟩, ⟨2, bl, ix, 0, []⟩, ⟨1, bl, ix, 0, xb1⟩] bl ix = F) := by
    have s1 := stS_shard [] bl ix xa1
    have s2 := stS_fence [⟨1, bl, ix, 0, xa1⟩] bl ix F (by have := HFf.out; omega)
    have s3 := stS_drop [⟨1, bl, ix, 0, xa1⟩, ⟨3, bl, ix, F, []⟩] bl ix
    have s4 := stS_shard [⟨1, bl, ix, 0, xa1⟩, ⟨3, bl, ix, F, []⟩, ⟨2, bl, ix, 0, []⟩] bl ix xb1
    refine ⟨rfl, fncd_nil bl ix, s1.1, (s1.2 bl ix).trans (fncd_nil bl ix), (s2.2 bl ix).trans s1.1, s3.1, (s3.2 bl ix).trans s2.1, s4.1, (s4.2 bl ix).trans ((s3.2 bl ix).trans s2.1)⟩
  clear hA
  have HC : Hid (Calls _ _ _ w2 _) := HX0.out.1.drop_none bl ix HQ.out.1 HQ.out.2.1 (by decide) HSt.out.1
  go_wp2_with fail
  refine HC.out.mono ?_
  rintro e9 w3 ⟨rfl, x, o⟩
  have HX1 : Hid (D8 w w3 N sh mp g bp d m gf dur [] ∧ Ow w3 N q3 xa1 ∧ Ow w3 N q4 xb1) := ⟨x, o.ow HX0.out.2.1, o.ow HX0.out.2.2⟩
  clear x o HX0 HC
  have HC : Hid (Calls Tryz.prog 14 #[.pointer (some ⟨sh, 0, none⟩), .int .i64 (bl : Int), .int .i64 (ix : Int), .int .i64 0, q3] w3 _) := HX1.out.1.store_new bl ix 0 HQ.out.1 HQ.out.2.1 (by decide) (show 0 ≤ 5 by decide) HX1.out.2.1 ⟨HL.out.1, HL.out.2.1⟩ HBy.out.1 (Nat.le_of_eq HSt.out.2.1) HSt.out.1
  go_wp2_with fail
  refine HC.out.mono ?_
  rintro e9 w4 ⟨rfl, x, o⟩
  have HX2 : Hid (D8 w w4 N sh mp g bp d m gf dur [⟨1, bl, ix, 0, xa1⟩] ∧ Ow w4 N q3 xa1 ∧ Ow w4 N q4 xb1) := ⟨x, o.ow HX1.out.2.1, o.ow HX1.out.2.2⟩
  clear x o HX1 HC
  have HC : Hid (Calls Tryz.prog 14 #[.pointer (some ⟨sh, 0, none⟩), .int .i64 (bl : Int), .int .i64 (ix : Int), .int .i64 0, q4] w4 fun e9 u' => e9 = .returned (.int .i64 82) ∧ D8 w u' N sh mp g bp d m gf dur [⟨1, bl, ix, 0, xa1⟩] ∧ Oks N w4 u') := by
    have h9 := HX2.out.1.store_there bl ix 0 HQ.out.1 HQ.out.2.1 (by decide) (show 1 ≤ 5 by decide) HX2.out.2.2 HL.out.2.2 HBy.out.2 (Nat.le_of_eq HSt.out.2.2.2.1) HSt.out.2.2.1
    rw [if_neg HNe.out] at h9
    exact h9
  go_wp2_with fail
  refine HC.out.mono ?_
  rintro e9 w5 ⟨rfl, x, o⟩
  have HX3 : Hid (D8 w w5 N sh mp g bp d m gf dur [⟨1, bl, ix, 0, xa1⟩] ∧ Ow w5 N q3 xa1 ∧ Ow w5 N q4 xb1) := ⟨x, o.ow HX2.out.2.1, o.ow HX2.out.2.2⟩
  clear x o HX2 HC
  have HC : Hid (Calls _ _ _ w5 _) := HX3.out.1.fence bl ix F HQ.out.1 HQ.out.2.1 HQ.out.2.2.1 (show 1 ≤ 5 by decide) (by rw [HSt.out.2.2.2.1]; have := HFf.out; omega)
  go_wp2_with fail
  refine HC.out.mono ?_
  rintro e9 w6 ⟨rfl, x, o⟩
  have HX4 : Hid (D8 w w6 N sh mp g bp d m gf dur [⟨1, bl, ix, 0, xa1⟩, ⟨3, bl, ix, F, []⟩] ∧ Ow w6 N q3 xa1 ∧ Ow w6 N q4 xb1) := ⟨x, o.ow HX3.out.2.1, o.ow HX3.out.2.2⟩
  clear x o HX3 HC
  have HC : Hid (Calls _ _ _ w6 _) := HX4.out.1.drop_some bl ix HQ.out.1 HQ.out.2.1 (show 2 ≤ 5 by decide) HSt.out.2.2.2.2.1
  go_wp2_with fail
  refine HC.out.mono ?_
  rintro e9 w7 ⟨rfl, x, o⟩
  have HX5 : Hid (D8 w w7 N sh mp g bp d m gf dur [⟨1, bl, ix, 0, xa1⟩, ⟨3, bl, ix, F, []⟩, ⟨2, bl, ix, 0, []⟩] ∧ Ow w7 N q3 xa1 ∧ Ow w7 N q4 xb1) := ⟨x, o.ow HX4.out.2.1, o.ow HX4.out.2.2⟩
  clear x o HX4 HC
  have HC : Hid (Calls _ _ _ w7 _) := HX5.out.1.fetch_none bl ix F HQ.out.1 HQ.out.2.1 HQ.out.2.2.1 (Nat.le_of_eq HSt.out.2.2.2.2.2.2.1) HSt.out.2.2.2.2.2.1
  go_wp2_with fail
  refine HC.out.mono ?_
  rintro e9 w8 ⟨rfl, x, o⟩
  have HX6 : Hid (D8 w w8 N sh mp g bp d m gf dur [⟨1, bl, ix, 0, xa1⟩, ⟨3, bl, ix, F, []⟩, ⟨2, bl, ix, 0, []⟩] ∧ Ow w8 N q3 xa1 ∧ Ow w8 N q4 xb1) := ⟨x, o.ow HX5.out.2.1, o.ow HX5.out.2.2⟩
  clear x o HX5 HC
  have HC : Hid (Calls _ _ _ w8 _) := HX6.out.1.store_low bl ix f HQ.out.1 HQ.out.2.1 HQ.out.2.2.2 (show 3 ≤ 5 by decide) HX6.out.2.2 HL.out.2.2 HBy.out.2 (by rw [HSt.out.2.2.2.2.2.2.1]; have := HFf.out; omega)
  go_wp2_with fail
  refine HC.out.mono ?_
  rintro e9 w9 ⟨rfl, x, o⟩
  have HX7 : Hid (D8 w w9 N sh mp g bp d m gf dur [⟨1, bl, ix, 0, xa1⟩, ⟨3, bl, ix, F, []⟩, ⟨2, bl, ix, 0, []⟩] ∧ Ow w9 N q3 xa1 ∧ Ow w9 N q4 xb1) := ⟨x, o.ow HX6.out.2.1, o.ow HX6.out.2.2⟩
  clear x o HX6 HC
  have HC : Hid (Calls _ _ _ w9 _) := HX7.out.1.store_new bl ix F HQ.out.1 HQ.out.2.1 HQ.out.2.2.1 (show 3 ≤ 5 by decide) HX7.out.2.2 HL.out.2.2 HBy.out.2 (Nat.le_of_eq HSt.out.2.2.2.2.2.2.1) HSt.out.2.2.2.2.2.1
  go_wp2_with fail
  refine HC.out.mono ?_
  rintro e9 wa ⟨rfl, x, o⟩
  have HX8 : Hid (D8 w wa N sh mp g bp d m gf dur [⟨1, bl, ix, 0, xa1⟩, ⟨3, bl, ix, F, []⟩, ⟨2, bl, ix, 0, []⟩, ⟨1, bl, ix, 0, xb1⟩] ∧ Ow wa N q3 xa1 ∧ Ow wa N q4 xb1) := ⟨x, o.ow HX7.out.2.1, o.ow HX7.out.2.2⟩
  clear x o HX7 HC
  have HC : Hid (Calls _ _ _ wa _) := HX8.out.1.fetch_some bl ix F HQ.out.1 HQ.out.2.1 HQ.out.2.2.1 (Nat.le_of_eq HSt.out.2.2.2.2.2.2.2.2) HSt.out.2.2.2.2.2.2.2.1
  go_wp2_with fail
  refine HC.out.mono ?_
  rintro e9 wb ⟨vx, rfl, ox, x, o⟩
  have HX9 : Hid (D8 w wb N sh mp g bp d m gf dur [⟨1, bl, ix, 0, xa1⟩, ⟨3, bl, ix, F, []⟩, ⟨2, bl, ix, 0, []⟩, ⟨1, bl, ix, 0, xb1⟩]) := x
  have HC2 : Hid (Calls Tryz.prog 20 #[vx, q4] wb fun e u' => e = .returned (.bool true) ∧ u' = wb) := by
    have h9 := eq_own ox (o.ow HX8.out.2.2) HBy.out.2 HBy.out.2
    rw [decide_eq_true rfl] at h9
    exact h9
  have HC3 : Hid (Calls Tryz.prog 19 #[.pointer (some ⟨sh, 0, none⟩), .int .i64 (bl : Int), .int .i64 (ix : Int)] wb fun e u' => e = .returned (.int .i64 (F : Int)) ∧ u' = wb) := by
    have h9 := x.fenced bl ix HQ.out.1 HQ.out.2.1
    rw [HSt.out.2.2.2.2.2.2.2.2] at h9
    exact h9
  clear x o HX8 HC ox
  go_wp2_with fail
  refine HC2.out.mono ?_
  rintro e9 wc ⟨rfl, hw9⟩
  have hw8 := hw9.symm
  subst hw8
  clear hw9 HC2
  go_wp2_with fail
  refine HC3.out.mono ?_
  rintro e9 wc ⟨rfl, hw9⟩
  have hw8 := hw9.symm
  subst hw8
  clear hw9 HC3
  go_wp2
  go_ret
  exact ⟨rfl, HX9.out.k⟩
end Go.Proofs.YtmooddbhcccicaaGreatDoor
