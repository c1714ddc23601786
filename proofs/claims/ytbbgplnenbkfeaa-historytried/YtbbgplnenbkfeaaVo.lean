/- The document's fits and the program's times, beside each other, plain. -/
import Derived.Test.YtbbgplnenbkfeaaVm
namespace Go.Proofs.Ytbbgplnenbkfeaa
set_option linter.unusedVariables false
set_option linter.unusedSimpArgs false
open Go.RowKit Go.Deep Go.Maps

theorem Rls.get {g : List Hc} {rs : List Rc} (h : Rls g rs) {i : Nat} (hi : i < g.length) : Rl (g.getD i hc0) (rs.getD i rc0) := by
  have hl := h.l
  rw [List.getD_eq_getElem?_getD, List.getD_eq_getElem?_getD, List.getElem?_eq_getElem hi, List.getElem?_eq_getElem (by omega)]
  exact h.r i _ _ (List.getElem?_eq_getElem hi) (List.getElem?_eq_getElem (by omega))
theorem Rl.un {c : Hc} {r : Rc} (h : Rl c r) (h0 : c.says = 0) : ansR r = false := by
  unfold ansR
  cases ht : c.told with
  | false => rw [(h.n ht).1]; rfl
  | true =>
    rcases (h.y ht).2 with ⟨q, _⟩ | ⟨q, q2, _⟩
    · rcases q with q | q <;> rw [q] <;> simp
    · omega
theorem Rl.an {c : Hc} {r : Rc} (h : Rl c r) (h0 : c.says ≠ 0) : ansR r = true ∧ r.says = c.says ∧ r.to = c.to ∧ r.g = c.g := by
  cases ht : c.told with
  | false => exact absurd (h.n ht).2 h0
  | true =>
    obtain ⟨h1, h2⟩ := h.y ht
    rcases h2 with ⟨_, q⟩ | ⟨q, q2, q3, q4⟩
    · exact absurd q h0
    · refine ⟨?_, q2.symm, q3.symm, q4.symm⟩
      unfold ansR
      rw [decide_eq_true h1]
      rcases q with q | q | q <;> rw [q] <;> rfl
theorem Rl.span {c : Hc} {r : Rc} (h : Rl c r) (en : Int) : spanR r en = if c.says = 0 then en else c.to := by
  unfold spanR
  by_cases h0 : c.says = 0
  · rw [h.un h0, if_pos h0]; rfl
  · rw [(h.an h0).1, if_neg h0, (h.an h0).2.2.1]; rfl
theorem Rl.may {c : Hc} {r : Rc} (h : Rl c r) (kd : Int) : mayR kd r = true ↔ c.e.kind = kd ∧ (c.says = 0 ∨ c.says = 1) := by
  unfold mayR
  rw [h.kd, Bool.and_eq_true, beq_iff_eq]
  by_cases h0 : c.says = 0
  · rw [h.un h0]
    simp [h0]
  · rw [(h.an h0).1, (h.an h0).2.1]
    simp [h0]
/-- a key's calls, with what is known of their answers -/
structure Wk (g : List Hc) (L : Int) : Prop where
  w : Wfg g L
  l : 0 ≤ L ∧ L ≤ 900
  t : ∀ c ∈ g, c.says ≠ 0 → c.to < L
  s : ∀ c ∈ g, c.says = 0 ∨ c.says = 1 ∨ (c.says = 2 ∧ c.e.kind = 1) ∨ (c.says = 3 ∧ c.e.kind ≠ 1)
theorem Inv.wk {k : Nat} {cs : List Hc} (h : Inv k cs) (hk : k ≤ 900) (key : List UInt8) : Wk (grpOf cs key) (k : Int) := by
  have hm : ∀ c ∈ grpOf cs key, c ∈ cs := fun c hc => (List.mem_filter.1 hc).1
  refine ⟨h.wfg hk key, by omega, fun c hc h0 => ?_, fun c hc => (h.sy c (hm c hc)).1⟩
  rcases (h.sz c (hm c hc)).2.2.2 with q | q
  · exact q
  · exact absurd (h.nv c (hm c hc) q) h0
theorem fitsR_iff {rs : List Rc} {put p del d : Int} : fitsR rs put p del d = true ↔ ∀ i, i < rs.length → fit1 rs put p del d i (rs.getD i rc0) = true := by
  unfold fitsR
  rw [List.all_eq_true]
  exact ⟨fun h i hi => h i (List.mem_range.2 hi), fun h i hi => h i (List.mem_range.1 hi)⟩
/-- one call, by what it was told -/
def F1 (c : Hc) (rs : List Rc) (put p del d : Int) (i : Nat) : Prop := c.says = 0 ∨ (i : Int) = put ∨ (i : Int) = del ∨ (c.says = 2 ∧ 0 ≤ put ∧ p < c.to) ∨ (c.says = 3 ∧ (put < 0 ∨ c.fr ≤ p ∨ (0 ≤ del ∧ d < c.to))) ∨ (readsP c = true ∧ 0 ≤ put ∧ p < c.to ∧ ¬ (0 ≤ del ∧ d < c.fr) ∧ c.g.xs = (rs.getD put.toNat rc0).pb.xs)
theorem fit1_iff {c : Hc} {r : Rc} (h : Rl c r) (hs : c.says = 0 ∨ c.says = 1 ∨ (c.says = 2 ∧ c.e.kind = 1) ∨ (c.says = 3 ∧ c.e.kind ≠ 1)) (rs : List Rc) (put p del d : Int) (i : Nat) :
    fit1 rs put p del d i r = true ↔ F1 c rs put p del d i := by
  unfold fit1 F1
  by_cases h0 : c.says = 0
  · rw [h.un h0]; simp [h0]
  · obtain ⟨a1, a2, a3, a4⟩ := h.an h0
    rw [a1, a2, a3, a4, h.kd, h.fr]
    by_cases e1 : (i : Int) = put
    · simp [e1]
    · by_cases e2 : (i : Int) = del
      · simp [e2]
      · have hd : (decide ((i : Int) = put) || decide ((i : Int) = del)) = false := by rw [decide_eq_false e1, decide_eq_false e2]; rfl
        rw [hd]
        simp only [Bool.not_true, Bool.false_eq_true, if_false, h0, e1, e2, false_or]
        by_cases k1 : c.e.kind = 1
        · have k1' : (c.e.kind == 1) = true := by simpa using k1
          have nr : readsP c = false := by unfold readsP; rw [k1]; rfl
          have n3 : c.says ≠ 3 := fun e => by omega
          rw [k1', nr]
          simp [n3, and_assoc]
        · have k1' : (c.e.kind == 1) = false := by simpa using k1
          have n2 : c.says ≠ 2 := fun e => by omega
          rw [k1']
          simp only [Bool.false_eq_true, if_false]
          by_cases s1 : c.says = 1
          · have s1' : (c.says == 1) = true := by simpa using s1
            have n3 : c.says ≠ 3 := fun e => by omega
            have hr : readsP c = (c.e.kind == 2) := by unfold readsP; rw [s1']; simp
            rw [s1', hr]
            simp [n2, n3, and_assoc]
            intros
            omega
          · have s1' : (c.says == 1) = false := by simpa using s1
            have s3 : c.says = 3 := by omega
            have hr : readsP c = false := by unfold readsP; rw [s1']; simp
            rw [s1', hr]
            simp [s3, or_assoc]
/-- the document's word and the program's times -/
theorem keyfit_iff {g : List Hc} {rs : List Rc} {L : Int} (hg : Wk g L) (hr : Rls g rs) : KeyFit rs (L + 1) ↔ ∃ pt er W E B, Fit g L pt er W E B := by
  have hl := hr.l
  have hL := hg.l
  have hf : ∀ (put p del d : Int), fitsR rs put p del d = true ↔ ∀ i, i < g.length → F1 (g.getD i hc0) rs put p del d i := fun put p del d => by
    rw [fitsR_iff, hl]
    exact forall_congr' fun i => forall_congr' fun hi => fit1_iff (hr.get hi) (hg.s _ (getD_mem hi)) rs put p del d i
  have hz := fun i (hi : i < g.length) => hg.w.sz _ (getD_mem hi)
  have hun := fun i (hi : i < g.length) => hg.w.un _ (getD_mem hi)
  have ht := fun i (hi : i < g.length) => hg.t _ (getD_mem hi)
  constructor
  · rintro (h | ⟨i, hi, h1, p, hp1, hp2, h⟩)
    · rw [hf] at h
      refine ⟨g.length, g.length, L + 1, L + 1, [], Int.le_refl _, by unfold never; omega, fun h => absurd h (Nat.lt_irrefl _), fun _ => by omega, fun h => absurd h (Nat.lt_irrefl _), fun _ => by omega, fun i hi n1 n2 => ?_⟩
      have hzi := hz i hi
      rcases h i hi with q | q | q | q | q | q
      · exact Or.inl q
      · omega
      · omega
      · omega
      · exact Or.inr (Or.inr (Or.inl ⟨q.1, Or.inl (by omega)⟩))
      · omega
    · rw [hl] at hi
      have hri := hr.get hi
      have hzi := hz i hi
      have hm := (hri.may 1).1 h1
      rw [hri.fr] at hp1
      rw [hri.span] at hp2
      have hpW : p + 1 ≤ (g.getD i hc0).to ∧ p ≤ L := by
        by_cases h0 : (g.getD i hc0).says = 0
        · rw [if_pos h0] at hp2
          rw [hun i hi h0]
          unfold never
          omega
        · rw [if_neg h0] at hp2
          have := ht i hi h0
          omega
      have hB : (rs.getD (i : Int).toNat rc0).pb.xs = (g.getD i hc0).e.b.xs := by rw [Int.toNat_natCast, hri.pb]
      rcases h with h | ⟨j, hj, h3, d, hd1, hd2, h⟩
      · rw [hf] at h
        refine ⟨i, g.length, p + 1, L + 1, (g.getD i hc0).e.b.xs, by omega, by unfold never; omega, fun _ => ⟨hm.1, hm.2, by omega, hpW.1, rfl⟩, fun h => absurd hi (by omega), fun h => absurd h (Nat.lt_irrefl _), fun _ => by omega, fun i' hi' n1 n2 => ?_⟩
        have hz' := hz i' hi'
        rcases h i' hi' with q | q | q | q | q | q
        · exact Or.inl q
        · omega
        · omega
        · exact Or.inr (Or.inl ⟨q.1, by omega⟩)
        · exact Or.inr (Or.inr (Or.inl ⟨q.1, Or.inl (by omega)⟩))
        · exact Or.inr (Or.inr (Or.inr ⟨q.1, by omega, by omega, by rw [q.2.2.2.2, hB]⟩))
      · rw [hl] at hj
        have hrj := hr.get hj
        have hzj := hz j hj
        have hm3 := (hrj.may 3).1 h3
        rw [hrj.fr] at hd1
        rw [hrj.span] at hd2
        have hdE : d + 1 ≤ (g.getD j hc0).to ∧ d ≤ L := by
          by_cases h0 : (g.getD j hc0).says = 0
          · rw [if_pos h0] at hd2
            rw [hun j hj h0]
            unfold never
            omega
          · rw [if_neg h0] at hd2
            have := ht j hj h0
            omega
        unfold D4 at h
        rw [hf] at h
        refine ⟨i, j, p + 1, d + 1, (g.getD i hc0).e.b.xs, by omega, by unfold never; omega, fun _ => ⟨hm.1, hm.2, by omega, hpW.1, rfl⟩, fun h => absurd hi (by omega), fun _ => ⟨hm3.1, hm3.2, by omega, hdE.1⟩, fun h => absurd hj (by omega), fun i' hi' n1 n2 => ?_⟩
        have hz' := hz i' hi'
        rcases h i' hi' with q | q | q | q | q | q
        · exact Or.inl q
        · omega
        · omega
        · exact Or.inr (Or.inl ⟨q.1, by omega⟩)
        · exact Or.inr (Or.inr (Or.inl ⟨q.1, by omega⟩))
        · exact Or.inr (Or.inr (Or.inr ⟨q.1, by omega, by omega, by rw [q.2.2.2.2, hB]⟩))
  · rintro ⟨pt, er, W, E, B, f⟩
    have hle := f.le
    have hub := f.ub
    rcases Nat.lt_or_ge pt g.length with hp | hp
    · right
      have hrp := hr.get hp
      have hzp := hz pt hp
      obtain ⟨f1, f2, f3, f4, f5⟩ := f.p hp
      have hB : (rs.getD (pt : Int).toNat rc0).pb.xs = B := by rw [Int.toNat_natCast, hrp.pb]; exact f5
      refine ⟨pt, by omega, (hrp.may 1).2 ⟨f1, f2⟩, min W (L + 1) - 1, by rw [hrp.fr]; omega, ?_, ?_⟩
      · rw [hrp.span]
        split
        · omega
        · omega
      · rcases Nat.lt_or_ge er g.length with he | he
        · right
          have hre := hr.get he
          have hze := hz er he
          obtain ⟨d1, d2, d3, d4⟩ := f.d he
          refine ⟨er, by omega, (hre.may 3).2 ⟨d1, d2⟩, min E (L + 1) - 1, by rw [hre.fr]; omega, ?_, ?_⟩
          · rw [hre.span]
            split
            · omega
            · omega
          · unfold D4
            rw [hf]
            intro i hi
            have hzi := hz i hi
            by_cases e1 : i = pt
            · exact Or.inr (Or.inl (by rw [e1]))
            · by_cases e2 : i = er
              · exact Or.inr (Or.inr (Or.inl (by rw [e2])))
              · rcases f.r i hi e1 e2 with q | q | q | q
                · exact Or.inl q
                · exact Or.inr (Or.inr (Or.inr (Or.inl ⟨q.1, by omega, by omega⟩)))
                · exact Or.inr (Or.inr (Or.inr (Or.inr (Or.inl ⟨q.1, by omega⟩))))
                · exact Or.inr (Or.inr (Or.inr (Or.inr (Or.inr ⟨q.1, by omega, by omega, by omega, by rw [q.2.2.2, hB]⟩))))
        · left
          have he2 := f.dn he
          rw [hf]
          intro i hi
          have hzi := hz i hi
          by_cases e1 : i = pt
          · exact Or.inr (Or.inl (by rw [e1]))
          · have e2 : i ≠ er := by omega
            by_cases h0 : (g.getD i hc0).says = 0
            · exact Or.inl h0
            · have hti := ht i hi h0
              rcases f.r i hi e1 e2 with q | q | q | q
              · exact Or.inl q
              · exact Or.inr (Or.inr (Or.inr (Or.inl ⟨q.1, by omega, by omega⟩)))
              · exact Or.inr (Or.inr (Or.inr (Or.inr (Or.inl ⟨q.1, by omega⟩))))
              · exact Or.inr (Or.inr (Or.inr (Or.inr (Or.inr ⟨q.1, by omega, by omega, by omega, by rw [q.2.2.2, hB]⟩))))
    · left
      have hp2 := f.pn hp
      rw [hf]
      intro i hi
      have hzi := hz i hi
      by_cases h0 : (g.getD i hc0).says = 0
      · exact Or.inl h0
      · have hti := ht i hi h0
        have e1 : i ≠ pt := by omega
        have e2 : i ≠ er := fun e => by
          subst e
          have := (f.d hi).2.2.2
          omega
        rcases f.r i hi e1 e2 with q | q | q | q
        · exact Or.inl q
        · omega
        · exact Or.inr (Or.inr (Or.inr (Or.inr (Or.inl ⟨q.1, Or.inl (by omega)⟩))))
        · omega
/-- a key's calls are right just if the document says so -/
theorem key_right {g : List Hc} {rs : List Rc} {L : Int} (hg : Wk g L) (hr : Rls g rs) : KeyFit rs (L + 1) ↔ rightP g L = true := by
  rw [keyfit_iff hg hr, right_iff hg.w (by have := hg.l; omega)]
end Go.Proofs.Ytbbgplnenbkfeaa
