/- The document's orders, plain. -/
import Derived.Test.YtbbgplnenbkfeaaVv
import Derived.Test.YtbbgplnenbkfeaaVx
import Derived.Test.YtbbgplnenbkfeaaVo
namespace Go.Proofs.Ytbbgplnenbkfeaa
set_option linter.unusedVariables false
set_option linter.unusedSimpArgs false
open Go.RowKit Go.Deep Go.Maps

/-- the document's calls that are left can be put in order -/
inductive OrdR : List Rc → Int → By → Prop
  | done {l : List Rc} {n : Int} {b : By} (h : ∀ c ∈ l, ansR c = false) : OrdR l n b
  | step {l : List Rc} {n : Int} {b : By} (i : Nat) (r : Rc) (hi : l[i]? = some r) (hf : ∀ k o, k ≠ i → l[k]? = some o → ansR o = true → r.fr < o.to) (hd : okR n b r = true) (h : OrdR (l.eraseIdx i) (doR n b r).1 (doR n b r).2.1) : OrdR l n b
theorem Rls.erase {g : List Hc} {rs : List Rc} (h : Rls g rs) (i : Nat) : Rls (g.eraseIdx i) (rs.eraseIdx i) := by
  have hl := h.l
  refine ⟨?_, fun j c r hc hr => ?_⟩
  · rw [List.length_eraseIdx, List.length_eraseIdx, hl]
  · rw [List.getElem?_eraseIdx] at hc hr
    split at hc
    · rename_i q
      rw [if_pos q] at hr
      exact h.r j c r hc hr
    · rename_i q
      rw [if_neg q] at hr
      exact h.r (j + 1) c r hc hr
theorem Rls.some {g : List Hc} {rs : List Rc} (h : Rls g rs) {i : Nat} {c : Hc} (hi : g[i]? = Option.some c) : ∃ r, rs[i]? = Option.some r ∧ Rl c r := by
  have hl := (List.getElem?_eq_some_iff.1 hi).1
  have hl2 : i < rs.length := by rw [h.l]; exact hl
  exact ⟨rs[i], List.getElem?_eq_getElem hl2, h.r i c _ hi (List.getElem?_eq_getElem hl2)⟩
theorem Rls.some2 {g : List Hc} {rs : List Rc} (h : Rls g rs) {i : Nat} {r : Rc} (hi : rs[i]? = Option.some r) : ∃ c, g[i]? = Option.some c ∧ Rl c r := by
  have hl := (List.getElem?_eq_some_iff.1 hi).1
  have hl2 : i < g.length := by rw [← h.l]; exact hl
  exact ⟨g[i], List.getElem?_eq_getElem hl2, h.r i _ r (List.getElem?_eq_getElem hl2) hi⟩
theorem do_same {c : Hc} {r : Rc} (h : Rl c r) (m : Nat) (b : By) : (doR (m : Int) b r).1 = ((doS m b.xs c).1 : Int) ∧ (doR (m : Int) b r).2.1.xs = (doS m b.xs c).2.1 ∧ (doR (m : Int) b r).2.2 = (doS m b.xs c).2.2 := by
  unfold doR doS
  rw [h.kd]
  by_cases k1 : c.e.kind = 1
  · by_cases n0 : m = 0
    · simp [k1, n0, h.pb]
    · have : ¬ ((m : Int) = 0) := by omega
      simp [k1, n0]
  · by_cases k2 : c.e.kind = 2
    · by_cases n1 : m = 1
      · simp [k2, n1]
      · have : ¬ ((m : Int) = 1) := by omega
        simp [k2, n1, this]
    · by_cases n1 : m = 1
      · simp [k1, k2, n1, by0]
      · have : ¬ ((m : Int) = 1) := by omega
        simp [k1, k2, n1, this]
theorem ok_same {c : Hc} {r : Rc} (h : Rl c r) (m : Nat) (b : By) : okR (m : Int) b r = true ↔ doOk m b.xs c := by
  have hd := (do_same h m b).2.2
  unfold okR doOk
  rw [hd, h.kd]
  by_cases h0 : c.says = 0
  · rw [h.un h0]
    simp [h0]
  · obtain ⟨a1, a2, _, a4⟩ := h.an h0
    rw [a1, a2, a4]
    by_cases k2 : c.e.kind = 2
    · by_cases n1 : m = 1
      · have hs : (doS m b.xs c).2.2 = 1 := by unfold doS; simp [k2, n1]
        rw [hs]
        by_cases s1 : c.says = 1
        · simp [k2, n1, s1]
        · simp [k2, n1, s1, h0]
      · have : ¬ ((m : Int) = 1) := by omega
        simp [k2, n1, this, h0]
    · simp [k2, h0]
theorem free_same {U : Int} {g : List Hc} {rs : List Rc} (hr : Rls g rs) (ho : Ods U g) {i : Nat} {c : Hc} {r : Rc} (hi : g[i]? = some c) (h : Rl c r) : (∀ k o, k ≠ i → rs[k]? = some o → ansR o = true → r.fr < o.to) ↔ freeI g c := by
  constructor
  · intro hf d hd hne h0
    obtain ⟨k, hk⟩ := List.getElem?_of_mem hd
    obtain ⟨o, ho1, ho2⟩ := hr.some hk
    have := hf k o (fun e => hne (by subst e; rw [hi] at hk; cases hk; rfl)) ho1 (ho2.an h0).1
    rw [h.fr, (ho2.an h0).2.2.1] at this
    exact this
  · intro hf k o hne hk ha
    obtain ⟨d, hd1, hd2⟩ := hr.some2 hk
    have h0 : d.says ≠ 0 := fun e => by rw [hd2.un e] at ha; cases ha
    have := hf d (List.mem_of_getElem? hd1) (fun e => hne (ho.inj hd1 hi e)) h0
    rw [h.fr, (hd2.an h0).2.2.1]
    exact this
theorem ordR_ord {U : Int} {rs : List Rc} {n : Int} {b : By} (h : OrdR rs n b) : ∀ (g : List Hc) (m : Nat), n = (m : Int) → Rls g rs → Ods U g → Ord g m b.xs := by
  induction h with
  | @done l n b h =>
    intro g m hn hr ho
    refine .done (fun c hc => ?_)
    obtain ⟨k, hk⟩ := List.getElem?_of_mem hc
    obtain ⟨o, h1, h2⟩ := hr.some hk
    by_cases q : c.says = 0
    · exact q
    · have := (h2.an q).1
      rw [h o (List.mem_of_getElem? h1)] at this
      cases this
  | @step l n b i r hi hf hd h ih =>
    intro g m hn hr ho
    subst hn
    obtain ⟨c, hc, hcr⟩ := hr.some2 hi
    obtain ⟨d1, d2, d3⟩ := do_same hcr m b
    refine .step i c hc ((free_same hr ho hc hcr).1 hf) ((ok_same hcr m b).1 hd) ?_
    rw [← d2]
    exact ih _ _ d1 (hr.erase i) (ho.erase i)
theorem ord_ordR {U : Int} {g : List Hc} {m : Nat} {bx : List Nat} (h : Ord g m bx) : ∀ (rs : List Rc) (b : By), b.xs = bx → Rls g rs → Ods U g → OrdR rs (m : Int) b := by
  induction h with
  | @done l n bx h =>
    intro rs b hb hr ho
    refine .done (fun o ho' => ?_)
    obtain ⟨k, hk⟩ := List.getElem?_of_mem ho'
    obtain ⟨c, h1, h2⟩ := hr.some2 hk
    exact h2.un (h c (List.mem_of_getElem? h1))
  | @step l n bx i c hi hf hd h ih =>
    intro rs b hb hr ho
    subst hb
    obtain ⟨r, hri, hcr⟩ := hr.some hi
    obtain ⟨d1, d2, d3⟩ := do_same hcr n b
    refine .step i r hri ((free_same hr ho hi hcr).2 hf) ((ok_same hcr n b).2 hd) ?_
    rw [d1]
    exact ih _ _ d2 (hr.erase i) (ho.erase i)
/-- the document's orders and the program's word -/
theorem ordR_right {g : List Hc} {rs : List Rc} {L : Int} (hg : Wk g L) (ho : Ods L g) (hr : Rls g rs) : OrdR rs 0 by0 ↔ rightP g L = true := by
  rw [← ord_right hg.w (by have := hg.l; omega) ho hg.t]
  exact ⟨fun h => ordR_ord h g 0 rfl hr ho, fun h => ord_ordR h rs by0 rfl hr ho⟩
theorem Inv.ods {k : Nat} {cs : List Hc} (h : Inv k cs) (hk : k ≤ 900) (key : List UInt8) : Ods (k : Int) (grpOf cs key) := by
  have hm : ∀ c ∈ grpOf cs key, c ∈ cs := fun c hc => (List.mem_filter.1 hc).1
  refine ⟨⟨by unfold never; omega, fun c hc => by have := (h.sz c (hm c hc)).2.1; omega⟩, fun c hc => h.un c (hm c hc), List.Pairwise.sublist (List.Sublist.map _ (List.filter_sublist ..)) h.pw, fun c hc => (h.sz c (hm c hc)).2.2.1, fun c hc => h.sy c (hm c hc)⟩
end Go.Proofs.Ytbbgplnenbkfeaa
