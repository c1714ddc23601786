/- Orders of a key's calls, plain: times that fit give an order. -/
import Derived.Test.YtbbgplnenbkfeaaVu
namespace Go.Proofs.Ytbbgplnenbkfeaa
set_option linter.unusedVariables false
set_option linter.unusedSimpArgs false
open Go.RowKit Go.Deep Go.Maps

/-- the answered call whose answer comes first -/
theorem first_told : ∀ (l : List Hc), (∃ c ∈ l, c.says ≠ 0) → ∃ (i : Nat) (c : Hc), l[i]? = some c ∧ c.says ≠ 0 ∧ ∀ d ∈ l, d.says ≠ 0 → c.to ≤ d.to
  | [], h => by obtain ⟨c, hc, _⟩ := h; cases hc
  | x :: l, h => by
    by_cases hl : ∃ c ∈ l, c.says ≠ 0
    · obtain ⟨i, c, hi, h0, hm⟩ := first_told l hl
      by_cases hx : x.says ≠ 0 ∧ x.to ≤ c.to
      · refine ⟨0, x, rfl, hx.1, fun d hd h9 => ?_⟩
        rcases List.mem_cons.1 hd with rfl | q
        · exact Int.le_refl _
        · have := hm d q h9; omega
      · refine ⟨i + 1, c, by simpa using hi, h0, fun d hd h9 => ?_⟩
        rcases List.mem_cons.1 hd with rfl | q
        · by_cases q : d.to ≤ c.to
          · exact absurd ⟨h9, q⟩ hx
          · omega
        · exact hm d q h9
    · obtain ⟨c, hc, h0⟩ := h
      rcases List.mem_cons.1 hc with rfl | q
      · refine ⟨0, c, rfl, h0, fun d hd h9 => ?_⟩
        rcases List.mem_cons.1 hd with rfl | q
        · exact Int.le_refl _
        · exact absurd ⟨d, q, h9⟩ hl
      · exact absurd ⟨c, q, h0⟩ hl
theorem er_len {l : List Hc} {i : Nat} {c : Hc} (hi : l[i]? = some c) {m : Nat} (h : l.length ≤ m + 1) : (l.eraseIdx i).length ≤ m := by
  have := (List.getElem?_eq_some_iff.1 hi).1
  rw [List.length_eraseIdx_of_lt this]
  omega
theorem er_mem {l : List Hc} {i : Nat} {c : Hc} (h : c ∈ l.eraseIdx i) : c ∈ l := List.mem_of_mem_eraseIdx h
theorem free_first {U : Int} {l : List Hc} (ho : Ods U l) {c : Hc} (hc : c ∈ l) {T : Int} (h1 : c.fr < T) (h2 : ∀ d ∈ l, d.says ≠ 0 → T ≤ d.to) : freeI l c := fun d hd _ h0 => by
  have := h2 d hd h0
  omega
/-- behind the delete -/
theorem mk2 {U : Int} : ∀ (m : Nat) (l : List Hc) (b : List Nat), l.length ≤ m → Ods U l → (∀ c ∈ l, c.says ≠ 0 → c.says = 2 ∨ c.says = 3) → Ord l 2 b
  | 0, l, b, hl, ho, h => .done (fun c hc => by have := List.eq_nil_of_length_eq_zero (Nat.le_zero.1 hl); subst this; cases hc)
  | m + 1, l, b, hl, ho, h => by
    by_cases hx : ∃ c ∈ l, c.says ≠ 0
    · obtain ⟨i, c, hi, h0, hm⟩ := first_told l hx
      have hcm := List.mem_of_getElem? hi
      have hs := ho.s c hcm
      have hd : doS 2 b c = (2, b, c.says) := by
        unfold doS
        rcases h c hcm h0 with q | q
        · have k1 : c.e.kind = 1 := by omega
          simp [k1, q]
        · have k1 : c.e.kind ≠ 1 := by omega
          by_cases k2 : c.e.kind = 2 <;> simp [k1, k2, q]
      refine .step i c hi (free_first ho hcm (ho.t c hcm) hm) (Or.inr ⟨by rw [hd], fun _ q => absurd q (by decide)⟩) ?_
      rw [hd]
      exact mk2 m _ b (er_len hi hl) (ho.erase i) (fun d hd => h d (er_mem hd))
    · exact .done (fun c hc => by
        by_cases q : c.says = 0
        · exact q
        · exact absurd ⟨c, hc, q⟩ hx)
/-- with bytes -/
def G1 (l : List Hc) (b : List Nat) : Prop :=
  (∀ c ∈ l, c.says ≠ 0 → c.says = 2 ∨ (readsP c = true ∧ c.g.xs = b)) ∨ ∃ d ∈ l, ∃ E : Int, d.e.kind = 3 ∧ (d.says = 0 ∨ d.says = 1) ∧ d.fr < E ∧ E ≤ d.to ∧ ∀ c ∈ l, c.fr ≠ d.fr → c.says ≠ 0 → c.says = 2 ∨ (c.says = 3 ∧ E ≤ c.to) ∨ (readsP c = true ∧ c.fr < E ∧ c.g.xs = b)
theorem do1 {U : Int} {l : List Hc} (ho : Ods U l) {c : Hc} (hc : c ∈ l) {b : List Nat} (h : c.says = 2 ∨ (readsP c = true ∧ c.g.xs = b)) : doS 1 b c = (1, b, c.says) ∧ (c.e.kind = 2 → (1 : Nat) = 1 → c.g.xs = b) := by
  have hs := ho.s c hc
  rcases h with q | q
  · have k1 : c.e.kind = 1 := by omega
    refine ⟨by unfold doS; simp [k1, q], fun k2 _ => by omega⟩
  · have := reads_kind q.1
    refine ⟨by unfold doS; simp [this.1, this.2], fun _ _ => q.2⟩
theorem mk1 {U : Int} : ∀ (m : Nat) (l : List Hc) (b : List Nat), l.length ≤ m → Ods U l → G1 l b → Ord l 1 b
  | 0, l, b, hl, ho, h => .done (fun c hc => by have := List.eq_nil_of_length_eq_zero (Nat.le_zero.1 hl); subst this; cases hc)
  | m + 1, l, b, hl, ho, h => by
    by_cases hx : ∃ c ∈ l, c.says ≠ 0
    · obtain ⟨i, c, hi, h0, hm⟩ := first_told l hx
      have hcm := List.mem_of_getElem? hi
      have hs := ho.s c hcm
      rcases h with h | ⟨d, hdm, E, d1, d2, d3, d4, d5⟩
      · obtain ⟨hd, hg⟩ := do1 ho hcm (h c hcm h0)
        refine .step i c hi (free_first ho hcm (ho.t c hcm) hm) (Or.inr ⟨by rw [hd], hg⟩) ?_
        rw [hd]
        exact mk1 m _ b (er_len hi hl) (ho.erase i) (Or.inl (fun d hd => h d (er_mem hd)))
      · -- a call that may go on: it is no delete
        have go : ∀ (j : Nat) (x : Hc), l[j]? = some x → x.fr ≠ d.fr → freeI l x → (x.says = 2 ∨ (readsP x = true ∧ x.g.xs = b)) → Ord l 1 b := fun j x hj hne hf hxx => by
          have hxm := List.mem_of_getElem? hj
          obtain ⟨hd, hg⟩ := do1 ho hxm hxx
          refine .step j x hj hf (Or.inr ⟨by rw [hd], hg⟩) ?_
          rw [hd]
          refine mk1 m _ b (er_len hj hl) (ho.erase j) (Or.inr ⟨d, ?_, E, d1, d2, d3, d4, fun y hy => d5 y (er_mem hy)⟩)
          rcases ho.mem hj hdm with q | q
          · exact absurd (by rw [q]) (fun q2 : d.fr = x.fr => hne q2.symm)
          · exact q.1
        by_cases hcd : c.fr ≠ d.fr ∧ (c.says = 2 ∨ (readsP c = true ∧ c.g.xs = b))
        · exact go i c hi hcd.1 (free_first ho hcm (ho.t c hcm) hm) hcd.2
        · -- all answers come behind the delete's time
          have hE : ∀ x ∈ l, x.says ≠ 0 → E ≤ x.to := fun x hx h9 => by
            have h1 := hm x hx h9
            by_cases e : c.fr = d.fr
            · rcases ho.mem hi hdm with q | q
              · rw [q] at d4; omega
              · exact absurd e.symm q.2
            · rcases d5 c hcm e h0 with q | q | q
              · exact absurd ⟨e, Or.inl q⟩ hcd
              · omega
              · exact absurd ⟨e, Or.inr ⟨q.1, q.2.2⟩⟩ hcd
          by_cases hr : ∃ x ∈ l, x.fr ≠ d.fr ∧ readsP x = true
          · obtain ⟨x, hxm, hne, hxr⟩ := hr
            obtain ⟨j, hj⟩ := List.getElem?_of_mem hxm
            have hk := reads_kind hxr
            rcases d5 x hxm hne (by omega) with q | q | q
            · omega
            · omega
            · exact go j x hj hne (free_first ho hxm q.2.1 hE) (Or.inr ⟨q.1, q.2.2⟩)
          · obtain ⟨j, hj⟩ := List.getElem?_of_mem hdm
            have hd : doS 1 b d = (2, [], 1) := by unfold doS; simp [d1]
            refine .step j d hj (free_first ho hdm d3 hE) (by
              rcases d2 with q | q
              · exact Or.inl q
              · exact Or.inr ⟨by rw [hd]; exact q, fun q2 => by omega⟩) ?_
            rw [hd]
            refine mk2 m _ [] (er_len hj hl) (ho.erase j) (fun x hx h9 => ?_)
            obtain ⟨h1, h2⟩ := ho.out hj hx
            rcases d5 x h1 h2 h9 with q | q | q
            · exact Or.inl q
            · exact Or.inr q.1
            · exact absurd ⟨x, h1, h2, q.1⟩ hr
    · exact .done (fun c hc => by
        by_cases q : c.says = 0
        · exact q
        · exact absurd ⟨c, hc, q⟩ hx)
theorem do0 {U : Int} {l : List Hc} (ho : Ods U l) {c : Hc} (hc : c ∈ l) {b : List Nat} (h : c.says = 3) : ∃ b', doS 0 b c = (0, b', 3) ∧ (c.e.kind = 2 → (0 : Nat) = 1 → c.g.xs = b) := by
  have hs := ho.s c hc
  have k1 : c.e.kind ≠ 1 := by omega
  refine ⟨b, ?_, fun _ q => absurd q (by decide)⟩
  unfold doS
  by_cases k2 : c.e.kind = 2 <;> simp [k1, k2]
/-- an empty key of which nobody was told more than that it is -/
theorem mk0n {U : Int} : ∀ (m : Nat) (l : List Hc) (b : List Nat), l.length ≤ m → Ods U l → (∀ c ∈ l, c.says ≠ 0 → c.says = 3) → Ord l 0 b
  | 0, l, b, hl, ho, h => .done (fun c hc => by have := List.eq_nil_of_length_eq_zero (Nat.le_zero.1 hl); subst this; cases hc)
  | m + 1, l, b, hl, ho, h => by
    by_cases hx : ∃ c ∈ l, c.says ≠ 0
    · obtain ⟨i, c, hi, h0, hm⟩ := first_told l hx
      have hcm := List.mem_of_getElem? hi
      obtain ⟨b', hd, hg⟩ := do0 (b := b) ho hcm (h c hcm h0)
      refine .step i c hi (free_first ho hcm (ho.t c hcm) hm) (Or.inr ⟨by rw [hd]; exact h c hcm h0, hg⟩) ?_
      rw [hd]
      exact mk0n m _ b' (er_len hi hl) (ho.erase i) (fun d hd => h d (er_mem hd))
    · exact .done (fun c hc => by
        by_cases q : c.says = 0
        · exact q
        · exact absurd ⟨c, hc, q⟩ hx)
/-- an empty key that is put -/
theorem mk0 {U : Int} {p : Hc} {W : Int} : ∀ (m : Nat) (l : List Hc) (b : List Nat), l.length ≤ m → Ods U l → p ∈ l → p.e.kind = 1 → (p.says = 0 ∨ p.says = 1) → p.fr < W → W ≤ p.to →
    ((∀ c ∈ l, c.fr ≠ p.fr → c.says ≠ 0 → (c.says = 2 ∧ W ≤ c.to) ∨ (c.says = 3 ∧ c.fr < W) ∨ (readsP c = true ∧ W ≤ c.to ∧ c.g.xs = p.e.b.xs)) ∨
     ∃ d ∈ l, ∃ E : Int, d.fr ≠ p.fr ∧ W ≤ E ∧ d.e.kind = 3 ∧ (d.says = 0 ∨ d.says = 1) ∧ d.fr < E ∧ E ≤ d.to ∧ ∀ c ∈ l, c.fr ≠ p.fr → c.fr ≠ d.fr → c.says ≠ 0 → (c.says = 2 ∧ W ≤ c.to) ∨ (c.says = 3 ∧ (c.fr < W ∨ E ≤ c.to)) ∨ (readsP c = true ∧ c.fr < E ∧ W ≤ c.to ∧ c.g.xs = p.e.b.xs)) → Ord l 0 b
  | 0, l, b, hl, ho, hp, _, _, _, _, _ => by have := List.eq_nil_of_length_eq_zero (Nat.le_zero.1 hl); subst this; cases hp
  | m + 1, l, b, hl, ho, hp, p1, p2, p3, p4, h => by
    by_cases hx : ∃ c ∈ l, c.says ≠ 0
    · obtain ⟨i, c, hi, h0, hm⟩ := first_told l hx
      have hcm := List.mem_of_getElem? hi
      -- one that misses, ahead of the put
      have go : ∀ (j : Nat) (x : Hc), l[j]? = some x → x.says = 3 → freeI l x → Ord l 0 b := fun j x hj hx3 hf => by
        have hxm := List.mem_of_getElem? hj
        obtain ⟨b', hd, hg⟩ := do0 (b := b) ho hxm hx3
        refine .step j x hj hf (Or.inr ⟨by rw [hd]; exact hx3, hg⟩) ?_
        rw [hd]
        have hpe : p ∈ l.eraseIdx j := by
          rcases ho.mem hj hp with q | q
          · rw [q] at p2; omega
          · exact q.1
        refine mk0 m _ b' (er_len hj hl) (ho.erase j) hpe p1 p2 p3 p4 ?_
        rcases h with h | ⟨d, hdm, E, d0, d1, d2, d3, d4, d5, d6⟩
        · exact Or.inl (fun y hy => h y (er_mem hy))
        · refine Or.inr ⟨d, ?_, E, d0, d1, d2, d3, d4, d5, fun y hy => d6 y (er_mem hy)⟩
          rcases ho.mem hj hdm with q | q
          · rw [q] at d3; omega
          · exact q.1
      by_cases hc3 : c.says = 3 ∧ c.fr < W
      · exact go i c hi hc3.1 (free_first ho hcm (ho.t c hcm) hm)
      · have hW : ∀ x ∈ l, x.says ≠ 0 → W ≤ x.to := fun x hx h9 => by
          have h1 := hm x hx h9
          have h2 : W ≤ c.to := by
            by_cases e : c.fr = p.fr
            · rcases ho.mem hi hp with q | q
              · rw [q] at p4; exact p4
              · exact absurd e.symm q.2
            · rcases h with h | ⟨d, hdm, E, d0, d1, d2, d3, d4, d5, d6⟩
              · rcases h c hcm e h0 with q | q | q
                · exact q.2
                · exact absurd q hc3
                · exact q.2.1
              · by_cases e2 : c.fr = d.fr
                · rcases ho.mem hi hdm with q | q
                  · rw [q] at d5; omega
                  · exact absurd e2.symm q.2
                · rcases d6 c hcm e e2 h0 with q | q | q
                  · exact q.2
                  · rcases q.2 with r | r
                    · exact absurd ⟨q.1, r⟩ hc3
                    · omega
                  · exact q.2.2.1
          omega
        by_cases hr : ∃ x ∈ l, x.says = 3 ∧ x.fr < W
        · obtain ⟨x, hxm, hx3, hxw⟩ := hr
          obtain ⟨j, hj⟩ := List.getElem?_of_mem hxm
          exact go j x hj hx3 (free_first ho hxm hxw hW)
        · obtain ⟨j, hj⟩ := List.getElem?_of_mem hp
          have hd : doS 0 b p = (1, p.e.b.xs, 1) := by unfold doS; simp [p1]
          refine .step j p hj (free_first ho hp p3 hW) (by
            rcases p2 with q | q
            · exact Or.inl q
            · exact Or.inr ⟨by rw [hd]; exact q, fun _ q2 => absurd q2 (by decide)⟩) ?_
          rw [hd]
          refine mk1 m _ _ (er_len hj hl) (ho.erase j) ?_
          rcases h with h | ⟨d, hdm, E, d0, d1, d2, d3, d4, d5, d6⟩
          · refine Or.inl (fun x hx h9 => ?_)
            obtain ⟨h1, h2⟩ := ho.out hj hx
            rcases h x h1 h2 h9 with q | q | q
            · exact Or.inl q.1
            · exact absurd ⟨x, h1, q⟩ hr
            · exact Or.inr ⟨q.1, q.2.2⟩
          · have hde : d ∈ l.eraseIdx j := by
              rcases ho.mem hj hdm with q | q
              · exact absurd (by rw [q]) d0
              · exact q.1
            refine Or.inr ⟨d, hde, E, d2, d3, d4, d5, fun x hx hne h9 => ?_⟩
            obtain ⟨h1, h2⟩ := ho.out hj hx
            rcases d6 x h1 h2 hne h9 with q | q | q
            · exact Or.inl q.1
            · rcases q.2 with r | r
              · exact absurd ⟨x, h1, q.1, r⟩ hr
              · exact Or.inr (Or.inl ⟨q.1, r⟩)
            · exact Or.inr (Or.inr ⟨q.1, q.2.1, q.2.2.2⟩)
    · exact .done (fun c hc => by
        by_cases q : c.says = 0
        · exact q
        · exact absurd ⟨c, hc, q⟩ hx)
/-- times that fit give an order -/
theorem fit_ord {g : List Hc} {L : Int} (ho : Ods L g) (ht : ∀ c ∈ g, c.says ≠ 0 → c.to < L) {pt er : Nat} {W E : Int} {B : List Nat} (f : Fit g L pt er W E B) : Ord g 0 [] := by
  have hget : ∀ i, i < g.length → g[i]? = some (g.getD i hc0) := fun i hi => by rw [List.getD_eq_getElem?_getD, List.getElem?_eq_getElem hi]; rfl
  have idx : ∀ c ∈ g, ∃ i, i < g.length ∧ g.getD i hc0 = c := fun c hc => by
    obtain ⟨i, hi, e⟩ := List.getElem_of_mem hc
    exact ⟨i, hi, by rw [List.getD_eq_getElem?_getD, List.getElem?_eq_getElem hi]; exact e⟩
  have hfle := f.le
  rcases Nat.lt_or_ge pt g.length with hp | hp
  · obtain ⟨f1, f2, f3, f4, f5⟩ := f.p hp
    refine mk0 (p := g.getD pt hc0) (W := W) g.length g [] (Nat.le_refl _) ho (getD_mem hp) f1 f2 f3 f4 ?_
    rcases Nat.lt_or_ge er g.length with he | he
    · obtain ⟨e1, e2, e3, e4⟩ := f.d he
      right
      refine ⟨g.getD er hc0, getD_mem he, E, fun q => ?_, hfle, e1, e2, e3, e4, fun c hc n1 n2 h0 => ?_⟩
      · have := ho.inj (hget er he) (hget pt hp) q
        subst this
        omega
      · obtain ⟨i, hi, rfl⟩ := idx c hc
        rcases f.r i hi (fun q => n1 (by rw [q])) (fun q => n2 (by rw [q])) with q | q | q | q
        · exact absurd q h0
        · exact Or.inl q
        · exact Or.inr (Or.inl q)
        · exact Or.inr (Or.inr ⟨q.1, q.2.1, q.2.2.1, by rw [q.2.2.2, f5]⟩)
    · left
      have he2 := f.dn he
      intro c hc n1 h0
      obtain ⟨i, hi, rfl⟩ := idx c hc
      have := ht _ hc h0
      rcases f.r i hi (fun q => n1 (by rw [q])) (by omega) with q | q | q | q
      · exact absurd q h0
      · exact Or.inl q
      · exact Or.inr (Or.inl ⟨q.1, by omega⟩)
      · exact Or.inr (Or.inr ⟨q.1, q.2.2.1, by rw [q.2.2.2, f5]⟩)
  · have hp2 := f.pn hp
    refine mk0n g.length g [] (Nat.le_refl _) ho (fun c hc h0 => ?_)
    obtain ⟨i, hi, rfl⟩ := idx c hc
    have := ht _ hc h0
    have ne : i ≠ er := fun e => by
      subst e
      have := (f.d hi).2.2.2
      omega
    rcases f.r i hi (by omega) ne with q | q | q | q
    · exact absurd q h0
    · omega
    · exact q.1
    · omega
/-- a key's calls are right just if they can be put in order -/
theorem ord_right {g : List Hc} {L : Int} (hw : Wfg g L) (hL : 0 ≤ L ∧ L ≤ 1000) (ho : Ods L g) (ht : ∀ c ∈ g, c.says ≠ 0 → c.to < L) : Ord g 0 [] ↔ rightP g L = true := by
  rw [right_iff hw hL]
  exact ⟨fun h => ord_fit ho hL h (fun c hc => by have := hw.sz c hc; omega), fun ⟨_, _, _, _, _, f⟩ => fit_ord ho ht f⟩
end Go.Proofs.Ytbbgplnenbkfeaa
