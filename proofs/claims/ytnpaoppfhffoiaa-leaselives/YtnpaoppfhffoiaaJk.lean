/- Heaps of shards that wait, plain: whatever goes up or down, the same ones are there, and the least is on top. -/
import Derived.Test.YtnpaoppfhffoiaaJi
namespace Go.Proofs.Ytnpaoppfhffoiaa
set_option linter.unusedVariables false
open Go.RowKit Go.Deep

/-- the time of the k-th -/
def tm (l : List Wt) (k : Nat) : Int := (l.getD k wt0).t
/-- of the first n each is no less than the one above it -/
def Hpd (l : List Wt) (n : Nat) : Prop := ∀ k, 0 < k → k < n → tm l ((k - 1) / 2) ≤ tm l k
theorem tm_sw (l : List Wt) (i j k : Nat) (hi : i < l.length) (hj : j < l.length) : tm (swW l i j) k = if k = j then tm l i else if k = i then tm l j else tm l k := by
  unfold tm
  rw [swW_getD l i j k hi hj]
  by_cases h1 : k = j
  · rw [if_pos h1, if_pos h1]
  · rw [if_neg h1, if_neg h1]
    by_cases h2 : k = i
    · rw [if_pos h2, if_pos h2]
    · rw [if_neg h2, if_neg h2]
theorem getD_of_get {l : List Wt} {k : Nat} (h : k < l.length) : l.getD k wt0 = l[k] := by rw [List.getD_eq_getElem?_getD, List.getElem?_eq_getElem h]; rfl
theorem swW_perm (l : List Wt) (i j : Nat) (hi : i < l.length) (hj : j < l.length) : (swW l i j).Perm l := by
  unfold swW
  rw [getD_of_get hi, getD_of_get hj]
  exact List.set_set_perm hi hj
theorem upW_perm : ∀ f l j, j < l.length → (upW f l j).Perm l
  | 0, l, j, _ => List.Perm.refl _
  | f + 1, l, j, hj => by
    rw [upW_succ]
    by_cases h : j = 0
    · rw [if_pos h]
    · rw [if_neg h]
      by_cases h2 : (l.getD j wt0).t < (l.getD ((j - 1) / 2) wt0).t
      · rw [if_pos h2]
        exact (upW_perm f _ _ (by rw [swW_len]; omega)).trans (swW_perm l _ _ (by omega) hj)
      · rw [if_neg h2]
theorem downW_perm : ∀ f l i n, i < n → n ≤ l.length → (downW f l i n).1.Perm l
  | 0, l, i, n, _, _ => List.Perm.refl _
  | f + 1, l, i, n, hi, hn => by
    rw [downW_succ]
    by_cases h : n ≤ 2 * i + 1
    · rw [if_pos h]
    · rw [if_neg h]
      by_cases h2 : (l.getD (kidW l i n) wt0).t < (l.getD i wt0).t
      · rw [if_pos h2]
        have hk := (kidW_le l i n).2 h
        exact (downW_perm f _ _ n hk (by rw [swW_len]; exact hn)).trans (swW_perm l _ _ (by omega) (by omega))
      · rw [if_neg h2]
/-- what is beyond n stays -/
theorem downW_keep : ∀ f l i n k, i < n → n ≤ l.length → n ≤ k → (downW f l i n).1.getD k wt0 = l.getD k wt0
  | 0, l, i, n, k, _, _, _ => rfl
  | f + 1, l, i, n, k, hi, hn, hk => by
    rw [downW_succ]
    by_cases h : n ≤ 2 * i + 1
    · rw [if_pos h]
    · rw [if_neg h]
      by_cases h2 : (l.getD (kidW l i n) wt0).t < (l.getD i wt0).t
      · rw [if_pos h2]
        have hkk := (kidW_le l i n).2 h
        rw [downW_keep f _ _ n k hkk (by rw [swW_len]; exact hn) hk, swW_getD l i _ k (by omega) (by omega), if_neg (by omega), if_neg (by omega)]
      · rw [if_neg h2]
theorem upW_heap : ∀ f l j n, j < f → j < n → n ≤ l.length → (∀ k, 0 < k → k < n → k ≠ j → tm l ((k - 1) / 2) ≤ tm l k) → (∀ k, 0 < k → k < n → (k - 1) / 2 = j → 0 < j → tm l ((j - 1) / 2) ≤ tm l k) → Hpd (upW f l j) n
  | 0, _, _, _, h, _, _, _, _ => absurd h (Nat.not_lt_zero _)
  | f + 1, l, j, n, hf, hj, hn, h1, h2 => by
    rw [upW_succ]
    by_cases h : j = 0
    · rw [if_pos h]
      exact fun k hk hkn => h1 k hk hkn (by omega)
    · rw [if_neg h]
      by_cases hlt : (l.getD j wt0).t < (l.getD ((j - 1) / 2) wt0).t
      · rw [if_pos hlt]
        have hlt' : tm l j < tm l ((j - 1) / 2) := hlt
        obtain ⟨p, hp⟩ : ∃ p, p = (j - 1) / 2 := ⟨_, rfl⟩
        rw [← hp] at hlt' ⊢
        have hpl : p < l.length := by omega
        have hjl : j < l.length := by omega
        refine upW_heap f _ p n (by omega) (by omega) (by rw [swW_len]; exact hn) (fun k hk hkn hne => ?_) (fun k hk hkn hkp hp0 => ?_)
        · rw [tm_sw l p j k hpl hjl, tm_sw l p j _ hpl hjl]
          by_cases e1 : k = j
          · rw [if_pos e1, e1, ← hp, if_neg (by omega), if_pos rfl]; omega
          · rw [if_neg e1, if_neg hne]
            by_cases e2 : (k - 1) / 2 = j
            · rw [if_pos e2]
              have := h2 k hk hkn e2 (by omega)
              rw [← hp] at this
              exact this
            · rw [if_neg e2]
              by_cases e3 : (k - 1) / 2 = p
              · rw [if_pos e3]
                have := h1 k hk hkn e1
                rw [e3] at this
                omega
              · rw [if_neg e3]; exact h1 k hk hkn e1
        · have hpp : tm l ((p - 1) / 2) ≤ tm l p := h1 p hp0 (by omega) (by omega)
          rw [tm_sw l p j k hpl hjl, tm_sw l p j _ hpl hjl, if_neg (by omega), if_neg (by omega)]
          by_cases e1 : k = j
          · rw [if_pos e1]; exact hpp
          · rw [if_neg e1, if_neg (by omega)]
            have := h1 k hk hkn e1
            rw [hkp] at this
            omega
      · rw [if_neg hlt]
        intro k hk hkn
        by_cases e : k = j
        · rw [e]; exact Int.not_lt.1 hlt
        · exact h1 k hk hkn e
theorem kid_least (l : List Wt) (i n : Nat) (h : ¬ n ≤ 2 * i + 1) : (kidW l i n = 2 * i + 1 ∨ kidW l i n = 2 * i + 2) ∧ ∀ k, 0 < k → k < n → (k - 1) / 2 = i → tm l (kidW l i n) ≤ tm l k := by
  unfold kidW
  by_cases h2 : 2 * i + 2 < n ∧ (l.getD (2 * i + 2) wt0).t < (l.getD (2 * i + 1) wt0).t
  · rw [if_pos h2]
    refine ⟨Or.inr rfl, fun k hk hkn e => ?_⟩
    have h3 : tm l (2 * i + 2) < tm l (2 * i + 1) := h2.2
    rcases (by omega : k = 2 * i + 1 ∨ k = 2 * i + 2) with e | e
    · rw [e]; omega
    · rw [e]; exact Int.le_refl _
  · rw [if_neg h2]
    refine ⟨Or.inl rfl, fun k hk hkn e => ?_⟩
    rcases (by omega : k = 2 * i + 1 ∨ k = 2 * i + 2) with e | e
    · rw [e]; exact Int.le_refl _
    · rw [e]
      have h3 : ¬ tm l (2 * i + 2) < tm l (2 * i + 1) := fun h3 => h2 ⟨by omega, h3⟩
      omega
/-- behind going down from i: all is in order but, if it stayed, what stands at i against the one above it -/
theorem downW_heap : ∀ f l i n, n ≤ i + f → i < n → n ≤ l.length → (∀ k, 0 < k → k < n → (k - 1) / 2 ≠ i → k ≠ i → tm l ((k - 1) / 2) ≤ tm l k) → (∀ k, 0 < k → k < n → (k - 1) / 2 = i → 0 < i → tm l ((i - 1) / 2) ≤ tm l k) →
    (i ≤ (downW f l i n).2) ∧ (i < (downW f l i n).2 → Hpd (downW f l i n).1 n) ∧ (¬ i < (downW f l i n).2 → (downW f l i n).1 = l ∧ ∀ k, 0 < k → k < n → k ≠ i → tm l ((k - 1) / 2) ≤ tm l k)
  | 0, l, i, n, hf, hi, hn, h1, h2 => by omega
  | f + 1, l, i, n, hf, hi, hn, h1, h2 => by
    rw [downW_succ]
    by_cases h : n ≤ 2 * i + 1
    · rw [if_pos h]
      exact ⟨Nat.le_refl _, fun e => absurd e (Nat.lt_irrefl _), fun _ => ⟨rfl, fun k hk hkn hne => h1 k hk hkn (by omega) hne⟩⟩
    · rw [if_neg h]
      obtain ⟨hk0, hk1⟩ := kid_least l i n h
      have hkl := kidW_le l i n
      obtain ⟨c, hc⟩ : ∃ c, c = kidW l i n := ⟨_, rfl⟩
      rw [← hc] at hk0 hk1 hkl ⊢
      have hcn := hkl.2 h
      by_cases hlt : (l.getD c wt0).t < (l.getD i wt0).t
      · rw [if_pos hlt]
        have hlt' : tm l c < tm l i := hlt
        have hil : i < l.length := by omega
        have hcl : c < l.length := by omega
        have hpc : (c - 1) / 2 = i := by omega
        obtain ⟨q1, q2, q3⟩ := downW_heap f (swW l i c) c n (by omega) hcn (by rw [swW_len]; exact hn) (fun k hk hkn hp hne => by
            rw [tm_sw l i c k hil hcl, tm_sw l i c _ hil hcl, if_neg hp, if_neg hne]
            by_cases e1 : (k - 1) / 2 = i
            · rw [if_pos e1, if_neg (by omega)]
              exact hk1 k hk hkn e1
            · rw [if_neg e1]
              by_cases e2 : k = i
              · rw [if_pos e2]
                have := h2 c (by omega) hcn hpc (by omega)
                rw [e2]
                exact this
              · rw [if_neg e2]; exact h1 k hk hkn e1 e2) (fun k hk hkn hp _ => by
            rw [tm_sw l i c k hil hcl, tm_sw l i c _ hil hcl, hpc, if_neg (by omega), if_pos rfl, if_neg (by omega), if_neg (by omega)]
            have := h1 k hk hkn (by omega) (by omega)
            rw [hp] at this
            exact this)
        refine ⟨by omega, fun _ => ?_, fun e => absurd (by omega : i < (downW f (swW l i c) c n).2) e⟩
        by_cases hm : c < (downW f (swW l i c) c n).2
        · exact q2 hm
        · obtain ⟨e1, e2⟩ := q3 hm
          rw [e1]
          intro k hk hkn
          by_cases e : k = c
          · rw [e, hpc, tm_sw l i c c hil hcl, tm_sw l i c i hil hcl, if_pos rfl, if_neg (by omega), if_pos rfl]
            omega
          · exact e2 k hk hkn e
      · rw [if_neg hlt]
        refine ⟨Nat.le_refl _, fun e => absurd e (Nat.lt_irrefl _), fun _ => ⟨rfl, fun k hk hkn hne => ?_⟩⟩
        by_cases e1 : (k - 1) / 2 = i
        · have := hk1 k hk hkn e1
          have h3 : tm l i ≤ tm l c := Int.not_lt.1 hlt
          rw [e1]
          omega
        · exact h1 k hk hkn e1 hne
theorem Hpd.top {l : List Wt} {n : Nat} (h : Hpd l n) : ∀ k, k < n → tm l 0 ≤ tm l k := by
  intro k
  induction k using Nat.strongRecOn with
  | _ k ih =>
    intro hk
    by_cases e : k = 0
    · rw [e]; exact Int.le_refl _
    · have h1 := ih ((k - 1) / 2) (by omega) (by omega)
      have h2 := h k (by omega) hk
      omega
end Go.Proofs.Ytnpaoppfhffoiaa
