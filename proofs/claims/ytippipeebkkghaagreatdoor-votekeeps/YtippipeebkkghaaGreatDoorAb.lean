/- Heaps of numbers, plain: whatever goes up or down, the same ones are there, and the least is on top (laid by scripts/mkab.py). -/
import Derived.Test.YtippipeebkkghaaGreatDoorKb
namespace Go.Proofs.YtippipeebkkghaaGreatDoor
set_option linter.unusedVariables false
set_option linter.unusedSimpArgs false
open Go.RowKit Go.Deep

def swI (l : List Nat) (i j : Nat) : List Nat := (l.set i (l.getD j 0)).set j (l.getD i 0)
theorem swI_len (l : List Nat) (i j : Nat) : (swI l i j).length = l.length := by unfold swI; simp
/-- the one at j goes up -/
def upI : Nat → List Nat → Nat → List Nat
  | 0, l, _ => l
  | f + 1, l, j => if j = 0 then l else if (l.getD j 0) < (l.getD ((j - 1) / 2) 0) then upI f (swI l ((j - 1) / 2) j) ((j - 1) / 2) else l
/-- which of the two below i, of n, is to be held against it -/
def kidI (l : List Nat) (i n : Nat) : Nat := if 2 * i + 2 < n ∧ (l.getD (2 * i + 2) 0) < (l.getD (2 * i + 1) 0) then 2 * i + 2 else 2 * i + 1
/-- the one at i goes down, among the first n -/
def dnI : Nat → List Nat → Nat → Nat → List Nat
  | 0, l, _, _ => l
  | f + 1, l, i, n => if n ≤ 2 * i + 1 then l else if (l.getD (kidI l i n) 0) < (l.getD i 0) then dnI f (swI l i (kidI l i n)) (kidI l i n) n else l
theorem upI_len : ∀ f l j, (upI f l j).length = l.length
  | 0, _, _ => rfl
  | f + 1, l, j => by
    unfold upI
    by_cases h : j = 0
    · rw [if_pos h]
    · rw [if_neg h]
      by_cases h2 : (l.getD j 0) < (l.getD ((j - 1) / 2) 0)
      · rw [if_pos h2, upI_len f, swI_len]
      · rw [if_neg h2]
theorem dnI_len : ∀ f l i n, (dnI f l i n).length = l.length
  | 0, _, _, _ => rfl
  | f + 1, l, i, n => by
    unfold dnI
    by_cases h : n ≤ 2 * i + 1
    · rw [if_pos h]
    · rw [if_neg h]
      by_cases h2 : (l.getD (kidI l i n) 0) < (l.getD i 0)
      · rw [if_pos h2, dnI_len f, swI_len]
      · rw [if_neg h2]
def pushI (l : List Nat) (x : Nat) : List Nat := upI (l.length + 1) (l ++ [x]) l.length
def sunkI (l : List Nat) : List Nat := dnI l.length (swI l 0 (l.length - 1)) 0 (l.length - 1)
def popIL (l : List Nat) : List Nat := (sunkI l).take (l.length - 1)
def popIX (l : List Nat) : Nat := (sunkI l).getD (l.length - 1) 0
theorem upI_succ (f : Nat) (l : List Nat) (j : Nat) : upI (f + 1) l j = if j = 0 then l else if (l.getD j 0) < (l.getD ((j - 1) / 2) 0) then upI f (swI l ((j - 1) / 2) j) ((j - 1) / 2) else l := rfl
theorem dnI_succ (f : Nat) (l : List Nat) (i n : Nat) : dnI (f + 1) l i n = if n ≤ 2 * i + 1 then l else if (l.getD (kidI l i n) 0) < (l.getD i 0) then dnI f (swI l i (kidI l i n)) (kidI l i n) n else l := rfl
theorem upI_fuel : ∀ f f' l j, j < f → j < f' → upI f l j = upI f' l j
  | 0, _, _, _, h, _ => absurd h (Nat.not_lt_zero _)
  | f + 1, 0, _, _, _, h => absurd h (Nat.not_lt_zero _)
  | f + 1, f' + 1, l, j, h, h' => by
    unfold upI
    by_cases e : j = 0
    · rw [if_pos e, if_pos e]
    · rw [if_neg e, if_neg e]
      by_cases e2 : (l.getD j 0) < (l.getD ((j - 1) / 2) 0)
      · rw [if_pos e2, if_pos e2]; exact upI_fuel f f' _ _ (by omega) (by omega)
      · rw [if_neg e2, if_neg e2]

theorem kidI_le (l : List Nat) (i n : Nat) : i < kidI l i n ∧ (¬ n ≤ 2 * i + 1 → kidI l i n < n) := by
  unfold kidI
  by_cases h : 2 * i + 2 < n ∧ (l.getD (2 * i + 2) 0) < (l.getD (2 * i + 1) 0)
  · rw [if_pos h]; omega
  · rw [if_neg h]; omega
theorem dnI_fuel : ∀ f f' l i n, n ≤ i + f → n ≤ i + f' → dnI f l i n = dnI f' l i n
  | 0, 0, _, _, _, _, _ => rfl
  | 0, f' + 1, l, i, n, h, _ => by rw [dnI_succ, if_pos (by omega)]; rfl
  | f + 1, 0, l, i, n, _, h => by rw [dnI_succ, if_pos (by omega)]; rfl
  | f + 1, f' + 1, l, i, n, h, h' => by
    rw [dnI_succ, dnI_succ]
    by_cases e : n ≤ 2 * i + 1
    · rw [if_pos e, if_pos e]
    · rw [if_neg e, if_neg e]
      by_cases e2 : (l.getD (kidI l i n) 0) < (l.getD i 0)
      · rw [if_pos e2, if_pos e2]
        have := (kidI_le l i n).1
        exact dnI_fuel f f' _ _ _ (by omega) (by omega)
      · rw [if_neg e2, if_neg e2]

theorem getD_set_selfI (l : List Nat) (i : Nat) (x : Nat) (h : i < l.length) : (l.set i x).getD i 0 = x := by
  rw [List.getD_eq_getElem?_getD, List.getElem?_set_self h]; rfl
theorem getD_set_neI (l : List Nat) {i k : Nat} (x : Nat) (h : i ≠ k) : (l.set i x).getD k 0 = l.getD k 0 := by
  rw [List.getD_eq_getElem?_getD, List.getElem?_set_ne h, ← List.getD_eq_getElem?_getD]
theorem swI_getD (l : List Nat) (i j k : Nat) (hi : i < l.length) (hj : j < l.length) : (swI l i j).getD k 0 = if k = j then l.getD i 0 else if k = i then l.getD j 0 else l.getD k 0 := by
  unfold swI
  by_cases h1 : k = j
  · subst h1; rw [if_pos rfl, getD_set_selfI _ _ _ (by rw [List.length_set]; exact hj)]
  · rw [if_neg h1, getD_set_neI _ _ (fun e => h1 e.symm)]
    by_cases h2 : k = i
    · subst h2; rw [if_pos rfl, getD_set_selfI _ _ _ hi]
    · rw [if_neg h2, getD_set_neI _ _ (fun e => h2 e.symm)]
/-- the one at i goes down, among the first n; and where it comes to -/
def dnP : Nat → List Nat → Nat → Nat → List Nat × Nat
  | 0, l, i, _ => (l, i)
  | f + 1, l, i, n => if n ≤ 2 * i + 1 then (l, i) else if l.getD (kidI l i n) 0 < l.getD i 0 then dnP f (swI l i (kidI l i n)) (kidI l i n) n else (l, i)
theorem dnP_succ (f : Nat) (l : List Nat) (i n : Nat) : dnP (f + 1) l i n = if n ≤ 2 * i + 1 then (l, i) else if l.getD (kidI l i n) 0 < l.getD i 0 then dnP f (swI l i (kidI l i n)) (kidI l i n) n else (l, i) := rfl
/-- the time of the k-th -/
def tmI (l : List Nat) (k : Nat) : Nat := l.getD k 0
/-- of the first n each is no less than the one above it -/
def HpdI (l : List Nat) (n : Nat) : Prop := ∀ k, 0 < k → k < n → tmI l ((k - 1) / 2) ≤ tmI l k
theorem tmI_sw (l : List Nat) (i j k : Nat) (hi : i < l.length) (hj : j < l.length) : tmI (swI l i j) k = if k = j then tmI l i else if k = i then tmI l j else tmI l k := by
  unfold tmI
  rw [swI_getD l i j k hi hj]
theorem getD_of_getI {l : List Nat} {k : Nat} (h : k < l.length) : l.getD k 0 = l[k] := by rw [List.getD_eq_getElem?_getD, List.getElem?_eq_getElem h]; rfl
theorem swI_perm (l : List Nat) (i j : Nat) (hi : i < l.length) (hj : j < l.length) : (swI l i j).Perm l := by
  unfold swI
  rw [getD_of_getI hi, getD_of_getI hj]
  exact List.set_set_perm hi hj
theorem upI_perm : ∀ f l j, j < l.length → (upI f l j).Perm l
  | 0, l, j, _ => List.Perm.refl _
  | f + 1, l, j, hj => by
    rw [upI_succ]
    by_cases h : j = 0
    · rw [if_pos h]
    · rw [if_neg h]
      by_cases h2 : l.getD j 0 < l.getD ((j - 1) / 2) 0
      · rw [if_pos h2]
        exact (upI_perm f _ _ (by rw [swI_len]; omega)).trans (swI_perm l _ _ (by omega) hj)
      · rw [if_neg h2]
theorem dnP_perm : ∀ f l i n, i < n → n ≤ l.length → (dnP f l i n).1.Perm l
  | 0, l, i, n, _, _ => List.Perm.refl _
  | f + 1, l, i, n, hi, hn => by
    rw [dnP_succ]
    by_cases h : n ≤ 2 * i + 1
    · rw [if_pos h]
    · rw [if_neg h]
      by_cases h2 : l.getD (kidI l i n) 0 < l.getD i 0
      · rw [if_pos h2]
        have hk := (kidI_le l i n).2 h
        exact (dnP_perm f _ _ n hk (by rw [swI_len]; exact hn)).trans (swI_perm l _ _ (by omega) (by omega))
      · rw [if_neg h2]
/-- what is beyond n stays -/
theorem dnP_keep : ∀ f l i n k, i < n → n ≤ l.length → n ≤ k → (dnP f l i n).1.getD k 0 = l.getD k 0
  | 0, l, i, n, k, _, _, _ => rfl
  | f + 1, l, i, n, k, hi, hn, hk => by
    rw [dnP_succ]
    by_cases h : n ≤ 2 * i + 1
    · rw [if_pos h]
    · rw [if_neg h]
      by_cases h2 : l.getD (kidI l i n) 0 < l.getD i 0
      · rw [if_pos h2]
        have hkk := (kidI_le l i n).2 h
        rw [dnP_keep f _ _ n k hkk (by rw [swI_len]; exact hn) hk, swI_getD l i _ k (by omega) (by omega), if_neg (by omega), if_neg (by omega)]
      · rw [if_neg h2]
theorem upI_heap : ∀ f l j n, j < f → j < n → n ≤ l.length → (∀ k, 0 < k → k < n → k ≠ j → tmI l ((k - 1) / 2) ≤ tmI l k) → (∀ k, 0 < k → k < n → (k - 1) / 2 = j → 0 < j → tmI l ((j - 1) / 2) ≤ tmI l k) → HpdI (upI f l j) n
  | 0, _, _, _, h, _, _, _, _ => absurd h (Nat.not_lt_zero _)
  | f + 1, l, j, n, hf, hj, hn, h1, h2 => by
    rw [upI_succ]
    by_cases h : j = 0
    · rw [if_pos h]
      exact fun k hk hkn => h1 k hk hkn (by omega)
    · rw [if_neg h]
      by_cases hlt : l.getD j 0 < l.getD ((j - 1) / 2) 0
      · rw [if_pos hlt]
        have hlt' : tmI l j < tmI l ((j - 1) / 2) := hlt
        obtain ⟨p, hp⟩ : ∃ p, p = (j - 1) / 2 := ⟨_, rfl⟩
        rw [← hp] at hlt' ⊢
        have hpl : p < l.length := by omega
        have hjl : j < l.length := by omega
        refine upI_heap f _ p n (by omega) (by omega) (by rw [swI_len]; exact hn) (fun k hk hkn hne => ?_) (fun k hk hkn hkp hp0 => ?_)
        · rw [tmI_sw l p j k hpl hjl, tmI_sw l p j _ hpl hjl]
          by_cases e1 : k = j
          · rw [if_pos e1, e1, ← hp, if_neg (by omega), if_pos rfl]; omega
          · rw [if_neg e1, if_neg hne]
            by_cases e2 : (k - 1) / 2 = j
            · rw [if_pos e2]
              have := h2 k hk hkn e2 (by omega)
              rw [← hp] at this
              exact this
            · rw [if_neg e2]
              by_cases e3 : (k - 1) / 2 = p
              · rw [if_pos e3]
                have := h1 k hk hkn e1
                rw [e3] at this
                omega
              · rw [if_neg e3]; exact h1 k hk hkn e1
        · have hpp : tmI l ((p - 1) / 2) ≤ tmI l p := h1 p hp0 (by omega) (by omega)
          rw [tmI_sw l p j k hpl hjl, tmI_sw l p j _ hpl hjl, if_neg (by omega), if_neg (by omega)]
          by_cases e1 : k = j
          · rw [if_pos e1]; exact hpp
          · rw [if_neg e1, if_neg (by omega)]
            have := h1 k hk hkn e1
            rw [hkp] at this
            omega
      · rw [if_neg hlt]
        intro k hk hkn
        by_cases e : k = j
        · rw [e]; exact Nat.not_lt.1 hlt
        · exact h1 k hk hkn e
theorem kidI_least (l : List Nat) (i n : Nat) (h : ¬ n ≤ 2 * i + 1) : (kidI l i n = 2 * i + 1 ∨ kidI l i n = 2 * i + 2) ∧ ∀ k, 0 < k → k < n → (k - 1) / 2 = i → tmI l (kidI l i n) ≤ tmI l k := by
  unfold kidI
  by_cases h2 : 2 * i + 2 < n ∧ l.getD (2 * i + 2) 0 < l.getD (2 * i + 1) 0
  · rw [if_pos h2]
    refine ⟨Or.inr rfl, fun k hk hkn e => ?_⟩
    have h3 : tmI l (2 * i + 2) < tmI l (2 * i + 1) := h2.2
    rcases (by omega : k = 2 * i + 1 ∨ k = 2 * i + 2) with e | e
    · rw [e]; omega
    · rw [e]; exact Nat.le_refl _
  · rw [if_neg h2]
    refine ⟨Or.inl rfl, fun k hk hkn e => ?_⟩
    rcases (by omega : k = 2 * i + 1 ∨ k = 2 * i + 2) with e | e
    · rw [e]; exact Nat.le_refl _
    · rw [e]
      have h3 : ¬ tmI l (2 * i + 2) < tmI l (2 * i + 1) := fun h3 => h2 ⟨by omega, h3⟩
      omega
/-- behind going down from i: all is in order but, if it stayed, what stands at i against the one above it -/
theorem dnP_heap : ∀ f l i n, n ≤ i + f → i < n → n ≤ l.length → (∀ k, 0 < k → k < n → (k - 1) / 2 ≠ i → k ≠ i → tmI l ((k - 1) / 2) ≤ tmI l k) → (∀ k, 0 < k → k < n → (k - 1) / 2 = i → 0 < i → tmI l ((i - 1) / 2) ≤ tmI l k) →
    (i ≤ (dnP f l i n).2) ∧ (i < (dnP f l i n).2 → HpdI (dnP f l i n).1 n) ∧ (¬ i < (dnP f l i n).2 → (dnP f l i n).1 = l ∧ ∀ k, 0 < k → k < n → k ≠ i → tmI l ((k - 1) / 2) ≤ tmI l k)
  | 0, l, i, n, hf, hi, hn, h1, h2 => by omega
  | f + 1, l, i, n, hf, hi, hn, h1, h2 => by
    rw [dnP_succ]
    by_cases h : n ≤ 2 * i + 1
    · rw [if_pos h]
      exact ⟨Nat.le_refl _, fun e => absurd e (Nat.lt_irrefl _), fun _ => ⟨rfl, fun k hk hkn hne => h1 k hk hkn (by omega) hne⟩⟩
    · rw [if_neg h]
      obtain ⟨hk0, hk1⟩ := kidI_least l i n h
      have hkl := kidI_le l i n
      obtain ⟨c, hc⟩ : ∃ c, c = kidI l i n := ⟨_, rfl⟩
      rw [← hc] at hk0 hk1 hkl ⊢
      have hcn := hkl.2 h
      by_cases hlt : l.getD c 0 < l.getD i 0
      · rw [if_pos hlt]
        have hlt' : tmI l c < tmI l i := hlt
        have hil : i < l.length := by omega
        have hcl : c < l.length := by omega
        have hpc : (c - 1) / 2 = i := by omega
        obtain ⟨q1, q2, q3⟩ := dnP_heap f (swI l i c) c n (by omega) hcn (by rw [swI_len]; exact hn) (fun k hk hkn hp hne => by
            rw [tmI_sw l i c k hil hcl, tmI_sw l i c _ hil hcl, if_neg hp, if_neg hne]
            by_cases e1 : (k - 1) / 2 = i
            · rw [if_pos e1, if_neg (by omega)]
              exact hk1 k hk hkn e1
            · rw [if_neg e1]
              by_cases e2 : k = i
              · rw [if_pos e2]
                have := h2 c (by omega) hcn hpc (by omega)
                rw [e2]
                exact this
              · rw [if_neg e2]; exact h1 k hk hkn e1 e2) (fun k hk hkn hp _ => by
            rw [tmI_sw l i c k hil hcl, tmI_sw l i c _ hil hcl, hpc, if_neg (by omega), if_pos rfl, if_neg (by omega), if_neg (by omega)]
            have := h1 k hk hkn (by omega) (by omega)
            rw [hp] at this
            exact this)
        refine ⟨by omega, fun _ => ?_, fun e => absurd (by omega : i < (dnP f (swI l i c) c n).2) e⟩
        by_cases hm : c < (dnP f (swI l i c) c n).2
        · exact q2 hm
        · obtain ⟨e1, e2⟩ := q3 hm
          rw [e1]
          intro k hk hkn
          by_cases e : k = c
          · rw [e, hpc, tmI_sw l i c c hil hcl, tmI_sw l i c i hil hcl, if_pos rfl, if_neg (by omega), if_pos rfl]
            omega
          · exact e2 k hk hkn e
      · rw [if_neg hlt]
        refine ⟨Nat.le_refl _, fun e => absurd e (Nat.lt_irrefl _), fun _ => ⟨rfl, fun k hk hkn hne => ?_⟩⟩
        by_cases e1 : (k - 1) / 2 = i
        · have := hk1 k hk hkn e1
          have h3 : tmI l i ≤ tmI l c := Nat.not_lt.1 hlt
          rw [e1]
          omega
        · exact h1 k hk hkn e1 hne
theorem HpdI.top {l : List Nat} {n : Nat} (h : HpdI l n) : ∀ k, k < n → tmI l 0 ≤ tmI l k := by
  intro k
  induction k using Nat.strongRecOn with
  | _ k ih =>
    intro hk
    by_cases e : k = 0
    · rw [e]; exact Nat.le_refl _
    · have h1 := ih ((k - 1) / 2) (by omega) (by omega)
      have h2 := h k (by omega) hk
      omega
theorem dnI_fst : ∀ f l i n, dnI f l i n = (dnP f l i n).1
  | 0, _, _, _ => rfl
  | f + 1, l, i, n => by
    rw [dnI_succ, dnP_succ]
    by_cases h : n ≤ 2 * i + 1
    · rw [if_pos h, if_pos h]
    · rw [if_neg h, if_neg h]
      by_cases h2 : l.getD (kidI l i n) 0 < l.getD i 0
      · rw [if_pos h2, if_pos h2]; exact dnI_fst f _ _ n
      · rw [if_neg h2, if_neg h2]
/-- what is pushed -/
theorem pushI_heap {l : List Nat} (h : HpdI l l.length) (x : Nat) : HpdI (pushI l x) (pushI l x).length ∧ (pushI l x).Perm (l ++ [x]) := by
  have hl : (l ++ [x]).length = l.length + 1 := by rw [List.length_append]; rfl
  have e : (pushI l x).length = l.length + 1 := by unfold pushI; rw [upI_len, hl]
  have hg : ∀ k, k < l.length → tmI (l ++ [x]) k = tmI l k := fun k hk => by
    unfold tmI
    rw [List.getD_eq_getElem?_getD, List.getD_eq_getElem?_getD, List.getElem?_append_left hk]
  refine ⟨?_, ?_⟩
  · rw [e]
    unfold pushI
    refine upI_heap (l.length + 1) (l ++ [x]) l.length (l.length + 1) (by omega) (by omega) (by omega) (fun k hk hkn hne => ?_) (fun k hk hkn hp h0 => by omega)
    rw [hg k (by omega), hg _ (by omega)]
    exact h k hk (by omega)
  · unfold pushI
    exact upI_perm _ _ _ (by omega)
/-- what is popped is the least; the others stay a heap -/
theorem popI_heap {l : List Nat} (h : HpdI l l.length) (h0 : 0 < l.length) : popIX l = l.getD 0 0 ∧ HpdI (popIL l) (popIL l).length ∧ (popIL l ++ [popIX l]).Perm l ∧ (popIL l).length = l.length - 1 := by
  obtain ⟨n, hn⟩ : ∃ n, l.length = n + 1 := ⟨l.length - 1, by omega⟩
  have hsl : (sunkI l).length = n + 1 := by unfold sunkI; rw [dnI_len, swI_len, hn]
  have e1 : (popIL l).length = n := by unfold popIL; rw [List.length_take, hsl, hn]; omega
  have hs0 : (swI l 0 n).getD n 0 = l.getD 0 0 := by rw [swI_getD l 0 n n h0 (by omega), if_pos rfl]
  by_cases hn0 : n = 0
  · subst hn0
    have hS : sunkI l = swI l 0 0 := by
      unfold sunkI
      rw [hn, dnI_succ, if_pos (by omega)]
    have hx : popIX l = l.getD 0 0 := by unfold popIX; rw [hS, hn]; exact hs0
    have hL : popIL l = [] := List.eq_nil_of_length_eq_zero e1
    refine ⟨hx, by rw [hL]; exact fun k _ hk => absurd hk (Nat.not_lt_zero _), ?_, by rw [hL, hn]; rfl⟩
    rw [hL, hx]
    obtain ⟨y, hy⟩ : ∃ y, l = [y] := List.length_eq_one_iff.1 hn
    rw [hy]
    exact List.Perm.refl _
  · have hn1 : n < (swI l 0 n).length := by rw [swI_len]; omega
    have hS : sunkI l = (dnP (n + 1) (swI l 0 n) 0 n).1 := by
      unfold sunkI
      rw [hn, Nat.add_sub_cancel, dnI_fst]
    have hkeep : (sunkI l).getD n 0 = l.getD 0 0 := by
      rw [hS, dnP_keep _ _ _ _ _ (by omega) (by omega) (Nat.le_refl _), hs0]
    have hx : popIX l = l.getD 0 0 := by unfold popIX; rw [hn, Nat.add_sub_cancel, hkeep]
    have hperm : (sunkI l).Perm l := by
      rw [hS]
      exact (dnP_perm _ _ _ _ (by omega) (by omega)).trans (swI_perm l 0 n h0 (by omega))
    have hheap : HpdI (sunkI l) n := by
      obtain ⟨q1, q2, q3⟩ := dnP_heap (n + 1) (swI l 0 n) 0 n (by omega) (by omega) (by omega) (fun k hk hkn hp hne => by
        rw [tmI_sw l 0 n k h0 (by omega), tmI_sw l 0 n _ h0 (by omega), if_neg (by omega), if_neg (by omega), if_neg (by omega), if_neg (by omega)]
        exact h k hk (by omega)) (fun k hk hkn hp h9 => absurd h9 (Nat.lt_irrefl _))
      rw [hS]
      by_cases e : 0 < (dnP (n + 1) (swI l 0 n) 0 n).2
      · exact q2 e
      · obtain ⟨q4, q5⟩ := q3 e
        rw [q4]
        intro k hk hkn
        exact q5 k hk hkn (by omega)
    refine ⟨hx, ?_, ?_, by rw [e1, hn]; rfl⟩
    · rw [e1]
      intro k hk hkn
      have := hheap k hk hkn
      have hg : ∀ j, j < n → tmI (popIL l) j = tmI (sunkI l) j := fun j hj => by
        unfold tmI popIL
        rw [List.getD_eq_getElem?_getD, List.getD_eq_getElem?_getD, List.getElem?_take_of_lt (by omega)]
      rw [hg k hkn, hg _ (by omega)]
      exact this
    · have hlast : popIL l ++ [popIX l] = sunkI l := by
        unfold popIL popIX
        rw [hn, Nat.add_sub_cancel]
        have hd : (sunkI l).drop n = [(sunkI l).getD n 0] := by
          rw [List.drop_eq_getElem_cons (by omega), List.drop_of_length_le (by omega), List.getD_eq_getElem?_getD, List.getElem?_eq_getElem (by omega)]
          rfl
        rw [← hd, List.take_append_drop]
      rw [hlast]
      exact hperm
end Go.Proofs.YtippipeebkkghaaGreatDoor
