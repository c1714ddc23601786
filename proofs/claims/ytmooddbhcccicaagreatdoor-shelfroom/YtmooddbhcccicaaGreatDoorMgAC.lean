/- Texts of this proof, joined: Ab, Ac, Ah. -/
import Derived.Test.YtmooddbhcccicaaGreatDoorMgAA
import Derived.BigRegion
import Derived.Test.YtmooddbhcccicaaGreatDoorMgAB
import Derived.Lib.Bytes
/- Heaps of numbers, plain: whatever goes up or down, the same ones are there, and the least is on top (laid by scripts/mkab.py). -/
namespace Go.Proofs.YtmooddbhcccicaaGreatDoor
set_option linter.unusedVariables false
set_option linter.unusedSimpArgs false
open Go.RowKit Go.Deep

def swI (l : List Nat) (i j : Nat) : List Nat := (l.set i (l.getD j 0)).set j (l.getD i 0)
theorem swI_len (l : List Nat) (i j : Nat) : (swI l i j).length = l.length := by unfold swI; simp
/-- the one at j goes up -/
def upI : Nat → List Nat → Nat → List Nat
  | 0, l, _ => l
  | f + 1, l, j => if j = 0 then l else if (l.getD j 0) < (l.getD ((j - 1) / 2) 0) then upI f (swI l ((j - 1) / 2) j) ((j - 1) / 2) else l
/-- which of the two below i, of n, is to be held against it -/
def kidI (l : List Nat) (i n : Nat) : Nat := if 2 * i + 2 < n ∧ (l.getD (2 * i + 2) 0) < (l.getD (2 * i + 1) 0) then 2 * i + 2 else 2 * i + 1
/-- the one at i goes down, among the first n -/
def dnI : Nat → List Nat → Nat → Nat → List Nat
  | 0, l, _, _ => l
  | f + 1, l, i, n => if n ≤ 2 * i + 1 then l else if (l.getD (kidI l i n) 0) < (l.getD i 0) then dnI f (swI l i (kidI l i n)) (kidI l i n) n else l
theorem upI_len : ∀ f l j, (upI f l j).length = l.length
  | 0, _, _ => rfl
  | f + 1, l, j => by
    unfold upI
    by_cases h : j = 0
    · rw [if_pos h]
    · rw [if_neg h]
      by_cases h2 : (l.getD j 0) < (l.getD ((j - 1) / 2) 0)
      · rw [if_pos h2, upI_len f, swI_len]
      · rw [if_neg h2]
theorem dnI_len : ∀ f l i n, (dnI f l i n).length = l.length
  | 0, _, _, _ => rfl
  | f + 1, l, i, n => by
    unfold dnI
    by_cases h : n ≤ 2 * i + 1
    · rw [if_pos h]
    · rw [if_neg h]
      by_cases h2 : (l.getD (kidI l i n) 0) < (l.getD i 0)
      · rw [if_pos h2, dnI_len f, swI_len]
      · rw [if_neg h2]
def pushI (l : List Nat) (x : Nat) : List Nat := upI (l.length + 1) (l ++ [x]) l.length
def sunkI (l : List Nat) : List Nat := dnI l.length (swI l 0 (l.length - 1)) 0 (l.length - 1)
def popIL (l : List Nat) : List Nat := (sunkI l).take (l.length - 1)
def popIX (l : List Nat) : Nat := (sunkI l).getD (l.length - 1) 0
theorem upI_succ (f : Nat) (l : List Nat) (j : Nat) : upI (f + 1) l j = if j = 0 then l else if (l.getD j 0) < (l.getD ((j - 1) / 2) 0) then upI f (swI l ((j - 1) / 2) j) ((j - 1) / 2) else l := rfl
theorem dnI_succ (f : Nat) (l : List Nat) (i n : Nat) : dnI (f + 1) l i n = if n ≤ 2 * i + 1 then l else if (l.getD (kidI l i n) 0) < (l.getD i 0) then dnI f (swI l i (kidI l i n)) (kidI l i n) n else l := rfl
theorem upI_fuel : ∀ f f' l j, j < f → j < f' → upI f l j = upI f' l j
  | 0, _, _, _, h, _ => absurd h (Nat.not_lt_zero _)
  | f + 1, 0, _, _, _, h => absurd h (Nat.not_lt_zero _)
  | f + 1, f' + 1, l, j, h, h' => by
    unfold upI
    by_cases e : j = 0
    · rw [if_pos e, if_pos e]
    · rw [if_neg e, if_neg e]
      by_cases e2 : (l.getD j 0) < (l.getD ((j - 1) / 2) 0)
      · rw [if_pos e2, if_pos e2]; exact upI_fuel f f' _ _ (by omega) (by omega)
      · rw [if_neg e2, if_neg e2]

theorem kidI_le (l : List Nat) (i n : Nat) : i < kidI l i n ∧ (¬ n ≤ 2 * i + 1 → kidI l i n < n) := by
  unfold kidI
  by_cases h : 2 * i + 2 < n ∧ (l.getD (2 * i + 2) 0) < (l.getD (2 * i + 1) 0)
  · rw [if_pos h]; omega
  · rw [if_neg h]; omega
theorem dnI_fuel : ∀ f f' l i n, n ≤ i + f → n ≤ i + f' → dnI f l i n = dnI f' l i n
  | 0, 0, _, _, _, _, _ => rfl
  | 0, f' + 1, l, i, n, h, _ => by rw [dnI_succ, if_pos (by omega)]; rfl
  | f + 1, 0, l, i, n, _, h => by rw [dnI_succ, if_pos (by omega)]; rfl
  | f + 1, f' + 1, l, i, n, h, h' => by
    rw [dnI_succ, dnI_succ]
    by_cases e : n ≤ 2 * i + 1
    · rw [if_pos e, if_pos e]
    · rw [if_neg e, if_neg e]
      by_cases e2 : (l.getD (kidI l i n) 0) < (l.getD i 0)
      · rw [if_pos e2, if_pos e2]
        have := (kidI_le l i n).1
        exact dnI_fuel f f' _ _ _ (by omega) (by omega)
      · rw [if_neg e2, if_neg e2]

theorem getD_set_selfI (l : List Nat) (i : Nat) (x : Nat) (h : i < l.length) : (l.set i x).getD i 0 = x := by
  rw [List.getD_eq_getElem?_getD, List.getElem?_set_self h]; rfl
theorem getD_set_neI (l : List Nat) {i k : Nat} (x : Nat) (h : i ≠ k) : (l.set i x).getD k 0 = l.getD k 0 := by
  rw [List.getD_eq_getElem?_getD, List.getElem?_set_ne h, ← List.getD_eq_getElem?_getD]
theorem swI_getD (l : List Nat) (i j k : Nat) (hi : i < l.length) (hj : j < l.length) : (swI l i j).getD k 0 = if k = j then l.getD i 0 else if k = i then l.getD j 0 else l.getD k 0 := by
  unfold swI
  by_cases h1 : k = j
  · subst h1; rw [if_pos rfl, getD_set_selfI _ _ _ (by rw [List.length_set]; exact hj)]
  · rw [if_neg h1, getD_set_neI _ _ (fun e => h1 e.symm)]
    by_cases h2 : k = i
    · subst h2; rw [if_pos rfl, getD_set_selfI _ _ _ hi]
    · rw [if_neg h2, getD_set_neI _ _ (fun e => h2 e.symm)]
/-- the one at i goes down, among the first n; and where it comes to -/
def dnP : Nat → List Nat → Nat → Nat → List Nat × Nat
  | 0, l, i, _ => (l, i)
  | f + 1, l, i, n => if n ≤ 2 * i + 1 then (l, i) else if l.getD (kidI l i n) 0 < l.getD i 0 then dnP f (swI l i (kidI l i n)) (kidI l i n) n else (l, i)
theorem dnP_succ (f : Nat) (l : List Nat) (i n : Nat) : dnP (f + 1) l i n = if n ≤ 2 * i + 1 then (l, i) else if l.getD (kidI l i n) 0 < l.getD i 0 then dnP f (swI l i (kidI l i n)) (kidI l i n) n else (l, i) := rfl
/-- the time of the k-th -/
def tmI (l : List Nat) (k : Nat) : Nat := l.getD k 0
/-- of the first n each is no less than the one above it -/
def HpdI (l : List Nat) (n : Nat) : Prop := ∀ k, 0 < k → k < n → tmI l ((k - 1) / 2) ≤ tmI l k
theorem tmI_sw (l : List Nat) (i j k : Nat) (hi : i < l.length) (hj : j < l.length) : tmI (swI l i j) k = if k = j then tmI l i else if k = i then tmI l j else tmI l k := by
  unfold tmI
  rw [swI_getD l i j k hi hj]
theorem getD_of_getI {l : List Nat} {k : Nat} (h : k < l.length) : l.getD k 0 = l[k] := by rw [List.getD_eq_getElem?_getD, List.getElem?_eq_getElem h]; rfl
theorem swI_perm (l : List Nat) (i j : Nat) (hi : i < l.length) (hj : j < l.length) : (swI l i j).Perm l := by
  unfold swI
  rw [getD_of_getI hi, getD_of_getI hj]
  exact List.set_set_perm hi hj
theorem upI_perm : ∀ f l j, j < l.length → (upI f l j).Perm l
  | 0, l, j, _ => List.Perm.refl _
  | f + 1, l, j, hj => by
    rw [upI_succ]
    by_cases h : j = 0
    · rw [if_pos h]
    · rw [if_neg h]
      by_cases h2 : l.getD j 0 < l.getD ((j - 1) / 2) 0
      · rw [if_pos h2]
        exact (upI_perm f _ _ (by rw [swI_len]; omega)).trans (swI_perm l _ _ (by omega) hj)
      · rw [if_neg h2]
theorem dnP_perm : ∀ f l i n, i < n → n ≤ l.length → (dnP f l i n).1.Perm l
  | 0, l, i, n, _, _ => List.Perm.refl _
  | f + 1, l, i, n, hi, hn => by
    rw [dnP_succ]
    by_cases h : n ≤ 2 * i + 1
    · rw [if_pos h]
    · rw [if_neg h]
      by_cases h2 : l.getD (kidI l i n) 0 < l.getD i 0
      · rw [if_pos h2]
        have hk := (kidI_le l i n).2 h
        exact (dnP_perm f _ _ n hk (by rw [swI_len]; exact hn)).trans (swI_perm l _ _ (by omega) (by omega))
      · rw [if_neg h2]
/-- what is beyond n stays -/
theorem dnP_keep : ∀ f l i n k, i < n → n ≤ l.length → n ≤ k → (dnP f l i n).1.getD k 0 = l.getD k 0
  | 0, l, i, n, k, _, _, _ => rfl
  | f + 1, l, i, n, k, hi, hn, hk => by
    rw [dnP_succ]
    by_cases h : n ≤ 2 * i + 1
    · rw [if_pos h]
    · rw [if_neg h]
      by_cases h2 : l.getD (kidI l i n) 0 < l.getD i 0
      · rw [if_pos h2]
        have hkk := (kidI_le l i n).2 h
        rw [dnP_keep f _ _ n k hkk (by rw [swI_len]; exact hn) hk, swI_getD l i _ k (by omega) (by omega), if_neg (by omega), if_neg (by omega)]
      · rw [if_neg h2]
theorem upI_heap : ∀ f l j n, j < f → j < n → n ≤ l.length → (∀ k, 0 < k → k < n → k ≠ j → tmI l ((k - 1) / 2) ≤ tmI l k) → (∀ k, 0 < k → k < n → (k - 1) / 2 = j → 0 < j → tmI l ((j - 1) / 2) ≤ tmI l k) → HpdI (upI f l j) n
  | 0, _, _, _, h, _, _, _, _ => absurd h (Nat.not_lt_zero _)
  | f + 1, l, j, n, hf, hj, hn, h1, h2 => by
    rw [upI_succ]
    by_cases h : j = 0
    · rw [if_pos h]
      exact fun k hk hkn => h1 k hk hkn (by omega)
    · rw [if_neg h]
      by_cases hlt : l.getD j 0 < l.getD ((j - 1) / 2) 0
      · rw [if_pos hlt]
        have hlt' : tmI l j < tmI l ((j - 1) / 2) := hlt
        obtain ⟨p, hp⟩ : ∃ p, p = (j - 1) / 2 := ⟨_, rfl⟩
        rw [← hp] at hlt' ⊢
        have hpl : p < l.length := by omega
        have hjl : j < l.length := by omega
        refine upI_heap f _ p n (by omega) (by omega) (by rw [swI_len]; exact hn) (fun k hk hkn hne => ?_) (fun k hk hkn hkp hp0 => ?_)
        · rw [tmI_sw l p j k hpl hjl, tmI_sw l p j _ hpl hjl]
          by_cases e1 : k = j
          · rw [if_pos e1, e1, ← hp, if_neg (by omega), if_pos rfl]; omega
          · rw [if_neg e1, if_neg hne]
            by_cases e2 : (k - 1) / 2 = j
            · rw [if_pos e2]
              have := h2 k hk hkn e2 (by omega)
              rw [← hp] at this
              exact this
            · rw [if_neg e2]
              by_cases e3 : (k - 1) / 2 = p
              · rw [if_pos e3]
                have := h1 k hk hkn e1
                rw [e3] at this
                omega
              · rw [if_neg e3]; exact h1 k hk hkn e1
        · have hpp : tmI l ((p - 1) / 2) ≤ tmI l p := h1 p hp0 (by omega) (by omega)
          rw [tmI_sw l p j k hpl hjl, tmI_sw l p j _ hpl hjl, if_neg (by omega), if_neg (by omega)]
          by_cases e1 : k = j
          · rw [if_pos e1]; exact hpp
          · rw [if_neg e1, if_neg (by omega)]
            have := h1 k hk hkn e1
            rw [hkp] at this
            omega
      · rw [if_neg hlt]
        intro k hk hkn
        by_cases e : k = j
        · rw [e]; exact Nat.not_lt.1 hlt
        · exact h1 k hk hkn e
theorem kidI_least (l : List Nat) (i n : Nat) (h : ¬ n ≤ 2 * i + 1) : (kidI l i n = 2 * i + 1 ∨ kidI l i n = 2 * i + 2) ∧ ∀ k, 0 < k → k < n → (k - 1) / 2 = i → tmI l (kidI l i n) ≤ tmI l k := by
  unfold kidI
  by_cases h2 : 2 * i + 2 < n ∧ l.getD (2 * i + 2) 0 < l.getD (2 * i + 1) 0
  · rw [if_pos h2]
    refine ⟨Or.inr rfl, fun k hk hkn e => ?_⟩
    have h3 : tmI l (2 * i + 2) < tmI l (2 * i + 1) := h2.2
    rcases (by omega : k = 2 * i + 1 ∨ k = 2 * i + 2) with e | e
    · rw [e]; omega
    · rw [e]; exact Nat.le_refl _
  · rw [if_neg h2]
    refine ⟨Or.inl rfl, fun k hk hkn e => ?_⟩
    rcases (by omega : k = 2 * i + 1 ∨ k = 2 * i + 2) with e | e
    · rw [e]; exact Nat.le_refl _
    · rw [e]
      have h3 : ¬ tmI l (2 * i + 2) < tmI l (2 * i + 1) := fun h3 => h2 ⟨by omega, h3⟩
      omega
/-- behind going down from i: all is in order but, if it stayed, what stands at i against the one above it -/
theorem dnP_heap : ∀ f l i n, n ≤ i + f → i < n → n ≤ l.length → (∀ k, 0 < k → k < n → (k - 1) / 2 ≠ i → k ≠ i → tmI l ((k - 1) / 2) ≤ tmI l k) → (∀ k, 0 < k → k < n → (k - 1) / 2 = i → 0 < i → tmI l ((i - 1) / 2) ≤ tmI l k) →
    (i ≤ (dnP f l i n).2) ∧ (i < (dnP f l i n).2 → HpdI (dnP f l i n).1 n) ∧ (¬ i < (dnP f l i n).2 → (dnP f l i n).1 = l ∧ ∀ k, 0 < k → k < n → k ≠ i → tmI l ((k - 1) / 2) ≤ tmI l k)
  | 0, l, i, n, hf, hi, hn, h1, h2 => by omega
  | f + 1, l, i, n, hf, hi, hn, h1, h2 => by
    rw [dnP_succ]
    by_cases h : n ≤ 2 * i + 1
    · rw [if_pos h]
      exact ⟨Nat.le_refl _, fun e => absurd e (Nat.lt_irrefl _), fun _ => ⟨rfl, fun k hk hkn hne => h1 k hk hkn (by omega) hne⟩⟩
    · rw [if_neg h]
      obtain ⟨hk0, hk1⟩ := kidI_least l i n h
      have hkl := kidI_le l i n
      obtain ⟨c, hc⟩ : ∃ c, c = kidI l i n := ⟨_, rfl⟩
      rw [← hc] at hk0 hk1 hkl ⊢
      have hcn := hkl.2 h
      by_cases hlt : l.getD c 0 < l.getD i 0
      · rw [if_pos hlt]
        have hlt' : tmI l c < tmI l i := hlt
        have hil : i < l.length := by omega
        have hcl : c < l.length := by omega
        have hpc : (c - 1) / 2 = i := by omega
        obtain ⟨q1, q2, q3⟩ := dnP_heap f (swI l i c) c n (by omega) hcn (by rw [swI_len]; exact hn) (fun k hk hkn hp hne => by
            rw [tmI_sw l i c k hil hcl, tmI_sw l i c _ hil hcl, if_neg hp, if_neg hne]
            by_cases e1 : (k - 1) / 2 = i
            · rw [if_pos e1, if_neg (by omega)]
              exact hk1 k hk hkn e1
            · rw [if_neg e1]
              by_cases e2 : k = i
              · rw [if_pos e2]
                have := h2 c (by omega) hcn hpc (by omega)
                rw [e2]
                exact this
              · rw [if_neg e2]; exact h1 k hk hkn e1 e2) (fun k hk hkn hp _ => by
            rw [tmI_sw l i c k hil hcl, tmI_sw l i c _ hil hcl, hpc, if_neg (by omega), if_pos rfl, if_neg (by omega), if_neg (by omega)]
            have := h1 k hk hkn (by omega) (by omega)
            rw [hp] at this
            exact this)
        refine ⟨by omega, fun _ => ?_, fun e => absurd (by omega : i < (dnP f (swI l i c) c n).2) e⟩
        by_cases hm : c < (dnP f (swI l i c) c n).2
        · exact q2 hm
        · obtain ⟨e1, e2⟩ := q3 hm
          rw [e1]
          intro k hk hkn
          by_cases e : k = c
          · rw [e, hpc, tmI_sw l i c c hil hcl, tmI_sw l i c i hil hcl, if_pos rfl, if_neg (by omega), if_pos rfl]
            omega
          · exact e2 k hk hkn e
      · rw [if_neg hlt]
        refine ⟨Nat.le_refl _, fun e => absurd e (Nat.lt_irrefl _), fun _ => ⟨rfl, fun k hk hkn hne => ?_⟩⟩
        by_cases e1 : (k - 1) / 2 = i
        · have := hk1 k hk hkn e1
          have h3 : tmI l i ≤ tmI l c := Nat.not_lt.1 hlt
          rw [e1]
          omega
        · exact h1 k hk hkn e1 hne
theorem HpdI.top {l : List Nat} {n : Nat} (h : HpdI l n) : ∀ k, k < n → tmI l 0 ≤ tmI l k := by
  intro k
  induction k using Nat.strongRecOn with
  | _ k ih =>
    intro hk
    by_cases e : k = 0
    · rw [e]; exact Nat.le_refl _
    · have h1 := ih ((k - 1) / 2) (by omega) (by omega)
      have h2 := h k (by omega) hk
      omega
theorem dnI_fst : ∀ f l i n, dnI f l i n = (dnP f l i n).1
  | 0, _, _, _ => rfl
  | f + 1, l, i, n => by
    rw [dnI_succ, dnP_succ]
    by_cases h : n ≤ 2 * i + 1
    · rw [if_pos h, if_pos h]
    · rw [if_neg h, if_neg h]
      by_cases h2 : l.getD (kidI l i n) 0 < l.getD i 0
      · rw [if_pos h2, if_pos h2]; exact dnI_fst f _ _ n
      · rw [if_neg h2, if_neg h2]
/-- what is pushed -/
theorem pushI_heap {l : List Nat} (h : HpdI l l.length) (x : Nat) : HpdI (pushI l x) (pushI l x).length ∧ (pushI l x).Perm (l ++ [x]) := by
  have hl : (l ++ [x]).length = l.length + 1 := by rw [List.length_append]; rfl
  have e : (pushI l x).length = l.length + 1 := by unfold pushI; rw [upI_len, hl]
  have hg : ∀ k, k < l.length → tmI (l ++ [x]) k = tmI l k := fun k hk => by
    unfold tmI
    rw [List.getD_eq_getElem?_getD, List.getD_eq_getElem?_getD, List.getElem?_append_left hk]
  refine ⟨?_, ?_⟩
  · rw [e]
    unfold pushI
    refine upI_heap (l.length + 1) (l ++ [x]) l.length (l.length + 1) (by omega) (by omega) (by omega) (fun k hk hkn hne => ?_) (fun k hk hkn hp h0 => by omega)
    rw [hg k (by omega), hg _ (by omega)]
    exact h k hk (by omega)
  · unfold pushI
    exact upI_perm _ _ _ (by omega)
/-- what is popped is the least; the others stay a heap -/
theorem popI_heap {l : List Nat} (h : HpdI l l.length) (h0 : 0 < l.length) : popIX l = l.getD 0 0 ∧ HpdI (popIL l) (popIL l).length ∧ (popIL l ++ [popIX l]).Perm l ∧ (popIL l).length = l.length - 1 := by
  obtain ⟨n, hn⟩ : ∃ n, l.length = n + 1 := ⟨l.length - 1, by omega⟩
  have hsl : (sunkI l).length = n + 1 := by unfold sunkI; rw [dnI_len, swI_len, hn]
  have e1 : (popIL l).length = n := by unfold popIL; rw [List.length_take, hsl, hn]; omega
  have hs0 : (swI l 0 n).getD n 0 = l.getD 0 0 := by rw [swI_getD l 0 n n h0 (by omega), if_pos rfl]
  by_cases hn0 : n = 0
  · subst hn0
    have hS : sunkI l = swI l 0 0 := by
      unfold sunkI
      rw [hn, dnI_succ, if_pos (by omega)]
    have hx : popIX l = l.getD 0 0 := by unfold popIX; rw [hS, hn]; exact hs0
    have hL : popIL l = [] := List.eq_nil_of_length_eq_zero e1
    refine ⟨hx, by rw [hL]; exact fun k _ hk => absurd hk (Nat.not_lt_zero _), ?_, by rw [hL, hn]; rfl⟩
    rw [hL, hx]
    obtain ⟨y, hy⟩ : ∃ y, l = [y] := List.length_eq_one_iff.1 hn
    rw [hy]
    exact List.Perm.refl _
  · have hn1 : n < (swI l 0 n).length := by rw [swI_len]; omega
    have hS : sunkI l = (dnP (n + 1) (swI l 0 n) 0 n).1 := by
      unfold sunkI
      rw [hn, Nat.add_sub_cancel, dnI_fst]
    have hkeep : (sunkI l).getD n 0 = l.getD 0 0 := by
      rw [hS, dnP_keep _ _ _ _ _ (by omega) (by omega) (Nat.le_refl _), hs0]
    have hx : popIX l = l.getD 0 0 := by unfold popIX; rw [hn, Nat.add_sub_cancel, hkeep]
    have hperm : (sunkI l).Perm l := by
      rw [hS]
      exact (dnP_perm _ _ _ _ (by omega) (by omega)).trans (swI_perm l 0 n h0 (by omega))
    have hheap : HpdI (sunkI l) n := by
      obtain ⟨q1, q2, q3⟩ := dnP_heap (n + 1) (swI l 0 n) 0 n (by omega) (by omega) (by omega) (fun k hk hkn hp hne => by
        rw [tmI_sw l 0 n k h0 (by omega), tmI_sw l 0 n _ h0 (by omega), if_neg (by omega), if_neg (by omega), if_neg (by omega), if_neg (by omega)]
        exact h k hk (by omega)) (fun k hk hkn hp h9 => absurd h9 (Nat.lt_irrefl _))
      rw [hS]
      by_cases e : 0 < (dnP (n + 1) (swI l 0 n) 0 n).2
      · exact q2 e
      · obtain ⟨q4, q5⟩ := q3 e
        rw [q4]
        intro k hk hkn
        exact q5 k hk hkn (by omega)
    refine ⟨hx, ?_, ?_, by rw [e1, hn]; rfl⟩
    · rw [e1]
      intro k hk hkn
      have := hheap k hk hkn
      have hg : ∀ j, j < n → tmI (popIL l) j = tmI (sunkI l) j := fun j hj => by
        unfold tmI popIL
        rw [List.getD_eq_getElem?_getD, List.getD_eq_getElem?_getD, List.getElem?_take_of_lt (by omega)]
      rw [hg k hkn, hg _ (by omega)]
      exact this
    · have hlast : popIL l ++ [popIX l] = sunkI l := by
        unfold popIL popIX
        rw [hn, Nat.add_sub_cancel]
        have hd : (sunkI l).drop n = [(sunkI l).getD n 0] := by
          rw [List.drop_eq_getElem_cons (by omega), List.drop_of_length_le (by omega), List.getD_eq_getElem?_getD, List.getElem?_eq_getElem (by omega)]
          rfl
        rw [← hd, List.take_append_drop]
      rw [hlast]
      exact hperm
end Go.Proofs.YtmooddbhcccicaaGreatDoor

/- A heap of numbers in memory: its list stands in a cell of a struct; Len, Less, Swap. -/
namespace Go.Proofs.YtmooddbhcccicaaGreatDoor
set_option linter.unusedVariables false
set_option linter.unusedSimpArgs false
open Go.RowKit Go.Deep

def nls (l : List Nat) : List Value := l.map fun x => Value.int .i64 ((x : Nat) : Int)
theorem nls_len (l : List Nat) : (nls l).length = l.length := by simp [nls]
theorem nls_append (l m : List Nat) : nls (l ++ m) = nls l ++ nls m := by simp [nls]
theorem nls_take (l : List Nat) (n : Nat) : (nls l).take n = nls (l.take n) := by simp [nls, List.map_take]
theorem nls_set (l : List Nat) (j x : Nat) : nls (l.set j x) = (nls l).set j (.int .i64 ((x : Nat) : Int)) := by simp [nls, List.map_set]
theorem nls_get (l : List Nat) (j : Nat) (h : j < l.length) : (nls l)[j]? = some (.int .i64 ((l.getD j 0 : Nat) : Int)) := by
  unfold nls
  rw [List.getElem?_map, List.getElem?_eq_getElem h, Option.map_some, List.getD_eq_getElem?_getD, List.getElem?_eq_getElem h]; rfl
theorem own_setI {w : World} {base g n cap sz : Nat} {e : TypeId} {xs : List Value} (h : w.ownsRow base e sz (.slice (some ⟨g, 0, none⟩) n cap) n xs) (j : Nat) (u : Value) (hj : j < xs.length) : (w.setCell ⟨g, j, none⟩ u).ownsRow base e sz (.slice (some ⟨g, 0, none⟩) n cap) n (xs.set j u) := by
  obtain ⟨h1, h2⟩ := h
  rcases h2 with ⟨h0, _⟩ | ⟨g', cap', cur, hv, hg, hh, hn, hcap, hsz, htake⟩
  · cases h0
  · cases hv
    refine ⟨by rw [List.length_set]; exact h1, .inr ⟨g, cap, cur.setIfInBounds j u, rfl, hg, ?_, hn, hcap, by simpa using hsz, ?_⟩⟩
    · exact heap_setCell_same w g j cur e u hh
    · rw [Array.toList_setIfInBounds, List.take_set, htake]
theorem own_subI {w : World} {base g n cap sz k : Nat} {e : TypeId} {xs : List Value} (h : w.ownsRow base e sz (.slice (some ⟨g, 0, none⟩) n cap) n xs) (hk : k ≤ n) : w.ownsRow base e sz (.slice (some ⟨g, 0, none⟩) k cap) k (xs.take (k * sz)) := by
  obtain ⟨h1, h2⟩ := h
  rcases h2 with ⟨h0, _⟩ | ⟨g', cap', cur, hv, hg, hh, hn, hcap, hsz, htake⟩
  · cases h0
  · cases hv
    have hm := Nat.mul_le_mul_right sz hk
    refine ⟨by rw [List.length_take, h1]; omega, .inr ⟨g, cap, cur, rfl, hg, hh, by omega, hcap, hsz, ?_⟩⟩
    rw [← htake, List.take_take, Nat.min_eq_left hm]
theorem own_frzI {w : World} {base g n cap sz : Nat} {e : TypeId} {xs : List Value} (h : w.ownsRow base e sz (.slice (some ⟨g, 0, none⟩) n cap) n xs) (j : Nat) : w.frozen? ⟨g, j, none⟩ = false := by
  obtain ⟨h1, h2⟩ := h
  rcases h2 with ⟨h0, _⟩ | ⟨g', cap', cur, hv, hg, hh, hn, hcap, hsz, htake⟩
  · cases h0
  · cases hv
    exact frozen_of_row _ _ _ cur _ hh
theorem mid_get (pre post : List Value) (v : Value) : (pre ++ v :: post)[pre.length]? = some v := by simp
theorem mid_set (pre post : List Value) (v u : Value) : (pre ++ v :: post).take pre.length ++ [u] ++ (pre ++ v :: post).drop (pre.length + 1) = pre ++ u :: post := by
  simp [List.drop_append]
/-- a heap of the numbers l: its list stands at cell o of the struct at block h, its row at block g -/
structure Ip (w : World) (h o g cap : Nat) (pre post : List Value) (l : List Nat) : Prop where
  lv : Lv w h (pre ++ .slice (some ⟨g, 0, none⟩) l.length cap :: post)
  ol : pre.length = o
  ow : w.ownsRow 0 3 1 (.slice (some ⟨g, 0, none⟩) l.length cap) l.length (nls l)
  ne : g ≠ h
section
variable {w : World} {h o g cap : Nat} {pre post : List Value} {l : List Nat}
theorem Ip.hb (x : Ip w h o g cap pre post l) : h < w.heap.size := x.lv.lt (by simp; omega)
theorem Ip.gb (x : Ip w h o g cap pre post l) : g < w.heap.size := (ownBlock_lt x.ow (g := g) rfl).2
theorem Ip.keep {S : Nat → Prop} {w' : World} (x : Ip w h o g cap pre post l) (k : Kp S w w') (hh : ¬ S h) (hg : ¬ S g) : Ip w' h o g cap pre post l :=
  ⟨x.lv.keep k hh, x.ol, ownsRow_keep x.ow k (fun g' e => by have e' : some g = some g' := e; injection e' with e'; subst e'; exact hg), x.ne⟩
theorem Ip.keep0 {w' : World} (x : Ip w h o g cap pre post l) (k : Kp (fun _ => False) w w') : Ip w' h o g cap pre post l := x.keep k id id
theorem Ip.c0 (x : Ip w h o g cap pre post l) : w.cell? ⟨h, o, none⟩ = some (.slice (some ⟨g, 0, none⟩) l.length cap) := by
  have := x.lv.cell (j := o) (by rw [← x.ol]; exact mid_get _ _ _)
  exact this
theorem Ip.fz (x : Ip w h o g cap pre post l) : w.frozen? ⟨h, o, none⟩ = false := x.lv.fz (by rw [← x.ol]; simp)
theorem Ip.cn (x : Ip w h o g cap pre post l) {j : Nat} (hj : j < l.length) : w.cell? ⟨g, j, none⟩ = some (.int .i64 ((l.getD j 0 : Nat) : Int)) := by
  have h1 := x.ow.cells (g := g) rfl j _ (nls_get l j hj)
  rw [Addr.add_mid, Nat.zero_add] at h1
  exact h1
theorem Ip.capLe (x : Ip w h o g cap pre post l) : l.length ≤ cap := by
  obtain ⟨_, h2⟩ := x.ow
  rcases h2 with ⟨h0, _⟩ | ⟨g', cap', cur, hv, hg, hh, hnn, hcap, hsz, htake⟩
  · cases h0
  · cases hv; omega
/-- another list in the same cell -/
theorem Ip.lset (x : Ip w h o g cap pre post l) (u : Value) : Lv (w.setCell ⟨h, o, none⟩ u) h (pre ++ u :: post) := by
  have h1 := x.lv.set1 o u (by rw [← x.ol]; simp)
  rw [← x.ol, mid_set] at h1
  rw [← x.ol]
  exact h1
end

theorem ilv {w : World} {a : Addr} {v : Value} (hc : w.cell? a = some v) : (loadVar 156 a).run Tryz.prog w = .ok v w := by
  simp [loadVar, hc]
theorem iwrap (a : Addr) (s m : String) (w : World) : (Builtin.ssaWrapNilChk_ #[235] 235 #[.pointer (some a), strVal s, strVal m]).run Tryz.prog w = .ok (.pointer (some a)) w := rfl
theorem imeth (k : Nat) (nm : String) (f : Nat) (hm : ((Tryz.prog.info? 235).bind (fun i => i.methods.find? (·.name == nm))).map (fun m => (m.path, m.func)) = some (#[], some (f, false))) (a : Addr) (w : World) (v : Value) (hc : (loadVar 156 a).run Tryz.prog w = .ok v w) : (method (k + 1) 235 (.pointer (some a)) nm).run Tryz.prog w = .ok (f, v) w := by
  obtain ⟨m, hm1, hm2⟩ := Option.map_eq_some_iff.1 hm
  obtain ⟨i, hi, hf⟩ := Option.bind_eq_some_iff.1 hm1
  simp only [Prod.mk.injEq] at hm2
  have hu : Tryz.prog.underlying 235 = some (.pointer 156) := Tryz.underlying235
  simp [method, typeInfo, hi, hf, hm2.1, hm2.2, follow, receiverAt, run_underlying hu, Place.get, iwrap, asAddr, hc]
theorem mPushI (v : Value) (w : World) : (method 424 235 v "Push").run Tryz.prog w = .ok (269, v) w := by kernel_rfl
theorem mPopI (v : Value) (w : World) : (method 424 235 v "Pop").run Tryz.prog w = .ok (268, v) w := by kernel_rfl
theorem mLenI {a : Addr} {v : Value} {w : World} (hc : w.cell? a = some v) : (method 424 235 (.pointer (some a)) "Len").run Tryz.prog w = .ok (202, v) w := imeth 423 "Len" _ (by kernel_rfl) _ w v (ilv hc)
theorem mLessI {a : Addr} {v : Value} {w : World} (hc : w.cell? a = some v) : (method 424 235 (.pointer (some a)) "Less").run Tryz.prog w = .ok (251, v) w := imeth 423 "Less" _ (by kernel_rfl) _ w v (ilv hc)
theorem mSwapI {a : Addr} {v : Value} {w : World} (hc : w.cell? a = some v) : (method 424 235 (.pointer (some a)) "Swap").run Tryz.prog w = .ok (252, v) w := imeth 423 "Swap" _ (by kernel_rfl) _ w v (ilv hc)

set_option maxRecDepth 100000 in
theorem ilen (p : Option Addr) (n c : Nat) (w : World) : Calls Tryz.prog 202 #[.slice p n c] w fun e w' => e = .returned (.int .i64 n) ∧ w' = w := by
  go_enter Tryz.func202, Tryz.ntmps202
  go_wp2
  go_ret
  exact ⟨rfl, rfl⟩

set_option maxRecDepth 100000 in
set_option maxHeartbeats 800000 in
theorem iless {w : World} {h o g cap : Nat} {pre post : List Value} {l : List Nat} (x : Ip w h o g cap pre post l) (i j : Nat) (hi : i < l.length) (hj : j < l.length) :
    Calls Tryz.prog 251 #[.slice (some ⟨g, 0, none⟩) l.length cap, .int .i64 i, .int .i64 j] w fun e w' => e = .returned (.bool (decide (l.getD i 0 < l.getD j 0))) ∧ Kp (fun _ => False) w w' := by
  have ci := x.cn hi
  have cj := x.cn hj
  obtain ⟨a, ha⟩ : ∃ a, a = l.getD i 0 := ⟨_, rfl⟩
  obtain ⟨b, hb⟩ : ∃ b, b = l.getD j 0 := ⟨_, rfl⟩
  rw [← ha] at ci ⊢
  rw [← hb] at cj ⊢
  obtain ⟨n, hn⟩ : ∃ n, n = l.length := ⟨_, rfl⟩
  rw [← hn] at hi hj ⊢
  have hi2 : (i : Int) < (n : Int) := by omega
  have hj2 : (j : Int) < (n : Int) := by omega
  have hd : decide ((a : Int) < (b : Int)) = decide (a < b) := by simp
  clear x ha hb hn
  go_enter Tryz.func251, Tryz.ntmps251
  go_wp2
  go_region
  go_wp2
  go_ret
  exact ⟨by simp, (Kp.refl _ _).drew⟩

set_option maxRecDepth 100000 in
set_option maxHeartbeats 3200000 in
theorem iswap {w : World} {h o g cap : Nat} {pre post : List Value} {l : List Nat} (x : Ip w h o g cap pre post l) (i j : Nat) (hi : i < l.length) (hj : j < l.length) :
    Calls Tryz.prog 252 #[.slice (some ⟨g, 0, none⟩) l.length cap, .int .i64 i, .int .i64 j] w fun e w' => e = .returned (.tuple #[]) ∧ Kp (fun b => b = g) w w' ∧ Ip w' h o g cap pre post (swI l i j) := by
  have ci := x.cn hi
  have cj := x.cn hj
  obtain ⟨ai, hai⟩ : ∃ a, a = l.getD i 0 := ⟨_, rfl⟩
  obtain ⟨aj, haj⟩ : ∃ a, a = l.getD j 0 := ⟨_, rfl⟩
  rw [← hai] at ci
  rw [← haj] at cj
  have fz : ∀ k, w.frozen? ⟨g, k, none⟩ = false := fun k => own_frzI x.ow k
  obtain ⟨n, hn⟩ : ∃ n, n = l.length := ⟨_, rfl⟩
  obtain ⟨wf, hwf⟩ : ∃ y, y = (w.setCell ⟨g, i, none⟩ (.int .i64 (aj : Int))).setCell ⟨g, j, none⟩ (.int .i64 (ai : Int)) := ⟨_, rfl⟩
  have hK : Kp (fun b => b = g) w wf := by rw [hwf]; exact ((Kp.refl (fun b => b = g) w).setCell (fun _ => rfl) _).setCell (fun _ => rfl) _
  have hH : Ip wf h o g cap pre post (swI l i j) := by
    refine ⟨?_, x.ol, ?_, x.ne⟩
    · rw [swI_len]; exact x.lv.keep hK (fun e => x.ne e.symm)
    · have hml := nls_len l
      have o1 := own_setI x.ow i (.int .i64 (aj : Int)) (by rw [hml]; omega)
      have o2 := own_setI o1 j (.int .i64 (ai : Int)) (by rw [List.length_set, hml]; omega)
      rw [← hwf] at o2
      have e2 : nls (swI l i j) = ((nls l).set i (.int .i64 (aj : Int))).set j (.int .i64 (ai : Int)) := by
        unfold swI
        rw [nls_set, nls_set, hai, haj]
      rw [swI_len, e2]
      exact o2
  have HF : Hid (∀ y : World, y = wf.drew → Kp (fun b => b = g) w y ∧ Ip y h o g cap pre post (swI l i j)) := fun y hy => by
    rw [hy]
    exact ⟨hK.drew, hH.keep0 ((Kp.refl _ _).drew)⟩
  have HW : Hid (wf = (w.setCell ⟨g, i, none⟩ (.int .i64 (aj : Int))).setCell ⟨g, j, none⟩ (.int .i64 (ai : Int))) := hwf
  rw [← hn] at hi hj ⊢
  have hi2 : (i : Int) < (n : Int) := by omega
  have hj2 : (j : Int) < (n : Int) := by omega
  by_cases hij : i = j
  · subst hij
    obtain rfl : ai = aj := by rw [hai, haj]
    have e1 : (w.setCell ⟨g, i, none⟩ (.int .i64 (ai : Int))).cell? ⟨g, i, none⟩ = some (.int .i64 (ai : Int)) := World.cell?_setCell_same _ _ _ ci
    clear x hn hai haj hK hH hwf
    go_enter Tryz.func252, Tryz.ntmps252
    go_wp2
    go_region
    go_end0
    exact ⟨rfl, HF.out _ (by rw [HW.out])⟩
  · have n1 : (⟨g, i, none⟩ : Addr) ≠ ⟨g, j, none⟩ := fun e => by injection e with _ e; omega
    have e1 : (w.setCell ⟨g, i, none⟩ (.int .i64 (aj : Int))).cell? ⟨g, j, none⟩ = some (.int .i64 (aj : Int)) := by rw [World.cell?_setCell_other _ _ _ _ n1]; exact cj
    clear x hn hai haj hK hH hwf n1
    go_enter Tryz.func252, Tryz.ntmps252
    go_wp2
    go_region
    go_end0
    exact ⟨rfl, HF.out _ (by rw [HW.out])⟩
end Go.Proofs.YtmooddbhcccicaaGreatDoor

/- Bytes of one's own that are written over; a sector's numbers: putNumber, numberOf, blank, flag, seal. -/
namespace Go.Proofs.YtmooddbhcccicaaGreatDoor
set_option linter.unusedVariables false
set_option linter.unusedSimpArgs false
open Go.RowKit Go.Deep

/-- the part from o on replaced -/
def spl (xs : List Nat) (o : Nat) (ys : List Nat) : List Nat := xs.take o ++ ys ++ xs.drop (o + ys.length)
theorem spl_len {xs : List Nat} {o : Nat} {ys : List Nat} (h : o + ys.length ≤ xs.length) : (spl xs o ys).length = xs.length := by
  unfold spl
  rw [List.length_append, List.length_append, List.length_take, List.length_drop]
  omega
theorem spl_nil (xs : List Nat) (o : Nat) : spl xs o [] = xs := by
  unfold spl
  rw [List.append_nil, List.length_nil, Nat.add_zero, List.take_append_drop]
theorem spl_byte {xs ys : List Nat} {o : Nat} (h1 : ∀ x ∈ xs, x < 256) (h2 : ∀ y ∈ ys, y < 256) : ∀ x ∈ spl xs o ys, x < 256 := fun x hx => by
  unfold spl at hx
  rcases List.mem_append.1 hx with hx | hx
  · rcases List.mem_append.1 hx with hx | hx
    · exact h1 x (List.mem_of_mem_take hx)
    · exact h2 x hx
  · exact h1 x (List.mem_of_mem_drop hx)
theorem spl_get {xs ys : List Nat} {o : Nat} (h : o + ys.length ≤ xs.length) (j : Nat) : (spl xs o ys).getD j 0 = if o ≤ j ∧ j < o + ys.length then ys.getD (j - o) 0 else xs.getD j 0 := by
  unfold spl
  rw [List.getD_eq_getElem?_getD, List.append_assoc]
  by_cases h1 : j < o
  · rw [List.getElem?_append_left (by rw [List.length_take]; omega), List.getElem?_take_of_lt h1, if_neg (by omega), List.getD_eq_getElem?_getD]
  · rw [List.getElem?_append_right (by rw [List.length_take]; omega), List.length_take, Nat.min_eq_left (by omega)]
    by_cases h2 : j < o + ys.length
    · rw [List.getElem?_append_left (by omega), if_pos ⟨by omega, h2⟩, List.getD_eq_getElem?_getD]
    · rw [List.getElem?_append_right (by omega), List.getElem?_drop, if_neg (by omega), List.getD_eq_getElem?_getD, show o + ys.length + (j - o - ys.length) = j by omega]
theorem list_ext0 {xs ys : List Nat} (hl : xs.length = ys.length) (h : ∀ j, j < xs.length → xs.getD j 0 = ys.getD j 0) : xs = ys := by
  apply List.ext_getElem hl
  intro i h1 h2
  have := h i h1
  rw [List.getD_eq_getElem?_getD, List.getD_eq_getElem?_getD, List.getElem?_eq_getElem h1, List.getElem?_eq_getElem h2] at this
  exact this
theorem getD_set0 (l : List Nat) (i j x : Nat) (h : i < l.length) : (l.set i x).getD j 0 = if j = i then x else l.getD j 0 := by
  rw [List.getD_eq_getElem?_getD, List.getD_eq_getElem?_getD]
  by_cases e : j = i
  · subst e; rw [List.getElem?_set_self h, if_pos rfl]; rfl
  · rw [List.getElem?_set_ne (fun e2 => e e2.symm), if_neg e]
theorem getD_take0 (l : List Nat) (i j : Nat) (h : j < i) : (l.take i).getD j 0 = l.getD j 0 := by
  rw [List.getD_eq_getElem?_getD, List.getD_eq_getElem?_getD, List.getElem?_take_of_lt h]
theorem spl_step {xs ys : List Nat} {o i : Nat} (h : o + ys.length ≤ xs.length) (hi : i < ys.length) : (spl xs o (ys.take i)).set (o + i) (ys.getD i 0) = spl xs o (ys.take (i + 1)) := by
  have l1 : (ys.take i).length = i := by rw [List.length_take]; omega
  have l2 : (ys.take (i + 1)).length = i + 1 := by rw [List.length_take]; omega
  have n1 : (spl xs o (ys.take i)).length = xs.length := spl_len (by omega)
  have n2 : (spl xs o (ys.take (i + 1))).length = xs.length := spl_len (by omega)
  refine list_ext0 (by rw [List.length_set]; omega) (fun j hj => ?_)
  rw [getD_set0 _ _ _ _ (by omega), spl_get (by omega), spl_get (by omega), l1, l2]
  by_cases e : j = o + i
  · subst e
    rw [if_pos rfl, if_pos (by omega), getD_take0 _ _ _ (by omega), show o + i - o = i by omega]
  · rw [if_neg e]
    by_cases e2 : o ≤ j ∧ j < o + i
    · rw [if_pos e2, if_pos (by omega), getD_take0 _ _ _ (by omega), getD_take0 _ _ _ (by omega)]
    · rw [if_neg e2, if_neg (by omega)]

/-- a row of N bytes of one's own at block g -/
structure Bk (w : World) (base g cap N : Nat) (xs : List Nat) : Prop where
  len : xs.length = N
  byte : ∀ x ∈ xs, x < 256
  ow : w.ownsRow base 5 1 (.slice (some ⟨g, 0, none⟩) N cap) N (vl xs)
section
variable {w : World} {base g cap N : Nat} {xs : List Nat}
theorem Bk.gb (x : Bk w base g cap N xs) : base ≤ g ∧ g < w.heap.size := ownBlock_lt x.ow (g := g) rfl
theorem Bk.keep {S : Nat → Prop} {w' : World} (x : Bk w base g cap N xs) (k : Kp S w w') (hg : ¬ S g) : Bk w' base g cap N xs :=
  ⟨x.len, x.byte, ownsRow_keep x.ow k (fun g' e => by have e' : some g = some g' := e; injection e' with e'; subst e'; exact hg)⟩
theorem Bk.keep0 {w' : World} (x : Bk w base g cap N xs) (k : Kp (fun _ => False) w w') : Bk w' base g cap N xs := x.keep k id
theorem Bk.fz (x : Bk w base g cap N xs) (j : Nat) : w.frozen? ⟨g, j, none⟩ = false := own_frzI x.ow j
theorem Bk.cell (x : Bk w base g cap N xs) {j : Nat} (hj : j < N) : w.cell? ⟨g, j, none⟩ = some (.int .u8 ((xs.getD j 0 : Nat) : Int)) := by
  have h1 := x.ow.cells (g := g) rfl j _ (vl_get (by rw [x.len]; exact hj))
  rw [Addr.add_mid, Nat.zero_add] at h1
  exact h1
theorem Bk.set (x : Bk w base g cap N xs) {j y : Nat} (hj : j < N) (hy : y < 256) : Bk (w.setCell ⟨g, j, none⟩ (.int .u8 (y : Int))) base g cap N (xs.set j y) := by
  refine ⟨by rw [List.length_set]; exact x.len, fun z hz => ?_, ?_⟩
  · rcases List.mem_or_eq_of_mem_set hz with h | h
    · exact x.byte z h
    · omega
  · have h1 := own_setI x.ow j (.int .u8 (y : Int)) (by rw [vl_length, x.len]; exact hj)
    have h2 : vl (xs.set j y) = (vl xs).set j (.int .u8 (y : Int)) := by unfold vl; rw [List.map_set]
    rw [h2]
    exact h1
theorem Bk.rb (x : Bk w base g cap N xs) : Rb w (some ⟨g, 0, none⟩) N xs := ⟨x.len, x.byte, fun j hj => ⟨g, 0, rfl, by rw [Nat.zero_add]; exact x.cell hj⟩⟩
theorem Bk.capLe (x : Bk w base g cap N xs) : N ≤ cap := by
  obtain ⟨_, h2⟩ := x.ow
  rcases h2 with ⟨h0, _⟩ | ⟨g', cap', cur, hv, hg, hh, hnn, hcap, hsz, htake⟩
  · cases h0
  · cases hv; omega
end
theorem kp_set {w : World} {g j : Nat} {v : Value} : Kp (fun b => b = g) w (w.setCell ⟨g, j, none⟩ v) := (Kp.refl (fun b => b = g) w).setCell (fun _ => rfl) _

theorem pow_8 (k : Nat) : 2 ^ (8 * k) = 256 ^ k := by rw [Nat.pow_mul]
set_option maxRecDepth 100000 in
set_option maxHeartbeats 800000 in
theorem putNumber_ok {w : World} {base g cap N : Nat} {xs : List Nat} (x : Bk w base g cap N xs) (o L c u : Nat) (ho : o + L ≤ N) (hL : (L : Int) ≤ 8) (hN : (N : Int) ≤ 1000) (hu : u < 18446744073709551616) :
    Calls Tryz.prog 206 #[.slice (some ⟨g, o, none⟩) L c, .int .u64 (u : Int)] w fun e w' => e = .returned (.tuple #[]) ∧ Kp (fun b => b = g) w w' ∧ Bk w' base g cap N (spl xs o (big u L)) := by
  have HX : Hid (Bk w base g cap N xs) := x
  have HN : Hid (o + L ≤ N ∧ N ≤ 1000 ∧ L ≤ 8 ∧ u < 18446744073709551616) := ⟨ho, by omega, by omega, hu⟩
  have hwl : wrap64 ((L : Int) - 1) = ((L : Int) - 1) := by unfold wrap64; omega
  clear x ho hN hu
  go_enter Tryz.func206, Tryz.ntmps206
  go_wp2
  go_loopg [7] L (fun gk iv wr => ∃ i : Nat, i ≤ L ∧ gk = L - i ∧ iv = .int .i64 i ∧ Hid (Kp (fun b => b = g) w wr) ∧ Hid (Bk wr base g cap N (spl xs o ((big u L).take i))))
  case atStart => exact ⟨0, Nat.zero_le _, rfl, rfl, Kp.refl _ _, by show Bk _ _ _ _ _ _; rw [List.take_zero, spl_nil]; exact HX.out⟩
  case round =>
    obtain ⟨i, hi, rfl, rfl, HK, HB⟩ := hrel
    by_cases hlt : i < L
    · have hlt2 : (i : Int) < (L : Int) := by omega
      have hfz := HB.out.fz (o + i)
      have hcl := HB.out.cell (j := o + i) (by have := HN.out; omega)
      have HV : Hid ((u : Int) / 2 ^ (8 * (L - 1 - i)) % 256 = (((big u L).getD i 0 : Nat) : Int)) := by
        show _ = _
        rw [big_at u L i hlt, ← pow_8]
        norm_cast
      have HS : Hid (Bk (wr.setCell ⟨g, o + i, none⟩ (.int .u8 ((u : Int) / 2 ^ (8 * (L - 1 - i)) % 256))) base g cap N (spl xs o ((big u L).take (i + 1)))) := by
        show Bk _ _ _ _ _ _
        have hb : (big u L).getD i 0 < 256 := by rw [big_at u L i hlt]; omega
        rw [HV.out, ← spl_step (xs := xs) (ys := big u L) (by rw [big_length, HX.out.len]; exact HN.out.1) (by rw [big_length]; exact hlt)]
        exact HB.out.set (by have := HN.out; omega) hb
      clear HV
      go_wp2
      go_roundg (L - (i + 1))
      case rel => exact ⟨i + 1, by omega, rfl, by simp, HK.out.trans kp_set (fun _ _ e => e), HS.out⟩
      case measure => omega
    · have hlt2 : ¬ ((i : Int) < (L : Int)) := by omega
      have HF : Hid (Bk wr base g cap N (spl xs o (big u L))) := by
        have h1 := HB.out
        rw [List.take_of_length_le (by rw [big_length]; omega)] at h1
        exact h1
      go_wp2
      go_end0
      exact ⟨rfl, HK.out, HF.out⟩

/-- the number of bytes, the highest first -/
def hfW (xs : List Nat) : Nat := xs.foldl (fun n x => n * 256 + x) 0
theorem hfW_snoc (xs : List Nat) (x : Nat) : hfW (xs ++ [x]) = hfW xs * 256 + x := by simp [hfW]
theorem hfW_lt : ∀ (n : Nat) (xs : List Nat), xs.length = n → (∀ x ∈ xs, x < 256) → hfW xs < 256 ^ n
  | 0, xs, h, _ => by rw [List.eq_nil_of_length_eq_zero h]; decide
  | n + 1, xs, h, hb => by
    obtain ⟨ys, y, rfl⟩ : ∃ ys y, xs = ys ++ [y] := ⟨xs.dropLast, xs.getLast (by intro e; subst e; simp at h), (List.dropLast_concat_getLast _).symm⟩
    have := hfW_lt n ys (by simpa using h) (fun x hx => hb x (by simp [hx]))
    have hy := hb y (by simp)
    rw [hfW_snoc, Nat.pow_succ]
    omega
theorem big_succW (n w : Nat) : big n (w + 1) = big (n / 256) w ++ [n % 256] := by
  unfold big
  rw [List.range_succ, List.map_append]
  congr 1
  · refine List.map_congr_left (fun j hj => ?_)
    have hj' := List.mem_range.1 hj
    rw [Nat.div_div_eq_div_mul, ← Nat.pow_succ', show w + 1 - 1 - j = w - 1 - j + 1 from by omega]
  · simp
theorem hfW_big : ∀ (w n : Nat), n < 256 ^ w → hfW (big n w) = n
  | 0, n, h => by have : n = 0 := by simpa using h
                  subst this; rfl
  | w + 1, n, h => by
    rw [big_succW, hfW_snoc, hfW_big w (n / 256) (by rw [Nat.pow_succ] at h; omega)]; omega
theorem big_hfW : ∀ (w : Nat) (xs : List Nat), xs.length = w → (∀ x ∈ xs, x < 256) → big (hfW xs) w = xs
  | 0, xs, h, _ => by rw [List.eq_nil_of_length_eq_zero h]; rfl
  | w + 1, xs, h, hb => by
    obtain ⟨ys, y, rfl⟩ : ∃ ys y, xs = ys ++ [y] := ⟨xs.dropLast, xs.getLast (by intro e; subst e; simp at h), (List.dropLast_concat_getLast _).symm⟩
    have hy := hb y (by simp)
    rw [hfW_snoc, big_succW, show (hfW ys * 256 + y) / 256 = hfW ys from by omega, show (hfW ys * 256 + y) % 256 = y from by omega, big_hfW w ys (by simpa using h) (fun x hx => hb x (by simp [hx]))]

/-- a number of 64 bits as an int -/
def i64Of (n : Nat) : Int := if n < 9223372036854775808 then (n : Int) else (n : Int) - 18446744073709551616
theorem i64Of_wrap (n : Nat) (h : n < 18446744073709551616) : wrap64 (n : Int) = i64Of n := by
  unfold i64Of wrap64
  by_cases e : n < 9223372036854775808
  · rw [if_pos e]; omega
  · rw [if_neg e]; omega

theorem u64_or_shiftW (n x : Nat) (hn : n < 256 ^ 7) (hx : x < 256) : bits .or .u64 (IntKind.u64.wrap ((n : Int) * 256)) ((x : Nat) : Int) = ((n * 256 + x : Nat) : Int) := by
  have e : IntKind.u64.wrap ((n : Int) * 256) = ((n * 256 : Nat) : Int) := by
    have : IntKind.u64.wrap ((n : Int) * 256) = ((n : Int) * 256) % 18446744073709551616 := by simp [IntKind.wrap, IntKind.bits, IntKind.signed]
    rw [this]; omega
  rw [e, u64_or_nat _ _ (by omega) (by omega)]
  congr 1
  have := Nat.two_pow_add_eq_or_of_lt (i := 8) (b := x) (by omega) n
  rw [Nat.mul_comm n 256, show (256 : Nat) = 2 ^ 8 from rfl, ← this]

set_option maxRecDepth 100000 in
set_option maxHeartbeats 800000 in
theorem numberOf_ok {w : World} {p : Option Addr} {n : Nat} {xs : List Nat} (h : Rb w p n xs) (c : Nat) (hn : (n : Int) ≤ 8) :
    Calls Tryz.prog 220 #[.slice p n c] w fun e w' => e = .returned (.int .i64 (i64Of (hfW xs))) ∧ w' = w := by
  have HR : Hid (Rb w p n xs) := h
  have HN : Hid (n ≤ 8 ∧ xs.length = n) := ⟨by omega, h.len⟩
  clear h hn
  go_enter Tryz.func220, Tryz.ntmps220
  go_wp2
  go_loopg [3, 8] n (fun gk nv iv wr => ∃ i : Nat, i ≤ n ∧ gk = n - i ∧ iv = .int .i64 i ∧ nv = .int .u64 ((hfW (xs.take i) : Nat) : Int) ∧ wr = w)
  case atStart => exact ⟨0, Nat.zero_le _, rfl, rfl, rfl, rfl⟩
  case round =>
    obtain ⟨i, hi, rfl, rfl, rfl, hwr⟩ := hrel
    subst hwr
    by_cases hlt : i < n
    · have hlt2 : (i : Int) < (n : Int) := by omega
      obtain ⟨b, o, rfl, hc⟩ := HR.out.pt (by omega)
      have hcl := hc i hlt
      obtain ⟨y, hy⟩ : ∃ y, y = xs.getD i 0 := ⟨_, rfl⟩
      have hyb : y < 256 := by rw [hy]; exact HR.out.byteAt i
      rw [← hy] at hcl
      obtain ⟨m, hm⟩ : ∃ m, m = hfW (xs.take i) := ⟨_, rfl⟩
      have hml : m < 256 ^ 7 := by
        rw [hm]
        exact Nat.lt_of_lt_of_le (hfW_lt i _ (by rw [List.length_take]; have := HN.out; omega) (fun x hx => HR.out.byte x (List.mem_of_mem_take hx))) (Nat.pow_le_pow_right (by decide) (by have := HN.out; omega))
      have HNx : Hid (hfW (xs.take (i + 1)) = m * 256 + y) := by
        show _ = _
        have e : xs.take (i + 1) = xs.take i ++ [y] := by
          have hil : i < xs.length := by have := HN.out; omega
          rw [List.take_succ_eq_append_getElem hil, hy, List.getD_eq_getElem?_getD, List.getElem?_eq_getElem hil]; rfl
        rw [e, hfW_snoc, hm]
      rw [← hm]
      have hor := u64_or_shiftW m y hml hyb
      have hwy : IntKind.u64.wrap (y : Int) = (y : Int) := by simp [IntKind.wrap, IntKind.bits, IntKind.signed]; omega
      have hwi : wrap64 ((i : Int) + 1) = ((i + 1 : Nat) : Int) := by have := HN.out; unfold wrap64; omega
      clear hc hy hm hml hyb
      go_wp2
      go_roundg (n - (i + 1))
      case rel => exact ⟨i + 1, by omega, rfl, by rw [hwi], by rw [HNx.out]; simp, rfl⟩
      case measure => omega
    · have hlt2 : ¬ ((i : Int) < (n : Int)) := by omega
      have he : hfW (xs.take i) = hfW xs := by rw [List.take_of_length_le (by have := HN.out; omega)]
      rw [he]
      clear he
      have hw := i64Of_wrap (hfW xs) (Nat.lt_of_lt_of_le (hfW_lt n xs HN.out.2 HR.out.byte) (Nat.le_trans (Nat.pow_le_pow_right (by decide) HN.out.1) (by decide)))
      go_wp2
      go_ret
      exact ⟨rfl, rfl⟩

theorem numberOf_kp {w : World} {p : Option Addr} {n : Nat} {xs : List Nat} (h : Rb w p n xs) (c : Nat) (hn : (n : Int) ≤ 8) :
    Calls Tryz.prog 220 #[.slice p n c] w fun e w' => e = .returned (.int .i64 (i64Of (hfW xs))) ∧ Kp (fun _ => False) w w' :=
  (numberOf_ok h c hn).mono fun e w' ⟨he, hw⟩ => ⟨he, by rw [hw]; exact Kp.refl _ _⟩

/-- so many noughts -/
abbrev nouW (n : Nat) : List Nat := List.replicate n 0
set_option maxRecDepth 100000 in
set_option maxHeartbeats 800000 in
theorem blankS_ok (w : World) : Calls Tryz.prog 203 #[] w fun e w' => ∃ g, w.heap.size ≤ g ∧ e = .returned (.slice (some ⟨g, 0, none⟩) 64 64) ∧ Kp (fun _ => False) w w' ∧ Bk w' w.heap.size g 64 64 (nouW 64) := by
  have hmk : ∀ w : World, (Instr.makeSlice 34 (.int .i64 64) (.int .i64 64)).run Tryz.prog w = .ok (.slice (some ⟨w.heap.size, 0, none⟩) 64 64) (w.alloc (.cells (madeCells #[.int .u8 0] 64) 5)) := run_make_row' (P := Tryz.prog) 34 5 (.int .u8 0) 1 Tryz.underlying34 info5 rfl .i64 .i64 64 (by omega) (by omega)
  have HF : Hid (Kp (fun _ => False) w (w.alloc (.cells (madeCells #[.int .u8 0] 64) 5)) ∧ Bk (w.alloc (.cells (madeCells #[.int .u8 0] 64) 5)) w.heap.size w.heap.size 64 64 (nouW 64)) := by
    refine ⟨(Kp.refl _ _).alloc _, ⟨List.length_replicate, fun x hx => by have := List.eq_of_mem_replicate hx; omega, ?_⟩⟩
    have h1 := ow_of_row (xs := nouW 64) (World.rowIs_made w _ 64 5) (Nat.le_refl _) List.length_replicate (by unfold maxLen; omega) (fun j hj => by
      rw [List.getD_eq_getElem?_getD, List.getElem?_replicate, if_pos hj])
    exact h1
  go_enter Tryz.func203, Tryz.ntmps203
  go_wp2
  go_ret
  exact ⟨_, Nat.le_refl _, rfl, HF.out⟩

set_option maxRecDepth 100000 in
theorem flag_ok (b : Bool) (w : World) : Calls Tryz.prog 207 #[.bool b] w fun e w' => e = .returned (.int .u8 ((b.toNat : Nat) : Int)) ∧ w' = w := by
  cases b <;> (go_enter Tryz.func207, Tryz.ntmps207; go_wp2; go_ret; exact ⟨rfl, rfl⟩)

/-- a sector of parts: the sum of the first 59 bytes, the last byte -/
def sealB (xs : List Nat) : List Nat := xs.take 59 ++ big (Crc.sum (xs.take 59)) 4 ++ [167]
theorem sealB_eq {xs : List Nat} (h : xs.length = 64) : (spl xs 59 (big (Crc.sum (xs.take 59)) 4)).set 63 167 = sealB xs := by
  have l1 : (big (Crc.sum (xs.take 59)) 4).length = 4 := big_length _ _
  unfold spl sealB
  rw [l1, List.append_assoc, List.append_assoc, List.set_append_right _ _ (by rw [List.length_take]; omega), List.length_take, h]
  congr 1
  rw [List.set_append_right _ _ (by rw [l1]; omega), l1]
  congr 1
  have hd : (xs.drop (59 + 4)).length = 1 := by rw [List.length_drop]; omega
  obtain ⟨y, hy⟩ := List.length_eq_one_iff.1 hd
  rw [hy]
  rfl

theorem sliceLH (g o n c l r : Nat) (hl : l ≤ r) (hr : r ≤ c) (hlc : l < c) (w : World) :
    (Instr.slice 34 (.slice (some ⟨g, o, none⟩) n c) (some (.int .i64 (l : Int))) (some (.int .i64 (r : Int))) none).run Tryz.prog w = .ok (.slice (some ⟨g, o + l, none⟩) (r - l) (c - l)) w := by
  obtain ⟨i, hi, hz⟩ := Option.map_eq_some_iff.1 info5
  simp only [Prod.mk.injEq] at hz
  obtain ⟨hz, hs, hb⟩ := hz
  have h1 : (0 : Int) ≤ l ∧ (l : Int) ≤ (r : Int) := by omega
  have h2 : (0 : Int) ≤ r ∧ (r : Int) ≤ (c : Int) := by omega
  have h3 : ¬ c = l := by omega
  simp [Instr.slice, Instr.sliceBounds, Instr.sliceBound, asIntOf, run_underlying Tryz.underlying34, sizeOf, typeInfo, hi, hs, hl, hr, h3, Addr.add]
theorem sliceH (g o n c r : Nat) (hr : r ≤ c) (hc : 0 < c) (w : World) :
    (Instr.slice 34 (.slice (some ⟨g, o, none⟩) n c) none (some (.int .i64 (r : Int))) none).run Tryz.prog w = .ok (.slice (some ⟨g, o, none⟩) r c) w := by
  obtain ⟨i, hi, hz⟩ := Option.map_eq_some_iff.1 info5
  simp only [Prod.mk.injEq] at hz
  obtain ⟨hz, hs, hb⟩ := hz
  have h2 : (0 : Int) ≤ r ∧ (r : Int) ≤ (c : Int) := by omega
  have h3 : ¬ c = 0 := by omega
  simp [Instr.slice, Instr.sliceBounds, Instr.sliceBound, asIntOf, run_underlying Tryz.underlying34, sizeOf, typeInfo, hi, hr, h3, Addr.add]
theorem sliceL (g o n c l : Nat) (hl : l ≤ n) (hlc : l < c) (w : World) :
    (Instr.slice 34 (.slice (some ⟨g, o, none⟩) n c) (some (.int .i64 (l : Int))) none none).run Tryz.prog w = .ok (.slice (some ⟨g, o + l, none⟩) (n - l) (c - l)) w := by
  obtain ⟨i, hi, hz⟩ := Option.map_eq_some_iff.1 info5
  simp only [Prod.mk.injEq] at hz
  obtain ⟨hz, hs, hb⟩ := hz
  have h3 : ¬ c = l := by omega
  simp [Instr.slice, Instr.sliceBounds, Instr.sliceBound, asIntOf, run_underlying Tryz.underlying34, sizeOf, typeInfo, hi, hs, hl, h3, Addr.add]
/-- a part of bytes that lie from o on -/
theorem Rb.mid {w : World} {g o n : Nat} {xs : List Nat} (h : Rb w (some ⟨g, o, none⟩) n xs) {l m : Nat} (hl : l + m ≤ n) : Rb w (some ⟨g, o + l, none⟩) m ((xs.drop l).take m) := by
  refine ⟨by rw [List.length_take, List.length_drop, h.len]; omega, fun x hx => h.byte x (List.mem_of_mem_drop (List.mem_of_mem_take hx)), fun j hj => ?_⟩
  obtain ⟨b, o', e, hb⟩ := h.pt (by omega)
  simp only [Option.some.injEq, Addr.mk.injEq, and_true] at e
  obtain ⟨rfl, rfl⟩ := e
  refine ⟨g, o + l, rfl, ?_⟩
  rw [Nat.add_assoc, hb (l + j) (by omega), List.getD_eq_getElem?_getD, List.getD_eq_getElem?_getD, List.getElem?_take_of_lt hj, List.getElem?_drop]

set_option maxRecDepth 100000 in
set_option maxHeartbeats 1600000 in
theorem seal_ok {w : World} {base g cap : Nat} {xs : List Nat} (x : Bk w base g cap 64 xs) (ht : Turns w) (c : Nat) (hc : 64 ≤ c) :
    Calls Tryz.prog 208 #[.slice (some ⟨g, 0, none⟩) 64 c] w fun e w' => e = .returned (.slice (some ⟨g, 0, none⟩) 64 c) ∧ Kp (fun b => b = g) w w' ∧ Bk w' base g cap 64 (sealB xs) := by
  have HX : Hid (Bk w base g cap 64 xs) := x
  obtain ⟨S, hS⟩ : ∃ S, S = Crc.sum (xs.take 59) := ⟨_, rfl⟩
  have HS9 : Hid (S < 18446744073709551616) := by show _ < _; rw [hS]; exact Nat.lt_trans (Crc.sum_lt (fun y hy => x.byte y (List.mem_of_mem_take hy))) (by decide)
  have hwS : IntKind.u64.wrap (S : Int) = (S : Int) := by
    have : S < 4294967296 := by rw [hS]; exact Crc.sum_lt (fun y hy => x.byte y (List.mem_of_mem_take hy))
    simp [IntKind.wrap, IntKind.bits, IntKind.signed]
    omega
  have s1 : ∀ w, (Instr.slice 34 (.slice (some ⟨g, 0, none⟩) 64 c) (some (.int .i64 59)) (some (.int .i64 63)) none).run Tryz.prog w = .ok (.slice (some ⟨g, 59, none⟩) 4 (c - 59)) w := fun w => by
    have := sliceLH g 0 64 c 59 63 (by omega) (by omega) (by omega) w
    rw [Nat.zero_add] at this
    exact this
  have s2 : ∀ w, (Instr.slice 34 (.slice (some ⟨g, 0, none⟩) 64 c) none (some (.int .i64 59)) none).run Tryz.prog w = .ok (.slice (some ⟨g, 0, none⟩) 59 c) w := fun w => sliceH g 0 64 c 59 (by omega) (by omega) w
  have HR : Hid (Rb w (some ⟨g, 0, none⟩) 59 (xs.take 59)) := by
    have := x.rb.mid (l := 0) (m := 59) (by omega)
    rw [List.drop_zero, Nat.add_zero] at this
    exact this
  have HC1 : Hid (∀ u, Kp (fun _ => False) w u → Calls Tryz.prog 228 #[.slice (some ⟨g, 0, none⟩) 59 c] u fun e w' => e = .returned (.int .u32 (S : Int)) ∧ w' = u) := fun u k => by
    rw [hS]
    exact sum_any _ 59 c _ u (HR.out.keep0 k) (by omega) (fun j hj => k.cellv (ht j hj) id)
  have HC2 : Hid (∀ u, Kp (fun _ => False) w u → Calls Tryz.prog 206 #[.slice (some ⟨g, 59, none⟩) 4 (c - 59), .int .u64 (S : Int)] u fun e w' => e = .returned (.tuple #[]) ∧ Kp (fun b => b = g) u w' ∧ Bk w' base g cap 64 (spl xs 59 (big S 4))) := fun u k => putNumber_ok (HX.out.keep0 k) 59 4 (c - 59) S (by omega) (by omega) (by omega) HS9.out
  have hE : (spl xs 59 (big S 4)).set 63 167 = sealB xs := by rw [hS]; exact sealB_eq x.len
  have HE : Hid ((spl xs 59 (big S 4)).set 63 167 = sealB xs) := hE
  have k0 : Kp (fun _ => False) w w := Kp.refl _ _
  clear x ht hS hE
  go_enter Tryz.func208, Tryz.ntmps208
  go_wp2
  go_region_with (first
    | (go_at_call 228; refine (HC1.out _ k0.drew).mono ?_; rintro e9 wa ⟨rfl, rfl⟩)
    | (go_at_call 206; refine (HC2.out _ k0.drew).mono ?_; rintro e9 wb ⟨rfl, kb, bb⟩))
  have kk : Kp (fun b => b = g) w wb := (k0.drew.mono (fun _ _ e => e.elim)).trans kb (fun _ _ e => e)
  have f3 := bb.fz 63
  have c3 := bb.cell (j := 63) (by omega)
  have HF : Hid (Kp (fun b => b = g) w (wb.setCell ⟨g, 63, none⟩ (.int .u8 167)) ∧ Bk (wb.setCell ⟨g, 63, none⟩ (.int .u8 167)) base g cap 64 (sealB xs)) := ⟨kk.trans kp_set (fun _ _ e => e), by
    have := bb.set (j := 63) (y := 167) (by omega) (by omega)
    rw [HE.out] at this
    exact this⟩
  clear kk bb kb k0
  go_wp2
  go_ret
  exact ⟨rfl, HF.out⟩

/-- bytes.Equal of whatever -/
theorem str_injW {xs ys : List Nat} (hx : ∀ x ∈ xs, x < 256) (hy : ∀ y ∈ ys, y < 256) (h : str xs = str ys) : xs = ys := by
  have e : (str xs).data.toList = (str ys).data.toList := by rw [h]
  simp only [str, strOfNums_data, List.map_map] at e
  have back : ∀ {l : List Nat}, (∀ x ∈ l, x < 256) → (l.map ((fun n : Int => UInt8.ofNat n.toNat) ∘ fun x : Nat => (x : Int))).map (fun u => u.toNat) = l := by
    intro l hl
    rw [List.map_map]
    conv => rhs; rw [← List.map_id l]
    refine List.map_congr_left (fun x hx => ?_)
    have := hl x hx
    simp [UInt8.toNat_ofNat', Nat.mod_eq_of_lt this]
  rw [← back hx, ← back hy, e]
theorem str_neW {xs ys : List Nat} (hx : ∀ x ∈ xs, x < 256) (hy : ∀ y ∈ ys, y < 256) (h : xs ≠ ys) : ((str xs).toList == (str ys).toList) = false := by
  rw [beq_eq_false_iff_ne]
  intro e
  refine h (str_injW hx hy ?_)
  have e2 : (str xs).data.toList = (str ys).data.toList := by
    unfold str at e ⊢
    rw [Go.Lib.strOfNums_toList, Go.Lib.strOfNums_toList] at e
    exact e
  have e3 : (str xs).data = (str ys).data := Array.ext' e2
  exact ByteArray.ext e3
set_option maxRecDepth 100000 in
set_option maxHeartbeats 800000 in
theorem bytesEqW (v1 v2 : Value) (b1 b2 : ByteArray) (w : World) (h1 : (convert 34 9 v1).run Tryz.prog w = .ok (.string b1) w) (h2 : (convert 34 9 v2).run Tryz.prog w = .ok (.string b2) w) :
    Calls Tryz.prog 20 #[v1, v2] w fun e w' => e = .returned (.bool (b1.toList == b2.toList)) ∧ w' = w := by
  go_enter Tryz.func20, Tryz.ntmps20
  go_wp2
  go_ret
  exact ⟨rfl, rfl⟩
theorem equal_any {p q : Option Addr} {n m : Nat} {xs ys : List Nat} (c d : Nat) (w : World) (h1 : Rb w p n xs) (h2 : Rb w q m ys) :
    Calls Tryz.prog 20 #[.slice p n c, .slice q m d] w fun e w' => e = .returned (.bool (decide (xs = ys))) ∧ w' = w := by
  refine (bytesEqW _ _ _ _ w (convert_bytes p n c _ w h1) (convert_bytes q m d _ w h2)).mono fun e w' ⟨he, hw⟩ => ⟨?_, hw⟩
  rw [he]
  congr 2
  by_cases h : xs = ys
  · rw [h]; simp
  · rw [str_neW h1.byte h2.byte h]; simp [h]
end Go.Proofs.YtmooddbhcccicaaGreatDoor
