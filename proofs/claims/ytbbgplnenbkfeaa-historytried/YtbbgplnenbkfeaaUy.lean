/- Whatever order fits, the best one does, plain. -/
import Derived.Test.YtbbgplnenbkfeaaUw
namespace Go.Proofs.Ytbbgplnenbkfeaa
set_option linter.unusedVariables false
set_option linter.unusedSimpArgs false
open Go.RowKit Go.Deep Go.Maps

theorem getD_mem {X : List Hc} {i : Nat} (h : i < X.length) : X.getD i hc0 ∈ X := by rw [List.getD_eq_getElem?_getD, List.getElem?_eq_getElem h]; exact List.getElem_mem h
theorem fidx_spec {X : List Hc} {P : Hc → Bool} (h : 0 ≤ fidx X P) : (fidx X P).toNat < X.length ∧ P (X.getD (fidx X P).toNat hc0) = true ∧ ∀ j, j < (fidx X P).toNat → P (X.getD j hc0) = false := by
  unfold fidx at h ⊢
  cases hf : X.findIdx? P with
  | none => rw [hf] at h; exact absurd h (by decide)
  | some i =>
    rw [List.findIdx?_eq_some_iff_getElem] at hf
    obtain ⟨hi, hp, hm⟩ := hf
    show ((i : Int)).toNat < _ ∧ P (X.getD ((i : Int)).toNat hc0) = true ∧ ∀ j, j < ((i : Int)).toNat → _
    rw [Int.toNat_natCast]
    refine ⟨hi, by rw [List.getD_eq_getElem?_getD, List.getElem?_eq_getElem hi]; exact hp, fun j hj => ?_⟩
    have := hm j hj
    rw [List.getD_eq_getElem?_getD, List.getElem?_eq_getElem (by omega)]
    simpa using this
theorem fidx_first {X : List Hc} {P : Hc → Bool} {j : Nat} (hj : j < X.length) (hp : P (X.getD j hc0) = true) : 0 ≤ fidx X P ∧ (fidx X P).toNat ≤ j := by
  have h0 := (fidx_has (getD_mem hj) hp).1
  refine ⟨h0, ?_⟩
  rcases Nat.lt_or_ge j (fidx X P).toNat with e | e
  · have := (fidx_spec h0).2.2 j e
    rw [hp] at this
    cases this
  · exact e
theorem mayE_iff {kd : Int} {M : Hc → Bool} {c : Hc} : mayE kd M c = true ↔ (c.e.kind = kd ∧ c.says = 0) ∧ M c = true := by
  unfold mayE
  rw [Bool.and_eq_true, Bool.and_eq_true, beq_iff_eq, beq_iff_eq]
/-- the call of a kind that has an effect in the best order, beside one that has it in another -/
theorem pick_best {X : List Hc} {kd : Int} {M : Hc → Bool} {pt : Nat} (hkd : kd = 1 ∨ kd = 3) (hl : pt < X.length) (hk : (X.getD pt hc0).e.kind = kd) (hs : (X.getD pt hc0).says = 0 ∨ (X.getD pt hc0).says = 1) (hM : (X.getD pt hc0).says = 0 → M (X.getD pt hc0) = true)
    (ho : ∀ j, j < X.length → j ≠ pt → isTold kd (X.getD j hc0) = false) : (pickP X kd M).toNat < X.length ∧ ((pickP X kd M).toNat = pt ∨ ((pickP X kd M).toNat ≤ pt ∧ (X.getD (pickP X kd M).toNat hc0).says = 0 ∧ M (X.getD (pickP X kd M).toNat hc0) = true ∧ (X.getD pt hc0).says = 0)) ∧ (X.getD (pickP X kd M).toNat hc0).e.kind = kd := by
  unfold pickP
  split
  · rename_i h0
    obtain ⟨h1, h2, h3⟩ := fidx_spec h0
    have he : (fidx X (isTold kd)).toNat = pt := by
      by_cases e : (fidx X (isTold kd)).toNat = pt
      · exact e
      · have := ho _ h1 e
        rw [h2] at this
        cases this
    refine ⟨h1, Or.inl he, ?_⟩
    rw [he]
    exact hk
  · rename_i h0
    have hs0 : (X.getD pt hc0).says = 0 := by
      rcases hs with q | q
      · exact q
      · exfalso
        exact h0 (fidx_first hl (by unfold isTold; rw [hk, q]; simp)).1
    have hme : mayE kd M (X.getD pt hc0) = true := by unfold mayE; rw [hk, hs0, hM hs0]; simp
    obtain ⟨h4, h5⟩ := fidx_first hl hme
    obtain ⟨h1, h2, h3⟩ := fidx_spec h4
    have h6 := mayE_iff.1 h2
    exact ⟨h1, Or.inr ⟨h5, h6.1.2, h6.2, hs0⟩, h6.1.1⟩
/-- calls, in their order; dummies among them -/
structure Wfc (X : List Hc) : Prop where
  inc : ∀ i j, i ≤ j → j < X.length → (X.getD i hc0).fr ≤ (X.getD j hc0).fr
  sz : ∀ c ∈ X, 0 ≤ c.fr ∧ c.fr ≤ 1000 ∧ c.fr < c.to ∧ c.to ≤ never
  un : ∀ c ∈ X, c.says = 0 → c.to = never
/-- some order fits -/
structure Fits (X : List Hc) (pt er : Nat) (wt et : Int) : Prop where
  pl : pt < X.length
  pk : (X.getD pt hc0).e.kind = 1
  ps : (X.getD pt hc0).says = 0 ∨ (X.getD pt hc0).says = 1
  el : er < X.length
  ek : (X.getD er hc0).e.kind = 3
  es : (X.getD er hc0).says = 0 ∨ (X.getD er hc0).says = 1
  le : wt ≤ et
  f : ∀ i, i < X.length → fitsP X pt er wt et i = true
theorem within_iff (c : Hc) (f l : Int) : withinP c f l = true ↔ c.fr < l ∧ f ≤ c.to := by
  unfold withinP
  rw [Bool.and_eq_true, decide_eq_true_eq, decide_eq_true_eq]
/-- what the times of the best order are bound by -/
theorem ordF_spec : ∀ (X : List Hc) (l e : Int) (lo hi : Int), (∀ c ∈ X, readsP c = true → c.fr < hi ∧ lo ≤ c.to) → (∀ c ∈ X, c.says = 2 → lo ≤ c.to) → lo ≤ l → e < hi →
    lo ≤ (X.foldl ordS (l, e)).1 ∧ (X.foldl ordS (l, e)).2 < hi ∧ (X.foldl ordS (l, e)).1 ≤ l ∧ e ≤ (X.foldl ordS (l, e)).2 ∧ (∀ c ∈ X, readsP c = true → (X.foldl ordS (l, e)).1 ≤ c.to ∧ c.fr ≤ (X.foldl ordS (l, e)).2) ∧ ∀ c ∈ X, c.says = 2 → (X.foldl ordS (l, e)).1 ≤ c.to
  | [], l, e, lo, hi, _, _, h3, h4 => ⟨h3, h4, Int.le_refl _, Int.le_refl _, fun c hc => (by cases hc), fun c hc => (by cases hc)⟩
  | x :: X, l, e, lo, hi, h1, h2, h3, h4 => by
    rw [List.foldl_cons]
    have hx := ordS_fst l e x
    have ih := ordF_spec X (ordS (l, e) x).1 (ordS (l, e) x).2 lo hi (fun c hc => h1 c (List.mem_cons_of_mem _ hc)) (fun c hc => h2 c (List.mem_cons_of_mem _ hc))
    have hpp : ((ordS (l, e) x).1, (ordS (l, e) x).2) = ordS (l, e) x := rfl
    rw [hpp] at ih
    have hr := h1 x (by simp)
    have ht := h2 x (by simp)
    have b1 : lo ≤ (ordS (l, e) x).1 ∧ (ordS (l, e) x).1 ≤ l ∧ (readsP x = true → (ordS (l, e) x).1 ≤ x.to) ∧ (x.says = 2 → (ordS (l, e) x).1 ≤ x.to) := by
      rw [hx]
      by_cases q : readsP x = true
      · have := hr q
        simp [q]
        omega
      · have q' : readsP x = false := by simpa using q
        by_cases q2 : x.says = 2
        · have := ht q2
          simp [q', q2]
          omega
        · simp [q', q2]
          omega
    have b2 : (ordS (l, e) x).2 < hi ∧ e ≤ (ordS (l, e) x).2 ∧ (readsP x = true → x.fr ≤ (ordS (l, e) x).2) := by
      rw [hx]
      by_cases q : readsP x = true
      · have := hr q
        simp [q]
        omega
      · have q' : readsP x = false := by simpa using q
        simp [q']
        omega
    obtain ⟨i1, i2, i3, i4, i5, i6⟩ := ih b1.1 b2.1
    refine ⟨i1, i2, by have := b1.2.1; omega, by have := b2.2.1; omega, fun c hc hq => ?_, fun c hc hq => ?_⟩
    · rcases List.mem_cons.1 hc with rfl | hc
      · have := b1.2.2.1 hq
        have := b2.2.2 hq
        exact ⟨by omega, by omega⟩
      · exact i5 c hc hq
    · rcases List.mem_cons.1 hc with rfl | hc
      · have := b1.2.2.2 hq
        omega
      · exact i6 c hc hq
/-- whatever order fits, the best one does -/
theorem best_fits (cs : List Hc) (en : Int) (hW : Wfc (extC cs en)) (pt er : Nat) (wt et : Int) (h : Fits (extC cs en) pt er wt et) : rightP cs en = true := by
  obtain ⟨X, hX⟩ : ∃ X, X = extC cs en := ⟨_, rfl⟩
  have hPd : putI cs en = (pickP X 1 (mayP (fidx cs readsP) (readB cs).xs)).toNat := by rw [hX]; rfl
  have hDd : delI cs en = (pickP X 3 (fun _ => true)).toNat := by rw [hX]; rfl
  -- reads of X are reads of cs
  have hrd : ∀ c ∈ X, readsP c = true → c ∈ cs := fun c hc hr => by
    rw [hX] at hc
    unfold extC at hc
    rcases List.mem_append.1 hc with q | q
    · exact q
    · simp at q
      rcases q with rfl | rfl <;> (unfold readsP endC at hr; simp at hr)
  have hsub : ∀ j, j < cs.length → X.getD j hc0 = cs.getD j hc0 ∧ j < X.length := fun j hj => by
    rw [hX]
    unfold extC
    refine ⟨by rw [List.getD_eq_getElem?_getD, List.getD_eq_getElem?_getD, List.getElem?_append_left hj], by rw [List.length_append]; omega⟩
  unfold rightP
  rw [← hX] at hW h ⊢
  have hkne : pt ≠ er := fun e => by have h1 := h.pk; have h2 := h.ek; rw [e, h2] at h1; exact absurd h1 (by decide)
  -- what the fit says
  have fp := h.f pt h.pl
  unfold fitsP at fp
  simp only [if_true] at fp
  rw [within_iff] at fp
  have fe := h.f er h.el
  unfold fitsP at fe
  have hkne2 : er ≠ pt := fun e => hkne e.symm
  simp only [if_neg hkne2, if_true] at fe
  rw [within_iff] at fe
  have fo : ∀ i, i < X.length → i ≠ pt → i ≠ er → ((X.getD i hc0).says = 0 ∨ ((X.getD i hc0).says = 2 ∧ wt ≤ (X.getD i hc0).to) ∨ ((X.getD i hc0).says = 3 ∧ ((X.getD i hc0).fr < wt ∨ et ≤ (X.getD i hc0).to)) ∨ (readsP (X.getD i hc0) = true ∧ (X.getD i hc0).fr < et ∧ wt ≤ (X.getD i hc0).to ∧ (X.getD i hc0).g.xs = (X.getD pt hc0).e.b.xs)) := fun i hi h1 h2 => by
    have := h.f i hi
    unfold fitsP at this
    simp only [if_neg h1, if_neg h2] at this
    by_cases s0 : (X.getD i hc0).says = 0
    · exact Or.inl s0
    · have s0' : ((X.getD i hc0).says == 0) = false := by simpa using s0
      rw [s0'] at this
      by_cases s2 : (X.getD i hc0).says = 2
      · have s2' : ((X.getD i hc0).says == 2) = true := by simpa using s2
        rw [s2'] at this
        simp only [Bool.false_eq_true, if_false, if_true] at this
        rw [within_iff] at this
        exact Or.inr (Or.inl ⟨s2, this.2⟩)
      · have s2' : ((X.getD i hc0).says == 2) = false := by simpa using s2
        rw [s2'] at this
        by_cases s3 : (X.getD i hc0).says = 3
        · have s3' : ((X.getD i hc0).says == 3) = true := by simpa using s3
          rw [s3'] at this
          simp only [Bool.false_eq_true, if_false, if_true, Bool.or_eq_true] at this
          rw [within_iff, within_iff] at this
          rcases this with q | q
          · exact Or.inr (Or.inr (Or.inl ⟨s3, Or.inl q.1⟩))
          · exact Or.inr (Or.inr (Or.inl ⟨s3, Or.inr q.2⟩))
        · have s3' : ((X.getD i hc0).says == 3) = false := by simpa using s3
          rw [s3'] at this
          simp only [Bool.false_eq_true, if_false] at this
          by_cases r : readsP (X.getD i hc0) = true
          · rw [if_pos r, Bool.and_eq_true, within_iff, decide_eq_true_eq] at this
            exact Or.inr (Or.inr (Or.inr ⟨r, this.1.1, this.1.2, this.2⟩))
          · rw [if_neg r] at this
            cases this
  -- reads are neither the put nor the delete
  have hrne : ∀ i, readsP (X.getD i hc0) = true → i ≠ pt ∧ i ≠ er ∧ (X.getD i hc0).says = 1 := fun i hr => by
    unfold readsP at hr
    simp at hr
    have := h.pk
    have := h.ek
    refine ⟨fun e => ?_, fun e => ?_, by simpa using hr.2⟩
    · subst e; simp at this; have h9 := h.pk; simp at h9; omega
    · subst e; have h9 := h.ek; simp at h9; omega
  have told_pt : ∀ j, j < X.length → j ≠ pt → isTold 1 (X.getD j hc0) = false := fun j hj hne => by
    by_cases e : j = er
    · subst e; unfold isTold; rw [h.ek]; rfl
    · cases ht : isTold 1 (X.getD j hc0) with
      | false => rfl
      | true =>
        exfalso
        unfold isTold at ht
        rw [Bool.and_eq_true, beq_iff_eq, beq_iff_eq] at ht
        rcases fo j hj hne e with q | q | q | q
        · omega
        · omega
        · omega
        · have := q.1
          unfold readsP at this
          rw [ht.1] at this
          exact absurd this (by simp)
  have told_er : ∀ j, j < X.length → j ≠ er → isTold 3 (X.getD j hc0) = false := fun j hj hne => by
    by_cases e : j = pt
    · subst e; unfold isTold; rw [h.pk]; rfl
    · cases ht : isTold 3 (X.getD j hc0) with
      | false => rfl
      | true =>
        exfalso
        unfold isTold at ht
        rw [Bool.and_eq_true, beq_iff_eq, beq_iff_eq] at ht
        rcases fo j hj e hne with q | q | q | q
        · omega
        · omega
        · omega
        · have := q.1
          unfold readsP at this
          rw [ht.1] at this
          exact absurd this (by simp)
  -- the bytes that were read are the put's
  have hread : 0 ≤ fidx cs readsP → (X.getD pt hc0).e.b.xs = (readB cs).xs := fun h0 => by
    obtain ⟨h1, h2, _⟩ := fidx_spec h0
    obtain ⟨e1, e2⟩ := hsub _ h1
    have hr : readsP (X.getD (fidx cs readsP).toNat hc0) = true := by rw [e1]; exact h2
    obtain ⟨n1, n2, n3⟩ := hrne _ hr
    rcases fo _ e2 n1 n2 with q | q | q | q
    · omega
    · omega
    · omega
    · rw [← q.2.2.2, e1]
      unfold readB
      rw [if_pos h0]
  have hMpt : (X.getD pt hc0).says = 0 → mayP (fidx cs readsP) (readB cs).xs (X.getD pt hc0) = true := fun _ => by
    unfold mayP
    rcases fidx_ge (cs := cs) (P := readsP) with q | q
    · rw [hread q]; simp
    · rw [q]; rfl
  obtain ⟨P1, P2, P3⟩ := pick_best (Or.inl rfl) h.pl h.pk h.ps hMpt told_pt
  obtain ⟨D1, D2, D3⟩ := pick_best (M := fun _ => true) (Or.inr rfl) h.el h.ek h.es (fun _ => rfl) told_er
  rw [← hPd] at P1 P2 P3
  rw [← hDd] at D1 D2 D3
  obtain ⟨P, hP⟩ : ∃ P, P = putI cs en := ⟨_, rfl⟩
  obtain ⟨D, hD⟩ : ∃ D, D = delI cs en := ⟨_, rfl⟩
  rw [← hP] at P1 P2 P3 ⊢
  rw [← hD] at D1 D2 D3 ⊢
  clear hPd hDd hP hD
  have fPt : (X.getD P hc0).fr ≤ (X.getD pt hc0).fr ∧ (X.getD pt hc0).to ≤ (X.getD P hc0).to := by
    rcases P2 with e | ⟨e1, e2, _⟩
    · rw [e]; exact ⟨Int.le_refl _, Int.le_refl _⟩
    · exact ⟨hW.inc P pt e1 h.pl, by rw [hW.un _ (getD_mem P1) e2]; exact (hW.sz _ (getD_mem h.pl)).2.2.2⟩
  have fEr : (X.getD D hc0).fr ≤ (X.getD er hc0).fr ∧ (X.getD er hc0).to ≤ (X.getD D hc0).to := by
    rcases D2 with e | ⟨e1, e2, _⟩
    · rw [e]; exact ⟨Int.le_refl _, Int.le_refl _⟩
    · exact ⟨hW.inc D er e1 h.el, by rw [hW.un _ (getD_mem D1) e2]; exact (hW.sz _ (getD_mem h.el)).2.2.2⟩
  have idx : ∀ c ∈ X, ∃ j, j < X.length ∧ X.getD j hc0 = c := fun c hc => by
    obtain ⟨j, hj, e⟩ := List.getElem_of_mem hc
    exact ⟨j, hj, by rw [List.getD_eq_getElem?_getD, List.getElem?_eq_getElem hj]; exact e⟩
  obtain ⟨o1, o2, o3, o4, o5, o6⟩ := ordF_spec X (X.getD P hc0).to (max (X.getD P hc0).fr (X.getD D hc0).fr) wt et (fun c hc hr => by
    obtain ⟨j, hj, rfl⟩ := idx c hc
    obtain ⟨n1, n2, n3⟩ := hrne j hr
    rcases fo j hj n1 n2 with q | q | q | q
    · omega
    · omega
    · omega
    · exact ⟨q.2.1, q.2.2.1⟩) (fun c hc hs => by
    obtain ⟨j, hj, rfl⟩ := idx c hc
    by_cases e1 : j = pt
    · subst e1; rcases h.ps with q | q <;> omega
    · by_cases e2 : j = er
      · subst e2; rcases h.es with q | q <;> omega
      · rcases fo j hj e1 e2 with q | q | q | q
        · omega
        · exact q.2
        · omega
        · have := (hrne j q.1).2.2; omega) (by omega) (by have := h.le; omega)
  have hOF : ordF X P D = X.foldl ordS ((X.getD P hc0).to, max (X.getD P hc0).fr (X.getD D hc0).fr) := rfl
  obtain ⟨la, hla⟩ : ∃ z, z = (ordF X P D).1 := ⟨_, rfl⟩
  obtain ⟨ea, hea⟩ : ∃ z, z = (ordF X P D).2 := ⟨_, rfl⟩
  rw [← hOF, ← hla] at o1 o3
  rw [← hOF, ← hea] at o2 o4
  rw [← hOF] at o5 o6
  rw [← hla, ← hea] at o5
  rw [← hla] at o6
  have hE : erasedP X P D = ea + 1 := by unfold erasedP; rw [hea]
  have hWr : writtenP X P D = min la (ea + 1) := by unfold writtenP; rw [hE, hla]
  rw [hE, hWr]
  refine range_all (fun i hi => ?_)
  unfold fitsP
  dsimp only
  split
  · rename_i e
    subst e
    rw [within_iff]
    omega
  · rename_i nP
    split
    · rename_i e
      subst e
      rw [within_iff]
      omega
    · rename_i nD
      have szi := hW.sz _ (getD_mem hi)
      by_cases s0 : (X.getD i hc0).says = 0
      · rw [s0]; rfl
      · have s0' : ((X.getD i hc0).says == 0) = false := by simpa using s0
        rw [s0']
        -- told otherwise, so neither the other order's put nor its delete
        have npt : i ≠ pt := fun e => by
          subst e
          rcases P2 with e | ⟨_, _, _, e4⟩
          · exact nP e.symm
          · exact s0 e4
        have ner : i ≠ er := fun e => by
          subst e
          rcases D2 with e | ⟨_, _, _, e4⟩
          · exact nD e.symm
          · exact s0 e4
        rcases fo i hi npt ner with q | q | q | q
        · exact absurd q s0
        · have s2' : ((X.getD i hc0).says == 2) = true := by simpa using q.1
          rw [s2']
          simp only [Bool.false_eq_true, if_false, if_true]
          rw [within_iff]
          have := o6 _ (getD_mem hi) q.1
          unfold never
          omega
        · have s2' : ((X.getD i hc0).says == 2) = false := by rw [q.1]; rfl
          have s3' : ((X.getD i hc0).says == 3) = true := by rw [q.1]; rfl
          rw [s2', s3']
          simp only [Bool.false_eq_true, if_false, if_true, Bool.or_eq_true]
          rw [within_iff, within_iff]
          unfold never
          omega
        · have n3 := (hrne i q.1).2.2
          have s2' : ((X.getD i hc0).says == 2) = false := by rw [n3]; rfl
          have s3' : ((X.getD i hc0).says == 3) = false := by rw [n3]; rfl
          rw [s2', s3']
          simp only [Bool.false_eq_true, if_false]
          rw [if_pos q.1, Bool.and_eq_true, within_iff, decide_eq_true_eq]
          have := o5 _ (getD_mem hi) q.1
          refine ⟨by omega, ?_⟩
          rw [q.2.2.2]
          -- some bytes were read
          have hge : 0 ≤ fidx cs readsP := (fidx_has (hrd _ (getD_mem hi) q.1) q.1).1
          rcases P2 with e | ⟨e1, e2, e3, _⟩
          · rw [e]
          · unfold mayP at e3
            rw [decide_eq_false (by omega), Bool.false_or, decide_eq_true_eq] at e3
            rw [e3, hread hge]
end Go.Proofs.Ytbbgplnenbkfeaa
