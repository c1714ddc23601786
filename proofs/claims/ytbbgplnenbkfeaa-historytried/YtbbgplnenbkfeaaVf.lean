/- What right journals are, plain: times that fit; and their beginnings. -/
import Derived.Test.YtbbgplnenbkfeaaUz
namespace Go.Proofs.Ytbbgplnenbkfeaa
set_option linter.unusedVariables false
set_option linter.unusedSimpArgs false
open Go.RowKit Go.Deep Go.Maps

/-- calls of a journal behind k lines -/
structure Inv (k : Nat) (cs : List Hc) : Prop where
  pw : (cs.map (·.fr)).Pairwise (· < ·)
  sz : ∀ c ∈ cs, 0 ≤ c.fr ∧ c.fr < k ∧ c.fr < c.to ∧ (c.to < k ∨ c.to = never)
  un : ∀ c ∈ cs, c.says = 0 → c.to = never
  nv : ∀ c ∈ cs, c.to = never → c.says = 0
  tl : ∀ c ∈ cs, c.told = false → c.says = 0
  sy : ∀ c ∈ cs, (c.says = 0 ∨ c.says = 1 ∨ (c.says = 2 ∧ c.e.kind = 1) ∨ (c.says = 3 ∧ c.e.kind ≠ 1)) ∧ (c.e.kind = 1 ∨ c.e.kind = 2 ∨ c.e.kind = 3)
theorem mayAsk_kind {e : Ev} (h : mayAskP e = true) : e.kind = 1 ∨ e.kind = 2 ∨ e.kind = 3 := by
  unfold mayAskP at h
  by_cases h1 : e.kind = 1
  · exact Or.inl h1
  · by_cases h2 : e.kind = 2
    · exact Or.inr (Or.inl h2)
    · by_cases h3 : e.kind = 3
      · exact Or.inr (Or.inr h3)
      · simp [h1, h2, h3] at h
theorem mayHear_kind {c : Hc} {e : Ev} (h : mayHearP c e = true) : c.told = false ∧ (e.kind = 1 ∨ (e.kind = 2 ∧ c.e.kind = 1) ∨ (e.kind = 3 ∧ c.e.kind ≠ 1) ∨ e.kind = 4 ∨ e.kind = 5) := by
  unfold mayHearP at h
  cases ht : c.told with
  | true => rw [ht] at h; simp at h
  | false =>
    refine ⟨rfl, ?_⟩
    rw [ht] at h
    by_cases h1 : e.kind = 1
    · exact Or.inl h1
    · by_cases h4 : e.kind = 4
      · omega
      · by_cases h5 : e.kind = 5
        · omega
        · by_cases h2 : e.kind = 2
          · simp [h2] at h
            omega
          · by_cases h3 : e.kind = 3
            · simp [h3] at h
              omega
            · simp [h1, h2, h3, h4, h5] at h
theorem hear_fr (c : Hc) (e : Ev) (t : Int) : (hearP c e t).fr = c.fr := by unfold hearP; split <;> rfl
theorem map_fr_set (cs : List Hc) (i : Nat) (c : Hc) (h : c.fr = (cs.getD i hc0).fr) (hi : i < cs.length) : (cs.set i c).map (·.fr) = cs.map (·.fr) := by
  apply List.ext_getElem?
  intro j
  rw [List.getElem?_map, List.getElem?_map]
  by_cases e : i = j
  · subst e
    rw [List.getElem?_set_self hi]
    rw [List.getD_eq_getElem?_getD, List.getElem?_eq_getElem hi] at h
    rw [List.getElem?_eq_getElem hi]
    show some c.fr = some _
    rw [h]; rfl
  · rw [List.getElem?_set_ne e]
theorem Inv.nil : Inv 0 [] := ⟨List.Pairwise.nil, fun c h => (by cases h), fun c h => (by cases h), fun c h => (by cases h), fun c h => (by cases h), fun c h => (by cases h)⟩
theorem stp_cases {cs cs' : List Hc} {k : Nat} {e : Ev} (h : stp cs k e = some cs') : (e.ans = false ∧ findC cs e.id = none ∧ mayAskP e = true ∧ cs' = cs ++ [newC e k]) ∨ (∃ i, e.ans = true ∧ findC cs e.id = some i ∧ i < cs.length ∧ mayHearP (cs.getD i hc0) e = true ∧ cs' = cs.set i (hearP (cs.getD i hc0) e k)) := by
  unfold stp at h
  cases ha : e.ans with
  | false =>
    rw [ha] at h
    cases hf : findC cs e.id with
    | some i => rw [hf] at h; cases h
    | none =>
      rw [hf] at h
      dsimp only at h
      split at h
      · rename_i hm
        exact Or.inl ⟨rfl, rfl, hm, (Option.some.inj h).symm⟩
      · cases h
  | true =>
    rw [ha] at h
    cases hf : findC cs e.id with
    | none => rw [hf] at h; cases h
    | some i =>
      rw [hf] at h
      dsimp only at h
      split at h
      · rename_i hm
        have hl : i < cs.length := by
          unfold findC at hf
          rw [List.findIdx?_eq_some_iff_getElem] at hf
          exact hf.1
        exact Or.inr ⟨i, rfl, rfl, hl, hm, (Option.some.inj h).symm⟩
      · cases h
theorem Inv.step {k : Nat} {cs cs' : List Hc} {e : Ev} (h : Inv k cs) (hs : stp cs k e = some cs') (hk : k ≤ 900) : Inv (k + 1) cs' := by
  have hz0 : ∀ c ∈ cs, 0 ≤ c.fr ∧ c.fr < ((k + 1 : Nat) : Int) ∧ c.fr < c.to ∧ (c.to < ((k + 1 : Nat) : Int) ∨ c.to = never) := fun c hc => by
    have := h.sz c hc
    omega
  rcases stp_cases hs with ⟨_, _, hm, rfl⟩ | ⟨i, _, _, hi, hm, rfl⟩
  · refine ⟨?_, fun c hc => ?_, fun c hc => ?_, fun c hc => ?_, fun c hc => ?_, fun c hc => ?_⟩
    · rw [List.map_append, List.pairwise_append]
      refine ⟨h.pw, List.pairwise_singleton _ _, fun a ha b hb => ?_⟩
      obtain ⟨c, hc, rfl⟩ := List.mem_map.1 ha
      have hb2 : b = (k : Int) := by simpa [newC] using hb
      have := h.sz c hc
      omega
    all_goals
      rcases List.mem_append.1 hc with q | q
      · first | exact hz0 c q | exact h.un c q | exact h.nv c q | exact h.tl c q | exact h.sy c q
      · rw [List.mem_singleton] at q; subst q
        first
          | exact fun _ => rfl
          | exact ⟨by show (0 : Int) ≤ (k : Int); omega, by show (k : Int) < _; omega, by show (k : Int) < never; unfold never; omega, Or.inr rfl⟩
          | exact ⟨Or.inl rfl, mayAsk_kind hm⟩
  · have hmem : cs.getD i hc0 ∈ cs := getD_mem hi
    obtain ⟨ht, hkd⟩ := mayHear_kind hm
    obtain ⟨c0, hc0'⟩ : ∃ c0, c0 = cs.getD i hc0 := ⟨_, rfl⟩
    rw [← hc0'] at hmem ht hkd ⊢
    have hz := h.sz _ hmem
    have hu := h.un _ hmem
    have hsy := h.sy _ hmem
    have h0 := h.tl _ hmem ht
    refine ⟨?_, fun c hc => ?_, fun c hc => ?_, fun c hc => ?_, fun c hc => ?_, fun c hc => ?_⟩
    · rw [map_fr_set _ _ _ (by rw [hear_fr, hc0']) hi]; exact h.pw
    all_goals
      rcases List.mem_or_eq_of_mem_set hc with q | q
      · first | exact hz0 c q | exact h.un c q | exact h.nv c q | exact h.tl c q | exact h.sy c q
      · subst q
        unfold hearP
        by_cases h45 : e.kind = 4 ∨ e.kind = 5
        · rcases h45 with q | q <;> simp [q] <;> first | omega | exact fun x => h.un _ hmem x | exact fun x => h.nv _ hmem x | exact hsy
        · have e4 : e.kind ≠ 4 := fun x => h45 (Or.inl x)
          have e5 : e.kind ≠ 5 := fun x => h45 (Or.inr x)
          simp [e4, e5] <;> first | omega | (refine ⟨?_, hsy.2⟩; omega) | (unfold never; omega)
theorem rdF_inv : ∀ (es : List Ev) (k : Nat) (cs cs' : List Hc), Inv k cs → rdF es k cs = some cs' → k + es.length ≤ 900 → Inv (k + es.length) cs'
  | [], k, cs, cs', h, hr, _ => by cases hr; exact h
  | e :: es, k, cs, cs', h, hr, hl => by
    have hr2 : (stp cs k e).bind (rdF es (k + 1)) = some cs' := hr
    cases hs : stp cs k e with
    | none => rw [hs] at hr2; cases hr2
    | some c1 =>
      rw [hs] at hr2
      have hl2 : k + 1 + es.length ≤ 900 := by simp at hl; omega
      have := rdF_inv es (k + 1) c1 cs' (h.step hs (by omega)) hr2 hl2
      have e1 : k + (e :: es).length = k + 1 + es.length := by simp; omega
      rw [e1]
      exact this
theorem rd_inv {es : List Ev} {cs : List Hc} (h : rd es = some cs) (hl : es.length ≤ 900) : Inv es.length cs := by
  have := rdF_inv es 0 [] cs Inv.nil h (by omega)
  rwa [Nat.zero_add] at this
/-- a key's calls -/
structure Wfg (g : List Hc) (en : Int) : Prop where
  inc : ∀ i j, i ≤ j → j < g.length → (g.getD i hc0).fr ≤ (g.getD j hc0).fr
  sz : ∀ c ∈ g, 0 ≤ c.fr ∧ c.fr < en ∧ c.fr < c.to ∧ c.to ≤ never
  un : ∀ c ∈ g, c.says = 0 → c.to = never
theorem pw_get {g : List Hc} (h : (g.map (·.fr)).Pairwise (· < ·)) {i j : Nat} (hij : i < j) (hj : j < g.length) : (g.getD i hc0).fr < (g.getD j hc0).fr := by
  rw [List.pairwise_iff_getElem] at h
  have := h i j (by simp; omega) (by simp; omega) hij
  rw [List.getElem_map, List.getElem_map] at this
  rw [List.getD_eq_getElem?_getD, List.getD_eq_getElem?_getD, List.getElem?_eq_getElem hj, List.getElem?_eq_getElem (by omega)]
  exact this
theorem Inv.wfg {k : Nat} {cs : List Hc} (h : Inv k cs) (hk : k ≤ 900) (key : List UInt8) : Wfg (grpOf cs key) (k : Int) := by
  have hm : ∀ c ∈ grpOf cs key, c ∈ cs := fun c hc => (List.mem_filter.1 hc).1
  have hp : ((grpOf cs key).map (·.fr)).Pairwise (· < ·) := List.Pairwise.sublist (List.Sublist.map _ (List.filter_sublist ..)) h.pw
  refine ⟨fun i j hij hj => ?_, fun c hc => ?_, fun c hc => h.un c (hm c hc)⟩
  · rcases Nat.lt_or_eq_of_le hij with q | q
    · exact Int.le_of_lt (pw_get hp q hj)
    · subst q; exact Int.le_refl _
  · have := h.sz c (hm c hc)
    refine ⟨this.1, this.2.1, this.2.2.1, ?_⟩
    have := this.2.2.2
    unfold never at this ⊢
    omega
theorem Wfg.wfc {g : List Hc} {en : Int} (h : Wfg g en) (he : 0 ≤ en ∧ en ≤ 1000) : Wfc (extC g en) := by
  have hall : ∀ c ∈ extC g en, (c ∈ g) ∨ c = endC 1 en (readB g) ∨ c = endC 3 en by0 := fun c hc => by
    unfold extC at hc
    rcases List.mem_append.1 hc with q | q
    · exact Or.inl q
    · simp at q; exact Or.inr q
  have hcase : ∀ i, i < (extC g en).length → (i < g.length ∧ (extC g en).getD i hc0 = g.getD i hc0) ∨ (g.length ≤ i ∧ ((extC g en).getD i hc0).fr = en) := fun i hi => by
    rw [ext_len] at hi
    rcases Nat.lt_or_ge i g.length with q | q
    · exact Or.inl ⟨q, ext_get q⟩
    · right
      refine ⟨q, ?_⟩
      rcases Nat.lt_or_ge g.length i with r | r
      · have : i = g.length + 1 := by omega
        subst this
        rw [ext_del]; rfl
      · have : i = g.length := by omega
        subst this
        rw [ext_put]; rfl
  refine ⟨fun i j hij hj => ?_, fun c hc => ?_, fun c hc hs => ?_⟩
  · rcases hcase j hj with ⟨q1, q2⟩ | ⟨q1, q2⟩
    · rw [q2, ext_get (by omega)]; exact h.inc i j hij q1
    · rw [q2]
      rcases hcase i (by omega) with ⟨r1, r2⟩ | ⟨r1, r2⟩
      · rw [r2]; have := (h.sz _ (getD_mem r1)).2.1; omega
      · rw [r2]; exact Int.le_refl _
  · rcases hall c hc with q | rfl | rfl
    · have := h.sz c q; exact ⟨this.1, by omega, this.2.2.1, this.2.2.2⟩
    · exact ⟨he.1, he.2, by show en < never; unfold never; omega, Int.le_refl _⟩
    · exact ⟨he.1, he.2, by show en < never; unfold never; omega, Int.le_refl _⟩
  · rcases hall c hc with q | rfl | rfl
    · exact h.un c q hs
    · rfl
    · rfl
/-- times that fit a key's calls: a put and a delete (behind all: there is none) -/
structure Fit (g : List Hc) (en : Int) (pt er : Nat) (W E : Int) (B : List Nat) : Prop where
  le : W ≤ E
  ub : E ≤ never
  p : pt < g.length → (g.getD pt hc0).e.kind = 1 ∧ ((g.getD pt hc0).says = 0 ∨ (g.getD pt hc0).says = 1) ∧ (g.getD pt hc0).fr < W ∧ W ≤ (g.getD pt hc0).to ∧ (g.getD pt hc0).e.b.xs = B
  pn : g.length ≤ pt → en < W
  d : er < g.length → (g.getD er hc0).e.kind = 3 ∧ ((g.getD er hc0).says = 0 ∨ (g.getD er hc0).says = 1) ∧ (g.getD er hc0).fr < E ∧ E ≤ (g.getD er hc0).to
  dn : g.length ≤ er → en < E
  r : ∀ i, i < g.length → i ≠ pt → i ≠ er → Rst W E B (g.getD i hc0)
theorem rst_of_fits {X : List Hc} {pt er i : Nat} {wt et : Int} (h1 : i ≠ pt) (h2 : i ≠ er) (h : fitsP X pt er wt et i = true) : Rst wt et (X.getD pt hc0).e.b.xs (X.getD i hc0) := by
  unfold fitsP at h
  simp only [if_neg h1, if_neg h2] at h
  by_cases s0 : (X.getD i hc0).says = 0
  · exact Or.inl s0
  · have s0' : ((X.getD i hc0).says == 0) = false := by simpa using s0
    rw [s0'] at h
    by_cases s2 : (X.getD i hc0).says = 2
    · have s2' : ((X.getD i hc0).says == 2) = true := by simpa using s2
      rw [s2'] at h
      simp only [Bool.false_eq_true, if_false, if_true] at h
      rw [within_iff] at h
      exact Or.inr (Or.inl ⟨s2, h.2⟩)
    · have s2' : ((X.getD i hc0).says == 2) = false := by simpa using s2
      rw [s2'] at h
      by_cases s3 : (X.getD i hc0).says = 3
      · have s3' : ((X.getD i hc0).says == 3) = true := by simpa using s3
        rw [s3'] at h
        simp only [Bool.false_eq_true, if_false, if_true, Bool.or_eq_true] at h
        rw [within_iff, within_iff] at h
        rcases h with q | q
        · exact Or.inr (Or.inr (Or.inl ⟨s3, Or.inl q.1⟩))
        · exact Or.inr (Or.inr (Or.inl ⟨s3, Or.inr q.2⟩))
      · have s3' : ((X.getD i hc0).says == 3) = false := by simpa using s3
        rw [s3'] at h
        simp only [Bool.false_eq_true, if_false] at h
        by_cases r : readsP (X.getD i hc0) = true
        · rw [if_pos r, Bool.and_eq_true, within_iff, decide_eq_true_eq] at h
          exact Or.inr (Or.inr (Or.inr ⟨r, h.1.1, h.1.2, h.2⟩))
        · rw [if_neg r] at h
          cases h
theorem pick_kind {X : List Hc} {kd : Int} {M : Hc → Bool} (h : 0 ≤ pickP X kd M) : (X.getD (pickP X kd M).toNat hc0).e.kind = kd ∧ ((X.getD (pickP X kd M).toNat hc0).says = 0 ∨ (X.getD (pickP X kd M).toNat hc0).says = 1) := by
  unfold pickP at h ⊢
  split
  · rename_i h0
    have := (fidx_spec h0).2.1
    unfold isTold at this
    rw [Bool.and_eq_true, beq_iff_eq, beq_iff_eq] at this
    exact ⟨this.1, Or.inr this.2⟩
  · rename_i h0
    rw [if_neg h0] at h
    have := mayE_iff.1 (fidx_spec h).2.1
    exact ⟨this.1.1, Or.inl this.1.2⟩
theorem Rst.bytes {W E : Int} {B B' : List Nat} {c : Hc} (h : Rst W E B c) (hb : readsP c = true → B = B') : Rst W E B' c := by
  rcases h with q | q | q | q
  · exact Or.inl q
  · exact Or.inr (Or.inl q)
  · exact Or.inr (Or.inr (Or.inl q))
  · exact Or.inr (Or.inr (Or.inr ⟨q.1, q.2.1, q.2.2.1, by rw [q.2.2.2]; exact hb q.1⟩))
theorem reads_kind {c : Hc} (h : readsP c = true) : c.e.kind = 2 ∧ c.says = 1 := by
  unfold readsP at h
  rw [Bool.and_eq_true, beq_iff_eq, beq_iff_eq] at h
  exact h
/-- a key's calls are right just if some times fit -/
theorem right_iff {g : List Hc} {en : Int} (hw : Wfg g en) (he : 0 ≤ en ∧ en ≤ 1000) : rightP g en = true ↔ ∃ pt er W E B, Fit g en pt er W E B := by
  have hW := hw.wfc he
  have hX := fun i (hi : i < (extC g en).length) => hW.sz _ (getD_mem hi)
  have hl := ext_len g en
  constructor
  · intro h
    unfold rightP at h
    rw [List.all_eq_true] at h
    have hP := putI_lt g en
    have hD := delI_lt g en
    have kP : ((extC g en).getD (putI g en) hc0).e.kind = 1 ∧ (((extC g en).getD (putI g en) hc0).says = 0 ∨ ((extC g en).getD (putI g en) hc0).says = 1) := by
      have := pick_kind (X := extC g en) (kd := 1) (M := mayP (fidx g readsP) (readB g).xs) (by rw [← hP.2]; omega)
      exact this
    have kD : ((extC g en).getD (delI g en) hc0).e.kind = 3 ∧ (((extC g en).getD (delI g en) hc0).says = 0 ∨ ((extC g en).getD (delI g en) hc0).says = 1) := by
      have := pick_kind (X := extC g en) (kd := 3) (M := fun _ => true) (by rw [← hD.2]; omega)
      exact this
    have hle : writtenP (extC g en) (putI g en) (delI g en) ≤ erasedP (extC g en) (putI g en) (delI g en) := by unfold writtenP; omega
    obtain ⟨P, hPe⟩ : ∃ P, P = putI g en := ⟨_, rfl⟩
    obtain ⟨D, hDe⟩ : ∃ D, D = delI g en := ⟨_, rfl⟩
    rw [← hPe, ← hDe] at h hle
    rw [← hPe] at hP kP
    rw [← hDe] at hD kD
    obtain ⟨W, hWe⟩ : ∃ W, W = writtenP (extC g en) P D := ⟨_, rfl⟩
    obtain ⟨E, hEe⟩ : ∃ E, E = erasedP (extC g en) P D := ⟨_, rfl⟩
    rw [← hWe, ← hEe] at h hle
    have hne : D ≠ P := fun e => by have h1 := kP.1; have h2 := kD.1; rw [e, h1] at h2; exact absurd h2 (by decide)
    have fP := h P (List.mem_range.2 hP.1)
    unfold fitsP at fP
    simp only [if_true] at fP
    rw [within_iff] at fP
    have fD := h D (List.mem_range.2 hD.1)
    unfold fitsP at fD
    simp only [if_neg hne, if_true] at fD
    rw [within_iff] at fD
    have dummy : ∀ i, g.length ≤ i → i < (extC g en).length → ((extC g en).getD i hc0).fr = en := fun i h1 h2 => by
      rcases Nat.lt_or_ge g.length i with r | r
      · have : i = g.length + 1 := by omega
        subst this
        rw [ext_del]; rfl
      · have : i = g.length := by omega
        subst this
        rw [ext_put]; rfl
    refine ⟨P, D, W, E, ((extC g en).getD P hc0).e.b.xs, hle, ?_, fun hp => ?_, fun hp => ?_, fun hd => ?_, fun hd => ?_, fun i hi h1 h2 => ?_⟩
    · have := hX D hD.1; omega
    · rw [ext_get hp] at kP fP ⊢; exact ⟨kP.1, kP.2, fP.1, fP.2, rfl⟩
    · have := dummy P hp hP.1; omega
    · rw [ext_get hd] at kD fD; exact ⟨kD.1, kD.2, fD.1, fD.2⟩
    · have := dummy D hd hD.1; omega
    · have := rst_of_fits h1 h2 (h i (List.mem_range.2 (by omega)))
      rw [ext_get hi] at this
      exact this
  · rintro ⟨pt, er, W, E, B, f⟩
    have hrb : ∀ i, i < g.length → readsP (g.getD i hc0) = true → (g.getD i hc0).g.xs = B := fun i hi hr => by
      have hk := reads_kind hr
      have n1 : i ≠ pt := fun e => by subst e; have := (f.p hi).1; omega
      have n2 : i ≠ er := fun e => by subst e; have := (f.d hi).1; omega
      rcases f.r i hi n1 n2 with q | q | q | q
      · omega
      · omega
      · omega
      · exact q.2.2.2
    have hrB : ∀ c ∈ g, readsP c = true → B = (readB g).xs := fun c hc hr => by
      have h0 := (fidx_has hc hr).1
      obtain ⟨h1, h2, _⟩ := fidx_spec h0
      unfold readB
      rw [if_pos h0]
      exact (hrb _ h1 h2).symm
    obtain ⟨P, hP⟩ : ∃ P, P = if pt < g.length then pt else g.length := ⟨_, rfl⟩
    obtain ⟨D, hD⟩ : ∃ D, D = if er < g.length then er else g.length + 1 := ⟨_, rfl⟩
    have cP : (pt < g.length ∧ P = pt) ∨ (g.length ≤ pt ∧ P = g.length) := by
      by_cases q : pt < g.length
      · rw [if_pos q] at hP; exact Or.inl ⟨q, hP⟩
      · rw [if_neg q] at hP; exact Or.inr ⟨by omega, hP⟩
    have cD : (er < g.length ∧ D = er) ∨ (g.length ≤ er ∧ D = g.length + 1) := by
      by_cases q : er < g.length
      · rw [if_pos q] at hD; exact Or.inl ⟨q, hD⟩
      · rw [if_neg q] at hD; exact Or.inr ⟨by omega, hD⟩
    clear hP hD
    have kP : ((extC g en).getD P hc0).e.kind = 1 ∧ (((extC g en).getD P hc0).says = 0 ∨ ((extC g en).getD P hc0).says = 1) ∧ ((extC g en).getD P hc0).fr < W ∧ W ≤ ((extC g en).getD P hc0).to := by
      rcases cP with ⟨q, rfl⟩ | ⟨q, rfl⟩
      · rw [ext_get q]; have := f.p q; exact ⟨this.1, this.2.1, this.2.2.1, this.2.2.2.1⟩
      · rw [ext_put]; have := f.pn q; have := f.le; have := f.ub; exact ⟨rfl, Or.inl rfl, by show en < W; omega, by show W ≤ never; omega⟩
    have kD : ((extC g en).getD D hc0).e.kind = 3 ∧ (((extC g en).getD D hc0).says = 0 ∨ ((extC g en).getD D hc0).says = 1) ∧ ((extC g en).getD D hc0).fr < E ∧ E ≤ ((extC g en).getD D hc0).to := by
      rcases cD with ⟨q, rfl⟩ | ⟨q, rfl⟩
      · rw [ext_get q]; exact f.d q
      · rw [ext_del]; have := f.dn q; have := f.ub; exact ⟨rfl, Or.inl rfl, by show en < E; omega, by show E ≤ never; omega⟩
    have hne : D ≠ P := fun e => by have h1 := kP.1; have h2 := kD.1; rw [e, h1] at h2; exact absurd h2 (by decide)
    refine best_fits g en hW P D W E ⟨by omega, kP.1, kP.2.1, by omega, kD.1, kD.2.1, f.le, fun i hi => ?_⟩
    by_cases e1 : i = P
    · subst e1
      unfold fitsP
      dsimp only
      rw [if_pos rfl, within_iff]
      exact ⟨kP.2.2.1, kP.2.2.2⟩
    · by_cases e2 : i = D
      · subst e2
        unfold fitsP
        dsimp only
        rw [if_neg e1, if_pos rfl, within_iff]
        exact ⟨kD.2.2.1, kD.2.2.2⟩
      · refine fits_rst e1 e2 (hX i hi) ?_
        rcases Nat.lt_or_ge i g.length with q | q
        · rw [ext_get q]
          refine (f.r i q (by omega) (by omega)).bytes (fun hr => ?_)
          rcases cP with ⟨q2, rfl⟩ | ⟨q2, rfl⟩
          · rw [ext_get q2]; exact ((f.p q2).2.2.2.2).symm
          · rw [ext_put]; exact hrB _ (getD_mem q) hr
        · left
          rcases Nat.lt_or_ge g.length i with r | r
          · have : i = g.length + 1 := by omega
            subst this
            rw [ext_del]; rfl
          · have : i = g.length := by omega
            subst this
            rw [ext_put]; rfl
theorem right_nil (en : Int) (he : 0 ≤ en ∧ en ≤ 1000) : rightP [] en = true := (Kst.nil en []).right he
/-- a journal is right just if each key's calls are -/
theorem chk_iff {es : List Ev} {cs : List Hc} (h : rd es = some cs) (hl : es.length ≤ 900) : chk es = true ↔ ∀ k, rightP (grpOf cs k) es.length = true := by
  unfold chk
  rw [h]
  dsimp only
  rw [List.all_eq_true]
  have hG := byK_grp cs
  constructor
  · intro ha k
    cases hk : keyI (byK cs) k with
    | none => rw [hG.a k hk]; exact right_nil _ (by omega)
    | some i =>
      have hil := keyI_lt hk
      have hgm : (byK cs)[i] ∈ byK cs := List.getElem_mem hil
      have hkey : (byK cs)[i].1.data.toList = k := by
        unfold keyI at hk
        rw [List.findIdx?_eq_some_iff_getElem] at hk
        obtain ⟨h1, h2, _⟩ := hk
        simpa using h2
      have := ha _ hgm
      rw [hG.g _ hgm, hkey] at this
      exact this
  · intro ha g hg
    rw [hG.g g hg]
    exact ha _
/-- calls behind some lines, and behind one more -/
def Lep (c c' : Hc) : Prop := c'.e = c.e ∧ c'.fr = c.fr ∧ (c' = c ∨ (c.says = 0 ∧ c.to = never))
def Lrow : List Hc → List Hc → Prop
  | [], [] => True
  | a :: l, b :: m => Lep a b ∧ Lrow l m
  | _, _ => False
theorem Lep.refl (c : Hc) : Lep c c := ⟨rfl, rfl, Or.inl rfl⟩
theorem Lrow.refl : ∀ l : List Hc, Lrow l l
  | [] => trivial
  | a :: l => ⟨Lep.refl a, Lrow.refl l⟩
theorem Lrow.set : ∀ (l : List Hc) (i : Nat) (c : Hc), Lep (l.getD i hc0) c → Lrow l (l.set i c)
  | [], i, c, _ => trivial
  | a :: l, 0, c, h => ⟨h, Lrow.refl l⟩
  | a :: l, i + 1, c, h => ⟨Lep.refl a, Lrow.set l i c (by simpa using h)⟩
theorem Lrow.grp (k : List UInt8) : ∀ {l m : List Hc}, Lrow l m → Lrow (grpOf l k) (grpOf m k)
  | [], [], _ => trivial
  | a :: l, b :: m, h => by
    have ih := Lrow.grp k h.2
    unfold grpOf at ih ⊢
    rw [List.filter_cons, List.filter_cons, h.1.1]
    split
    · exact ⟨h.1, ih⟩
    · exact ih
theorem Lrow.get : ∀ {l m : List Hc}, Lrow l m → l.length = m.length ∧ ∀ i, i < l.length → Lep (l.getD i hc0) (m.getD i hc0)
  | [], [], _ => ⟨rfl, fun i hi => absurd hi (Nat.not_lt_zero _)⟩
  | a :: l, b :: m, h => by
    obtain ⟨h1, h2⟩ := Lrow.get h.2
    refine ⟨by simp [h1], fun i hi => ?_⟩
    cases i with
    | zero => exact h.1
    | succ i => simpa using h2 i (by simpa using hi)
/-- times that fit behind one more line fit, or earlier ones do -/
theorem Fit.less {g g' : List Hc} {L : Int} {pt er : Nat} {W E : Int} {B : List Nat} (f : Fit g' (L + 1) pt er W E B) (hw : Wfg g L) (hn : L ≤ 1000)
    (h1 : g.length ≤ g'.length) (h2 : ∀ i, i < g.length → Lep (g.getD i hc0) (g'.getD i hc0)) (h3 : ∀ i, g.length ≤ i → i < g'.length → L ≤ (g'.getD i hc0).fr) : Fit g L pt er (min W (L + 1)) (min E (L + 1)) B := by
  have hle := f.le
  have hub := f.ub
  refine ⟨by omega, by unfold never; omega, fun hp => ?_, fun hp => ?_, fun hd => ?_, fun hd => ?_, fun i hi n1 n2 => ?_⟩
  · obtain ⟨q1, q2, q3⟩ := h2 pt hp
    have := f.p (by omega)
    rw [q1, q2] at this
    have hz := hw.sz _ (getD_mem hp)
    refine ⟨this.1, ?_, by omega, ?_, this.2.2.2.2⟩
    · rcases q3 with q | q
      · rw [q] at this; exact this.2.1
      · exact Or.inl q.1
    · rcases q3 with q | q
      · rw [q] at this; omega
      · omega
  · rcases Nat.lt_or_ge pt g'.length with q | q
    · have := f.p q
      have := h3 pt hp q
      omega
    · have := f.pn q; omega
  · obtain ⟨q1, q2, q3⟩ := h2 er hd
    have := f.d (by omega)
    rw [q1, q2] at this
    have hz := hw.sz _ (getD_mem hd)
    refine ⟨this.1, ?_, by omega, ?_⟩
    · rcases q3 with q | q
      · rw [q] at this; exact this.2.1
      · exact Or.inl q.1
    · rcases q3 with q | q
      · rw [q] at this; omega
      · omega
  · rcases Nat.lt_or_ge er g'.length with q | q
    · have := f.d q
      have := h3 er hd q
      omega
    · have := f.dn q; omega
  · obtain ⟨q1, q2, q3⟩ := h2 i hi
    have hz := hw.sz _ (getD_mem hi)
    rcases q3 with q | q
    · have := f.r i (by omega) n1 n2
      rw [q] at this
      rcases this with r | r | r | r
      · exact Or.inl r
      · exact Or.inr (Or.inl ⟨r.1, by omega⟩)
      · exact Or.inr (Or.inr (Or.inl ⟨r.1, by omega⟩))
      · exact Or.inr (Or.inr (Or.inr ⟨r.1, by omega, by omega, r.2.2.2⟩))
    · exact Or.inl q.1
theorem rd_less {es : List Ev} {e : Ev} {cs' : List Hc} (h : rd (es ++ [e]) = some cs') : ∃ cs, rd es = some cs ∧ stp cs es.length e = some cs' := by
  rw [rd_snoc] at h
  cases hr : rd es with
  | none => rw [hr] at h; cases h
  | some cs => rw [hr] at h; exact ⟨cs, rfl, h⟩
theorem chk_rd {es : List Ev} (h : chk es = true) : ∃ cs, rd es = some cs := by
  unfold chk at h
  cases hr : rd es with
  | none => rw [hr] at h; cases h
  | some cs => exact ⟨cs, rfl⟩
/-- a right journal without its last line is right -/
theorem chk_less {es : List Ev} {e : Ev} (h : chk (es ++ [e]) = true) (hl : es.length ≤ 890) : chk es = true := by
  obtain ⟨cs', hr'⟩ := chk_rd h
  obtain ⟨cs, hr, hs⟩ := rd_less hr'
  have hlen : (es ++ [e]).length = es.length + 1 := by simp
  have hI := rd_inv hr (by omega)
  have hI' := rd_inv hr' (by omega)
  rw [hlen] at hI'
  have hall := (chk_iff hr' (by omega)).1 h
  rw [chk_iff hr (by omega)]
  intro k
  have hk := hall k
  rw [hlen] at hk
  have hen : ((es.length + 1 : Nat) : Int) = (es.length : Int) + 1 := by omega
  obtain ⟨pt, er, W, E, B, f⟩ := (right_iff (hI'.wfg (by omega) k) (by omega)).1 hk
  rw [hen] at f
  refine (right_iff (hI.wfg (by omega) k) (by omega)).2 ⟨pt, er, min W (es.length + 1), min E (es.length + 1), B, ?_⟩
  rcases stp_cases hs with ⟨_, _, hm, rfl⟩ | ⟨i, _, _, hi, hm, rfl⟩
  · rw [grpOf_snoc] at f
    have hw := hI.wfg (by omega) k
    split at f
    · refine f.less hw (by omega) (by simp) (fun i hi => by rw [sn_lt hi]; exact Lep.refl _) (fun i h1 h2 => ?_)
      rw [sn_len] at h2
      have : i = (grpOf cs k).length := by omega
      subst this
      rw [sn_eq]
      exact Int.le_refl _
    · exact f.less hw (by omega) (Nat.le_refl _) (fun i hi => Lep.refl _) (fun i h1 h2 => by omega)
  · have hrow : Lrow cs (cs.set i (hearP (cs.getD i hc0) e es.length)) := Lrow.set _ _ _ (by
      have hmem := getD_mem hi
      have h0 := hI.tl _ hmem (mayHear_kind hm).1
      exact ⟨hearP_e _ _ _, hear_fr _ _ _, Or.inr ⟨h0, hI.un _ hmem h0⟩⟩)
    obtain ⟨g1, g2⟩ := (hrow.grp k).get
    exact f.less (hI.wfg (by omega) k) (by omega) (by omega) g2 (fun i h1 h2 => by omega)
/-- a beginning of a right journal is right -/
theorem chk_take : ∀ (m : Nat) (es : List Ev) (n : Nat), es.length ≤ n + m → es.length ≤ 890 → chk es = true → chk (es.take n) = true
  | 0, es, n, h, _, hc => by rw [List.take_of_length_le (by omega)]; exact hc
  | m + 1, es, n, h, hl, hc => by
    rcases Nat.lt_or_ge n es.length with q | q
    · have hne : es ≠ [] := fun e => by subst e; simp at q
      have hs := List.dropLast_concat_getLast hne
      have h1 : chk es.dropLast = true := chk_less (e := es.getLast hne) (by rw [hs]; exact hc) (by rw [List.length_dropLast]; omega)
      have h2 := chk_take m es.dropLast n (by rw [List.length_dropLast]; omega) (by rw [List.length_dropLast]; omega) h1
      have h3 : es.dropLast.take n = es.take n := by rw [List.dropLast_eq_take, List.take_take, Nat.min_eq_left (by omega)]
      rw [h3] at h2
      exact h2
    · rw [List.take_of_length_le q]; exact hc
end Go.Proofs.Ytbbgplnenbkfeaa
