/- Journals of calls that are answered at once, as the map does, plain. -/
import Derived.Test.YtbbgplnenbkfeaaUy
namespace Go.Proofs.Ytbbgplnenbkfeaa
set_option linter.unusedVariables false
set_option linter.unusedSimpArgs false
open Go.RowKit Go.Deep Go.Maps

/-- the calls of a key -/
def grpOf (cs : List Hc) (k : List UInt8) : List Hc := cs.filter (fun c => c.e.key.data.toList == k)
theorem grpOf_snoc (cs : List Hc) (c : Hc) (k : List UInt8) : grpOf (cs ++ [c]) k = if c.e.key.data.toList = k then grpOf cs k ++ [c] else grpOf cs k := by
  unfold grpOf
  rw [List.filter_append]
  by_cases h : c.e.key.data.toList = k
  · rw [if_pos h]; simp [h]
  · rw [if_neg h]; simp [h]
structure Grp (cs : List Hc) (pg : List (ByteArray × List Hc)) : Prop where
  g : ∀ g ∈ pg, g.2 = grpOf cs g.1.data.toList
  d : ∀ (i j : Nat) (a b : ByteArray × List Hc), pg[i]? = some a → pg[j]? = some b → i ≠ j → a.1.data.toList ≠ b.1.data.toList
  a : ∀ k, keyI pg k = none → grpOf cs k = []
theorem Grp.step {cs : List Hc} {pg : List (ByteArray × List Hc)} (h : Grp cs pg) (c : Hc) : Grp (cs ++ [c]) (stepG pg c) := by
  unfold stepG
  cases hk : keyI pg c.e.key.data.toList with
  | some i =>
    dsimp only
    have hil := keyI_lt hk
    obtain ⟨gi, hgi⟩ : ∃ gi, pg[i]? = some gi := ⟨_, List.getElem?_eq_getElem hil⟩
    have hgd : pg.getD i (⟨#[]⟩, []) = gi := by rw [List.getD_eq_getElem?_getD, hgi]; rfl
    have hkey : gi.1.data.toList = c.e.key.data.toList := by
      unfold keyI at hk
      rw [List.findIdx?_eq_some_iff_getElem] at hk
      obtain ⟨h1, h2, _⟩ := hk
      have : pg[i] = gi := by rw [List.getElem?_eq_getElem h1] at hgi; exact Option.some.inj hgi
      rw [this] at h2
      simpa using h2
    rw [hgd]
    have hset : ∀ (j : Nat) (z : ByteArray × List Hc), (pg.set i (gi.1, gi.2 ++ [c]))[j]? = some z → (j = i ∧ z = (gi.1, gi.2 ++ [c])) ∨ (j ≠ i ∧ pg[j]? = some z) := fun j z hz => by
      by_cases e : j = i
      · subst e
        rw [List.getElem?_set_self hil] at hz
        exact Or.inl ⟨rfl, (Option.some.inj hz).symm⟩
      · rw [List.getElem?_set_ne (fun e2 => e e2.symm)] at hz
        exact Or.inr ⟨e, hz⟩
    refine ⟨fun g hg => ?_, fun j j' a b ha hb hne => ?_, fun k hn => ?_⟩
    · obtain ⟨j, hj⟩ := List.getElem?_of_mem hg
      rcases hset j g hj with ⟨_, rfl⟩ | ⟨e1, e2⟩
      · show gi.2 ++ [c] = _
        rw [grpOf_snoc, if_pos hkey.symm, h.g gi (List.mem_of_getElem? hgi)]
      · rw [grpOf_snoc, if_neg (fun e => h.d j i g gi e2 hgi e1 (by rw [hkey]; exact e.symm)), h.g g (List.mem_of_getElem? e2)]
    · rcases hset j a ha with ⟨e1, rfl⟩ | ⟨e1, e2⟩
      · rcases hset j' b hb with ⟨e3, rfl⟩ | ⟨e3, e4⟩
        · omega
        · exact h.d i j' gi b hgi e4 (fun e => e3 e.symm)
      · rcases hset j' b hb with ⟨e3, rfl⟩ | ⟨e3, e4⟩
        · exact h.d j i a gi e2 hgi e1
        · exact h.d j j' a b e2 e4 hne
    · have hT := keyT_set pg i (gi.1, gi.2 ++ [c]) (fun c' hc' => by rw [hgi] at hc'; cases hc'; rfl)
      have hn2 : keyI pg k = none := by
        have := congrFun hT k
        unfold keyT at this
        rw [hn] at this
        cases hq : keyI pg k with
        | none => rfl
        | some j => rw [hq] at this; cases this
      have hne : c.e.key.data.toList ≠ k := fun e => by rw [← e, hk] at hn2; cases hn2
      rw [grpOf_snoc, if_neg hne]
      exact h.a k hn2
  | none =>
    dsimp only
    have hno : ∀ g ∈ pg, g.1.data.toList ≠ c.e.key.data.toList := fun g hg e => by
      unfold keyI at hk
      rw [List.findIdx?_eq_none_iff] at hk
      have := hk g hg
      simp [e] at this
    refine ⟨fun g hg => ?_, fun i j a b ha hb hne => ?_, fun k hn => ?_⟩
    · rcases List.mem_append.1 hg with q | q
      · rw [grpOf_snoc, if_neg (fun e => hno g q e.symm), h.g g q]
      · rw [List.mem_singleton] at q; subst q
        show [c] = _
        rw [grpOf_snoc, if_pos rfl, h.a _ hk]; rfl
    · have at_ : ∀ (x : Nat) (z : ByteArray × List Hc), (pg ++ [(c.e.key, [c])])[x]? = some z → (x < pg.length ∧ pg[x]? = some z) ∨ (x = pg.length ∧ z = (c.e.key, [c])) := fun x z hz => by
        rcases Nat.lt_or_ge x pg.length with q | q
        · rw [List.getElem?_append_left q] at hz; exact Or.inl ⟨q, hz⟩
        · rw [List.getElem?_append_right q] at hz
          obtain ⟨h9, h8⟩ := List.getElem?_eq_some_iff.1 hz
          have h7 : x - pg.length = 0 := by simp at h9; omega
          simp [h7] at h8
          exact Or.inr ⟨by omega, h8.symm⟩
      rcases at_ i a ha with ⟨q1, q2⟩ | ⟨q1, rfl⟩
      · rcases at_ j b hb with ⟨r1, r2⟩ | ⟨r1, rfl⟩
        · exact h.d i j a b q2 r2 hne
        · exact hno a (List.mem_of_getElem? q2)
      · rcases at_ j b hb with ⟨r1, r2⟩ | ⟨r1, rfl⟩
        · exact fun e => hno b (List.mem_of_getElem? r2) e.symm
        · omega
    · unfold keyI at hn
      rw [List.findIdx?_append] at hn
      cases hq : pg.findIdx? (fun g => g.1.data.toList == k) with
      | some j => rw [hq] at hn; simp at hn
      | none =>
        have hne : c.e.key.data.toList ≠ k := fun e => by rw [hq] at hn; simp [e] at hn
        rw [grpOf_snoc, if_neg hne]
        exact h.a k hq
theorem byK_grp : ∀ (cs : List Hc), Grp cs (byK cs) := by
  have h : ∀ (l cs : List Hc) (pg : List (ByteArray × List Hc)), Grp cs pg → Grp (cs ++ l) (l.foldl stepG pg) := by
    intro l
    induction l with
    | nil => intro cs pg h; rw [List.append_nil]; exact h
    | cons x l ih =>
      intro cs pg h
      have := ih (cs ++ [x]) (stepG pg x) (h.step x)
      rw [List.append_assoc] at this
      exact this
  intro cs
  have := h cs [] [] ⟨fun g hg => (by cases hg), fun i j a b ha => (by simp at ha), fun k _ => rfl⟩
  rw [List.nil_append] at this
  exact this
/-- a call that is no put or delete with an effect -/
def Rst (W E : Int) (bs : List Nat) (c : Hc) : Prop := c.says = 0 ∨ (c.says = 2 ∧ W ≤ c.to) ∨ (c.says = 3 ∧ (c.fr < W ∨ E ≤ c.to)) ∨ (readsP c = true ∧ c.fr < E ∧ W ≤ c.to ∧ c.g.xs = bs)
theorem fits_rst {X : List Hc} {pt er i : Nat} {wt et : Int} (h1 : i ≠ pt) (h2 : i ≠ er) (hs : 0 ≤ (X.getD i hc0).fr ∧ (X.getD i hc0).fr ≤ 1000 ∧ (X.getD i hc0).fr < (X.getD i hc0).to ∧ (X.getD i hc0).to ≤ never) (h : Rst wt et (X.getD pt hc0).e.b.xs (X.getD i hc0)) : fitsP X pt er wt et i = true := by
  unfold fitsP
  dsimp only
  rw [if_neg h1, if_neg h2]
  rcases h with q | q | q | q
  · rw [q]; rfl
  · have s0 : ((X.getD i hc0).says == 0) = false := by rw [q.1]; rfl
    have s2 : ((X.getD i hc0).says == 2) = true := by rw [q.1]; rfl
    rw [s0, s2]
    simp only [Bool.false_eq_true, if_false, if_true]
    rw [within_iff]
    unfold never at hs ⊢
    omega
  · have s0 : ((X.getD i hc0).says == 0) = false := by rw [q.1]; rfl
    have s2 : ((X.getD i hc0).says == 2) = false := by rw [q.1]; rfl
    have s3 : ((X.getD i hc0).says == 3) = true := by rw [q.1]; rfl
    rw [s0, s2, s3]
    simp only [Bool.false_eq_true, if_false, if_true, Bool.or_eq_true]
    rw [within_iff, within_iff]
    unfold never at hs ⊢
    omega
  · have n3 : (X.getD i hc0).says = 1 := by
      have := q.1
      unfold readsP at this
      rw [Bool.and_eq_true, beq_iff_eq, beq_iff_eq] at this
      exact this.2
    have s0 : ((X.getD i hc0).says == 0) = false := by rw [n3]; rfl
    have s2 : ((X.getD i hc0).says == 2) = false := by rw [n3]; rfl
    have s3 : ((X.getD i hc0).says == 3) = false := by rw [n3]; rfl
    rw [s0, s2, s3]
    simp only [Bool.false_eq_true, if_false]
    rw [if_pos q.1, Bool.and_eq_true, within_iff, decide_eq_true_eq]
    exact ⟨⟨q.2.1, q.2.2.1⟩, q.2.2.2⟩
/-- what a key's calls are like, in each of its states, behind en lines -/
structure Kst (g : List Hc) (en z : Int) (b : List Nat) : Prop where
  inc : ∀ i j, i ≤ j → j < g.length → (g.getD i hc0).fr ≤ (g.getD j hc0).fr
  sz : ∀ c ∈ g, 0 ≤ c.fr ∧ c.fr < en ∧ c.fr < c.to ∧ c.to ≤ never
  un : ∀ c ∈ g, c.says = 0 → c.to = never
  st : (z = 0 ∧ ∀ c ∈ g, c.says = 0 ∨ c.says = 3) ∨
    (z = 1 ∧ ∃ (p : Nat) (W : Int), p < g.length ∧ (g.getD p hc0).e.kind = 1 ∧ ((g.getD p hc0).says = 0 ∨ (g.getD p hc0).says = 1) ∧ (g.getD p hc0).e.b.xs = b ∧ (g.getD p hc0).fr < W ∧ W ≤ (g.getD p hc0).to ∧ W ≤ en ∧ ∀ i, i < g.length → i ≠ p → Rst W (en + 1) b (g.getD i hc0) ∧ ((g.getD i hc0).says = 3 → (g.getD i hc0).fr < W)) ∨
    (z = 2 ∧ ∃ (p d : Nat) (W E : Int) (bs : List Nat), p < g.length ∧ (g.getD p hc0).e.kind = 1 ∧ ((g.getD p hc0).says = 0 ∨ (g.getD p hc0).says = 1) ∧ (g.getD p hc0).e.b.xs = bs ∧ (g.getD p hc0).fr < W ∧ W ≤ (g.getD p hc0).to ∧
      d < g.length ∧ (g.getD d hc0).e.kind = 3 ∧ ((g.getD d hc0).says = 0 ∨ (g.getD d hc0).says = 1) ∧ (g.getD d hc0).fr < E ∧ E ≤ (g.getD d hc0).to ∧ W ≤ E ∧ E ≤ en ∧ ∀ i, i < g.length → i ≠ p → i ≠ d → Rst W E bs (g.getD i hc0))
theorem ext_get {g : List Hc} {en : Int} {i : Nat} (h : i < g.length) : (extC g en).getD i hc0 = g.getD i hc0 := by
  unfold extC
  rw [List.getD_eq_getElem?_getD, List.getD_eq_getElem?_getD, List.getElem?_append_left h]
theorem ext_put (g : List Hc) (en : Int) : (extC g en).getD g.length hc0 = endC 1 en (readB g) := by
  unfold extC
  rw [List.getD_eq_getElem?_getD, List.getElem?_append_right (Nat.le_refl _), Nat.sub_self]; rfl
theorem ext_del (g : List Hc) (en : Int) : (extC g en).getD (g.length + 1) hc0 = endC 3 en by0 := by
  unfold extC
  rw [List.getD_eq_getElem?_getD, List.getElem?_append_right (by omega), Nat.add_sub_cancel_left]; rfl
theorem ext_len (g : List Hc) (en : Int) : (extC g en).length = g.length + 2 := by unfold extC; rw [List.length_append]; rfl
theorem Kst.wfc {g : List Hc} {en z : Int} {b : List Nat} (h : Kst g en z b) (he : 0 ≤ en ∧ en ≤ 1000) : Wfc (extC g en) := by
  have hall : ∀ c ∈ extC g en, (c ∈ g) ∨ c = endC 1 en (readB g) ∨ c = endC 3 en by0 := fun c hc => by
    unfold extC at hc
    rcases List.mem_append.1 hc with q | q
    · exact Or.inl q
    · simp at q; exact Or.inr q
  have hcase : ∀ i, i < (extC g en).length → (i < g.length ∧ (extC g en).getD i hc0 = g.getD i hc0) ∨ (g.length ≤ i ∧ ((extC g en).getD i hc0).fr = en) := fun i hi => by
    rw [ext_len] at hi
    rcases Nat.lt_or_ge i g.length with q | q
    · exact Or.inl ⟨q, ext_get q⟩
    · right
      refine ⟨q, ?_⟩
      rcases Nat.lt_or_ge g.length i with r | r
      · have : i = g.length + 1 := by omega
        subst this
        rw [ext_del]; rfl
      · have : i = g.length := by omega
        subst this
        rw [ext_put]; rfl
  refine ⟨fun i j hij hj => ?_, fun c hc => ?_, fun c hc hs => ?_⟩
  · rcases hcase j hj with ⟨q1, q2⟩ | ⟨q1, q2⟩
    · rw [q2, ext_get (by omega)]; exact h.inc i j hij q1
    · rw [q2]
      rcases hcase i (by omega) with ⟨r1, r2⟩ | ⟨r1, r2⟩
      · rw [r2]; have := (h.sz _ (getD_mem r1)).2.1; omega
      · rw [r2]; exact Int.le_refl _
  · rcases hall c hc with q | rfl | rfl
    · have := h.sz c q; exact ⟨this.1, by omega, this.2.2.1, this.2.2.2⟩
    · exact ⟨he.1, he.2, by show en < never; unfold never; omega, Int.le_refl _⟩
    · exact ⟨he.1, he.2, by show en < never; unfold never; omega, Int.le_refl _⟩
  · rcases hall c hc with q | rfl | rfl
    · exact h.un c q hs
    · rfl
    · rfl
theorem Kst.right {g : List Hc} {en z : Int} {b : List Nat} (h : Kst g en z b) (he : 0 ≤ en ∧ en ≤ 1000) : rightP g en = true := by
  have hW := h.wfc he
  have hX := fun i (hi : i < (extC g en).length) => hW.sz _ (getD_mem hi)
  have hl := ext_len g en
  rcases h.st with ⟨_, h0⟩ | ⟨_, p, W, p1, p2, p3, p4, p5, p6, p7, p8⟩ | ⟨_, p, d, W, E, bs, p1, p2, p3, p4, p5, p6, d1, d2, d3, d4, d5, w1, w2, p8⟩
  · refine best_fits g en hW g.length (g.length + 1) (en + 1) (en + 1) ⟨by omega, by rw [ext_put]; rfl, Or.inl (by rw [ext_put]; rfl), by omega, by rw [ext_del]; rfl, Or.inl (by rw [ext_del]; rfl), Int.le_refl _, fun i hi => ?_⟩
    by_cases e1 : i = g.length
    · subst e1
      unfold fitsP
      dsimp only
      rw [if_pos rfl, within_iff, ext_put]
      show en < en + 1 ∧ en + 1 ≤ never
      unfold never; omega
    · by_cases e2 : i = g.length + 1
      · subst e2
        unfold fitsP
        dsimp only
        rw [if_neg e1, if_pos rfl, within_iff, ext_del]
        show en < en + 1 ∧ en + 1 ≤ never
        unfold never; omega
      · have hi2 : i < g.length := by omega
        refine fits_rst e1 e2 (hX i hi) ?_
        rw [ext_get hi2]
        have hs := h.sz _ (getD_mem hi2)
        rcases h0 _ (getD_mem hi2) with q | q
        · exact Or.inl q
        · exact Or.inr (Or.inr (Or.inl ⟨q, Or.inl (by omega)⟩))
  · have np : p ≠ g.length + 1 := by omega
    refine best_fits g en hW p (g.length + 1) W (en + 1) ⟨by omega, by rw [ext_get p1]; exact p2, by rw [ext_get p1]; exact p3, by omega, by rw [ext_del]; rfl, Or.inl (by rw [ext_del]; rfl), by omega, fun i hi => ?_⟩
    by_cases e1 : i = p
    · subst e1
      unfold fitsP
      dsimp only
      rw [if_pos rfl, within_iff, ext_get p1]
      exact ⟨p5, p6⟩
    · by_cases e2 : i = g.length + 1
      · subst e2
        unfold fitsP
        dsimp only
        rw [if_neg e1, if_pos rfl, within_iff, ext_del]
        show en < en + 1 ∧ en + 1 ≤ never
        unfold never; omega
      · refine fits_rst e1 e2 (hX i hi) ?_
        rw [ext_get p1, p4]
        by_cases e3 : i = g.length
        · subst e3; rw [ext_put]; exact Or.inl rfl
        · have hi2 : i < g.length := by omega
          rw [ext_get hi2]
          exact (p8 i hi2 e1).1
  · refine best_fits g en hW p d W E ⟨by omega, by rw [ext_get p1]; exact p2, by rw [ext_get p1]; exact p3, by omega, by rw [ext_get d1]; exact d2, by rw [ext_get d1]; exact d3, w1, fun i hi => ?_⟩
    have hpd : d ≠ p := fun e => by rw [e, p2] at d2; exact absurd d2 (by decide)
    by_cases e1 : i = p
    · subst e1
      unfold fitsP
      dsimp only
      rw [if_pos rfl, within_iff, ext_get p1]
      exact ⟨p5, p6⟩
    · by_cases e2 : i = d
      · subst e2
        unfold fitsP
        dsimp only
        rw [if_neg e1, if_pos rfl, within_iff, ext_get d1]
        exact ⟨d4, d5⟩
      · refine fits_rst e1 e2 (hX i hi) ?_
        rw [ext_get p1, p4]
        rcases Nat.lt_or_ge i g.length with q | q
        · rw [ext_get q]; exact p8 i q e1 e2
        · left
          rcases Nat.lt_or_ge g.length i with r | r
          · have : i = g.length + 1 := by omega
            subst this
            rw [ext_del]; rfl
          · have : i = g.length := by omega
            subst this
            rw [ext_put]; rfl
theorem sn_lt {g : List Hc} {c : Hc} {i : Nat} (h : i < g.length) : (g ++ [c]).getD i hc0 = g.getD i hc0 := by
  rw [List.getD_eq_getElem?_getD, List.getD_eq_getElem?_getD, List.getElem?_append_left h]
theorem sn_eq {g : List Hc} {c : Hc} : (g ++ [c]).getD g.length hc0 = c := by
  rw [List.getD_eq_getElem?_getD, List.getElem?_append_right (Nat.le_refl _), Nat.sub_self]; rfl
theorem sn_len {g : List Hc} {c : Hc} : (g ++ [c]).length = g.length + 1 := by simp
theorem Kst.nil (en : Int) (b : List Nat) : Kst [] en 0 b := ⟨fun i j _ h => absurd h (Nat.not_lt_zero _), fun c h => (by cases h), fun c h => (by cases h), Or.inl ⟨rfl, fun c h => (by cases h)⟩⟩
theorem Rst.mono {W E E' : Int} {bs : List Nat} {c : Hc} (h : Rst W E bs c) (he : E ≤ E') (h3 : c.says = 3 → c.fr < W) : Rst W E' bs c := by
  rcases h with q | q | q | q
  · exact Or.inl q
  · exact Or.inr (Or.inl q)
  · exact Or.inr (Or.inr (Or.inl ⟨q.1, Or.inl (h3 q.1)⟩))
  · exact Or.inr (Or.inr (Or.inr ⟨q.1, by omega, q.2.2⟩))
/-- more lines, of other keys -/
theorem Kst.later {g : List Hc} {en en' z : Int} {b : List Nat} (h : Kst g en z b) (he : en ≤ en') : Kst g en' z b := by
  refine ⟨h.inc, fun c hc => by have := h.sz c hc; exact ⟨this.1, by omega, this.2.2⟩, h.un, ?_⟩
  rcases h.st with q | ⟨q, p, W, p1, p2, p3, p4, p5, p6, p7, p8⟩ | ⟨q, p, d, W, E, bs, p1, p2, p3, p4, p5, p6, d1, d2, d3, d4, d5, w1, w2, p8⟩
  · exact Or.inl q
  · exact Or.inr (Or.inl ⟨q, p, W, p1, p2, p3, p4, p5, p6, by omega, fun i hi hne => ⟨(p8 i hi hne).1.mono (by omega) (p8 i hi hne).2, (p8 i hi hne).2⟩⟩)
  · exact Or.inr (Or.inr ⟨q, p, d, W, E, bs, p1, p2, p3, p4, p5, p6, d1, d2, d3, d4, d5, w1, by omega, p8⟩)
/-- a new call's times -/
structure Nw (c : Hc) (L : Int) : Prop where
  fr : c.fr = L
  ge : 0 ≤ L
  to : L + 1 ≤ c.to ∧ c.to ≤ never
  un : c.says = 0 → c.to = never
theorem Kst.sn0 {g : List Hc} {L z : Int} {b : List Nat} {c : Hc} (h : Kst g L z b) (n : Nw c L) : (∀ i j, i ≤ j → j < (g ++ [c]).length → ((g ++ [c]).getD i hc0).fr ≤ ((g ++ [c]).getD j hc0).fr) ∧ (∀ d ∈ g ++ [c], 0 ≤ d.fr ∧ d.fr < L + 1 ∧ d.fr < d.to ∧ d.to ≤ never) ∧ ∀ d ∈ g ++ [c], d.says = 0 → d.to = never := by
  refine ⟨fun i j hij hj => ?_, fun d hd => ?_, fun d hd hs => ?_⟩
  · rw [sn_len] at hj
    rcases Nat.lt_or_ge j g.length with q | q
    · rw [sn_lt q, sn_lt (by omega)]; exact h.inc i j hij q
    · have : j = g.length := by omega
      subst this
      rw [sn_eq, n.fr]
      rcases Nat.lt_or_ge i g.length with r | r
      · rw [sn_lt r]; have := (h.sz _ (getD_mem r)).2.1; omega
      · have : i = g.length := by omega
        subst this
        rw [sn_eq, n.fr]; exact Int.le_refl _
  · rcases List.mem_append.1 hd with q | q
    · have := h.sz d q; exact ⟨this.1, by omega, this.2.2⟩
    · rw [List.mem_singleton] at q; subst q
      have := n.fr; have := n.ge; have := n.to
      exact ⟨by omega, by omega, by omega, by omega⟩
  · rcases List.mem_append.1 hd with q | q
    · exact h.un d q hs
    · rw [List.mem_singleton] at q; subst q; exact n.un hs
/-- a call without an effect -/
theorem Kst.same {g : List Hc} {L z : Int} {b : List Nat} {c : Hc} (h : Kst g L z b) (n : Nw c L) (h0 : z = 0 → c.says = 0 ∨ c.says = 3) (h1 : z = 1 → c.says = 0 ∨ c.says = 2 ∨ (readsP c = true ∧ c.g.xs = b)) (h2 : z = 2 → c.says = 0 ∨ c.says = 2 ∨ c.says = 3) : Kst (g ++ [c]) (L + 1) z b := by
  obtain ⟨s1, s2, s3⟩ := h.sn0 n
  refine ⟨s1, s2, s3, ?_⟩
  have hfr := n.fr
  have hto := n.to
  have hrs : readsP c = true → c.says = 1 := fun hr => by unfold readsP at hr; rw [Bool.and_eq_true, beq_iff_eq, beq_iff_eq] at hr; exact hr.2
  rcases h.st with ⟨q, q2⟩ | ⟨q, p, W, p1, p2, p3, p4, p5, p6, p7, p8⟩ | ⟨q, p, d, W, E, bs, p1, p2, p3, p4, p5, p6, d1, d2, d3, d4, d5, w1, w2, p8⟩
  · refine Or.inl ⟨q, fun d hd => ?_⟩
    rcases List.mem_append.1 hd with r | r
    · exact q2 d r
    · rw [List.mem_singleton] at r; subst r; exact h0 q
  · refine Or.inr (Or.inl ⟨q, p, W, by rw [sn_len]; omega, by rw [sn_lt p1]; exact p2, by rw [sn_lt p1]; exact p3, by rw [sn_lt p1]; exact p4, by rw [sn_lt p1]; exact p5, by rw [sn_lt p1]; exact p6, by omega, fun i hi hne => ?_⟩)
    rw [sn_len] at hi
    rcases Nat.lt_or_ge i g.length with r | r
    · rw [sn_lt r]
      exact ⟨(p8 i r hne).1.mono (by omega) (p8 i r hne).2, (p8 i r hne).2⟩
    · have : i = g.length := by omega
      subst this
      rw [sn_eq]
      rcases h1 q with e | e | e
      · exact ⟨Or.inl e, fun e2 => by omega⟩
      · exact ⟨Or.inr (Or.inl ⟨e, by omega⟩), fun e2 => by omega⟩
      · have := hrs e.1
        exact ⟨Or.inr (Or.inr (Or.inr ⟨e.1, by omega, by omega, e.2⟩)), fun e2 => by omega⟩
  · refine Or.inr (Or.inr ⟨q, p, d, W, E, bs, by rw [sn_len]; omega, by rw [sn_lt p1]; exact p2, by rw [sn_lt p1]; exact p3, by rw [sn_lt p1]; exact p4, by rw [sn_lt p1]; exact p5, by rw [sn_lt p1]; exact p6, by rw [sn_len]; omega, by rw [sn_lt d1]; exact d2, by rw [sn_lt d1]; exact d3, by rw [sn_lt d1]; exact d4, by rw [sn_lt d1]; exact d5, w1, by omega, fun i hi hne hne2 => ?_⟩)
    rw [sn_len] at hi
    rcases Nat.lt_or_ge i g.length with r | r
    · rw [sn_lt r]; exact p8 i r hne hne2
    · have : i = g.length := by omega
      subst this
      rw [sn_eq]
      rcases h2 q with e | e | e
      · exact Or.inl e
      · exact Or.inr (Or.inl ⟨e, by omega⟩)
      · exact Or.inr (Or.inr (Or.inl ⟨e, Or.inr (by omega)⟩))
/-- a put with an effect -/
theorem Kst.write {g : List Hc} {L : Int} {b b' : List Nat} {c : Hc} (h : Kst g L 0 b) (n : Nw c L) (hk : c.e.kind = 1) (hs : c.says = 0 ∨ c.says = 1) (hb : c.e.b.xs = b') : Kst (g ++ [c]) (L + 1) 1 b' := by
  obtain ⟨s1, s2, s3⟩ := h.sn0 n
  refine ⟨s1, s2, s3, Or.inr (Or.inl ⟨rfl, g.length, L + 1, by rw [sn_len]; omega, by rw [sn_eq]; exact hk, by rw [sn_eq]; exact hs, by rw [sn_eq]; exact hb, by rw [sn_eq, n.fr]; omega, by rw [sn_eq]; exact n.to.1, Int.le_refl _, fun i hi hne => ?_⟩)⟩
  rw [sn_len] at hi
  have r : i < g.length := by omega
  rw [sn_lt r]
  have hz := h.sz _ (getD_mem r)
  rcases h.st with ⟨_, q2⟩ | ⟨q, _⟩ | ⟨q, _⟩
  · rcases q2 _ (getD_mem r) with e | e
    · exact ⟨Or.inl e, fun e2 => by omega⟩
    · exact ⟨Or.inr (Or.inr (Or.inl ⟨e, Or.inl (by omega)⟩)), fun _ => by omega⟩
  · exact absurd q (by decide)
  · exact absurd q (by decide)
/-- a delete with an effect -/
theorem Kst.erase {g : List Hc} {L : Int} {b b' : List Nat} {c : Hc} (h : Kst g L 1 b) (n : Nw c L) (hk : c.e.kind = 3) (hs : c.says = 0 ∨ c.says = 1) : Kst (g ++ [c]) (L + 1) 2 b' := by
  obtain ⟨s1, s2, s3⟩ := h.sn0 n
  refine ⟨s1, s2, s3, ?_⟩
  rcases h.st with ⟨q, _⟩ | ⟨q, p, W, p1, p2, p3, p4, p5, p6, p7, p8⟩ | ⟨q, _⟩
  · exact absurd q (by decide)
  · refine Or.inr (Or.inr ⟨rfl, p, g.length, W, L + 1, b, by rw [sn_len]; omega, by rw [sn_lt p1]; exact p2, by rw [sn_lt p1]; exact p3, by rw [sn_lt p1]; exact p4, by rw [sn_lt p1]; exact p5, by rw [sn_lt p1]; exact p6, by rw [sn_len]; omega, by rw [sn_eq]; exact hk, by rw [sn_eq]; exact hs, by rw [sn_eq, n.fr]; omega, by rw [sn_eq]; exact n.to.1, by omega, Int.le_refl _, fun i hi hne hne2 => ?_⟩)
    rw [sn_len] at hi
    have r : i < g.length := by omega
    rw [sn_lt r]
    have hz := h.sz _ (getD_mem r)
    exact (p8 i r hne).1.mono (by omega) (p8 i r hne).2
  · exact absurd q (by decide)
end Go.Proofs.Ytbbgplnenbkfeaa
