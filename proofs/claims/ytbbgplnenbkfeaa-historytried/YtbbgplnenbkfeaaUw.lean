/- Journals of calls of which none is answered, plain. -/
import Derived.Test.YtbbgplnenbkfeaaUr
namespace Go.Proofs.Ytbbgplnenbkfeaa
set_option linter.unusedVariables false
set_option linter.unusedSimpArgs false
open Go.RowKit Go.Deep Go.Maps

theorem rdF_snoc : ∀ (es : List Ev) (e : Ev) (k : Nat) (cs : List Hc), rdF (es ++ [e]) k cs = (rdF es k cs).bind (fun c => stp c (k + es.length) e)
  | [], e, k, cs => by
    show (stp cs k e).bind (rdF [] (k + 1)) = stp cs (k + 0) e
    rw [Nat.add_zero]
    cases stp cs k e <;> rfl
  | x :: es, e, k, cs => by
    show (stp cs k x).bind (rdF (es ++ [e]) (k + 1)) = ((stp cs k x).bind (rdF es (k + 1))).bind _
    cases h : stp cs k x with
    | none => rfl
    | some c =>
      show rdF (es ++ [e]) (k + 1) c = (rdF es (k + 1) c).bind _
      rw [rdF_snoc es e (k + 1) c]
      congr 1
      funext c'
      congr 1
      show k + 1 + es.length = k + (es.length + 1)
      omega
theorem rd_snoc (es : List Ev) (e : Ev) : rd (es ++ [e]) = (rd es).bind (fun c => stp c es.length e) := by
  unfold rd
  rw [rdF_snoc]
  congr 1
  funext c
  rw [Nat.zero_add]
/-- calls of which nobody was told anything, numbered from 1 on -/
structure Opn (es : List Ev) (cs : List Hc) : Prop where
  r : rd es = some cs
  i : ∀ (j : Nat) (c : Hc), cs[j]? = some c → c.e.id = (j : Int) + 1
  s : ∀ c ∈ cs, c.says = 0 ∧ c.to = never ∧ 0 ≤ c.fr ∧ c.fr ≤ es.length
theorem Opn.nil : Opn [] [] := ⟨rfl, fun j c h => by simp at h, fun c h => by cases h⟩
theorem Opn.find {es : List Ev} {cs : List Hc} (h : Opn es cs) : findC cs ((cs.length : Int) + 1) = none := by
  unfold findC
  rw [List.findIdx?_eq_none_iff]
  intro c hc
  obtain ⟨j, hj⟩ := List.getElem?_of_mem hc
  have h1 := h.i j c hj
  have h2 := (List.getElem?_eq_some_iff.1 hj).1
  simp
  omega
theorem Opn.call {es : List Ev} {cs : List Hc} (h : Opn es cs) (e : Ev) (ha : e.ans = false) (hi : e.id = (cs.length : Int) + 1) (hm : mayAskP e = true) : Opn (es ++ [e]) (cs ++ [newC e es.length]) := by
  refine ⟨?_, fun j c hj => ?_, fun c hc => ?_⟩
  · rw [rd_snoc, h.r]
    show stp cs es.length e = _
    unfold stp
    rw [ha, hi, h.find]
    simp [hm]
  · rcases Nat.lt_or_ge j cs.length with q | q
    · rw [List.getElem?_append_left q] at hj; exact h.i j c hj
    · rw [List.getElem?_append_right q] at hj
      obtain ⟨h9, h8⟩ := List.getElem?_eq_some_iff.1 hj
      have h7 : j - cs.length = 0 := by simp at h9; omega
      simp [h7] at h8
      subst h8
      show e.id = _
      omega
  · rw [List.length_append]
    rcases List.mem_append.1 hc with q | q
    · have := h.s c q
      refine ⟨this.1, this.2.1, this.2.2.1, ?_⟩
      have := this.2.2.2
      simp; omega
    · rw [List.mem_singleton] at q; subst q
      exact ⟨rfl, rfl, by show (0 : Int) ≤ (es.length : Int); omega, by show (es.length : Int) ≤ _; simp; omega⟩
theorem Opn.hear {es : List Ev} {cs : List Hc} {c : Hc} (h : Opn es (cs ++ [c])) (ht : c.told = false) (e : Ev) (ha : e.ans = true) (hi : e.id = (cs.length : Int) + 1) (hk : e.kind = 4 ∨ e.kind = 5) (hn : e.key.toList.isEmpty = true) (hb : e.b.xs = []) : Opn (es ++ [e]) (cs ++ [{ c with told := true }]) := by
  have hf : findC (cs ++ [c]) e.id = some cs.length := by
    unfold findC
    rw [List.findIdx?_eq_some_iff_getElem]
    refine ⟨by simp, ?_, fun j hj => ?_⟩
    · have := h.i cs.length c (by simp)
      simp [this, hi]
    · have hj2 : (cs ++ [c])[j]? = some ((cs ++ [c])[j]'(by simp; omega)) := List.getElem?_eq_getElem _
      have := h.i j _ hj2
      simp only [this, hi]
      simp
      omega
  have hg : (cs ++ [c]).getD cs.length hc0 = c := by simp [List.getD_eq_getElem?_getD]
  have hmh : mayHearP c e = true := by
    unfold mayHearP
    rw [ht, hn, hb]
    rcases hk with q | q <;> simp [q]
  have hhp : hearP c e es.length = { c with told := true } := by
    unfold hearP
    rcases hk with q | q <;> simp [q]
  refine ⟨?_, fun j d hj => ?_, fun d hd => ?_⟩
  · rw [rd_snoc, h.r]
    show stp (cs ++ [c]) es.length e = _
    unfold stp
    rw [ha, hf]
    simp only [hg, hmh, if_true, hhp]
    congr 1
    rw [List.set_append_right _ _ (Nat.le_refl _), Nat.sub_self]
    rfl
  · rcases Nat.lt_or_ge j cs.length with q | q
    · rw [List.getElem?_append_left q] at hj; exact h.i j d (by rw [List.getElem?_append_left q]; exact hj)
    · rw [List.getElem?_append_right q] at hj
      obtain ⟨h9, h8⟩ := List.getElem?_eq_some_iff.1 hj
      have h7 : j - cs.length = 0 := by simp at h9; omega
      simp [h7] at h8
      subst h8
      have h6 : j = cs.length := by omega
      subst h6
      exact h.i cs.length c (by simp)
  · rw [List.length_append]
    rcases List.mem_append.1 hd with q | q
    · have := h.s d (List.mem_append_left _ q)
      refine ⟨this.1, this.2.1, this.2.2.1, ?_⟩
      have := this.2.2.2
      simp; omega
    · rw [List.mem_singleton] at q; subst q
      have := h.s c (by simp)
      refine ⟨this.1, this.2.1, this.2.2.1, ?_⟩
      have := this.2.2.2
      show c.fr ≤ _
      simp; omega
/-- each key's calls are among all -/
theorem byK_mem : ∀ (cs : List Hc) (g : ByteArray × List Hc), g ∈ byK cs → ∀ c ∈ g.2, c ∈ cs := by
  have h : ∀ (cs : List Hc) (pg : List (ByteArray × List Hc)) (all : List Hc), (∀ g ∈ pg, ∀ c ∈ g.2, c ∈ all) → (∀ c ∈ cs, c ∈ all) → ∀ g ∈ cs.foldl stepG pg, ∀ c ∈ g.2, c ∈ all := by
    intro cs
    induction cs with
    | nil => intro pg all h _ g hg; exact h g hg
    | cons x cs ih =>
      intro pg all h hx
      refine ih (stepG pg x) all (fun g hg c hc => ?_) (fun c hc => hx c (List.mem_cons_of_mem _ hc))
      unfold stepG at hg
      split at hg
      · rename_i i hi
        rcases List.mem_or_eq_of_mem_set hg with q | q
        · exact h g q c hc
        · subst q
          have hil := keyI_lt hi
          have hgi : pg.getD i (⟨#[]⟩, []) ∈ pg := by rw [List.getD_eq_getElem?_getD, List.getElem?_eq_getElem hil]; exact List.getElem_mem hil
          rcases List.mem_append.1 hc with q2 | q2
          · exact h _ hgi c q2
          · rw [List.mem_singleton] at q2; subst q2; exact hx c (by simp)
      · rcases List.mem_append.1 hg with q | q
        · exact h g q c hc
        · rw [List.mem_singleton] at q; subst q
          have hc2 : c ∈ [x] := hc
          rw [List.mem_singleton] at hc2; subst hc2; exact hx c (by simp)
  intro cs g hg
  exact h cs [] cs (fun g hg => by cases hg) (fun c hc => hc) g hg
theorem fidx_none {cs : List Hc} {P : Hc → Bool} (h : ∀ c ∈ cs, P c = false) : fidx cs P = -1 := by
  unfold fidx
  rw [List.findIdx?_eq_none_iff.2 h]
/-- calls of which nobody was told anything are right -/
theorem right_open (cs : List Hc) (en : Int) (he : 0 ≤ en ∧ en ≤ 1000) (h : ∀ c ∈ cs, c.says = 0 ∧ c.to = never ∧ 0 ≤ c.fr ∧ c.fr ≤ en) : rightP cs en = true := by
  have hX : ∀ c ∈ extC cs en, c.says = 0 ∧ c.to = never ∧ 0 ≤ c.fr ∧ c.fr ≤ en := fun c hc => by
    unfold extC at hc
    rcases List.mem_append.1 hc with q | q
    · exact h c q
    · simp at q
      rcases q with rfl | rfl
      · exact ⟨rfl, rfl, he.1, Int.le_refl _⟩
      · exact ⟨rfl, rfl, he.1, Int.le_refl _⟩
  have hp := putI_lt cs en
  have hd := delI_lt cs en
  have hgp : (extC cs en).getD (putI cs en) hc0 ∈ extC cs en := by rw [List.getD_eq_getElem?_getD, List.getElem?_eq_getElem hp.1]; exact List.getElem_mem hp.1
  have hgd : (extC cs en).getD (delI cs en) hc0 ∈ extC cs en := by rw [List.getD_eq_getElem?_getD, List.getElem?_eq_getElem hd.1]; exact List.getElem_mem hd.1
  have hfold : ∀ (l : List Hc) (le : Int × Int), (∀ c ∈ l, c.says = 0) → l.foldl ordS le = le := by
    intro l
    induction l with
    | nil => intro le _; rfl
    | cons x l ih =>
      intro le hl
      have hx : ordS le x = le := by
        unfold ordS readsP
        rw [hl x (by simp)]
        simp
      rw [List.foldl_cons, hx]
      exact ih le (fun c hc => hl c (List.mem_cons_of_mem _ hc))
  have hF : ordF (extC cs en) (putI cs en) (delI cs en) = ord0 (extC cs en) (putI cs en) (delI cs en) := hfold _ _ (fun c hc => (hX c hc).1)
  have h1 := hX _ hgp
  have h2 := hX _ hgd
  have hE : erasedP (extC cs en) (putI cs en) (delI cs en) = max ((extC cs en).getD (putI cs en) hc0).fr ((extC cs en).getD (delI cs en) hc0).fr + 1 := by unfold erasedP; rw [hF]; rfl
  have hW : writtenP (extC cs en) (putI cs en) (delI cs en) = max ((extC cs en).getD (putI cs en) hc0).fr ((extC cs en).getD (delI cs en) hc0).fr + 1 := by
    unfold writtenP
    rw [hE, hF]
    show min ((extC cs en).getD (putI cs en) hc0).to _ = _
    rw [h1.2.1]
    unfold never
    omega
  unfold rightP
  refine range_all (fun j hj => ?_)
  have hgj : (extC cs en).getD j hc0 ∈ extC cs en := by rw [List.getD_eq_getElem?_getD, List.getElem?_eq_getElem hj]; exact List.getElem_mem hj
  have hj2 := hX _ hgj
  unfold fitsP
  dsimp only
  rw [hE, hW]
  split
  · rename_i e
    subst e
    unfold withinP
    rw [h1.2.1]
    have : max ((extC cs en).getD (putI cs en) hc0).fr ((extC cs en).getD (delI cs en) hc0).fr + 1 ≤ never := by unfold never; omega
    rw [Bool.and_eq_true, decide_eq_true_eq, decide_eq_true_eq]
    constructor <;> omega
  · split
    · rename_i _ e
      subst e
      unfold withinP
      rw [h2.2.1]
      have : max ((extC cs en).getD (putI cs en) hc0).fr ((extC cs en).getD (delI cs en) hc0).fr + 1 ≤ never := by unfold never; omega
      rw [Bool.and_eq_true, decide_eq_true_eq, decide_eq_true_eq]
      constructor <;> omega
    · rw [hj2.1]; rfl
theorem Opn.right {es : List Ev} {cs : List Hc} (h : Opn es cs) (hl : es.length ≤ 900) : chk es = true := by
  unfold chk
  rw [h.r]
  dsimp only
  rw [List.all_eq_true]
  intro g hg
  exact right_open g.2 _ (by omega) (fun c hc => h.s c (byK_mem cs g hg c hc))
end Go.Proofs.Ytbbgplnenbkfeaa
