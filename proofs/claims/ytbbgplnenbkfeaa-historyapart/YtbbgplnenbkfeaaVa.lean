/- Journals of calls that are answered at once, plain: line by line. -/
import Derived.Test.YtbbgplnenbkfeaaUz
namespace Go.Proofs.Ytbbgplnenbkfeaa
set_option linter.unusedVariables false
set_option linter.unusedSimpArgs false
open Go.RowKit Go.Deep Go.Maps

/-- a journal, its calls, each key's state and bytes -/
structure Srv (es : List Ev) (cs : List Hc) (st : List UInt8 → Int) (bs : List UInt8 → List Nat) : Prop where
  r : rd es = some cs
  i : ∀ (j : Nat) (c : Hc), cs[j]? = some c → c.e.id = (j : Int) + 1
  k : ∀ k, Kst (grpOf cs k) es.length (st k) (bs k)
theorem Srv.nil : Srv [] [] (fun _ => 0) (fun _ => []) := ⟨rfl, fun j c h => (by simp at h), fun k => Kst.nil _ _⟩
theorem ids_none {cs : List Hc} (h : ∀ (j : Nat) (c : Hc), cs[j]? = some c → c.e.id = (j : Int) + 1) : findC cs ((cs.length : Int) + 1) = none := by
  unfold findC
  rw [List.findIdx?_eq_none_iff]
  intro c hc
  obtain ⟨j, hj⟩ := List.getElem?_of_mem hc
  have h1 := h j c hj
  have h2 := (List.getElem?_eq_some_iff.1 hj).1
  simp
  omega
theorem ids_snoc {cs : List Hc} {c : Hc} (h : ∀ (j : Nat) (c : Hc), cs[j]? = some c → c.e.id = (j : Int) + 1) (hc : c.e.id = (cs.length : Int) + 1) : ∀ (j : Nat) (d : Hc), (cs ++ [c])[j]? = some d → d.e.id = (j : Int) + 1 := fun j d hj => by
  rcases Nat.lt_or_ge j cs.length with q | q
  · rw [List.getElem?_append_left q] at hj; exact h j d hj
  · rw [List.getElem?_append_right q] at hj
    obtain ⟨h9, h8⟩ := List.getElem?_eq_some_iff.1 hj
    have h7 : j - cs.length = 0 := by simp at h9; omega
    simp [h7] at h8
    subst h8
    omega
theorem ids_last {cs : List Hc} {c : Hc} (h : ∀ (j : Nat) (c : Hc), cs[j]? = some c → c.e.id = (j : Int) + 1) (hc : c.e.id = (cs.length : Int) + 1) : findC (cs ++ [c]) ((cs.length : Int) + 1) = some cs.length := by
  have hs := ids_snoc h hc
  unfold findC
  rw [List.findIdx?_eq_some_iff_getElem]
  refine ⟨by simp, by simp [hc], fun j hj => ?_⟩
  have := hs j _ (List.getElem?_eq_getElem (by simp; omega))
  simp only [this]
  simp
  omega
theorem rd_call {es : List Ev} {cs : List Hc} (hr : rd es = some cs) (hi : ∀ (j : Nat) (c : Hc), cs[j]? = some c → c.e.id = (j : Int) + 1) (e : Ev) (ha : e.ans = false) (hid : e.id = (cs.length : Int) + 1) (hm : mayAskP e = true) : rd (es ++ [e]) = some (cs ++ [newC e es.length]) := by
  rw [rd_snoc, hr]
  show stp cs es.length e = _
  unfold stp
  rw [ha, hid, ids_none hi]
  simp [hm]
theorem rd_told {es : List Ev} {cs : List Hc} {c : Hc} (hr : rd es = some (cs ++ [c])) (hi : ∀ (j : Nat) (c : Hc), cs[j]? = some c → c.e.id = (j : Int) + 1) (hc : c.e.id = (cs.length : Int) + 1) (a : Ev) (ha : a.ans = true) (hid : a.id = (cs.length : Int) + 1) (hm : mayHearP c a = true) : rd (es ++ [a]) = some (cs ++ [hearP c a es.length]) := by
  rw [rd_snoc, hr]
  show stp (cs ++ [c]) es.length a = _
  have hg : (cs ++ [c]).getD cs.length hc0 = c := sn_eq
  unfold stp
  rw [ha, hid, ids_last hi hc]
  simp only [hg, hm, if_true]
  congr 1
  rw [List.set_append_right _ _ (Nat.le_refl _), Nat.sub_self]
  rfl
/-- a call of which nobody is told -/
theorem Srv.lost {es : List Ev} {cs : List Hc} {st : List UInt8 → Int} {bs : List UInt8 → List Nat} (h : Srv es cs st bs) (e : Ev) (ha : e.ans = false) (hid : e.id = (cs.length : Int) + 1) (hm : mayAskP e = true) (hl : es.length ≤ 900) : Srv (es ++ [e]) (cs ++ [newC e es.length]) st bs := by
  have hn : Nw (newC e es.length) (es.length : Int) := ⟨rfl, by omega, by show (es.length : Int) + 1 ≤ never ∧ never ≤ never; unfold never; omega, fun _ => rfl⟩
  have hen : (((es ++ [e]).length : Nat) : Int) = (es.length : Int) + 1 := by simp
  refine ⟨rd_call h.r h.i e ha hid hm, ids_snoc h.i hid, fun k => ?_⟩
  rw [grpOf_snoc, hen]
  split
  · exact (h.k k).same hn (fun _ => Or.inl rfl) (fun _ => Or.inl rfl) (fun _ => Or.inl rfl)
  · exact (h.k k).later (by omega)
/-- a call, and its answer: what it does to its key is said by hk -/
theorem Srv.told {es : List Ev} {cs : List Hc} {st st' : List UInt8 → Int} {bs bs' : List UInt8 → List Nat} (h : Srv es cs st bs) (e a : Ev) (he : e.ans = false) (hid : e.id = (cs.length : Int) + 1) (hm : mayAskP e = true) (ha : a.ans = true) (hid2 : a.id = (cs.length : Int) + 1) (hm2 : mayHearP (newC e es.length) a = true)
    (ho : ∀ k, k ≠ e.key.data.toList → st' k = st k ∧ bs' k = bs k)
    (hk : Kst (grpOf cs e.key.data.toList ++ [hearP (newC e es.length) a ((es.length + 1 : Nat) : Int)]) (es.length + 1) (st' e.key.data.toList) (bs' e.key.data.toList)) :
    Srv ((es ++ [e]) ++ [a]) (cs ++ [hearP (newC e es.length) a ((es.length + 1 : Nat) : Int)]) st' bs' := by
  have hr1 := rd_call h.r h.i e he hid hm
  have hr2 := rd_told hr1 h.i hid a ha hid2 hm2
  have hel : (es ++ [e]).length = es.length + 1 := by simp
  rw [hel] at hr2
  have hce : (hearP (newC e es.length) a ((es.length + 1 : Nat) : Int)).e = e := hearP_e _ _ _
  have hen : ((((es ++ [e]) ++ [a]).length : Nat) : Int) = (es.length : Int) + 2 := by simp
  refine ⟨hr2, ids_snoc h.i (by rw [hce]; exact hid), fun k => ?_⟩
  rw [grpOf_snoc, hce, hen]
  by_cases e1 : e.key.data.toList = k
  · rw [if_pos e1]
    subst e1
    exact hk.later (by omega)
  · rw [if_neg e1, (ho k (fun e2 => e1 e2.symm)).1, (ho k (fun e2 => e1 e2.symm)).2]
    exact (h.k k).later (by omega)
theorem Srv.right {es : List Ev} {cs : List Hc} {st : List UInt8 → Int} {bs : List UInt8 → List Nat} (h : Srv es cs st bs) (hl : es.length ≤ 900) : chk es = true := by
  unfold chk
  rw [h.r]
  dsimp only
  rw [List.all_eq_true]
  intro g hg
  rw [(byK_grp cs).g g hg]
  exact (h.k g.1.data.toList).right (by omega)
/-- the times of a call that has been told -/
theorem nw_told (e a : Ev) (L : Nat) (hl : L ≤ 900) (hk : a.kind ≠ 0) : Nw (hearP (newC e L) a ((L + 1 : Nat) : Int)) (L : Int) := by
  unfold hearP
  split
  · exact ⟨rfl, by omega, by show (L : Int) + 1 ≤ ((L + 1 : Nat) : Int) ∧ ((L + 1 : Nat) : Int) ≤ never; unfold never; omega, fun h => absurd h hk⟩
  · exact ⟨rfl, by omega, by show (L : Int) + 1 ≤ never ∧ never ≤ never; unfold never; omega, fun _ => rfl⟩
/-- what a told call says -/
theorem hear_says (e a : Ev) (L t : Int) (hk : a.kind = 1 ∨ a.kind = 2 ∨ a.kind = 3) : (hearP ⟨e, L, never, false, 0, by0⟩ a t).says = a.kind ∧ (hearP ⟨e, L, never, false, 0, by0⟩ a t).g = a.b := by
  unfold hearP
  rcases hk with q | q | q <;> simp [q]
theorem hear_out (e a : Ev) (L t : Int) (hk : a.kind = 4) : (hearP ⟨e, L, never, false, 0, by0⟩ a t).says = 0 := by
  unfold hearP
  simp [hk]
end Go.Proofs.Ytbbgplnenbkfeaa
