/- The document's list of pairs with one more, in order: plain. -/
import Derived.Test.YtnpaoppfhffoiaaJv
namespace Go.Proofs.Ytnpaoppfhffoiaa
set_option linter.unusedVariables false
set_option linter.unusedSimpArgs false
open Go.RowKit Go.Deep Go.Maps Go.Shelf Go.Lib Go.Sort

/-- x stands at p's place, or behind it -/
def geP (x p : Int × Int) : Bool := decide (p.1 < x.1) || (decide (x.1 = p.1) && decide (p.2 ≤ x.2))
/-- what Pairs has made so far, and whether it has put p -/
def pstep (p : Int × Int) (a : List (Int × Int) × Bool) (x : Int × Int) : List (Int × Int) × Bool :=
  let b := if !a.2 && geP x p then (a.1 ++ [p], true) else a
  (if x = p then b.1 else b.1 ++ [x], b.2)
def pairsP (l : List (Int × Int)) (p : Int × Int) : List (Int × Int) :=
  let r := l.foldl (pstep p) ([], false)
  if r.2 then r.1 else r.1 ++ [p]
theorem geP_iff (x p : Int × Int) : geP x p = !(ltOf ris x p) := by
  rw [ltR]
  unfold geP
  by_cases h1 : p.1 < x.1
  · have : ¬ (x.1 < p.1 ∨ x.1 = p.1 ∧ x.2 < p.2) := by omega
    simp [h1, this]
  · by_cases h2 : x.1 = p.1
    · by_cases h3 : p.2 ≤ x.2
      · have : ¬ (x.1 < p.1 ∨ x.1 = p.1 ∧ x.2 < p.2) := by omega
        simp [h2, h3, this]
      · have : (x.1 < p.1 ∨ x.1 = p.1 ∧ x.2 < p.2) := by omega
        simp [h1, h2, h3, this]
        omega
    · have : (x.1 < p.1 ∨ x.1 = p.1 ∧ x.2 < p.2) := by omega
      simp [h1, h2, this]
      omega
/-- once put, the rest follows -/
theorem fold_put (p : Int × Int) : ∀ (l acc : List (Int × Int)), p ∉ l → l.foldl (pstep p) (acc, true) = (acc ++ l, true)
  | [], acc, _ => by simp
  | x :: l, acc, h => by
    simp only [List.mem_cons, not_or] at h
    rw [List.foldl_cons]
    have hx : ¬ x = p := fun e => h.1 e.symm
    have e : pstep p (acc, true) x = (acc ++ [x], true) := by
      unfold pstep
      simp [hx]
    rw [e, fold_put p l _ h.2]
    simp
/-- in a list that rises p is laid where it belongs -/
theorem fold_ins (p : Int × Int) : ∀ (l acc : List (Int × Int)), p ∉ l → l.Pairwise (fun a b => ltOf ris a b = true) → ∃ l1 l2, l = l1 ++ l2 ∧ (∀ x ∈ l1, ltOf ris x p = true) ∧ (∀ x ∈ l2, ltOf ris p x = true) ∧ (let r := l.foldl (pstep p) (acc, false); (if r.2 then r.1 else r.1 ++ [p]) = acc ++ l1 ++ p :: l2)
  | [], acc, _, _ => ⟨[], [], rfl, fun _ h => (by cases h), fun _ h => (by cases h), by simp⟩
  | x :: l, acc, h, hs => by
    simp only [List.mem_cons, not_or] at h
    have hxp : ¬ x = p := fun e => h.1 e.symm
    obtain ⟨hs1, hs2⟩ := List.pairwise_cons.1 hs
    by_cases hg : ltOf ris x p = true
    · have e : pstep p (acc, false) x = (acc ++ [x], false) := by
        unfold pstep
        rw [geP_iff, hg]
        simp [hxp]
      obtain ⟨l1, l2, e1, e2, e3, e4⟩ := fold_ins p l (acc ++ [x]) h.2 hs2
      refine ⟨x :: l1, l2, by rw [e1]; rfl, fun y hy => ?_, e3, ?_⟩
      · rcases List.mem_cons.1 hy with rfl | hy
        · exact hg
        · exact e2 y hy
      · rw [List.foldl_cons, e]
        simp only at e4 ⊢
        rw [e4]
        simp
    · have hf : ltOf ris x p = false := by simpa using hg
      have hpx : ltOf ris p x = true := by
        cases hh : ltOf ris p x with
        | true => rfl
        | false => exact (hxp (totR x p hf hh)).elim
      have e : pstep p (acc, false) x = (acc ++ [p] ++ [x], true) := by
        unfold pstep
        rw [geP_iff, hf]
        simp [hxp]
      refine ⟨[], x :: l, rfl, fun _ h => (by cases h), fun y hy => ?_, ?_⟩
      · rcases List.mem_cons.1 hy with rfl | hy
        · exact hpx
        · exact swoR.trans p x y hpx (hs1 y hy)
      · rw [List.foldl_cons, e, fold_put p l _ h.2]
        simp
theorem srt_pairwise (l : List (Int × Int)) : (srtP l).Pairwise (fun a b => ltOf ris b a = false) := by
  have tr : ∀ x y z : Int × Int, (!(ltOf ris) y x) = true → (!(ltOf ris) z y) = true → (!(ltOf ris) z x) = true := fun x y z h1 h2 => by
    rw [ltR] at *
    simp only [Bool.not_eq_true', decide_eq_false_iff_not] at *
    omega
  have to : ∀ x y : Int × Int, ((!(ltOf ris) y x) || (!(ltOf ris) x y)) = true := fun x y => by
    rw [ltR, ltR]
    simp only [Bool.or_eq_true, Bool.not_eq_true', decide_eq_false_iff_not]
    omega
  exact (List.pairwise_mergeSort tr to l).imp (fun {a b} h => by simpa using h)
theorem srt_rises {l : List (Int × Int)} (hn : l.Nodup) : (srtP l).Pairwise (fun a b => ltOf ris a b = true) := by
  have h1 := srt_pairwise l
  have h2 : (srtP l).Nodup := (List.mergeSort_perm l _).nodup_iff.2 hn
  refine List.Pairwise.imp₂ (fun {a b} h3 h4 => ?_) h1 h2
  cases h5 : ltOf ris a b with
  | true => rfl
  | false => exact (h4 (totR a b h5 h3)).elim
/-- sorted pairs and one more: sorted -/
theorem pairs_srt {l : List (Int × Int)} {p : Int × Int} (hn : l.Nodup) (hp : p ∉ l) : pairsP (srtP l) p = srtP (l ++ [p]) := by
  have hm : p ∉ srtP l := fun h => hp ((List.mergeSort_perm l _).mem_iff.1 h)
  obtain ⟨l1, l2, e1, e2, e3, e4⟩ := fold_ins p (srtP l) [] hm (srt_rises hn)
  have e5 : pairsP (srtP l) p = l1 ++ p :: l2 := by
    unfold pairsP
    simpa using e4
  rw [e5]
  have hsr := srt_rises hn
  rw [e1] at hsr
  obtain ⟨s1, s2, s3⟩ := List.pairwise_append.1 hsr
  have hpw : (l1 ++ p :: l2).Pairwise (fun a b => ltOf ris b a = false) := by
    have imp : ∀ {a b}, ltOf ris a b = true → ltOf ris b a = false := fun {a b} h => by
      cases h5 : ltOf ris b a with
      | false => rfl
      | true => have := swoR.trans a b a h h5; rw [swoR.irrefl] at this; cases this
    refine List.Pairwise.imp (fun {a b} h => imp h) (List.pairwise_append.2 ⟨s1, List.pairwise_cons.2 ⟨e3, s2⟩, fun a ha b hb => ?_⟩)
    rcases List.mem_cons.1 hb with rfl | hb
    · exact e2 a ha
    · exact s3 a ha b hb
  have hperm : (l1 ++ p :: l2).Perm (l ++ [p]) := by
    have h1 : (l1 ++ p :: l2).Perm (p :: (l1 ++ l2)) := List.perm_middle
    have h2 : (l1 ++ l2).Perm l := by rw [← e1]; exact List.mergeSort_perm l _
    exact (h1.trans (List.Perm.cons p h2)).trans (List.perm_append_comm (l₁ := [p]) (l₂ := l))
  have tr := srt_pairwise (l ++ [p])
  exact List.Perm.eq_of_pairwise (le := fun x y => ltOf ris y x = false) (fun x y _ _ h1 h2 => totR x y h2 h1) hpw tr (hperm.trans (List.mergeSort_perm _ _).symm)
end Go.Proofs.Ytnpaoppfhffoiaa
