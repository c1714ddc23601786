/- Two puts of one key, plain. -/
import Derived.Test.YtbbgplnenbkfeaaUp
namespace Go.Proofs.Ytbbgplnenbkfeaa
set_option linter.unusedVariables false
set_option linter.unusedSimpArgs false
open Go.RowKit Go.Deep Go.Maps

abbrev noKey : ByteArray := ⟨#[]⟩
theorem noKey_empty : (noKey).toList.isEmpty = true := by decide +kernel
theorem byK_same (key : ByteArray) : ∀ (cs : List Hc) (c : Hc), (∀ d ∈ cs, d.e.key = key) → c.e.key = key → byK (c :: cs) = [(key, c :: cs)] := by
  intro cs c hcs hc
  have h : ∀ (l : List Hc) (m : List Hc), (∀ d ∈ l, d.e.key = key) → l.foldl stepG [(key, m)] = [(key, m ++ l)] := by
    intro l
    induction l with
    | nil => intro m _; simp
    | cons x l ih =>
      intro m hl
      have hx : x.e.key = key := hl x (by simp)
      have hs : stepG [(key, m)] x = [(key, m ++ [x])] := by
        unfold stepG keyI
        rw [hx]
        simp
      rw [List.foldl_cons, hs, ih _ (fun d hd => hl d (List.mem_cons_of_mem _ hd))]
      simp
  show (c :: cs).foldl stepG [] = _
  have h0 : stepG [] c = [(key, [c])] := by unfold stepG keyI; simp [hc]
  rw [List.foldl_cons, h0, h cs [c] hcs]
  rfl
theorem rd_two (key : ByteArray) (a b : By) (s : Int) (hs : s = 1 ∨ s = 2) : rd [⟨false, 1, 1, key, a⟩, ⟨false, 2, 1, key, b⟩, ⟨true, 1, 1, noKey, by0⟩, ⟨true, 2, s, noKey, by0⟩] = some [⟨⟨false, 1, 1, key, a⟩, 0, 2, true, 1, by0⟩, ⟨⟨false, 2, 1, key, b⟩, 1, 3, true, s, by0⟩] := by
  have hn := noKey_empty
  rcases hs with rfl | rfl <;>
  simp [rd, rdF, stp, findC, mayAskP, mayHearP, hearP, newC, hn, by0, List.findIdx?_cons]
theorem chk_two (key : ByteArray) (a b : By) : chk [⟨false, 1, 1, key, a⟩, ⟨false, 2, 1, key, b⟩, ⟨true, 1, 1, noKey, by0⟩, ⟨true, 2, 1, noKey, by0⟩] = false := by
  unfold chk
  rw [rd_two key a b 1 (Or.inl rfl)]
  dsimp only
  rw [byK_same key _ _ (by simp) rfl]
  rfl
theorem chk_there (key : ByteArray) (a b : By) : chk [⟨false, 1, 1, key, a⟩, ⟨false, 2, 1, key, b⟩, ⟨true, 1, 1, noKey, by0⟩, ⟨true, 2, 2, noKey, by0⟩] = true := by
  unfold chk
  rw [rd_two key a b 2 (Or.inr rfl)]
  dsimp only
  rw [byK_same key _ _ (by simp) rfl]
  simp [rightP, extC, putI, delI, readB, fidx, readsP, pickP, isTold, mayE, mayP, endC, fitsP, withinP, writtenP, erasedP, ordF, ord0, ordS, List.findIdx?_cons, List.range_succ]
  unfold never
  omega
theorem rd_read (key : ByteArray) (a b : By) : rd [⟨false, 1, 1, key, a⟩, ⟨false, 2, 1, key, b⟩, ⟨true, 1, 1, noKey, by0⟩, ⟨true, 2, 2, noKey, by0⟩, ⟨false, 3, 2, key, by0⟩, ⟨true, 3, 1, noKey, b⟩] = some [⟨⟨false, 1, 1, key, a⟩, 0, 2, true, 1, by0⟩, ⟨⟨false, 2, 1, key, b⟩, 1, 3, true, 2, by0⟩, ⟨⟨false, 3, 2, key, by0⟩, 4, 5, true, 1, b⟩] := by
  have hn := noKey_empty
  simp [rd, rdF, stp, findC, mayAskP, mayHearP, hearP, newC, hn, by0, List.findIdx?_cons]
theorem chk_read (key : ByteArray) (a b : By) : chk [⟨false, 1, 1, key, a⟩, ⟨false, 2, 1, key, b⟩, ⟨true, 1, 1, noKey, by0⟩, ⟨true, 2, 2, noKey, by0⟩, ⟨false, 3, 2, key, by0⟩, ⟨true, 3, 1, noKey, b⟩] = decide (b.xs = a.xs) := by
  unfold chk
  rw [rd_read key a b]
  dsimp only
  rw [byK_same key _ _ (by simp) rfl]
  by_cases h : b.xs = a.xs
  · rw [decide_eq_true h]
    simp [rightP, extC, putI, delI, readB, fidx, readsP, pickP, isTold, mayE, mayP, endC, fitsP, withinP, writtenP, erasedP, ordF, ord0, ordS, List.findIdx?_cons, List.range_succ, h]
    unfold never
    omega
  · rw [decide_eq_false h]
    simp [rightP, extC, putI, delI, readB, fidx, readsP, pickP, isTold, mayE, mayP, endC, fitsP, withinP, writtenP, erasedP, ordF, ord0, ordS, List.findIdx?_cons, List.range_succ, h]
/-- a get of a key that nobody put is not right with bytes -/
theorem chk_bad (b : By) : chk [⟨false, 1, 2, noKey, by0⟩, ⟨true, 1, 1, noKey, b⟩] = false := by
  have hn := noKey_empty
  have hr : rd [⟨false, 1, 2, noKey, by0⟩, ⟨true, 1, 1, noKey, b⟩] = some [⟨⟨false, 1, 2, noKey, by0⟩, 0, 1, true, 1, b⟩] := by
    simp [rd, rdF, stp, findC, mayAskP, mayHearP, hearP, newC, hn, by0, List.findIdx?_cons]
  unfold chk
  rw [hr]
  dsimp only
  rw [byK_same noKey _ _ (by simp) rfl]
  simp [rightP, extC, putI, delI, readB, fidx, readsP, pickP, isTold, mayE, mayP, endC, fitsP, withinP, writtenP, erasedP, ordF, ord0, ordS, List.findIdx?_cons, List.range_succ]
  unfold never
  omega
end Go.Proofs.Ytbbgplnenbkfeaa
