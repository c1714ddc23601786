/- order of the document: plain, and its appends (Wb). -/
import Derived.Test.YtbbgplnenbkfeaaVz
import Derived.Test.YtbbgplnenbkfeaaVy
namespace Go.Proofs.Ytbbgplnenbkfeaa
set_option linter.unusedVariables false
set_option linter.unusedSimpArgs false
open Go.RowKit Go.Deep Go.Maps

/-- nobody that was answered is ahead of the call -/
def FreeR (rs : List Rc) (i : Nat) (fr : Int) (m : Nat) : Prop := ∀ k o, k < m → k ≠ i → rs[k]? = some o → ansR o = true → fr < o.to
/-- a step at i leads on -/
def StepI (rs : List Rc) (n : Int) (b : By) (i : Nat) : Prop :=
  FreeR rs i (rs.getD i rc0).fr rs.length ∧ okR n b (rs.getD i rc0) = true ∧ OrdR (rs.eraseIdx i) (doR n b (rs.getD i rc0)).1 (doR n b (rs.getD i rc0)).2.1
theorem ordR_iff {rs : List Rc} {n : Int} {b : By} : OrdR rs n b ↔ (∀ j, j < rs.length → ansR (rs.getD j rc0) = false) ∨ ∃ i, i < rs.length ∧ StepI rs n b i := by
  have hg : ∀ (i : Nat) (r : Rc), rs[i]? = some r → rs.getD i rc0 = r := fun i r h => by rw [List.getD_eq_getElem?_getD, h]; rfl
  constructor
  · intro h
    cases h with
    | done h =>
      left
      intro j hj
      rw [hg j _ (List.getElem?_eq_getElem hj)]
      exact h _ (List.getElem_mem hj)
    | step i r hi hf hd h =>
      right
      refine ⟨i, (List.getElem?_eq_some_iff.1 hi).1, ?_⟩
      unfold StepI
      rw [hg i r hi]
      exact ⟨fun k o _ h1 h2 h3 => hf k o h1 h2 h3, hd, h⟩
  · rintro (h | ⟨i, hi, h1, h2, h3⟩)
    · refine .done (fun c hc => ?_)
      obtain ⟨j, hj, e⟩ := List.getElem_of_mem hc
      have := h j hj
      rw [hg j _ (List.getElem?_eq_getElem hj), e] at this
      exact this
    · have hi2 := List.getElem?_eq_getElem hi
      rw [hg i _ hi2] at h1 h2 h3
      exact .step i _ hi2 (fun k o q1 q2 q3 => h1 k o (List.getElem?_eq_some_iff.1 q2).1 q1 q2 q3) h2 h3
theorem erase_take (rs : List Rc) (i : Nat) : rs.eraseIdx i = rs.take i ++ rs.drop (i + 1) := List.eraseIdx_eq_take_drop_succ ..
theorem rflat_one' {w : World} {rs : List Rc} (h : ∀ r ∈ rs, r.ok w) : ∀ u ∈ rflat rs, u.oneCell' = true := by
  induction rs with
  | nil => intro u hu; cases hu
  | cons x l ih =>
    intro u hu
    rcases List.mem_append.1 (show u ∈ rcell x ++ rflat l from hu) with e | e
    · exact (h x (List.mem_cons_self ..)).one u e
    · exact ih (fun r hr => h r (List.mem_cons_of_mem _ hr)) u e
theorem fl_rest {w : World} {Z : Nat → Prop} {b o : Nat} {x y : List Value} (h : Fl w Z (some ⟨b, o, none⟩) (x ++ y)) : Fl w Z (some ⟨b, o + x.length, none⟩) y := fun j u hj => by
  obtain ⟨b', o', e, hz, hc⟩ := h (x.length + j) u (by rw [List.getElem?_append_right (by omega), Nat.add_sub_cancel_left]; exact hj)
  cases e
  exact ⟨b, o + x.length, rfl, hz, by rw [Nat.add_assoc]; exact hc⟩
theorem fl_part2 {w : World} {Z : Nat → Prop} {p : Option Addr} {a b : List Value} (h : Fl w Z p (a ++ b)) : Fl w Z p a := fun j u hj => h j u (by rw [List.getElem?_append_left (List.getElem?_eq_some_iff.1 hj).1]; exact hj)
theorem own_cap2 {w : World} {base sz n m cap : Nat} {e : TypeId} {q : Option Addr} {cells : List Value} (h : w.ownsRow base e sz (.slice q m cap) n cells) : m ≤ cap := by
  rcases h.2 with ⟨e1, e2⟩ | ⟨g, c, cur, e1, _, _, e2, _⟩
  · cases e1; omega
  · cases e1; exact e2
/-- a new row of none -/
theorem own_none0 (y : World) : (y.alloc (.cells #[] 51)).ownsRow y.heap.size 51 7 (.slice (some ⟨y.heap.size, 0, none⟩) 0 0) 0 [] :=
  ⟨rfl, .inr ⟨y.heap.size, 0, #[], rfl, Nat.le_refl _, heap_alloc_new y _, Nat.le_refl _, by decide, rfl, rfl⟩⟩
/-- append(append([]call{}, l[:i]...), l[i+1:]...) -/
theorem ord_appends {y : World} {Z : Nat → Prop} {b1 o1 n c i : Nat} {rs : List Rc} (hf : Fl y Z (some ⟨b1, o1, none⟩) (rflat rs)) (hr : ∀ r ∈ rs, r.ok y) (hn : n = rs.length) (hi : i < n) (hc : n ≤ c) (h9 : n ≤ 900)
    {qr : Option Addr} (hqr : qr = if c = i + 1 then some ⟨b1, o1, none⟩ else some ⟨b1, o1 + (i + 1) * 7, none⟩) :
    ∃ v1 w2 v2 w3, (Builtin.append_ #[44, 44] 44 #[.slice (some ⟨y.heap.size, 0, none⟩) 0 0, .slice (some ⟨b1, o1, none⟩) i c]).run Try.prog (y.alloc (.cells #[] 51)) = .ok v1 w2
      ∧ (Builtin.append_ #[44, 44] 44 #[v1, .slice qr (n - (i + 1)) (c - (i + 1))]).run Try.prog w2 = .ok v2 w3
      ∧ Kp (fun _ => False) y w2 ∧ Kp (fun _ => False) y w3 ∧ w3.ownsRow y.heap.size 51 7 v2 (rs.eraseIdx i).length (rflat (rs.eraseIdx i)) := by
  obtain ⟨ti, tz, hi1, hi2, hi3, hi4, hi5⟩ := infoRc
  have ka : Kp (fun _ => False) y (y.alloc (.cells #[] 51)) := (Kp.refl _ _).alloc _
  have hrs : rflat rs = rflat (rs.take i) ++ rflat (rs.drop i) := by rw [← rflat_append, List.take_append_drop]
  have hf1 : Fl y Z (some ⟨b1, o1, none⟩) (rflat (rs.take i)) := by rw [hrs] at hf; exact fl_part2 hf
  have hl1 : (rs.take i).length = i := by rw [List.length_take]; omega
  obtain ⟨v1, w2, ha1, hw1, hg1, hb1⟩ := run_append_own_src (y.alloc (.cells #[] 51)) (P := Try.prog) y.heap.size 44 44 44 51 ti tz 7 96 Try.underlying44 hi1 hi2 hi3 hi4 hi5 (by decide) _ 0 [] (own_none0 y) (.slice (some ⟨b1, o1, none⟩) i c) i (rflat (rs.take i)) ((hf1.keep ka (fun _ _ => id)).src Try.underlying44 (by decide) (by rw [rflat_len, hl1]) (rflat_one' (w := y) (fun r h => hr r (List.mem_of_mem_take h)))) (by unfold maxLen; omega) (by omega) ka.size
  have k2 : Kp (fun _ => False) y w2 := ka.app (own_none0 y) (grownBy_kp hg1)
  rw [Nat.zero_add, List.nil_append] at hw1
  have hrs2 : rflat rs = rflat (rs.take (i + 1)) ++ rflat (rs.drop (i + 1)) := by rw [← rflat_append, List.take_append_drop]
  have hl2 : (rs.take (i + 1)).length = i + 1 := by rw [List.length_take]; omega
  have hl3 : (rs.drop (i + 1)).length = n - (i + 1) := by rw [List.length_drop, hn]
  have hf2 : Fl y Z qr (rflat (rs.drop (i + 1))) := by
    by_cases q : c = i + 1
    · have h0 : rs.drop (i + 1) = [] := List.eq_nil_of_length_eq_zero (by omega)
      rw [h0]
      intro j u hu
      cases hu
    · rw [if_neg q] at hqr
      rw [hqr]
      rw [hrs2] at hf
      have := fl_rest hf
      rw [rflat_len, hl2] at this
      exact this
  obtain ⟨v2, w3, ha2, hw2, hg2, hb2⟩ := run_append_own_src w2 (P := Try.prog) y.heap.size 44 44 44 51 ti tz 7 96 Try.underlying44 hi1 hi2 hi3 hi4 hi5 (by decide) v1 i (rflat (rs.take i)) hw1 (.slice qr (n - (i + 1)) (c - (i + 1))) (n - (i + 1)) (rflat (rs.drop (i + 1))) ((hf2.keep k2 (fun _ _ => id)).src Try.underlying44 (by decide) (by rw [rflat_len, hl3]) (rflat_one' (w := y) (fun r h => hr r (List.mem_of_mem_drop h)))) (by unfold maxLen; omega) (by omega) k2.size
  have k3 : Kp (fun _ => False) y w3 := k2.app hw1 (grownBy_kp hg2)
  refine ⟨v1, w2, v2, w3, ha1, ha2, k2, k3, ?_⟩
  rw [erase_take, rflat_append, List.length_append, hl1, hl3]
  exact hw2
end Go.Proofs.Ytbbgplnenbkfeaa
