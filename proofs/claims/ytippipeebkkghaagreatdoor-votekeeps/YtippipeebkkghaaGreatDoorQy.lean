/- The same votes and messages are found the same. -/
import Derived.Test.YtippipeebkkghaaGreatDoorQx
namespace Go.Proofs.YtippipeebkkghaaGreatDoor
set_option linter.unusedVariables false
open Go.RowKit Go.Deep Go.Maps

theorem szVote : (Tryz.prog.info? 59).map (·.size) = some 14 := by kernel_rfl
theorem dsVote : ∃ d, Tryz.prog.underlying 59 = some d ∧ d.isRow = true := ⟨_, Tryz.underlying59, rfl⟩

abbrev zeroV : List Value := .int .i64 0 :: .int .i64 0 :: zeroC.toList
theorem vcell_one (v : Vo) {nv : Value} (h : nv.oneCell' = true) : (vcell v nv).toArray.all (·.oneCell') = true := all_oneCell_toArray (fun x hx => by
  rcases List.mem_cons.1 hx with rfl | hx
  · rfl
  · rcases List.mem_cons.1 hx with rfl | hx
    · rfl
    · exact (Array.all_eq_true_iff_forall_mem.1 (cmd_one v.c h)) x (by simpa using hx))
theorem fl_range {w : World} {Z : Nat → Prop} {p : Option Addr} {l : List (Vo × Value)} (h : Fl w Z p (vflat l)) {k : Nat} (hk : k < l.length) : ∃ b o, p = some ⟨b, o, none⟩ ∧ w.rangeAt b (o + k * 14) (vcell l[k].1 l[k].2) := by
  have hs : l = l.take k ++ l[k] :: l.drop (k + 1) := by rw [← List.drop_eq_getElem_cons hk, List.take_append_drop]
  have hget : ∀ j u, (vcell l[k].1 l[k].2)[j]? = some u → (vflat l)[k * 14 + j]? = some u := fun j u hu => by
    have hj : j < 14 := by have := (List.getElem?_eq_some_iff.1 hu).1; simpa using this
    rw [hs, vflat_append, List.getElem?_append_right (by rw [vflat_len, List.length_take]; omega), vflat_len, List.length_take, Nat.min_eq_left (by omega), show k * 14 + j - k * 14 = j by omega]
    show (vcell l[k].1 l[k].2 ++ vflat (l.drop (k + 1)))[j]? = _
    rw [List.getElem?_append_left (by simpa using hj)]
    exact hu
  obtain ⟨b, o, e, _, _⟩ := h (k * 14 + 0) _ (hget 0 _ rfl)
  refine ⟨b, o, e, fun j u hu => ?_⟩
  obtain ⟨b', o', e', _, hc⟩ := h (k * 14 + j) u (hget j u hu)
  rw [e] at e'
  cases e'
  rw [Nat.add_assoc]
  exact hc

end Go.Proofs.YtippipeebkkghaaGreatDoor
