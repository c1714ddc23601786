/- Loads of whole structs whose guard is met; lists of votes. -/
import Derived.Test.YtjbgpbafgpdciaaCa
namespace Go.Proofs.Ytjbgpbafgpdciaa
set_option linter.unusedVariables false
open Go.RowKit Go.Deep Go.Maps

theorem wpList_ldw {ops : Array Oper} {rest : List Oper} {op : Oper} {a : Act} {w : World} {Q : Exit → Act → World → Prop} (hw : Region.wanted op (yielded ops a.tmps) = true) (ty : TypeId) (x : Operand) (ho : op.op = .load ty x)
    (b o : Nat) (hx : a.eval x = .pointer (some ⟨b, o, none⟩)) (cs : List Value) (d : TypeDesc) (hc : w.rangeAt b o cs)
    (hu : Try.prog.underlying ty = some d) (hd : d.isRow = true) (hi : (Try.prog.info? ty).map (·.size) = some cs.length)
    (h : wpList Try.prog ops Q rest (a.put op.dst (.agg cs.toArray)) w) : wpList Try.prog ops Q (op :: rest) a w :=
  wpList_step fun K hK => by simp only [hw, if_true]; exact wp_load_mid ty x ho b o hx cs d hc hu hd hi (hK _ _ h)
theorem Fl.here {Z : Nat → Prop} {w : World} {p : Option Addr} {cells : List Value} (h : Fl w Z p cells) : Fl w (· < w.heap.size) p cells := fun j u hu => by
  obtain ⟨b, o, e, hz, hc⟩ := h j u hu
  exact ⟨b, o, e, World.block_lt_of_cell? w _ hc, hc⟩
theorem Ni.here {Z : Nat → Prop} {w : World} {zs : List Int} {nv : Value} (h : Ni w Z zs nv) : Ni w (· < w.heap.size) zs nv := by
  obtain ⟨p, cap, e, hf, hn⟩ := h
  exact ⟨p, cap, e, hf.here, hn⟩
theorem fl_range {Z : Nat → Prop} {w : World} {b o : Nat} {cells : List Value} (h : Fl w Z (some ⟨b, o, none⟩) cells) (i n : Nat) : w.rangeAt b (o + i) ((cells.drop i).take n) := fun j v hv => by
  have hj : j < n := by
    have := (List.getElem?_eq_some_iff.1 hv).1
    rw [List.length_take] at this
    omega
  rw [List.getElem?_take_of_lt hj, List.getElem?_drop] at hv
  obtain ⟨b', o', e, _, hc⟩ := h (i + j) v hv
  cases e
  rwa [Nat.add_assoc]
theorem vflat_nth : ∀ (l : List (Vo × Value)) (k : Nat) (h : k < l.length), ((vflat l).drop (k * 14)).take 14 = vcell l[k].1 l[k].2
  | [], k, h => absurd h (Nat.not_lt_zero _)
  | x :: l, 0, _ => by rfl
  | x :: l, k + 1, h => by
    have := vflat_nth l k (by simpa using h)
    show ((vcell x.1 x.2 ++ vflat l).drop ((k + 1) * 14)).take 14 = _
    rw [List.drop_append, List.drop_of_length_le (by simp; omega), List.nil_append]
    have e : (k + 1) * 14 - (vcell x.1 x.2).length = k * 14 := by simp; omega
    rw [e, this]
    rfl

end Go.Proofs.Ytjbgpbafgpdciaa
