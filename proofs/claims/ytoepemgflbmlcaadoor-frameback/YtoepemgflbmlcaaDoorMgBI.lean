/- Texts of this proof, joined: Oy, Oz. -/
import Derived.Test.YtoepemgflbmlcaaDoorMgAP
import Derived.Test.YtoepemgflbmlcaaDoorMgBH
/- msgReader: its regions of numbers (laid by scripts/mkoy.py). -/
namespace Go.Proofs.YtoepemgflbmlcaaDoor
set_option linter.unusedVariables false
set_option linter.unusedSimpArgs false
open Go.RowKit Go.Deep

def rv2V (r g : Nat) (xs : List Nat) : Nat → Value
  | 0 => .pointer (some ⟨r, 0, none⟩)
  | 1 => .pointer (some ⟨r, 0, none⟩)
  | 2 => .pointer (some ⟨r, 0, none⟩)
  | 3 => .pointer (some ⟨r, 0, none⟩)
  | 4 => .int .i64 (seqV xs 0 : Int)
  | 5 => .pointer (some ⟨r, 0, none⟩)
  | 6 => .pointer (some ⟨r, 0, none⟩)
  | 7 => .pointer (some ⟨r, 0, none⟩)
  | 8 => .pointer (some ⟨r, 0, none⟩)
  | 9 => .int .i64 (seqV xs 1 : Int)
  | 10 => .pointer (some ⟨g, 0, none⟩)
  | 11 => undef
  | 12 => .pointer (some ⟨g, 1, none⟩)
  | 13 => undef
  | _ => undef
def rv2R (r g : Nat) (xs : List Nat) (i : Nat) (v : Value) (w : World) : Prop := match i with
  | 11 => True
  | 13 => True
  | i => v = rv2V r g xs i
def rv2D (k : Nat) : Nat := [4, 5, 6, 7, 8, 9, 10, 11, 12, 13, 14, 33, 15, 35].getD k 0
def rv2B (r g : Nat) (y2 : Value) (a : Act) : Prop := a.eval (.tmp 0) = .pointer (some ⟨r, 0, none⟩) ∧ a.eval (.tmp 2) = y2 ∧ a.eval (.tmp 3) = .pointer (some ⟨g, 0, none⟩) ∧ a.defers = []
theorem rv2D_ne : ∀ k, k < 14 → rv2D k ≠ 0 ∧ rv2D k ≠ 2 ∧ rv2D k ≠ 3 := by decide
theorem rv2B_put (r g : Nat) (y2 : Value) (k : Nat) (v : Value) (a : Act) (hk : k < 14) (h : rv2B r g y2 a) : rv2B r g y2 (a.put (some (rv2D k)) v) := by
  have hne := rv2D_ne k hk
  refine ⟨?_, ?_, ?_, h.2.2.2⟩
  · rw [← h.1]
    show (a.tmps.setIfInBounds (rv2D k) v).getD 0 undef = a.tmps.getD 0 undef
    simp [Array.getElem?_setIfInBounds_ne (hne.1)]
  · rw [← h.2.1]
    show (a.tmps.setIfInBounds (rv2D k) v).getD 2 undef = a.tmps.getD 2 undef
    simp [Array.getElem?_setIfInBounds_ne (hne.2.1)]
  · rw [← h.2.2.1]
    show (a.tmps.setIfInBounds (rv2D k) v).getD 3 undef = a.tmps.getD 3 undef
    simp [Array.getElem?_setIfInBounds_ne (hne.2.2)]
theorem rv2D_inj : ∀ i, i < 14 → ∀ j, j < 14 → rv2D i = rv2D j → i = j := by decide
def rv2T : List (Oper × List Nat) := [(⟨some 4, Op.move (Operand.tmp 0), 95, "", #[], none⟩, []), (⟨some 5, Op.nilCheck (Operand.tmp 4), 0, "", #[], none⟩, [0]), (⟨some 6, Op.fieldAddr 74 (Operand.tmp 5) 0, 0, "", #[], none⟩, [1]), (⟨some 7, Op.fieldAddr 59 (Operand.tmp 6) 0, 0, "", #[], none⟩, [2]), (⟨some 8, Op.call { callee := Callee.value (Operand.func 56), args := #[Operand.tmp 7], argTypes := #[57] }, 3, "", #[], none⟩, [3]), (⟨some 9, Op.move (Operand.tmp 0), 95, "", #[], none⟩, []), (⟨some 10, Op.nilCheck (Operand.tmp 9), 0, "", #[], none⟩, [5]), (⟨some 11, Op.fieldAddr 74 (Operand.tmp 10) 0, 0, "", #[], none⟩, [6]), (⟨some 12, Op.fieldAddr 59 (Operand.tmp 11) 0, 0, "", #[], none⟩, [7]), (⟨some 13, Op.call { callee := Callee.value (Operand.func 56), args := #[Operand.tmp 12], argTypes := #[57] }, 3, "", #[], none⟩, [8, 4]), (⟨some 14, Op.fieldAddr 72 (Operand.tmp 3) 0, 0, "", #[], none⟩, [0, 1, 2, 3, 4]), (⟨none, Op.store 3 (Operand.tmp 14) (Operand.tmp 8), 0, "", #[], none⟩, [10, 4, 9, 0, 1, 2, 3, 4]), (⟨some 15, Op.fieldAddr 72 (Operand.tmp 3) 1, 0, "", #[], none⟩, [0, 1, 2, 3, 4, 5, 6, 7, 8, 9, 10, 11]), (⟨none, Op.store 3 (Operand.tmp 15) (Operand.tmp 13), 0, "", #[], none⟩, [12, 9, 11, 0, 1, 2, 3, 4, 5, 6, 7, 8, 9, 10, 11])]
def rv2C (Z : Nat → Prop) (r g : Nat) (xs : List Nat) (cs : List Value) (w0 : World) (y2 : Value) : Chn := { n := 22, B := rv2B r g y2, R := rv2R r g xs, D := rv2D, pos := posOf [4, 9, 11, 13], N := 4, W := NW Z 2 r g xs cs [0, 1] w0, T := rv2T }

theorem rv2D_mem : ∀ k, k < 14 → ∀ t, rv2D k = t → t < 22 → t ∈ [4, 5, 6, 7, 8, 9, 10, 11, 12, 13, 14, 15] := by
  intro k hk t e ht
  subst e
  revert ht
  revert k
  decide
set_option maxRecDepth 100000 in
theorem rv2_e0 (r g : Nat) (xs : List Nat) (ev : Operand → Value) (z : World) (ec : ∀ c, ev (.const c) = c) (e0 : ev (.tmp 0) = .pointer (some ⟨r, 0, none⟩)) : (execOp ev ⟨some 4, Op.move (Operand.tmp 0), 95, "", #[], none⟩).run Tryd.prog z = .ok (.value (.pointer (some ⟨r, 0, none⟩))) z := by
  go_simp
set_option maxRecDepth 100000 in
theorem rv2_s0 {Q : Exit → Act → World → Prop} (Z : Nat → Prop) (r g : Nat) (xs : List Nat) (cs : List Value) (w0 : World) (y2 : Value) (hb : ∀ x ∈ xs, x < 256) (hrg : r ≠ g) (hZg : ¬ Z g) (hcs : 2 ≤ cs.length) (hpan : ∀ a w, rv2B r g y2 a → Kp (fun b => b = r ∨ b = g) w0 w → seqN xs 2 = none → Q (.panic gaveUp) a w) : (rv2C Z r g xs cs w0 y2).Step Tryd.prog Q 0 ⟨some 4, Op.move (Operand.tmp 0), 95, "", #[], none⟩ [] := by
  refine Chn.pure _ rfl rfl (show 4 < 22 by decide) (by decide) rfl ?_
  intro a w m hn hB hW hdm hup hd K hK
  have e0 : a.eval (.tmp 0) = .pointer (some ⟨r, 0, none⟩) := hB.1
  exact run_value (rv2_e0 r g xs _ w (fun _ => rfl) e0) (hK.out _ w (Kp.refl _ _) rfl)
set_option maxRecDepth 100000 in
theorem rv2_e1 (r g : Nat) (xs : List Nat) (ev : Operand → Value) (z : World) (ec : ∀ c, ev (.const c) = c) (e4 : ev (.tmp 4) = .pointer (some ⟨r, 0, none⟩)) : (execOp ev ⟨some 5, Op.nilCheck (Operand.tmp 4), 0, "", #[], none⟩).run Tryd.prog z = .ok (.value (.pointer (some ⟨r, 0, none⟩))) z := by
  go_simp
set_option maxRecDepth 100000 in
theorem rv2_s1 {Q : Exit → Act → World → Prop} (Z : Nat → Prop) (r g : Nat) (xs : List Nat) (cs : List Value) (w0 : World) (y2 : Value) (hb : ∀ x ∈ xs, x < 256) (hrg : r ≠ g) (hZg : ¬ Z g) (hcs : 2 ≤ cs.length) (hpan : ∀ a w, rv2B r g y2 a → Kp (fun b => b = r ∨ b = g) w0 w → seqN xs 2 = none → Q (.panic gaveUp) a w) : (rv2C Z r g xs cs w0 y2).Step Tryd.prog Q 1 ⟨some 5, Op.nilCheck (Operand.tmp 4), 0, "", #[], none⟩ [0] := by
  refine Chn.pure _ rfl rfl (show 5 < 22 by decide) (by decide) rfl ?_
  intro a w m hn hB hW hdm hup hd K hK
  have e4 : a.eval (.tmp 4) = .pointer (some ⟨r, 0, none⟩) := hd 0 (by decide)
  exact run_value (rv2_e1 r g xs _ w (fun _ => rfl) e4) (hK.out _ w (Kp.refl _ _) rfl)
set_option maxRecDepth 100000 in
theorem rv2_e2 (r g : Nat) (xs : List Nat) (ev : Operand → Value) (z : World) (ec : ∀ c, ev (.const c) = c) (e5 : ev (.tmp 5) = .pointer (some ⟨r, 0, none⟩)) : (execOp ev ⟨some 6, Op.fieldAddr 74 (Operand.tmp 5) 0, 0, "", #[], none⟩).run Tryd.prog z = .ok (.value (.pointer (some ⟨r, 0, none⟩))) z := by
  go_simp
set_option maxRecDepth 100000 in
theorem rv2_s2 {Q : Exit → Act → World → Prop} (Z : Nat → Prop) (r g : Nat) (xs : List Nat) (cs : List Value) (w0 : World) (y2 : Value) (hb : ∀ x ∈ xs, x < 256) (hrg : r ≠ g) (hZg : ¬ Z g) (hcs : 2 ≤ cs.length) (hpan : ∀ a w, rv2B r g y2 a → Kp (fun b => b = r ∨ b = g) w0 w → seqN xs 2 = none → Q (.panic gaveUp) a w) : (rv2C Z r g xs cs w0 y2).Step Tryd.prog Q 2 ⟨some 6, Op.fieldAddr 74 (Operand.tmp 5) 0, 0, "", #[], none⟩ [1] := by
  refine Chn.pure _ rfl rfl (show 6 < 22 by decide) (by decide) rfl ?_
  intro a w m hn hB hW hdm hup hd K hK
  have e5 : a.eval (.tmp 5) = .pointer (some ⟨r, 0, none⟩) := hd 1 (by decide)
  exact run_value (rv2_e2 r g xs _ w (fun _ => rfl) e5) (hK.out _ w (Kp.refl _ _) rfl)
set_option maxRecDepth 100000 in
theorem rv2_e3 (r g : Nat) (xs : List Nat) (ev : Operand → Value) (z : World) (ec : ∀ c, ev (.const c) = c) (e6 : ev (.tmp 6) = .pointer (some ⟨r, 0, none⟩)) : (execOp ev ⟨some 7, Op.fieldAddr 59 (Operand.tmp 6) 0, 0, "", #[], none⟩).run Tryd.prog z = .ok (.value (.pointer (some ⟨r, 0, none⟩))) z := by
  go_simp
set_option maxRecDepth 100000 in
theorem rv2_s3 {Q : Exit → Act → World → Prop} (Z : Nat → Prop) (r g : Nat) (xs : List Nat) (cs : List Value) (w0 : World) (y2 : Value) (hb : ∀ x ∈ xs, x < 256) (hrg : r ≠ g) (hZg : ¬ Z g) (hcs : 2 ≤ cs.length) (hpan : ∀ a w, rv2B r g y2 a → Kp (fun b => b = r ∨ b = g) w0 w → seqN xs 2 = none → Q (.panic gaveUp) a w) : (rv2C Z r g xs cs w0 y2).Step Tryd.prog Q 3 ⟨some 7, Op.fieldAddr 59 (Operand.tmp 6) 0, 0, "", #[], none⟩ [2] := by
  refine Chn.pure _ rfl rfl (show 7 < 22 by decide) (by decide) rfl ?_
  intro a w m hn hB hW hdm hup hd K hK
  have e6 : a.eval (.tmp 6) = .pointer (some ⟨r, 0, none⟩) := hd 2 (by decide)
  exact run_value (rv2_e3 r g xs _ w (fun _ => rfl) e6) (hK.out _ w (Kp.refl _ _) rfl)
set_option maxRecDepth 100000 in
theorem rv2_e4 (r g : Nat) (xs : List Nat) (ev : Operand → Value) (z : World) (ec : ∀ c, ev (.const c) = c) (ef : ∀ f, ev (.func f) = .func (.func f) #[] #[]) (e7 : ev (.tmp 7) = .pointer (some ⟨r, 0, none⟩)) : (execOp ev ⟨some 8, Op.call { callee := Callee.value (Operand.func 56), args := #[Operand.tmp 7], argTypes := #[57] }, 3, "", #[], none⟩).run Tryd.prog z = .ok (.enter 56 #[.pointer (some ⟨r, 0, none⟩)]) z := enter_run _ (ef _) (by simp only [List.map_toArray, List.map_cons, List.map_nil, ec, ef, e7]) (fun _ => by rfl)
set_option maxRecDepth 100000 in
theorem rv2_s4 {Q : Exit → Act → World → Prop} (Z : Nat → Prop) (r g : Nat) (xs : List Nat) (cs : List Value) (w0 : World) (y2 : Value) (hb : ∀ x ∈ xs, x < 256) (hrg : r ≠ g) (hZg : ¬ Z g) (hcs : 2 ≤ cs.length) (hpan : ∀ a w, rv2B r g y2 a → Kp (fun b => b = r ∨ b = g) w0 w → seqN xs 2 = none → Q (.panic gaveUp) a w) : (rv2C Z r g xs cs w0 y2).Step Tryd.prog Q 4 ⟨some 8, Op.call { callee := Callee.value (Operand.func 56), args := #[Operand.tmp 7], argTypes := #[57] }, 3, "", #[], none⟩ [3] := by
  refine Chn.link _ 0 rfl (fun q hq => by omega) (show 0 < 4 by decide) (Or.inl ⟨rfl, show 8 < 22 by decide⟩) (by decide) rfl ?_
  intro a w hn hB hW hd K hK
  have e7 : a.eval (.tmp 7) = .pointer (some ⟨r, 0, none⟩) := hd 3 (by decide)
  refine wp_enterP (rv2_e4 r g xs _ w (fun _ => rfl) (fun _ => rfl) e7) (NW.call (Z := Z) (g := g) (cs := cs) (offs := [0, 1]) (w0 := w0) (k := 2) (j := 0) hW (by decide) hb hrg hZg) ?_
  rintro e9 w9 (⟨rfl, h9⟩ | ⟨rfl, h9, h8⟩)
  · exact Or.inl ⟨_, rfl, hK.out _ _ h9 (fun _ _ _ h => h) rfl⟩
  · exact Or.inr ⟨_, rfl, hpan a w9 hB h9 (seqN_none h8 (by decide))⟩
set_option maxRecDepth 100000 in
theorem rv2_e5 (r g : Nat) (xs : List Nat) (ev : Operand → Value) (z : World) (ec : ∀ c, ev (.const c) = c) (e0 : ev (.tmp 0) = .pointer (some ⟨r, 0, none⟩)) : (execOp ev ⟨some 9, Op.move (Operand.tmp 0), 95, "", #[], none⟩).run Tryd.prog z = .ok (.value (.pointer (some ⟨r, 0, none⟩))) z := by
  go_simp
set_option maxRecDepth 100000 in
theorem rv2_s5 {Q : Exit → Act → World → Prop} (Z : Nat → Prop) (r g : Nat) (xs : List Nat) (cs : List Value) (w0 : World) (y2 : Value) (hb : ∀ x ∈ xs, x < 256) (hrg : r ≠ g) (hZg : ¬ Z g) (hcs : 2 ≤ cs.length) (hpan : ∀ a w, rv2B r g y2 a → Kp (fun b => b = r ∨ b = g) w0 w → seqN xs 2 = none → Q (.panic gaveUp) a w) : (rv2C Z r g xs cs w0 y2).Step Tryd.prog Q 5 ⟨some 9, Op.move (Operand.tmp 0), 95, "", #[], none⟩ [] := by
  refine Chn.pure _ rfl rfl (show 9 < 22 by decide) (by decide) rfl ?_
  intro a w m hn hB hW hdm hup hd K hK
  have e0 : a.eval (.tmp 0) = .pointer (some ⟨r, 0, none⟩) := hB.1
  exact run_value (rv2_e5 r g xs _ w (fun _ => rfl) e0) (hK.out _ w (Kp.refl _ _) rfl)
set_option maxRecDepth 100000 in
theorem rv2_e6 (r g : Nat) (xs : List Nat) (ev : Operand → Value) (z : World) (ec : ∀ c, ev (.const c) = c) (e9 : ev (.tmp 9) = .pointer (some ⟨r, 0, none⟩)) : (execOp ev ⟨some 10, Op.nilCheck (Operand.tmp 9), 0, "", #[], none⟩).run Tryd.prog z = .ok (.value (.pointer (some ⟨r, 0, none⟩))) z := by
  go_simp
set_option maxRecDepth 100000 in
theorem rv2_s6 {Q : Exit → Act → World → Prop} (Z : Nat → Prop) (r g : Nat) (xs : List Nat) (cs : List Value) (w0 : World) (y2 : Value) (hb : ∀ x ∈ xs, x < 256) (hrg : r ≠ g) (hZg : ¬ Z g) (hcs : 2 ≤ cs.length) (hpan : ∀ a w, rv2B r g y2 a → Kp (fun b => b = r ∨ b = g) w0 w → seqN xs 2 = none → Q (.panic gaveUp) a w) : (rv2C Z r g xs cs w0 y2).Step Tryd.prog Q 6 ⟨some 10, Op.nilCheck (Operand.tmp 9), 0, "", #[], none⟩ [5] := by
  refine Chn.pure _ rfl rfl (show 10 < 22 by decide) (by decide) rfl ?_
  intro a w m hn hB hW hdm hup hd K hK
  have e9 : a.eval (.tmp 9) = .pointer (some ⟨r, 0, none⟩) := hd 5 (by decide)
  exact run_value (rv2_e6 r g xs _ w (fun _ => rfl) e9) (hK.out _ w (Kp.refl _ _) rfl)
set_option maxRecDepth 100000 in
theorem rv2_e7 (r g : Nat) (xs : List Nat) (ev : Operand → Value) (z : World) (ec : ∀ c, ev (.const c) = c) (e10 : ev (.tmp 10) = .pointer (some ⟨r, 0, none⟩)) : (execOp ev ⟨some 11, Op.fieldAddr 74 (Operand.tmp 10) 0, 0, "", #[], none⟩).run Tryd.prog z = .ok (.value (.pointer (some ⟨r, 0, none⟩))) z := by
  go_simp
set_option maxRecDepth 100000 in
theorem rv2_s7 {Q : Exit → Act → World → Prop} (Z : Nat → Prop) (r g : Nat) (xs : List Nat) (cs : List Value) (w0 : World) (y2 : Value) (hb : ∀ x ∈ xs, x < 256) (hrg : r ≠ g) (hZg : ¬ Z g) (hcs : 2 ≤ cs.length) (hpan : ∀ a w, rv2B r g y2 a → Kp (fun b => b = r ∨ b = g) w0 w → seqN xs 2 = none → Q (.panic gaveUp) a w) : (rv2C Z r g xs cs w0 y2).Step Tryd.prog Q 7 ⟨some 11, Op.fieldAddr 74 (Operand.tmp 10) 0, 0, "", #[], none⟩ [6] := by
  refine Chn.pure _ rfl rfl (show 11 < 22 by decide) (by decide) rfl ?_
  intro a w m hn hB hW hdm hup hd K hK
  have e10 : a.eval (.tmp 10) = .pointer (some ⟨r, 0, none⟩) := hd 6 (by decide)
  exact run_value (rv2_e7 r g xs _ w (fun _ => rfl) e10) (hK.out _ w (Kp.refl _ _) rfl)
set_option maxRecDepth 100000 in
theorem rv2_e8 (r g : Nat) (xs : List Nat) (ev : Operand → Value) (z : World) (ec : ∀ c, ev (.const c) = c) (e11 : ev (.tmp 11) = .pointer (some ⟨r, 0, none⟩)) : (execOp ev ⟨some 12, Op.fieldAddr 59 (Operand.tmp 11) 0, 0, "", #[], none⟩).run Tryd.prog z = .ok (.value (.pointer (some ⟨r, 0, none⟩))) z := by
  go_simp
set_option maxRecDepth 100000 in
theorem rv2_s8 {Q : Exit → Act → World → Prop} (Z : Nat → Prop) (r g : Nat) (xs : List Nat) (cs : List Value) (w0 : World) (y2 : Value) (hb : ∀ x ∈ xs, x < 256) (hrg : r ≠ g) (hZg : ¬ Z g) (hcs : 2 ≤ cs.length) (hpan : ∀ a w, rv2B r g y2 a → Kp (fun b => b = r ∨ b = g) w0 w → seqN xs 2 = none → Q (.panic gaveUp) a w) : (rv2C Z r g xs cs w0 y2).Step Tryd.prog Q 8 ⟨some 12, Op.fieldAddr 59 (Operand.tmp 11) 0, 0, "", #[], none⟩ [7] := by
  refine Chn.pure _ rfl rfl (show 12 < 22 by decide) (by decide) rfl ?_
  intro a w m hn hB hW hdm hup hd K hK
  have e11 : a.eval (.tmp 11) = .pointer (some ⟨r, 0, none⟩) := hd 7 (by decide)
  exact run_value (rv2_e8 r g xs _ w (fun _ => rfl) e11) (hK.out _ w (Kp.refl _ _) rfl)
set_option maxRecDepth 100000 in
theorem rv2_e9 (r g : Nat) (xs : List Nat) (ev : Operand → Value) (z : World) (ec : ∀ c, ev (.const c) = c) (ef : ∀ f, ev (.func f) = .func (.func f) #[] #[]) (e12 : ev (.tmp 12) = .pointer (some ⟨r, 0, none⟩)) : (execOp ev ⟨some 13, Op.call { callee := Callee.value (Operand.func 56), args := #[Operand.tmp 12], argTypes := #[57] }, 3, "", #[], none⟩).run Tryd.prog z = .ok (.enter 56 #[.pointer (some ⟨r, 0, none⟩)]) z := enter_run _ (ef _) (by simp only [List.map_toArray, List.map_cons, List.map_nil, ec, ef, e12]) (fun _ => by rfl)
set_option maxRecDepth 100000 in
theorem rv2_s9 {Q : Exit → Act → World → Prop} (Z : Nat → Prop) (r g : Nat) (xs : List Nat) (cs : List Value) (w0 : World) (y2 : Value) (hb : ∀ x ∈ xs, x < 256) (hrg : r ≠ g) (hZg : ¬ Z g) (hcs : 2 ≤ cs.length) (hpan : ∀ a w, rv2B r g y2 a → Kp (fun b => b = r ∨ b = g) w0 w → seqN xs 2 = none → Q (.panic gaveUp) a w) : (rv2C Z r g xs cs w0 y2).Step Tryd.prog Q 9 ⟨some 13, Op.call { callee := Callee.value (Operand.func 56), args := #[Operand.tmp 12], argTypes := #[57] }, 3, "", #[], none⟩ [8, 4] := by
  refine Chn.link _ 1 rfl (prevOf 4 0 (by decide) rfl) (show 1 < 4 by decide) (Or.inl ⟨rfl, show 13 < 22 by decide⟩) (by decide) rfl ?_
  intro a w hn hB hW hd K hK
  have e12 : a.eval (.tmp 12) = .pointer (some ⟨r, 0, none⟩) := hd 8 (by decide)
  refine wp_enterP (rv2_e9 r g xs _ w (fun _ => rfl) (fun _ => rfl) e12) (NW.call (Z := Z) (g := g) (cs := cs) (offs := [0, 1]) (w0 := w0) (k := 2) (j := 1) hW (by decide) hb hrg hZg) ?_
  rintro e9 w9 (⟨rfl, h9⟩ | ⟨rfl, h9, h8⟩)
  · exact Or.inl ⟨_, rfl, hK.out _ _ h9 (fun _ _ _ h => h) rfl⟩
  · exact Or.inr ⟨_, rfl, hpan a w9 hB h9 (seqN_none h8 (by decide))⟩
set_option maxRecDepth 100000 in
theorem rv2_e10 (r g : Nat) (xs : List Nat) (ev : Operand → Value) (z : World) (ec : ∀ c, ev (.const c) = c) (e3 : ev (.tmp 3) = .pointer (some ⟨g, 0, none⟩)) : (execOp ev ⟨some 14, Op.fieldAddr 72 (Operand.tmp 3) 0, 0, "", #[], none⟩).run Tryd.prog z = .ok (.value (.pointer (some ⟨g, 0, none⟩))) z := by
  go_simp
set_option maxRecDepth 100000 in
theorem rv2_s10 {Q : Exit → Act → World → Prop} (Z : Nat → Prop) (r g : Nat) (xs : List Nat) (cs : List Value) (w0 : World) (y2 : Value) (hb : ∀ x ∈ xs, x < 256) (hrg : r ≠ g) (hZg : ¬ Z g) (hcs : 2 ≤ cs.length) (hpan : ∀ a w, rv2B r g y2 a → Kp (fun b => b = r ∨ b = g) w0 w → seqN xs 2 = none → Q (.panic gaveUp) a w) : (rv2C Z r g xs cs w0 y2).Step Tryd.prog Q 10 ⟨some 14, Op.fieldAddr 72 (Operand.tmp 3) 0, 0, "", #[], none⟩ [0, 1, 2, 3, 4] := by
  refine Chn.pure _ rfl rfl (show 14 < 22 by decide) (by decide) rfl ?_
  intro a w m hn hB hW hdm hup hd K hK
  have e3 : a.eval (.tmp 3) = .pointer (some ⟨g, 0, none⟩) := hB.2.2.1
  exact run_value (rv2_e10 r g xs _ w (fun _ => rfl) e3) (hK.out _ w (Kp.refl _ _) rfl)
set_option maxRecDepth 100000 in
theorem rv2_e11 (r g : Nat) (xs : List Nat) (ev : Operand → Value) (z : World) (ec : ∀ c, ev (.const c) = c) (e8 : ev (.tmp 8) = .int .i64 (seqV xs 0 : Int)) (e14 : ev (.tmp 14) = .pointer (some ⟨g, 0, none⟩)) {u : Value} (hu : z.cell? ⟨g, 0, none⟩ = some u) (hf : z.frozen? ⟨g, 0, none⟩ = false) : (execOp ev ⟨none, Op.store 3 (Operand.tmp 14) (Operand.tmp 8), 0, "", #[], none⟩).run Tryd.prog z = .ok .skip (z.setCell ⟨g, 0, none⟩ (.int .i64 (seqV xs 0 : Int))) := by
  go_simp
set_option maxRecDepth 100000 in
theorem rv2_s11 {Q : Exit → Act → World → Prop} (Z : Nat → Prop) (r g : Nat) (xs : List Nat) (cs : List Value) (w0 : World) (y2 : Value) (hb : ∀ x ∈ xs, x < 256) (hrg : r ≠ g) (hZg : ¬ Z g) (hcs : 2 ≤ cs.length) (hpan : ∀ a w, rv2B r g y2 a → Kp (fun b => b = r ∨ b = g) w0 w → seqN xs 2 = none → Q (.panic gaveUp) a w) : (rv2C Z r g xs cs w0 y2).Step Tryd.prog Q 11 ⟨none, Op.store 3 (Operand.tmp 14) (Operand.tmp 8), 0, "", #[], none⟩ [10, 4, 9, 0, 1, 2, 3, 4] := by
  refine Chn.link _ 2 rfl (prevOf 9 1 (by decide) rfl) (show 2 < 4 by decide) (Or.inr ⟨rfl, show 22 ≤ 33 by decide, fun _ _ => trivial⟩) (by decide) rfl ?_
  intro a w hn hB hW hd K hK
  have e8 : a.eval (.tmp 8) = .int .i64 (seqV xs 0 : Int) := hd 4 (by decide)
  have e14 : a.eval (.tmp 14) = .pointer (some ⟨g, 0, none⟩) := hd 10 (by decide)
  obtain ⟨⟨u, hu⟩, hf, hN⟩ := NW.store (Z := Z) (k := 2) (r := r) (g := g) (xs := xs) (cs := cs) (offs := [0, 1]) (w0 := w0) (j := 2) hW 0 0 rfl rfl (by omega) hrg hZg
  exact run_skip rfl (rv2_e11 r g xs _ w (fun _ => rfl) e8 e14 hu hf) (fun v => hK.out v _ hN (fun _ _ _ h => h) trivial)
set_option maxRecDepth 100000 in
theorem rv2_e12 (r g : Nat) (xs : List Nat) (ev : Operand → Value) (z : World) (ec : ∀ c, ev (.const c) = c) (e3 : ev (.tmp 3) = .pointer (some ⟨g, 0, none⟩)) : (execOp ev ⟨some 15, Op.fieldAddr 72 (Operand.tmp 3) 1, 0, "", #[], none⟩).run Tryd.prog z = .ok (.value (.pointer (some ⟨g, 1, none⟩))) z := by
  go_simp
set_option maxRecDepth 100000 in
theorem rv2_s12 {Q : Exit → Act → World → Prop} (Z : Nat → Prop) (r g : Nat) (xs : List Nat) (cs : List Value) (w0 : World) (y2 : Value) (hb : ∀ x ∈ xs, x < 256) (hrg : r ≠ g) (hZg : ¬ Z g) (hcs : 2 ≤ cs.length) (hpan : ∀ a w, rv2B r g y2 a → Kp (fun b => b = r ∨ b = g) w0 w → seqN xs 2 = none → Q (.panic gaveUp) a w) : (rv2C Z r g xs cs w0 y2).Step Tryd.prog Q 12 ⟨some 15, Op.fieldAddr 72 (Operand.tmp 3) 1, 0, "", #[], none⟩ [0, 1, 2, 3, 4, 5, 6, 7, 8, 9, 10, 11] := by
  refine Chn.pure _ rfl rfl (show 15 < 22 by decide) (by decide) rfl ?_
  intro a w m hn hB hW hdm hup hd K hK
  have e3 : a.eval (.tmp 3) = .pointer (some ⟨g, 0, none⟩) := hB.2.2.1
  exact run_value (rv2_e12 r g xs _ w (fun _ => rfl) e3) (hK.out _ w (Kp.refl _ _) rfl)
set_option maxRecDepth 100000 in
theorem rv2_e13 (r g : Nat) (xs : List Nat) (ev : Operand → Value) (z : World) (ec : ∀ c, ev (.const c) = c) (e13 : ev (.tmp 13) = .int .i64 (seqV xs 1 : Int)) (e15 : ev (.tmp 15) = .pointer (some ⟨g, 1, none⟩)) {u : Value} (hu : z.cell? ⟨g, 1, none⟩ = some u) (hf : z.frozen? ⟨g, 1, none⟩ = false) : (execOp ev ⟨none, Op.store 3 (Operand.tmp 15) (Operand.tmp 13), 0, "", #[], none⟩).run Tryd.prog z = .ok .skip (z.setCell ⟨g, 1, none⟩ (.int .i64 (seqV xs 1 : Int))) := by
  go_simp
set_option maxRecDepth 100000 in
theorem rv2_s13 {Q : Exit → Act → World → Prop} (Z : Nat → Prop) (r g : Nat) (xs : List Nat) (cs : List Value) (w0 : World) (y2 : Value) (hb : ∀ x ∈ xs, x < 256) (hrg : r ≠ g) (hZg : ¬ Z g) (hcs : 2 ≤ cs.length) (hpan : ∀ a w, rv2B r g y2 a → Kp (fun b => b = r ∨ b = g) w0 w → seqN xs 2 = none → Q (.panic gaveUp) a w) : (rv2C Z r g xs cs w0 y2).Step Tryd.prog Q 13 ⟨none, Op.store 3 (Operand.tmp 15) (Operand.tmp 13), 0, "", #[], none⟩ [12, 9, 11, 0, 1, 2, 3, 4, 5, 6, 7, 8, 9, 10, 11] := by
  refine Chn.link _ 3 rfl (prevOf 11 2 (by decide) rfl) (show 3 < 4 by decide) (Or.inr ⟨rfl, show 22 ≤ 35 by decide, fun _ _ => trivial⟩) (by decide) rfl ?_
  intro a w hn hB hW hd K hK
  have e13 : a.eval (.tmp 13) = .int .i64 (seqV xs 1 : Int) := hd 9 (by decide)
  have e15 : a.eval (.tmp 15) = .pointer (some ⟨g, 1, none⟩) := hd 12 (by decide)
  obtain ⟨⟨u, hu⟩, hf, hN⟩ := NW.store (Z := Z) (k := 2) (r := r) (g := g) (xs := xs) (cs := cs) (offs := [0, 1]) (w0 := w0) (j := 3) hW 1 1 rfl rfl (by omega) hrg hZg
  exact run_skip rfl (rv2_e13 r g xs _ w (fun _ => rfl) e13 e15 hu hf) (fun v => hK.out v _ hN (fun _ _ _ h => h) trivial)
theorem rv2_steps {Q : Exit → Act → World → Prop} (Z : Nat → Prop) (r g : Nat) (xs : List Nat) (cs : List Value) (w0 : World) (y2 : Value) (hb : ∀ x ∈ xs, x < 256) (hrg : r ≠ g) (hZg : ¬ Z g) (hcs : 2 ≤ cs.length) (hpan : ∀ a w, rv2B r g y2 a → Kp (fun b => b = r ∨ b = g) w0 w → seqN xs 2 = none → Q (.panic gaveUp) a w) : (rv2C Z r g xs cs w0 y2).Steps Tryd.prog Q 0 rv2T := ⟨rv2_s0 Z r g xs cs w0 y2 hb hrg hZg hcs hpan, rv2_s1 Z r g xs cs w0 y2 hb hrg hZg hcs hpan, rv2_s2 Z r g xs cs w0 y2 hb hrg hZg hcs hpan, rv2_s3 Z r g xs cs w0 y2 hb hrg hZg hcs hpan, rv2_s4 Z r g xs cs w0 y2 hb hrg hZg hcs hpan, rv2_s5 Z r g xs cs w0 y2 hb hrg hZg hcs hpan, rv2_s6 Z r g xs cs w0 y2 hb hrg hZg hcs hpan, rv2_s7 Z r g xs cs w0 y2 hb hrg hZg hcs hpan, rv2_s8 Z r g xs cs w0 y2 hb hrg hZg hcs hpan, rv2_s9 Z r g xs cs w0 y2 hb hrg hZg hcs hpan, rv2_s10 Z r g xs cs w0 y2 hb hrg hZg hcs hpan, rv2_s11 Z r g xs cs w0 y2 hb hrg hZg hcs hpan, rv2_s12 Z r g xs cs w0 y2 hb hrg hZg hcs hpan, rv2_s13 Z r g xs cs w0 y2 hb hrg hZg hcs hpan, trivial⟩
/-- the region: the numbers are read and laid into the struct, or it gives up -/
theorem rv2_region {ops : Array Oper} {rid : Nat} {Q : Exit → Act → World → Prop} {a : Act} {y : World} (Z : Nat → Prop) (r g : Nat) (xs : List Nat) (cs : List Value) (y2 : Value) (hT : ops.toList.map (fun o => (bare o, deps o)) = rv2T) (hn : a.tmps.size = 22) (hB : rv2B r g y2 a)
    (hb : ∀ x ∈ xs, x < 256) (hrg : r ≠ g) (hZg : ¬ Z g) (hcs : 2 ≤ cs.length) (hc : Cu Z y r xs) (hl : Lv y g cs)
    (hpan : ∀ a w, rv2B r g y2 a → Kp (fun b => b = r ∨ b = g) y w → seqN xs 2 = none → Q (.panic gaveUp) a w)
    (hend : ∀ q4 q5 q6 q7 q8 q9 q10 q11 q12 q13 q14 q15 w t, Kp (fun b => b = r ∨ b = g) y w → seqN xs 2 = some t → Cu Z w r t → Lv w g (setsN xs 0 [0, 1] cs) → Q .normal ((((((((((((a.put (some 4) q4).put (some 5) q5).put (some 6) q6).put (some 7) q7).put (some 8) q8).put (some 9) q9).put (some 10) q10).put (some 11) q11).put (some 12) q12).put (some 13) q13).put (some 14) q14).put (some 15) q15) w) : (Code.region rid ops true).wp Tryd.prog Q a y := by
  have kd : Kp (fun b => b = r ∨ b = g) y y.drew := (Kp.refl _ _).drew
  have k0 : Kp (fun _ => False) y y.drew := (Kp.refl _ _).drew
  refine chain_region (rv2C Z r g xs cs y.drew y2) (by kernel_rfl) hT hn hB (fun k v a hk _ h => rv2B_put r g y2 k v a hk h) (fun i j h1 h2 => rv2D_inj i h1 j h2) (fun i j p h1 h2 => posOf_inj _ i j p) (posOf_at [4, 9, 11, 13] 14 (by decide) (by decide)) ?_ (fun m w w' hk h => NW.grow h hk) (fun i v w w' hk h => h) (rv2_steps Z r g xs cs y.drew y2 hb hrg hZg hcs (fun a w h1 h2 h3 => hpan a w h1 (kd.trans h2 (fun _ _ e => e)) h3)) ?_
  · exact ⟨Kp.refl _ _, xs, rfl, hc.keep k0 id (fun _ _ => id), hl.keep k0 id⟩
  · rintro a' w h1 h2 hfr ⟨h3, t, h4, h5, h6⟩ _
    rw [act_puts a' [4, 5, 6, 7, 8, 9, 10, 11, 12, 13, 14, 15] a (h1.trans hn.symm) (h2.2.2.2.trans hB.2.2.2.symm) (fun t ht => by
      rcases Nat.lt_or_ge t a'.tmps.size with hl | hl
      · exact hfr t (fun k hk e => ht (rv2D_mem k hk t e (Nat.lt_of_lt_of_eq hl h1)))
      · rw [eval_past a' t hl, eval_past a t (by have h9 : a.tmps.size = a'.tmps.size := hn.trans h1.symm; omega)])]
    exact hend (a'.eval (.tmp 4)) (a'.eval (.tmp 5)) (a'.eval (.tmp 6)) (a'.eval (.tmp 7)) (a'.eval (.tmp 8)) (a'.eval (.tmp 9)) (a'.eval (.tmp 10)) (a'.eval (.tmp 11)) (a'.eval (.tmp 12)) (a'.eval (.tmp 13)) (a'.eval (.tmp 14)) (a'.eval (.tmp 15)) w t (kd.trans h3 (fun _ _ e => e)) h4 h5 h6

def rm2V (r g : Nat) (xs : List Nat) : Nat → Value
  | 0 => .pointer (some ⟨r, 0, none⟩)
  | 1 => .pointer (some ⟨r, 0, none⟩)
  | 2 => .pointer (some ⟨r, 0, none⟩)
  | 3 => .pointer (some ⟨r, 0, none⟩)
  | 4 => .int .i64 (seqV xs 0 : Int)
  | 5 => .pointer (some ⟨r, 0, none⟩)
  | 6 => .pointer (some ⟨r, 0, none⟩)
  | 7 => .pointer (some ⟨r, 0, none⟩)
  | 8 => .pointer (some ⟨r, 0, none⟩)
  | 9 => .int .i64 (seqV xs 1 : Int)
  | 10 => .pointer (some ⟨r, 0, none⟩)
  | 11 => .pointer (some ⟨r, 0, none⟩)
  | 12 => .pointer (some ⟨r, 0, none⟩)
  | 13 => .pointer (some ⟨r, 0, none⟩)
  | 14 => .int .i64 (seqV xs 2 : Int)
  | 15 => .pointer (some ⟨g, 0, none⟩)
  | 16 => undef
  | 17 => .pointer (some ⟨g, 1, none⟩)
  | 18 => undef
  | 19 => .pointer (some ⟨g, 2, none⟩)
  | 20 => undef
  | _ => undef
def rm2R (r g : Nat) (xs : List Nat) (i : Nat) (v : Value) (w : World) : Prop := match i with
  | 16 => True
  | 18 => True
  | 20 => True
  | i => v = rm2V r g xs i
def rm2D (k : Nat) : Nat := [4, 5, 6, 7, 8, 9, 10, 11, 12, 13, 14, 15, 16, 17, 18, 19, 110, 20, 112, 21, 114].getD k 0
def rm2B (r g : Nat) (y2 : Value) (a : Act) : Prop := a.eval (.tmp 0) = .pointer (some ⟨r, 0, none⟩) ∧ a.eval (.tmp 2) = y2 ∧ a.eval (.tmp 3) = .pointer (some ⟨g, 0, none⟩) ∧ a.defers = []
theorem rm2D_ne : ∀ k, k < 21 → rm2D k ≠ 0 ∧ rm2D k ≠ 2 ∧ rm2D k ≠ 3 := by decide
theorem rm2B_put (r g : Nat) (y2 : Value) (k : Nat) (v : Value) (a : Act) (hk : k < 21) (h : rm2B r g y2 a) : rm2B r g y2 (a.put (some (rm2D k)) v) := by
  have hne := rm2D_ne k hk
  refine ⟨?_, ?_, ?_, h.2.2.2⟩
  · rw [← h.1]
    show (a.tmps.setIfInBounds (rm2D k) v).getD 0 undef = a.tmps.getD 0 undef
    simp [Array.getElem?_setIfInBounds_ne (hne.1)]
  · rw [← h.2.1]
    show (a.tmps.setIfInBounds (rm2D k) v).getD 2 undef = a.tmps.getD 2 undef
    simp [Array.getElem?_setIfInBounds_ne (hne.2.1)]
  · rw [← h.2.2.1]
    show (a.tmps.setIfInBounds (rm2D k) v).getD 3 undef = a.tmps.getD 3 undef
    simp [Array.getElem?_setIfInBounds_ne (hne.2.2)]
theorem rm2D_inj : ∀ i, i < 21 → ∀ j, j < 21 → rm2D i = rm2D j → i = j := by decide
def rm2T : List (Oper × List Nat) := [(⟨some 4, Op.move (Operand.tmp 0), 95, "", #[], none⟩, []), (⟨some 5, Op.nilCheck (Operand.tmp 4), 0, "", #[], none⟩, [0]), (⟨some 6, Op.fieldAddr 74 (Operand.tmp 5) 0, 0, "", #[], none⟩, [1]), (⟨some 7, Op.fieldAddr 59 (Operand.tmp 6) 0, 0, "", #[], none⟩, [2]), (⟨some 8, Op.call { callee := Callee.value (Operand.func 56), args := #[Operand.tmp 7], argTypes := #[57] }, 3, "", #[], none⟩, [3]), (⟨some 9, Op.move (Operand.tmp 0), 95, "", #[], none⟩, []), (⟨some 10, Op.nilCheck (Operand.tmp 9), 0, "", #[], none⟩, [5]), (⟨some 11, Op.fieldAddr 74 (Operand.tmp 10) 0, 0, "", #[], none⟩, [6]), (⟨some 12, Op.fieldAddr 59 (Operand.tmp 11) 0, 0, "", #[], none⟩, [7]), (⟨some 13, Op.call { callee := Callee.value (Operand.func 56), args := #[Operand.tmp 12], argTypes := #[57] }, 3, "", #[], none⟩, [8, 4]), (⟨some 14, Op.move (Operand.tmp 0), 95, "", #[], none⟩, []), (⟨some 15, Op.nilCheck (Operand.tmp 14), 0, "", #[], none⟩, [10]), (⟨some 16, Op.fieldAddr 74 (Operand.tmp 15) 0, 0, "", #[], none⟩, [11]), (⟨some 17, Op.fieldAddr 59 (Operand.tmp 16) 0, 0, "", #[], none⟩, [12]), (⟨some 18, Op.call { callee := Callee.value (Operand.func 56), args := #[Operand.tmp 17], argTypes := #[57] }, 3, "", #[], none⟩, [13, 9]), (⟨some 19, Op.fieldAddr 40 (Operand.tmp 3) 0, 0, "", #[], none⟩, [0, 1, 2, 3, 4]), (⟨none, Op.store 3 (Operand.tmp 19) (Operand.tmp 8), 0, "", #[], none⟩, [15, 4, 14, 0, 1, 2, 3, 4]), (⟨some 20, Op.fieldAddr 40 (Operand.tmp 3) 1, 0, "", #[], none⟩, [0, 1, 2, 3, 4, 5, 6, 7, 8, 9, 15, 16]), (⟨none, Op.store 3 (Operand.tmp 20) (Operand.tmp 13), 0, "", #[], none⟩, [17, 9, 16, 0, 1, 2, 3, 4, 5, 6, 7, 8, 9, 15, 16]), (⟨some 21, Op.fieldAddr 40 (Operand.tmp 3) 2, 0, "", #[], none⟩, [0, 1, 2, 3, 4, 5, 6, 7, 8, 9, 10, 11, 12, 13, 14, 15, 16, 17, 18]), (⟨none, Op.store 3 (Operand.tmp 21) (Operand.tmp 18), 0, "", #[], none⟩, [19, 14, 18, 0, 1, 2, 3, 4, 5, 6, 7, 8, 9, 10, 11, 12, 13, 14, 15, 16, 17, 18])]
def rm2C (Z : Nat → Prop) (r g : Nat) (xs : List Nat) (cs : List Value) (w0 : World) (y2 : Value) : Chn := { n := 94, B := rm2B r g y2, R := rm2R r g xs, D := rm2D, pos := posOf [4, 9, 14, 16, 18, 20], N := 6, W := NW Z 3 r g xs cs [0, 1, 2] w0, T := rm2T }

theorem rm2D_mem : ∀ k, k < 21 → ∀ t, rm2D k = t → t < 94 → t ∈ [4, 5, 6, 7, 8, 9, 10, 11, 12, 13, 14, 15, 16, 17, 18, 19, 20, 21] := by
  intro k hk t e ht
  subst e
  revert ht
  revert k
  decide
set_option maxRecDepth 100000 in
theorem rm2_e0 (r g : Nat) (xs : List Nat) (ev : Operand → Value) (z : World) (ec : ∀ c, ev (.const c) = c) (e0 : ev (.tmp 0) = .pointer (some ⟨r, 0, none⟩)) : (execOp ev ⟨some 4, Op.move (Operand.tmp 0), 95, "", #[], none⟩).run Tryd.prog z = .ok (.value (.pointer (some ⟨r, 0, none⟩))) z := by
  go_simp
set_option maxRecDepth 100000 in
theorem rm2_s0 {Q : Exit → Act → World → Prop} (Z : Nat → Prop) (r g : Nat) (xs : List Nat) (cs : List Value) (w0 : World) (y2 : Value) (hb : ∀ x ∈ xs, x < 256) (hrg : r ≠ g) (hZg : ¬ Z g) (hcs : 3 ≤ cs.length) (hpan : ∀ a w, rm2B r g y2 a → Kp (fun b => b = r ∨ b = g) w0 w → seqN xs 3 = none → Q (.panic gaveUp) a w) : (rm2C Z r g xs cs w0 y2).Step Tryd.prog Q 0 ⟨some 4, Op.move (Operand.tmp 0), 95, "", #[], none⟩ [] := by
  refine Chn.pure _ rfl rfl (show 4 < 94 by decide) (by decide) rfl ?_
  intro a w m hn hB hW hdm hup hd K hK
  have e0 : a.eval (.tmp 0) = .pointer (some ⟨r, 0, none⟩) := hB.1
  exact run_value (rm2_e0 r g xs _ w (fun _ => rfl) e0) (hK.out _ w (Kp.refl _ _) rfl)
set_option maxRecDepth 100000 in
theorem rm2_e1 (r g : Nat) (xs : List Nat) (ev : Operand → Value) (z : World) (ec : ∀ c, ev (.const c) = c) (e4 : ev (.tmp 4) = .pointer (some ⟨r, 0, none⟩)) : (execOp ev ⟨some 5, Op.nilCheck (Operand.tmp 4), 0, "", #[], none⟩).run Tryd.prog z = .ok (.value (.pointer (some ⟨r, 0, none⟩))) z := by
  go_simp
set_option maxRecDepth 100000 in
theorem rm2_s1 {Q : Exit → Act → World → Prop} (Z : Nat → Prop) (r g : Nat) (xs : List Nat) (cs : List Value) (w0 : World) (y2 : Value) (hb : ∀ x ∈ xs, x < 256) (hrg : r ≠ g) (hZg : ¬ Z g) (hcs : 3 ≤ cs.length) (hpan : ∀ a w, rm2B r g y2 a → Kp (fun b => b = r ∨ b = g) w0 w → seqN xs 3 = none → Q (.panic gaveUp) a w) : (rm2C Z r g xs cs w0 y2).Step Tryd.prog Q 1 ⟨some 5, Op.nilCheck (Operand.tmp 4), 0, "", #[], none⟩ [0] := by
  refine Chn.pure _ rfl rfl (show 5 < 94 by decide) (by decide) rfl ?_
  intro a w m hn hB hW hdm hup hd K hK
  have e4 : a.eval (.tmp 4) = .pointer (some ⟨r, 0, none⟩) := hd 0 (by decide)
  exact run_value (rm2_e1 r g xs _ w (fun _ => rfl) e4) (hK.out _ w (Kp.refl _ _) rfl)
set_option maxRecDepth 100000 in
theorem rm2_e2 (r g : Nat) (xs : List Nat) (ev : Operand → Value) (z : World) (ec : ∀ c, ev (.const c) = c) (e5 : ev (.tmp 5) = .pointer (some ⟨r, 0, none⟩)) : (execOp ev ⟨some 6, Op.fieldAddr 74 (Operand.tmp 5) 0, 0, "", #[], none⟩).run Tryd.prog z = .ok (.value (.pointer (some ⟨r, 0, none⟩))) z := by
  go_simp
set_option maxRecDepth 100000 in
theorem rm2_s2 {Q : Exit → Act → World → Prop} (Z : Nat → Prop) (r g : Nat) (xs : List Nat) (cs : List Value) (w0 : World) (y2 : Value) (hb : ∀ x ∈ xs, x < 256) (hrg : r ≠ g) (hZg : ¬ Z g) (hcs : 3 ≤ cs.length) (hpan : ∀ a w, rm2B r g y2 a → Kp (fun b => b = r ∨ b = g) w0 w → seqN xs 3 = none → Q (.panic gaveUp) a w) : (rm2C Z r g xs cs w0 y2).Step Tryd.prog Q 2 ⟨some 6, Op.fieldAddr 74 (Operand.tmp 5) 0, 0, "", #[], none⟩ [1] := by
  refine Chn.pure _ rfl rfl (show 6 < 94 by decide) (by decide) rfl ?_
  intro a w m hn hB hW hdm hup hd K hK
  have e5 : a.eval (.tmp 5) = .pointer (some ⟨r, 0, none⟩) := hd 1 (by decide)
  exact run_value (rm2_e2 r g xs _ w (fun _ => rfl) e5) (hK.out _ w (Kp.refl _ _) rfl)
set_option maxRecDepth 100000 in
theorem rm2_e3 (r g : Nat) (xs : List Nat) (ev : Operand → Value) (z : World) (ec : ∀ c, ev (.const c) = c) (e6 : ev (.tmp 6) = .pointer (some ⟨r, 0, none⟩)) : (execOp ev ⟨some 7, Op.fieldAddr 59 (Operand.tmp 6) 0, 0, "", #[], none⟩).run Tryd.prog z = .ok (.value (.pointer (some ⟨r, 0, none⟩))) z := by
  go_simp
set_option maxRecDepth 100000 in
theorem rm2_s3 {Q : Exit → Act → World → Prop} (Z : Nat → Prop) (r g : Nat) (xs : List Nat) (cs : List Value) (w0 : World) (y2 : Value) (hb : ∀ x ∈ xs, x < 256) (hrg : r ≠ g) (hZg : ¬ Z g) (hcs : 3 ≤ cs.length) (hpan : ∀ a w, rm2B r g y2 a → Kp (fun b => b = r ∨ b = g) w0 w → seqN xs 3 = none → Q (.panic gaveUp) a w) : (rm2C Z r g xs cs w0 y2).Step Tryd.prog Q 3 ⟨some 7, Op.fieldAddr 59 (Operand.tmp 6) 0, 0, "", #[], none⟩ [2] := by
  refine Chn.pure _ rfl rfl (show 7 < 94 by decide) (by decide) rfl ?_
  intro a w m hn hB hW hdm hup hd K hK
  have e6 : a.eval (.tmp 6) = .pointer (some ⟨r, 0, none⟩) := hd 2 (by decide)
  exact run_value (rm2_e3 r g xs _ w (fun _ => rfl) e6) (hK.out _ w (Kp.refl _ _) rfl)
set_option maxRecDepth 100000 in
theorem rm2_e4 (r g : Nat) (xs : List Nat) (ev : Operand → Value) (z : World) (ec : ∀ c, ev (.const c) = c) (ef : ∀ f, ev (.func f) = .func (.func f) #[] #[]) (e7 : ev (.tmp 7) = .pointer (some ⟨r, 0, none⟩)) : (execOp ev ⟨some 8, Op.call { callee := Callee.value (Operand.func 56), args := #[Operand.tmp 7], argTypes := #[57] }, 3, "", #[], none⟩).run Tryd.prog z = .ok (.enter 56 #[.pointer (some ⟨r, 0, none⟩)]) z := enter_run _ (ef _) (by simp only [List.map_toArray, List.map_cons, List.map_nil, ec, ef, e7]) (fun _ => by rfl)
set_option maxRecDepth 100000 in
theorem rm2_s4 {Q : Exit → Act → World → Prop} (Z : Nat → Prop) (r g : Nat) (xs : List Nat) (cs : List Value) (w0 : World) (y2 : Value) (hb : ∀ x ∈ xs, x < 256) (hrg : r ≠ g) (hZg : ¬ Z g) (hcs : 3 ≤ cs.length) (hpan : ∀ a w, rm2B r g y2 a → Kp (fun b => b = r ∨ b = g) w0 w → seqN xs 3 = none → Q (.panic gaveUp) a w) : (rm2C Z r g xs cs w0 y2).Step Tryd.prog Q 4 ⟨some 8, Op.call { callee := Callee.value (Operand.func 56), args := #[Operand.tmp 7], argTypes := #[57] }, 3, "", #[], none⟩ [3] := by
  refine Chn.link _ 0 rfl (fun q hq => by omega) (show 0 < 6 by decide) (Or.inl ⟨rfl, show 8 < 94 by decide⟩) (by decide) rfl ?_
  intro a w hn hB hW hd K hK
  have e7 : a.eval (.tmp 7) = .pointer (some ⟨r, 0, none⟩) := hd 3 (by decide)
  refine wp_enterP (rm2_e4 r g xs _ w (fun _ => rfl) (fun _ => rfl) e7) (NW.call (Z := Z) (g := g) (cs := cs) (offs := [0, 1, 2]) (w0 := w0) (k := 3) (j := 0) hW (by decide) hb hrg hZg) ?_
  rintro e9 w9 (⟨rfl, h9⟩ | ⟨rfl, h9, h8⟩)
  · exact Or.inl ⟨_, rfl, hK.out _ _ h9 (fun _ _ _ h => h) rfl⟩
  · exact Or.inr ⟨_, rfl, hpan a w9 hB h9 (seqN_none h8 (by decide))⟩
set_option maxRecDepth 100000 in
theorem rm2_e5 (r g : Nat) (xs : List Nat) (ev : Operand → Value) (z : World) (ec : ∀ c, ev (.const c) = c) (e0 : ev (.tmp 0) = .pointer (some ⟨r, 0, none⟩)) : (execOp ev ⟨some 9, Op.move (Operand.tmp 0), 95, "", #[], none⟩).run Tryd.prog z = .ok (.value (.pointer (some ⟨r, 0, none⟩))) z := by
  go_simp
set_option maxRecDepth 100000 in
theorem rm2_s5 {Q : Exit → Act → World → Prop} (Z : Nat → Prop) (r g : Nat) (xs : List Nat) (cs : List Value) (w0 : World) (y2 : Value) (hb : ∀ x ∈ xs, x < 256) (hrg : r ≠ g) (hZg : ¬ Z g) (hcs : 3 ≤ cs.length) (hpan : ∀ a w, rm2B r g y2 a → Kp (fun b => b = r ∨ b = g) w0 w → seqN xs 3 = none → Q (.panic gaveUp) a w) : (rm2C Z r g xs cs w0 y2).Step Tryd.prog Q 5 ⟨some 9, Op.move (Operand.tmp 0), 95, "", #[], none⟩ [] := by
  refine Chn.pure _ rfl rfl (show 9 < 94 by decide) (by decide) rfl ?_
  intro a w m hn hB hW hdm hup hd K hK
  have e0 : a.eval (.tmp 0) = .pointer (some ⟨r, 0, none⟩) := hB.1
  exact run_value (rm2_e5 r g xs _ w (fun _ => rfl) e0) (hK.out _ w (Kp.refl _ _) rfl)
set_option maxRecDepth 100000 in
theorem rm2_e6 (r g : Nat) (xs : List Nat) (ev : Operand → Value) (z : World) (ec : ∀ c, ev (.const c) = c) (e9 : ev (.tmp 9) = .pointer (some ⟨r, 0, none⟩)) : (execOp ev ⟨some 10, Op.nilCheck (Operand.tmp 9), 0, "", #[], none⟩).run Tryd.prog z = .ok (.value (.pointer (some ⟨r, 0, none⟩))) z := by
  go_simp
set_option maxRecDepth 100000 in
theorem rm2_s6 {Q : Exit → Act → World → Prop} (Z : Nat → Prop) (r g : Nat) (xs : List Nat) (cs : List Value) (w0 : World) (y2 : Value) (hb : ∀ x ∈ xs, x < 256) (hrg : r ≠ g) (hZg : ¬ Z g) (hcs : 3 ≤ cs.length) (hpan : ∀ a w, rm2B r g y2 a → Kp (fun b => b = r ∨ b = g) w0 w → seqN xs 3 = none → Q (.panic gaveUp) a w) : (rm2C Z r g xs cs w0 y2).Step Tryd.prog Q 6 ⟨some 10, Op.nilCheck (Operand.tmp 9), 0, "", #[], none⟩ [5] := by
  refine Chn.pure _ rfl rfl (show 10 < 94 by decide) (by decide) rfl ?_
  intro a w m hn hB hW hdm hup hd K hK
  have e9 : a.eval (.tmp 9) = .pointer (some ⟨r, 0, none⟩) := hd 5 (by decide)
  exact run_value (rm2_e6 r g xs _ w (fun _ => rfl) e9) (hK.out _ w (Kp.refl _ _) rfl)
set_option maxRecDepth 100000 in
theorem rm2_e7 (r g : Nat) (xs : List Nat) (ev : Operand → Value) (z : World) (ec : ∀ c, ev (.const c) = c) (e10 : ev (.tmp 10) = .pointer (some ⟨r, 0, none⟩)) : (execOp ev ⟨some 11, Op.fieldAddr 74 (Operand.tmp 10) 0, 0, "", #[], none⟩).run Tryd.prog z = .ok (.value (.pointer (some ⟨r, 0, none⟩))) z := by
  go_simp
set_option maxRecDepth 100000 in
theorem rm2_s7 {Q : Exit → Act → World → Prop} (Z : Nat → Prop) (r g : Nat) (xs : List Nat) (cs : List Value) (w0 : World) (y2 : Value) (hb : ∀ x ∈ xs, x < 256) (hrg : r ≠ g) (hZg : ¬ Z g) (hcs : 3 ≤ cs.length) (hpan : ∀ a w, rm2B r g y2 a → Kp (fun b => b = r ∨ b = g) w0 w → seqN xs 3 = none → Q (.panic gaveUp) a w) : (rm2C Z r g xs cs w0 y2).Step Tryd.prog Q 7 ⟨some 11, Op.fieldAddr 74 (Operand.tmp 10) 0, 0, "", #[], none⟩ [6] := by
  refine Chn.pure _ rfl rfl (show 11 < 94 by decide) (by decide) rfl ?_
  intro a w m hn hB hW hdm hup hd K hK
  have e10 : a.eval (.tmp 10) = .pointer (some ⟨r, 0, none⟩) := hd 6 (by decide)
  exact run_value (rm2_e7 r g xs _ w (fun _ => rfl) e10) (hK.out _ w (Kp.refl _ _) rfl)
set_option maxRecDepth 100000 in
theorem rm2_e8 (r g : Nat) (xs : List Nat) (ev : Operand → Value) (z : World) (ec : ∀ c, ev (.const c) = c) (e11 : ev (.tmp 11) = .pointer (some ⟨r, 0, none⟩)) : (execOp ev ⟨some 12, Op.fieldAddr 59 (Operand.tmp 11) 0, 0, "", #[], none⟩).run Tryd.prog z = .ok (.value (.pointer (some ⟨r, 0, none⟩))) z := by
  go_simp
set_option maxRecDepth 100000 in
theorem rm2_s8 {Q : Exit → Act → World → Prop} (Z : Nat → Prop) (r g : Nat) (xs : List Nat) (cs : List Value) (w0 : World) (y2 : Value) (hb : ∀ x ∈ xs, x < 256) (hrg : r ≠ g) (hZg : ¬ Z g) (hcs : 3 ≤ cs.length) (hpan : ∀ a w, rm2B r g y2 a → Kp (fun b => b = r ∨ b = g) w0 w → seqN xs 3 = none → Q (.panic gaveUp) a w) : (rm2C Z r g xs cs w0 y2).Step Tryd.prog Q 8 ⟨some 12, Op.fieldAddr 59 (Operand.tmp 11) 0, 0, "", #[], none⟩ [7] := by
  refine Chn.pure _ rfl rfl (show 12 < 94 by decide) (by decide) rfl ?_
  intro a w m hn hB hW hdm hup hd K hK
  have e11 : a.eval (.tmp 11) = .pointer (some ⟨r, 0, none⟩) := hd 7 (by decide)
  exact run_value (rm2_e8 r g xs _ w (fun _ => rfl) e11) (hK.out _ w (Kp.refl _ _) rfl)
set_option maxRecDepth 100000 in
theorem rm2_e9 (r g : Nat) (xs : List Nat) (ev : Operand → Value) (z : World) (ec : ∀ c, ev (.const c) = c) (ef : ∀ f, ev (.func f) = .func (.func f) #[] #[]) (e12 : ev (.tmp 12) = .pointer (some ⟨r, 0, none⟩)) : (execOp ev ⟨some 13, Op.call { callee := Callee.value (Operand.func 56), args := #[Operand.tmp 12], argTypes := #[57] }, 3, "", #[], none⟩).run Tryd.prog z = .ok (.enter 56 #[.pointer (some ⟨r, 0, none⟩)]) z := enter_run _ (ef _) (by simp only [List.map_toArray, List.map_cons, List.map_nil, ec, ef, e12]) (fun _ => by rfl)
set_option maxRecDepth 100000 in
theorem rm2_s9 {Q : Exit → Act → World → Prop} (Z : Nat → Prop) (r g : Nat) (xs : List Nat) (cs : List Value) (w0 : World) (y2 : Value) (hb : ∀ x ∈ xs, x < 256) (hrg : r ≠ g) (hZg : ¬ Z g) (hcs : 3 ≤ cs.length) (hpan : ∀ a w, rm2B r g y2 a → Kp (fun b => b = r ∨ b = g) w0 w → seqN xs 3 = none → Q (.panic gaveUp) a w) : (rm2C Z r g xs cs w0 y2).Step Tryd.prog Q 9 ⟨some 13, Op.call { callee := Callee.value (Operand.func 56), args := #[Operand.tmp 12], argTypes := #[57] }, 3, "", #[], none⟩ [8, 4] := by
  refine Chn.link _ 1 rfl (prevOf 4 0 (by decide) rfl) (show 1 < 6 by decide) (Or.inl ⟨rfl, show 13 < 94 by decide⟩) (by decide) rfl ?_
  intro a w hn hB hW hd K hK
  have e12 : a.eval (.tmp 12) = .pointer (some ⟨r, 0, none⟩) := hd 8 (by decide)
  refine wp_enterP (rm2_e9 r g xs _ w (fun _ => rfl) (fun _ => rfl) e12) (NW.call (Z := Z) (g := g) (cs := cs) (offs := [0, 1, 2]) (w0 := w0) (k := 3) (j := 1) hW (by decide) hb hrg hZg) ?_
  rintro e9 w9 (⟨rfl, h9⟩ | ⟨rfl, h9, h8⟩)
  · exact Or.inl ⟨_, rfl, hK.out _ _ h9 (fun _ _ _ h => h) rfl⟩
  · exact Or.inr ⟨_, rfl, hpan a w9 hB h9 (seqN_none h8 (by decide))⟩
set_option maxRecDepth 100000 in
theorem rm2_e10 (r g : Nat) (xs : List Nat) (ev : Operand → Value) (z : World) (ec : ∀ c, ev (.const c) = c) (e0 : ev (.tmp 0) = .pointer (some ⟨r, 0, none⟩)) : (execOp ev ⟨some 14, Op.move (Operand.tmp 0), 95, "", #[], none⟩).run Tryd.prog z = .ok (.value (.pointer (some ⟨r, 0, none⟩))) z := by
  go_simp
set_option maxRecDepth 100000 in
theorem rm2_s10 {Q : Exit → Act → World → Prop} (Z : Nat → Prop) (r g : Nat) (xs : List Nat) (cs : List Value) (w0 : World) (y2 : Value) (hb : ∀ x ∈ xs, x < 256) (hrg : r ≠ g) (hZg : ¬ Z g) (hcs : 3 ≤ cs.length) (hpan : ∀ a w, rm2B r g y2 a → Kp (fun b => b = r ∨ b = g) w0 w → seqN xs 3 = none → Q (.panic gaveUp) a w) : (rm2C Z r g xs cs w0 y2).Step Tryd.prog Q 10 ⟨some 14, Op.move (Operand.tmp 0), 95, "", #[], none⟩ [] := by
  refine Chn.pure _ rfl rfl (show 14 < 94 by decide) (by decide) rfl ?_
  intro a w m hn hB hW hdm hup hd K hK
  have e0 : a.eval (.tmp 0) = .pointer (some ⟨r, 0, none⟩) := hB.1
  exact run_value (rm2_e10 r g xs _ w (fun _ => rfl) e0) (hK.out _ w (Kp.refl _ _) rfl)
set_option maxRecDepth 100000 in
theorem rm2_e11 (r g : Nat) (xs : List Nat) (ev : Operand → Value) (z : World) (ec : ∀ c, ev (.const c) = c) (e14 : ev (.tmp 14) = .pointer (some ⟨r, 0, none⟩)) : (execOp ev ⟨some 15, Op.nilCheck (Operand.tmp 14), 0, "", #[], none⟩).run Tryd.prog z = .ok (.value (.pointer (some ⟨r, 0, none⟩))) z := by
  go_simp
set_option maxRecDepth 100000 in
theorem rm2_s11 {Q : Exit → Act → World → Prop} (Z : Nat → Prop) (r g : Nat) (xs : List Nat) (cs : List Value) (w0 : World) (y2 : Value) (hb : ∀ x ∈ xs, x < 256) (hrg : r ≠ g) (hZg : ¬ Z g) (hcs : 3 ≤ cs.length) (hpan : ∀ a w, rm2B r g y2 a → Kp (fun b => b = r ∨ b = g) w0 w → seqN xs 3 = none → Q (.panic gaveUp) a w) : (rm2C Z r g xs cs w0 y2).Step Tryd.prog Q 11 ⟨some 15, Op.nilCheck (Operand.tmp 14), 0, "", #[], none⟩ [10] := by
  refine Chn.pure _ rfl rfl (show 15 < 94 by decide) (by decide) rfl ?_
  intro a w m hn hB hW hdm hup hd K hK
  have e14 : a.eval (.tmp 14) = .pointer (some ⟨r, 0, none⟩) := hd 10 (by decide)
  exact run_value (rm2_e11 r g xs _ w (fun _ => rfl) e14) (hK.out _ w (Kp.refl _ _) rfl)
set_option maxRecDepth 100000 in
theorem rm2_e12 (r g : Nat) (xs : List Nat) (ev : Operand → Value) (z : World) (ec : ∀ c, ev (.const c) = c) (e15 : ev (.tmp 15) = .pointer (some ⟨r, 0, none⟩)) : (execOp ev ⟨some 16, Op.fieldAddr 74 (Operand.tmp 15) 0, 0, "", #[], none⟩).run Tryd.prog z = .ok (.value (.pointer (some ⟨r, 0, none⟩))) z := by
  go_simp
set_option maxRecDepth 100000 in
theorem rm2_s12 {Q : Exit → Act → World → Prop} (Z : Nat → Prop) (r g : Nat) (xs : List Nat) (cs : List Value) (w0 : World) (y2 : Value) (hb : ∀ x ∈ xs, x < 256) (hrg : r ≠ g) (hZg : ¬ Z g) (hcs : 3 ≤ cs.length) (hpan : ∀ a w, rm2B r g y2 a → Kp (fun b => b = r ∨ b = g) w0 w → seqN xs 3 = none → Q (.panic gaveUp) a w) : (rm2C Z r g xs cs w0 y2).Step Tryd.prog Q 12 ⟨some 16, Op.fieldAddr 74 (Operand.tmp 15) 0, 0, "", #[], none⟩ [11] := by
  refine Chn.pure _ rfl rfl (show 16 < 94 by decide) (by decide) rfl ?_
  intro a w m hn hB hW hdm hup hd K hK
  have e15 : a.eval (.tmp 15) = .pointer (some ⟨r, 0, none⟩) := hd 11 (by decide)
  exact run_value (rm2_e12 r g xs _ w (fun _ => rfl) e15) (hK.out _ w (Kp.refl _ _) rfl)
set_option maxRecDepth 100000 in
theorem rm2_e13 (r g : Nat) (xs : List Nat) (ev : Operand → Value) (z : World) (ec : ∀ c, ev (.const c) = c) (e16 : ev (.tmp 16) = .pointer (some ⟨r, 0, none⟩)) : (execOp ev ⟨some 17, Op.fieldAddr 59 (Operand.tmp 16) 0, 0, "", #[], none⟩).run Tryd.prog z = .ok (.value (.pointer (some ⟨r, 0, none⟩))) z := by
  go_simp
set_option maxRecDepth 100000 in
theorem rm2_s13 {Q : Exit → Act → World → Prop} (Z : Nat → Prop) (r g : Nat) (xs : List Nat) (cs : List Value) (w0 : World) (y2 : Value) (hb : ∀ x ∈ xs, x < 256) (hrg : r ≠ g) (hZg : ¬ Z g) (hcs : 3 ≤ cs.length) (hpan : ∀ a w, rm2B r g y2 a → Kp (fun b => b = r ∨ b = g) w0 w → seqN xs 3 = none → Q (.panic gaveUp) a w) : (rm2C Z r g xs cs w0 y2).Step Tryd.prog Q 13 ⟨some 17, Op.fieldAddr 59 (Operand.tmp 16) 0, 0, "", #[], none⟩ [12] := by
  refine Chn.pure _ rfl rfl (show 17 < 94 by decide) (by decide) rfl ?_
  intro a w m hn hB hW hdm hup hd K hK
  have e16 : a.eval (.tmp 16) = .pointer (some ⟨r, 0, none⟩) := hd 12 (by decide)
  exact run_value (rm2_e13 r g xs _ w (fun _ => rfl) e16) (hK.out _ w (Kp.refl _ _) rfl)
set_option maxRecDepth 100000 in
theorem rm2_e14 (r g : Nat) (xs : List Nat) (ev : Operand → Value) (z : World) (ec : ∀ c, ev (.const c) = c) (ef : ∀ f, ev (.func f) = .func (.func f) #[] #[]) (e17 : ev (.tmp 17) = .pointer (some ⟨r, 0, none⟩)) : (execOp ev ⟨some 18, Op.call { callee := Callee.value (Operand.func 56), args := #[Operand.tmp 17], argTypes := #[57] }, 3, "", #[], none⟩).run Tryd.prog z = .ok (.enter 56 #[.pointer (some ⟨r, 0, none⟩)]) z := enter_run _ (ef _) (by simp only [List.map_toArray, List.map_cons, List.map_nil, ec, ef, e17]) (fun _ => by rfl)
set_option maxRecDepth 100000 in
theorem rm2_s14 {Q : Exit → Act → World → Prop} (Z : Nat → Prop) (r g : Nat) (xs : List Nat) (cs : List Value) (w0 : World) (y2 : Value) (hb : ∀ x ∈ xs, x < 256) (hrg : r ≠ g) (hZg : ¬ Z g) (hcs : 3 ≤ cs.length) (hpan : ∀ a w, rm2B r g y2 a → Kp (fun b => b = r ∨ b = g) w0 w → seqN xs 3 = none → Q (.panic gaveUp) a w) : (rm2C Z r g xs cs w0 y2).Step Tryd.prog Q 14 ⟨some 18, Op.call { callee := Callee.value (Operand.func 56), args := #[Operand.tmp 17], argTypes := #[57] }, 3, "", #[], none⟩ [13, 9] := by
  refine Chn.link _ 2 rfl (prevOf 9 1 (by decide) rfl) (show 2 < 6 by decide) (Or.inl ⟨rfl, show 18 < 94 by decide⟩) (by decide) rfl ?_
  intro a w hn hB hW hd K hK
  have e17 : a.eval (.tmp 17) = .pointer (some ⟨r, 0, none⟩) := hd 13 (by decide)
  refine wp_enterP (rm2_e14 r g xs _ w (fun _ => rfl) (fun _ => rfl) e17) (NW.call (Z := Z) (g := g) (cs := cs) (offs := [0, 1, 2]) (w0 := w0) (k := 3) (j := 2) hW (by decide) hb hrg hZg) ?_
  rintro e9 w9 (⟨rfl, h9⟩ | ⟨rfl, h9, h8⟩)
  · exact Or.inl ⟨_, rfl, hK.out _ _ h9 (fun _ _ _ h => h) rfl⟩
  · exact Or.inr ⟨_, rfl, hpan a w9 hB h9 (seqN_none h8 (by decide))⟩
set_option maxRecDepth 100000 in
theorem rm2_e15 (r g : Nat) (xs : List Nat) (ev : Operand → Value) (z : World) (ec : ∀ c, ev (.const c) = c) (e3 : ev (.tmp 3) = .pointer (some ⟨g, 0, none⟩)) : (execOp ev ⟨some 19, Op.fieldAddr 40 (Operand.tmp 3) 0, 0, "", #[], none⟩).run Tryd.prog z = .ok (.value (.pointer (some ⟨g, 0, none⟩))) z := by
  go_simp
set_option maxRecDepth 100000 in
theorem rm2_s15 {Q : Exit → Act → World → Prop} (Z : Nat → Prop) (r g : Nat) (xs : List Nat) (cs : List Value) (w0 : World) (y2 : Value) (hb : ∀ x ∈ xs, x < 256) (hrg : r ≠ g) (hZg : ¬ Z g) (hcs : 3 ≤ cs.length) (hpan : ∀ a w, rm2B r g y2 a → Kp (fun b => b = r ∨ b = g) w0 w → seqN xs 3 = none → Q (.panic gaveUp) a w) : (rm2C Z r g xs cs w0 y2).Step Tryd.prog Q 15 ⟨some 19, Op.fieldAddr 40 (Operand.tmp 3) 0, 0, "", #[], none⟩ [0, 1, 2, 3, 4] := by
  refine Chn.pure _ rfl rfl (show 19 < 94 by decide) (by decide) rfl ?_
  intro a w m hn hB hW hdm hup hd K hK
  have e3 : a.eval (.tmp 3) = .pointer (some ⟨g, 0, none⟩) := hB.2.2.1
  exact run_value (rm2_e15 r g xs _ w (fun _ => rfl) e3) (hK.out _ w (Kp.refl _ _) rfl)
set_option maxRecDepth 100000 in
theorem rm2_e16 (r g : Nat) (xs : List Nat) (ev : Operand → Value) (z : World) (ec : ∀ c, ev (.const c) = c) (e8 : ev (.tmp 8) = .int .i64 (seqV xs 0 : Int)) (e19 : ev (.tmp 19) = .pointer (some ⟨g, 0, none⟩)) {u : Value} (hu : z.cell? ⟨g, 0, none⟩ = some u) (hf : z.frozen? ⟨g, 0, none⟩ = false) : (execOp ev ⟨none, Op.store 3 (Operand.tmp 19) (Operand.tmp 8), 0, "", #[], none⟩).run Tryd.prog z = .ok .skip (z.setCell ⟨g, 0, none⟩ (.int .i64 (seqV xs 0 : Int))) := by
  go_simp
set_option maxRecDepth 100000 in
theorem rm2_s16 {Q : Exit → Act → World → Prop} (Z : Nat → Prop) (r g : Nat) (xs : List Nat) (cs : List Value) (w0 : World) (y2 : Value) (hb : ∀ x ∈ xs, x < 256) (hrg : r ≠ g) (hZg : ¬ Z g) (hcs : 3 ≤ cs.length) (hpan : ∀ a w, rm2B r g y2 a → Kp (fun b => b = r ∨ b = g) w0 w → seqN xs 3 = none → Q (.panic gaveUp) a w) : (rm2C Z r g xs cs w0 y2).Step Tryd.prog Q 16 ⟨none, Op.store 3 (Operand.tmp 19) (Operand.tmp 8), 0, "", #[], none⟩ [15, 4, 14, 0, 1, 2, 3, 4] := by
  refine Chn.link _ 3 rfl (prevOf 14 2 (by decide) rfl) (show 3 < 6 by decide) (Or.inr ⟨rfl, show 94 ≤ 110 by decide, fun _ _ => trivial⟩) (by decide) rfl ?_
  intro a w hn hB hW hd K hK
  have e8 : a.eval (.tmp 8) = .int .i64 (seqV xs 0 : Int) := hd 4 (by decide)
  have e19 : a.eval (.tmp 19) = .pointer (some ⟨g, 0, none⟩) := hd 15 (by decide)
  obtain ⟨⟨u, hu⟩, hf, hN⟩ := NW.store (Z := Z) (k := 3) (r := r) (g := g) (xs := xs) (cs := cs) (offs := [0, 1, 2]) (w0 := w0) (j := 3) hW 0 0 rfl rfl (by omega) hrg hZg
  exact run_skip rfl (rm2_e16 r g xs _ w (fun _ => rfl) e8 e19 hu hf) (fun v => hK.out v _ hN (fun _ _ _ h => h) trivial)
set_option maxRecDepth 100000 in
theorem rm2_e17 (r g : Nat) (xs : List Nat) (ev : Operand → Value) (z : World) (ec : ∀ c, ev (.const c) = c) (e3 : ev (.tmp 3) = .pointer (some ⟨g, 0, none⟩)) : (execOp ev ⟨some 20, Op.fieldAddr 40 (Operand.tmp 3) 1, 0, "", #[], none⟩).run Tryd.prog z = .ok (.value (.pointer (some ⟨g, 1, none⟩))) z := by
  go_simp
set_option maxRecDepth 100000 in
theorem rm2_s17 {Q : Exit → Act → World → Prop} (Z : Nat → Prop) (r g : Nat) (xs : List Nat) (cs : List Value) (w0 : World) (y2 : Value) (hb : ∀ x ∈ xs, x < 256) (hrg : r ≠ g) (hZg : ¬ Z g) (hcs : 3 ≤ cs.length) (hpan : ∀ a w, rm2B r g y2 a → Kp (fun b => b = r ∨ b = g) w0 w → seqN xs 3 = none → Q (.panic gaveUp) a w) : (rm2C Z r g xs cs w0 y2).Step Tryd.prog Q 17 ⟨some 20, Op.fieldAddr 40 (Operand.tmp 3) 1, 0, "", #[], none⟩ [0, 1, 2, 3, 4, 5, 6, 7, 8, 9, 15, 16] := by
  refine Chn.pure _ rfl rfl (show 20 < 94 by decide) (by decide) rfl ?_
  intro a w m hn hB hW hdm hup hd K hK
  have e3 : a.eval (.tmp 3) = .pointer (some ⟨g, 0, none⟩) := hB.2.2.1
  exact run_value (rm2_e17 r g xs _ w (fun _ => rfl) e3) (hK.out _ w (Kp.refl _ _) rfl)
set_option maxRecDepth 100000 in
theorem rm2_e18 (r g : Nat) (xs : List Nat) (ev : Operand → Value) (z : World) (ec : ∀ c, ev (.const c) = c) (e13 : ev (.tmp 13) = .int .i64 (seqV xs 1 : Int)) (e20 : ev (.tmp 20) = .pointer (some ⟨g, 1, none⟩)) {u : Value} (hu : z.cell? ⟨g, 1, none⟩ = some u) (hf : z.frozen? ⟨g, 1, none⟩ = false) : (execOp ev ⟨none, Op.store 3 (Operand.tmp 20) (Operand.tmp 13), 0, "", #[], none⟩).run Tryd.prog z = .ok .skip (z.setCell ⟨g, 1, none⟩ (.int .i64 (seqV xs 1 : Int))) := by
  go_simp
set_option maxRecDepth 100000 in
theorem rm2_s18 {Q : Exit → Act → World → Prop} (Z : Nat → Prop) (r g : Nat) (xs : List Nat) (cs : List Value) (w0 : World) (y2 : Value) (hb : ∀ x ∈ xs, x < 256) (hrg : r ≠ g) (hZg : ¬ Z g) (hcs : 3 ≤ cs.length) (hpan : ∀ a w, rm2B r g y2 a → Kp (fun b => b = r ∨ b = g) w0 w → seqN xs 3 = none → Q (.panic gaveUp) a w) : (rm2C Z r g xs cs w0 y2).Step Tryd.prog Q 18 ⟨none, Op.store 3 (Operand.tmp 20) (Operand.tmp 13), 0, "", #[], none⟩ [17, 9, 16, 0, 1, 2, 3, 4, 5, 6, 7, 8, 9, 15, 16] := by
  refine Chn.link _ 4 rfl (prevOf 16 3 (by decide) rfl) (show 4 < 6 by decide) (Or.inr ⟨rfl, show 94 ≤ 112 by decide, fun _ _ => trivial⟩) (by decide) rfl ?_
  intro a w hn hB hW hd K hK
  have e13 : a.eval (.tmp 13) = .int .i64 (seqV xs 1 : Int) := hd 9 (by decide)
  have e20 : a.eval (.tmp 20) = .pointer (some ⟨g, 1, none⟩) := hd 17 (by decide)
  obtain ⟨⟨u, hu⟩, hf, hN⟩ := NW.store (Z := Z) (k := 3) (r := r) (g := g) (xs := xs) (cs := cs) (offs := [0, 1, 2]) (w0 := w0) (j := 4) hW 1 1 rfl rfl (by omega) hrg hZg
  exact run_skip rfl (rm2_e18 r g xs _ w (fun _ => rfl) e13 e20 hu hf) (fun v => hK.out v _ hN (fun _ _ _ h => h) trivial)
set_option maxRecDepth 100000 in
theorem rm2_e19 (r g : Nat) (xs : List Nat) (ev : Operand → Value) (z : World) (ec : ∀ c, ev (.const c) = c) (e3 : ev (.tmp 3) = .pointer (some ⟨g, 0, none⟩)) : (execOp ev ⟨some 21, Op.fieldAddr 40 (Operand.tmp 3) 2, 0, "", #[], none⟩).run Tryd.prog z = .ok (.value (.pointer (some ⟨g, 2, none⟩))) z := by
  go_simp
set_option maxRecDepth 100000 in
theorem rm2_s19 {Q : Exit → Act → World → Prop} (Z : Nat → Prop) (r g : Nat) (xs : List Nat) (cs : List Value) (w0 : World) (y2 : Value) (hb : ∀ x ∈ xs, x < 256) (hrg : r ≠ g) (hZg : ¬ Z g) (hcs : 3 ≤ cs.length) (hpan : ∀ a w, rm2B r g y2 a → Kp (fun b => b = r ∨ b = g) w0 w → seqN xs 3 = none → Q (.panic gaveUp) a w) : (rm2C Z r g xs cs w0 y2).Step Tryd.prog Q 19 ⟨some 21, Op.fieldAddr 40 (Operand.tmp 3) 2, 0, "", #[], none⟩ [0, 1, 2, 3, 4, 5, 6, 7, 8, 9, 10, 11, 12, 13, 14, 15, 16, 17, 18] := by
  refine Chn.pure _ rfl rfl (show 21 < 94 by decide) (by decide) rfl ?_
  intro a w m hn hB hW hdm hup hd K hK
  have e3 : a.eval (.tmp 3) = .pointer (some ⟨g, 0, none⟩) := hB.2.2.1
  exact run_value (rm2_e19 r g xs _ w (fun _ => rfl) e3) (hK.out _ w (Kp.refl _ _) rfl)
set_option maxRecDepth 100000 in
theorem rm2_e20 (r g : Nat) (xs : List Nat) (ev : Operand → Value) (z : World) (ec : ∀ c, ev (.const c) = c) (e18 : ev (.tmp 18) = .int .i64 (seqV xs 2 : Int)) (e21 : ev (.tmp 21) = .pointer (some ⟨g, 2, none⟩)) {u : Value} (hu : z.cell? ⟨g, 2, none⟩ = some u) (hf : z.frozen? ⟨g, 2, none⟩ = false) : (execOp ev ⟨none, Op.store 3 (Operand.tmp 21) (Operand.tmp 18), 0, "", #[], none⟩).run Tryd.prog z = .ok .skip (z.setCell ⟨g, 2, none⟩ (.int .i64 (seqV xs 2 : Int))) := by
  go_simp
set_option maxRecDepth 100000 in
theorem rm2_s20 {Q : Exit → Act → World → Prop} (Z : Nat → Prop) (r g : Nat) (xs : List Nat) (cs : List Value) (w0 : World) (y2 : Value) (hb : ∀ x ∈ xs, x < 256) (hrg : r ≠ g) (hZg : ¬ Z g) (hcs : 3 ≤ cs.length) (hpan : ∀ a w, rm2B r g y2 a → Kp (fun b => b = r ∨ b = g) w0 w → seqN xs 3 = none → Q (.panic gaveUp) a w) : (rm2C Z r g xs cs w0 y2).Step Tryd.prog Q 20 ⟨none, Op.store 3 (Operand.tmp 21) (Operand.tmp 18), 0, "", #[], none⟩ [19, 14, 18, 0, 1, 2, 3, 4, 5, 6, 7, 8, 9, 10, 11, 12, 13, 14, 15, 16, 17, 18] := by
  refine Chn.link _ 5 rfl (prevOf 18 4 (by decide) rfl) (show 5 < 6 by decide) (Or.inr ⟨rfl, show 94 ≤ 114 by decide, fun _ _ => trivial⟩) (by decide) rfl ?_
  intro a w hn hB hW hd K hK
  have e18 : a.eval (.tmp 18) = .int .i64 (seqV xs 2 : Int) := hd 14 (by decide)
  have e21 : a.eval (.tmp 21) = .pointer (some ⟨g, 2, none⟩) := hd 19 (by decide)
  obtain ⟨⟨u, hu⟩, hf, hN⟩ := NW.store (Z := Z) (k := 3) (r := r) (g := g) (xs := xs) (cs := cs) (offs := [0, 1, 2]) (w0 := w0) (j := 5) hW 2 2 rfl rfl (by omega) hrg hZg
  exact run_skip rfl (rm2_e20 r g xs _ w (fun _ => rfl) e18 e21 hu hf) (fun v => hK.out v _ hN (fun _ _ _ h => h) trivial)
theorem rm2_steps {Q : Exit → Act → World → Prop} (Z : Nat → Prop) (r g : Nat) (xs : List Nat) (cs : List Value) (w0 : World) (y2 : Value) (hb : ∀ x ∈ xs, x < 256) (hrg : r ≠ g) (hZg : ¬ Z g) (hcs : 3 ≤ cs.length) (hpan : ∀ a w, rm2B r g y2 a → Kp (fun b => b = r ∨ b = g) w0 w → seqN xs 3 = none → Q (.panic gaveUp) a w) : (rm2C Z r g xs cs w0 y2).Steps Tryd.prog Q 0 rm2T := ⟨rm2_s0 Z r g xs cs w0 y2 hb hrg hZg hcs hpan, rm2_s1 Z r g xs cs w0 y2 hb hrg hZg hcs hpan, rm2_s2 Z r g xs cs w0 y2 hb hrg hZg hcs hpan, rm2_s3 Z r g xs cs w0 y2 hb hrg hZg hcs hpan, rm2_s4 Z r g xs cs w0 y2 hb hrg hZg hcs hpan, rm2_s5 Z r g xs cs w0 y2 hb hrg hZg hcs hpan, rm2_s6 Z r g xs cs w0 y2 hb hrg hZg hcs hpan, rm2_s7 Z r g xs cs w0 y2 hb hrg hZg hcs hpan, rm2_s8 Z r g xs cs w0 y2 hb hrg hZg hcs hpan, rm2_s9 Z r g xs cs w0 y2 hb hrg hZg hcs hpan, rm2_s10 Z r g xs cs w0 y2 hb hrg hZg hcs hpan, rm2_s11 Z r g xs cs w0 y2 hb hrg hZg hcs hpan, rm2_s12 Z r g xs cs w0 y2 hb hrg hZg hcs hpan, rm2_s13 Z r g xs cs w0 y2 hb hrg hZg hcs hpan, rm2_s14 Z r g xs cs w0 y2 hb hrg hZg hcs hpan, rm2_s15 Z r g xs cs w0 y2 hb hrg hZg hcs hpan, rm2_s16 Z r g xs cs w0 y2 hb hrg hZg hcs hpan, rm2_s17 Z r g xs cs w0 y2 hb hrg hZg hcs hpan, rm2_s18 Z r g xs cs w0 y2 hb hrg hZg hcs hpan, rm2_s19 Z r g xs cs w0 y2 hb hrg hZg hcs hpan, rm2_s20 Z r g xs cs w0 y2 hb hrg hZg hcs hpan, trivial⟩
/-- the region: the numbers are read and laid into the struct, or it gives up -/
theorem rm2_region {ops : Array Oper} {rid : Nat} {Q : Exit → Act → World → Prop} {a : Act} {y : World} (Z : Nat → Prop) (r g : Nat) (xs : List Nat) (cs : List Value) (y2 : Value) (hT : ops.toList.map (fun o => (bare o, deps o)) = rm2T) (hn : a.tmps.size = 94) (hB : rm2B r g y2 a)
    (hb : ∀ x ∈ xs, x < 256) (hrg : r ≠ g) (hZg : ¬ Z g) (hcs : 3 ≤ cs.length) (hc : Cu Z y r xs) (hl : Lv y g cs)
    (hpan : ∀ a w, rm2B r g y2 a → Kp (fun b => b = r ∨ b = g) y w → seqN xs 3 = none → Q (.panic gaveUp) a w)
    (hend : ∀ q4 q5 q6 q7 q8 q9 q10 q11 q12 q13 q14 q15 q16 q17 q18 q19 q20 q21 w t, Kp (fun b => b = r ∨ b = g) y w → seqN xs 3 = some t → Cu Z w r t → Lv w g (setsN xs 0 [0, 1, 2] cs) → Q .normal ((((((((((((((((((a.put (some 4) q4).put (some 5) q5).put (some 6) q6).put (some 7) q7).put (some 8) q8).put (some 9) q9).put (some 10) q10).put (some 11) q11).put (some 12) q12).put (some 13) q13).put (some 14) q14).put (some 15) q15).put (some 16) q16).put (some 17) q17).put (some 18) q18).put (some 19) q19).put (some 20) q20).put (some 21) q21) w) : (Code.region rid ops true).wp Tryd.prog Q a y := by
  have kd : Kp (fun b => b = r ∨ b = g) y y.drew := (Kp.refl _ _).drew
  have k0 : Kp (fun _ => False) y y.drew := (Kp.refl _ _).drew
  refine chain_region (rm2C Z r g xs cs y.drew y2) (by kernel_rfl) hT hn hB (fun k v a hk _ h => rm2B_put r g y2 k v a hk h) (fun i j h1 h2 => rm2D_inj i h1 j h2) (fun i j p h1 h2 => posOf_inj _ i j p) (posOf_at [4, 9, 14, 16, 18, 20] 21 (by decide) (by decide)) ?_ (fun m w w' hk h => NW.grow h hk) (fun i v w w' hk h => h) (rm2_steps Z r g xs cs y.drew y2 hb hrg hZg hcs (fun a w h1 h2 h3 => hpan a w h1 (kd.trans h2 (fun _ _ e => e)) h3)) ?_
  · exact ⟨Kp.refl _ _, xs, rfl, hc.keep k0 id (fun _ _ => id), hl.keep k0 id⟩
  · rintro a' w h1 h2 hfr ⟨h3, t, h4, h5, h6⟩ _
    rw [act_puts a' [4, 5, 6, 7, 8, 9, 10, 11, 12, 13, 14, 15, 16, 17, 18, 19, 20, 21] a (h1.trans hn.symm) (h2.2.2.2.trans hB.2.2.2.symm) (fun t ht => by
      rcases Nat.lt_or_ge t a'.tmps.size with hl | hl
      · exact hfr t (fun k hk e => ht (rm2D_mem k hk t e (Nat.lt_of_lt_of_eq hl h1)))
      · rw [eval_past a' t hl, eval_past a t (by have h9 : a.tmps.size = a'.tmps.size := hn.trans h1.symm; omega)])]
    exact hend (a'.eval (.tmp 4)) (a'.eval (.tmp 5)) (a'.eval (.tmp 6)) (a'.eval (.tmp 7)) (a'.eval (.tmp 8)) (a'.eval (.tmp 9)) (a'.eval (.tmp 10)) (a'.eval (.tmp 11)) (a'.eval (.tmp 12)) (a'.eval (.tmp 13)) (a'.eval (.tmp 14)) (a'.eval (.tmp 15)) (a'.eval (.tmp 16)) (a'.eval (.tmp 17)) (a'.eval (.tmp 18)) (a'.eval (.tmp 19)) (a'.eval (.tmp 20)) (a'.eval (.tmp 21)) w t (kd.trans h3 (fun _ _ e => e)) h4 h5 h6

def rm3V (r g : Nat) (xs : List Nat) : Nat → Value
  | 0 => .pointer (some ⟨r, 0, none⟩)
  | 1 => .pointer (some ⟨r, 0, none⟩)
  | 2 => .pointer (some ⟨r, 0, none⟩)
  | 3 => .pointer (some ⟨r, 0, none⟩)
  | 4 => .int .i64 (seqV xs 0 : Int)
  | 5 => .pointer (some ⟨r, 0, none⟩)
  | 6 => .pointer (some ⟨r, 0, none⟩)
  | 7 => .pointer (some ⟨r, 0, none⟩)
  | 8 => .pointer (some ⟨r, 0, none⟩)
  | 9 => .int .i64 (seqV xs 1 : Int)
  | 10 => .pointer (some ⟨g, 3, none⟩)
  | 11 => undef
  | 12 => .pointer (some ⟨g, 4, none⟩)
  | 13 => undef
  | _ => undef
def rm3R (r g : Nat) (xs : List Nat) (i : Nat) (v : Value) (w : World) : Prop := match i with
  | 11 => True
  | 13 => True
  | i => v = rm3V r g xs i
def rm3D (k : Nat) : Nat := [22, 23, 24, 25, 26, 27, 28, 29, 30, 31, 32, 105, 33, 107].getD k 0
def rm3B (r g : Nat) (y2 : Value) (a : Act) : Prop := a.eval (.tmp 0) = .pointer (some ⟨r, 0, none⟩) ∧ a.eval (.tmp 2) = y2 ∧ a.eval (.tmp 3) = .pointer (some ⟨g, 0, none⟩) ∧ a.defers = []
theorem rm3D_ne : ∀ k, k < 14 → rm3D k ≠ 0 ∧ rm3D k ≠ 2 ∧ rm3D k ≠ 3 := by decide
theorem rm3B_put (r g : Nat) (y2 : Value) (k : Nat) (v : Value) (a : Act) (hk : k < 14) (h : rm3B r g y2 a) : rm3B r g y2 (a.put (some (rm3D k)) v) := by
  have hne := rm3D_ne k hk
  refine ⟨?_, ?_, ?_, h.2.2.2⟩
  · rw [← h.1]
    show (a.tmps.setIfInBounds (rm3D k) v).getD 0 undef = a.tmps.getD 0 undef
    simp [Array.getElem?_setIfInBounds_ne (hne.1)]
  · rw [← h.2.1]
    show (a.tmps.setIfInBounds (rm3D k) v).getD 2 undef = a.tmps.getD 2 undef
    simp [Array.getElem?_setIfInBounds_ne (hne.2.1)]
  · rw [← h.2.2.1]
    show (a.tmps.setIfInBounds (rm3D k) v).getD 3 undef = a.tmps.getD 3 undef
    simp [Array.getElem?_setIfInBounds_ne (hne.2.2)]
theorem rm3D_inj : ∀ i, i < 14 → ∀ j, j < 14 → rm3D i = rm3D j → i = j := by decide
def rm3T : List (Oper × List Nat) := [(⟨some 22, Op.move (Operand.tmp 0), 95, "", #[], none⟩, []), (⟨some 23, Op.nilCheck (Operand.tmp 22), 0, "", #[], none⟩, [0]), (⟨some 24, Op.fieldAddr 74 (Operand.tmp 23) 0, 0, "", #[], none⟩, [1]), (⟨some 25, Op.fieldAddr 59 (Operand.tmp 24) 0, 0, "", #[], none⟩, [2]), (⟨some 26, Op.call { callee := Callee.value (Operand.func 56), args := #[Operand.tmp 25], argTypes := #[57] }, 3, "", #[], none⟩, [3]), (⟨some 27, Op.move (Operand.tmp 0), 95, "", #[], none⟩, []), (⟨some 28, Op.nilCheck (Operand.tmp 27), 0, "", #[], none⟩, [5]), (⟨some 29, Op.fieldAddr 74 (Operand.tmp 28) 0, 0, "", #[], none⟩, [6]), (⟨some 30, Op.fieldAddr 59 (Operand.tmp 29) 0, 0, "", #[], none⟩, [7]), (⟨some 31, Op.call { callee := Callee.value (Operand.func 56), args := #[Operand.tmp 30], argTypes := #[57] }, 3, "", #[], none⟩, [8, 4]), (⟨some 32, Op.fieldAddr 40 (Operand.tmp 3) 3, 0, "", #[], none⟩, [0, 1, 2, 3, 4]), (⟨none, Op.store 3 (Operand.tmp 32) (Operand.tmp 26), 0, "", #[], none⟩, [10, 4, 9, 0, 1, 2, 3, 4]), (⟨some 33, Op.fieldAddr 40 (Operand.tmp 3) 4, 0, "", #[], none⟩, [0, 1, 2, 3, 4, 5, 6, 7, 8, 9, 10, 11]), (⟨none, Op.store 3 (Operand.tmp 33) (Operand.tmp 31), 0, "", #[], none⟩, [12, 9, 11, 0, 1, 2, 3, 4, 5, 6, 7, 8, 9, 10, 11])]
def rm3C (Z : Nat → Prop) (r g : Nat) (xs : List Nat) (cs : List Value) (w0 : World) (y2 : Value) : Chn := { n := 94, B := rm3B r g y2, R := rm3R r g xs, D := rm3D, pos := posOf [4, 9, 11, 13], N := 4, W := NW Z 2 r g xs cs [3, 4] w0, T := rm3T }

theorem rm3D_mem : ∀ k, k < 14 → ∀ t, rm3D k = t → t < 94 → t ∈ [22, 23, 24, 25, 26, 27, 28, 29, 30, 31, 32, 33] := by
  intro k hk t e ht
  subst e
  revert ht
  revert k
  decide
set_option maxRecDepth 100000 in
theorem rm3_e0 (r g : Nat) (xs : List Nat) (ev : Operand → Value) (z : World) (ec : ∀ c, ev (.const c) = c) (e0 : ev (.tmp 0) = .pointer (some ⟨r, 0, none⟩)) : (execOp ev ⟨some 22, Op.move (Operand.tmp 0), 95, "", #[], none⟩).run Tryd.prog z = .ok (.value (.pointer (some ⟨r, 0, none⟩))) z := by
  go_simp
set_option maxRecDepth 100000 in
theorem rm3_s0 {Q : Exit → Act → World → Prop} (Z : Nat → Prop) (r g : Nat) (xs : List Nat) (cs : List Value) (w0 : World) (y2 : Value) (hb : ∀ x ∈ xs, x < 256) (hrg : r ≠ g) (hZg : ¬ Z g) (hcs : 5 ≤ cs.length) (hpan : ∀ a w, rm3B r g y2 a → Kp (fun b => b = r ∨ b = g) w0 w → seqN xs 2 = none → Q (.panic gaveUp) a w) : (rm3C Z r g xs cs w0 y2).Step Tryd.prog Q 0 ⟨some 22, Op.move (Operand.tmp 0), 95, "", #[], none⟩ [] := by
  refine Chn.pure _ rfl rfl (show 22 < 94 by decide) (by decide) rfl ?_
  intro a w m hn hB hW hdm hup hd K hK
  have e0 : a.eval (.tmp 0) = .pointer (some ⟨r, 0, none⟩) := hB.1
  exact run_value (rm3_e0 r g xs _ w (fun _ => rfl) e0) (hK.out _ w (Kp.refl _ _) rfl)
set_option maxRecDepth 100000 in
theorem rm3_e1 (r g : Nat) (xs : List Nat) (ev : Operand → Value) (z : World) (ec : ∀ c, ev (.const c) = c) (e22 : ev (.tmp 22) = .pointer (some ⟨r, 0, none⟩)) : (execOp ev ⟨some 23, Op.nilCheck (Operand.tmp 22), 0, "", #[], none⟩).run Tryd.prog z = .ok (.value (.pointer (some ⟨r, 0, none⟩))) z := by
  go_simp
set_option maxRecDepth 100000 in
theorem rm3_s1 {Q : Exit → Act → World → Prop} (Z : Nat → Prop) (r g : Nat) (xs : List Nat) (cs : List Value) (w0 : World) (y2 : Value) (hb : ∀ x ∈ xs, x < 256) (hrg : r ≠ g) (hZg : ¬ Z g) (hcs : 5 ≤ cs.length) (hpan : ∀ a w, rm3B r g y2 a → Kp (fun b => b = r ∨ b = g) w0 w → seqN xs 2 = none → Q (.panic gaveUp) a w) : (rm3C Z r g xs cs w0 y2).Step Tryd.prog Q 1 ⟨some 23, Op.nilCheck (Operand.tmp 22), 0, "", #[], none⟩ [0] := by
  refine Chn.pure _ rfl rfl (show 23 < 94 by decide) (by decide) rfl ?_
  intro a w m hn hB hW hdm hup hd K hK
  have e22 : a.eval (.tmp 22) = .pointer (some ⟨r, 0, none⟩) := hd 0 (by decide)
  exact run_value (rm3_e1 r g xs _ w (fun _ => rfl) e22) (hK.out _ w (Kp.refl _ _) rfl)
set_option maxRecDepth 100000 in
theorem rm3_e2 (r g : Nat) (xs : List Nat) (ev : Operand → Value) (z : World) (ec : ∀ c, ev (.const c) = c) (e23 : ev (.tmp 23) = .pointer (some ⟨r, 0, none⟩)) : (execOp ev ⟨some 24, Op.fieldAddr 74 (Operand.tmp 23) 0, 0, "", #[], none⟩).run Tryd.prog z = .ok (.value (.pointer (some ⟨r, 0, none⟩))) z := by
  go_simp
set_option maxRecDepth 100000 in
theorem rm3_s2 {Q : Exit → Act → World → Prop} (Z : Nat → Prop) (r g : Nat) (xs : List Nat) (cs : List Value) (w0 : World) (y2 : Value) (hb : ∀ x ∈ xs, x < 256) (hrg : r ≠ g) (hZg : ¬ Z g) (hcs : 5 ≤ cs.length) (hpan : ∀ a w, rm3B r g y2 a → Kp (fun b => b = r ∨ b = g) w0 w → seqN xs 2 = none → Q (.panic gaveUp) a w) : (rm3C Z r g xs cs w0 y2).Step Tryd.prog Q 2 ⟨some 24, Op.fieldAddr 74 (Operand.tmp 23) 0, 0, "", #[], none⟩ [1] := by
  refine Chn.pure _ rfl rfl (show 24 < 94 by decide) (by decide) rfl ?_
  intro a w m hn hB hW hdm hup hd K hK
  have e23 : a.eval (.tmp 23) = .pointer (some ⟨r, 0, none⟩) := hd 1 (by decide)
  exact run_value (rm3_e2 r g xs _ w (fun _ => rfl) e23) (hK.out _ w (Kp.refl _ _) rfl)
set_option maxRecDepth 100000 in
theorem rm3_e3 (r g : Nat) (xs : List Nat) (ev : Operand → Value) (z : World) (ec : ∀ c, ev (.const c) = c) (e24 : ev (.tmp 24) = .pointer (some ⟨r, 0, none⟩)) : (execOp ev ⟨some 25, Op.fieldAddr 59 (Operand.tmp 24) 0, 0, "", #[], none⟩).run Tryd.prog z = .ok (.value (.pointer (some ⟨r, 0, none⟩))) z := by
  go_simp
set_option maxRecDepth 100000 in
theorem rm3_s3 {Q : Exit → Act → World → Prop} (Z : Nat → Prop) (r g : Nat) (xs : List Nat) (cs : List Value) (w0 : World) (y2 : Value) (hb : ∀ x ∈ xs, x < 256) (hrg : r ≠ g) (hZg : ¬ Z g) (hcs : 5 ≤ cs.length) (hpan : ∀ a w, rm3B r g y2 a → Kp (fun b => b = r ∨ b = g) w0 w → seqN xs 2 = none → Q (.panic gaveUp) a w) : (rm3C Z r g xs cs w0 y2).Step Tryd.prog Q 3 ⟨some 25, Op.fieldAddr 59 (Operand.tmp 24) 0, 0, "", #[], none⟩ [2] := by
  refine Chn.pure _ rfl rfl (show 25 < 94 by decide) (by decide) rfl ?_
  intro a w m hn hB hW hdm hup hd K hK
  have e24 : a.eval (.tmp 24) = .pointer (some ⟨r, 0, none⟩) := hd 2 (by decide)
  exact run_value (rm3_e3 r g xs _ w (fun _ => rfl) e24) (hK.out _ w (Kp.refl _ _) rfl)
set_option maxRecDepth 100000 in
theorem rm3_e4 (r g : Nat) (xs : List Nat) (ev : Operand → Value) (z : World) (ec : ∀ c, ev (.const c) = c) (ef : ∀ f, ev (.func f) = .func (.func f) #[] #[]) (e25 : ev (.tmp 25) = .pointer (some ⟨r, 0, none⟩)) : (execOp ev ⟨some 26, Op.call { callee := Callee.value (Operand.func 56), args := #[Operand.tmp 25], argTypes := #[57] }, 3, "", #[], none⟩).run Tryd.prog z = .ok (.enter 56 #[.pointer (some ⟨r, 0, none⟩)]) z := enter_run _ (ef _) (by simp only [List.map_toArray, List.map_cons, List.map_nil, ec, ef, e25]) (fun _ => by rfl)
set_option maxRecDepth 100000 in
theorem rm3_s4 {Q : Exit → Act → World → Prop} (Z : Nat → Prop) (r g : Nat) (xs : List Nat) (cs : List Value) (w0 : World) (y2 : Value) (hb : ∀ x ∈ xs, x < 256) (hrg : r ≠ g) (hZg : ¬ Z g) (hcs : 5 ≤ cs.length) (hpan : ∀ a w, rm3B r g y2 a → Kp (fun b => b = r ∨ b = g) w0 w → seqN xs 2 = none → Q (.panic gaveUp) a w) : (rm3C Z r g xs cs w0 y2).Step Tryd.prog Q 4 ⟨some 26, Op.call { callee := Callee.value (Operand.func 56), args := #[Operand.tmp 25], argTypes := #[57] }, 3, "", #[], none⟩ [3] := by
  refine Chn.link _ 0 rfl (fun q hq => by omega) (show 0 < 4 by decide) (Or.inl ⟨rfl, show 26 < 94 by decide⟩) (by decide) rfl ?_
  intro a w hn hB hW hd K hK
  have e25 : a.eval (.tmp 25) = .pointer (some ⟨r, 0, none⟩) := hd 3 (by decide)
  refine wp_enterP (rm3_e4 r g xs _ w (fun _ => rfl) (fun _ => rfl) e25) (NW.call (Z := Z) (g := g) (cs := cs) (offs := [3, 4]) (w0 := w0) (k := 2) (j := 0) hW (by decide) hb hrg hZg) ?_
  rintro e9 w9 (⟨rfl, h9⟩ | ⟨rfl, h9, h8⟩)
  · exact Or.inl ⟨_, rfl, hK.out _ _ h9 (fun _ _ _ h => h) rfl⟩
  · exact Or.inr ⟨_, rfl, hpan a w9 hB h9 (seqN_none h8 (by decide))⟩
set_option maxRecDepth 100000 in
theorem rm3_e5 (r g : Nat) (xs : List Nat) (ev : Operand → Value) (z : World) (ec : ∀ c, ev (.const c) = c) (e0 : ev (.tmp 0) = .pointer (some ⟨r, 0, none⟩)) : (execOp ev ⟨some 27, Op.move (Operand.tmp 0), 95, "", #[], none⟩).run Tryd.prog z = .ok (.value (.pointer (some ⟨r, 0, none⟩))) z := by
  go_simp
set_option maxRecDepth 100000 in
theorem rm3_s5 {Q : Exit → Act → World → Prop} (Z : Nat → Prop) (r g : Nat) (xs : List Nat) (cs : List Value) (w0 : World) (y2 : Value) (hb : ∀ x ∈ xs, x < 256) (hrg : r ≠ g) (hZg : ¬ Z g) (hcs : 5 ≤ cs.length) (hpan : ∀ a w, rm3B r g y2 a → Kp (fun b => b = r ∨ b = g) w0 w → seqN xs 2 = none → Q (.panic gaveUp) a w) : (rm3C Z r g xs cs w0 y2).Step Tryd.prog Q 5 ⟨some 27, Op.move (Operand.tmp 0), 95, "", #[], none⟩ [] := by
  refine Chn.pure _ rfl rfl (show 27 < 94 by decide) (by decide) rfl ?_
  intro a w m hn hB hW hdm hup hd K hK
  have e0 : a.eval (.tmp 0) = .pointer (some ⟨r, 0, none⟩) := hB.1
  exact run_value (rm3_e5 r g xs _ w (fun _ => rfl) e0) (hK.out _ w (Kp.refl _ _) rfl)
set_option maxRecDepth 100000 in
theorem rm3_e6 (r g : Nat) (xs : List Nat) (ev : Operand → Value) (z : World) (ec : ∀ c, ev (.const c) = c) (e27 : ev (.tmp 27) = .pointer (some ⟨r, 0, none⟩)) : (execOp ev ⟨some 28, Op.nilCheck (Operand.tmp 27), 0, "", #[], none⟩).run Tryd.prog z = .ok (.value (.pointer (some ⟨r, 0, none⟩))) z := by
  go_simp
set_option maxRecDepth 100000 in
theorem rm3_s6 {Q : Exit → Act → World → Prop} (Z : Nat → Prop) (r g : Nat) (xs : List Nat) (cs : List Value) (w0 : World) (y2 : Value) (hb : ∀ x ∈ xs, x < 256) (hrg : r ≠ g) (hZg : ¬ Z g) (hcs : 5 ≤ cs.length) (hpan : ∀ a w, rm3B r g y2 a → Kp (fun b => b = r ∨ b = g) w0 w → seqN xs 2 = none → Q (.panic gaveUp) a w) : (rm3C Z r g xs cs w0 y2).Step Tryd.prog Q 6 ⟨some 28, Op.nilCheck (Operand.tmp 27), 0, "", #[], none⟩ [5] := by
  refine Chn.pure _ rfl rfl (show 28 < 94 by decide) (by decide) rfl ?_
  intro a w m hn hB hW hdm hup hd K hK
  have e27 : a.eval (.tmp 27) = .pointer (some ⟨r, 0, none⟩) := hd 5 (by decide)
  exact run_value (rm3_e6 r g xs _ w (fun _ => rfl) e27) (hK.out _ w (Kp.refl _ _) rfl)
set_option maxRecDepth 100000 in
theorem rm3_e7 (r g : Nat) (xs : List Nat) (ev : Operand → Value) (z : World) (ec : ∀ c, ev (.const c) = c) (e28 : ev (.tmp 28) = .pointer (some ⟨r, 0, none⟩)) : (execOp ev ⟨some 29, Op.fieldAddr 74 (Operand.tmp 28) 0, 0, "", #[], none⟩).run Tryd.prog z = .ok (.value (.pointer (some ⟨r, 0, none⟩))) z := by
  go_simp
set_option maxRecDepth 100000 in
theorem rm3_s7 {Q : Exit → Act → World → Prop} (Z : Nat → Prop) (r g : Nat) (xs : List Nat) (cs : List Value) (w0 : World) (y2 : Value) (hb : ∀ x ∈ xs, x < 256) (hrg : r ≠ g) (hZg : ¬ Z g) (hcs : 5 ≤ cs.length) (hpan : ∀ a w, rm3B r g y2 a → Kp (fun b => b = r ∨ b = g) w0 w → seqN xs 2 = none → Q (.panic gaveUp) a w) : (rm3C Z r g xs cs w0 y2).Step Tryd.prog Q 7 ⟨some 29, Op.fieldAddr 74 (Operand.tmp 28) 0, 0, "", #[], none⟩ [6] := by
  refine Chn.pure _ rfl rfl (show 29 < 94 by decide) (by decide) rfl ?_
  intro a w m hn hB hW hdm hup hd K hK
  have e28 : a.eval (.tmp 28) = .pointer (some ⟨r, 0, none⟩) := hd 6 (by decide)
  exact run_value (rm3_e7 r g xs _ w (fun _ => rfl) e28) (hK.out _ w (Kp.refl _ _) rfl)
set_option maxRecDepth 100000 in
theorem rm3_e8 (r g : Nat) (xs : List Nat) (ev : Operand → Value) (z : World) (ec : ∀ c, ev (.const c) = c) (e29 : ev (.tmp 29) = .pointer (some ⟨r, 0, none⟩)) : (execOp ev ⟨some 30, Op.fieldAddr 59 (Operand.tmp 29) 0, 0, "", #[], none⟩).run Tryd.prog z = .ok (.value (.pointer (some ⟨r, 0, none⟩))) z := by
  go_simp
set_option maxRecDepth 100000 in
theorem rm3_s8 {Q : Exit → Act → World → Prop} (Z : Nat → Prop) (r g : Nat) (xs : List Nat) (cs : List Value) (w0 : World) (y2 : Value) (hb : ∀ x ∈ xs, x < 256) (hrg : r ≠ g) (hZg : ¬ Z g) (hcs : 5 ≤ cs.length) (hpan : ∀ a w, rm3B r g y2 a → Kp (fun b => b = r ∨ b = g) w0 w → seqN xs 2 = none → Q (.panic gaveUp) a w) : (rm3C Z r g xs cs w0 y2).Step Tryd.prog Q 8 ⟨some 30, Op.fieldAddr 59 (Operand.tmp 29) 0, 0, "", #[], none⟩ [7] := by
  refine Chn.pure _ rfl rfl (show 30 < 94 by decide) (by decide) rfl ?_
  intro a w m hn hB hW hdm hup hd K hK
  have e29 : a.eval (.tmp 29) = .pointer (some ⟨r, 0, none⟩) := hd 7 (by decide)
  exact run_value (rm3_e8 r g xs _ w (fun _ => rfl) e29) (hK.out _ w (Kp.refl _ _) rfl)
set_option maxRecDepth 100000 in
theorem rm3_e9 (r g : Nat) (xs : List Nat) (ev : Operand → Value) (z : World) (ec : ∀ c, ev (.const c) = c) (ef : ∀ f, ev (.func f) = .func (.func f) #[] #[]) (e30 : ev (.tmp 30) = .pointer (some ⟨r, 0, none⟩)) : (execOp ev ⟨some 31, Op.call { callee := Callee.value (Operand.func 56), args := #[Operand.tmp 30], argTypes := #[57] }, 3, "", #[], none⟩).run Tryd.prog z = .ok (.enter 56 #[.pointer (some ⟨r, 0, none⟩)]) z := enter_run _ (ef _) (by simp only [List.map_toArray, List.map_cons, List.map_nil, ec, ef, e30]) (fun _ => by rfl)
set_option maxRecDepth 100000 in
theorem rm3_s9 {Q : Exit → Act → World → Prop} (Z : Nat → Prop) (r g : Nat) (xs : List Nat) (cs : List Value) (w0 : World) (y2 : Value) (hb : ∀ x ∈ xs, x < 256) (hrg : r ≠ g) (hZg : ¬ Z g) (hcs : 5 ≤ cs.length) (hpan : ∀ a w, rm3B r g y2 a → Kp (fun b => b = r ∨ b = g) w0 w → seqN xs 2 = none → Q (.panic gaveUp) a w) : (rm3C Z r g xs cs w0 y2).Step Tryd.prog Q 9 ⟨some 31, Op.call { callee := Callee.value (Operand.func 56), args := #[Operand.tmp 30], argTypes := #[57] }, 3, "", #[], none⟩ [8, 4] := by
  refine Chn.link _ 1 rfl (prevOf 4 0 (by decide) rfl) (show 1 < 4 by decide) (Or.inl ⟨rfl, show 31 < 94 by decide⟩) (by decide) rfl ?_
  intro a w hn hB hW hd K hK
  have e30 : a.eval (.tmp 30) = .pointer (some ⟨r, 0, none⟩) := hd 8 (by decide)
  refine wp_enterP (rm3_e9 r g xs _ w (fun _ => rfl) (fun _ => rfl) e30) (NW.call (Z := Z) (g := g) (cs := cs) (offs := [3, 4]) (w0 := w0) (k := 2) (j := 1) hW (by decide) hb hrg hZg) ?_
  rintro e9 w9 (⟨rfl, h9⟩ | ⟨rfl, h9, h8⟩)
  · exact Or.inl ⟨_, rfl, hK.out _ _ h9 (fun _ _ _ h => h) rfl⟩
  · exact Or.inr ⟨_, rfl, hpan a w9 hB h9 (seqN_none h8 (by decide))⟩
set_option maxRecDepth 100000 in
theorem rm3_e10 (r g : Nat) (xs : List Nat) (ev : Operand → Value) (z : World) (ec : ∀ c, ev (.const c) = c) (e3 : ev (.tmp 3) = .pointer (some ⟨g, 0, none⟩)) : (execOp ev ⟨some 32, Op.fieldAddr 40 (Operand.tmp 3) 3, 0, "", #[], none⟩).run Tryd.prog z = .ok (.value (.pointer (some ⟨g, 3, none⟩))) z := by
  go_simp
set_option maxRecDepth 100000 in
theorem rm3_s10 {Q : Exit → Act → World → Prop} (Z : Nat → Prop) (r g : Nat) (xs : List Nat) (cs : List Value) (w0 : World) (y2 : Value) (hb : ∀ x ∈ xs, x < 256) (hrg : r ≠ g) (hZg : ¬ Z g) (hcs : 5 ≤ cs.length) (hpan : ∀ a w, rm3B r g y2 a → Kp (fun b => b = r ∨ b = g) w0 w → seqN xs 2 = none → Q (.panic gaveUp) a w) : (rm3C Z r g xs cs w0 y2).Step Tryd.prog Q 10 ⟨some 32, Op.fieldAddr 40 (Operand.tmp 3) 3, 0, "", #[], none⟩ [0, 1, 2, 3, 4] := by
  refine Chn.pure _ rfl rfl (show 32 < 94 by decide) (by decide) rfl ?_
  intro a w m hn hB hW hdm hup hd K hK
  have e3 : a.eval (.tmp 3) = .pointer (some ⟨g, 0, none⟩) := hB.2.2.1
  exact run_value (rm3_e10 r g xs _ w (fun _ => rfl) e3) (hK.out _ w (Kp.refl _ _) rfl)
set_option maxRecDepth 100000 in
theorem rm3_e11 (r g : Nat) (xs : List Nat) (ev : Operand → Value) (z : World) (ec : ∀ c, ev (.const c) = c) (e26 : ev (.tmp 26) = .int .i64 (seqV xs 0 : Int)) (e32 : ev (.tmp 32) = .pointer (some ⟨g, 3, none⟩)) {u : Value} (hu : z.cell? ⟨g, 3, none⟩ = some u) (hf : z.frozen? ⟨g, 3, none⟩ = false) : (execOp ev ⟨none, Op.store 3 (Operand.tmp 32) (Operand.tmp 26), 0, "", #[], none⟩).run Tryd.prog z = .ok .skip (z.setCell ⟨g, 3, none⟩ (.int .i64 (seqV xs 0 : Int))) := by
  go_simp
set_option maxRecDepth 100000 in
theorem rm3_s11 {Q : Exit → Act → World → Prop} (Z : Nat → Prop) (r g : Nat) (xs : List Nat) (cs : List Value) (w0 : World) (y2 : Value) (hb : ∀ x ∈ xs, x < 256) (hrg : r ≠ g) (hZg : ¬ Z g) (hcs : 5 ≤ cs.length) (hpan : ∀ a w, rm3B r g y2 a → Kp (fun b => b = r ∨ b = g) w0 w → seqN xs 2 = none → Q (.panic gaveUp) a w) : (rm3C Z r g xs cs w0 y2).Step Tryd.prog Q 11 ⟨none, Op.store 3 (Operand.tmp 32) (Operand.tmp 26), 0, "", #[], none⟩ [10, 4, 9, 0, 1, 2, 3, 4] := by
  refine Chn.link _ 2 rfl (prevOf 9 1 (by decide) rfl) (show 2 < 4 by decide) (Or.inr ⟨rfl, show 94 ≤ 105 by decide, fun _ _ => trivial⟩) (by decide) rfl ?_
  intro a w hn hB hW hd K hK
  have e26 : a.eval (.tmp 26) = .int .i64 (seqV xs 0 : Int) := hd 4 (by decide)
  have e32 : a.eval (.tmp 32) = .pointer (some ⟨g, 3, none⟩) := hd 10 (by decide)
  obtain ⟨⟨u, hu⟩, hf, hN⟩ := NW.store (Z := Z) (k := 2) (r := r) (g := g) (xs := xs) (cs := cs) (offs := [3, 4]) (w0 := w0) (j := 2) hW 0 3 rfl rfl (by omega) hrg hZg
  exact run_skip rfl (rm3_e11 r g xs _ w (fun _ => rfl) e26 e32 hu hf) (fun v => hK.out v _ hN (fun _ _ _ h => h) trivial)
set_option maxRecDepth 100000 in
theorem rm3_e12 (r g : Nat) (xs : List Nat) (ev : Operand → Value) (z : World) (ec : ∀ c, ev (.const c) = c) (e3 : ev (.tmp 3) = .pointer (some ⟨g, 0, none⟩)) : (execOp ev ⟨some 33, Op.fieldAddr 40 (Operand.tmp 3) 4, 0, "", #[], none⟩).run Tryd.prog z = .ok (.value (.pointer (some ⟨g, 4, none⟩))) z := by
  go_simp
set_option maxRecDepth 100000 in
theorem rm3_s12 {Q : Exit → Act → World → Prop} (Z : Nat → Prop) (r g : Nat) (xs : List Nat) (cs : List Value) (w0 : World) (y2 : Value) (hb : ∀ x ∈ xs, x < 256) (hrg : r ≠ g) (hZg : ¬ Z g) (hcs : 5 ≤ cs.length) (hpan : ∀ a w, rm3B r g y2 a → Kp (fun b => b = r ∨ b = g) w0 w → seqN xs 2 = none → Q (.panic gaveUp) a w) : (rm3C Z r g xs cs w0 y2).Step Tryd.prog Q 12 ⟨some 33, Op.fieldAddr 40 (Operand.tmp 3) 4, 0, "", #[], none⟩ [0, 1, 2, 3, 4, 5, 6, 7, 8, 9, 10, 11] := by
  refine Chn.pure _ rfl rfl (show 33 < 94 by decide) (by decide) rfl ?_
  intro a w m hn hB hW hdm hup hd K hK
  have e3 : a.eval (.tmp 3) = .pointer (some ⟨g, 0, none⟩) := hB.2.2.1
  exact run_value (rm3_e12 r g xs _ w (fun _ => rfl) e3) (hK.out _ w (Kp.refl _ _) rfl)
set_option maxRecDepth 100000 in
theorem rm3_e13 (r g : Nat) (xs : List Nat) (ev : Operand → Value) (z : World) (ec : ∀ c, ev (.const c) = c) (e31 : ev (.tmp 31) = .int .i64 (seqV xs 1 : Int)) (e33 : ev (.tmp 33) = .pointer (some ⟨g, 4, none⟩)) {u : Value} (hu : z.cell? ⟨g, 4, none⟩ = some u) (hf : z.frozen? ⟨g, 4, none⟩ = false) : (execOp ev ⟨none, Op.store 3 (Operand.tmp 33) (Operand.tmp 31), 0, "", #[], none⟩).run Tryd.prog z = .ok .skip (z.setCell ⟨g, 4, none⟩ (.int .i64 (seqV xs 1 : Int))) := by
  go_simp
set_option maxRecDepth 100000 in
theorem rm3_s13 {Q : Exit → Act → World → Prop} (Z : Nat → Prop) (r g : Nat) (xs : List Nat) (cs : List Value) (w0 : World) (y2 : Value) (hb : ∀ x ∈ xs, x < 256) (hrg : r ≠ g) (hZg : ¬ Z g) (hcs : 5 ≤ cs.length) (hpan : ∀ a w, rm3B r g y2 a → Kp (fun b => b = r ∨ b = g) w0 w → seqN xs 2 = none → Q (.panic gaveUp) a w) : (rm3C Z r g xs cs w0 y2).Step Tryd.prog Q 13 ⟨none, Op.store 3 (Operand.tmp 33) (Operand.tmp 31), 0, "", #[], none⟩ [12, 9, 11, 0, 1, 2, 3, 4, 5, 6, 7, 8, 9, 10, 11] := by
  refine Chn.link _ 3 rfl (prevOf 11 2 (by decide) rfl) (show 3 < 4 by decide) (Or.inr ⟨rfl, show 94 ≤ 107 by decide, fun _ _ => trivial⟩) (by decide) rfl ?_
  intro a w hn hB hW hd K hK
  have e31 : a.eval (.tmp 31) = .int .i64 (seqV xs 1 : Int) := hd 9 (by decide)
  have e33 : a.eval (.tmp 33) = .pointer (some ⟨g, 4, none⟩) := hd 12 (by decide)
  obtain ⟨⟨u, hu⟩, hf, hN⟩ := NW.store (Z := Z) (k := 2) (r := r) (g := g) (xs := xs) (cs := cs) (offs := [3, 4]) (w0 := w0) (j := 3) hW 1 4 rfl rfl (by omega) hrg hZg
  exact run_skip rfl (rm3_e13 r g xs _ w (fun _ => rfl) e31 e33 hu hf) (fun v => hK.out v _ hN (fun _ _ _ h => h) trivial)
theorem rm3_steps {Q : Exit → Act → World → Prop} (Z : Nat → Prop) (r g : Nat) (xs : List Nat) (cs : List Value) (w0 : World) (y2 : Value) (hb : ∀ x ∈ xs, x < 256) (hrg : r ≠ g) (hZg : ¬ Z g) (hcs : 5 ≤ cs.length) (hpan : ∀ a w, rm3B r g y2 a → Kp (fun b => b = r ∨ b = g) w0 w → seqN xs 2 = none → Q (.panic gaveUp) a w) : (rm3C Z r g xs cs w0 y2).Steps Tryd.prog Q 0 rm3T := ⟨rm3_s0 Z r g xs cs w0 y2 hb hrg hZg hcs hpan, rm3_s1 Z r g xs cs w0 y2 hb hrg hZg hcs hpan, rm3_s2 Z r g xs cs w0 y2 hb hrg hZg hcs hpan, rm3_s3 Z r g xs cs w0 y2 hb hrg hZg hcs hpan, rm3_s4 Z r g xs cs w0 y2 hb hrg hZg hcs hpan, rm3_s5 Z r g xs cs w0 y2 hb hrg hZg hcs hpan, rm3_s6 Z r g xs cs w0 y2 hb hrg hZg hcs hpan, rm3_s7 Z r g xs cs w0 y2 hb hrg hZg hcs hpan, rm3_s8 Z r g xs cs w0 y2 hb hrg hZg hcs hpan, rm3_s9 Z r g xs cs w0 y2 hb hrg hZg hcs hpan, rm3_s10 Z r g xs cs w0 y2 hb hrg hZg hcs hpan, rm3_s11 Z r g xs cs w0 y2 hb hrg hZg hcs hpan, rm3_s12 Z r g xs cs w0 y2 hb hrg hZg hcs hpan, rm3_s13 Z r g xs cs w0 y2 hb hrg hZg hcs hpan, trivial⟩
/-- the region: the numbers are read and laid into the struct, or it gives up -/
theorem rm3_region {ops : Array Oper} {rid : Nat} {Q : Exit → Act → World → Prop} {a : Act} {y : World} (Z : Nat → Prop) (r g : Nat) (xs : List Nat) (cs : List Value) (y2 : Value) (hT : ops.toList.map (fun o => (bare o, deps o)) = rm3T) (hn : a.tmps.size = 94) (hB : rm3B r g y2 a)
    (hb : ∀ x ∈ xs, x < 256) (hrg : r ≠ g) (hZg : ¬ Z g) (hcs : 5 ≤ cs.length) (hc : Cu Z y r xs) (hl : Lv y g cs)
    (hpan : ∀ a w, rm3B r g y2 a → Kp (fun b => b = r ∨ b = g) y w → seqN xs 2 = none → Q (.panic gaveUp) a w)
    (hend : ∀ q22 q23 q24 q25 q26 q27 q28 q29 q30 q31 q32 q33 w t, Kp (fun b => b = r ∨ b = g) y w → seqN xs 2 = some t → Cu Z w r t → Lv w g (setsN xs 0 [3, 4] cs) → Q .normal ((((((((((((a.put (some 22) q22).put (some 23) q23).put (some 24) q24).put (some 25) q25).put (some 26) q26).put (some 27) q27).put (some 28) q28).put (some 29) q29).put (some 30) q30).put (some 31) q31).put (some 32) q32).put (some 33) q33) w) : (Code.region rid ops true).wp Tryd.prog Q a y := by
  have kd : Kp (fun b => b = r ∨ b = g) y y.drew := (Kp.refl _ _).drew
  have k0 : Kp (fun _ => False) y y.drew := (Kp.refl _ _).drew
  refine chain_region (rm3C Z r g xs cs y.drew y2) (by kernel_rfl) hT hn hB (fun k v a hk _ h => rm3B_put r g y2 k v a hk h) (fun i j h1 h2 => rm3D_inj i h1 j h2) (fun i j p h1 h2 => posOf_inj _ i j p) (posOf_at [4, 9, 11, 13] 14 (by decide) (by decide)) ?_ (fun m w w' hk h => NW.grow h hk) (fun i v w w' hk h => h) (rm3_steps Z r g xs cs y.drew y2 hb hrg hZg hcs (fun a w h1 h2 h3 => hpan a w h1 (kd.trans h2 (fun _ _ e => e)) h3)) ?_
  · exact ⟨Kp.refl _ _, xs, rfl, hc.keep k0 id (fun _ _ => id), hl.keep k0 id⟩
  · rintro a' w h1 h2 hfr ⟨h3, t, h4, h5, h6⟩ _
    rw [act_puts a' [22, 23, 24, 25, 26, 27, 28, 29, 30, 31, 32, 33] a (h1.trans hn.symm) (h2.2.2.2.trans hB.2.2.2.symm) (fun t ht => by
      rcases Nat.lt_or_ge t a'.tmps.size with hl | hl
      · exact hfr t (fun k hk e => ht (rm3D_mem k hk t e (Nat.lt_of_lt_of_eq hl h1)))
      · rw [eval_past a' t hl, eval_past a t (by have h9 : a.tmps.size = a'.tmps.size := hn.trans h1.symm; omega)])]
    exact hend (a'.eval (.tmp 22)) (a'.eval (.tmp 23)) (a'.eval (.tmp 24)) (a'.eval (.tmp 25)) (a'.eval (.tmp 26)) (a'.eval (.tmp 27)) (a'.eval (.tmp 28)) (a'.eval (.tmp 29)) (a'.eval (.tmp 30)) (a'.eval (.tmp 31)) (a'.eval (.tmp 32)) (a'.eval (.tmp 33)) w t (kd.trans h3 (fun _ _ e => e)) h4 h5 h6

def rm4V (r g : Nat) (xs : List Nat) : Nat → Value
  | 0 => .pointer (some ⟨r, 0, none⟩)
  | 1 => .pointer (some ⟨r, 0, none⟩)
  | 2 => .pointer (some ⟨r, 0, none⟩)
  | 3 => .pointer (some ⟨r, 0, none⟩)
  | 4 => .int .i64 (seqV xs 0 : Int)
  | 5 => .pointer (some ⟨r, 0, none⟩)
  | 6 => .pointer (some ⟨r, 0, none⟩)
  | 7 => .pointer (some ⟨r, 0, none⟩)
  | 8 => .pointer (some ⟨r, 0, none⟩)
  | 9 => .int .i64 (seqV xs 1 : Int)
  | 10 => .pointer (some ⟨r, 0, none⟩)
  | 11 => .pointer (some ⟨r, 0, none⟩)
  | 12 => .pointer (some ⟨r, 0, none⟩)
  | 13 => .pointer (some ⟨r, 0, none⟩)
  | 14 => .int .i64 (seqV xs 2 : Int)
  | 15 => .pointer (some ⟨r, 0, none⟩)
  | 16 => .pointer (some ⟨r, 0, none⟩)
  | 17 => .pointer (some ⟨r, 0, none⟩)
  | 18 => .pointer (some ⟨r, 0, none⟩)
  | 19 => .int .i64 (seqV xs 3 : Int)
  | 20 => .pointer (some ⟨g, 5, none⟩)
  | 21 => undef
  | 22 => .pointer (some ⟨g, 6, none⟩)
  | 23 => undef
  | 24 => .pointer (some ⟨g, 7, none⟩)
  | 25 => undef
  | 26 => .pointer (some ⟨g, 8, none⟩)
  | 27 => undef
  | _ => undef
def rm4R (r g : Nat) (xs : List Nat) (i : Nat) (v : Value) (w : World) : Prop := match i with
  | 21 => True
  | 23 => True
  | 25 => True
  | 27 => True
  | i => v = rm4V r g xs i
def rm4D (k : Nat) : Nat := [34, 35, 36, 37, 38, 39, 40, 41, 42, 43, 44, 45, 46, 47, 48, 49, 50, 51, 52, 53, 54, 115, 55, 117, 56, 119, 57, 121].getD k 0
def rm4B (r g : Nat) (y2 : Value) (a : Act) : Prop := a.eval (.tmp 0) = .pointer (some ⟨r, 0, none⟩) ∧ a.eval (.tmp 2) = y2 ∧ a.eval (.tmp 3) = .pointer (some ⟨g, 0, none⟩) ∧ a.defers = []
theorem rm4D_ne : ∀ k, k < 28 → rm4D k ≠ 0 ∧ rm4D k ≠ 2 ∧ rm4D k ≠ 3 := by decide
theorem rm4B_put (r g : Nat) (y2 : Value) (k : Nat) (v : Value) (a : Act) (hk : k < 28) (h : rm4B r g y2 a) : rm4B r g y2 (a.put (some (rm4D k)) v) := by
  have hne := rm4D_ne k hk
  refine ⟨?_, ?_, ?_, h.2.2.2⟩
  · rw [← h.1]
    show (a.tmps.setIfInBounds (rm4D k) v).getD 0 undef = a.tmps.getD 0 undef
    simp [Array.getElem?_setIfInBounds_ne (hne.1)]
  · rw [← h.2.1]
    show (a.tmps.setIfInBounds (rm4D k) v).getD 2 undef = a.tmps.getD 2 undef
    simp [Array.getElem?_setIfInBounds_ne (hne.2.1)]
  · rw [← h.2.2.1]
    show (a.tmps.setIfInBounds (rm4D k) v).getD 3 undef = a.tmps.getD 3 undef
    simp [Array.getElem?_setIfInBounds_ne (hne.2.2)]
theorem rm4D_inj : ∀ i, i < 28 → ∀ j, j < 28 → rm4D i = rm4D j → i = j := by decide
def rm4T : List (Oper × List Nat) := [(⟨some 34, Op.move (Operand.tmp 0), 95, "", #[], none⟩, []), (⟨some 35, Op.nilCheck (Operand.tmp 34), 0, "", #[], none⟩, [0]), (⟨some 36, Op.fieldAddr 74 (Operand.tmp 35) 0, 0, "", #[], none⟩, [1]), (⟨some 37, Op.fieldAddr 59 (Operand.tmp 36) 0, 0, "", #[], none⟩, [2]), (⟨some 38, Op.call { callee := Callee.value (Operand.func 56), args := #[Operand.tmp 37], argTypes := #[57] }, 3, "", #[], none⟩, [3]), (⟨some 39, Op.move (Operand.tmp 0), 95, "", #[], none⟩, []), (⟨some 40, Op.nilCheck (Operand.tmp 39), 0, "", #[], none⟩, [5]), (⟨some 41, Op.fieldAddr 74 (Operand.tmp 40) 0, 0, "", #[], none⟩, [6]), (⟨some 42, Op.fieldAddr 59 (Operand.tmp 41) 0, 0, "", #[], none⟩, [7]), (⟨some 43, Op.call { callee := Callee.value (Operand.func 56), args := #[Operand.tmp 42], argTypes := #[57] }, 3, "", #[], none⟩, [8, 4]), (⟨some 44, Op.move (Operand.tmp 0), 95, "", #[], none⟩, []), (⟨some 45, Op.nilCheck (Operand.tmp 44), 0, "", #[], none⟩, [10]), (⟨some 46, Op.fieldAddr 74 (Operand.tmp 45) 0, 0, "", #[], none⟩, [11]), (⟨some 47, Op.fieldAddr 59 (Operand.tmp 46) 0, 0, "", #[], none⟩, [12]), (⟨some 48, Op.call { callee := Callee.value (Operand.func 56), args := #[Operand.tmp 47], argTypes := #[57] }, 3, "", #[], none⟩, [13, 9]), (⟨some 49, Op.move (Operand.tmp 0), 95, "", #[], none⟩, []), (⟨some 50, Op.nilCheck (Operand.tmp 49), 0, "", #[], none⟩, [15]), (⟨some 51, Op.fieldAddr 74 (Operand.tmp 50) 0, 0, "", #[], none⟩, [16]), (⟨some 52, Op.fieldAddr 59 (Operand.tmp 51) 0, 0, "", #[], none⟩, [17]), (⟨some 53, Op.call { callee := Callee.value (Operand.func 56), args := #[Operand.tmp 52], argTypes := #[57] }, 3, "", #[], none⟩, [18, 14]), (⟨some 54, Op.fieldAddr 40 (Operand.tmp 3) 5, 0, "", #[], none⟩, [0, 1, 2, 3, 4]), (⟨none, Op.store 3 (Operand.tmp 54) (Operand.tmp 38), 0, "", #[], none⟩, [20, 4, 19, 0, 1, 2, 3, 4]), (⟨some 55, Op.fieldAddr 40 (Operand.tmp 3) 6, 0, "", #[], none⟩, [0, 1, 2, 3, 4, 5, 6, 7, 8, 9, 20, 21]), (⟨none, Op.store 3 (Operand.tmp 55) (Operand.tmp 43), 0, "", #[], none⟩, [22, 9, 21, 0, 1, 2, 3, 4, 5, 6, 7, 8, 9, 20, 21]), (⟨some 56, Op.fieldAddr 40 (Operand.tmp 3) 7, 0, "", #[], none⟩, [0, 1, 2, 3, 4, 5, 6, 7, 8, 9, 10, 11, 12, 13, 14, 20, 21, 22, 23]), (⟨none, Op.store 3 (Operand.tmp 56) (Operand.tmp 48), 0, "", #[], none⟩, [24, 14, 23, 0, 1, 2, 3, 4, 5, 6, 7, 8, 9, 10, 11, 12, 13, 14, 20, 21, 22, 23]), (⟨some 57, Op.fieldAddr 40 (Operand.tmp 3) 8, 0, "", #[], none⟩, [0, 1, 2, 3, 4, 5, 6, 7, 8, 9, 10, 11, 12, 13, 14, 15, 16, 17, 18, 19, 20, 21, 22, 23, 24, 25]), (⟨none, Op.store 3 (Operand.tmp 57) (Operand.tmp 53), 0, "", #[], none⟩, [26, 19, 25, 0, 1, 2, 3, 4, 5, 6, 7, 8, 9, 10, 11, 12, 13, 14, 15, 16, 17, 18, 19, 20, 21, 22, 23, 24, 25])]
def rm4C (Z : Nat → Prop) (r g : Nat) (xs : List Nat) (cs : List Value) (w0 : World) (y2 : Value) : Chn := { n := 94, B := rm4B r g y2, R := rm4R r g xs, D := rm4D, pos := posOf [4, 9, 14, 19, 21, 23, 25, 27], N := 8, W := NW Z 4 r g xs cs [5, 6, 7, 8] w0, T := rm4T }

theorem rm4D_mem : ∀ k, k < 28 → ∀ t, rm4D k = t → t < 94 → t ∈ [34, 35, 36, 37, 38, 39, 40, 41, 42, 43, 44, 45, 46, 47, 48, 49, 50, 51, 52, 53, 54, 55, 56, 57] := by
  intro k hk t e ht
  subst e
  revert ht
  revert k
  decide
set_option maxRecDepth 100000 in
theorem rm4_e0 (r g : Nat) (xs : List Nat) (ev : Operand → Value) (z : World) (ec : ∀ c, ev (.const c) = c) (e0 : ev (.tmp 0) = .pointer (some ⟨r, 0, none⟩)) : (execOp ev ⟨some 34, Op.move (Operand.tmp 0), 95, "", #[], none⟩).run Tryd.prog z = .ok (.value (.pointer (some ⟨r, 0, none⟩))) z := by
  go_simp
set_option maxRecDepth 100000 in
theorem rm4_s0 {Q : Exit → Act → World → Prop} (Z : Nat → Prop) (r g : Nat) (xs : List Nat) (cs : List Value) (w0 : World) (y2 : Value) (hb : ∀ x ∈ xs, x < 256) (hrg : r ≠ g) (hZg : ¬ Z g) (hcs : 9 ≤ cs.length) (hpan : ∀ a w, rm4B r g y2 a → Kp (fun b => b = r ∨ b = g) w0 w → seqN xs 4 = none → Q (.panic gaveUp) a w) : (rm4C Z r g xs cs w0 y2).Step Tryd.prog Q 0 ⟨some 34, Op.move (Operand.tmp 0), 95, "", #[], none⟩ [] := by
  refine Chn.pure _ rfl rfl (show 34 < 94 by decide) (by decide) rfl ?_
  intro a w m hn hB hW hdm hup hd K hK
  have e0 : a.eval (.tmp 0) = .pointer (some ⟨r, 0, none⟩) := hB.1
  exact run_value (rm4_e0 r g xs _ w (fun _ => rfl) e0) (hK.out _ w (Kp.refl _ _) rfl)
set_option maxRecDepth 100000 in
theorem rm4_e1 (r g : Nat) (xs : List Nat) (ev : Operand → Value) (z : World) (ec : ∀ c, ev (.const c) = c) (e34 : ev (.tmp 34) = .pointer (some ⟨r, 0, none⟩)) : (execOp ev ⟨some 35, Op.nilCheck (Operand.tmp 34), 0, "", #[], none⟩).run Tryd.prog z = .ok (.value (.pointer (some ⟨r, 0, none⟩))) z := by
  go_simp
set_option maxRecDepth 100000 in
theorem rm4_s1 {Q : Exit → Act → World → Prop} (Z : Nat → Prop) (r g : Nat) (xs : List Nat) (cs : List Value) (w0 : World) (y2 : Value) (hb : ∀ x ∈ xs, x < 256) (hrg : r ≠ g) (hZg : ¬ Z g) (hcs : 9 ≤ cs.length) (hpan : ∀ a w, rm4B r g y2 a → Kp (fun b => b = r ∨ b = g) w0 w → seqN xs 4 = none → Q (.panic gaveUp) a w) : (rm4C Z r g xs cs w0 y2).Step Tryd.prog Q 1 ⟨some 35, Op.nilCheck (Operand.tmp 34), 0, "", #[], none⟩ [0] := by
  refine Chn.pure _ rfl rfl (show 35 < 94 by decide) (by decide) rfl ?_
  intro a w m hn hB hW hdm hup hd K hK
  have e34 : a.eval (.tmp 34) = .pointer (some ⟨r, 0, none⟩) := hd 0 (by decide)
  exact run_value (rm4_e1 r g xs _ w (fun _ => rfl) e34) (hK.out _ w (Kp.refl _ _) rfl)
set_option maxRecDepth 100000 in
theorem rm4_e2 (r g : Nat) (xs : List Nat) (ev : Operand → Value) (z : World) (ec : ∀ c, ev (.const c) = c) (e35 : ev (.tmp 35) = .pointer (some ⟨r, 0, none⟩)) : (execOp ev ⟨some 36, Op.fieldAddr 74 (Operand.tmp 35) 0, 0, "", #[], none⟩).run Tryd.prog z = .ok (.value (.pointer (some ⟨r, 0, none⟩))) z := by
  go_simp
set_option maxRecDepth 100000 in
theorem rm4_s2 {Q : Exit → Act → World → Prop} (Z : Nat → Prop) (r g : Nat) (xs : List Nat) (cs : List Value) (w0 : World) (y2 : Value) (hb : ∀ x ∈ xs, x < 256) (hrg : r ≠ g) (hZg : ¬ Z g) (hcs : 9 ≤ cs.length) (hpan : ∀ a w, rm4B r g y2 a → Kp (fun b => b = r ∨ b = g) w0 w → seqN xs 4 = none → Q (.panic gaveUp) a w) : (rm4C Z r g xs cs w0 y2).Step Tryd.prog Q 2 ⟨some 36, Op.fieldAddr 74 (Operand.tmp 35) 0, 0, "", #[], none⟩ [1] := by
  refine Chn.pure _ rfl rfl (show 36 < 94 by decide) (by decide) rfl ?_
  intro a w m hn hB hW hdm hup hd K hK
  have e35 : a.eval (.tmp 35) = .pointer (some ⟨r, 0, none⟩) := hd 1 (by decide)
  exact run_value (rm4_e2 r g xs _ w (fun _ => rfl) e35) (hK.out _ w (Kp.refl _ _) rfl)
set_option maxRecDepth 100000 in
theorem rm4_e3 (r g : Nat) (xs : List Nat) (ev : Operand → Value) (z : World) (ec : ∀ c, ev (.const c) = c) (e36 : ev (.tmp 36) = .pointer (some ⟨r, 0, none⟩)) : (execOp ev ⟨some 37, Op.fieldAddr 59 (Operand.tmp 36) 0, 0, "", #[], none⟩).run Tryd.prog z = .ok (.value (.pointer (some ⟨r, 0, none⟩))) z := by
  go_simp
set_option maxRecDepth 100000 in
theorem rm4_s3 {Q : Exit → Act → World → Prop} (Z : Nat → Prop) (r g : Nat) (xs : List Nat) (cs : List Value) (w0 : World) (y2 : Value) (hb : ∀ x ∈ xs, x < 256) (hrg : r ≠ g) (hZg : ¬ Z g) (hcs : 9 ≤ cs.length) (hpan : ∀ a w, rm4B r g y2 a → Kp (fun b => b = r ∨ b = g) w0 w → seqN xs 4 = none → Q (.panic gaveUp) a w) : (rm4C Z r g xs cs w0 y2).Step Tryd.prog Q 3 ⟨some 37, Op.fieldAddr 59 (Operand.tmp 36) 0, 0, "", #[], none⟩ [2] := by
  refine Chn.pure _ rfl rfl (show 37 < 94 by decide) (by decide) rfl ?_
  intro a w m hn hB hW hdm hup hd K hK
  have e36 : a.eval (.tmp 36) = .pointer (some ⟨r, 0, none⟩) := hd 2 (by decide)
  exact run_value (rm4_e3 r g xs _ w (fun _ => rfl) e36) (hK.out _ w (Kp.refl _ _) rfl)
set_option maxRecDepth 100000 in
theorem rm4_e4 (r g : Nat) (xs : List Nat) (ev : Operand → Value) (z : World) (ec : ∀ c, ev (.const c) = c) (ef : ∀ f, ev (.func f) = .func (.func f) #[] #[]) (e37 : ev (.tmp 37) = .pointer (some ⟨r, 0, none⟩)) : (execOp ev ⟨some 38, Op.call { callee := Callee.value (Operand.func 56), args := #[Operand.tmp 37], argTypes := #[57] }, 3, "", #[], none⟩).run Tryd.prog z = .ok (.enter 56 #[.pointer (some ⟨r, 0, none⟩)]) z := enter_run _ (ef _) (by simp only [List.map_toArray, List.map_cons, List.map_nil, ec, ef, e37]) (fun _ => by rfl)
set_option maxRecDepth 100000 in
theorem rm4_s4 {Q : Exit → Act → World → Prop} (Z : Nat → Prop) (r g : Nat) (xs : List Nat) (cs : List Value) (w0 : World) (y2 : Value) (hb : ∀ x ∈ xs, x < 256) (hrg : r ≠ g) (hZg : ¬ Z g) (hcs : 9 ≤ cs.length) (hpan : ∀ a w, rm4B r g y2 a → Kp (fun b => b = r ∨ b = g) w0 w → seqN xs 4 = none → Q (.panic gaveUp) a w) : (rm4C Z r g xs cs w0 y2).Step Tryd.prog Q 4 ⟨some 38, Op.call { callee := Callee.value (Operand.func 56), args := #[Operand.tmp 37], argTypes := #[57] }, 3, "", #[], none⟩ [3] := by
  refine Chn.link _ 0 rfl (fun q hq => by omega) (show 0 < 8 by decide) (Or.inl ⟨rfl, show 38 < 94 by decide⟩) (by decide) rfl ?_
  intro a w hn hB hW hd K hK
  have e37 : a.eval (.tmp 37) = .pointer (some ⟨r, 0, none⟩) := hd 3 (by decide)
  refine wp_enterP (rm4_e4 r g xs _ w (fun _ => rfl) (fun _ => rfl) e37) (NW.call (Z := Z) (g := g) (cs := cs) (offs := [5, 6, 7, 8]) (w0 := w0) (k := 4) (j := 0) hW (by decide) hb hrg hZg) ?_
  rintro e9 w9 (⟨rfl, h9⟩ | ⟨rfl, h9, h8⟩)
  · exact Or.inl ⟨_, rfl, hK.out _ _ h9 (fun _ _ _ h => h) rfl⟩
  · exact Or.inr ⟨_, rfl, hpan a w9 hB h9 (seqN_none h8 (by decide))⟩
set_option maxRecDepth 100000 in
theorem rm4_e5 (r g : Nat) (xs : List Nat) (ev : Operand → Value) (z : World) (ec : ∀ c, ev (.const c) = c) (e0 : ev (.tmp 0) = .pointer (some ⟨r, 0, none⟩)) : (execOp ev ⟨some 39, Op.move (Operand.tmp 0), 95, "", #[], none⟩).run Tryd.prog z = .ok (.value (.pointer (some ⟨r, 0, none⟩))) z := by
  go_simp
set_option maxRecDepth 100000 in
theorem rm4_s5 {Q : Exit → Act → World → Prop} (Z : Nat → Prop) (r g : Nat) (xs : List Nat) (cs : List Value) (w0 : World) (y2 : Value) (hb : ∀ x ∈ xs, x < 256) (hrg : r ≠ g) (hZg : ¬ Z g) (hcs : 9 ≤ cs.length) (hpan : ∀ a w, rm4B r g y2 a → Kp (fun b => b = r ∨ b = g) w0 w → seqN xs 4 = none → Q (.panic gaveUp) a w) : (rm4C Z r g xs cs w0 y2).Step Tryd.prog Q 5 ⟨some 39, Op.move (Operand.tmp 0), 95, "", #[], none⟩ [] := by
  refine Chn.pure _ rfl rfl (show 39 < 94 by decide) (by decide) rfl ?_
  intro a w m hn hB hW hdm hup hd K hK
  have e0 : a.eval (.tmp 0) = .pointer (some ⟨r, 0, none⟩) := hB.1
  exact run_value (rm4_e5 r g xs _ w (fun _ => rfl) e0) (hK.out _ w (Kp.refl _ _) rfl)
set_option maxRecDepth 100000 in
theorem rm4_e6 (r g : Nat) (xs : List Nat) (ev : Operand → Value) (z : World) (ec : ∀ c, ev (.const c) = c) (e39 : ev (.tmp 39) = .pointer (some ⟨r, 0, none⟩)) : (execOp ev ⟨some 40, Op.nilCheck (Operand.tmp 39), 0, "", #[], none⟩).run Tryd.prog z = .ok (.value (.pointer (some ⟨r, 0, none⟩))) z := by
  go_simp
set_option maxRecDepth 100000 in
theorem rm4_s6 {Q : Exit → Act → World → Prop} (Z : Nat → Prop) (r g : Nat) (xs : List Nat) (cs : List Value) (w0 : World) (y2 : Value) (hb : ∀ x ∈ xs, x < 256) (hrg : r ≠ g) (hZg : ¬ Z g) (hcs : 9 ≤ cs.length) (hpan : ∀ a w, rm4B r g y2 a → Kp (fun b => b = r ∨ b = g) w0 w → seqN xs 4 = none → Q (.panic gaveUp) a w) : (rm4C Z r g xs cs w0 y2).Step Tryd.prog Q 6 ⟨some 40, Op.nilCheck (Operand.tmp 39), 0, "", #[], none⟩ [5] := by
  refine Chn.pure _ rfl rfl (show 40 < 94 by decide) (by decide) rfl ?_
  intro a w m hn hB hW hdm hup hd K hK
  have e39 : a.eval (.tmp 39) = .pointer (some ⟨r, 0, none⟩) := hd 5 (by decide)
  exact run_value (rm4_e6 r g xs _ w (fun _ => rfl) e39) (hK.out _ w (Kp.refl _ _) rfl)
set_option maxRecDepth 100000 in
theorem rm4_e7 (r g : Nat) (xs : List Nat) (ev : Operand → Value) (z : World) (ec : ∀ c, ev (.const c) = c) (e40 : ev (.tmp 40) = .pointer (some ⟨r, 0, none⟩)) : (execOp ev ⟨some 41, Op.fieldAddr 74 (Operand.tmp 40) 0, 0, "", #[], none⟩).run Tryd.prog z = .ok (.value (.pointer (some ⟨r, 0, none⟩))) z := by
  go_simp
set_option maxRecDepth 100000 in
theorem rm4_s7 {Q : Exit → Act → World → Prop} (Z : Nat → Prop) (r g : Nat) (xs : List Nat) (cs : List Value) (w0 : World) (y2 : Value) (hb : ∀ x ∈ xs, x < 256) (hrg : r ≠ g) (hZg : ¬ Z g) (hcs : 9 ≤ cs.length) (hpan : ∀ a w, rm4B r g y2 a → Kp (fun b => b = r ∨ b = g) w0 w → seqN xs 4 = none → Q (.panic gaveUp) a w) : (rm4C Z r g xs cs w0 y2).Step Tryd.prog Q 7 ⟨some 41, Op.fieldAddr 74 (Operand.tmp 40) 0, 0, "", #[], none⟩ [6] := by
  refine Chn.pure _ rfl rfl (show 41 < 94 by decide) (by decide) rfl ?_
  intro a w m hn hB hW hdm hup hd K hK
  have e40 : a.eval (.tmp 40) = .pointer (some ⟨r, 0, none⟩) := hd 6 (by decide)
  exact run_value (rm4_e7 r g xs _ w (fun _ => rfl) e40) (hK.out _ w (Kp.refl _ _) rfl)
set_option maxRecDepth 100000 in
theorem rm4_e8 (r g : Nat) (xs : List Nat) (ev : Operand → Value) (z : World) (ec : ∀ c, ev (.const c) = c) (e41 : ev (.tmp 41) = .pointer (some ⟨r, 0, none⟩)) : (execOp ev ⟨some 42, Op.fieldAddr 59 (Operand.tmp 41) 0, 0, "", #[], none⟩).run Tryd.prog z = .ok (.value (.pointer (some ⟨r, 0, none⟩))) z := by
  go_simp
set_option maxRecDepth 100000 in
theorem rm4_s8 {Q : Exit → Act → World → Prop} (Z : Nat → Prop) (r g : Nat) (xs : List Nat) (cs : List Value) (w0 : World) (y2 : Value) (hb : ∀ x ∈ xs, x < 256) (hrg : r ≠ g) (hZg : ¬ Z g) (hcs : 9 ≤ cs.length) (hpan : ∀ a w, rm4B r g y2 a → Kp (fun b => b = r ∨ b = g) w0 w → seqN xs 4 = none → Q (.panic gaveUp) a w) : (rm4C Z r g xs cs w0 y2).Step Tryd.prog Q 8 ⟨some 42, Op.fieldAddr 59 (Operand.tmp 41) 0, 0, "", #[], none⟩ [7] := by
  refine Chn.pure _ rfl rfl (show 42 < 94 by decide) (by decide) rfl ?_
  intro a w m hn hB hW hdm hup hd K hK
  have e41 : a.eval (.tmp 41) = .pointer (some ⟨r, 0, none⟩) := hd 7 (by decide)
  exact run_value (rm4_e8 r g xs _ w (fun _ => rfl) e41) (hK.out _ w (Kp.refl _ _) rfl)
set_option maxRecDepth 100000 in
theorem rm4_e9 (r g : Nat) (xs : List Nat) (ev : Operand → Value) (z : World) (ec : ∀ c, ev (.const c) = c) (ef : ∀ f, ev (.func f) = .func (.func f) #[] #[]) (e42 : ev (.tmp 42) = .pointer (some ⟨r, 0, none⟩)) : (execOp ev ⟨some 43, Op.call { callee := Callee.value (Operand.func 56), args := #[Operand.tmp 42], argTypes := #[57] }, 3, "", #[], none⟩).run Tryd.prog z = .ok (.enter 56 #[.pointer (some ⟨r, 0, none⟩)]) z := enter_run _ (ef _) (by simp only [List.map_toArray, List.map_cons, List.map_nil, ec, ef, e42]) (fun _ => by rfl)
set_option maxRecDepth 100000 in
theorem rm4_s9 {Q : Exit → Act → World → Prop} (Z : Nat → Prop) (r g : Nat) (xs : List Nat) (cs : List Value) (w0 : World) (y2 : Value) (hb : ∀ x ∈ xs, x < 256) (hrg : r ≠ g) (hZg : ¬ Z g) (hcs : 9 ≤ cs.length) (hpan : ∀ a w, rm4B r g y2 a → Kp (fun b => b = r ∨ b = g) w0 w → seqN xs 4 = none → Q (.panic gaveUp) a w) : (rm4C Z r g xs cs w0 y2).Step Tryd.prog Q 9 ⟨some 43, Op.call { callee := Callee.value (Operand.func 56), args := #[Operand.tmp 42], argTypes := #[57] }, 3, "", #[], none⟩ [8, 4] := by
  refine Chn.link _ 1 rfl (prevOf 4 0 (by decide) rfl) (show 1 < 8 by decide) (Or.inl ⟨rfl, show 43 < 94 by decide⟩) (by decide) rfl ?_
  intro a w hn hB hW hd K hK
  have e42 : a.eval (.tmp 42) = .pointer (some ⟨r, 0, none⟩) := hd 8 (by decide)
  refine wp_enterP (rm4_e9 r g xs _ w (fun _ => rfl) (fun _ => rfl) e42) (NW.call (Z := Z) (g := g) (cs := cs) (offs := [5, 6, 7, 8]) (w0 := w0) (k := 4) (j := 1) hW (by decide) hb hrg hZg) ?_
  rintro e9 w9 (⟨rfl, h9⟩ | ⟨rfl, h9, h8⟩)
  · exact Or.inl ⟨_, rfl, hK.out _ _ h9 (fun _ _ _ h => h) rfl⟩
  · exact Or.inr ⟨_, rfl, hpan a w9 hB h9 (seqN_none h8 (by decide))⟩
set_option maxRecDepth 100000 in
theorem rm4_e10 (r g : Nat) (xs : List Nat) (ev : Operand → Value) (z : World) (ec : ∀ c, ev (.const c) = c) (e0 : ev (.tmp 0) = .pointer (some ⟨r, 0, none⟩)) : (execOp ev ⟨some 44, Op.move (Operand.tmp 0), 95, "", #[], none⟩).run Tryd.prog z = .ok (.value (.pointer (some ⟨r, 0, none⟩))) z := by
  go_simp
set_option maxRecDepth 100000 in
theorem rm4_s10 {Q : Exit → Act → World → Prop} (Z : Nat → Prop) (r g : Nat) (xs : List Nat) (cs : List Value) (w0 : World) (y2 : Value) (hb : ∀ x ∈ xs, x < 256) (hrg : r ≠ g) (hZg : ¬ Z g) (hcs : 9 ≤ cs.length) (hpan : ∀ a w, rm4B r g y2 a → Kp (fun b => b = r ∨ b = g) w0 w → seqN xs 4 = none → Q (.panic gaveUp) a w) : (rm4C Z r g xs cs w0 y2).Step Tryd.prog Q 10 ⟨some 44, Op.move (Operand.tmp 0), 95, "", #[], none⟩ [] := by
  refine Chn.pure _ rfl rfl (show 44 < 94 by decide) (by decide) rfl ?_
  intro a w m hn hB hW hdm hup hd K hK
  have e0 : a.eval (.tmp 0) = .pointer (some ⟨r, 0, none⟩) := hB.1
  exact run_value (rm4_e10 r g xs _ w (fun _ => rfl) e0) (hK.out _ w (Kp.refl _ _) rfl)
set_option maxRecDepth 100000 in
theorem rm4_e11 (r g : Nat) (xs : List Nat) (ev : Operand → Value) (z : World) (ec : ∀ c, ev (.const c) = c) (e44 : ev (.tmp 44) = .pointer (some ⟨r, 0, none⟩)) : (execOp ev ⟨some 45, Op.nilCheck (Operand.tmp 44), 0, "", #[], none⟩).run Tryd.prog z = .ok (.value (.pointer (some ⟨r, 0, none⟩))) z := by
  go_simp
set_option maxRecDepth 100000 in
theorem rm4_s11 {Q : Exit → Act → World → Prop} (Z : Nat → Prop) (r g : Nat) (xs : List Nat) (cs : List Value) (w0 : World) (y2 : Value) (hb : ∀ x ∈ xs, x < 256) (hrg : r ≠ g) (hZg : ¬ Z g) (hcs : 9 ≤ cs.length) (hpan : ∀ a w, rm4B r g y2 a → Kp (fun b => b = r ∨ b = g) w0 w → seqN xs 4 = none → Q (.panic gaveUp) a w) : (rm4C Z r g xs cs w0 y2).Step Tryd.prog Q 11 ⟨some 45, Op.nilCheck (Operand.tmp 44), 0, "", #[], none⟩ [10] := by
  refine Chn.pure _ rfl rfl (show 45 < 94 by decide) (by decide) rfl ?_
  intro a w m hn hB hW hdm hup hd K hK
  have e44 : a.eval (.tmp 44) = .pointer (some ⟨r, 0, none⟩) := hd 10 (by decide)
  exact run_value (rm4_e11 r g xs _ w (fun _ => rfl) e44) (hK.out _ w (Kp.refl _ _) rfl)
set_option maxRecDepth 100000 in
theorem rm4_e12 (r g : Nat) (xs : List Nat) (ev : Operand → Value) (z : World) (ec : ∀ c, ev (.const c) = c) (e45 : ev (.tmp 45) = .pointer (some ⟨r, 0, none⟩)) : (execOp ev ⟨some 46, Op.fieldAddr 74 (Operand.tmp 45) 0, 0, "", #[], none⟩).run Tryd.prog z = .ok (.value (.pointer (some ⟨r, 0, none⟩))) z := by
  go_simp
set_option maxRecDepth 100000 in
theorem rm4_s12 {Q : Exit → Act → World → Prop} (Z : Nat → Prop) (r g : Nat) (xs : List Nat) (cs : List Value) (w0 : World) (y2 : Value) (hb : ∀ x ∈ xs, x < 256) (hrg : r ≠ g) (hZg : ¬ Z g) (hcs : 9 ≤ cs.length) (hpan : ∀ a w, rm4B r g y2 a → Kp (fun b => b = r ∨ b = g) w0 w → seqN xs 4 = none → Q (.panic gaveUp) a w) : (rm4C Z r g xs cs w0 y2).Step Tryd.prog Q 12 ⟨some 46, Op.fieldAddr 74 (Operand.tmp 45) 0, 0, "", #[], none⟩ [11] := by
  refine Chn.pure _ rfl rfl (show 46 < 94 by decide) (by decide) rfl ?_
  intro a w m hn hB hW hdm hup hd K hK
  have e45 : a.eval (.tmp 45) = .pointer (some ⟨r, 0, none⟩) := hd 11 (by decide)
  exact run_value (rm4_e12 r g xs _ w (fun _ => rfl) e45) (hK.out _ w (Kp.refl _ _) rfl)
set_option maxRecDepth 100000 in
theorem rm4_e13 (r g : Nat) (xs : List Nat) (ev : Operand → Value) (z : World) (ec : ∀ c, ev (.const c) = c) (e46 : ev (.tmp 46) = .pointer (some ⟨r, 0, none⟩)) : (execOp ev ⟨some 47, Op.fieldAddr 59 (Operand.tmp 46) 0, 0, "", #[], none⟩).run Tryd.prog z = .ok (.value (.pointer (some ⟨r, 0, none⟩))) z := by
  go_simp
set_option maxRecDepth 100000 in
theorem rm4_s13 {Q : Exit → Act → World → Prop} (Z : Nat → Prop) (r g : Nat) (xs : List Nat) (cs : List Value) (w0 : World) (y2 : Value) (hb : ∀ x ∈ xs, x < 256) (hrg : r ≠ g) (hZg : ¬ Z g) (hcs : 9 ≤ cs.length) (hpan : ∀ a w, rm4B r g y2 a → Kp (fun b => b = r ∨ b = g) w0 w → seqN xs 4 = none → Q (.panic gaveUp) a w) : (rm4C Z r g xs cs w0 y2).Step Tryd.prog Q 13 ⟨some 47, Op.fieldAddr 59 (Operand.tmp 46) 0, 0, "", #[], none⟩ [12] := by
  refine Chn.pure _ rfl rfl (show 47 < 94 by decide) (by decide) rfl ?_
  intro a w m hn hB hW hdm hup hd K hK
  have e46 : a.eval (.tmp 46) = .pointer (some ⟨r, 0, none⟩) := hd 12 (by decide)
  exact run_value (rm4_e13 r g xs _ w (fun _ => rfl) e46) (hK.out _ w (Kp.refl _ _) rfl)
set_option maxRecDepth 100000 in
theorem rm4_e14 (r g : Nat) (xs : List Nat) (ev : Operand → Value) (z : World) (ec : ∀ c, ev (.const c) = c) (ef : ∀ f, ev (.func f) = .func (.func f) #[] #[]) (e47 : ev (.tmp 47) = .pointer (some ⟨r, 0, none⟩)) : (execOp ev ⟨some 48, Op.call { callee := Callee.value (Operand.func 56), args := #[Operand.tmp 47], argTypes := #[57] }, 3, "", #[], none⟩).run Tryd.prog z = .ok (.enter 56 #[.pointer (some ⟨r, 0, none⟩)]) z := enter_run _ (ef _) (by simp only [List.map_toArray, List.map_cons, List.map_nil, ec, ef, e47]) (fun _ => by rfl)
set_option maxRecDepth 100000 in
theorem rm4_s14 {Q : Exit → Act → World → Prop} (Z : Nat → Prop) (r g : Nat) (xs : List Nat) (cs : List Value) (w0 : World) (y2 : Value) (hb : ∀ x ∈ xs, x < 256) (hrg : r ≠ g) (hZg : ¬ Z g) (hcs : 9 ≤ cs.length) (hpan : ∀ a w, rm4B r g y2 a → Kp (fun b => b = r ∨ b = g) w0 w → seqN xs 4 = none → Q (.panic gaveUp) a w) : (rm4C Z r g xs cs w0 y2).Step Tryd.prog Q 14 ⟨some 48, Op.call { callee := Callee.value (Operand.func 56), args := #[Operand.tmp 47], argTypes := #[57] }, 3, "", #[], none⟩ [13, 9] := by
  refine Chn.link _ 2 rfl (prevOf 9 1 (by decide) rfl) (show 2 < 8 by decide) (Or.inl ⟨rfl, show 48 < 94 by decide⟩) (by decide) rfl ?_
  intro a w hn hB hW hd K hK
  have e47 : a.eval (.tmp 47) = .pointer (some ⟨r, 0, none⟩) := hd 13 (by decide)
  refine wp_enterP (rm4_e14 r g xs _ w (fun _ => rfl) (fun _ => rfl) e47) (NW.call (Z := Z) (g := g) (cs := cs) (offs := [5, 6, 7, 8]) (w0 := w0) (k := 4) (j := 2) hW (by decide) hb hrg hZg) ?_
  rintro e9 w9 (⟨rfl, h9⟩ | ⟨rfl, h9, h8⟩)
  · exact Or.inl ⟨_, rfl, hK.out _ _ h9 (fun _ _ _ h => h) rfl⟩
  · exact Or.inr ⟨_, rfl, hpan a w9 hB h9 (seqN_none h8 (by decide))⟩
set_option maxRecDepth 100000 in
theorem rm4_e15 (r g : Nat) (xs : List Nat) (ev : Operand → Value) (z : World) (ec : ∀ c, ev (.const c) = c) (e0 : ev (.tmp 0) = .pointer (some ⟨r, 0, none⟩)) : (execOp ev ⟨some 49, Op.move (Operand.tmp 0), 95, "", #[], none⟩).run Tryd.prog z = .ok (.value (.pointer (some ⟨r, 0, none⟩))) z := by
  go_simp
set_option maxRecDepth 100000 in
theorem rm4_s15 {Q : Exit → Act → World → Prop} (Z : Nat → Prop) (r g : Nat) (xs : List Nat) (cs : List Value) (w0 : World) (y2 : Value) (hb : ∀ x ∈ xs, x < 256) (hrg : r ≠ g) (hZg : ¬ Z g) (hcs : 9 ≤ cs.length) (hpan : ∀ a w, rm4B r g y2 a → Kp (fun b => b = r ∨ b = g) w0 w → seqN xs 4 = none → Q (.panic gaveUp) a w) : (rm4C Z r g xs cs w0 y2).Step Tryd.prog Q 15 ⟨some 49, Op.move (Operand.tmp 0), 95, "", #[], none⟩ [] := by
  refine Chn.pure _ rfl rfl (show 49 < 94 by decide) (by decide) rfl ?_
  intro a w m hn hB hW hdm hup hd K hK
  have e0 : a.eval (.tmp 0) = .pointer (some ⟨r, 0, none⟩) := hB.1
  exact run_value (rm4_e15 r g xs _ w (fun _ => rfl) e0) (hK.out _ w (Kp.refl _ _) rfl)
set_option maxRecDepth 100000 in
theorem rm4_e16 (r g : Nat) (xs : List Nat) (ev : Operand → Value) (z : World) (ec : ∀ c, ev (.const c) = c) (e49 : ev (.tmp 49) = .pointer (some ⟨r, 0, none⟩)) : (execOp ev ⟨some 50, Op.nilCheck (Operand.tmp 49), 0, "", #[], none⟩).run Tryd.prog z = .ok (.value (.pointer (some ⟨r, 0, none⟩))) z := by
  go_simp
set_option maxRecDepth 100000 in
theorem rm4_s16 {Q : Exit → Act → World → Prop} (Z : Nat → Prop) (r g : Nat) (xs : List Nat) (cs : List Value) (w0 : World) (y2 : Value) (hb : ∀ x ∈ xs, x < 256) (hrg : r ≠ g) (hZg : ¬ Z g) (hcs : 9 ≤ cs.length) (hpan : ∀ a w, rm4B r g y2 a → Kp (fun b => b = r ∨ b = g) w0 w → seqN xs 4 = none → Q (.panic gaveUp) a w) : (rm4C Z r g xs cs w0 y2).Step Tryd.prog Q 16 ⟨some 50, Op.nilCheck (Operand.tmp 49), 0, "", #[], none⟩ [15] := by
  refine Chn.pure _ rfl rfl (show 50 < 94 by decide) (by decide) rfl ?_
  intro a w m hn hB hW hdm hup hd K hK
  have e49 : a.eval (.tmp 49) = .pointer (some ⟨r, 0, none⟩) := hd 15 (by decide)
  exact run_value (rm4_e16 r g xs _ w (fun _ => rfl) e49) (hK.out _ w (Kp.refl _ _) rfl)
set_option maxRecDepth 100000 in
theorem rm4_e17 (r g : Nat) (xs : List Nat) (ev : Operand → Value) (z : World) (ec : ∀ c, ev (.const c) = c) (e50 : ev (.tmp 50) = .pointer (some ⟨r, 0, none⟩)) : (execOp ev ⟨some 51, Op.fieldAddr 74 (Operand.tmp 50) 0, 0, "", #[], none⟩).run Tryd.prog z = .ok (.value (.pointer (some ⟨r, 0, none⟩))) z := by
  go_simp
set_option maxRecDepth 100000 in
theorem rm4_s17 {Q : Exit → Act → World → Prop} (Z : Nat → Prop) (r g : Nat) (xs : List Nat) (cs : List Value) (w0 : World) (y2 : Value) (hb : ∀ x ∈ xs, x < 256) (hrg : r ≠ g) (hZg : ¬ Z g) (hcs : 9 ≤ cs.length) (hpan : ∀ a w, rm4B r g y2 a → Kp (fun b => b = r ∨ b = g) w0 w → seqN xs 4 = none → Q (.panic gaveUp) a w) : (rm4C Z r g xs cs w0 y2).Step Tryd.prog Q 17 ⟨some 51, Op.fieldAddr 74 (Operand.tmp 50) 0, 0, "", #[], none⟩ [16] := by
  refine Chn.pure _ rfl rfl (show 51 < 94 by decide) (by decide) rfl ?_
  intro a w m hn hB hW hdm hup hd K hK
  have e50 : a.eval (.tmp 50) = .pointer (some ⟨r, 0, none⟩) := hd 16 (by decide)
  exact run_value (rm4_e17 r g xs _ w (fun _ => rfl) e50) (hK.out _ w (Kp.refl _ _) rfl)
set_option maxRecDepth 100000 in
theorem rm4_e18 (r g : Nat) (xs : List Nat) (ev : Operand → Value) (z : World) (ec : ∀ c, ev (.const c) = c) (e51 : ev (.tmp 51) = .pointer (some ⟨r, 0, none⟩)) : (execOp ev ⟨some 52, Op.fieldAddr 59 (Operand.tmp 51) 0, 0, "", #[], none⟩).run Tryd.prog z = .ok (.value (.pointer (some ⟨r, 0, none⟩))) z := by
  go_simp
set_option maxRecDepth 100000 in
theorem rm4_s18 {Q : Exit → Act → World → Prop} (Z : Nat → Prop) (r g : Nat) (xs : List Nat) (cs : List Value) (w0 : World) (y2 : Value) (hb : ∀ x ∈ xs, x < 256) (hrg : r ≠ g) (hZg : ¬ Z g) (hcs : 9 ≤ cs.length) (hpan : ∀ a w, rm4B r g y2 a → Kp (fun b => b = r ∨ b = g) w0 w → seqN xs 4 = none → Q (.panic gaveUp) a w) : (rm4C Z r g xs cs w0 y2).Step Tryd.prog Q 18 ⟨some 52, Op.fieldAddr 59 (Operand.tmp 51) 0, 0, "", #[], none⟩ [17] := by
  refine Chn.pure _ rfl rfl (show 52 < 94 by decide) (by decide) rfl ?_
  intro a w m hn hB hW hdm hup hd K hK
  have e51 : a.eval (.tmp 51) = .pointer (some ⟨r, 0, none⟩) := hd 17 (by decide)
  exact run_value (rm4_e18 r g xs _ w (fun _ => rfl) e51) (hK.out _ w (Kp.refl _ _) rfl)
set_option maxRecDepth 100000 in
theorem rm4_e19 (r g : Nat) (xs : List Nat) (ev : Operand → Value) (z : World) (ec : ∀ c, ev (.const c) = c) (ef : ∀ f, ev (.func f) = .func (.func f) #[] #[]) (e52 : ev (.tmp 52) = .pointer (some ⟨r, 0, none⟩)) : (execOp ev ⟨some 53, Op.call { callee := Callee.value (Operand.func 56), args := #[Operand.tmp 52], argTypes := #[57] }, 3, "", #[], none⟩).run Tryd.prog z = .ok (.enter 56 #[.pointer (some ⟨r, 0, none⟩)]) z := enter_run _ (ef _) (by simp only [List.map_toArray, List.map_cons, List.map_nil, ec, ef, e52]) (fun _ => by rfl)
set_option maxRecDepth 100000 in
theorem rm4_s19 {Q : Exit → Act → World → Prop} (Z : Nat → Prop) (r g : Nat) (xs : List Nat) (cs : List Value) (w0 : World) (y2 : Value) (hb : ∀ x ∈ xs, x < 256) (hrg : r ≠ g) (hZg : ¬ Z g) (hcs : 9 ≤ cs.length) (hpan : ∀ a w, rm4B r g y2 a → Kp (fun b => b = r ∨ b = g) w0 w → seqN xs 4 = none → Q (.panic gaveUp) a w) : (rm4C Z r g xs cs w0 y2).Step Tryd.prog Q 19 ⟨some 53, Op.call { callee := Callee.value (Operand.func 56), args := #[Operand.tmp 52], argTypes := #[57] }, 3, "", #[], none⟩ [18, 14] := by
  refine Chn.link _ 3 rfl (prevOf 14 2 (by decide) rfl) (show 3 < 8 by decide) (Or.inl ⟨rfl, show 53 < 94 by decide⟩) (by decide) rfl ?_
  intro a w hn hB hW hd K hK
  have e52 : a.eval (.tmp 52) = .pointer (some ⟨r, 0, none⟩) := hd 18 (by decide)
  refine wp_enterP (rm4_e19 r g xs _ w (fun _ => rfl) (fun _ => rfl) e52) (NW.call (Z := Z) (g := g) (cs := cs) (offs := [5, 6, 7, 8]) (w0 := w0) (k := 4) (j := 3) hW (by decide) hb hrg hZg) ?_
  rintro e9 w9 (⟨rfl, h9⟩ | ⟨rfl, h9, h8⟩)
  · exact Or.inl ⟨_, rfl, hK.out _ _ h9 (fun _ _ _ h => h) rfl⟩
  · exact Or.inr ⟨_, rfl, hpan a w9 hB h9 (seqN_none h8 (by decide))⟩
set_option maxRecDepth 100000 in
theorem rm4_e20 (r g : Nat) (xs : List Nat) (ev : Operand → Value) (z : World) (ec : ∀ c, ev (.const c) = c) (e3 : ev (.tmp 3) = .pointer (some ⟨g, 0, none⟩)) : (execOp ev ⟨some 54, Op.fieldAddr 40 (Operand.tmp 3) 5, 0, "", #[], none⟩).run Tryd.prog z = .ok (.value (.pointer (some ⟨g, 5, none⟩))) z := by
  go_simp
set_option maxRecDepth 100000 in
theorem rm4_s20 {Q : Exit → Act → World → Prop} (Z : Nat → Prop) (r g : Nat) (xs : List Nat) (cs : List Value) (w0 : World) (y2 : Value) (hb : ∀ x ∈ xs, x < 256) (hrg : r ≠ g) (hZg : ¬ Z g) (hcs : 9 ≤ cs.length) (hpan : ∀ a w, rm4B r g y2 a → Kp (fun b => b = r ∨ b = g) w0 w → seqN xs 4 = none → Q (.panic gaveUp) a w) : (rm4C Z r g xs cs w0 y2).Step Tryd.prog Q 20 ⟨some 54, Op.fieldAddr 40 (Operand.tmp 3) 5, 0, "", #[], none⟩ [0, 1, 2, 3, 4] := by
  refine Chn.pure _ rfl rfl (show 54 < 94 by decide) (by decide) rfl ?_
  intro a w m hn hB hW hdm hup hd K hK
  have e3 : a.eval (.tmp 3) = .pointer (some ⟨g, 0, none⟩) := hB.2.2.1
  exact run_value (rm4_e20 r g xs _ w (fun _ => rfl) e3) (hK.out _ w (Kp.refl _ _) rfl)
set_option maxRecDepth 100000 in
theorem rm4_e21 (r g : Nat) (xs : List Nat) (ev : Operand → Value) (z : World) (ec : ∀ c, ev (.const c) = c) (e38 : ev (.tmp 38) = .int .i64 (seqV xs 0 : Int)) (e54 : ev (.tmp 54) = .pointer (some ⟨g, 5, none⟩)) {u : Value} (hu : z.cell? ⟨g, 5, none⟩ = some u) (hf : z.frozen? ⟨g, 5, none⟩ = false) : (execOp ev ⟨none, Op.store 3 (Operand.tmp 54) (Operand.tmp 38), 0, "", #[], none⟩).run Tryd.prog z = .ok .skip (z.setCell ⟨g, 5, none⟩ (.int .i64 (seqV xs 0 : Int))) := by
  go_simp
set_option maxRecDepth 100000 in
theorem rm4_s21 {Q : Exit → Act → World → Prop} (Z : Nat → Prop) (r g : Nat) (xs : List Nat) (cs : List Value) (w0 : World) (y2 : Value) (hb : ∀ x ∈ xs, x < 256) (hrg : r ≠ g) (hZg : ¬ Z g) (hcs : 9 ≤ cs.length) (hpan : ∀ a w, rm4B r g y2 a → Kp (fun b => b = r ∨ b = g) w0 w → seqN xs 4 = none → Q (.panic gaveUp) a w) : (rm4C Z r g xs cs w0 y2).Step Tryd.prog Q 21 ⟨none, Op.store 3 (Operand.tmp 54) (Operand.tmp 38), 0, "", #[], none⟩ [20, 4, 19, 0, 1, 2, 3, 4] := by
  refine Chn.link _ 4 rfl (prevOf 19 3 (by decide) rfl) (show 4 < 8 by decide) (Or.inr ⟨rfl, show 94 ≤ 115 by decide, fun _ _ => trivial⟩) (by decide) rfl ?_
  intro a w hn hB hW hd K hK
  have e38 : a.eval (.tmp 38) = .int .i64 (seqV xs 0 : Int) := hd 4 (by decide)
  have e54 : a.eval (.tmp 54) = .pointer (some ⟨g, 5, none⟩) := hd 20 (by decide)
  obtain ⟨⟨u, hu⟩, hf, hN⟩ := NW.store (Z := Z) (k := 4) (r := r) (g := g) (xs := xs) (cs := cs) (offs := [5, 6, 7, 8]) (w0 := w0) (j := 4) hW 0 5 rfl rfl (by omega) hrg hZg
  exact run_skip rfl (rm4_e21 r g xs _ w (fun _ => rfl) e38 e54 hu hf) (fun v => hK.out v _ hN (fun _ _ _ h => h) trivial)
set_option maxRecDepth 100000 in
theorem rm4_e22 (r g : Nat) (xs : List Nat) (ev : Operand → Value) (z : World) (ec : ∀ c, ev (.const c) = c) (e3 : ev (.tmp 3) = .pointer (some ⟨g, 0, none⟩)) : (execOp ev ⟨some 55, Op.fieldAddr 40 (Operand.tmp 3) 6, 0, "", #[], none⟩).run Tryd.prog z = .ok (.value (.pointer (some ⟨g, 6, none⟩))) z := by
  go_simp
set_option maxRecDepth 100000 in
theorem rm4_s22 {Q : Exit → Act → World → Prop} (Z : Nat → Prop) (r g : Nat) (xs : List Nat) (cs : List Value) (w0 : World) (y2 : Value) (hb : ∀ x ∈ xs, x < 256) (hrg : r ≠ g) (hZg : ¬ Z g) (hcs : 9 ≤ cs.length) (hpan : ∀ a w, rm4B r g y2 a → Kp (fun b => b = r ∨ b = g) w0 w → seqN xs 4 = none → Q (.panic gaveUp) a w) : (rm4C Z r g xs cs w0 y2).Step Tryd.prog Q 22 ⟨some 55, Op.fieldAddr 40 (Operand.tmp 3) 6, 0, "", #[], none⟩ [0, 1, 2, 3, 4, 5, 6, 7, 8, 9, 20, 21] := by
  refine Chn.pure _ rfl rfl (show 55 < 94 by decide) (by decide) rfl ?_
  intro a w m hn hB hW hdm hup hd K hK
  have e3 : a.eval (.tmp 3) = .pointer (some ⟨g, 0, none⟩) := hB.2.2.1
  exact run_value (rm4_e22 r g xs _ w (fun _ => rfl) e3) (hK.out _ w (Kp.refl _ _) rfl)
set_option maxRecDepth 100000 in
theorem rm4_e23 (r g : Nat) (xs : List Nat) (ev : Operand → Value) (z : World) (ec : ∀ c, ev (.const c) = c) (e43 : ev (.tmp 43) = .int .i64 (seqV xs 1 : Int)) (e55 : ev (.tmp 55) = .pointer (some ⟨g, 6, none⟩)) {u : Value} (hu : z.cell? ⟨g, 6, none⟩ = some u) (hf : z.frozen? ⟨g, 6, none⟩ = false) : (execOp ev ⟨none, Op.store 3 (Operand.tmp 55) (Operand.tmp 43), 0, "", #[], none⟩).run Tryd.prog z = .ok .skip (z.setCell ⟨g, 6, none⟩ (.int .i64 (seqV xs 1 : Int))) := by
  go_simp
set_option maxRecDepth 100000 in
theorem rm4_s23 {Q : Exit → Act → World → Prop} (Z : Nat → Prop) (r g : Nat) (xs : List Nat) (cs : List Value) (w0 : World) (y2 : Value) (hb : ∀ x ∈ xs, x < 256) (hrg : r ≠ g) (hZg : ¬ Z g) (hcs : 9 ≤ cs.length) (hpan : ∀ a w, rm4B r g y2 a → Kp (fun b => b = r ∨ b = g) w0 w → seqN xs 4 = none → Q (.panic gaveUp) a w) : (rm4C Z r g xs cs w0 y2).Step Tryd.prog Q 23 ⟨none, Op.store 3 (Operand.tmp 55) (Operand.tmp 43), 0, "", #[], none⟩ [22, 9, 21, 0, 1, 2, 3, 4, 5, 6, 7, 8, 9, 20, 21] := by
  refine Chn.link _ 5 rfl (prevOf 21 4 (by decide) rfl) (show 5 < 8 by decide) (Or.inr ⟨rfl, show 94 ≤ 117 by decide, fun _ _ => trivial⟩) (by decide) rfl ?_
  intro a w hn hB hW hd K hK
  have e43 : a.eval (.tmp 43) = .int .i64 (seqV xs 1 : Int) := hd 9 (by decide)
  have e55 : a.eval (.tmp 55) = .pointer (some ⟨g, 6, none⟩) := hd 22 (by decide)
  obtain ⟨⟨u, hu⟩, hf, hN⟩ := NW.store (Z := Z) (k := 4) (r := r) (g := g) (xs := xs) (cs := cs) (offs := [5, 6, 7, 8]) (w0 := w0) (j := 5) hW 1 6 rfl rfl (by omega) hrg hZg
  exact run_skip rfl (rm4_e23 r g xs _ w (fun _ => rfl) e43 e55 hu hf) (fun v => hK.out v _ hN (fun _ _ _ h => h) trivial)
set_option maxRecDepth 100000 in
theorem rm4_e24 (r g : Nat) (xs : List Nat) (ev : Operand → Value) (z : World) (ec : ∀ c, ev (.const c) = c) (e3 : ev (.tmp 3) = .pointer (some ⟨g, 0, none⟩)) : (execOp ev ⟨some 56, Op.fieldAddr 40 (Operand.tmp 3) 7, 0, "", #[], none⟩).run Tryd.prog z = .ok (.value (.pointer (some ⟨g, 7, none⟩))) z := by
  go_simp
set_option maxRecDepth 100000 in
theorem rm4_s24 {Q : Exit → Act → World → Prop} (Z : Nat → Prop) (r g : Nat) (xs : List Nat) (cs : List Value) (w0 : World) (y2 : Value) (hb : ∀ x ∈ xs, x < 256) (hrg : r ≠ g) (hZg : ¬ Z g) (hcs : 9 ≤ cs.length) (hpan : ∀ a w, rm4B r g y2 a → Kp (fun b => b = r ∨ b = g) w0 w → seqN xs 4 = none → Q (.panic gaveUp) a w) : (rm4C Z r g xs cs w0 y2).Step Tryd.prog Q 24 ⟨some 56, Op.fieldAddr 40 (Operand.tmp 3) 7, 0, "", #[], none⟩ [0, 1, 2, 3, 4, 5, 6, 7, 8, 9, 10, 11, 12, 13, 14, 20, 21, 22, 23] := by
  refine Chn.pure _ rfl rfl (show 56 < 94 by decide) (by decide) rfl ?_
  intro a w m hn hB hW hdm hup hd K hK
  have e3 : a.eval (.tmp 3) = .pointer (some ⟨g, 0, none⟩) := hB.2.2.1
  exact run_value (rm4_e24 r g xs _ w (fun _ => rfl) e3) (hK.out _ w (Kp.refl _ _) rfl)
set_option maxRecDepth 100000 in
theorem rm4_e25 (r g : Nat) (xs : List Nat) (ev : Operand → Value) (z : World) (ec : ∀ c, ev (.const c) = c) (e48 : ev (.tmp 48) = .int .i64 (seqV xs 2 : Int)) (e56 : ev (.tmp 56) = .pointer (some ⟨g, 7, none⟩)) {u : Value} (hu : z.cell? ⟨g, 7, none⟩ = some u) (hf : z.frozen? ⟨g, 7, none⟩ = false) : (execOp ev ⟨none, Op.store 3 (Operand.tmp 56) (Operand.tmp 48), 0, "", #[], none⟩).run Tryd.prog z = .ok .skip (z.setCell ⟨g, 7, none⟩ (.int .i64 (seqV xs 2 : Int))) := by
  go_simp
set_option maxRecDepth 100000 in
theorem rm4_s25 {Q : Exit → Act → World → Prop} (Z : Nat → Prop) (r g : Nat) (xs : List Nat) (cs : List Value) (w0 : World) (y2 : Value) (hb : ∀ x ∈ xs, x < 256) (hrg : r ≠ g) (hZg : ¬ Z g) (hcs : 9 ≤ cs.length) (hpan : ∀ a w, rm4B r g y2 a → Kp (fun b => b = r ∨ b = g) w0 w → seqN xs 4 = none → Q (.panic gaveUp) a w) : (rm4C Z r g xs cs w0 y2).Step Tryd.prog Q 25 ⟨none, Op.store 3 (Operand.tmp 56) (Operand.tmp 48), 0, "", #[], none⟩ [24, 14, 23, 0, 1, 2, 3, 4, 5, 6, 7, 8, 9, 10, 11, 12, 13, 14, 20, 21, 22, 23] := by
  refine Chn.link _ 6 rfl (prevOf 23 5 (by decide) rfl) (show 6 < 8 by decide) (Or.inr ⟨rfl, show 94 ≤ 119 by decide, fun _ _ => trivial⟩) (by decide) rfl ?_
  intro a w hn hB hW hd K hK
  have e48 : a.eval (.tmp 48) = .int .i64 (seqV xs 2 : Int) := hd 14 (by decide)
  have e56 : a.eval (.tmp 56) = .pointer (some ⟨g, 7, none⟩) := hd 24 (by decide)
  obtain ⟨⟨u, hu⟩, hf, hN⟩ := NW.store (Z := Z) (k := 4) (r := r) (g := g) (xs := xs) (cs := cs) (offs := [5, 6, 7, 8]) (w0 := w0) (j := 6) hW 2 7 rfl rfl (by omega) hrg hZg
  exact run_skip rfl (rm4_e25 r g xs _ w (fun _ => rfl) e48 e56 hu hf) (fun v => hK.out v _ hN (fun _ _ _ h => h) trivial)
set_option maxRecDepth 100000 in
theorem rm4_e26 (r g : Nat) (xs : List Nat) (ev : Operand → Value) (z : World) (ec : ∀ c, ev (.const c) = c) (e3 : ev (.tmp 3) = .pointer (some ⟨g, 0, none⟩)) : (execOp ev ⟨some 57, Op.fieldAddr 40 (Operand.tmp 3) 8, 0, "", #[], none⟩).run Tryd.prog z = .ok (.value (.pointer (some ⟨g, 8, none⟩))) z := by
  go_simp
set_option maxRecDepth 100000 in
theorem rm4_s26 {Q : Exit → Act → World → Prop} (Z : Nat → Prop) (r g : Nat) (xs : List Nat) (cs : List Value) (w0 : World) (y2 : Value) (hb : ∀ x ∈ xs, x < 256) (hrg : r ≠ g) (hZg : ¬ Z g) (hcs : 9 ≤ cs.length) (hpan : ∀ a w, rm4B r g y2 a → Kp (fun b => b = r ∨ b = g) w0 w → seqN xs 4 = none → Q (.panic gaveUp) a w) : (rm4C Z r g xs cs w0 y2).Step Tryd.prog Q 26 ⟨some 57, Op.fieldAddr 40 (Operand.tmp 3) 8, 0, "", #[], none⟩ [0, 1, 2, 3, 4, 5, 6, 7, 8, 9, 10, 11, 12, 13, 14, 15, 16, 17, 18, 19, 20, 21, 22, 23, 24, 25] := by
  refine Chn.pure _ rfl rfl (show 57 < 94 by decide) (by decide) rfl ?_
  intro a w m hn hB hW hdm hup hd K hK
  have e3 : a.eval (.tmp 3) = .pointer (some ⟨g, 0, none⟩) := hB.2.2.1
  exact run_value (rm4_e26 r g xs _ w (fun _ => rfl) e3) (hK.out _ w (Kp.refl _ _) rfl)
set_option maxRecDepth 100000 in
theorem rm4_e27 (r g : Nat) (xs : List Nat) (ev : Operand → Value) (z : World) (ec : ∀ c, ev (.const c) = c) (e53 : ev (.tmp 53) = .int .i64 (seqV xs 3 : Int)) (e57 : ev (.tmp 57) = .pointer (some ⟨g, 8, none⟩)) {u : Value} (hu : z.cell? ⟨g, 8, none⟩ = some u) (hf : z.frozen? ⟨g, 8, none⟩ = false) : (execOp ev ⟨none, Op.store 3 (Operand.tmp 57) (Operand.tmp 53), 0, "", #[], none⟩).run Tryd.prog z = .ok .skip (z.setCell ⟨g, 8, none⟩ (.int .i64 (seqV xs 3 : Int))) := by
  go_simp
set_option maxRecDepth 100000 in
theorem rm4_s27 {Q : Exit → Act → World → Prop} (Z : Nat → Prop) (r g : Nat) (xs : List Nat) (cs : List Value) (w0 : World) (y2 : Value) (hb : ∀ x ∈ xs, x < 256) (hrg : r ≠ g) (hZg : ¬ Z g) (hcs : 9 ≤ cs.length) (hpan : ∀ a w, rm4B r g y2 a → Kp (fun b => b = r ∨ b = g) w0 w → seqN xs 4 = none → Q (.panic gaveUp) a w) : (rm4C Z r g xs cs w0 y2).Step Tryd.prog Q 27 ⟨none, Op.store 3 (Operand.tmp 57) (Operand.tmp 53), 0, "", #[], none⟩ [26, 19, 25, 0, 1, 2, 3, 4, 5, 6, 7, 8, 9, 10, 11, 12, 13, 14, 15, 16, 17, 18, 19, 20, 21, 22, 23, 24, 25] := by
  refine Chn.link _ 7 rfl (prevOf 25 6 (by decide) rfl) (show 7 < 8 by decide) (Or.inr ⟨rfl, show 94 ≤ 121 by decide, fun _ _ => trivial⟩) (by decide) rfl ?_
  intro a w hn hB hW hd K hK
  have e53 : a.eval (.tmp 53) = .int .i64 (seqV xs 3 : Int) := hd 19 (by decide)
  have e57 : a.eval (.tmp 57) = .pointer (some ⟨g, 8, none⟩) := hd 26 (by decide)
  obtain ⟨⟨u, hu⟩, hf, hN⟩ := NW.store (Z := Z) (k := 4) (r := r) (g := g) (xs := xs) (cs := cs) (offs := [5, 6, 7, 8]) (w0 := w0) (j := 7) hW 3 8 rfl rfl (by omega) hrg hZg
  exact run_skip rfl (rm4_e27 r g xs _ w (fun _ => rfl) e53 e57 hu hf) (fun v => hK.out v _ hN (fun _ _ _ h => h) trivial)
theorem rm4_steps {Q : Exit → Act → World → Prop} (Z : Nat → Prop) (r g : Nat) (xs : List Nat) (cs : List Value) (w0 : World) (y2 : Value) (hb : ∀ x ∈ xs, x < 256) (hrg : r ≠ g) (hZg : ¬ Z g) (hcs : 9 ≤ cs.length) (hpan : ∀ a w, rm4B r g y2 a → Kp (fun b => b = r ∨ b = g) w0 w → seqN xs 4 = none → Q (.panic gaveUp) a w) : (rm4C Z r g xs cs w0 y2).Steps Tryd.prog Q 0 rm4T := ⟨rm4_s0 Z r g xs cs w0 y2 hb hrg hZg hcs hpan, rm4_s1 Z r g xs cs w0 y2 hb hrg hZg hcs hpan, rm4_s2 Z r g xs cs w0 y2 hb hrg hZg hcs hpan, rm4_s3 Z r g xs cs w0 y2 hb hrg hZg hcs hpan, rm4_s4 Z r g xs cs w0 y2 hb hrg hZg hcs hpan, rm4_s5 Z r g xs cs w0 y2 hb hrg hZg hcs hpan, rm4_s6 Z r g xs cs w0 y2 hb hrg hZg hcs hpan, rm4_s7 Z r g xs cs w0 y2 hb hrg hZg hcs hpan, rm4_s8 Z r g xs cs w0 y2 hb hrg hZg hcs hpan, rm4_s9 Z r g xs cs w0 y2 hb hrg hZg hcs hpan, rm4_s10 Z r g xs cs w0 y2 hb hrg hZg hcs hpan, rm4_s11 Z r g xs cs w0 y2 hb hrg hZg hcs hpan, rm4_s12 Z r g xs cs w0 y2 hb hrg hZg hcs hpan, rm4_s13 Z r g xs cs w0 y2 hb hrg hZg hcs hpan, rm4_s14 Z r g xs cs w0 y2 hb hrg hZg hcs hpan, rm4_s15 Z r g xs cs w0 y2 hb hrg hZg hcs hpan, rm4_s16 Z r g xs cs w0 y2 hb hrg hZg hcs hpan, rm4_s17 Z r g xs cs w0 y2 hb hrg hZg hcs hpan, rm4_s18 Z r g xs cs w0 y2 hb hrg hZg hcs hpan, rm4_s19 Z r g xs cs w0 y2 hb hrg hZg hcs hpan, rm4_s20 Z r g xs cs w0 y2 hb hrg hZg hcs hpan, rm4_s21 Z r g xs cs w0 y2 hb hrg hZg hcs hpan, rm4_s22 Z r g xs cs w0 y2 hb hrg hZg hcs hpan, rm4_s23 Z r g xs cs w0 y2 hb hrg hZg hcs hpan, rm4_s24 Z r g xs cs w0 y2 hb hrg hZg hcs hpan, rm4_s25 Z r g xs cs w0 y2 hb hrg hZg hcs hpan, rm4_s26 Z r g xs cs w0 y2 hb hrg hZg hcs hpan, rm4_s27 Z r g xs cs w0 y2 hb hrg hZg hcs hpan, trivial⟩
/-- the region: the numbers are read and laid into the struct, or it gives up -/
theorem rm4_region {ops : Array Oper} {rid : Nat} {Q : Exit → Act → World → Prop} {a : Act} {y : World} (Z : Nat → Prop) (r g : Nat) (xs : List Nat) (cs : List Value) (y2 : Value) (hT : ops.toList.map (fun o => (bare o, deps o)) = rm4T) (hn : a.tmps.size = 94) (hB : rm4B r g y2 a)
    (hb : ∀ x ∈ xs, x < 256) (hrg : r ≠ g) (hZg : ¬ Z g) (hcs : 9 ≤ cs.length) (hc : Cu Z y r xs) (hl : Lv y g cs)
    (hpan : ∀ a w, rm4B r g y2 a → Kp (fun b => b = r ∨ b = g) y w → seqN xs 4 = none → Q (.panic gaveUp) a w)
    (hend : ∀ q34 q35 q36 q37 q38 q39 q40 q41 q42 q43 q44 q45 q46 q47 q48 q49 q50 q51 q52 q53 q54 q55 q56 q57 w t, Kp (fun b => b = r ∨ b = g) y w → seqN xs 4 = some t → Cu Z w r t → Lv w g (setsN xs 0 [5, 6, 7, 8] cs) → Q .normal ((((((((((((((((((((((((a.put (some 34) q34).put (some 35) q35).put (some 36) q36).put (some 37) q37).put (some 38) q38).put (some 39) q39).put (some 40) q40).put (some 41) q41).put (some 42) q42).put (some 43) q43).put (some 44) q44).put (some 45) q45).put (some 46) q46).put (some 47) q47).put (some 48) q48).put (some 49) q49).put (some 50) q50).put (some 51) q51).put (some 52) q52).put (some 53) q53).put (some 54) q54).put (some 55) q55).put (some 56) q56).put (some 57) q57) w) : (Code.region rid ops true).wp Tryd.prog Q a y := by
  have kd : Kp (fun b => b = r ∨ b = g) y y.drew := (Kp.refl _ _).drew
  have k0 : Kp (fun _ => False) y y.drew := (Kp.refl _ _).drew
  refine chain_region (rm4C Z r g xs cs y.drew y2) (by kernel_rfl) hT hn hB (fun k v a hk _ h => rm4B_put r g y2 k v a hk h) (fun i j h1 h2 => rm4D_inj i h1 j h2) (fun i j p h1 h2 => posOf_inj _ i j p) (posOf_at [4, 9, 14, 19, 21, 23, 25, 27] 28 (by decide) (by decide)) ?_ (fun m w w' hk h => NW.grow h hk) (fun i v w w' hk h => h) (rm4_steps Z r g xs cs y.drew y2 hb hrg hZg hcs (fun a w h1 h2 h3 => hpan a w h1 (kd.trans h2 (fun _ _ e => e)) h3)) ?_
  · exact ⟨Kp.refl _ _, xs, rfl, hc.keep k0 id (fun _ _ => id), hl.keep k0 id⟩
  · rintro a' w h1 h2 hfr ⟨h3, t, h4, h5, h6⟩ _
    rw [act_puts a' [34, 35, 36, 37, 38, 39, 40, 41, 42, 43, 44, 45, 46, 47, 48, 49, 50, 51, 52, 53, 54, 55, 56, 57] a (h1.trans hn.symm) (h2.2.2.2.trans hB.2.2.2.symm) (fun t ht => by
      rcases Nat.lt_or_ge t a'.tmps.size with hl | hl
      · exact hfr t (fun k hk e => ht (rm4D_mem k hk t e (Nat.lt_of_lt_of_eq hl h1)))
      · rw [eval_past a' t hl, eval_past a t (by have h9 : a.tmps.size = a'.tmps.size := hn.trans h1.symm; omega)])]
    exact hend (a'.eval (.tmp 34)) (a'.eval (.tmp 35)) (a'.eval (.tmp 36)) (a'.eval (.tmp 37)) (a'.eval (.tmp 38)) (a'.eval (.tmp 39)) (a'.eval (.tmp 40)) (a'.eval (.tmp 41)) (a'.eval (.tmp 42)) (a'.eval (.tmp 43)) (a'.eval (.tmp 44)) (a'.eval (.tmp 45)) (a'.eval (.tmp 46)) (a'.eval (.tmp 47)) (a'.eval (.tmp 48)) (a'.eval (.tmp 49)) (a'.eval (.tmp 50)) (a'.eval (.tmp 51)) (a'.eval (.tmp 52)) (a'.eval (.tmp 53)) (a'.eval (.tmp 54)) (a'.eval (.tmp 55)) (a'.eval (.tmp 56)) (a'.eval (.tmp 57)) w t (kd.trans h3 (fun _ _ e => e)) h4 h5 h6

end Go.Proofs.YtoepemgflbmlcaaDoor

/- msgReader.vote. -/
namespace Go.Proofs.YtoepemgflbmlcaaDoor
set_option linter.unusedVariables false
set_option linter.unusedSimpArgs false
open Go.RowKit Go.Deep

set_option maxRecDepth 100000 in
set_option maxHeartbeats 3200000 in
theorem vote_ok {Z : Nat → Prop} (r : Nat) (xs : List Nat) (w : World) (h : Cu Z w r xs) (hb : ∀ x ∈ xs, x < 256) (hZ : ∀ b, Z b → b < w.heap.size) : Calls Tryd.prog 63 #[.pointer (some ⟨r, 0, none⟩)] w fun e w' => VtRes Z r xs w e w' ∧ Kp (fun b => b = r) w w' := by
  have hr : r < w.heap.size := by
    obtain ⟨q, m, c, h1, _⟩ := h
    exact World.block_lt_of_cell? _ _ h1
  obtain ⟨h2, hh2⟩ : ∃ x, x = w.heap.size := ⟨_, rfl⟩
  obtain ⟨g, hg⟩ : ∃ x, x = w.heap.size + 1 := ⟨_, rfl⟩
  obtain ⟨u, hu⟩ : ∃ x, x = (w.alloc (.cells zeroV.toArray 72)).alloc (.cells zeroV.toArray 72) := ⟨_, rfl⟩
  have z1 : (w.alloc (.cells zeroV.toArray 72)).heap.size = w.heap.size + 1 := by simp
  have z2 : u.heap.size = w.heap.size + 2 := by rw [hu]; simp
  have k0 : Kp (fun _ => False) w u := by rw [hu]; exact ((Kp.refl _ _).alloc _).alloc _
  have HLh : Hid (Lv u h2 zeroV) := by rw [hu, hh2]; exact (Lv.new w zeroV.toArray _).keep ((Kp.refl (fun _ => False) _).alloc _) id
  have HLg : Hid (Lv u g zeroV) := by rw [hu, hg, ← z1]; exact Lv.new _ zeroV.toArray _
  have HC0 : Hid (Cu Z u r xs) := h.keep k0 id (fun _ _ => id)
  have HK0 : Hid (Kp (fun b => b = r) w u) := k0.mono (fun _ _ e => e.elim)
  have HB : Hid (∀ x ∈ xs, x < 256) := hb
  have HZ : Hid (¬ Z g ∧ ¬ Z h2 ∧ ∀ b, Z b → b < h2) := ⟨fun e => by have := hZ _ e; omega, fun e => by have := hZ _ e; omega, fun b e => by have := hZ _ e; omega⟩
  have HO : Hid (r < h2 ∧ h2 = w.heap.size ∧ g = h2 + 1 ∧ u.heap.size = g + 1 ∧ r ≠ g ∧ h2 ≠ r ∧ h2 ≠ g) := by show _ ∧ _; omega
  have HT : Hid (∀ u1 u2, Kp (fun b => b = r) w u1 → Kp (fun b => b = r ∨ b = g) u1 u2 → Kp (fun b => b = r) w u2) := fun u1 u2 a b => a.trans b (fun c hc e => by
    have := HO.out
    rcases e with e | e
    · exact e
    · omega)
  have HPan : Hid (∀ (a : Act) (w' : World), a.defers = [] → rdVote xs = none → Kp (fun b => b = r) w w' → bodyPost Tryd.prog Tryd.f63 (fun e w' => VtRes Z r xs w e w' ∧ Kp (fun b => b = r) w w') (.panic gaveUp) a w') := fun a w' hd hn k => ⟨hd, by unfold VtRes; rw [hn], k⟩
  have hu' : (w.alloc (.cells #[.int .i64 0, .int .i64 0, .int .i64 0, .int .i64 0, .string ⟨#[]⟩, .int .i64 0, .int .i64 0, .int .i64 0, .int .i64 0, .int .i64 0, .int .u32 0, .int .i64 0, .int .i64 0, .slice none 0 0] 72)).alloc (.cells #[.int .i64 0, .int .i64 0, .int .i64 0, .int .i64 0, .string ⟨#[]⟩, .int .i64 0, .int .i64 0, .int .i64 0, .int .i64 0, .int .i64 0, .int .u32 0, .int .i64 0, .int .i64 0, .slice none 0 0] 72) = u := hu.symm
  clear h hb hZ hr hu z1 z2 k0
  go_enter Tryd.func63, Tryd.ntmps63
  go_upto_region 2 with fail
  rw [← hg, ← hh2]
  clear hu' hg hh2
  refine rv2_region Z r g xs zeroV (.pointer (some ⟨h2, 0, none⟩)) (by kernel_rfl) rfl ⟨rfl, rfl, rfl, rfl⟩ HB.out HO.out.2.2.2.2.1 HZ.out.1 (by show _ ≤ 14; decide) HC0.out HLg.out ?_ ?_
  · exact fun a w1 hB1 k1 hs1 => HPan.out a w1 hB1.2.2.2 (rdVote_no1 hs1) (HT.out _ _ HK0.out k1)
  intro q4 q5 q6 q7 q8 q9 q10 q11 q12 q13 q14 q15 w1 t1 k1 s1 c1 l1
  simp only [Act.put, List.setIfInBounds_toArray, List.set_cons_succ, List.set_cons_zero]
  have HL1 : Hid (Lv w1 g (.int .i64 (seqV xs 0 : Int) :: .int .i64 (seqV xs 1 : Int) :: zeroC.toList)) := l1
  have HLh1 : Hid (Lv w1 h2 zeroV) := HLh.out.keep k1 (fun e => by have := HO.out; omega)
  have HC1 : Hid (Cu Z w1 r t1) := c1
  have HS1 : Hid (seqN xs 2 = some t1) := s1
  have HB1 : Hid (∀ x ∈ t1, x < 256) := seqN_byte HB.out 2 t1 s1
  have HK1 : Hid (Kp (fun b => b = r) w w1) := HT.out _ _ HK0.out k1
  have HU1 : Hid (g + 1 ≤ w1.heap.size) := by have := k1.size; have := HO.out; show _ ≤ _; omega
  clear l1 k1 c1 s1
  have HCm : Hid (Calls _ _ _ w1 _) := rcmd_ok r t1 w1 HC1.out HB1.out (fun b hb => by have := HZ.out.2.2 b hb; have := HO.out; have := HU1.out; omega)
  go_wp2_with fail
  refine HCm.out.mono ?_
  rintro e9 w2 ⟨hq, k2⟩
  have HK2 : Hid (Kp (fun b => b = r) w w2) := HK1.out.trans k2 (fun _ _ e => e)
  have HL2 : Hid (Lv w2 g (.int .i64 (seqV xs 0 : Int) :: .int .i64 (seqV xs 1 : Int) :: zeroC.toList)) := HL1.out.keep k2 (fun e => by have := HO.out; omega)
  have HLh2 : Hid (Lv w2 h2 zeroV) := HLh1.out.keep k2 (fun e => by have := HO.out; omega)
  clear k2 HCm
  unfold RcRes at hq
  cases hm : rdCmd t1 with
  | none =>
    rw [hm] at hq
    have he : e9 = .panicked gaveUp := hq
    subst he
    exact HPan.out _ _ rfl (rdVote_no2 HS1.out hm) HK2.out
  | some p =>
  obtain ⟨c, t2⟩ := p
  rw [hm] at hq
  obtain ⟨q, cap, he, hfl, hc⟩ := hq
  subst he
  have HM : Hid (rdCmd t1 = some (c, t2)) := hm
  have HC2 : Hid (Cu Z w2 r t2) := hc
  have HF2 : Hid (Fl w2 (fun b => w1.heap.size ≤ b ∧ b < w2.heap.size) q ((intsOf c.nodes).map encI)) := hfl
  have HOc : Hid ((cmdA (csOf c) (.slice q c.nodes.length cap)).toList.toArray.all (·.oneCell') = true) := cmd_one _ rfl
  have HOv : Hid ((vcell ⟨(seqV xs 0 : Int), (seqV xs 1 : Int), csOf c, intsOf c.nodes⟩ (.slice q c.nodes.length cap)).toArray.all (·.oneCell') = true) := vcell_one _ rfl
  clear hc hfl hm
  go_upto_region 4 with (refine wpList_store_sub rfl 27 _ _ rfl 12 g 2 (.int .i64 (seqV xs 0 : Int) :: .int .i64 (seqV xs 1 : Int) :: zeroC.toList) (cmdA (csOf c) (.slice q c.nodes.length cap)).toList (vcell ⟨(seqV xs 0 : Int), (seqV xs 1 : Int), csOf c, intsOf c.nodes⟩ (.slice q c.nodes.length cap)) rfl rfl HL2.out szCmd rfl (by show 2 + 12 ≤ 14; decide) HOc.out rfl ?_; intro w3 hl3 k3)
  have HL3 : Hid (Lv w3 g (vcell ⟨(seqV xs 0 : Int), (seqV xs 1 : Int), csOf c, intsOf c.nodes⟩ (.slice q c.nodes.length cap))) := hl3
  have HK3 : Hid (Kp (fun b => b = r) w w3) := HK2.out.trans k3 (fun b hb e => by have := HO.out; omega)
  have HLh3 : Hid (Lv w3 h2 zeroV) := HLh2.out.keep k3 (fun e => by have := HO.out; omega)
  have HC3 : Hid (Cu Z w3 r t2) := HC2.out.keep k3 HO.out.2.2.2.2.1 (fun b hb e => HZ.out.1 (e ▸ hb))
  have HF3 : Hid (Fl w3 (fun b => w1.heap.size ≤ b ∧ b < w2.heap.size) q ((intsOf c.nodes).map encI)) := HF2.out.keep k3 (fun b hb e => by have := HU1.out; omega)
  have HS3 : Hid (w2.heap.size ≤ w3.heap.size) := k3.size
  clear hl3 k3
  go_wp2_with (first
    | (refine wpList_load_all rfl 72 _ rfl 14 g (vcell ⟨(seqV xs 0 : Int), (seqV xs 1 : Int), csOf c, intsOf c.nodes⟩ (.slice q c.nodes.length cap)) rfl HL3.out dsVote szVote rfl ?_)
    | (refine wpList_store_all rfl 72 _ _ rfl 14 h2 zeroV (vcell ⟨(seqV xs 0 : Int), (seqV xs 1 : Int), csOf c, intsOf c.nodes⟩ (.slice q c.nodes.length cap)) rfl rfl HLh3.out szVote rfl rfl HOv.out ?_; intro w4 hl4 k4))
  refine bodyPost_ret (res_cell Tryd.results63 _ _ h2 _ rfl (hl4.load dsVote szVote rfl)) rfl ?_
  refine ⟨?_, HK3.out.trans k4 (fun b hb e => by have := HO.out; omega)⟩
  unfold VtRes
  rw [rdVote_yes HS1.out HM.out]
  refine ⟨q, cap, rfl, (HF3.out.keep k4 (fun b hb e => by have := HO.out; have := HU1.out; omega)).mono (fun b hb => ⟨by have := HO.out; have := HU1.out; omega, by have := HS3.out; have := k4.size; omega⟩), HC3.out.keep k4 (fun e => HO.out.2.2.2.2.2.1 e.symm) (fun b hb e => HZ.out.2.1 (e ▸ hb))⟩
end Go.Proofs.YtoepemgflbmlcaaDoor
