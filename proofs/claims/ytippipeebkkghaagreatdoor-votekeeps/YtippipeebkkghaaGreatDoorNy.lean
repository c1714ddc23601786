/- cmdReader.cmd: its regions of numbers (laid by scripts/mkny.py). -/
import Derived.Test.YtippipeebkkghaaGreatDoorNx
namespace Go.Proofs.YtippipeebkkghaaGreatDoor
set_option linter.unusedVariables false
set_option linter.unusedSimpArgs false
open Go.RowKit Go.Deep

theorem act80 (a : Act) (h : a.tmps.size = 80) (hd : a.defers = []) : ∃ x0 x1 x2 x3 x4 x5 x6 x7 x8 x9 x10 x11 x12 x13 x14 x15 x16 x17 x18 x19 x20 x21 x22 x23 x24 x25 x26 x27 x28 x29 x30 x31 x32 x33 x34 x35 x36 x37 x38 x39 x40 x41 x42 x43 x44 x45 x46 x47 x48 x49 x50 x51 x52 x53 x54 x55 x56 x57 x58 x59 x60 x61 x62 x63 x64 x65 x66 x67 x68 x69 x70 x71 x72 x73 x74 x75 x76 x77 x78 x79 : Value, a = { tmps := #[x0, x1, x2, x3, x4, x5, x6, x7, x8, x9, x10, x11, x12, x13, x14, x15, x16, x17, x18, x19, x20, x21, x22, x23, x24, x25, x26, x27, x28, x29, x30, x31, x32, x33, x34, x35, x36, x37, x38, x39, x40, x41, x42, x43, x44, x45, x46, x47, x48, x49, x50, x51, x52, x53, x54, x55, x56, x57, x58, x59, x60, x61, x62, x63, x64, x65, x66, x67, x68, x69, x70, x71, x72, x73, x74, x75, x76, x77, x78, x79], defers := [] } := by
  obtain ⟨⟨l0⟩, d⟩ := a
  dsimp only at hd h
  subst hd
  have h0 : l0.length = 80 := h
  clear h
  obtain ⟨x0, l1, rfl, h1⟩ := cons_len h0
  obtain ⟨x1, l2, rfl, h2⟩ := cons_len h1
  obtain ⟨x2, l3, rfl, h3⟩ := cons_len h2
  obtain ⟨x3, l4, rfl, h4⟩ := cons_len h3
  obtain ⟨x4, l5, rfl, h5⟩ := cons_len h4
  obtain ⟨x5, l6, rfl, h6⟩ := cons_len h5
  obtain ⟨x6, l7, rfl, h7⟩ := cons_len h6
  obtain ⟨x7, l8, rfl, h8⟩ := cons_len h7
  obtain ⟨x8, l9, rfl, h9⟩ := cons_len h8
  obtain ⟨x9, l10, rfl, h10⟩ := cons_len h9
  obtain ⟨x10, l11, rfl, h11⟩ := cons_len h10
  obtain ⟨x11, l12, rfl, h12⟩ := cons_len h11
  obtain ⟨x12, l13, rfl, h13⟩ := cons_len h12
  obtain ⟨x13, l14, rfl, h14⟩ := cons_len h13
  obtain ⟨x14, l15, rfl, h15⟩ := cons_len h14
  obtain ⟨x15, l16, rfl, h16⟩ := cons_len h15
  obtain ⟨x16, l17, rfl, h17⟩ := cons_len h16
  obtain ⟨x17, l18, rfl, h18⟩ := cons_len h17
  obtain ⟨x18, l19, rfl, h19⟩ := cons_len h18
  obtain ⟨x19, l20, rfl, h20⟩ := cons_len h19
  obtain ⟨x20, l21, rfl, h21⟩ := cons_len h20
  obtain ⟨x21, l22, rfl, h22⟩ := cons_len h21
  obtain ⟨x22, l23, rfl, h23⟩ := cons_len h22
  obtain ⟨x23, l24, rfl, h24⟩ := cons_len h23
  obtain ⟨x24, l25, rfl, h25⟩ := cons_len h24
  obtain ⟨x25, l26, rfl, h26⟩ := cons_len h25
  obtain ⟨x26, l27, rfl, h27⟩ := cons_len h26
  obtain ⟨x27, l28, rfl, h28⟩ := cons_len h27
  obtain ⟨x28, l29, rfl, h29⟩ := cons_len h28
  obtain ⟨x29, l30, rfl, h30⟩ := cons_len h29
  obtain ⟨x30, l31, rfl, h31⟩ := cons_len h30
  obtain ⟨x31, l32, rfl, h32⟩ := cons_len h31
  obtain ⟨x32, l33, rfl, h33⟩ := cons_len h32
  obtain ⟨x33, l34, rfl, h34⟩ := cons_len h33
  obtain ⟨x34, l35, rfl, h35⟩ := cons_len h34
  obtain ⟨x35, l36, rfl, h36⟩ := cons_len h35
  obtain ⟨x36, l37, rfl, h37⟩ := cons_len h36
  obtain ⟨x37, l38, rfl, h38⟩ := cons_len h37
  obtain ⟨x38, l39, rfl, h39⟩ := cons_len h38
  obtain ⟨x39, l40, rfl, h40⟩ := cons_len h39
  obtain ⟨x40, l41, rfl, h41⟩ := cons_len h40
  obtain ⟨x41, l42, rfl, h42⟩ := cons_len h41
  obtain ⟨x42, l43, rfl, h43⟩ := cons_len h42
  obtain ⟨x43, l44, rfl, h44⟩ := cons_len h43
  obtain ⟨x44, l45, rfl, h45⟩ := cons_len h44
  obtain ⟨x45, l46, rfl, h46⟩ := cons_len h45
  obtain ⟨x46, l47, rfl, h47⟩ := cons_len h46
  obtain ⟨x47, l48, rfl, h48⟩ := cons_len h47
  obtain ⟨x48, l49, rfl, h49⟩ := cons_len h48
  obtain ⟨x49, l50, rfl, h50⟩ := cons_len h49
  obtain ⟨x50, l51, rfl, h51⟩ := cons_len h50
  obtain ⟨x51, l52, rfl, h52⟩ := cons_len h51
  obtain ⟨x52, l53, rfl, h53⟩ := cons_len h52
  obtain ⟨x53, l54, rfl, h54⟩ := cons_len h53
  obtain ⟨x54, l55, rfl, h55⟩ := cons_len h54
  obtain ⟨x55, l56, rfl, h56⟩ := cons_len h55
  obtain ⟨x56, l57, rfl, h57⟩ := cons_len h56
  obtain ⟨x57, l58, rfl, h58⟩ := cons_len h57
  obtain ⟨x58, l59, rfl, h59⟩ := cons_len h58
  obtain ⟨x59, l60, rfl, h60⟩ := cons_len h59
  obtain ⟨x60, l61, rfl, h61⟩ := cons_len h60
  obtain ⟨x61, l62, rfl, h62⟩ := cons_len h61
  obtain ⟨x62, l63, rfl, h63⟩ := cons_len h62
  obtain ⟨x63, l64, rfl, h64⟩ := cons_len h63
  obtain ⟨x64, l65, rfl, h65⟩ := cons_len h64
  obtain ⟨x65, l66, rfl, h66⟩ := cons_len h65
  obtain ⟨x66, l67, rfl, h67⟩ := cons_len h66
  obtain ⟨x67, l68, rfl, h68⟩ := cons_len h67
  obtain ⟨x68, l69, rfl, h69⟩ := cons_len h68
  obtain ⟨x69, l70, rfl, h70⟩ := cons_len h69
  obtain ⟨x70, l71, rfl, h71⟩ := cons_len h70
  obtain ⟨x71, l72, rfl, h72⟩ := cons_len h71
  obtain ⟨x72, l73, rfl, h73⟩ := cons_len h72
  obtain ⟨x73, l74, rfl, h74⟩ := cons_len h73
  obtain ⟨x74, l75, rfl, h75⟩ := cons_len h74
  obtain ⟨x75, l76, rfl, h76⟩ := cons_len h75
  obtain ⟨x76, l77, rfl, h77⟩ := cons_len h76
  obtain ⟨x77, l78, rfl, h78⟩ := cons_len h77
  obtain ⟨x78, l79, rfl, h79⟩ := cons_len h78
  obtain ⟨x79, l80, rfl, h80⟩ := cons_len h79
  have e := List.eq_nil_of_length_eq_zero h80
  subst e
  exact ⟨x0, x1, x2, x3, x4, x5, x6, x7, x8, x9, x10, x11, x12, x13, x14, x15, x16, x17, x18, x19, x20, x21, x22, x23, x24, x25, x26, x27, x28, x29, x30, x31, x32, x33, x34, x35, x36, x37, x38, x39, x40, x41, x42, x43, x44, x45, x46, x47, x48, x49, x50, x51, x52, x53, x54, x55, x56, x57, x58, x59, x60, x61, x62, x63, x64, x65, x66, x67, x68, x69, x70, x71, x72, x73, x74, x75, x76, x77, x78, x79, rfl⟩

def rc2V (r g : Nat) (xs : List Nat) : Nat → Value
  | 0 => .pointer (some ⟨r, 0, none⟩)
  | 1 => .pointer (some ⟨r, 0, none⟩)
  | 2 => .pointer (some ⟨r, 0, none⟩)
  | 3 => .int .i64 (seqV xs 0 : Int)
  | 4 => .pointer (some ⟨r, 0, none⟩)
  | 5 => .pointer (some ⟨r, 0, none⟩)
  | 6 => .pointer (some ⟨r, 0, none⟩)
  | 7 => .int .i64 (seqV xs 1 : Int)
  | 8 => .pointer (some ⟨g, 0, none⟩)
  | 9 => undef
  | 10 => .pointer (some ⟨g, 1, none⟩)
  | 11 => undef
  | _ => undef
def rc2R (r g : Nat) (xs : List Nat) (i : Nat) (v : Value) (w : World) : Prop := match i with
  | 9 => True
  | 11 => True
  | i => v = rc2V r g xs i
def rc2D (k : Nat) : Nat := [4, 5, 6, 7, 8, 9, 10, 11, 12, 89, 13, 91].getD k 0
def rc2B (r g : Nat) (y2 : Value) (a : Act) : Prop := a.eval (.tmp 0) = .pointer (some ⟨r, 0, none⟩) ∧ a.eval (.tmp 2) = y2 ∧ a.eval (.tmp 3) = .pointer (some ⟨g, 0, none⟩) ∧ a.defers = []
theorem rc2D_ne : ∀ k, k < 12 → rc2D k ≠ 0 ∧ rc2D k ≠ 2 ∧ rc2D k ≠ 3 := by decide
theorem rc2B_put (r g : Nat) (y2 : Value) (k : Nat) (v : Value) (a : Act) (hk : k < 12) (h : rc2B r g y2 a) : rc2B r g y2 (a.put (some (rc2D k)) v) := by
  have hne := rc2D_ne k hk
  refine ⟨?_, ?_, ?_, h.2.2.2⟩
  · rw [← h.1]
    show (a.tmps.setIfInBounds (rc2D k) v).getD 0 undef = a.tmps.getD 0 undef
    simp [Array.getElem?_setIfInBounds_ne (hne.1)]
  · rw [← h.2.1]
    show (a.tmps.setIfInBounds (rc2D k) v).getD 2 undef = a.tmps.getD 2 undef
    simp [Array.getElem?_setIfInBounds_ne (hne.2.1)]
  · rw [← h.2.2.1]
    show (a.tmps.setIfInBounds (rc2D k) v).getD 3 undef = a.tmps.getD 3 undef
    simp [Array.getElem?_setIfInBounds_ne (hne.2.2)]
theorem rc2D_inj : ∀ i, i < 12 → ∀ j, j < 12 → rc2D i = rc2D j → i = j := by decide
def rc2T : List (Oper × List Nat) := [(⟨some 4, Op.move (Operand.tmp 0), 263, "", #[], none⟩, []), (⟨some 5, Op.nilCheck (Operand.tmp 4), 0, "", #[], none⟩, [0]), (⟨some 6, Op.fieldAddr 213 (Operand.tmp 5) 0, 0, "", #[], none⟩, [1]), (⟨some 7, Op.call { callee := Callee.value (Operand.func 154), args := #[Operand.tmp 6], argTypes := #[211] }, 3, "", #[], none⟩, [2]), (⟨some 8, Op.move (Operand.tmp 0), 263, "", #[], none⟩, []), (⟨some 9, Op.nilCheck (Operand.tmp 8), 0, "", #[], none⟩, [4]), (⟨some 10, Op.fieldAddr 213 (Operand.tmp 9) 0, 0, "", #[], none⟩, [5]), (⟨some 11, Op.call { callee := Callee.value (Operand.func 154), args := #[Operand.tmp 10], argTypes := #[211] }, 3, "", #[], none⟩, [6, 3]), (⟨some 12, Op.fieldAddr 31 (Operand.tmp 3) 0, 0, "", #[], none⟩, [0, 1, 2, 3]), (⟨none, Op.store 3 (Operand.tmp 12) (Operand.tmp 7), 0, "", #[], none⟩, [8, 3, 7, 0, 1, 2, 3]), (⟨some 13, Op.fieldAddr 31 (Operand.tmp 3) 1, 0, "", #[], none⟩, [0, 1, 2, 3, 4, 5, 6, 7, 8, 9]), (⟨none, Op.store 3 (Operand.tmp 13) (Operand.tmp 11), 0, "", #[], none⟩, [10, 7, 9, 0, 1, 2, 3, 4, 5, 6, 7, 8, 9])]
def rc2C (Z : Nat → Prop) (r g : Nat) (xs : List Nat) (cs : List Value) (w0 : World) (y2 : Value) : Chn := { n := 80, B := rc2B r g y2, R := rc2R r g xs, D := rc2D, pos := posOf [3, 7, 9, 11], N := 4, W := NW Z 2 r g xs cs [0, 1] w0, T := rc2T }

theorem rc2D_mem : ∀ k, k < 12 → ∀ t, rc2D k = t → t < 80 → t ∈ [4, 5, 6, 7, 8, 9, 10, 11, 12, 13] := by
  intro k hk t e ht
  subst e
  revert ht
  revert k
  decide
set_option maxRecDepth 100000 in
theorem rc2_e0 (r g : Nat) (xs : List Nat) (ev : Operand → Value) (z : World) (ec : ∀ c, ev (.const c) = c) (e0 : ev (.tmp 0) = .pointer (some ⟨r, 0, none⟩)) : (execOp ev ⟨some 4, Op.move (Operand.tmp 0), 263, "", #[], none⟩).run Tryz.prog z = .ok (.value (.pointer (some ⟨r, 0, none⟩))) z := by
  go_simp
set_option maxRecDepth 100000 in
theorem rc2_s0 {Q : Exit → Act → World → Prop} (Z : Nat → Prop) (r g : Nat) (xs : List Nat) (cs : List Value) (w0 : World) (y2 : Value) (hb : ∀ x ∈ xs, x < 256) (hrg : r ≠ g) (hZg : ¬ Z g) (hcs : 2 ≤ cs.length) (hpan : ∀ a w, rc2B r g y2 a → Kp (fun b => b = r ∨ b = g) w0 w → seqN xs 2 = none → Q (.panic gaveUp) a w) : (rc2C Z r g xs cs w0 y2).Step Tryz.prog Q 0 ⟨some 4, Op.move (Operand.tmp 0), 263, "", #[], none⟩ [] := by
  refine Chn.pure _ rfl rfl (show 4 < 80 by decide) (by decide) rfl ?_
  intro a w m hn hB hW hdm hup hd K hK
  have e0 : a.eval (.tmp 0) = .pointer (some ⟨r, 0, none⟩) := hB.1
  exact run_value (rc2_e0 r g xs _ w (fun _ => rfl) e0) (hK.out _ w (Kp.refl _ _) rfl)
set_option maxRecDepth 100000 in
theorem rc2_e1 (r g : Nat) (xs : List Nat) (ev : Operand → Value) (z : World) (ec : ∀ c, ev (.const c) = c) (e4 : ev (.tmp 4) = .pointer (some ⟨r, 0, none⟩)) : (execOp ev ⟨some 5, Op.nilCheck (Operand.tmp 4), 0, "", #[], none⟩).run Tryz.prog z = .ok (.value (.pointer (some ⟨r, 0, none⟩))) z := by
  go_simp
set_option maxRecDepth 100000 in
theorem rc2_s1 {Q : Exit → Act → World → Prop} (Z : Nat → Prop) (r g : Nat) (xs : List Nat) (cs : List Value) (w0 : World) (y2 : Value) (hb : ∀ x ∈ xs, x < 256) (hrg : r ≠ g) (hZg : ¬ Z g) (hcs : 2 ≤ cs.length) (hpan : ∀ a w, rc2B r g y2 a → Kp (fun b => b = r ∨ b = g) w0 w → seqN xs 2 = none → Q (.panic gaveUp) a w) : (rc2C Z r g xs cs w0 y2).Step Tryz.prog Q 1 ⟨some 5, Op.nilCheck (Operand.tmp 4), 0, "", #[], none⟩ [0] := by
  refine Chn.pure _ rfl rfl (show 5 < 80 by decide) (by decide) rfl ?_
  intro a w m hn hB hW hdm hup hd K hK
  have e4 : a.eval (.tmp 4) = .pointer (some ⟨r, 0, none⟩) := hd 0 (by decide)
  exact run_value (rc2_e1 r g xs _ w (fun _ => rfl) e4) (hK.out _ w (Kp.refl _ _) rfl)
set_option maxRecDepth 100000 in
theorem rc2_e2 (r g : Nat) (xs : List Nat) (ev : Operand → Value) (z : World) (ec : ∀ c, ev (.const c) = c) (e5 : ev (.tmp 5) = .pointer (some ⟨r, 0, none⟩)) : (execOp ev ⟨some 6, Op.fieldAddr 213 (Operand.tmp 5) 0, 0, "", #[], none⟩).run Tryz.prog z = .ok (.value (.pointer (some ⟨r, 0, none⟩))) z := by
  go_simp
set_option maxRecDepth 100000 in
theorem rc2_s2 {Q : Exit → Act → World → Prop} (Z : Nat → Prop) (r g : Nat) (xs : List Nat) (cs : List Value) (w0 : World) (y2 : Value) (hb : ∀ x ∈ xs, x < 256) (hrg : r ≠ g) (hZg : ¬ Z g) (hcs : 2 ≤ cs.length) (hpan : ∀ a w, rc2B r g y2 a → Kp (fun b => b = r ∨ b = g) w0 w → seqN xs 2 = none → Q (.panic gaveUp) a w) : (rc2C Z r g xs cs w0 y2).Step Tryz.prog Q 2 ⟨some 6, Op.fieldAddr 213 (Operand.tmp 5) 0, 0, "", #[], none⟩ [1] := by
  refine Chn.pure _ rfl rfl (show 6 < 80 by decide) (by decide) rfl ?_
  intro a w m hn hB hW hdm hup hd K hK
  have e5 : a.eval (.tmp 5) = .pointer (some ⟨r, 0, none⟩) := hd 1 (by decide)
  exact run_value (rc2_e2 r g xs _ w (fun _ => rfl) e5) (hK.out _ w (Kp.refl _ _) rfl)
set_option maxRecDepth 100000 in
theorem rc2_e3 (r g : Nat) (xs : List Nat) (ev : Operand → Value) (z : World) (ec : ∀ c, ev (.const c) = c) (ef : ∀ f, ev (.func f) = .func (.func f) #[] #[]) (e6 : ev (.tmp 6) = .pointer (some ⟨r, 0, none⟩)) : (execOp ev ⟨some 7, Op.call { callee := Callee.value (Operand.func 154), args := #[Operand.tmp 6], argTypes := #[211] }, 3, "", #[], none⟩).run Tryz.prog z = .ok (.enter 154 #[.pointer (some ⟨r, 0, none⟩)]) z := enter_run _ (ef _) (by simp only [List.map_toArray, List.map_cons, List.map_nil, ec, ef, e6]) (fun _ => by rfl)
set_option maxRecDepth 100000 in
theorem rc2_s3 {Q : Exit → Act → World → Prop} (Z : Nat → Prop) (r g : Nat) (xs : List Nat) (cs : List Value) (w0 : World) (y2 : Value) (hb : ∀ x ∈ xs, x < 256) (hrg : r ≠ g) (hZg : ¬ Z g) (hcs : 2 ≤ cs.length) (hpan : ∀ a w, rc2B r g y2 a → Kp (fun b => b = r ∨ b = g) w0 w → seqN xs 2 = none → Q (.panic gaveUp) a w) : (rc2C Z r g xs cs w0 y2).Step Tryz.prog Q 3 ⟨some 7, Op.call { callee := Callee.value (Operand.func 154), args := #[Operand.tmp 6], argTypes := #[211] }, 3, "", #[], none⟩ [2] := by
  refine Chn.link _ 0 rfl (fun q hq => by omega) (show 0 < 4 by decide) (Or.inl ⟨rfl, show 7 < 80 by decide⟩) (by decide) rfl ?_
  intro a w hn hB hW hd K hK
  have e6 : a.eval (.tmp 6) = .pointer (some ⟨r, 0, none⟩) := hd 2 (by decide)
  refine wp_enterP (rc2_e3 r g xs _ w (fun _ => rfl) (fun _ => rfl) e6) (NW.call (Z := Z) (g := g) (cs := cs) (offs := [0, 1]) (w0 := w0) (k := 2) (j := 0) hW (by decide) hb hrg hZg) ?_
  rintro e9 w9 (⟨rfl, h9⟩ | ⟨rfl, h9, h8⟩)
  · exact Or.inl ⟨_, rfl, hK.out _ _ h9 (fun _ _ _ h => h) rfl⟩
  · exact Or.inr ⟨_, rfl, hpan a w9 hB h9 (seqN_none h8 (by decide))⟩
set_option maxRecDepth 100000 in
theorem rc2_e4 (r g : Nat) (xs : List Nat) (ev : Operand → Value) (z : World) (ec : ∀ c, ev (.const c) = c) (e0 : ev (.tmp 0) = .pointer (some ⟨r, 0, none⟩)) : (execOp ev ⟨some 8, Op.move (Operand.tmp 0), 263, "", #[], none⟩).run Tryz.prog z = .ok (.value (.pointer (some ⟨r, 0, none⟩))) z := by
  go_simp
set_option maxRecDepth 100000 in
theorem rc2_s4 {Q : Exit → Act → World → Prop} (Z : Nat → Prop) (r g : Nat) (xs : List Nat) (cs : List Value) (w0 : World) (y2 : Value) (hb : ∀ x ∈ xs, x < 256) (hrg : r ≠ g) (hZg : ¬ Z g) (hcs : 2 ≤ cs.length) (hpan : ∀ a w, rc2B r g y2 a → Kp (fun b => b = r ∨ b = g) w0 w → seqN xs 2 = none → Q (.panic gaveUp) a w) : (rc2C Z r g xs cs w0 y2).Step Tryz.prog Q 4 ⟨some 8, Op.move (Operand.tmp 0), 263, "", #[], none⟩ [] := by
  refine Chn.pure _ rfl rfl (show 8 < 80 by decide) (by decide) rfl ?_
  intro a w m hn hB hW hdm hup hd K hK
  have e0 : a.eval (.tmp 0) = .pointer (some ⟨r, 0, none⟩) := hB.1
  exact run_value (rc2_e4 r g xs _ w (fun _ => rfl) e0) (hK.out _ w (Kp.refl _ _) rfl)
set_option maxRecDepth 100000 in
theorem rc2_e5 (r g : Nat) (xs : List Nat) (ev : Operand → Value) (z : World) (ec : ∀ c, ev (.const c) = c) (e8 : ev (.tmp 8) = .pointer (some ⟨r, 0, none⟩)) : (execOp ev ⟨some 9, Op.nilCheck (Operand.tmp 8), 0, "", #[], none⟩).run Tryz.prog z = .ok (.value (.pointer (some ⟨r, 0, none⟩))) z := by
  go_simp
set_option maxRecDepth 100000 in
theorem rc2_s5 {Q : Exit → Act → World → Prop} (Z : Nat → Prop) (r g : Nat) (xs : List Nat) (cs : List Value) (w0 : World) (y2 : Value) (hb : ∀ x ∈ xs, x < 256) (hrg : r ≠ g) (hZg : ¬ Z g) (hcs : 2 ≤ cs.length) (hpan : ∀ a w, rc2B r g y2 a → Kp (fun b => b = r ∨ b = g) w0 w → seqN xs 2 = none → Q (.panic gaveUp) a w) : (rc2C Z r g xs cs w0 y2).Step Tryz.prog Q 5 ⟨some 9, Op.nilCheck (Operand.tmp 8), 0, "", #[], none⟩ [4] := by
  refine Chn.pure _ rfl rfl (show 9 < 80 by decide) (by decide) rfl ?_
  intro a w m hn hB hW hdm hup hd K hK
  have e8 : a.eval (.tmp 8) = .pointer (some ⟨r, 0, none⟩) := hd 4 (by decide)
  exact run_value (rc2_e5 r g xs _ w (fun _ => rfl) e8) (hK.out _ w (Kp.refl _ _) rfl)
set_option maxRecDepth 100000 in
theorem rc2_e6 (r g : Nat) (xs : List Nat) (ev : Operand → Value) (z : World) (ec : ∀ c, ev (.const c) = c) (e9 : ev (.tmp 9) = .pointer (some ⟨r, 0, none⟩)) : (execOp ev ⟨some 10, Op.fieldAddr 213 (Operand.tmp 9) 0, 0, "", #[], none⟩).run Tryz.prog z = .ok (.value (.pointer (some ⟨r, 0, none⟩))) z := by
  go_simp
set_option maxRecDepth 100000 in
theorem rc2_s6 {Q : Exit → Act → World → Prop} (Z : Nat → Prop) (r g : Nat) (xs : List Nat) (cs : List Value) (w0 : World) (y2 : Value) (hb : ∀ x ∈ xs, x < 256) (hrg : r ≠ g) (hZg : ¬ Z g) (hcs : 2 ≤ cs.length) (hpan : ∀ a w, rc2B r g y2 a → Kp (fun b => b = r ∨ b = g) w0 w → seqN xs 2 = none → Q (.panic gaveUp) a w) : (rc2C Z r g xs cs w0 y2).Step Tryz.prog Q 6 ⟨some 10, Op.fieldAddr 213 (Operand.tmp 9) 0, 0, "", #[], none⟩ [5] := by
  refine Chn.pure _ rfl rfl (show 10 < 80 by decide) (by decide) rfl ?_
  intro a w m hn hB hW hdm hup hd K hK
  have e9 : a.eval (.tmp 9) = .pointer (some ⟨r, 0, none⟩) := hd 5 (by decide)
  exact run_value (rc2_e6 r g xs _ w (fun _ => rfl) e9) (hK.out _ w (Kp.refl _ _) rfl)
set_option maxRecDepth 100000 in
theorem rc2_e7 (r g : Nat) (xs : List Nat) (ev : Operand → Value) (z : World) (ec : ∀ c, ev (.const c) = c) (ef : ∀ f, ev (.func f) = .func (.func f) #[] #[]) (e10 : ev (.tmp 10) = .pointer (some ⟨r, 0, none⟩)) : (execOp ev ⟨some 11, Op.call { callee := Callee.value (Operand.func 154), args := #[Operand.tmp 10], argTypes := #[211] }, 3, "", #[], none⟩).run Tryz.prog z = .ok (.enter 154 #[.pointer (some ⟨r, 0, none⟩)]) z := enter_run _ (ef _) (by simp only [List.map_toArray, List.map_cons, List.map_nil, ec, ef, e10]) (fun _ => by rfl)
set_option maxRecDepth 100000 in
theorem rc2_s7 {Q : Exit → Act → World → Prop} (Z : Nat → Prop) (r g : Nat) (xs : List Nat) (cs : List Value) (w0 : World) (y2 : Value) (hb : ∀ x ∈ xs, x < 256) (hrg : r ≠ g) (hZg : ¬ Z g) (hcs : 2 ≤ cs.length) (hpan : ∀ a w, rc2B r g y2 a → Kp (fun b => b = r ∨ b = g) w0 w → seqN xs 2 = none → Q (.panic gaveUp) a w) : (rc2C Z r g xs cs w0 y2).Step Tryz.prog Q 7 ⟨some 11, Op.call { callee := Callee.value (Operand.func 154), args := #[Operand.tmp 10], argTypes := #[211] }, 3, "", #[], none⟩ [6, 3] := by
  refine Chn.link _ 1 rfl (prevOf 3 0 (by decide) rfl) (show 1 < 4 by decide) (Or.inl ⟨rfl, show 11 < 80 by decide⟩) (by decide) rfl ?_
  intro a w hn hB hW hd K hK
  have e10 : a.eval (.tmp 10) = .pointer (some ⟨r, 0, none⟩) := hd 6 (by decide)
  refine wp_enterP (rc2_e7 r g xs _ w (fun _ => rfl) (fun _ => rfl) e10) (NW.call (Z := Z) (g := g) (cs := cs) (offs := [0, 1]) (w0 := w0) (k := 2) (j := 1) hW (by decide) hb hrg hZg) ?_
  rintro e9 w9 (⟨rfl, h9⟩ | ⟨rfl, h9, h8⟩)
  · exact Or.inl ⟨_, rfl, hK.out _ _ h9 (fun _ _ _ h => h) rfl⟩
  · exact Or.inr ⟨_, rfl, hpan a w9 hB h9 (seqN_none h8 (by decide))⟩
set_option maxRecDepth 100000 in
theorem rc2_e8 (r g : Nat) (xs : List Nat) (ev : Operand → Value) (z : World) (ec : ∀ c, ev (.const c) = c) (e3 : ev (.tmp 3) = .pointer (some ⟨g, 0, none⟩)) : (execOp ev ⟨some 12, Op.fieldAddr 31 (Operand.tmp 3) 0, 0, "", #[], none⟩).run Tryz.prog z = .ok (.value (.pointer (some ⟨g, 0, none⟩))) z := by
  go_simp
set_option maxRecDepth 100000 in
theorem rc2_s8 {Q : Exit → Act → World → Prop} (Z : Nat → Prop) (r g : Nat) (xs : List Nat) (cs : List Value) (w0 : World) (y2 : Value) (hb : ∀ x ∈ xs, x < 256) (hrg : r ≠ g) (hZg : ¬ Z g) (hcs : 2 ≤ cs.length) (hpan : ∀ a w, rc2B r g y2 a → Kp (fun b => b = r ∨ b = g) w0 w → seqN xs 2 = none → Q (.panic gaveUp) a w) : (rc2C Z r g xs cs w0 y2).Step Tryz.prog Q 8 ⟨some 12, Op.fieldAddr 31 (Operand.tmp 3) 0, 0, "", #[], none⟩ [0, 1, 2, 3] := by
  refine Chn.pure _ rfl rfl (show 12 < 80 by decide) (by decide) rfl ?_
  intro a w m hn hB hW hdm hup hd K hK
  have e3 : a.eval (.tmp 3) = .pointer (some ⟨g, 0, none⟩) := hB.2.2.1
  exact run_value (rc2_e8 r g xs _ w (fun _ => rfl) e3) (hK.out _ w (Kp.refl _ _) rfl)
set_option maxRecDepth 100000 in
theorem rc2_e9 (r g : Nat) (xs : List Nat) (ev : Operand → Value) (z : World) (ec : ∀ c, ev (.const c) = c) (e7 : ev (.tmp 7) = .int .i64 (seqV xs 0 : Int)) (e12 : ev (.tmp 12) = .pointer (some ⟨g, 0, none⟩)) {u : Value} (hu : z.cell? ⟨g, 0, none⟩ = some u) (hf : z.frozen? ⟨g, 0, none⟩ = false) : (execOp ev ⟨none, Op.store 3 (Operand.tmp 12) (Operand.tmp 7), 0, "", #[], none⟩).run Tryz.prog z = .ok .skip (z.setCell ⟨g, 0, none⟩ (.int .i64 (seqV xs 0 : Int))) := by
  go_simp
set_option maxRecDepth 100000 in
theorem rc2_s9 {Q : Exit → Act → World → Prop} (Z : Nat → Prop) (r g : Nat) (xs : List Nat) (cs : List Value) (w0 : World) (y2 : Value) (hb : ∀ x ∈ xs, x < 256) (hrg : r ≠ g) (hZg : ¬ Z g) (hcs : 2 ≤ cs.length) (hpan : ∀ a w, rc2B r g y2 a → Kp (fun b => b = r ∨ b = g) w0 w → seqN xs 2 = none → Q (.panic gaveUp) a w) : (rc2C Z r g xs cs w0 y2).Step Tryz.prog Q 9 ⟨none, Op.store 3 (Operand.tmp 12) (Operand.tmp 7), 0, "", #[], none⟩ [8, 3, 7, 0, 1, 2, 3] := by
  refine Chn.link _ 2 rfl (prevOf 7 1 (by decide) rfl) (show 2 < 4 by decide) (Or.inr ⟨rfl, show 80 ≤ 89 by decide, fun _ _ => trivial⟩) (by decide) rfl ?_
  intro a w hn hB hW hd K hK
  have e7 : a.eval (.tmp 7) = .int .i64 (seqV xs 0 : Int) := hd 3 (by decide)
  have e12 : a.eval (.tmp 12) = .pointer (some ⟨g, 0, none⟩) := hd 8 (by decide)
  obtain ⟨⟨u, hu⟩, hf, hN⟩ := NW.store (Z := Z) (k := 2) (r := r) (g := g) (xs := xs) (cs := cs) (offs := [0, 1]) (w0 := w0) (j := 2) hW 0 0 rfl rfl (by omega) hrg hZg
  exact run_skip rfl (rc2_e9 r g xs _ w (fun _ => rfl) e7 e12 hu hf) (fun v => hK.out v _ hN (fun _ _ _ h => h) trivial)
set_option maxRecDepth 100000 in
theorem rc2_e10 (r g : Nat) (xs : List Nat) (ev : Operand → Value) (z : World) (ec : ∀ c, ev (.const c) = c) (e3 : ev (.tmp 3) = .pointer (some ⟨g, 0, none⟩)) : (execOp ev ⟨some 13, Op.fieldAddr 31 (Operand.tmp 3) 1, 0, "", #[], none⟩).run Tryz.prog z = .ok (.value (.pointer (some ⟨g, 1, none⟩))) z := by
  go_simp
set_option maxRecDepth 100000 in
theorem rc2_s10 {Q : Exit → Act → World → Prop} (Z : Nat → Prop) (r g : Nat) (xs : List Nat) (cs : List Value) (w0 : World) (y2 : Value) (hb : ∀ x ∈ xs, x < 256) (hrg : r ≠ g) (hZg : ¬ Z g) (hcs : 2 ≤ cs.length) (hpan : ∀ a w, rc2B r g y2 a → Kp (fun b => b = r ∨ b = g) w0 w → seqN xs 2 = none → Q (.panic gaveUp) a w) : (rc2C Z r g xs cs w0 y2).Step Tryz.prog Q 10 ⟨some 13, Op.fieldAddr 31 (Operand.tmp 3) 1, 0, "", #[], none⟩ [0, 1, 2, 3, 4, 5, 6, 7, 8, 9] := by
  refine Chn.pure _ rfl rfl (show 13 < 80 by decide) (by decide) rfl ?_
  intro a w m hn hB hW hdm hup hd K hK
  have e3 : a.eval (.tmp 3) = .pointer (some ⟨g, 0, none⟩) := hB.2.2.1
  exact run_value (rc2_e10 r g xs _ w (fun _ => rfl) e3) (hK.out _ w (Kp.refl _ _) rfl)
set_option maxRecDepth 100000 in
theorem rc2_e11 (r g : Nat) (xs : List Nat) (ev : Operand → Value) (z : World) (ec : ∀ c, ev (.const c) = c) (e11 : ev (.tmp 11) = .int .i64 (seqV xs 1 : Int)) (e13 : ev (.tmp 13) = .pointer (some ⟨g, 1, none⟩)) {u : Value} (hu : z.cell? ⟨g, 1, none⟩ = some u) (hf : z.frozen? ⟨g, 1, none⟩ = false) : (execOp ev ⟨none, Op.store 3 (Operand.tmp 13) (Operand.tmp 11), 0, "", #[], none⟩).run Tryz.prog z = .ok .skip (z.setCell ⟨g, 1, none⟩ (.int .i64 (seqV xs 1 : Int))) := by
  go_simp
set_option maxRecDepth 100000 in
theorem rc2_s11 {Q : Exit → Act → World → Prop} (Z : Nat → Prop) (r g : Nat) (xs : List Nat) (cs : List Value) (w0 : World) (y2 : Value) (hb : ∀ x ∈ xs, x < 256) (hrg : r ≠ g) (hZg : ¬ Z g) (hcs : 2 ≤ cs.length) (hpan : ∀ a w, rc2B r g y2 a → Kp (fun b => b = r ∨ b = g) w0 w → seqN xs 2 = none → Q (.panic gaveUp) a w) : (rc2C Z r g xs cs w0 y2).Step Tryz.prog Q 11 ⟨none, Op.store 3 (Operand.tmp 13) (Operand.tmp 11), 0, "", #[], none⟩ [10, 7, 9, 0, 1, 2, 3, 4, 5, 6, 7, 8, 9] := by
  refine Chn.link _ 3 rfl (prevOf 9 2 (by decide) rfl) (show 3 < 4 by decide) (Or.inr ⟨rfl, show 80 ≤ 91 by decide, fun _ _ => trivial⟩) (by decide) rfl ?_
  intro a w hn hB hW hd K hK
  have e11 : a.eval (.tmp 11) = .int .i64 (seqV xs 1 : Int) := hd 7 (by decide)
  have e13 : a.eval (.tmp 13) = .pointer (some ⟨g, 1, none⟩) := hd 10 (by decide)
  obtain ⟨⟨u, hu⟩, hf, hN⟩ := NW.store (Z := Z) (k := 2) (r := r) (g := g) (xs := xs) (cs := cs) (offs := [0, 1]) (w0 := w0) (j := 3) hW 1 1 rfl rfl (by omega) hrg hZg
  exact run_skip rfl (rc2_e11 r g xs _ w (fun _ => rfl) e11 e13 hu hf) (fun v => hK.out v _ hN (fun _ _ _ h => h) trivial)
theorem rc2_steps {Q : Exit → Act → World → Prop} (Z : Nat → Prop) (r g : Nat) (xs : List Nat) (cs : List Value) (w0 : World) (y2 : Value) (hb : ∀ x ∈ xs, x < 256) (hrg : r ≠ g) (hZg : ¬ Z g) (hcs : 2 ≤ cs.length) (hpan : ∀ a w, rc2B r g y2 a → Kp (fun b => b = r ∨ b = g) w0 w → seqN xs 2 = none → Q (.panic gaveUp) a w) : (rc2C Z r g xs cs w0 y2).Steps Tryz.prog Q 0 rc2T := ⟨rc2_s0 Z r g xs cs w0 y2 hb hrg hZg hcs hpan, rc2_s1 Z r g xs cs w0 y2 hb hrg hZg hcs hpan, rc2_s2 Z r g xs cs w0 y2 hb hrg hZg hcs hpan, rc2_s3 Z r g xs cs w0 y2 hb hrg hZg hcs hpan, rc2_s4 Z r g xs cs w0 y2 hb hrg hZg hcs hpan, rc2_s5 Z r g xs cs w0 y2 hb hrg hZg hcs hpan, rc2_s6 Z r g xs cs w0 y2 hb hrg hZg hcs hpan, rc2_s7 Z r g xs cs w0 y2 hb hrg hZg hcs hpan, rc2_s8 Z r g xs cs w0 y2 hb hrg hZg hcs hpan, rc2_s9 Z r g xs cs w0 y2 hb hrg hZg hcs hpan, rc2_s10 Z r g xs cs w0 y2 hb hrg hZg hcs hpan, rc2_s11 Z r g xs cs w0 y2 hb hrg hZg hcs hpan, trivial⟩
/-- the region: the numbers are read and laid into the struct, or it gives up -/
theorem rc2_region {ops : Array Oper} {rid : Nat} {Q : Exit → Act → World → Prop} {a : Act} {y : World} (Z : Nat → Prop) (r g : Nat) (xs : List Nat) (cs : List Value) (y2 : Value) (hT : ops.toList.map (fun o => (bare o, deps o)) = rc2T) (hn : a.tmps.size = 80) (hB : rc2B r g y2 a)
    (hb : ∀ x ∈ xs, x < 256) (hrg : r ≠ g) (hZg : ¬ Z g) (hcs : 2 ≤ cs.length) (hc : Cu Z y r xs) (hl : Lv y g cs)
    (hpan : ∀ a w, rc2B r g y2 a → Kp (fun b => b = r ∨ b = g) y w → seqN xs 2 = none → Q (.panic gaveUp) a w)
    (hend : ∀ q4 q5 q6 q7 q8 q9 q10 q11 q12 q13 w t, Kp (fun b => b = r ∨ b = g) y w → seqN xs 2 = some t → Cu Z w r t → Lv w g (setsN xs 0 [0, 1] cs) → Q .normal ((((((((((a.put (some 4) q4).put (some 5) q5).put (some 6) q6).put (some 7) q7).put (some 8) q8).put (some 9) q9).put (some 10) q10).put (some 11) q11).put (some 12) q12).put (some 13) q13) w) : (Code.region rid ops true).wp Tryz.prog Q a y := by
  have kd : Kp (fun b => b = r ∨ b = g) y y.drew := (Kp.refl _ _).drew
  have k0 : Kp (fun _ => False) y y.drew := (Kp.refl _ _).drew
  refine chain_region (rc2C Z r g xs cs y.drew y2) (by kernel_rfl) hT hn hB (fun k v a hk _ h => rc2B_put r g y2 k v a hk h) (fun i j h1 h2 => rc2D_inj i h1 j h2) (fun i j p h1 h2 => posOf_inj _ i j p) (posOf_at [3, 7, 9, 11] 12 (by decide) (by decide)) ?_ (fun m w w' hk h => NW.grow h hk) (fun i v w w' hk h => h) (rc2_steps Z r g xs cs y.drew y2 hb hrg hZg hcs (fun a w h1 h2 h3 => hpan a w h1 (kd.trans h2 (fun _ _ e => e)) h3)) ?_
  · exact ⟨Kp.refl _ _, xs, rfl, hc.keep k0 id (fun _ _ => id), hl.keep k0 id⟩
  · rintro a' w h1 h2 hfr ⟨h3, t, h4, h5, h6⟩ _
    rw [act_puts a' [4, 5, 6, 7, 8, 9, 10, 11, 12, 13] a (h1.trans hn.symm) (h2.2.2.2.trans hB.2.2.2.symm) (fun t ht => by
      rcases Nat.lt_or_ge t a'.tmps.size with hl | hl
      · exact hfr t (fun k hk e => ht (rc2D_mem k hk t e (Nat.lt_of_lt_of_eq hl h1)))
      · rw [eval_past a' t hl, eval_past a t (by have h9 : a.tmps.size = a'.tmps.size := hn.trans h1.symm; omega)])]
    exact hend (a'.eval (.tmp 4)) (a'.eval (.tmp 5)) (a'.eval (.tmp 6)) (a'.eval (.tmp 7)) (a'.eval (.tmp 8)) (a'.eval (.tmp 9)) (a'.eval (.tmp 10)) (a'.eval (.tmp 11)) (a'.eval (.tmp 12)) (a'.eval (.tmp 13)) w t (kd.trans h3 (fun _ _ e => e)) h4 h5 h6

def rc3V (r g : Nat) (xs : List Nat) : Nat → Value
  | 0 => .pointer (some ⟨r, 0, none⟩)
  | 1 => .pointer (some ⟨r, 0, none⟩)
  | 2 => .pointer (some ⟨r, 0, none⟩)
  | 3 => .int .i64 (seqV xs 0 : Int)
  | 4 => .pointer (some ⟨r, 0, none⟩)
  | 5 => .pointer (some ⟨r, 0, none⟩)
  | 6 => .pointer (some ⟨r, 0, none⟩)
  | 7 => .int .i64 (seqV xs 1 : Int)
  | 8 => .pointer (some ⟨r, 0, none⟩)
  | 9 => .pointer (some ⟨r, 0, none⟩)
  | 10 => .pointer (some ⟨r, 0, none⟩)
  | 11 => .int .i64 (seqV xs 2 : Int)
  | 12 => .pointer (some ⟨g, 3, none⟩)
  | 13 => undef
  | 14 => .pointer (some ⟨g, 4, none⟩)
  | 15 => undef
  | 16 => .pointer (some ⟨g, 5, none⟩)
  | 17 => undef
  | _ => undef
def rc3R (r g : Nat) (xs : List Nat) (i : Nat) (v : Value) (w : World) : Prop := match i with
  | 13 => True
  | 15 => True
  | 17 => True
  | i => v = rc3V r g xs i
def rc3D (k : Nat) : Nat := [14, 15, 16, 17, 18, 19, 20, 21, 22, 23, 24, 25, 26, 93, 27, 95, 28, 97].getD k 0
def rc3B (r g : Nat) (y2 : Value) (a : Act) : Prop := a.eval (.tmp 0) = .pointer (some ⟨r, 0, none⟩) ∧ a.eval (.tmp 2) = y2 ∧ a.eval (.tmp 3) = .pointer (some ⟨g, 0, none⟩) ∧ a.defers = []
theorem rc3D_ne : ∀ k, k < 18 → rc3D k ≠ 0 ∧ rc3D k ≠ 2 ∧ rc3D k ≠ 3 := by decide
theorem rc3B_put (r g : Nat) (y2 : Value) (k : Nat) (v : Value) (a : Act) (hk : k < 18) (h : rc3B r g y2 a) : rc3B r g y2 (a.put (some (rc3D k)) v) := by
  have hne := rc3D_ne k hk
  refine ⟨?_, ?_, ?_, h.2.2.2⟩
  · rw [← h.1]
    show (a.tmps.setIfInBounds (rc3D k) v).getD 0 undef = a.tmps.getD 0 undef
    simp [Array.getElem?_setIfInBounds_ne (hne.1)]
  · rw [← h.2.1]
    show (a.tmps.setIfInBounds (rc3D k) v).getD 2 undef = a.tmps.getD 2 undef
    simp [Array.getElem?_setIfInBounds_ne (hne.2.1)]
  · rw [← h.2.2.1]
    show (a.tmps.setIfInBounds (rc3D k) v).getD 3 undef = a.tmps.getD 3 undef
    simp [Array.getElem?_setIfInBounds_ne (hne.2.2)]
theorem rc3D_inj : ∀ i, i < 18 → ∀ j, j < 18 → rc3D i = rc3D j → i = j := by decide
def rc3T : List (Oper × List Nat) := [(⟨some 14, Op.move (Operand.tmp 0), 263, "", #[], none⟩, []), (⟨some 15, Op.nilCheck (Operand.tmp 14), 0, "", #[], none⟩, [0]), (⟨some 16, Op.fieldAddr 213 (Operand.tmp 15) 0, 0, "", #[], none⟩, [1]), (⟨some 17, Op.call { callee := Callee.value (Operand.func 154), args := #[Operand.tmp 16], argTypes := #[211] }, 3, "", #[], none⟩, [2]), (⟨some 18, Op.move (Operand.tmp 0), 263, "", #[], none⟩, []), (⟨some 19, Op.nilCheck (Operand.tmp 18), 0, "", #[], none⟩, [4]), (⟨some 20, Op.fieldAddr 213 (Operand.tmp 19) 0, 0, "", #[], none⟩, [5]), (⟨some 21, Op.call { callee := Callee.value (Operand.func 154), args := #[Operand.tmp 20], argTypes := #[211] }, 3, "", #[], none⟩, [6, 3]), (⟨some 22, Op.move (Operand.tmp 0), 263, "", #[], none⟩, []), (⟨some 23, Op.nilCheck (Operand.tmp 22), 0, "", #[], none⟩, [8]), (⟨some 24, Op.fieldAddr 213 (Operand.tmp 23) 0, 0, "", #[], none⟩, [9]), (⟨some 25, Op.call { callee := Callee.value (Operand.func 154), args := #[Operand.tmp 24], argTypes := #[211] }, 3, "", #[], none⟩, [10, 7]), (⟨some 26, Op.fieldAddr 31 (Operand.tmp 3) 3, 0, "", #[], none⟩, [0, 1, 2, 3]), (⟨none, Op.store 3 (Operand.tmp 26) (Operand.tmp 17), 0, "", #[], none⟩, [12, 3, 11, 0, 1, 2, 3]), (⟨some 27, Op.fieldAddr 31 (Operand.tmp 3) 4, 0, "", #[], none⟩, [0, 1, 2, 3, 4, 5, 6, 7, 12, 13]), (⟨none, Op.store 3 (Operand.tmp 27) (Operand.tmp 21), 0, "", #[], none⟩, [14, 7, 13, 0, 1, 2, 3, 4, 5, 6, 7, 12, 13]), (⟨some 28, Op.fieldAddr 31 (Operand.tmp 3) 5, 0, "", #[], none⟩, [0, 1, 2, 3, 4, 5, 6, 7, 8, 9, 10, 11, 12, 13, 14, 15]), (⟨none, Op.store 3 (Operand.tmp 28) (Operand.tmp 25), 0, "", #[], none⟩, [16, 11, 15, 0, 1, 2, 3, 4, 5, 6, 7, 8, 9, 10, 11, 12, 13, 14, 15])]
def rc3C (Z : Nat → Prop) (r g : Nat) (xs : List Nat) (cs : List Value) (w0 : World) (y2 : Value) : Chn := { n := 80, B := rc3B r g y2, R := rc3R r g xs, D := rc3D, pos := posOf [3, 7, 11, 13, 15, 17], N := 6, W := NW Z 3 r g xs cs [3, 4, 5] w0, T := rc3T }

theorem rc3D_mem : ∀ k, k < 18 → ∀ t, rc3D k = t → t < 80 → t ∈ [14, 15, 16, 17, 18, 19, 20, 21, 22, 23, 24, 25, 26, 27, 28] := by
  intro k hk t e ht
  subst e
  revert ht
  revert k
  decide
set_option maxRecDepth 100000 in
theorem rc3_e0 (r g : Nat) (xs : List Nat) (ev : Operand → Value) (z : World) (ec : ∀ c, ev (.const c) = c) (e0 : ev (.tmp 0) = .pointer (some ⟨r, 0, none⟩)) : (execOp ev ⟨some 14, Op.move (Operand.tmp 0), 263, "", #[], none⟩).run Tryz.prog z = .ok (.value (.pointer (some ⟨r, 0, none⟩))) z := by
  go_simp
set_option maxRecDepth 100000 in
theorem rc3_s0 {Q : Exit → Act → World → Prop} (Z : Nat → Prop) (r g : Nat) (xs : List Nat) (cs : List Value) (w0 : World) (y2 : Value) (hb : ∀ x ∈ xs, x < 256) (hrg : r ≠ g) (hZg : ¬ Z g) (hcs : 6 ≤ cs.length) (hpan : ∀ a w, rc3B r g y2 a → Kp (fun b => b = r ∨ b = g) w0 w → seqN xs 3 = none → Q (.panic gaveUp) a w) : (rc3C Z r g xs cs w0 y2).Step Tryz.prog Q 0 ⟨some 14, Op.move (Operand.tmp 0), 263, "", #[], none⟩ [] := by
  refine Chn.pure _ rfl rfl (show 14 < 80 by decide) (by decide) rfl ?_
  intro a w m hn hB hW hdm hup hd K hK
  have e0 : a.eval (.tmp 0) = .pointer (some ⟨r, 0, none⟩) := hB.1
  exact run_value (rc3_e0 r g xs _ w (fun _ => rfl) e0) (hK.out _ w (Kp.refl _ _) rfl)
set_option maxRecDepth 100000 in
theorem rc3_e1 (r g : Nat) (xs : List Nat) (ev : Operand → Value) (z : World) (ec : ∀ c, ev (.const c) = c) (e14 : ev (.tmp 14) = .pointer (some ⟨r, 0, none⟩)) : (execOp ev ⟨some 15, Op.nilCheck (Operand.tmp 14), 0, "", #[], none⟩).run Tryz.prog z = .ok (.value (.pointer (some ⟨r, 0, none⟩))) z := by
  go_simp
set_option maxRecDepth 100000 in
theorem rc3_s1 {Q : Exit → Act → World → Prop} (Z : Nat → Prop) (r g : Nat) (xs : List Nat) (cs : List Value) (w0 : World) (y2 : Value) (hb : ∀ x ∈ xs, x < 256) (hrg : r ≠ g) (hZg : ¬ Z g) (hcs : 6 ≤ cs.length) (hpan : ∀ a w, rc3B r g y2 a → Kp (fun b => b = r ∨ b = g) w0 w → seqN xs 3 = none → Q (.panic gaveUp) a w) : (rc3C Z r g xs cs w0 y2).Step Tryz.prog Q 1 ⟨some 15, Op.nilCheck (Operand.tmp 14), 0, "", #[], none⟩ [0] := by
  refine Chn.pure _ rfl rfl (show 15 < 80 by decide) (by decide) rfl ?_
  intro a w m hn hB hW hdm hup hd K hK
  have e14 : a.eval (.tmp 14) = .pointer (some ⟨r, 0, none⟩) := hd 0 (by decide)
  exact run_value (rc3_e1 r g xs _ w (fun _ => rfl) e14) (hK.out _ w (Kp.refl _ _) rfl)
set_option maxRecDepth 100000 in
theorem rc3_e2 (r g : Nat) (xs : List Nat) (ev : Operand → Value) (z : World) (ec : ∀ c, ev (.const c) = c) (e15 : ev (.tmp 15) = .pointer (some ⟨r, 0, none⟩)) : (execOp ev ⟨some 16, Op.fieldAddr 213 (Operand.tmp 15) 0, 0, "", #[], none⟩).run Tryz.prog z = .ok (.value (.pointer (some ⟨r, 0, none⟩))) z := by
  go_simp
set_option maxRecDepth 100000 in
theorem rc3_s2 {Q : Exit → Act → World → Prop} (Z : Nat → Prop) (r g : Nat) (xs : List Nat) (cs : List Value) (w0 : World) (y2 : Value) (hb : ∀ x ∈ xs, x < 256) (hrg : r ≠ g) (hZg : ¬ Z g) (hcs : 6 ≤ cs.length) (hpan : ∀ a w, rc3B r g y2 a → Kp (fun b => b = r ∨ b = g) w0 w → seqN xs 3 = none → Q (.panic gaveUp) a w) : (rc3C Z r g xs cs w0 y2).Step Tryz.prog Q 2 ⟨some 16, Op.fieldAddr 213 (Operand.tmp 15) 0, 0, "", #[], none⟩ [1] := by
  refine Chn.pure _ rfl rfl (show 16 < 80 by decide) (by decide) rfl ?_
  intro a w m hn hB hW hdm hup hd K hK
  have e15 : a.eval (.tmp 15) = .pointer (some ⟨r, 0, none⟩) := hd 1 (by decide)
  exact run_value (rc3_e2 r g xs _ w (fun _ => rfl) e15) (hK.out _ w (Kp.refl _ _) rfl)
set_option maxRecDepth 100000 in
theorem rc3_e3 (r g : Nat) (xs : List Nat) (ev : Operand → Value) (z : World) (ec : ∀ c, ev (.const c) = c) (ef : ∀ f, ev (.func f) = .func (.func f) #[] #[]) (e16 : ev (.tmp 16) = .pointer (some ⟨r, 0, none⟩)) : (execOp ev ⟨some 17, Op.call { callee := Callee.value (Operand.func 154), args := #[Operand.tmp 16], argTypes := #[211] }, 3, "", #[], none⟩).run Tryz.prog z = .ok (.enter 154 #[.pointer (some ⟨r, 0, none⟩)]) z := enter_run _ (ef _) (by simp only [List.map_toArray, List.map_cons, List.map_nil, ec, ef, e16]) (fun _ => by rfl)
set_option maxRecDepth 100000 in
theorem rc3_s3 {Q : Exit → Act → World → Prop} (Z : Nat → Prop) (r g : Nat) (xs : List Nat) (cs : List Value) (w0 : World) (y2 : Value) (hb : ∀ x ∈ xs, x < 256) (hrg : r ≠ g) (hZg : ¬ Z g) (hcs : 6 ≤ cs.length) (hpan : ∀ a w, rc3B r g y2 a → Kp (fun b => b = r ∨ b = g) w0 w → seqN xs 3 = none → Q (.panic gaveUp) a w) : (rc3C Z r g xs cs w0 y2).Step Tryz.prog Q 3 ⟨some 17, Op.call { callee := Callee.value (Operand.func 154), args := #[Operand.tmp 16], argTypes := #[211] }, 3, "", #[], none⟩ [2] := by
  refine Chn.link _ 0 rfl (fun q hq => by omega) (show 0 < 6 by decide) (Or.inl ⟨rfl, show 17 < 80 by decide⟩) (by decide) rfl ?_
  intro a w hn hB hW hd K hK
  have e16 : a.eval (.tmp 16) = .pointer (some ⟨r, 0, none⟩) := hd 2 (by decide)
  refine wp_enterP (rc3_e3 r g xs _ w (fun _ => rfl) (fun _ => rfl) e16) (NW.call (Z := Z) (g := g) (cs := cs) (offs := [3, 4, 5]) (w0 := w0) (k := 3) (j := 0) hW (by decide) hb hrg hZg) ?_
  rintro e9 w9 (⟨rfl, h9⟩ | ⟨rfl, h9, h8⟩)
  · exact Or.inl ⟨_, rfl, hK.out _ _ h9 (fun _ _ _ h => h) rfl⟩
  · exact Or.inr ⟨_, rfl, hpan a w9 hB h9 (seqN_none h8 (by decide))⟩
set_option maxRecDepth 100000 in
theorem rc3_e4 (r g : Nat) (xs : List Nat) (ev : Operand → Value) (z : World) (ec : ∀ c, ev (.const c) = c) (e0 : ev (.tmp 0) = .pointer (some ⟨r, 0, none⟩)) : (execOp ev ⟨some 18, Op.move (Operand.tmp 0), 263, "", #[], none⟩).run Tryz.prog z = .ok (.value (.pointer (some ⟨r, 0, none⟩))) z := by
  go_simp
set_option maxRecDepth 100000 in
theorem rc3_s4 {Q : Exit → Act → World → Prop} (Z : Nat → Prop) (r g : Nat) (xs : List Nat) (cs : List Value) (w0 : World) (y2 : Value) (hb : ∀ x ∈ xs, x < 256) (hrg : r ≠ g) (hZg : ¬ Z g) (hcs : 6 ≤ cs.length) (hpan : ∀ a w, rc3B r g y2 a → Kp (fun b => b = r ∨ b = g) w0 w → seqN xs 3 = none → Q (.panic gaveUp) a w) : (rc3C Z r g xs cs w0 y2).Step Tryz.prog Q 4 ⟨some 18, Op.move (Operand.tmp 0), 263, "", #[], none⟩ [] := by
  refine Chn.pure _ rfl rfl (show 18 < 80 by decide) (by decide) rfl ?_
  intro a w m hn hB hW hdm hup hd K hK
  have e0 : a.eval (.tmp 0) = .pointer (some ⟨r, 0, none⟩) := hB.1
  exact run_value (rc3_e4 r g xs _ w (fun _ => rfl) e0) (hK.out _ w (Kp.refl _ _) rfl)
set_option maxRecDepth 100000 in
theorem rc3_e5 (r g : Nat) (xs : List Nat) (ev : Operand → Value) (z : World) (ec : ∀ c, ev (.const c) = c) (e18 : ev (.tmp 18) = .pointer (some ⟨r, 0, none⟩)) : (execOp ev ⟨some 19, Op.nilCheck (Operand.tmp 18), 0, "", #[], none⟩).run Tryz.prog z = .ok (.value (.pointer (some ⟨r, 0, none⟩))) z := by
  go_simp
set_option maxRecDepth 100000 in
theorem rc3_s5 {Q : Exit → Act → World → Prop} (Z : Nat → Prop) (r g : Nat) (xs : List Nat) (cs : List Value) (w0 : World) (y2 : Value) (hb : ∀ x ∈ xs, x < 256) (hrg : r ≠ g) (hZg : ¬ Z g) (hcs : 6 ≤ cs.length) (hpan : ∀ a w, rc3B r g y2 a → Kp (fun b => b = r ∨ b = g) w0 w → seqN xs 3 = none → Q (.panic gaveUp) a w) : (rc3C Z r g xs cs w0 y2).Step Tryz.prog Q 5 ⟨some 19, Op.nilCheck (Operand.tmp 18), 0, "", #[], none⟩ [4] := by
  refine Chn.pure _ rfl rfl (show 19 < 80 by decide) (by decide) rfl ?_
  intro a w m hn hB hW hdm hup hd K hK
  have e18 : a.eval (.tmp 18) = .pointer (some ⟨r, 0, none⟩) := hd 4 (by decide)
  exact run_value (rc3_e5 r g xs _ w (fun _ => rfl) e18) (hK.out _ w (Kp.refl _ _) rfl)
set_option maxRecDepth 100000 in
theorem rc3_e6 (r g : Nat) (xs : List Nat) (ev : Operand → Value) (z : World) (ec : ∀ c, ev (.const c) = c) (e19 : ev (.tmp 19) = .pointer (some ⟨r, 0, none⟩)) : (execOp ev ⟨some 20, Op.fieldAddr 213 (Operand.tmp 19) 0, 0, "", #[], none⟩).run Tryz.prog z = .ok (.value (.pointer (some ⟨r, 0, none⟩))) z := by
  go_simp
set_option maxRecDepth 100000 in
theorem rc3_s6 {Q : Exit → Act → World → Prop} (Z : Nat → Prop) (r g : Nat) (xs : List Nat) (cs : List Value) (w0 : World) (y2 : Value) (hb : ∀ x ∈ xs, x < 256) (hrg : r ≠ g) (hZg : ¬ Z g) (hcs : 6 ≤ cs.length) (hpan : ∀ a w, rc3B r g y2 a → Kp (fun b => b = r ∨ b = g) w0 w → seqN xs 3 = none → Q (.panic gaveUp) a w) : (rc3C Z r g xs cs w0 y2).Step Tryz.prog Q 6 ⟨some 20, Op.fieldAddr 213 (Operand.tmp 19) 0, 0, "", #[], none⟩ [5] := by
  refine Chn.pure _ rfl rfl (show 20 < 80 by decide) (by decide) rfl ?_
  intro a w m hn hB hW hdm hup hd K hK
  have e19 : a.eval (.tmp 19) = .pointer (some ⟨r, 0, none⟩) := hd 5 (by decide)
  exact run_value (rc3_e6 r g xs _ w (fun _ => rfl) e19) (hK.out _ w (Kp.refl _ _) rfl)
set_option maxRecDepth 100000 in
theorem rc3_e7 (r g : Nat) (xs : List Nat) (ev : Operand → Value) (z : World) (ec : ∀ c, ev (.const c) = c) (ef : ∀ f, ev (.func f) = .func (.func f) #[] #[]) (e20 : ev (.tmp 20) = .pointer (some ⟨r, 0, none⟩)) : (execOp ev ⟨some 21, Op.call { callee := Callee.value (Operand.func 154), args := #[Operand.tmp 20], argTypes := #[211] }, 3, "", #[], none⟩).run Tryz.prog z = .ok (.enter 154 #[.pointer (some ⟨r, 0, none⟩)]) z := enter_run _ (ef _) (by simp only [List.map_toArray, List.map_cons, List.map_nil, ec, ef, e20]) (fun _ => by rfl)
set_option maxRecDepth 100000 in
theorem rc3_s7 {Q : Exit → Act → World → Prop} (Z : Nat → Prop) (r g : Nat) (xs : List Nat) (cs : List Value) (w0 : World) (y2 : Value) (hb : ∀ x ∈ xs, x < 256) (hrg : r ≠ g) (hZg : ¬ Z g) (hcs : 6 ≤ cs.length) (hpan : ∀ a w, rc3B r g y2 a → Kp (fun b => b = r ∨ b = g) w0 w → seqN xs 3 = none → Q (.panic gaveUp) a w) : (rc3C Z r g xs cs w0 y2).Step Tryz.prog Q 7 ⟨some 21, Op.call { callee := Callee.value (Operand.func 154), args := #[Operand.tmp 20], argTypes := #[211] }, 3, "", #[], none⟩ [6, 3] := by
  refine Chn.link _ 1 rfl (prevOf 3 0 (by decide) rfl) (show 1 < 6 by decide) (Or.inl ⟨rfl, show 21 < 80 by decide⟩) (by decide) rfl ?_
  intro a w hn hB hW hd K hK
  have e20 : a.eval (.tmp 20) = .pointer (some ⟨r, 0, none⟩) := hd 6 (by decide)
  refine wp_enterP (rc3_e7 r g xs _ w (fun _ => rfl) (fun _ => rfl) e20) (NW.call (Z := Z) (g := g) (cs := cs) (offs := [3, 4, 5]) (w0 := w0) (k := 3) (j := 1) hW (by decide) hb hrg hZg) ?_
  rintro e9 w9 (⟨rfl, h9⟩ | ⟨rfl, h9, h8⟩)
  · exact Or.inl ⟨_, rfl, hK.out _ _ h9 (fun _ _ _ h => h) rfl⟩
  · exact Or.inr ⟨_, rfl, hpan a w9 hB h9 (seqN_none h8 (by decide))⟩
set_option maxRecDepth 100000 in
theorem rc3_e8 (r g : Nat) (xs : List Nat) (ev : Operand → Value) (z : World) (ec : ∀ c, ev (.const c) = c) (e0 : ev (.tmp 0) = .pointer (some ⟨r, 0, none⟩)) : (execOp ev ⟨some 22, Op.move (Operand.tmp 0), 263, "", #[], none⟩).run Tryz.prog z = .ok (.value (.pointer (some ⟨r, 0, none⟩))) z := by
  go_simp
set_option maxRecDepth 100000 in
theorem rc3_s8 {Q : Exit → Act → World → Prop} (Z : Nat → Prop) (r g : Nat) (xs : List Nat) (cs : List Value) (w0 : World) (y2 : Value) (hb : ∀ x ∈ xs, x < 256) (hrg : r ≠ g) (hZg : ¬ Z g) (hcs : 6 ≤ cs.length) (hpan : ∀ a w, rc3B r g y2 a → Kp (fun b => b = r ∨ b = g) w0 w → seqN xs 3 = none → Q (.panic gaveUp) a w) : (rc3C Z r g xs cs w0 y2).Step Tryz.prog Q 8 ⟨some 22, Op.move (Operand.tmp 0), 263, "", #[], none⟩ [] := by
  refine Chn.pure _ rfl rfl (show 22 < 80 by decide) (by decide) rfl ?_
  intro a w m hn hB hW hdm hup hd K hK
  have e0 : a.eval (.tmp 0) = .pointer (some ⟨r, 0, none⟩) := hB.1
  exact run_value (rc3_e8 r g xs _ w (fun _ => rfl) e0) (hK.out _ w (Kp.refl _ _) rfl)
set_option maxRecDepth 100000 in
theorem rc3_e9 (r g : Nat) (xs : List Nat) (ev : Operand → Value) (z : World) (ec : ∀ c, ev (.const c) = c) (e22 : ev (.tmp 22) = .pointer (some ⟨r, 0, none⟩)) : (execOp ev ⟨some 23, Op.nilCheck (Operand.tmp 22), 0, "", #[], none⟩).run Tryz.prog z = .ok (.value (.pointer (some ⟨r, 0, none⟩))) z := by
  go_simp
set_option maxRecDepth 100000 in
theorem rc3_s9 {Q : Exit → Act → World → Prop} (Z : Nat → Prop) (r g : Nat) (xs : List Nat) (cs : List Value) (w0 : World) (y2 : Value) (hb : ∀ x ∈ xs, x < 256) (hrg : r ≠ g) (hZg : ¬ Z g) (hcs : 6 ≤ cs.length) (hpan : ∀ a w, rc3B r g y2 a → Kp (fun b => b = r ∨ b = g) w0 w → seqN xs 3 = none → Q (.panic gaveUp) a w) : (rc3C Z r g xs cs w0 y2).Step Tryz.prog Q 9 ⟨some 23, Op.nilCheck (Operand.tmp 22), 0, "", #[], none⟩ [8] := by
  refine Chn.pure _ rfl rfl (show 23 < 80 by decide) (by decide) rfl ?_
  intro a w m hn hB hW hdm hup hd K hK
  have e22 : a.eval (.tmp 22) = .pointer (some ⟨r, 0, none⟩) := hd 8 (by decide)
  exact run_value (rc3_e9 r g xs _ w (fun _ => rfl) e22) (hK.out _ w (Kp.refl _ _) rfl)
set_option maxRecDepth 100000 in
theorem rc3_e10 (r g : Nat) (xs : List Nat) (ev : Operand → Value) (z : World) (ec : ∀ c, ev (.const c) = c) (e23 : ev (.tmp 23) = .pointer (some ⟨r, 0, none⟩)) : (execOp ev ⟨some 24, Op.fieldAddr 213 (Operand.tmp 23) 0, 0, "", #[], none⟩).run Tryz.prog z = .ok (.value (.pointer (some ⟨r, 0, none⟩))) z := by
  go_simp
set_option maxRecDepth 100000 in
theorem rc3_s10 {Q : Exit → Act → World → Prop} (Z : Nat → Prop) (r g : Nat) (xs : List Nat) (cs : List Value) (w0 : World) (y2 : Value) (hb : ∀ x ∈ xs, x < 256) (hrg : r ≠ g) (hZg : ¬ Z g) (hcs : 6 ≤ cs.length) (hpan : ∀ a w, rc3B r g y2 a → Kp (fun b => b = r ∨ b = g) w0 w → seqN xs 3 = none → Q (.panic gaveUp) a w) : (rc3C Z r g xs cs w0 y2).Step Tryz.prog Q 10 ⟨some 24, Op.fieldAddr 213 (Operand.tmp 23) 0, 0, "", #[], none⟩ [9] := by
  refine Chn.pure _ rfl rfl (show 24 < 80 by decide) (by decide) rfl ?_
  intro a w m hn hB hW hdm hup hd K hK
  have e23 : a.eval (.tmp 23) = .pointer (some ⟨r, 0, none⟩) := hd 9 (by decide)
  exact run_value (rc3_e10 r g xs _ w (fun _ => rfl) e23) (hK.out _ w (Kp.refl _ _) rfl)
set_option maxRecDepth 100000 in
theorem rc3_e11 (r g : Nat) (xs : List Nat) (ev : Operand → Value) (z : World) (ec : ∀ c, ev (.const c) = c) (ef : ∀ f, ev (.func f) = .func (.func f) #[] #[]) (e24 : ev (.tmp 24) = .pointer (some ⟨r, 0, none⟩)) : (execOp ev ⟨some 25, Op.call { callee := Callee.value (Operand.func 154), args := #[Operand.tmp 24], argTypes := #[211] }, 3, "", #[], none⟩).run Tryz.prog z = .ok (.enter 154 #[.pointer (some ⟨r, 0, none⟩)]) z := enter_run _ (ef _) (by simp only [List.map_toArray, List.map_cons, List.map_nil, ec, ef, e24]) (fun _ => by rfl)
set_option maxRecDepth 100000 in
theorem rc3_s11 {Q : Exit → Act → World → Prop} (Z : Nat → Prop) (r g : Nat) (xs : List Nat) (cs : List Value) (w0 : World) (y2 : Value) (hb : ∀ x ∈ xs, x < 256) (hrg : r ≠ g) (hZg : ¬ Z g) (hcs : 6 ≤ cs.length) (hpan : ∀ a w, rc3B r g y2 a → Kp (fun b => b = r ∨ b = g) w0 w → seqN xs 3 = none → Q (.panic gaveUp) a w) : (rc3C Z r g xs cs w0 y2).Step Tryz.prog Q 11 ⟨some 25, Op.call { callee := Callee.value (Operand.func 154), args := #[Operand.tmp 24], argTypes := #[211] }, 3, "", #[], none⟩ [10, 7] := by
  refine Chn.link _ 2 rfl (prevOf 7 1 (by decide) rfl) (show 2 < 6 by decide) (Or.inl ⟨rfl, show 25 < 80 by decide⟩) (by decide) rfl ?_
  intro a w hn hB hW hd K hK
  have e24 : a.eval (.tmp 24) = .pointer (some ⟨r, 0, none⟩) := hd 10 (by decide)
  refine wp_enterP (rc3_e11 r g xs _ w (fun _ => rfl) (fun _ => rfl) e24) (NW.call (Z := Z) (g := g) (cs := cs) (offs := [3, 4, 5]) (w0 := w0) (k := 3) (j := 2) hW (by decide) hb hrg hZg) ?_
  rintro e9 w9 (⟨rfl, h9⟩ | ⟨rfl, h9, h8⟩)
  · exact Or.inl ⟨_, rfl, hK.out _ _ h9 (fun _ _ _ h => h) rfl⟩
  · exact Or.inr ⟨_, rfl, hpan a w9 hB h9 (seqN_none h8 (by decide))⟩
set_option maxRecDepth 100000 in
theorem rc3_e12 (r g : Nat) (xs : List Nat) (ev : Operand → Value) (z : World) (ec : ∀ c, ev (.const c) = c) (e3 : ev (.tmp 3) = .pointer (some ⟨g, 0, none⟩)) : (execOp ev ⟨some 26, Op.fieldAddr 31 (Operand.tmp 3) 3, 0, "", #[], none⟩).run Tryz.prog z = .ok (.value (.pointer (some ⟨g, 3, none⟩))) z := by
  go_simp
set_option maxRecDepth 100000 in
theorem rc3_s12 {Q : Exit → Act → World → Prop} (Z : Nat → Prop) (r g : Nat) (xs : List Nat) (cs : List Value) (w0 : World) (y2 : Value) (hb : ∀ x ∈ xs, x < 256) (hrg : r ≠ g) (hZg : ¬ Z g) (hcs : 6 ≤ cs.length) (hpan : ∀ a w, rc3B r g y2 a → Kp (fun b => b = r ∨ b = g) w0 w → seqN xs 3 = none → Q (.panic gaveUp) a w) : (rc3C Z r g xs cs w0 y2).Step Tryz.prog Q 12 ⟨some 26, Op.fieldAddr 31 (Operand.tmp 3) 3, 0, "", #[], none⟩ [0, 1, 2, 3] := by
  refine Chn.pure _ rfl rfl (show 26 < 80 by decide) (by decide) rfl ?_
  intro a w m hn hB hW hdm hup hd K hK
  have e3 : a.eval (.tmp 3) = .pointer (some ⟨g, 0, none⟩) := hB.2.2.1
  exact run_value (rc3_e12 r g xs _ w (fun _ => rfl) e3) (hK.out _ w (Kp.refl _ _) rfl)
set_option maxRecDepth 100000 in
theorem rc3_e13 (r g : Nat) (xs : List Nat) (ev : Operand → Value) (z : World) (ec : ∀ c, ev (.const c) = c) (e17 : ev (.tmp 17) = .int .i64 (seqV xs 0 : Int)) (e26 : ev (.tmp 26) = .pointer (some ⟨g, 3, none⟩)) {u : Value} (hu : z.cell? ⟨g, 3, none⟩ = some u) (hf : z.frozen? ⟨g, 3, none⟩ = false) : (execOp ev ⟨none, Op.store 3 (Operand.tmp 26) (Operand.tmp 17), 0, "", #[], none⟩).run Tryz.prog z = .ok .skip (z.setCell ⟨g, 3, none⟩ (.int .i64 (seqV xs 0 : Int))) := by
  go_simp
set_option maxRecDepth 100000 in
theorem rc3_s13 {Q : Exit → Act → World → Prop} (Z : Nat → Prop) (r g : Nat) (xs : List Nat) (cs : List Value) (w0 : World) (y2 : Value) (hb : ∀ x ∈ xs, x < 256) (hrg : r ≠ g) (hZg : ¬ Z g) (hcs : 6 ≤ cs.length) (hpan : ∀ a w, rc3B r g y2 a → Kp (fun b => b = r ∨ b = g) w0 w → seqN xs 3 = none → Q (.panic gaveUp) a w) : (rc3C Z r g xs cs w0 y2).Step Tryz.prog Q 13 ⟨none, Op.store 3 (Operand.tmp 26) (Operand.tmp 17), 0, "", #[], none⟩ [12, 3, 11, 0, 1, 2, 3] := by
  refine Chn.link _ 3 rfl (prevOf 11 2 (by decide) rfl) (show 3 < 6 by decide) (Or.inr ⟨rfl, show 80 ≤ 93 by decide, fun _ _ => trivial⟩) (by decide) rfl ?_
  intro a w hn hB hW hd K hK
  have e17 : a.eval (.tmp 17) = .int .i64 (seqV xs 0 : Int) := hd 3 (by decide)
  have e26 : a.eval (.tmp 26) = .pointer (some ⟨g, 3, none⟩) := hd 12 (by decide)
  obtain ⟨⟨u, hu⟩, hf, hN⟩ := NW.store (Z := Z) (k := 3) (r := r) (g := g) (xs := xs) (cs := cs) (offs := [3, 4, 5]) (w0 := w0) (j := 3) hW 0 3 rfl rfl (by omega) hrg hZg
  exact run_skip rfl (rc3_e13 r g xs _ w (fun _ => rfl) e17 e26 hu hf) (fun v => hK.out v _ hN (fun _ _ _ h => h) trivial)
set_option maxRecDepth 100000 in
theorem rc3_e14 (r g : Nat) (xs : List Nat) (ev : Operand → Value) (z : World) (ec : ∀ c, ev (.const c) = c) (e3 : ev (.tmp 3) = .pointer (some ⟨g, 0, none⟩)) : (execOp ev ⟨some 27, Op.fieldAddr 31 (Operand.tmp 3) 4, 0, "", #[], none⟩).run Tryz.prog z = .ok (.value (.pointer (some ⟨g, 4, none⟩))) z := by
  go_simp
set_option maxRecDepth 100000 in
theorem rc3_s14 {Q : Exit → Act → World → Prop} (Z : Nat → Prop) (r g : Nat) (xs : List Nat) (cs : List Value) (w0 : World) (y2 : Value) (hb : ∀ x ∈ xs, x < 256) (hrg : r ≠ g) (hZg : ¬ Z g) (hcs : 6 ≤ cs.length) (hpan : ∀ a w, rc3B r g y2 a → Kp (fun b => b = r ∨ b = g) w0 w → seqN xs 3 = none → Q (.panic gaveUp) a w) : (rc3C Z r g xs cs w0 y2).Step Tryz.prog Q 14 ⟨some 27, Op.fieldAddr 31 (Operand.tmp 3) 4, 0, "", #[], none⟩ [0, 1, 2, 3, 4, 5, 6, 7, 12, 13] := by
  refine Chn.pure _ rfl rfl (show 27 < 80 by decide) (by decide) rfl ?_
  intro a w m hn hB hW hdm hup hd K hK
  have e3 : a.eval (.tmp 3) = .pointer (some ⟨g, 0, none⟩) := hB.2.2.1
  exact run_value (rc3_e14 r g xs _ w (fun _ => rfl) e3) (hK.out _ w (Kp.refl _ _) rfl)
set_option maxRecDepth 100000 in
theorem rc3_e15 (r g : Nat) (xs : List Nat) (ev : Operand → Value) (z : World) (ec : ∀ c, ev (.const c) = c) (e21 : ev (.tmp 21) = .int .i64 (seqV xs 1 : Int)) (e27 : ev (.tmp 27) = .pointer (some ⟨g, 4, none⟩)) {u : Value} (hu : z.cell? ⟨g, 4, none⟩ = some u) (hf : z.frozen? ⟨g, 4, none⟩ = false) : (execOp ev ⟨none, Op.store 3 (Operand.tmp 27) (Operand.tmp 21), 0, "", #[], none⟩).run Tryz.prog z = .ok .skip (z.setCell ⟨g, 4, none⟩ (.int .i64 (seqV xs 1 : Int))) := by
  go_simp
set_option maxRecDepth 100000 in
theorem rc3_s15 {Q : Exit → Act → World → Prop} (Z : Nat → Prop) (r g : Nat) (xs : List Nat) (cs : List Value) (w0 : World) (y2 : Value) (hb : ∀ x ∈ xs, x < 256) (hrg : r ≠ g) (hZg : ¬ Z g) (hcs : 6 ≤ cs.length) (hpan : ∀ a w, rc3B r g y2 a → Kp (fun b => b = r ∨ b = g) w0 w → seqN xs 3 = none → Q (.panic gaveUp) a w) : (rc3C Z r g xs cs w0 y2).Step Tryz.prog Q 15 ⟨none, Op.store 3 (Operand.tmp 27) (Operand.tmp 21), 0, "", #[], none⟩ [14, 7, 13, 0, 1, 2, 3, 4, 5, 6, 7, 12, 13] := by
  refine Chn.link _ 4 rfl (prevOf 13 3 (by decide) rfl) (show 4 < 6 by decide) (Or.inr ⟨rfl, show 80 ≤ 95 by decide, fun _ _ => trivial⟩) (by decide) rfl ?_
  intro a w hn hB hW hd K hK
  have e21 : a.eval (.tmp 21) = .int .i64 (seqV xs 1 : Int) := hd 7 (by decide)
  have e27 : a.eval (.tmp 27) = .pointer (some ⟨g, 4, none⟩) := hd 14 (by decide)
  obtain ⟨⟨u, hu⟩, hf, hN⟩ := NW.store (Z := Z) (k := 3) (r := r) (g := g) (xs := xs) (cs := cs) (offs := [3, 4, 5]) (w0 := w0) (j := 4) hW 1 4 rfl rfl (by omega) hrg hZg
  exact run_skip rfl (rc3_e15 r g xs _ w (fun _ => rfl) e21 e27 hu hf) (fun v => hK.out v _ hN (fun _ _ _ h => h) trivial)
set_option maxRecDepth 100000 in
theorem rc3_e16 (r g : Nat) (xs : List Nat) (ev : Operand → Value) (z : World) (ec : ∀ c, ev (.const c) = c) (e3 : ev (.tmp 3) = .pointer (some ⟨g, 0, none⟩)) : (execOp ev ⟨some 28, Op.fieldAddr 31 (Operand.tmp 3) 5, 0, "", #[], none⟩).run Tryz.prog z = .ok (.value (.pointer (some ⟨g, 5, none⟩))) z := by
  go_simp
set_option maxRecDepth 100000 in
theorem rc3_s16 {Q : Exit → Act → World → Prop} (Z : Nat → Prop) (r g : Nat) (xs : List Nat) (cs : List Value) (w0 : World) (y2 : Value) (hb : ∀ x ∈ xs, x < 256) (hrg : r ≠ g) (hZg : ¬ Z g) (hcs : 6 ≤ cs.length) (hpan : ∀ a w, rc3B r g y2 a → Kp (fun b => b = r ∨ b = g) w0 w → seqN xs 3 = none → Q (.panic gaveUp) a w) : (rc3C Z r g xs cs w0 y2).Step Tryz.prog Q 16 ⟨some 28, Op.fieldAddr 31 (Operand.tmp 3) 5, 0, "", #[], none⟩ [0, 1, 2, 3, 4, 5, 6, 7, 8, 9, 10, 11, 12, 13, 14, 15] := by
  refine Chn.pure _ rfl rfl (show 28 < 80 by decide) (by decide) rfl ?_
  intro a w m hn hB hW hdm hup hd K hK
  have e3 : a.eval (.tmp 3) = .pointer (some ⟨g, 0, none⟩) := hB.2.2.1
  exact run_value (rc3_e16 r g xs _ w (fun _ => rfl) e3) (hK.out _ w (Kp.refl _ _) rfl)
set_option maxRecDepth 100000 in
theorem rc3_e17 (r g : Nat) (xs : List Nat) (ev : Operand → Value) (z : World) (ec : ∀ c, ev (.const c) = c) (e25 : ev (.tmp 25) = .int .i64 (seqV xs 2 : Int)) (e28 : ev (.tmp 28) = .pointer (some ⟨g, 5, none⟩)) {u : Value} (hu : z.cell? ⟨g, 5, none⟩ = some u) (hf : z.frozen? ⟨g, 5, none⟩ = false) : (execOp ev ⟨none, Op.store 3 (Operand.tmp 28) (Operand.tmp 25), 0, "", #[], none⟩).run Tryz.prog z = .ok .skip (z.setCell ⟨g, 5, none⟩ (.int .i64 (seqV xs 2 : Int))) := by
  go_simp
set_option maxRecDepth 100000 in
theorem rc3_s17 {Q : Exit → Act → World → Prop} (Z : Nat → Prop) (r g : Nat) (xs : List Nat) (cs : List Value) (w0 : World) (y2 : Value) (hb : ∀ x ∈ xs, x < 256) (hrg : r ≠ g) (hZg : ¬ Z g) (hcs : 6 ≤ cs.length) (hpan : ∀ a w, rc3B r g y2 a → Kp (fun b => b = r ∨ b = g) w0 w → seqN xs 3 = none → Q (.panic gaveUp) a w) : (rc3C Z r g xs cs w0 y2).Step Tryz.prog Q 17 ⟨none, Op.store 3 (Operand.tmp 28) (Operand.tmp 25), 0, "", #[], none⟩ [16, 11, 15, 0, 1, 2, 3, 4, 5, 6, 7, 8, 9, 10, 11, 12, 13, 14, 15] := by
  refine Chn.link _ 5 rfl (prevOf 15 4 (by decide) rfl) (show 5 < 6 by decide) (Or.inr ⟨rfl, show 80 ≤ 97 by decide, fun _ _ => trivial⟩) (by decide) rfl ?_
  intro a w hn hB hW hd K hK
  have e25 : a.eval (.tmp 25) = .int .i64 (seqV xs 2 : Int) := hd 11 (by decide)
  have e28 : a.eval (.tmp 28) = .pointer (some ⟨g, 5, none⟩) := hd 16 (by decide)
  obtain ⟨⟨u, hu⟩, hf, hN⟩ := NW.store (Z := Z) (k := 3) (r := r) (g := g) (xs := xs) (cs := cs) (offs := [3, 4, 5]) (w0 := w0) (j := 5) hW 2 5 rfl rfl (by omega) hrg hZg
  exact run_skip rfl (rc3_e17 r g xs _ w (fun _ => rfl) e25 e28 hu hf) (fun v => hK.out v _ hN (fun _ _ _ h => h) trivial)
theorem rc3_steps {Q : Exit → Act → World → Prop} (Z : Nat → Prop) (r g : Nat) (xs : List Nat) (cs : List Value) (w0 : World) (y2 : Value) (hb : ∀ x ∈ xs, x < 256) (hrg : r ≠ g) (hZg : ¬ Z g) (hcs : 6 ≤ cs.length) (hpan : ∀ a w, rc3B r g y2 a → Kp (fun b => b = r ∨ b = g) w0 w → seqN xs 3 = none → Q (.panic gaveUp) a w) : (rc3C Z r g xs cs w0 y2).Steps Tryz.prog Q 0 rc3T := ⟨rc3_s0 Z r g xs cs w0 y2 hb hrg hZg hcs hpan, rc3_s1 Z r g xs cs w0 y2 hb hrg hZg hcs hpan, rc3_s2 Z r g xs cs w0 y2 hb hrg hZg hcs hpan, rc3_s3 Z r g xs cs w0 y2 hb hrg hZg hcs hpan, rc3_s4 Z r g xs cs w0 y2 hb hrg hZg hcs hpan, rc3_s5 Z r g xs cs w0 y2 hb hrg hZg hcs hpan, rc3_s6 Z r g xs cs w0 y2 hb hrg hZg hcs hpan, rc3_s7 Z r g xs cs w0 y2 hb hrg hZg hcs hpan, rc3_s8 Z r g xs cs w0 y2 hb hrg hZg hcs hpan, rc3_s9 Z r g xs cs w0 y2 hb hrg hZg hcs hpan, rc3_s10 Z r g xs cs w0 y2 hb hrg hZg hcs hpan, rc3_s11 Z r g xs cs w0 y2 hb hrg hZg hcs hpan, rc3_s12 Z r g xs cs w0 y2 hb hrg hZg hcs hpan, rc3_s13 Z r g xs cs w0 y2 hb hrg hZg hcs hpan, rc3_s14 Z r g xs cs w0 y2 hb hrg hZg hcs hpan, rc3_s15 Z r g xs cs w0 y2 hb hrg hZg hcs hpan, rc3_s16 Z r g xs cs w0 y2 hb hrg hZg hcs hpan, rc3_s17 Z r g xs cs w0 y2 hb hrg hZg hcs hpan, trivial⟩
/-- the region: the numbers are read and laid into the struct, or it gives up -/
theorem rc3_region {ops : Array Oper} {rid : Nat} {Q : Exit → Act → World → Prop} {a : Act} {y : World} (Z : Nat → Prop) (r g : Nat) (xs : List Nat) (cs : List Value) (y2 : Value) (hT : ops.toList.map (fun o => (bare o, deps o)) = rc3T) (hn : a.tmps.size = 80) (hB : rc3B r g y2 a)
    (hb : ∀ x ∈ xs, x < 256) (hrg : r ≠ g) (hZg : ¬ Z g) (hcs : 6 ≤ cs.length) (hc : Cu Z y r xs) (hl : Lv y g cs)
    (hpan : ∀ a w, rc3B r g y2 a → Kp (fun b => b = r ∨ b = g) y w → seqN xs 3 = none → Q (.panic gaveUp) a w)
    (hend : ∀ q14 q15 q16 q17 q18 q19 q20 q21 q22 q23 q24 q25 q26 q27 q28 w t, Kp (fun b => b = r ∨ b = g) y w → seqN xs 3 = some t → Cu Z w r t → Lv w g (setsN xs 0 [3, 4, 5] cs) → Q .normal (((((((((((((((a.put (some 14) q14).put (some 15) q15).put (some 16) q16).put (some 17) q17).put (some 18) q18).put (some 19) q19).put (some 20) q20).put (some 21) q21).put (some 22) q22).put (some 23) q23).put (some 24) q24).put (some 25) q25).put (some 26) q26).put (some 27) q27).put (some 28) q28) w) : (Code.region rid ops true).wp Tryz.prog Q a y := by
  have kd : Kp (fun b => b = r ∨ b = g) y y.drew := (Kp.refl _ _).drew
  have k0 : Kp (fun _ => False) y y.drew := (Kp.refl _ _).drew
  refine chain_region (rc3C Z r g xs cs y.drew y2) (by kernel_rfl) hT hn hB (fun k v a hk _ h => rc3B_put r g y2 k v a hk h) (fun i j h1 h2 => rc3D_inj i h1 j h2) (fun i j p h1 h2 => posOf_inj _ i j p) (posOf_at [3, 7, 11, 13, 15, 17] 18 (by decide) (by decide)) ?_ (fun m w w' hk h => NW.grow h hk) (fun i v w w' hk h => h) (rc3_steps Z r g xs cs y.drew y2 hb hrg hZg hcs (fun a w h1 h2 h3 => hpan a w h1 (kd.trans h2 (fun _ _ e => e)) h3)) ?_
  · exact ⟨Kp.refl _ _, xs, rfl, hc.keep k0 id (fun _ _ => id), hl.keep k0 id⟩
  · rintro a' w h1 h2 hfr ⟨h3, t, h4, h5, h6⟩ _
    rw [act_puts a' [14, 15, 16, 17, 18, 19, 20, 21, 22, 23, 24, 25, 26, 27, 28] a (h1.trans hn.symm) (h2.2.2.2.trans hB.2.2.2.symm) (fun t ht => by
      rcases Nat.lt_or_ge t a'.tmps.size with hl | hl
      · exact hfr t (fun k hk e => ht (rc3D_mem k hk t e (Nat.lt_of_lt_of_eq hl h1)))
      · rw [eval_past a' t hl, eval_past a t (by have h9 : a.tmps.size = a'.tmps.size := hn.trans h1.symm; omega)])]
    exact hend (a'.eval (.tmp 14)) (a'.eval (.tmp 15)) (a'.eval (.tmp 16)) (a'.eval (.tmp 17)) (a'.eval (.tmp 18)) (a'.eval (.tmp 19)) (a'.eval (.tmp 20)) (a'.eval (.tmp 21)) (a'.eval (.tmp 22)) (a'.eval (.tmp 23)) (a'.eval (.tmp 24)) (a'.eval (.tmp 25)) (a'.eval (.tmp 26)) (a'.eval (.tmp 27)) (a'.eval (.tmp 28)) w t (kd.trans h3 (fun _ _ e => e)) h4 h5 h6

def rc4V (r g : Nat) (xs : List Nat) : Nat → Value
  | 0 => .pointer (some ⟨r, 0, none⟩)
  | 1 => .pointer (some ⟨r, 0, none⟩)
  | 2 => .pointer (some ⟨r, 0, none⟩)
  | 3 => .int .i64 (seqV xs 0 : Int)
  | 4 => .pointer (some ⟨r, 0, none⟩)
  | 5 => .pointer (some ⟨r, 0, none⟩)
  | 6 => .pointer (some ⟨r, 0, none⟩)
  | 7 => .int .i64 (seqV xs 1 : Int)
  | 8 => .pointer (some ⟨g, 6, none⟩)
  | 9 => undef
  | 10 => .pointer (some ⟨g, 7, none⟩)
  | 11 => undef
  | _ => undef
def rc4R (r g : Nat) (xs : List Nat) (i : Nat) (v : Value) (w : World) : Prop := match i with
  | 9 => True
  | 11 => True
  | i => v = rc4V r g xs i
def rc4D (k : Nat) : Nat := [29, 30, 31, 32, 33, 34, 35, 36, 37, 89, 38, 91].getD k 0
def rc4B (r g : Nat) (y2 : Value) (a : Act) : Prop := a.eval (.tmp 0) = .pointer (some ⟨r, 0, none⟩) ∧ a.eval (.tmp 2) = y2 ∧ a.eval (.tmp 3) = .pointer (some ⟨g, 0, none⟩) ∧ a.defers = []
theorem rc4D_ne : ∀ k, k < 12 → rc4D k ≠ 0 ∧ rc4D k ≠ 2 ∧ rc4D k ≠ 3 := by decide
theorem rc4B_put (r g : Nat) (y2 : Value) (k : Nat) (v : Value) (a : Act) (hk : k < 12) (h : rc4B r g y2 a) : rc4B r g y2 (a.put (some (rc4D k)) v) := by
  have hne := rc4D_ne k hk
  refine ⟨?_, ?_, ?_, h.2.2.2⟩
  · rw [← h.1]
    show (a.tmps.setIfInBounds (rc4D k) v).getD 0 undef = a.tmps.getD 0 undef
    simp [Array.getElem?_setIfInBounds_ne (hne.1)]
  · rw [← h.2.1]
    show (a.tmps.setIfInBounds (rc4D k) v).getD 2 undef = a.tmps.getD 2 undef
    simp [Array.getElem?_setIfInBounds_ne (hne.2.1)]
  · rw [← h.2.2.1]
    show (a.tmps.setIfInBounds (rc4D k) v).getD 3 undef = a.tmps.getD 3 undef
    simp [Array.getElem?_setIfInBounds_ne (hne.2.2)]
theorem rc4D_inj : ∀ i, i < 12 → ∀ j, j < 12 → rc4D i = rc4D j → i = j := by decide
def rc4T : List (Oper × List Nat) := [(⟨some 29, Op.move (Operand.tmp 0), 263, "", #[], none⟩, []), (⟨some 30, Op.nilCheck (Operand.tmp 29), 0, "", #[], none⟩, [0]), (⟨some 31, Op.fieldAddr 213 (Operand.tmp 30) 0, 0, "", #[], none⟩, [1]), (⟨some 32, Op.call { callee := Callee.value (Operand.func 154), args := #[Operand.tmp 31], argTypes := #[211] }, 3, "", #[], none⟩, [2]), (⟨some 33, Op.move (Operand.tmp 0), 263, "", #[], none⟩, []), (⟨some 34, Op.nilCheck (Operand.tmp 33), 0, "", #[], none⟩, [4]), (⟨some 35, Op.fieldAddr 213 (Operand.tmp 34) 0, 0, "", #[], none⟩, [5]), (⟨some 36, Op.call { callee := Callee.value (Operand.func 154), args := #[Operand.tmp 35], argTypes := #[211] }, 3, "", #[], none⟩, [6, 3]), (⟨some 37, Op.fieldAddr 31 (Operand.tmp 3) 6, 0, "", #[], none⟩, [0, 1, 2, 3]), (⟨none, Op.store 3 (Operand.tmp 37) (Operand.tmp 32), 0, "", #[], none⟩, [8, 3, 7, 0, 1, 2, 3]), (⟨some 38, Op.fieldAddr 31 (Operand.tmp 3) 7, 0, "", #[], none⟩, [0, 1, 2, 3, 4, 5, 6, 7, 8, 9]), (⟨none, Op.store 3 (Operand.tmp 38) (Operand.tmp 36), 0, "", #[], none⟩, [10, 7, 9, 0, 1, 2, 3, 4, 5, 6, 7, 8, 9])]
def rc4C (Z : Nat → Prop) (r g : Nat) (xs : List Nat) (cs : List Value) (w0 : World) (y2 : Value) : Chn := { n := 80, B := rc4B r g y2, R := rc4R r g xs, D := rc4D, pos := posOf [3, 7, 9, 11], N := 4, W := NW Z 2 r g xs cs [6, 7] w0, T := rc4T }

theorem rc4D_mem : ∀ k, k < 12 → ∀ t, rc4D k = t → t < 80 → t ∈ [29, 30, 31, 32, 33, 34, 35, 36, 37, 38] := by
  intro k hk t e ht
  subst e
  revert ht
  revert k
  decide
set_option maxRecDepth 100000 in
theorem rc4_e0 (r g : Nat) (xs : List Nat) (ev : Operand → Value) (z : World) (ec : ∀ c, ev (.const c) = c) (e0 : ev (.tmp 0) = .pointer (some ⟨r, 0, none⟩)) : (execOp ev ⟨some 29, Op.move (Operand.tmp 0), 263, "", #[], none⟩).run Tryz.prog z = .ok (.value (.pointer (some ⟨r, 0, none⟩))) z := by
  go_simp
set_option maxRecDepth 100000 in
theorem rc4_s0 {Q : Exit → Act → World → Prop} (Z : Nat → Prop) (r g : Nat) (xs : List Nat) (cs : List Value) (w0 : World) (y2 : Value) (hb : ∀ x ∈ xs, x < 256) (hrg : r ≠ g) (hZg : ¬ Z g) (hcs : 8 ≤ cs.length) (hpan : ∀ a w, rc4B r g y2 a → Kp (fun b => b = r ∨ b = g) w0 w → seqN xs 2 = none → Q (.panic gaveUp) a w) : (rc4C Z r g xs cs w0 y2).Step Tryz.prog Q 0 ⟨some 29, Op.move (Operand.tmp 0), 263, "", #[], none⟩ [] := by
  refine Chn.pure _ rfl rfl (show 29 < 80 by decide) (by decide) rfl ?_
  intro a w m hn hB hW hdm hup hd K hK
  have e0 : a.eval (.tmp 0) = .pointer (some ⟨r, 0, none⟩) := hB.1
  exact run_value (rc4_e0 r g xs _ w (fun _ => rfl) e0) (hK.out _ w (Kp.refl _ _) rfl)
set_option maxRecDepth 100000 in
theorem rc4_e1 (r g : Nat) (xs : List Nat) (ev : Operand → Value) (z : World) (ec : ∀ c, ev (.const c) = c) (e29 : ev (.tmp 29) = .pointer (some ⟨r, 0, none⟩)) : (execOp ev ⟨some 30, Op.nilCheck (Operand.tmp 29), 0, "", #[], none⟩).run Tryz.prog z = .ok (.value (.pointer (some ⟨r, 0, none⟩))) z := by
  go_simp
set_option maxRecDepth 100000 in
theorem rc4_s1 {Q : Exit → Act → World → Prop} (Z : Nat → Prop) (r g : Nat) (xs : List Nat) (cs : List Value) (w0 : World) (y2 : Value) (hb : ∀ x ∈ xs, x < 256) (hrg : r ≠ g) (hZg : ¬ Z g) (hcs : 8 ≤ cs.length) (hpan : ∀ a w, rc4B r g y2 a → Kp (fun b => b = r ∨ b = g) w0 w → seqN xs 2 = none → Q (.panic gaveUp) a w) : (rc4C Z r g xs cs w0 y2).Step Tryz.prog Q 1 ⟨some 30, Op.nilCheck (Operand.tmp 29), 0, "", #[], none⟩ [0] := by
  refine Chn.pure _ rfl rfl (show 30 < 80 by decide) (by decide) rfl ?_
  intro a w m hn hB hW hdm hup hd K hK
  have e29 : a.eval (.tmp 29) = .pointer (some ⟨r, 0, none⟩) := hd 0 (by decide)
  exact run_value (rc4_e1 r g xs _ w (fun _ => rfl) e29) (hK.out _ w (Kp.refl _ _) rfl)
set_option maxRecDepth 100000 in
theorem rc4_e2 (r g : Nat) (xs : List Nat) (ev : Operand → Value) (z : World) (ec : ∀ c, ev (.const c) = c) (e30 : ev (.tmp 30) = .pointer (some ⟨r, 0, none⟩)) : (execOp ev ⟨some 31, Op.fieldAddr 213 (Operand.tmp 30) 0, 0, "", #[], none⟩).run Tryz.prog z = .ok (.value (.pointer (some ⟨r, 0, none⟩))) z := by
  go_simp
set_option maxRecDepth 100000 in
theorem rc4_s2 {Q : Exit → Act → World → Prop} (Z : Nat → Prop) (r g : Nat) (xs : List Nat) (cs : List Value) (w0 : World) (y2 : Value) (hb : ∀ x ∈ xs, x < 256) (hrg : r ≠ g) (hZg : ¬ Z g) (hcs : 8 ≤ cs.length) (hpan : ∀ a w, rc4B r g y2 a → Kp (fun b => b = r ∨ b = g) w0 w → seqN xs 2 = none → Q (.panic gaveUp) a w) : (rc4C Z r g xs cs w0 y2).Step Tryz.prog Q 2 ⟨some 31, Op.fieldAddr 213 (Operand.tmp 30) 0, 0, "", #[], none⟩ [1] := by
  refine Chn.pure _ rfl rfl (show 31 < 80 by decide) (by decide) rfl ?_
  intro a w m hn hB hW hdm hup hd K hK
  have e30 : a.eval (.tmp 30) = .pointer (some ⟨r, 0, none⟩) := hd 1 (by decide)
  exact run_value (rc4_e2 r g xs _ w (fun _ => rfl) e30) (hK.out _ w (Kp.refl _ _) rfl)
set_option maxRecDepth 100000 in
theorem rc4_e3 (r g : Nat) (xs : List Nat) (ev : Operand → Value) (z : World) (ec : ∀ c, ev (.const c) = c) (ef : ∀ f, ev (.func f) = .func (.func f) #[] #[]) (e31 : ev (.tmp 31) = .pointer (some ⟨r, 0, none⟩)) : (execOp ev ⟨some 32, Op.call { callee := Callee.value (Operand.func 154), args := #[Operand.tmp 31], argTypes := #[211] }, 3, "", #[], none⟩).run Tryz.prog z = .ok (.enter 154 #[.pointer (some ⟨r, 0, none⟩)]) z := enter_run _ (ef _) (by simp only [List.map_toArray, List.map_cons, List.map_nil, ec, ef, e31]) (fun _ => by rfl)
set_option maxRecDepth 100000 in
theorem rc4_s3 {Q : Exit → Act → World → Prop} (Z : Nat → Prop) (r g : Nat) (xs : List Nat) (cs : List Value) (w0 : World) (y2 : Value) (hb : ∀ x ∈ xs, x < 256) (hrg : r ≠ g) (hZg : ¬ Z g) (hcs : 8 ≤ cs.length) (hpan : ∀ a w, rc4B r g y2 a → Kp (fun b => b = r ∨ b = g) w0 w → seqN xs 2 = none → Q (.panic gaveUp) a w) : (rc4C Z r g xs cs w0 y2).Step Tryz.prog Q 3 ⟨some 32, Op.call { callee := Callee.value (Operand.func 154), args := #[Operand.tmp 31], argTypes := #[211] }, 3, "", #[], none⟩ [2] := by
  refine Chn.link _ 0 rfl (fun q hq => by omega) (show 0 < 4 by decide) (Or.inl ⟨rfl, show 32 < 80 by decide⟩) (by decide) rfl ?_
  intro a w hn hB hW hd K hK
  have e31 : a.eval (.tmp 31) = .pointer (some ⟨r, 0, none⟩) := hd 2 (by decide)
  refine wp_enterP (rc4_e3 r g xs _ w (fun _ => rfl) (fun _ => rfl) e31) (NW.call (Z := Z) (g := g) (cs := cs) (offs := [6, 7]) (w0 := w0) (k := 2) (j := 0) hW (by decide) hb hrg hZg) ?_
  rintro e9 w9 (⟨rfl, h9⟩ | ⟨rfl, h9, h8⟩)
  · exact Or.inl ⟨_, rfl, hK.out _ _ h9 (fun _ _ _ h => h) rfl⟩
  · exact Or.inr ⟨_, rfl, hpan a w9 hB h9 (seqN_none h8 (by decide))⟩
set_option maxRecDepth 100000 in
theorem rc4_e4 (r g : Nat) (xs : List Nat) (ev : Operand → Value) (z : World) (ec : ∀ c, ev (.const c) = c) (e0 : ev (.tmp 0) = .pointer (some ⟨r, 0, none⟩)) : (execOp ev ⟨some 33, Op.move (Operand.tmp 0), 263, "", #[], none⟩).run Tryz.prog z = .ok (.value (.pointer (some ⟨r, 0, none⟩))) z := by
  go_simp
set_option maxRecDepth 100000 in
theorem rc4_s4 {Q : Exit → Act → World → Prop} (Z : Nat → Prop) (r g : Nat) (xs : List Nat) (cs : List Value) (w0 : World) (y2 : Value) (hb : ∀ x ∈ xs, x < 256) (hrg : r ≠ g) (hZg : ¬ Z g) (hcs : 8 ≤ cs.length) (hpan : ∀ a w, rc4B r g y2 a → Kp (fun b => b = r ∨ b = g) w0 w → seqN xs 2 = none → Q (.panic gaveUp) a w) : (rc4C Z r g xs cs w0 y2).Step Tryz.prog Q 4 ⟨some 33, Op.move (Operand.tmp 0), 263, "", #[], none⟩ [] := by
  refine Chn.pure _ rfl rfl (show 33 < 80 by decide) (by decide) rfl ?_
  intro a w m hn hB hW hdm hup hd K hK
  have e0 : a.eval (.tmp 0) = .pointer (some ⟨r, 0, none⟩) := hB.1
  exact run_value (rc4_e4 r g xs _ w (fun _ => rfl) e0) (hK.out _ w (Kp.refl _ _) rfl)
set_option maxRecDepth 100000 in
theorem rc4_e5 (r g : Nat) (xs : List Nat) (ev : Operand → Value) (z : World) (ec : ∀ c, ev (.const c) = c) (e33 : ev (.tmp 33) = .pointer (some ⟨r, 0, none⟩)) : (execOp ev ⟨some 34, Op.nilCheck (Operand.tmp 33), 0, "", #[], none⟩).run Tryz.prog z = .ok (.value (.pointer (some ⟨r, 0, none⟩))) z := by
  go_simp
set_option maxRecDepth 100000 in
theorem rc4_s5 {Q : Exit → Act → World → Prop} (Z : Nat → Prop) (r g : Nat) (xs : List Nat) (cs : List Value) (w0 : World) (y2 : Value) (hb : ∀ x ∈ xs, x < 256) (hrg : r ≠ g) (hZg : ¬ Z g) (hcs : 8 ≤ cs.length) (hpan : ∀ a w, rc4B r g y2 a → Kp (fun b => b = r ∨ b = g) w0 w → seqN xs 2 = none → Q (.panic gaveUp) a w) : (rc4C Z r g xs cs w0 y2).Step Tryz.prog Q 5 ⟨some 34, Op.nilCheck (Operand.tmp 33), 0, "", #[], none⟩ [4] := by
  refine Chn.pure _ rfl rfl (show 34 < 80 by decide) (by decide) rfl ?_
  intro a w m hn hB hW hdm hup hd K hK
  have e33 : a.eval (.tmp 33) = .pointer (some ⟨r, 0, none⟩) := hd 4 (by decide)
  exact run_value (rc4_e5 r g xs _ w (fun _ => rfl) e33) (hK.out _ w (Kp.refl _ _) rfl)
set_option maxRecDepth 100000 in
theorem rc4_e6 (r g : Nat) (xs : List Nat) (ev : Operand → Value) (z : World) (ec : ∀ c, ev (.const c) = c) (e34 : ev (.tmp 34) = .pointer (some ⟨r, 0, none⟩)) : (execOp ev ⟨some 35, Op.fieldAddr 213 (Operand.tmp 34) 0, 0, "", #[], none⟩).run Tryz.prog z = .ok (.value (.pointer (some ⟨r, 0, none⟩))) z := by
  go_simp
set_option maxRecDepth 100000 in
theorem rc4_s6 {Q : Exit → Act → World → Prop} (Z : Nat → Prop) (r g : Nat) (xs : List Nat) (cs : List Value) (w0 : World) (y2 : Value) (hb : ∀ x ∈ xs, x < 256) (hrg : r ≠ g) (hZg : ¬ Z g) (hcs : 8 ≤ cs.length) (hpan : ∀ a w, rc4B r g y2 a → Kp (fun b => b = r ∨ b = g) w0 w → seqN xs 2 = none → Q (.panic gaveUp) a w) : (rc4C Z r g xs cs w0 y2).Step Tryz.prog Q 6 ⟨some 35, Op.fieldAddr 213 (Operand.tmp 34) 0, 0, "", #[], none⟩ [5] := by
  refine Chn.pure _ rfl rfl (show 35 < 80 by decide) (by decide) rfl ?_
  intro a w m hn hB hW hdm hup hd K hK
  have e34 : a.eval (.tmp 34) = .pointer (some ⟨r, 0, none⟩) := hd 5 (by decide)
  exact run_value (rc4_e6 r g xs _ w (fun _ => rfl) e34) (hK.out _ w (Kp.refl _ _) rfl)
set_option maxRecDepth 100000 in
theorem rc4_e7 (r g : Nat) (xs : List Nat) (ev : Operand → Value) (z : World) (ec : ∀ c, ev (.const c) = c) (ef : ∀ f, ev (.func f) = .func (.func f) #[] #[]) (e35 : ev (.tmp 35) = .pointer (some ⟨r, 0, none⟩)) : (execOp ev ⟨some 36, Op.call { callee := Callee.value (Operand.func 154), args := #[Operand.tmp 35], argTypes := #[211] }, 3, "", #[], none⟩).run Tryz.prog z = .ok (.enter 154 #[.pointer (some ⟨r, 0, none⟩)]) z := enter_run _ (ef _) (by simp only [List.map_toArray, List.map_cons, List.map_nil, ec, ef, e35]) (fun _ => by rfl)
set_option maxRecDepth 100000 in
theorem rc4_s7 {Q : Exit → Act → World → Prop} (Z : Nat → Prop) (r g : Nat) (xs : List Nat) (cs : List Value) (w0 : World) (y2 : Value) (hb : ∀ x ∈ xs, x < 256) (hrg : r ≠ g) (hZg : ¬ Z g) (hcs : 8 ≤ cs.length) (hpan : ∀ a w, rc4B r g y2 a → Kp (fun b => b = r ∨ b = g) w0 w → seqN xs 2 = none → Q (.panic gaveUp) a w) : (rc4C Z r g xs cs w0 y2).Step Tryz.prog Q 7 ⟨some 36, Op.call { callee := Callee.value (Operand.func 154), args := #[Operand.tmp 35], argTypes := #[211] }, 3, "", #[], none⟩ [6, 3] := by
  refine Chn.link _ 1 rfl (prevOf 3 0 (by decide) rfl) (show 1 < 4 by decide) (Or.inl ⟨rfl, show 36 < 80 by decide⟩) (by decide) rfl ?_
  intro a w hn hB hW hd K hK
  have e35 : a.eval (.tmp 35) = .pointer (some ⟨r, 0, none⟩) := hd 6 (by decide)
  refine wp_enterP (rc4_e7 r g xs _ w (fun _ => rfl) (fun _ => rfl) e35) (NW.call (Z := Z) (g := g) (cs := cs) (offs := [6, 7]) (w0 := w0) (k := 2) (j := 1) hW (by decide) hb hrg hZg) ?_
  rintro e9 w9 (⟨rfl, h9⟩ | ⟨rfl, h9, h8⟩)
  · exact Or.inl ⟨_, rfl, hK.out _ _ h9 (fun _ _ _ h => h) rfl⟩
  · exact Or.inr ⟨_, rfl, hpan a w9 hB h9 (seqN_none h8 (by decide))⟩
set_option maxRecDepth 100000 in
theorem rc4_e8 (r g : Nat) (xs : List Nat) (ev : Operand → Value) (z : World) (ec : ∀ c, ev (.const c) = c) (e3 : ev (.tmp 3) = .pointer (some ⟨g, 0, none⟩)) : (execOp ev ⟨some 37, Op.fieldAddr 31 (Operand.tmp 3) 6, 0, "", #[], none⟩).run Tryz.prog z = .ok (.value (.pointer (some ⟨g, 6, none⟩))) z := by
  go_simp
set_option maxRecDepth 100000 in
theorem rc4_s8 {Q : Exit → Act → World → Prop} (Z : Nat → Prop) (r g : Nat) (xs : List Nat) (cs : List Value) (w0 : World) (y2 : Value) (hb : ∀ x ∈ xs, x < 256) (hrg : r ≠ g) (hZg : ¬ Z g) (hcs : 8 ≤ cs.length) (hpan : ∀ a w, rc4B r g y2 a → Kp (fun b => b = r ∨ b = g) w0 w → seqN xs 2 = none → Q (.panic gaveUp) a w) : (rc4C Z r g xs cs w0 y2).Step Tryz.prog Q 8 ⟨some 37, Op.fieldAddr 31 (Operand.tmp 3) 6, 0, "", #[], none⟩ [0, 1, 2, 3] := by
  refine Chn.pure _ rfl rfl (show 37 < 80 by decide) (by decide) rfl ?_
  intro a w m hn hB hW hdm hup hd K hK
  have e3 : a.eval (.tmp 3) = .pointer (some ⟨g, 0, none⟩) := hB.2.2.1
  exact run_value (rc4_e8 r g xs _ w (fun _ => rfl) e3) (hK.out _ w (Kp.refl _ _) rfl)
set_option maxRecDepth 100000 in
theorem rc4_e9 (r g : Nat) (xs : List Nat) (ev : Operand → Value) (z : World) (ec : ∀ c, ev (.const c) = c) (e32 : ev (.tmp 32) = .int .i64 (seqV xs 0 : Int)) (e37 : ev (.tmp 37) = .pointer (some ⟨g, 6, none⟩)) {u : Value} (hu : z.cell? ⟨g, 6, none⟩ = some u) (hf : z.frozen? ⟨g, 6, none⟩ = false) : (execOp ev ⟨none, Op.store 3 (Operand.tmp 37) (Operand.tmp 32), 0, "", #[], none⟩).run Tryz.prog z = .ok .skip (z.setCell ⟨g, 6, none⟩ (.int .i64 (seqV xs 0 : Int))) := by
  go_simp
set_option maxRecDepth 100000 in
theorem rc4_s9 {Q : Exit → Act → World → Prop} (Z : Nat → Prop) (r g : Nat) (xs : List Nat) (cs : List Value) (w0 : World) (y2 : Value) (hb : ∀ x ∈ xs, x < 256) (hrg : r ≠ g) (hZg : ¬ Z g) (hcs : 8 ≤ cs.length) (hpan : ∀ a w, rc4B r g y2 a → Kp (fun b => b = r ∨ b = g) w0 w → seqN xs 2 = none → Q (.panic gaveUp) a w) : (rc4C Z r g xs cs w0 y2).Step Tryz.prog Q 9 ⟨none, Op.store 3 (Operand.tmp 37) (Operand.tmp 32), 0, "", #[], none⟩ [8, 3, 7, 0, 1, 2, 3] := by
  refine Chn.link _ 2 rfl (prevOf 7 1 (by decide) rfl) (show 2 < 4 by decide) (Or.inr ⟨rfl, show 80 ≤ 89 by decide, fun _ _ => trivial⟩) (by decide) rfl ?_
  intro a w hn hB hW hd K hK
  have e32 : a.eval (.tmp 32) = .int .i64 (seqV xs 0 : Int) := hd 3 (by decide)
  have e37 : a.eval (.tmp 37) = .pointer (some ⟨g, 6, none⟩) := hd 8 (by decide)
  obtain ⟨⟨u, hu⟩, hf, hN⟩ := NW.store (Z := Z) (k := 2) (r := r) (g := g) (xs := xs) (cs := cs) (offs := [6, 7]) (w0 := w0) (j := 2) hW 0 6 rfl rfl (by omega) hrg hZg
  exact run_skip rfl (rc4_e9 r g xs _ w (fun _ => rfl) e32 e37 hu hf) (fun v => hK.out v _ hN (fun _ _ _ h => h) trivial)
set_option maxRecDepth 100000 in
theorem rc4_e10 (r g : Nat) (xs : List Nat) (ev : Operand → Value) (z : World) (ec : ∀ c, ev (.const c) = c) (e3 : ev (.tmp 3) = .pointer (some ⟨g, 0, none⟩)) : (execOp ev ⟨some 38, Op.fieldAddr 31 (Operand.tmp 3) 7, 0, "", #[], none⟩).run Tryz.prog z = .ok (.value (.pointer (some ⟨g, 7, none⟩))) z := by
  go_simp
set_option maxRecDepth 100000 in
theorem rc4_s10 {Q : Exit → Act → World → Prop} (Z : Nat → Prop) (r g : Nat) (xs : List Nat) (cs : List Value) (w0 : World) (y2 : Value) (hb : ∀ x ∈ xs, x < 256) (hrg : r ≠ g) (hZg : ¬ Z g) (hcs : 8 ≤ cs.length) (hpan : ∀ a w, rc4B r g y2 a → Kp (fun b => b = r ∨ b = g) w0 w → seqN xs 2 = none → Q (.panic gaveUp) a w) : (rc4C Z r g xs cs w0 y2).Step Tryz.prog Q 10 ⟨some 38, Op.fieldAddr 31 (Operand.tmp 3) 7, 0, "", #[], none⟩ [0, 1, 2, 3, 4, 5, 6, 7, 8, 9] := by
  refine Chn.pure _ rfl rfl (show 38 < 80 by decide) (by decide) rfl ?_
  intro a w m hn hB hW hdm hup hd K hK
  have e3 : a.eval (.tmp 3) = .pointer (some ⟨g, 0, none⟩) := hB.2.2.1
  exact run_value (rc4_e10 r g xs _ w (fun _ => rfl) e3) (hK.out _ w (Kp.refl _ _) rfl)
set_option maxRecDepth 100000 in
theorem rc4_e11 (r g : Nat) (xs : List Nat) (ev : Operand → Value) (z : World) (ec : ∀ c, ev (.const c) = c) (e36 : ev (.tmp 36) = .int .i64 (seqV xs 1 : Int)) (e38 : ev (.tmp 38) = .pointer (some ⟨g, 7, none⟩)) {u : Value} (hu : z.cell? ⟨g, 7, none⟩ = some u) (hf : z.frozen? ⟨g, 7, none⟩ = false) : (execOp ev ⟨none, Op.store 3 (Operand.tmp 38) (Operand.tmp 36), 0, "", #[], none⟩).run Tryz.prog z = .ok .skip (z.setCell ⟨g, 7, none⟩ (.int .i64 (seqV xs 1 : Int))) := by
  go_simp
set_option maxRecDepth 100000 in
theorem rc4_s11 {Q : Exit → Act → World → Prop} (Z : Nat → Prop) (r g : Nat) (xs : List Nat) (cs : List Value) (w0 : World) (y2 : Value) (hb : ∀ x ∈ xs, x < 256) (hrg : r ≠ g) (hZg : ¬ Z g) (hcs : 8 ≤ cs.length) (hpan : ∀ a w, rc4B r g y2 a → Kp (fun b => b = r ∨ b = g) w0 w → seqN xs 2 = none → Q (.panic gaveUp) a w) : (rc4C Z r g xs cs w0 y2).Step Tryz.prog Q 11 ⟨none, Op.store 3 (Operand.tmp 38) (Operand.tmp 36), 0, "", #[], none⟩ [10, 7, 9, 0, 1, 2, 3, 4, 5, 6, 7, 8, 9] := by
  refine Chn.link _ 3 rfl (prevOf 9 2 (by decide) rfl) (show 3 < 4 by decide) (Or.inr ⟨rfl, show 80 ≤ 91 by decide, fun _ _ => trivial⟩) (by decide) rfl ?_
  intro a w hn hB hW hd K hK
  have e36 : a.eval (.tmp 36) = .int .i64 (seqV xs 1 : Int) := hd 7 (by decide)
  have e38 : a.eval (.tmp 38) = .pointer (some ⟨g, 7, none⟩) := hd 10 (by decide)
  obtain ⟨⟨u, hu⟩, hf, hN⟩ := NW.store (Z := Z) (k := 2) (r := r) (g := g) (xs := xs) (cs := cs) (offs := [6, 7]) (w0 := w0) (j := 3) hW 1 7 rfl rfl (by omega) hrg hZg
  exact run_skip rfl (rc4_e11 r g xs _ w (fun _ => rfl) e36 e38 hu hf) (fun v => hK.out v _ hN (fun _ _ _ h => h) trivial)
theorem rc4_steps {Q : Exit → Act → World → Prop} (Z : Nat → Prop) (r g : Nat) (xs : List Nat) (cs : List Value) (w0 : World) (y2 : Value) (hb : ∀ x ∈ xs, x < 256) (hrg : r ≠ g) (hZg : ¬ Z g) (hcs : 8 ≤ cs.length) (hpan : ∀ a w, rc4B r g y2 a → Kp (fun b => b = r ∨ b = g) w0 w → seqN xs 2 = none → Q (.panic gaveUp) a w) : (rc4C Z r g xs cs w0 y2).Steps Tryz.prog Q 0 rc4T := ⟨rc4_s0 Z r g xs cs w0 y2 hb hrg hZg hcs hpan, rc4_s1 Z r g xs cs w0 y2 hb hrg hZg hcs hpan, rc4_s2 Z r g xs cs w0 y2 hb hrg hZg hcs hpan, rc4_s3 Z r g xs cs w0 y2 hb hrg hZg hcs hpan, rc4_s4 Z r g xs cs w0 y2 hb hrg hZg hcs hpan, rc4_s5 Z r g xs cs w0 y2 hb hrg hZg hcs hpan, rc4_s6 Z r g xs cs w0 y2 hb hrg hZg hcs hpan, rc4_s7 Z r g xs cs w0 y2 hb hrg hZg hcs hpan, rc4_s8 Z r g xs cs w0 y2 hb hrg hZg hcs hpan, rc4_s9 Z r g xs cs w0 y2 hb hrg hZg hcs hpan, rc4_s10 Z r g xs cs w0 y2 hb hrg hZg hcs hpan, rc4_s11 Z r g xs cs w0 y2 hb hrg hZg hcs hpan, trivial⟩
/-- the region: the numbers are read and laid into the struct, or it gives up -/
theorem rc4_region {ops : Array Oper} {rid : Nat} {Q : Exit → Act → World → Prop} {a : Act} {y : World} (Z : Nat → Prop) (r g : Nat) (xs : List Nat) (cs : List Value) (y2 : Value) (hT : ops.toList.map (fun o => (bare o, deps o)) = rc4T) (hn : a.tmps.size = 80) (hB : rc4B r g y2 a)
    (hb : ∀ x ∈ xs, x < 256) (hrg : r ≠ g) (hZg : ¬ Z g) (hcs : 8 ≤ cs.length) (hc : Cu Z y r xs) (hl : Lv y g cs)
    (hpan : ∀ a w, rc4B r g y2 a → Kp (fun b => b = r ∨ b = g) y w → seqN xs 2 = none → Q (.panic gaveUp) a w)
    (hend : ∀ q29 q30 q31 q32 q33 q34 q35 q36 q37 q38 w t, Kp (fun b => b = r ∨ b = g) y w → seqN xs 2 = some t → Cu Z w r t → Lv w g (setsN xs 0 [6, 7] cs) → Q .normal ((((((((((a.put (some 29) q29).put (some 30) q30).put (some 31) q31).put (some 32) q32).put (some 33) q33).put (some 34) q34).put (some 35) q35).put (some 36) q36).put (some 37) q37).put (some 38) q38) w) : (Code.region rid ops true).wp Tryz.prog Q a y := by
  have kd : Kp (fun b => b = r ∨ b = g) y y.drew := (Kp.refl _ _).drew
  have k0 : Kp (fun _ => False) y y.drew := (Kp.refl _ _).drew
  refine chain_region (rc4C Z r g xs cs y.drew y2) (by kernel_rfl) hT hn hB (fun k v a hk _ h => rc4B_put r g y2 k v a hk h) (fun i j h1 h2 => rc4D_inj i h1 j h2) (fun i j p h1 h2 => posOf_inj _ i j p) (posOf_at [3, 7, 9, 11] 12 (by decide) (by decide)) ?_ (fun m w w' hk h => NW.grow h hk) (fun i v w w' hk h => h) (rc4_steps Z r g xs cs y.drew y2 hb hrg hZg hcs (fun a w h1 h2 h3 => hpan a w h1 (kd.trans h2 (fun _ _ e => e)) h3)) ?_
  · exact ⟨Kp.refl _ _, xs, rfl, hc.keep k0 id (fun _ _ => id), hl.keep k0 id⟩
  · rintro a' w h1 h2 hfr ⟨h3, t, h4, h5, h6⟩ _
    rw [act_puts a' [29, 30, 31, 32, 33, 34, 35, 36, 37, 38] a (h1.trans hn.symm) (h2.2.2.2.trans hB.2.2.2.symm) (fun t ht => by
      rcases Nat.lt_or_ge t a'.tmps.size with hl | hl
      · exact hfr t (fun k hk e => ht (rc4D_mem k hk t e (Nat.lt_of_lt_of_eq hl h1)))
      · rw [eval_past a' t hl, eval_past a t (by have h9 : a.tmps.size = a'.tmps.size := hn.trans h1.symm; omega)])]
    exact hend (a'.eval (.tmp 29)) (a'.eval (.tmp 30)) (a'.eval (.tmp 31)) (a'.eval (.tmp 32)) (a'.eval (.tmp 33)) (a'.eval (.tmp 34)) (a'.eval (.tmp 35)) (a'.eval (.tmp 36)) (a'.eval (.tmp 37)) (a'.eval (.tmp 38)) w t (kd.trans h3 (fun _ _ e => e)) h4 h5 h6

def rc6V (r g : Nat) (xs : List Nat) : Nat → Value
  | 0 => .pointer (some ⟨r, 0, none⟩)
  | 1 => .pointer (some ⟨r, 0, none⟩)
  | 2 => .pointer (some ⟨r, 0, none⟩)
  | 3 => .int .i64 (seqV xs 0 : Int)
  | 4 => .pointer (some ⟨r, 0, none⟩)
  | 5 => .pointer (some ⟨r, 0, none⟩)
  | 6 => .pointer (some ⟨r, 0, none⟩)
  | 7 => .int .i64 (seqV xs 1 : Int)
  | 8 => .pointer (some ⟨g, 9, none⟩)
  | 9 => .pointer (some ⟨g, 9, none⟩)
  | 10 => undef
  | 11 => .pointer (some ⟨g, 9, none⟩)
  | 12 => .pointer (some ⟨g, 10, none⟩)
  | 13 => undef
  | _ => undef
def rc6R (r g : Nat) (xs : List Nat) (i : Nat) (v : Value) (w : World) : Prop := match i with
  | 10 => True
  | 13 => True
  | i => v = rc6V r g xs i
def rc6D (k : Nat) : Nat := [45, 46, 47, 48, 49, 50, 51, 52, 53, 54, 90, 55, 56, 93].getD k 0
def rc6B (r g : Nat) (y2 : Value) (a : Act) : Prop := a.eval (.tmp 0) = .pointer (some ⟨r, 0, none⟩) ∧ a.eval (.tmp 2) = y2 ∧ a.eval (.tmp 3) = .pointer (some ⟨g, 0, none⟩) ∧ a.defers = []
theorem rc6D_ne : ∀ k, k < 14 → rc6D k ≠ 0 ∧ rc6D k ≠ 2 ∧ rc6D k ≠ 3 := by decide
theorem rc6B_put (r g : Nat) (y2 : Value) (k : Nat) (v : Value) (a : Act) (hk : k < 14) (h : rc6B r g y2 a) : rc6B r g y2 (a.put (some (rc6D k)) v) := by
  have hne := rc6D_ne k hk
  refine ⟨?_, ?_, ?_, h.2.2.2⟩
  · rw [← h.1]
    show (a.tmps.setIfInBounds (rc6D k) v).getD 0 undef = a.tmps.getD 0 undef
    simp [Array.getElem?_setIfInBounds_ne (hne.1)]
  · rw [← h.2.1]
    show (a.tmps.setIfInBounds (rc6D k) v).getD 2 undef = a.tmps.getD 2 undef
    simp [Array.getElem?_setIfInBounds_ne (hne.2.1)]
  · rw [← h.2.2.1]
    show (a.tmps.setIfInBounds (rc6D k) v).getD 3 undef = a.tmps.getD 3 undef
    simp [Array.getElem?_setIfInBounds_ne (hne.2.2)]
theorem rc6D_inj : ∀ i, i < 14 → ∀ j, j < 14 → rc6D i = rc6D j → i = j := by decide
def rc6T : List (Oper × List Nat) := [(⟨some 45, Op.move (Operand.tmp 0), 263, "", #[], none⟩, []), (⟨some 46, Op.nilCheck (Operand.tmp 45), 0, "", #[], none⟩, [0]), (⟨some 47, Op.fieldAddr 213 (Operand.tmp 46) 0, 0, "", #[], none⟩, [1]), (⟨some 48, Op.call { callee := Callee.value (Operand.func 154), args := #[Operand.tmp 47], argTypes := #[211] }, 3, "", #[], none⟩, [2]), (⟨some 49, Op.move (Operand.tmp 0), 263, "", #[], none⟩, []), (⟨some 50, Op.nilCheck (Operand.tmp 49), 0, "", #[], none⟩, [4]), (⟨some 51, Op.fieldAddr 213 (Operand.tmp 50) 0, 0, "", #[], none⟩, [5]), (⟨some 52, Op.call { callee := Callee.value (Operand.func 154), args := #[Operand.tmp 51], argTypes := #[211] }, 3, "", #[], none⟩, [6, 3]), (⟨some 53, Op.fieldAddr 31 (Operand.tmp 3) 9, 0, "", #[], none⟩, [0, 1, 2, 3]), (⟨some 54, Op.fieldAddr 28 (Operand.tmp 53) 0, 0, "", #[], none⟩, [8, 0, 1, 2, 3]), (⟨none, Op.store 3 (Operand.tmp 54) (Operand.tmp 48), 0, "", #[], none⟩, [9, 3, 7, 0, 1, 2, 3]), (⟨some 55, Op.fieldAddr 31 (Operand.tmp 3) 9, 0, "", #[], none⟩, [0, 1, 2, 3, 4, 5, 6, 7, 8, 9, 10]), (⟨some 56, Op.fieldAddr 28 (Operand.tmp 55) 1, 0, "", #[], none⟩, [11, 0, 1, 2, 3, 4, 5, 6, 7, 8, 9, 10]), (⟨none, Op.store 3 (Operand.tmp 56) (Operand.tmp 52), 0, "", #[], none⟩, [12, 7, 10, 0, 1, 2, 3, 4, 5, 6, 7, 8, 9, 10])]
def rc6C (Z : Nat → Prop) (r g : Nat) (xs : List Nat) (cs : List Value) (w0 : World) (y2 : Value) : Chn := { n := 80, B := rc6B r g y2, R := rc6R r g xs, D := rc6D, pos := posOf [3, 7, 10, 13], N := 4, W := NW Z 2 r g xs cs [9, 10] w0, T := rc6T }

theorem rc6D_mem : ∀ k, k < 14 → ∀ t, rc6D k = t → t < 80 → t ∈ [45, 46, 47, 48, 49, 50, 51, 52, 53, 54, 55, 56] := by
  intro k hk t e ht
  subst e
  revert ht
  revert k
  decide
set_option maxRecDepth 100000 in
theorem rc6_e0 (r g : Nat) (xs : List Nat) (ev : Operand → Value) (z : World) (ec : ∀ c, ev (.const c) = c) (e0 : ev (.tmp 0) = .pointer (some ⟨r, 0, none⟩)) : (execOp ev ⟨some 45, Op.move (Operand.tmp 0), 263, "", #[], none⟩).run Tryz.prog z = .ok (.value (.pointer (some ⟨r, 0, none⟩))) z := by
  go_simp
set_option maxRecDepth 100000 in
theorem rc6_s0 {Q : Exit → Act → World → Prop} (Z : Nat → Prop) (r g : Nat) (xs : List Nat) (cs : List Value) (w0 : World) (y2 : Value) (hb : ∀ x ∈ xs, x < 256) (hrg : r ≠ g) (hZg : ¬ Z g) (hcs : 11 ≤ cs.length) (hpan : ∀ a w, rc6B r g y2 a → Kp (fun b => b = r ∨ b = g) w0 w → seqN xs 2 = none → Q (.panic gaveUp) a w) : (rc6C Z r g xs cs w0 y2).Step Tryz.prog Q 0 ⟨some 45, Op.move (Operand.tmp 0), 263, "", #[], none⟩ [] := by
  refine Chn.pure _ rfl rfl (show 45 < 80 by decide) (by decide) rfl ?_
  intro a w m hn hB hW hdm hup hd K hK
  have e0 : a.eval (.tmp 0) = .pointer (some ⟨r, 0, none⟩) := hB.1
  exact run_value (rc6_e0 r g xs _ w (fun _ => rfl) e0) (hK.out _ w (Kp.refl _ _) rfl)
set_option maxRecDepth 100000 in
theorem rc6_e1 (r g : Nat) (xs : List Nat) (ev : Operand → Value) (z : World) (ec : ∀ c, ev (.const c) = c) (e45 : ev (.tmp 45) = .pointer (some ⟨r, 0, none⟩)) : (execOp ev ⟨some 46, Op.nilCheck (Operand.tmp 45), 0, "", #[], none⟩).run Tryz.prog z = .ok (.value (.pointer (some ⟨r, 0, none⟩))) z := by
  go_simp
set_option maxRecDepth 100000 in
theorem rc6_s1 {Q : Exit → Act → World → Prop} (Z : Nat → Prop) (r g : Nat) (xs : List Nat) (cs : List Value) (w0 : World) (y2 : Value) (hb : ∀ x ∈ xs, x < 256) (hrg : r ≠ g) (hZg : ¬ Z g) (hcs : 11 ≤ cs.length) (hpan : ∀ a w, rc6B r g y2 a → Kp (fun b => b = r ∨ b = g) w0 w → seqN xs 2 = none → Q (.panic gaveUp) a w) : (rc6C Z r g xs cs w0 y2).Step Tryz.prog Q 1 ⟨some 46, Op.nilCheck (Operand.tmp 45), 0, "", #[], none⟩ [0] := by
  refine Chn.pure _ rfl rfl (show 46 < 80 by decide) (by decide) rfl ?_
  intro a w m hn hB hW hdm hup hd K hK
  have e45 : a.eval (.tmp 45) = .pointer (some ⟨r, 0, none⟩) := hd 0 (by decide)
  exact run_value (rc6_e1 r g xs _ w (fun _ => rfl) e45) (hK.out _ w (Kp.refl _ _) rfl)
set_option maxRecDepth 100000 in
theorem rc6_e2 (r g : Nat) (xs : List Nat) (ev : Operand → Value) (z : World) (ec : ∀ c, ev (.const c) = c) (e46 : ev (.tmp 46) = .pointer (some ⟨r, 0, none⟩)) : (execOp ev ⟨some 47, Op.fieldAddr 213 (Operand.tmp 46) 0, 0, "", #[], none⟩).run Tryz.prog z = .ok (.value (.pointer (some ⟨r, 0, none⟩))) z := by
  go_simp
set_option maxRecDepth 100000 in
theorem rc6_s2 {Q : Exit → Act → World → Prop} (Z : Nat → Prop) (r g : Nat) (xs : List Nat) (cs : List Value) (w0 : World) (y2 : Value) (hb : ∀ x ∈ xs, x < 256) (hrg : r ≠ g) (hZg : ¬ Z g) (hcs : 11 ≤ cs.length) (hpan : ∀ a w, rc6B r g y2 a → Kp (fun b => b = r ∨ b = g) w0 w → seqN xs 2 = none → Q (.panic gaveUp) a w) : (rc6C Z r g xs cs w0 y2).Step Tryz.prog Q 2 ⟨some 47, Op.fieldAddr 213 (Operand.tmp 46) 0, 0, "", #[], none⟩ [1] := by
  refine Chn.pure _ rfl rfl (show 47 < 80 by decide) (by decide) rfl ?_
  intro a w m hn hB hW hdm hup hd K hK
  have e46 : a.eval (.tmp 46) = .pointer (some ⟨r, 0, none⟩) := hd 1 (by decide)
  exact run_value (rc6_e2 r g xs _ w (fun _ => rfl) e46) (hK.out _ w (Kp.refl _ _) rfl)
set_option maxRecDepth 100000 in
theorem rc6_e3 (r g : Nat) (xs : List Nat) (ev : Operand → Value) (z : World) (ec : ∀ c, ev (.const c) = c) (ef : ∀ f, ev (.func f) = .func (.func f) #[] #[]) (e47 : ev (.tmp 47) = .pointer (some ⟨r, 0, none⟩)) : (execOp ev ⟨some 48, Op.call { callee := Callee.value (Operand.func 154), args := #[Operand.tmp 47], argTypes := #[211] }, 3, "", #[], none⟩).run Tryz.prog z = .ok (.enter 154 #[.pointer (some ⟨r, 0, none⟩)]) z := enter_run _ (ef _) (by simp only [List.map_toArray, List.map_cons, List.map_nil, ec, ef, e47]) (fun _ => by rfl)
set_option maxRecDepth 100000 in
theorem rc6_s3 {Q : Exit → Act → World → Prop} (Z : Nat → Prop) (r g : Nat) (xs : List Nat) (cs : List Value) (w0 : World) (y2 : Value) (hb : ∀ x ∈ xs, x < 256) (hrg : r ≠ g) (hZg : ¬ Z g) (hcs : 11 ≤ cs.length) (hpan : ∀ a w, rc6B r g y2 a → Kp (fun b => b = r ∨ b = g) w0 w → seqN xs 2 = none → Q (.panic gaveUp) a w) : (rc6C Z r g xs cs w0 y2).Step Tryz.prog Q 3 ⟨some 48, Op.call { callee := Callee.value (Operand.func 154), args := #[Operand.tmp 47], argTypes := #[211] }, 3, "", #[], none⟩ [2] := by
  refine Chn.link _ 0 rfl (fun q hq => by omega) (show 0 < 4 by decide) (Or.inl ⟨rfl, show 48 < 80 by decide⟩) (by decide) rfl ?_
  intro a w hn hB hW hd K hK
  have e47 : a.eval (.tmp 47) = .pointer (some ⟨r, 0, none⟩) := hd 2 (by decide)
  refine wp_enterP (rc6_e3 r g xs _ w (fun _ => rfl) (fun _ => rfl) e47) (NW.call (Z := Z) (g := g) (cs := cs) (offs := [9, 10]) (w0 := w0) (k := 2) (j := 0) hW (by decide) hb hrg hZg) ?_
  rintro e9 w9 (⟨rfl, h9⟩ | ⟨rfl, h9, h8⟩)
  · exact Or.inl ⟨_, rfl, hK.out _ _ h9 (fun _ _ _ h => h) rfl⟩
  · exact Or.inr ⟨_, rfl, hpan a w9 hB h9 (seqN_none h8 (by decide))⟩
set_option maxRecDepth 100000 in
theorem rc6_e4 (r g : Nat) (xs : List Nat) (ev : Operand → Value) (z : World) (ec : ∀ c, ev (.const c) = c) (e0 : ev (.tmp 0) = .pointer (some ⟨r, 0, none⟩)) : (execOp ev ⟨some 49, Op.move (Operand.tmp 0), 263, "", #[], none⟩).run Tryz.prog z = .ok (.value (.pointer (some ⟨r, 0, none⟩))) z := by
  go_simp
set_option maxRecDepth 100000 in
theorem rc6_s4 {Q : Exit → Act → World → Prop} (Z : Nat → Prop) (r g : Nat) (xs : List Nat) (cs : List Value) (w0 : World) (y2 : Value) (hb : ∀ x ∈ xs, x < 256) (hrg : r ≠ g) (hZg : ¬ Z g) (hcs : 11 ≤ cs.length) (hpan : ∀ a w, rc6B r g y2 a → Kp (fun b => b = r ∨ b = g) w0 w → seqN xs 2 = none → Q (.panic gaveUp) a w) : (rc6C Z r g xs cs w0 y2).Step Tryz.prog Q 4 ⟨some 49, Op.move (Operand.tmp 0), 263, "", #[], none⟩ [] := by
  refine Chn.pure _ rfl rfl (show 49 < 80 by decide) (by decide) rfl ?_
  intro a w m hn hB hW hdm hup hd K hK
  have e0 : a.eval (.tmp 0) = .pointer (some ⟨r, 0, none⟩) := hB.1
  exact run_value (rc6_e4 r g xs _ w (fun _ => rfl) e0) (hK.out _ w (Kp.refl _ _) rfl)
set_option maxRecDepth 100000 in
theorem rc6_e5 (r g : Nat) (xs : List Nat) (ev : Operand → Value) (z : World) (ec : ∀ c, ev (.const c) = c) (e49 : ev (.tmp 49) = .pointer (some ⟨r, 0, none⟩)) : (execOp ev ⟨some 50, Op.nilCheck (Operand.tmp 49), 0, "", #[], none⟩).run Tryz.prog z = .ok (.value (.pointer (some ⟨r, 0, none⟩))) z := by
  go_simp
set_option maxRecDepth 100000 in
theorem rc6_s5 {Q : Exit → Act → World → Prop} (Z : Nat → Prop) (r g : Nat) (xs : List Nat) (cs : List Value) (w0 : World) (y2 : Value) (hb : ∀ x ∈ xs, x < 256) (hrg : r ≠ g) (hZg : ¬ Z g) (hcs : 11 ≤ cs.length) (hpan : ∀ a w, rc6B r g y2 a → Kp (fun b => b = r ∨ b = g) w0 w → seqN xs 2 = none → Q (.panic gaveUp) a w) : (rc6C Z r g xs cs w0 y2).Step Tryz.prog Q 5 ⟨some 50, Op.nilCheck (Operand.tmp 49), 0, "", #[], none⟩ [4] := by
  refine Chn.pure _ rfl rfl (show 50 < 80 by decide) (by decide) rfl ?_
  intro a w m hn hB hW hdm hup hd K hK
  have e49 : a.eval (.tmp 49) = .pointer (some ⟨r, 0, none⟩) := hd 4 (by decide)
  exact run_value (rc6_e5 r g xs _ w (fun _ => rfl) e49) (hK.out _ w (Kp.refl _ _) rfl)
set_option maxRecDepth 100000 in
theorem rc6_e6 (r g : Nat) (xs : List Nat) (ev : Operand → Value) (z : World) (ec : ∀ c, ev (.const c) = c) (e50 : ev (.tmp 50) = .pointer (some ⟨r, 0, none⟩)) : (execOp ev ⟨some 51, Op.fieldAddr 213 (Operand.tmp 50) 0, 0, "", #[], none⟩).run Tryz.prog z = .ok (.value (.pointer (some ⟨r, 0, none⟩))) z := by
  go_simp
set_option maxRecDepth 100000 in
theorem rc6_s6 {Q : Exit → Act → World → Prop} (Z : Nat → Prop) (r g : Nat) (xs : List Nat) (cs : List Value) (w0 : World) (y2 : Value) (hb : ∀ x ∈ xs, x < 256) (hrg : r ≠ g) (hZg : ¬ Z g) (hcs : 11 ≤ cs.length) (hpan : ∀ a w, rc6B r g y2 a → Kp (fun b => b = r ∨ b = g) w0 w → seqN xs 2 = none → Q (.panic gaveUp) a w) : (rc6C Z r g xs cs w0 y2).Step Tryz.prog Q 6 ⟨some 51, Op.fieldAddr 213 (Operand.tmp 50) 0, 0, "", #[], none⟩ [5] := by
  refine Chn.pure _ rfl rfl (show 51 < 80 by decide) (by decide) rfl ?_
  intro a w m hn hB hW hdm hup hd K hK
  have e50 : a.eval (.tmp 50) = .pointer (some ⟨r, 0, none⟩) := hd 5 (by decide)
  exact run_value (rc6_e6 r g xs _ w (fun _ => rfl) e50) (hK.out _ w (Kp.refl _ _) rfl)
set_option maxRecDepth 100000 in
theorem rc6_e7 (r g : Nat) (xs : List Nat) (ev : Operand → Value) (z : World) (ec : ∀ c, ev (.const c) = c) (ef : ∀ f, ev (.func f) = .func (.func f) #[] #[]) (e51 : ev (.tmp 51) = .pointer (some ⟨r, 0, none⟩)) : (execOp ev ⟨some 52, Op.call { callee := Callee.value (Operand.func 154), args := #[Operand.tmp 51], argTypes := #[211] }, 3, "", #[], none⟩).run Tryz.prog z = .ok (.enter 154 #[.pointer (some ⟨r, 0, none⟩)]) z := enter_run _ (ef _) (by simp only [List.map_toArray, List.map_cons, List.map_nil, ec, ef, e51]) (fun _ => by rfl)
set_option maxRecDepth 100000 in
theorem rc6_s7 {Q : Exit → Act → World → Prop} (Z : Nat → Prop) (r g : Nat) (xs : List Nat) (cs : List Value) (w0 : World) (y2 : Value) (hb : ∀ x ∈ xs, x < 256) (hrg : r ≠ g) (hZg : ¬ Z g) (hcs : 11 ≤ cs.length) (hpan : ∀ a w, rc6B r g y2 a → Kp (fun b => b = r ∨ b = g) w0 w → seqN xs 2 = none → Q (.panic gaveUp) a w) : (rc6C Z r g xs cs w0 y2).Step Tryz.prog Q 7 ⟨some 52, Op.call { callee := Callee.value (Operand.func 154), args := #[Operand.tmp 51], argTypes := #[211] }, 3, "", #[], none⟩ [6, 3] := by
  refine Chn.link _ 1 rfl (prevOf 3 0 (by decide) rfl) (show 1 < 4 by decide) (Or.inl ⟨rfl, show 52 < 80 by decide⟩) (by decide) rfl ?_
  intro a w hn hB hW hd K hK
  have e51 : a.eval (.tmp 51) = .pointer (some ⟨r, 0, none⟩) := hd 6 (by decide)
  refine wp_enterP (rc6_e7 r g xs _ w (fun _ => rfl) (fun _ => rfl) e51) (NW.call (Z := Z) (g := g) (cs := cs) (offs := [9, 10]) (w0 := w0) (k := 2) (j := 1) hW (by decide) hb hrg hZg) ?_
  rintro e9 w9 (⟨rfl, h9⟩ | ⟨rfl, h9, h8⟩)
  · exact Or.inl ⟨_, rfl, hK.out _ _ h9 (fun _ _ _ h => h) rfl⟩
  · exact Or.inr ⟨_, rfl, hpan a w9 hB h9 (seqN_none h8 (by decide))⟩
set_option maxRecDepth 100000 in
theorem rc6_e8 (r g : Nat) (xs : List Nat) (ev : Operand → Value) (z : World) (ec : ∀ c, ev (.const c) = c) (e3 : ev (.tmp 3) = .pointer (some ⟨g, 0, none⟩)) : (execOp ev ⟨some 53, Op.fieldAddr 31 (Operand.tmp 3) 9, 0, "", #[], none⟩).run Tryz.prog z = .ok (.value (.pointer (some ⟨g, 9, none⟩))) z := by
  go_simp
set_option maxRecDepth 100000 in
theorem rc6_s8 {Q : Exit → Act → World → Prop} (Z : Nat → Prop) (r g : Nat) (xs : List Nat) (cs : List Value) (w0 : World) (y2 : Value) (hb : ∀ x ∈ xs, x < 256) (hrg : r ≠ g) (hZg : ¬ Z g) (hcs : 11 ≤ cs.length) (hpan : ∀ a w, rc6B r g y2 a → Kp (fun b => b = r ∨ b = g) w0 w → seqN xs 2 = none → Q (.panic gaveUp) a w) : (rc6C Z r g xs cs w0 y2).Step Tryz.prog Q 8 ⟨some 53, Op.fieldAddr 31 (Operand.tmp 3) 9, 0, "", #[], none⟩ [0, 1, 2, 3] := by
  refine Chn.pure _ rfl rfl (show 53 < 80 by decide) (by decide) rfl ?_
  intro a w m hn hB hW hdm hup hd K hK
  have e3 : a.eval (.tmp 3) = .pointer (some ⟨g, 0, none⟩) := hB.2.2.1
  exact run_value (rc6_e8 r g xs _ w (fun _ => rfl) e3) (hK.out _ w (Kp.refl _ _) rfl)
set_option maxRecDepth 100000 in
theorem rc6_e9 (r g : Nat) (xs : List Nat) (ev : Operand → Value) (z : World) (ec : ∀ c, ev (.const c) = c) (e53 : ev (.tmp 53) = .pointer (some ⟨g, 9, none⟩)) : (execOp ev ⟨some 54, Op.fieldAddr 28 (Operand.tmp 53) 0, 0, "", #[], none⟩).run Tryz.prog z = .ok (.value (.pointer (some ⟨g, 9, none⟩))) z := by
  go_simp
set_option maxRecDepth 100000 in
theorem rc6_s9 {Q : Exit → Act → World → Prop} (Z : Nat → Prop) (r g : Nat) (xs : List Nat) (cs : List Value) (w0 : World) (y2 : Value) (hb : ∀ x ∈ xs, x < 256) (hrg : r ≠ g) (hZg : ¬ Z g) (hcs : 11 ≤ cs.length) (hpan : ∀ a w, rc6B r g y2 a → Kp (fun b => b = r ∨ b = g) w0 w → seqN xs 2 = none → Q (.panic gaveUp) a w) : (rc6C Z r g xs cs w0 y2).Step Tryz.prog Q 9 ⟨some 54, Op.fieldAddr 28 (Operand.tmp 53) 0, 0, "", #[], none⟩ [8, 0, 1, 2, 3] := by
  refine Chn.pure _ rfl rfl (show 54 < 80 by decide) (by decide) rfl ?_
  intro a w m hn hB hW hdm hup hd K hK
  have e53 : a.eval (.tmp 53) = .pointer (some ⟨g, 9, none⟩) := hd 8 (by decide)
  exact run_value (rc6_e9 r g xs _ w (fun _ => rfl) e53) (hK.out _ w (Kp.refl _ _) rfl)
set_option maxRecDepth 100000 in
theorem rc6_e10 (r g : Nat) (xs : List Nat) (ev : Operand → Value) (z : World) (ec : ∀ c, ev (.const c) = c) (e48 : ev (.tmp 48) = .int .i64 (seqV xs 0 : Int)) (e54 : ev (.tmp 54) = .pointer (some ⟨g, 9, none⟩)) {u : Value} (hu : z.cell? ⟨g, 9, none⟩ = some u) (hf : z.frozen? ⟨g, 9, none⟩ = false) : (execOp ev ⟨none, Op.store 3 (Operand.tmp 54) (Operand.tmp 48), 0, "", #[], none⟩).run Tryz.prog z = .ok .skip (z.setCell ⟨g, 9, none⟩ (.int .i64 (seqV xs 0 : Int))) := by
  go_simp
set_option maxRecDepth 100000 in
theorem rc6_s10 {Q : Exit → Act → World → Prop} (Z : Nat → Prop) (r g : Nat) (xs : List Nat) (cs : List Value) (w0 : World) (y2 : Value) (hb : ∀ x ∈ xs, x < 256) (hrg : r ≠ g) (hZg : ¬ Z g) (hcs : 11 ≤ cs.length) (hpan : ∀ a w, rc6B r g y2 a → Kp (fun b => b = r ∨ b = g) w0 w → seqN xs 2 = none → Q (.panic gaveUp) a w) : (rc6C Z r g xs cs w0 y2).Step Tryz.prog Q 10 ⟨none, Op.store 3 (Operand.tmp 54) (Operand.tmp 48), 0, "", #[], none⟩ [9, 3, 7, 0, 1, 2, 3] := by
  refine Chn.link _ 2 rfl (prevOf 7 1 (by decide) rfl) (show 2 < 4 by decide) (Or.inr ⟨rfl, show 80 ≤ 90 by decide, fun _ _ => trivial⟩) (by decide) rfl ?_
  intro a w hn hB hW hd K hK
  have e48 : a.eval (.tmp 48) = .int .i64 (seqV xs 0 : Int) := hd 3 (by decide)
  have e54 : a.eval (.tmp 54) = .pointer (some ⟨g, 9, none⟩) := hd 9 (by decide)
  obtain ⟨⟨u, hu⟩, hf, hN⟩ := NW.store (Z := Z) (k := 2) (r := r) (g := g) (xs := xs) (cs := cs) (offs := [9, 10]) (w0 := w0) (j := 2) hW 0 9 rfl rfl (by omega) hrg hZg
  exact run_skip rfl (rc6_e10 r g xs _ w (fun _ => rfl) e48 e54 hu hf) (fun v => hK.out v _ hN (fun _ _ _ h => h) trivial)
set_option maxRecDepth 100000 in
theorem rc6_e11 (r g : Nat) (xs : List Nat) (ev : Operand → Value) (z : World) (ec : ∀ c, ev (.const c) = c) (e3 : ev (.tmp 3) = .pointer (some ⟨g, 0, none⟩)) : (execOp ev ⟨some 55, Op.fieldAddr 31 (Operand.tmp 3) 9, 0, "", #[], none⟩).run Tryz.prog z = .ok (.value (.pointer (some ⟨g, 9, none⟩))) z := by
  go_simp
set_option maxRecDepth 100000 in
theorem rc6_s11 {Q : Exit → Act → World → Prop} (Z : Nat → Prop) (r g : Nat) (xs : List Nat) (cs : List Value) (w0 : World) (y2 : Value) (hb : ∀ x ∈ xs, x < 256) (hrg : r ≠ g) (hZg : ¬ Z g) (hcs : 11 ≤ cs.length) (hpan : ∀ a w, rc6B r g y2 a → Kp (fun b => b = r ∨ b = g) w0 w → seqN xs 2 = none → Q (.panic gaveUp) a w) : (rc6C Z r g xs cs w0 y2).Step Tryz.prog Q 11 ⟨some 55, Op.fieldAddr 31 (Operand.tmp 3) 9, 0, "", #[], none⟩ [0, 1, 2, 3, 4, 5, 6, 7, 8, 9, 10] := by
  refine Chn.pure _ rfl rfl (show 55 < 80 by decide) (by decide) rfl ?_
  intro a w m hn hB hW hdm hup hd K hK
  have e3 : a.eval (.tmp 3) = .pointer (some ⟨g, 0, none⟩) := hB.2.2.1
  exact run_value (rc6_e11 r g xs _ w (fun _ => rfl) e3) (hK.out _ w (Kp.refl _ _) rfl)
set_option maxRecDepth 100000 in
theorem rc6_e12 (r g : Nat) (xs : List Nat) (ev : Operand → Value) (z : World) (ec : ∀ c, ev (.const c) = c) (e55 : ev (.tmp 55) = .pointer (some ⟨g, 9, none⟩)) : (execOp ev ⟨some 56, Op.fieldAddr 28 (Operand.tmp 55) 1, 0, "", #[], none⟩).run Tryz.prog z = .ok (.value (.pointer (some ⟨g, 10, none⟩))) z := by
  go_simp
set_option maxRecDepth 100000 in
theorem rc6_s12 {Q : Exit → Act → World → Prop} (Z : Nat → Prop) (r g : Nat) (xs : List Nat) (cs : List Value) (w0 : World) (y2 : Value) (hb : ∀ x ∈ xs, x < 256) (hrg : r ≠ g) (hZg : ¬ Z g) (hcs : 11 ≤ cs.length) (hpan : ∀ a w, rc6B r g y2 a → Kp (fun b => b = r ∨ b = g) w0 w → seqN xs 2 = none → Q (.panic gaveUp) a w) : (rc6C Z r g xs cs w0 y2).Step Tryz.prog Q 12 ⟨some 56, Op.fieldAddr 28 (Operand.tmp 55) 1, 0, "", #[], none⟩ [11, 0, 1, 2, 3, 4, 5, 6, 7, 8, 9, 10] := by
  refine Chn.pure _ rfl rfl (show 56 < 80 by decide) (by decide) rfl ?_
  intro a w m hn hB hW hdm hup hd K hK
  have e55 : a.eval (.tmp 55) = .pointer (some ⟨g, 9, none⟩) := hd 11 (by decide)
  exact run_value (rc6_e12 r g xs _ w (fun _ => rfl) e55) (hK.out _ w (Kp.refl _ _) rfl)
set_option maxRecDepth 100000 in
theorem rc6_e13 (r g : Nat) (xs : List Nat) (ev : Operand → Value) (z : World) (ec : ∀ c, ev (.const c) = c) (e52 : ev (.tmp 52) = .int .i64 (seqV xs 1 : Int)) (e56 : ev (.tmp 56) = .pointer (some ⟨g, 10, none⟩)) {u : Value} (hu : z.cell? ⟨g, 10, none⟩ = some u) (hf : z.frozen? ⟨g, 10, none⟩ = false) : (execOp ev ⟨none, Op.store 3 (Operand.tmp 56) (Operand.tmp 52), 0, "", #[], none⟩).run Tryz.prog z = .ok .skip (z.setCell ⟨g, 10, none⟩ (.int .i64 (seqV xs 1 : Int))) := by
  go_simp
set_option maxRecDepth 100000 in
theorem rc6_s13 {Q : Exit → Act → World → Prop} (Z : Nat → Prop) (r g : Nat) (xs : List Nat) (cs : List Value) (w0 : World) (y2 : Value) (hb : ∀ x ∈ xs, x < 256) (hrg : r ≠ g) (hZg : ¬ Z g) (hcs : 11 ≤ cs.length) (hpan : ∀ a w, rc6B r g y2 a → Kp (fun b => b = r ∨ b = g) w0 w → seqN xs 2 = none → Q (.panic gaveUp) a w) : (rc6C Z r g xs cs w0 y2).Step Tryz.prog Q 13 ⟨none, Op.store 3 (Operand.tmp 56) (Operand.tmp 52), 0, "", #[], none⟩ [12, 7, 10, 0, 1, 2, 3, 4, 5, 6, 7, 8, 9, 10] := by
  refine Chn.link _ 3 rfl (prevOf 10 2 (by decide) rfl) (show 3 < 4 by decide) (Or.inr ⟨rfl, show 80 ≤ 93 by decide, fun _ _ => trivial⟩) (by decide) rfl ?_
  intro a w hn hB hW hd K hK
  have e52 : a.eval (.tmp 52) = .int .i64 (seqV xs 1 : Int) := hd 7 (by decide)
  have e56 : a.eval (.tmp 56) = .pointer (some ⟨g, 10, none⟩) := hd 12 (by decide)
  obtain ⟨⟨u, hu⟩, hf, hN⟩ := NW.store (Z := Z) (k := 2) (r := r) (g := g) (xs := xs) (cs := cs) (offs := [9, 10]) (w0 := w0) (j := 3) hW 1 10 rfl rfl (by omega) hrg hZg
  exact run_skip rfl (rc6_e13 r g xs _ w (fun _ => rfl) e52 e56 hu hf) (fun v => hK.out v _ hN (fun _ _ _ h => h) trivial)
theorem rc6_steps {Q : Exit → Act → World → Prop} (Z : Nat → Prop) (r g : Nat) (xs : List Nat) (cs : List Value) (w0 : World) (y2 : Value) (hb : ∀ x ∈ xs, x < 256) (hrg : r ≠ g) (hZg : ¬ Z g) (hcs : 11 ≤ cs.length) (hpan : ∀ a w, rc6B r g y2 a → Kp (fun b => b = r ∨ b = g) w0 w → seqN xs 2 = none → Q (.panic gaveUp) a w) : (rc6C Z r g xs cs w0 y2).Steps Tryz.prog Q 0 rc6T := ⟨rc6_s0 Z r g xs cs w0 y2 hb hrg hZg hcs hpan, rc6_s1 Z r g xs cs w0 y2 hb hrg hZg hcs hpan, rc6_s2 Z r g xs cs w0 y2 hb hrg hZg hcs hpan, rc6_s3 Z r g xs cs w0 y2 hb hrg hZg hcs hpan, rc6_s4 Z r g xs cs w0 y2 hb hrg hZg hcs hpan, rc6_s5 Z r g xs cs w0 y2 hb hrg hZg hcs hpan, rc6_s6 Z r g xs cs w0 y2 hb hrg hZg hcs hpan, rc6_s7 Z r g xs cs w0 y2 hb hrg hZg hcs hpan, rc6_s8 Z r g xs cs w0 y2 hb hrg hZg hcs hpan, rc6_s9 Z r g xs cs w0 y2 hb hrg hZg hcs hpan, rc6_s10 Z r g xs cs w0 y2 hb hrg hZg hcs hpan, rc6_s11 Z r g xs cs w0 y2 hb hrg hZg hcs hpan, rc6_s12 Z r g xs cs w0 y2 hb hrg hZg hcs hpan, rc6_s13 Z r g xs cs w0 y2 hb hrg hZg hcs hpan, trivial⟩
/-- the region: the numbers are read and laid into the struct, or it gives up -/
theorem rc6_region {ops : Array Oper} {rid : Nat} {Q : Exit → Act → World → Prop} {a : Act} {y : World} (Z : Nat → Prop) (r g : Nat) (xs : List Nat) (cs : List Value) (y2 : Value) (hT : ops.toList.map (fun o => (bare o, deps o)) = rc6T) (hn : a.tmps.size = 80) (hB : rc6B r g y2 a)
    (hb : ∀ x ∈ xs, x < 256) (hrg : r ≠ g) (hZg : ¬ Z g) (hcs : 11 ≤ cs.length) (hc : Cu Z y r xs) (hl : Lv y g cs)
    (hpan : ∀ a w, rc6B r g y2 a → Kp (fun b => b = r ∨ b = g) y w → seqN xs 2 = none → Q (.panic gaveUp) a w)
    (hend : ∀ q45 q46 q47 q48 q49 q50 q51 q52 q53 q54 q55 q56 w t, Kp (fun b => b = r ∨ b = g) y w → seqN xs 2 = some t → Cu Z w r t → Lv w g (setsN xs 0 [9, 10] cs) → Q .normal ((((((((((((a.put (some 45) q45).put (some 46) q46).put (some 47) q47).put (some 48) q48).put (some 49) q49).put (some 50) q50).put (some 51) q51).put (some 52) q52).put (some 53) q53).put (some 54) q54).put (some 55) q55).put (some 56) q56) w) : (Code.region rid ops true).wp Tryz.prog Q a y := by
  have kd : Kp (fun b => b = r ∨ b = g) y y.drew := (Kp.refl _ _).drew
  have k0 : Kp (fun _ => False) y y.drew := (Kp.refl _ _).drew
  refine chain_region (rc6C Z r g xs cs y.drew y2) (by kernel_rfl) hT hn hB (fun k v a hk _ h => rc6B_put r g y2 k v a hk h) (fun i j h1 h2 => rc6D_inj i h1 j h2) (fun i j p h1 h2 => posOf_inj _ i j p) (posOf_at [3, 7, 10, 13] 14 (by decide) (by decide)) ?_ (fun m w w' hk h => NW.grow h hk) (fun i v w w' hk h => h) (rc6_steps Z r g xs cs y.drew y2 hb hrg hZg hcs (fun a w h1 h2 h3 => hpan a w h1 (kd.trans h2 (fun _ _ e => e)) h3)) ?_
  · exact ⟨Kp.refl _ _, xs, rfl, hc.keep k0 id (fun _ _ => id), hl.keep k0 id⟩
  · rintro a' w h1 h2 hfr ⟨h3, t, h4, h5, h6⟩ _
    rw [act_puts a' [45, 46, 47, 48, 49, 50, 51, 52, 53, 54, 55, 56] a (h1.trans hn.symm) (h2.2.2.2.trans hB.2.2.2.symm) (fun t ht => by
      rcases Nat.lt_or_ge t a'.tmps.size with hl | hl
      · exact hfr t (fun k hk e => ht (rc6D_mem k hk t e (Nat.lt_of_lt_of_eq hl h1)))
      · rw [eval_past a' t hl, eval_past a t (by have h9 : a.tmps.size = a'.tmps.size := hn.trans h1.symm; omega)])]
    exact hend (a'.eval (.tmp 45)) (a'.eval (.tmp 46)) (a'.eval (.tmp 47)) (a'.eval (.tmp 48)) (a'.eval (.tmp 49)) (a'.eval (.tmp 50)) (a'.eval (.tmp 51)) (a'.eval (.tmp 52)) (a'.eval (.tmp 53)) (a'.eval (.tmp 54)) (a'.eval (.tmp 55)) (a'.eval (.tmp 56)) w t (kd.trans h3 (fun _ _ e => e)) h4 h5 h6

end Go.Proofs.YtippipeebkkghaaGreatDoor
