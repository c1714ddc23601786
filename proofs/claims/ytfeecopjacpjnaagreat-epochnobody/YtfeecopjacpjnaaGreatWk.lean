/- Same of a state of one node with itself (laid by scripts/mkwk.py). -/
import Derived.Test.YtfeecopjacpjnaaGreatWj
namespace Go.Proofs.YtfeecopjacpjnaaGreat
set_option linter.unusedVariables false
set_option linter.unusedSimpArgs false
open Go.RowKit Go.Deep Go.Maps

theorem exec_ldZ {ev : Operand → Value} {g : Option (Nat × Bool)} {d : Option Tmp} {ty ty2 : TypeId} {x : Operand} {v : Value} {b : Addr} {z : World} (he : ev x = .pointer (some b)) (hr : (loadVar ty b).run Tryz.prog z = .ok v z) : (execOp ev ⟨d, Op.load ty x, ty2, "", #[], g⟩).run Tryz.prog z = .ok (.value v) z := by
  unfold execOp
  simp only [he]
  simp [Instr.loadAt, Instr.sureAddr, hr]
theorem lv_row {u : World} {g : Nat} {cs : List Value} (h : Lv u g cs) (o n : Nat) {ty : TypeId} (hd : ∃ d, Tryz.prog.underlying ty = some d ∧ d.isRow = true) (hi : (Tryz.prog.info? ty).map (·.size) = some n) (xs : List Value) (hx : (cs.drop o).take n = xs) (hl : xs.length = n) : (loadVar ty ⟨g, o, none⟩).run Tryz.prog u = .ok (.agg xs.toArray) u := by
  obtain ⟨d, hd1, hd2⟩ := hd
  refine run_loadVar_mid u g o ty xs d (fun j v hv => ?_) hd1 hd2 (by rw [hi, hl])
  have hj : j < n := by
    have := (List.getElem?_eq_some_iff.1 hv).1
    omega
  rw [← hx, List.getElem?_take_of_lt hj, List.getElem?_drop] at hv
  have := h.r (o + j) v hv
  rwa [Nat.zero_add] at this
theorem eqN1 (z : World) : (binOp BinOp.eql 30 (.agg #[.bool true, .bool false, .bool false, .bool false, .bool false, .bool false, .bool false, .bool false, .bool false, .bool false, .bool false, .bool false, .bool false, .bool false, .bool false, .bool false]) (.agg #[.bool true, .bool false, .bool false, .bool false, .bool false, .bool false, .bool false, .bool false, .bool false, .bool false, .bool false, .bool false, .bool false, .bool false, .bool false, .bool false])).run Tryz.prog z = .ok (.bool true) z := by kernel_rfl
theorem eqN0 (z : World) : (binOp BinOp.eql 30 (.agg #[.bool false, .bool false, .bool false, .bool false, .bool false, .bool false, .bool false, .bool false, .bool false, .bool false, .bool false, .bool false, .bool false, .bool false, .bool false, .bool false]) (.agg #[.bool false, .bool false, .bool false, .bool false, .bool false, .bool false, .bool false, .bool false, .bool false, .bool false, .bool false, .bool false, .bool false, .bool false, .bool false, .bool false])).run Tryz.prog z = .ok (.bool true) z := by kernel_rfl
theorem eqCd (z : World) : (binOp BinOp.eql 24 (.agg #[.int .i64 1, .int .i64 0]) (.agg #[.int .i64 1, .int .i64 0])).run Tryz.prog z = .ok (.bool true) z := by kernel_rfl

def ssV (g gt m1 m2 m3 m4 m5 : Nat) : Nat → Value
  | 0 => .pointer (some ⟨g, 0, none⟩)
  | 1 => .pointer (some ⟨g, 0, none⟩)
  | 2 => .pointer (some ⟨g, 0, none⟩)
  | 3 => .int .i64 1
  | 4 => .pointer (some ⟨g, 0, none⟩)
  | 5 => .pointer (some ⟨g, 0, none⟩)
  | 6 => .pointer (some ⟨g, 0, none⟩)
  | 7 => .int .i64 1
  | 8 => .bool true
  | 9 => .bool true
  | 10 => .pointer (some ⟨g, 0, none⟩)
  | 11 => .pointer (some ⟨g, 0, none⟩)
  | 12 => .pointer (some ⟨g, 1, none⟩)
  | 13 => .int .i64 1
  | 14 => .pointer (some ⟨g, 0, none⟩)
  | 15 => .pointer (some ⟨g, 0, none⟩)
  | 16 => .pointer (some ⟨g, 1, none⟩)
  | 17 => .int .i64 1
  | 18 => .bool true
  | 19 => .bool true
  | 20 => .bool true
  | 21 => .pointer (some ⟨g, 0, none⟩)
  | 22 => .pointer (some ⟨g, 0, none⟩)
  | 23 => .pointer (some ⟨g, 2, none⟩)
  | 24 => .int .i64 1
  | 25 => .pointer (some ⟨g, 0, none⟩)
  | 26 => .pointer (some ⟨g, 0, none⟩)
  | 27 => .pointer (some ⟨g, 2, none⟩)
  | 28 => .int .i64 1
  | 29 => .bool true
  | 30 => .bool true
  | 31 => .bool true
  | 32 => .pointer (some ⟨g, 0, none⟩)
  | 33 => .pointer (some ⟨g, 0, none⟩)
  | 34 => .pointer (some ⟨g, 3, none⟩)
  | 35 => .agg #[.bool true, .bool false, .bool false, .bool false, .bool false, .bool false, .bool false, .bool false, .bool false, .bool false, .bool false, .bool false, .bool false, .bool false, .bool false, .bool false]
  | 36 => .pointer (some ⟨g, 0, none⟩)
  | 37 => .pointer (some ⟨g, 0, none⟩)
  | 38 => .pointer (some ⟨g, 3, none⟩)
  | 39 => .agg #[.bool true, .bool false, .bool false, .bool false, .bool false, .bool false, .bool false, .bool false, .bool false, .bool false, .bool false, .bool false, .bool false, .bool false, .bool false, .bool false]
  | 40 => .bool true
  | 41 => .bool true
  | 42 => .bool true
  | 43 => .pointer (some ⟨g, 0, none⟩)
  | 44 => .pointer (some ⟨g, 0, none⟩)
  | 45 => .pointer (some ⟨g, 19, none⟩)
  | 46 => .agg #[.bool false, .bool false, .bool false, .bool false, .bool false, .bool false, .bool false, .bool false, .bool false, .bool false, .bool false, .bool false, .bool false, .bool false, .bool false, .bool false]
  | 47 => .pointer (some ⟨g, 0, none⟩)
  | 48 => .pointer (some ⟨g, 0, none⟩)
  | 49 => .pointer (some ⟨g, 19, none⟩)
  | 50 => .agg #[.bool false, .bool false, .bool false, .bool false, .bool false, .bool false, .bool false, .bool false, .bool false, .bool false, .bool false, .bool false, .bool false, .bool false, .bool false, .bool false]
  | 51 => .bool true
  | 52 => .bool true
  | 53 => .bool true
  | 54 => .pointer (some ⟨g, 0, none⟩)
  | 55 => .pointer (some ⟨g, 0, none⟩)
  | 56 => .pointer (some ⟨g, 36, none⟩)
  | 57 => .agg #[.int .i64 1, .int .i64 0]
  | 58 => .pointer (some ⟨g, 0, none⟩)
  | 59 => .pointer (some ⟨g, 0, none⟩)
  | 60 => .pointer (some ⟨g, 36, none⟩)
  | 61 => .agg #[.int .i64 1, .int .i64 0]
  | 62 => .bool true
  | 63 => .bool true
  | 64 => .bool true
  | 65 => .pointer (some ⟨g, 0, none⟩)
  | 66 => .pointer (some ⟨g, 0, none⟩)
  | 67 => .pointer (some ⟨g, 35, none⟩)
  | 68 => .slice (some ⟨gt, 0, none⟩) 1 1
  | 69 => .pointer (some ⟨g, 0, none⟩)
  | 70 => .pointer (some ⟨g, 0, none⟩)
  | 71 => .pointer (some ⟨g, 35, none⟩)
  | 72 => .slice (some ⟨gt, 0, none⟩) 1 1
  | 73 => .bool true
  | 74 => .bool true
  | 75 => .bool true
  | _ => undef
abbrev ssR (g gt m1 m2 m3 m4 m5 : Nat) : Nat → Value → World → Prop := fun i v _ => v = ssV g gt m1 m2 m3 m4 m5 i
def ssD (k : Nat) : Nat := [5, 6, 7, 8, 9, 10, 11, 12, 13, 14, 15, 16, 17, 18, 19, 20, 21, 22, 23, 24, 25, 26, 27, 28, 29, 30, 31, 32, 33, 34, 35, 36, 37, 38, 39, 40, 41, 42, 43, 44, 45, 46, 47, 48, 49, 50, 51, 52, 53, 54, 55, 56, 57, 58, 59, 60, 61, 62, 63, 64, 65, 66, 67, 68, 69, 70, 71, 72, 73, 74, 75, 76, 77, 78, 79, 4].getD k 0
def ssB (g gt m1 m2 m3 m4 m5 : Nat) (a : Act) : Prop := a.eval (.tmp 0) = .pointer (some ⟨g, 0, none⟩) ∧ a.eval (.tmp 1) = .pointer (some ⟨g, 0, none⟩) ∧ a.defers = []
theorem ssD_ne : ∀ k, k < 76 → ssD k ≠ 0 ∧ ssD k ≠ 1 := by decide
theorem ssB_put (g gt m1 m2 m3 m4 m5 : Nat) (k : Nat) (v : Value) (a : Act) (hk : k < 76) (h : ssB g gt m1 m2 m3 m4 m5 a) : ssB g gt m1 m2 m3 m4 m5 (a.put (some (ssD k)) v) := by
  have hne := ssD_ne k hk
  refine ⟨?_, ?_, h.2.2⟩
  · rw [← h.1]
    show (a.tmps.setIfInBounds (ssD k) v).getD 0 undef = a.tmps.getD 0 undef
    simp [Array.getElem?_setIfInBounds_ne (hne.1)]
  · rw [← h.2.1]
    show (a.tmps.setIfInBounds (ssD k) v).getD 1 undef = a.tmps.getD 1 undef
    simp [Array.getElem?_setIfInBounds_ne (hne.2)]
theorem ssD_inj0 : ∀ i, i < 76 → ∀ j, j < 76 → ssD i = ssD j → i = j := by decide

set_option maxRecDepth 100000 in
theorem ss_e0 (g gt m1 m2 m3 m4 m5 : Nat) (ev : Operand → Value) (z : World) (ec : ∀ c, ev (.const c) = c) (e0 : ev (.tmp 0) = .pointer (some ⟨g, 0, none⟩)) : (execOp ev ⟨some 5, Op.move (Operand.tmp 0), 28, "", #[], none⟩).run Tryz.prog z = .ok (.value (.pointer (some ⟨g, 0, none⟩))) z := by
  go_simp
set_option maxRecDepth 100000 in
theorem ss_s0 {Q : Exit → Act → World → Prop} (g gt m1 m2 m3 m4 m5 : Nat) (w0 : World) (hS : Lv w0 g (stA (.slice (some ⟨gt, 0, none⟩) 1 1) (.map (some m1)) (.map (some m2)) (.map (some m3)) (.map (some m4)) (.map (some m5))).toList) (hT : Tm1 w0 (.slice (some ⟨gt, 0, none⟩) 1 1)) (hM : Ms5 w0 m1 m2 m3 m4 m5) : StepB Tryz.prog Q 80 (ssB g gt m1 m2 m3 m4 m5) w0 (ssR g gt m1 m2 m3 m4 m5) ssD 0 ⟨some 5, Op.move (Operand.tmp 0), 28, "", #[], none⟩ [] := by
  refine ⟨rfl, Or.inl rfl, by decide, by decide, fun a w hn hB hk hd K hK => ?_⟩
  have e0 : a.eval (.tmp 0) = .pointer (some ⟨g, 0, none⟩) := hB.1
  exact step_run rfl (ss_e0 g gt m1 m2 m3 m4 m5 _ w (fun _ => rfl) e0 ) (hK.out _ w (Kp.refl _ _) rfl)
set_option maxRecDepth 100000 in
theorem ss_e1 (g gt m1 m2 m3 m4 m5 : Nat) (ev : Operand → Value) (z : World) (ec : ∀ c, ev (.const c) = c) (e5 : ev (.tmp 5) = .pointer (some ⟨g, 0, none⟩)) : (execOp ev ⟨some 6, Op.nilCheck (Operand.tmp 5), 0, "", #[], none⟩).run Tryz.prog z = .ok (.value (.pointer (some ⟨g, 0, none⟩))) z := by
  go_simp
set_option maxRecDepth 100000 in
theorem ss_s1 {Q : Exit → Act → World → Prop} (g gt m1 m2 m3 m4 m5 : Nat) (w0 : World) (hS : Lv w0 g (stA (.slice (some ⟨gt, 0, none⟩) 1 1) (.map (some m1)) (.map (some m2)) (.map (some m3)) (.map (some m4)) (.map (some m5))).toList) (hT : Tm1 w0 (.slice (some ⟨gt, 0, none⟩) 1 1)) (hM : Ms5 w0 m1 m2 m3 m4 m5) : StepB Tryz.prog Q 80 (ssB g gt m1 m2 m3 m4 m5) w0 (ssR g gt m1 m2 m3 m4 m5) ssD 1 ⟨some 6, Op.nilCheck (Operand.tmp 5), 0, "", #[], none⟩ [0] := by
  refine ⟨rfl, Or.inl rfl, by decide, by decide, fun a w hn hB hk hd K hK => ?_⟩
  have e5 : a.eval (.tmp 5) = .pointer (some ⟨g, 0, none⟩) := hd 0 (by decide)
  exact step_run rfl (ss_e1 g gt m1 m2 m3 m4 m5 _ w (fun _ => rfl) e5 ) (hK.out _ w (Kp.refl _ _) rfl)
set_option maxRecDepth 100000 in
theorem ss_e2 (g gt m1 m2 m3 m4 m5 : Nat) (ev : Operand → Value) (z : World) (ec : ∀ c, ev (.const c) = c) (e6 : ev (.tmp 6) = .pointer (some ⟨g, 0, none⟩)) : (execOp ev ⟨some 7, Op.fieldAddr 38 (Operand.tmp 6) 0, 0, "", #[], none⟩).run Tryz.prog z = .ok (.value (.pointer (some ⟨g, 0, none⟩))) z := by
  go_simp
set_option maxRecDepth 100000 in
theorem ss_s2 {Q : Exit → Act → World → Prop} (g gt m1 m2 m3 m4 m5 : Nat) (w0 : World) (hS : Lv w0 g (stA (.slice (some ⟨gt, 0, none⟩) 1 1) (.map (some m1)) (.map (some m2)) (.map (some m3)) (.map (some m4)) (.map (some m5))).toList) (hT : Tm1 w0 (.slice (some ⟨gt, 0, none⟩) 1 1)) (hM : Ms5 w0 m1 m2 m3 m4 m5) : StepB Tryz.prog Q 80 (ssB g gt m1 m2 m3 m4 m5) w0 (ssR g gt m1 m2 m3 m4 m5) ssD 2 ⟨some 7, Op.fieldAddr 38 (Operand.tmp 6) 0, 0, "", #[], none⟩ [1] := by
  refine ⟨rfl, Or.inl rfl, by decide, by decide, fun a w hn hB hk hd K hK => ?_⟩
  have e6 : a.eval (.tmp 6) = .pointer (some ⟨g, 0, none⟩) := hd 1 (by decide)
  exact step_run rfl (ss_e2 g gt m1 m2 m3 m4 m5 _ w (fun _ => rfl) e6 ) (hK.out _ w (Kp.refl _ _) rfl)
set_option maxRecDepth 100000 in
theorem ss_e3 (g gt m1 m2 m3 m4 m5 : Nat) (ev : Operand → Value) (z : World) (ec : ∀ c, ev (.const c) = c) (e7 : ev (.tmp 7) = .pointer (some ⟨g, 0, none⟩)) (hc : z.cell? ⟨g, 0, none⟩ = some (.int .i64 1)) : (execOp ev ⟨some 8, Op.load 3 (Operand.tmp 7), 3, "", #[], none⟩).run Tryz.prog z = .ok (.value (.int .i64 1)) z := by
  go_simp
set_option maxRecDepth 100000 in
theorem ss_s3 {Q : Exit → Act → World → Prop} (g gt m1 m2 m3 m4 m5 : Nat) (w0 : World) (hS : Lv w0 g (stA (.slice (some ⟨gt, 0, none⟩) 1 1) (.map (some m1)) (.map (some m2)) (.map (some m3)) (.map (some m4)) (.map (some m5))).toList) (hT : Tm1 w0 (.slice (some ⟨gt, 0, none⟩) 1 1)) (hM : Ms5 w0 m1 m2 m3 m4 m5) : StepB Tryz.prog Q 80 (ssB g gt m1 m2 m3 m4 m5) w0 (ssR g gt m1 m2 m3 m4 m5) ssD 3 ⟨some 8, Op.load 3 (Operand.tmp 7), 3, "", #[], none⟩ [2] := by
  refine ⟨rfl, Or.inl rfl, by decide, by decide, fun a w hn hB hk hd K hK => ?_⟩
  have e7 : a.eval (.tmp 7) = .pointer (some ⟨g, 0, none⟩) := hd 2 (by decide)
  exact step_run rfl (ss_e3 g gt m1 m2 m3 m4 m5 _ w (fun _ => rfl) e7 ((hS.keep hk id).cell (j := 0) rfl)) (hK.out _ w (Kp.refl _ _) rfl)
set_option maxRecDepth 100000 in
theorem ss_e4 (g gt m1 m2 m3 m4 m5 : Nat) (ev : Operand → Value) (z : World) (ec : ∀ c, ev (.const c) = c) (e1 : ev (.tmp 1) = .pointer (some ⟨g, 0, none⟩)) : (execOp ev ⟨some 9, Op.move (Operand.tmp 1), 28, "", #[], none⟩).run Tryz.prog z = .ok (.value (.pointer (some ⟨g, 0, none⟩))) z := by
  go_simp
set_option maxRecDepth 100000 in
theorem ss_s4 {Q : Exit → Act → World → Prop} (g gt m1 m2 m3 m4 m5 : Nat) (w0 : World) (hS : Lv w0 g (stA (.slice (some ⟨gt, 0, none⟩) 1 1) (.map (some m1)) (.map (some m2)) (.map (some m3)) (.map (some m4)) (.map (some m5))).toList) (hT : Tm1 w0 (.slice (some ⟨gt, 0, none⟩) 1 1)) (hM : Ms5 w0 m1 m2 m3 m4 m5) : StepB Tryz.prog Q 80 (ssB g gt m1 m2 m3 m4 m5) w0 (ssR g gt m1 m2 m3 m4 m5) ssD 4 ⟨some 9, Op.move (Operand.tmp 1), 28, "", #[], none⟩ [] := by
  refine ⟨rfl, Or.inl rfl, by decide, by decide, fun a w hn hB hk hd K hK => ?_⟩
  have e1 : a.eval (.tmp 1) = .pointer (some ⟨g, 0, none⟩) := hB.2.1
  exact step_run rfl (ss_e4 g gt m1 m2 m3 m4 m5 _ w (fun _ => rfl) e1 ) (hK.out _ w (Kp.refl _ _) rfl)
set_option maxRecDepth 100000 in
theorem ss_e5 (g gt m1 m2 m3 m4 m5 : Nat) (ev : Operand → Value) (z : World) (ec : ∀ c, ev (.const c) = c) (e9 : ev (.tmp 9) = .pointer (some ⟨g, 0, none⟩)) : (execOp ev ⟨some 10, Op.nilCheck (Operand.tmp 9), 0, "", #[], none⟩).run Tryz.prog z = .ok (.value (.pointer (some ⟨g, 0, none⟩))) z := by
  go_simp
set_option maxRecDepth 100000 in
theorem ss_s5 {Q : Exit → Act → World → Prop} (g gt m1 m2 m3 m4 m5 : Nat) (w0 : World) (hS : Lv w0 g (stA (.slice (some ⟨gt, 0, none⟩) 1 1) (.map (some m1)) (.map (some m2)) (.map (some m3)) (.map (some m4)) (.map (some m5))).toList) (hT : Tm1 w0 (.slice (some ⟨gt, 0, none⟩) 1 1)) (hM : Ms5 w0 m1 m2 m3 m4 m5) : StepB Tryz.prog Q 80 (ssB g gt m1 m2 m3 m4 m5) w0 (ssR g gt m1 m2 m3 m4 m5) ssD 5 ⟨some 10, Op.nilCheck (Operand.tmp 9), 0, "", #[], none⟩ [4] := by
  refine ⟨rfl, Or.inl rfl, by decide, by decide, fun a w hn hB hk hd K hK => ?_⟩
  have e9 : a.eval (.tmp 9) = .pointer (some ⟨g, 0, none⟩) := hd 4 (by decide)
  exact step_run rfl (ss_e5 g gt m1 m2 m3 m4 m5 _ w (fun _ => rfl) e9 ) (hK.out _ w (Kp.refl _ _) rfl)
set_option maxRecDepth 100000 in
theorem ss_e6 (g gt m1 m2 m3 m4 m5 : Nat) (ev : Operand → Value) (z : World) (ec : ∀ c, ev (.const c) = c) (e10 : ev (.tmp 10) = .pointer (some ⟨g, 0, none⟩)) : (execOp ev ⟨some 11, Op.fieldAddr 38 (Operand.tmp 10) 0, 0, "", #[], none⟩).run Tryz.prog z = .ok (.value (.pointer (some ⟨g, 0, none⟩))) z := by
  go_simp
set_option maxRecDepth 100000 in
theorem ss_s6 {Q : Exit → Act → World → Prop} (g gt m1 m2 m3 m4 m5 : Nat) (w0 : World) (hS : Lv w0 g (stA (.slice (some ⟨gt, 0, none⟩) 1 1) (.map (some m1)) (.map (some m2)) (.map (some m3)) (.map (some m4)) (.map (some m5))).toList) (hT : Tm1 w0 (.slice (some ⟨gt, 0, none⟩) 1 1)) (hM : Ms5 w0 m1 m2 m3 m4 m5) : StepB Tryz.prog Q 80 (ssB g gt m1 m2 m3 m4 m5) w0 (ssR g gt m1 m2 m3 m4 m5) ssD 6 ⟨some 11, Op.fieldAddr 38 (Operand.tmp 10) 0, 0, "", #[], none⟩ [5] := by
  refine ⟨rfl, Or.inl rfl, by decide, by decide, fun a w hn hB hk hd K hK => ?_⟩
  have e10 : a.eval (.tmp 10) = .pointer (some ⟨g, 0, none⟩) := hd 5 (by decide)
  exact step_run rfl (ss_e6 g gt m1 m2 m3 m4 m5 _ w (fun _ => rfl) e10 ) (hK.out _ w (Kp.refl _ _) rfl)
set_option maxRecDepth 100000 in
theorem ss_e7 (g gt m1 m2 m3 m4 m5 : Nat) (ev : Operand → Value) (z : World) (ec : ∀ c, ev (.const c) = c) (e11 : ev (.tmp 11) = .pointer (some ⟨g, 0, none⟩)) (hc : z.cell? ⟨g, 0, none⟩ = some (.int .i64 1)) : (execOp ev ⟨some 12, Op.load 3 (Operand.tmp 11), 3, "", #[], none⟩).run Tryz.prog z = .ok (.value (.int .i64 1)) z := by
  go_simp
set_option maxRecDepth 100000 in
theorem ss_s7 {Q : Exit → Act → World → Prop} (g gt m1 m2 m3 m4 m5 : Nat) (w0 : World) (hS : Lv w0 g (stA (.slice (some ⟨gt, 0, none⟩) 1 1) (.map (some m1)) (.map (some m2)) (.map (some m3)) (.map (some m4)) (.map (some m5))).toList) (hT : Tm1 w0 (.slice (some ⟨gt, 0, none⟩) 1 1)) (hM : Ms5 w0 m1 m2 m3 m4 m5) : StepB Tryz.prog Q 80 (ssB g gt m1 m2 m3 m4 m5) w0 (ssR g gt m1 m2 m3 m4 m5) ssD 7 ⟨some 12, Op.load 3 (Operand.tmp 11), 3, "", #[], none⟩ [6] := by
  refine ⟨rfl, Or.inl rfl, by decide, by decide, fun a w hn hB hk hd K hK => ?_⟩
  have e11 : a.eval (.tmp 11) = .pointer (some ⟨g, 0, none⟩) := hd 6 (by decide)
  exact step_run rfl (ss_e7 g gt m1 m2 m3 m4 m5 _ w (fun _ => rfl) e11 ((hS.keep hk id).cell (j := 0) rfl)) (hK.out _ w (Kp.refl _ _) rfl)
set_option maxRecDepth 100000 in
theorem ss_e8 (g gt m1 m2 m3 m4 m5 : Nat) (ev : Operand → Value) (z : World) (ec : ∀ c, ev (.const c) = c) (e8 : ev (.tmp 8) = .int .i64 1) (e12 : ev (.tmp 12) = .int .i64 1) : (execOp ev ⟨some 13, Op.binOp BinOp.eql 3 (Operand.tmp 8) (Operand.tmp 12) 3, 4, "", #[], none⟩).run Tryz.prog z = .ok (.value (.bool true)) z := by
  go_simp
set_option maxRecDepth 100000 in
theorem ss_s8 {Q : Exit → Act → World → Prop} (g gt m1 m2 m3 m4 m5 : Nat) (w0 : World) (hS : Lv w0 g (stA (.slice (some ⟨gt, 0, none⟩) 1 1) (.map (some m1)) (.map (some m2)) (.map (some m3)) (.map (some m4)) (.map (some m5))).toList) (hT : Tm1 w0 (.slice (some ⟨gt, 0, none⟩) 1 1)) (hM : Ms5 w0 m1 m2 m3 m4 m5) : StepB Tryz.prog Q 80 (ssB g gt m1 m2 m3 m4 m5) w0 (ssR g gt m1 m2 m3 m4 m5) ssD 8 ⟨some 13, Op.binOp BinOp.eql 3 (Operand.tmp 8) (Operand.tmp 12) 3, 4, "", #[], none⟩ [3, 7] := by
  refine ⟨rfl, Or.inl rfl, by decide, by decide, fun a w hn hB hk hd K hK => ?_⟩
  have e8 : a.eval (.tmp 8) = .int .i64 1 := hd 3 (by decide)
  have e12 : a.eval (.tmp 12) = .int .i64 1 := hd 7 (by decide)
  exact step_run rfl (ss_e8 g gt m1 m2 m3 m4 m5 _ w (fun _ => rfl) e8 e12 ) (hK.out _ w (Kp.refl _ _) rfl)
set_option maxRecDepth 100000 in
theorem ss_e9 (g gt m1 m2 m3 m4 m5 : Nat) (ev : Operand → Value) (z : World) (ec : ∀ c, ev (.const c) = c) (e13 : ev (.tmp 13) = .bool true) : (execOp ev ⟨some 14, Op.move (Operand.tmp 13), 4, "", #[], none⟩).run Tryz.prog z = .ok (.value (.bool true)) z := by
  go_simp
set_option maxRecDepth 100000 in
theorem ss_s9 {Q : Exit → Act → World → Prop} (g gt m1 m2 m3 m4 m5 : Nat) (w0 : World) (hS : Lv w0 g (stA (.slice (some ⟨gt, 0, none⟩) 1 1) (.map (some m1)) (.map (some m2)) (.map (some m3)) (.map (some m4)) (.map (some m5))).toList) (hT : Tm1 w0 (.slice (some ⟨gt, 0, none⟩) 1 1)) (hM : Ms5 w0 m1 m2 m3 m4 m5) : StepB Tryz.prog Q 80 (ssB g gt m1 m2 m3 m4 m5) w0 (ssR g gt m1 m2 m3 m4 m5) ssD 9 ⟨some 14, Op.move (Operand.tmp 13), 4, "", #[], none⟩ [8] := by
  refine ⟨rfl, Or.inl rfl, by decide, by decide, fun a w hn hB hk hd K hK => ?_⟩
  have e13 : a.eval (.tmp 13) = .bool true := hd 8 (by decide)
  exact step_run rfl (ss_e9 g gt m1 m2 m3 m4 m5 _ w (fun _ => rfl) e13 ) (hK.out _ w (Kp.refl _ _) rfl)
set_option maxRecDepth 100000 in
theorem ss_e10 (g gt m1 m2 m3 m4 m5 : Nat) (ev : Operand → Value) (z : World) (ec : ∀ c, ev (.const c) = c) (e0 : ev (.tmp 0) = .pointer (some ⟨g, 0, none⟩)) : (execOp ev ⟨some 15, Op.move (Operand.tmp 0), 28, "", #[], some (9, true)⟩).run Tryz.prog z = .ok (.value (.pointer (some ⟨g, 0, none⟩))) z := by
  go_simp
set_option maxRecDepth 100000 in
theorem ss_s10 {Q : Exit → Act → World → Prop} (g gt m1 m2 m3 m4 m5 : Nat) (w0 : World) (hS : Lv w0 g (stA (.slice (some ⟨gt, 0, none⟩) 1 1) (.map (some m1)) (.map (some m2)) (.map (some m3)) (.map (some m4)) (.map (some m5))).toList) (hT : Tm1 w0 (.slice (some ⟨gt, 0, none⟩) 1 1)) (hM : Ms5 w0 m1 m2 m3 m4 m5) : StepB Tryz.prog Q 80 (ssB g gt m1 m2 m3 m4 m5) w0 (ssR g gt m1 m2 m3 m4 m5) ssD 10 ⟨some 15, Op.move (Operand.tmp 0), 28, "", #[], some (9, true)⟩ [9] := by
  refine ⟨rfl, Or.inr ⟨9, true, rfl, by decide, fun v w h => h⟩, by decide, by decide, fun a w hn hB hk hd K hK => ?_⟩
  have e0 : a.eval (.tmp 0) = .pointer (some ⟨g, 0, none⟩) := hB.1
  exact step_run rfl (ss_e10 g gt m1 m2 m3 m4 m5 _ w (fun _ => rfl) e0 ) (hK.out _ w (Kp.refl _ _) rfl)
set_option maxRecDepth 100000 in
theorem ss_e11 (g gt m1 m2 m3 m4 m5 : Nat) (ev : Operand → Value) (z : World) (ec : ∀ c, ev (.const c) = c) (e15 : ev (.tmp 15) = .pointer (some ⟨g, 0, none⟩)) : (execOp ev ⟨some 16, Op.nilCheck (Operand.tmp 15), 0, "", #[], some (9, true)⟩).run Tryz.prog z = .ok (.value (.pointer (some ⟨g, 0, none⟩))) z := by
  go_simp
set_option maxRecDepth 100000 in
theorem ss_s11 {Q : Exit → Act → World → Prop} (g gt m1 m2 m3 m4 m5 : Nat) (w0 : World) (hS : Lv w0 g (stA (.slice (some ⟨gt, 0, none⟩) 1 1) (.map (some m1)) (.map (some m2)) (.map (some m3)) (.map (some m4)) (.map (some m5))).toList) (hT : Tm1 w0 (.slice (some ⟨gt, 0, none⟩) 1 1)) (hM : Ms5 w0 m1 m2 m3 m4 m5) : StepB Tryz.prog Q 80 (ssB g gt m1 m2 m3 m4 m5) w0 (ssR g gt m1 m2 m3 m4 m5) ssD 11 ⟨some 16, Op.nilCheck (Operand.tmp 15), 0, "", #[], some (9, true)⟩ [10, 9] := by
  refine ⟨rfl, Or.inr ⟨9, true, rfl, by decide, fun v w h => h⟩, by decide, by decide, fun a w hn hB hk hd K hK => ?_⟩
  have e15 : a.eval (.tmp 15) = .pointer (some ⟨g, 0, none⟩) := hd 10 (by decide)
  exact step_run rfl (ss_e11 g gt m1 m2 m3 m4 m5 _ w (fun _ => rfl) e15 ) (hK.out _ w (Kp.refl _ _) rfl)
set_option maxRecDepth 100000 in
theorem ss_e12 (g gt m1 m2 m3 m4 m5 : Nat) (ev : Operand → Value) (z : World) (ec : ∀ c, ev (.const c) = c) (e16 : ev (.tmp 16) = .pointer (some ⟨g, 0, none⟩)) : (execOp ev ⟨some 17, Op.fieldAddr 38 (Operand.tmp 16) 1, 0, "", #[], some (9, true)⟩).run Tryz.prog z = .ok (.value (.pointer (some ⟨g, 1, none⟩))) z := by
  go_simp
set_option maxRecDepth 100000 in
theorem ss_s12 {Q : Exit → Act → World → Prop} (g gt m1 m2 m3 m4 m5 : Nat) (w0 : World) (hS : Lv w0 g (stA (.slice (some ⟨gt, 0, none⟩) 1 1) (.map (some m1)) (.map (some m2)) (.map (some m3)) (.map (some m4)) (.map (some m5))).toList) (hT : Tm1 w0 (.slice (some ⟨gt, 0, none⟩) 1 1)) (hM : Ms5 w0 m1 m2 m3 m4 m5) : StepB Tryz.prog Q 80 (ssB g gt m1 m2 m3 m4 m5) w0 (ssR g gt m1 m2 m3 m4 m5) ssD 12 ⟨some 17, Op.fieldAddr 38 (Operand.tmp 16) 1, 0, "", #[], some (9, true)⟩ [11, 9] := by
  refine ⟨rfl, Or.inr ⟨9, true, rfl, by decide, fun v w h => h⟩, by decide, by decide, fun a w hn hB hk hd K hK => ?_⟩
  have e16 : a.eval (.tmp 16) = .pointer (some ⟨g, 0, none⟩) := hd 11 (by decide)
  exact step_run rfl (ss_e12 g gt m1 m2 m3 m4 m5 _ w (fun _ => rfl) e16 ) (hK.out _ w (Kp.refl _ _) rfl)
set_option maxRecDepth 100000 in
theorem ss_e13 (g gt m1 m2 m3 m4 m5 : Nat) (ev : Operand → Value) (z : World) (ec : ∀ c, ev (.const c) = c) (e17 : ev (.tmp 17) = .pointer (some ⟨g, 1, none⟩)) (hc : z.cell? ⟨g, 1, none⟩ = some (.int .i64 1)) : (execOp ev ⟨some 18, Op.load 3 (Operand.tmp 17), 3, "", #[], some (9, true)⟩).run Tryz.prog z = .ok (.value (.int .i64 1)) z := by
  go_simp
set_option maxRecDepth 100000 in
theorem ss_s13 {Q : Exit → Act → World → Prop} (g gt m1 m2 m3 m4 m5 : Nat) (w0 : World) (hS : Lv w0 g (stA (.slice (some ⟨gt, 0, none⟩) 1 1) (.map (some m1)) (.map (some m2)) (.map (some m3)) (.map (some m4)) (.map (some m5))).toList) (hT : Tm1 w0 (.slice (some ⟨gt, 0, none⟩) 1 1)) (hM : Ms5 w0 m1 m2 m3 m4 m5) : StepB Tryz.prog Q 80 (ssB g gt m1 m2 m3 m4 m5) w0 (ssR g gt m1 m2 m3 m4 m5) ssD 13 ⟨some 18, Op.load 3 (Operand.tmp 17), 3, "", #[], some (9, true)⟩ [12, 9] := by
  refine ⟨rfl, Or.inr ⟨9, true, rfl, by decide, fun v w h => h⟩, by decide, by decide, fun a w hn hB hk hd K hK => ?_⟩
  have e17 : a.eval (.tmp 17) = .pointer (some ⟨g, 1, none⟩) := hd 12 (by decide)
  exact step_run rfl (ss_e13 g gt m1 m2 m3 m4 m5 _ w (fun _ => rfl) e17 ((hS.keep hk id).cell (j := 1) rfl)) (hK.out _ w (Kp.refl _ _) rfl)
set_option maxRecDepth 100000 in
theorem ss_e14 (g gt m1 m2 m3 m4 m5 : Nat) (ev : Operand → Value) (z : World) (ec : ∀ c, ev (.const c) = c) (e1 : ev (.tmp 1) = .pointer (some ⟨g, 0, none⟩)) : (execOp ev ⟨some 19, Op.move (Operand.tmp 1), 28, "", #[], some (9, true)⟩).run Tryz.prog z = .ok (.value (.pointer (some ⟨g, 0, none⟩))) z := by
  go_simp
set_option maxRecDepth 100000 in
theorem ss_s14 {Q : Exit → Act → World → Prop} (g gt m1 m2 m3 m4 m5 : Nat) (w0 : World) (hS : Lv w0 g (stA (.slice (some ⟨gt, 0, none⟩) 1 1) (.map (some m1)) (.map (some m2)) (.map (some m3)) (.map (some m4)) (.map (some m5))).toList) (hT : Tm1 w0 (.slice (some ⟨gt, 0, none⟩) 1 1)) (hM : Ms5 w0 m1 m2 m3 m4 m5) : StepB Tryz.prog Q 80 (ssB g gt m1 m2 m3 m4 m5) w0 (ssR g gt m1 m2 m3 m4 m5) ssD 14 ⟨some 19, Op.move (Operand.tmp 1), 28, "", #[], some (9, true)⟩ [9] := by
  refine ⟨rfl, Or.inr ⟨9, true, rfl, by decide, fun v w h => h⟩, by decide, by decide, fun a w hn hB hk hd K hK => ?_⟩
  have e1 : a.eval (.tmp 1) = .pointer (some ⟨g, 0, none⟩) := hB.2.1
  exact step_run rfl (ss_e14 g gt m1 m2 m3 m4 m5 _ w (fun _ => rfl) e1 ) (hK.out _ w (Kp.refl _ _) rfl)
set_option maxRecDepth 100000 in
theorem ss_e15 (g gt m1 m2 m3 m4 m5 : Nat) (ev : Operand → Value) (z : World) (ec : ∀ c, ev (.const c) = c) (e19 : ev (.tmp 19) = .pointer (some ⟨g, 0, none⟩)) : (execOp ev ⟨some 20, Op.nilCheck (Operand.tmp 19), 0, "", #[], some (9, true)⟩).run Tryz.prog z = .ok (.value (.pointer (some ⟨g, 0, none⟩))) z := by
  go_simp
set_option maxRecDepth 100000 in
theorem ss_s15 {Q : Exit → Act → World → Prop} (g gt m1 m2 m3 m4 m5 : Nat) (w0 : World) (hS : Lv w0 g (stA (.slice (some ⟨gt, 0, none⟩) 1 1) (.map (some m1)) (.map (some m2)) (.map (some m3)) (.map (some m4)) (.map (some m5))).toList) (hT : Tm1 w0 (.slice (some ⟨gt, 0, none⟩) 1 1)) (hM : Ms5 w0 m1 m2 m3 m4 m5) : StepB Tryz.prog Q 80 (ssB g gt m1 m2 m3 m4 m5) w0 (ssR g gt m1 m2 m3 m4 m5) ssD 15 ⟨some 20, Op.nilCheck (Operand.tmp 19), 0, "", #[], some (9, true)⟩ [14, 9] := by
  refine ⟨rfl, Or.inr ⟨9, true, rfl, by decide, fun v w h => h⟩, by decide, by decide, fun a w hn hB hk hd K hK => ?_⟩
  have e19 : a.eval (.tmp 19) = .pointer (some ⟨g, 0, none⟩) := hd 14 (by decide)
  exact step_run rfl (ss_e15 g gt m1 m2 m3 m4 m5 _ w (fun _ => rfl) e19 ) (hK.out _ w (Kp.refl _ _) rfl)
set_option maxRecDepth 100000 in
theorem ss_e16 (g gt m1 m2 m3 m4 m5 : Nat) (ev : Operand → Value) (z : World) (ec : ∀ c, ev (.const c) = c) (e20 : ev (.tmp 20) = .pointer (some ⟨g, 0, none⟩)) : (execOp ev ⟨some 21, Op.fieldAddr 38 (Operand.tmp 20) 1, 0, "", #[], some (9, true)⟩).run Tryz.prog z = .ok (.value (.pointer (some ⟨g, 1, none⟩))) z := by
  go_simp
set_option maxRecDepth 100000 in
theorem ss_s16 {Q : Exit → Act → World → Prop} (g gt m1 m2 m3 m4 m5 : Nat) (w0 : World) (hS : Lv w0 g (stA (.slice (some ⟨gt, 0, none⟩) 1 1) (.map (some m1)) (.map (some m2)) (.map (some m3)) (.map (some m4)) (.map (some m5))).toList) (hT : Tm1 w0 (.slice (some ⟨gt, 0, none⟩) 1 1)) (hM : Ms5 w0 m1 m2 m3 m4 m5) : StepB Tryz.prog Q 80 (ssB g gt m1 m2 m3 m4 m5) w0 (ssR g gt m1 m2 m3 m4 m5) ssD 16 ⟨some 21, Op.fieldAddr 38 (Operand.tmp 20) 1, 0, "", #[], some (9, true)⟩ [15, 9] := by
  refine ⟨rfl, Or.inr ⟨9, true, rfl, by decide, fun v w h => h⟩, by decide, by decide, fun a w hn hB hk hd K hK => ?_⟩
  have e20 : a.eval (.tmp 20) = .pointer (some ⟨g, 0, none⟩) := hd 15 (by decide)
  exact step_run rfl (ss_e16 g gt m1 m2 m3 m4 m5 _ w (fun _ => rfl) e20 ) (hK.out _ w (Kp.refl _ _) rfl)
set_option maxRecDepth 100000 in
theorem ss_e17 (g gt m1 m2 m3 m4 m5 : Nat) (ev : Operand → Value) (z : World) (ec : ∀ c, ev (.const c) = c) (e21 : ev (.tmp 21) = .pointer (some ⟨g, 1, none⟩)) (hc : z.cell? ⟨g, 1, none⟩ = some (.int .i64 1)) : (execOp ev ⟨some 22, Op.load 3 (Operand.tmp 21), 3, "", #[], some (9, true)⟩).run Tryz.prog z = .ok (.value (.int .i64 1)) z := by
  go_simp
set_option maxRecDepth 100000 in
theorem ss_s17 {Q : Exit → Act → World → Prop} (g gt m1 m2 m3 m4 m5 : Nat) (w0 : World) (hS : Lv w0 g (stA (.slice (some ⟨gt, 0, none⟩) 1 1) (.map (some m1)) (.map (some m2)) (.map (some m3)) (.map (some m4)) (.map (some m5))).toList) (hT : Tm1 w0 (.slice (some ⟨gt, 0, none⟩) 1 1)) (hM : Ms5 w0 m1 m2 m3 m4 m5) : StepB Tryz.prog Q 80 (ssB g gt m1 m2 m3 m4 m5) w0 (ssR g gt m1 m2 m3 m4 m5) ssD 17 ⟨some 22, Op.load 3 (Operand.tmp 21), 3, "", #[], some (9, true)⟩ [16, 9] := by
  refine ⟨rfl, Or.inr ⟨9, true, rfl, by decide, fun v w h => h⟩, by decide, by decide, fun a w hn hB hk hd K hK => ?_⟩
  have e21 : a.eval (.tmp 21) = .pointer (some ⟨g, 1, none⟩) := hd 16 (by decide)
  exact step_run rfl (ss_e17 g gt m1 m2 m3 m4 m5 _ w (fun _ => rfl) e21 ((hS.keep hk id).cell (j := 1) rfl)) (hK.out _ w (Kp.refl _ _) rfl)
set_option maxRecDepth 100000 in
theorem ss_e18 (g gt m1 m2 m3 m4 m5 : Nat) (ev : Operand → Value) (z : World) (ec : ∀ c, ev (.const c) = c) (e18 : ev (.tmp 18) = .int .i64 1) (e22 : ev (.tmp 22) = .int .i64 1) : (execOp ev ⟨some 23, Op.binOp BinOp.eql 3 (Operand.tmp 18) (Operand.tmp 22) 3, 4, "", #[], some (9, true)⟩).run Tryz.prog z = .ok (.value (.bool true)) z := by
  go_simp
set_option maxRecDepth 100000 in
theorem ss_s18 {Q : Exit → Act → World → Prop} (g gt m1 m2 m3 m4 m5 : Nat) (w0 : World) (hS : Lv w0 g (stA (.slice (some ⟨gt, 0, none⟩) 1 1) (.map (some m1)) (.map (some m2)) (.map (some m3)) (.map (some m4)) (.map (some m5))).toList) (hT : Tm1 w0 (.slice (some ⟨gt, 0, none⟩) 1 1)) (hM : Ms5 w0 m1 m2 m3 m4 m5) : StepB Tryz.prog Q 80 (ssB g gt m1 m2 m3 m4 m5) w0 (ssR g gt m1 m2 m3 m4 m5) ssD 18 ⟨some 23, Op.binOp BinOp.eql 3 (Operand.tmp 18) (Operand.tmp 22) 3, 4, "", #[], some (9, true)⟩ [13, 17, 9] := by
  refine ⟨rfl, Or.inr ⟨9, true, rfl, by decide, fun v w h => h⟩, by decide, by decide, fun a w hn hB hk hd K hK => ?_⟩
  have e18 : a.eval (.tmp 18) = .int .i64 1 := hd 13 (by decide)
  have e22 : a.eval (.tmp 22) = .int .i64 1 := hd 17 (by decide)
  exact step_run rfl (ss_e18 g gt m1 m2 m3 m4 m5 _ w (fun _ => rfl) e18 e22 ) (hK.out _ w (Kp.refl _ _) rfl)
set_option maxRecDepth 100000 in
theorem ss_e19 (g gt m1 m2 m3 m4 m5 : Nat) (ev : Operand → Value) (z : World) (ec : ∀ c, ev (.const c) = c) (e14 : ev (.tmp 14) = .bool true) (e23 : ev (.tmp 23) = .bool true) : (execOp ev ⟨some 24, Op.pick (Operand.tmp 14) (Operand.tmp 23) (Operand.const (Value.bool false)), 4, "", #[], none⟩).run Tryz.prog z = .ok (.value (.bool true)) z := by
  go_simp
set_option maxRecDepth 100000 in
theorem ss_s19 {Q : Exit → Act → World → Prop} (g gt m1 m2 m3 m4 m5 : Nat) (w0 : World) (hS : Lv w0 g (stA (.slice (some ⟨gt, 0, none⟩) 1 1) (.map (some m1)) (.map (some m2)) (.map (some m3)) (.map (some m4)) (.map (some m5))).toList) (hT : Tm1 w0 (.slice (some ⟨gt, 0, none⟩) 1 1)) (hM : Ms5 w0 m1 m2 m3 m4 m5) : StepB Tryz.prog Q 80 (ssB g gt m1 m2 m3 m4 m5) w0 (ssR g gt m1 m2 m3 m4 m5) ssD 19 ⟨some 24, Op.pick (Operand.tmp 14) (Operand.tmp 23) (Operand.const (Value.bool false)), 4, "", #[], none⟩ [9, 18] := by
  refine ⟨rfl, Or.inl rfl, by decide, by decide, fun a w hn hB hk hd K hK => ?_⟩
  have e14 : a.eval (.tmp 14) = .bool true := hd 9 (by decide)
  have e23 : a.eval (.tmp 23) = .bool true := hd 18 (by decide)
  exact step_run rfl (ss_e19 g gt m1 m2 m3 m4 m5 _ w (fun _ => rfl) e14 e23 ) (hK.out _ w (Kp.refl _ _) rfl)
set_option maxRecDepth 100000 in
theorem ss_e20 (g gt m1 m2 m3 m4 m5 : Nat) (ev : Operand → Value) (z : World) (ec : ∀ c, ev (.const c) = c) (e24 : ev (.tmp 24) = .bool true) : (execOp ev ⟨some 25, Op.move (Operand.tmp 24), 4, "", #[], none⟩).run Tryz.prog z = .ok (.value (.bool true)) z := by
  go_simp
set_option maxRecDepth 100000 in
theorem ss_s20 {Q : Exit → Act → World → Prop} (g gt m1 m2 m3 m4 m5 : Nat) (w0 : World) (hS : Lv w0 g (stA (.slice (some ⟨gt, 0, none⟩) 1 1) (.map (some m1)) (.map (some m2)) (.map (some m3)) (.map (some m4)) (.map (some m5))).toList) (hT : Tm1 w0 (.slice (some ⟨gt, 0, none⟩) 1 1)) (hM : Ms5 w0 m1 m2 m3 m4 m5) : StepB Tryz.prog Q 80 (ssB g gt m1 m2 m3 m4 m5) w0 (ssR g gt m1 m2 m3 m4 m5) ssD 20 ⟨some 25, Op.move (Operand.tmp 24), 4, "", #[], none⟩ [19, 9] := by
  refine ⟨rfl, Or.inl rfl, by decide, by decide, fun a w hn hB hk hd K hK => ?_⟩
  have e24 : a.eval (.tmp 24) = .bool true := hd 19 (by decide)
  exact step_run rfl (ss_e20 g gt m1 m2 m3 m4 m5 _ w (fun _ => rfl) e24 ) (hK.out _ w (Kp.refl _ _) rfl)
set_option maxRecDepth 100000 in
theorem ss_e21 (g gt m1 m2 m3 m4 m5 : Nat) (ev : Operand → Value) (z : World) (ec : ∀ c, ev (.const c) = c) (e0 : ev (.tmp 0) = .pointer (some ⟨g, 0, none⟩)) : (execOp ev ⟨some 26, Op.move (Operand.tmp 0), 28, "", #[], some (20, true)⟩).run Tryz.prog z = .ok (.value (.pointer (some ⟨g, 0, none⟩))) z := by
  go_simp
set_option maxRecDepth 100000 in
theorem ss_s21 {Q : Exit → Act → World → Prop} (g gt m1 m2 m3 m4 m5 : Nat) (w0 : World) (hS : Lv w0 g (stA (.slice (some ⟨gt, 0, none⟩) 1 1) (.map (some m1)) (.map (some m2)) (.map (some m3)) (.map (some m4)) (.map (some m5))).toList) (hT : Tm1 w0 (.slice (some ⟨gt, 0, none⟩) 1 1)) (hM : Ms5 w0 m1 m2 m3 m4 m5) : StepB Tryz.prog Q 80 (ssB g gt m1 m2 m3 m4 m5) w0 (ssR g gt m1 m2 m3 m4 m5) ssD 21 ⟨some 26, Op.move (Operand.tmp 0), 28, "", #[], some (20, true)⟩ [20] := by
  refine ⟨rfl, Or.inr ⟨20, true, rfl, by decide, fun v w h => h⟩, by decide, by decide, fun a w hn hB hk hd K hK => ?_⟩
  have e0 : a.eval (.tmp 0) = .pointer (some ⟨g, 0, none⟩) := hB.1
  exact step_run rfl (ss_e21 g gt m1 m2 m3 m4 m5 _ w (fun _ => rfl) e0 ) (hK.out _ w (Kp.refl _ _) rfl)
set_option maxRecDepth 100000 in
theorem ss_e22 (g gt m1 m2 m3 m4 m5 : Nat) (ev : Operand → Value) (z : World) (ec : ∀ c, ev (.const c) = c) (e26 : ev (.tmp 26) = .pointer (some ⟨g, 0, none⟩)) : (execOp ev ⟨some 27, Op.nilCheck (Operand.tmp 26), 0, "", #[], some (20, true)⟩).run Tryz.prog z = .ok (.value (.pointer (some ⟨g, 0, none⟩))) z := by
  go_simp
set_option maxRecDepth 100000 in
theorem ss_s22 {Q : Exit → Act → World → Prop} (g gt m1 m2 m3 m4 m5 : Nat) (w0 : World) (hS : Lv w0 g (stA (.slice (some ⟨gt, 0, none⟩) 1 1) (.map (some m1)) (.map (some m2)) (.map (some m3)) (.map (some m4)) (.map (some m5))).toList) (hT : Tm1 w0 (.slice (some ⟨gt, 0, none⟩) 1 1)) (hM : Ms5 w0 m1 m2 m3 m4 m5) : StepB Tryz.prog Q 80 (ssB g gt m1 m2 m3 m4 m5) w0 (ssR g gt m1 m2 m3 m4 m5) ssD 22 ⟨some 27, Op.nilCheck (Operand.tmp 26), 0, "", #[], some (20, true)⟩ [21, 20] := by
  refine ⟨rfl, Or.inr ⟨20, true, rfl, by decide, fun v w h => h⟩, by decide, by decide, fun a w hn hB hk hd K hK => ?_⟩
  have e26 : a.eval (.tmp 26) = .pointer (some ⟨g, 0, none⟩) := hd 21 (by decide)
  exact step_run rfl (ss_e22 g gt m1 m2 m3 m4 m5 _ w (fun _ => rfl) e26 ) (hK.out _ w (Kp.refl _ _) rfl)
set_option maxRecDepth 100000 in
theorem ss_e23 (g gt m1 m2 m3 m4 m5 : Nat) (ev : Operand → Value) (z : World) (ec : ∀ c, ev (.const c) = c) (e27 : ev (.tmp 27) = .pointer (some ⟨g, 0, none⟩)) : (execOp ev ⟨some 28, Op.fieldAddr 38 (Operand.tmp 27) 2, 0, "", #[], some (20, true)⟩).run Tryz.prog z = .ok (.value (.pointer (some ⟨g, 2, none⟩))) z := by
  go_simp
set_option maxRecDepth 100000 in
theorem ss_s23 {Q : Exit → Act → World → Prop} (g gt m1 m2 m3 m4 m5 : Nat) (w0 : World) (hS : Lv w0 g (stA (.slice (some ⟨gt, 0, none⟩) 1 1) (.map (some m1)) (.map (some m2)) (.map (some m3)) (.map (some m4)) (.map (some m5))).toList) (hT : Tm1 w0 (.slice (some ⟨gt, 0, none⟩) 1 1)) (hM : Ms5 w0 m1 m2 m3 m4 m5) : StepB Tryz.prog Q 80 (ssB g gt m1 m2 m3 m4 m5) w0 (ssR g gt m1 m2 m3 m4 m5) ssD 23 ⟨some 28, Op.fieldAddr 38 (Operand.tmp 27) 2, 0, "", #[], some (20, true)⟩ [22, 20] := by
  refine ⟨rfl, Or.inr ⟨20, true, rfl, by decide, fun v w h => h⟩, by decide, by decide, fun a w hn hB hk hd K hK => ?_⟩
  have e27 : a.eval (.tmp 27) = .pointer (some ⟨g, 0, none⟩) := hd 22 (by decide)
  exact step_run rfl (ss_e23 g gt m1 m2 m3 m4 m5 _ w (fun _ => rfl) e27 ) (hK.out _ w (Kp.refl _ _) rfl)
set_option maxRecDepth 100000 in
theorem ss_e24 (g gt m1 m2 m3 m4 m5 : Nat) (ev : Operand → Value) (z : World) (ec : ∀ c, ev (.const c) = c) (e28 : ev (.tmp 28) = .pointer (some ⟨g, 2, none⟩)) (hc : z.cell? ⟨g, 2, none⟩ = some (.int .i64 1)) : (execOp ev ⟨some 29, Op.load 3 (Operand.tmp 28), 3, "", #[], some (20, true)⟩).run Tryz.prog z = .ok (.value (.int .i64 1)) z := by
  go_simp
set_option maxRecDepth 100000 in
theorem ss_s24 {Q : Exit → Act → World → Prop} (g gt m1 m2 m3 m4 m5 : Nat) (w0 : World) (hS : Lv w0 g (stA (.slice (some ⟨gt, 0, none⟩) 1 1) (.map (some m1)) (.map (some m2)) (.map (some m3)) (.map (some m4)) (.map (some m5))).toList) (hT : Tm1 w0 (.slice (some ⟨gt, 0, none⟩) 1 1)) (hM : Ms5 w0 m1 m2 m3 m4 m5) : StepB Tryz.prog Q 80 (ssB g gt m1 m2 m3 m4 m5) w0 (ssR g gt m1 m2 m3 m4 m5) ssD 24 ⟨some 29, Op.load 3 (Operand.tmp 28), 3, "", #[], some (20, true)⟩ [23, 20] := by
  refine ⟨rfl, Or.inr ⟨20, true, rfl, by decide, fun v w h => h⟩, by decide, by decide, fun a w hn hB hk hd K hK => ?_⟩
  have e28 : a.eval (.tmp 28) = .pointer (some ⟨g, 2, none⟩) := hd 23 (by decide)
  exact step_run rfl (ss_e24 g gt m1 m2 m3 m4 m5 _ w (fun _ => rfl) e28 ((hS.keep hk id).cell (j := 2) rfl)) (hK.out _ w (Kp.refl _ _) rfl)
set_option maxRecDepth 100000 in
theorem ss_e25 (g gt m1 m2 m3 m4 m5 : Nat) (ev : Operand → Value) (z : World) (ec : ∀ c, ev (.const c) = c) (e1 : ev (.tmp 1) = .pointer (some ⟨g, 0, none⟩)) : (execOp ev ⟨some 30, Op.move (Operand.tmp 1), 28, "", #[], some (20, true)⟩).run Tryz.prog z = .ok (.value (.pointer (some ⟨g, 0, none⟩))) z := by
  go_simp
set_option maxRecDepth 100000 in
theorem ss_s25 {Q : Exit → Act → World → Prop} (g gt m1 m2 m3 m4 m5 : Nat) (w0 : World) (hS : Lv w0 g (stA (.slice (some ⟨gt, 0, none⟩) 1 1) (.map (some m1)) (.map (some m2)) (.map (some m3)) (.map (some m4)) (.map (some m5))).toList) (hT : Tm1 w0 (.slice (some ⟨gt, 0, none⟩) 1 1)) (hM : Ms5 w0 m1 m2 m3 m4 m5) : StepB Tryz.prog Q 80 (ssB g gt m1 m2 m3 m4 m5) w0 (ssR g gt m1 m2 m3 m4 m5) ssD 25 ⟨some 30, Op.move (Operand.tmp 1), 28, "", #[], some (20, true)⟩ [20] := by
  refine ⟨rfl, Or.inr ⟨20, true, rfl, by decide, fun v w h => h⟩, by decide, by decide, fun a w hn hB hk hd K hK => ?_⟩
  have e1 : a.eval (.tmp 1) = .pointer (some ⟨g, 0, none⟩) := hB.2.1
  exact step_run rfl (ss_e25 g gt m1 m2 m3 m4 m5 _ w (fun _ => rfl) e1 ) (hK.out _ w (Kp.refl _ _) rfl)
set_option maxRecDepth 100000 in
theorem ss_e26 (g gt m1 m2 m3 m4 m5 : Nat) (ev : Operand → Value) (z : World) (ec : ∀ c, ev (.const c) = c) (e30 : ev (.tmp 30) = .pointer (some ⟨g, 0, none⟩)) : (execOp ev ⟨some 31, Op.nilCheck (Operand.tmp 30), 0, "", #[], some (20, true)⟩).run Tryz.prog z = .ok (.value (.pointer (some ⟨g, 0, none⟩))) z := by
  go_simp
set_option maxRecDepth 100000 in
theorem ss_s26 {Q : Exit → Act → World → Prop} (g gt m1 m2 m3 m4 m5 : Nat) (w0 : World) (hS : Lv w0 g (stA (.slice (some ⟨gt, 0, none⟩) 1 1) (.map (some m1)) (.map (some m2)) (.map (some m3)) (.map (some m4)) (.map (some m5))).toList) (hT : Tm1 w0 (.slice (some ⟨gt, 0, none⟩) 1 1)) (hM : Ms5 w0 m1 m2 m3 m4 m5) : StepB Tryz.prog Q 80 (ssB g gt m1 m2 m3 m4 m5) w0 (ssR g gt m1 m2 m3 m4 m5) ssD 26 ⟨some 31, Op.nilCheck (Operand.tmp 30), 0, "", #[], some (20, true)⟩ [25, 20] := by
  refine ⟨rfl, Or.inr ⟨20, true, rfl, by decide, fun v w h => h⟩, by decide, by decide, fun a w hn hB hk hd K hK => ?_⟩
  have e30 : a.eval (.tmp 30) = .pointer (some ⟨g, 0, none⟩) := hd 25 (by decide)
  exact step_run rfl (ss_e26 g gt m1 m2 m3 m4 m5 _ w (fun _ => rfl) e30 ) (hK.out _ w (Kp.refl _ _) rfl)
set_option maxRecDepth 100000 in
theorem ss_e27 (g gt m1 m2 m3 m4 m5 : Nat) (ev : Operand → Value) (z : World) (ec : ∀ c, ev (.const c) = c) (e31 : ev (.tmp 31) = .pointer (some ⟨g, 0, none⟩)) : (execOp ev ⟨some 32, Op.fieldAddr 38 (Operand.tmp 31) 2, 0, "", #[], some (20, true)⟩).run Tryz.prog z = .ok (.value (.pointer (some ⟨g, 2, none⟩))) z := by
  go_simp
set_option maxRecDepth 100000 in
theorem ss_s27 {Q : Exit → Act → World → Prop} (g gt m1 m2 m3 m4 m5 : Nat) (w0 : World) (hS : Lv w0 g (stA (.slice (some ⟨gt, 0, none⟩) 1 1) (.map (some m1)) (.map (some m2)) (.map (some m3)) (.map (some m4)) (.map (some m5))).toList) (hT : Tm1 w0 (.slice (some ⟨gt, 0, none⟩) 1 1)) (hM : Ms5 w0 m1 m2 m3 m4 m5) : StepB Tryz.prog Q 80 (ssB g gt m1 m2 m3 m4 m5) w0 (ssR g gt m1 m2 m3 m4 m5) ssD 27 ⟨some 32, Op.fieldAddr 38 (Operand.tmp 31) 2, 0, "", #[], some (20, true)⟩ [26, 20] := by
  refine ⟨rfl, Or.inr ⟨20, true, rfl, by decide, fun v w h => h⟩, by decide, by decide, fun a w hn hB hk hd K hK => ?_⟩
  have e31 : a.eval (.tmp 31) = .pointer (some ⟨g, 0, none⟩) := hd 26 (by decide)
  exact step_run rfl (ss_e27 g gt m1 m2 m3 m4 m5 _ w (fun _ => rfl) e31 ) (hK.out _ w (Kp.refl _ _) rfl)
set_option maxRecDepth 100000 in
theorem ss_e28 (g gt m1 m2 m3 m4 m5 : Nat) (ev : Operand → Value) (z : World) (ec : ∀ c, ev (.const c) = c) (e32 : ev (.tmp 32) = .pointer (some ⟨g, 2, none⟩)) (hc : z.cell? ⟨g, 2, none⟩ = some (.int .i64 1)) : (execOp ev ⟨some 33, Op.load 3 (Operand.tmp 32), 3, "", #[], some (20, true)⟩).run Tryz.prog z = .ok (.value (.int .i64 1)) z := by
  go_simp
set_option maxRecDepth 100000 in
theorem ss_s28 {Q : Exit → Act → World → Prop} (g gt m1 m2 m3 m4 m5 : Nat) (w0 : World) (hS : Lv w0 g (stA (.slice (some ⟨gt, 0, none⟩) 1 1) (.map (some m1)) (.map (some m2)) (.map (some m3)) (.map (some m4)) (.map (some m5))).toList) (hT : Tm1 w0 (.slice (some ⟨gt, 0, none⟩) 1 1)) (hM : Ms5 w0 m1 m2 m3 m4 m5) : StepB Tryz.prog Q 80 (ssB g gt m1 m2 m3 m4 m5) w0 (ssR g gt m1 m2 m3 m4 m5) ssD 28 ⟨some 33, Op.load 3 (Operand.tmp 32), 3, "", #[], some (20, true)⟩ [27, 20] := by
  refine ⟨rfl, Or.inr ⟨20, true, rfl, by decide, fun v w h => h⟩, by decide, by decide, fun a w hn hB hk hd K hK => ?_⟩
  have e32 : a.eval (.tmp 32) = .pointer (some ⟨g, 2, none⟩) := hd 27 (by decide)
  exact step_run rfl (ss_e28 g gt m1 m2 m3 m4 m5 _ w (fun _ => rfl) e32 ((hS.keep hk id).cell (j := 2) rfl)) (hK.out _ w (Kp.refl _ _) rfl)
set_option maxRecDepth 100000 in
theorem ss_e29 (g gt m1 m2 m3 m4 m5 : Nat) (ev : Operand → Value) (z : World) (ec : ∀ c, ev (.const c) = c) (e29 : ev (.tmp 29) = .int .i64 1) (e33 : ev (.tmp 33) = .int .i64 1) : (execOp ev ⟨some 34, Op.binOp BinOp.eql 3 (Operand.tmp 29) (Operand.tmp 33) 3, 4, "", #[], some (20, true)⟩).run Tryz.prog z = .ok (.value (.bool true)) z := by
  go_simp
set_option maxRecDepth 100000 in
theorem ss_s29 {Q : Exit → Act → World → Prop} (g gt m1 m2 m3 m4 m5 : Nat) (w0 : World) (hS : Lv w0 g (stA (.slice (some ⟨gt, 0, none⟩) 1 1) (.map (some m1)) (.map (some m2)) (.map (some m3)) (.map (some m4)) (.map (some m5))).toList) (hT : Tm1 w0 (.slice (some ⟨gt, 0, none⟩) 1 1)) (hM : Ms5 w0 m1 m2 m3 m4 m5) : StepB Tryz.prog Q 80 (ssB g gt m1 m2 m3 m4 m5) w0 (ssR g gt m1 m2 m3 m4 m5) ssD 29 ⟨some 34, Op.binOp BinOp.eql 3 (Operand.tmp 29) (Operand.tmp 33) 3, 4, "", #[], some (20, true)⟩ [24, 28, 20] := by
  refine ⟨rfl, Or.inr ⟨20, true, rfl, by decide, fun v w h => h⟩, by decide, by decide, fun a w hn hB hk hd K hK => ?_⟩
  have e29 : a.eval (.tmp 29) = .int .i64 1 := hd 24 (by decide)
  have e33 : a.eval (.tmp 33) = .int .i64 1 := hd 28 (by decide)
  exact step_run rfl (ss_e29 g gt m1 m2 m3 m4 m5 _ w (fun _ => rfl) e29 e33 ) (hK.out _ w (Kp.refl _ _) rfl)
set_option maxRecDepth 100000 in
theorem ss_e30 (g gt m1 m2 m3 m4 m5 : Nat) (ev : Operand → Value) (z : World) (ec : ∀ c, ev (.const c) = c) (e25 : ev (.tmp 25) = .bool true) (e34 : ev (.tmp 34) = .bool true) : (execOp ev ⟨some 35, Op.pick (Operand.tmp 25) (Operand.tmp 34) (Operand.const (Value.bool false)), 4, "", #[], none⟩).run Tryz.prog z = .ok (.value (.bool true)) z := by
  go_simp
set_option maxRecDepth 100000 in
theorem ss_s30 {Q : Exit → Act → World → Prop} (g gt m1 m2 m3 m4 m5 : Nat) (w0 : World) (hS : Lv w0 g (stA (.slice (some ⟨gt, 0, none⟩) 1 1) (.map (some m1)) (.map (some m2)) (.map (some m3)) (.map (some m4)) (.map (some m5))).toList) (hT : Tm1 w0 (.slice (some ⟨gt, 0, none⟩) 1 1)) (hM : Ms5 w0 m1 m2 m3 m4 m5) : StepB Tryz.prog Q 80 (ssB g gt m1 m2 m3 m4 m5) w0 (ssR g gt m1 m2 m3 m4 m5) ssD 30 ⟨some 35, Op.pick (Operand.tmp 25) (Operand.tmp 34) (Operand.const (Value.bool false)), 4, "", #[], none⟩ [20, 29] := by
  refine ⟨rfl, Or.inl rfl, by decide, by decide, fun a w hn hB hk hd K hK => ?_⟩
  have e25 : a.eval (.tmp 25) = .bool true := hd 20 (by decide)
  have e34 : a.eval (.tmp 34) = .bool true := hd 29 (by decide)
  exact step_run rfl (ss_e30 g gt m1 m2 m3 m4 m5 _ w (fun _ => rfl) e25 e34 ) (hK.out _ w (Kp.refl _ _) rfl)
set_option maxRecDepth 100000 in
theorem ss_e31 (g gt m1 m2 m3 m4 m5 : Nat) (ev : Operand → Value) (z : World) (ec : ∀ c, ev (.const c) = c) (e35 : ev (.tmp 35) = .bool true) : (execOp ev ⟨some 36, Op.move (Operand.tmp 35), 4, "", #[], none⟩).run Tryz.prog z = .ok (.value (.bool true)) z := by
  go_simp
set_option maxRecDepth 100000 in
theorem ss_s31 {Q : Exit → Act → World → Prop} (g gt m1 m2 m3 m4 m5 : Nat) (w0 : World) (hS : Lv w0 g (stA (.slice (some ⟨gt, 0, none⟩) 1 1) (.map (some m1)) (.map (some m2)) (.map (some m3)) (.map (some m4)) (.map (some m5))).toList) (hT : Tm1 w0 (.slice (some ⟨gt, 0, none⟩) 1 1)) (hM : Ms5 w0 m1 m2 m3 m4 m5) : StepB Tryz.prog Q 80 (ssB g gt m1 m2 m3 m4 m5) w0 (ssR g gt m1 m2 m3 m4 m5) ssD 31 ⟨some 36, Op.move (Operand.tmp 35), 4, "", #[], none⟩ [30, 20] := by
  refine ⟨rfl, Or.inl rfl, by decide, by decide, fun a w hn hB hk hd K hK => ?_⟩
  have e35 : a.eval (.tmp 35) = .bool true := hd 30 (by decide)
  exact step_run rfl (ss_e31 g gt m1 m2 m3 m4 m5 _ w (fun _ => rfl) e35 ) (hK.out _ w (Kp.refl _ _) rfl)
set_option maxRecDepth 100000 in
theorem ss_e32 (g gt m1 m2 m3 m4 m5 : Nat) (ev : Operand → Value) (z : World) (ec : ∀ c, ev (.const c) = c) (e0 : ev (.tmp 0) = .pointer (some ⟨g, 0, none⟩)) : (execOp ev ⟨some 37, Op.move (Operand.tmp 0), 28, "", #[], some (31, true)⟩).run Tryz.prog z = .ok (.value (.pointer (some ⟨g, 0, none⟩))) z := by
  go_simp
set_option maxRecDepth 100000 in
theorem ss_s32 {Q : Exit → Act → World → Prop} (g gt m1 m2 m3 m4 m5 : Nat) (w0 : World) (hS : Lv w0 g (stA (.slice (some ⟨gt, 0, none⟩) 1 1) (.map (some m1)) (.map (some m2)) (.map (some m3)) (.map (some m4)) (.map (some m5))).toList) (hT : Tm1 w0 (.slice (some ⟨gt, 0, none⟩) 1 1)) (hM : Ms5 w0 m1 m2 m3 m4 m5) : StepB Tryz.prog Q 80 (ssB g gt m1 m2 m3 m4 m5) w0 (ssR g gt m1 m2 m3 m4 m5) ssD 32 ⟨some 37, Op.move (Operand.tmp 0), 28, "", #[], some (31, true)⟩ [31] := by
  refine ⟨rfl, Or.inr ⟨31, true, rfl, by decide, fun v w h => h⟩, by decide, by decide, fun a w hn hB hk hd K hK => ?_⟩
  have e0 : a.eval (.tmp 0) = .pointer (some ⟨g, 0, none⟩) := hB.1
  exact step_run rfl (ss_e32 g gt m1 m2 m3 m4 m5 _ w (fun _ => rfl) e0 ) (hK.out _ w (Kp.refl _ _) rfl)
set_option maxRecDepth 100000 in
theorem ss_e33 (g gt m1 m2 m3 m4 m5 : Nat) (ev : Operand → Value) (z : World) (ec : ∀ c, ev (.const c) = c) (e37 : ev (.tmp 37) = .pointer (some ⟨g, 0, none⟩)) : (execOp ev ⟨some 38, Op.nilCheck (Operand.tmp 37), 0, "", #[], some (31, true)⟩).run Tryz.prog z = .ok (.value (.pointer (some ⟨g, 0, none⟩))) z := by
  go_simp
set_option maxRecDepth 100000 in
theorem ss_s33 {Q : Exit → Act → World → Prop} (g gt m1 m2 m3 m4 m5 : Nat) (w0 : World) (hS : Lv w0 g (stA (.slice (some ⟨gt, 0, none⟩) 1 1) (.map (some m1)) (.map (some m2)) (.map (some m3)) (.map (some m4)) (.map (some m5))).toList) (hT : Tm1 w0 (.slice (some ⟨gt, 0, none⟩) 1 1)) (hM : Ms5 w0 m1 m2 m3 m4 m5) : StepB Tryz.prog Q 80 (ssB g gt m1 m2 m3 m4 m5) w0 (ssR g gt m1 m2 m3 m4 m5) ssD 33 ⟨some 38, Op.nilCheck (Operand.tmp 37), 0, "", #[], some (31, true)⟩ [32, 31] := by
  refine ⟨rfl, Or.inr ⟨31, true, rfl, by decide, fun v w h => h⟩, by decide, by decide, fun a w hn hB hk hd K hK => ?_⟩
  have e37 : a.eval (.tmp 37) = .pointer (some ⟨g, 0, none⟩) := hd 32 (by decide)
  exact step_run rfl (ss_e33 g gt m1 m2 m3 m4 m5 _ w (fun _ => rfl) e37 ) (hK.out _ w (Kp.refl _ _) rfl)
set_option maxRecDepth 100000 in
theorem ss_e34 (g gt m1 m2 m3 m4 m5 : Nat) (ev : Operand → Value) (z : World) (ec : ∀ c, ev (.const c) = c) (e38 : ev (.tmp 38) = .pointer (some ⟨g, 0, none⟩)) : (execOp ev ⟨some 39, Op.fieldAddr 38 (Operand.tmp 38) 3, 0, "", #[], some (31, true)⟩).run Tryz.prog z = .ok (.value (.pointer (some ⟨g, 3, none⟩))) z := by
  go_simp
set_option maxRecDepth 100000 in
theorem ss_s34 {Q : Exit → Act → World → Prop} (g gt m1 m2 m3 m4 m5 : Nat) (w0 : World) (hS : Lv w0 g (stA (.slice (some ⟨gt, 0, none⟩) 1 1) (.map (some m1)) (.map (some m2)) (.map (some m3)) (.map (some m4)) (.map (some m5))).toList) (hT : Tm1 w0 (.slice (some ⟨gt, 0, none⟩) 1 1)) (hM : Ms5 w0 m1 m2 m3 m4 m5) : StepB Tryz.prog Q 80 (ssB g gt m1 m2 m3 m4 m5) w0 (ssR g gt m1 m2 m3 m4 m5) ssD 34 ⟨some 39, Op.fieldAddr 38 (Operand.tmp 38) 3, 0, "", #[], some (31, true)⟩ [33, 31] := by
  refine ⟨rfl, Or.inr ⟨31, true, rfl, by decide, fun v w h => h⟩, by decide, by decide, fun a w hn hB hk hd K hK => ?_⟩
  have e38 : a.eval (.tmp 38) = .pointer (some ⟨g, 0, none⟩) := hd 33 (by decide)
  exact step_run rfl (ss_e34 g gt m1 m2 m3 m4 m5 _ w (fun _ => rfl) e38 ) (hK.out _ w (Kp.refl _ _) rfl)
set_option maxRecDepth 100000 in
theorem ss_e35 (g gt m1 m2 m3 m4 m5 : Nat) (ev : Operand → Value) (z : World) (ec : ∀ c, ev (.const c) = c) (e39 : ev (.tmp 39) = .pointer (some ⟨g, 3, none⟩)) (hl : (loadVar 30 ⟨g, 3, none⟩).run Tryz.prog z = .ok (.agg #[.bool true, .bool false, .bool false, .bool false, .bool false, .bool false, .bool false, .bool false, .bool false, .bool false, .bool false, .bool false, .bool false, .bool false, .bool false, .bool false]) z) : (execOp ev ⟨some 40, Op.load 30 (Operand.tmp 39), 30, "", #[], some (31, true)⟩).run Tryz.prog z = .ok (.value (.agg #[.bool true, .bool false, .bool false, .bool false, .bool false, .bool false, .bool false, .bool false, .bool false, .bool false, .bool false, .bool false, .bool false, .bool false, .bool false, .bool false])) z := by
  exact exec_ldZ e39 hl
set_option maxRecDepth 100000 in
theorem ss_s35 {Q : Exit → Act → World → Prop} (g gt m1 m2 m3 m4 m5 : Nat) (w0 : World) (hS : Lv w0 g (stA (.slice (some ⟨gt, 0, none⟩) 1 1) (.map (some m1)) (.map (some m2)) (.map (some m3)) (.map (some m4)) (.map (some m5))).toList) (hT : Tm1 w0 (.slice (some ⟨gt, 0, none⟩) 1 1)) (hM : Ms5 w0 m1 m2 m3 m4 m5) : StepB Tryz.prog Q 80 (ssB g gt m1 m2 m3 m4 m5) w0 (ssR g gt m1 m2 m3 m4 m5) ssD 35 ⟨some 40, Op.load 30 (Operand.tmp 39), 30, "", #[], some (31, true)⟩ [34, 31] := by
  refine ⟨rfl, Or.inr ⟨31, true, rfl, by decide, fun v w h => h⟩, by decide, by decide, fun a w hn hB hk hd K hK => ?_⟩
  have e39 : a.eval (.tmp 39) = .pointer (some ⟨g, 3, none⟩) := hd 34 (by decide)
  exact step_run rfl (ss_e35 g gt m1 m2 m3 m4 m5 _ w (fun _ => rfl) e39 (lv_row (hS.keep hk id) 3 16 dsNd szNd [.bool true, .bool false, .bool false, .bool false, .bool false, .bool false, .bool false, .bool false, .bool false, .bool false, .bool false, .bool false, .bool false, .bool false, .bool false, .bool false] rfl rfl)) (hK.out _ w (Kp.refl _ _) rfl)
set_option maxRecDepth 100000 in
theorem ss_e36 (g gt m1 m2 m3 m4 m5 : Nat) (ev : Operand → Value) (z : World) (ec : ∀ c, ev (.const c) = c) (e1 : ev (.tmp 1) = .pointer (some ⟨g, 0, none⟩)) : (execOp ev ⟨some 41, Op.move (Operand.tmp 1), 28, "", #[], some (31, true)⟩).run Tryz.prog z = .ok (.value (.pointer (some ⟨g, 0, none⟩))) z := by
  go_simp
set_option maxRecDepth 100000 in
theorem ss_s36 {Q : Exit → Act → World → Prop} (g gt m1 m2 m3 m4 m5 : Nat) (w0 : World) (hS : Lv w0 g (stA (.slice (some ⟨gt, 0, none⟩) 1 1) (.map (some m1)) (.map (some m2)) (.map (some m3)) (.map (some m4)) (.map (some m5))).toList) (hT : Tm1 w0 (.slice (some ⟨gt, 0, none⟩) 1 1)) (hM : Ms5 w0 m1 m2 m3 m4 m5) : StepB Tryz.prog Q 80 (ssB g gt m1 m2 m3 m4 m5) w0 (ssR g gt m1 m2 m3 m4 m5) ssD 36 ⟨some 41, Op.move (Operand.tmp 1), 28, "", #[], some (31, true)⟩ [31] := by
  refine ⟨rfl, Or.inr ⟨31, true, rfl, by decide, fun v w h => h⟩, by decide, by decide, fun a w hn hB hk hd K hK => ?_⟩
  have e1 : a.eval (.tmp 1) = .pointer (some ⟨g, 0, none⟩) := hB.2.1
  exact step_run rfl (ss_e36 g gt m1 m2 m3 m4 m5 _ w (fun _ => rfl) e1 ) (hK.out _ w (Kp.refl _ _) rfl)
set_option maxRecDepth 100000 in
theorem ss_e37 (g gt m1 m2 m3 m4 m5 : Nat) (ev : Operand → Value) (z : World) (ec : ∀ c, ev (.const c) = c) (e41 : ev (.tmp 41) = .pointer (some ⟨g, 0, none⟩)) : (execOp ev ⟨some 42, Op.nilCheck (Operand.tmp 41), 0, "", #[], some (31, true)⟩).run Tryz.prog z = .ok (.value (.pointer (some ⟨g, 0, none⟩))) z := by
  go_simp
set_option maxRecDepth 100000 in
theorem ss_s37 {Q : Exit → Act → World → Prop} (g gt m1 m2 m3 m4 m5 : Nat) (w0 : World) (hS : Lv w0 g (stA (.slice (some ⟨gt, 0, none⟩) 1 1) (.map (some m1)) (.map (some m2)) (.map (some m3)) (.map (some m4)) (.map (some m5))).toList) (hT : Tm1 w0 (.slice (some ⟨gt, 0, none⟩) 1 1)) (hM : Ms5 w0 m1 m2 m3 m4 m5) : StepB Tryz.prog Q 80 (ssB g gt m1 m2 m3 m4 m5) w0 (ssR g gt m1 m2 m3 m4 m5) ssD 37 ⟨some 42, Op.nilCheck (Operand.tmp 41), 0, "", #[], some (31, true)⟩ [36, 31] := by
  refine ⟨rfl, Or.inr ⟨31, true, rfl, by decide, fun v w h => h⟩, by decide, by decide, fun a w hn hB hk hd K hK => ?_⟩
  have e41 : a.eval (.tmp 41) = .pointer (some ⟨g, 0, none⟩) := hd 36 (by decide)
  exact step_run rfl (ss_e37 g gt m1 m2 m3 m4 m5 _ w (fun _ => rfl) e41 ) (hK.out _ w (Kp.refl _ _) rfl)
set_option maxRecDepth 100000 in
theorem ss_e38 (g gt m1 m2 m3 m4 m5 : Nat) (ev : Operand → Value) (z : World) (ec : ∀ c, ev (.const c) = c) (e42 : ev (.tmp 42) = .pointer (some ⟨g, 0, none⟩)) : (execOp ev ⟨some 43, Op.fieldAddr 38 (Operand.tmp 42) 3, 0, "", #[], some (31, true)⟩).run Tryz.prog z = .ok (.value (.pointer (some ⟨g, 3, none⟩))) z := by
  go_simp
set_option maxRecDepth 100000 in
theorem ss_s38 {Q : Exit → Act → World → Prop} (g gt m1 m2 m3 m4 m5 : Nat) (w0 : World) (hS : Lv w0 g (stA (.slice (some ⟨gt, 0, none⟩) 1 1) (.map (some m1)) (.map (some m2)) (.map (some m3)) (.map (some m4)) (.map (some m5))).toList) (hT : Tm1 w0 (.slice (some ⟨gt, 0, none⟩) 1 1)) (hM : Ms5 w0 m1 m2 m3 m4 m5) : StepB Tryz.prog Q 80 (ssB g gt m1 m2 m3 m4 m5) w0 (ssR g gt m1 m2 m3 m4 m5) ssD 38 ⟨some 43, Op.fieldAddr 38 (Operand.tmp 42) 3, 0, "", #[], some (31, true)⟩ [37, 31] := by
  refine ⟨rfl, Or.inr ⟨31, true, rfl, by decide, fun v w h => h⟩, by decide, by decide, fun a w hn hB hk hd K hK => ?_⟩
  have e42 : a.eval (.tmp 42) = .pointer (some ⟨g, 0, none⟩) := hd 37 (by decide)
  exact step_run rfl (ss_e38 g gt m1 m2 m3 m4 m5 _ w (fun _ => rfl) e42 ) (hK.out _ w (Kp.refl _ _) rfl)
set_option maxRecDepth 100000 in
theorem ss_e39 (g gt m1 m2 m3 m4 m5 : Nat) (ev : Operand → Value) (z : World) (ec : ∀ c, ev (.const c) = c) (e43 : ev (.tmp 43) = .pointer (some ⟨g, 3, none⟩)) (hl : (loadVar 30 ⟨g, 3, none⟩).run Tryz.prog z = .ok (.agg #[.bool true, .bool false, .bool false, .bool false, .bool false, .bool false, .bool false, .bool false, .bool false, .bool false, .bool false, .bool false, .bool false, .bool false, .bool false, .bool false]) z) : (execOp ev ⟨some 44, Op.load 30 (Operand.tmp 43), 30, "", #[], some (31, true)⟩).run Tryz.prog z = .ok (.value (.agg #[.bool true, .bool false, .bool false, .bool false, .bool false, .bool false, .bool false, .bool false, .bool false, .bool false, .bool false, .bool false, .bool false, .bool false, .bool false, .bool false])) z := by
  exact exec_ldZ e43 hl
set_option maxRecDepth 100000 in
theorem ss_s39 {Q : Exit → Act → World → Prop} (g gt m1 m2 m3 m4 m5 : Nat) (w0 : World) (hS : Lv w0 g (stA (.slice (some ⟨gt, 0, none⟩) 1 1) (.map (some m1)) (.map (some m2)) (.map (some m3)) (.map (some m4)) (.map (some m5))).toList) (hT : Tm1 w0 (.slice (some ⟨gt, 0, none⟩) 1 1)) (hM : Ms5 w0 m1 m2 m3 m4 m5) : StepB Tryz.prog Q 80 (ssB g gt m1 m2 m3 m4 m5) w0 (ssR g gt m1 m2 m3 m4 m5) ssD 39 ⟨some 44, Op.load 30 (Operand.tmp 43), 30, "", #[], some (31, true)⟩ [38, 31] := by
  refine ⟨rfl, Or.inr ⟨31, true, rfl, by decide, fun v w h => h⟩, by decide, by decide, fun a w hn hB hk hd K hK => ?_⟩
  have e43 : a.eval (.tmp 43) = .pointer (some ⟨g, 3, none⟩) := hd 38 (by decide)
  exact step_run rfl (ss_e39 g gt m1 m2 m3 m4 m5 _ w (fun _ => rfl) e43 (lv_row (hS.keep hk id) 3 16 dsNd szNd [.bool true, .bool false, .bool false, .bool false, .bool false, .bool false, .bool false, .bool false, .bool false, .bool false, .bool false, .bool false, .bool false, .bool false, .bool false, .bool false] rfl rfl)) (hK.out _ w (Kp.refl _ _) rfl)
set_option maxRecDepth 100000 in
theorem ss_e40 (g gt m1 m2 m3 m4 m5 : Nat) (ev : Operand → Value) (z : World) (ec : ∀ c, ev (.const c) = c) (e40 : ev (.tmp 40) = .agg #[.bool true, .bool false, .bool false, .bool false, .bool false, .bool false, .bool false, .bool false, .bool false, .bool false, .bool false, .bool false, .bool false, .bool false, .bool false, .bool false]) (e44 : ev (.tmp 44) = .agg #[.bool true, .bool false, .bool false, .bool false, .bool false, .bool false, .bool false, .bool false, .bool false, .bool false, .bool false, .bool false, .bool false, .bool false, .bool false, .bool false]) : (execOp ev ⟨some 45, Op.binOp BinOp.eql 30 (Operand.tmp 40) (Operand.tmp 44) 30, 4, "", #[], some (31, true)⟩).run Tryz.prog z = .ok (.value (.bool true)) z := by
  have h1 := eqN1
  have h0 := eqN0
  have hc := eqCd
  go_simp
set_option maxRecDepth 100000 in
theorem ss_s40 {Q : Exit → Act → World → Prop} (g gt m1 m2 m3 m4 m5 : Nat) (w0 : World) (hS : Lv w0 g (stA (.slice (some ⟨gt, 0, none⟩) 1 1) (.map (some m1)) (.map (some m2)) (.map (some m3)) (.map (some m4)) (.map (some m5))).toList) (hT : Tm1 w0 (.slice (some ⟨gt, 0, none⟩) 1 1)) (hM : Ms5 w0 m1 m2 m3 m4 m5) : StepB Tryz.prog Q 80 (ssB g gt m1 m2 m3 m4 m5) w0 (ssR g gt m1 m2 m3 m4 m5) ssD 40 ⟨some 45, Op.binOp BinOp.eql 30 (Operand.tmp 40) (Operand.tmp 44) 30, 4, "", #[], some (31, true)⟩ [35, 39, 31] := by
  refine ⟨rfl, Or.inr ⟨31, true, rfl, by decide, fun v w h => h⟩, by decide, by decide, fun a w hn hB hk hd K hK => ?_⟩
  have e40 : a.eval (.tmp 40) = .agg #[.bool true, .bool false, .bool false, .bool false, .bool false, .bool false, .bool false, .bool false, .bool false, .bool false, .bool false, .bool false, .bool false, .bool false, .bool false, .bool false] := hd 35 (by decide)
  have e44 : a.eval (.tmp 44) = .agg #[.bool true, .bool false, .bool false, .bool false, .bool false, .bool false, .bool false, .bool false, .bool false, .bool false, .bool false, .bool false, .bool false, .bool false, .bool false, .bool false] := hd 39 (by decide)
  exact step_run rfl (ss_e40 g gt m1 m2 m3 m4 m5 _ w (fun _ => rfl) e40 e44 ) (hK.out _ w (Kp.refl _ _) rfl)
set_option maxRecDepth 100000 in
theorem ss_e41 (g gt m1 m2 m3 m4 m5 : Nat) (ev : Operand → Value) (z : World) (ec : ∀ c, ev (.const c) = c) (e36 : ev (.tmp 36) = .bool true) (e45 : ev (.tmp 45) = .bool true) : (execOp ev ⟨some 46, Op.pick (Operand.tmp 36) (Operand.tmp 45) (Operand.const (Value.bool false)), 4, "", #[], none⟩).run Tryz.prog z = .ok (.value (.bool true)) z := by
  go_simp
set_option maxRecDepth 100000 in
theorem ss_s41 {Q : Exit → Act → World → Prop} (g gt m1 m2 m3 m4 m5 : Nat) (w0 : World) (hS : Lv w0 g (stA (.slice (some ⟨gt, 0, none⟩) 1 1) (.map (some m1)) (.map (some m2)) (.map (some m3)) (.map (some m4)) (.map (some m5))).toList) (hT : Tm1 w0 (.slice (some ⟨gt, 0, none⟩) 1 1)) (hM : Ms5 w0 m1 m2 m3 m4 m5) : StepB Tryz.prog Q 80 (ssB g gt m1 m2 m3 m4 m5) w0 (ssR g gt m1 m2 m3 m4 m5) ssD 41 ⟨some 46, Op.pick (Operand.tmp 36) (Operand.tmp 45) (Operand.const (Value.bool false)), 4, "", #[], none⟩ [31, 40] := by
  refine ⟨rfl, Or.inl rfl, by decide, by decide, fun a w hn hB hk hd K hK => ?_⟩
  have e36 : a.eval (.tmp 36) = .bool true := hd 31 (by decide)
  have e45 : a.eval (.tmp 45) = .bool true := hd 40 (by decide)
  exact step_run rfl (ss_e41 g gt m1 m2 m3 m4 m5 _ w (fun _ => rfl) e36 e45 ) (hK.out _ w (Kp.refl _ _) rfl)
set_option maxRecDepth 100000 in
theorem ss_e42 (g gt m1 m2 m3 m4 m5 : Nat) (ev : Operand → Value) (z : World) (ec : ∀ c, ev (.const c) = c) (e46 : ev (.tmp 46) = .bool true) : (execOp ev ⟨some 47, Op.move (Operand.tmp 46), 4, "", #[], none⟩).run Tryz.prog z = .ok (.value (.bool true)) z := by
  go_simp
set_option maxRecDepth 100000 in
theorem ss_s42 {Q : Exit → Act → World → Prop} (g gt m1 m2 m3 m4 m5 : Nat) (w0 : World) (hS : Lv w0 g (stA (.slice (some ⟨gt, 0, none⟩) 1 1) (.map (some m1)) (.map (some m2)) (.map (some m3)) (.map (some m4)) (.map (some m5))).toList) (hT : Tm1 w0 (.slice (some ⟨gt, 0, none⟩) 1 1)) (hM : Ms5 w0 m1 m2 m3 m4 m5) : StepB Tryz.prog Q 80 (ssB g gt m1 m2 m3 m4 m5) w0 (ssR g gt m1 m2 m3 m4 m5) ssD 42 ⟨some 47, Op.move (Operand.tmp 46), 4, "", #[], none⟩ [41, 31] := by
  refine ⟨rfl, Or.inl rfl, by decide, by decide, fun a w hn hB hk hd K hK => ?_⟩
  have e46 : a.eval (.tmp 46) = .bool true := hd 41 (by decide)
  exact step_run rfl (ss_e42 g gt m1 m2 m3 m4 m5 _ w (fun _ => rfl) e46 ) (hK.out _ w (Kp.refl _ _) rfl)
set_option maxRecDepth 100000 in
theorem ss_e43 (g gt m1 m2 m3 m4 m5 : Nat) (ev : Operand → Value) (z : World) (ec : ∀ c, ev (.const c) = c) (e0 : ev (.tmp 0) = .pointer (some ⟨g, 0, none⟩)) : (execOp ev ⟨some 48, Op.move (Operand.tmp 0), 28, "", #[], some (42, true)⟩).run Tryz.prog z = .ok (.value (.pointer (some ⟨g, 0, none⟩))) z := by
  go_simp
set_option maxRecDepth 100000 in
theorem ss_s43 {Q : Exit → Act → World → Prop} (g gt m1 m2 m3 m4 m5 : Nat) (w0 : World) (hS : Lv w0 g (stA (.slice (some ⟨gt, 0, none⟩) 1 1) (.map (some m1)) (.map (some m2)) (.map (some m3)) (.map (some m4)) (.map (some m5))).toList) (hT : Tm1 w0 (.slice (some ⟨gt, 0, none⟩) 1 1)) (hM : Ms5 w0 m1 m2 m3 m4 m5) : StepB Tryz.prog Q 80 (ssB g gt m1 m2 m3 m4 m5) w0 (ssR g gt m1 m2 m3 m4 m5) ssD 43 ⟨some 48, Op.move (Operand.tmp 0), 28, "", #[], some (42, true)⟩ [42] := by
  refine ⟨rfl, Or.inr ⟨42, true, rfl, by decide, fun v w h => h⟩, by decide, by decide, fun a w hn hB hk hd K hK => ?_⟩
  have e0 : a.eval (.tmp 0) = .pointer (some ⟨g, 0, none⟩) := hB.1
  exact step_run rfl (ss_e43 g gt m1 m2 m3 m4 m5 _ w (fun _ => rfl) e0 ) (hK.out _ w (Kp.refl _ _) rfl)
set_option maxRecDepth 100000 in
theorem ss_e44 (g gt m1 m2 m3 m4 m5 : Nat) (ev : Operand → Value) (z : World) (ec : ∀ c, ev (.const c) = c) (e48 : ev (.tmp 48) = .pointer (some ⟨g, 0, none⟩)) : (execOp ev ⟨some 49, Op.nilCheck (Operand.tmp 48), 0, "", #[], some (42, true)⟩).run Tryz.prog z = .ok (.value (.pointer (some ⟨g, 0, none⟩))) z := by
  go_simp
set_option maxRecDepth 100000 in
theorem ss_s44 {Q : Exit → Act → World → Prop} (g gt m1 m2 m3 m4 m5 : Nat) (w0 : World) (hS : Lv w0 g (stA (.slice (some ⟨gt, 0, none⟩) 1 1) (.map (some m1)) (.map (some m2)) (.map (some m3)) (.map (some m4)) (.map (some m5))).toList) (hT : Tm1 w0 (.slice (some ⟨gt, 0, none⟩) 1 1)) (hM : Ms5 w0 m1 m2 m3 m4 m5) : StepB Tryz.prog Q 80 (ssB g gt m1 m2 m3 m4 m5) w0 (ssR g gt m1 m2 m3 m4 m5) ssD 44 ⟨some 49, Op.nilCheck (Operand.tmp 48), 0, "", #[], some (42, true)⟩ [43, 42] := by
  refine ⟨rfl, Or.inr ⟨42, true, rfl, by decide, fun v w h => h⟩, by decide, by decide, fun a w hn hB hk hd K hK => ?_⟩
  have e48 : a.eval (.tmp 48) = .pointer (some ⟨g, 0, none⟩) := hd 43 (by decide)
  exact step_run rfl (ss_e44 g gt m1 m2 m3 m4 m5 _ w (fun _ => rfl) e48 ) (hK.out _ w (Kp.refl _ _) rfl)
set_option maxRecDepth 100000 in
theorem ss_e45 (g gt m1 m2 m3 m4 m5 : Nat) (ev : Operand → Value) (z : World) (ec : ∀ c, ev (.const c) = c) (e49 : ev (.tmp 49) = .pointer (some ⟨g, 0, none⟩)) : (execOp ev ⟨some 50, Op.fieldAddr 38 (Operand.tmp 49) 4, 0, "", #[], some (42, true)⟩).run Tryz.prog z = .ok (.value (.pointer (some ⟨g, 19, none⟩))) z := by
  go_simp
set_option maxRecDepth 100000 in
theorem ss_s45 {Q : Exit → Act → World → Prop} (g gt m1 m2 m3 m4 m5 : Nat) (w0 : World) (hS : Lv w0 g (stA (.slice (some ⟨gt, 0, none⟩) 1 1) (.map (some m1)) (.map (some m2)) (.map (some m3)) (.map (some m4)) (.map (some m5))).toList) (hT : Tm1 w0 (.slice (some ⟨gt, 0, none⟩) 1 1)) (hM : Ms5 w0 m1 m2 m3 m4 m5) : StepB Tryz.prog Q 80 (ssB g gt m1 m2 m3 m4 m5) w0 (ssR g gt m1 m2 m3 m4 m5) ssD 45 ⟨some 50, Op.fieldAddr 38 (Operand.tmp 49) 4, 0, "", #[], some (42, true)⟩ [44, 42] := by
  refine ⟨rfl, Or.inr ⟨42, true, rfl, by decide, fun v w h => h⟩, by decide, by decide, fun a w hn hB hk hd K hK => ?_⟩
  have e49 : a.eval (.tmp 49) = .pointer (some ⟨g, 0, none⟩) := hd 44 (by decide)
  exact step_run rfl (ss_e45 g gt m1 m2 m3 m4 m5 _ w (fun _ => rfl) e49 ) (hK.out _ w (Kp.refl _ _) rfl)
set_option maxRecDepth 100000 in
theorem ss_e46 (g gt m1 m2 m3 m4 m5 : Nat) (ev : Operand → Value) (z : World) (ec : ∀ c, ev (.const c) = c) (e50 : ev (.tmp 50) = .pointer (some ⟨g, 19, none⟩)) (hl : (loadVar 30 ⟨g, 19, none⟩).run Tryz.prog z = .ok (.agg #[.bool false, .bool false, .bool false, .bool false, .bool false, .bool false, .bool false, .bool false, .bool false, .bool false, .bool false, .bool false, .bool false, .bool false, .bool false, .bool false]) z) : (execOp ev ⟨some 51, Op.load 30 (Operand.tmp 50), 30, "", #[], some (42, true)⟩).run Tryz.prog z = .ok (.value (.agg #[.bool false, .bool false, .bool false, .bool false, .bool false, .bool false, .bool false, .bool false, .bool false, .bool false, .bool false, .bool false, .bool false, .bool false, .bool false, .bool false])) z := by
  exact exec_ldZ e50 hl
set_option maxRecDepth 100000 in
theorem ss_s46 {Q : Exit → Act → World → Prop} (g gt m1 m2 m3 m4 m5 : Nat) (w0 : World) (hS : Lv w0 g (stA (.slice (some ⟨gt, 0, none⟩) 1 1) (.map (some m1)) (.map (some m2)) (.map (some m3)) (.map (some m4)) (.map (some m5))).toList) (hT : Tm1 w0 (.slice (some ⟨gt, 0, none⟩) 1 1)) (hM : Ms5 w0 m1 m2 m3 m4 m5) : StepB Tryz.prog Q 80 (ssB g gt m1 m2 m3 m4 m5) w0 (ssR g gt m1 m2 m3 m4 m5) ssD 46 ⟨some 51, Op.load 30 (Operand.tmp 50), 30, "", #[], some (42, true)⟩ [45, 42] := by
  refine ⟨rfl, Or.inr ⟨42, true, rfl, by decide, fun v w h => h⟩, by decide, by decide, fun a w hn hB hk hd K hK => ?_⟩
  have e50 : a.eval (.tmp 50) = .pointer (some ⟨g, 19, none⟩) := hd 45 (by decide)
  exact step_run rfl (ss_e46 g gt m1 m2 m3 m4 m5 _ w (fun _ => rfl) e50 (lv_row (hS.keep hk id) 19 16 dsNd szNd [.bool false, .bool false, .bool false, .bool false, .bool false, .bool false, .bool false, .bool false, .bool false, .bool false, .bool false, .bool false, .bool false, .bool false, .bool false, .bool false] rfl rfl)) (hK.out _ w (Kp.refl _ _) rfl)
set_option maxRecDepth 100000 in
theorem ss_e47 (g gt m1 m2 m3 m4 m5 : Nat) (ev : Operand → Value) (z : World) (ec : ∀ c, ev (.const c) = c) (e1 : ev (.tmp 1) = .pointer (some ⟨g, 0, none⟩)) : (execOp ev ⟨some 52, Op.move (Operand.tmp 1), 28, "", #[], some (42, true)⟩).run Tryz.prog z = .ok (.value (.pointer (some ⟨g, 0, none⟩))) z := by
  go_simp
set_option maxRecDepth 100000 in
theorem ss_s47 {Q : Exit → Act → World → Prop} (g gt m1 m2 m3 m4 m5 : Nat) (w0 : World) (hS : Lv w0 g (stA (.slice (some ⟨gt, 0, none⟩) 1 1) (.map (some m1)) (.map (some m2)) (.map (some m3)) (.map (some m4)) (.map (some m5))).toList) (hT : Tm1 w0 (.slice (some ⟨gt, 0, none⟩) 1 1)) (hM : Ms5 w0 m1 m2 m3 m4 m5) : StepB Tryz.prog Q 80 (ssB g gt m1 m2 m3 m4 m5) w0 (ssR g gt m1 m2 m3 m4 m5) ssD 47 ⟨some 52, Op.move (Operand.tmp 1), 28, "", #[], some (42, true)⟩ [42] := by
  refine ⟨rfl, Or.inr ⟨42, true, rfl, by decide, fun v w h => h⟩, by decide, by decide, fun a w hn hB hk hd K hK => ?_⟩
  have e1 : a.eval (.tmp 1) = .pointer (some ⟨g, 0, none⟩) := hB.2.1
  exact step_run rfl (ss_e47 g gt m1 m2 m3 m4 m5 _ w (fun _ => rfl) e1 ) (hK.out _ w (Kp.refl _ _) rfl)
set_option maxRecDepth 100000 in
theorem ss_e48 (g gt m1 m2 m3 m4 m5 : Nat) (ev : Operand → Value) (z : World) (ec : ∀ c, ev (.const c) = c) (e52 : ev (.tmp 52) = .pointer (some ⟨g, 0, none⟩)) : (execOp ev ⟨some 53, Op.nilCheck (Operand.tmp 52), 0, "", #[], some (42, true)⟩).run Tryz.prog z = .ok (.value (.pointer (some ⟨g, 0, none⟩))) z := by
  go_simp
set_option maxRecDepth 100000 in
theorem ss_s48 {Q : Exit → Act → World → Prop} (g gt m1 m2 m3 m4 m5 : Nat) (w0 : World) (hS : Lv w0 g (stA (.slice (some ⟨gt, 0, none⟩) 1 1) (.map (some m1)) (.map (some m2)) (.map (some m3)) (.map (some m4)) (.map (some m5))).toList) (hT : Tm1 w0 (.slice (some ⟨gt, 0, none⟩) 1 1)) (hM : Ms5 w0 m1 m2 m3 m4 m5) : StepB Tryz.prog Q 80 (ssB g gt m1 m2 m3 m4 m5) w0 (ssR g gt m1 m2 m3 m4 m5) ssD 48 ⟨some 53, Op.nilCheck (Operand.tmp 52), 0, "", #[], some (42, true)⟩ [47, 42] := by
  refine ⟨rfl, Or.inr ⟨42, true, rfl, by decide, fun v w h => h⟩, by decide, by decide, fun a w hn hB hk hd K hK => ?_⟩
  have e52 : a.eval (.tmp 52) = .pointer (some ⟨g, 0, none⟩) := hd 47 (by decide)
  exact step_run rfl (ss_e48 g gt m1 m2 m3 m4 m5 _ w (fun _ => rfl) e52 ) (hK.out _ w (Kp.refl _ _) rfl)
set_option maxRecDepth 100000 in
theorem ss_e49 (g gt m1 m2 m3 m4 m5 : Nat) (ev : Operand → Value) (z : World) (ec : ∀ c, ev (.const c) = c) (e53 : ev (.tmp 53) = .pointer (some ⟨g, 0, none⟩)) : (execOp ev ⟨some 54, Op.fieldAddr 38 (Operand.tmp 53) 4, 0, "", #[], some (42, true)⟩).run Tryz.prog z = .ok (.value (.pointer (some ⟨g, 19, none⟩))) z := by
  go_simp
set_option maxRecDepth 100000 in
theorem ss_s49 {Q : Exit → Act → World → Prop} (g gt m1 m2 m3 m4 m5 : Nat) (w0 : World) (hS : Lv w0 g (stA (.slice (some ⟨gt, 0, none⟩) 1 1) (.map (some m1)) (.map (some m2)) (.map (some m3)) (.map (some m4)) (.map (some m5))).toList) (hT : Tm1 w0 (.slice (some ⟨gt, 0, none⟩) 1 1)) (hM : Ms5 w0 m1 m2 m3 m4 m5) : StepB Tryz.prog Q 80 (ssB g gt m1 m2 m3 m4 m5) w0 (ssR g gt m1 m2 m3 m4 m5) ssD 49 ⟨some 54, Op.fieldAddr 38 (Operand.tmp 53) 4, 0, "", #[], some (42, true)⟩ [48, 42] := by
  refine ⟨rfl, Or.inr ⟨42, true, rfl, by decide, fun v w h => h⟩, by decide, by decide, fun a w hn hB hk hd K hK => ?_⟩
  have e53 : a.eval (.tmp 53) = .pointer (some ⟨g, 0, none⟩) := hd 48 (by decide)
  exact step_run rfl (ss_e49 g gt m1 m2 m3 m4 m5 _ w (fun _ => rfl) e53 ) (hK.out _ w (Kp.refl _ _) rfl)
set_option maxRecDepth 100000 in
theorem ss_e50 (g gt m1 m2 m3 m4 m5 : Nat) (ev : Operand → Value) (z : World) (ec : ∀ c, ev (.const c) = c) (e54 : ev (.tmp 54) = .pointer (some ⟨g, 19, none⟩)) (hl : (loadVar 30 ⟨g, 19, none⟩).run Tryz.prog z = .ok (.agg #[.bool false, .bool false, .bool false, .bool false, .bool false, .bool false, .bool false, .bool false, .bool false, .bool false, .bool false, .bool false, .bool false, .bool false, .bool false, .bool false]) z) : (execOp ev ⟨some 55, Op.load 30 (Operand.tmp 54), 30, "", #[], some (42, true)⟩).run Tryz.prog z = .ok (.value (.agg #[.bool false, .bool false, .bool false, .bool false, .bool false, .bool false, .bool false, .bool false, .bool false, .bool false, .bool false, .bool false, .bool false, .bool false, .bool false, .bool false])) z := by
  exact exec_ldZ e54 hl
set_option maxRecDepth 100000 in
theorem ss_s50 {Q : Exit → Act → World → Prop} (g gt m1 m2 m3 m4 m5 : Nat) (w0 : World) (hS : Lv w0 g (stA (.slice (some ⟨gt, 0, none⟩) 1 1) (.map (some m1)) (.map (some m2)) (.map (some m3)) (.map (some m4)) (.map (some m5))).toList) (hT : Tm1 w0 (.slice (some ⟨gt, 0, none⟩) 1 1)) (hM : Ms5 w0 m1 m2 m3 m4 m5) : StepB Tryz.prog Q 80 (ssB g gt m1 m2 m3 m4 m5) w0 (ssR g gt m1 m2 m3 m4 m5) ssD 50 ⟨some 55, Op.load 30 (Operand.tmp 54), 30, "", #[], some (42, true)⟩ [49, 42] := by
  refine ⟨rfl, Or.inr ⟨42, true, rfl, by decide, fun v w h => h⟩, by decide, by decide, fun a w hn hB hk hd K hK => ?_⟩
  have e54 : a.eval (.tmp 54) = .pointer (some ⟨g, 19, none⟩) := hd 49 (by decide)
  exact step_run rfl (ss_e50 g gt m1 m2 m3 m4 m5 _ w (fun _ => rfl) e54 (lv_row (hS.keep hk id) 19 16 dsNd szNd [.bool false, .bool false, .bool false, .bool false, .bool false, .bool false, .bool false, .bool false, .bool false, .bool false, .bool false, .bool false, .bool false, .bool false, .bool false, .bool false] rfl rfl)) (hK.out _ w (Kp.refl _ _) rfl)
set_option maxRecDepth 100000 in
theorem ss_e51 (g gt m1 m2 m3 m4 m5 : Nat) (ev : Operand → Value) (z : World) (ec : ∀ c, ev (.const c) = c) (e51 : ev (.tmp 51) = .agg #[.bool false, .bool false, .bool false, .bool false, .bool false, .bool false, .bool false, .bool false, .bool false, .bool false, .bool false, .bool false, .bool false, .bool false, .bool false, .bool false]) (e55 : ev (.tmp 55) = .agg #[.bool false, .bool false, .bool false, .bool false, .bool false, .bool false, .bool false, .bool false, .bool false, .bool false, .bool false, .bool false, .bool false, .bool false, .bool false, .bool false]) : (execOp ev ⟨some 56, Op.binOp BinOp.eql 30 (Operand.tmp 51) (Operand.tmp 55) 30, 4, "", #[], some (42, true)⟩).run Tryz.prog z = .ok (.value (.bool true)) z := by
  have h1 := eqN1
  have h0 := eqN0
  have hc := eqCd
  go_simp
set_option maxRecDepth 100000 in
theorem ss_s51 {Q : Exit → Act → World → Prop} (g gt m1 m2 m3 m4 m5 : Nat) (w0 : World) (hS : Lv w0 g (stA (.slice (some ⟨gt, 0, none⟩) 1 1) (.map (some m1)) (.map (some m2)) (.map (some m3)) (.map (some m4)) (.map (some m5))).toList) (hT : Tm1 w0 (.slice (some ⟨gt, 0, none⟩) 1 1)) (hM : Ms5 w0 m1 m2 m3 m4 m5) : StepB Tryz.prog Q 80 (ssB g gt m1 m2 m3 m4 m5) w0 (ssR g gt m1 m2 m3 m4 m5) ssD 51 ⟨some 56, Op.binOp BinOp.eql 30 (Operand.tmp 51) (Operand.tmp 55) 30, 4, "", #[], some (42, true)⟩ [46, 50, 42] := by
  refine ⟨rfl, Or.inr ⟨42, true, rfl, by decide, fun v w h => h⟩, by decide, by decide, fun a w hn hB hk hd K hK => ?_⟩
  have e51 : a.eval (.tmp 51) = .agg #[.bool false, .bool false, .bool false, .bool false, .bool false, .bool false, .bool false, .bool false, .bool false, .bool false, .bool false, .bool false, .bool false, .bool false, .bool false, .bool false] := hd 46 (by decide)
  have e55 : a.eval (.tmp 55) = .agg #[.bool false, .bool false, .bool false, .bool false, .bool false, .bool false, .bool false, .bool false, .bool false, .bool false, .bool false, .bool false, .bool false, .bool false, .bool false, .bool false] := hd 50 (by decide)
  exact step_run rfl (ss_e51 g gt m1 m2 m3 m4 m5 _ w (fun _ => rfl) e51 e55 ) (hK.out _ w (Kp.refl _ _) rfl)
set_option maxRecDepth 100000 in
theorem ss_e52 (g gt m1 m2 m3 m4 m5 : Nat) (ev : Operand → Value) (z : World) (ec : ∀ c, ev (.const c) = c) (e47 : ev (.tmp 47) = .bool true) (e56 : ev (.tmp 56) = .bool true) : (execOp ev ⟨some 57, Op.pick (Operand.tmp 47) (Operand.tmp 56) (Operand.const (Value.bool false)), 4, "", #[], none⟩).run Tryz.prog z = .ok (.value (.bool true)) z := by
  go_simp
set_option maxRecDepth 100000 in
theorem ss_s52 {Q : Exit → Act → World → Prop} (g gt m1 m2 m3 m4 m5 : Nat) (w0 : World) (hS : Lv w0 g (stA (.slice (some ⟨gt, 0, none⟩) 1 1) (.map (some m1)) (.map (some m2)) (.map (some m3)) (.map (some m4)) (.map (some m5))).toList) (hT : Tm1 w0 (.slice (some ⟨gt, 0, none⟩) 1 1)) (hM : Ms5 w0 m1 m2 m3 m4 m5) : StepB Tryz.prog Q 80 (ssB g gt m1 m2 m3 m4 m5) w0 (ssR g gt m1 m2 m3 m4 m5) ssD 52 ⟨some 57, Op.pick (Operand.tmp 47) (Operand.tmp 56) (Operand.const (Value.bool false)), 4, "", #[], none⟩ [42, 51] := by
  refine ⟨rfl, Or.inl rfl, by decide, by decide, fun a w hn hB hk hd K hK => ?_⟩
  have e47 : a.eval (.tmp 47) = .bool true := hd 42 (by decide)
  have e56 : a.eval (.tmp 56) = .bool true := hd 51 (by decide)
  exact step_run rfl (ss_e52 g gt m1 m2 m3 m4 m5 _ w (fun _ => rfl) e47 e56 ) (hK.out _ w (Kp.refl _ _) rfl)
set_option maxRecDepth 100000 in
theorem ss_e53 (g gt m1 m2 m3 m4 m5 : Nat) (ev : Operand → Value) (z : World) (ec : ∀ c, ev (.const c) = c) (e57 : ev (.tmp 57) = .bool true) : (execOp ev ⟨some 58, Op.move (Operand.tmp 57), 4, "", #[], none⟩).run Tryz.prog z = .ok (.value (.bool true)) z := by
  go_simp
set_option maxRecDepth 100000 in
theorem ss_s53 {Q : Exit → Act → World → Prop} (g gt m1 m2 m3 m4 m5 : Nat) (w0 : World) (hS : Lv w0 g (stA (.slice (some ⟨gt, 0, none⟩) 1 1) (.map (some m1)) (.map (some m2)) (.map (some m3)) (.map (some m4)) (.map (some m5))).toList) (hT : Tm1 w0 (.slice (some ⟨gt, 0, none⟩) 1 1)) (hM : Ms5 w0 m1 m2 m3 m4 m5) : StepB Tryz.prog Q 80 (ssB g gt m1 m2 m3 m4 m5) w0 (ssR g gt m1 m2 m3 m4 m5) ssD 53 ⟨some 58, Op.move (Operand.tmp 57), 4, "", #[], none⟩ [52, 42] := by
  refine ⟨rfl, Or.inl rfl, by decide, by decide, fun a w hn hB hk hd K hK => ?_⟩
  have e57 : a.eval (.tmp 57) = .bool true := hd 52 (by decide)
  exact step_run rfl (ss_e53 g gt m1 m2 m3 m4 m5 _ w (fun _ => rfl) e57 ) (hK.out _ w (Kp.refl _ _) rfl)
set_option maxRecDepth 100000 in
theorem ss_e54 (g gt m1 m2 m3 m4 m5 : Nat) (ev : Operand → Value) (z : World) (ec : ∀ c, ev (.const c) = c) (e0 : ev (.tmp 0) = .pointer (some ⟨g, 0, none⟩)) : (execOp ev ⟨some 59, Op.move (Operand.tmp 0), 28, "", #[], some (53, true)⟩).run Tryz.prog z = .ok (.value (.pointer (some ⟨g, 0, none⟩))) z := by
  go_simp
set_option maxRecDepth 100000 in
theorem ss_s54 {Q : Exit → Act → World → Prop} (g gt m1 m2 m3 m4 m5 : Nat) (w0 : World) (hS : Lv w0 g (stA (.slice (some ⟨gt, 0, none⟩) 1 1) (.map (some m1)) (.map (some m2)) (.map (some m3)) (.map (some m4)) (.map (some m5))).toList) (hT : Tm1 w0 (.slice (some ⟨gt, 0, none⟩) 1 1)) (hM : Ms5 w0 m1 m2 m3 m4 m5) : StepB Tryz.prog Q 80 (ssB g gt m1 m2 m3 m4 m5) w0 (ssR g gt m1 m2 m3 m4 m5) ssD 54 ⟨some 59, Op.move (Operand.tmp 0), 28, "", #[], some (53, true)⟩ [53] := by
  refine ⟨rfl, Or.inr ⟨53, true, rfl, by decide, fun v w h => h⟩, by decide, by decide, fun a w hn hB hk hd K hK => ?_⟩
  have e0 : a.eval (.tmp 0) = .pointer (some ⟨g, 0, none⟩) := hB.1
  exact step_run rfl (ss_e54 g gt m1 m2 m3 m4 m5 _ w (fun _ => rfl) e0 ) (hK.out _ w (Kp.refl _ _) rfl)
set_option maxRecDepth 100000 in
theorem ss_e55 (g gt m1 m2 m3 m4 m5 : Nat) (ev : Operand → Value) (z : World) (ec : ∀ c, ev (.const c) = c) (e59 : ev (.tmp 59) = .pointer (some ⟨g, 0, none⟩)) : (execOp ev ⟨some 60, Op.nilCheck (Operand.tmp 59), 0, "", #[], some (53, true)⟩).run Tryz.prog z = .ok (.value (.pointer (some ⟨g, 0, none⟩))) z := by
  go_simp
set_option maxRecDepth 100000 in
theorem ss_s55 {Q : Exit → Act → World → Prop} (g gt m1 m2 m3 m4 m5 : Nat) (w0 : World) (hS : Lv w0 g (stA (.slice (some ⟨gt, 0, none⟩) 1 1) (.map (some m1)) (.map (some m2)) (.map (some m3)) (.map (some m4)) (.map (some m5))).toList) (hT : Tm1 w0 (.slice (some ⟨gt, 0, none⟩) 1 1)) (hM : Ms5 w0 m1 m2 m3 m4 m5) : StepB Tryz.prog Q 80 (ssB g gt m1 m2 m3 m4 m5) w0 (ssR g gt m1 m2 m3 m4 m5) ssD 55 ⟨some 60, Op.nilCheck (Operand.tmp 59), 0, "", #[], some (53, true)⟩ [54, 53] := by
  refine ⟨rfl, Or.inr ⟨53, true, rfl, by decide, fun v w h => h⟩, by decide, by decide, fun a w hn hB hk hd K hK => ?_⟩
  have e59 : a.eval (.tmp 59) = .pointer (some ⟨g, 0, none⟩) := hd 54 (by decide)
  exact step_run rfl (ss_e55 g gt m1 m2 m3 m4 m5 _ w (fun _ => rfl) e59 ) (hK.out _ w (Kp.refl _ _) rfl)
set_option maxRecDepth 100000 in
theorem ss_e56 (g gt m1 m2 m3 m4 m5 : Nat) (ev : Operand → Value) (z : World) (ec : ∀ c, ev (.const c) = c) (e60 : ev (.tmp 60) = .pointer (some ⟨g, 0, none⟩)) : (execOp ev ⟨some 61, Op.fieldAddr 38 (Operand.tmp 60) 6, 0, "", #[], some (53, true)⟩).run Tryz.prog z = .ok (.value (.pointer (some ⟨g, 36, none⟩))) z := by
  go_simp
set_option maxRecDepth 100000 in
theorem ss_s56 {Q : Exit → Act → World → Prop} (g gt m1 m2 m3 m4 m5 : Nat) (w0 : World) (hS : Lv w0 g (stA (.slice (some ⟨gt, 0, none⟩) 1 1) (.map (some m1)) (.map (some m2)) (.map (some m3)) (.map (some m4)) (.map (some m5))).toList) (hT : Tm1 w0 (.slice (some ⟨gt, 0, none⟩) 1 1)) (hM : Ms5 w0 m1 m2 m3 m4 m5) : StepB Tryz.prog Q 80 (ssB g gt m1 m2 m3 m4 m5) w0 (ssR g gt m1 m2 m3 m4 m5) ssD 56 ⟨some 61, Op.fieldAddr 38 (Operand.tmp 60) 6, 0, "", #[], some (53, true)⟩ [55, 53] := by
  refine ⟨rfl, Or.inr ⟨53, true, rfl, by decide, fun v w h => h⟩, by decide, by decide, fun a w hn hB hk hd K hK => ?_⟩
  have e60 : a.eval (.tmp 60) = .pointer (some ⟨g, 0, none⟩) := hd 55 (by decide)
  exact step_run rfl (ss_e56 g gt m1 m2 m3 m4 m5 _ w (fun _ => rfl) e60 ) (hK.out _ w (Kp.refl _ _) rfl)
set_option maxRecDepth 100000 in
theorem ss_e57 (g gt m1 m2 m3 m4 m5 : Nat) (ev : Operand → Value) (z : World) (ec : ∀ c, ev (.const c) = c) (e61 : ev (.tmp 61) = .pointer (some ⟨g, 36, none⟩)) (hl : (loadVar 24 ⟨g, 36, none⟩).run Tryz.prog z = .ok (.agg #[.int .i64 1, .int .i64 0]) z) : (execOp ev ⟨some 62, Op.load 24 (Operand.tmp 61), 24, "", #[], some (53, true)⟩).run Tryz.prog z = .ok (.value (.agg #[.int .i64 1, .int .i64 0])) z := by
  exact exec_ldZ e61 hl
set_option maxRecDepth 100000 in
theorem ss_s57 {Q : Exit → Act → World → Prop} (g gt m1 m2 m3 m4 m5 : Nat) (w0 : World) (hS : Lv w0 g (stA (.slice (some ⟨gt, 0, none⟩) 1 1) (.map (some m1)) (.map (some m2)) (.map (some m3)) (.map (some m4)) (.map (some m5))).toList) (hT : Tm1 w0 (.slice (some ⟨gt, 0, none⟩) 1 1)) (hM : Ms5 w0 m1 m2 m3 m4 m5) : StepB Tryz.prog Q 80 (ssB g gt m1 m2 m3 m4 m5) w0 (ssR g gt m1 m2 m3 m4 m5) ssD 57 ⟨some 62, Op.load 24 (Operand.tmp 61), 24, "", #[], some (53, true)⟩ [56, 53] := by
  refine ⟨rfl, Or.inr ⟨53, true, rfl, by decide, fun v w h => h⟩, by decide, by decide, fun a w hn hB hk hd K hK => ?_⟩
  have e61 : a.eval (.tmp 61) = .pointer (some ⟨g, 36, none⟩) := hd 56 (by decide)
  exact step_run rfl (ss_e57 g gt m1 m2 m3 m4 m5 _ w (fun _ => rfl) e61 (lv_row (hS.keep hk id) 36 2 dsCodeZ szCodeZ [.int .i64 1, .int .i64 0] rfl rfl)) (hK.out _ w (Kp.refl _ _) rfl)
set_option maxRecDepth 100000 in
theorem ss_e58 (g gt m1 m2 m3 m4 m5 : Nat) (ev : Operand → Value) (z : World) (ec : ∀ c, ev (.const c) = c) (e1 : ev (.tmp 1) = .pointer (some ⟨g, 0, none⟩)) : (execOp ev ⟨some 63, Op.move (Operand.tmp 1), 28, "", #[], some (53, true)⟩).run Tryz.prog z = .ok (.value (.pointer (some ⟨g, 0, none⟩))) z := by
  go_simp
set_option maxRecDepth 100000 in
theorem ss_s58 {Q : Exit → Act → World → Prop} (g gt m1 m2 m3 m4 m5 : Nat) (w0 : World) (hS : Lv w0 g (stA (.slice (some ⟨gt, 0, none⟩) 1 1) (.map (some m1)) (.map (some m2)) (.map (some m3)) (.map (some m4)) (.map (some m5))).toList) (hT : Tm1 w0 (.slice (some ⟨gt, 0, none⟩) 1 1)) (hM : Ms5 w0 m1 m2 m3 m4 m5) : StepB Tryz.prog Q 80 (ssB g gt m1 m2 m3 m4 m5) w0 (ssR g gt m1 m2 m3 m4 m5) ssD 58 ⟨some 63, Op.move (Operand.tmp 1), 28, "", #[], some (53, true)⟩ [53] := by
  refine ⟨rfl, Or.inr ⟨53, true, rfl, by decide, fun v w h => h⟩, by decide, by decide, fun a w hn hB hk hd K hK => ?_⟩
  have e1 : a.eval (.tmp 1) = .pointer (some ⟨g, 0, none⟩) := hB.2.1
  exact step_run rfl (ss_e58 g gt m1 m2 m3 m4 m5 _ w (fun _ => rfl) e1 ) (hK.out _ w (Kp.refl _ _) rfl)
set_option maxRecDepth 100000 in
theorem ss_e59 (g gt m1 m2 m3 m4 m5 : Nat) (ev : Operand → Value) (z : World) (ec : ∀ c, ev (.const c) = c) (e63 : ev (.tmp 63) = .pointer (some ⟨g, 0, none⟩)) : (execOp ev ⟨some 64, Op.nilCheck (Operand.tmp 63), 0, "", #[], some (53, true)⟩).run Tryz.prog z = .ok (.value (.pointer (some ⟨g, 0, none⟩))) z := by
  go_simp
set_option maxRecDepth 100000 in
theorem ss_s59 {Q : Exit → Act → World → Prop} (g gt m1 m2 m3 m4 m5 : Nat) (w0 : World) (hS : Lv w0 g (stA (.slice (some ⟨gt, 0, none⟩) 1 1) (.map (some m1)) (.map (some m2)) (.map (some m3)) (.map (some m4)) (.map (some m5))).toList) (hT : Tm1 w0 (.slice (some ⟨gt, 0, none⟩) 1 1)) (hM : Ms5 w0 m1 m2 m3 m4 m5) : StepB Tryz.prog Q 80 (ssB g gt m1 m2 m3 m4 m5) w0 (ssR g gt m1 m2 m3 m4 m5) ssD 59 ⟨some 64, Op.nilCheck (Operand.tmp 63), 0, "", #[], some (53, true)⟩ [58, 53] := by
  refine ⟨rfl, Or.inr ⟨53, true, rfl, by decide, fun v w h => h⟩, by decide, by decide, fun a w hn hB hk hd K hK => ?_⟩
  have e63 : a.eval (.tmp 63) = .pointer (some ⟨g, 0, none⟩) := hd 58 (by decide)
  exact step_run rfl (ss_e59 g gt m1 m2 m3 m4 m5 _ w (fun _ => rfl) e63 ) (hK.out _ w (Kp.refl _ _) rfl)
set_option maxRecDepth 100000 in
theorem ss_e60 (g gt m1 m2 m3 m4 m5 : Nat) (ev : Operand → Value) (z : World) (ec : ∀ c, ev (.const c) = c) (e64 : ev (.tmp 64) = .pointer (some ⟨g, 0, none⟩)) : (execOp ev ⟨some 65, Op.fieldAddr 38 (Operand.tmp 64) 6, 0, "", #[], some (53, true)⟩).run Tryz.prog z = .ok (.value (.pointer (some ⟨g, 36, none⟩))) z := by
  go_simp
set_option maxRecDepth 100000 in
theorem ss_s60 {Q : Exit → Act → World → Prop} (g gt m1 m2 m3 m4 m5 : Nat) (w0 : World) (hS : Lv w0 g (stA (.slice (some ⟨gt, 0, none⟩) 1 1) (.map (some m1)) (.map (some m2)) (.map (some m3)) (.map (some m4)) (.map (some m5))).toList) (hT : Tm1 w0 (.slice (some ⟨gt, 0, none⟩) 1 1)) (hM : Ms5 w0 m1 m2 m3 m4 m5) : StepB Tryz.prog Q 80 (ssB g gt m1 m2 m3 m4 m5) w0 (ssR g gt m1 m2 m3 m4 m5) ssD 60 ⟨some 65, Op.fieldAddr 38 (Operand.tmp 64) 6, 0, "", #[], some (53, true)⟩ [59, 53] := by
  refine ⟨rfl, Or.inr ⟨53, true, rfl, by decide, fun v w h => h⟩, by decide, by decide, fun a w hn hB hk hd K hK => ?_⟩
  have e64 : a.eval (.tmp 64) = .pointer (some ⟨g, 0, none⟩) := hd 59 (by decide)
  exact step_run rfl (ss_e60 g gt m1 m2 m3 m4 m5 _ w (fun _ => rfl) e64 ) (hK.out _ w (Kp.refl _ _) rfl)
set_option maxRecDepth 100000 in
theorem ss_e61 (g gt m1 m2 m3 m4 m5 : Nat) (ev : Operand → Value) (z : World) (ec : ∀ c, ev (.const c) = c) (e65 : ev (.tmp 65) = .pointer (some ⟨g, 36, none⟩)) (hl : (loadVar 24 ⟨g, 36, none⟩).run Tryz.prog z = .ok (.agg #[.int .i64 1, .int .i64 0]) z) : (execOp ev ⟨some 66, Op.load 24 (Operand.tmp 65), 24, "", #[], some (53, true)⟩).run Tryz.prog z = .ok (.value (.agg #[.int .i64 1, .int .i64 0])) z := by
  exact exec_ldZ e65 hl
set_option maxRecDepth 100000 in
theorem ss_s61 {Q : Exit → Act → World → Prop} (g gt m1 m2 m3 m4 m5 : Nat) (w0 : World) (hS : Lv w0 g (stA (.slice (some ⟨gt, 0, none⟩) 1 1) (.map (some m1)) (.map (some m2)) (.map (some m3)) (.map (some m4)) (.map (some m5))).toList) (hT : Tm1 w0 (.slice (some ⟨gt, 0, none⟩) 1 1)) (hM : Ms5 w0 m1 m2 m3 m4 m5) : StepB Tryz.prog Q 80 (ssB g gt m1 m2 m3 m4 m5) w0 (ssR g gt m1 m2 m3 m4 m5) ssD 61 ⟨some 66, Op.load 24 (Operand.tmp 65), 24, "", #[], some (53, true)⟩ [60, 53] := by
  refine ⟨rfl, Or.inr ⟨53, true, rfl, by decide, fun v w h => h⟩, by decide, by decide, fun a w hn hB hk hd K hK => ?_⟩
  have e65 : a.eval (.tmp 65) = .pointer (some ⟨g, 36, none⟩) := hd 60 (by decide)
  exact step_run rfl (ss_e61 g gt m1 m2 m3 m4 m5 _ w (fun _ => rfl) e65 (lv_row (hS.keep hk id) 36 2 dsCodeZ szCodeZ [.int .i64 1, .int .i64 0] rfl rfl)) (hK.out _ w (Kp.refl _ _) rfl)
set_option maxRecDepth 100000 in
theorem ss_e62 (g gt m1 m2 m3 m4 m5 : Nat) (ev : Operand → Value) (z : World) (ec : ∀ c, ev (.const c) = c) (e62 : ev (.tmp 62) = .agg #[.int .i64 1, .int .i64 0]) (e66 : ev (.tmp 66) = .agg #[.int .i64 1, .int .i64 0]) : (execOp ev ⟨some 67, Op.binOp BinOp.eql 24 (Operand.tmp 62) (Operand.tmp 66) 24, 4, "", #[], some (53, true)⟩).run Tryz.prog z = .ok (.value (.bool true)) z := by
  have h1 := eqN1
  have h0 := eqN0
  have hc := eqCd
  go_simp
set_option maxRecDepth 100000 in
theorem ss_s62 {Q : Exit → Act → World → Prop} (g gt m1 m2 m3 m4 m5 : Nat) (w0 : World) (hS : Lv w0 g (stA (.slice (some ⟨gt, 0, none⟩) 1 1) (.map (some m1)) (.map (some m2)) (.map (some m3)) (.map (some m4)) (.map (some m5))).toList) (hT : Tm1 w0 (.slice (some ⟨gt, 0, none⟩) 1 1)) (hM : Ms5 w0 m1 m2 m3 m4 m5) : StepB Tryz.prog Q 80 (ssB g gt m1 m2 m3 m4 m5) w0 (ssR g gt m1 m2 m3 m4 m5) ssD 62 ⟨some 67, Op.binOp BinOp.eql 24 (Operand.tmp 62) (Operand.tmp 66) 24, 4, "", #[], some (53, true)⟩ [57, 61, 53] := by
  refine ⟨rfl, Or.inr ⟨53, true, rfl, by decide, fun v w h => h⟩, by decide, by decide, fun a w hn hB hk hd K hK => ?_⟩
  have e62 : a.eval (.tmp 62) = .agg #[.int .i64 1, .int .i64 0] := hd 57 (by decide)
  have e66 : a.eval (.tmp 66) = .agg #[.int .i64 1, .int .i64 0] := hd 61 (by decide)
  exact step_run rfl (ss_e62 g gt m1 m2 m3 m4 m5 _ w (fun _ => rfl) e62 e66 ) (hK.out _ w (Kp.refl _ _) rfl)
set_option maxRecDepth 100000 in
theorem ss_e63 (g gt m1 m2 m3 m4 m5 : Nat) (ev : Operand → Value) (z : World) (ec : ∀ c, ev (.const c) = c) (e58 : ev (.tmp 58) = .bool true) (e67 : ev (.tmp 67) = .bool true) : (execOp ev ⟨some 68, Op.pick (Operand.tmp 58) (Operand.tmp 67) (Operand.const (Value.bool false)), 4, "", #[], none⟩).run Tryz.prog z = .ok (.value (.bool true)) z := by
  go_simp
set_option maxRecDepth 100000 in
theorem ss_s63 {Q : Exit → Act → World → Prop} (g gt m1 m2 m3 m4 m5 : Nat) (w0 : World) (hS : Lv w0 g (stA (.slice (some ⟨gt, 0, none⟩) 1 1) (.map (some m1)) (.map (some m2)) (.map (some m3)) (.map (some m4)) (.map (some m5))).toList) (hT : Tm1 w0 (.slice (some ⟨gt, 0, none⟩) 1 1)) (hM : Ms5 w0 m1 m2 m3 m4 m5) : StepB Tryz.prog Q 80 (ssB g gt m1 m2 m3 m4 m5) w0 (ssR g gt m1 m2 m3 m4 m5) ssD 63 ⟨some 68, Op.pick (Operand.tmp 58) (Operand.tmp 67) (Operand.const (Value.bool false)), 4, "", #[], none⟩ [53, 62] := by
  refine ⟨rfl, Or.inl rfl, by decide, by decide, fun a w hn hB hk hd K hK => ?_⟩
  have e58 : a.eval (.tmp 58) = .bool true := hd 53 (by decide)
  have e67 : a.eval (.tmp 67) = .bool true := hd 62 (by decide)
  exact step_run rfl (ss_e63 g gt m1 m2 m3 m4 m5 _ w (fun _ => rfl) e58 e67 ) (hK.out _ w (Kp.refl _ _) rfl)
set_option maxRecDepth 100000 in
theorem ss_e64 (g gt m1 m2 m3 m4 m5 : Nat) (ev : Operand → Value) (z : World) (ec : ∀ c, ev (.const c) = c) (e68 : ev (.tmp 68) = .bool true) : (execOp ev ⟨some 69, Op.move (Operand.tmp 68), 4, "", #[], none⟩).run Tryz.prog z = .ok (.value (.bool true)) z := by
  go_simp
set_option maxRecDepth 100000 in
theorem ss_s64 {Q : Exit → Act → World → Prop} (g gt m1 m2 m3 m4 m5 : Nat) (w0 : World) (hS : Lv w0 g (stA (.slice (some ⟨gt, 0, none⟩) 1 1) (.map (some m1)) (.map (some m2)) (.map (some m3)) (.map (some m4)) (.map (some m5))).toList) (hT : Tm1 w0 (.slice (some ⟨gt, 0, none⟩) 1 1)) (hM : Ms5 w0 m1 m2 m3 m4 m5) : StepB Tryz.prog Q 80 (ssB g gt m1 m2 m3 m4 m5) w0 (ssR g gt m1 m2 m3 m4 m5) ssD 64 ⟨some 69, Op.move (Operand.tmp 68), 4, "", #[], none⟩ [63, 53] := by
  refine ⟨rfl, Or.inl rfl, by decide, by decide, fun a w hn hB hk hd K hK => ?_⟩
  have e68 : a.eval (.tmp 68) = .bool true := hd 63 (by decide)
  exact step_run rfl (ss_e64 g gt m1 m2 m3 m4 m5 _ w (fun _ => rfl) e68 ) (hK.out _ w (Kp.refl _ _) rfl)
set_option maxRecDepth 100000 in
theorem ss_e65 (g gt m1 m2 m3 m4 m5 : Nat) (ev : Operand → Value) (z : World) (ec : ∀ c, ev (.const c) = c) (e0 : ev (.tmp 0) = .pointer (some ⟨g, 0, none⟩)) : (execOp ev ⟨some 70, Op.move (Operand.tmp 0), 28, "", #[], some (64, true)⟩).run Tryz.prog z = .ok (.value (.pointer (some ⟨g, 0, none⟩))) z := by
  go_simp
set_option maxRecDepth 100000 in
theorem ss_s65 {Q : Exit → Act → World → Prop} (g gt m1 m2 m3 m4 m5 : Nat) (w0 : World) (hS : Lv w0 g (stA (.slice (some ⟨gt, 0, none⟩) 1 1) (.map (some m1)) (.map (some m2)) (.map (some m3)) (.map (some m4)) (.map (some m5))).toList) (hT : Tm1 w0 (.slice (some ⟨gt, 0, none⟩) 1 1)) (hM : Ms5 w0 m1 m2 m3 m4 m5) : StepB Tryz.prog Q 80 (ssB g gt m1 m2 m3 m4 m5) w0 (ssR g gt m1 m2 m3 m4 m5) ssD 65 ⟨some 70, Op.move (Operand.tmp 0), 28, "", #[], some (64, true)⟩ [64] := by
  refine ⟨rfl, Or.inr ⟨64, true, rfl, by decide, fun v w h => h⟩, by decide, by decide, fun a w hn hB hk hd K hK => ?_⟩
  have e0 : a.eval (.tmp 0) = .pointer (some ⟨g, 0, none⟩) := hB.1
  exact step_run rfl (ss_e65 g gt m1 m2 m3 m4 m5 _ w (fun _ => rfl) e0 ) (hK.out _ w (Kp.refl _ _) rfl)
set_option maxRecDepth 100000 in
theorem ss_e66 (g gt m1 m2 m3 m4 m5 : Nat) (ev : Operand → Value) (z : World) (ec : ∀ c, ev (.const c) = c) (e70 : ev (.tmp 70) = .pointer (some ⟨g, 0, none⟩)) : (execOp ev ⟨some 71, Op.nilCheck (Operand.tmp 70), 0, "", #[], some (64, true)⟩).run Tryz.prog z = .ok (.value (.pointer (some ⟨g, 0, none⟩))) z := by
  go_simp
set_option maxRecDepth 100000 in
theorem ss_s66 {Q : Exit → Act → World → Prop} (g gt m1 m2 m3 m4 m5 : Nat) (w0 : World) (hS : Lv w0 g (stA (.slice (some ⟨gt, 0, none⟩) 1 1) (.map (some m1)) (.map (some m2)) (.map (some m3)) (.map (some m4)) (.map (some m5))).toList) (hT : Tm1 w0 (.slice (some ⟨gt, 0, none⟩) 1 1)) (hM : Ms5 w0 m1 m2 m3 m4 m5) : StepB Tryz.prog Q 80 (ssB g gt m1 m2 m3 m4 m5) w0 (ssR g gt m1 m2 m3 m4 m5) ssD 66 ⟨some 71, Op.nilCheck (Operand.tmp 70), 0, "", #[], some (64, true)⟩ [65, 64] := by
  refine ⟨rfl, Or.inr ⟨64, true, rfl, by decide, fun v w h => h⟩, by decide, by decide, fun a w hn hB hk hd K hK => ?_⟩
  have e70 : a.eval (.tmp 70) = .pointer (some ⟨g, 0, none⟩) := hd 65 (by decide)
  exact step_run rfl (ss_e66 g gt m1 m2 m3 m4 m5 _ w (fun _ => rfl) e70 ) (hK.out _ w (Kp.refl _ _) rfl)
set_option maxRecDepth 100000 in
theorem ss_e67 (g gt m1 m2 m3 m4 m5 : Nat) (ev : Operand → Value) (z : World) (ec : ∀ c, ev (.const c) = c) (e71 : ev (.tmp 71) = .pointer (some ⟨g, 0, none⟩)) : (execOp ev ⟨some 72, Op.fieldAddr 38 (Operand.tmp 71) 5, 0, "", #[], some (64, true)⟩).run Tryz.prog z = .ok (.value (.pointer (some ⟨g, 35, none⟩))) z := by
  go_simp
set_option maxRecDepth 100000 in
theorem ss_s67 {Q : Exit → Act → World → Prop} (g gt m1 m2 m3 m4 m5 : Nat) (w0 : World) (hS : Lv w0 g (stA (.slice (some ⟨gt, 0, none⟩) 1 1) (.map (some m1)) (.map (some m2)) (.map (some m3)) (.map (some m4)) (.map (some m5))).toList) (hT : Tm1 w0 (.slice (some ⟨gt, 0, none⟩) 1 1)) (hM : Ms5 w0 m1 m2 m3 m4 m5) : StepB Tryz.prog Q 80 (ssB g gt m1 m2 m3 m4 m5) w0 (ssR g gt m1 m2 m3 m4 m5) ssD 67 ⟨some 72, Op.fieldAddr 38 (Operand.tmp 71) 5, 0, "", #[], some (64, true)⟩ [66, 64] := by
  refine ⟨rfl, Or.inr ⟨64, true, rfl, by decide, fun v w h => h⟩, by decide, by decide, fun a w hn hB hk hd K hK => ?_⟩
  have e71 : a.eval (.tmp 71) = .pointer (some ⟨g, 0, none⟩) := hd 66 (by decide)
  exact step_run rfl (ss_e67 g gt m1 m2 m3 m4 m5 _ w (fun _ => rfl) e71 ) (hK.out _ w (Kp.refl _ _) rfl)
set_option maxRecDepth 100000 in
theorem ss_e68 (g gt m1 m2 m3 m4 m5 : Nat) (ev : Operand → Value) (z : World) (ec : ∀ c, ev (.const c) = c) (e72 : ev (.tmp 72) = .pointer (some ⟨g, 35, none⟩)) (hc : z.cell? ⟨g, 35, none⟩ = some (.slice (some ⟨gt, 0, none⟩) 1 1)) : (execOp ev ⟨some 73, Op.load 31 (Operand.tmp 72), 31, "", #[], some (64, true)⟩).run Tryz.prog z = .ok (.value (.slice (some ⟨gt, 0, none⟩) 1 1)) z := by
  go_simp
set_option maxRecDepth 100000 in
theorem ss_s68 {Q : Exit → Act → World → Prop} (g gt m1 m2 m3 m4 m5 : Nat) (w0 : World) (hS : Lv w0 g (stA (.slice (some ⟨gt, 0, none⟩) 1 1) (.map (some m1)) (.map (some m2)) (.map (some m3)) (.map (some m4)) (.map (some m5))).toList) (hT : Tm1 w0 (.slice (some ⟨gt, 0, none⟩) 1 1)) (hM : Ms5 w0 m1 m2 m3 m4 m5) : StepB Tryz.prog Q 80 (ssB g gt m1 m2 m3 m4 m5) w0 (ssR g gt m1 m2 m3 m4 m5) ssD 68 ⟨some 73, Op.load 31 (Operand.tmp 72), 31, "", #[], some (64, true)⟩ [67, 64] := by
  refine ⟨rfl, Or.inr ⟨64, true, rfl, by decide, fun v w h => h⟩, by decide, by decide, fun a w hn hB hk hd K hK => ?_⟩
  have e72 : a.eval (.tmp 72) = .pointer (some ⟨g, 35, none⟩) := hd 67 (by decide)
  exact step_run rfl (ss_e68 g gt m1 m2 m3 m4 m5 _ w (fun _ => rfl) e72 ((hS.keep hk id).cell (j := 35) rfl)) (hK.out _ w (Kp.refl _ _) rfl)
set_option maxRecDepth 100000 in
theorem ss_e69 (g gt m1 m2 m3 m4 m5 : Nat) (ev : Operand → Value) (z : World) (ec : ∀ c, ev (.const c) = c) (e1 : ev (.tmp 1) = .pointer (some ⟨g, 0, none⟩)) : (execOp ev ⟨some 74, Op.move (Operand.tmp 1), 28, "", #[], some (64, true)⟩).run Tryz.prog z = .ok (.value (.pointer (some ⟨g, 0, none⟩))) z := by
  go_simp
set_option maxRecDepth 100000 in
theorem ss_s69 {Q : Exit → Act → World → Prop} (g gt m1 m2 m3 m4 m5 : Nat) (w0 : World) (hS : Lv w0 g (stA (.slice (some ⟨gt, 0, none⟩) 1 1) (.map (some m1)) (.map (some m2)) (.map (some m3)) (.map (some m4)) (.map (some m5))).toList) (hT : Tm1 w0 (.slice (some ⟨gt, 0, none⟩) 1 1)) (hM : Ms5 w0 m1 m2 m3 m4 m5) : StepB Tryz.prog Q 80 (ssB g gt m1 m2 m3 m4 m5) w0 (ssR g gt m1 m2 m3 m4 m5) ssD 69 ⟨some 74, Op.move (Operand.tmp 1), 28, "", #[], some (64, true)⟩ [64] := by
  refine ⟨rfl, Or.inr ⟨64, true, rfl, by decide, fun v w h => h⟩, by decide, by decide, fun a w hn hB hk hd K hK => ?_⟩
  have e1 : a.eval (.tmp 1) = .pointer (some ⟨g, 0, none⟩) := hB.2.1
  exact step_run rfl (ss_e69 g gt m1 m2 m3 m4 m5 _ w (fun _ => rfl) e1 ) (hK.out _ w (Kp.refl _ _) rfl)
set_option maxRecDepth 100000 in
theorem ss_e70 (g gt m1 m2 m3 m4 m5 : Nat) (ev : Operand → Value) (z : World) (ec : ∀ c, ev (.const c) = c) (e74 : ev (.tmp 74) = .pointer (some ⟨g, 0, none⟩)) : (execOp ev ⟨some 75, Op.nilCheck (Operand.tmp 74), 0, "", #[], some (64, true)⟩).run Tryz.prog z = .ok (.value (.pointer (some ⟨g, 0, none⟩))) z := by
  go_simp
set_option maxRecDepth 100000 in
theorem ss_s70 {Q : Exit → Act → World → Prop} (g gt m1 m2 m3 m4 m5 : Nat) (w0 : World) (hS : Lv w0 g (stA (.slice (some ⟨gt, 0, none⟩) 1 1) (.map (some m1)) (.map (some m2)) (.map (some m3)) (.map (some m4)) (.map (some m5))).toList) (hT : Tm1 w0 (.slice (some ⟨gt, 0, none⟩) 1 1)) (hM : Ms5 w0 m1 m2 m3 m4 m5) : StepB Tryz.prog Q 80 (ssB g gt m1 m2 m3 m4 m5) w0 (ssR g gt m1 m2 m3 m4 m5) ssD 70 ⟨some 75, Op.nilCheck (Operand.tmp 74), 0, "", #[], some (64, true)⟩ [69, 64] := by
  refine ⟨rfl, Or.inr ⟨64, true, rfl, by decide, fun v w h => h⟩, by decide, by decide, fun a w hn hB hk hd K hK => ?_⟩
  have e74 : a.eval (.tmp 74) = .pointer (some ⟨g, 0, none⟩) := hd 69 (by decide)
  exact step_run rfl (ss_e70 g gt m1 m2 m3 m4 m5 _ w (fun _ => rfl) e74 ) (hK.out _ w (Kp.refl _ _) rfl)
set_option maxRecDepth 100000 in
theorem ss_e71 (g gt m1 m2 m3 m4 m5 : Nat) (ev : Operand → Value) (z : World) (ec : ∀ c, ev (.const c) = c) (e75 : ev (.tmp 75) = .pointer (some ⟨g, 0, none⟩)) : (execOp ev ⟨some 76, Op.fieldAddr 38 (Operand.tmp 75) 5, 0, "", #[], some (64, true)⟩).run Tryz.prog z = .ok (.value (.pointer (some ⟨g, 35, none⟩))) z := by
  go_simp
set_option maxRecDepth 100000 in
theorem ss_s71 {Q : Exit → Act → World → Prop} (g gt m1 m2 m3 m4 m5 : Nat) (w0 : World) (hS : Lv w0 g (stA (.slice (some ⟨gt, 0, none⟩) 1 1) (.map (some m1)) (.map (some m2)) (.map (some m3)) (.map (some m4)) (.map (some m5))).toList) (hT : Tm1 w0 (.slice (some ⟨gt, 0, none⟩) 1 1)) (hM : Ms5 w0 m1 m2 m3 m4 m5) : StepB Tryz.prog Q 80 (ssB g gt m1 m2 m3 m4 m5) w0 (ssR g gt m1 m2 m3 m4 m5) ssD 71 ⟨some 76, Op.fieldAddr 38 (Operand.tmp 75) 5, 0, "", #[], some (64, true)⟩ [70, 64] := by
  refine ⟨rfl, Or.inr ⟨64, true, rfl, by decide, fun v w h => h⟩, by decide, by decide, fun a w hn hB hk hd K hK => ?_⟩
  have e75 : a.eval (.tmp 75) = .pointer (some ⟨g, 0, none⟩) := hd 70 (by decide)
  exact step_run rfl (ss_e71 g gt m1 m2 m3 m4 m5 _ w (fun _ => rfl) e75 ) (hK.out _ w (Kp.refl _ _) rfl)
set_option maxRecDepth 100000 in
theorem ss_e72 (g gt m1 m2 m3 m4 m5 : Nat) (ev : Operand → Value) (z : World) (ec : ∀ c, ev (.const c) = c) (e76 : ev (.tmp 76) = .pointer (some ⟨g, 35, none⟩)) (hc : z.cell? ⟨g, 35, none⟩ = some (.slice (some ⟨gt, 0, none⟩) 1 1)) : (execOp ev ⟨some 77, Op.load 31 (Operand.tmp 76), 31, "", #[], some (64, true)⟩).run Tryz.prog z = .ok (.value (.slice (some ⟨gt, 0, none⟩) 1 1)) z := by
  go_simp
set_option maxRecDepth 100000 in
theorem ss_s72 {Q : Exit → Act → World → Prop} (g gt m1 m2 m3 m4 m5 : Nat) (w0 : World) (hS : Lv w0 g (stA (.slice (some ⟨gt, 0, none⟩) 1 1) (.map (some m1)) (.map (some m2)) (.map (some m3)) (.map (some m4)) (.map (some m5))).toList) (hT : Tm1 w0 (.slice (some ⟨gt, 0, none⟩) 1 1)) (hM : Ms5 w0 m1 m2 m3 m4 m5) : StepB Tryz.prog Q 80 (ssB g gt m1 m2 m3 m4 m5) w0 (ssR g gt m1 m2 m3 m4 m5) ssD 72 ⟨some 77, Op.load 31 (Operand.tmp 76), 31, "", #[], some (64, true)⟩ [71, 64] := by
  refine ⟨rfl, Or.inr ⟨64, true, rfl, by decide, fun v w h => h⟩, by decide, by decide, fun a w hn hB hk hd K hK => ?_⟩
  have e76 : a.eval (.tmp 76) = .pointer (some ⟨g, 35, none⟩) := hd 71 (by decide)
  exact step_run rfl (ss_e72 g gt m1 m2 m3 m4 m5 _ w (fun _ => rfl) e76 ((hS.keep hk id).cell (j := 35) rfl)) (hK.out _ w (Kp.refl _ _) rfl)
set_option maxRecDepth 100000 in
theorem ss_e73 (g gt m1 m2 m3 m4 m5 : Nat) (ev : Operand → Value) (z : World) (ec : ∀ c, ev (.const c) = c) (ef : ∀ f, ev (.func f) = .func (.func f) #[] #[]) (e73 : ev (.tmp 73) = .slice (some ⟨gt, 0, none⟩) 1 1) (e77 : ev (.tmp 77) = .slice (some ⟨gt, 0, none⟩) 1 1) : (execOp ev ⟨some 78, Op.call { callee := Callee.value (Operand.func 65), args := #[Operand.tmp 73, Operand.tmp 77, Operand.func 66], argTypes := #[31, 31, 136] }, 4, "", #[], some (64, true)⟩).run Tryz.prog z = .ok (.enter 65 #[.slice (some ⟨gt, 0, none⟩) 1 1, .slice (some ⟨gt, 0, none⟩) 1 1, .func (.func 66) #[] #[]]) z := enter_run _ (ef _) (by simp only [List.map_toArray, List.map_cons, List.map_nil, ec, ef, e73, e77]) (fun _ => by rfl)
set_option maxRecDepth 100000 in
theorem ss_s73 {Q : Exit → Act → World → Prop} (g gt m1 m2 m3 m4 m5 : Nat) (w0 : World) (hS : Lv w0 g (stA (.slice (some ⟨gt, 0, none⟩) 1 1) (.map (some m1)) (.map (some m2)) (.map (some m3)) (.map (some m4)) (.map (some m5))).toList) (hT : Tm1 w0 (.slice (some ⟨gt, 0, none⟩) 1 1)) (hM : Ms5 w0 m1 m2 m3 m4 m5) : StepB Tryz.prog Q 80 (ssB g gt m1 m2 m3 m4 m5) w0 (ssR g gt m1 m2 m3 m4 m5) ssD 73 ⟨some 78, Op.call { callee := Callee.value (Operand.func 65), args := #[Operand.tmp 73, Operand.tmp 77, Operand.func 66], argTypes := #[31, 31, 136] }, 4, "", #[], some (64, true)⟩ [68, 72, 64, 64] := by
  refine ⟨rfl, Or.inr ⟨64, true, rfl, by decide, fun v w h => h⟩, by decide, by decide, fun a w hn hB hk hd K hK => ?_⟩
  have e73 : a.eval (.tmp 73) = .slice (some ⟨gt, 0, none⟩) 1 1 := hd 68 (by decide)
  have e77 : a.eval (.tmp 77) = .slice (some ⟨gt, 0, none⟩) 1 1 := hd 72 (by decide)
  refine wp_enter (ss_e73 g gt m1 m2 m3 m4 m5 _ w (fun _ => rfl) (fun _ => rfl) e73 e77) ((fun w hk => terms1 _ w (hT.keep hk)) w hk) ?_
  rintro e9 w9 ⟨rfl, k9⟩
  exact ⟨_, rfl, hK.out _ _ k9 rfl⟩
set_option maxRecDepth 100000 in
theorem ss_e74 (g gt m1 m2 m3 m4 m5 : Nat) (ev : Operand → Value) (z : World) (ec : ∀ c, ev (.const c) = c) (e69 : ev (.tmp 69) = .bool true) (e78 : ev (.tmp 78) = .bool true) : (execOp ev ⟨some 79, Op.pick (Operand.tmp 69) (Operand.tmp 78) (Operand.const (Value.bool false)), 4, "", #[], none⟩).run Tryz.prog z = .ok (.value (.bool true)) z := by
  go_simp
set_option maxRecDepth 100000 in
theorem ss_s74 {Q : Exit → Act → World → Prop} (g gt m1 m2 m3 m4 m5 : Nat) (w0 : World) (hS : Lv w0 g (stA (.slice (some ⟨gt, 0, none⟩) 1 1) (.map (some m1)) (.map (some m2)) (.map (some m3)) (.map (some m4)) (.map (some m5))).toList) (hT : Tm1 w0 (.slice (some ⟨gt, 0, none⟩) 1 1)) (hM : Ms5 w0 m1 m2 m3 m4 m5) : StepB Tryz.prog Q 80 (ssB g gt m1 m2 m3 m4 m5) w0 (ssR g gt m1 m2 m3 m4 m5) ssD 74 ⟨some 79, Op.pick (Operand.tmp 69) (Operand.tmp 78) (Operand.const (Value.bool false)), 4, "", #[], none⟩ [64, 73] := by
  refine ⟨rfl, Or.inl rfl, by decide, by decide, fun a w hn hB hk hd K hK => ?_⟩
  have e69 : a.eval (.tmp 69) = .bool true := hd 64 (by decide)
  have e78 : a.eval (.tmp 78) = .bool true := hd 73 (by decide)
  exact step_run rfl (ss_e74 g gt m1 m2 m3 m4 m5 _ w (fun _ => rfl) e69 e78 ) (hK.out _ w (Kp.refl _ _) rfl)
set_option maxRecDepth 100000 in
theorem ss_e75 (g gt m1 m2 m3 m4 m5 : Nat) (ev : Operand → Value) (z : World) (ec : ∀ c, ev (.const c) = c) (e79 : ev (.tmp 79) = .bool true) : (execOp ev ⟨some 4, Op.assign (Operand.tmp 79), 4, "", #[], none⟩).run Tryz.prog z = .ok (.value (.bool true)) z := by
  go_simp
set_option maxRecDepth 100000 in
theorem ss_s75 {Q : Exit → Act → World → Prop} (g gt m1 m2 m3 m4 m5 : Nat) (w0 : World) (hS : Lv w0 g (stA (.slice (some ⟨gt, 0, none⟩) 1 1) (.map (some m1)) (.map (some m2)) (.map (some m3)) (.map (some m4)) (.map (some m5))).toList) (hT : Tm1 w0 (.slice (some ⟨gt, 0, none⟩) 1 1)) (hM : Ms5 w0 m1 m2 m3 m4 m5) : StepB Tryz.prog Q 80 (ssB g gt m1 m2 m3 m4 m5) w0 (ssR g gt m1 m2 m3 m4 m5) ssD 75 ⟨some 4, Op.assign (Operand.tmp 79), 4, "", #[], none⟩ [74, 73, 0, 1, 2, 3, 4, 5, 6, 7, 8, 9, 10, 11, 12, 13, 14, 15, 16, 17, 18, 19, 20, 21, 22, 23, 24, 25, 26, 27, 28, 29, 30, 31, 32, 33, 34, 35, 36, 37, 38, 39, 40, 41, 42, 43, 44, 45, 46, 47, 48, 49, 50, 51, 52, 53, 54, 55, 56, 57, 58, 59, 60, 61, 62, 63, 64, 65, 66, 67, 68, 69, 70, 71, 72, 73, 74] := by
  refine ⟨rfl, Or.inl rfl, by decide, by decide, fun a w hn hB hk hd K hK => ?_⟩
  have e79 : a.eval (.tmp 79) = .bool true := hd 74 (by decide)
  exact step_run rfl (ss_e75 g gt m1 m2 m3 m4 m5 _ w (fun _ => rfl) e79 ) (hK.out _ w (Kp.refl _ _) rfl)
def ssT : List (Oper × List Nat) := [(⟨some 5, Op.move (Operand.tmp 0), 28, "", #[], none⟩, []), (⟨some 6, Op.nilCheck (Operand.tmp 5), 0, "", #[], none⟩, [0]), (⟨some 7, Op.fieldAddr 38 (Operand.tmp 6) 0, 0, "", #[], none⟩, [1]), (⟨some 8, Op.load 3 (Operand.tmp 7), 3, "", #[], none⟩, [2]), (⟨some 9, Op.move (Operand.tmp 1), 28, "", #[], none⟩, []), (⟨some 10, Op.nilCheck (Operand.tmp 9), 0, "", #[], none⟩, [4]), (⟨some 11, Op.fieldAddr 38 (Operand.tmp 10) 0, 0, "", #[], none⟩, [5]), (⟨some 12, Op.load 3 (Operand.tmp 11), 3, "", #[], none⟩, [6]), (⟨some 13, Op.binOp BinOp.eql 3 (Operand.tmp 8) (Operand.tmp 12) 3, 4, "", #[], none⟩, [3, 7]), (⟨some 14, Op.move (Operand.tmp 13), 4, "", #[], none⟩, [8]), (⟨some 15, Op.move (Operand.tmp 0), 28, "", #[], some (9, true)⟩, [9]), (⟨some 16, Op.nilCheck (Operand.tmp 15), 0, "", #[], some (9, true)⟩, [10, 9]), (⟨some 17, Op.fieldAddr 38 (Operand.tmp 16) 1, 0, "", #[], some (9, true)⟩, [11, 9]), (⟨some 18, Op.load 3 (Operand.tmp 17), 3, "", #[], some (9, true)⟩, [12, 9]), (⟨some 19, Op.move (Operand.tmp 1), 28, "", #[], some (9, true)⟩, [9]), (⟨some 20, Op.nilCheck (Operand.tmp 19), 0, "", #[], some (9, true)⟩, [14, 9]), (⟨some 21, Op.fieldAddr 38 (Operand.tmp 20) 1, 0, "", #[], some (9, true)⟩, [15, 9]), (⟨some 22, Op.load 3 (Operand.tmp 21), 3, "", #[], some (9, true)⟩, [16, 9]), (⟨some 23, Op.binOp BinOp.eql 3 (Operand.tmp 18) (Operand.tmp 22) 3, 4, "", #[], some (9, true)⟩, [13, 17, 9]), (⟨some 24, Op.pick (Operand.tmp 14) (Operand.tmp 23) (Operand.const (Value.bool false)), 4, "", #[], none⟩, [9, 18]), (⟨some 25, Op.move (Operand.tmp 24), 4, "", #[], none⟩, [19, 9]), (⟨some 26, Op.move (Operand.tmp 0), 28, "", #[], some (20, true)⟩, [20]), (⟨some 27, Op.nilCheck (Operand.tmp 26), 0, "", #[], some (20, true)⟩, [21, 20]), (⟨some 28, Op.fieldAddr 38 (Operand.tmp 27) 2, 0, "", #[], some (20, true)⟩, [22, 20]), (⟨some 29, Op.load 3 (Operand.tmp 28), 3, "", #[], some (20, true)⟩, [23, 20]), (⟨some 30, Op.move (Operand.tmp 1), 28, "", #[], some (20, true)⟩, [20]), (⟨some 31, Op.nilCheck (Operand.tmp 30), 0, "", #[], some (20, true)⟩, [25, 20]), (⟨some 32, Op.fieldAddr 38 (Operand.tmp 31) 2, 0, "", #[], some (20, true)⟩, [26, 20]), (⟨some 33, Op.load 3 (Operand.tmp 32), 3, "", #[], some (20, true)⟩, [27, 20]), (⟨some 34, Op.binOp BinOp.eql 3 (Operand.tmp 29) (Operand.tmp 33) 3, 4, "", #[], some (20, true)⟩, [24, 28, 20]), (⟨some 35, Op.pick (Operand.tmp 25) (Operand.tmp 34) (Operand.const (Value.bool false)), 4, "", #[], none⟩, [20, 29]), (⟨some 36, Op.move (Operand.tmp 35), 4, "", #[], none⟩, [30, 20]), (⟨some 37, Op.move (Operand.tmp 0), 28, "", #[], some (31, true)⟩, [31]), (⟨some 38, Op.nilCheck (Operand.tmp 37), 0, "", #[], some (31, true)⟩, [32, 31]), (⟨some 39, Op.fieldAddr 38 (Operand.tmp 38) 3, 0, "", #[], some (31, true)⟩, [33, 31]), (⟨some 40, Op.load 30 (Operand.tmp 39), 30, "", #[], some (31, true)⟩, [34, 31]), (⟨some 41, Op.move (Operand.tmp 1), 28, "", #[], some (31, true)⟩, [31]), (⟨some 42, Op.nilCheck (Operand.tmp 41), 0, "", #[], some (31, true)⟩, [36, 31]), (⟨some 43, Op.fieldAddr 38 (Operand.tmp 42) 3, 0, "", #[], some (31, true)⟩, [37, 31]), (⟨some 44, Op.load 30 (Operand.tmp 43), 30, "", #[], some (31, true)⟩, [38, 31]), (⟨some 45, Op.binOp BinOp.eql 30 (Operand.tmp 40) (Operand.tmp 44) 30, 4, "", #[], some (31, true)⟩, [35, 39, 31]), (⟨some 46, Op.pick (Operand.tmp 36) (Operand.tmp 45) (Operand.const (Value.bool false)), 4, "", #[], none⟩, [31, 40]), (⟨some 47, Op.move (Operand.tmp 46), 4, "", #[], none⟩, [41, 31]), (⟨some 48, Op.move (Operand.tmp 0), 28, "", #[], some (42, true)⟩, [42]), (⟨some 49, Op.nilCheck (Operand.tmp 48), 0, "", #[], some (42, true)⟩, [43, 42]), (⟨some 50, Op.fieldAddr 38 (Operand.tmp 49) 4, 0, "", #[], some (42, true)⟩, [44, 42]), (⟨some 51, Op.load 30 (Operand.tmp 50), 30, "", #[], some (42, true)⟩, [45, 42]), (⟨some 52, Op.move (Operand.tmp 1), 28, "", #[], some (42, true)⟩, [42]), (⟨some 53, Op.nilCheck (Operand.tmp 52), 0, "", #[], some (42, true)⟩, [47, 42]), (⟨some 54, Op.fieldAddr 38 (Operand.tmp 53) 4, 0, "", #[], some (42, true)⟩, [48, 42]), (⟨some 55, Op.load 30 (Operand.tmp 54), 30, "", #[], some (42, true)⟩, [49, 42]), (⟨some 56, Op.binOp BinOp.eql 30 (Operand.tmp 51) (Operand.tmp 55) 30, 4, "", #[], some (42, true)⟩, [46, 50, 42]), (⟨some 57, Op.pick (Operand.tmp 47) (Operand.tmp 56) (Operand.const (Value.bool false)), 4, "", #[], none⟩, [42, 51]), (⟨some 58, Op.move (Operand.tmp 57), 4, "", #[], none⟩, [52, 42]), (⟨some 59, Op.move (Operand.tmp 0), 28, "", #[], some (53, true)⟩, [53]), (⟨some 60, Op.nilCheck (Operand.tmp 59), 0, "", #[], some (53, true)⟩, [54, 53]), (⟨some 61, Op.fieldAddr 38 (Operand.tmp 60) 6, 0, "", #[], some (53, true)⟩, [55, 53]), (⟨some 62, Op.load 24 (Operand.tmp 61), 24, "", #[], some (53, true)⟩, [56, 53]), (⟨some 63, Op.move (Operand.tmp 1), 28, "", #[], some (53, true)⟩, [53]), (⟨some 64, Op.nilCheck (Operand.tmp 63), 0, "", #[], some (53, true)⟩, [58, 53]), (⟨some 65, Op.fieldAddr 38 (Operand.tmp 64) 6, 0, "", #[], some (53, true)⟩, [59, 53]), (⟨some 66, Op.load 24 (Operand.tmp 65), 24, "", #[], some (53, true)⟩, [60, 53]), (⟨some 67, Op.binOp BinOp.eql 24 (Operand.tmp 62) (Operand.tmp 66) 24, 4, "", #[], some (53, true)⟩, [57, 61, 53]), (⟨some 68, Op.pick (Operand.tmp 58) (Operand.tmp 67) (Operand.const (Value.bool false)), 4, "", #[], none⟩, [53, 62]), (⟨some 69, Op.move (Operand.tmp 68), 4, "", #[], none⟩, [63, 53]), (⟨some 70, Op.move (Operand.tmp 0), 28, "", #[], some (64, true)⟩, [64]), (⟨some 71, Op.nilCheck (Operand.tmp 70), 0, "", #[], some (64, true)⟩, [65, 64]), (⟨some 72, Op.fieldAddr 38 (Operand.tmp 71) 5, 0, "", #[], some (64, true)⟩, [66, 64]), (⟨some 73, Op.load 31 (Operand.tmp 72), 31, "", #[], some (64, true)⟩, [67, 64]), (⟨some 74, Op.move (Operand.tmp 1), 28, "", #[], some (64, true)⟩, [64]), (⟨some 75, Op.nilCheck (Operand.tmp 74), 0, "", #[], some (64, true)⟩, [69, 64]), (⟨some 76, Op.fieldAddr 38 (Operand.tmp 75) 5, 0, "", #[], some (64, true)⟩, [70, 64]), (⟨some 77, Op.load 31 (Operand.tmp 76), 31, "", #[], some (64, true)⟩, [71, 64]), (⟨some 78, Op.call { callee := Callee.value (Operand.func 65), args := #[Operand.tmp 73, Operand.tmp 77, Operand.func 66], argTypes := #[31, 31, 136] }, 4, "", #[], some (64, true)⟩, [68, 72, 64, 64]), (⟨some 79, Op.pick (Operand.tmp 69) (Operand.tmp 78) (Operand.const (Value.bool false)), 4, "", #[], none⟩, [64, 73]), (⟨some 4, Op.assign (Operand.tmp 79), 4, "", #[], none⟩, [74, 73, 0, 1, 2, 3, 4, 5, 6, 7, 8, 9, 10, 11, 12, 13, 14, 15, 16, 17, 18, 19, 20, 21, 22, 23, 24, 25, 26, 27, 28, 29, 30, 31, 32, 33, 34, 35, 36, 37, 38, 39, 40, 41, 42, 43, 44, 45, 46, 47, 48, 49, 50, 51, 52, 53, 54, 55, 56, 57, 58, 59, 60, 61, 62, 63, 64, 65, 66, 67, 68, 69, 70, 71, 72, 73, 74])]
theorem ss_steps {Q : Exit → Act → World → Prop} (g gt m1 m2 m3 m4 m5 : Nat) (w0 : World) (hS : Lv w0 g (stA (.slice (some ⟨gt, 0, none⟩) 1 1) (.map (some m1)) (.map (some m2)) (.map (some m3)) (.map (some m4)) (.map (some m5))).toList) (hT : Tm1 w0 (.slice (some ⟨gt, 0, none⟩) 1 1)) (hM : Ms5 w0 m1 m2 m3 m4 m5) : Steps Tryz.prog Q 80 (ssB g gt m1 m2 m3 m4 m5) w0 (ssR g gt m1 m2 m3 m4 m5) ssD 0 ssT := ⟨ss_s0 g gt m1 m2 m3 m4 m5 w0 hS hT hM, ss_s1 g gt m1 m2 m3 m4 m5 w0 hS hT hM, ss_s2 g gt m1 m2 m3 m4 m5 w0 hS hT hM, ss_s3 g gt m1 m2 m3 m4 m5 w0 hS hT hM, ss_s4 g gt m1 m2 m3 m4 m5 w0 hS hT hM, ss_s5 g gt m1 m2 m3 m4 m5 w0 hS hT hM, ss_s6 g gt m1 m2 m3 m4 m5 w0 hS hT hM, ss_s7 g gt m1 m2 m3 m4 m5 w0 hS hT hM, ss_s8 g gt m1 m2 m3 m4 m5 w0 hS hT hM, ss_s9 g gt m1 m2 m3 m4 m5 w0 hS hT hM, ss_s10 g gt m1 m2 m3 m4 m5 w0 hS hT hM, ss_s11 g gt m1 m2 m3 m4 m5 w0 hS hT hM, ss_s12 g gt m1 m2 m3 m4 m5 w0 hS hT hM, ss_s13 g gt m1 m2 m3 m4 m5 w0 hS hT hM, ss_s14 g gt m1 m2 m3 m4 m5 w0 hS hT hM, ss_s15 g gt m1 m2 m3 m4 m5 w0 hS hT hM, ss_s16 g gt m1 m2 m3 m4 m5 w0 hS hT hM, ss_s17 g gt m1 m2 m3 m4 m5 w0 hS hT hM, ss_s18 g gt m1 m2 m3 m4 m5 w0 hS hT hM, ss_s19 g gt m1 m2 m3 m4 m5 w0 hS hT hM, ss_s20 g gt m1 m2 m3 m4 m5 w0 hS hT hM, ss_s21 g gt m1 m2 m3 m4 m5 w0 hS hT hM, ss_s22 g gt m1 m2 m3 m4 m5 w0 hS hT hM, ss_s23 g gt m1 m2 m3 m4 m5 w0 hS hT hM, ss_s24 g gt m1 m2 m3 m4 m5 w0 hS hT hM, ss_s25 g gt m1 m2 m3 m4 m5 w0 hS hT hM, ss_s26 g gt m1 m2 m3 m4 m5 w0 hS hT hM, ss_s27 g gt m1 m2 m3 m4 m5 w0 hS hT hM, ss_s28 g gt m1 m2 m3 m4 m5 w0 hS hT hM, ss_s29 g gt m1 m2 m3 m4 m5 w0 hS hT hM, ss_s30 g gt m1 m2 m3 m4 m5 w0 hS hT hM, ss_s31 g gt m1 m2 m3 m4 m5 w0 hS hT hM, ss_s32 g gt m1 m2 m3 m4 m5 w0 hS hT hM, ss_s33 g gt m1 m2 m3 m4 m5 w0 hS hT hM, ss_s34 g gt m1 m2 m3 m4 m5 w0 hS hT hM, ss_s35 g gt m1 m2 m3 m4 m5 w0 hS hT hM, ss_s36 g gt m1 m2 m3 m4 m5 w0 hS hT hM, ss_s37 g gt m1 m2 m3 m4 m5 w0 hS hT hM, ss_s38 g gt m1 m2 m3 m4 m5 w0 hS hT hM, ss_s39 g gt m1 m2 m3 m4 m5 w0 hS hT hM, ss_s40 g gt m1 m2 m3 m4 m5 w0 hS hT hM, ss_s41 g gt m1 m2 m3 m4 m5 w0 hS hT hM, ss_s42 g gt m1 m2 m3 m4 m5 w0 hS hT hM, ss_s43 g gt m1 m2 m3 m4 m5 w0 hS hT hM, ss_s44 g gt m1 m2 m3 m4 m5 w0 hS hT hM, ss_s45 g gt m1 m2 m3 m4 m5 w0 hS hT hM, ss_s46 g gt m1 m2 m3 m4 m5 w0 hS hT hM, ss_s47 g gt m1 m2 m3 m4 m5 w0 hS hT hM, ss_s48 g gt m1 m2 m3 m4 m5 w0 hS hT hM, ss_s49 g gt m1 m2 m3 m4 m5 w0 hS hT hM, ss_s50 g gt m1 m2 m3 m4 m5 w0 hS hT hM, ss_s51 g gt m1 m2 m3 m4 m5 w0 hS hT hM, ss_s52 g gt m1 m2 m3 m4 m5 w0 hS hT hM, ss_s53 g gt m1 m2 m3 m4 m5 w0 hS hT hM, ss_s54 g gt m1 m2 m3 m4 m5 w0 hS hT hM, ss_s55 g gt m1 m2 m3 m4 m5 w0 hS hT hM, ss_s56 g gt m1 m2 m3 m4 m5 w0 hS hT hM, ss_s57 g gt m1 m2 m3 m4 m5 w0 hS hT hM, ss_s58 g gt m1 m2 m3 m4 m5 w0 hS hT hM, ss_s59 g gt m1 m2 m3 m4 m5 w0 hS hT hM, ss_s60 g gt m1 m2 m3 m4 m5 w0 hS hT hM, ss_s61 g gt m1 m2 m3 m4 m5 w0 hS hT hM, ss_s62 g gt m1 m2 m3 m4 m5 w0 hS hT hM, ss_s63 g gt m1 m2 m3 m4 m5 w0 hS hT hM, ss_s64 g gt m1 m2 m3 m4 m5 w0 hS hT hM, ss_s65 g gt m1 m2 m3 m4 m5 w0 hS hT hM, ss_s66 g gt m1 m2 m3 m4 m5 w0 hS hT hM, ss_s67 g gt m1 m2 m3 m4 m5 w0 hS hT hM, ss_s68 g gt m1 m2 m3 m4 m5 w0 hS hT hM, ss_s69 g gt m1 m2 m3 m4 m5 w0 hS hT hM, ss_s70 g gt m1 m2 m3 m4 m5 w0 hS hT hM, ss_s71 g gt m1 m2 m3 m4 m5 w0 hS hT hM, ss_s72 g gt m1 m2 m3 m4 m5 w0 hS hT hM, ss_s73 g gt m1 m2 m3 m4 m5 w0 hS hT hM, ss_s74 g gt m1 m2 m3 m4 m5 w0 hS hT hM, ss_s75 g gt m1 m2 m3 m4 m5 w0 hS hT hM, trivial⟩

set_option maxRecDepth 100000 in
set_option maxHeartbeats 1600000 in
theorem setting1 (v : Value) (w : World) (h : Ep w v) : Calls Tryz.prog 45 #[v, v] w fun e w' => e = .returned (.bool true) ∧ Kp (fun _ => False) w w' := by
  obtain ⟨g, tv, m1, m2, m3, m4, m5, rfl, hl, ht, hm⟩ := h
  have ht' := ht
  obtain ⟨gt, qt, ct, htv, _, _⟩ := ht'
  subst htv
  have kd : Kp (fun _ => False) w w.drew := (Kp.refl _ _).drew
  have hS := hl.keep kd id
  have hT := ht.keep kd
  have hM := hm.keep kd
  clear hl ht hm
  go_enter Tryz.func45, Tryz.ntmps45
  go_wp2_with fail
  refine mono_region (by kernel_rfl) ssT (by kernel_rfl) 80 (ssB g gt m1 m2 m3 m4 m5) (ssR g gt m1 m2 m3 m4 m5) ssD rfl ⟨rfl, rfl, rfl⟩ (fun k v a hk h => ssB_put g gt m1 m2 m3 m4 m5 k v a hk h) (fun i j h1 h2 => ssD_inj0 i h1 j h2) (fun i v w w' h _ => h) (ss_steps g gt m1 m2 m3 m4 m5 _ hS hT hM) ?_
  intro a w9 hn hB k9 hr
  have h4 : a.eval (.tmp 4) = .bool true := hr 75 (by decide)
  have hres : (results Tryz.f45 a.tmps).run Tryz.prog w9 = .ok (.bool true) w9 := by
    rw [← h4]
    simp [results, Tryz.results45, Act.eval]
  go_wp2_with fail
  refine bodyPost_ret hres hB.2.2 ?_
  exact ⟨rfl, kd.trans k9 (fun _ _ e => e)⟩
def sbV (g gt m1 m2 m3 m4 m5 : Nat) : Nat → Value
  | 0 => .pointer (some ⟨g, 0, none⟩)
  | 1 => .pointer (some ⟨g, 0, none⟩)
  | 2 => .pointer (some ⟨g, 38, none⟩)
  | 3 => .map (some m1)
  | 4 => .pointer (some ⟨g, 0, none⟩)
  | 5 => .pointer (some ⟨g, 0, none⟩)
  | 6 => .pointer (some ⟨g, 38, none⟩)
  | 7 => .map (some m1)
  | 8 => .bool true
  | 9 => .bool true
  | 10 => .pointer (some ⟨g, 0, none⟩)
  | 11 => .pointer (some ⟨g, 0, none⟩)
  | 12 => .pointer (some ⟨g, 39, none⟩)
  | 13 => .map (some m2)
  | 14 => .pointer (some ⟨g, 0, none⟩)
  | 15 => .pointer (some ⟨g, 0, none⟩)
  | 16 => .pointer (some ⟨g, 39, none⟩)
  | 17 => .map (some m2)
  | 18 => .bool true
  | 19 => .bool true
  | 20 => .bool true
  | _ => undef
abbrev sbR (g gt m1 m2 m3 m4 m5 : Nat) : Nat → Value → World → Prop := fun i v _ => v = sbV g gt m1 m2 m3 m4 m5 i
def sbD (k : Nat) : Nat := [5, 6, 7, 8, 9, 10, 11, 12, 13, 14, 15, 16, 17, 18, 19, 20, 21, 22, 23, 24, 4].getD k 0
def sbB (g gt m1 m2 m3 m4 m5 : Nat) (a : Act) : Prop := a.eval (.tmp 0) = .pointer (some ⟨g, 0, none⟩) ∧ a.eval (.tmp 1) = .pointer (some ⟨g, 0, none⟩) ∧ a.defers = []
theorem sbD_ne : ∀ k, k < 21 → sbD k ≠ 0 ∧ sbD k ≠ 1 := by decide
theorem sbB_put (g gt m1 m2 m3 m4 m5 : Nat) (k : Nat) (v : Value) (a : Act) (hk : k < 21) (h : sbB g gt m1 m2 m3 m4 m5 a) : sbB g gt m1 m2 m3 m4 m5 (a.put (some (sbD k)) v) := by
  have hne := sbD_ne k hk
  refine ⟨?_, ?_, h.2.2⟩
  · rw [← h.1]
    show (a.tmps.setIfInBounds (sbD k) v).getD 0 undef = a.tmps.getD 0 undef
    simp [Array.getElem?_setIfInBounds_ne (hne.1)]
  · rw [← h.2.1]
    show (a.tmps.setIfInBounds (sbD k) v).getD 1 undef = a.tmps.getD 1 undef
    simp [Array.getElem?_setIfInBounds_ne (hne.2)]
theorem sbD_inj0 : ∀ i, i < 21 → ∀ j, j < 21 → sbD i = sbD j → i = j := by decide

set_option maxRecDepth 100000 in
theorem sb_e0 (g gt m1 m2 m3 m4 m5 : Nat) (ev : Operand → Value) (z : World) (ec : ∀ c, ev (.const c) = c) (e0 : ev (.tmp 0) = .pointer (some ⟨g, 0, none⟩)) : (execOp ev ⟨some 5, Op.move (Operand.tmp 0), 28, "", #[], none⟩).run Tryz.prog z = .ok (.value (.pointer (some ⟨g, 0, none⟩))) z := by
  go_simp
set_option maxRecDepth 100000 in
theorem sb_s0 {Q : Exit → Act → World → Prop} (g gt m1 m2 m3 m4 m5 : Nat) (w0 : World) (hS : Lv w0 g (stA (.slice (some ⟨gt, 0, none⟩) 1 1) (.map (some m1)) (.map (some m2)) (.map (some m3)) (.map (some m4)) (.map (some m5))).toList) (hT : Tm1 w0 (.slice (some ⟨gt, 0, none⟩) 1 1)) (hM : Ms5 w0 m1 m2 m3 m4 m5) : StepB Tryz.prog Q 25 (sbB g gt m1 m2 m3 m4 m5) w0 (sbR g gt m1 m2 m3 m4 m5) sbD 0 ⟨some 5, Op.move (Operand.tmp 0), 28, "", #[], none⟩ [] := by
  refine ⟨rfl, Or.inl rfl, by decide, by decide, fun a w hn hB hk hd K hK => ?_⟩
  have e0 : a.eval (.tmp 0) = .pointer (some ⟨g, 0, none⟩) := hB.1
  exact step_run rfl (sb_e0 g gt m1 m2 m3 m4 m5 _ w (fun _ => rfl) e0 ) (hK.out _ w (Kp.refl _ _) rfl)
set_option maxRecDepth 100000 in
theorem sb_e1 (g gt m1 m2 m3 m4 m5 : Nat) (ev : Operand → Value) (z : World) (ec : ∀ c, ev (.const c) = c) (e5 : ev (.tmp 5) = .pointer (some ⟨g, 0, none⟩)) : (execOp ev ⟨some 6, Op.nilCheck (Operand.tmp 5), 0, "", #[], none⟩).run Tryz.prog z = .ok (.value (.pointer (some ⟨g, 0, none⟩))) z := by
  go_simp
set_option maxRecDepth 100000 in
theorem sb_s1 {Q : Exit → Act → World → Prop} (g gt m1 m2 m3 m4 m5 : Nat) (w0 : World) (hS : Lv w0 g (stA (.slice (some ⟨gt, 0, none⟩) 1 1) (.map (some m1)) (.map (some m2)) (.map (some m3)) (.map (some m4)) (.map (some m5))).toList) (hT : Tm1 w0 (.slice (some ⟨gt, 0, none⟩) 1 1)) (hM : Ms5 w0 m1 m2 m3 m4 m5) : StepB Tryz.prog Q 25 (sbB g gt m1 m2 m3 m4 m5) w0 (sbR g gt m1 m2 m3 m4 m5) sbD 1 ⟨some 6, Op.nilCheck (Operand.tmp 5), 0, "", #[], none⟩ [0] := by
  refine ⟨rfl, Or.inl rfl, by decide, by decide, fun a w hn hB hk hd K hK => ?_⟩
  have e5 : a.eval (.tmp 5) = .pointer (some ⟨g, 0, none⟩) := hd 0 (by decide)
  exact step_run rfl (sb_e1 g gt m1 m2 m3 m4 m5 _ w (fun _ => rfl) e5 ) (hK.out _ w (Kp.refl _ _) rfl)
set_option maxRecDepth 100000 in
theorem sb_e2 (g gt m1 m2 m3 m4 m5 : Nat) (ev : Operand → Value) (z : World) (ec : ∀ c, ev (.const c) = c) (e6 : ev (.tmp 6) = .pointer (some ⟨g, 0, none⟩)) : (execOp ev ⟨some 7, Op.fieldAddr 38 (Operand.tmp 6) 7, 0, "", #[], none⟩).run Tryz.prog z = .ok (.value (.pointer (some ⟨g, 38, none⟩))) z := by
  go_simp
set_option maxRecDepth 100000 in
theorem sb_s2 {Q : Exit → Act → World → Prop} (g gt m1 m2 m3 m4 m5 : Nat) (w0 : World) (hS : Lv w0 g (stA (.slice (some ⟨gt, 0, none⟩) 1 1) (.map (some m1)) (.map (some m2)) (.map (some m3)) (.map (some m4)) (.map (some m5))).toList) (hT : Tm1 w0 (.slice (some ⟨gt, 0, none⟩) 1 1)) (hM : Ms5 w0 m1 m2 m3 m4 m5) : StepB Tryz.prog Q 25 (sbB g gt m1 m2 m3 m4 m5) w0 (sbR g gt m1 m2 m3 m4 m5) sbD 2 ⟨some 7, Op.fieldAddr 38 (Operand.tmp 6) 7, 0, "", #[], none⟩ [1] := by
  refine ⟨rfl, Or.inl rfl, by decide, by decide, fun a w hn hB hk hd K hK => ?_⟩
  have e6 : a.eval (.tmp 6) = .pointer (some ⟨g, 0, none⟩) := hd 1 (by decide)
  exact step_run rfl (sb_e2 g gt m1 m2 m3 m4 m5 _ w (fun _ => rfl) e6 ) (hK.out _ w (Kp.refl _ _) rfl)
set_option maxRecDepth 100000 in
theorem sb_e3 (g gt m1 m2 m3 m4 m5 : Nat) (ev : Operand → Value) (z : World) (ec : ∀ c, ev (.const c) = c) (e7 : ev (.tmp 7) = .pointer (some ⟨g, 38, none⟩)) (hc : z.cell? ⟨g, 38, none⟩ = some (.map (some m1))) : (execOp ev ⟨some 8, Op.load 32 (Operand.tmp 7), 32, "", #[], none⟩).run Tryz.prog z = .ok (.value (.map (some m1))) z := by
  go_simp
set_option maxRecDepth 100000 in
theorem sb_s3 {Q : Exit → Act → World → Prop} (g gt m1 m2 m3 m4 m5 : Nat) (w0 : World) (hS : Lv w0 g (stA (.slice (some ⟨gt, 0, none⟩) 1 1) (.map (some m1)) (.map (some m2)) (.map (some m3)) (.map (some m4)) (.map (some m5))).toList) (hT : Tm1 w0 (.slice (some ⟨gt, 0, none⟩) 1 1)) (hM : Ms5 w0 m1 m2 m3 m4 m5) : StepB Tryz.prog Q 25 (sbB g gt m1 m2 m3 m4 m5) w0 (sbR g gt m1 m2 m3 m4 m5) sbD 3 ⟨some 8, Op.load 32 (Operand.tmp 7), 32, "", #[], none⟩ [2] := by
  refine ⟨rfl, Or.inl rfl, by decide, by decide, fun a w hn hB hk hd K hK => ?_⟩
  have e7 : a.eval (.tmp 7) = .pointer (some ⟨g, 38, none⟩) := hd 2 (by decide)
  exact step_run rfl (sb_e3 g gt m1 m2 m3 m4 m5 _ w (fun _ => rfl) e7 ((hS.keep hk id).cell (j := 38) rfl)) (hK.out _ w (Kp.refl _ _) rfl)
set_option maxRecDepth 100000 in
theorem sb_e4 (g gt m1 m2 m3 m4 m5 : Nat) (ev : Operand → Value) (z : World) (ec : ∀ c, ev (.const c) = c) (e1 : ev (.tmp 1) = .pointer (some ⟨g, 0, none⟩)) : (execOp ev ⟨some 9, Op.move (Operand.tmp 1), 28, "", #[], none⟩).run Tryz.prog z = .ok (.value (.pointer (some ⟨g, 0, none⟩))) z := by
  go_simp
set_option maxRecDepth 100000 in
theorem sb_s4 {Q : Exit → Act → World → Prop} (g gt m1 m2 m3 m4 m5 : Nat) (w0 : World) (hS : Lv w0 g (stA (.slice (some ⟨gt, 0, none⟩) 1 1) (.map (some m1)) (.map (some m2)) (.map (some m3)) (.map (some m4)) (.map (some m5))).toList) (hT : Tm1 w0 (.slice (some ⟨gt, 0, none⟩) 1 1)) (hM : Ms5 w0 m1 m2 m3 m4 m5) : StepB Tryz.prog Q 25 (sbB g gt m1 m2 m3 m4 m5) w0 (sbR g gt m1 m2 m3 m4 m5) sbD 4 ⟨some 9, Op.move (Operand.tmp 1), 28, "", #[], none⟩ [] := by
  refine ⟨rfl, Or.inl rfl, by decide, by decide, fun a w hn hB hk hd K hK => ?_⟩
  have e1 : a.eval (.tmp 1) = .pointer (some ⟨g, 0, none⟩) := hB.2.1
  exact step_run rfl (sb_e4 g gt m1 m2 m3 m4 m5 _ w (fun _ => rfl) e1 ) (hK.out _ w (Kp.refl _ _) rfl)
set_option maxRecDepth 100000 in
theorem sb_e5 (g gt m1 m2 m3 m4 m5 : Nat) (ev : Operand → Value) (z : World) (ec : ∀ c, ev (.const c) = c) (e9 : ev (.tmp 9) = .pointer (some ⟨g, 0, none⟩)) : (execOp ev ⟨some 10, Op.nilCheck (Operand.tmp 9), 0, "", #[], none⟩).run Tryz.prog z = .ok (.value (.pointer (some ⟨g, 0, none⟩))) z := by
  go_simp
set_option maxRecDepth 100000 in
theorem sb_s5 {Q : Exit → Act → World → Prop} (g gt m1 m2 m3 m4 m5 : Nat) (w0 : World) (hS : Lv w0 g (stA (.slice (some ⟨gt, 0, none⟩) 1 1) (.map (some m1)) (.map (some m2)) (.map (some m3)) (.map (some m4)) (.map (some m5))).toList) (hT : Tm1 w0 (.slice (some ⟨gt, 0, none⟩) 1 1)) (hM : Ms5 w0 m1 m2 m3 m4 m5) : StepB Tryz.prog Q 25 (sbB g gt m1 m2 m3 m4 m5) w0 (sbR g gt m1 m2 m3 m4 m5) sbD 5 ⟨some 10, Op.nilCheck (Operand.tmp 9), 0, "", #[], none⟩ [4] := by
  refine ⟨rfl, Or.inl rfl, by decide, by decide, fun a w hn hB hk hd K hK => ?_⟩
  have e9 : a.eval (.tmp 9) = .pointer (some ⟨g, 0, none⟩) := hd 4 (by decide)
  exact step_run rfl (sb_e5 g gt m1 m2 m3 m4 m5 _ w (fun _ => rfl) e9 ) (hK.out _ w (Kp.refl _ _) rfl)
set_option maxRecDepth 100000 in
theorem sb_e6 (g gt m1 m2 m3 m4 m5 : Nat) (ev : Operand → Value) (z : World) (ec : ∀ c, ev (.const c) = c) (e10 : ev (.tmp 10) = .pointer (some ⟨g, 0, none⟩)) : (execOp ev ⟨some 11, Op.fieldAddr 38 (Operand.tmp 10) 7, 0, "", #[], none⟩).run Tryz.prog z = .ok (.value (.pointer (some ⟨g, 38, none⟩))) z := by
  go_simp
set_option maxRecDepth 100000 in
theorem sb_s6 {Q : Exit → Act → World → Prop} (g gt m1 m2 m3 m4 m5 : Nat) (w0 : World) (hS : Lv w0 g (stA (.slice (some ⟨gt, 0, none⟩) 1 1) (.map (some m1)) (.map (some m2)) (.map (some m3)) (.map (some m4)) (.map (some m5))).toList) (hT : Tm1 w0 (.slice (some ⟨gt, 0, none⟩) 1 1)) (hM : Ms5 w0 m1 m2 m3 m4 m5) : StepB Tryz.prog Q 25 (sbB g gt m1 m2 m3 m4 m5) w0 (sbR g gt m1 m2 m3 m4 m5) sbD 6 ⟨some 11, Op.fieldAddr 38 (Operand.tmp 10) 7, 0, "", #[], none⟩ [5] := by
  refine ⟨rfl, Or.inl rfl, by decide, by decide, fun a w hn hB hk hd K hK => ?_⟩
  have e10 : a.eval (.tmp 10) = .pointer (some ⟨g, 0, none⟩) := hd 5 (by decide)
  exact step_run rfl (sb_e6 g gt m1 m2 m3 m4 m5 _ w (fun _ => rfl) e10 ) (hK.out _ w (Kp.refl _ _) rfl)
set_option maxRecDepth 100000 in
theorem sb_e7 (g gt m1 m2 m3 m4 m5 : Nat) (ev : Operand → Value) (z : World) (ec : ∀ c, ev (.const c) = c) (e11 : ev (.tmp 11) = .pointer (some ⟨g, 38, none⟩)) (hc : z.cell? ⟨g, 38, none⟩ = some (.map (some m1))) : (execOp ev ⟨some 12, Op.load 32 (Operand.tmp 11), 32, "", #[], none⟩).run Tryz.prog z = .ok (.value (.map (some m1))) z := by
  go_simp
set_option maxRecDepth 100000 in
theorem sb_s7 {Q : Exit → Act → World → Prop} (g gt m1 m2 m3 m4 m5 : Nat) (w0 : World) (hS : Lv w0 g (stA (.slice (some ⟨gt, 0, none⟩) 1 1) (.map (some m1)) (.map (some m2)) (.map (some m3)) (.map (some m4)) (.map (some m5))).toList) (hT : Tm1 w0 (.slice (some ⟨gt, 0, none⟩) 1 1)) (hM : Ms5 w0 m1 m2 m3 m4 m5) : StepB Tryz.prog Q 25 (sbB g gt m1 m2 m3 m4 m5) w0 (sbR g gt m1 m2 m3 m4 m5) sbD 7 ⟨some 12, Op.load 32 (Operand.tmp 11), 32, "", #[], none⟩ [6] := by
  refine ⟨rfl, Or.inl rfl, by decide, by decide, fun a w hn hB hk hd K hK => ?_⟩
  have e11 : a.eval (.tmp 11) = .pointer (some ⟨g, 38, none⟩) := hd 6 (by decide)
  exact step_run rfl (sb_e7 g gt m1 m2 m3 m4 m5 _ w (fun _ => rfl) e11 ((hS.keep hk id).cell (j := 38) rfl)) (hK.out _ w (Kp.refl _ _) rfl)
set_option maxRecDepth 100000 in
theorem sb_e8 (g gt m1 m2 m3 m4 m5 : Nat) (ev : Operand → Value) (z : World) (ec : ∀ c, ev (.const c) = c) (ef : ∀ f, ev (.func f) = .func (.func f) #[] #[]) (e8 : ev (.tmp 8) = .map (some m1)) (e12 : ev (.tmp 12) = .map (some m1)) : (execOp ev ⟨some 13, Op.call { callee := Callee.value (Operand.func 67), args := #[Operand.tmp 8, Operand.tmp 12], argTypes := #[32, 32] }, 4, "", #[], none⟩).run Tryz.prog z = .ok (.enter 67 #[.map (some m1), .map (some m1)]) z := enter_run _ (ef _) (by simp only [List.map_toArray, List.map_cons, List.map_nil, ec, ef, e8, e12]) (fun _ => by rfl)
set_option maxRecDepth 100000 in
theorem sb_s8 {Q : Exit → Act → World → Prop} (g gt m1 m2 m3 m4 m5 : Nat) (w0 : World) (hS : Lv w0 g (stA (.slice (some ⟨gt, 0, none⟩) 1 1) (.map (some m1)) (.map (some m2)) (.map (some m3)) (.map (some m4)) (.map (some m5))).toList) (hT : Tm1 w0 (.slice (some ⟨gt, 0, none⟩) 1 1)) (hM : Ms5 w0 m1 m2 m3 m4 m5) : StepB Tryz.prog Q 25 (sbB g gt m1 m2 m3 m4 m5) w0 (sbR g gt m1 m2 m3 m4 m5) sbD 8 ⟨some 13, Op.call { callee := Callee.value (Operand.func 67), args := #[Operand.tmp 8, Operand.tmp 12], argTypes := #[32, 32] }, 4, "", #[], none⟩ [3, 7] := by
  refine ⟨rfl, Or.inl rfl, by decide, by decide, fun a w hn hB hk hd K hK => ?_⟩
  have e8 : a.eval (.tmp 8) = .map (some m1) := hd 3 (by decide)
  have e12 : a.eval (.tmp 12) = .map (some m1) := hd 7 (by decide)
  refine wp_enter (sb_e8 g gt m1 m2 m3 m4 m5 _ w (fun _ => rfl) (fun _ => rfl) e8 e12) ((fun w hk => meq_si m1 m1 w (hM.a.keep hk id) (hM.a.keep hk id)) w hk) ?_
  rintro e9 w9 ⟨rfl, k9⟩
  exact ⟨_, rfl, hK.out _ _ k9 rfl⟩
set_option maxRecDepth 100000 in
theorem sb_e9 (g gt m1 m2 m3 m4 m5 : Nat) (ev : Operand → Value) (z : World) (ec : ∀ c, ev (.const c) = c) (e13 : ev (.tmp 13) = .bool true) : (execOp ev ⟨some 14, Op.move (Operand.tmp 13), 4, "", #[], none⟩).run Tryz.prog z = .ok (.value (.bool true)) z := by
  go_simp
set_option maxRecDepth 100000 in
theorem sb_s9 {Q : Exit → Act → World → Prop} (g gt m1 m2 m3 m4 m5 : Nat) (w0 : World) (hS : Lv w0 g (stA (.slice (some ⟨gt, 0, none⟩) 1 1) (.map (some m1)) (.map (some m2)) (.map (some m3)) (.map (some m4)) (.map (some m5))).toList) (hT : Tm1 w0 (.slice (some ⟨gt, 0, none⟩) 1 1)) (hM : Ms5 w0 m1 m2 m3 m4 m5) : StepB Tryz.prog Q 25 (sbB g gt m1 m2 m3 m4 m5) w0 (sbR g gt m1 m2 m3 m4 m5) sbD 9 ⟨some 14, Op.move (Operand.tmp 13), 4, "", #[], none⟩ [8, 8] := by
  refine ⟨rfl, Or.inl rfl, by decide, by decide, fun a w hn hB hk hd K hK => ?_⟩
  have e13 : a.eval (.tmp 13) = .bool true := hd 8 (by decide)
  exact step_run rfl (sb_e9 g gt m1 m2 m3 m4 m5 _ w (fun _ => rfl) e13 ) (hK.out _ w (Kp.refl _ _) rfl)
set_option maxRecDepth 100000 in
theorem sb_e10 (g gt m1 m2 m3 m4 m5 : Nat) (ev : Operand → Value) (z : World) (ec : ∀ c, ev (.const c) = c) (e0 : ev (.tmp 0) = .pointer (some ⟨g, 0, none⟩)) : (execOp ev ⟨some 15, Op.move (Operand.tmp 0), 28, "", #[], some (9, true)⟩).run Tryz.prog z = .ok (.value (.pointer (some ⟨g, 0, none⟩))) z := by
  go_simp
set_option maxRecDepth 100000 in
theorem sb_s10 {Q : Exit → Act → World → Prop} (g gt m1 m2 m3 m4 m5 : Nat) (w0 : World) (hS : Lv w0 g (stA (.slice (some ⟨gt, 0, none⟩) 1 1) (.map (some m1)) (.map (some m2)) (.map (some m3)) (.map (some m4)) (.map (some m5))).toList) (hT : Tm1 w0 (.slice (some ⟨gt, 0, none⟩) 1 1)) (hM : Ms5 w0 m1 m2 m3 m4 m5) : StepB Tryz.prog Q 25 (sbB g gt m1 m2 m3 m4 m5) w0 (sbR g gt m1 m2 m3 m4 m5) sbD 10 ⟨some 15, Op.move (Operand.tmp 0), 28, "", #[], some (9, true)⟩ [9] := by
  refine ⟨rfl, Or.inr ⟨9, true, rfl, by decide, fun v w h => h⟩, by decide, by decide, fun a w hn hB hk hd K hK => ?_⟩
  have e0 : a.eval (.tmp 0) = .pointer (some ⟨g, 0, none⟩) := hB.1
  exact step_run rfl (sb_e10 g gt m1 m2 m3 m4 m5 _ w (fun _ => rfl) e0 ) (hK.out _ w (Kp.refl _ _) rfl)
set_option maxRecDepth 100000 in
theorem sb_e11 (g gt m1 m2 m3 m4 m5 : Nat) (ev : Operand → Value) (z : World) (ec : ∀ c, ev (.const c) = c) (e15 : ev (.tmp 15) = .pointer (some ⟨g, 0, none⟩)) : (execOp ev ⟨some 16, Op.nilCheck (Operand.tmp 15), 0, "", #[], some (9, true)⟩).run Tryz.prog z = .ok (.value (.pointer (some ⟨g, 0, none⟩))) z := by
  go_simp
set_option maxRecDepth 100000 in
theorem sb_s11 {Q : Exit → Act → World → Prop} (g gt m1 m2 m3 m4 m5 : Nat) (w0 : World) (hS : Lv w0 g (stA (.slice (some ⟨gt, 0, none⟩) 1 1) (.map (some m1)) (.map (some m2)) (.map (some m3)) (.map (some m4)) (.map (some m5))).toList) (hT : Tm1 w0 (.slice (some ⟨gt, 0, none⟩) 1 1)) (hM : Ms5 w0 m1 m2 m3 m4 m5) : StepB Tryz.prog Q 25 (sbB g gt m1 m2 m3 m4 m5) w0 (sbR g gt m1 m2 m3 m4 m5) sbD 11 ⟨some 16, Op.nilCheck (Operand.tmp 15), 0, "", #[], some (9, true)⟩ [10, 9] := by
  refine ⟨rfl, Or.inr ⟨9, true, rfl, by decide, fun v w h => h⟩, by decide, by decide, fun a w hn hB hk hd K hK => ?_⟩
  have e15 : a.eval (.tmp 15) = .pointer (some ⟨g, 0, none⟩) := hd 10 (by decide)
  exact step_run rfl (sb_e11 g gt m1 m2 m3 m4 m5 _ w (fun _ => rfl) e15 ) (hK.out _ w (Kp.refl _ _) rfl)
set_option maxRecDepth 100000 in
theorem sb_e12 (g gt m1 m2 m3 m4 m5 : Nat) (ev : Operand → Value) (z : World) (ec : ∀ c, ev (.const c) = c) (e16 : ev (.tmp 16) = .pointer (some ⟨g, 0, none⟩)) : (execOp ev ⟨some 17, Op.fieldAddr 38 (Operand.tmp 16) 8, 0, "", #[], some (9, true)⟩).run Tryz.prog z = .ok (.value (.pointer (some ⟨g, 39, none⟩))) z := by
  go_simp
set_option maxRecDepth 100000 in
theorem sb_s12 {Q : Exit → Act → World → Prop} (g gt m1 m2 m3 m4 m5 : Nat) (w0 : World) (hS : Lv w0 g (stA (.slice (some ⟨gt, 0, none⟩) 1 1) (.map (some m1)) (.map (some m2)) (.map (some m3)) (.map (some m4)) (.map (some m5))).toList) (hT : Tm1 w0 (.slice (some ⟨gt, 0, none⟩) 1 1)) (hM : Ms5 w0 m1 m2 m3 m4 m5) : StepB Tryz.prog Q 25 (sbB g gt m1 m2 m3 m4 m5) w0 (sbR g gt m1 m2 m3 m4 m5) sbD 12 ⟨some 17, Op.fieldAddr 38 (Operand.tmp 16) 8, 0, "", #[], some (9, true)⟩ [11, 9] := by
  refine ⟨rfl, Or.inr ⟨9, true, rfl, by decide, fun v w h => h⟩, by decide, by decide, fun a w hn hB hk hd K hK => ?_⟩
  have e16 : a.eval (.tmp 16) = .pointer (some ⟨g, 0, none⟩) := hd 11 (by decide)
  exact step_run rfl (sb_e12 g gt m1 m2 m3 m4 m5 _ w (fun _ => rfl) e16 ) (hK.out _ w (Kp.refl _ _) rfl)
set_option maxRecDepth 100000 in
theorem sb_e13 (g gt m1 m2 m3 m4 m5 : Nat) (ev : Operand → Value) (z : World) (ec : ∀ c, ev (.const c) = c) (e17 : ev (.tmp 17) = .pointer (some ⟨g, 39, none⟩)) (hc : z.cell? ⟨g, 39, none⟩ = some (.map (some m2))) : (execOp ev ⟨some 18, Op.load 33 (Operand.tmp 17), 33, "", #[], some (9, true)⟩).run Tryz.prog z = .ok (.value (.map (some m2))) z := by
  go_simp
set_option maxRecDepth 100000 in
theorem sb_s13 {Q : Exit → Act → World → Prop} (g gt m1 m2 m3 m4 m5 : Nat) (w0 : World) (hS : Lv w0 g (stA (.slice (some ⟨gt, 0, none⟩) 1 1) (.map (some m1)) (.map (some m2)) (.map (some m3)) (.map (some m4)) (.map (some m5))).toList) (hT : Tm1 w0 (.slice (some ⟨gt, 0, none⟩) 1 1)) (hM : Ms5 w0 m1 m2 m3 m4 m5) : StepB Tryz.prog Q 25 (sbB g gt m1 m2 m3 m4 m5) w0 (sbR g gt m1 m2 m3 m4 m5) sbD 13 ⟨some 18, Op.load 33 (Operand.tmp 17), 33, "", #[], some (9, true)⟩ [12, 9] := by
  refine ⟨rfl, Or.inr ⟨9, true, rfl, by decide, fun v w h => h⟩, by decide, by decide, fun a w hn hB hk hd K hK => ?_⟩
  have e17 : a.eval (.tmp 17) = .pointer (some ⟨g, 39, none⟩) := hd 12 (by decide)
  exact step_run rfl (sb_e13 g gt m1 m2 m3 m4 m5 _ w (fun _ => rfl) e17 ((hS.keep hk id).cell (j := 39) rfl)) (hK.out _ w (Kp.refl _ _) rfl)
set_option maxRecDepth 100000 in
theorem sb_e14 (g gt m1 m2 m3 m4 m5 : Nat) (ev : Operand → Value) (z : World) (ec : ∀ c, ev (.const c) = c) (e1 : ev (.tmp 1) = .pointer (some ⟨g, 0, none⟩)) : (execOp ev ⟨some 19, Op.move (Operand.tmp 1), 28, "", #[], some (9, true)⟩).run Tryz.prog z = .ok (.value (.pointer (some ⟨g, 0, none⟩))) z := by
  go_simp
set_option maxRecDepth 100000 in
theorem sb_s14 {Q : Exit → Act → World → Prop} (g gt m1 m2 m3 m4 m5 : Nat) (w0 : World) (hS : Lv w0 g (stA (.slice (some ⟨gt, 0, none⟩) 1 1) (.map (some m1)) (.map (some m2)) (.map (some m3)) (.map (some m4)) (.map (some m5))).toList) (hT : Tm1 w0 (.slice (some ⟨gt, 0, none⟩) 1 1)) (hM : Ms5 w0 m1 m2 m3 m4 m5) : StepB Tryz.prog Q 25 (sbB g gt m1 m2 m3 m4 m5) w0 (sbR g gt m1 m2 m3 m4 m5) sbD 14 ⟨some 19, Op.move (Operand.tmp 1), 28, "", #[], some (9, true)⟩ [9] := by
  refine ⟨rfl, Or.inr ⟨9, true, rfl, by decide, fun v w h => h⟩, by decide, by decide, fun a w hn hB hk hd K hK => ?_⟩
  have e1 : a.eval (.tmp 1) = .pointer (some ⟨g, 0, none⟩) := hB.2.1
  exact step_run rfl (sb_e14 g gt m1 m2 m3 m4 m5 _ w (fun _ => rfl) e1 ) (hK.out _ w (Kp.refl _ _) rfl)
set_option maxRecDepth 100000 in
theorem sb_e15 (g gt m1 m2 m3 m4 m5 : Nat) (ev : Operand → Value) (z : World) (ec : ∀ c, ev (.const c) = c) (e19 : ev (.tmp 19) = .pointer (some ⟨g, 0, none⟩)) : (execOp ev ⟨some 20, Op.nilCheck (Operand.tmp 19), 0, "", #[], some (9, true)⟩).run Tryz.prog z = .ok (.value (.pointer (some ⟨g, 0, none⟩))) z := by
  go_simp
set_option maxRecDepth 100000 in
theorem sb_s15 {Q : Exit → Act → World → Prop} (g gt m1 m2 m3 m4 m5 : Nat) (w0 : World) (hS : Lv w0 g (stA (.slice (some ⟨gt, 0, none⟩) 1 1) (.map (some m1)) (.map (some m2)) (.map (some m3)) (.map (some m4)) (.map (some m5))).toList) (hT : Tm1 w0 (.slice (some ⟨gt, 0, none⟩) 1 1)) (hM : Ms5 w0 m1 m2 m3 m4 m5) : StepB Tryz.prog Q 25 (sbB g gt m1 m2 m3 m4 m5) w0 (sbR g gt m1 m2 m3 m4 m5) sbD 15 ⟨some 20, Op.nilCheck (Operand.tmp 19), 0, "", #[], some (9, true)⟩ [14, 9] := by
  refine ⟨rfl, Or.inr ⟨9, true, rfl, by decide, fun v w h => h⟩, by decide, by decide, fun a w hn hB hk hd K hK => ?_⟩
  have e19 : a.eval (.tmp 19) = .pointer (some ⟨g, 0, none⟩) := hd 14 (by decide)
  exact step_run rfl (sb_e15 g gt m1 m2 m3 m4 m5 _ w (fun _ => rfl) e19 ) (hK.out _ w (Kp.refl _ _) rfl)
set_option maxRecDepth 100000 in
theorem sb_e16 (g gt m1 m2 m3 m4 m5 : Nat) (ev : Operand → Value) (z : World) (ec : ∀ c, ev (.const c) = c) (e20 : ev (.tmp 20) = .pointer (some ⟨g, 0, none⟩)) : (execOp ev ⟨some 21, Op.fieldAddr 38 (Operand.tmp 20) 8, 0, "", #[], some (9, true)⟩).run Tryz.prog z = .ok (.value (.pointer (some ⟨g, 39, none⟩))) z := by
  go_simp
set_option maxRecDepth 100000 in
theorem sb_s16 {Q : Exit → Act → World → Prop} (g gt m1 m2 m3 m4 m5 : Nat) (w0 : World) (hS : Lv w0 g (stA (.slice (some ⟨gt, 0, none⟩) 1 1) (.map (some m1)) (.map (some m2)) (.map (some m3)) (.map (some m4)) (.map (some m5))).toList) (hT : Tm1 w0 (.slice (some ⟨gt, 0, none⟩) 1 1)) (hM : Ms5 w0 m1 m2 m3 m4 m5) : StepB Tryz.prog Q 25 (sbB g gt m1 m2 m3 m4 m5) w0 (sbR g gt m1 m2 m3 m4 m5) sbD 16 ⟨some 21, Op.fieldAddr 38 (Operand.tmp 20) 8, 0, "", #[], some (9, true)⟩ [15, 9] := by
  refine ⟨rfl, Or.inr ⟨9, true, rfl, by decide, fun v w h => h⟩, by decide, by decide, fun a w hn hB hk hd K hK => ?_⟩
  have e20 : a.eval (.tmp 20) = .pointer (some ⟨g, 0, none⟩) := hd 15 (by decide)
  exact step_run rfl (sb_e16 g gt m1 m2 m3 m4 m5 _ w (fun _ => rfl) e20 ) (hK.out _ w (Kp.refl _ _) rfl)
set_option maxRecDepth 100000 in
theorem sb_e17 (g gt m1 m2 m3 m4 m5 : Nat) (ev : Operand → Value) (z : World) (ec : ∀ c, ev (.const c) = c) (e21 : ev (.tmp 21) = .pointer (some ⟨g, 39, none⟩)) (hc : z.cell? ⟨g, 39, none⟩ = some (.map (some m2))) : (execOp ev ⟨some 22, Op.load 33 (Operand.tmp 21), 33, "", #[], some (9, true)⟩).run Tryz.prog z = .ok (.value (.map (some m2))) z := by
  go_simp
set_option maxRecDepth 100000 in
theorem sb_s17 {Q : Exit → Act → World → Prop} (g gt m1 m2 m3 m4 m5 : Nat) (w0 : World) (hS : Lv w0 g (stA (.slice (some ⟨gt, 0, none⟩) 1 1) (.map (some m1)) (.map (some m2)) (.map (some m3)) (.map (some m4)) (.map (some m5))).toList) (hT : Tm1 w0 (.slice (some ⟨gt, 0, none⟩) 1 1)) (hM : Ms5 w0 m1 m2 m3 m4 m5) : StepB Tryz.prog Q 25 (sbB g gt m1 m2 m3 m4 m5) w0 (sbR g gt m1 m2 m3 m4 m5) sbD 17 ⟨some 22, Op.load 33 (Operand.tmp 21), 33, "", #[], some (9, true)⟩ [16, 9] := by
  refine ⟨rfl, Or.inr ⟨9, true, rfl, by decide, fun v w h => h⟩, by decide, by decide, fun a w hn hB hk hd K hK => ?_⟩
  have e21 : a.eval (.tmp 21) = .pointer (some ⟨g, 39, none⟩) := hd 16 (by decide)
  exact step_run rfl (sb_e17 g gt m1 m2 m3 m4 m5 _ w (fun _ => rfl) e21 ((hS.keep hk id).cell (j := 39) rfl)) (hK.out _ w (Kp.refl _ _) rfl)
set_option maxRecDepth 100000 in
theorem sb_e18 (g gt m1 m2 m3 m4 m5 : Nat) (ev : Operand → Value) (z : World) (ec : ∀ c, ev (.const c) = c) (ef : ∀ f, ev (.func f) = .func (.func f) #[] #[]) (e18 : ev (.tmp 18) = .map (some m2)) (e22 : ev (.tmp 22) = .map (some m2)) : (execOp ev ⟨some 23, Op.call { callee := Callee.value (Operand.func 68), args := #[Operand.tmp 18, Operand.tmp 22, Operand.func 69], argTypes := #[33, 33, 139] }, 4, "", #[], some (9, true)⟩).run Tryz.prog z = .ok (.enter 68 #[.map (some m2), .map (some m2), .func (.func 69) #[] #[]]) z := enter_run _ (ef _) (by simp only [List.map_toArray, List.map_cons, List.map_nil, ec, ef, e18, e22]) (fun _ => by rfl)
set_option maxRecDepth 100000 in
theorem sb_s18 {Q : Exit → Act → World → Prop} (g gt m1 m2 m3 m4 m5 : Nat) (w0 : World) (hS : Lv w0 g (stA (.slice (some ⟨gt, 0, none⟩) 1 1) (.map (some m1)) (.map (some m2)) (.map (some m3)) (.map (some m4)) (.map (some m5))).toList) (hT : Tm1 w0 (.slice (some ⟨gt, 0, none⟩) 1 1)) (hM : Ms5 w0 m1 m2 m3 m4 m5) : StepB Tryz.prog Q 25 (sbB g gt m1 m2 m3 m4 m5) w0 (sbR g gt m1 m2 m3 m4 m5) sbD 18 ⟨some 23, Op.call { callee := Callee.value (Operand.func 68), args := #[Operand.tmp 18, Operand.tmp 22, Operand.func 69], argTypes := #[33, 33, 139] }, 4, "", #[], some (9, true)⟩ [13, 17, 9, 9] := by
  refine ⟨rfl, Or.inr ⟨9, true, rfl, by decide, fun v w h => h⟩, by decide, by decide, fun a w hn hB hk hd K hK => ?_⟩
  have e18 : a.eval (.tmp 18) = .map (some m2) := hd 13 (by decide)
  have e22 : a.eval (.tmp 22) = .map (some m2) := hd 17 (by decide)
  refine wp_enter (sb_e18 g gt m1 m2 m3 m4 m5 _ w (fun _ => rfl) (fun _ => rfl) e18 e22) ((fun w hk => meq_ib m2 m2 _ w (hM.b.keep hk id) (hM.b.keep hk id)) w hk) ?_
  rintro e9 w9 ⟨rfl, k9⟩
  exact ⟨_, rfl, hK.out _ _ k9 rfl⟩
set_option maxRecDepth 100000 in
theorem sb_e19 (g gt m1 m2 m3 m4 m5 : Nat) (ev : Operand → Value) (z : World) (ec : ∀ c, ev (.const c) = c) (e14 : ev (.tmp 14) = .bool true) (e23 : ev (.tmp 23) = .bool true) : (execOp ev ⟨some 24, Op.pick (Operand.tmp 14) (Operand.tmp 23) (Operand.const (Value.bool false)), 4, "", #[], none⟩).run Tryz.prog z = .ok (.value (.bool true)) z := by
  go_simp
set_option maxRecDepth 100000 in
theorem sb_s19 {Q : Exit → Act → World → Prop} (g gt m1 m2 m3 m4 m5 : Nat) (w0 : World) (hS : Lv w0 g (stA (.slice (some ⟨gt, 0, none⟩) 1 1) (.map (some m1)) (.map (some m2)) (.map (some m3)) (.map (some m4)) (.map (some m5))).toList) (hT : Tm1 w0 (.slice (some ⟨gt, 0, none⟩) 1 1)) (hM : Ms5 w0 m1 m2 m3 m4 m5) : StepB Tryz.prog Q 25 (sbB g gt m1 m2 m3 m4 m5) w0 (sbR g gt m1 m2 m3 m4 m5) sbD 19 ⟨some 24, Op.pick (Operand.tmp 14) (Operand.tmp 23) (Operand.const (Value.bool false)), 4, "", #[], none⟩ [9, 18] := by
  refine ⟨rfl, Or.inl rfl, by decide, by decide, fun a w hn hB hk hd K hK => ?_⟩
  have e14 : a.eval (.tmp 14) = .bool true := hd 9 (by decide)
  have e23 : a.eval (.tmp 23) = .bool true := hd 18 (by decide)
  exact step_run rfl (sb_e19 g gt m1 m2 m3 m4 m5 _ w (fun _ => rfl) e14 e23 ) (hK.out _ w (Kp.refl _ _) rfl)
set_option maxRecDepth 100000 in
theorem sb_e20 (g gt m1 m2 m3 m4 m5 : Nat) (ev : Operand → Value) (z : World) (ec : ∀ c, ev (.const c) = c) (e24 : ev (.tmp 24) = .bool true) : (execOp ev ⟨some 4, Op.assign (Operand.tmp 24), 4, "", #[], none⟩).run Tryz.prog z = .ok (.value (.bool true)) z := by
  go_simp
set_option maxRecDepth 100000 in
theorem sb_s20 {Q : Exit → Act → World → Prop} (g gt m1 m2 m3 m4 m5 : Nat) (w0 : World) (hS : Lv w0 g (stA (.slice (some ⟨gt, 0, none⟩) 1 1) (.map (some m1)) (.map (some m2)) (.map (some m3)) (.map (some m4)) (.map (some m5))).toList) (hT : Tm1 w0 (.slice (some ⟨gt, 0, none⟩) 1 1)) (hM : Ms5 w0 m1 m2 m3 m4 m5) : StepB Tryz.prog Q 25 (sbB g gt m1 m2 m3 m4 m5) w0 (sbR g gt m1 m2 m3 m4 m5) sbD 20 ⟨some 4, Op.assign (Operand.tmp 24), 4, "", #[], none⟩ [19, 18, 0, 1, 2, 3, 4, 5, 6, 7, 8, 9, 10, 11, 12, 13, 14, 15, 16, 17, 18, 19] := by
  refine ⟨rfl, Or.inl rfl, by decide, by decide, fun a w hn hB hk hd K hK => ?_⟩
  have e24 : a.eval (.tmp 24) = .bool true := hd 19 (by decide)
  exact step_run rfl (sb_e20 g gt m1 m2 m3 m4 m5 _ w (fun _ => rfl) e24 ) (hK.out _ w (Kp.refl _ _) rfl)
def sbT : List (Oper × List Nat) := [(⟨some 5, Op.move (Operand.tmp 0), 28, "", #[], none⟩, []), (⟨some 6, Op.nilCheck (Operand.tmp 5), 0, "", #[], none⟩, [0]), (⟨some 7, Op.fieldAddr 38 (Operand.tmp 6) 7, 0, "", #[], none⟩, [1]), (⟨some 8, Op.load 32 (Operand.tmp 7), 32, "", #[], none⟩, [2]), (⟨some 9, Op.move (Operand.tmp 1), 28, "", #[], none⟩, []), (⟨some 10, Op.nilCheck (Operand.tmp 9), 0, "", #[], none⟩, [4]), (⟨some 11, Op.fieldAddr 38 (Operand.tmp 10) 7, 0, "", #[], none⟩, [5]), (⟨some 12, Op.load 32 (Operand.tmp 11), 32, "", #[], none⟩, [6]), (⟨some 13, Op.call { callee := Callee.value (Operand.func 67), args := #[Operand.tmp 8, Operand.tmp 12], argTypes := #[32, 32] }, 4, "", #[], none⟩, [3, 7]), (⟨some 14, Op.move (Operand.tmp 13), 4, "", #[], none⟩, [8, 8]), (⟨some 15, Op.move (Operand.tmp 0), 28, "", #[], some (9, true)⟩, [9]), (⟨some 16, Op.nilCheck (Operand.tmp 15), 0, "", #[], some (9, true)⟩, [10, 9]), (⟨some 17, Op.fieldAddr 38 (Operand.tmp 16) 8, 0, "", #[], some (9, true)⟩, [11, 9]), (⟨some 18, Op.load 33 (Operand.tmp 17), 33, "", #[], some (9, true)⟩, [12, 9]), (⟨some 19, Op.move (Operand.tmp 1), 28, "", #[], some (9, true)⟩, [9]), (⟨some 20, Op.nilCheck (Operand.tmp 19), 0, "", #[], some (9, true)⟩, [14, 9]), (⟨some 21, Op.fieldAddr 38 (Operand.tmp 20) 8, 0, "", #[], some (9, true)⟩, [15, 9]), (⟨some 22, Op.load 33 (Operand.tmp 21), 33, "", #[], some (9, true)⟩, [16, 9]), (⟨some 23, Op.call { callee := Callee.value (Operand.func 68), args := #[Operand.tmp 18, Operand.tmp 22, Operand.func 69], argTypes := #[33, 33, 139] }, 4, "", #[], some (9, true)⟩, [13, 17, 9, 9]), (⟨some 24, Op.pick (Operand.tmp 14) (Operand.tmp 23) (Operand.const (Value.bool false)), 4, "", #[], none⟩, [9, 18]), (⟨some 4, Op.assign (Operand.tmp 24), 4, "", #[], none⟩, [19, 18, 0, 1, 2, 3, 4, 5, 6, 7, 8, 9, 10, 11, 12, 13, 14, 15, 16, 17, 18, 19])]
theorem sb_steps {Q : Exit → Act → World → Prop} (g gt m1 m2 m3 m4 m5 : Nat) (w0 : World) (hS : Lv w0 g (stA (.slice (some ⟨gt, 0, none⟩) 1 1) (.map (some m1)) (.map (some m2)) (.map (some m3)) (.map (some m4)) (.map (some m5))).toList) (hT : Tm1 w0 (.slice (some ⟨gt, 0, none⟩) 1 1)) (hM : Ms5 w0 m1 m2 m3 m4 m5) : Steps Tryz.prog Q 25 (sbB g gt m1 m2 m3 m4 m5) w0 (sbR g gt m1 m2 m3 m4 m5) sbD 0 sbT := ⟨sb_s0 g gt m1 m2 m3 m4 m5 w0 hS hT hM, sb_s1 g gt m1 m2 m3 m4 m5 w0 hS hT hM, sb_s2 g gt m1 m2 m3 m4 m5 w0 hS hT hM, sb_s3 g gt m1 m2 m3 m4 m5 w0 hS hT hM, sb_s4 g gt m1 m2 m3 m4 m5 w0 hS hT hM, sb_s5 g gt m1 m2 m3 m4 m5 w0 hS hT hM, sb_s6 g gt m1 m2 m3 m4 m5 w0 hS hT hM, sb_s7 g gt m1 m2 m3 m4 m5 w0 hS hT hM, sb_s8 g gt m1 m2 m3 m4 m5 w0 hS hT hM, sb_s9 g gt m1 m2 m3 m4 m5 w0 hS hT hM, sb_s10 g gt m1 m2 m3 m4 m5 w0 hS hT hM, sb_s11 g gt m1 m2 m3 m4 m5 w0 hS hT hM, sb_s12 g gt m1 m2 m3 m4 m5 w0 hS hT hM, sb_s13 g gt m1 m2 m3 m4 m5 w0 hS hT hM, sb_s14 g gt m1 m2 m3 m4 m5 w0 hS hT hM, sb_s15 g gt m1 m2 m3 m4 m5 w0 hS hT hM, sb_s16 g gt m1 m2 m3 m4 m5 w0 hS hT hM, sb_s17 g gt m1 m2 m3 m4 m5 w0 hS hT hM, sb_s18 g gt m1 m2 m3 m4 m5 w0 hS hT hM, sb_s19 g gt m1 m2 m3 m4 m5 w0 hS hT hM, sb_s20 g gt m1 m2 m3 m4 m5 w0 hS hT hM, trivial⟩

set_option maxRecDepth 100000 in
set_option maxHeartbeats 1600000 in
theorem blobs1 (v : Value) (w : World) (h : Ep w v) : Calls Tryz.prog 46 #[v, v] w fun e w' => e = .returned (.bool true) ∧ Kp (fun _ => False) w w' := by
  obtain ⟨g, tv, m1, m2, m3, m4, m5, rfl, hl, ht, hm⟩ := h
  have ht' := ht
  obtain ⟨gt, qt, ct, htv, _, _⟩ := ht'
  subst htv
  have kd : Kp (fun _ => False) w w.drew := (Kp.refl _ _).drew
  have hS := hl.keep kd id
  have hT := ht.keep kd
  have hM := hm.keep kd
  clear hl ht hm
  go_enter Tryz.func46, Tryz.ntmps46
  go_wp2_with fail
  refine mono_region (by kernel_rfl) sbT (by kernel_rfl) 25 (sbB g gt m1 m2 m3 m4 m5) (sbR g gt m1 m2 m3 m4 m5) sbD rfl ⟨rfl, rfl, rfl⟩ (fun k v a hk h => sbB_put g gt m1 m2 m3 m4 m5 k v a hk h) (fun i j h1 h2 => sbD_inj0 i h1 j h2) (fun i v w w' h _ => h) (sb_steps g gt m1 m2 m3 m4 m5 _ hS hT hM) ?_
  intro a w9 hn hB k9 hr
  have h4 : a.eval (.tmp 4) = .bool true := hr 20 (by decide)
  have hres : (results Tryz.f46 a.tmps).run Tryz.prog w9 = .ok (.bool true) w9 := by
    rw [← h4]
    simp [results, Tryz.results46, Act.eval]
  go_wp2_with fail
  refine bodyPost_ret hres hB.2.2 ?_
  exact ⟨rfl, kd.trans k9 (fun _ _ e => e)⟩
def sjV (g gt m1 m2 m3 m4 m5 : Nat) : Nat → Value
  | 0 => .pointer (some ⟨g, 0, none⟩)
  | 1 => .pointer (some ⟨g, 0, none⟩)
  | 2 => .pointer (some ⟨g, 40, none⟩)
  | 3 => .map (some m3)
  | 4 => .slice none 0 0
  | 5 => .pointer (some ⟨g, 0, none⟩)
  | 6 => .pointer (some ⟨g, 0, none⟩)
  | 7 => .pointer (some ⟨g, 40, none⟩)
  | 8 => .map (some m3)
  | 9 => .slice none 0 0
  | 10 => .bool true
  | 11 => .bool true
  | 12 => .pointer (some ⟨g, 0, none⟩)
  | 13 => .pointer (some ⟨g, 0, none⟩)
  | 14 => .pointer (some ⟨g, 41, none⟩)
  | 15 => .map (some m4)
  | 16 => .slice none 0 0
  | 17 => .pointer (some ⟨g, 0, none⟩)
  | 18 => .pointer (some ⟨g, 0, none⟩)
  | 19 => .pointer (some ⟨g, 41, none⟩)
  | 20 => .map (some m4)
  | 21 => .slice none 0 0
  | 22 => .bool true
  | 23 => .bool true
  | 24 => .bool true
  | _ => undef
abbrev sjR (g gt m1 m2 m3 m4 m5 : Nat) : Nat → Value → World → Prop := fun i v _ => v = sjV g gt m1 m2 m3 m4 m5 i
def sjD (k : Nat) : Nat := [5, 6, 7, 8, 9, 10, 11, 12, 13, 14, 15, 16, 17, 18, 19, 20, 21, 22, 23, 24, 25, 26, 27, 28, 4].getD k 0
def sjB (g gt m1 m2 m3 m4 m5 : Nat) (a : Act) : Prop := a.eval (.tmp 0) = .pointer (some ⟨g, 0, none⟩) ∧ a.eval (.tmp 1) = .pointer (some ⟨g, 0, none⟩) ∧ a.defers = []
theorem sjD_ne : ∀ k, k < 25 → sjD k ≠ 0 ∧ sjD k ≠ 1 := by decide
theorem sjB_put (g gt m1 m2 m3 m4 m5 : Nat) (k : Nat) (v : Value) (a : Act) (hk : k < 25) (h : sjB g gt m1 m2 m3 m4 m5 a) : sjB g gt m1 m2 m3 m4 m5 (a.put (some (sjD k)) v) := by
  have hne := sjD_ne k hk
  refine ⟨?_, ?_, h.2.2⟩
  · rw [← h.1]
    show (a.tmps.setIfInBounds (sjD k) v).getD 0 undef = a.tmps.getD 0 undef
    simp [Array.getElem?_setIfInBounds_ne (hne.1)]
  · rw [← h.2.1]
    show (a.tmps.setIfInBounds (sjD k) v).getD 1 undef = a.tmps.getD 1 undef
    simp [Array.getElem?_setIfInBounds_ne (hne.2)]
theorem sjD_inj0 : ∀ i, i < 25 → ∀ j, j < 25 → sjD i = sjD j → i = j := by decide

set_option maxRecDepth 100000 in
theorem sj_e0 (g gt m1 m2 m3 m4 m5 : Nat) (ev : Operand → Value) (z : World) (ec : ∀ c, ev (.const c) = c) (e0 : ev (.tmp 0) = .pointer (some ⟨g, 0, none⟩)) : (execOp ev ⟨some 5, Op.move (Operand.tmp 0), 28, "", #[], none⟩).run Tryz.prog z = .ok (.value (.pointer (some ⟨g, 0, none⟩))) z := by
  go_simp
set_option maxRecDepth 100000 in
theorem sj_s0 {Q : Exit → Act → World → Prop} (g gt m1 m2 m3 m4 m5 : Nat) (w0 : World) (hS : Lv w0 g (stA (.slice (some ⟨gt, 0, none⟩) 1 1) (.map (some m1)) (.map (some m2)) (.map (some m3)) (.map (some m4)) (.map (some m5))).toList) (hT : Tm1 w0 (.slice (some ⟨gt, 0, none⟩) 1 1)) (hM : Ms5 w0 m1 m2 m3 m4 m5) : StepB Tryz.prog Q 29 (sjB g gt m1 m2 m3 m4 m5) w0 (sjR g gt m1 m2 m3 m4 m5) sjD 0 ⟨some 5, Op.move (Operand.tmp 0), 28, "", #[], none⟩ [] := by
  refine ⟨rfl, Or.inl rfl, by decide, by decide, fun a w hn hB hk hd K hK => ?_⟩
  have e0 : a.eval (.tmp 0) = .pointer (some ⟨g, 0, none⟩) := hB.1
  exact step_run rfl (sj_e0 g gt m1 m2 m3 m4 m5 _ w (fun _ => rfl) e0 ) (hK.out _ w (Kp.refl _ _) rfl)
set_option maxRecDepth 100000 in
theorem sj_e1 (g gt m1 m2 m3 m4 m5 : Nat) (ev : Operand → Value) (z : World) (ec : ∀ c, ev (.const c) = c) (e5 : ev (.tmp 5) = .pointer (some ⟨g, 0, none⟩)) : (execOp ev ⟨some 6, Op.nilCheck (Operand.tmp 5), 0, "", #[], none⟩).run Tryz.prog z = .ok (.value (.pointer (some ⟨g, 0, none⟩))) z := by
  go_simp
set_option maxRecDepth 100000 in
theorem sj_s1 {Q : Exit → Act → World → Prop} (g gt m1 m2 m3 m4 m5 : Nat) (w0 : World) (hS : Lv w0 g (stA (.slice (some ⟨gt, 0, none⟩) 1 1) (.map (some m1)) (.map (some m2)) (.map (some m3)) (.map (some m4)) (.map (some m5))).toList) (hT : Tm1 w0 (.slice (some ⟨gt, 0, none⟩) 1 1)) (hM : Ms5 w0 m1 m2 m3 m4 m5) : StepB Tryz.prog Q 29 (sjB g gt m1 m2 m3 m4 m5) w0 (sjR g gt m1 m2 m3 m4 m5) sjD 1 ⟨some 6, Op.nilCheck (Operand.tmp 5), 0, "", #[], none⟩ [0] := by
  refine ⟨rfl, Or.inl rfl, by decide, by decide, fun a w hn hB hk hd K hK => ?_⟩
  have e5 : a.eval (.tmp 5) = .pointer (some ⟨g, 0, none⟩) := hd 0 (by decide)
  exact step_run rfl (sj_e1 g gt m1 m2 m3 m4 m5 _ w (fun _ => rfl) e5 ) (hK.out _ w (Kp.refl _ _) rfl)
set_option maxRecDepth 100000 in
theorem sj_e2 (g gt m1 m2 m3 m4 m5 : Nat) (ev : Operand → Value) (z : World) (ec : ∀ c, ev (.const c) = c) (e6 : ev (.tmp 6) = .pointer (some ⟨g, 0, none⟩)) : (execOp ev ⟨some 7, Op.fieldAddr 38 (Operand.tmp 6) 9, 0, "", #[], none⟩).run Tryz.prog z = .ok (.value (.pointer (some ⟨g, 40, none⟩))) z := by
  go_simp
set_option maxRecDepth 100000 in
theorem sj_s2 {Q : Exit → Act → World → Prop} (g gt m1 m2 m3 m4 m5 : Nat) (w0 : World) (hS : Lv w0 g (stA (.slice (some ⟨gt, 0, none⟩) 1 1) (.map (some m1)) (.map (some m2)) (.map (some m3)) (.map (some m4)) (.map (some m5))).toList) (hT : Tm1 w0 (.slice (some ⟨gt, 0, none⟩) 1 1)) (hM : Ms5 w0 m1 m2 m3 m4 m5) : StepB Tryz.prog Q 29 (sjB g gt m1 m2 m3 m4 m5) w0 (sjR g gt m1 m2 m3 m4 m5) sjD 2 ⟨some 7, Op.fieldAddr 38 (Operand.tmp 6) 9, 0, "", #[], none⟩ [1] := by
  refine ⟨rfl, Or.inl rfl, by decide, by decide, fun a w hn hB hk hd K hK => ?_⟩
  have e6 : a.eval (.tmp 6) = .pointer (some ⟨g, 0, none⟩) := hd 1 (by decide)
  exact step_run rfl (sj_e2 g gt m1 m2 m3 m4 m5 _ w (fun _ => rfl) e6 ) (hK.out _ w (Kp.refl _ _) rfl)
set_option maxRecDepth 100000 in
theorem sj_e3 (g gt m1 m2 m3 m4 m5 : Nat) (ev : Operand → Value) (z : World) (ec : ∀ c, ev (.const c) = c) (e7 : ev (.tmp 7) = .pointer (some ⟨g, 40, none⟩)) (hc : z.cell? ⟨g, 40, none⟩ = some (.map (some m3))) : (execOp ev ⟨some 8, Op.load 34 (Operand.tmp 7), 34, "", #[], none⟩).run Tryz.prog z = .ok (.value (.map (some m3))) z := by
  go_simp
set_option maxRecDepth 100000 in
theorem sj_s3 {Q : Exit → Act → World → Prop} (g gt m1 m2 m3 m4 m5 : Nat) (w0 : World) (hS : Lv w0 g (stA (.slice (some ⟨gt, 0, none⟩) 1 1) (.map (some m1)) (.map (some m2)) (.map (some m3)) (.map (some m4)) (.map (some m5))).toList) (hT : Tm1 w0 (.slice (some ⟨gt, 0, none⟩) 1 1)) (hM : Ms5 w0 m1 m2 m3 m4 m5) : StepB Tryz.prog Q 29 (sjB g gt m1 m2 m3 m4 m5) w0 (sjR g gt m1 m2 m3 m4 m5) sjD 3 ⟨some 8, Op.load 34 (Operand.tmp 7), 34, "", #[], none⟩ [2] := by
  refine ⟨rfl, Or.inl rfl, by decide, by decide, fun a w hn hB hk hd K hK => ?_⟩
  have e7 : a.eval (.tmp 7) = .pointer (some ⟨g, 40, none⟩) := hd 2 (by decide)
  exact step_run rfl (sj_e3 g gt m1 m2 m3 m4 m5 _ w (fun _ => rfl) e7 ((hS.keep hk id).cell (j := 40) rfl)) (hK.out _ w (Kp.refl _ _) rfl)
set_option maxRecDepth 100000 in
theorem sj_e4 (g gt m1 m2 m3 m4 m5 : Nat) (ev : Operand → Value) (z : World) (ec : ∀ c, ev (.const c) = c) (ef : ∀ f, ev (.func f) = .func (.func f) #[] #[]) (e8 : ev (.tmp 8) = .map (some m3)) : (execOp ev ⟨some 9, Op.call { callee := Callee.value (Operand.func 30), args := #[Operand.tmp 8], argTypes := #[34] }, 56, "", #[], none⟩).run Tryz.prog z = .ok (.enter 30 #[.map (some m3)]) z := enter_run _ (ef _) (by simp only [List.map_toArray, List.map_cons, List.map_nil, ec, ef, e8]) (fun _ => by rfl)
set_option maxRecDepth 100000 in
theorem sj_s4 {Q : Exit → Act → World → Prop} (g gt m1 m2 m3 m4 m5 : Nat) (w0 : World) (hS : Lv w0 g (stA (.slice (some ⟨gt, 0, none⟩) 1 1) (.map (some m1)) (.map (some m2)) (.map (some m3)) (.map (some m4)) (.map (some m5))).toList) (hT : Tm1 w0 (.slice (some ⟨gt, 0, none⟩) 1 1)) (hM : Ms5 w0 m1 m2 m3 m4 m5) : StepB Tryz.prog Q 29 (sjB g gt m1 m2 m3 m4 m5) w0 (sjR g gt m1 m2 m3 m4 m5) sjD 4 ⟨some 9, Op.call { callee := Callee.value (Operand.func 30), args := #[Operand.tmp 8], argTypes := #[34] }, 56, "", #[], none⟩ [3] := by
  refine ⟨rfl, Or.inl rfl, by decide, by decide, fun a w hn hB hk hd K hK => ?_⟩
  have e8 : a.eval (.tmp 8) = .map (some m3) := hd 3 (by decide)
  refine wp_enter (sj_e4 g gt m1 m2 m3 m4 m5 _ w (fun _ => rfl) (fun _ => rfl) e8) ((fun w hk => ino_mv m3 w (hM.c.keep hk id)) w hk) ?_
  rintro e9 w9 ⟨rfl, k9⟩
  exact ⟨_, rfl, hK.out _ _ k9 rfl⟩
set_option maxRecDepth 100000 in
theorem sj_e5 (g gt m1 m2 m3 m4 m5 : Nat) (ev : Operand → Value) (z : World) (ec : ∀ c, ev (.const c) = c) (e1 : ev (.tmp 1) = .pointer (some ⟨g, 0, none⟩)) : (execOp ev ⟨some 10, Op.move (Operand.tmp 1), 28, "", #[], none⟩).run Tryz.prog z = .ok (.value (.pointer (some ⟨g, 0, none⟩))) z := by
  go_simp
set_option maxRecDepth 100000 in
theorem sj_s5 {Q : Exit → Act → World → Prop} (g gt m1 m2 m3 m4 m5 : Nat) (w0 : World) (hS : Lv w0 g (stA (.slice (some ⟨gt, 0, none⟩) 1 1) (.map (some m1)) (.map (some m2)) (.map (some m3)) (.map (some m4)) (.map (some m5))).toList) (hT : Tm1 w0 (.slice (some ⟨gt, 0, none⟩) 1 1)) (hM : Ms5 w0 m1 m2 m3 m4 m5) : StepB Tryz.prog Q 29 (sjB g gt m1 m2 m3 m4 m5) w0 (sjR g gt m1 m2 m3 m4 m5) sjD 5 ⟨some 10, Op.move (Operand.tmp 1), 28, "", #[], none⟩ [] := by
  refine ⟨rfl, Or.inl rfl, by decide, by decide, fun a w hn hB hk hd K hK => ?_⟩
  have e1 : a.eval (.tmp 1) = .pointer (some ⟨g, 0, none⟩) := hB.2.1
  exact step_run rfl (sj_e5 g gt m1 m2 m3 m4 m5 _ w (fun _ => rfl) e1 ) (hK.out _ w (Kp.refl _ _) rfl)
set_option maxRecDepth 100000 in
theorem sj_e6 (g gt m1 m2 m3 m4 m5 : Nat) (ev : Operand → Value) (z : World) (ec : ∀ c, ev (.const c) = c) (e10 : ev (.tmp 10) = .pointer (some ⟨g, 0, none⟩)) : (execOp ev ⟨some 11, Op.nilCheck (Operand.tmp 10), 0, "", #[], none⟩).run Tryz.prog z = .ok (.value (.pointer (some ⟨g, 0, none⟩))) z := by
  go_simp
set_option maxRecDepth 100000 in
theorem sj_s6 {Q : Exit → Act → World → Prop} (g gt m1 m2 m3 m4 m5 : Nat) (w0 : World) (hS : Lv w0 g (stA (.slice (some ⟨gt, 0, none⟩) 1 1) (.map (some m1)) (.map (some m2)) (.map (some m3)) (.map (some m4)) (.map (some m5))).toList) (hT : Tm1 w0 (.slice (some ⟨gt, 0, none⟩) 1 1)) (hM : Ms5 w0 m1 m2 m3 m4 m5) : StepB Tryz.prog Q 29 (sjB g gt m1 m2 m3 m4 m5) w0 (sjR g gt m1 m2 m3 m4 m5) sjD 6 ⟨some 11, Op.nilCheck (Operand.tmp 10), 0, "", #[], none⟩ [5] := by
  refine ⟨rfl, Or.inl rfl, by decide, by decide, fun a w hn hB hk hd K hK => ?_⟩
  have e10 : a.eval (.tmp 10) = .pointer (some ⟨g, 0, none⟩) := hd 5 (by decide)
  exact step_run rfl (sj_e6 g gt m1 m2 m3 m4 m5 _ w (fun _ => rfl) e10 ) (hK.out _ w (Kp.refl _ _) rfl)
set_option maxRecDepth 100000 in
theorem sj_e7 (g gt m1 m2 m3 m4 m5 : Nat) (ev : Operand → Value) (z : World) (ec : ∀ c, ev (.const c) = c) (e11 : ev (.tmp 11) = .pointer (some ⟨g, 0, none⟩)) : (execOp ev ⟨some 12, Op.fieldAddr 38 (Operand.tmp 11) 9, 0, "", #[], none⟩).run Tryz.prog z = .ok (.value (.pointer (some ⟨g, 40, none⟩))) z := by
  go_simp
set_option maxRecDepth 100000 in
theorem sj_s7 {Q : Exit → Act → World → Prop} (g gt m1 m2 m3 m4 m5 : Nat) (w0 : World) (hS : Lv w0 g (stA (.slice (some ⟨gt, 0, none⟩) 1 1) (.map (some m1)) (.map (some m2)) (.map (some m3)) (.map (some m4)) (.map (some m5))).toList) (hT : Tm1 w0 (.slice (some ⟨gt, 0, none⟩) 1 1)) (hM : Ms5 w0 m1 m2 m3 m4 m5) : StepB Tryz.prog Q 29 (sjB g gt m1 m2 m3 m4 m5) w0 (sjR g gt m1 m2 m3 m4 m5) sjD 7 ⟨some 12, Op.fieldAddr 38 (Operand.tmp 11) 9, 0, "", #[], none⟩ [6] := by
  refine ⟨rfl, Or.inl rfl, by decide, by decide, fun a w hn hB hk hd K hK => ?_⟩
  have e11 : a.eval (.tmp 11) = .pointer (some ⟨g, 0, none⟩) := hd 6 (by decide)
  exact step_run rfl (sj_e7 g gt m1 m2 m3 m4 m5 _ w (fun _ => rfl) e11 ) (hK.out _ w (Kp.refl _ _) rfl)
set_option maxRecDepth 100000 in
theorem sj_e8 (g gt m1 m2 m3 m4 m5 : Nat) (ev : Operand → Value) (z : World) (ec : ∀ c, ev (.const c) = c) (e12 : ev (.tmp 12) = .pointer (some ⟨g, 40, none⟩)) (hc : z.cell? ⟨g, 40, none⟩ = some (.map (some m3))) : (execOp ev ⟨some 13, Op.load 34 (Operand.tmp 12), 34, "", #[], none⟩).run Tryz.prog z = .ok (.value (.map (some m3))) z := by
  go_simp
set_option maxRecDepth 100000 in
theorem sj_s8 {Q : Exit → Act → World → Prop} (g gt m1 m2 m3 m4 m5 : Nat) (w0 : World) (hS : Lv w0 g (stA (.slice (some ⟨gt, 0, none⟩) 1 1) (.map (some m1)) (.map (some m2)) (.map (some m3)) (.map (some m4)) (.map (some m5))).toList) (hT : Tm1 w0 (.slice (some ⟨gt, 0, none⟩) 1 1)) (hM : Ms5 w0 m1 m2 m3 m4 m5) : StepB Tryz.prog Q 29 (sjB g gt m1 m2 m3 m4 m5) w0 (sjR g gt m1 m2 m3 m4 m5) sjD 8 ⟨some 13, Op.load 34 (Operand.tmp 12), 34, "", #[], none⟩ [7] := by
  refine ⟨rfl, Or.inl rfl, by decide, by decide, fun a w hn hB hk hd K hK => ?_⟩
  have e12 : a.eval (.tmp 12) = .pointer (some ⟨g, 40, none⟩) := hd 7 (by decide)
  exact step_run rfl (sj_e8 g gt m1 m2 m3 m4 m5 _ w (fun _ => rfl) e12 ((hS.keep hk id).cell (j := 40) rfl)) (hK.out _ w (Kp.refl _ _) rfl)
set_option maxRecDepth 100000 in
theorem sj_e9 (g gt m1 m2 m3 m4 m5 : Nat) (ev : Operand → Value) (z : World) (ec : ∀ c, ev (.const c) = c) (ef : ∀ f, ev (.func f) = .func (.func f) #[] #[]) (e13 : ev (.tmp 13) = .map (some m3)) : (execOp ev ⟨some 14, Op.call { callee := Callee.value (Operand.func 30), args := #[Operand.tmp 13], argTypes := #[34] }, 56, "", #[], none⟩).run Tryz.prog z = .ok (.enter 30 #[.map (some m3)]) z := enter_run _ (ef _) (by simp only [List.map_toArray, List.map_cons, List.map_nil, ec, ef, e13]) (fun _ => by rfl)
set_option maxRecDepth 100000 in
theorem sj_s9 {Q : Exit → Act → World → Prop} (g gt m1 m2 m3 m4 m5 : Nat) (w0 : World) (hS : Lv w0 g (stA (.slice (some ⟨gt, 0, none⟩) 1 1) (.map (some m1)) (.map (some m2)) (.map (some m3)) (.map (some m4)) (.map (some m5))).toList) (hT : Tm1 w0 (.slice (some ⟨gt, 0, none⟩) 1 1)) (hM : Ms5 w0 m1 m2 m3 m4 m5) : StepB Tryz.prog Q 29 (sjB g gt m1 m2 m3 m4 m5) w0 (sjR g gt m1 m2 m3 m4 m5) sjD 9 ⟨some 14, Op.call { callee := Callee.value (Operand.func 30), args := #[Operand.tmp 13], argTypes := #[34] }, 56, "", #[], none⟩ [8, 4] := by
  refine ⟨rfl, Or.inl rfl, by decide, by decide, fun a w hn hB hk hd K hK => ?_⟩
  have e13 : a.eval (.tmp 13) = .map (some m3) := hd 8 (by decide)
  refine wp_enter (sj_e9 g gt m1 m2 m3 m4 m5 _ w (fun _ => rfl) (fun _ => rfl) e13) ((fun w hk => ino_mv m3 w (hM.c.keep hk id)) w hk) ?_
  rintro e9 w9 ⟨rfl, k9⟩
  exact ⟨_, rfl, hK.out _ _ k9 rfl⟩
set_option maxRecDepth 100000 in
theorem sj_e10 (g gt m1 m2 m3 m4 m5 : Nat) (ev : Operand → Value) (z : World) (ec : ∀ c, ev (.const c) = c) (ef : ∀ f, ev (.func f) = .func (.func f) #[] #[]) (e9 : ev (.tmp 9) = .slice none 0 0) (e14 : ev (.tmp 14) = .slice none 0 0) : (execOp ev ⟨some 15, Op.call { callee := Callee.value (Operand.func 70), args := #[Operand.tmp 9, Operand.tmp 14], argTypes := #[56, 56] }, 4, "", #[], none⟩).run Tryz.prog z = .ok (.enter 70 #[.slice none 0 0, .slice none 0 0]) z := enter_run _ (ef _) (by simp only [List.map_toArray, List.map_cons, List.map_nil, ec, ef, e9, e14]) (fun _ => by rfl)
set_option maxRecDepth 100000 in
theorem sj_s10 {Q : Exit → Act → World → Prop} (g gt m1 m2 m3 m4 m5 : Nat) (w0 : World) (hS : Lv w0 g (stA (.slice (some ⟨gt, 0, none⟩) 1 1) (.map (some m1)) (.map (some m2)) (.map (some m3)) (.map (some m4)) (.map (some m5))).toList) (hT : Tm1 w0 (.slice (some ⟨gt, 0, none⟩) 1 1)) (hM : Ms5 w0 m1 m2 m3 m4 m5) : StepB Tryz.prog Q 29 (sjB g gt m1 m2 m3 m4 m5) w0 (sjR g gt m1 m2 m3 m4 m5) sjD 10 ⟨some 15, Op.call { callee := Callee.value (Operand.func 70), args := #[Operand.tmp 9, Operand.tmp 14], argTypes := #[56, 56] }, 4, "", #[], none⟩ [4, 9, 9] := by
  refine ⟨rfl, Or.inl rfl, by decide, by decide, fun a w hn hB hk hd K hK => ?_⟩
  have e9 : a.eval (.tmp 9) = .slice none 0 0 := hd 4 (by decide)
  have e14 : a.eval (.tmp 14) = .slice none 0 0 := hd 9 (by decide)
  refine wp_enter (sj_e10 g gt m1 m2 m3 m4 m5 _ w (fun _ => rfl) (fun _ => rfl) e9 e14) ((fun w _ => eqn_moves w) w hk) ?_
  rintro e9 w9 ⟨rfl, k9⟩
  exact ⟨_, rfl, hK.out _ _ k9 rfl⟩
set_option maxRecDepth 100000 in
theorem sj_e11 (g gt m1 m2 m3 m4 m5 : Nat) (ev : Operand → Value) (z : World) (ec : ∀ c, ev (.const c) = c) (e15 : ev (.tmp 15) = .bool true) : (execOp ev ⟨some 16, Op.move (Operand.tmp 15), 4, "", #[], none⟩).run Tryz.prog z = .ok (.value (.bool true)) z := by
  go_simp
set_option maxRecDepth 100000 in
theorem sj_s11 {Q : Exit → Act → World → Prop} (g gt m1 m2 m3 m4 m5 : Nat) (w0 : World) (hS : Lv w0 g (stA (.slice (some ⟨gt, 0, none⟩) 1 1) (.map (some m1)) (.map (some m2)) (.map (some m3)) (.map (some m4)) (.map (some m5))).toList) (hT : Tm1 w0 (.slice (some ⟨gt, 0, none⟩) 1 1)) (hM : Ms5 w0 m1 m2 m3 m4 m5) : StepB Tryz.prog Q 29 (sjB g gt m1 m2 m3 m4 m5) w0 (sjR g gt m1 m2 m3 m4 m5) sjD 11 ⟨some 16, Op.move (Operand.tmp 15), 4, "", #[], none⟩ [10, 10] := by
  refine ⟨rfl, Or.inl rfl, by decide, by decide, fun a w hn hB hk hd K hK => ?_⟩
  have e15 : a.eval (.tmp 15) = .bool true := hd 10 (by decide)
  exact step_run rfl (sj_e11 g gt m1 m2 m3 m4 m5 _ w (fun _ => rfl) e15 ) (hK.out _ w (Kp.refl _ _) rfl)
set_option maxRecDepth 100000 in
theorem sj_e12 (g gt m1 m2 m3 m4 m5 : Nat) (ev : Operand → Value) (z : World) (ec : ∀ c, ev (.const c) = c) (e0 : ev (.tmp 0) = .pointer (some ⟨g, 0, none⟩)) : (execOp ev ⟨some 17, Op.move (Operand.tmp 0), 28, "", #[], some (11, true)⟩).run Tryz.prog z = .ok (.value (.pointer (some ⟨g, 0, none⟩))) z := by
  go_simp
set_option maxRecDepth 100000 in
theorem sj_s12 {Q : Exit → Act → World → Prop} (g gt m1 m2 m3 m4 m5 : Nat) (w0 : World) (hS : Lv w0 g (stA (.slice (some ⟨gt, 0, none⟩) 1 1) (.map (some m1)) (.map (some m2)) (.map (some m3)) (.map (some m4)) (.map (some m5))).toList) (hT : Tm1 w0 (.slice (some ⟨gt, 0, none⟩) 1 1)) (hM : Ms5 w0 m1 m2 m3 m4 m5) : StepB Tryz.prog Q 29 (sjB g gt m1 m2 m3 m4 m5) w0 (sjR g gt m1 m2 m3 m4 m5) sjD 12 ⟨some 17, Op.move (Operand.tmp 0), 28, "", #[], some (11, true)⟩ [11] := by
  refine ⟨rfl, Or.inr ⟨11, true, rfl, by decide, fun v w h => h⟩, by decide, by decide, fun a w hn hB hk hd K hK => ?_⟩
  have e0 : a.eval (.tmp 0) = .pointer (some ⟨g, 0, none⟩) := hB.1
  exact step_run rfl (sj_e12 g gt m1 m2 m3 m4 m5 _ w (fun _ => rfl) e0 ) (hK.out _ w (Kp.refl _ _) rfl)
set_option maxRecDepth 100000 in
theorem sj_e13 (g gt m1 m2 m3 m4 m5 : Nat) (ev : Operand → Value) (z : World) (ec : ∀ c, ev (.const c) = c) (e17 : ev (.tmp 17) = .pointer (some ⟨g, 0, none⟩)) : (execOp ev ⟨some 18, Op.nilCheck (Operand.tmp 17), 0, "", #[], some (11, true)⟩).run Tryz.prog z = .ok (.value (.pointer (some ⟨g, 0, none⟩))) z := by
  go_simp
set_option maxRecDepth 100000 in
theorem sj_s13 {Q : Exit → Act → World → Prop} (g gt m1 m2 m3 m4 m5 : Nat) (w0 : World) (hS : Lv w0 g (stA (.slice (some ⟨gt, 0, none⟩) 1 1) (.map (some m1)) (.map (some m2)) (.map (some m3)) (.map (some m4)) (.map (some m5))).toList) (hT : Tm1 w0 (.slice (some ⟨gt, 0, none⟩) 1 1)) (hM : Ms5 w0 m1 m2 m3 m4 m5) : StepB Tryz.prog Q 29 (sjB g gt m1 m2 m3 m4 m5) w0 (sjR g gt m1 m2 m3 m4 m5) sjD 13 ⟨some 18, Op.nilCheck (Operand.tmp 17), 0, "", #[], some (11, true)⟩ [12, 11] := by
  refine ⟨rfl, Or.inr ⟨11, true, rfl, by decide, fun v w h => h⟩, by decide, by decide, fun a w hn hB hk hd K hK => ?_⟩
  have e17 : a.eval (.tmp 17) = .pointer (some ⟨g, 0, none⟩) := hd 12 (by decide)
  exact step_run rfl (sj_e13 g gt m1 m2 m3 m4 m5 _ w (fun _ => rfl) e17 ) (hK.out _ w (Kp.refl _ _) rfl)
set_option maxRecDepth 100000 in
theorem sj_e14 (g gt m1 m2 m3 m4 m5 : Nat) (ev : Operand → Value) (z : World) (ec : ∀ c, ev (.const c) = c) (e18 : ev (.tmp 18) = .pointer (some ⟨g, 0, none⟩)) : (execOp ev ⟨some 19, Op.fieldAddr 38 (Operand.tmp 18) 10, 0, "", #[], some (11, true)⟩).run Tryz.prog z = .ok (.value (.pointer (some ⟨g, 41, none⟩))) z := by
  go_simp
set_option maxRecDepth 100000 in
theorem sj_s14 {Q : Exit → Act → World → Prop} (g gt m1 m2 m3 m4 m5 : Nat) (w0 : World) (hS : Lv w0 g (stA (.slice (some ⟨gt, 0, none⟩) 1 1) (.map (some m1)) (.map (some m2)) (.map (some m3)) (.map (some m4)) (.map (some m5))).toList) (hT : Tm1 w0 (.slice (some ⟨gt, 0, none⟩) 1 1)) (hM : Ms5 w0 m1 m2 m3 m4 m5) : StepB Tryz.prog Q 29 (sjB g gt m1 m2 m3 m4 m5) w0 (sjR g gt m1 m2 m3 m4 m5) sjD 14 ⟨some 19, Op.fieldAddr 38 (Operand.tmp 18) 10, 0, "", #[], some (11, true)⟩ [13, 11] := by
  refine ⟨rfl, Or.inr ⟨11, true, rfl, by decide, fun v w h => h⟩, by decide, by decide, fun a w hn hB hk hd K hK => ?_⟩
  have e18 : a.eval (.tmp 18) = .pointer (some ⟨g, 0, none⟩) := hd 13 (by decide)
  exact step_run rfl (sj_e14 g gt m1 m2 m3 m4 m5 _ w (fun _ => rfl) e18 ) (hK.out _ w (Kp.refl _ _) rfl)
set_option maxRecDepth 100000 in
theorem sj_e15 (g gt m1 m2 m3 m4 m5 : Nat) (ev : Operand → Value) (z : World) (ec : ∀ c, ev (.const c) = c) (e19 : ev (.tmp 19) = .pointer (some ⟨g, 41, none⟩)) (hc : z.cell? ⟨g, 41, none⟩ = some (.map (some m4))) : (execOp ev ⟨some 20, Op.load 35 (Operand.tmp 19), 35, "", #[], some (11, true)⟩).run Tryz.prog z = .ok (.value (.map (some m4))) z := by
  go_simp
set_option maxRecDepth 100000 in
theorem sj_s15 {Q : Exit → Act → World → Prop} (g gt m1 m2 m3 m4 m5 : Nat) (w0 : World) (hS : Lv w0 g (stA (.slice (some ⟨gt, 0, none⟩) 1 1) (.map (some m1)) (.map (some m2)) (.map (some m3)) (.map (some m4)) (.map (some m5))).toList) (hT : Tm1 w0 (.slice (some ⟨gt, 0, none⟩) 1 1)) (hM : Ms5 w0 m1 m2 m3 m4 m5) : StepB Tryz.prog Q 29 (sjB g gt m1 m2 m3 m4 m5) w0 (sjR g gt m1 m2 m3 m4 m5) sjD 15 ⟨some 20, Op.load 35 (Operand.tmp 19), 35, "", #[], some (11, true)⟩ [14, 11] := by
  refine ⟨rfl, Or.inr ⟨11, true, rfl, by decide, fun v w h => h⟩, by decide, by decide, fun a w hn hB hk hd K hK => ?_⟩
  have e19 : a.eval (.tmp 19) = .pointer (some ⟨g, 41, none⟩) := hd 14 (by decide)
  exact step_run rfl (sj_e15 g gt m1 m2 m3 m4 m5 _ w (fun _ => rfl) e19 ((hS.keep hk id).cell (j := 41) rfl)) (hK.out _ w (Kp.refl _ _) rfl)
set_option maxRecDepth 100000 in
theorem sj_e16 (g gt m1 m2 m3 m4 m5 : Nat) (ev : Operand → Value) (z : World) (ec : ∀ c, ev (.const c) = c) (ef : ∀ f, ev (.func f) = .func (.func f) #[] #[]) (e20 : ev (.tmp 20) = .map (some m4)) : (execOp ev ⟨some 21, Op.call { callee := Callee.value (Operand.func 31), args := #[Operand.tmp 20], argTypes := #[35] }, 58, "", #[], some (11, true)⟩).run Tryz.prog z = .ok (.enter 31 #[.map (some m4)]) z := enter_run _ (ef _) (by simp only [List.map_toArray, List.map_cons, List.map_nil, ec, ef, e20]) (fun _ => by rfl)
set_option maxRecDepth 100000 in
theorem sj_s16 {Q : Exit → Act → World → Prop} (g gt m1 m2 m3 m4 m5 : Nat) (w0 : World) (hS : Lv w0 g (stA (.slice (some ⟨gt, 0, none⟩) 1 1) (.map (some m1)) (.map (some m2)) (.map (some m3)) (.map (some m4)) (.map (some m5))).toList) (hT : Tm1 w0 (.slice (some ⟨gt, 0, none⟩) 1 1)) (hM : Ms5 w0 m1 m2 m3 m4 m5) : StepB Tryz.prog Q 29 (sjB g gt m1 m2 m3 m4 m5) w0 (sjR g gt m1 m2 m3 m4 m5) sjD 16 ⟨some 21, Op.call { callee := Callee.value (Operand.func 31), args := #[Operand.tmp 20], argTypes := #[35] }, 58, "", #[], some (11, true)⟩ [15, 11, 11] := by
  refine ⟨rfl, Or.inr ⟨11, true, rfl, by decide, fun v w h => h⟩, by decide, by decide, fun a w hn hB hk hd K hK => ?_⟩
  have e20 : a.eval (.tmp 20) = .map (some m4) := hd 15 (by decide)
  refine wp_enter (sj_e16 g gt m1 m2 m3 m4 m5 _ w (fun _ => rfl) (fun _ => rfl) e20) ((fun w hk => ino_rc m4 w (hM.d.keep hk id)) w hk) ?_
  rintro e9 w9 ⟨rfl, k9⟩
  exact ⟨_, rfl, hK.out _ _ k9 rfl⟩
set_option maxRecDepth 100000 in
theorem sj_e17 (g gt m1 m2 m3 m4 m5 : Nat) (ev : Operand → Value) (z : World) (ec : ∀ c, ev (.const c) = c) (e1 : ev (.tmp 1) = .pointer (some ⟨g, 0, none⟩)) : (execOp ev ⟨some 22, Op.move (Operand.tmp 1), 28, "", #[], some (11, true)⟩).run Tryz.prog z = .ok (.value (.pointer (some ⟨g, 0, none⟩))) z := by
  go_simp
set_option maxRecDepth 100000 in
theorem sj_s17 {Q : Exit → Act → World → Prop} (g gt m1 m2 m3 m4 m5 : Nat) (w0 : World) (hS : Lv w0 g (stA (.slice (some ⟨gt, 0, none⟩) 1 1) (.map (some m1)) (.map (some m2)) (.map (some m3)) (.map (some m4)) (.map (some m5))).toList) (hT : Tm1 w0 (.slice (some ⟨gt, 0, none⟩) 1 1)) (hM : Ms5 w0 m1 m2 m3 m4 m5) : StepB Tryz.prog Q 29 (sjB g gt m1 m2 m3 m4 m5) w0 (sjR g gt m1 m2 m3 m4 m5) sjD 17 ⟨some 22, Op.move (Operand.tmp 1), 28, "", #[], some (11, true)⟩ [11] := by
  refine ⟨rfl, Or.inr ⟨11, true, rfl, by decide, fun v w h => h⟩, by decide, by decide, fun a w hn hB hk hd K hK => ?_⟩
  have e1 : a.eval (.tmp 1) = .pointer (some ⟨g, 0, none⟩) := hB.2.1
  exact step_run rfl (sj_e17 g gt m1 m2 m3 m4 m5 _ w (fun _ => rfl) e1 ) (hK.out _ w (Kp.refl _ _) rfl)
set_option maxRecDepth 100000 in
theorem sj_e18 (g gt m1 m2 m3 m4 m5 : Nat) (ev : Operand → Value) (z : World) (ec : ∀ c, ev (.const c) = c) (e22 : ev (.tmp 22) = .pointer (some ⟨g, 0, none⟩)) : (execOp ev ⟨some 23, Op.nilCheck (Operand.tmp 22), 0, "", #[], some (11, true)⟩).run Tryz.prog z = .ok (.value (.pointer (some ⟨g, 0, none⟩))) z := by
  go_simp
set_option maxRecDepth 100000 in
theorem sj_s18 {Q : Exit → Act → World → Prop} (g gt m1 m2 m3 m4 m5 : Nat) (w0 : World) (hS : Lv w0 g (stA (.slice (some ⟨gt, 0, none⟩) 1 1) (.map (some m1)) (.map (some m2)) (.map (some m3)) (.map (some m4)) (.map (some m5))).toList) (hT : Tm1 w0 (.slice (some ⟨gt, 0, none⟩) 1 1)) (hM : Ms5 w0 m1 m2 m3 m4 m5) : StepB Tryz.prog Q 29 (sjB g gt m1 m2 m3 m4 m5) w0 (sjR g gt m1 m2 m3 m4 m5) sjD 18 ⟨some 23, Op.nilCheck (Operand.tmp 22), 0, "", #[], some (11, true)⟩ [17, 11] := by
  refine ⟨rfl, Or.inr ⟨11, true, rfl, by decide, fun v w h => h⟩, by decide, by decide, fun a w hn hB hk hd K hK => ?_⟩
  have e22 : a.eval (.tmp 22) = .pointer (some ⟨g, 0, none⟩) := hd 17 (by decide)
  exact step_run rfl (sj_e18 g gt m1 m2 m3 m4 m5 _ w (fun _ => rfl) e22 ) (hK.out _ w (Kp.refl _ _) rfl)
set_option maxRecDepth 100000 in
theorem sj_e19 (g gt m1 m2 m3 m4 m5 : Nat) (ev : Operand → Value) (z : World) (ec : ∀ c, ev (.const c) = c) (e23 : ev (.tmp 23) = .pointer (some ⟨g, 0, none⟩)) : (execOp ev ⟨some 24, Op.fieldAddr 38 (Operand.tmp 23) 10, 0, "", #[], some (11, true)⟩).run Tryz.prog z = .ok (.value (.pointer (some ⟨g, 41, none⟩))) z := by
  go_simp
set_option maxRecDepth 100000 in
theorem sj_s19 {Q : Exit → Act → World → Prop} (g gt m1 m2 m3 m4 m5 : Nat) (w0 : World) (hS : Lv w0 g (stA (.slice (some ⟨gt, 0, none⟩) 1 1) (.map (some m1)) (.map (some m2)) (.map (some m3)) (.map (some m4)) (.map (some m5))).toList) (hT : Tm1 w0 (.slice (some ⟨gt, 0, none⟩) 1 1)) (hM : Ms5 w0 m1 m2 m3 m4 m5) : StepB Tryz.prog Q 29 (sjB g gt m1 m2 m3 m4 m5) w0 (sjR g gt m1 m2 m3 m4 m5) sjD 19 ⟨some 24, Op.fieldAddr 38 (Operand.tmp 23) 10, 0, "", #[], some (11, true)⟩ [18, 11] := by
  refine ⟨rfl, Or.inr ⟨11, true, rfl, by decide, fun v w h => h⟩, by decide, by decide, fun a w hn hB hk hd K hK => ?_⟩
  have e23 : a.eval (.tmp 23) = .pointer (some ⟨g, 0, none⟩) := hd 18 (by decide)
  exact step_run rfl (sj_e19 g gt m1 m2 m3 m4 m5 _ w (fun _ => rfl) e23 ) (hK.out _ w (Kp.refl _ _) rfl)
set_option maxRecDepth 100000 in
theorem sj_e20 (g gt m1 m2 m3 m4 m5 : Nat) (ev : Operand → Value) (z : World) (ec : ∀ c, ev (.const c) = c) (e24 : ev (.tmp 24) = .pointer (some ⟨g, 41, none⟩)) (hc : z.cell? ⟨g, 41, none⟩ = some (.map (some m4))) : (execOp ev ⟨some 25, Op.load 35 (Operand.tmp 24), 35, "", #[], some (11, true)⟩).run Tryz.prog z = .ok (.value (.map (some m4))) z := by
  go_simp
set_option maxRecDepth 100000 in
theorem sj_s20 {Q : Exit → Act → World → Prop} (g gt m1 m2 m3 m4 m5 : Nat) (w0 : World) (hS : Lv w0 g (stA (.slice (some ⟨gt, 0, none⟩) 1 1) (.map (some m1)) (.map (some m2)) (.map (some m3)) (.map (some m4)) (.map (some m5))).toList) (hT : Tm1 w0 (.slice (some ⟨gt, 0, none⟩) 1 1)) (hM : Ms5 w0 m1 m2 m3 m4 m5) : StepB Tryz.prog Q 29 (sjB g gt m1 m2 m3 m4 m5) w0 (sjR g gt m1 m2 m3 m4 m5) sjD 20 ⟨some 25, Op.load 35 (Operand.tmp 24), 35, "", #[], some (11, true)⟩ [19, 11] := by
  refine ⟨rfl, Or.inr ⟨11, true, rfl, by decide, fun v w h => h⟩, by decide, by decide, fun a w hn hB hk hd K hK => ?_⟩
  have e24 : a.eval (.tmp 24) = .pointer (some ⟨g, 41, none⟩) := hd 19 (by decide)
  exact step_run rfl (sj_e20 g gt m1 m2 m3 m4 m5 _ w (fun _ => rfl) e24 ((hS.keep hk id).cell (j := 41) rfl)) (hK.out _ w (Kp.refl _ _) rfl)
set_option maxRecDepth 100000 in
theorem sj_e21 (g gt m1 m2 m3 m4 m5 : Nat) (ev : Operand → Value) (z : World) (ec : ∀ c, ev (.const c) = c) (ef : ∀ f, ev (.func f) = .func (.func f) #[] #[]) (e25 : ev (.tmp 25) = .map (some m4)) : (execOp ev ⟨some 26, Op.call { callee := Callee.value (Operand.func 31), args := #[Operand.tmp 25], argTypes := #[35] }, 58, "", #[], some (11, true)⟩).run Tryz.prog z = .ok (.enter 31 #[.map (some m4)]) z := enter_run _ (ef _) (by simp only [List.map_toArray, List.map_cons, List.map_nil, ec, ef, e25]) (fun _ => by rfl)
set_option maxRecDepth 100000 in
theorem sj_s21 {Q : Exit → Act → World → Prop} (g gt m1 m2 m3 m4 m5 : Nat) (w0 : World) (hS : Lv w0 g (stA (.slice (some ⟨gt, 0, none⟩) 1 1) (.map (some m1)) (.map (some m2)) (.map (some m3)) (.map (some m4)) (.map (some m5))).toList) (hT : Tm1 w0 (.slice (some ⟨gt, 0, none⟩) 1 1)) (hM : Ms5 w0 m1 m2 m3 m4 m5) : StepB Tryz.prog Q 29 (sjB g gt m1 m2 m3 m4 m5) w0 (sjR g gt m1 m2 m3 m4 m5) sjD 21 ⟨some 26, Op.call { callee := Callee.value (Operand.func 31), args := #[Operand.tmp 25], argTypes := #[35] }, 58, "", #[], some (11, true)⟩ [20, 16, 11] := by
  refine ⟨rfl, Or.inr ⟨11, true, rfl, by decide, fun v w h => h⟩, by decide, by decide, fun a w hn hB hk hd K hK => ?_⟩
  have e25 : a.eval (.tmp 25) = .map (some m4) := hd 20 (by decide)
  refine wp_enter (sj_e21 g gt m1 m2 m3 m4 m5 _ w (fun _ => rfl) (fun _ => rfl) e25) ((fun w hk => ino_rc m4 w (hM.d.keep hk id)) w hk) ?_
  rintro e9 w9 ⟨rfl, k9⟩
  exact ⟨_, rfl, hK.out _ _ k9 rfl⟩
set_option maxRecDepth 100000 in
theorem sj_e22 (g gt m1 m2 m3 m4 m5 : Nat) (ev : Operand → Value) (z : World) (ec : ∀ c, ev (.const c) = c) (ef : ∀ f, ev (.func f) = .func (.func f) #[] #[]) (e21 : ev (.tmp 21) = .slice none 0 0) (e26 : ev (.tmp 26) = .slice none 0 0) : (execOp ev ⟨some 27, Op.call { callee := Callee.value (Operand.func 71), args := #[Operand.tmp 21, Operand.tmp 26, Operand.func 72], argTypes := #[58, 58, 142] }, 4, "", #[], some (11, true)⟩).run Tryz.prog z = .ok (.enter 71 #[.slice none 0 0, .slice none 0 0, .func (.func 72) #[] #[]]) z := enter_run _ (ef _) (by simp only [List.map_toArray, List.map_cons, List.map_nil, ec, ef, e21, e26]) (fun _ => by rfl)
set_option maxRecDepth 100000 in
theorem sj_s22 {Q : Exit → Act → World → Prop} (g gt m1 m2 m3 m4 m5 : Nat) (w0 : World) (hS : Lv w0 g (stA (.slice (some ⟨gt, 0, none⟩) 1 1) (.map (some m1)) (.map (some m2)) (.map (some m3)) (.map (some m4)) (.map (some m5))).toList) (hT : Tm1 w0 (.slice (some ⟨gt, 0, none⟩) 1 1)) (hM : Ms5 w0 m1 m2 m3 m4 m5) : StepB Tryz.prog Q 29 (sjB g gt m1 m2 m3 m4 m5) w0 (sjR g gt m1 m2 m3 m4 m5) sjD 22 ⟨some 27, Op.call { callee := Callee.value (Operand.func 71), args := #[Operand.tmp 21, Operand.tmp 26, Operand.func 72], argTypes := #[58, 58, 142] }, 4, "", #[], some (11, true)⟩ [16, 21, 21, 11] := by
  refine ⟨rfl, Or.inr ⟨11, true, rfl, by decide, fun v w h => h⟩, by decide, by decide, fun a w hn hB hk hd K hK => ?_⟩
  have e21 : a.eval (.tmp 21) = .slice none 0 0 := hd 16 (by decide)
  have e26 : a.eval (.tmp 26) = .slice none 0 0 := hd 21 (by decide)
  refine wp_enter (sj_e22 g gt m1 m2 m3 m4 m5 _ w (fun _ => rfl) (fun _ => rfl) e21 e26) ((fun w _ => eqn_recs _ w) w hk) ?_
  rintro e9 w9 ⟨rfl, k9⟩
  exact ⟨_, rfl, hK.out _ _ k9 rfl⟩
set_option maxRecDepth 100000 in
theorem sj_e23 (g gt m1 m2 m3 m4 m5 : Nat) (ev : Operand → Value) (z : World) (ec : ∀ c, ev (.const c) = c) (e16 : ev (.tmp 16) = .bool true) (e27 : ev (.tmp 27) = .bool true) : (execOp ev ⟨some 28, Op.pick (Operand.tmp 16) (Operand.tmp 27) (Operand.const (Value.bool false)), 4, "", #[], none⟩).run Tryz.prog z = .ok (.value (.bool true)) z := by
  go_simp
set_option maxRecDepth 100000 in
theorem sj_s23 {Q : Exit → Act → World → Prop} (g gt m1 m2 m3 m4 m5 : Nat) (w0 : World) (hS : Lv w0 g (stA (.slice (some ⟨gt, 0, none⟩) 1 1) (.map (some m1)) (.map (some m2)) (.map (some m3)) (.map (some m4)) (.map (some m5))).toList) (hT : Tm1 w0 (.slice (some ⟨gt, 0, none⟩) 1 1)) (hM : Ms5 w0 m1 m2 m3 m4 m5) : StepB Tryz.prog Q 29 (sjB g gt m1 m2 m3 m4 m5) w0 (sjR g gt m1 m2 m3 m4 m5) sjD 23 ⟨some 28, Op.pick (Operand.tmp 16) (Operand.tmp 27) (Operand.const (Value.bool false)), 4, "", #[], none⟩ [11, 22] := by
  refine ⟨rfl, Or.inl rfl, by decide, by decide, fun a w hn hB hk hd K hK => ?_⟩
  have e16 : a.eval (.tmp 16) = .bool true := hd 11 (by decide)
  have e27 : a.eval (.tmp 27) = .bool true := hd 22 (by decide)
  exact step_run rfl (sj_e23 g gt m1 m2 m3 m4 m5 _ w (fun _ => rfl) e16 e27 ) (hK.out _ w (Kp.refl _ _) rfl)
set_option maxRecDepth 100000 in
theorem sj_e24 (g gt m1 m2 m3 m4 m5 : Nat) (ev : Operand → Value) (z : World) (ec : ∀ c, ev (.const c) = c) (e28 : ev (.tmp 28) = .bool true) : (execOp ev ⟨some 4, Op.assign (Operand.tmp 28), 4, "", #[], none⟩).run Tryz.prog z = .ok (.value (.bool true)) z := by
  go_simp
set_option maxRecDepth 100000 in
theorem sj_s24 {Q : Exit → Act → World → Prop} (g gt m1 m2 m3 m4 m5 : Nat) (w0 : World) (hS : Lv w0 g (stA (.slice (some ⟨gt, 0, none⟩) 1 1) (.map (some m1)) (.map (some m2)) (.map (some m3)) (.map (some m4)) (.map (some m5))).toList) (hT : Tm1 w0 (.slice (some ⟨gt, 0, none⟩) 1 1)) (hM : Ms5 w0 m1 m2 m3 m4 m5) : StepB Tryz.prog Q 29 (sjB g gt m1 m2 m3 m4 m5) w0 (sjR g gt m1 m2 m3 m4 m5) sjD 24 ⟨some 4, Op.assign (Operand.tmp 28), 4, "", #[], none⟩ [23, 22, 0, 1, 2, 3, 4, 5, 6, 7, 8, 9, 10, 11, 12, 13, 14, 15, 16, 17, 18, 19, 20, 21, 22, 23] := by
  refine ⟨rfl, Or.inl rfl, by decide, by decide, fun a w hn hB hk hd K hK => ?_⟩
  have e28 : a.eval (.tmp 28) = .bool true := hd 23 (by decide)
  exact step_run rfl (sj_e24 g gt m1 m2 m3 m4 m5 _ w (fun _ => rfl) e28 ) (hK.out _ w (Kp.refl _ _) rfl)
def sjT : List (Oper × List Nat) := [(⟨some 5, Op.move (Operand.tmp 0), 28, "", #[], none⟩, []), (⟨some 6, Op.nilCheck (Operand.tmp 5), 0, "", #[], none⟩, [0]), (⟨some 7, Op.fieldAddr 38 (Operand.tmp 6) 9, 0, "", #[], none⟩, [1]), (⟨some 8, Op.load 34 (Operand.tmp 7), 34, "", #[], none⟩, [2]), (⟨some 9, Op.call { callee := Callee.value (Operand.func 30), args := #[Operand.tmp 8], argTypes := #[34] }, 56, "", #[], none⟩, [3]), (⟨some 10, Op.move (Operand.tmp 1), 28, "", #[], none⟩, []), (⟨some 11, Op.nilCheck (Operand.tmp 10), 0, "", #[], none⟩, [5]), (⟨some 12, Op.fieldAddr 38 (Operand.tmp 11) 9, 0, "", #[], none⟩, [6]), (⟨some 13, Op.load 34 (Operand.tmp 12), 34, "", #[], none⟩, [7]), (⟨some 14, Op.call { callee := Callee.value (Operand.func 30), args := #[Operand.tmp 13], argTypes := #[34] }, 56, "", #[], none⟩, [8, 4]), (⟨some 15, Op.call { callee := Callee.value (Operand.func 70), args := #[Operand.tmp 9, Operand.tmp 14], argTypes := #[56, 56] }, 4, "", #[], none⟩, [4, 9, 9]), (⟨some 16, Op.move (Operand.tmp 15), 4, "", #[], none⟩, [10, 10]), (⟨some 17, Op.move (Operand.tmp 0), 28, "", #[], some (11, true)⟩, [11]), (⟨some 18, Op.nilCheck (Operand.tmp 17), 0, "", #[], some (11, true)⟩, [12, 11]), (⟨some 19, Op.fieldAddr 38 (Operand.tmp 18) 10, 0, "", #[], some (11, true)⟩, [13, 11]), (⟨some 20, Op.load 35 (Operand.tmp 19), 35, "", #[], some (11, true)⟩, [14, 11]), (⟨some 21, Op.call { callee := Callee.value (Operand.func 31), args := #[Operand.tmp 20], argTypes := #[35] }, 58, "", #[], some (11, true)⟩, [15, 11, 11]), (⟨some 22, Op.move (Operand.tmp 1), 28, "", #[], some (11, true)⟩, [11]), (⟨some 23, Op.nilCheck (Operand.tmp 22), 0, "", #[], some (11, true)⟩, [17, 11]), (⟨some 24, Op.fieldAddr 38 (Operand.tmp 23) 10, 0, "", #[], some (11, true)⟩, [18, 11]), (⟨some 25, Op.load 35 (Operand.tmp 24), 35, "", #[], some (11, true)⟩, [19, 11]), (⟨some 26, Op.call { callee := Callee.value (Operand.func 31), args := #[Operand.tmp 25], argTypes := #[35] }, 58, "", #[], some (11, true)⟩, [20, 16, 11]), (⟨some 27, Op.call { callee := Callee.value (Operand.func 71), args := #[Operand.tmp 21, Operand.tmp 26, Operand.func 72], argTypes := #[58, 58, 142] }, 4, "", #[], some (11, true)⟩, [16, 21, 21, 11]), (⟨some 28, Op.pick (Operand.tmp 16) (Operand.tmp 27) (Operand.const (Value.bool false)), 4, "", #[], none⟩, [11, 22]), (⟨some 4, Op.assign (Operand.tmp 28), 4, "", #[], none⟩, [23, 22, 0, 1, 2, 3, 4, 5, 6, 7, 8, 9, 10, 11, 12, 13, 14, 15, 16, 17, 18, 19, 20, 21, 22, 23])]
theorem sj_steps {Q : Exit → Act → World → Prop} (g gt m1 m2 m3 m4 m5 : Nat) (w0 : World) (hS : Lv w0 g (stA (.slice (some ⟨gt, 0, none⟩) 1 1) (.map (some m1)) (.map (some m2)) (.map (some m3)) (.map (some m4)) (.map (some m5))).toList) (hT : Tm1 w0 (.slice (some ⟨gt, 0, none⟩) 1 1)) (hM : Ms5 w0 m1 m2 m3 m4 m5) : Steps Tryz.prog Q 29 (sjB g gt m1 m2 m3 m4 m5) w0 (sjR g gt m1 m2 m3 m4 m5) sjD 0 sjT := ⟨sj_s0 g gt m1 m2 m3 m4 m5 w0 hS hT hM, sj_s1 g gt m1 m2 m3 m4 m5 w0 hS hT hM, sj_s2 g gt m1 m2 m3 m4 m5 w0 hS hT hM, sj_s3 g gt m1 m2 m3 m4 m5 w0 hS hT hM, sj_s4 g gt m1 m2 m3 m4 m5 w0 hS hT hM, sj_s5 g gt m1 m2 m3 m4 m5 w0 hS hT hM, sj_s6 g gt m1 m2 m3 m4 m5 w0 hS hT hM, sj_s7 g gt m1 m2 m3 m4 m5 w0 hS hT hM, sj_s8 g gt m1 m2 m3 m4 m5 w0 hS hT hM, sj_s9 g gt m1 m2 m3 m4 m5 w0 hS hT hM, sj_s10 g gt m1 m2 m3 m4 m5 w0 hS hT hM, sj_s11 g gt m1 m2 m3 m4 m5 w0 hS hT hM, sj_s12 g gt m1 m2 m3 m4 m5 w0 hS hT hM, sj_s13 g gt m1 m2 m3 m4 m5 w0 hS hT hM, sj_s14 g gt m1 m2 m3 m4 m5 w0 hS hT hM, sj_s15 g gt m1 m2 m3 m4 m5 w0 hS hT hM, sj_s16 g gt m1 m2 m3 m4 m5 w0 hS hT hM, sj_s17 g gt m1 m2 m3 m4 m5 w0 hS hT hM, sj_s18 g gt m1 m2 m3 m4 m5 w0 hS hT hM, sj_s19 g gt m1 m2 m3 m4 m5 w0 hS hT hM, sj_s20 g gt m1 m2 m3 m4 m5 w0 hS hT hM, sj_s21 g gt m1 m2 m3 m4 m5 w0 hS hT hM, sj_s22 g gt m1 m2 m3 m4 m5 w0 hS hT hM, sj_s23 g gt m1 m2 m3 m4 m5 w0 hS hT hM, sj_s24 g gt m1 m2 m3 m4 m5 w0 hS hT hM, trivial⟩

set_option maxRecDepth 100000 in
set_option maxHeartbeats 1600000 in
theorem jobs1 (v : Value) (w : World) (h : Ep w v) : Calls Tryz.prog 47 #[v, v] w fun e w' => e = .returned (.bool true) ∧ Kp (fun _ => False) w w' := by
  obtain ⟨g, tv, m1, m2, m3, m4, m5, rfl, hl, ht, hm⟩ := h
  have ht' := ht
  obtain ⟨gt, qt, ct, htv, _, _⟩ := ht'
  subst htv
  have kd : Kp (fun _ => False) w w.drew := (Kp.refl _ _).drew
  have hS := hl.keep kd id
  have hT := ht.keep kd
  have hM := hm.keep kd
  clear hl ht hm
  go_enter Tryz.func47, Tryz.ntmps47
  go_wp2_with fail
  refine mono_region (by kernel_rfl) sjT (by kernel_rfl) 29 (sjB g gt m1 m2 m3 m4 m5) (sjR g gt m1 m2 m3 m4 m5) sjD rfl ⟨rfl, rfl, rfl⟩ (fun k v a hk h => sjB_put g gt m1 m2 m3 m4 m5 k v a hk h) (fun i j h1 h2 => sjD_inj0 i h1 j h2) (fun i v w w' h _ => h) (sj_steps g gt m1 m2 m3 m4 m5 _ hS hT hM) ?_
  intro a w9 hn hB k9 hr
  have h4 : a.eval (.tmp 4) = .bool true := hr 24 (by decide)
  have hres : (results Tryz.f47 a.tmps).run Tryz.prog w9 = .ok (.bool true) w9 := by
    rw [← h4]
    simp [results, Tryz.results47, Act.eval]
  go_wp2_with fail
  refine bodyPost_ret hres hB.2.2 ?_
  exact ⟨rfl, kd.trans k9 (fun _ _ e => e)⟩
theorem ep_of {w0 : World} {g gt m1 m2 m3 m4 m5 : Nat} (hS : Lv w0 g (stA (.slice (some ⟨gt, 0, none⟩) 1 1) (.map (some m1)) (.map (some m2)) (.map (some m3)) (.map (some m4)) (.map (some m5))).toList) (hT : Tm1 w0 (.slice (some ⟨gt, 0, none⟩) 1 1)) (hM : Ms5 w0 m1 m2 m3 m4 m5) : Ep w0 (.pointer (some ⟨g, 0, none⟩)) := ⟨g, _, m1, m2, m3, m4, m5, rfl, hS, hT, hM⟩
theorem made1k (v : Value) (w : World) (h : Ep w v) : Calls Tryz.prog 21 #[v] w fun e w' => e = .returned (.bool true) ∧ Kp (fun _ => False) w w' := (made1 v w h).mono (fun e w' ⟨h1, h2⟩ => ⟨h1, h2 ▸ Kp.refl _ _⟩)

def smV (g gt m1 m2 m3 m4 m5 : Nat) : Nat → Value
  | 0 => .pointer (some ⟨g, 0, none⟩)
  | 1 => .bool true
  | 2 => .bool true
  | 3 => .pointer (some ⟨g, 0, none⟩)
  | 4 => .bool true
  | 5 => .bool true
  | 6 => .bool true
  | 7 => .pointer (some ⟨g, 0, none⟩)
  | 8 => .pointer (some ⟨g, 0, none⟩)
  | 9 => .bool true
  | 10 => .bool true
  | 11 => .bool true
  | 12 => .pointer (some ⟨g, 0, none⟩)
  | 13 => .pointer (some ⟨g, 0, none⟩)
  | 14 => .bool true
  | 15 => .bool true
  | 16 => .bool true
  | 17 => .pointer (some ⟨g, 0, none⟩)
  | 18 => .pointer (some ⟨g, 0, none⟩)
  | 19 => .bool true
  | 20 => .bool true
  | 21 => .bool true
  | 22 => .pointer (some ⟨g, 0, none⟩)
  | 23 => .pointer (some ⟨g, 0, none⟩)
  | 24 => .pointer (some ⟨g, 43, none⟩)
  | 25 => .map (some m5)
  | 26 => .pointer (some ⟨g, 0, none⟩)
  | 27 => .pointer (some ⟨g, 0, none⟩)
  | 28 => .pointer (some ⟨g, 43, none⟩)
  | 29 => .map (some m5)
  | 30 => .bool true
  | 31 => .bool true
  | 32 => .bool true
  | _ => undef
abbrev smR (g gt m1 m2 m3 m4 m5 : Nat) : Nat → Value → World → Prop := fun i v _ => v = smV g gt m1 m2 m3 m4 m5 i
def smD (k : Nat) : Nat := [5, 6, 7, 8, 9, 10, 11, 12, 13, 14, 15, 16, 17, 18, 19, 20, 21, 22, 23, 24, 25, 26, 27, 28, 29, 30, 31, 32, 33, 34, 35, 36, 4].getD k 0
def smB (g gt m1 m2 m3 m4 m5 : Nat) (a : Act) : Prop := a.eval (.tmp 0) = .pointer (some ⟨g, 0, none⟩) ∧ a.eval (.tmp 1) = .pointer (some ⟨g, 0, none⟩) ∧ a.defers = []
theorem smD_ne : ∀ k, k < 33 → smD k ≠ 0 ∧ smD k ≠ 1 := by decide
theorem smB_put (g gt m1 m2 m3 m4 m5 : Nat) (k : Nat) (v : Value) (a : Act) (hk : k < 33) (h : smB g gt m1 m2 m3 m4 m5 a) : smB g gt m1 m2 m3 m4 m5 (a.put (some (smD k)) v) := by
  have hne := smD_ne k hk
  refine ⟨?_, ?_, h.2.2⟩
  · rw [← h.1]
    show (a.tmps.setIfInBounds (smD k) v).getD 0 undef = a.tmps.getD 0 undef
    simp [Array.getElem?_setIfInBounds_ne (hne.1)]
  · rw [← h.2.1]
    show (a.tmps.setIfInBounds (smD k) v).getD 1 undef = a.tmps.getD 1 undef
    simp [Array.getElem?_setIfInBounds_ne (hne.2)]
theorem smD_inj0 : ∀ i, i < 33 → ∀ j, j < 33 → smD i = smD j → i = j := by decide

set_option maxRecDepth 100000 in
theorem sm_e0 (g gt m1 m2 m3 m4 m5 : Nat) (ev : Operand → Value) (z : World) (ec : ∀ c, ev (.const c) = c) (e0 : ev (.tmp 0) = .pointer (some ⟨g, 0, none⟩)) : (execOp ev ⟨some 5, Op.move (Operand.tmp 0), 28, "", #[], none⟩).run Tryz.prog z = .ok (.value (.pointer (some ⟨g, 0, none⟩))) z := by
  go_simp
set_option maxRecDepth 100000 in
theorem sm_s0 {Q : Exit → Act → World → Prop} (g gt m1 m2 m3 m4 m5 : Nat) (w0 : World) (hS : Lv w0 g (stA (.slice (some ⟨gt, 0, none⟩) 1 1) (.map (some m1)) (.map (some m2)) (.map (some m3)) (.map (some m4)) (.map (some m5))).toList) (hT : Tm1 w0 (.slice (some ⟨gt, 0, none⟩) 1 1)) (hM : Ms5 w0 m1 m2 m3 m4 m5) : StepB Tryz.prog Q 37 (smB g gt m1 m2 m3 m4 m5) w0 (smR g gt m1 m2 m3 m4 m5) smD 0 ⟨some 5, Op.move (Operand.tmp 0), 28, "", #[], none⟩ [] := by
  refine ⟨rfl, Or.inl rfl, by decide, by decide, fun a w hn hB hk hd K hK => ?_⟩
  have e0 : a.eval (.tmp 0) = .pointer (some ⟨g, 0, none⟩) := hB.1
  exact step_run rfl (sm_e0 g gt m1 m2 m3 m4 m5 _ w (fun _ => rfl) e0 ) (hK.out _ w (Kp.refl _ _) rfl)
set_option maxRecDepth 100000 in
theorem sm_e1 (g gt m1 m2 m3 m4 m5 : Nat) (ev : Operand → Value) (z : World) (ec : ∀ c, ev (.const c) = c) (ef : ∀ f, ev (.func f) = .func (.func f) #[] #[]) (e5 : ev (.tmp 5) = .pointer (some ⟨g, 0, none⟩)) : (execOp ev ⟨some 6, Op.call { callee := Callee.value (Operand.func 21), args := #[Operand.tmp 5], argTypes := #[28] }, 4, "", #[], none⟩).run Tryz.prog z = .ok (.enter 21 #[.pointer (some ⟨g, 0, none⟩)]) z := enter_run _ (ef _) (by simp only [List.map_toArray, List.map_cons, List.map_nil, ec, ef, e5]) (fun _ => by rfl)
set_option maxRecDepth 100000 in
theorem sm_s1 {Q : Exit → Act → World → Prop} (g gt m1 m2 m3 m4 m5 : Nat) (w0 : World) (hS : Lv w0 g (stA (.slice (some ⟨gt, 0, none⟩) 1 1) (.map (some m1)) (.map (some m2)) (.map (some m3)) (.map (some m4)) (.map (some m5))).toList) (hT : Tm1 w0 (.slice (some ⟨gt, 0, none⟩) 1 1)) (hM : Ms5 w0 m1 m2 m3 m4 m5) : StepB Tryz.prog Q 37 (smB g gt m1 m2 m3 m4 m5) w0 (smR g gt m1 m2 m3 m4 m5) smD 1 ⟨some 6, Op.call { callee := Callee.value (Operand.func 21), args := #[Operand.tmp 5], argTypes := #[28] }, 4, "", #[], none⟩ [0] := by
  refine ⟨rfl, Or.inl rfl, by decide, by decide, fun a w hn hB hk hd K hK => ?_⟩
  have e5 : a.eval (.tmp 5) = .pointer (some ⟨g, 0, none⟩) := hd 0 (by decide)
  refine wp_enter (sm_e1 g gt m1 m2 m3 m4 m5 _ w (fun _ => rfl) (fun _ => rfl) e5) ((fun w hk => made1k _ w ((ep_of hS hT hM).keep hk)) w hk) ?_
  rintro e9 w9 ⟨rfl, k9⟩
  exact ⟨_, rfl, hK.out _ _ k9 rfl⟩
set_option maxRecDepth 100000 in
theorem sm_e2 (g gt m1 m2 m3 m4 m5 : Nat) (ev : Operand → Value) (z : World) (ec : ∀ c, ev (.const c) = c) (e6 : ev (.tmp 6) = .bool true) : (execOp ev ⟨some 7, Op.move (Operand.tmp 6), 4, "", #[], none⟩).run Tryz.prog z = .ok (.value (.bool true)) z := by
  go_simp
set_option maxRecDepth 100000 in
theorem sm_s2 {Q : Exit → Act → World → Prop} (g gt m1 m2 m3 m4 m5 : Nat) (w0 : World) (hS : Lv w0 g (stA (.slice (some ⟨gt, 0, none⟩) 1 1) (.map (some m1)) (.map (some m2)) (.map (some m3)) (.map (some m4)) (.map (some m5))).toList) (hT : Tm1 w0 (.slice (some ⟨gt, 0, none⟩) 1 1)) (hM : Ms5 w0 m1 m2 m3 m4 m5) : StepB Tryz.prog Q 37 (smB g gt m1 m2 m3 m4 m5) w0 (smR g gt m1 m2 m3 m4 m5) smD 2 ⟨some 7, Op.move (Operand.tmp 6), 4, "", #[], none⟩ [1, 1] := by
  refine ⟨rfl, Or.inl rfl, by decide, by decide, fun a w hn hB hk hd K hK => ?_⟩
  have e6 : a.eval (.tmp 6) = .bool true := hd 1 (by decide)
  exact step_run rfl (sm_e2 g gt m1 m2 m3 m4 m5 _ w (fun _ => rfl) e6 ) (hK.out _ w (Kp.refl _ _) rfl)
set_option maxRecDepth 100000 in
theorem sm_e3 (g gt m1 m2 m3 m4 m5 : Nat) (ev : Operand → Value) (z : World) (ec : ∀ c, ev (.const c) = c) (e1 : ev (.tmp 1) = .pointer (some ⟨g, 0, none⟩)) : (execOp ev ⟨some 8, Op.move (Operand.tmp 1), 28, "", #[], some (2, true)⟩).run Tryz.prog z = .ok (.value (.pointer (some ⟨g, 0, none⟩))) z := by
  go_simp
set_option maxRecDepth 100000 in
theorem sm_s3 {Q : Exit → Act → World → Prop} (g gt m1 m2 m3 m4 m5 : Nat) (w0 : World) (hS : Lv w0 g (stA (.slice (some ⟨gt, 0, none⟩) 1 1) (.map (some m1)) (.map (some m2)) (.map (some m3)) (.map (some m4)) (.map (some m5))).toList) (hT : Tm1 w0 (.slice (some ⟨gt, 0, none⟩) 1 1)) (hM : Ms5 w0 m1 m2 m3 m4 m5) : StepB Tryz.prog Q 37 (smB g gt m1 m2 m3 m4 m5) w0 (smR g gt m1 m2 m3 m4 m5) smD 3 ⟨some 8, Op.move (Operand.tmp 1), 28, "", #[], some (2, true)⟩ [2] := by
  refine ⟨rfl, Or.inr ⟨2, true, rfl, by decide, fun v w h => h⟩, by decide, by decide, fun a w hn hB hk hd K hK => ?_⟩
  have e1 : a.eval (.tmp 1) = .pointer (some ⟨g, 0, none⟩) := hB.2.1
  exact step_run rfl (sm_e3 g gt m1 m2 m3 m4 m5 _ w (fun _ => rfl) e1 ) (hK.out _ w (Kp.refl _ _) rfl)
set_option maxRecDepth 100000 in
theorem sm_e4 (g gt m1 m2 m3 m4 m5 : Nat) (ev : Operand → Value) (z : World) (ec : ∀ c, ev (.const c) = c) (ef : ∀ f, ev (.func f) = .func (.func f) #[] #[]) (e8 : ev (.tmp 8) = .pointer (some ⟨g, 0, none⟩)) : (execOp ev ⟨some 9, Op.call { callee := Callee.value (Operand.func 21), args := #[Operand.tmp 8], argTypes := #[28] }, 4, "", #[], some (2, true)⟩).run Tryz.prog z = .ok (.enter 21 #[.pointer (some ⟨g, 0, none⟩)]) z := enter_run _ (ef _) (by simp only [List.map_toArray, List.map_cons, List.map_nil, ec, ef, e8]) (fun _ => by rfl)
set_option maxRecDepth 100000 in
theorem sm_s4 {Q : Exit → Act → World → Prop} (g gt m1 m2 m3 m4 m5 : Nat) (w0 : World) (hS : Lv w0 g (stA (.slice (some ⟨gt, 0, none⟩) 1 1) (.map (some m1)) (.map (some m2)) (.map (some m3)) (.map (some m4)) (.map (some m5))).toList) (hT : Tm1 w0 (.slice (some ⟨gt, 0, none⟩) 1 1)) (hM : Ms5 w0 m1 m2 m3 m4 m5) : StepB Tryz.prog Q 37 (smB g gt m1 m2 m3 m4 m5) w0 (smR g gt m1 m2 m3 m4 m5) smD 4 ⟨some 9, Op.call { callee := Callee.value (Operand.func 21), args := #[Operand.tmp 8], argTypes := #[28] }, 4, "", #[], some (2, true)⟩ [3, 2, 2] := by
  refine ⟨rfl, Or.inr ⟨2, true, rfl, by decide, fun v w h => h⟩, by decide, by decide, fun a w hn hB hk hd K hK => ?_⟩
  have e8 : a.eval (.tmp 8) = .pointer (some ⟨g, 0, none⟩) := hd 3 (by decide)
  refine wp_enter (sm_e4 g gt m1 m2 m3 m4 m5 _ w (fun _ => rfl) (fun _ => rfl) e8) ((fun w hk => made1k _ w ((ep_of hS hT hM).keep hk)) w hk) ?_
  rintro e9 w9 ⟨rfl, k9⟩
  exact ⟨_, rfl, hK.out _ _ k9 rfl⟩
set_option maxRecDepth 100000 in
theorem sm_e5 (g gt m1 m2 m3 m4 m5 : Nat) (ev : Operand → Value) (z : World) (ec : ∀ c, ev (.const c) = c) (e7 : ev (.tmp 7) = .bool true) (e9 : ev (.tmp 9) = .bool true) : (execOp ev ⟨some 10, Op.pick (Operand.tmp 7) (Operand.tmp 9) (Operand.const (Value.bool false)), 4, "", #[], none⟩).run Tryz.prog z = .ok (.value (.bool true)) z := by
  go_simp
set_option maxRecDepth 100000 in
theorem sm_s5 {Q : Exit → Act → World → Prop} (g gt m1 m2 m3 m4 m5 : Nat) (w0 : World) (hS : Lv w0 g (stA (.slice (some ⟨gt, 0, none⟩) 1 1) (.map (some m1)) (.map (some m2)) (.map (some m3)) (.map (some m4)) (.map (some m5))).toList) (hT : Tm1 w0 (.slice (some ⟨gt, 0, none⟩) 1 1)) (hM : Ms5 w0 m1 m2 m3 m4 m5) : StepB Tryz.prog Q 37 (smB g gt m1 m2 m3 m4 m5) w0 (smR g gt m1 m2 m3 m4 m5) smD 5 ⟨some 10, Op.pick (Operand.tmp 7) (Operand.tmp 9) (Operand.const (Value.bool false)), 4, "", #[], none⟩ [2, 4] := by
  refine ⟨rfl, Or.inl rfl, by decide, by decide, fun a w hn hB hk hd K hK => ?_⟩
  have e7 : a.eval (.tmp 7) = .bool true := hd 2 (by decide)
  have e9 : a.eval (.tmp 9) = .bool true := hd 4 (by decide)
  exact step_run rfl (sm_e5 g gt m1 m2 m3 m4 m5 _ w (fun _ => rfl) e7 e9 ) (hK.out _ w (Kp.refl _ _) rfl)
set_option maxRecDepth 100000 in
theorem sm_e6 (g gt m1 m2 m3 m4 m5 : Nat) (ev : Operand → Value) (z : World) (ec : ∀ c, ev (.const c) = c) (e10 : ev (.tmp 10) = .bool true) : (execOp ev ⟨some 11, Op.move (Operand.tmp 10), 4, "", #[], none⟩).run Tryz.prog z = .ok (.value (.bool true)) z := by
  go_simp
set_option maxRecDepth 100000 in
theorem sm_s6 {Q : Exit → Act → World → Prop} (g gt m1 m2 m3 m4 m5 : Nat) (w0 : World) (hS : Lv w0 g (stA (.slice (some ⟨gt, 0, none⟩) 1 1) (.map (some m1)) (.map (some m2)) (.map (some m3)) (.map (some m4)) (.map (some m5))).toList) (hT : Tm1 w0 (.slice (some ⟨gt, 0, none⟩) 1 1)) (hM : Ms5 w0 m1 m2 m3 m4 m5) : StepB Tryz.prog Q 37 (smB g gt m1 m2 m3 m4 m5) w0 (smR g gt m1 m2 m3 m4 m5) smD 6 ⟨some 11, Op.move (Operand.tmp 10), 4, "", #[], none⟩ [5, 4] := by
  refine ⟨rfl, Or.inl rfl, by decide, by decide, fun a w hn hB hk hd K hK => ?_⟩
  have e10 : a.eval (.tmp 10) = .bool true := hd 5 (by decide)
  exact step_run rfl (sm_e6 g gt m1 m2 m3 m4 m5 _ w (fun _ => rfl) e10 ) (hK.out _ w (Kp.refl _ _) rfl)
set_option maxRecDepth 100000 in
theorem sm_e7 (g gt m1 m2 m3 m4 m5 : Nat) (ev : Operand → Value) (z : World) (ec : ∀ c, ev (.const c) = c) (e0 : ev (.tmp 0) = .pointer (some ⟨g, 0, none⟩)) : (execOp ev ⟨some 12, Op.move (Operand.tmp 0), 28, "", #[], some (6, true)⟩).run Tryz.prog z = .ok (.value (.pointer (some ⟨g, 0, none⟩))) z := by
  go_simp
set_option maxRecDepth 100000 in
theorem sm_s7 {Q : Exit → Act → World → Prop} (g gt m1 m2 m3 m4 m5 : Nat) (w0 : World) (hS : Lv w0 g (stA (.slice (some ⟨gt, 0, none⟩) 1 1) (.map (some m1)) (.map (some m2)) (.map (some m3)) (.map (some m4)) (.map (some m5))).toList) (hT : Tm1 w0 (.slice (some ⟨gt, 0, none⟩) 1 1)) (hM : Ms5 w0 m1 m2 m3 m4 m5) : StepB Tryz.prog Q 37 (smB g gt m1 m2 m3 m4 m5) w0 (smR g gt m1 m2 m3 m4 m5) smD 7 ⟨some 12, Op.move (Operand.tmp 0), 28, "", #[], some (6, true)⟩ [6] := by
  refine ⟨rfl, Or.inr ⟨6, true, rfl, by decide, fun v w h => h⟩, by decide, by decide, fun a w hn hB hk hd K hK => ?_⟩
  have e0 : a.eval (.tmp 0) = .pointer (some ⟨g, 0, none⟩) := hB.1
  exact step_run rfl (sm_e7 g gt m1 m2 m3 m4 m5 _ w (fun _ => rfl) e0 ) (hK.out _ w (Kp.refl _ _) rfl)
set_option maxRecDepth 100000 in
theorem sm_e8 (g gt m1 m2 m3 m4 m5 : Nat) (ev : Operand → Value) (z : World) (ec : ∀ c, ev (.const c) = c) (e1 : ev (.tmp 1) = .pointer (some ⟨g, 0, none⟩)) : (execOp ev ⟨some 13, Op.move (Operand.tmp 1), 28, "", #[], some (6, true)⟩).run Tryz.prog z = .ok (.value (.pointer (some ⟨g, 0, none⟩))) z := by
  go_simp
set_option maxRecDepth 100000 in
theorem sm_s8 {Q : Exit → Act → World → Prop} (g gt m1 m2 m3 m4 m5 : Nat) (w0 : World) (hS : Lv w0 g (stA (.slice (some ⟨gt, 0, none⟩) 1 1) (.map (some m1)) (.map (some m2)) (.map (some m3)) (.map (some m4)) (.map (some m5))).toList) (hT : Tm1 w0 (.slice (some ⟨gt, 0, none⟩) 1 1)) (hM : Ms5 w0 m1 m2 m3 m4 m5) : StepB Tryz.prog Q 37 (smB g gt m1 m2 m3 m4 m5) w0 (smR g gt m1 m2 m3 m4 m5) smD 8 ⟨some 13, Op.move (Operand.tmp 1), 28, "", #[], some (6, true)⟩ [6] := by
  refine ⟨rfl, Or.inr ⟨6, true, rfl, by decide, fun v w h => h⟩, by decide, by decide, fun a w hn hB hk hd K hK => ?_⟩
  have e1 : a.eval (.tmp 1) = .pointer (some ⟨g, 0, none⟩) := hB.2.1
  exact step_run rfl (sm_e8 g gt m1 m2 m3 m4 m5 _ w (fun _ => rfl) e1 ) (hK.out _ w (Kp.refl _ _) rfl)
set_option maxRecDepth 100000 in
theorem sm_e9 (g gt m1 m2 m3 m4 m5 : Nat) (ev : Operand → Value) (z : World) (ec : ∀ c, ev (.const c) = c) (ef : ∀ f, ev (.func f) = .func (.func f) #[] #[]) (e12 : ev (.tmp 12) = .pointer (some ⟨g, 0, none⟩)) (e13 : ev (.tmp 13) = .pointer (some ⟨g, 0, none⟩)) : (execOp ev ⟨some 14, Op.call { callee := Callee.value (Operand.func 45), args := #[Operand.tmp 12, Operand.tmp 13], argTypes := #[28, 28] }, 4, "", #[], some (6, true)⟩).run Tryz.prog z = .ok (.enter 45 #[.pointer (some ⟨g, 0, none⟩), .pointer (some ⟨g, 0, none⟩)]) z := enter_run _ (ef _) (by simp only [List.map_toArray, List.map_cons, List.map_nil, ec, ef, e12, e13]) (fun _ => by rfl)
set_option maxRecDepth 100000 in
theorem sm_s9 {Q : Exit → Act → World → Prop} (g gt m1 m2 m3 m4 m5 : Nat) (w0 : World) (hS : Lv w0 g (stA (.slice (some ⟨gt, 0, none⟩) 1 1) (.map (some m1)) (.map (some m2)) (.map (some m3)) (.map (some m4)) (.map (some m5))).toList) (hT : Tm1 w0 (.slice (some ⟨gt, 0, none⟩) 1 1)) (hM : Ms5 w0 m1 m2 m3 m4 m5) : StepB Tryz.prog Q 37 (smB g gt m1 m2 m3 m4 m5) w0 (smR g gt m1 m2 m3 m4 m5) smD 9 ⟨some 14, Op.call { callee := Callee.value (Operand.func 45), args := #[Operand.tmp 12, Operand.tmp 13], argTypes := #[28, 28] }, 4, "", #[], some (6, true)⟩ [7, 8, 6, 6] := by
  refine ⟨rfl, Or.inr ⟨6, true, rfl, by decide, fun v w h => h⟩, by decide, by decide, fun a w hn hB hk hd K hK => ?_⟩
  have e12 : a.eval (.tmp 12) = .pointer (some ⟨g, 0, none⟩) := hd 7 (by decide)
  have e13 : a.eval (.tmp 13) = .pointer (some ⟨g, 0, none⟩) := hd 8 (by decide)
  refine wp_enter (sm_e9 g gt m1 m2 m3 m4 m5 _ w (fun _ => rfl) (fun _ => rfl) e12 e13) ((fun w hk => setting1 _ w ((ep_of hS hT hM).keep hk)) w hk) ?_
  rintro e9 w9 ⟨rfl, k9⟩
  exact ⟨_, rfl, hK.out _ _ k9 rfl⟩
set_option maxRecDepth 100000 in
theorem sm_e10 (g gt m1 m2 m3 m4 m5 : Nat) (ev : Operand → Value) (z : World) (ec : ∀ c, ev (.const c) = c) (e11 : ev (.tmp 11) = .bool true) (e14 : ev (.tmp 14) = .bool true) : (execOp ev ⟨some 15, Op.pick (Operand.tmp 11) (Operand.tmp 14) (Operand.const (Value.bool false)), 4, "", #[], none⟩).run Tryz.prog z = .ok (.value (.bool true)) z := by
  go_simp
set_option maxRecDepth 100000 in
theorem sm_s10 {Q : Exit → Act → World → Prop} (g gt m1 m2 m3 m4 m5 : Nat) (w0 : World) (hS : Lv w0 g (stA (.slice (some ⟨gt, 0, none⟩) 1 1) (.map (some m1)) (.map (some m2)) (.map (some m3)) (.map (some m4)) (.map (some m5))).toList) (hT : Tm1 w0 (.slice (some ⟨gt, 0, none⟩) 1 1)) (hM : Ms5 w0 m1 m2 m3 m4 m5) : StepB Tryz.prog Q 37 (smB g gt m1 m2 m3 m4 m5) w0 (smR g gt m1 m2 m3 m4 m5) smD 10 ⟨some 15, Op.pick (Operand.tmp 11) (Operand.tmp 14) (Operand.const (Value.bool false)), 4, "", #[], none⟩ [6, 9] := by
  refine ⟨rfl, Or.inl rfl, by decide, by decide, fun a w hn hB hk hd K hK => ?_⟩
  have e11 : a.eval (.tmp 11) = .bool true := hd 6 (by decide)
  have e14 : a.eval (.tmp 14) = .bool true := hd 9 (by decide)
  exact step_run rfl (sm_e10 g gt m1 m2 m3 m4 m5 _ w (fun _ => rfl) e11 e14 ) (hK.out _ w (Kp.refl _ _) rfl)
set_option maxRecDepth 100000 in
theorem sm_e11 (g gt m1 m2 m3 m4 m5 : Nat) (ev : Operand → Value) (z : World) (ec : ∀ c, ev (.const c) = c) (e15 : ev (.tmp 15) = .bool true) : (execOp ev ⟨some 16, Op.move (Operand.tmp 15), 4, "", #[], none⟩).run Tryz.prog z = .ok (.value (.bool true)) z := by
  go_simp
set_option maxRecDepth 100000 in
theorem sm_s11 {Q : Exit → Act → World → Prop} (g gt m1 m2 m3 m4 m5 : Nat) (w0 : World) (hS : Lv w0 g (stA (.slice (some ⟨gt, 0, none⟩) 1 1) (.map (some m1)) (.map (some m2)) (.map (some m3)) (.map (some m4)) (.map (some m5))).toList) (hT : Tm1 w0 (.slice (some ⟨gt, 0, none⟩) 1 1)) (hM : Ms5 w0 m1 m2 m3 m4 m5) : StepB Tryz.prog Q 37 (smB g gt m1 m2 m3 m4 m5) w0 (smR g gt m1 m2 m3 m4 m5) smD 11 ⟨some 16, Op.move (Operand.tmp 15), 4, "", #[], none⟩ [10, 9] := by
  refine ⟨rfl, Or.inl rfl, by decide, by decide, fun a w hn hB hk hd K hK => ?_⟩
  have e15 : a.eval (.tmp 15) = .bool true := hd 10 (by decide)
  exact step_run rfl (sm_e11 g gt m1 m2 m3 m4 m5 _ w (fun _ => rfl) e15 ) (hK.out _ w (Kp.refl _ _) rfl)
set_option maxRecDepth 100000 in
theorem sm_e12 (g gt m1 m2 m3 m4 m5 : Nat) (ev : Operand → Value) (z : World) (ec : ∀ c, ev (.const c) = c) (e0 : ev (.tmp 0) = .pointer (some ⟨g, 0, none⟩)) : (execOp ev ⟨some 17, Op.move (Operand.tmp 0), 28, "", #[], some (11, true)⟩).run Tryz.prog z = .ok (.value (.pointer (some ⟨g, 0, none⟩))) z := by
  go_simp
set_option maxRecDepth 100000 in
theorem sm_s12 {Q : Exit → Act → World → Prop} (g gt m1 m2 m3 m4 m5 : Nat) (w0 : World) (hS : Lv w0 g (stA (.slice (some ⟨gt, 0, none⟩) 1 1) (.map (some m1)) (.map (some m2)) (.map (some m3)) (.map (some m4)) (.map (some m5))).toList) (hT : Tm1 w0 (.slice (some ⟨gt, 0, none⟩) 1 1)) (hM : Ms5 w0 m1 m2 m3 m4 m5) : StepB Tryz.prog Q 37 (smB g gt m1 m2 m3 m4 m5) w0 (smR g gt m1 m2 m3 m4 m5) smD 12 ⟨some 17, Op.move (Operand.tmp 0), 28, "", #[], some (11, true)⟩ [11] := by
  refine ⟨rfl, Or.inr ⟨11, true, rfl, by decide, fun v w h => h⟩, by decide, by decide, fun a w hn hB hk hd K hK => ?_⟩
  have e0 : a.eval (.tmp 0) = .pointer (some ⟨g, 0, none⟩) := hB.1
  exact step_run rfl (sm_e12 g gt m1 m2 m3 m4 m5 _ w (fun _ => rfl) e0 ) (hK.out _ w (Kp.refl _ _) rfl)
set_option maxRecDepth 100000 in
theorem sm_e13 (g gt m1 m2 m3 m4 m5 : Nat) (ev : Operand → Value) (z : World) (ec : ∀ c, ev (.const c) = c) (e1 : ev (.tmp 1) = .pointer (some ⟨g, 0, none⟩)) : (execOp ev ⟨some 18, Op.move (Operand.tmp 1), 28, "", #[], some (11, true)⟩).run Tryz.prog z = .ok (.value (.pointer (some ⟨g, 0, none⟩))) z := by
  go_simp
set_option maxRecDepth 100000 in
theorem sm_s13 {Q : Exit → Act → World → Prop} (g gt m1 m2 m3 m4 m5 : Nat) (w0 : World) (hS : Lv w0 g (stA (.slice (some ⟨gt, 0, none⟩) 1 1) (.map (some m1)) (.map (some m2)) (.map (some m3)) (.map (some m4)) (.map (some m5))).toList) (hT : Tm1 w0 (.slice (some ⟨gt, 0, none⟩) 1 1)) (hM : Ms5 w0 m1 m2 m3 m4 m5) : StepB Tryz.prog Q 37 (smB g gt m1 m2 m3 m4 m5) w0 (smR g gt m1 m2 m3 m4 m5) smD 13 ⟨some 18, Op.move (Operand.tmp 1), 28, "", #[], some (11, true)⟩ [11] := by
  refine ⟨rfl, Or.inr ⟨11, true, rfl, by decide, fun v w h => h⟩, by decide, by decide, fun a w hn hB hk hd K hK => ?_⟩
  have e1 : a.eval (.tmp 1) = .pointer (some ⟨g, 0, none⟩) := hB.2.1
  exact step_run rfl (sm_e13 g gt m1 m2 m3 m4 m5 _ w (fun _ => rfl) e1 ) (hK.out _ w (Kp.refl _ _) rfl)
set_option maxRecDepth 100000 in
theorem sm_e14 (g gt m1 m2 m3 m4 m5 : Nat) (ev : Operand → Value) (z : World) (ec : ∀ c, ev (.const c) = c) (ef : ∀ f, ev (.func f) = .func (.func f) #[] #[]) (e17 : ev (.tmp 17) = .pointer (some ⟨g, 0, none⟩)) (e18 : ev (.tmp 18) = .pointer (some ⟨g, 0, none⟩)) : (execOp ev ⟨some 19, Op.call { callee := Callee.value (Operand.func 46), args := #[Operand.tmp 17, Operand.tmp 18], argTypes := #[28, 28] }, 4, "", #[], some (11, true)⟩).run Tryz.prog z = .ok (.enter 46 #[.pointer (some ⟨g, 0, none⟩), .pointer (some ⟨g, 0, none⟩)]) z := enter_run _ (ef _) (by simp only [List.map_toArray, List.map_cons, List.map_nil, ec, ef, e17, e18]) (fun _ => by rfl)
set_option maxRecDepth 100000 in
theorem sm_s14 {Q : Exit → Act → World → Prop} (g gt m1 m2 m3 m4 m5 : Nat) (w0 : World) (hS : Lv w0 g (stA (.slice (some ⟨gt, 0, none⟩) 1 1) (.map (some m1)) (.map (some m2)) (.map (some m3)) (.map (some m4)) (.map (some m5))).toList) (hT : Tm1 w0 (.slice (some ⟨gt, 0, none⟩) 1 1)) (hM : Ms5 w0 m1 m2 m3 m4 m5) : StepB Tryz.prog Q 37 (smB g gt m1 m2 m3 m4 m5) w0 (smR g gt m1 m2 m3 m4 m5) smD 14 ⟨some 19, Op.call { callee := Callee.value (Operand.func 46), args := #[Operand.tmp 17, Operand.tmp 18], argTypes := #[28, 28] }, 4, "", #[], some (11, true)⟩ [12, 13, 11, 11] := by
  refine ⟨rfl, Or.inr ⟨11, true, rfl, by decide, fun v w h => h⟩, by decide, by decide, fun a w hn hB hk hd K hK => ?_⟩
  have e17 : a.eval (.tmp 17) = .pointer (some ⟨g, 0, none⟩) := hd 12 (by decide)
  have e18 : a.eval (.tmp 18) = .pointer (some ⟨g, 0, none⟩) := hd 13 (by decide)
  refine wp_enter (sm_e14 g gt m1 m2 m3 m4 m5 _ w (fun _ => rfl) (fun _ => rfl) e17 e18) ((fun w hk => blobs1 _ w ((ep_of hS hT hM).keep hk)) w hk) ?_
  rintro e9 w9 ⟨rfl, k9⟩
  exact ⟨_, rfl, hK.out _ _ k9 rfl⟩
set_option maxRecDepth 100000 in
theorem sm_e15 (g gt m1 m2 m3 m4 m5 : Nat) (ev : Operand → Value) (z : World) (ec : ∀ c, ev (.const c) = c) (e16 : ev (.tmp 16) = .bool true) (e19 : ev (.tmp 19) = .bool true) : (execOp ev ⟨some 20, Op.pick (Operand.tmp 16) (Operand.tmp 19) (Operand.const (Value.bool false)), 4, "", #[], none⟩).run Tryz.prog z = .ok (.value (.bool true)) z := by
  go_simp
set_option maxRecDepth 100000 in
theorem sm_s15 {Q : Exit → Act → World → Prop} (g gt m1 m2 m3 m4 m5 : Nat) (w0 : World) (hS : Lv w0 g (stA (.slice (some ⟨gt, 0, none⟩) 1 1) (.map (some m1)) (.map (some m2)) (.map (some m3)) (.map (some m4)) (.map (some m5))).toList) (hT : Tm1 w0 (.slice (some ⟨gt, 0, none⟩) 1 1)) (hM : Ms5 w0 m1 m2 m3 m4 m5) : StepB Tryz.prog Q 37 (smB g gt m1 m2 m3 m4 m5) w0 (smR g gt m1 m2 m3 m4 m5) smD 15 ⟨some 20, Op.pick (Operand.tmp 16) (Operand.tmp 19) (Operand.const (Value.bool false)), 4, "", #[], none⟩ [11, 14] := by
  refine ⟨rfl, Or.inl rfl, by decide, by decide, fun a w hn hB hk hd K hK => ?_⟩
  have e16 : a.eval (.tmp 16) = .bool true := hd 11 (by decide)
  have e19 : a.eval (.tmp 19) = .bool true := hd 14 (by decide)
  exact step_run rfl (sm_e15 g gt m1 m2 m3 m4 m5 _ w (fun _ => rfl) e16 e19 ) (hK.out _ w (Kp.refl _ _) rfl)
set_option maxRecDepth 100000 in
theorem sm_e16 (g gt m1 m2 m3 m4 m5 : Nat) (ev : Operand → Value) (z : World) (ec : ∀ c, ev (.const c) = c) (e20 : ev (.tmp 20) = .bool true) : (execOp ev ⟨some 21, Op.move (Operand.tmp 20), 4, "", #[], none⟩).run Tryz.prog z = .ok (.value (.bool true)) z := by
  go_simp
set_option maxRecDepth 100000 in
theorem sm_s16 {Q : Exit → Act → World → Prop} (g gt m1 m2 m3 m4 m5 : Nat) (w0 : World) (hS : Lv w0 g (stA (.slice (some ⟨gt, 0, none⟩) 1 1) (.map (some m1)) (.map (some m2)) (.map (some m3)) (.map (some m4)) (.map (some m5))).toList) (hT : Tm1 w0 (.slice (some ⟨gt, 0, none⟩) 1 1)) (hM : Ms5 w0 m1 m2 m3 m4 m5) : StepB Tryz.prog Q 37 (smB g gt m1 m2 m3 m4 m5) w0 (smR g gt m1 m2 m3 m4 m5) smD 16 ⟨some 21, Op.move (Operand.tmp 20), 4, "", #[], none⟩ [15, 14] := by
  refine ⟨rfl, Or.inl rfl, by decide, by decide, fun a w hn hB hk hd K hK => ?_⟩
  have e20 : a.eval (.tmp 20) = .bool true := hd 15 (by decide)
  exact step_run rfl (sm_e16 g gt m1 m2 m3 m4 m5 _ w (fun _ => rfl) e20 ) (hK.out _ w (Kp.refl _ _) rfl)
set_option maxRecDepth 100000 in
theorem sm_e17 (g gt m1 m2 m3 m4 m5 : Nat) (ev : Operand → Value) (z : World) (ec : ∀ c, ev (.const c) = c) (e0 : ev (.tmp 0) = .pointer (some ⟨g, 0, none⟩)) : (execOp ev ⟨some 22, Op.move (Operand.tmp 0), 28, "", #[], some (16, true)⟩).run Tryz.prog z = .ok (.value (.pointer (some ⟨g, 0, none⟩))) z := by
  go_simp
set_option maxRecDepth 100000 in
theorem sm_s17 {Q : Exit → Act → World → Prop} (g gt m1 m2 m3 m4 m5 : Nat) (w0 : World) (hS : Lv w0 g (stA (.slice (some ⟨gt, 0, none⟩) 1 1) (.map (some m1)) (.map (some m2)) (.map (some m3)) (.map (some m4)) (.map (some m5))).toList) (hT : Tm1 w0 (.slice (some ⟨gt, 0, none⟩) 1 1)) (hM : Ms5 w0 m1 m2 m3 m4 m5) : StepB Tryz.prog Q 37 (smB g gt m1 m2 m3 m4 m5) w0 (smR g gt m1 m2 m3 m4 m5) smD 17 ⟨some 22, Op.move (Operand.tmp 0), 28, "", #[], some (16, true)⟩ [16] := by
  refine ⟨rfl, Or.inr ⟨16, true, rfl, by decide, fun v w h => h⟩, by decide, by decide, fun a w hn hB hk hd K hK => ?_⟩
  have e0 : a.eval (.tmp 0) = .pointer (some ⟨g, 0, none⟩) := hB.1
  exact step_run rfl (sm_e17 g gt m1 m2 m3 m4 m5 _ w (fun _ => rfl) e0 ) (hK.out _ w (Kp.refl _ _) rfl)
set_option maxRecDepth 100000 in
theorem sm_e18 (g gt m1 m2 m3 m4 m5 : Nat) (ev : Operand → Value) (z : World) (ec : ∀ c, ev (.const c) = c) (e1 : ev (.tmp 1) = .pointer (some ⟨g, 0, none⟩)) : (execOp ev ⟨some 23, Op.move (Operand.tmp 1), 28, "", #[], some (16, true)⟩).run Tryz.prog z = .ok (.value (.pointer (some ⟨g, 0, none⟩))) z := by
  go_simp
set_option maxRecDepth 100000 in
theorem sm_s18 {Q : Exit → Act → World → Prop} (g gt m1 m2 m3 m4 m5 : Nat) (w0 : World) (hS : Lv w0 g (stA (.slice (some ⟨gt, 0, none⟩) 1 1) (.map (some m1)) (.map (some m2)) (.map (some m3)) (.map (some m4)) (.map (some m5))).toList) (hT : Tm1 w0 (.slice (some ⟨gt, 0, none⟩) 1 1)) (hM : Ms5 w0 m1 m2 m3 m4 m5) : StepB Tryz.prog Q 37 (smB g gt m1 m2 m3 m4 m5) w0 (smR g gt m1 m2 m3 m4 m5) smD 18 ⟨some 23, Op.move (Operand.tmp 1), 28, "", #[], some (16, true)⟩ [16] := by
  refine ⟨rfl, Or.inr ⟨16, true, rfl, by decide, fun v w h => h⟩, by decide, by decide, fun a w hn hB hk hd K hK => ?_⟩
  have e1 : a.eval (.tmp 1) = .pointer (some ⟨g, 0, none⟩) := hB.2.1
  exact step_run rfl (sm_e18 g gt m1 m2 m3 m4 m5 _ w (fun _ => rfl) e1 ) (hK.out _ w (Kp.refl _ _) rfl)
set_option maxRecDepth 100000 in
theorem sm_e19 (g gt m1 m2 m3 m4 m5 : Nat) (ev : Operand → Value) (z : World) (ec : ∀ c, ev (.const c) = c) (ef : ∀ f, ev (.func f) = .func (.func f) #[] #[]) (e22 : ev (.tmp 22) = .pointer (some ⟨g, 0, none⟩)) (e23 : ev (.tmp 23) = .pointer (some ⟨g, 0, none⟩)) : (execOp ev ⟨some 24, Op.call { callee := Callee.value (Operand.func 47), args := #[Operand.tmp 22, Operand.tmp 23], argTypes := #[28, 28] }, 4, "", #[], some (16, true)⟩).run Tryz.prog z = .ok (.enter 47 #[.pointer (some ⟨g, 0, none⟩), .pointer (some ⟨g, 0, none⟩)]) z := enter_run _ (ef _) (by simp only [List.map_toArray, List.map_cons, List.map_nil, ec, ef, e22, e23]) (fun _ => by rfl)
set_option maxRecDepth 100000 in
theorem sm_s19 {Q : Exit → Act → World → Prop} (g gt m1 m2 m3 m4 m5 : Nat) (w0 : World) (hS : Lv w0 g (stA (.slice (some ⟨gt, 0, none⟩) 1 1) (.map (some m1)) (.map (some m2)) (.map (some m3)) (.map (some m4)) (.map (some m5))).toList) (hT : Tm1 w0 (.slice (some ⟨gt, 0, none⟩) 1 1)) (hM : Ms5 w0 m1 m2 m3 m4 m5) : StepB Tryz.prog Q 37 (smB g gt m1 m2 m3 m4 m5) w0 (smR g gt m1 m2 m3 m4 m5) smD 19 ⟨some 24, Op.call { callee := Callee.value (Operand.func 47), args := #[Operand.tmp 22, Operand.tmp 23], argTypes := #[28, 28] }, 4, "", #[], some (16, true)⟩ [17, 18, 16, 16] := by
  refine ⟨rfl, Or.inr ⟨16, true, rfl, by decide, fun v w h => h⟩, by decide, by decide, fun a w hn hB hk hd K hK => ?_⟩
  have e22 : a.eval (.tmp 22) = .pointer (some ⟨g, 0, none⟩) := hd 17 (by decide)
  have e23 : a.eval (.tmp 23) = .pointer (some ⟨g, 0, none⟩) := hd 18 (by decide)
  refine wp_enter (sm_e19 g gt m1 m2 m3 m4 m5 _ w (fun _ => rfl) (fun _ => rfl) e22 e23) ((fun w hk => jobs1 _ w ((ep_of hS hT hM).keep hk)) w hk) ?_
  rintro e9 w9 ⟨rfl, k9⟩
  exact ⟨_, rfl, hK.out _ _ k9 rfl⟩
set_option maxRecDepth 100000 in
theorem sm_e20 (g gt m1 m2 m3 m4 m5 : Nat) (ev : Operand → Value) (z : World) (ec : ∀ c, ev (.const c) = c) (e21 : ev (.tmp 21) = .bool true) (e24 : ev (.tmp 24) = .bool true) : (execOp ev ⟨some 25, Op.pick (Operand.tmp 21) (Operand.tmp 24) (Operand.const (Value.bool false)), 4, "", #[], none⟩).run Tryz.prog z = .ok (.value (.bool true)) z := by
  go_simp
set_option maxRecDepth 100000 in
theorem sm_s20 {Q : Exit → Act → World → Prop} (g gt m1 m2 m3 m4 m5 : Nat) (w0 : World) (hS : Lv w0 g (stA (.slice (some ⟨gt, 0, none⟩) 1 1) (.map (some m1)) (.map (some m2)) (.map (some m3)) (.map (some m4)) (.map (some m5))).toList) (hT : Tm1 w0 (.slice (some ⟨gt, 0, none⟩) 1 1)) (hM : Ms5 w0 m1 m2 m3 m4 m5) : StepB Tryz.prog Q 37 (smB g gt m1 m2 m3 m4 m5) w0 (smR g gt m1 m2 m3 m4 m5) smD 20 ⟨some 25, Op.pick (Operand.tmp 21) (Operand.tmp 24) (Operand.const (Value.bool false)), 4, "", #[], none⟩ [16, 19] := by
  refine ⟨rfl, Or.inl rfl, by decide, by decide, fun a w hn hB hk hd K hK => ?_⟩
  have e21 : a.eval (.tmp 21) = .bool true := hd 16 (by decide)
  have e24 : a.eval (.tmp 24) = .bool true := hd 19 (by decide)
  exact step_run rfl (sm_e20 g gt m1 m2 m3 m4 m5 _ w (fun _ => rfl) e21 e24 ) (hK.out _ w (Kp.refl _ _) rfl)
set_option maxRecDepth 100000 in
theorem sm_e21 (g gt m1 m2 m3 m4 m5 : Nat) (ev : Operand → Value) (z : World) (ec : ∀ c, ev (.const c) = c) (e25 : ev (.tmp 25) = .bool true) : (execOp ev ⟨some 26, Op.move (Operand.tmp 25), 4, "", #[], none⟩).run Tryz.prog z = .ok (.value (.bool true)) z := by
  go_simp
set_option maxRecDepth 100000 in
theorem sm_s21 {Q : Exit → Act → World → Prop} (g gt m1 m2 m3 m4 m5 : Nat) (w0 : World) (hS : Lv w0 g (stA (.slice (some ⟨gt, 0, none⟩) 1 1) (.map (some m1)) (.map (some m2)) (.map (some m3)) (.map (some m4)) (.map (some m5))).toList) (hT : Tm1 w0 (.slice (some ⟨gt, 0, none⟩) 1 1)) (hM : Ms5 w0 m1 m2 m3 m4 m5) : StepB Tryz.prog Q 37 (smB g gt m1 m2 m3 m4 m5) w0 (smR g gt m1 m2 m3 m4 m5) smD 21 ⟨some 26, Op.move (Operand.tmp 25), 4, "", #[], none⟩ [20, 19] := by
  refine ⟨rfl, Or.inl rfl, by decide, by decide, fun a w hn hB hk hd K hK => ?_⟩
  have e25 : a.eval (.tmp 25) = .bool true := hd 20 (by decide)
  exact step_run rfl (sm_e21 g gt m1 m2 m3 m4 m5 _ w (fun _ => rfl) e25 ) (hK.out _ w (Kp.refl _ _) rfl)
set_option maxRecDepth 100000 in
theorem sm_e22 (g gt m1 m2 m3 m4 m5 : Nat) (ev : Operand → Value) (z : World) (ec : ∀ c, ev (.const c) = c) (e0 : ev (.tmp 0) = .pointer (some ⟨g, 0, none⟩)) : (execOp ev ⟨some 27, Op.move (Operand.tmp 0), 28, "", #[], some (21, true)⟩).run Tryz.prog z = .ok (.value (.pointer (some ⟨g, 0, none⟩))) z := by
  go_simp
set_option maxRecDepth 100000 in
theorem sm_s22 {Q : Exit → Act → World → Prop} (g gt m1 m2 m3 m4 m5 : Nat) (w0 : World) (hS : Lv w0 g (stA (.slice (some ⟨gt, 0, none⟩) 1 1) (.map (some m1)) (.map (some m2)) (.map (some m3)) (.map (some m4)) (.map (some m5))).toList) (hT : Tm1 w0 (.slice (some ⟨gt, 0, none⟩) 1 1)) (hM : Ms5 w0 m1 m2 m3 m4 m5) : StepB Tryz.prog Q 37 (smB g gt m1 m2 m3 m4 m5) w0 (smR g gt m1 m2 m3 m4 m5) smD 22 ⟨some 27, Op.move (Operand.tmp 0), 28, "", #[], some (21, true)⟩ [21] := by
  refine ⟨rfl, Or.inr ⟨21, true, rfl, by decide, fun v w h => h⟩, by decide, by decide, fun a w hn hB hk hd K hK => ?_⟩
  have e0 : a.eval (.tmp 0) = .pointer (some ⟨g, 0, none⟩) := hB.1
  exact step_run rfl (sm_e22 g gt m1 m2 m3 m4 m5 _ w (fun _ => rfl) e0 ) (hK.out _ w (Kp.refl _ _) rfl)
set_option maxRecDepth 100000 in
theorem sm_e23 (g gt m1 m2 m3 m4 m5 : Nat) (ev : Operand → Value) (z : World) (ec : ∀ c, ev (.const c) = c) (e27 : ev (.tmp 27) = .pointer (some ⟨g, 0, none⟩)) : (execOp ev ⟨some 28, Op.nilCheck (Operand.tmp 27), 0, "", #[], some (21, true)⟩).run Tryz.prog z = .ok (.value (.pointer (some ⟨g, 0, none⟩))) z := by
  go_simp
set_option maxRecDepth 100000 in
theorem sm_s23 {Q : Exit → Act → World → Prop} (g gt m1 m2 m3 m4 m5 : Nat) (w0 : World) (hS : Lv w0 g (stA (.slice (some ⟨gt, 0, none⟩) 1 1) (.map (some m1)) (.map (some m2)) (.map (some m3)) (.map (some m4)) (.map (some m5))).toList) (hT : Tm1 w0 (.slice (some ⟨gt, 0, none⟩) 1 1)) (hM : Ms5 w0 m1 m2 m3 m4 m5) : StepB Tryz.prog Q 37 (smB g gt m1 m2 m3 m4 m5) w0 (smR g gt m1 m2 m3 m4 m5) smD 23 ⟨some 28, Op.nilCheck (Operand.tmp 27), 0, "", #[], some (21, true)⟩ [22, 21] := by
  refine ⟨rfl, Or.inr ⟨21, true, rfl, by decide, fun v w h => h⟩, by decide, by decide, fun a w hn hB hk hd K hK => ?_⟩
  have e27 : a.eval (.tmp 27) = .pointer (some ⟨g, 0, none⟩) := hd 22 (by decide)
  exact step_run rfl (sm_e23 g gt m1 m2 m3 m4 m5 _ w (fun _ => rfl) e27 ) (hK.out _ w (Kp.refl _ _) rfl)
set_option maxRecDepth 100000 in
theorem sm_e24 (g gt m1 m2 m3 m4 m5 : Nat) (ev : Operand → Value) (z : World) (ec : ∀ c, ev (.const c) = c) (e28 : ev (.tmp 28) = .pointer (some ⟨g, 0, none⟩)) : (execOp ev ⟨some 29, Op.fieldAddr 38 (Operand.tmp 28) 12, 0, "", #[], some (21, true)⟩).run Tryz.prog z = .ok (.value (.pointer (some ⟨g, 43, none⟩))) z := by
  go_simp
set_option maxRecDepth 100000 in
theorem sm_s24 {Q : Exit → Act → World → Prop} (g gt m1 m2 m3 m4 m5 : Nat) (w0 : World) (hS : Lv w0 g (stA (.slice (some ⟨gt, 0, none⟩) 1 1) (.map (some m1)) (.map (some m2)) (.map (some m3)) (.map (some m4)) (.map (some m5))).toList) (hT : Tm1 w0 (.slice (some ⟨gt, 0, none⟩) 1 1)) (hM : Ms5 w0 m1 m2 m3 m4 m5) : StepB Tryz.prog Q 37 (smB g gt m1 m2 m3 m4 m5) w0 (smR g gt m1 m2 m3 m4 m5) smD 24 ⟨some 29, Op.fieldAddr 38 (Operand.tmp 28) 12, 0, "", #[], some (21, true)⟩ [23, 21] := by
  refine ⟨rfl, Or.inr ⟨21, true, rfl, by decide, fun v w h => h⟩, by decide, by decide, fun a w hn hB hk hd K hK => ?_⟩
  have e28 : a.eval (.tmp 28) = .pointer (some ⟨g, 0, none⟩) := hd 23 (by decide)
  exact step_run rfl (sm_e24 g gt m1 m2 m3 m4 m5 _ w (fun _ => rfl) e28 ) (hK.out _ w (Kp.refl _ _) rfl)
set_option maxRecDepth 100000 in
theorem sm_e25 (g gt m1 m2 m3 m4 m5 : Nat) (ev : Operand → Value) (z : World) (ec : ∀ c, ev (.const c) = c) (e29 : ev (.tmp 29) = .pointer (some ⟨g, 43, none⟩)) (hc : z.cell? ⟨g, 43, none⟩ = some (.map (some m5))) : (execOp ev ⟨some 30, Op.load 36 (Operand.tmp 29), 36, "", #[], some (21, true)⟩).run Tryz.prog z = .ok (.value (.map (some m5))) z := by
  go_simp
set_option maxRecDepth 100000 in
theorem sm_s25 {Q : Exit → Act → World → Prop} (g gt m1 m2 m3 m4 m5 : Nat) (w0 : World) (hS : Lv w0 g (stA (.slice (some ⟨gt, 0, none⟩) 1 1) (.map (some m1)) (.map (some m2)) (.map (some m3)) (.map (some m4)) (.map (some m5))).toList) (hT : Tm1 w0 (.slice (some ⟨gt, 0, none⟩) 1 1)) (hM : Ms5 w0 m1 m2 m3 m4 m5) : StepB Tryz.prog Q 37 (smB g gt m1 m2 m3 m4 m5) w0 (smR g gt m1 m2 m3 m4 m5) smD 25 ⟨some 30, Op.load 36 (Operand.tmp 29), 36, "", #[], some (21, true)⟩ [24, 21] := by
  refine ⟨rfl, Or.inr ⟨21, true, rfl, by decide, fun v w h => h⟩, by decide, by decide, fun a w hn hB hk hd K hK => ?_⟩
  have e29 : a.eval (.tmp 29) = .pointer (some ⟨g, 43, none⟩) := hd 24 (by decide)
  exact step_run rfl (sm_e25 g gt m1 m2 m3 m4 m5 _ w (fun _ => rfl) e29 ((hS.keep hk id).cell (j := 43) rfl)) (hK.out _ w (Kp.refl _ _) rfl)
set_option maxRecDepth 100000 in
theorem sm_e26 (g gt m1 m2 m3 m4 m5 : Nat) (ev : Operand → Value) (z : World) (ec : ∀ c, ev (.const c) = c) (e1 : ev (.tmp 1) = .pointer (some ⟨g, 0, none⟩)) : (execOp ev ⟨some 31, Op.move (Operand.tmp 1), 28, "", #[], some (21, true)⟩).run Tryz.prog z = .ok (.value (.pointer (some ⟨g, 0, none⟩))) z := by
  go_simp
set_option maxRecDepth 100000 in
theorem sm_s26 {Q : Exit → Act → World → Prop} (g gt m1 m2 m3 m4 m5 : Nat) (w0 : World) (hS : Lv w0 g (stA (.slice (some ⟨gt, 0, none⟩) 1 1) (.map (some m1)) (.map (some m2)) (.map (some m3)) (.map (some m4)) (.map (some m5))).toList) (hT : Tm1 w0 (.slice (some ⟨gt, 0, none⟩) 1 1)) (hM : Ms5 w0 m1 m2 m3 m4 m5) : StepB Tryz.prog Q 37 (smB g gt m1 m2 m3 m4 m5) w0 (smR g gt m1 m2 m3 m4 m5) smD 26 ⟨some 31, Op.move (Operand.tmp 1), 28, "", #[], some (21, true)⟩ [21] := by
  refine ⟨rfl, Or.inr ⟨21, true, rfl, by decide, fun v w h => h⟩, by decide, by decide, fun a w hn hB hk hd K hK => ?_⟩
  have e1 : a.eval (.tmp 1) = .pointer (some ⟨g, 0, none⟩) := hB.2.1
  exact step_run rfl (sm_e26 g gt m1 m2 m3 m4 m5 _ w (fun _ => rfl) e1 ) (hK.out _ w (Kp.refl _ _) rfl)
set_option maxRecDepth 100000 in
theorem sm_e27 (g gt m1 m2 m3 m4 m5 : Nat) (ev : Operand → Value) (z : World) (ec : ∀ c, ev (.const c) = c) (e31 : ev (.tmp 31) = .pointer (some ⟨g, 0, none⟩)) : (execOp ev ⟨some 32, Op.nilCheck (Operand.tmp 31), 0, "", #[], some (21, true)⟩).run Tryz.prog z = .ok (.value (.pointer (some ⟨g, 0, none⟩))) z := by
  go_simp
set_option maxRecDepth 100000 in
theorem sm_s27 {Q : Exit → Act → World → Prop} (g gt m1 m2 m3 m4 m5 : Nat) (w0 : World) (hS : Lv w0 g (stA (.slice (some ⟨gt, 0, none⟩) 1 1) (.map (some m1)) (.map (some m2)) (.map (some m3)) (.map (some m4)) (.map (some m5))).toList) (hT : Tm1 w0 (.slice (some ⟨gt, 0, none⟩) 1 1)) (hM : Ms5 w0 m1 m2 m3 m4 m5) : StepB Tryz.prog Q 37 (smB g gt m1 m2 m3 m4 m5) w0 (smR g gt m1 m2 m3 m4 m5) smD 27 ⟨some 32, Op.nilCheck (Operand.tmp 31), 0, "", #[], some (21, true)⟩ [26, 21] := by
  refine ⟨rfl, Or.inr ⟨21, true, rfl, by decide, fun v w h => h⟩, by decide, by decide, fun a w hn hB hk hd K hK => ?_⟩
  have e31 : a.eval (.tmp 31) = .pointer (some ⟨g, 0, none⟩) := hd 26 (by decide)
  exact step_run rfl (sm_e27 g gt m1 m2 m3 m4 m5 _ w (fun _ => rfl) e31 ) (hK.out _ w (Kp.refl _ _) rfl)
set_option maxRecDepth 100000 in
theorem sm_e28 (g gt m1 m2 m3 m4 m5 : Nat) (ev : Operand → Value) (z : World) (ec : ∀ c, ev (.const c) = c) (e32 : ev (.tmp 32) = .pointer (some ⟨g, 0, none⟩)) : (execOp ev ⟨some 33, Op.fieldAddr 38 (Operand.tmp 32) 12, 0, "", #[], some (21, true)⟩).run Tryz.prog z = .ok (.value (.pointer (some ⟨g, 43, none⟩))) z := by
  go_simp
set_option maxRecDepth 100000 in
theorem sm_s28 {Q : Exit → Act → World → Prop} (g gt m1 m2 m3 m4 m5 : Nat) (w0 : World) (hS : Lv w0 g (stA (.slice (some ⟨gt, 0, none⟩) 1 1) (.map (some m1)) (.map (some m2)) (.map (some m3)) (.map (some m4)) (.map (some m5))).toList) (hT : Tm1 w0 (.slice (some ⟨gt, 0, none⟩) 1 1)) (hM : Ms5 w0 m1 m2 m3 m4 m5) : StepB Tryz.prog Q 37 (smB g gt m1 m2 m3 m4 m5) w0 (smR g gt m1 m2 m3 m4 m5) smD 28 ⟨some 33, Op.fieldAddr 38 (Operand.tmp 32) 12, 0, "", #[], some (21, true)⟩ [27, 21] := by
  refine ⟨rfl, Or.inr ⟨21, true, rfl, by decide, fun v w h => h⟩, by decide, by decide, fun a w hn hB hk hd K hK => ?_⟩
  have e32 : a.eval (.tmp 32) = .pointer (some ⟨g, 0, none⟩) := hd 27 (by decide)
  exact step_run rfl (sm_e28 g gt m1 m2 m3 m4 m5 _ w (fun _ => rfl) e32 ) (hK.out _ w (Kp.refl _ _) rfl)
set_option maxRecDepth 100000 in
theorem sm_e29 (g gt m1 m2 m3 m4 m5 : Nat) (ev : Operand → Value) (z : World) (ec : ∀ c, ev (.const c) = c) (e33 : ev (.tmp 33) = .pointer (some ⟨g, 43, none⟩)) (hc : z.cell? ⟨g, 43, none⟩ = some (.map (some m5))) : (execOp ev ⟨some 34, Op.load 36 (Operand.tmp 33), 36, "", #[], some (21, true)⟩).run Tryz.prog z = .ok (.value (.map (some m5))) z := by
  go_simp
set_option maxRecDepth 100000 in
theorem sm_s29 {Q : Exit → Act → World → Prop} (g gt m1 m2 m3 m4 m5 : Nat) (w0 : World) (hS : Lv w0 g (stA (.slice (some ⟨gt, 0, none⟩) 1 1) (.map (some m1)) (.map (some m2)) (.map (some m3)) (.map (some m4)) (.map (some m5))).toList) (hT : Tm1 w0 (.slice (some ⟨gt, 0, none⟩) 1 1)) (hM : Ms5 w0 m1 m2 m3 m4 m5) : StepB Tryz.prog Q 37 (smB g gt m1 m2 m3 m4 m5) w0 (smR g gt m1 m2 m3 m4 m5) smD 29 ⟨some 34, Op.load 36 (Operand.tmp 33), 36, "", #[], some (21, true)⟩ [28, 21] := by
  refine ⟨rfl, Or.inr ⟨21, true, rfl, by decide, fun v w h => h⟩, by decide, by decide, fun a w hn hB hk hd K hK => ?_⟩
  have e33 : a.eval (.tmp 33) = .pointer (some ⟨g, 43, none⟩) := hd 28 (by decide)
  exact step_run rfl (sm_e29 g gt m1 m2 m3 m4 m5 _ w (fun _ => rfl) e33 ((hS.keep hk id).cell (j := 43) rfl)) (hK.out _ w (Kp.refl _ _) rfl)
set_option maxRecDepth 100000 in
theorem sm_e30 (g gt m1 m2 m3 m4 m5 : Nat) (ev : Operand → Value) (z : World) (ec : ∀ c, ev (.const c) = c) (ef : ∀ f, ev (.func f) = .func (.func f) #[] #[]) (e30 : ev (.tmp 30) = .map (some m5)) (e34 : ev (.tmp 34) = .map (some m5)) : (execOp ev ⟨some 35, Op.call { callee := Callee.value (Operand.func 48), args := #[Operand.tmp 30, Operand.tmp 34], argTypes := #[36, 36] }, 4, "", #[], some (21, true)⟩).run Tryz.prog z = .ok (.enter 48 #[.map (some m5), .map (some m5)]) z := enter_run _ (ef _) (by simp only [List.map_toArray, List.map_cons, List.map_nil, ec, ef, e30, e34]) (fun _ => by rfl)
set_option maxRecDepth 100000 in
theorem sm_s30 {Q : Exit → Act → World → Prop} (g gt m1 m2 m3 m4 m5 : Nat) (w0 : World) (hS : Lv w0 g (stA (.slice (some ⟨gt, 0, none⟩) 1 1) (.map (some m1)) (.map (some m2)) (.map (some m3)) (.map (some m4)) (.map (some m5))).toList) (hT : Tm1 w0 (.slice (some ⟨gt, 0, none⟩) 1 1)) (hM : Ms5 w0 m1 m2 m3 m4 m5) : StepB Tryz.prog Q 37 (smB g gt m1 m2 m3 m4 m5) w0 (smR g gt m1 m2 m3 m4 m5) smD 30 ⟨some 35, Op.call { callee := Callee.value (Operand.func 48), args := #[Operand.tmp 30, Operand.tmp 34], argTypes := #[36, 36] }, 4, "", #[], some (21, true)⟩ [25, 29, 21, 21] := by
  refine ⟨rfl, Or.inr ⟨21, true, rfl, by decide, fun v w h => h⟩, by decide, by decide, fun a w hn hB hk hd K hK => ?_⟩
  have e30 : a.eval (.tmp 30) = .map (some m5) := hd 25 (by decide)
  have e34 : a.eval (.tmp 34) = .map (some m5) := hd 29 (by decide)
  refine wp_enter (sm_e30 g gt m1 m2 m3 m4 m5 _ w (fun _ => rfl) (fun _ => rfl) e30 e34) ((fun w hk => meq_is m5 m5 w (hM.e.keep hk id) (hM.e.keep hk id)) w hk) ?_
  rintro e9 w9 ⟨rfl, k9⟩
  exact ⟨_, rfl, hK.out _ _ k9 rfl⟩
set_option maxRecDepth 100000 in
theorem sm_e31 (g gt m1 m2 m3 m4 m5 : Nat) (ev : Operand → Value) (z : World) (ec : ∀ c, ev (.const c) = c) (e26 : ev (.tmp 26) = .bool true) (e35 : ev (.tmp 35) = .bool true) : (execOp ev ⟨some 36, Op.pick (Operand.tmp 26) (Operand.tmp 35) (Operand.const (Value.bool false)), 4, "", #[], none⟩).run Tryz.prog z = .ok (.value (.bool true)) z := by
  go_simp
set_option maxRecDepth 100000 in
theorem sm_s31 {Q : Exit → Act → World → Prop} (g gt m1 m2 m3 m4 m5 : Nat) (w0 : World) (hS : Lv w0 g (stA (.slice (some ⟨gt, 0, none⟩) 1 1) (.map (some m1)) (.map (some m2)) (.map (some m3)) (.map (some m4)) (.map (some m5))).toList) (hT : Tm1 w0 (.slice (some ⟨gt, 0, none⟩) 1 1)) (hM : Ms5 w0 m1 m2 m3 m4 m5) : StepB Tryz.prog Q 37 (smB g gt m1 m2 m3 m4 m5) w0 (smR g gt m1 m2 m3 m4 m5) smD 31 ⟨some 36, Op.pick (Operand.tmp 26) (Operand.tmp 35) (Operand.const (Value.bool false)), 4, "", #[], none⟩ [21, 30] := by
  refine ⟨rfl, Or.inl rfl, by decide, by decide, fun a w hn hB hk hd K hK => ?_⟩
  have e26 : a.eval (.tmp 26) = .bool true := hd 21 (by decide)
  have e35 : a.eval (.tmp 35) = .bool true := hd 30 (by decide)
  exact step_run rfl (sm_e31 g gt m1 m2 m3 m4 m5 _ w (fun _ => rfl) e26 e35 ) (hK.out _ w (Kp.refl _ _) rfl)
set_option maxRecDepth 100000 in
theorem sm_e32 (g gt m1 m2 m3 m4 m5 : Nat) (ev : Operand → Value) (z : World) (ec : ∀ c, ev (.const c) = c) (e36 : ev (.tmp 36) = .bool true) : (execOp ev ⟨some 4, Op.assign (Operand.tmp 36), 4, "", #[], none⟩).run Tryz.prog z = .ok (.value (.bool true)) z := by
  go_simp
set_option maxRecDepth 100000 in
theorem sm_s32 {Q : Exit → Act → World → Prop} (g gt m1 m2 m3 m4 m5 : Nat) (w0 : World) (hS : Lv w0 g (stA (.slice (some ⟨gt, 0, none⟩) 1 1) (.map (some m1)) (.map (some m2)) (.map (some m3)) (.map (some m4)) (.map (some m5))).toList) (hT : Tm1 w0 (.slice (some ⟨gt, 0, none⟩) 1 1)) (hM : Ms5 w0 m1 m2 m3 m4 m5) : StepB Tryz.prog Q 37 (smB g gt m1 m2 m3 m4 m5) w0 (smR g gt m1 m2 m3 m4 m5) smD 32 ⟨some 4, Op.assign (Operand.tmp 36), 4, "", #[], none⟩ [31, 30, 0, 1, 2, 3, 4, 5, 6, 7, 8, 9, 10, 11, 12, 13, 14, 15, 16, 17, 18, 19, 20, 21, 22, 23, 24, 25, 26, 27, 28, 29, 30, 31] := by
  refine ⟨rfl, Or.inl rfl, by decide, by decide, fun a w hn hB hk hd K hK => ?_⟩
  have e36 : a.eval (.tmp 36) = .bool true := hd 31 (by decide)
  exact step_run rfl (sm_e32 g gt m1 m2 m3 m4 m5 _ w (fun _ => rfl) e36 ) (hK.out _ w (Kp.refl _ _) rfl)
def smT : List (Oper × List Nat) := [(⟨some 5, Op.move (Operand.tmp 0), 28, "", #[], none⟩, []), (⟨some 6, Op.call { callee := Callee.value (Operand.func 21), args := #[Operand.tmp 5], argTypes := #[28] }, 4, "", #[], none⟩, [0]), (⟨some 7, Op.move (Operand.tmp 6), 4, "", #[], none⟩, [1, 1]), (⟨some 8, Op.move (Operand.tmp 1), 28, "", #[], some (2, true)⟩, [2]), (⟨some 9, Op.call { callee := Callee.value (Operand.func 21), args := #[Operand.tmp 8], argTypes := #[28] }, 4, "", #[], some (2, true)⟩, [3, 2, 2]), (⟨some 10, Op.pick (Operand.tmp 7) (Operand.tmp 9) (Operand.const (Value.bool false)), 4, "", #[], none⟩, [2, 4]), (⟨some 11, Op.move (Operand.tmp 10), 4, "", #[], none⟩, [5, 4]), (⟨some 12, Op.move (Operand.tmp 0), 28, "", #[], some (6, true)⟩, [6]), (⟨some 13, Op.move (Operand.tmp 1), 28, "", #[], some (6, true)⟩, [6]), (⟨some 14, Op.call { callee := Callee.value (Operand.func 45), args := #[Operand.tmp 12, Operand.tmp 13], argTypes := #[28, 28] }, 4, "", #[], some (6, true)⟩, [7, 8, 6, 6]), (⟨some 15, Op.pick (Operand.tmp 11) (Operand.tmp 14) (Operand.const (Value.bool false)), 4, "", #[], none⟩, [6, 9]), (⟨some 16, Op.move (Operand.tmp 15), 4, "", #[], none⟩, [10, 9]), (⟨some 17, Op.move (Operand.tmp 0), 28, "", #[], some (11, true)⟩, [11]), (⟨some 18, Op.move (Operand.tmp 1), 28, "", #[], some (11, true)⟩, [11]), (⟨some 19, Op.call { callee := Callee.value (Operand.func 46), args := #[Operand.tmp 17, Operand.tmp 18], argTypes := #[28, 28] }, 4, "", #[], some (11, true)⟩, [12, 13, 11, 11]), (⟨some 20, Op.pick (Operand.tmp 16) (Operand.tmp 19) (Operand.const (Value.bool false)), 4, "", #[], none⟩, [11, 14]), (⟨some 21, Op.move (Operand.tmp 20), 4, "", #[], none⟩, [15, 14]), (⟨some 22, Op.move (Operand.tmp 0), 28, "", #[], some (16, true)⟩, [16]), (⟨some 23, Op.move (Operand.tmp 1), 28, "", #[], some (16, true)⟩, [16]), (⟨some 24, Op.call { callee := Callee.value (Operand.func 47), args := #[Operand.tmp 22, Operand.tmp 23], argTypes := #[28, 28] }, 4, "", #[], some (16, true)⟩, [17, 18, 16, 16]), (⟨some 25, Op.pick (Operand.tmp 21) (Operand.tmp 24) (Operand.const (Value.bool false)), 4, "", #[], none⟩, [16, 19]), (⟨some 26, Op.move (Operand.tmp 25), 4, "", #[], none⟩, [20, 19]), (⟨some 27, Op.move (Operand.tmp 0), 28, "", #[], some (21, true)⟩, [21]), (⟨some 28, Op.nilCheck (Operand.tmp 27), 0, "", #[], some (21, true)⟩, [22, 21]), (⟨some 29, Op.fieldAddr 38 (Operand.tmp 28) 12, 0, "", #[], some (21, true)⟩, [23, 21]), (⟨some 30, Op.load 36 (Operand.tmp 29), 36, "", #[], some (21, true)⟩, [24, 21]), (⟨some 31, Op.move (Operand.tmp 1), 28, "", #[], some (21, true)⟩, [21]), (⟨some 32, Op.nilCheck (Operand.tmp 31), 0, "", #[], some (21, true)⟩, [26, 21]), (⟨some 33, Op.fieldAddr 38 (Operand.tmp 32) 12, 0, "", #[], some (21, true)⟩, [27, 21]), (⟨some 34, Op.load 36 (Operand.tmp 33), 36, "", #[], some (21, true)⟩, [28, 21]), (⟨some 35, Op.call { callee := Callee.value (Operand.func 48), args := #[Operand.tmp 30, Operand.tmp 34], argTypes := #[36, 36] }, 4, "", #[], some (21, true)⟩, [25, 29, 21, 21]), (⟨some 36, Op.pick (Operand.tmp 26) (Operand.tmp 35) (Operand.const (Value.bool false)), 4, "", #[], none⟩, [21, 30]), (⟨some 4, Op.assign (Operand.tmp 36), 4, "", #[], none⟩, [31, 30, 0, 1, 2, 3, 4, 5, 6, 7, 8, 9, 10, 11, 12, 13, 14, 15, 16, 17, 18, 19, 20, 21, 22, 23, 24, 25, 26, 27, 28, 29, 30, 31])]
theorem sm_steps {Q : Exit → Act → World → Prop} (g gt m1 m2 m3 m4 m5 : Nat) (w0 : World) (hS : Lv w0 g (stA (.slice (some ⟨gt, 0, none⟩) 1 1) (.map (some m1)) (.map (some m2)) (.map (some m3)) (.map (some m4)) (.map (some m5))).toList) (hT : Tm1 w0 (.slice (some ⟨gt, 0, none⟩) 1 1)) (hM : Ms5 w0 m1 m2 m3 m4 m5) : Steps Tryz.prog Q 37 (smB g gt m1 m2 m3 m4 m5) w0 (smR g gt m1 m2 m3 m4 m5) smD 0 smT := ⟨sm_s0 g gt m1 m2 m3 m4 m5 w0 hS hT hM, sm_s1 g gt m1 m2 m3 m4 m5 w0 hS hT hM, sm_s2 g gt m1 m2 m3 m4 m5 w0 hS hT hM, sm_s3 g gt m1 m2 m3 m4 m5 w0 hS hT hM, sm_s4 g gt m1 m2 m3 m4 m5 w0 hS hT hM, sm_s5 g gt m1 m2 m3 m4 m5 w0 hS hT hM, sm_s6 g gt m1 m2 m3 m4 m5 w0 hS hT hM, sm_s7 g gt m1 m2 m3 m4 m5 w0 hS hT hM, sm_s8 g gt m1 m2 m3 m4 m5 w0 hS hT hM, sm_s9 g gt m1 m2 m3 m4 m5 w0 hS hT hM, sm_s10 g gt m1 m2 m3 m4 m5 w0 hS hT hM, sm_s11 g gt m1 m2 m3 m4 m5 w0 hS hT hM, sm_s12 g gt m1 m2 m3 m4 m5 w0 hS hT hM, sm_s13 g gt m1 m2 m3 m4 m5 w0 hS hT hM, sm_s14 g gt m1 m2 m3 m4 m5 w0 hS hT hM, sm_s15 g gt m1 m2 m3 m4 m5 w0 hS hT hM, sm_s16 g gt m1 m2 m3 m4 m5 w0 hS hT hM, sm_s17 g gt m1 m2 m3 m4 m5 w0 hS hT hM, sm_s18 g gt m1 m2 m3 m4 m5 w0 hS hT hM, sm_s19 g gt m1 m2 m3 m4 m5 w0 hS hT hM, sm_s20 g gt m1 m2 m3 m4 m5 w0 hS hT hM, sm_s21 g gt m1 m2 m3 m4 m5 w0 hS hT hM, sm_s22 g gt m1 m2 m3 m4 m5 w0 hS hT hM, sm_s23 g gt m1 m2 m3 m4 m5 w0 hS hT hM, sm_s24 g gt m1 m2 m3 m4 m5 w0 hS hT hM, sm_s25 g gt m1 m2 m3 m4 m5 w0 hS hT hM, sm_s26 g gt m1 m2 m3 m4 m5 w0 hS hT hM, sm_s27 g gt m1 m2 m3 m4 m5 w0 hS hT hM, sm_s28 g gt m1 m2 m3 m4 m5 w0 hS hT hM, sm_s29 g gt m1 m2 m3 m4 m5 w0 hS hT hM, sm_s30 g gt m1 m2 m3 m4 m5 w0 hS hT hM, sm_s31 g gt m1 m2 m3 m4 m5 w0 hS hT hM, sm_s32 g gt m1 m2 m3 m4 m5 w0 hS hT hM, trivial⟩

set_option maxRecDepth 100000 in
set_option maxHeartbeats 1600000 in
theorem same1 (v : Value) (w : World) (h : Ep w v) : Calls Tryz.prog 18 #[v, v] w fun e w' => e = .returned (.bool true) ∧ Kp (fun _ => False) w w' := by
  obtain ⟨g, tv, m1, m2, m3, m4, m5, rfl, hl, ht, hm⟩ := h
  have ht' := ht
  obtain ⟨gt, qt, ct, htv, _, _⟩ := ht'
  subst htv
  have kd : Kp (fun _ => False) w w.drew := (Kp.refl _ _).drew
  have hS := hl.keep kd id
  have hT := ht.keep kd
  have hM := hm.keep kd
  clear hl ht hm
  go_enter Tryz.func18, Tryz.ntmps18
  go_wp2_with fail
  refine mono_region (by kernel_rfl) smT (by kernel_rfl) 37 (smB g gt m1 m2 m3 m4 m5) (smR g gt m1 m2 m3 m4 m5) smD rfl ⟨rfl, rfl, rfl⟩ (fun k v a hk h => smB_put g gt m1 m2 m3 m4 m5 k v a hk h) (fun i j h1 h2 => smD_inj0 i h1 j h2) (fun i v w w' h _ => h) (sm_steps g gt m1 m2 m3 m4 m5 _ hS hT hM) ?_
  intro a w9 hn hB k9 hr
  have h4 : a.eval (.tmp 4) = .bool true := hr 32 (by decide)
  have hres : (results Tryz.f18 a.tmps).run Tryz.prog w9 = .ok (.bool true) w9 := by
    rw [← h4]
    simp [results, Tryz.results18, Act.eval]
  go_wp2_with fail
  refine bodyPost_ret hres hB.2.2 ?_
  exact ⟨rfl, kd.trans k9 (fun _ _ e => e)⟩
end Go.Proofs.YtfeecopjacpjnaaGreat
