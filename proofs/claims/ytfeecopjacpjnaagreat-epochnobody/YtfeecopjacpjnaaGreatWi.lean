/- epoch.New of one node (laid by scripts/mkwi.py). -/
import Derived.Test.YtfeecopjacpjnaaGreatWh
import Derived.Test.YtfeecopjacpjnaaGreatWm
namespace Go.Proofs.YtfeecopjacpjnaaGreat
set_option linter.unusedVariables false
set_option linter.unusedSimpArgs false
open Go.RowKit Go.Deep Go.Maps

/-- the first term: node 0 alone -/
def Tm1 (w : World) (v : Value) : Prop := ∃ gt q c, v = .slice (some ⟨gt, 0, none⟩) 1 1 ∧ Lv w gt [.int .i64 1, .slice q 1 c] ∧ Fl w (fun _ => True) q [.int .i64 0]
theorem Tm1.keep {w w' : World} {v : Value} (h : Tm1 w v) (k : Kp (fun _ => False) w w') : Tm1 w' v := by
  obtain ⟨gt, q, c, h1, h2, h3⟩ := h
  exact ⟨gt, q, c, h1, h2.keep k id, h3.keep k (fun _ _ => id)⟩
/-- a state's cells -/
abbrev stA (tv k1 k2 k3 k4 k5 : Value) : Array Value := #[.int .i64 1, .int .i64 1, .int .i64 1, .bool true, .bool false, .bool false, .bool false, .bool false, .bool false, .bool false, .bool false, .bool false, .bool false, .bool false, .bool false, .bool false, .bool false, .bool false, .bool false, .bool false, .bool false, .bool false, .bool false, .bool false, .bool false, .bool false, .bool false, .bool false, .bool false, .bool false, .bool false, .bool false, .bool false, .bool false, .bool false, tv, .int .i64 1, .int .i64 0, k1, k2, k3, k4, .int .i64 0, k5]
/-- its maps, all empty -/
structure Ms5 (w : World) (m1 m2 m3 m4 m5 : Nat) : Prop where
  a : Em w 9 m1
  b : Em w 3 m2
  c : Em w 84 m3
  d : Em w 3 m4
  e : Em w 3 m5
theorem Ms5.keep {w w' : World} {m1 m2 m3 m4 m5 : Nat} (h : Ms5 w m1 m2 m3 m4 m5) (k : Kp (fun _ => False) w w') : Ms5 w' m1 m2 m3 m4 m5 := ⟨h.a.keep k id, h.b.keep k id, h.c.keep k id, h.d.keep k id, h.e.keep k id⟩
def Sg (w : World) (v : Value) : Prop := ∃ (tv : Value) (m1 m2 m3 m4 m5 : Nat), v = .agg (stA tv (.map (some m1)) (.map (some m2)) (.map (some m3)) (.map (some m4)) (.map (some m5))) ∧ Tm1 w tv ∧ Ms5 w m1 m2 m3 m4 m5
/-- a state of one node -/
def Ep (w : World) (v : Value) : Prop := ∃ (g : Nat) (tv : Value) (m1 m2 m3 m4 m5 : Nat), v = .pointer (some ⟨g, 0, none⟩) ∧ Lv w g (stA tv (.map (some m1)) (.map (some m2)) (.map (some m3)) (.map (some m4)) (.map (some m5))).toList ∧ Tm1 w tv ∧ Ms5 w m1 m2 m3 m4 m5
theorem Ep.keep {w w' : World} {v : Value} (h : Ep w v) (k : Kp (fun _ => False) w w') : Ep w' v := by
  obtain ⟨g, tv, m1, m2, m3, m4, m5, h1, h2, h3, h4⟩ := h
  exact ⟨g, tv, m1, m2, m3, m4, m5, h1, h2.keep k id, h3.keep k, h4.keep k⟩

/-- what each operation of New's region yields -/
def nwR (bs : Nat) : Nat → Value → World → Prop
  | 0, v, _ => v = .pointer (some ⟨bs, 0, none⟩)
  | 1, v, _ => v = .int .i64 1
  | 2, v, _ => v = .pointer (some ⟨bs, 0, none⟩)
  | 3, v, _ => v = .int .i64 1
  | 4, v, _ => v = .agg #[.bool true, .bool false, .bool false, .bool false, .bool false, .bool false, .bool false, .bool false, .bool false, .bool false, .bool false, .bool false, .bool false, .bool false, .bool false, .bool false]
  | 5, v, _ => v = .pointer (some ⟨bs, 1, none⟩)
  | 6, v, _ => v = .int .i64 1
  | 7, v, _ => v = .agg #[.bool true, .bool false, .bool false, .bool false, .bool false, .bool false, .bool false, .bool false, .bool false, .bool false, .bool false, .bool false, .bool false, .bool false, .bool false, .bool false]
  | 8, v, w => ∃ q c, v = .slice q 1 c ∧ Fl w (fun _ => True) q [.int .i64 0]
  | 9, v, w => ∃ q c, v = .agg #[.int .i64 1, .slice q 1 c] ∧ Fl w (fun _ => True) q [.int .i64 0]
  | 10, v, w => Tm1 w v
  | 11, v, _ => v = .pointer (some ⟨bs, 3, none⟩)
  | 12, v, _ => v = .agg #[.int .i64 1, .int .i64 0]
  | 13, v, w => ∃ m, v = .map (some m) ∧ Em w 9 m
  | 14, v, w => ∃ m, v = .map (some m) ∧ Em w 3 m
  | 15, v, w => ∃ m, v = .map (some m) ∧ Em w 84 m
  | 16, v, w => ∃ m, v = .map (some m) ∧ Em w 3 m
  | 17, v, w => ∃ m, v = .map (some m) ∧ Em w 3 m
  | 18, v, w => Sg w v
  | 19, v, w => Ep w v
  | 20, v, w => Ep w v
  | 21, v, _ => v = .int .i64 0
  | _, _, _ => True
theorem em_ex {k : TypeId} {v : Value} {w w' : World} (h : ∃ m, v = .map (some m) ∧ Em w k m) (kk : Kp (fun _ => False) w w') : ∃ m, v = .map (some m) ∧ Em w' k m := by
  obtain ⟨m, h1, h2⟩ := h
  exact ⟨m, h1, h2.keep kk id⟩
theorem nwR_keep (bs i : Nat) (v : Value) (w w' : World) (h : nwR bs i v w) (k : Kp (fun _ => False) w w') : nwR bs i v w' := by
  match i, h with
  | 0, h | 1, h | 2, h | 3, h | 4, h | 5, h | 6, h | 7, h | 11, h | 12, h | 21, h => exact h
  | 8, h => obtain ⟨q, c, h1, h2⟩ := h; exact ⟨q, c, h1, h2.keep k (fun _ _ => id)⟩
  | 9, h => obtain ⟨q, c, h1, h2⟩ := h; exact ⟨q, c, h1, h2.keep k (fun _ _ => id)⟩
  | 10, h => exact Tm1.keep h k
  | 13, h | 14, h | 15, h | 16, h | 17, h => exact em_ex h k
  | 18, h => obtain ⟨tv, m1, m2, m3, m4, m5, h1, h2, h3⟩ := h; exact ⟨tv, m1, m2, m3, m4, m5, h1, h2.keep k, h3.keep k⟩
  | 19, h | 20, h => exact Ep.keep h k
  | _ + 22, h => trivial
def nwD (k : Nat) : Nat := [40, 41, 42, 43, 44, 45, 46, 47, 48, 49, 50, 51, 52, 53, 54, 55, 56, 57, 58, 59, 2, 3].getD k 0
/-- slot 1: the setup's box -/
def nwB (bs : Nat) (a : Act) : Prop := a.eval (.tmp 1) = .pointer (some ⟨bs, 0, none⟩) ∧ a.defers = []
theorem nwB_put (bs k : Nat) (v : Value) (a : Act) (hk : k < 22) (h : nwB bs a) : nwB bs (a.put (some (nwD k)) v) := by
  have hne : 1 ≠ nwD k := by
    have : ([40, 41, 42, 43, 44, 45, 46, 47, 48, 49, 50, 51, 52, 53, 54, 55, 56, 57, 58, 59, 2, 3] : List Nat).all (· ≠ 1) = true := by decide
    intro e
    have hm : nwD k ∈ ([40, 41, 42, 43, 44, 45, 46, 47, 48, 49, 50, 51, 52, 53, 54, 55, 56, 57, 58, 59, 2, 3] : List Nat) := by
      unfold nwD
      rw [List.getD_eq_getElem?_getD, List.getElem?_eq_getElem (by simpa using hk)]
      exact List.getElem_mem _
    rw [← e] at hm
    revert hm
    decide
  refine ⟨?_, h.2⟩
  rw [← h.1]
  show (a.tmps.setIfInBounds (nwD k) v).getD 1 undef = a.tmps.getD 1 undef
  simp [Array.getElem?_setIfInBounds_ne hne.symm]
theorem nwD_inj0 : ∀ i, i < 22 → ∀ j, j < 22 → nwD i = nwD j → i = j := by decide
theorem nwD_inj : ∀ i j, i < 22 → j < 22 → nwD i = nwD j → i = j := fun i j h1 h2 => nwD_inj0 i h1 j h2

theorem step_run {P : Program} {Q : Exit → Act → World → Prop} {o : Oper} {a : Act} {w w' : World} {d : Nat} {v : Value} {K : Act → World → Prop} (hd : o.dst = some d) (hrun : (execOp a.eval o).run P w = .ok (.value v) w') (hK : K (a.put (some d) v) w') : Oper.wp P o a w K Q := by
  unfold Oper.wp
  rw [hrun, Oper.upon_value, hd]
  exact hK

theorem ne_0 (bs : Nat) (ev : Operand → Value) (z : World) (ec : ∀ c, ev (.const c) = c) (e1 : ev (.tmp 1) = .pointer (some ⟨bs, 0, none⟩)) : (execOp ev ⟨some 40, Op.fieldAddr 69 (Operand.tmp 1) 0, 0, "", #[], none⟩).run Tryz.prog z = .ok (.value (.pointer (some ⟨bs, 0, none⟩))) z := by go_simp
set_option maxRecDepth 100000 in
theorem ns_0 {Q : Exit → Act → World → Prop} (bs : Nat) (w0 : World) (hS : Lv w0 bs [.int .i64 1, .int .i64 1, .int .i64 0, .int .i64 1, .int .i64 0]) : StepB Tryz.prog Q 60 (nwB bs) w0 (nwR bs) nwD 0 ⟨some 40, Op.fieldAddr 69 (Operand.tmp 1) 0, 0, "", #[], none⟩ [] := by
  refine ⟨rfl, Or.inl rfl, by decide, by decide, fun a w hn hB hk hd K hK => ?_⟩
  exact step_run rfl (ne_0 bs _ w (fun _ => rfl) hB.1) (hK.out _ w (Kp.refl _ _) rfl)
theorem ne_2 (bs : Nat) (ev : Operand → Value) (z : World) (ec : ∀ c, ev (.const c) = c) (e1 : ev (.tmp 1) = .pointer (some ⟨bs, 0, none⟩)) : (execOp ev ⟨some 42, Op.fieldAddr 69 (Operand.tmp 1) 0, 0, "", #[], none⟩).run Tryz.prog z = .ok (.value (.pointer (some ⟨bs, 0, none⟩))) z := by go_simp
set_option maxRecDepth 100000 in
theorem ns_2 {Q : Exit → Act → World → Prop} (bs : Nat) (w0 : World) (hS : Lv w0 bs [.int .i64 1, .int .i64 1, .int .i64 0, .int .i64 1, .int .i64 0]) : StepB Tryz.prog Q 60 (nwB bs) w0 (nwR bs) nwD 2 ⟨some 42, Op.fieldAddr 69 (Operand.tmp 1) 0, 0, "", #[], none⟩ [] := by
  refine ⟨rfl, Or.inl rfl, by decide, by decide, fun a w hn hB hk hd K hK => ?_⟩
  exact step_run rfl (ne_2 bs _ w (fun _ => rfl) hB.1) (hK.out _ w (Kp.refl _ _) rfl)
theorem ne_5 (bs : Nat) (ev : Operand → Value) (z : World) (ec : ∀ c, ev (.const c) = c) (e1 : ev (.tmp 1) = .pointer (some ⟨bs, 0, none⟩)) : (execOp ev ⟨some 45, Op.fieldAddr 69 (Operand.tmp 1) 1, 0, "", #[], none⟩).run Tryz.prog z = .ok (.value (.pointer (some ⟨bs, 1, none⟩))) z := by go_simp
set_option maxRecDepth 100000 in
theorem ns_5 {Q : Exit → Act → World → Prop} (bs : Nat) (w0 : World) (hS : Lv w0 bs [.int .i64 1, .int .i64 1, .int .i64 0, .int .i64 1, .int .i64 0]) : StepB Tryz.prog Q 60 (nwB bs) w0 (nwR bs) nwD 5 ⟨some 45, Op.fieldAddr 69 (Operand.tmp 1) 1, 0, "", #[], none⟩ [] := by
  refine ⟨rfl, Or.inl rfl, by decide, by decide, fun a w hn hB hk hd K hK => ?_⟩
  exact step_run rfl (ne_5 bs _ w (fun _ => rfl) hB.1) (hK.out _ w (Kp.refl _ _) rfl)
theorem ne_11 (bs : Nat) (ev : Operand → Value) (z : World) (ec : ∀ c, ev (.const c) = c) (e1 : ev (.tmp 1) = .pointer (some ⟨bs, 0, none⟩)) : (execOp ev ⟨some 51, Op.fieldAddr 69 (Operand.tmp 1) 3, 0, "", #[], none⟩).run Tryz.prog z = .ok (.value (.pointer (some ⟨bs, 3, none⟩))) z := by go_simp
set_option maxRecDepth 100000 in
theorem ns_11 {Q : Exit → Act → World → Prop} (bs : Nat) (w0 : World) (hS : Lv w0 bs [.int .i64 1, .int .i64 1, .int .i64 0, .int .i64 1, .int .i64 0]) : StepB Tryz.prog Q 60 (nwB bs) w0 (nwR bs) nwD 11 ⟨some 51, Op.fieldAddr 69 (Operand.tmp 1) 3, 0, "", #[], none⟩ [] := by
  refine ⟨rfl, Or.inl rfl, by decide, by decide, fun a w hn hB hk hd K hK => ?_⟩
  exact step_run rfl (ne_11 bs _ w (fun _ => rfl) hB.1) (hK.out _ w (Kp.refl _ _) rfl)
theorem ne_1 (bs : Nat) (ev : Operand → Value) (z : World) (ec : ∀ c, ev (.const c) = c) (e1 : ev (.tmp 40) = .pointer (some ⟨bs, 0, none⟩)) (hc : z.cell? ⟨bs, 0, none⟩ = some (.int .i64 1)) : (execOp ev ⟨some 41, Op.load 3 (Operand.tmp 40), 3, "", #[], none⟩).run Tryz.prog z = .ok (.value (.int .i64 1)) z := by go_simp
set_option maxRecDepth 100000 in
theorem ns_1 {Q : Exit → Act → World → Prop} (bs : Nat) (w0 : World) (hS : Lv w0 bs [.int .i64 1, .int .i64 1, .int .i64 0, .int .i64 1, .int .i64 0]) : StepB Tryz.prog Q 60 (nwB bs) w0 (nwR bs) nwD 1 ⟨some 41, Op.load 3 (Operand.tmp 40), 3, "", #[], none⟩ [0] := by
  refine ⟨rfl, Or.inl rfl, by decide, by decide, fun a w hn hB hk hd K hK => ?_⟩
  have e1 : a.eval (.tmp 40) = _ := hd 0 (by decide)
  exact step_run rfl (ne_1 bs _ w (fun _ => rfl) e1 ((hS.keep hk id).cell (j := 0) rfl)) (hK.out _ w (Kp.refl _ _) rfl)
theorem ne_3 (bs : Nat) (ev : Operand → Value) (z : World) (ec : ∀ c, ev (.const c) = c) (e1 : ev (.tmp 42) = .pointer (some ⟨bs, 0, none⟩)) (hc : z.cell? ⟨bs, 0, none⟩ = some (.int .i64 1)) : (execOp ev ⟨some 43, Op.load 3 (Operand.tmp 42), 3, "", #[], none⟩).run Tryz.prog z = .ok (.value (.int .i64 1)) z := by go_simp
set_option maxRecDepth 100000 in
theorem ns_3 {Q : Exit → Act → World → Prop} (bs : Nat) (w0 : World) (hS : Lv w0 bs [.int .i64 1, .int .i64 1, .int .i64 0, .int .i64 1, .int .i64 0]) : StepB Tryz.prog Q 60 (nwB bs) w0 (nwR bs) nwD 3 ⟨some 43, Op.load 3 (Operand.tmp 42), 3, "", #[], none⟩ [2] := by
  refine ⟨rfl, Or.inl rfl, by decide, by decide, fun a w hn hB hk hd K hK => ?_⟩
  have e1 : a.eval (.tmp 42) = _ := hd 2 (by decide)
  exact step_run rfl (ne_3 bs _ w (fun _ => rfl) e1 ((hS.keep hk id).cell (j := 0) rfl)) (hK.out _ w (Kp.refl _ _) rfl)
theorem ne_6 (bs : Nat) (ev : Operand → Value) (z : World) (ec : ∀ c, ev (.const c) = c) (e1 : ev (.tmp 45) = .pointer (some ⟨bs, 1, none⟩)) (hc : z.cell? ⟨bs, 1, none⟩ = some (.int .i64 1)) : (execOp ev ⟨some 46, Op.load 3 (Operand.tmp 45), 3, "", #[], none⟩).run Tryz.prog z = .ok (.value (.int .i64 1)) z := by go_simp
set_option maxRecDepth 100000 in
theorem ns_6 {Q : Exit → Act → World → Prop} (bs : Nat) (w0 : World) (hS : Lv w0 bs [.int .i64 1, .int .i64 1, .int .i64 0, .int .i64 1, .int .i64 0]) : StepB Tryz.prog Q 60 (nwB bs) w0 (nwR bs) nwD 6 ⟨some 46, Op.load 3 (Operand.tmp 45), 3, "", #[], none⟩ [5] := by
  refine ⟨rfl, Or.inl rfl, by decide, by decide, fun a w hn hB hk hd K hK => ?_⟩
  have e1 : a.eval (.tmp 45) = _ := hd 5 (by decide)
  exact step_run rfl (ne_6 bs _ w (fun _ => rfl) e1 ((hS.keep hk id).cell (j := 1) rfl)) (hK.out _ w (Kp.refl _ _) rfl)
theorem ne_12 (bs : Nat) (ev : Operand → Value) (z : World) (ec : ∀ c, ev (.const c) = c) (e1 : ev (.tmp 51) = .pointer (some ⟨bs, 3, none⟩)) (hc : z.cell? ⟨bs, 3, none⟩ = some (.int .i64 1)) (hc4 : z.cell? ⟨bs, 4, none⟩ = some (.int .i64 0)) : (execOp ev ⟨some 52, Op.load 24 (Operand.tmp 51), 24, "", #[], none⟩).run Tryz.prog z = .ok (.value (.agg #[.int .i64 1, .int .i64 0])) z := by go_simp
set_option maxRecDepth 100000 in
theorem ns_12 {Q : Exit → Act → World → Prop} (bs : Nat) (w0 : World) (hS : Lv w0 bs [.int .i64 1, .int .i64 1, .int .i64 0, .int .i64 1, .int .i64 0]) : StepB Tryz.prog Q 60 (nwB bs) w0 (nwR bs) nwD 12 ⟨some 52, Op.load 24 (Operand.tmp 51), 24, "", #[], none⟩ [11] := by
  refine ⟨rfl, Or.inl rfl, by decide, by decide, fun a w hn hB hk hd K hK => ?_⟩
  have e1 : a.eval (.tmp 51) = _ := hd 11 (by decide)
  exact step_run rfl (ne_12 bs _ w (fun _ => rfl) e1 ((hS.keep hk id).cell (j := 3) rfl) ((hS.keep hk id).cell (j := 4) rfl)) (hK.out _ w (Kp.refl _ _) rfl)
set_option maxRecDepth 100000 in
theorem ne_4 (ev : Operand → Value) (z : World) (ec : ∀ c, ev (.const c) = c) (ef : ev (.func 50) = .func (.func 50) #[] #[]) (e1 : ev (.tmp 43) = .int .i64 1) : (execOp ev ⟨some 44, Op.call { callee := Callee.value (Operand.func 50), args := #[Operand.tmp 43], argTypes := #[3] }, 30, "", #[], none⟩).run Tryz.prog z = .ok (.enter 50 #[.int .i64 1]) z := enter_run _ ef (by simp only [List.map_toArray, List.map_cons, List.map_nil, ec, e1]) (fun _ => by rfl)
set_option maxRecDepth 100000 in
theorem ns_4 {Q : Exit → Act → World → Prop} (bs : Nat) (w0 : World) (hS : Lv w0 bs [.int .i64 1, .int .i64 1, .int .i64 0, .int .i64 1, .int .i64 0]) : StepB Tryz.prog Q 60 (nwB bs) w0 (nwR bs) nwD 4 ⟨some 44, Op.call { callee := Callee.value (Operand.func 50), args := #[Operand.tmp 43], argTypes := #[3] }, 30, "", #[], none⟩ [3] := by
  refine ⟨rfl, Or.inl rfl, by decide, by decide, fun a w hn hB hk hd K hK => ?_⟩
  have e1 : a.eval (.tmp 43) = _ := hd 3 (by decide)
  refine wp_enter (ne_4 _ w (fun _ => rfl) rfl e1) (first1 w) ?_
  rintro e9 w9 ⟨rfl, k9⟩
  exact ⟨_, rfl, hK.out _ _ k9 rfl⟩
set_option maxRecDepth 100000 in
theorem ne_7 (ev : Operand → Value) (z : World) (ec : ∀ c, ev (.const c) = c) (ef : ev (.func 50) = .func (.func 50) #[] #[]) (e1 : ev (.tmp 46) = .int .i64 1) : (execOp ev ⟨some 47, Op.call { callee := Callee.value (Operand.func 50), args := #[Operand.tmp 46], argTypes := #[3] }, 30, "", #[], none⟩).run Tryz.prog z = .ok (.enter 50 #[.int .i64 1]) z := enter_run _ ef (by simp only [List.map_toArray, List.map_cons, List.map_nil, ec, e1]) (fun _ => by rfl)
set_option maxRecDepth 100000 in
theorem ns_7 {Q : Exit → Act → World → Prop} (bs : Nat) (w0 : World) (hS : Lv w0 bs [.int .i64 1, .int .i64 1, .int .i64 0, .int .i64 1, .int .i64 0]) : StepB Tryz.prog Q 60 (nwB bs) w0 (nwR bs) nwD 7 ⟨some 47, Op.call { callee := Callee.value (Operand.func 50), args := #[Operand.tmp 46], argTypes := #[3] }, 30, "", #[], none⟩ [6, 4] := by
  refine ⟨rfl, Or.inl rfl, by decide, by decide, fun a w hn hB hk hd K hK => ?_⟩
  have e1 : a.eval (.tmp 46) = _ := hd 6 (by decide)
  refine wp_enter (ne_7 _ w (fun _ => rfl) rfl e1) (first1 w) ?_
  rintro e9 w9 ⟨rfl, k9⟩
  exact ⟨_, rfl, hK.out _ _ k9 rfl⟩
set_option maxRecDepth 100000 in
theorem ne_8 (ev : Operand → Value) (z : World) (ec : ∀ c, ev (.const c) = c) (ef : ev (.func 28) = .func (.func 28) #[] #[]) (e1 : ev (.tmp 47) = .agg #[.bool true, .bool false, .bool false, .bool false, .bool false, .bool false, .bool false, .bool false, .bool false, .bool false, .bool false, .bool false, .bool false, .bool false, .bool false, .bool false]) : (execOp ev ⟨some 48, Op.call { callee := Callee.value (Operand.func 28), args := #[Operand.tmp 47], argTypes := #[30] }, 25, "", #[], none⟩).run Tryz.prog z = .ok (.enter 28 #[.agg #[.bool true, .bool false, .bool false, .bool false, .bool false, .bool false, .bool false, .bool false, .bool false, .bool false, .bool false, .bool false, .bool false, .bool false, .bool false, .bool false]]) z := enter_run _ ef (by simp only [List.map_toArray, List.map_cons, List.map_nil, ec, e1]) (fun _ => by rfl)
set_option maxRecDepth 100000 in
theorem ns_8 {Q : Exit → Act → World → Prop} (bs : Nat) (w0 : World) (hS : Lv w0 bs [.int .i64 1, .int .i64 1, .int .i64 0, .int .i64 1, .int .i64 0]) : StepB Tryz.prog Q 60 (nwB bs) w0 (nwR bs) nwD 8 ⟨some 48, Op.call { callee := Callee.value (Operand.func 28), args := #[Operand.tmp 47], argTypes := #[30] }, 25, "", #[], none⟩ [7, 7] := by
  refine ⟨rfl, Or.inl rfl, by decide, by decide, fun a w hn hB hk hd K hK => ?_⟩
  have e1 : a.eval (.tmp 47) = _ := hd 7 (by decide)
  refine wp_enter (ne_8 _ w (fun _ => rfl) rfl e1) (rising1 w) ?_
  rintro e9 w9 ⟨v, rfl, ho, k9⟩
  obtain ⟨q, c, rfl, hf⟩ := own_fl ho
  exact ⟨_, rfl, hK.out _ _ k9 ⟨q, c, rfl, hf.mono (fun _ _ => trivial)⟩⟩
theorem ne_9 (q : Option Addr) (c : Nat) (ev : Operand → Value) (z : World) (ec : ∀ c, ev (.const c) = c) (e1 : ev (.tmp 48) = .slice q 1 c) : (execOp ev ⟨some 49, Op.build 80 #[(0, Operand.const (Value.int IntKind.i64 1)), (1, Operand.tmp 48)], 80, "", #[], none⟩).run Tryz.prog z = .ok (.value (.agg #[.int .i64 1, .slice q 1 c])) z := by go_simp
set_option maxRecDepth 100000 in
theorem ns_9 {Q : Exit → Act → World → Prop} (bs : Nat) (w0 : World) (hS : Lv w0 bs [.int .i64 1, .int .i64 1, .int .i64 0, .int .i64 1, .int .i64 0]) : StepB Tryz.prog Q 60 (nwB bs) w0 (nwR bs) nwD 9 ⟨some 49, Op.build 80 #[(0, Operand.const (Value.int IntKind.i64 1)), (1, Operand.tmp 48)], 80, "", #[], none⟩ [8] := by
  refine ⟨rfl, Or.inl rfl, by decide, by decide, fun a w hn hB hk hd K hK => ?_⟩
  obtain ⟨q, c, e1, hf⟩ := hd 8 (by decide)
  exact step_run rfl (ne_9 q c _ w (fun _ => rfl) e1) (hK.out _ w (Kp.refl _ _) ⟨q, c, rfl, hf⟩)
theorem ne_10 (q : Option Addr) (c : Nat) (ev : Operand → Value) (z : World) (ec : ∀ c, ev (.const c) = c) (e1 : ev (.tmp 49) = .agg #[.int .i64 1, .slice q 1 c]) : (execOp ev ⟨some 50, Op.buildSlice 31 1 #[(0, Operand.tmp 49)], 31, "", #[], none⟩).run Tryz.prog z = .ok (.value (.slice (some ⟨z.heap.size, 0, none⟩) 1 1)) (z.alloc (.cells #[.int .i64 1, .slice q 1 c] 80)) := by go_simp
set_option maxRecDepth 100000 in
theorem ns_10 {Q : Exit → Act → World → Prop} (bs : Nat) (w0 : World) (hS : Lv w0 bs [.int .i64 1, .int .i64 1, .int .i64 0, .int .i64 1, .int .i64 0]) : StepB Tryz.prog Q 60 (nwB bs) w0 (nwR bs) nwD 10 ⟨some 50, Op.buildSlice 31 1 #[(0, Operand.tmp 49)], 31, "", #[], none⟩ [9] := by
  refine ⟨rfl, Or.inl rfl, by decide, by decide, fun a w hn hB hk hd K hK => ?_⟩
  obtain ⟨q, c, e1, hf⟩ := hd 9 (by decide)
  have ka : Kp (fun _ => False) w (w.alloc (.cells #[.int .i64 1, .slice q 1 c] 80)) := (Kp.refl _ _).alloc _
  exact step_run rfl (ne_10 q c _ w (fun _ => rfl) e1) (hK.out _ _ ka ⟨w.heap.size, q, c, rfl, Lv.new w #[.int .i64 1, .slice q 1 c] _, hf.keep ka (fun _ _ => id)⟩)
theorem ne_13 (ev : Operand → Value) (z : World) (ec : ∀ c, ev (.const c) = c) : (execOp ev ⟨some 53, Op.makeMap 32 none, 32, "", #[], none⟩).run Tryz.prog z = .ok (.value (.map (some z.heap.size))) (z.alloc (.map #[] 0)) := rfl
set_option maxRecDepth 100000 in
theorem ns_13 {Q : Exit → Act → World → Prop} (bs : Nat) (w0 : World) (hS : Lv w0 bs [.int .i64 1, .int .i64 1, .int .i64 0, .int .i64 1, .int .i64 0]) : StepB Tryz.prog Q 60 (nwB bs) w0 (nwR bs) nwD 13 ⟨some 53, Op.makeMap 32 none, 32, "", #[], none⟩ [] := by
  refine ⟨rfl, Or.inl rfl, by decide, by decide, fun a w hn hB hk hd K hK => ?_⟩
  exact step_run rfl (ne_13 _ w (fun _ => rfl)) (hK.out _ _ ((Kp.refl _ _).alloc _) ⟨w.heap.size, rfl, Em.made w _⟩)
theorem ne_14 (ev : Operand → Value) (z : World) (ec : ∀ c, ev (.const c) = c) : (execOp ev ⟨some 54, Op.makeMap 33 none, 33, "", #[], none⟩).run Tryz.prog z = .ok (.value (.map (some z.heap.size))) (z.alloc (.map #[] 0)) := rfl
set_option maxRecDepth 100000 in
theorem ns_14 {Q : Exit → Act → World → Prop} (bs : Nat) (w0 : World) (hS : Lv w0 bs [.int .i64 1, .int .i64 1, .int .i64 0, .int .i64 1, .int .i64 0]) : StepB Tryz.prog Q 60 (nwB bs) w0 (nwR bs) nwD 14 ⟨some 54, Op.makeMap 33 none, 33, "", #[], none⟩ [] := by
  refine ⟨rfl, Or.inl rfl, by decide, by decide, fun a w hn hB hk hd K hK => ?_⟩
  exact step_run rfl (ne_14 _ w (fun _ => rfl)) (hK.out _ _ ((Kp.refl _ _).alloc _) ⟨w.heap.size, rfl, Em.made w _⟩)
theorem ne_15 (ev : Operand → Value) (z : World) (ec : ∀ c, ev (.const c) = c) : (execOp ev ⟨some 55, Op.makeMap 34 none, 34, "", #[], none⟩).run Tryz.prog z = .ok (.value (.map (some z.heap.size))) (z.alloc (.map #[] 0)) := rfl
set_option maxRecDepth 100000 in
theorem ns_15 {Q : Exit → Act → World → Prop} (bs : Nat) (w0 : World) (hS : Lv w0 bs [.int .i64 1, .int .i64 1, .int .i64 0, .int .i64 1, .int .i64 0]) : StepB Tryz.prog Q 60 (nwB bs) w0 (nwR bs) nwD 15 ⟨some 55, Op.makeMap 34 none, 34, "", #[], none⟩ [] := by
  refine ⟨rfl, Or.inl rfl, by decide, by decide, fun a w hn hB hk hd K hK => ?_⟩
  exact step_run rfl (ne_15 _ w (fun _ => rfl)) (hK.out _ _ ((Kp.refl _ _).alloc _) ⟨w.heap.size, rfl, Em.made w _⟩)
theorem ne_16 (ev : Operand → Value) (z : World) (ec : ∀ c, ev (.const c) = c) : (execOp ev ⟨some 56, Op.makeMap 35 none, 35, "", #[], none⟩).run Tryz.prog z = .ok (.value (.map (some z.heap.size))) (z.alloc (.map #[] 0)) := rfl
set_option maxRecDepth 100000 in
theorem ns_16 {Q : Exit → Act → World → Prop} (bs : Nat) (w0 : World) (hS : Lv w0 bs [.int .i64 1, .int .i64 1, .int .i64 0, .int .i64 1, .int .i64 0]) : StepB Tryz.prog Q 60 (nwB bs) w0 (nwR bs) nwD 16 ⟨some 56, Op.makeMap 35 none, 35, "", #[], none⟩ [] := by
  refine ⟨rfl, Or.inl rfl, by decide, by decide, fun a w hn hB hk hd K hK => ?_⟩
  exact step_run rfl (ne_16 _ w (fun _ => rfl)) (hK.out _ _ ((Kp.refl _ _).alloc _) ⟨w.heap.size, rfl, Em.made w _⟩)
theorem ne_17 (ev : Operand → Value) (z : World) (ec : ∀ c, ev (.const c) = c) : (execOp ev ⟨some 57, Op.makeMap 36 none, 36, "", #[], none⟩).run Tryz.prog z = .ok (.value (.map (some z.heap.size))) (z.alloc (.map #[] 0)) := rfl
set_option maxRecDepth 100000 in
theorem ns_17 {Q : Exit → Act → World → Prop} (bs : Nat) (w0 : World) (hS : Lv w0 bs [.int .i64 1, .int .i64 1, .int .i64 0, .int .i64 1, .int .i64 0]) : StepB Tryz.prog Q 60 (nwB bs) w0 (nwR bs) nwD 17 ⟨some 57, Op.makeMap 36 none, 36, "", #[], none⟩ [] := by
  refine ⟨rfl, Or.inl rfl, by decide, by decide, fun a w hn hB hk hd K hK => ?_⟩
  exact step_run rfl (ne_17 _ w (fun _ => rfl)) (hK.out _ _ ((Kp.refl _ _).alloc _) ⟨w.heap.size, rfl, Em.made w _⟩)
theorem ne_18 (tv : Value) (gt m1 m2 m3 m4 m5 : Nat) (ht : tv = .slice (some ⟨gt, 0, none⟩) 1 1) (ev : Operand → Value) (z : World) (ec : ∀ c, ev (.const c) = c) (e1 : ev (.tmp 41) = .int .i64 1) (e4 : ev (.tmp 44) = .agg #[.bool true, .bool false, .bool false, .bool false, .bool false, .bool false, .bool false, .bool false, .bool false, .bool false, .bool false, .bool false, .bool false, .bool false, .bool false, .bool false]) (e10 : ev (.tmp 50) = tv) (e12 : ev (.tmp 52) = .agg #[.int .i64 1, .int .i64 0]) (f1 : ev (.tmp 53) = .map (some m1)) (f2 : ev (.tmp 54) = .map (some m2)) (f3 : ev (.tmp 55) = .map (some m3)) (f4 : ev (.tmp 56) = .map (some m4)) (f5 : ev (.tmp 57) = .map (some m5)) : (execOp ev ⟨some 58, Op.build 38 #[(0, Operand.tmp 41), (1, Operand.const (Value.int IntKind.i64 1)), (2, Operand.const (Value.int IntKind.i64 1)), (3, Operand.tmp 44), (5, Operand.tmp 50), (6, Operand.tmp 52), (7, Operand.tmp 53), (8, Operand.tmp 54), (9, Operand.tmp 55), (10, Operand.tmp 56), (12, Operand.tmp 57)], 38, "", #[], none⟩).run Tryz.prog z = .ok (.value (.agg (stA tv (.map (some m1)) (.map (some m2)) (.map (some m3)) (.map (some m4)) (.map (some m5))))) z := by
  subst ht
  go_simp
set_option maxRecDepth 100000 in
theorem ns_18 {Q : Exit → Act → World → Prop} (bs : Nat) (w0 : World) (hS : Lv w0 bs [.int .i64 1, .int .i64 1, .int .i64 0, .int .i64 1, .int .i64 0]) : StepB Tryz.prog Q 60 (nwB bs) w0 (nwR bs) nwD 18 ⟨some 58, Op.build 38 #[(0, Operand.tmp 41), (1, Operand.const (Value.int IntKind.i64 1)), (2, Operand.const (Value.int IntKind.i64 1)), (3, Operand.tmp 44), (5, Operand.tmp 50), (6, Operand.tmp 52), (7, Operand.tmp 53), (8, Operand.tmp 54), (9, Operand.tmp 55), (10, Operand.tmp 56), (12, Operand.tmp 57)], 38, "", #[], none⟩ [1, 4, 10, 12, 13, 14, 15, 16, 17] := by
  refine ⟨rfl, Or.inl rfl, by decide, by decide, fun a w hn hB hk hd K hK => ?_⟩
  have e1 : a.eval (.tmp 41) = _ := hd 1 (by decide)
  have e4 : a.eval (.tmp 44) = _ := hd 4 (by decide)
  have h10 : Tm1 w (a.eval (.tmp 50)) := hd 10 (by decide)
  have e12 : a.eval (.tmp 52) = _ := hd 12 (by decide)
  obtain ⟨m1, f1, h1⟩ := hd 13 (by decide)
  obtain ⟨m2, f2, h2⟩ := hd 14 (by decide)
  obtain ⟨m3, f3, h3⟩ := hd 15 (by decide)
  obtain ⟨m4, f4, h4⟩ := hd 16 (by decide)
  obtain ⟨m5, f5, h5⟩ := hd 17 (by decide)
  have h10' := h10
  obtain ⟨gt, q, c, ht, _, _⟩ := h10'
  exact step_run rfl (ne_18 _ gt m1 m2 m3 m4 m5 ht _ w (fun _ => rfl) e1 e4 rfl e12 f1 f2 f3 f4 f5) (hK.out _ w (Kp.refl _ _) ⟨_, m1, m2, m3, m4, m5, rfl, h10, ⟨h1, h2, h3, h4, h5⟩⟩)
theorem ne_19 (xa : Array Value) (ev : Operand → Value) (z : World) (ec : ∀ c, ev (.const c) = c) (e1 : ev (.tmp 58) = .agg xa) : (execOp ev ⟨some 59, Op.box 38 (Operand.tmp 58), 28, "", #[], none⟩).run Tryz.prog z = .ok (.value (.pointer (some ⟨z.heap.size, 0, none⟩))) (z.alloc (.cells xa 38)) := by go_simp
set_option maxRecDepth 100000 in
theorem ns_19 {Q : Exit → Act → World → Prop} (bs : Nat) (w0 : World) (hS : Lv w0 bs [.int .i64 1, .int .i64 1, .int .i64 0, .int .i64 1, .int .i64 0]) : StepB Tryz.prog Q 60 (nwB bs) w0 (nwR bs) nwD 19 ⟨some 59, Op.box 38 (Operand.tmp 58), 28, "", #[], none⟩ [18] := by
  refine ⟨rfl, Or.inl rfl, by decide, by decide, fun a w hn hB hk hd K hK => ?_⟩
  obtain ⟨tv, m1, m2, m3, m4, m5, e1, h1, h2⟩ := hd 18 (by decide)
  have ka : Kp (fun _ => False) w (w.alloc (.cells (stA tv (.map (some m1)) (.map (some m2)) (.map (some m3)) (.map (some m4)) (.map (some m5))) 38)) := (Kp.refl _ _).alloc _
  exact step_run rfl (ne_19 _ _ w (fun _ => rfl) e1) (hK.out _ _ ka ⟨w.heap.size, tv, m1, m2, m3, m4, m5, rfl, Lv.new w _ _, h1.keep ka, h2.keep ka⟩)
theorem ne_20 (v : Value) (ev : Operand → Value) (z : World) (ec : ∀ c, ev (.const c) = c) (e1 : ev (.tmp 59) = v) : (execOp ev ⟨some 2, Op.assign (Operand.tmp 59), 28, "", #[], none⟩).run Tryz.prog z = .ok (.value v) z := by go_simp
set_option maxRecDepth 100000 in
theorem ns_20 {Q : Exit → Act → World → Prop} (bs : Nat) (w0 : World) (hS : Lv w0 bs [.int .i64 1, .int .i64 1, .int .i64 0, .int .i64 1, .int .i64 0]) : StepB Tryz.prog Q 60 (nwB bs) w0 (nwR bs) nwD 20 ⟨some 2, Op.assign (Operand.tmp 59), 28, "", #[], none⟩ [19, 8, 0, 1, 2, 3, 4, 5, 6, 7, 8, 9, 10, 11, 12, 13, 14, 15, 16, 17, 18, 19] := by
  refine ⟨rfl, Or.inl rfl, by decide, by decide, fun a w hn hB hk hd K hK => ?_⟩
  have h19 : Ep w (a.eval (.tmp 59)) := hd 19 (by decide)
  exact step_run rfl (ne_20 _ _ w (fun _ => rfl) rfl) (hK.out _ w (Kp.refl _ _) h19)
theorem ne_21 (ev : Operand → Value) (z : World) (ec : ∀ c, ev (.const c) = c) : (execOp ev ⟨some 3, Op.assign (Operand.const (Value.int IntKind.i64 0)), 44, "", #[], none⟩).run Tryz.prog z = .ok (.value (.int .i64 0)) z := by go_simp
set_option maxRecDepth 100000 in
theorem ns_21 {Q : Exit → Act → World → Prop} (bs : Nat) (w0 : World) (hS : Lv w0 bs [.int .i64 1, .int .i64 1, .int .i64 0, .int .i64 1, .int .i64 0]) : StepB Tryz.prog Q 60 (nwB bs) w0 (nwR bs) nwD 21 ⟨some 3, Op.assign (Operand.const (Value.int IntKind.i64 0)), 44, "", #[], none⟩ [20, 0, 1, 2, 3, 4, 5, 6, 7, 8, 9, 10, 11, 12, 13, 14, 15, 16, 17, 18, 19, 20] := by
  refine ⟨rfl, Or.inl rfl, by decide, by decide, fun a w hn hB hk hd K hK => ?_⟩
  exact step_run rfl (ne_21 _ w (fun _ => rfl)) (hK.out _ w (Kp.refl _ _) rfl)
def nwT : List (Oper × List Nat) := [(⟨some 40, Op.fieldAddr 69 (Operand.tmp 1) 0, 0, "", #[], none⟩, []), (⟨some 41, Op.load 3 (Operand.tmp 40), 3, "", #[], none⟩, [0]), (⟨some 42, Op.fieldAddr 69 (Operand.tmp 1) 0, 0, "", #[], none⟩, []), (⟨some 43, Op.load 3 (Operand.tmp 42), 3, "", #[], none⟩, [2]), (⟨some 44, Op.call { callee := Callee.value (Operand.func 50), args := #[Operand.tmp 43], argTypes := #[3] }, 30, "", #[], none⟩, [3]), (⟨some 45, Op.fieldAddr 69 (Operand.tmp 1) 1, 0, "", #[], none⟩, []), (⟨some 46, Op.load 3 (Operand.tmp 45), 3, "", #[], none⟩, [5]), (⟨some 47, Op.call { callee := Callee.value (Operand.func 50), args := #[Operand.tmp 46], argTypes := #[3] }, 30, "", #[], none⟩, [6, 4]), (⟨some 48, Op.call { callee := Callee.value (Operand.func 28), args := #[Operand.tmp 47], argTypes := #[30] }, 25, "", #[], none⟩, [7, 7]), (⟨some 49, Op.build 80 #[(0, Operand.const (Value.int IntKind.i64 1)), (1, Operand.tmp 48)], 80, "", #[], none⟩, [8]), (⟨some 50, Op.buildSlice 31 1 #[(0, Operand.tmp 49)], 31, "", #[], none⟩, [9]), (⟨some 51, Op.fieldAddr 69 (Operand.tmp 1) 3, 0, "", #[], none⟩, []), (⟨some 52, Op.load 24 (Operand.tmp 51), 24, "", #[], none⟩, [11]), (⟨some 53, Op.makeMap 32 none, 32, "", #[], none⟩, []), (⟨some 54, Op.makeMap 33 none, 33, "", #[], none⟩, []), (⟨some 55, Op.makeMap 34 none, 34, "", #[], none⟩, []), (⟨some 56, Op.makeMap 35 none, 35, "", #[], none⟩, []), (⟨some 57, Op.makeMap 36 none, 36, "", #[], none⟩, []), (⟨some 58, Op.build 38 #[(0, Operand.tmp 41), (1, Operand.const (Value.int IntKind.i64 1)), (2, Operand.const (Value.int IntKind.i64 1)), (3, Operand.tmp 44), (5, Operand.tmp 50), (6, Operand.tmp 52), (7, Operand.tmp 53), (8, Operand.tmp 54), (9, Operand.tmp 55), (10, Operand.tmp 56), (12, Operand.tmp 57)], 38, "", #[], none⟩, [1, 4, 10, 12, 13, 14, 15, 16, 17]), (⟨some 59, Op.box 38 (Operand.tmp 58), 28, "", #[], none⟩, [18]), (⟨some 2, Op.assign (Operand.tmp 59), 28, "", #[], none⟩, [19, 8, 0, 1, 2, 3, 4, 5, 6, 7, 8, 9, 10, 11, 12, 13, 14, 15, 16, 17, 18, 19]), (⟨some 3, Op.assign (Operand.const (Value.int IntKind.i64 0)), 44, "", #[], none⟩, [20, 0, 1, 2, 3, 4, 5, 6, 7, 8, 9, 10, 11, 12, 13, 14, 15, 16, 17, 18, 19, 20])]

set_option maxRecDepth 100000 in
set_option maxHeartbeats 1600000 in
theorem new1 (w : World) : Calls Tryz.prog 20 #[.agg #[.int .i64 1, .int .i64 1, .int .i64 0, .int .i64 1, .int .i64 0]] w fun e w' => ∃ v, e = .returned (.tuple #[v, .int .i64 0]) ∧ Ep w' v ∧ Kp (fun _ => False) w w' := by
  have HC : Hid (∀ u, Calls _ _ _ u _) := can10
  have HK0 : Hid (Kp (fun _ => False) w (w.alloc (.cells #[.int .i64 1, .int .i64 1, .int .i64 0, .int .i64 1, .int .i64 0] 69))) := (Kp.refl _ _).alloc _
  have HL0 : Hid (Lv (w.alloc (.cells #[.int .i64 1, .int .i64 1, .int .i64 0, .int .i64 1, .int .i64 0] 69)) w.heap.size [.int .i64 1, .int .i64 1, .int .i64 0, .int .i64 1, .int .i64 0]) := Lv.new w #[.int .i64 1, .int .i64 1, .int .i64 0, .int .i64 1, .int .i64 0] _
  go_enter Tryz.func20, Tryz.ntmps20
  go_wp2_with (first
    | (go_at_call 49; refine (HC.out _).mono ?_; rintro e9 w1 ⟨rfl, k1⟩; have HK1 : Hid (Kp (fun _ => False) w w1) := HK0.out.trans k1 (fun _ _ e => e); have HL1 : Hid (Lv w1 w.heap.size [.int .i64 1, .int .i64 1, .int .i64 0, .int .i64 1, .int .i64 0]) := HL0.out.keep k1 id; have c0 : w1.cell? ⟨w.heap.size, 0, none⟩ = some (.int .i64 1) := HL1.out.cell (j := 0) rfl; have c3 : w1.cell? ⟨w.heap.size, 3, none⟩ = some (.int .i64 1) := HL1.out.cell (j := 3) rfl; have c4 : w1.cell? ⟨w.heap.size, 4, none⟩ = some (.int .i64 0) := HL1.out.cell (j := 4) rfl; clear k1)
    | fail)
  have kd : Kp (fun _ => False) w1 w1.drew := (Kp.refl _ _).drew
  have hS : Lv w1.drew w.heap.size [.int .i64 1, .int .i64 1, .int .i64 0, .int .i64 1, .int .i64 0] := HL1.out.keep kd id
  refine mono_region (by kernel_rfl) nwT (by kernel_rfl) 60 (nwB w.heap.size) (nwR w.heap.size) nwD rfl ⟨rfl, rfl⟩ (fun k v a hk h => nwB_put _ k v a hk h) nwD_inj (nwR_keep _) ⟨ns_0 _ _ hS, ns_1 _ _ hS, ns_2 _ _ hS, ns_3 _ _ hS, ns_4 _ _ hS, ns_5 _ _ hS, ns_6 _ _ hS, ns_7 _ _ hS, ns_8 _ _ hS, ns_9 _ _ hS, ns_10 _ _ hS, ns_11 _ _ hS, ns_12 _ _ hS, ns_13 _ _ hS, ns_14 _ _ hS, ns_15 _ _ hS, ns_16 _ _ hS, ns_17 _ _ hS, ns_18 _ _ hS, ns_19 _ _ hS, ns_20 _ _ hS, ns_21 _ _ hS, trivial⟩ ?_
  intro a w9 hn hB k9 hr
  have h20 : Ep w9 (a.eval (.tmp 2)) := hr 20 (by decide)
  have h21 : a.eval (.tmp 3) = .int .i64 0 := hr 21 (by decide)
  have hres : (results Tryz.f20 a.tmps).run Tryz.prog w9 = .ok (.tuple #[a.eval (.tmp 2), .int .i64 0]) w9 := by
    rw [← h21]
    simp [results, Tryz.results20, Act.eval]
  go_wp2_with fail
  refine bodyPost_ret hres hB.2 ?_
  exact ⟨_, rfl, h20, HK1.out.trans (kd.trans k9 (fun _ _ e => e)) (fun _ _ e => e)⟩
end Go.Proofs.YtfeecopjacpjnaaGreat
