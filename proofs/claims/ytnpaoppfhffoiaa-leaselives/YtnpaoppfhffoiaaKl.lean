/- The law LeaseLives: the region with both Due calls (laid by scripts/mkkl.py). -/
import Derived.Test.YtnpaoppfhffoiaaKj
import Derived.Test.YtnpaoppfhffoiaaTh
namespace Go.Proofs.Ytnpaoppfhffoiaa
set_option linter.unusedVariables false
set_option linter.unusedSimpArgs false
open Go.RowKit Go.Deep Go.Maps Go.Shelf Go.Lib Go.Sort

theorem le8_0 (L t kb : Nat) (nw : Int) (rv1 rv2 : Value) (ev : Operand → Value) (z : World) (ec : ∀ c, ev (.const c) = c) (e3 : ev (.tmp 3) = .pointer (some ⟨L, 0, none⟩)) (hS : z.cell? ⟨kb, 3, none⟩ = some (.int .i64 nw)) : (execOp ev ⟨some 25, Op.move (Operand.tmp 3), 23, "", #[], none⟩).run Try.prog z = .ok (.value (.pointer (some ⟨L, 0, none⟩))) z := by
  obtain s3 := hS
  go_simp
theorem le8_1 (L t kb : Nat) (nw : Int) (rv1 rv2 : Value) (ev : Operand → Value) (z : World) (ec : ∀ c, ev (.const c) = c) (e6 : ev (.tmp 6) = .pointer (some ⟨kb, 0, none⟩)) (hS : z.cell? ⟨kb, 3, none⟩ = some (.int .i64 nw)) : (execOp ev ⟨some 26, Op.fieldAddr 30 (Operand.tmp 6) 3, 0, "", #[], none⟩).run Try.prog z = .ok (.value (.pointer (some ⟨kb, 3, none⟩))) z := by
  obtain s3 := hS
  go_simp
theorem le8_2 (L t kb : Nat) (nw : Int) (rv1 rv2 : Value) (ev : Operand → Value) (z : World) (ec : ∀ c, ev (.const c) = c) (e26 : ev (.tmp 26) = .pointer (some ⟨kb, 3, none⟩)) (hS : z.cell? ⟨kb, 3, none⟩ = some (.int .i64 nw)) : (execOp ev ⟨some 27, Op.load 3 (Operand.tmp 26), 3, "", #[], none⟩).run Try.prog z = .ok (.value (.int .i64 nw)) z := by
  obtain s3 := hS
  go_simp
theorem le8_4 (L t kb : Nat) (nw : Int) (rv1 rv2 : Value) (ev : Operand → Value) (z : World) (ec : ∀ c, ev (.const c) = c) (e4 : ev (.tmp 4) = .pointer (some ⟨t, 0, none⟩)) (hS : z.cell? ⟨kb, 3, none⟩ = some (.int .i64 nw)) : (execOp ev ⟨some 29, Op.move (Operand.tmp 4), 25, "", #[], none⟩).run Try.prog z = .ok (.value (.pointer (some ⟨t, 0, none⟩))) z := by
  obtain s3 := hS
  go_simp
theorem le8_5 (L t kb : Nat) (nw : Int) (rv1 rv2 : Value) (ev : Operand → Value) (z : World) (ec : ∀ c, ev (.const c) = c) (e6 : ev (.tmp 6) = .pointer (some ⟨kb, 0, none⟩)) (hS : z.cell? ⟨kb, 3, none⟩ = some (.int .i64 nw)) : (execOp ev ⟨some 30, Op.fieldAddr 30 (Operand.tmp 6) 3, 0, "", #[], none⟩).run Try.prog z = .ok (.value (.pointer (some ⟨kb, 3, none⟩))) z := by
  obtain s3 := hS
  go_simp
theorem le8_6 (L t kb : Nat) (nw : Int) (rv1 rv2 : Value) (ev : Operand → Value) (z : World) (ec : ∀ c, ev (.const c) = c) (e30 : ev (.tmp 30) = .pointer (some ⟨kb, 3, none⟩)) (hS : z.cell? ⟨kb, 3, none⟩ = some (.int .i64 nw)) : (execOp ev ⟨some 31, Op.load 3 (Operand.tmp 30), 3, "", #[], none⟩).run Try.prog z = .ok (.value (.int .i64 nw)) z := by
  obtain s3 := hS
  go_simp
theorem le8_3 (L t kb : Nat) (nw : Int) (rv1 rv2 : Value) (ev : Operand → Value) (z : World) (ef : ev (.func 15) = .func (.func 15) #[] #[]) (e25 : ev (.tmp 25) = .pointer (some ⟨L, 0, none⟩)) (e27 : ev (.tmp 27) = .int .i64 nw) : (execOp ev ⟨some 28, Op.call { callee := Callee.value (Operand.func 15), args := #[Operand.tmp 25, Operand.tmp 27], argTypes := #[23, 3] }, 38, "", #[], none⟩).run Try.prog z = .ok (.enter 15 #[.pointer (some ⟨L, 0, none⟩), .int .i64 nw]) z :=
  enter_run _ ef (by simp only [List.map_toArray, List.map_cons, List.map_nil, e25, e27]) (fun _ => by rfl)
theorem le8_7 (L t kb : Nat) (nw : Int) (rv1 rv2 : Value) (ev : Operand → Value) (z : World) (ef : ev (.func 16) = .func (.func 16) #[] #[]) (e29 : ev (.tmp 29) = .pointer (some ⟨t, 0, none⟩)) (e31 : ev (.tmp 31) = .int .i64 nw) : (execOp ev ⟨some 32, Op.call { callee := Callee.value (Operand.func 16), args := #[Operand.tmp 29, Operand.tmp 31], argTypes := #[25, 3] }, 38, "", #[], none⟩).run Try.prog z = .ok (.enter 16 #[.pointer (some ⟨t, 0, none⟩), .int .i64 nw]) z :=
  enter_run _ ef (by simp only [List.map_toArray, List.map_cons, List.map_nil, e29, e31]) (fun _ => by rfl)
theorem le8_8 (L t kb : Nat) (nw : Int) (rv1 rv2 : Value) (ev : Operand → Value) (z : World) (ef : ev (.func 14) = .func (.func 14) #[] #[]) (e28 : ev (.tmp 28) = rv1) (e32 : ev (.tmp 32) = rv2) : (execOp ev ⟨some 33, Op.call { callee := Callee.value (Operand.func 14), args := #[Operand.tmp 28, Operand.tmp 32], argTypes := #[38, 38] }, 4, "", #[], none⟩).run Try.prog z = .ok (.enter 14 #[rv1, rv2]) z :=
  enter_run _ ef (by simp only [List.map_toArray, List.map_cons, List.map_nil, e28, e32]) (fun _ => by rfl)
theorem le8_9 (L t kb : Nat) (nw : Int) (rv1 rv2 : Value) (ev : Operand → Value) (z : World) (ec : ∀ c, ev (.const c) = c) (e33 : ev (.tmp 33) = .bool true) (hS : z.cell? ⟨kb, 3, none⟩ = some (.int .i64 nw)) : (execOp ev ⟨some 34, Op.unOp UnOp.not 4 (Operand.tmp 33), 4, "", #[], none⟩).run Try.prog z = .ok (.value (.bool false)) z := by
  obtain s3 := hS
  go_simp
structure le8R (ops : Array Oper) : Prop where
  size : ops.size = 10
  sel : Region.noSelect ops = true
  o0 : (ops[0]?).map bare = some ⟨some 25, Op.move (Operand.tmp 3), 23, "", #[], none⟩
  o1 : (ops[1]?).map bare = some ⟨some 26, Op.fieldAddr 30 (Operand.tmp 6) 3, 0, "", #[], none⟩
  o2 : (ops[2]?).map bare = some ⟨some 27, Op.load 3 (Operand.tmp 26), 3, "", #[], none⟩
  o3 : (ops[3]?).map bare = some ⟨some 28, Op.call { callee := Callee.value (Operand.func 15), args := #[Operand.tmp 25, Operand.tmp 27], argTypes := #[23, 3] }, 38, "", #[], none⟩
  o4 : (ops[4]?).map bare = some ⟨some 29, Op.move (Operand.tmp 4), 25, "", #[], none⟩
  o5 : (ops[5]?).map bare = some ⟨some 30, Op.fieldAddr 30 (Operand.tmp 6) 3, 0, "", #[], none⟩
  o6 : (ops[6]?).map bare = some ⟨some 31, Op.load 3 (Operand.tmp 30), 3, "", #[], none⟩
  o7 : (ops[7]?).map bare = some ⟨some 32, Op.call { callee := Callee.value (Operand.func 16), args := #[Operand.tmp 29, Operand.tmp 31], argTypes := #[25, 3] }, 38, "", #[], none⟩
  o8 : (ops[8]?).map bare = some ⟨some 33, Op.call { callee := Callee.value (Operand.func 14), args := #[Operand.tmp 28, Operand.tmp 32], argTypes := #[38, 38] }, 4, "", #[], none⟩
  o9 : (ops[9]?).map bare = some ⟨some 34, Op.unOp UnOp.not 4 (Operand.tmp 33), 4, "", #[], none⟩
  may0 : takeB .any ops [0, 1, 2, 4, 5, 6] (Array.replicate 10 false) = true
  r3 : Region.ready .any ops (mark [0, 1, 2, 4, 5, 6] (Array.replicate 10 false)) = [3]
  r7 : Region.ready .any ops ((mark [0, 1, 2, 4, 5, 6] (Array.replicate 10 false)).setIfInBounds 3 true) = [7]
  r8 : Region.ready .any ops (((mark [0, 1, 2, 4, 5, 6] (Array.replicate 10 false)).setIfInBounds 3 true).setIfInBounds 7 true) = [8]
  may1 : takeB .any ops [9] ((((mark [0, 1, 2, 4, 5, 6] (Array.replicate 10 false)).setIfInBounds 3 true).setIfInBounds 7 true).setIfInBounds 8 true) = true
  fin : Region.ready .any ops (mark [9] ((((mark [0, 1, 2, 4, 5, 6] (Array.replicate 10 false)).setIfInBounds 3 true).setIfInBounds 7 true).setIfInBounds 8 true)) = []

set_option maxRecDepth 100000 in
set_option maxHeartbeats 3200000 in
theorem le8_region {ops : Array Oper} {id : Nat} {Q : Exit → Act → World → Prop} {a : Act} {y : World} (R : le8R ops) (L t kb : Nat) (nw : Int) (rv1 rv2 : Value)
    (hQ : ∀ d v c a w, Q (.panic c) (a.put d v) w → Q (.panic c) a w) (hsz : a.tmps.size = 90) (e3 : a.eval (.tmp 3) = .pointer (some ⟨L, 0, none⟩)) (e4 : a.eval (.tmp 4) = .pointer (some ⟨t, 0, none⟩)) (e6 : a.eval (.tmp 6) = .pointer (some ⟨kb, 0, none⟩)) (hS0 : y.drew.cell? ⟨kb, 3, none⟩ = some (.int .i64 nw)) (T : World → Prop) (hc : Calls Try.prog 15 #[.pointer (some ⟨L, 0, none⟩), .int .i64 nw] y.drew fun e w9 => ∃ rv1, e = .returned rv1 ∧ w9.cell? ⟨kb, 3, none⟩ = some (.int .i64 nw) ∧ Calls Try.prog 16 #[.pointer (some ⟨t, 0, none⟩), .int .i64 nw] w9 fun e w9 => ∃ rv2, e = .returned rv2 ∧ w9.cell? ⟨kb, 3, none⟩ = some (.int .i64 nw) ∧ Calls Try.prog 14 #[rv1, rv2] w9 fun e w9 => e = .returned (.bool true) ∧ w9.cell? ⟨kb, 3, none⟩ = some (.int .i64 nw) ∧ T w9)
    (hK : ∀ (rv1 rv2 : Value) (w9 : World), T w9 → Q .normal ((((((((((a.put (some 25) (.pointer (some ⟨L, 0, none⟩))).put (some 26) (.pointer (some ⟨kb, 3, none⟩))).put (some 27) (.int .i64 nw)).put (some 29) (.pointer (some ⟨t, 0, none⟩))).put (some 30) (.pointer (some ⟨kb, 3, none⟩))).put (some 31) (.int .i64 nw)).put (some 28) (rv1)).put (some 32) (rv2)).put (some 33) (.bool true)).put (some 34) (.bool false)) w9) : (Code.region id ops true).wp Try.prog Q a y := by
  have HR : Hid (le8R ops) := R
  have hdf : a.defers = a.defers := rfl
  refine wp_region_held_drew (S := (fun z : World => z.cell? ⟨kb, 3, none⟩ = some (.int .i64 nw))) (by kernel_rfl) (hS0) (fun hHeld => ?_)
  rw [R.size]
  clear R
  refine wpAnyH_takes HR.out.sel hQ hHeld [0, 1, 2, 4, 5, 6] 4 _ _ HR.out.may0 ?_
  refine wpTake_stepE ⟨some 25, Op.move (Operand.tmp 3), 23, "", #[], none⟩ 25 (.pointer (some ⟨L, 0, none⟩)) HR.out.o0 rfl (by rw [hsz]; decide) (wanted_none rfl) (fun z hS => le8_0 L t kb nw rv1 rv2 _ z (fun _ => rfl) e3 hS) ?_
  intro a1 ha1 s1 f1 n1 k1
  replace hsz := s1.trans hsz
  replace hdf := f1.trans hdf
  replace e4 := (k1 4 (by decide)).trans e4
  replace e6 := (k1 6 (by decide)).trans e6
  have e25 := n1
  clear s1 f1 n1 k1
  refine wpTake_stepE ⟨some 26, Op.fieldAddr 30 (Operand.tmp 6) 3, 0, "", #[], none⟩ 26 (.pointer (some ⟨kb, 3, none⟩)) HR.out.o1 rfl (by rw [hsz]; decide) (wanted_none rfl) (fun z hS => le8_1 L t kb nw rv1 rv2 _ z (fun _ => rfl) e6 hS) ?_
  intro a2 ha2 s1 f1 n1 k1
  replace hsz := s1.trans hsz
  replace hdf := f1.trans hdf
  replace e4 := (k1 4 (by decide)).trans e4
  replace e6 := (k1 6 (by decide)).trans e6
  replace e25 := (k1 25 (by decide)).trans e25
  have e26 := n1
  clear s1 f1 n1 k1
  refine wpTake_stepE ⟨some 27, Op.load 3 (Operand.tmp 26), 3, "", #[], none⟩ 27 (.int .i64 nw) HR.out.o2 rfl (by rw [hsz]; decide) (wanted_none rfl) (fun z hS => le8_2 L t kb nw rv1 rv2 _ z (fun _ => rfl) e26 hS) ?_
  intro a3 ha3 s1 f1 n1 k1
  replace hsz := s1.trans hsz
  replace hdf := f1.trans hdf
  replace e4 := (k1 4 (by decide)).trans e4
  replace e6 := (k1 6 (by decide)).trans e6
  replace e25 := (k1 25 (by decide)).trans e25
  have e27 := n1
  clear s1 f1 n1 k1
  refine wpTake_stepE ⟨some 29, Op.move (Operand.tmp 4), 25, "", #[], none⟩ 29 (.pointer (some ⟨t, 0, none⟩)) HR.out.o4 rfl (by rw [hsz]; decide) (wanted_none rfl) (fun z hS => le8_4 L t kb nw rv1 rv2 _ z (fun _ => rfl) e4 hS) ?_
  intro a4 ha4 s1 f1 n1 k1
  replace hsz := s1.trans hsz
  replace hdf := f1.trans hdf
  replace e6 := (k1 6 (by decide)).trans e6
  replace e25 := (k1 25 (by decide)).trans e25
  replace e27 := (k1 27 (by decide)).trans e27
  have e29 := n1
  clear s1 f1 n1 k1
  refine wpTake_stepE ⟨some 30, Op.fieldAddr 30 (Operand.tmp 6) 3, 0, "", #[], none⟩ 30 (.pointer (some ⟨kb, 3, none⟩)) HR.out.o5 rfl (by rw [hsz]; decide) (wanted_none rfl) (fun z hS => le8_5 L t kb nw rv1 rv2 _ z (fun _ => rfl) e6 hS) ?_
  intro a5 ha5 s1 f1 n1 k1
  replace hsz := s1.trans hsz
  replace hdf := f1.trans hdf
  replace e25 := (k1 25 (by decide)).trans e25
  replace e27 := (k1 27 (by decide)).trans e27
  replace e29 := (k1 29 (by decide)).trans e29
  have e30 := n1
  clear s1 f1 n1 k1
  refine wpTake_stepE ⟨some 31, Op.load 3 (Operand.tmp 30), 3, "", #[], none⟩ 31 (.int .i64 nw) HR.out.o6 rfl (by rw [hsz]; decide) (wanted_none rfl) (fun z hS => le8_6 L t kb nw rv1 rv2 _ z (fun _ => rfl) e30 hS) ?_
  intro a6 ha6 s1 f1 n1 k1
  replace hsz := s1.trans hsz
  replace hdf := f1.trans hdf
  replace e25 := (k1 25 (by decide)).trans e25
  replace e27 := (k1 27 (by decide)).trans e27
  replace e29 := (k1 29 (by decide)).trans e29
  have e31 := n1
  clear s1 f1 n1 k1
  refine wpTake_nil ?_
  refine wpAnyH_one ⟨some 28, Op.call { callee := Callee.value (Operand.func 15), args := #[Operand.tmp 25, Operand.tmp 27], argTypes := #[23, 3] }, 38, "", #[], none⟩ HR.out.r3 HR.out.o3 rfl (fun K' hK' => ?_)
  refine wp_enter (le8_3 L t kb nw rv1 rv2 _ _ rfl e25 e27) (hc) ?_
  rintro e9 w9 ⟨rv1, rfl, hS9, hc2⟩
  refine ⟨_, rfl, hK'.out _ _ (hS9) ?_⟩
  replace hHeld := hS9
  clear hK' K'
  show wpAnyH _ _ _ _ _ _ _ (Act.put a6 (some 28) (rv1)) _
  obtain ⟨s1, f1, n1, k1⟩ := act_put a6 28 (rv1) (show 28 < _ by rw [hsz]; decide)
  obtain ⟨a7, ha7⟩ : ∃ x, x = Act.put a6 (some 28) (rv1) := ⟨_, rfl⟩
  rw [← ha7] at s1 f1 n1 k1 ⊢
  replace hsz := s1.trans hsz
  replace hdf := f1.trans hdf
  replace e29 := (k1 29 (by decide)).trans e29
  replace e31 := (k1 31 (by decide)).trans e31
  have e28 := n1
  clear s1 f1 n1 k1
  refine wpAnyH_one ⟨some 32, Op.call { callee := Callee.value (Operand.func 16), args := #[Operand.tmp 29, Operand.tmp 31], argTypes := #[25, 3] }, 38, "", #[], none⟩ HR.out.r7 HR.out.o7 rfl (fun K' hK' => ?_)
  refine wp_enter (le8_7 L t kb nw rv1 rv2 _ _ rfl e29 e31) (hc2) ?_
  rintro e9 w9 ⟨rv2, rfl, hS9, hc3⟩
  refine ⟨_, rfl, hK'.out _ _ (hS9) ?_⟩
  replace hHeld := hS9
  clear hK' K'
  show wpAnyH _ _ _ _ _ _ _ (Act.put a7 (some 32) (rv2)) _
  obtain ⟨s1, f1, n1, k1⟩ := act_put a7 32 (rv2) (show 32 < _ by rw [hsz]; decide)
  obtain ⟨a8, ha8⟩ : ∃ x, x = Act.put a7 (some 32) (rv2) := ⟨_, rfl⟩
  rw [← ha8] at s1 f1 n1 k1 ⊢
  replace hsz := s1.trans hsz
  replace hdf := f1.trans hdf
  replace e28 := (k1 28 (by decide)).trans e28
  have e32 := n1
  clear s1 f1 n1 k1
  refine wpAnyH_one ⟨some 33, Op.call { callee := Callee.value (Operand.func 14), args := #[Operand.tmp 28, Operand.tmp 32], argTypes := #[38, 38] }, 4, "", #[], none⟩ HR.out.r8 HR.out.o8 rfl (fun K' hK' => ?_)
  refine wp_enter (le8_8 L t kb nw rv1 rv2 _ _ rfl e28 e32) (hc3) ?_
  rintro e9 w9 ⟨rfl, hS9, hT⟩
  refine ⟨_, rfl, hK'.out _ _ (hS9) ?_⟩
  replace hHeld := hS9
  clear hK' K'
  show wpAnyH _ _ _ _ _ _ _ (Act.put a8 (some 33) (.bool true)) _
  obtain ⟨s1, f1, n1, k1⟩ := act_put a8 33 (.bool true) (show 33 < _ by rw [hsz]; decide)
  obtain ⟨a9, ha9⟩ : ∃ x, x = Act.put a8 (some 33) (.bool true) := ⟨_, rfl⟩
  rw [← ha9] at s1 f1 n1 k1 ⊢
  replace hsz := s1.trans hsz
  replace hdf := f1.trans hdf
  have e33 := n1
  clear s1 f1 n1 k1
  refine wpAnyH_takes HR.out.sel hQ hHeld [9] 0 _ _ HR.out.may1 ?_
  refine wpTake_stepE ⟨some 34, Op.unOp UnOp.not 4 (Operand.tmp 33), 4, "", #[], none⟩ 34 (.bool false) HR.out.o9 rfl (by rw [hsz]; decide) (wanted_none rfl) (fun z hS => le8_9 L t kb nw rv1 rv2 _ z (fun _ => rfl) e33 hS) ?_
  intro a10 ha10 s1 f1 n1 k1
  replace hsz := s1.trans hsz
  replace hdf := f1.trans hdf
  clear s1 f1 n1 k1
  refine wpTake_nil ?_
  refine wpAnyH_done HR.out.fin ?_ _
  rw [ha10, ha9, ha8, ha7, ha6, ha5, ha4, ha3, ha2, ha1]
  exact hK _ _ _ hT
-- R: ⟨by kernel_rfl, by kernel_rfl, by kernel_rfl, by kernel_rfl, by kernel_rfl, by kernel_rfl, by kernel_rfl, by kernel_rfl, by kernel_rfl, by kernel_rfl, by kernel_rfl, by kernel_rfl, by kernel_rfl, by kernel_rfl, by kernel_rfl, by kernel_rfl, by kernel_rfl, by kernel_rfl⟩

end Go.Proofs.Ytnpaoppfhffoiaa
