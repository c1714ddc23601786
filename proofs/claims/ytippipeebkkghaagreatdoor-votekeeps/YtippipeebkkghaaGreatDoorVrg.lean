/- The reference's log: the regions that write a head (laid by scripts/mkvrg.py). -/
import Derived.Test.YtippipeebkkghaaGreatDoorTi
namespace Go.Proofs.YtippipeebkkghaaGreatDoor
set_option linter.unusedVariables false
set_option linter.unusedSimpArgs false
open Go.RowKit Go.Deep Go.Maps

theorem hd_mk (v : Value) (ev : Operand → Value) (z w1 : World) (ec : ∀ c, ev (.const c) = c) (hr : (Instr.makeSlice 75 (.int .i64 64) (.int .i64 64)).run Tryz.prog z = .ok v w1) : (execOp ev ⟨some 11, Op.makeSlice 75 (Operand.const (Value.int IntKind.i64 64)) (Operand.const (Value.int IntKind.i64 64)), 75, "", #[], none⟩).run Tryz.prog z = .ok (.value v) w1 := by
  unfold execOp
  simp only [ec, hr, Sem.run_bind, Sem.run_pure, Result.andThen_ok]
theorem hw1_0 (wx x h0 xb : Nat) (w1 : World) (ev : Operand → Value) (z : World) (ec : ∀ c, ev (.const c) = c) (e0 : ev (.tmp 0) = .pointer (some ⟨wx, 0, none⟩)) (hS : z.cell? ⟨wx, 0, none⟩ = some (.pointer (some ⟨x, 0, none⟩)) ∧ z.cell? ⟨h0, 0, none⟩ = some (.int .i64 1) ∧ z.cell? ⟨h0, 1, none⟩ = some (.int .i64 1) ∧ z.cell? ⟨h0, 2, none⟩ = some (.int .i64 0) ∧ z.cell? ⟨h0, 3, none⟩ = some (.int .i64 1)) : (execOp ev ⟨some 4, Op.move (Operand.tmp 0), 157, "", #[], none⟩).run Tryz.prog z = .ok (.value (.pointer (some ⟨wx, 0, none⟩))) z := by
  obtain ⟨s1, s2, s3, s4, s5⟩ := hS
  go_simp
theorem hw1_1 (wx x h0 xb : Nat) (w1 : World) (ev : Operand → Value) (z : World) (ec : ∀ c, ev (.const c) = c) (e4 : ev (.tmp 4) = .pointer (some ⟨wx, 0, none⟩)) (hS : z.cell? ⟨wx, 0, none⟩ = some (.pointer (some ⟨x, 0, none⟩)) ∧ z.cell? ⟨h0, 0, none⟩ = some (.int .i64 1) ∧ z.cell? ⟨h0, 1, none⟩ = some (.int .i64 1) ∧ z.cell? ⟨h0, 2, none⟩ = some (.int .i64 0) ∧ z.cell? ⟨h0, 3, none⟩ = some (.int .i64 1)) : (execOp ev ⟨some 5, Op.nilCheck (Operand.tmp 4), 0, "", #[], none⟩).run Tryz.prog z = .ok (.value (.pointer (some ⟨wx, 0, none⟩))) z := by
  obtain ⟨s1, s2, s3, s4, s5⟩ := hS
  go_simp
theorem hw1_2 (wx x h0 xb : Nat) (w1 : World) (ev : Operand → Value) (z : World) (ec : ∀ c, ev (.const c) = c) (e5 : ev (.tmp 5) = .pointer (some ⟨wx, 0, none⟩)) (hS : z.cell? ⟨wx, 0, none⟩ = some (.pointer (some ⟨x, 0, none⟩)) ∧ z.cell? ⟨h0, 0, none⟩ = some (.int .i64 1) ∧ z.cell? ⟨h0, 1, none⟩ = some (.int .i64 1) ∧ z.cell? ⟨h0, 2, none⟩ = some (.int .i64 0) ∧ z.cell? ⟨h0, 3, none⟩ = some (.int .i64 1)) : (execOp ev ⟨some 6, Op.fieldAddr 220 (Operand.tmp 5) 0, 0, "", #[], none⟩).run Tryz.prog z = .ok (.value (.pointer (some ⟨wx, 0, none⟩))) z := by
  obtain ⟨s1, s2, s3, s4, s5⟩ := hS
  go_simp
theorem hw1_3 (wx x h0 xb : Nat) (w1 : World) (ev : Operand → Value) (z : World) (ec : ∀ c, ev (.const c) = c) (e6 : ev (.tmp 6) = .pointer (some ⟨wx, 0, none⟩)) (hS : z.cell? ⟨wx, 0, none⟩ = some (.pointer (some ⟨x, 0, none⟩)) ∧ z.cell? ⟨h0, 0, none⟩ = some (.int .i64 1) ∧ z.cell? ⟨h0, 1, none⟩ = some (.int .i64 1) ∧ z.cell? ⟨h0, 2, none⟩ = some (.int .i64 0) ∧ z.cell? ⟨h0, 3, none⟩ = some (.int .i64 1)) : (execOp ev ⟨some 7, Op.load 42 (Operand.tmp 6), 42, "", #[], none⟩).run Tryz.prog z = .ok (.value (.pointer (some ⟨x, 0, none⟩))) z := by
  obtain ⟨s1, s2, s3, s4, s5⟩ := hS
  go_simp
theorem hw1_4 (wx x h0 xb : Nat) (w1 : World) (ev : Operand → Value) (z : World) (ec : ∀ c, ev (.const c) = c) (e3 : ev (.tmp 3) = .pointer (some ⟨h0, 0, none⟩)) (hS : z.cell? ⟨wx, 0, none⟩ = some (.pointer (some ⟨x, 0, none⟩)) ∧ z.cell? ⟨h0, 0, none⟩ = some (.int .i64 1) ∧ z.cell? ⟨h0, 1, none⟩ = some (.int .i64 1) ∧ z.cell? ⟨h0, 2, none⟩ = some (.int .i64 0) ∧ z.cell? ⟨h0, 3, none⟩ = some (.int .i64 1)) : (execOp ev ⟨some 8, Op.fieldAddr 218 (Operand.tmp 3) 0, 0, "", #[], none⟩).run Tryz.prog z = .ok (.value (.pointer (some ⟨h0, 0, none⟩))) z := by
  obtain ⟨s1, s2, s3, s4, s5⟩ := hS
  go_simp
theorem hw1_5 (wx x h0 xb : Nat) (w1 : World) (ev : Operand → Value) (z : World) (ec : ∀ c, ev (.const c) = c) (e8 : ev (.tmp 8) = .pointer (some ⟨h0, 0, none⟩)) (hS : z.cell? ⟨wx, 0, none⟩ = some (.pointer (some ⟨x, 0, none⟩)) ∧ z.cell? ⟨h0, 0, none⟩ = some (.int .i64 1) ∧ z.cell? ⟨h0, 1, none⟩ = some (.int .i64 1) ∧ z.cell? ⟨h0, 2, none⟩ = some (.int .i64 0) ∧ z.cell? ⟨h0, 3, none⟩ = some (.int .i64 1)) : (execOp ev ⟨some 9, Op.load 3 (Operand.tmp 8), 3, "", #[], none⟩).run Tryz.prog z = .ok (.value (.int .i64 1)) z := by
  obtain ⟨s1, s2, s3, s4, s5⟩ := hS
  go_simp
theorem hw1_6 (wx x h0 xb : Nat) (w1 : World) (ev : Operand → Value) (z : World) (ec : ∀ c, ev (.const c) = c) (e9 : ev (.tmp 9) = .int .i64 1) (hS : z.cell? ⟨wx, 0, none⟩ = some (.pointer (some ⟨x, 0, none⟩)) ∧ z.cell? ⟨h0, 0, none⟩ = some (.int .i64 1) ∧ z.cell? ⟨h0, 1, none⟩ = some (.int .i64 1) ∧ z.cell? ⟨h0, 2, none⟩ = some (.int .i64 0) ∧ z.cell? ⟨h0, 3, none⟩ = some (.int .i64 1)) : (execOp ev ⟨some 10, Op.binOp BinOp.rem 3 (Operand.tmp 9) (Operand.const (Value.int IntKind.i64 2)) 3, 3, "", #[], none⟩).run Tryz.prog z = .ok (.value (.int .i64 1)) z := by
  obtain ⟨s1, s2, s3, s4, s5⟩ := hS
  go_simp
set_option maxRecDepth 100000 in
theorem hw1_8 (wx x h0 xb : Nat) (w1 : World) (ev : Operand → Value) (z : World) (ec : ∀ c, ev (.const c) = c) (ef : ev (.func 159) = .func (.func 159) #[] #[]) (e7 : ev (.tmp 7) = .pointer (some ⟨x, 0, none⟩)) (e10 : ev (.tmp 10) = .int .i64 1) (e11 : ev (.tmp 11) = .slice (some ⟨xb, 0, none⟩) 64 64) : (execOp ev ⟨some 12, Op.call { callee := Callee.value (Operand.func 159), args := #[Operand.tmp 7, Operand.tmp 10, Operand.tmp 11], argTypes := #[42, 3, 75] }, 37, "", #[], none⟩).run Tryz.prog z = .ok (.enter 159 #[.pointer (some ⟨x, 0, none⟩), .int .i64 1, .slice (some ⟨xb, 0, none⟩) 64 64]) z :=
  enter_run _ ef (by simp only [List.map_toArray, List.map_cons, List.map_nil, ec, e7, e10, e11]) (fun _ => by rfl)
structure hw1R (ops : Array Oper) : Prop where
  size : ops.size = 9
  sel : Region.noSelect ops = true
  o0 : (ops[0]?).map bare = some ⟨some 4, Op.move (Operand.tmp 0), 157, "", #[], none⟩
  o1 : (ops[1]?).map bare = some ⟨some 5, Op.nilCheck (Operand.tmp 4), 0, "", #[], none⟩
  o2 : (ops[2]?).map bare = some ⟨some 6, Op.fieldAddr 220 (Operand.tmp 5) 0, 0, "", #[], none⟩
  o3 : (ops[3]?).map bare = some ⟨some 7, Op.load 42 (Operand.tmp 6), 42, "", #[], none⟩
  o4 : (ops[4]?).map bare = some ⟨some 8, Op.fieldAddr 218 (Operand.tmp 3) 0, 0, "", #[], none⟩
  o5 : (ops[5]?).map bare = some ⟨some 9, Op.load 3 (Operand.tmp 8), 3, "", #[], none⟩
  o6 : (ops[6]?).map bare = some ⟨some 10, Op.binOp BinOp.rem 3 (Operand.tmp 9) (Operand.const (Value.int IntKind.i64 2)) 3, 3, "", #[], none⟩
  o7 : (ops[7]?).map bare = some ⟨some 11, Op.makeSlice 75 (Operand.const (Value.int IntKind.i64 64)) (Operand.const (Value.int IntKind.i64 64)), 75, "", #[], none⟩
  o8 : (ops[8]?).map bare = some ⟨some 12, Op.call { callee := Callee.value (Operand.func 159), args := #[Operand.tmp 7, Operand.tmp 10, Operand.tmp 11], argTypes := #[42, 3, 75] }, 37, "", #[], none⟩
  may0 : takeB .any ops [0, 1, 2, 3, 4, 5, 6] (Array.replicate 9 false) = true
  r7 : Region.ready .any ops (mark [0, 1, 2, 3, 4, 5, 6] (Array.replicate 9 false)) = [7]
  r8 : Region.ready .any ops ((mark [0, 1, 2, 3, 4, 5, 6] (Array.replicate 9 false)).setIfInBounds 7 true) = [8]
  fin : Region.ready .any ops (((mark [0, 1, 2, 3, 4, 5, 6] (Array.replicate 9 false)).setIfInBounds 7 true).setIfInBounds 8 true) = []

set_option maxRecDepth 100000 in
set_option maxHeartbeats 3200000 in
theorem hw1_region {ops : Array Oper} {id : Nat} {Q : Exit → Act → World → Prop} {a : Act} {y : World} (R : hw1R ops) (wx x h0 xb : Nat) (w1 : World)
    (hQ : ∀ d v c a w, Q (.panic c) (a.put d v) w → Q (.panic c) a w) (hsz : a.tmps.size = 37) (e0 : a.eval (.tmp 0) = .pointer (some ⟨wx, 0, none⟩)) (e3 : a.eval (.tmp 3) = .pointer (some ⟨h0, 0, none⟩)) (hS0 : y.drew.cell? ⟨wx, 0, none⟩ = some (.pointer (some ⟨x, 0, none⟩)) ∧ y.drew.cell? ⟨h0, 0, none⟩ = some (.int .i64 1) ∧ y.drew.cell? ⟨h0, 1, none⟩ = some (.int .i64 1) ∧ y.drew.cell? ⟨h0, 2, none⟩ = some (.int .i64 0) ∧ y.drew.cell? ⟨h0, 3, none⟩ = some (.int .i64 1)) (hmk : (Instr.makeSlice 75 (.int .i64 64) (.int .i64 64)).run Tryz.prog y.drew = .ok (.slice (some ⟨xb, 0, none⟩) 64 64) w1) (hS1 : w1.cell? ⟨wx, 0, none⟩ = some (.pointer (some ⟨x, 0, none⟩)) ∧ w1.cell? ⟨h0, 0, none⟩ = some (.int .i64 1) ∧ w1.cell? ⟨h0, 1, none⟩ = some (.int .i64 1) ∧ w1.cell? ⟨h0, 2, none⟩ = some (.int .i64 0) ∧ w1.cell? ⟨h0, 3, none⟩ = some (.int .i64 1)) (T : World → Prop) (hc : Calls Tryz.prog 159 #[.pointer (some ⟨x, 0, none⟩), .int .i64 1, .slice (some ⟨xb, 0, none⟩) 64 64] w1 fun e w9 => e = .returned (.int .i64 0) ∧ (w9.cell? ⟨wx, 0, none⟩ = some (.pointer (some ⟨x, 0, none⟩)) ∧ w9.cell? ⟨h0, 0, none⟩ = some (.int .i64 1) ∧ w9.cell? ⟨h0, 1, none⟩ = some (.int .i64 1) ∧ w9.cell? ⟨h0, 2, none⟩ = some (.int .i64 0) ∧ w9.cell? ⟨h0, 3, none⟩ = some (.int .i64 1)) ∧ T w9)
    (hK : ∀ w9 : World, T w9 → Q .normal (((((((((a.put (some 4) (.pointer (some ⟨wx, 0, none⟩))).put (some 5) (.pointer (some ⟨wx, 0, none⟩))).put (some 6) (.pointer (some ⟨wx, 0, none⟩))).put (some 7) (.pointer (some ⟨x, 0, none⟩))).put (some 8) (.pointer (some ⟨h0, 0, none⟩))).put (some 9) (.int .i64 1)).put (some 10) (.int .i64 1)).put (some 11) (.slice (some ⟨xb, 0, none⟩) 64 64)).put (some 12) (.int .i64 0)) w9) : (Code.region id ops true).wp Tryz.prog Q a y := by
  have HR : Hid (hw1R ops) := R
  have hdf : a.defers = a.defers := rfl
  refine wp_region_held_drew (S := (fun z : World => z.cell? ⟨wx, 0, none⟩ = some (.pointer (some ⟨x, 0, none⟩)) ∧ z.cell? ⟨h0, 0, none⟩ = some (.int .i64 1) ∧ z.cell? ⟨h0, 1, none⟩ = some (.int .i64 1) ∧ z.cell? ⟨h0, 2, none⟩ = some (.int .i64 0) ∧ z.cell? ⟨h0, 3, none⟩ = some (.int .i64 1))) (by kernel_rfl) (hS0) (fun hHeld => ?_)
  rw [R.size]
  clear R
  refine wpAnyH_takes HR.out.sel hQ hHeld [0, 1, 2, 3, 4, 5, 6] 2 _ _ HR.out.may0 ?_
  refine wpTake_stepE ⟨some 4, Op.move (Operand.tmp 0), 157, "", #[], none⟩ 4 (.pointer (some ⟨wx, 0, none⟩)) HR.out.o0 rfl (by rw [hsz]; decide) (wanted_none rfl) (fun z hS => hw1_0 wx x h0 xb w1 _ z (fun _ => rfl) e0 hS) ?_
  intro a1 ha1 s1 f1 n1 k1
  replace hsz := s1.trans hsz
  replace hdf := f1.trans hdf
  replace e3 := (k1 3 (by decide)).trans e3
  have e4 := n1
  clear s1 f1 n1 k1
  refine wpTake_stepE ⟨some 5, Op.nilCheck (Operand.tmp 4), 0, "", #[], none⟩ 5 (.pointer (some ⟨wx, 0, none⟩)) HR.out.o1 rfl (by rw [hsz]; decide) (wanted_none rfl) (fun z hS => hw1_1 wx x h0 xb w1 _ z (fun _ => rfl) e4 hS) ?_
  intro a2 ha2 s1 f1 n1 k1
  replace hsz := s1.trans hsz
  replace hdf := f1.trans hdf
  replace e3 := (k1 3 (by decide)).trans e3
  have e5 := n1
  clear s1 f1 n1 k1
  refine wpTake_stepE ⟨some 6, Op.fieldAddr 220 (Operand.tmp 5) 0, 0, "", #[], none⟩ 6 (.pointer (some ⟨wx, 0, none⟩)) HR.out.o2 rfl (by rw [hsz]; decide) (wanted_none rfl) (fun z hS => hw1_2 wx x h0 xb w1 _ z (fun _ => rfl) e5 hS) ?_
  intro a3 ha3 s1 f1 n1 k1
  replace hsz := s1.trans hsz
  replace hdf := f1.trans hdf
  replace e3 := (k1 3 (by decide)).trans e3
  have e6 := n1
  clear s1 f1 n1 k1
  refine wpTake_stepE ⟨some 7, Op.load 42 (Operand.tmp 6), 42, "", #[], none⟩ 7 (.pointer (some ⟨x, 0, none⟩)) HR.out.o3 rfl (by rw [hsz]; decide) (wanted_none rfl) (fun z hS => hw1_3 wx x h0 xb w1 _ z (fun _ => rfl) e6 hS) ?_
  intro a4 ha4 s1 f1 n1 k1
  replace hsz := s1.trans hsz
  replace hdf := f1.trans hdf
  replace e3 := (k1 3 (by decide)).trans e3
  have e7 := n1
  clear s1 f1 n1 k1
  refine wpTake_stepE ⟨some 8, Op.fieldAddr 218 (Operand.tmp 3) 0, 0, "", #[], none⟩ 8 (.pointer (some ⟨h0, 0, none⟩)) HR.out.o4 rfl (by rw [hsz]; decide) (wanted_none rfl) (fun z hS => hw1_4 wx x h0 xb w1 _ z (fun _ => rfl) e3 hS) ?_
  intro a5 ha5 s1 f1 n1 k1
  replace hsz := s1.trans hsz
  replace hdf := f1.trans hdf
  replace e7 := (k1 7 (by decide)).trans e7
  have e8 := n1
  clear s1 f1 n1 k1
  refine wpTake_stepE ⟨some 9, Op.load 3 (Operand.tmp 8), 3, "", #[], none⟩ 9 (.int .i64 1) HR.out.o5 rfl (by rw [hsz]; decide) (wanted_none rfl) (fun z hS => hw1_5 wx x h0 xb w1 _ z (fun _ => rfl) e8 hS) ?_
  intro a6 ha6 s1 f1 n1 k1
  replace hsz := s1.trans hsz
  replace hdf := f1.trans hdf
  replace e7 := (k1 7 (by decide)).trans e7
  have e9 := n1
  clear s1 f1 n1 k1
  refine wpTake_stepE ⟨some 10, Op.binOp BinOp.rem 3 (Operand.tmp 9) (Operand.const (Value.int IntKind.i64 2)) 3, 3, "", #[], none⟩ 10 (.int .i64 1) HR.out.o6 rfl (by rw [hsz]; decide) (wanted_none rfl) (fun z hS => hw1_6 wx x h0 xb w1 _ z (fun _ => rfl) e9 hS) ?_
  intro a7 ha7 s1 f1 n1 k1
  replace hsz := s1.trans hsz
  replace hdf := f1.trans hdf
  replace e7 := (k1 7 (by decide)).trans e7
  have e10 := n1
  clear s1 f1 n1 k1
  refine wpTake_nil ?_
  refine wpAnyH_run ⟨some 11, Op.makeSlice 75 (Operand.const (Value.int IntKind.i64 64)) (Operand.const (Value.int IntKind.i64 64)), 75, "", #[], none⟩ _ (.slice (some ⟨xb, 0, none⟩) 64 64) w1 HR.out.r7 HR.out.o7 rfl rfl (hd_mk _ _ _ _ (fun _ => rfl) hmk) (hS1) ?_
  replace hHeld := hS1
  obtain ⟨s1, f1, n1, k1⟩ := act_put a7 11 (.slice (some ⟨xb, 0, none⟩) 64 64) (show 11 < _ by rw [hsz]; decide)
  obtain ⟨a8, ha8⟩ : ∃ x, x = Act.put a7 (some 11) (.slice (some ⟨xb, 0, none⟩) 64 64) := ⟨_, rfl⟩
  rw [← ha8] at s1 f1 n1 k1 ⊢
  replace hsz := s1.trans hsz
  replace hdf := f1.trans hdf
  replace e7 := (k1 7 (by decide)).trans e7
  replace e10 := (k1 10 (by decide)).trans e10
  have e11 := n1
  clear s1 f1 n1 k1
  refine wpAnyH_one ⟨some 12, Op.call { callee := Callee.value (Operand.func 159), args := #[Operand.tmp 7, Operand.tmp 10, Operand.tmp 11], argTypes := #[42, 3, 75] }, 37, "", #[], none⟩ HR.out.r8 HR.out.o8 rfl (fun K' hK' => ?_)
  refine wp_enter (hw1_8 wx x h0 xb w1 _ _ (fun _ => rfl) rfl e7 e10 e11) (hc) ?_
  rintro e9 w9 ⟨rfl, hS2, hT⟩
  refine ⟨_, rfl, hK'.out _ _ (hS2) ?_⟩
  replace hHeld := hS2
  clear hK' K'
  show wpAnyH _ _ _ _ _ _ _ (Act.put a8 (some 12) (.int .i64 0)) _
  obtain ⟨s1, f1, n1, k1⟩ := act_put a8 12 (.int .i64 0) (show 12 < _ by rw [hsz]; decide)
  obtain ⟨a9, ha9⟩ : ∃ x, x = Act.put a8 (some 12) (.int .i64 0) := ⟨_, rfl⟩
  rw [← ha9] at s1 f1 n1 k1 ⊢
  replace hsz := s1.trans hsz
  replace hdf := f1.trans hdf
  clear s1 f1 n1 k1
  refine wpAnyH_done HR.out.fin ?_ _
  rw [ha9, ha8, ha7, ha6, ha5, ha4, ha3, ha2, ha1]
  exact hK _ hT

theorem hw3_0 (wx x h0 : Nat) (v1 : Value) (ev : Operand → Value) (z : World) (ec : ∀ c, ev (.const c) = c) (e0 : ev (.tmp 0) = .pointer (some ⟨wx, 0, none⟩)) (hS : z.cell? ⟨wx, 0, none⟩ = some (.pointer (some ⟨x, 0, none⟩)) ∧ z.cell? ⟨h0, 0, none⟩ = some (.int .i64 1) ∧ z.cell? ⟨h0, 1, none⟩ = some (.int .i64 1) ∧ z.cell? ⟨h0, 2, none⟩ = some (.int .i64 0) ∧ z.cell? ⟨h0, 3, none⟩ = some (.int .i64 1)) : (execOp ev ⟨some 18, Op.move (Operand.tmp 0), 157, "", #[], none⟩).run Tryz.prog z = .ok (.value (.pointer (some ⟨wx, 0, none⟩))) z := by
  obtain ⟨s1, s2, s3, s4, s5⟩ := hS
  go_simp
theorem hw3_1 (wx x h0 : Nat) (v1 : Value) (ev : Operand → Value) (z : World) (ec : ∀ c, ev (.const c) = c) (e18 : ev (.tmp 18) = .pointer (some ⟨wx, 0, none⟩)) (hS : z.cell? ⟨wx, 0, none⟩ = some (.pointer (some ⟨x, 0, none⟩)) ∧ z.cell? ⟨h0, 0, none⟩ = some (.int .i64 1) ∧ z.cell? ⟨h0, 1, none⟩ = some (.int .i64 1) ∧ z.cell? ⟨h0, 2, none⟩ = some (.int .i64 0) ∧ z.cell? ⟨h0, 3, none⟩ = some (.int .i64 1)) : (execOp ev ⟨some 19, Op.nilCheck (Operand.tmp 18), 0, "", #[], none⟩).run Tryz.prog z = .ok (.value (.pointer (some ⟨wx, 0, none⟩))) z := by
  obtain ⟨s1, s2, s3, s4, s5⟩ := hS
  go_simp
theorem hw3_2 (wx x h0 : Nat) (v1 : Value) (ev : Operand → Value) (z : World) (ec : ∀ c, ev (.const c) = c) (e19 : ev (.tmp 19) = .pointer (some ⟨wx, 0, none⟩)) (hS : z.cell? ⟨wx, 0, none⟩ = some (.pointer (some ⟨x, 0, none⟩)) ∧ z.cell? ⟨h0, 0, none⟩ = some (.int .i64 1) ∧ z.cell? ⟨h0, 1, none⟩ = some (.int .i64 1) ∧ z.cell? ⟨h0, 2, none⟩ = some (.int .i64 0) ∧ z.cell? ⟨h0, 3, none⟩ = some (.int .i64 1)) : (execOp ev ⟨some 20, Op.fieldAddr 220 (Operand.tmp 19) 0, 0, "", #[], none⟩).run Tryz.prog z = .ok (.value (.pointer (some ⟨wx, 0, none⟩))) z := by
  obtain ⟨s1, s2, s3, s4, s5⟩ := hS
  go_simp
theorem hw3_3 (wx x h0 : Nat) (v1 : Value) (ev : Operand → Value) (z : World) (ec : ∀ c, ev (.const c) = c) (e20 : ev (.tmp 20) = .pointer (some ⟨wx, 0, none⟩)) (hS : z.cell? ⟨wx, 0, none⟩ = some (.pointer (some ⟨x, 0, none⟩)) ∧ z.cell? ⟨h0, 0, none⟩ = some (.int .i64 1) ∧ z.cell? ⟨h0, 1, none⟩ = some (.int .i64 1) ∧ z.cell? ⟨h0, 2, none⟩ = some (.int .i64 0) ∧ z.cell? ⟨h0, 3, none⟩ = some (.int .i64 1)) : (execOp ev ⟨some 21, Op.load 42 (Operand.tmp 20), 42, "", #[], none⟩).run Tryz.prog z = .ok (.value (.pointer (some ⟨x, 0, none⟩))) z := by
  obtain ⟨s1, s2, s3, s4, s5⟩ := hS
  go_simp
theorem hw3_4 (wx x h0 : Nat) (v1 : Value) (ev : Operand → Value) (z : World) (ec : ∀ c, ev (.const c) = c) (e3 : ev (.tmp 3) = .pointer (some ⟨h0, 0, none⟩)) (hS : z.cell? ⟨wx, 0, none⟩ = some (.pointer (some ⟨x, 0, none⟩)) ∧ z.cell? ⟨h0, 0, none⟩ = some (.int .i64 1) ∧ z.cell? ⟨h0, 1, none⟩ = some (.int .i64 1) ∧ z.cell? ⟨h0, 2, none⟩ = some (.int .i64 0) ∧ z.cell? ⟨h0, 3, none⟩ = some (.int .i64 1)) : (execOp ev ⟨some 22, Op.fieldAddr 218 (Operand.tmp 3) 0, 0, "", #[], none⟩).run Tryz.prog z = .ok (.value (.pointer (some ⟨h0, 0, none⟩))) z := by
  obtain ⟨s1, s2, s3, s4, s5⟩ := hS
  go_simp
theorem hw3_5 (wx x h0 : Nat) (v1 : Value) (ev : Operand → Value) (z : World) (ec : ∀ c, ev (.const c) = c) (e22 : ev (.tmp 22) = .pointer (some ⟨h0, 0, none⟩)) (hS : z.cell? ⟨wx, 0, none⟩ = some (.pointer (some ⟨x, 0, none⟩)) ∧ z.cell? ⟨h0, 0, none⟩ = some (.int .i64 1) ∧ z.cell? ⟨h0, 1, none⟩ = some (.int .i64 1) ∧ z.cell? ⟨h0, 2, none⟩ = some (.int .i64 0) ∧ z.cell? ⟨h0, 3, none⟩ = some (.int .i64 1)) : (execOp ev ⟨some 23, Op.load 3 (Operand.tmp 22), 3, "", #[], none⟩).run Tryz.prog z = .ok (.value (.int .i64 1)) z := by
  obtain ⟨s1, s2, s3, s4, s5⟩ := hS
  go_simp
theorem hw3_6 (wx x h0 : Nat) (v1 : Value) (ev : Operand → Value) (z : World) (ec : ∀ c, ev (.const c) = c) (e23 : ev (.tmp 23) = .int .i64 1) (hS : z.cell? ⟨wx, 0, none⟩ = some (.pointer (some ⟨x, 0, none⟩)) ∧ z.cell? ⟨h0, 0, none⟩ = some (.int .i64 1) ∧ z.cell? ⟨h0, 1, none⟩ = some (.int .i64 1) ∧ z.cell? ⟨h0, 2, none⟩ = some (.int .i64 0) ∧ z.cell? ⟨h0, 3, none⟩ = some (.int .i64 1)) : (execOp ev ⟨some 24, Op.binOp BinOp.rem 3 (Operand.tmp 23) (Operand.const (Value.int IntKind.i64 2)) 3, 3, "", #[], none⟩).run Tryz.prog z = .ok (.value (.int .i64 1)) z := by
  obtain ⟨s1, s2, s3, s4, s5⟩ := hS
  go_simp
theorem hw3_7 (wx x h0 : Nat) (v1 : Value) (ev : Operand → Value) (z : World) (ec : ∀ c, ev (.const c) = c) (e3 : ev (.tmp 3) = .pointer (some ⟨h0, 0, none⟩)) (hS : z.cell? ⟨wx, 0, none⟩ = some (.pointer (some ⟨x, 0, none⟩)) ∧ z.cell? ⟨h0, 0, none⟩ = some (.int .i64 1) ∧ z.cell? ⟨h0, 1, none⟩ = some (.int .i64 1) ∧ z.cell? ⟨h0, 2, none⟩ = some (.int .i64 0) ∧ z.cell? ⟨h0, 3, none⟩ = some (.int .i64 1)) : (execOp ev ⟨some 25, Op.load 218 (Operand.tmp 3), 218, "", #[], none⟩).run Tryz.prog z = .ok (.value (.agg #[.int .i64 1, .int .i64 1, .int .i64 0, .int .i64 1])) z := by
  obtain ⟨s1, s2, s3, s4, s5⟩ := hS
  go_simp
set_option maxRecDepth 100000 in
theorem hw3_8 (wx x h0 : Nat) (v1 : Value) (ev : Operand → Value) (z : World) (ec : ∀ c, ev (.const c) = c) (ef : ev (.func 158) = .func (.func 158) #[] #[]) (e25 : ev (.tmp 25) = .agg #[.int .i64 1, .int .i64 1, .int .i64 0, .int .i64 1]) : (execOp ev ⟨some 26, Op.call { callee := Callee.value (Operand.func 158), args := #[Operand.tmp 25], argTypes := #[218] }, 75, "", #[], none⟩).run Tryz.prog z = .ok (.enter 158 #[.agg #[.int .i64 1, .int .i64 1, .int .i64 0, .int .i64 1]]) z :=
  enter_run _ ef (by simp only [List.map_toArray, List.map_cons, List.map_nil, ec, e25]) (fun _ => by rfl)
set_option maxRecDepth 100000 in
theorem hw3_9 (wx x h0 : Nat) (v1 : Value) (ev : Operand → Value) (z : World) (ec : ∀ c, ev (.const c) = c) (ef : ev (.func 159) = .func (.func 159) #[] #[]) (e21 : ev (.tmp 21) = .pointer (some ⟨x, 0, none⟩)) (e24 : ev (.tmp 24) = .int .i64 1) (e26 : ev (.tmp 26) = v1) : (execOp ev ⟨some 27, Op.call { callee := Callee.value (Operand.func 159), args := #[Operand.tmp 21, Operand.tmp 24, Operand.tmp 26], argTypes := #[42, 3, 75] }, 37, "", #[], none⟩).run Tryz.prog z = .ok (.enter 159 #[.pointer (some ⟨x, 0, none⟩), .int .i64 1, v1]) z :=
  enter_run _ ef (by simp only [List.map_toArray, List.map_cons, List.map_nil, ec, e21, e24, e26]) (fun _ => by rfl)
structure hw3R (ops : Array Oper) : Prop where
  size : ops.size = 10
  sel : Region.noSelect ops = true
  o0 : (ops[0]?).map bare = some ⟨some 18, Op.move (Operand.tmp 0), 157, "", #[], none⟩
  o1 : (ops[1]?).map bare = some ⟨some 19, Op.nilCheck (Operand.tmp 18), 0, "", #[], none⟩
  o2 : (ops[2]?).map bare = some ⟨some 20, Op.fieldAddr 220 (Operand.tmp 19) 0, 0, "", #[], none⟩
  o3 : (ops[3]?).map bare = some ⟨some 21, Op.load 42 (Operand.tmp 20), 42, "", #[], none⟩
  o4 : (ops[4]?).map bare = some ⟨some 22, Op.fieldAddr 218 (Operand.tmp 3) 0, 0, "", #[], none⟩
  o5 : (ops[5]?).map bare = some ⟨some 23, Op.load 3 (Operand.tmp 22), 3, "", #[], none⟩
  o6 : (ops[6]?).map bare = some ⟨some 24, Op.binOp BinOp.rem 3 (Operand.tmp 23) (Operand.const (Value.int IntKind.i64 2)) 3, 3, "", #[], none⟩
  o7 : (ops[7]?).map bare = some ⟨some 25, Op.load 218 (Operand.tmp 3), 218, "", #[], none⟩
  o8 : (ops[8]?).map bare = some ⟨some 26, Op.call { callee := Callee.value (Operand.func 158), args := #[Operand.tmp 25], argTypes := #[218] }, 75, "", #[], none⟩
  o9 : (ops[9]?).map bare = some ⟨some 27, Op.call { callee := Callee.value (Operand.func 159), args := #[Operand.tmp 21, Operand.tmp 24, Operand.tmp 26], argTypes := #[42, 3, 75] }, 37, "", #[], none⟩
  may0 : takeB .any ops [0, 1, 2, 3, 4, 5, 6, 7] (Array.replicate 10 false) = true
  r8 : Region.ready .any ops (mark [0, 1, 2, 3, 4, 5, 6, 7] (Array.replicate 10 false)) = [8]
  r9 : Region.ready .any ops ((mark [0, 1, 2, 3, 4, 5, 6, 7] (Array.replicate 10 false)).setIfInBounds 8 true) = [9]
  fin : Region.ready .any ops (((mark [0, 1, 2, 3, 4, 5, 6, 7] (Array.replicate 10 false)).setIfInBounds 8 true).setIfInBounds 9 true) = []

set_option maxRecDepth 100000 in
set_option maxHeartbeats 3200000 in
theorem hw3_region {ops : Array Oper} {id : Nat} {Q : Exit → Act → World → Prop} {a : Act} {y : World} (R : hw3R ops) (wx x h0 : Nat) (v1 : Value)
    (hQ : ∀ d v c a w, Q (.panic c) (a.put d v) w → Q (.panic c) a w) (hsz : a.tmps.size = 37) (e0 : a.eval (.tmp 0) = .pointer (some ⟨wx, 0, none⟩)) (e3 : a.eval (.tmp 3) = .pointer (some ⟨h0, 0, none⟩)) (hS0 : y.drew.cell? ⟨wx, 0, none⟩ = some (.pointer (some ⟨x, 0, none⟩)) ∧ y.drew.cell? ⟨h0, 0, none⟩ = some (.int .i64 1) ∧ y.drew.cell? ⟨h0, 1, none⟩ = some (.int .i64 1) ∧ y.drew.cell? ⟨h0, 2, none⟩ = some (.int .i64 0) ∧ y.drew.cell? ⟨h0, 3, none⟩ = some (.int .i64 1)) (T : World → Prop) (hc : Calls Tryz.prog 158 #[.agg #[.int .i64 1, .int .i64 1, .int .i64 0, .int .i64 1]] y.drew fun e w9 => ∃ v1, e = .returned v1 ∧ (w9.cell? ⟨wx, 0, none⟩ = some (.pointer (some ⟨x, 0, none⟩)) ∧ w9.cell? ⟨h0, 0, none⟩ = some (.int .i64 1) ∧ w9.cell? ⟨h0, 1, none⟩ = some (.int .i64 1) ∧ w9.cell? ⟨h0, 2, none⟩ = some (.int .i64 0) ∧ w9.cell? ⟨h0, 3, none⟩ = some (.int .i64 1)) ∧ (Calls Tryz.prog 159 #[.pointer (some ⟨x, 0, none⟩), .int .i64 1, v1] w9 fun e w9 => e = .returned (.int .i64 0) ∧ (w9.cell? ⟨wx, 0, none⟩ = some (.pointer (some ⟨x, 0, none⟩)) ∧ w9.cell? ⟨h0, 0, none⟩ = some (.int .i64 1) ∧ w9.cell? ⟨h0, 1, none⟩ = some (.int .i64 1) ∧ w9.cell? ⟨h0, 2, none⟩ = some (.int .i64 0) ∧ w9.cell? ⟨h0, 3, none⟩ = some (.int .i64 1)) ∧ T w9))
    (hK : ∀ (v1 : Value) (w9 : World), T w9 → Q .normal ((((((((((a.put (some 18) (.pointer (some ⟨wx, 0, none⟩))).put (some 19) (.pointer (some ⟨wx, 0, none⟩))).put (some 20) (.pointer (some ⟨wx, 0, none⟩))).put (some 21) (.pointer (some ⟨x, 0, none⟩))).put (some 22) (.pointer (some ⟨h0, 0, none⟩))).put (some 23) (.int .i64 1)).put (some 24) (.int .i64 1)).put (some 25) (.agg #[.int .i64 1, .int .i64 1, .int .i64 0, .int .i64 1])).put (some 26) (v1)).put (some 27) (.int .i64 0)) w9) : (Code.region id ops true).wp Tryz.prog Q a y := by
  have HR : Hid (hw3R ops) := R
  have hdf : a.defers = a.defers := rfl
  refine wp_region_held_drew (S := (fun z : World => z.cell? ⟨wx, 0, none⟩ = some (.pointer (some ⟨x, 0, none⟩)) ∧ z.cell? ⟨h0, 0, none⟩ = some (.int .i64 1) ∧ z.cell? ⟨h0, 1, none⟩ = some (.int .i64 1) ∧ z.cell? ⟨h0, 2, none⟩ = some (.int .i64 0) ∧ z.cell? ⟨h0, 3, none⟩ = some (.int .i64 1))) (by kernel_rfl) (hS0) (fun hHeld => ?_)
  rw [R.size]
  clear R
  refine wpAnyH_takes HR.out.sel hQ hHeld [0, 1, 2, 3, 4, 5, 6, 7] 2 _ _ HR.out.may0 ?_
  refine wpTake_stepE ⟨some 18, Op.move (Operand.tmp 0), 157, "", #[], none⟩ 18 (.pointer (some ⟨wx, 0, none⟩)) HR.out.o0 rfl (by rw [hsz]; decide) (wanted_none rfl) (fun z hS => hw3_0 wx x h0 v1 _ z (fun _ => rfl) e0 hS) ?_
  intro a1 ha1 s1 f1 n1 k1
  replace hsz := s1.trans hsz
  replace hdf := f1.trans hdf
  replace e3 := (k1 3 (by decide)).trans e3
  have e18 := n1
  clear s1 f1 n1 k1
  refine wpTake_stepE ⟨some 19, Op.nilCheck (Operand.tmp 18), 0, "", #[], none⟩ 19 (.pointer (some ⟨wx, 0, none⟩)) HR.out.o1 rfl (by rw [hsz]; decide) (wanted_none rfl) (fun z hS => hw3_1 wx x h0 v1 _ z (fun _ => rfl) e18 hS) ?_
  intro a2 ha2 s1 f1 n1 k1
  replace hsz := s1.trans hsz
  replace hdf := f1.trans hdf
  replace e3 := (k1 3 (by decide)).trans e3
  have e19 := n1
  clear s1 f1 n1 k1
  refine wpTake_stepE ⟨some 20, Op.fieldAddr 220 (Operand.tmp 19) 0, 0, "", #[], none⟩ 20 (.pointer (some ⟨wx, 0, none⟩)) HR.out.o2 rfl (by rw [hsz]; decide) (wanted_none rfl) (fun z hS => hw3_2 wx x h0 v1 _ z (fun _ => rfl) e19 hS) ?_
  intro a3 ha3 s1 f1 n1 k1
  replace hsz := s1.trans hsz
  replace hdf := f1.trans hdf
  replace e3 := (k1 3 (by decide)).trans e3
  have e20 := n1
  clear s1 f1 n1 k1
  refine wpTake_stepE ⟨some 21, Op.load 42 (Operand.tmp 20), 42, "", #[], none⟩ 21 (.pointer (some ⟨x, 0, none⟩)) HR.out.o3 rfl (by rw [hsz]; decide) (wanted_none rfl) (fun z hS => hw3_3 wx x h0 v1 _ z (fun _ => rfl) e20 hS) ?_
  intro a4 ha4 s1 f1 n1 k1
  replace hsz := s1.trans hsz
  replace hdf := f1.trans hdf
  replace e3 := (k1 3 (by decide)).trans e3
  have e21 := n1
  clear s1 f1 n1 k1
  refine wpTake_stepE ⟨some 22, Op.fieldAddr 218 (Operand.tmp 3) 0, 0, "", #[], none⟩ 22 (.pointer (some ⟨h0, 0, none⟩)) HR.out.o4 rfl (by rw [hsz]; decide) (wanted_none rfl) (fun z hS => hw3_4 wx x h0 v1 _ z (fun _ => rfl) e3 hS) ?_
  intro a5 ha5 s1 f1 n1 k1
  replace hsz := s1.trans hsz
  replace hdf := f1.trans hdf
  replace e3 := (k1 3 (by decide)).trans e3
  replace e21 := (k1 21 (by decide)).trans e21
  have e22 := n1
  clear s1 f1 n1 k1
  refine wpTake_stepE ⟨some 23, Op.load 3 (Operand.tmp 22), 3, "", #[], none⟩ 23 (.int .i64 1) HR.out.o5 rfl (by rw [hsz]; decide) (wanted_none rfl) (fun z hS => hw3_5 wx x h0 v1 _ z (fun _ => rfl) e22 hS) ?_
  intro a6 ha6 s1 f1 n1 k1
  replace hsz := s1.trans hsz
  replace hdf := f1.trans hdf
  replace e3 := (k1 3 (by decide)).trans e3
  replace e21 := (k1 21 (by decide)).trans e21
  have e23 := n1
  clear s1 f1 n1 k1
  refine wpTake_stepE ⟨some 24, Op.binOp BinOp.rem 3 (Operand.tmp 23) (Operand.const (Value.int IntKind.i64 2)) 3, 3, "", #[], none⟩ 24 (.int .i64 1) HR.out.o6 rfl (by rw [hsz]; decide) (wanted_none rfl) (fun z hS => hw3_6 wx x h0 v1 _ z (fun _ => rfl) e23 hS) ?_
  intro a7 ha7 s1 f1 n1 k1
  replace hsz := s1.trans hsz
  replace hdf := f1.trans hdf
  replace e3 := (k1 3 (by decide)).trans e3
  replace e21 := (k1 21 (by decide)).trans e21
  have e24 := n1
  clear s1 f1 n1 k1
  refine wpTake_stepE ⟨some 25, Op.load 218 (Operand.tmp 3), 218, "", #[], none⟩ 25 (.agg #[.int .i64 1, .int .i64 1, .int .i64 0, .int .i64 1]) HR.out.o7 rfl (by rw [hsz]; decide) (wanted_none rfl) (fun z hS => hw3_7 wx x h0 v1 _ z (fun _ => rfl) e3 hS) ?_
  intro a8 ha8 s1 f1 n1 k1
  replace hsz := s1.trans hsz
  replace hdf := f1.trans hdf
  replace e21 := (k1 21 (by decide)).trans e21
  replace e24 := (k1 24 (by decide)).trans e24
  have e25 := n1
  clear s1 f1 n1 k1
  refine wpTake_nil ?_
  refine wpAnyH_one ⟨some 26, Op.call { callee := Callee.value (Operand.func 158), args := #[Operand.tmp 25], argTypes := #[218] }, 75, "", #[], none⟩ HR.out.r8 HR.out.o8 rfl (fun K' hK' => ?_)
  refine wp_enter (hw3_8 wx x h0 v1 _ _ (fun _ => rfl) rfl e25) (hc) ?_
  rintro e9 w9 ⟨v1, rfl, hS1, hW⟩
  refine ⟨_, rfl, hK'.out _ _ (hS1) ?_⟩
  replace hHeld := hS1
  clear hK' K'
  show wpAnyH _ _ _ _ _ _ _ (Act.put a8 (some 26) (v1)) _
  obtain ⟨s1, f1, n1, k1⟩ := act_put a8 26 (v1) (show 26 < _ by rw [hsz]; decide)
  obtain ⟨a9, ha9⟩ : ∃ x, x = Act.put a8 (some 26) (v1) := ⟨_, rfl⟩
  rw [← ha9] at s1 f1 n1 k1 ⊢
  replace hsz := s1.trans hsz
  replace hdf := f1.trans hdf
  replace e21 := (k1 21 (by decide)).trans e21
  replace e24 := (k1 24 (by decide)).trans e24
  have e26 := n1
  clear s1 f1 n1 k1
  refine wpAnyH_one ⟨some 27, Op.call { callee := Callee.value (Operand.func 159), args := #[Operand.tmp 21, Operand.tmp 24, Operand.tmp 26], argTypes := #[42, 3, 75] }, 37, "", #[], none⟩ HR.out.r9 HR.out.o9 rfl (fun K' hK' => ?_)
  refine wp_enter (hw3_9 wx x h0 v1 _ _ (fun _ => rfl) rfl e21 e24 e26) (hW) ?_
  rintro e9 w9 ⟨rfl, hS2, hT⟩
  refine ⟨_, rfl, hK'.out _ _ (hS2) ?_⟩
  replace hHeld := hS2
  clear hK' K'
  show wpAnyH _ _ _ _ _ _ _ (Act.put a9 (some 27) (.int .i64 0)) _
  obtain ⟨s1, f1, n1, k1⟩ := act_put a9 27 (.int .i64 0) (show 27 < _ by rw [hsz]; decide)
  obtain ⟨a10, ha10⟩ : ∃ x, x = Act.put a9 (some 27) (.int .i64 0) := ⟨_, rfl⟩
  rw [← ha10] at s1 f1 n1 k1 ⊢
  replace hsz := s1.trans hsz
  replace hdf := f1.trans hdf
  clear s1 f1 n1 k1
  refine wpAnyH_done HR.out.fin ?_ _
  rw [ha10, ha9, ha8, ha7, ha6, ha5, ha4, ha3, ha2, ha1]
  exact hK _ _ hT

end Go.Proofs.YtippipeebkkghaaGreatDoor
