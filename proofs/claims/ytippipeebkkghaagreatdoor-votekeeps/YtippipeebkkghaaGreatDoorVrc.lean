/- The reference's readHead: its last region, no head (laid by scripts/mkvrc.py). -/
import Derived.Test.YtippipeebkkghaaGreatDoorTi
namespace Go.Proofs.YtippipeebkkghaaGreatDoor
set_option linter.unusedVariables false
set_option linter.unusedSimpArgs false
open Go.RowKit Go.Deep Go.Maps

theorem rh_st (h0 : Nat) (v : Value) (ev : Operand → Value) (z w1 : World) (e6 : ev (.tmp 6) = .pointer (some ⟨h0, 0, none⟩)) (e76 : ev (.tmp 76) = v) (hr : (Instr.storeAt 218 (.pointer (some ⟨h0, 0, none⟩)) v).run Tryz.prog z = .ok () w1) : (execOp ev ⟨none, Op.store 218 (Operand.tmp 6) (Operand.tmp 76), 0, "", #[], none⟩).run Tryz.prog z = .ok .skip w1 := by
  unfold execOp
  simp only [e6, e76, hr, Sem.run_bind, Sem.run_pure, Result.andThen_ok]
theorem rh12_0 (g9 h0 : Nat) (p : Option Addr) (c : Nat) (y0 y1 y2 y3 : Int) (w1 : World) (ev : Operand → Value) (z : World) (ec : ∀ c, ev (.const c) = c) (e12 : ev (.tmp 12) = .pointer (some ⟨g9, 0, none⟩)) (hS : z.cell? ⟨g9, 0, none⟩ = some (.int .i64 y0) ∧ z.cell? ⟨g9, 1, none⟩ = some (.int .i64 y1) ∧ z.cell? ⟨g9, 2, none⟩ = some (.int .i64 y2) ∧ z.cell? ⟨g9, 3, none⟩ = some (.int .i64 y3)) : (execOp ev ⟨some 76, Op.load 218 (Operand.tmp 12), 218, "", #[], none⟩).run Tryz.prog z = .ok (.value (.agg #[.int .i64 y0, .int .i64 y1, .int .i64 y2, .int .i64 y3])) z := by
  obtain ⟨s1, s2, s3, s4⟩ := hS
  go_simp
theorem rh12_1 (g9 h0 : Nat) (p : Option Addr) (c : Nat) (y0 y1 y2 y3 : Int) (w1 : World) (ev : Operand → Value) (z : World) (ec : ∀ c, ev (.const c) = c) (e13 : ev (.tmp 13) = .bool false) (hS : z.cell? ⟨g9, 0, none⟩ = some (.int .i64 y0) ∧ z.cell? ⟨g9, 1, none⟩ = some (.int .i64 y1) ∧ z.cell? ⟨g9, 2, none⟩ = some (.int .i64 y2) ∧ z.cell? ⟨g9, 3, none⟩ = some (.int .i64 y3)) : (execOp ev ⟨some 77, Op.move (Operand.tmp 13), 4, "", #[], none⟩).run Tryz.prog z = .ok (.value (.bool false)) z := by
  obtain ⟨s1, s2, s3, s4⟩ := hS
  go_simp
theorem rh12_2 (g9 h0 : Nat) (p : Option Addr) (c : Nat) (y0 y1 y2 y3 : Int) (w1 : World) (ev : Operand → Value) (z : World) (ec : ∀ c, ev (.const c) = c) (e77 : ev (.tmp 77) = .bool false) (hS : z.cell? ⟨g9, 0, none⟩ = some (.int .i64 y0) ∧ z.cell? ⟨g9, 1, none⟩ = some (.int .i64 y1) ∧ z.cell? ⟨g9, 2, none⟩ = some (.int .i64 y2) ∧ z.cell? ⟨g9, 3, none⟩ = some (.int .i64 y3)) : (execOp ev ⟨some 78, Op.move (Operand.tmp 77), 4, "", #[], none⟩).run Tryz.prog z = .ok (.value (.bool false)) z := by
  obtain ⟨s1, s2, s3, s4⟩ := hS
  go_simp
theorem rh12_9 (g9 h0 : Nat) (p : Option Addr) (c : Nat) (y0 y1 y2 y3 : Int) (w1 : World) (ev : Operand → Value) (z : World) (ec : ∀ c, ev (.const c) = c) (e78 : ev (.tmp 78) = .bool false) (e84 : ev (.tmp 84) = undef) (hS : z.cell? ⟨g9, 0, none⟩ = some (.int .i64 y0) ∧ z.cell? ⟨g9, 1, none⟩ = some (.int .i64 y1) ∧ z.cell? ⟨g9, 2, none⟩ = some (.int .i64 y2) ∧ z.cell? ⟨g9, 3, none⟩ = some (.int .i64 y3)) : (execOp ev ⟨some 85, Op.pick (Operand.tmp 78) (Operand.tmp 84) (Operand.const (Value.bool false)), 4, "", #[], none⟩).run Tryz.prog z = .ok (.value (.bool false)) z := by
  obtain ⟨s1, s2, s3, s4⟩ := hS
  go_simp
theorem rh12_11 (g9 h0 : Nat) (p : Option Addr) (c : Nat) (y0 y1 y2 y3 : Int) (w1 : World) (ev : Operand → Value) (z : World) (ec : ∀ c, ev (.const c) = c) (e85 : ev (.tmp 85) = .bool false) (hS : z.cell? ⟨g9, 0, none⟩ = some (.int .i64 y0) ∧ z.cell? ⟨g9, 1, none⟩ = some (.int .i64 y1) ∧ z.cell? ⟨g9, 2, none⟩ = some (.int .i64 y2) ∧ z.cell? ⟨g9, 3, none⟩ = some (.int .i64 y3)) : (execOp ev ⟨some 7, Op.assign (Operand.tmp 85), 4, "", #[], none⟩).run Tryz.prog z = .ok (.value (.bool false)) z := by
  obtain ⟨s1, s2, s3, s4⟩ := hS
  go_simp
structure rh12R (ops : Array Oper) : Prop where
  size : ops.size = 12
  sel : Region.noSelect ops = true
  o0 : (ops[0]?).map bare = some ⟨some 76, Op.load 218 (Operand.tmp 12), 218, "", #[], none⟩
  o1 : (ops[1]?).map bare = some ⟨some 77, Op.move (Operand.tmp 13), 4, "", #[], none⟩
  o2 : (ops[2]?).map bare = some ⟨some 78, Op.move (Operand.tmp 77), 4, "", #[], none⟩
  o3 : (ops[3]?).map bare = some ⟨some 79, Op.load 218 (Operand.tmp 12), 218, "", #[], some (2, true)⟩
  o4 : (ops[4]?).map bare = some ⟨some 80, Op.call { callee := Callee.value (Operand.func 158), args := #[Operand.tmp 79], argTypes := #[218] }, 75, "", #[], some (2, true)⟩
  o5 : (ops[5]?).map bare = some ⟨some 81, Op.convert 75 9 (Operand.tmp 80), 9, "", #[], some (2, true)⟩
  o6 : (ops[6]?).map bare = some ⟨some 82, Op.move (Operand.tmp 0), 75, "", #[], some (2, true)⟩
  o7 : (ops[7]?).map bare = some ⟨some 83, Op.convert 75 9 (Operand.tmp 82), 9, "", #[], some (2, true)⟩
  o8 : (ops[8]?).map bare = some ⟨some 84, Op.binOp BinOp.eql 9 (Operand.tmp 81) (Operand.tmp 83) 9, 4, "", #[], some (2, true)⟩
  o9 : (ops[9]?).map bare = some ⟨some 85, Op.pick (Operand.tmp 78) (Operand.tmp 84) (Operand.const (Value.bool false)), 4, "", #[], none⟩
  o10 : (ops[10]?).map bare = some ⟨none, Op.store 218 (Operand.tmp 6) (Operand.tmp 76), 0, "", #[], none⟩
  o11 : (ops[11]?).map bare = some ⟨some 7, Op.assign (Operand.tmp 85), 4, "", #[], none⟩
  may0 : takeB .any ops [0, 1, 2, 3, 4, 5, 6, 7, 8, 9] (Array.replicate 12 false) = true
  r10 : Region.ready .any ops (mark [0, 1, 2, 3, 4, 5, 6, 7, 8, 9] (Array.replicate 12 false)) = [10]
  may1 : takeB .any ops [11] ((mark [0, 1, 2, 3, 4, 5, 6, 7, 8, 9] (Array.replicate 12 false)).setIfInBounds 10 true) = true
  fin : Region.ready .any ops (mark [11] ((mark [0, 1, 2, 3, 4, 5, 6, 7, 8, 9] (Array.replicate 12 false)).setIfInBounds 10 true)) = []

set_option maxRecDepth 100000 in
set_option maxHeartbeats 3200000 in
theorem rh12_region {ops : Array Oper} {id : Nat} {Q : Exit → Act → World → Prop} {a : Act} {y : World} (R : rh12R ops) (g9 h0 : Nat) (p : Option Addr) (c : Nat) (y0 y1 y2 y3 : Int) (w1 : World)
    (hQ : ∀ d v c a w, Q (.panic c) (a.put d v) w → Q (.panic c) a w) (hsz : a.tmps.size = 86) (e0 : a.eval (.tmp 0) = .slice p 64 c) (e6 : a.eval (.tmp 6) = .pointer (some ⟨h0, 0, none⟩)) (e12 : a.eval (.tmp 12) = .pointer (some ⟨g9, 0, none⟩)) (e13 : a.eval (.tmp 13) = .bool false) (hS0 : y.drew.cell? ⟨g9, 0, none⟩ = some (.int .i64 y0) ∧ y.drew.cell? ⟨g9, 1, none⟩ = some (.int .i64 y1) ∧ y.drew.cell? ⟨g9, 2, none⟩ = some (.int .i64 y2) ∧ y.drew.cell? ⟨g9, 3, none⟩ = some (.int .i64 y3)) (hst : (Instr.storeAt 218 (.pointer (some ⟨h0, 0, none⟩)) (.agg #[.int .i64 y0, .int .i64 y1, .int .i64 y2, .int .i64 y3])).run Tryz.prog y.drew = .ok () w1) (hS1 : w1.cell? ⟨g9, 0, none⟩ = some (.int .i64 y0) ∧ w1.cell? ⟨g9, 1, none⟩ = some (.int .i64 y1) ∧ w1.cell? ⟨g9, 2, none⟩ = some (.int .i64 y2) ∧ w1.cell? ⟨g9, 3, none⟩ = some (.int .i64 y3))
    (hK :  Q .normal (((((((((((a.put (some 76) (.agg #[.int .i64 y0, .int .i64 y1, .int .i64 y2, .int .i64 y3])).put (some 77) (.bool false)).put (some 78) (.bool false)).put (some 79) (undef)).put (some 80) (undef)).put (some 81) (undef)).put (some 82) (undef)).put (some 83) (undef)).put (some 84) (undef)).put (some 85) (.bool false)).put (some 7) (.bool false)) w1) : (Code.region id ops true).wp Tryz.prog Q a y := by
  have HR : Hid (rh12R ops) := R
  have hdf : a.defers = a.defers := rfl
  refine wp_region_held_drew (S := (fun z : World => z.cell? ⟨g9, 0, none⟩ = some (.int .i64 y0) ∧ z.cell? ⟨g9, 1, none⟩ = some (.int .i64 y1) ∧ z.cell? ⟨g9, 2, none⟩ = some (.int .i64 y2) ∧ z.cell? ⟨g9, 3, none⟩ = some (.int .i64 y3))) (by kernel_rfl) (hS0) (fun hHeld => ?_)
  rw [R.size]
  clear R
  refine wpAnyH_takes HR.out.sel hQ hHeld [0, 1, 2, 3, 4, 5, 6, 7, 8, 9] 2 _ _ HR.out.may0 ?_
  refine wpTake_stepE ⟨some 76, Op.load 218 (Operand.tmp 12), 218, "", #[], none⟩ 76 (.agg #[.int .i64 y0, .int .i64 y1, .int .i64 y2, .int .i64 y3]) HR.out.o0 rfl (by rw [hsz]; decide) (wanted_none rfl) (fun z hS => rh12_0 g9 h0 p c y0 y1 y2 y3 w1 _ z (fun _ => rfl) e12 hS) ?_
  intro a1 ha1 s1 f1 n1 k1
  replace hsz := s1.trans hsz
  replace hdf := f1.trans hdf
  replace e0 := (k1 0 (by decide)).trans e0
  replace e6 := (k1 6 (by decide)).trans e6
  replace e12 := (k1 12 (by decide)).trans e12
  replace e13 := (k1 13 (by decide)).trans e13
  have e76 := n1
  clear s1 f1 n1 k1
  refine wpTake_stepE ⟨some 77, Op.move (Operand.tmp 13), 4, "", #[], none⟩ 77 (.bool false) HR.out.o1 rfl (by rw [hsz]; decide) (wanted_none rfl) (fun z hS => rh12_1 g9 h0 p c y0 y1 y2 y3 w1 _ z (fun _ => rfl) e13 hS) ?_
  intro a2 ha2 s1 f1 n1 k1
  replace hsz := s1.trans hsz
  replace hdf := f1.trans hdf
  replace e0 := (k1 0 (by decide)).trans e0
  replace e6 := (k1 6 (by decide)).trans e6
  replace e12 := (k1 12 (by decide)).trans e12
  replace e76 := (k1 76 (by decide)).trans e76
  have e77 := n1
  clear s1 f1 n1 k1
  refine wpTake_stepE ⟨some 78, Op.move (Operand.tmp 77), 4, "", #[], none⟩ 78 (.bool false) HR.out.o2 rfl (by rw [hsz]; decide) (wanted_none rfl) (fun z hS => rh12_2 g9 h0 p c y0 y1 y2 y3 w1 _ z (fun _ => rfl) e77 hS) ?_
  intro a3 ha3 s1 f1 n1 k1
  replace hsz := s1.trans hsz
  replace hdf := f1.trans hdf
  replace e0 := (k1 0 (by decide)).trans e0
  replace e6 := (k1 6 (by decide)).trans e6
  replace e12 := (k1 12 (by decide)).trans e12
  replace e76 := (k1 76 (by decide)).trans e76
  have e78 := n1
  clear s1 f1 n1 k1
  refine wpTake_stepU ⟨some 79, Op.load 218 (Operand.tmp 12), 218, "", #[], some (2, true)⟩ 79 HR.out.o3 rfl (by rw [hsz]; decide) (wanted_not rfl (yielded_of HR.out.o2 rfl e78 (by rw [hsz]; decide))) ?_
  intro a4 ha4 s1 f1 n1 k1
  replace hsz := s1.trans hsz
  replace hdf := f1.trans hdf
  replace e0 := (k1 0 (by decide)).trans e0
  replace e6 := (k1 6 (by decide)).trans e6
  replace e76 := (k1 76 (by decide)).trans e76
  replace e78 := (k1 78 (by decide)).trans e78
  have e79 := n1
  clear s1 f1 n1 k1
  refine wpTake_stepU ⟨some 80, Op.call { callee := Callee.value (Operand.func 158), args := #[Operand.tmp 79], argTypes := #[218] }, 75, "", #[], some (2, true)⟩ 80 HR.out.o4 rfl (by rw [hsz]; decide) (wanted_not rfl (yielded_of HR.out.o2 rfl e78 (by rw [hsz]; decide))) ?_
  intro a5 ha5 s1 f1 n1 k1
  replace hsz := s1.trans hsz
  replace hdf := f1.trans hdf
  replace e0 := (k1 0 (by decide)).trans e0
  replace e6 := (k1 6 (by decide)).trans e6
  replace e76 := (k1 76 (by decide)).trans e76
  replace e78 := (k1 78 (by decide)).trans e78
  have e80 := n1
  clear s1 f1 n1 k1
  refine wpTake_stepU ⟨some 81, Op.convert 75 9 (Operand.tmp 80), 9, "", #[], some (2, true)⟩ 81 HR.out.o5 rfl (by rw [hsz]; decide) (wanted_not rfl (yielded_of HR.out.o2 rfl e78 (by rw [hsz]; decide))) ?_
  intro a6 ha6 s1 f1 n1 k1
  replace hsz := s1.trans hsz
  replace hdf := f1.trans hdf
  replace e0 := (k1 0 (by decide)).trans e0
  replace e6 := (k1 6 (by decide)).trans e6
  replace e76 := (k1 76 (by decide)).trans e76
  replace e78 := (k1 78 (by decide)).trans e78
  have e81 := n1
  clear s1 f1 n1 k1
  refine wpTake_stepU ⟨some 82, Op.move (Operand.tmp 0), 75, "", #[], some (2, true)⟩ 82 HR.out.o6 rfl (by rw [hsz]; decide) (wanted_not rfl (yielded_of HR.out.o2 rfl e78 (by rw [hsz]; decide))) ?_
  intro a7 ha7 s1 f1 n1 k1
  replace hsz := s1.trans hsz
  replace hdf := f1.trans hdf
  replace e6 := (k1 6 (by decide)).trans e6
  replace e76 := (k1 76 (by decide)).trans e76
  replace e78 := (k1 78 (by decide)).trans e78
  replace e81 := (k1 81 (by decide)).trans e81
  have e82 := n1
  clear s1 f1 n1 k1
  refine wpTake_stepU ⟨some 83, Op.convert 75 9 (Operand.tmp 82), 9, "", #[], some (2, true)⟩ 83 HR.out.o7 rfl (by rw [hsz]; decide) (wanted_not rfl (yielded_of HR.out.o2 rfl e78 (by rw [hsz]; decide))) ?_
  intro a8 ha8 s1 f1 n1 k1
  replace hsz := s1.trans hsz
  replace hdf := f1.trans hdf
  replace e6 := (k1 6 (by decide)).trans e6
  replace e76 := (k1 76 (by decide)).trans e76
  replace e78 := (k1 78 (by decide)).trans e78
  replace e81 := (k1 81 (by decide)).trans e81
  have e83 := n1
  clear s1 f1 n1 k1
  refine wpTake_stepU ⟨some 84, Op.binOp BinOp.eql 9 (Operand.tmp 81) (Operand.tmp 83) 9, 4, "", #[], some (2, true)⟩ 84 HR.out.o8 rfl (by rw [hsz]; decide) (wanted_not rfl (yielded_of HR.out.o2 rfl e78 (by rw [hsz]; decide))) ?_
  intro a9 ha9 s1 f1 n1 k1
  replace hsz := s1.trans hsz
  replace hdf := f1.trans hdf
  replace e6 := (k1 6 (by decide)).trans e6
  replace e76 := (k1 76 (by decide)).trans e76
  replace e78 := (k1 78 (by decide)).trans e78
  have e84 := n1
  clear s1 f1 n1 k1
  refine wpTake_stepE ⟨some 85, Op.pick (Operand.tmp 78) (Operand.tmp 84) (Operand.const (Value.bool false)), 4, "", #[], none⟩ 85 (.bool false) HR.out.o9 rfl (by rw [hsz]; decide) (wanted_none rfl) (fun z hS => rh12_9 g9 h0 p c y0 y1 y2 y3 w1 _ z (fun _ => rfl) e78 e84 hS) ?_
  intro a10 ha10 s1 f1 n1 k1
  replace hsz := s1.trans hsz
  replace hdf := f1.trans hdf
  replace e6 := (k1 6 (by decide)).trans e6
  replace e76 := (k1 76 (by decide)).trans e76
  have e85 := n1
  clear s1 f1 n1 k1
  refine wpTake_nil ?_
  refine wpAnyH_skip ⟨none, Op.store 218 (Operand.tmp 6) (Operand.tmp 76), 0, "", #[], none⟩ w1 HR.out.r10 HR.out.o10 rfl rfl (rh_st _ _ _ _ _ e6 e76 hst) (hS1) ?_
  replace hHeld := hS1
  refine wpAnyH_takes HR.out.sel hQ hHeld [11] 0 _ _ HR.out.may1 ?_
  refine wpTake_stepE ⟨some 7, Op.assign (Operand.tmp 85), 4, "", #[], none⟩ 7 (.bool false) HR.out.o11 rfl (by rw [hsz]; decide) (wanted_none rfl) (fun z hS => rh12_11 g9 h0 p c y0 y1 y2 y3 w1 _ z (fun _ => rfl) e85 hS) ?_
  intro a11 ha11 s1 f1 n1 k1
  replace hsz := s1.trans hsz
  replace hdf := f1.trans hdf
  clear s1 f1 n1 k1
  refine wpTake_nil ?_
  refine wpAnyH_done HR.out.fin ?_ _
  rw [ha11, ha10, ha9, ha8, ha7, ha6, ha5, ha4, ha3, ha2, ha1]
  exact hK

end Go.Proofs.YtippipeebkkghaaGreatDoor
