/- VoteKeeps: the region that crashes the plate (laid by scripts/mkvrm.py). -/
import Derived.Test.YtippipeebkkghaaGreatDoorTi
namespace Go.Proofs.YtippipeebkkghaaGreatDoor
set_option linter.unusedVariables false
set_option linter.unusedSimpArgs false
open Go.RowKit Go.Deep Go.Maps

theorem vc12_0 (pb bp q7 : Nat) (mk tn nn : Int) (v2 v3 : Value) (ev : Operand → Value) (z : World) (ec : ∀ c, ev (.const c) = c) (e3 : ev (.tmp 3) = .pointer (some ⟨pb, 0, none⟩)) (hS : z.cell? ⟨pb, 2, none⟩ = some (.pointer (some ⟨bp, 0, none⟩)) ∧ z.cell? ⟨q7, 17, none⟩ = some (.int .u64 mk) ∧ z.cell? ⟨q7, 3, none⟩ = some (.int .i64 tn) ∧ z.cell? ⟨q7, 4, none⟩ = some (.int .i64 nn)) : (execOp ev ⟨some 51, Op.move (Operand.tmp 3), 23, "", #[], none⟩).run Tryz.prog z = .ok (.value (.pointer (some ⟨pb, 0, none⟩))) z := by
  obtain ⟨s1, s2, s3, s4⟩ := hS
  go_simp
theorem vc12_1 (pb bp q7 : Nat) (mk tn nn : Int) (v2 v3 : Value) (ev : Operand → Value) (z : World) (ec : ∀ c, ev (.const c) = c) (e51 : ev (.tmp 51) = .pointer (some ⟨pb, 0, none⟩)) (hS : z.cell? ⟨pb, 2, none⟩ = some (.pointer (some ⟨bp, 0, none⟩)) ∧ z.cell? ⟨q7, 17, none⟩ = some (.int .u64 mk) ∧ z.cell? ⟨q7, 3, none⟩ = some (.int .i64 tn) ∧ z.cell? ⟨q7, 4, none⟩ = some (.int .i64 nn)) : (execOp ev ⟨some 52, Op.nilCheck (Operand.tmp 51), 0, "", #[], none⟩).run Tryz.prog z = .ok (.value (.pointer (some ⟨pb, 0, none⟩))) z := by
  obtain ⟨s1, s2, s3, s4⟩ := hS
  go_simp
theorem vc12_2 (pb bp q7 : Nat) (mk tn nn : Int) (v2 v3 : Value) (ev : Operand → Value) (z : World) (ec : ∀ c, ev (.const c) = c) (e52 : ev (.tmp 52) = .pointer (some ⟨pb, 0, none⟩)) (hS : z.cell? ⟨pb, 2, none⟩ = some (.pointer (some ⟨bp, 0, none⟩)) ∧ z.cell? ⟨q7, 17, none⟩ = some (.int .u64 mk) ∧ z.cell? ⟨q7, 3, none⟩ = some (.int .i64 tn) ∧ z.cell? ⟨q7, 4, none⟩ = some (.int .i64 nn)) : (execOp ev ⟨some 53, Op.fieldAddr 44 (Operand.tmp 52) 2, 0, "", #[], none⟩).run Tryz.prog z = .ok (.value (.pointer (some ⟨pb, 2, none⟩))) z := by
  obtain ⟨s1, s2, s3, s4⟩ := hS
  go_simp
theorem vc12_3 (pb bp q7 : Nat) (mk tn nn : Int) (v2 v3 : Value) (ev : Operand → Value) (z : World) (ec : ∀ c, ev (.const c) = c) (e53 : ev (.tmp 53) = .pointer (some ⟨pb, 2, none⟩)) (hS : z.cell? ⟨pb, 2, none⟩ = some (.pointer (some ⟨bp, 0, none⟩)) ∧ z.cell? ⟨q7, 17, none⟩ = some (.int .u64 mk) ∧ z.cell? ⟨q7, 3, none⟩ = some (.int .i64 tn) ∧ z.cell? ⟨q7, 4, none⟩ = some (.int .i64 nn)) : (execOp ev ⟨some 54, Op.load 41 (Operand.tmp 53), 41, "", #[], none⟩).run Tryz.prog z = .ok (.value (.pointer (some ⟨bp, 0, none⟩))) z := by
  obtain ⟨s1, s2, s3, s4⟩ := hS
  go_simp
theorem vc12_4 (pb bp q7 : Nat) (mk tn nn : Int) (v2 v3 : Value) (ev : Operand → Value) (z : World) (ec : ∀ c, ev (.const c) = c) (e3 : ev (.tmp 3) = .pointer (some ⟨pb, 0, none⟩)) (hS : z.cell? ⟨pb, 2, none⟩ = some (.pointer (some ⟨bp, 0, none⟩)) ∧ z.cell? ⟨q7, 17, none⟩ = some (.int .u64 mk) ∧ z.cell? ⟨q7, 3, none⟩ = some (.int .i64 tn) ∧ z.cell? ⟨q7, 4, none⟩ = some (.int .i64 nn)) : (execOp ev ⟨some 55, Op.move (Operand.tmp 3), 23, "", #[], none⟩).run Tryz.prog z = .ok (.value (.pointer (some ⟨pb, 0, none⟩))) z := by
  obtain ⟨s1, s2, s3, s4⟩ := hS
  go_simp
theorem vc12_5 (pb bp q7 : Nat) (mk tn nn : Int) (v2 v3 : Value) (ev : Operand → Value) (z : World) (ec : ∀ c, ev (.const c) = c) (e55 : ev (.tmp 55) = .pointer (some ⟨pb, 0, none⟩)) (hS : z.cell? ⟨pb, 2, none⟩ = some (.pointer (some ⟨bp, 0, none⟩)) ∧ z.cell? ⟨q7, 17, none⟩ = some (.int .u64 mk) ∧ z.cell? ⟨q7, 3, none⟩ = some (.int .i64 tn) ∧ z.cell? ⟨q7, 4, none⟩ = some (.int .i64 nn)) : (execOp ev ⟨some 56, Op.nilCheck (Operand.tmp 55), 0, "", #[], none⟩).run Tryz.prog z = .ok (.value (.pointer (some ⟨pb, 0, none⟩))) z := by
  obtain ⟨s1, s2, s3, s4⟩ := hS
  go_simp
theorem vc12_6 (pb bp q7 : Nat) (mk tn nn : Int) (v2 v3 : Value) (ev : Operand → Value) (z : World) (ec : ∀ c, ev (.const c) = c) (e56 : ev (.tmp 56) = .pointer (some ⟨pb, 0, none⟩)) (hS : z.cell? ⟨pb, 2, none⟩ = some (.pointer (some ⟨bp, 0, none⟩)) ∧ z.cell? ⟨q7, 17, none⟩ = some (.int .u64 mk) ∧ z.cell? ⟨q7, 3, none⟩ = some (.int .i64 tn) ∧ z.cell? ⟨q7, 4, none⟩ = some (.int .i64 nn)) : (execOp ev ⟨some 57, Op.fieldAddr 44 (Operand.tmp 56) 2, 0, "", #[], none⟩).run Tryz.prog z = .ok (.value (.pointer (some ⟨pb, 2, none⟩))) z := by
  obtain ⟨s1, s2, s3, s4⟩ := hS
  go_simp
theorem vc12_7 (pb bp q7 : Nat) (mk tn nn : Int) (v2 v3 : Value) (ev : Operand → Value) (z : World) (ec : ∀ c, ev (.const c) = c) (e57 : ev (.tmp 57) = .pointer (some ⟨pb, 2, none⟩)) (hS : z.cell? ⟨pb, 2, none⟩ = some (.pointer (some ⟨bp, 0, none⟩)) ∧ z.cell? ⟨q7, 17, none⟩ = some (.int .u64 mk) ∧ z.cell? ⟨q7, 3, none⟩ = some (.int .i64 tn) ∧ z.cell? ⟨q7, 4, none⟩ = some (.int .i64 nn)) : (execOp ev ⟨some 58, Op.load 41 (Operand.tmp 57), 41, "", #[], none⟩).run Tryz.prog z = .ok (.value (.pointer (some ⟨bp, 0, none⟩))) z := by
  obtain ⟨s1, s2, s3, s4⟩ := hS
  go_simp
theorem vc12_9 (pb bp q7 : Nat) (mk tn nn : Int) (v2 v3 : Value) (ev : Operand → Value) (z : World) (ec : ∀ c, ev (.const c) = c) (e7 : ev (.tmp 7) = .pointer (some ⟨q7, 0, none⟩)) (hS : z.cell? ⟨pb, 2, none⟩ = some (.pointer (some ⟨bp, 0, none⟩)) ∧ z.cell? ⟨q7, 17, none⟩ = some (.int .u64 mk) ∧ z.cell? ⟨q7, 3, none⟩ = some (.int .i64 tn) ∧ z.cell? ⟨q7, 4, none⟩ = some (.int .i64 nn)) : (execOp ev ⟨some 60, Op.fieldAddr 34 (Operand.tmp 7) 6, 0, "", #[], none⟩).run Tryz.prog z = .ok (.value (.pointer (some ⟨q7, 17, none⟩))) z := by
  obtain ⟨s1, s2, s3, s4⟩ := hS
  go_simp
theorem vc12_10 (pb bp q7 : Nat) (mk tn nn : Int) (v2 v3 : Value) (ev : Operand → Value) (z : World) (ec : ∀ c, ev (.const c) = c) (e60 : ev (.tmp 60) = .pointer (some ⟨q7, 17, none⟩)) (hS : z.cell? ⟨pb, 2, none⟩ = some (.pointer (some ⟨bp, 0, none⟩)) ∧ z.cell? ⟨q7, 17, none⟩ = some (.int .u64 mk) ∧ z.cell? ⟨q7, 3, none⟩ = some (.int .i64 tn) ∧ z.cell? ⟨q7, 4, none⟩ = some (.int .i64 nn)) : (execOp ev ⟨some 61, Op.load 32 (Operand.tmp 60), 32, "", #[], none⟩).run Tryz.prog z = .ok (.value (.int .u64 mk)) z := by
  obtain ⟨s1, s2, s3, s4⟩ := hS
  go_simp
theorem vc12_12 (pb bp q7 : Nat) (mk tn nn : Int) (v2 v3 : Value) (ev : Operand → Value) (z : World) (ec : ∀ c, ev (.const c) = c) (e7 : ev (.tmp 7) = .pointer (some ⟨q7, 0, none⟩)) (hS : z.cell? ⟨pb, 2, none⟩ = some (.pointer (some ⟨bp, 0, none⟩)) ∧ z.cell? ⟨q7, 17, none⟩ = some (.int .u64 mk) ∧ z.cell? ⟨q7, 3, none⟩ = some (.int .i64 tn) ∧ z.cell? ⟨q7, 4, none⟩ = some (.int .i64 nn)) : (execOp ev ⟨some 63, Op.fieldAddr 34 (Operand.tmp 7) 3, 0, "", #[], none⟩).run Tryz.prog z = .ok (.value (.pointer (some ⟨q7, 3, none⟩))) z := by
  obtain ⟨s1, s2, s3, s4⟩ := hS
  go_simp
theorem vc12_13 (pb bp q7 : Nat) (mk tn nn : Int) (v2 v3 : Value) (ev : Operand → Value) (z : World) (ec : ∀ c, ev (.const c) = c) (e63 : ev (.tmp 63) = .pointer (some ⟨q7, 3, none⟩)) (hS : z.cell? ⟨pb, 2, none⟩ = some (.pointer (some ⟨bp, 0, none⟩)) ∧ z.cell? ⟨q7, 17, none⟩ = some (.int .u64 mk) ∧ z.cell? ⟨q7, 3, none⟩ = some (.int .i64 tn) ∧ z.cell? ⟨q7, 4, none⟩ = some (.int .i64 nn)) : (execOp ev ⟨some 64, Op.load 3 (Operand.tmp 63), 3, "", #[], none⟩).run Tryz.prog z = .ok (.value (.int .i64 tn)) z := by
  obtain ⟨s1, s2, s3, s4⟩ := hS
  go_simp
theorem vc12_14 (pb bp q7 : Nat) (mk tn nn : Int) (v2 v3 : Value) (ev : Operand → Value) (z : World) (ec : ∀ c, ev (.const c) = c) (e7 : ev (.tmp 7) = .pointer (some ⟨q7, 0, none⟩)) (hS : z.cell? ⟨pb, 2, none⟩ = some (.pointer (some ⟨bp, 0, none⟩)) ∧ z.cell? ⟨q7, 17, none⟩ = some (.int .u64 mk) ∧ z.cell? ⟨q7, 3, none⟩ = some (.int .i64 tn) ∧ z.cell? ⟨q7, 4, none⟩ = some (.int .i64 nn)) : (execOp ev ⟨some 65, Op.fieldAddr 34 (Operand.tmp 7) 4, 0, "", #[], none⟩).run Tryz.prog z = .ok (.value (.pointer (some ⟨q7, 4, none⟩))) z := by
  obtain ⟨s1, s2, s3, s4⟩ := hS
  go_simp
theorem vc12_15 (pb bp q7 : Nat) (mk tn nn : Int) (v2 v3 : Value) (ev : Operand → Value) (z : World) (ec : ∀ c, ev (.const c) = c) (e65 : ev (.tmp 65) = .pointer (some ⟨q7, 4, none⟩)) (hS : z.cell? ⟨pb, 2, none⟩ = some (.pointer (some ⟨bp, 0, none⟩)) ∧ z.cell? ⟨q7, 17, none⟩ = some (.int .u64 mk) ∧ z.cell? ⟨q7, 3, none⟩ = some (.int .i64 tn) ∧ z.cell? ⟨q7, 4, none⟩ = some (.int .i64 nn)) : (execOp ev ⟨some 66, Op.load 3 (Operand.tmp 65), 3, "", #[], none⟩).run Tryz.prog z = .ok (.value (.int .i64 nn)) z := by
  obtain ⟨s1, s2, s3, s4⟩ := hS
  go_simp
set_option maxRecDepth 100000 in
theorem vc12_8 (pb bp q7 : Nat) (mk tn nn : Int) (v2 v3 : Value) (ev : Operand → Value) (z : World) (ec : ∀ c, ev (.const c) = c) (ef : ev (.func 9) = .func (.func 9) #[] #[]) (e58 : ev (.tmp 58) = .pointer (some ⟨bp, 0, none⟩)) : (execOp ev ⟨some 59, Op.call { callee := Callee.value (Operand.func 9), args := #[Operand.tmp 58], argTypes := #[41] }, 29, "", #[], none⟩).run Tryz.prog z = .ok (.enter 9 #[.pointer (some ⟨bp, 0, none⟩)]) z :=
  enter_run _ ef (by simp only [List.map_toArray, List.map_cons, List.map_nil, ec, e58]) (fun _ => by rfl)
set_option maxRecDepth 100000 in
theorem vc12_11 (pb bp q7 : Nat) (mk tn nn : Int) (v2 v3 : Value) (ev : Operand → Value) (z : World) (ec : ∀ c, ev (.const c) = c) (ef : ev (.func 8) = .func (.func 8) #[] #[]) (e59 : ev (.tmp 59) = v2) (e61 : ev (.tmp 61) = .int .u64 mk) : (execOp ev ⟨some 62, Op.call { callee := Callee.value (Operand.func 8), args := #[Operand.tmp 59, Operand.tmp 61], argTypes := #[29, 32] }, 29, "", #[], none⟩).run Tryz.prog z = .ok (.enter 8 #[v2, .int .u64 mk]) z :=
  enter_run _ ef (by simp only [List.map_toArray, List.map_cons, List.map_nil, ec, e59, e61]) (fun _ => by rfl)
set_option maxRecDepth 100000 in
theorem vc12_16 (pb bp q7 : Nat) (mk tn nn : Int) (v2 v3 : Value) (ev : Operand → Value) (z : World) (ec : ∀ c, ev (.const c) = c) (ef : ev (.func 7) = .func (.func 7) #[] #[]) (e54 : ev (.tmp 54) = .pointer (some ⟨bp, 0, none⟩)) (e62 : ev (.tmp 62) = v3) (e64 : ev (.tmp 64) = .int .i64 tn) (e66 : ev (.tmp 66) = .int .i64 nn) : (execOp ev ⟨some 67, Op.call { callee := Callee.value (Operand.func 7), args := #[Operand.tmp 54, Operand.tmp 62, Operand.tmp 64, Operand.tmp 66], argTypes := #[41, 29, 3, 3] }, 37, "", #[], none⟩).run Tryz.prog z = .ok (.enter 7 #[.pointer (some ⟨bp, 0, none⟩), v3, .int .i64 tn, .int .i64 nn]) z :=
  enter_run _ ef (by simp only [List.map_toArray, List.map_cons, List.map_nil, ec, e54, e62, e64, e66]) (fun _ => by rfl)
theorem vc12_17 (pb bp q7 : Nat) (mk tn nn : Int) (v2 v3 : Value) (ev : Operand → Value) (z : World) (ec : ∀ c, ev (.const c) = c) (e67 : ev (.tmp 67) = .int .i64 0) (hS : z.cell? ⟨pb, 2, none⟩ = some (.pointer (some ⟨bp, 0, none⟩)) ∧ z.cell? ⟨q7, 17, none⟩ = some (.int .u64 mk) ∧ z.cell? ⟨q7, 3, none⟩ = some (.int .i64 tn) ∧ z.cell? ⟨q7, 4, none⟩ = some (.int .i64 nn)) : (execOp ev ⟨some 68, Op.binOp BinOp.neq 37 (Operand.tmp 67) (Operand.const (Value.int IntKind.i64 0)) 37, 4, "", #[], none⟩).run Tryz.prog z = .ok (.value (.bool false)) z := by
  obtain ⟨s1, s2, s3, s4⟩ := hS
  go_simp
structure vc12R (ops : Array Oper) : Prop where
  size : ops.size = 18
  sel : Region.noSelect ops = true
  o0 : (ops[0]?).map bare = some ⟨some 51, Op.move (Operand.tmp 3), 23, "", #[], none⟩
  o1 : (ops[1]?).map bare = some ⟨some 52, Op.nilCheck (Operand.tmp 51), 0, "", #[], none⟩
  o2 : (ops[2]?).map bare = some ⟨some 53, Op.fieldAddr 44 (Operand.tmp 52) 2, 0, "", #[], none⟩
  o3 : (ops[3]?).map bare = some ⟨some 54, Op.load 41 (Operand.tmp 53), 41, "", #[], none⟩
  o4 : (ops[4]?).map bare = some ⟨some 55, Op.move (Operand.tmp 3), 23, "", #[], none⟩
  o5 : (ops[5]?).map bare = some ⟨some 56, Op.nilCheck (Operand.tmp 55), 0, "", #[], none⟩
  o6 : (ops[6]?).map bare = some ⟨some 57, Op.fieldAddr 44 (Operand.tmp 56) 2, 0, "", #[], none⟩
  o7 : (ops[7]?).map bare = some ⟨some 58, Op.load 41 (Operand.tmp 57), 41, "", #[], none⟩
  o8 : (ops[8]?).map bare = some ⟨some 59, Op.call { callee := Callee.value (Operand.func 9), args := #[Operand.tmp 58], argTypes := #[41] }, 29, "", #[], none⟩
  o9 : (ops[9]?).map bare = some ⟨some 60, Op.fieldAddr 34 (Operand.tmp 7) 6, 0, "", #[], none⟩
  o10 : (ops[10]?).map bare = some ⟨some 61, Op.load 32 (Operand.tmp 60), 32, "", #[], none⟩
  o11 : (ops[11]?).map bare = some ⟨some 62, Op.call { callee := Callee.value (Operand.func 8), args := #[Operand.tmp 59, Operand.tmp 61], argTypes := #[29, 32] }, 29, "", #[], none⟩
  o12 : (ops[12]?).map bare = some ⟨some 63, Op.fieldAddr 34 (Operand.tmp 7) 3, 0, "", #[], none⟩
  o13 : (ops[13]?).map bare = some ⟨some 64, Op.load 3 (Operand.tmp 63), 3, "", #[], none⟩
  o14 : (ops[14]?).map bare = some ⟨some 65, Op.fieldAddr 34 (Operand.tmp 7) 4, 0, "", #[], none⟩
  o15 : (ops[15]?).map bare = some ⟨some 66, Op.load 3 (Operand.tmp 65), 3, "", #[], none⟩
  o16 : (ops[16]?).map bare = some ⟨some 67, Op.call { callee := Callee.value (Operand.func 7), args := #[Operand.tmp 54, Operand.tmp 62, Operand.tmp 64, Operand.tmp 66], argTypes := #[41, 29, 3, 3] }, 37, "", #[], none⟩
  o17 : (ops[17]?).map bare = some ⟨some 68, Op.binOp BinOp.neq 37 (Operand.tmp 67) (Operand.const (Value.int IntKind.i64 0)) 37, 4, "", #[], none⟩
  may0 : takeB .any ops [0, 1, 2, 3, 4, 5, 6, 7, 9, 10, 12, 13, 14, 15] (Array.replicate 18 false) = true
  r8 : Region.ready .any ops (mark [0, 1, 2, 3, 4, 5, 6, 7, 9, 10, 12, 13, 14, 15] (Array.replicate 18 false)) = [8]
  r11 : Region.ready .any ops ((mark [0, 1, 2, 3, 4, 5, 6, 7, 9, 10, 12, 13, 14, 15] (Array.replicate 18 false)).setIfInBounds 8 true) = [11]
  r16 : Region.ready .any ops (((mark [0, 1, 2, 3, 4, 5, 6, 7, 9, 10, 12, 13, 14, 15] (Array.replicate 18 false)).setIfInBounds 8 true).setIfInBounds 11 true) = [16]
  may1 : takeB .any ops [17] ((((mark [0, 1, 2, 3, 4, 5, 6, 7, 9, 10, 12, 13, 14, 15] (Array.replicate 18 false)).setIfInBounds 8 true).setIfInBounds 11 true).setIfInBounds 16 true) = true
  fin : Region.ready .any ops (mark [17] ((((mark [0, 1, 2, 3, 4, 5, 6, 7, 9, 10, 12, 13, 14, 15] (Array.replicate 18 false)).setIfInBounds 8 true).setIfInBounds 11 true).setIfInBounds 16 true)) = []

set_option maxRecDepth 100000 in
set_option maxHeartbeats 3200000 in
theorem vc12_region {ops : Array Oper} {id : Nat} {Q : Exit → Act → World → Prop} {a : Act} {y : World} (R : vc12R ops) (pb bp q7 : Nat) (mk tn nn : Int) (v2 v3 : Value)
    (hQ : ∀ d v c a w, Q (.panic c) (a.put d v) w → Q (.panic c) a w) (hsz : a.tmps.size = 191) (e3 : a.eval (.tmp 3) = .pointer (some ⟨pb, 0, none⟩)) (e7 : a.eval (.tmp 7) = .pointer (some ⟨q7, 0, none⟩)) (hS0 : y.drew.cell? ⟨pb, 2, none⟩ = some (.pointer (some ⟨bp, 0, none⟩)) ∧ y.drew.cell? ⟨q7, 17, none⟩ = some (.int .u64 mk) ∧ y.drew.cell? ⟨q7, 3, none⟩ = some (.int .i64 tn) ∧ y.drew.cell? ⟨q7, 4, none⟩ = some (.int .i64 nn)) (T : World → Prop) (hc : Calls Tryz.prog 9 #[.pointer (some ⟨bp, 0, none⟩)] y.drew fun e w9 => ∃ v2, e = .returned v2 ∧ (w9.cell? ⟨pb, 2, none⟩ = some (.pointer (some ⟨bp, 0, none⟩)) ∧ w9.cell? ⟨q7, 17, none⟩ = some (.int .u64 mk) ∧ w9.cell? ⟨q7, 3, none⟩ = some (.int .i64 tn) ∧ w9.cell? ⟨q7, 4, none⟩ = some (.int .i64 nn)) ∧ (Calls Tryz.prog 8 #[v2, .int .u64 mk] w9 fun e w9 => ∃ v3, e = .returned v3 ∧ (w9.cell? ⟨pb, 2, none⟩ = some (.pointer (some ⟨bp, 0, none⟩)) ∧ w9.cell? ⟨q7, 17, none⟩ = some (.int .u64 mk) ∧ w9.cell? ⟨q7, 3, none⟩ = some (.int .i64 tn) ∧ w9.cell? ⟨q7, 4, none⟩ = some (.int .i64 nn)) ∧ (Calls Tryz.prog 7 #[.pointer (some ⟨bp, 0, none⟩), v3, .int .i64 tn, .int .i64 nn] w9 fun e w9 => e = .returned (.int .i64 0) ∧ (w9.cell? ⟨pb, 2, none⟩ = some (.pointer (some ⟨bp, 0, none⟩)) ∧ w9.cell? ⟨q7, 17, none⟩ = some (.int .u64 mk) ∧ w9.cell? ⟨q7, 3, none⟩ = some (.int .i64 tn) ∧ w9.cell? ⟨q7, 4, none⟩ = some (.int .i64 nn)) ∧ T w9)))
    (hK : ∀ (v2 v3 : Value) (w9 : World), T w9 → Q .normal ((((((((((((((((((a.put (some 51) (.pointer (some ⟨pb, 0, none⟩))).put (some 52) (.pointer (some ⟨pb, 0, none⟩))).put (some 53) (.pointer (some ⟨pb, 2, none⟩))).put (some 54) (.pointer (some ⟨bp, 0, none⟩))).put (some 55) (.pointer (some ⟨pb, 0, none⟩))).put (some 56) (.pointer (some ⟨pb, 0, none⟩))).put (some 57) (.pointer (some ⟨pb, 2, none⟩))).put (some 58) (.pointer (some ⟨bp, 0, none⟩))).put (some 60) (.pointer (some ⟨q7, 17, none⟩))).put (some 61) (.int .u64 mk)).put (some 63) (.pointer (some ⟨q7, 3, none⟩))).put (some 64) (.int .i64 tn)).put (some 65) (.pointer (some ⟨q7, 4, none⟩))).put (some 66) (.int .i64 nn)).put (some 59) (v2)).put (some 62) (v3)).put (some 67) (.int .i64 0)).put (some 68) (.bool false)) w9) : (Code.region id ops true).wp Tryz.prog Q a y := by
  have HR : Hid (vc12R ops) := R
  have hdf : a.defers = a.defers := rfl
  refine wp_region_held_drew (S := (fun z : World => z.cell? ⟨pb, 2, none⟩ = some (.pointer (some ⟨bp, 0, none⟩)) ∧ z.cell? ⟨q7, 17, none⟩ = some (.int .u64 mk) ∧ z.cell? ⟨q7, 3, none⟩ = some (.int .i64 tn) ∧ z.cell? ⟨q7, 4, none⟩ = some (.int .i64 nn))) (by kernel_rfl) (hS0) (fun hHeld => ?_)
  rw [R.size]
  clear R
  refine wpAnyH_takes HR.out.sel hQ hHeld [0, 1, 2, 3, 4, 5, 6, 7, 9, 10, 12, 13, 14, 15] 4 _ _ HR.out.may0 ?_
  refine wpTake_stepE ⟨some 51, Op.move (Operand.tmp 3), 23, "", #[], none⟩ 51 (.pointer (some ⟨pb, 0, none⟩)) HR.out.o0 rfl (by rw [hsz]; decide) (wanted_none rfl) (fun z hS => vc12_0 pb bp q7 mk tn nn v2 v3 _ z (fun _ => rfl) e3 hS) ?_
  intro a1 ha1 s1 f1 n1 k1
  replace hsz := s1.trans hsz
  replace hdf := f1.trans hdf
  replace e3 := (k1 3 (by decide)).trans e3
  replace e7 := (k1 7 (by decide)).trans e7
  have e51 := n1
  clear s1 f1 n1 k1
  refine wpTake_stepE ⟨some 52, Op.nilCheck (Operand.tmp 51), 0, "", #[], none⟩ 52 (.pointer (some ⟨pb, 0, none⟩)) HR.out.o1 rfl (by rw [hsz]; decide) (wanted_none rfl) (fun z hS => vc12_1 pb bp q7 mk tn nn v2 v3 _ z (fun _ => rfl) e51 hS) ?_
  intro a2 ha2 s1 f1 n1 k1
  replace hsz := s1.trans hsz
  replace hdf := f1.trans hdf
  replace e3 := (k1 3 (by decide)).trans e3
  replace e7 := (k1 7 (by decide)).trans e7
  have e52 := n1
  clear s1 f1 n1 k1
  refine wpTake_stepE ⟨some 53, Op.fieldAddr 44 (Operand.tmp 52) 2, 0, "", #[], none⟩ 53 (.pointer (some ⟨pb, 2, none⟩)) HR.out.o2 rfl (by rw [hsz]; decide) (wanted_none rfl) (fun z hS => vc12_2 pb bp q7 mk tn nn v2 v3 _ z (fun _ => rfl) e52 hS) ?_
  intro a3 ha3 s1 f1 n1 k1
  replace hsz := s1.trans hsz
  replace hdf := f1.trans hdf
  replace e3 := (k1 3 (by decide)).trans e3
  replace e7 := (k1 7 (by decide)).trans e7
  have e53 := n1
  clear s1 f1 n1 k1
  refine wpTake_stepE ⟨some 54, Op.load 41 (Operand.tmp 53), 41, "", #[], none⟩ 54 (.pointer (some ⟨bp, 0, none⟩)) HR.out.o3 rfl (by rw [hsz]; decide) (wanted_none rfl) (fun z hS => vc12_3 pb bp q7 mk tn nn v2 v3 _ z (fun _ => rfl) e53 hS) ?_
  intro a4 ha4 s1 f1 n1 k1
  replace hsz := s1.trans hsz
  replace hdf := f1.trans hdf
  replace e3 := (k1 3 (by decide)).trans e3
  replace e7 := (k1 7 (by decide)).trans e7
  have e54 := n1
  clear s1 f1 n1 k1
  refine wpTake_stepE ⟨some 55, Op.move (Operand.tmp 3), 23, "", #[], none⟩ 55 (.pointer (some ⟨pb, 0, none⟩)) HR.out.o4 rfl (by rw [hsz]; decide) (wanted_none rfl) (fun z hS => vc12_4 pb bp q7 mk tn nn v2 v3 _ z (fun _ => rfl) e3 hS) ?_
  intro a5 ha5 s1 f1 n1 k1
  replace hsz := s1.trans hsz
  replace hdf := f1.trans hdf
  replace e7 := (k1 7 (by decide)).trans e7
  replace e54 := (k1 54 (by decide)).trans e54
  have e55 := n1
  clear s1 f1 n1 k1
  refine wpTake_stepE ⟨some 56, Op.nilCheck (Operand.tmp 55), 0, "", #[], none⟩ 56 (.pointer (some ⟨pb, 0, none⟩)) HR.out.o5 rfl (by rw [hsz]; decide) (wanted_none rfl) (fun z hS => vc12_5 pb bp q7 mk tn nn v2 v3 _ z (fun _ => rfl) e55 hS) ?_
  intro a6 ha6 s1 f1 n1 k1
  replace hsz := s1.trans hsz
  replace hdf := f1.trans hdf
  replace e7 := (k1 7 (by decide)).trans e7
  replace e54 := (k1 54 (by decide)).trans e54
  have e56 := n1
  clear s1 f1 n1 k1
  refine wpTake_stepE ⟨some 57, Op.fieldAddr 44 (Operand.tmp 56) 2, 0, "", #[], none⟩ 57 (.pointer (some ⟨pb, 2, none⟩)) HR.out.o6 rfl (by rw [hsz]; decide) (wanted_none rfl) (fun z hS => vc12_6 pb bp q7 mk tn nn v2 v3 _ z (fun _ => rfl) e56 hS) ?_
  intro a7 ha7 s1 f1 n1 k1
  replace hsz := s1.trans hsz
  replace hdf := f1.trans hdf
  replace e7 := (k1 7 (by decide)).trans e7
  replace e54 := (k1 54 (by decide)).trans e54
  have e57 := n1
  clear s1 f1 n1 k1
  refine wpTake_stepE ⟨some 58, Op.load 41 (Operand.tmp 57), 41, "", #[], none⟩ 58 (.pointer (some ⟨bp, 0, none⟩)) HR.out.o7 rfl (by rw [hsz]; decide) (wanted_none rfl) (fun z hS => vc12_7 pb bp q7 mk tn nn v2 v3 _ z (fun _ => rfl) e57 hS) ?_
  intro a8 ha8 s1 f1 n1 k1
  replace hsz := s1.trans hsz
  replace hdf := f1.trans hdf
  replace e7 := (k1 7 (by decide)).trans e7
  replace e54 := (k1 54 (by decide)).trans e54
  have e58 := n1
  clear s1 f1 n1 k1
  refine wpTake_stepE ⟨some 60, Op.fieldAddr 34 (Operand.tmp 7) 6, 0, "", #[], none⟩ 60 (.pointer (some ⟨q7, 17, none⟩)) HR.out.o9 rfl (by rw [hsz]; decide) (wanted_none rfl) (fun z hS => vc12_9 pb bp q7 mk tn nn v2 v3 _ z (fun _ => rfl) e7 hS) ?_
  intro a9 ha9 s1 f1 n1 k1
  replace hsz := s1.trans hsz
  replace hdf := f1.trans hdf
  replace e7 := (k1 7 (by decide)).trans e7
  replace e54 := (k1 54 (by decide)).trans e54
  replace e58 := (k1 58 (by decide)).trans e58
  have e60 := n1
  clear s1 f1 n1 k1
  refine wpTake_stepE ⟨some 61, Op.load 32 (Operand.tmp 60), 32, "", #[], none⟩ 61 (.int .u64 mk) HR.out.o10 rfl (by rw [hsz]; decide) (wanted_none rfl) (fun z hS => vc12_10 pb bp q7 mk tn nn v2 v3 _ z (fun _ => rfl) e60 hS) ?_
  intro a10 ha10 s1 f1 n1 k1
  replace hsz := s1.trans hsz
  replace hdf := f1.trans hdf
  replace e7 := (k1 7 (by decide)).trans e7
  replace e54 := (k1 54 (by decide)).trans e54
  replace e58 := (k1 58 (by decide)).trans e58
  have e61 := n1
  clear s1 f1 n1 k1
  refine wpTake_stepE ⟨some 63, Op.fieldAddr 34 (Operand.tmp 7) 3, 0, "", #[], none⟩ 63 (.pointer (some ⟨q7, 3, none⟩)) HR.out.o12 rfl (by rw [hsz]; decide) (wanted_none rfl) (fun z hS => vc12_12 pb bp q7 mk tn nn v2 v3 _ z (fun _ => rfl) e7 hS) ?_
  intro a11 ha11 s1 f1 n1 k1
  replace hsz := s1.trans hsz
  replace hdf := f1.trans hdf
  replace e7 := (k1 7 (by decide)).trans e7
  replace e54 := (k1 54 (by decide)).trans e54
  replace e58 := (k1 58 (by decide)).trans e58
  replace e61 := (k1 61 (by decide)).trans e61
  have e63 := n1
  clear s1 f1 n1 k1
  refine wpTake_stepE ⟨some 64, Op.load 3 (Operand.tmp 63), 3, "", #[], none⟩ 64 (.int .i64 tn) HR.out.o13 rfl (by rw [hsz]; decide) (wanted_none rfl) (fun z hS => vc12_13 pb bp q7 mk tn nn v2 v3 _ z (fun _ => rfl) e63 hS) ?_
  intro a12 ha12 s1 f1 n1 k1
  replace hsz := s1.trans hsz
  replace hdf := f1.trans hdf
  replace e7 := (k1 7 (by decide)).trans e7
  replace e54 := (k1 54 (by decide)).trans e54
  replace e58 := (k1 58 (by decide)).trans e58
  replace e61 := (k1 61 (by decide)).trans e61
  have e64 := n1
  clear s1 f1 n1 k1
  refine wpTake_stepE ⟨some 65, Op.fieldAddr 34 (Operand.tmp 7) 4, 0, "", #[], none⟩ 65 (.pointer (some ⟨q7, 4, none⟩)) HR.out.o14 rfl (by rw [hsz]; decide) (wanted_none rfl) (fun z hS => vc12_14 pb bp q7 mk tn nn v2 v3 _ z (fun _ => rfl) e7 hS) ?_
  intro a13 ha13 s1 f1 n1 k1
  replace hsz := s1.trans hsz
  replace hdf := f1.trans hdf
  replace e54 := (k1 54 (by decide)).trans e54
  replace e58 := (k1 58 (by decide)).trans e58
  replace e61 := (k1 61 (by decide)).trans e61
  replace e64 := (k1 64 (by decide)).trans e64
  have e65 := n1
  clear s1 f1 n1 k1
  refine wpTake_stepE ⟨some 66, Op.load 3 (Operand.tmp 65), 3, "", #[], none⟩ 66 (.int .i64 nn) HR.out.o15 rfl (by rw [hsz]; decide) (wanted_none rfl) (fun z hS => vc12_15 pb bp q7 mk tn nn v2 v3 _ z (fun _ => rfl) e65 hS) ?_
  intro a14 ha14 s1 f1 n1 k1
  replace hsz := s1.trans hsz
  replace hdf := f1.trans hdf
  replace e54 := (k1 54 (by decide)).trans e54
  replace e58 := (k1 58 (by decide)).trans e58
  replace e61 := (k1 61 (by decide)).trans e61
  replace e64 := (k1 64 (by decide)).trans e64
  have e66 := n1
  clear s1 f1 n1 k1
  refine wpTake_nil ?_
  refine wpAnyH_one ⟨some 59, Op.call { callee := Callee.value (Operand.func 9), args := #[Operand.tmp 58], argTypes := #[41] }, 29, "", #[], none⟩ HR.out.r8 HR.out.o8 rfl (fun K' hK' => ?_)
  refine wp_enter (vc12_8 pb bp q7 mk tn nn v2 v3 _ _ (fun _ => rfl) rfl e58) (hc) ?_
  rintro e9 w9 ⟨v2, rfl, hS1, hKe⟩
  refine ⟨_, rfl, hK'.out _ _ (hS1) ?_⟩
  replace hHeld := hS1
  clear hK' K'
  show wpAnyH _ _ _ _ _ _ _ (Act.put a14 (some 59) (v2)) _
  obtain ⟨s1, f1, n1, k1⟩ := act_put a14 59 (v2) (show 59 < _ by rw [hsz]; decide)
  obtain ⟨a15, ha15⟩ : ∃ x, x = Act.put a14 (some 59) (v2) := ⟨_, rfl⟩
  rw [← ha15] at s1 f1 n1 k1 ⊢
  replace hsz := s1.trans hsz
  replace hdf := f1.trans hdf
  replace e54 := (k1 54 (by decide)).trans e54
  replace e61 := (k1 61 (by decide)).trans e61
  replace e64 := (k1 64 (by decide)).trans e64
  replace e66 := (k1 66 (by decide)).trans e66
  have e59 := n1
  clear s1 f1 n1 k1
  refine wpAnyH_one ⟨some 62, Op.call { callee := Callee.value (Operand.func 8), args := #[Operand.tmp 59, Operand.tmp 61], argTypes := #[29, 32] }, 29, "", #[], none⟩ HR.out.r11 HR.out.o11 rfl (fun K' hK' => ?_)
  refine wp_enter (vc12_11 pb bp q7 mk tn nn v2 v3 _ _ (fun _ => rfl) rfl e59 e61) (hKe) ?_
  rintro e9 w9 ⟨v3, rfl, hS2, hCr⟩
  refine ⟨_, rfl, hK'.out _ _ (hS2) ?_⟩
  replace hHeld := hS2
  clear hK' K'
  show wpAnyH _ _ _ _ _ _ _ (Act.put a15 (some 62) (v3)) _
  obtain ⟨s1, f1, n1, k1⟩ := act_put a15 62 (v3) (show 62 < _ by rw [hsz]; decide)
  obtain ⟨a16, ha16⟩ : ∃ x, x = Act.put a15 (some 62) (v3) := ⟨_, rfl⟩
  rw [← ha16] at s1 f1 n1 k1 ⊢
  replace hsz := s1.trans hsz
  replace hdf := f1.trans hdf
  replace e54 := (k1 54 (by decide)).trans e54
  replace e64 := (k1 64 (by decide)).trans e64
  replace e66 := (k1 66 (by decide)).trans e66
  have e62 := n1
  clear s1 f1 n1 k1
  refine wpAnyH_one ⟨some 67, Op.call { callee := Callee.value (Operand.func 7), args := #[Operand.tmp 54, Operand.tmp 62, Operand.tmp 64, Operand.tmp 66], argTypes := #[41, 29, 3, 3] }, 37, "", #[], none⟩ HR.out.r16 HR.out.o16 rfl (fun K' hK' => ?_)
  refine wp_enter (vc12_16 pb bp q7 mk tn nn v2 v3 _ _ (fun _ => rfl) rfl e54 e62 e64 e66) (hCr) ?_
  rintro e9 w9 ⟨rfl, hS3, hT⟩
  refine ⟨_, rfl, hK'.out _ _ (hS3) ?_⟩
  replace hHeld := hS3
  clear hK' K'
  show wpAnyH _ _ _ _ _ _ _ (Act.put a16 (some 67) (.int .i64 0)) _
  obtain ⟨s1, f1, n1, k1⟩ := act_put a16 67 (.int .i64 0) (show 67 < _ by rw [hsz]; decide)
  obtain ⟨a17, ha17⟩ : ∃ x, x = Act.put a16 (some 67) (.int .i64 0) := ⟨_, rfl⟩
  rw [← ha17] at s1 f1 n1 k1 ⊢
  replace hsz := s1.trans hsz
  replace hdf := f1.trans hdf
  have e67 := n1
  clear s1 f1 n1 k1
  refine wpAnyH_takes HR.out.sel hQ hHeld [17] 0 _ _ HR.out.may1 ?_
  refine wpTake_stepE ⟨some 68, Op.binOp BinOp.neq 37 (Operand.tmp 67) (Operand.const (Value.int IntKind.i64 0)) 37, 4, "", #[], none⟩ 68 (.bool false) HR.out.o17 rfl (by rw [hsz]; decide) (wanted_none rfl) (fun z hS => vc12_17 pb bp q7 mk tn nn v2 v3 _ z (fun _ => rfl) e67 hS) ?_
  intro a18 ha18 s1 f1 n1 k1
  replace hsz := s1.trans hsz
  replace hdf := f1.trans hdf
  clear s1 f1 n1 k1
  refine wpTake_nil ?_
  refine wpAnyH_done HR.out.fin ?_ _
  rw [ha18, ha17, ha16, ha15, ha14, ha13, ha12, ha11, ha10, ha9, ha8, ha7, ha6, ha5, ha4, ha3, ha2, ha1]
  exact hK _ _ _ hT

end Go.Proofs.YtippipeebkkghaaGreatDoor
