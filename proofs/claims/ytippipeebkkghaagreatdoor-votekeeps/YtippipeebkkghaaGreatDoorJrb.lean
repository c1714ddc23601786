/- recordOf's drawn region (laid by scripts/mkjrb.py). -/
import Derived.Test.YtippipeebkkghaaGreatDoorJra
import Derived.Test.YtippipeebkkghaaGreatDoorTh
namespace Go.Proofs.YtippipeebkkghaaGreatDoor
set_option linter.unusedVariables false
set_option linter.unusedSimpArgs false
open Go.RowKit Go.Deep Go.Maps

theorem ro_st (q2 : Nat) (k n i ep : Int) (pb : Option Addr) (l cb : Nat) (ev : Operand → Value) (z : World) (y0 y1 y2 y3 y4 : Value) (c0 : z.cell? ⟨q2, 0, none⟩ = some y0) (f0 : z.frozen? ⟨q2, 0, none⟩ = false) (c1 : z.cell? ⟨q2, 1, none⟩ = some y1) (f1 : z.frozen? ⟨q2, 1, none⟩ = false) (c2 : z.cell? ⟨q2, 2, none⟩ = some y2) (f2 : z.frozen? ⟨q2, 2, none⟩ = false) (c3 : z.cell? ⟨q2, 3, none⟩ = some y3) (f3 : z.frozen? ⟨q2, 3, none⟩ = false) (c4 : z.cell? ⟨q2, 4, none⟩ = some y4) (f4 : z.frozen? ⟨q2, 4, none⟩ = false) (e2 : ev (.tmp 2) = .pointer (some ⟨q2, 0, none⟩)) (e32 : ev (.tmp 32) = .agg #[.int .i64 k, .int .i64 n, .int .i64 i, .int .i64 ep, .slice pb l cb]) : (execOp ev ⟨none, Op.store 122 (Operand.tmp 2) (Operand.tmp 32), 0, "", #[], none⟩).run Tryz.prog z = .ok .skip (((((z.setCell ⟨q2, 0, none⟩ (.int .i64 k)).setCell ⟨q2, 1, none⟩ (.int .i64 n)).setCell ⟨q2, 2, none⟩ (.int .i64 i)).setCell ⟨q2, 3, none⟩ (.int .i64 ep)).setCell ⟨q2, 4, none⟩ (.slice pb l cb)) := by
  go_simp
theorem ro10_0 (q5 q2 : Nat) (k n i ep : Int) (pb : Option Addr) (l cb : Nat) (p0 : Option Addr) (n0 c0 : Nat) (pw : Option Addr) (cw : Nat) (ev : Operand → Value) (z : World) (ec : ∀ c, ev (.const c) = c) (e5 : ev (.tmp 5) = .pointer (some ⟨q5, 0, none⟩)) (hS : z.cell? ⟨q5, 0, none⟩ = some (.int .i64 k) ∧ z.cell? ⟨q5, 1, none⟩ = some (.int .i64 n) ∧ z.cell? ⟨q5, 2, none⟩ = some (.int .i64 i) ∧ z.cell? ⟨q5, 3, none⟩ = some (.int .i64 ep) ∧ z.cell? ⟨q5, 4, none⟩ = some (.slice pb l cb)) : (execOp ev ⟨some 32, Op.load 122 (Operand.tmp 5), 122, "", #[], none⟩).run Tryz.prog z = .ok (.value (.agg #[.int .i64 k, .int .i64 n, .int .i64 i, .int .i64 ep, .slice pb l cb])) z := by
  obtain ⟨s0, s1, s2, s3, s4⟩ := hS
  go_simp
theorem ro10_1 (q5 q2 : Nat) (k n i ep : Int) (pb : Option Addr) (l cb : Nat) (p0 : Option Addr) (n0 c0 : Nat) (pw : Option Addr) (cw : Nat) (ev : Operand → Value) (z : World) (ec : ∀ c, ev (.const c) = c) (e5 : ev (.tmp 5) = .pointer (some ⟨q5, 0, none⟩)) (hS : z.cell? ⟨q5, 0, none⟩ = some (.int .i64 k) ∧ z.cell? ⟨q5, 1, none⟩ = some (.int .i64 n) ∧ z.cell? ⟨q5, 2, none⟩ = some (.int .i64 i) ∧ z.cell? ⟨q5, 3, none⟩ = some (.int .i64 ep) ∧ z.cell? ⟨q5, 4, none⟩ = some (.slice pb l cb)) : (execOp ev ⟨some 33, Op.load 122 (Operand.tmp 5), 122, "", #[], none⟩).run Tryz.prog z = .ok (.value (.agg #[.int .i64 k, .int .i64 n, .int .i64 i, .int .i64 ep, .slice pb l cb])) z := by
  obtain ⟨s0, s1, s2, s3, s4⟩ := hS
  go_simp
set_option maxRecDepth 100000 in
theorem ro10_2 (q5 q2 : Nat) (k n i ep : Int) (pb : Option Addr) (l cb : Nat) (p0 : Option Addr) (n0 c0 : Nat) (pw : Option Addr) (cw : Nat) (ev : Operand → Value) (z : World) (ec : ∀ c, ev (.const c) = c) (ef : ev (.func 98) = .func (.func 98) #[] #[]) (e33 : ev (.tmp 33) = .agg #[.int .i64 k, .int .i64 n, .int .i64 i, .int .i64 ep, .slice pb l cb]) : (execOp ev ⟨some 34, Op.call { callee := Callee.value (Operand.func 98), args := #[Operand.tmp 33], argTypes := #[122] }, 4, "", #[], none⟩).run Tryz.prog z = .ok (.enter 98 #[.agg #[.int .i64 k, .int .i64 n, .int .i64 i, .int .i64 ep, .slice pb l cb]]) z :=
  enter_run _ ef (by simp only [List.map_toArray, List.map_cons, List.map_nil, ec, e33]) (fun _ => by rfl)
theorem ro10_3 (q5 q2 : Nat) (k n i ep : Int) (pb : Option Addr) (l cb : Nat) (p0 : Option Addr) (n0 c0 : Nat) (pw : Option Addr) (cw : Nat) (ev : Operand → Value) (z : World) (ec : ∀ c, ev (.const c) = c) (e34 : ev (.tmp 34) = .bool true) (hS : z.cell? ⟨q5, 0, none⟩ = some (.int .i64 k) ∧ z.cell? ⟨q5, 1, none⟩ = some (.int .i64 n) ∧ z.cell? ⟨q5, 2, none⟩ = some (.int .i64 i) ∧ z.cell? ⟨q5, 3, none⟩ = some (.int .i64 ep) ∧ z.cell? ⟨q5, 4, none⟩ = some (.slice pb l cb)) : (execOp ev ⟨some 35, Op.move (Operand.tmp 34), 4, "", #[], none⟩).run Tryz.prog z = .ok (.value (.bool true)) z := by
  obtain ⟨s0, s1, s2, s3, s4⟩ := hS
  go_simp
theorem ro10_4 (q5 q2 : Nat) (k n i ep : Int) (pb : Option Addr) (l cb : Nat) (p0 : Option Addr) (n0 c0 : Nat) (pw : Option Addr) (cw : Nat) (ev : Operand → Value) (z : World) (ec : ∀ c, ev (.const c) = c) (e0 : ev (.tmp 0) = .slice p0 n0 c0) (hS : z.cell? ⟨q5, 0, none⟩ = some (.int .i64 k) ∧ z.cell? ⟨q5, 1, none⟩ = some (.int .i64 n) ∧ z.cell? ⟨q5, 2, none⟩ = some (.int .i64 i) ∧ z.cell? ⟨q5, 3, none⟩ = some (.int .i64 ep) ∧ z.cell? ⟨q5, 4, none⟩ = some (.slice pb l cb)) : (execOp ev ⟨some 36, Op.move (Operand.tmp 0), 75, "", #[], some (3, true)⟩).run Tryz.prog z = .ok (.value (.slice p0 n0 c0)) z := by
  obtain ⟨s0, s1, s2, s3, s4⟩ := hS
  go_simp
theorem ro10_5 (q5 q2 : Nat) (k n i ep : Int) (pb : Option Addr) (l cb : Nat) (p0 : Option Addr) (n0 c0 : Nat) (pw : Option Addr) (cw : Nat) (ev : Operand → Value) (z : World) (ec : ∀ c, ev (.const c) = c) (e5 : ev (.tmp 5) = .pointer (some ⟨q5, 0, none⟩)) (hS : z.cell? ⟨q5, 0, none⟩ = some (.int .i64 k) ∧ z.cell? ⟨q5, 1, none⟩ = some (.int .i64 n) ∧ z.cell? ⟨q5, 2, none⟩ = some (.int .i64 i) ∧ z.cell? ⟨q5, 3, none⟩ = some (.int .i64 ep) ∧ z.cell? ⟨q5, 4, none⟩ = some (.slice pb l cb)) : (execOp ev ⟨some 37, Op.load 122 (Operand.tmp 5), 122, "", #[], some (3, true)⟩).run Tryz.prog z = .ok (.value (.agg #[.int .i64 k, .int .i64 n, .int .i64 i, .int .i64 ep, .slice pb l cb])) z := by
  obtain ⟨s0, s1, s2, s3, s4⟩ := hS
  go_simp
set_option maxRecDepth 100000 in
theorem ro10_6 (q5 q2 : Nat) (k n i ep : Int) (pb : Option Addr) (l cb : Nat) (p0 : Option Addr) (n0 c0 : Nat) (pw : Option Addr) (cw : Nat) (ev : Operand → Value) (z : World) (ec : ∀ c, ev (.const c) = c) (ef : ev (.func 87) = .func (.func 87) #[] #[]) (e37 : ev (.tmp 37) = .agg #[.int .i64 k, .int .i64 n, .int .i64 i, .int .i64 ep, .slice pb l cb]) : (execOp ev ⟨some 38, Op.call { callee := Callee.value (Operand.func 87), args := #[Operand.tmp 37], argTypes := #[122] }, 75, "", #[], some (3, true)⟩).run Tryz.prog z = .ok (.enter 87 #[.agg #[.int .i64 k, .int .i64 n, .int .i64 i, .int .i64 ep, .slice pb l cb]]) z :=
  enter_run _ ef (by simp only [List.map_toArray, List.map_cons, List.map_nil, ec, e37]) (fun _ => by rfl)
set_option maxRecDepth 100000 in
theorem ro10_7 (q5 q2 : Nat) (k n i ep : Int) (pb : Option Addr) (l cb : Nat) (p0 : Option Addr) (n0 c0 : Nat) (pw : Option Addr) (cw : Nat) (ev : Operand → Value) (z : World) (ec : ∀ c, ev (.const c) = c) (ef : ev (.func 49) = .func (.func 49) #[] #[]) (e36 : ev (.tmp 36) = .slice p0 n0 c0) (e38 : ev (.tmp 38) = .slice pw n0 cw) : (execOp ev ⟨some 39, Op.call { callee := Callee.value (Operand.func 49), args := #[Operand.tmp 36, Operand.tmp 38], argTypes := #[75, 75] }, 4, "", #[], some (3, true)⟩).run Tryz.prog z = .ok (.enter 49 #[.slice p0 n0 c0, .slice pw n0 cw]) z :=
  enter_run _ ef (by simp only [List.map_toArray, List.map_cons, List.map_nil, ec, e36, e38]) (fun _ => by rfl)
theorem ro10_8 (q5 q2 : Nat) (k n i ep : Int) (pb : Option Addr) (l cb : Nat) (p0 : Option Addr) (n0 c0 : Nat) (pw : Option Addr) (cw : Nat) (ev : Operand → Value) (z : World) (ec : ∀ c, ev (.const c) = c) (e35 : ev (.tmp 35) = .bool true) (e39 : ev (.tmp 39) = .bool true) (hS : z.cell? ⟨q5, 0, none⟩ = some (.int .i64 k) ∧ z.cell? ⟨q5, 1, none⟩ = some (.int .i64 n) ∧ z.cell? ⟨q5, 2, none⟩ = some (.int .i64 i) ∧ z.cell? ⟨q5, 3, none⟩ = some (.int .i64 ep) ∧ z.cell? ⟨q5, 4, none⟩ = some (.slice pb l cb)) : (execOp ev ⟨some 40, Op.pick (Operand.tmp 35) (Operand.tmp 39) (Operand.const (Value.bool false)), 4, "", #[], none⟩).run Tryz.prog z = .ok (.value (.bool true)) z := by
  obtain ⟨s0, s1, s2, s3, s4⟩ := hS
  go_simp
theorem ro10_10 (q5 q2 : Nat) (k n i ep : Int) (pb : Option Addr) (l cb : Nat) (p0 : Option Addr) (n0 c0 : Nat) (pw : Option Addr) (cw : Nat) (ev : Operand → Value) (z : World) (ec : ∀ c, ev (.const c) = c) (e40 : ev (.tmp 40) = .bool true) (hS : z.cell? ⟨q5, 0, none⟩ = some (.int .i64 k) ∧ z.cell? ⟨q5, 1, none⟩ = some (.int .i64 n) ∧ z.cell? ⟨q5, 2, none⟩ = some (.int .i64 i) ∧ z.cell? ⟨q5, 3, none⟩ = some (.int .i64 ep) ∧ z.cell? ⟨q5, 4, none⟩ = some (.slice pb l cb)) : (execOp ev ⟨some 3, Op.assign (Operand.tmp 40), 4, "", #[], none⟩).run Tryz.prog z = .ok (.value (.bool true)) z := by
  obtain ⟨s0, s1, s2, s3, s4⟩ := hS
  go_simp
structure ro10R (ops : Array Oper) : Prop where
  size : ops.size = 11
  sel : Region.noSelect ops = true
  o0 : (ops[0]?).map bare = some ⟨some 32, Op.load 122 (Operand.tmp 5), 122, "", #[], none⟩
  o1 : (ops[1]?).map bare = some ⟨some 33, Op.load 122 (Operand.tmp 5), 122, "", #[], none⟩
  o2 : (ops[2]?).map bare = some ⟨some 34, Op.call { callee := Callee.value (Operand.func 98), args := #[Operand.tmp 33], argTypes := #[122] }, 4, "", #[], none⟩
  o3 : (ops[3]?).map bare = some ⟨some 35, Op.move (Operand.tmp 34), 4, "", #[], none⟩
  o4 : (ops[4]?).map bare = some ⟨some 36, Op.move (Operand.tmp 0), 75, "", #[], some (3, true)⟩
  o5 : (ops[5]?).map bare = some ⟨some 37, Op.load 122 (Operand.tmp 5), 122, "", #[], some (3, true)⟩
  o6 : (ops[6]?).map bare = some ⟨some 38, Op.call { callee := Callee.value (Operand.func 87), args := #[Operand.tmp 37], argTypes := #[122] }, 75, "", #[], some (3, true)⟩
  o7 : (ops[7]?).map bare = some ⟨some 39, Op.call { callee := Callee.value (Operand.func 49), args := #[Operand.tmp 36, Operand.tmp 38], argTypes := #[75, 75] }, 4, "", #[], some (3, true)⟩
  o8 : (ops[8]?).map bare = some ⟨some 40, Op.pick (Operand.tmp 35) (Operand.tmp 39) (Operand.const (Value.bool false)), 4, "", #[], none⟩
  o9 : (ops[9]?).map bare = some ⟨none, Op.store 122 (Operand.tmp 2) (Operand.tmp 32), 0, "", #[], none⟩
  o10 : (ops[10]?).map bare = some ⟨some 3, Op.assign (Operand.tmp 40), 4, "", #[], none⟩
  may0 : takeB .any ops [0, 1] (Array.replicate 11 false) = true
  r2 : Region.ready .any ops (mark [0, 1] (Array.replicate 11 false)) = [2]
  may1 : takeB .any ops [3, 4, 5] ((mark [0, 1] (Array.replicate 11 false)).setIfInBounds 2 true) = true
  r6 : Region.ready .any ops (mark [3, 4, 5] ((mark [0, 1] (Array.replicate 11 false)).setIfInBounds 2 true)) = [6]
  r7 : Region.ready .any ops ((mark [3, 4, 5] ((mark [0, 1] (Array.replicate 11 false)).setIfInBounds 2 true)).setIfInBounds 6 true) = [7]
  may2 : takeB .any ops [8] (((mark [3, 4, 5] ((mark [0, 1] (Array.replicate 11 false)).setIfInBounds 2 true)).setIfInBounds 6 true).setIfInBounds 7 true) = true
  r9 : Region.ready .any ops (mark [8] (((mark [3, 4, 5] ((mark [0, 1] (Array.replicate 11 false)).setIfInBounds 2 true)).setIfInBounds 6 true).setIfInBounds 7 true)) = [9]
  may3 : takeB .any ops [10] ((mark [8] (((mark [3, 4, 5] ((mark [0, 1] (Array.replicate 11 false)).setIfInBounds 2 true)).setIfInBounds 6 true).setIfInBounds 7 true)).setIfInBounds 9 true) = true
  fin : Region.ready .any ops (mark [10] ((mark [8] (((mark [3, 4, 5] ((mark [0, 1] (Array.replicate 11 false)).setIfInBounds 2 true)).setIfInBounds 6 true).setIfInBounds 7 true)).setIfInBounds 9 true)) = []

set_option maxRecDepth 100000 in
set_option maxHeartbeats 3200000 in
theorem ro10_region {ops : Array Oper} {id : Nat} {Q : Exit → Act → World → Prop} {a : Act} {y : World} (R : ro10R ops) (q5 q2 : Nat) (k n i ep : Int) (pb : Option Addr) (l cb : Nat) (p0 : Option Addr) (n0 c0 : Nat) (pw : Option Addr) (cw : Nat)
    (hQ : ∀ d v c a w, Q (.panic c) (a.put d v) w → Q (.panic c) a w) (hsz : a.tmps.size = 41) (e0 : a.eval (.tmp 0) = .slice p0 n0 c0) (e2 : a.eval (.tmp 2) = .pointer (some ⟨q2, 0, none⟩)) (e5 : a.eval (.tmp 5) = .pointer (some ⟨q5, 0, none⟩)) (hS0 : y.drew.cell? ⟨q5, 0, none⟩ = some (.int .i64 k) ∧ y.drew.cell? ⟨q5, 1, none⟩ = some (.int .i64 n) ∧ y.drew.cell? ⟨q5, 2, none⟩ = some (.int .i64 i) ∧ y.drew.cell? ⟨q5, 3, none⟩ = some (.int .i64 ep) ∧ y.drew.cell? ⟨q5, 4, none⟩ = some (.slice pb l cb)) (T : World → Prop) (hc : Calls Tryz.prog 98 #[.agg #[.int .i64 k, .int .i64 n, .int .i64 i, .int .i64 ep, .slice pb l cb]] y.drew fun e w9 => e = .returned (.bool true) ∧ (w9.cell? ⟨q5, 0, none⟩ = some (.int .i64 k) ∧ w9.cell? ⟨q5, 1, none⟩ = some (.int .i64 n) ∧ w9.cell? ⟨q5, 2, none⟩ = some (.int .i64 i) ∧ w9.cell? ⟨q5, 3, none⟩ = some (.int .i64 ep) ∧ w9.cell? ⟨q5, 4, none⟩ = some (.slice pb l cb)) ∧ Calls Tryz.prog 87 #[.agg #[.int .i64 k, .int .i64 n, .int .i64 i, .int .i64 ep, .slice pb l cb]] w9 fun e w9 => ∃ pw cw, e = .returned (.slice pw n0 cw) ∧ (w9.cell? ⟨q5, 0, none⟩ = some (.int .i64 k) ∧ w9.cell? ⟨q5, 1, none⟩ = some (.int .i64 n) ∧ w9.cell? ⟨q5, 2, none⟩ = some (.int .i64 i) ∧ w9.cell? ⟨q5, 3, none⟩ = some (.int .i64 ep) ∧ w9.cell? ⟨q5, 4, none⟩ = some (.slice pb l cb)) ∧ Calls Tryz.prog 49 #[.slice p0 n0 c0, .slice pw n0 cw] w9 fun e w9 => e = .returned (.bool true) ∧ (w9.cell? ⟨q5, 0, none⟩ = some (.int .i64 k) ∧ w9.cell? ⟨q5, 1, none⟩ = some (.int .i64 n) ∧ w9.cell? ⟨q5, 2, none⟩ = some (.int .i64 i) ∧ w9.cell? ⟨q5, 3, none⟩ = some (.int .i64 ep) ∧ w9.cell? ⟨q5, 4, none⟩ = some (.slice pb l cb)) ∧ (∃ y0 y1 y2 y3 y4, w9.cell? ⟨q2, 0, none⟩ = some y0 ∧ w9.frozen? ⟨q2, 0, none⟩ = false ∧ w9.cell? ⟨q2, 1, none⟩ = some y1 ∧ w9.frozen? ⟨q2, 1, none⟩ = false ∧ w9.cell? ⟨q2, 2, none⟩ = some y2 ∧ w9.frozen? ⟨q2, 2, none⟩ = false ∧ w9.cell? ⟨q2, 3, none⟩ = some y3 ∧ w9.frozen? ⟨q2, 3, none⟩ = false ∧ w9.cell? ⟨q2, 4, none⟩ = some y4 ∧ w9.frozen? ⟨q2, 4, none⟩ = false) ∧ ((((((w9.setCell ⟨q2, 0, none⟩ (.int .i64 k)).setCell ⟨q2, 1, none⟩ (.int .i64 n)).setCell ⟨q2, 2, none⟩ (.int .i64 i)).setCell ⟨q2, 3, none⟩ (.int .i64 ep)).setCell ⟨q2, 4, none⟩ (.slice pb l cb)).cell? ⟨q5, 0, none⟩ = some (.int .i64 k) ∧ (((((w9.setCell ⟨q2, 0, none⟩ (.int .i64 k)).setCell ⟨q2, 1, none⟩ (.int .i64 n)).setCell ⟨q2, 2, none⟩ (.int .i64 i)).setCell ⟨q2, 3, none⟩ (.int .i64 ep)).setCell ⟨q2, 4, none⟩ (.slice pb l cb)).cell? ⟨q5, 1, none⟩ = some (.int .i64 n) ∧ (((((w9.setCell ⟨q2, 0, none⟩ (.int .i64 k)).setCell ⟨q2, 1, none⟩ (.int .i64 n)).setCell ⟨q2, 2, none⟩ (.int .i64 i)).setCell ⟨q2, 3, none⟩ (.int .i64 ep)).setCell ⟨q2, 4, none⟩ (.slice pb l cb)).cell? ⟨q5, 2, none⟩ = some (.int .i64 i) ∧ (((((w9.setCell ⟨q2, 0, none⟩ (.int .i64 k)).setCell ⟨q2, 1, none⟩ (.int .i64 n)).setCell ⟨q2, 2, none⟩ (.int .i64 i)).setCell ⟨q2, 3, none⟩ (.int .i64 ep)).setCell ⟨q2, 4, none⟩ (.slice pb l cb)).cell? ⟨q5, 3, none⟩ = some (.int .i64 ep) ∧ (((((w9.setCell ⟨q2, 0, none⟩ (.int .i64 k)).setCell ⟨q2, 1, none⟩ (.int .i64 n)).setCell ⟨q2, 2, none⟩ (.int .i64 i)).setCell ⟨q2, 3, none⟩ (.int .i64 ep)).setCell ⟨q2, 4, none⟩ (.slice pb l cb)).cell? ⟨q5, 4, none⟩ = some (.slice pb l cb)) ∧ T (((((w9.setCell ⟨q2, 0, none⟩ (.int .i64 k)).setCell ⟨q2, 1, none⟩ (.int .i64 n)).setCell ⟨q2, 2, none⟩ (.int .i64 i)).setCell ⟨q2, 3, none⟩ (.int .i64 ep)).setCell ⟨q2, 4, none⟩ (.slice pb l cb)))
    (hK : ∀ (pw : Option Addr) (cw : Nat) (w9 : World), T (((((w9.setCell ⟨q2, 0, none⟩ (.int .i64 k)).setCell ⟨q2, 1, none⟩ (.int .i64 n)).setCell ⟨q2, 2, none⟩ (.int .i64 i)).setCell ⟨q2, 3, none⟩ (.int .i64 ep)).setCell ⟨q2, 4, none⟩ (.slice pb l cb)) → Q .normal ((((((((((a.put (some 32) (.agg #[.int .i64 k, .int .i64 n, .int .i64 i, .int .i64 ep, .slice pb l cb])).put (some 33) (.agg #[.int .i64 k, .int .i64 n, .int .i64 i, .int .i64 ep, .slice pb l cb])).put (some 34) (.bool true)).put (some 35) (.bool true)).put (some 36) (.slice p0 n0 c0)).put (some 37) (.agg #[.int .i64 k, .int .i64 n, .int .i64 i, .int .i64 ep, .slice pb l cb])).put (some 38) (.slice pw n0 cw)).put (some 39) (.bool true)).put (some 40) (.bool true)).put (some 3) (.bool true)) (((((w9.setCell ⟨q2, 0, none⟩ (.int .i64 k)).setCell ⟨q2, 1, none⟩ (.int .i64 n)).setCell ⟨q2, 2, none⟩ (.int .i64 i)).setCell ⟨q2, 3, none⟩ (.int .i64 ep)).setCell ⟨q2, 4, none⟩ (.slice pb l cb))) : (Code.region id ops true).wp Tryz.prog Q a y := by
  have HR : Hid (ro10R ops) := R
  have hdf : a.defers = a.defers := rfl
  refine wp_region_held_drew (S := (fun z : World => z.cell? ⟨q5, 0, none⟩ = some (.int .i64 k) ∧ z.cell? ⟨q5, 1, none⟩ = some (.int .i64 n) ∧ z.cell? ⟨q5, 2, none⟩ = some (.int .i64 i) ∧ z.cell? ⟨q5, 3, none⟩ = some (.int .i64 ep) ∧ z.cell? ⟨q5, 4, none⟩ = some (.slice pb l cb))) (by kernel_rfl) (hS0) (fun hHeld => ?_)
  rw [R.size]
  clear R
  refine wpAnyH_takes HR.out.sel hQ hHeld [0, 1] 9 _ _ HR.out.may0 ?_
  refine wpTake_stepE ⟨some 32, Op.load 122 (Operand.tmp 5), 122, "", #[], none⟩ 32 (.agg #[.int .i64 k, .int .i64 n, .int .i64 i, .int .i64 ep, .slice pb l cb]) HR.out.o0 rfl (by rw [hsz]; decide) (wanted_none rfl) (fun z hS => ro10_0 q5 q2 k n i ep pb l cb p0 n0 c0 pw cw _ z (fun _ => rfl) e5 hS) ?_
  intro a1 ha1 s1 f1 n1 k1
  replace hsz := s1.trans hsz
  replace hdf := f1.trans hdf
  replace e0 := (k1 0 (by decide)).trans e0
  replace e2 := (k1 2 (by decide)).trans e2
  replace e5 := (k1 5 (by decide)).trans e5
  have e32 := n1
  clear s1 f1 n1 k1
  refine wpTake_stepE ⟨some 33, Op.load 122 (Operand.tmp 5), 122, "", #[], none⟩ 33 (.agg #[.int .i64 k, .int .i64 n, .int .i64 i, .int .i64 ep, .slice pb l cb]) HR.out.o1 rfl (by rw [hsz]; decide) (wanted_none rfl) (fun z hS => ro10_1 q5 q2 k n i ep pb l cb p0 n0 c0 pw cw _ z (fun _ => rfl) e5 hS) ?_
  intro a2 ha2 s1 f1 n1 k1
  replace hsz := s1.trans hsz
  replace hdf := f1.trans hdf
  replace e0 := (k1 0 (by decide)).trans e0
  replace e2 := (k1 2 (by decide)).trans e2
  replace e5 := (k1 5 (by decide)).trans e5
  replace e32 := (k1 32 (by decide)).trans e32
  have e33 := n1
  clear s1 f1 n1 k1
  refine wpTake_nil ?_
  refine wpAnyH_one ⟨some 34, Op.call { callee := Callee.value (Operand.func 98), args := #[Operand.tmp 33], argTypes := #[122] }, 4, "", #[], none⟩ HR.out.r2 HR.out.o2 rfl (fun K' hK' => ?_)
  refine wp_enter (ro10_2 q5 q2 k n i ep pb l cb p0 n0 c0 pw cw _ _ (fun _ => rfl) rfl e33) (hc) ?_
  rintro e9 w9 ⟨rfl, hS9, hc2⟩
  refine ⟨_, rfl, hK'.out _ _ (hS9) ?_⟩
  replace hHeld := hS9
  clear hK' K'
  show wpAnyH _ _ _ _ _ _ _ (Act.put a2 (some 34) (.bool true)) _
  obtain ⟨s1, f1, n1, k1⟩ := act_put a2 34 (.bool true) (show 34 < _ by rw [hsz]; decide)
  obtain ⟨a3, ha3⟩ : ∃ x, x = Act.put a2 (some 34) (.bool true) := ⟨_, rfl⟩
  rw [← ha3] at s1 f1 n1 k1 ⊢
  replace hsz := s1.trans hsz
  replace hdf := f1.trans hdf
  replace e0 := (k1 0 (by decide)).trans e0
  replace e2 := (k1 2 (by decide)).trans e2
  replace e5 := (k1 5 (by decide)).trans e5
  replace e32 := (k1 32 (by decide)).trans e32
  have e34 := n1
  clear s1 f1 n1 k1
  refine wpAnyH_takes HR.out.sel hQ hHeld [3, 4, 5] 5 _ _ HR.out.may1 ?_
  refine wpTake_stepE ⟨some 35, Op.move (Operand.tmp 34), 4, "", #[], none⟩ 35 (.bool true) HR.out.o3 rfl (by rw [hsz]; decide) (wanted_none rfl) (fun z hS => ro10_3 q5 q2 k n i ep pb l cb p0 n0 c0 pw cw _ z (fun _ => rfl) e34 hS) ?_
  intro a4 ha4 s1 f1 n1 k1
  replace hsz := s1.trans hsz
  replace hdf := f1.trans hdf
  replace e0 := (k1 0 (by decide)).trans e0
  replace e2 := (k1 2 (by decide)).trans e2
  replace e5 := (k1 5 (by decide)).trans e5
  replace e32 := (k1 32 (by decide)).trans e32
  have e35 := n1
  clear s1 f1 n1 k1
  refine wpTake_stepE ⟨some 36, Op.move (Operand.tmp 0), 75, "", #[], some (3, true)⟩ 36 (.slice p0 n0 c0) HR.out.o4 rfl (by rw [hsz]; decide) (wanted_some rfl (yielded_of HR.out.o3 rfl e35 (by rw [hsz]; decide))) (fun z hS => ro10_4 q5 q2 k n i ep pb l cb p0 n0 c0 pw cw _ z (fun _ => rfl) e0 hS) ?_
  intro a5 ha5 s1 f1 n1 k1
  replace hsz := s1.trans hsz
  replace hdf := f1.trans hdf
  replace e2 := (k1 2 (by decide)).trans e2
  replace e5 := (k1 5 (by decide)).trans e5
  replace e32 := (k1 32 (by decide)).trans e32
  replace e35 := (k1 35 (by decide)).trans e35
  have e36 := n1
  clear s1 f1 n1 k1
  refine wpTake_stepE ⟨some 37, Op.load 122 (Operand.tmp 5), 122, "", #[], some (3, true)⟩ 37 (.agg #[.int .i64 k, .int .i64 n, .int .i64 i, .int .i64 ep, .slice pb l cb]) HR.out.o5 rfl (by rw [hsz]; decide) (wanted_some rfl (yielded_of HR.out.o3 rfl e35 (by rw [hsz]; decide))) (fun z hS => ro10_5 q5 q2 k n i ep pb l cb p0 n0 c0 pw cw _ z (fun _ => rfl) e5 hS) ?_
  intro a6 ha6 s1 f1 n1 k1
  replace hsz := s1.trans hsz
  replace hdf := f1.trans hdf
  replace e2 := (k1 2 (by decide)).trans e2
  replace e32 := (k1 32 (by decide)).trans e32
  replace e35 := (k1 35 (by decide)).trans e35
  replace e36 := (k1 36 (by decide)).trans e36
  have e37 := n1
  clear s1 f1 n1 k1
  refine wpTake_nil ?_
  refine wpAnyH_oneG ⟨some 38, Op.call { callee := Callee.value (Operand.func 87), args := #[Operand.tmp 37], argTypes := #[122] }, 75, "", #[], some (3, true)⟩ HR.out.r6 HR.out.o6 (wanted_some rfl (yielded_of HR.out.o3 rfl e35 (by rw [hsz]; decide))) (fun K' hK' => ?_)
  refine wp_enter (ro10_6 q5 q2 k n i ep pb l cb p0 n0 c0 pw cw _ _ (fun _ => rfl) rfl e37) (hc2) ?_
  rintro e9 w9 ⟨pw, cw, rfl, hS9, hc3⟩
  refine ⟨_, rfl, hK'.out _ _ (hS9) ?_⟩
  replace hHeld := hS9
  clear hK' K'
  show wpAnyH _ _ _ _ _ _ _ (Act.put a6 (some 38) (.slice pw n0 cw)) _
  obtain ⟨s1, f1, n1, k1⟩ := act_put a6 38 (.slice pw n0 cw) (show 38 < _ by rw [hsz]; decide)
  obtain ⟨a7, ha7⟩ : ∃ x, x = Act.put a6 (some 38) (.slice pw n0 cw) := ⟨_, rfl⟩
  rw [← ha7] at s1 f1 n1 k1 ⊢
  replace hsz := s1.trans hsz
  replace hdf := f1.trans hdf
  replace e2 := (k1 2 (by decide)).trans e2
  replace e32 := (k1 32 (by decide)).trans e32
  replace e35 := (k1 35 (by decide)).trans e35
  replace e36 := (k1 36 (by decide)).trans e36
  have e38 := n1
  clear s1 f1 n1 k1
  refine wpAnyH_oneG ⟨some 39, Op.call { callee := Callee.value (Operand.func 49), args := #[Operand.tmp 36, Operand.tmp 38], argTypes := #[75, 75] }, 4, "", #[], some (3, true)⟩ HR.out.r7 HR.out.o7 (wanted_some rfl (yielded_of HR.out.o3 rfl e35 (by rw [hsz]; decide))) (fun K' hK' => ?_)
  refine wp_enter (ro10_7 q5 q2 k n i ep pb l cb p0 n0 c0 pw cw _ _ (fun _ => rfl) rfl e36 e38) (hc3) ?_
  rintro e9 w9 ⟨rfl, hS9, ⟨y0, y1, y2, y3, y4, d0, g0, d1, g1, d2, g2, d3, g3, d4, g4⟩, hS10, hT⟩
  refine ⟨_, rfl, hK'.out _ _ (hS9) ?_⟩
  replace hHeld := hS9
  clear hK' K'
  show wpAnyH _ _ _ _ _ _ _ (Act.put a7 (some 39) (.bool true)) _
  obtain ⟨s1, f1, n1, k1⟩ := act_put a7 39 (.bool true) (show 39 < _ by rw [hsz]; decide)
  obtain ⟨a8, ha8⟩ : ∃ x, x = Act.put a7 (some 39) (.bool true) := ⟨_, rfl⟩
  rw [← ha8] at s1 f1 n1 k1 ⊢
  replace hsz := s1.trans hsz
  replace hdf := f1.trans hdf
  replace e2 := (k1 2 (by decide)).trans e2
  replace e32 := (k1 32 (by decide)).trans e32
  replace e35 := (k1 35 (by decide)).trans e35
  have e39 := n1
  clear s1 f1 n1 k1
  refine wpAnyH_takes HR.out.sel hQ hHeld [8] 2 _ _ HR.out.may2 ?_
  refine wpTake_stepE ⟨some 40, Op.pick (Operand.tmp 35) (Operand.tmp 39) (Operand.const (Value.bool false)), 4, "", #[], none⟩ 40 (.bool true) HR.out.o8 rfl (by rw [hsz]; decide) (wanted_none rfl) (fun z hS => ro10_8 q5 q2 k n i ep pb l cb p0 n0 c0 pw cw _ z (fun _ => rfl) e35 e39 hS) ?_
  intro a9 ha9 s1 f1 n1 k1
  replace hsz := s1.trans hsz
  replace hdf := f1.trans hdf
  replace e2 := (k1 2 (by decide)).trans e2
  replace e32 := (k1 32 (by decide)).trans e32
  have e40 := n1
  clear s1 f1 n1 k1
  refine wpTake_nil ?_
  refine wpAnyH_skip ⟨none, Op.store 122 (Operand.tmp 2) (Operand.tmp 32), 0, "", #[], none⟩ (((((w9.setCell ⟨q2, 0, none⟩ (.int .i64 k)).setCell ⟨q2, 1, none⟩ (.int .i64 n)).setCell ⟨q2, 2, none⟩ (.int .i64 i)).setCell ⟨q2, 3, none⟩ (.int .i64 ep)).setCell ⟨q2, 4, none⟩ (.slice pb l cb)) HR.out.r9 HR.out.o9 rfl rfl (ro_st q2 k n i ep pb l cb _ _ y0 y1 y2 y3 y4 d0 g0 d1 g1 d2 g2 d3 g3 d4 g4 e2 e32) (hS10) ?_
  replace hHeld := hS10
  refine wpAnyH_takes HR.out.sel hQ hHeld [10] 0 _ _ HR.out.may3 ?_
  refine wpTake_stepE ⟨some 3, Op.assign (Operand.tmp 40), 4, "", #[], none⟩ 3 (.bool true) HR.out.o10 rfl (by rw [hsz]; decide) (wanted_none rfl) (fun z hS => ro10_10 q5 q2 k n i ep pb l cb p0 n0 c0 pw cw _ z (fun _ => rfl) e40 hS) ?_
  intro a10 ha10 s1 f1 n1 k1
  replace hsz := s1.trans hsz
  replace hdf := f1.trans hdf
  clear s1 f1 n1 k1
  refine wpTake_nil ?_
  refine wpAnyH_done HR.out.fin ?_ _
  rw [ha10, ha9, ha8, ha7, ha6, ha5, ha4, ha3, ha2, ha1]
  exact hK _ _ _ hT
-- R: ⟨by kernel_rfl, by kernel_rfl, by kernel_rfl, by kernel_rfl, by kernel_rfl, by kernel_rfl, by kernel_rfl, by kernel_rfl, by kernel_rfl, by kernel_rfl, by kernel_rfl, by kernel_rfl, by kernel_rfl, by kernel_rfl, by kernel_rfl, by kernel_rfl, by kernel_rfl, by kernel_rfl, by kernel_rfl, by kernel_rfl, by kernel_rfl, by kernel_rfl⟩

end Go.Proofs.YtippipeebkkghaaGreatDoor
