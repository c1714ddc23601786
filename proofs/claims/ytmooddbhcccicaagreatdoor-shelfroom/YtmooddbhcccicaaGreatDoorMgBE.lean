/- Texts of this proof, joined: Jrb, Jrc, Jrd. -/
import Derived.Test.YtmooddbhcccicaaGreatDoorMgBD
import Derived.Test.YtmooddbhcccicaaGreatDoorMgAH
import Derived.Test.YtmooddbhcccicaaGreatDoorMgBB
import Derived.Handy
import Derived.StillTailTactics
/- recordOf's drawn region (laid by scripts/mkjrb.py). -/
namespace Go.Proofs.YtmooddbhcccicaaGreatDoor
set_option linter.unusedVariables false
set_option linter.unusedSimpArgs false
open Go.RowKit Go.Deep Go.Maps

theorem ro_st (q2 : Nat) (k n i ep : Int) (pb : Option Addr) (l cb : Nat) (ev : Operand → Value) (z : World) (y0 y1 y2 y3 y4 : Value) (c0 : z.cell? ⟨q2, 0, none⟩ = some y0) (f0 : z.frozen? ⟨q2, 0, none⟩ = false) (c1 : z.cell? ⟨q2, 1, none⟩ = some y1) (f1 : z.frozen? ⟨q2, 1, none⟩ = false) (c2 : z.cell? ⟨q2, 2, none⟩ = some y2) (f2 : z.frozen? ⟨q2, 2, none⟩ = false) (c3 : z.cell? ⟨q2, 3, none⟩ = some y3) (f3 : z.frozen? ⟨q2, 3, none⟩ = false) (c4 : z.cell? ⟨q2, 4, none⟩ = some y4) (f4 : z.frozen? ⟨q2, 4, none⟩ = false) (e2 : ev (.tmp 2) = .pointer (some ⟨q2, 0, none⟩)) (e32 : ev (.tmp 32) = .agg #[.int .i64 k, .int .i64 n, .int .i64 i, .int .i64 ep, .slice pb l cb]) : (execOp ev ⟨none, Op.store 85 (Operand.tmp 2) (Operand.tmp 32), 0, "", #[], none⟩).run Tryz.prog z = .ok .skip (((((z.setCell ⟨q2, 0, none⟩ (.int .i64 k)).setCell ⟨q2, 1, none⟩ (.int .i64 n)).setCell ⟨q2, 2, none⟩ (.int .i64 i)).setCell ⟨q2, 3, none⟩ (.int .i64 ep)).setCell ⟨q2, 4, none⟩ (.slice pb l cb)) := by
  go_simp
theorem ro10_0 (q5 q2 : Nat) (k n i ep : Int) (pb : Option Addr) (l cb : Nat) (p0 : Option Addr) (n0 c0 : Nat) (pw : Option Addr) (cw : Nat) (ev : Operand → Value) (z : World) (ec : ∀ c, ev (.const c) = c) (e5 : ev (.tmp 5) = .pointer (some ⟨q5, 0, none⟩)) (hS : z.cell? ⟨q5, 0, none⟩ = some (.int .i64 k) ∧ z.cell? ⟨q5, 1, none⟩ = some (.int .i64 n) ∧ z.cell? ⟨q5, 2, none⟩ = some (.int .i64 i) ∧ z.cell? ⟨q5, 3, none⟩ = some (.int .i64 ep) ∧ z.cell? ⟨q5, 4, none⟩ = some (.slice pb l cb)) : (execOp ev ⟨some 32, Op.load 85 (Operand.tmp 5), 85, "", #[], none⟩).run Tryz.prog z = .ok (.value (.agg #[.int .i64 k, .int .i64 n, .int .i64 i, .int .i64 ep, .slice pb l cb])) z := by
  obtain ⟨s0, s1, s2, s3, s4⟩ := hS
  go_simp
theorem ro10_1 (q5 q2 : Nat) (k n i ep : Int) (pb : Option Addr) (l cb : Nat) (p0 : Option Addr) (n0 c0 : Nat) (pw : Option Addr) (cw : Nat) (ev : Operand → Value) (z : World) (ec : ∀ c, ev (.const c) = c) (e5 : ev (.tmp 5) = .pointer (some ⟨q5, 0, none⟩)) (hS : z.cell? ⟨q5, 0, none⟩ = some (.int .i64 k) ∧ z.cell? ⟨q5, 1, none⟩ = some (.int .i64 n) ∧ z.cell? ⟨q5, 2, none⟩ = some (.int .i64 i) ∧ z.cell? ⟨q5, 3, none⟩ = some (.int .i64 ep) ∧ z.cell? ⟨q5, 4, none⟩ = some (.slice pb l cb)) : (execOp ev ⟨some 33, Op.load 85 (Operand.tmp 5), 85, "", #[], none⟩).run Tryz.prog z = .ok (.value (.agg #[.int .i64 k, .int .i64 n, .int .i64 i, .int .i64 ep, .slice pb l cb])) z := by
  obtain ⟨s0, s1, s2, s3, s4⟩ := hS
  go_simp
set_option maxRecDepth 100000 in
theorem ro10_2 (q5 q2 : Nat) (k n i ep : Int) (pb : Option Addr) (l cb : Nat) (p0 : Option Addr) (n0 c0 : Nat) (pw : Option Addr) (cw : Nat) (ev : Operand → Value) (z : World) (ec : ∀ c, ev (.const c) = c) (ef : ev (.func 145) = .func (.func 145) #[] #[]) (e33 : ev (.tmp 33) = .agg #[.int .i64 k, .int .i64 n, .int .i64 i, .int .i64 ep, .slice pb l cb]) : (execOp ev ⟨some 34, Op.call { callee := Callee.value (Operand.func 145), args := #[Operand.tmp 33], argTypes := #[85] }, 4, "", #[], none⟩).run Tryz.prog z = .ok (.enter 145 #[.agg #[.int .i64 k, .int .i64 n, .int .i64 i, .int .i64 ep, .slice pb l cb]]) z :=
  enter_run _ ef (by simp only [List.map_toArray, List.map_cons, List.map_nil, ec, e33]) (fun _ => by rfl)
theorem ro10_3 (q5 q2 : Nat) (k n i ep : Int) (pb : Option Addr) (l cb : Nat) (p0 : Option Addr) (n0 c0 : Nat) (pw : Option Addr) (cw : Nat) (ev : Operand → Value) (z : World) (ec : ∀ c, ev (.const c) = c) (e34 : ev (.tmp 34) = .bool true) (hS : z.cell? ⟨q5, 0, none⟩ = some (.int .i64 k) ∧ z.cell? ⟨q5, 1, none⟩ = some (.int .i64 n) ∧ z.cell? ⟨q5, 2, none⟩ = some (.int .i64 i) ∧ z.cell? ⟨q5, 3, none⟩ = some (.int .i64 ep) ∧ z.cell? ⟨q5, 4, none⟩ = some (.slice pb l cb)) : (execOp ev ⟨some 35, Op.move (Operand.tmp 34), 4, "", #[], none⟩).run Tryz.prog z = .ok (.value (.bool true)) z := by
  obtain ⟨s0, s1, s2, s3, s4⟩ := hS
  go_simp
theorem ro10_4 (q5 q2 : Nat) (k n i ep : Int) (pb : Option Addr) (l cb : Nat) (p0 : Option Addr) (n0 c0 : Nat) (pw : Option Addr) (cw : Nat) (ev : Operand → Value) (z : World) (ec : ∀ c, ev (.const c) = c) (e0 : ev (.tmp 0) = .slice p0 n0 c0) (hS : z.cell? ⟨q5, 0, none⟩ = some (.int .i64 k) ∧ z.cell? ⟨q5, 1, none⟩ = some (.int .i64 n) ∧ z.cell? ⟨q5, 2, none⟩ = some (.int .i64 i) ∧ z.cell? ⟨q5, 3, none⟩ = some (.int .i64 ep) ∧ z.cell? ⟨q5, 4, none⟩ = some (.slice pb l cb)) : (execOp ev ⟨some 36, Op.move (Operand.tmp 0), 34, "", #[], some (3, true)⟩).run Tryz.prog z = .ok (.value (.slice p0 n0 c0)) z := by
  obtain ⟨s0, s1, s2, s3, s4⟩ := hS
  go_simp
theorem ro10_5 (q5 q2 : Nat) (k n i ep : Int) (pb : Option Addr) (l cb : Nat) (p0 : Option Addr) (n0 c0 : Nat) (pw : Option Addr) (cw : Nat) (ev : Operand → Value) (z : World) (ec : ∀ c, ev (.const c) = c) (e5 : ev (.tmp 5) = .pointer (some ⟨q5, 0, none⟩)) (hS : z.cell? ⟨q5, 0, none⟩ = some (.int .i64 k) ∧ z.cell? ⟨q5, 1, none⟩ = some (.int .i64 n) ∧ z.cell? ⟨q5, 2, none⟩ = some (.int .i64 i) ∧ z.cell? ⟨q5, 3, none⟩ = some (.int .i64 ep) ∧ z.cell? ⟨q5, 4, none⟩ = some (.slice pb l cb)) : (execOp ev ⟨some 37, Op.load 85 (Operand.tmp 5), 85, "", #[], some (3, true)⟩).run Tryz.prog z = .ok (.value (.agg #[.int .i64 k, .int .i64 n, .int .i64 i, .int .i64 ep, .slice pb l cb])) z := by
  obtain ⟨s0, s1, s2, s3, s4⟩ := hS
  go_simp
set_option maxRecDepth 100000 in
theorem ro10_6 (q5 q2 : Nat) (k n i ep : Int) (pb : Option Addr) (l cb : Nat) (p0 : Option Addr) (n0 c0 : Nat) (pw : Option Addr) (cw : Nat) (ev : Operand → Value) (z : World) (ec : ∀ c, ev (.const c) = c) (ef : ev (.func 86) = .func (.func 86) #[] #[]) (e37 : ev (.tmp 37) = .agg #[.int .i64 k, .int .i64 n, .int .i64 i, .int .i64 ep, .slice pb l cb]) : (execOp ev ⟨some 38, Op.call { callee := Callee.value (Operand.func 86), args := #[Operand.tmp 37], argTypes := #[85] }, 34, "", #[], some (3, true)⟩).run Tryz.prog z = .ok (.enter 86 #[.agg #[.int .i64 k, .int .i64 n, .int .i64 i, .int .i64 ep, .slice pb l cb]]) z :=
  enter_run _ ef (by simp only [List.map_toArray, List.map_cons, List.map_nil, ec, e37]) (fun _ => by rfl)
set_option maxRecDepth 100000 in
theorem ro10_7 (q5 q2 : Nat) (k n i ep : Int) (pb : Option Addr) (l cb : Nat) (p0 : Option Addr) (n0 c0 : Nat) (pw : Option Addr) (cw : Nat) (ev : Operand → Value) (z : World) (ec : ∀ c, ev (.const c) = c) (ef : ev (.func 20) = .func (.func 20) #[] #[]) (e36 : ev (.tmp 36) = .slice p0 n0 c0) (e38 : ev (.tmp 38) = .slice pw n0 cw) : (execOp ev ⟨some 39, Op.call { callee := Callee.value (Operand.func 20), args := #[Operand.tmp 36, Operand.tmp 38], argTypes := #[34, 34] }, 4, "", #[], some (3, true)⟩).run Tryz.prog z = .ok (.enter 20 #[.slice p0 n0 c0, .slice pw n0 cw]) z :=
  enter_run _ ef (by simp only [List.map_toArray, List.map_cons, List.map_nil, ec, e36, e38]) (fun _ => by rfl)
theorem ro10_8 (q5 q2 : Nat) (k n i ep : Int) (pb : Option Addr) (l cb : Nat) (p0 : Option Addr) (n0 c0 : Nat) (pw : Option Addr) (cw : Nat) (ev : Operand → Value) (z : World) (ec : ∀ c, ev (.const c) = c) (e35 : ev (.tmp 35) = .bool true) (e39 : ev (.tmp 39) = .bool true) (hS : z.cell? ⟨q5, 0, none⟩ = some (.int .i64 k) ∧ z.cell? ⟨q5, 1, none⟩ = some (.int .i64 n) ∧ z.cell? ⟨q5, 2, none⟩ = some (.int .i64 i) ∧ z.cell? ⟨q5, 3, none⟩ = some (.int .i64 ep) ∧ z.cell? ⟨q5, 4, none⟩ = some (.slice pb l cb)) : (execOp ev ⟨some 40, Op.pick (Operand.tmp 35) (Operand.tmp 39) (Operand.const (Value.bool false)), 4, "", #[], none⟩).run Tryz.prog z = .ok (.value (.bool true)) z := by
  obtain ⟨s0, s1, s2, s3, s4⟩ := hS
  go_simp
theorem ro10_10 (q5 q2 : Nat) (k n i ep : Int) (pb : Option Addr) (l cb : Nat) (p0 : Option Addr) (n0 c0 : Nat) (pw : Option Addr) (cw : Nat) (ev : Operand → Value) (z : World) (ec : ∀ c, ev (.const c) = c) (e40 : ev (.tmp 40) = .bool true) (hS : z.cell? ⟨q5, 0, none⟩ = some (.int .i64 k) ∧ z.cell? ⟨q5, 1, none⟩ = some (.int .i64 n) ∧ z.cell? ⟨q5, 2, none⟩ = some (.int .i64 i) ∧ z.cell? ⟨q5, 3, none⟩ = some (.int .i64 ep) ∧ z.cell? ⟨q5, 4, none⟩ = some (.slice pb l cb)) : (execOp ev ⟨some 3, Op.assign (Operand.tmp 40), 4, "", #[], none⟩).run Tryz.prog z = .ok (.value (.bool true)) z := by
  obtain ⟨s0, s1, s2, s3, s4⟩ := hS
  go_simp
structure ro10R (ops : Array Oper) : Prop where
  size : ops.size = 11
  sel : Region.noSelect ops = true
  o0 : (ops[0]?).map bare = some ⟨some 32, Op.load 85 (Operand.tmp 5), 85, "", #[], none⟩
  o1 : (ops[1]?).map bare = some ⟨some 33, Op.load 85 (Operand.tmp 5), 85, "", #[], none⟩
  o2 : (ops[2]?).map bare = some ⟨some 34, Op.call { callee := Callee.value (Operand.func 145), args := #[Operand.tmp 33], argTypes := #[85] }, 4, "", #[], none⟩
  o3 : (ops[3]?).map bare = some ⟨some 35, Op.move (Operand.tmp 34), 4, "", #[], none⟩
  o4 : (ops[4]?).map bare = some ⟨some 36, Op.move (Operand.tmp 0), 34, "", #[], some (3, true)⟩
  o5 : (ops[5]?).map bare = some ⟨some 37, Op.load 85 (Operand.tmp 5), 85, "", #[], some (3, true)⟩
  o6 : (ops[6]?).map bare = some ⟨some 38, Op.call { callee := Callee.value (Operand.func 86), args := #[Operand.tmp 37], argTypes := #[85] }, 34, "", #[], some (3, true)⟩
  o7 : (ops[7]?).map bare = some ⟨some 39, Op.call { callee := Callee.value (Operand.func 20), args := #[Operand.tmp 36, Operand.tmp 38], argTypes := #[34, 34] }, 4, "", #[], some (3, true)⟩
  o8 : (ops[8]?).map bare = some ⟨some 40, Op.pick (Operand.tmp 35) (Operand.tmp 39) (Operand.const (Value.bool false)), 4, "", #[], none⟩
  o9 : (ops[9]?).map bare = some ⟨none, Op.store 85 (Operand.tmp 2) (Operand.tmp 32), 0, "", #[], none⟩
  o10 : (ops[10]?).map bare = some ⟨some 3, Op.assign (Operand.tmp 40), 4, "", #[], none⟩
  may0 : takeB .any ops [0, 1] (Array.replicate 11 false) = true
  r2 : Region.ready .any ops (mark [0, 1] (Array.replicate 11 false)) = [2]
  may1 : takeB .any ops [3, 4, 5] ((mark [0, 1] (Array.replicate 11 false)).setIfInBounds 2 true) = true
  r6 : Region.ready .any ops (mark [3, 4, 5] ((mark [0, 1] (Array.replicate 11 false)).setIfInBounds 2 true)) = [6]
  r7 : Region.ready .any ops ((mark [3, 4, 5] ((mark [0, 1] (Array.replicate 11 false)).setIfInBounds 2 true)).setIfInBounds 6 true) = [7]
  may2 : takeB .any ops [8] (((mark [3, 4, 5] ((mark [0, 1] (Array.replicate 11 false)).setIfInBounds 2 true)).setIfInBounds 6 true).setIfInBounds 7 true) = true
  r9 : Region.ready .any ops (mark [8] (((mark [3, 4, 5] ((mark [0, 1] (Array.replicate 11 false)).setIfInBounds 2 true)).setIfInBounds 6 true).setIfInBounds 7 true)) = [9]
  may3 : takeB .any ops [10] ((mark [8] (((mark [3, 4, 5] ((mark [0, 1] (Array.replicate 11 false)).setIfInBounds 2 true)).setIfInBounds 6 true).setIfInBounds 7 true)).setIfInBounds 9 true) = true
  fin : Region.ready .any ops (mark [10] ((mark [8] (((mark [3, 4, 5] ((mark [0, 1] (Array.replicate 11 false)).setIfInBounds 2 true)).setIfInBounds 6 true).setIfInBounds 7 true)).setIfInBounds 9 true)) = []

set_option maxRecDepth 100000 in
set_option maxHeartbeats 3200000 in
theorem ro10_region {ops : Array Oper} {id : Nat} {Q : Exit → Act → World → Prop} {a : Act} {y : World} (R : ro10R ops) (q5 q2 : Nat) (k n i ep : Int) (pb : Option Addr) (l cb : Nat) (p0 : Option Addr) (n0 c0 : Nat) (pw : Option Addr) (cw : Nat)
    (hQ : ∀ d v c a w, Q (.panic c) (a.put d v) w → Q (.panic c) a w) (hsz : a.tmps.size = 41) (e0 : a.eval (.tmp 0) = .slice p0 n0 c0) (e2 : a.eval (.tmp 2) = .pointer (some ⟨q2, 0, none⟩)) (e5 : a.eval (.tmp 5) = .pointer (some ⟨q5, 0, none⟩)) (hS0 : y.drew.cell? ⟨q5, 0, none⟩ = some (.int .i64 k) ∧ y.drew.cell? ⟨q5, 1, none⟩ = some (.int .i64 n) ∧ y.drew.cell? ⟨q5, 2, none⟩ = some (.int .i64 i) ∧ y.drew.cell? ⟨q5, 3, none⟩ = some (.int .i64 ep) ∧ y.drew.cell? ⟨q5, 4, none⟩ = some (.slice pb l cb)) (T : World → Prop) (hc : Calls Tryz.prog 145 #[.agg #[.int .i64 k, .int .i64 n, .int .i64 i, .int .i64 ep, .slice pb l cb]] y.drew fun e w9 => e = .returned (.bool true) ∧ (w9.cell? ⟨q5, 0, none⟩ = some (.int .i64 k) ∧ w9.cell? ⟨q5, 1, none⟩ = some (.int .i64 n) ∧ w9.cell? ⟨q5, 2, none⟩ = some (.int .i64 i) ∧ w9.cell? ⟨q5, 3, none⟩ = some (.int .i64 ep) ∧ w9.cell? ⟨q5, 4, none⟩ = some (.slice pb l cb)) ∧ Calls Tryz.prog 86 #[.agg #[.int .i64 k, .int .i64 n, .int .i64 i, .int .i64 ep, .slice pb l cb]] w9 fun e w9 => ∃ pw cw, e = .returned (.slice pw n0 cw) ∧ (w9.cell? ⟨q5, 0, none⟩ = some (.int .i64 k) ∧ w9.cell? ⟨q5, 1, none⟩ = some (.int .i64 n) ∧ w9.cell? ⟨q5, 2, none⟩ = some (.int .i64 i) ∧ w9.cell? ⟨q5, 3, none⟩ = some (.int .i64 ep) ∧ w9.cell? ⟨q5, 4, none⟩ = some (.slice pb l cb)) ∧ Calls Tryz.prog 20 #[.slice p0 n0 c0, .slice pw n0 cw] w9 fun e w9 => e = .returned (.bool true) ∧ (w9.cell? ⟨q5, 0, none⟩ = some (.int .i64 k) ∧ w9.cell? ⟨q5, 1, none⟩ = some (.int .i64 n) ∧ w9.cell? ⟨q5, 2, none⟩ = some (.int .i64 i) ∧ w9.cell? ⟨q5, 3, none⟩ = some (.int .i64 ep) ∧ w9.cell? ⟨q5, 4, none⟩ = some (.slice pb l cb)) ∧ (∃ y0 y1 y2 y3 y4, w9.cell? ⟨q2, 0, none⟩ = some y0 ∧ w9.frozen? ⟨q2, 0, none⟩ = false ∧ w9.cell? ⟨q2, 1, none⟩ = some y1 ∧ w9.frozen? ⟨q2, 1, none⟩ = false ∧ w9.cell? ⟨q2, 2, none⟩ = some y2 ∧ w9.frozen? ⟨q2, 2, none⟩ = false ∧ w9.cell? ⟨q2, 3, none⟩ = some y3 ∧ w9.frozen? ⟨q2, 3, none⟩ = false ∧ w9.cell? ⟨q2, 4, none⟩ = some y4 ∧ w9.frozen? ⟨q2, 4, none⟩ = false) ∧ ((((((w9.setCell ⟨q2, 0, none⟩ (.int .i64 k)).setCell ⟨q2, 1, none⟩ (.int .i64 n)).setCell ⟨q2, 2, none⟩ (.int .i64 i)).setCell ⟨q2, 3, none⟩ (.int .i64 ep)).setCell ⟨q2, 4, none⟩ (.slice pb l cb)).cell? ⟨q5, 0, none⟩ = some (.int .i64 k) ∧ (((((w9.setCell ⟨q2, 0, none⟩ (.int .i64 k)).setCell ⟨q2, 1, none⟩ (.int .i64 n)).setCell ⟨q2, 2, none⟩ (.int .i64 i)).setCell ⟨q2, 3, none⟩ (.int .i64 ep)).setCell ⟨q2, 4, none⟩ (.slice pb l cb)).cell? ⟨q5, 1, none⟩ = some (.int .i64 n) ∧ (((((w9.setCell ⟨q2, 0, none⟩ (.int .i64 k)).setCell ⟨q2, 1, none⟩ (.int .i64 n)).setCell ⟨q2, 2, none⟩ (.int .i64 i)).setCell ⟨q2, 3, none⟩ (.int .i64 ep)).setCell ⟨q2, 4, none⟩ (.slice pb l cb)).cell? ⟨q5, 2, none⟩ = some (.int .i64 i) ∧ (((((w9.setCell ⟨q2, 0, none⟩ (.int .i64 k)).setCell ⟨q2, 1, none⟩ (.int .i64 n)).setCell ⟨q2, 2, none⟩ (.int .i64 i)).setCell ⟨q2, 3, none⟩ (.int .i64 ep)).setCell ⟨q2, 4, none⟩ (.slice pb l cb)).cell? ⟨q5, 3, none⟩ = some (.int .i64 ep) ∧ (((((w9.setCell ⟨q2, 0, none⟩ (.int .i64 k)).setCell ⟨q2, 1, none⟩ (.int .i64 n)).setCell ⟨q2, 2, none⟩ (.int .i64 i)).setCell ⟨q2, 3, none⟩ (.int .i64 ep)).setCell ⟨q2, 4, none⟩ (.slice pb l cb)).cell? ⟨q5, 4, none⟩ = some (.slice pb l cb)) ∧ T (((((w9.setCell ⟨q2, 0, none⟩ (.int .i64 k)).setCell ⟨q2, 1, none⟩ (.int .i64 n)).setCell ⟨q2, 2, none⟩ (.int .i64 i)).setCell ⟨q2, 3, none⟩ (.int .i64 ep)).setCell ⟨q2, 4, none⟩ (.slice pb l cb)))
    (hK : ∀ (pw : Option Addr) (cw : Nat) (w9 : World), T (((((w9.setCell ⟨q2, 0, none⟩ (.int .i64 k)).setCell ⟨q2, 1, none⟩ (.int .i64 n)).setCell ⟨q2, 2, none⟩ (.int .i64 i)).setCell ⟨q2, 3, none⟩ (.int .i64 ep)).setCell ⟨q2, 4, none⟩ (.slice pb l cb)) → Q .normal ((((((((((a.put (some 32) (.agg #[.int .i64 k, .int .i64 n, .int .i64 i, .int .i64 ep, .slice pb l cb])).put (some 33) (.agg #[.int .i64 k, .int .i64 n, .int .i64 i, .int .i64 ep, .slice pb l cb])).put (some 34) (.bool true)).put (some 35) (.bool true)).put (some 36) (.slice p0 n0 c0)).put (some 37) (.agg #[.int .i64 k, .int .i64 n, .int .i64 i, .int .i64 ep, .slice pb l cb])).put (some 38) (.slice pw n0 cw)).put (some 39) (.bool true)).put (some 40) (.bool true)).put (some 3) (.bool true)) (((((w9.setCell ⟨q2, 0, none⟩ (.int .i64 k)).setCell ⟨q2, 1, none⟩ (.int .i64 n)).setCell ⟨q2, 2, none⟩ (.int .i64 i)).setCell ⟨q2, 3, none⟩ (.int .i64 ep)).setCell ⟨q2, 4, none⟩ (.slice pb l cb))) : (Code.region id ops true).wp Tryz.prog Q a y := by
  have HR : Hid (ro10R ops) := R
  have hdf : a.defers = a.defers := rfl
  refine wp_region_held_drew (S := (fun z : World => z.cell? ⟨q5, 0, none⟩ = some (.int .i64 k) ∧ z.cell? ⟨q5, 1, none⟩ = some (.int .i64 n) ∧ z.cell? ⟨q5, 2, none⟩ = some (.int .i64 i) ∧ z.cell? ⟨q5, 3, none⟩ = some (.int .i64 ep) ∧ z.cell? ⟨q5, 4, none⟩ = some (.slice pb l cb))) (by kernel_rfl) (hS0) (fun hHeld => ?_)
  rw [R.size]
  clear R
  refine wpAnyH_takes HR.out.sel hQ hHeld [0, 1] 9 _ _ HR.out.may0 ?_
  refine wpTake_stepE ⟨some 32, Op.load 85 (Operand.tmp 5), 85, "", #[], none⟩ 32 (.agg #[.int .i64 k, .int .i64 n, .int .i64 i, .int .i64 ep, .slice pb l cb]) HR.out.o0 rfl (by rw [hsz]; decide) (wanted_none rfl) (fun z hS => ro10_0 q5 q2 k n i ep pb l cb p0 n0 c0 pw cw _ z (fun _ => rfl) e5 hS) ?_
  intro a1 ha1 s1 f1 n1 k1
  replace hsz := s1.trans hsz
  replace hdf := f1.trans hdf
  replace e0 := (k1 0 (by decide)).trans e0
  replace e2 := (k1 2 (by decide)).trans e2
  replace e5 := (k1 5 (by decide)).trans e5
  have e32 := n1
  clear s1 f1 n1 k1
  refine wpTake_stepE ⟨some 33, Op.load 85 (Operand.tmp 5), 85, "", #[], none⟩ 33 (.agg #[.int .i64 k, .int .i64 n, .int .i64 i, .int .i64 ep, .slice pb l cb]) HR.out.o1 rfl (by rw [hsz]; decide) (wanted_none rfl) (fun z hS => ro10_1 q5 q2 k n i ep pb l cb p0 n0 c0 pw cw _ z (fun _ => rfl) e5 hS) ?_
  intro a2 ha2 s1 f1 n1 k1
  replace hsz := s1.trans hsz
  replace hdf := f1.trans hdf
  replace e0 := (k1 0 (by decide)).trans e0
  replace e2 := (k1 2 (by decide)).trans e2
  replace e5 := (k1 5 (by decide)).trans e5
  replace e32 := (k1 32 (by decide)).trans e32
  have e33 := n1
  clear s1 f1 n1 k1
  refine wpTake_nil ?_
  refine wpAnyH_one ⟨some 34, Op.call { callee := Callee.value (Operand.func 145), args := #[Operand.tmp 33], argTypes := #[85] }, 4, "", #[], none⟩ HR.out.r2 HR.out.o2 rfl (fun K' hK' => ?_)
  refine wp_enter (ro10_2 q5 q2 k n i ep pb l cb p0 n0 c0 pw cw _ _ (fun _ => rfl) rfl e33) (hc) ?_
  rintro e9 w9 ⟨rfl, hS9, hc2⟩
  refine ⟨_, rfl, hK'.out _ _ (hS9) ?_⟩
  replace hHeld := hS9
  clear hK' K'
  show wpAnyH _ _ _ _ _ _ _ (Act.put a2 (some 34) (.bool true)) _
  obtain ⟨s1, f1, n1, k1⟩ := act_put a2 34 (.bool true) (show 34 < _ by rw [hsz]; decide)
  obtain ⟨a3, ha3⟩ : ∃ x, x = Act.put a2 (some 34) (.bool true) := ⟨_, rfl⟩
  rw [← ha3] at s1 f1 n1 k1 ⊢
  replace hsz := s1.trans hsz
  replace hdf := f1.trans hdf
  replace e0 := (k1 0 (by decide)).trans e0
  replace e2 := (k1 2 (by decide)).trans e2
  replace e5 := (k1 5 (by decide)).trans e5
  replace e32 := (k1 32 (by decide)).trans e32
  have e34 := n1
  clear s1 f1 n1 k1
  refine wpAnyH_takes HR.out.sel hQ hHeld [3, 4, 5] 5 _ _ HR.out.may1 ?_
  refine wpTake_stepE ⟨some 35, Op.move (Operand.tmp 34), 4, "", #[], none⟩ 35 (.bool true) HR.out.o3 rfl (by rw [hsz]; decide) (wanted_none rfl) (fun z hS => ro10_3 q5 q2 k n i ep pb l cb p0 n0 c0 pw cw _ z (fun _ => rfl) e34 hS) ?_
  intro a4 ha4 s1 f1 n1 k1
  replace hsz := s1.trans hsz
  replace hdf := f1.trans hdf
  replace e0 := (k1 0 (by decide)).trans e0
  replace e2 := (k1 2 (by decide)).trans e2
  replace e5 := (k1 5 (by decide)).trans e5
  replace e32 := (k1 32 (by decide)).trans e32
  have e35 := n1
  clear s1 f1 n1 k1
  refine wpTake_stepE ⟨some 36, Op.move (Operand.tmp 0), 34, "", #[], some (3, true)⟩ 36 (.slice p0 n0 c0) HR.out.o4 rfl (by rw [hsz]; decide) (wanted_some rfl (yielded_of HR.out.o3 rfl e35 (by rw [hsz]; decide))) (fun z hS => ro10_4 q5 q2 k n i ep pb l cb p0 n0 c0 pw cw _ z (fun _ => rfl) e0 hS) ?_
  intro a5 ha5 s1 f1 n1 k1
  replace hsz := s1.trans hsz
  replace hdf := f1.trans hdf
  replace e2 := (k1 2 (by decide)).trans e2
  replace e5 := (k1 5 (by decide)).trans e5
  replace e32 := (k1 32 (by decide)).trans e32
  replace e35 := (k1 35 (by decide)).trans e35
  have e36 := n1
  clear s1 f1 n1 k1
  refine wpTake_stepE ⟨some 37, Op.load 85 (Operand.tmp 5), 85, "", #[], some (3, true)⟩ 37 (.agg #[.int .i64 k, .int .i64 n, .int .i64 i, .int .i64 ep, .slice pb l cb]) HR.out.o5 rfl (by rw [hsz]; decide) (wanted_some rfl (yielded_of HR.out.o3 rfl e35 (by rw [hsz]; decide))) (fun z hS => ro10_5 q5 q2 k n i ep pb l cb p0 n0 c0 pw cw _ z (fun _ => rfl) e5 hS) ?_
  intro a6 ha6 s1 f1 n1 k1
  replace hsz := s1.trans hsz
  replace hdf := f1.trans hdf
  replace e2 := (k1 2 (by decide)).trans e2
  replace e32 := (k1 32 (by decide)).trans e32
  replace e35 := (k1 35 (by decide)).trans e35
  replace e36 := (k1 36 (by decide)).trans e36
  have e37 := n1
  clear s1 f1 n1 k1
  refine wpTake_nil ?_
  refine wpAnyH_oneG ⟨some 38, Op.call { callee := Callee.value (Operand.func 86), args := #[Operand.tmp 37], argTypes := #[85] }, 34, "", #[], some (3, true)⟩ HR.out.r6 HR.out.o6 (wanted_some rfl (yielded_of HR.out.o3 rfl e35 (by rw [hsz]; decide))) (fun K' hK' => ?_)
  refine wp_enter (ro10_6 q5 q2 k n i ep pb l cb p0 n0 c0 pw cw _ _ (fun _ => rfl) rfl e37) (hc2) ?_
  rintro e9 w9 ⟨pw, cw, rfl, hS9, hc3⟩
  refine ⟨_, rfl, hK'.out _ _ (hS9) ?_⟩
  replace hHeld := hS9
  clear hK' K'
  show wpAnyH _ _ _ _ _ _ _ (Act.put a6 (some 38) (.slice pw n0 cw)) _
  obtain ⟨s1, f1, n1, k1⟩ := act_put a6 38 (.slice pw n0 cw) (show 38 < _ by rw [hsz]; decide)
  obtain ⟨a7, ha7⟩ : ∃ x, x = Act.put a6 (some 38) (.slice pw n0 cw) := ⟨_, rfl⟩
  rw [← ha7] at s1 f1 n1 k1 ⊢
  replace hsz := s1.trans hsz
  replace hdf := f1.trans hdf
  replace e2 := (k1 2 (by decide)).trans e2
  replace e32 := (k1 32 (by decide)).trans e32
  replace e35 := (k1 35 (by decide)).trans e35
  replace e36 := (k1 36 (by decide)).trans e36
  have e38 := n1
  clear s1 f1 n1 k1
  refine wpAnyH_oneG ⟨some 39, Op.call { callee := Callee.value (Operand.func 20), args := #[Operand.tmp 36, Operand.tmp 38], argTypes := #[34, 34] }, 4, "", #[], some (3, true)⟩ HR.out.r7 HR.out.o7 (wanted_some rfl (yielded_of HR.out.o3 rfl e35 (by rw [hsz]; decide))) (fun K' hK' => ?_)
  refine wp_enter (ro10_7 q5 q2 k n i ep pb l cb p0 n0 c0 pw cw _ _ (fun _ => rfl) rfl e36 e38) (hc3) ?_
  rintro e9 w9 ⟨rfl, hS9, ⟨y0, y1, y2, y3, y4, d0, g0, d1, g1, d2, g2, d3, g3, d4, g4⟩, hS10, hT⟩
  refine ⟨_, rfl, hK'.out _ _ (hS9) ?_⟩
  replace hHeld := hS9
  clear hK' K'
  show wpAnyH _ _ _ _ _ _ _ (Act.put a7 (some 39) (.bool true)) _
  obtain ⟨s1, f1, n1, k1⟩ := act_put a7 39 (.bool true) (show 39 < _ by rw [hsz]; decide)
  obtain ⟨a8, ha8⟩ : ∃ x, x = Act.put a7 (some 39) (.bool true) := ⟨_, rfl⟩
  rw [← ha8] at s1 f1 n1 k1 ⊢
  replace hsz := s1.trans hsz
  replace hdf := f1.trans hdf
  replace e2 := (k1 2 (by decide)).trans e2
  replace e32 := (k1 32 (by decide)).trans e32
  replace e35 := (k1 35 (by decide)).trans e35
  have e39 := n1
  clear s1 f1 n1 k1
  refine wpAnyH_takes HR.out.sel hQ hHeld [8] 2 _ _ HR.out.may2 ?_
  refine wpTake_stepE ⟨some 40, Op.pick (Operand.tmp 35) (Operand.tmp 39) (Operand.const (Value.bool false)), 4, "", #[], none⟩ 40 (.bool true) HR.out.o8 rfl (by rw [hsz]; decide) (wanted_none rfl) (fun z hS => ro10_8 q5 q2 k n i ep pb l cb p0 n0 c0 pw cw _ z (fun _ => rfl) e35 e39 hS) ?_
  intro a9 ha9 s1 f1 n1 k1
  replace hsz := s1.trans hsz
  replace hdf := f1.trans hdf
  replace e2 := (k1 2 (by decide)).trans e2
  replace e32 := (k1 32 (by decide)).trans e32
  have e40 := n1
  clear s1 f1 n1 k1
  refine wpTake_nil ?_
  refine wpAnyH_skip ⟨none, Op.store 85 (Operand.tmp 2) (Operand.tmp 32), 0, "", #[], none⟩ (((((w9.setCell ⟨q2, 0, none⟩ (.int .i64 k)).setCell ⟨q2, 1, none⟩ (.int .i64 n)).setCell ⟨q2, 2, none⟩ (.int .i64 i)).setCell ⟨q2, 3, none⟩ (.int .i64 ep)).setCell ⟨q2, 4, none⟩ (.slice pb l cb)) HR.out.r9 HR.out.o9 rfl rfl (ro_st q2 k n i ep pb l cb _ _ y0 y1 y2 y3 y4 d0 g0 d1 g1 d2 g2 d3 g3 d4 g4 e2 e32) (hS10) ?_
  replace hHeld := hS10
  refine wpAnyH_takes HR.out.sel hQ hHeld [10] 0 _ _ HR.out.may3 ?_
  refine wpTake_stepE ⟨some 3, Op.assign (Operand.tmp 40), 4, "", #[], none⟩ 3 (.bool true) HR.out.o10 rfl (by rw [hsz]; decide) (wanted_none rfl) (fun z hS => ro10_10 q5 q2 k n i ep pb l cb p0 n0 c0 pw cw _ z (fun _ => rfl) e40 hS) ?_
  intro a10 ha10 s1 f1 n1 k1
  replace hsz := s1.trans hsz
  replace hdf := f1.trans hdf
  clear s1 f1 n1 k1
  refine wpTake_nil ?_
  refine wpAnyH_done HR.out.fin ?_ _
  rw [ha10, ha9, ha8, ha7, ha6, ha5, ha4, ha3, ha2, ha1]
  exact hK _ _ _ hT
-- R: ⟨by kernel_rfl, by kernel_rfl, by kernel_rfl, by kernel_rfl, by kernel_rfl, by kernel_rfl, by kernel_rfl, by kernel_rfl, by kernel_rfl, by kernel_rfl, by kernel_rfl, by kernel_rfl, by kernel_rfl, by kernel_rfl, by kernel_rfl, by kernel_rfl, by kernel_rfl, by kernel_rfl, by kernel_rfl, by kernel_rfl, by kernel_rfl, by kernel_rfl⟩

end Go.Proofs.YtmooddbhcccicaaGreatDoor

/- recordOf of what a shelf wrote (laid by scripts/mkjrc.py). -/
namespace Go.Proofs.YtmooddbhcccicaaGreatDoor
set_option linter.unusedVariables false
set_option linter.unusedSimpArgs false
open Go.RowKit Go.Deep Go.Maps

/-- a record as a shelf writes it: what it does not write is nought -/
structure Cn (r : Rc) : Prop where
  g : GoodR r
  i4 : r.k = 4 → r.i = 0
  e3 : r.k ≠ 3 → r.e = 0
  b1 : r.k = 1 → 1 ≤ r.b.length

set_option maxRecDepth 100000 in
set_option maxHeartbeats 1600000 in
theorem rmay_ok (r : Rc) (p : Option Addr) (cp : Nat) (w : World) (hg : Cn r) :
    Calls Tryz.prog 145 #[rcV r p cp] w fun e w' => e = .returned (.bool true) ∧ Kp (fun _ => False) w w' := by
  obtain ⟨k, n, i, e, b⟩ := r
  have h1 : 1 ≤ k ∧ k ≤ 4 := hg.g.k1
  have h2 : b.length ≤ 1980 := hg.g.bl
  have h3 : k = 2 ∨ k = 3 → b = [] := hg.g.b23
  have h4 : k = 1 → 1 ≤ b.length := hg.b1
  obtain ⟨w1, hw1⟩ : ∃ y, y = w.alloc (.cells #[.int .i64 (k : Int), .int .i64 (n : Int), .int .i64 (i : Int), .int .i64 (e : Int), .slice p b.length cp] 85) := ⟨_, rfl⟩
  obtain ⟨w2, hw2⟩ : ∃ y, y = w1.alloc (.cells #[.int .i64 (n : Int), .int .i64 (i : Int), .int .i64 (e : Int)] 3) := ⟨_, rfl⟩
  have k1 : Kp (fun _ => False) w w1 := by rw [hw1]; exact (Kp.refl _ _).alloc _
  have k2 : Kp (fun _ => False) w1 w2 := by rw [hw2]; exact (Kp.refl _ _).alloc _
  have hz1 : w1.heap.size = w.heap.size + 1 := by rw [hw1]; simp
  have l1 : Lv w2 w.heap.size [.int .i64 (k : Int), .int .i64 (n : Int), .int .i64 (i : Int), .int .i64 (e : Int), .slice p b.length cp] := (by rw [hw1]; exact Lv.new w _ _ : Lv w1 w.heap.size _).keep k2 id
  have HA : Hid (Calls Tryz.prog 79 #[.slice (some ⟨w.heap.size + 1, 0, none⟩) 3 3] w2 fun e w' => e = .returned (.bool true) ∧ w' = w2) := by
    have h9 := areNumbers_ok (some ⟨w.heap.size + 1, 0, none⟩) 3 3 [(n : Int), (i : Int), (e : Int)] w2 (by rw [hw2, ← hz1]; exact rz3 w1 _ _ _ _) rfl (by omega)
    rw [upTo3 hg.g.n1 hg.g.i1 hg.g.e1] at h9
    exact h9
  have HK : Hid (Kp (fun _ => False) w w2) := k1.trans k2 (fun _ _ e => e)
  have c0 := l1.cell (j := 0) rfl
  have c4 := l1.cell (j := 4) rfl
  obtain ⟨N, hN⟩ : ∃ N, N = b.length := ⟨_, rfl⟩
  have hw : (w.alloc (.cells #[.int .i64 (k : Int), .int .i64 (n : Int), .int .i64 (i : Int), .int .i64 (e : Int), .slice p N cp] 85)).alloc (.cells #[.int .i64 (n : Int), .int .i64 (i : Int), .int .i64 (e : Int)] 3) = w2 := by rw [hw2, hw1, hN]
  have h5 : ¬ (N : Int) > 1980 := by omega
  have h6 : k = 2 ∨ k = 3 → (N : Int) = 0 := fun h => by rw [hN, h3 h]; rfl
  have h7 : k = 1 → (N : Int) > 0 := fun h => by have := h4 h; omega
  have h8 : k = 1 ∨ k = 2 ∨ k = 3 ∨ k = 4 := by omega
  rw [← hN] at c4
  simp only [rcV]
  rw [← hN]
  clear hw1 hw2 k1 k2 hz1 l1 h1 h2 h3 h4 hg hN
  rcases h8 with rfl | rfl | rfl | rfl
  · have h9 := h7 rfl
    clear h6 h7
    go_enter Tryz.func145, Tryz.ntmps145
    go_wp2_with fail
    rw [show ((1 : Nat) : Int) = 1 from rfl] at *
    rw [hw]
    clear hw
    refine HA.out.mono ?_
    rintro e9 w9 ⟨rfl, hw9⟩
    have hw8 := hw9.symm
    subst hw8
    clear hw9 HA
    go_wp2
    go_ret
    exact ⟨by show Ending.returned (Value.bool (decide (0 < N))) = _; rw [decide_eq_true (by omega)], HK.out⟩
  · have h9 := h6 (Or.inl rfl)
    clear h6 h7
    go_enter Tryz.func145, Tryz.ntmps145
    go_wp2_with fail
    rw [show ((2 : Nat) : Int) = 2 from rfl] at *
    rw [hw]
    clear hw
    refine HA.out.mono ?_
    rintro e9 w9 ⟨rfl, hw9⟩
    have hw8 := hw9.symm
    subst hw8
    clear hw9 HA
    go_wp2
    go_ret
    exact ⟨rfl, HK.out⟩
  · have h9 := h6 (Or.inr rfl)
    clear h6 h7
    go_enter Tryz.func145, Tryz.ntmps145
    go_wp2_with fail
    rw [show ((3 : Nat) : Int) = 3 from rfl] at *
    rw [hw]
    clear hw
    refine HA.out.mono ?_
    rintro e9 w9 ⟨rfl, hw9⟩
    have hw8 := hw9.symm
    subst hw8
    clear hw9 HA
    go_wp2
    go_ret
    exact ⟨rfl, HK.out⟩
  · clear h6 h7
    go_enter Tryz.func145, Tryz.ntmps145
    go_wp2_with fail
    rw [show ((4 : Nat) : Int) = 4 from rfl] at *
    rw [hw]
    clear hw
    refine HA.out.mono ?_
    rintro e9 w9 ⟨rfl, hw9⟩
    have hw8 := hw9.symm
    subst hw8
    clear hw9 HA
    go_wp2
    go_ret
    exact ⟨rfl, HK.out⟩

def zr5 : List Value := [.int .i64 0, .int .i64 0, .int .i64 0, .int .i64 0, .slice none 0 0]
/-- recordOf under way: the cursor at r4, the record at q5, the result at q2 -/
structure RO (w u : World) (q2 r4 q5 : Nat) (rest : List Nat) (cs : List Value) : Prop where
  c : Cq (fun b => b < w.heap.size) u r4 rest
  l5 : Lv u q5 cs
  l2 : Lv u q2 zr5
  k : Kp (fun _ => False) w u
  o : w.heap.size ≤ q2 ∧ w.heap.size ≤ r4 ∧ w.heap.size ≤ q5 ∧ q2 ≠ r4 ∧ q2 ≠ q5 ∧ r4 ≠ q5
theorem RO.call {w u u' : World} {q2 r4 q5 : Nat} {rest rest' : List Nat} {cs : List Value} (x : RO w u q2 r4 q5 rest cs) (k : Kp (fun b => b = r4) u u') (c : Cq (fun b => b < w.heap.size) u' r4 rest') : RO w u' q2 r4 q5 rest' cs := by
  have o := x.o
  exact ⟨c, x.l5.keep k (fun e => o.2.2.2.2.2 e.symm), x.l2.keep k (fun e => o.2.2.2.1 e), x.k.trans k (fun b hb e => by omega), o⟩
theorem RO.keep0 {w u u' : World} {q2 r4 q5 : Nat} {rest : List Nat} {cs : List Value} (x : RO w u q2 r4 q5 rest cs) (k : Kp (fun _ => False) u u') : RO w u' q2 r4 q5 rest cs :=
  ⟨x.c.keep0 k, x.l5.keep k id, x.l2.keep k id, x.k.trans k (fun _ _ e => e), x.o⟩
theorem RO.store {w u : World} {q2 r4 q5 : Nat} {rest : List Nat} {cs : List Value} (x : RO w u q2 r4 q5 rest cs) (j : Nat) (v : Value) (hj : j < cs.length) : RO w (u.setCell ⟨q5, j, none⟩ v) q2 r4 q5 rest (cs.take j ++ [v] ++ cs.drop (j + 1)) := by
  have o := x.o
  have k1 : Kp (fun b => b = q5) u (u.setCell ⟨q5, j, none⟩ v) := by show Kp _ _ _; exact (Kp.refl (fun b => b = q5) u).setCell (fun _ => rfl) _
  exact ⟨x.c.keep k1 (fun e => o.2.2.2.2.2 e) (fun b hb e => by omega), x.l5.set1 j v hj, x.l2.keep k1 (fun e => o.2.2.2.2.1 e), x.k.trans k1 (fun b hb e => by omega), o⟩

/-- what recordOf's drawn region asks -/
theorem ro_hc {w y : World} {q2 r4 q5 : Nat} {r : Rc} {p pc : Option Addr} {c cc L : Nat} (hg : Cn r) (hs : Rb w p L (wrS r)) (x : RO w y q2 r4 q5 r.b [.int .i64 (r.k : Int), .int .i64 (r.n : Int), .int .i64 (r.i : Int), .int .i64 (r.e : Int), .slice pc r.b.length cc]) (hb : Rb y pc r.b.length r.b) (hpq : ∀ x, pc = some x → ¬ x.block = q2) :
    (y.drew.cell? ⟨q5, 0, none⟩ = some (.int .i64 (r.k : Int)) ∧ y.drew.cell? ⟨q5, 1, none⟩ = some (.int .i64 (r.n : Int)) ∧ y.drew.cell? ⟨q5, 2, none⟩ = some (.int .i64 (r.i : Int)) ∧ y.drew.cell? ⟨q5, 3, none⟩ = some (.int .i64 (r.e : Int)) ∧ y.drew.cell? ⟨q5, 4, none⟩ = some (.slice pc r.b.length cc)) ∧
    Calls Tryz.prog 145 #[.agg #[.int .i64 (r.k : Int), .int .i64 (r.n : Int), .int .i64 (r.i : Int), .int .i64 (r.e : Int), .slice pc r.b.length cc]] y.drew fun e w9 => e = .returned (.bool true) ∧ (w9.cell? ⟨q5, 0, none⟩ = some (.int .i64 (r.k : Int)) ∧ w9.cell? ⟨q5, 1, none⟩ = some (.int .i64 (r.n : Int)) ∧ w9.cell? ⟨q5, 2, none⟩ = some (.int .i64 (r.i : Int)) ∧ w9.cell? ⟨q5, 3, none⟩ = some (.int .i64 (r.e : Int)) ∧ w9.cell? ⟨q5, 4, none⟩ = some (.slice pc r.b.length cc)) ∧ Calls Tryz.prog 86 #[.agg #[.int .i64 (r.k : Int), .int .i64 (r.n : Int), .int .i64 (r.i : Int), .int .i64 (r.e : Int), .slice pc r.b.length cc]] w9 fun e w9 => ∃ pw cw, e = .returned (.slice pw L cw) ∧ (w9.cell? ⟨q5, 0, none⟩ = some (.int .i64 (r.k : Int)) ∧ w9.cell? ⟨q5, 1, none⟩ = some (.int .i64 (r.n : Int)) ∧ w9.cell? ⟨q5, 2, none⟩ = some (.int .i64 (r.i : Int)) ∧ w9.cell? ⟨q5, 3, none⟩ = some (.int .i64 (r.e : Int)) ∧ w9.cell? ⟨q5, 4, none⟩ = some (.slice pc r.b.length cc)) ∧ Calls Tryz.prog 20 #[.slice p L c, .slice pw L cw] w9 fun e w9 => e = .returned (.bool true) ∧ (w9.cell? ⟨q5, 0, none⟩ = some (.int .i64 (r.k : Int)) ∧ w9.cell? ⟨q5, 1, none⟩ = some (.int .i64 (r.n : Int)) ∧ w9.cell? ⟨q5, 2, none⟩ = some (.int .i64 (r.i : Int)) ∧ w9.cell? ⟨q5, 3, none⟩ = some (.int .i64 (r.e : Int)) ∧ w9.cell? ⟨q5, 4, none⟩ = some (.slice pc r.b.length cc)) ∧ (∃ y0 y1 y2 y3 y4, w9.cell? ⟨q2, 0, none⟩ = some y0 ∧ w9.frozen? ⟨q2, 0, none⟩ = false ∧ w9.cell? ⟨q2, 1, none⟩ = some y1 ∧ w9.frozen? ⟨q2, 1, none⟩ = false ∧ w9.cell? ⟨q2, 2, none⟩ = some y2 ∧ w9.frozen? ⟨q2, 2, none⟩ = false ∧ w9.cell? ⟨q2, 3, none⟩ = some y3 ∧ w9.frozen? ⟨q2, 3, none⟩ = false ∧ w9.cell? ⟨q2, 4, none⟩ = some y4 ∧ w9.frozen? ⟨q2, 4, none⟩ = false) ∧ ((((((w9.setCell ⟨q2, 0, none⟩ (.int .i64 (r.k : Int))).setCell ⟨q2, 1, none⟩ (.int .i64 (r.n : Int))).setCell ⟨q2, 2, none⟩ (.int .i64 (r.i : Int))).setCell ⟨q2, 3, none⟩ (.int .i64 (r.e : Int))).setCell ⟨q2, 4, none⟩ (.slice pc r.b.length cc)).cell? ⟨q5, 0, none⟩ = some (.int .i64 (r.k : Int)) ∧ (((((w9.setCell ⟨q2, 0, none⟩ (.int .i64 (r.k : Int))).setCell ⟨q2, 1, none⟩ (.int .i64 (r.n : Int))).setCell ⟨q2, 2, none⟩ (.int .i64 (r.i : Int))).setCell ⟨q2, 3, none⟩ (.int .i64 (r.e : Int))).setCell ⟨q2, 4, none⟩ (.slice pc r.b.length cc)).cell? ⟨q5, 1, none⟩ = some (.int .i64 (r.n : Int)) ∧ (((((w9.setCell ⟨q2, 0, none⟩ (.int .i64 (r.k : Int))).setCell ⟨q2, 1, none⟩ (.int .i64 (r.n : Int))).setCell ⟨q2, 2, none⟩ (.int .i64 (r.i : Int))).setCell ⟨q2, 3, none⟩ (.int .i64 (r.e : Int))).setCell ⟨q2, 4, none⟩ (.slice pc r.b.length cc)).cell? ⟨q5, 2, none⟩ = some (.int .i64 (r.i : Int)) ∧ (((((w9.setCell ⟨q2, 0, none⟩ (.int .i64 (r.k : Int))).setCell ⟨q2, 1, none⟩ (.int .i64 (r.n : Int))).setCell ⟨q2, 2, none⟩ (.int .i64 (r.i : Int))).setCell ⟨q2, 3, none⟩ (.int .i64 (r.e : Int))).setCell ⟨q2, 4, none⟩ (.slice pc r.b.length cc)).cell? ⟨q5, 3, none⟩ = some (.int .i64 (r.e : Int)) ∧ (((((w9.setCell ⟨q2, 0, none⟩ (.int .i64 (r.k : Int))).setCell ⟨q2, 1, none⟩ (.int .i64 (r.n : Int))).setCell ⟨q2, 2, none⟩ (.int .i64 (r.i : Int))).setCell ⟨q2, 3, none⟩ (.int .i64 (r.e : Int))).setCell ⟨q2, 4, none⟩ (.slice pc r.b.length cc)).cell? ⟨q5, 4, none⟩ = some (.slice pc r.b.length cc)) ∧ (fun wz => Kp (fun _ => False) w wz ∧ Lv wz q2 [.int .i64 (r.k : Int), .int .i64 (r.n : Int), .int .i64 (r.i : Int), .int .i64 (r.e : Int), .slice pc r.b.length cc] ∧ Rb wz pc r.b.length r.b) (((((w9.setCell ⟨q2, 0, none⟩ (.int .i64 (r.k : Int))).setCell ⟨q2, 1, none⟩ (.int .i64 (r.n : Int))).setCell ⟨q2, 2, none⟩ (.int .i64 (r.i : Int))).setCell ⟨q2, 3, none⟩ (.int .i64 (r.e : Int))).setCell ⟨q2, 4, none⟩ (.slice pc r.b.length cc)) := by
  have kd : Kp (fun _ => False) y y.drew := (Kp.refl _ _).drew
  have s5 : ∀ u, Kp (fun _ => False) y u → (u.cell? ⟨q5, 0, none⟩ = some (.int .i64 (r.k : Int)) ∧ u.cell? ⟨q5, 1, none⟩ = some (.int .i64 (r.n : Int)) ∧ u.cell? ⟨q5, 2, none⟩ = some (.int .i64 (r.i : Int)) ∧ u.cell? ⟨q5, 3, none⟩ = some (.int .i64 (r.e : Int)) ∧ u.cell? ⟨q5, 4, none⟩ = some (.slice pc r.b.length cc)) := fun u ku => by
    have l := x.l5.keep ku id
    exact ⟨l.cell (j := 0) rfl, l.cell (j := 1) rfl, l.cell (j := 2) rfl, l.cell (j := 3) rfl, l.cell (j := 4) rfl⟩
  refine ⟨s5 _ kd, ?_⟩
  refine (rmay_ok r pc cc y.drew hg).mono ?_
  rintro e1 w1 ⟨rfl, k1⟩
  have k01 := kd.trans k1 (fun _ _ e => e)
  refine ⟨rfl, s5 _ k01, ?_⟩
  refine (written_ok r pc cc w1 (hb.keep0 k01) hg.g).mono ?_
  rintro e2 w2 ⟨v, rfl, k2, o2⟩
  have k02 := k01.trans k2 (fun _ _ e => e)
  obtain ⟨pw, cw, rfl, _, rw2, _⟩ := o2.rb (wrS_b hg.g)
  have hL : L = (wrS r).length := hs.len.symm
  refine ⟨pw, cw, by rw [hL], s5 _ k02, ?_⟩
  have hq := equal_any c cw w2 (hs.keep0 (x.k.trans k02 (fun _ _ e => e))) rw2
  rw [decide_eq_true rfl, ← hL] at hq
  refine hq.mono ?_
  rintro e3 w3 ⟨rfl, hw3⟩
  have hw4 := hw3.symm
  subst hw4
  have l2 : Lv w2 q2 zr5 := x.l2.keep k02 id
  have l2b : Lv (((((w2.setCell ⟨q2, 0, none⟩ (.int .i64 (r.k : Int))).setCell ⟨q2, 1, none⟩ (.int .i64 (r.n : Int))).setCell ⟨q2, 2, none⟩ (.int .i64 (r.i : Int))).setCell ⟨q2, 3, none⟩ (.int .i64 (r.e : Int))).setCell ⟨q2, 4, none⟩ (.slice pc r.b.length cc)) q2 [.int .i64 (r.k : Int), .int .i64 (r.n : Int), .int .i64 (r.i : Int), .int .i64 (r.e : Int), .slice pc r.b.length cc] := lv_set5 l2 _ _ _ _ _
  have kz : Kp (fun b => b = q2) w2 (((((w2.setCell ⟨q2, 0, none⟩ (.int .i64 (r.k : Int))).setCell ⟨q2, 1, none⟩ (.int .i64 (r.n : Int))).setCell ⟨q2, 2, none⟩ (.int .i64 (r.i : Int))).setCell ⟨q2, 3, none⟩ (.int .i64 (r.e : Int))).setCell ⟨q2, 4, none⟩ (.slice pc r.b.length cc)) := by
    show Kp _ _ _
    exact (((((Kp.refl (fun b => b = q2) w2).setCell (fun _ => rfl) _).setCell (fun _ => rfl) _).setCell (fun _ => rfl) _).setCell (fun _ => rfl) _).setCell (fun _ => rfl) _
  have ho := x.o
  have s9 := (x.l5.keep k02 id).keep kz (fun e => ho.2.2.2.2.1 e.symm)
  refine ⟨rfl, s5 _ k02, ⟨_, _, _, _, _, l2.cell (j := 0) rfl, l2.fz (j := 0) (show 0 < 5 by decide), l2.cell (j := 1) rfl, l2.fz (j := 1) (show 1 < 5 by decide), l2.cell (j := 2) rfl, l2.fz (j := 2) (show 2 < 5 by decide), l2.cell (j := 3) rfl, l2.fz (j := 3) (show 3 < 5 by decide), l2.cell (j := 4) rfl, l2.fz (j := 4) (show 4 < 5 by decide)⟩, ⟨s9.cell (j := 0) rfl, s9.cell (j := 1) rfl, s9.cell (j := 2) rfl, s9.cell (j := 3) rfl, s9.cell (j := 4) rfl⟩, ?_⟩
  exact ⟨(x.k.trans k02 (fun _ _ e => e)).trans kz (fun b hb e => by omega), l2b, (hb.keep0 k02).keep kz (fun a ha _ e => hpq a ha e)⟩

set_option maxRecDepth 100000 in
set_option maxHeartbeats 6400000 in
theorem recordOf_ok {w : World} {r : Rc} {p : Option Addr} {c : Nat} (hg : Cn r) (hr : Rb w p (wrS r).length (wrS r)) (hc : (wrS r).length ≤ c) :
    Calls Tryz.prog 102 #[.slice p (wrS r).length c] w fun e w' => ∃ q cq, e = .returned (.tuple #[rcV r q cq, .bool true]) ∧ Kp (fun _ => False) w w' ∧ Rb w' q r.b.length r.b ∧ ∀ a, q = some a → w.heap.size ≤ a.block := by
  obtain ⟨k, n, i, e, b⟩ := r
  obtain ⟨L, hL⟩ : ∃ L, L = (wrS ⟨k, n, i, e, b⟩).length := ⟨_, rfl⟩
  have HSr : Hid (Rb w p L (wrS ⟨k, n, i, e, b⟩) ∧ L ≤ c) := by rw [hL]; exact ⟨hr, hc⟩
  have HG : Hid (Cn ⟨k, n, i, e, b⟩) := hg
  have HW : Hid (wrS ⟨k, n, i, e, b⟩ = k :: (numB n ++ ((if k = 4 then [] else numB i) ++ ((if k = 3 then numB e else []) ++ b)))) := by
    show _ = _
    unfold wrS
    simp only [List.cons_append, List.nil_append, List.append_assoc]
  obtain ⟨z0, hz0⟩ : ∃ y, y = w.alloc (.cells #[.int .i64 0, .int .i64 0, .int .i64 0, .int .i64 0, .slice none 0 0] 85) := ⟨_, rfl⟩
  obtain ⟨z1, hz1⟩ : ∃ y, y = z0.alloc (.cells #[.slice p L c] 208) := ⟨_, rfl⟩
  obtain ⟨z2, hz2⟩ : ∃ y, y = z1.alloc (.cells #[.int .i64 0, .int .i64 0, .int .i64 0, .int .i64 0, .slice none 0 0] 85) := ⟨_, rfl⟩
  obtain ⟨q2, hq2⟩ : ∃ x, x = w.heap.size := ⟨_, rfl⟩
  obtain ⟨r4, hr4⟩ : ∃ x, x = w.heap.size + 1 := ⟨_, rfl⟩
  obtain ⟨q5, hq5⟩ : ∃ x, x = w.heap.size + 1 + 1 := ⟨_, rfl⟩
  have s0 : z0.heap.size = w.heap.size + 1 := by rw [hz0]; simp
  have s1 : z1.heap.size = w.heap.size + 1 + 1 := by rw [hz1]; simp [s0]
  have k0 : Kp (fun _ => False) w z0 := by rw [hz0]; exact (Kp.refl _ _).alloc _
  have k1 : Kp (fun _ => False) z0 z1 := by rw [hz1]; exact (Kp.refl _ _).alloc _
  have k2 : Kp (fun _ => False) z1 z2 := by rw [hz2]; exact (Kp.refl _ _).alloc _
  have l2 : Lv z0 q2 zr5 := by rw [hz0, hq2]; exact Lv.new w _ _
  have l4 : Lv z1 r4 [.slice p L c] := by rw [hz1, hr4, ← s0]; exact Lv.new z0 _ _
  have l5 : Lv z2 q5 zr5 := by rw [hz2, hq5, ← s1]; exact Lv.new z1 _ _
  have k02 : Kp (fun _ => False) w z2 := (k0.trans k1 (fun _ _ e => e)).trans k2 (fun _ _ e => e)
  have HR0 : Hid (RO w z2 q2 r4 q5 (wrS ⟨k, n, i, e, b⟩) zr5) := by
    refine ⟨⟨p, c, ?_, by rw [← hL]; exact HSr.out.2, hr.keep0 k02, fun a ha hp => ?_⟩, l5, (l2.keep k1 id).keep k2 id, k02, ⟨by omega, by omega, by omega, by omega, by omega, by omega⟩⟩
    · rw [← hL]; exact l4.keep k2 id
    · obtain ⟨g, o, e2, hb⟩ := hr.pt hp
      rw [e2] at ha
      cases ha
      have h9 := World.block_lt_of_cell? _ _ (hb 0 hp)
      exact ⟨h9, by rw [hr4]; show g ≠ _; have : g < w.heap.size := h9; omega⟩
  by_cases hk : k = 4
  · obtain rfl : i = 0 := HG.out.i4 hk
    obtain rfl : e = 0 := HG.out.e3 (show k ≠ 3 by omega)
    subst hk
    rw [if_pos rfl, if_neg (by decide), List.nil_append, List.nil_append] at HW
    have HNx : Hid (Calls _ _ _ z2 _) := cnext_ok (x := 4) (t := (numB n ++ b)) (by rw [← HW.out]; exact HR0.out.c)
    rw [← hL]
    clear hL hr hc s0 s1 k0 k1 k2 l2 l4 l5 k02
    go_enter Tryz.func102, Tryz.ntmps102
    go_wp2_with fail
    rw [← hz0, ← hz1, ← hz2, ← hq5, ← hr4, ← hq2]
    clear hz0 hz1 hz2 hq5 hr4 hq2
    refine HNx.out.mono ?_
    rintro e9 u1 ⟨rfl, k1, c1⟩
    have HR1 : Hid (RO w u1 q2 r4 q5 (numB n ++ b) zr5) := HR0.out.call k1 c1
    clear k1 c1 HR0 HNx
    have a1 := HR1.out.l5.cell (j := 0) rfl
    have f1 := HR1.out.l5.fz (j := 0) (show 0 < 5 by decide)
    have HR2 : Hid (RO w (u1.setCell ⟨q5, 0, none⟩ (.int .i64 4)) q2 r4 q5 (numB n ++ b) [.int .i64 4, .int .i64 0, .int .i64 0, .int .i64 0, .slice none 0 0]) := HR1.out.store 0 _ (show 0 < 5 by decide)
    have b1 := HR2.out.l5.cell (j := 0) rfl
    have HN1 : Hid (Calls _ _ _ (u1.setCell ⟨q5, 0, none⟩ (.int .i64 4)) _) := cnumber_ok HG.out.g.n1 HR2.out.c
    clear HR1
    go_wp2_with fail
    refine HN1.out.mono ?_
    rintro e9 u2 ⟨rfl, k1, c1⟩
    have HR3 : Hid (RO w u2 q2 r4 q5 b [.int .i64 4, .int .i64 0, .int .i64 0, .int .i64 0, .slice none 0 0]) := HR2.out.call k1 c1
    clear k1 c1 HR2 HN1 a1 f1 b1
    have g0 := HR3.out.l5.cell (j := 0) rfl
    have a3 := HR3.out.l5.cell (j := 1) rfl
    have f3 := HR3.out.l5.fz (j := 1) (show 1 < 5 by decide)
    have HR4 : Hid (RO w (u2.setCell ⟨q5, 1, none⟩ (.int .i64 (n : Int))) q2 r4 q5 b [.int .i64 4, .int .i64 (n : Int), .int .i64 0, .int .i64 0, .slice none 0 0]) := HR3.out.store 1 _ (show 1 < 5 by decide)
    have b3 := HR4.out.l5.cell (j := 0) rfl
    obtain ⟨qb, cb, lb, hcb, rb, _⟩ := HR4.out.c
    have d3 := lb.cell (j := 0) rfl
    have HC : Hid (Calls Tryz.prog 13 #[.slice qb b.length cb] (u2.setCell ⟨q5, 1, none⟩ (.int .i64 (n : Int))) _) := clone_any qb b.length cb b (u2.setCell ⟨q5, 1, none⟩ (.int .i64 (n : Int))) rb (show b.length ≤ 140737488355328 by have := HG.out.g.bl; have h9 : b.length ≤ 1980 := this; omega)
    clear lb hcb rb HR3
    go_wp2_with fail
    refine HC.out.mono ?_
    rintro e9 v1 ⟨vb, rfl, k1, o1⟩
    obtain ⟨pc, cc, rfl⟩ := own_form o1
    have HRb : Hid (Rb v1 pc b.length b ∧ ∀ x, pc = some x → (u2.setCell ⟨q5, 1, none⟩ (.int .i64 (n : Int))).heap.size ≤ x.block) := by
      obtain ⟨p9, c9, e9, _, h9, h8⟩ := o1.rb HG.out.g.by_
      cases e9
      exact ⟨h9, fun x hx => (h8 x hx).1⟩
    have HRv : Hid (RO w v1 q2 r4 q5 b [.int .i64 4, .int .i64 (n : Int), .int .i64 0, .int .i64 0, .slice none 0 0]) := HR4.out.keep0 k1
    have HSz : Hid (w.heap.size ≤ (u2.setCell ⟨q5, 1, none⟩ (.int .i64 (n : Int))).heap.size) := HR4.out.k.size
    have HQ2 : Hid (q2 < (u2.setCell ⟨q5, 1, none⟩ (.int .i64 (n : Int))).heap.size) := World.block_lt_of_cell? _ _ (HR4.out.l2.cell (j := 0) rfl)
    have HQ5 : Hid (q5 < (u2.setCell ⟨q5, 1, none⟩ (.int .i64 (n : Int))).heap.size) := World.block_lt_of_cell? _ _ b3
    clear k1 o1 HR4 HC a3 f3 b3 d3 g0
    have a9 := HRv.out.l5.cell (j := 4) rfl
    have f9 := HRv.out.l5.fz (j := 4) (show 4 < 5 by decide)
    have HRz : Hid (RO w (v1.setCell ⟨q5, 4, none⟩ (.slice pc b.length cc)) q2 r4 q5 b [.int .i64 4, .int .i64 (n : Int), .int .i64 0, .int .i64 0, .slice pc b.length cc]) := HRv.out.store 4 _ (show 4 < 5 by decide)
    have kz : Kp (fun b => b = q5) v1 (v1.setCell ⟨q5, 4, none⟩ (.slice pc b.length cc)) := by show Kp _ _ _; exact (Kp.refl (fun b => b = q5) v1).setCell (fun _ => rfl) _
    have HRc : Hid (Rb (v1.setCell ⟨q5, 4, none⟩ (.slice pc b.length cc)) pc b.length b) := HRb.out.1.keep kz (fun x hx _ e => by
      have h1 := HRb.out.2 x hx
      have h2 := HQ5.out
      have h3 : x.block = q5 := e
      omega)
    have HPc : Hid (∀ x, pc = some x → w.heap.size ≤ x.block) := fun x hx => Nat.le_trans HSz.out (HRb.out.2 x hx)
    have HPq : Hid (∀ x, pc = some x → ¬ x.block = q2) := fun x hx e => by
      have h1 := HRb.out.2 x hx
      have h2 := HQ2.out
      omega
    clear kz HRv HRb HSz HQ5 HQ2
    go_upto_region 10 with fail
    obtain ⟨y, hy⟩ : ∃ y, y = (v1.setCell ⟨q5, 4, none⟩ (.slice pc b.length cc)) := ⟨_, rfl⟩
    rw [← hy] at HRz HRc ⊢
    clear hy
    have hch := ro_hc (r := ⟨4, n, 0, 0, b⟩) (c := c) HG.out HSr.out.1 HRz.out HRc.out HPq.out
    refine ro10_region ⟨by kernel_rfl, by kernel_rfl, by kernel_rfl, by kernel_rfl, by kernel_rfl, by kernel_rfl, by kernel_rfl, by kernel_rfl, by kernel_rfl, by kernel_rfl, by kernel_rfl, by kernel_rfl, by kernel_rfl, by kernel_rfl, by kernel_rfl, by kernel_rfl, by kernel_rfl, by kernel_rfl, by kernel_rfl, by kernel_rfl, by kernel_rfl, by kernel_rfl⟩ q5 q2 _ _ _ _ pc b.length cc p L c none 0 (fun d _ _ _ _ h => by cases d <;> exact h) (by rfl) (by rfl) (by rfl) (by rfl) hch.1 (fun wz => Kp (fun _ => False) w wz ∧ Lv wz q2 [.int .i64 4, .int .i64 (n : Int), .int .i64 0, .int .i64 0, .slice pc b.length cc] ∧ Rb wz pc b.length b) hch.2 ?_
    rintro pw cw w9 ⟨kz, lz, rz⟩
    obtain ⟨wz, hwz⟩ : ∃ z, z = (((((w9.setCell ⟨q2, 0, none⟩ (.int .i64 ((4 : Nat) : Int))).setCell ⟨q2, 1, none⟩ (.int .i64 (n : Int))).setCell ⟨q2, 2, none⟩ (.int .i64 ((0 : Nat) : Int))).setCell ⟨q2, 3, none⟩ (.int .i64 ((0 : Nat) : Int))).setCell ⟨q2, 4, none⟩ (.slice pc b.length cc)) := ⟨_, rfl⟩
    have HZ : Hid (Kp (fun _ => False) w wz ∧ Rb wz pc b.length b) := by rw [hwz]; exact ⟨kz, rz⟩
    have lz2 : Lv wz q2 [.int .i64 4, .int .i64 (n : Int), .int .i64 0, .int .i64 0, .slice pc b.length cc] := by rw [hwz]; exact lz
    clear hch kz lz rz HRz HRc HPq HSr HW a9 f9
    simp only [Act.put, List.setIfInBounds_toArray, List.set_cons_succ, List.set_cons_zero]
    have d0 := lz2.cell (j := 0) rfl
    have d1 := lz2.cell (j := 1) rfl
    have d2 := lz2.cell (j := 2) rfl
    have d3 := lz2.cell (j := 3) rfl
    have d4 := lz2.cell (j := 4) rfl
    rw [← hwz]
    clear hwz
    have HLd : Hid ((loadVar 85 ⟨q2, 0, none⟩).run Tryz.prog wz = .ok (.agg #[.int .i64 4, .int .i64 (n : Int), .int .i64 0, .int .i64 0, .slice pc b.length cc]) wz) := lz2.load ⟨_, Tryz.underlying85, rfl⟩ szRec rfl
    go_wp2_with fail
    refine bodyPost_ret (res_cell_tmp Tryz.results102 _ _ q2 _ rfl HLd.out) rfl ?_
    exact ⟨pc, cc, rfl, HZ.out.1, HZ.out.2, HPc.out⟩
  · by_cases hk3 : k = 3
    · subst hk3
      rw [if_neg (by decide), if_pos rfl] at HW
      have HNx : Hid (Calls _ _ _ z2 _) := cnext_ok (x := 3) (t := (numB n ++ (numB i ++ (numB e ++ b)))) (by rw [← HW.out]; exact HR0.out.c)
      rw [← hL]
      clear hL hr hc s0 s1 k0 k1 k2 l2 l4 l5 k02
      go_enter Tryz.func102, Tryz.ntmps102
      go_wp2_with fail
      rw [← hz0, ← hz1, ← hz2, ← hq5, ← hr4, ← hq2]
      clear hz0 hz1 hz2 hq5 hr4 hq2
      refine HNx.out.mono ?_
      rintro e9 u1 ⟨rfl, k1, c1⟩
      have HR1 : Hid (RO w u1 q2 r4 q5 (numB n ++ (numB i ++ (numB e ++ b))) zr5) := HR0.out.call k1 c1
      clear k1 c1 HR0 HNx
      have a1 := HR1.out.l5.cell (j := 0) rfl
      have f1 := HR1.out.l5.fz (j := 0) (show 0 < 5 by decide)
      have HR2 : Hid (RO w (u1.setCell ⟨q5, 0, none⟩ (.int .i64 3)) q2 r4 q5 (numB n ++ (numB i ++ (numB e ++ b))) [.int .i64 3, .int .i64 0, .int .i64 0, .int .i64 0, .slice none 0 0]) := HR1.out.store 0 _ (show 0 < 5 by decide)
      have b1 := HR2.out.l5.cell (j := 0) rfl
      have HN1 : Hid (Calls _ _ _ (u1.setCell ⟨q5, 0, none⟩ (.int .i64 3)) _) := cnumber_ok HG.out.g.n1 HR2.out.c
      clear HR1
      go_wp2_with fail
      refine HN1.out.mono ?_
      rintro e9 u2 ⟨rfl, k1, c1⟩
      have HR3 : Hid (RO w u2 q2 r4 q5 (numB i ++ (numB e ++ b)) [.int .i64 3, .int .i64 0, .int .i64 0, .int .i64 0, .slice none 0 0]) := HR2.out.call k1 c1
      clear k1 c1 HR2 HN1 a1 f1 b1
      have a3 := HR3.out.l5.cell (j := 1) rfl
      have f3 := HR3.out.l5.fz (j := 1) (show 1 < 5 by decide)
      have HR4 : Hid (RO w (u2.setCell ⟨q5, 1, none⟩ (.int .i64 (n : Int))) q2 r4 q5 (numB i ++ (numB e ++ b)) [.int .i64 3, .int .i64 (n : Int), .int .i64 0, .int .i64 0, .slice none 0 0]) := HR3.out.store 1 _ (show 1 < 5 by decide)
      have b3 := HR4.out.l5.cell (j := 0) rfl
      have HN3 : Hid (Calls _ _ _ (u2.setCell ⟨q5, 1, none⟩ (.int .i64 (n : Int))) _) := cnumber_ok HG.out.g.i1 HR4.out.c
      clear HR3
      go_wp2_with fail
      refine HN3.out.mono ?_
      rintro e9 u4 ⟨rfl, k1, c1⟩
      have HR5 : Hid (RO w u4 q2 r4 q5 (numB e ++ b) [.int .i64 3, .int .i64 (n : Int), .int .i64 0, .int .i64 0, .slice none 0 0]) := HR4.out.call k1 c1
      clear k1 c1 HR4 HN3 a3 f3 b3
      have a5 := HR5.out.l5.cell (j := 2) rfl
      have f5 := HR5.out.l5.fz (j := 2) (show 2 < 5 by decide)
      have HR6 : Hid (RO w (u4.setCell ⟨q5, 2, none⟩ (.int .i64 (i : Int))) q2 r4 q5 (numB e ++ b) [.int .i64 3, .int .i64 (n : Int), .int .i64 (i : Int), .int .i64 0, .slice none 0 0]) := HR5.out.store 2 _ (show 2 < 5 by decide)
      have b5 := HR6.out.l5.cell (j := 0) rfl
      have HN5 : Hid (Calls _ _ _ (u4.setCell ⟨q5, 2, none⟩ (.int .i64 (i : Int))) _) := cnumber_ok HG.out.g.e1 HR6.out.c
      clear HR5
      go_wp2_with fail
      refine HN5.out.mono ?_
      rintro e9 u6 ⟨rfl, k1, c1⟩
      have HR7 : Hid (RO w u6 q2 r4 q5 b [.int .i64 3, .int .i64 (n : Int), .int .i64 (i : Int), .int .i64 0, .slice none 0 0]) := HR6.out.call k1 c1
      clear k1 c1 HR6 HN5 a5 f5 b5
      have g0 := HR7.out.l5.cell (j := 0) rfl
      have a7 := HR7.out.l5.cell (j := 3) rfl
      have f7 := HR7.out.l5.fz (j := 3) (show 3 < 5 by decide)
      have HR8 : Hid (RO w (u6.setCell ⟨q5, 3, none⟩ (.int .i64 (e : Int))) q2 r4 q5 b [.int .i64 3, .int .i64 (n : Int), .int .i64 (i : Int), .int .i64 (e : Int), .slice none 0 0]) := HR7.out.store 3 _ (show 3 < 5 by decide)
      have b7 := HR8.out.l5.cell (j := 0) rfl
      obtain ⟨qb, cb, lb, hcb, rb, _⟩ := HR8.out.c
      have d7 := lb.cell (j := 0) rfl
      have HC : Hid (Calls Tryz.prog 13 #[.slice qb b.length cb] (u6.setCell ⟨q5, 3, none⟩ (.int .i64 (e : Int))) _) := clone_any qb b.length cb b (u6.setCell ⟨q5, 3, none⟩ (.int .i64 (e : Int))) rb (show b.length ≤ 140737488355328 by have := HG.out.g.bl; have h9 : b.length ≤ 1980 := this; omega)
      clear lb hcb rb HR7
      go_wp2_with fail
      refine HC.out.mono ?_
      rintro e9 v1 ⟨vb, rfl, k1, o1⟩
      obtain ⟨pc, cc, rfl⟩ := own_form o1
      have HRb : Hid (Rb v1 pc b.length b ∧ ∀ x, pc = some x → (u6.setCell ⟨q5, 3, none⟩ (.int .i64 (e : Int))).heap.size ≤ x.block) := by
        obtain ⟨p9, c9, e9, _, h9, h8⟩ := o1.rb HG.out.g.by_
        cases e9
        exact ⟨h9, fun x hx => (h8 x hx).1⟩
      have HRv : Hid (RO w v1 q2 r4 q5 b [.int .i64 3, .int .i64 (n : Int), .int .i64 (i : Int), .int .i64 (e : Int), .slice none 0 0]) := HR8.out.keep0 k1
      have HSz : Hid (w.heap.size ≤ (u6.setCell ⟨q5, 3, none⟩ (.int .i64 (e : Int))).heap.size) := HR8.out.k.size
      have HQ2 : Hid (q2 < (u6.setCell ⟨q5, 3, none⟩ (.int .i64 (e : Int))).heap.size) := World.block_lt_of_cell? _ _ (HR8.out.l2.cell (j := 0) rfl)
      have HQ5 : Hid (q5 < (u6.setCell ⟨q5, 3, none⟩ (.int .i64 (e : Int))).heap.size) := World.block_lt_of_cell? _ _ b7
      clear k1 o1 HR8 HC a7 f7 b7 d7 g0
      have a9 := HRv.out.l5.cell (j := 4) rfl
      have f9 := HRv.out.l5.fz (j := 4) (show 4 < 5 by decide)
      have HRz : Hid (RO w (v1.setCell ⟨q5, 4, none⟩ (.slice pc b.length cc)) q2 r4 q5 b [.int .i64 3, .int .i64 (n : Int), .int .i64 (i : Int), .int .i64 (e : Int), .slice pc b.length cc]) := HRv.out.store 4 _ (show 4 < 5 by decide)
      have kz : Kp (fun b => b = q5) v1 (v1.setCell ⟨q5, 4, none⟩ (.slice pc b.length cc)) := by show Kp _ _ _; exact (Kp.refl (fun b => b = q5) v1).setCell (fun _ => rfl) _
      have HRc : Hid (Rb (v1.setCell ⟨q5, 4, none⟩ (.slice pc b.length cc)) pc b.length b) := HRb.out.1.keep kz (fun x hx _ e => by
        have h1 := HRb.out.2 x hx
        have h2 := HQ5.out
        have h3 : x.block = q5 := e
        omega)
      have HPc : Hid (∀ x, pc = some x → w.heap.size ≤ x.block) := fun x hx => Nat.le_trans HSz.out (HRb.out.2 x hx)
      have HPq : Hid (∀ x, pc = some x → ¬ x.block = q2) := fun x hx e => by
        have h1 := HRb.out.2 x hx
        have h2 := HQ2.out
        omega
      clear kz HRv HRb HSz HQ5 HQ2
      go_upto_region 10 with fail
      obtain ⟨y, hy⟩ : ∃ y, y = (v1.setCell ⟨q5, 4, none⟩ (.slice pc b.length cc)) := ⟨_, rfl⟩
      rw [← hy] at HRz HRc ⊢
      clear hy
      have hch := ro_hc (r := ⟨3, n, i, e, b⟩) (c := c) HG.out HSr.out.1 HRz.out HRc.out HPq.out
      refine ro10_region ⟨by kernel_rfl, by kernel_rfl, by kernel_rfl, by kernel_rfl, by kernel_rfl, by kernel_rfl, by kernel_rfl, by kernel_rfl, by kernel_rfl, by kernel_rfl, by kernel_rfl, by kernel_rfl, by kernel_rfl, by kernel_rfl, by kernel_rfl, by kernel_rfl, by kernel_rfl, by kernel_rfl, by kernel_rfl, by kernel_rfl, by kernel_rfl, by kernel_rfl⟩ q5 q2 _ _ _ _ pc b.length cc p L c none 0 (fun d _ _ _ _ h => by cases d <;> exact h) (by rfl) (by rfl) (by rfl) (by rfl) hch.1 (fun wz => Kp (fun _ => False) w wz ∧ Lv wz q2 [.int .i64 3, .int .i64 (n : Int), .int .i64 (i : Int), .int .i64 (e : Int), .slice pc b.length cc] ∧ Rb wz pc b.length b) hch.2 ?_
      rintro pw cw w9 ⟨kz, lz, rz⟩
      obtain ⟨wz, hwz⟩ : ∃ z, z = (((((w9.setCell ⟨q2, 0, none⟩ (.int .i64 ((3 : Nat) : Int))).setCell ⟨q2, 1, none⟩ (.int .i64 (n : Int))).setCell ⟨q2, 2, none⟩ (.int .i64 (i : Int))).setCell ⟨q2, 3, none⟩ (.int .i64 (e : Int))).setCell ⟨q2, 4, none⟩ (.slice pc b.length cc)) := ⟨_, rfl⟩
      have HZ : Hid (Kp (fun _ => False) w wz ∧ Rb wz pc b.length b) := by rw [hwz]; exact ⟨kz, rz⟩
      have lz2 : Lv wz q2 [.int .i64 3, .int .i64 (n : Int), .int .i64 (i : Int), .int .i64 (e : Int), .slice pc b.length cc] := by rw [hwz]; exact lz
      clear hch kz lz rz HRz HRc HPq HSr HW a9 f9
      simp only [Act.put, List.setIfInBounds_toArray, List.set_cons_succ, List.set_cons_zero]
      have d0 := lz2.cell (j := 0) rfl
      have d1 := lz2.cell (j := 1) rfl
      have d2 := lz2.cell (j := 2) rfl
      have d3 := lz2.cell (j := 3) rfl
      have d4 := lz2.cell (j := 4) rfl
      rw [← hwz]
      clear hwz
      have HLd : Hid ((loadVar 85 ⟨q2, 0, none⟩).run Tryz.prog wz = .ok (.agg #[.int .i64 3, .int .i64 (n : Int), .int .i64 (i : Int), .int .i64 (e : Int), .slice pc b.length cc]) wz) := lz2.load ⟨_, Tryz.underlying85, rfl⟩ szRec rfl
      go_wp2_with fail
      refine bodyPost_ret (res_cell_tmp Tryz.results102 _ _ q2 _ rfl HLd.out) rfl ?_
      exact ⟨pc, cc, rfl, HZ.out.1, HZ.out.2, HPc.out⟩
    · obtain rfl : e = 0 := HG.out.e3 hk3
      rw [if_neg hk, if_neg hk3, List.nil_append] at HW
      have hk4 : k ≤ 4 := hg.g.k1.2
      have hwk : wrap64 (k : Int) = (k : Int) := by unfold wrap64; omega
      have hka : ¬ (k : Int) = 4 := fun e9 => hk (Int.ofNat.inj e9)
      have hkb : ¬ (k : Int) = 3 := fun e9 => hk3 (Int.ofNat.inj e9)
      have HNx : Hid (Calls _ _ _ z2 _) := cnext_ok (x := k) (t := (numB n ++ (numB i ++ b))) (by rw [← HW.out]; exact HR0.out.c)
      rw [← hL]
      clear hL hr hc s0 s1 k0 k1 k2 l2 l4 l5 k02
      go_enter Tryz.func102, Tryz.ntmps102
      go_wp2_with fail
      rw [← hz0, ← hz1, ← hz2, ← hq5, ← hr4, ← hq2]
      clear hz0 hz1 hz2 hq5 hr4 hq2
      refine HNx.out.mono ?_
      rintro e9 u1 ⟨rfl, k1, c1⟩
      have HR1 : Hid (RO w u1 q2 r4 q5 (numB n ++ (numB i ++ b)) zr5) := HR0.out.call k1 c1
      clear k1 c1 HR0 HNx
      have a1 := HR1.out.l5.cell (j := 0) rfl
      have f1 := HR1.out.l5.fz (j := 0) (show 0 < 5 by decide)
      have HR2 : Hid (RO w (u1.setCell ⟨q5, 0, none⟩ (.int .i64 (k : Int))) q2 r4 q5 (numB n ++ (numB i ++ b)) [.int .i64 (k : Int), .int .i64 0, .int .i64 0, .int .i64 0, .slice none 0 0]) := HR1.out.store 0 _ (show 0 < 5 by decide)
      have b1 := HR2.out.l5.cell (j := 0) rfl
      have HN1 : Hid (Calls _ _ _ (u1.setCell ⟨q5, 0, none⟩ (.int .i64 (k : Int))) _) := cnumber_ok HG.out.g.n1 HR2.out.c
      clear HR1
      go_wp2_with fail
      refine HN1.out.mono ?_
      rintro e9 u2 ⟨rfl, k1, c1⟩
      have HR3 : Hid (RO w u2 q2 r4 q5 (numB i ++ b) [.int .i64 (k : Int), .int .i64 0, .int .i64 0, .int .i64 0, .slice none 0 0]) := HR2.out.call k1 c1
      clear k1 c1 HR2 HN1 a1 f1 b1
      have a3 := HR3.out.l5.cell (j := 1) rfl
      have f3 := HR3.out.l5.fz (j := 1) (show 1 < 5 by decide)
      have HR4 : Hid (RO w (u2.setCell ⟨q5, 1, none⟩ (.int .i64 (n : Int))) q2 r4 q5 (numB i ++ b) [.int .i64 (k : Int), .int .i64 (n : Int), .int .i64 0, .int .i64 0, .slice none 0 0]) := HR3.out.store 1 _ (show 1 < 5 by decide)
      have b3 := HR4.out.l5.cell (j := 0) rfl
      have HN3 : Hid (Calls _ _ _ (u2.setCell ⟨q5, 1, none⟩ (.int .i64 (n : Int))) _) := cnumber_ok HG.out.g.i1 HR4.out.c
      clear HR3
      go_wp2_with fail
      refine HN3.out.mono ?_
      rintro e9 u4 ⟨rfl, k1, c1⟩
      have HR5 : Hid (RO w u4 q2 r4 q5 b [.int .i64 (k : Int), .int .i64 (n : Int), .int .i64 0, .int .i64 0, .slice none 0 0]) := HR4.out.call k1 c1
      clear k1 c1 HR4 HN3 a3 f3 b3
      have g0 := HR5.out.l5.cell (j := 0) rfl
      have a5 := HR5.out.l5.cell (j := 2) rfl
      have f5 := HR5.out.l5.fz (j := 2) (show 2 < 5 by decide)
      have HR6 : Hid (RO w (u4.setCell ⟨q5, 2, none⟩ (.int .i64 (i : Int))) q2 r4 q5 b [.int .i64 (k : Int), .int .i64 (n : Int), .int .i64 (i : Int), .int .i64 0, .slice none 0 0]) := HR5.out.store 2 _ (show 2 < 5 by decide)
      have b5 := HR6.out.l5.cell (j := 0) rfl
      obtain ⟨qb, cb, lb, hcb, rb, _⟩ := HR6.out.c
      have d5 := lb.cell (j := 0) rfl
      have HC : Hid (Calls Tryz.prog 13 #[.slice qb b.length cb] (u4.setCell ⟨q5, 2, none⟩ (.int .i64 (i : Int))) _) := clone_any qb b.length cb b (u4.setCell ⟨q5, 2, none⟩ (.int .i64 (i : Int))) rb (show b.length ≤ 140737488355328 by have := HG.out.g.bl; have h9 : b.length ≤ 1980 := this; omega)
      clear lb hcb rb HR5
      go_wp2_with fail
      refine HC.out.mono ?_
      rintro e9 v1 ⟨vb, rfl, k1, o1⟩
      obtain ⟨pc, cc, rfl⟩ := own_form o1
      have HRb : Hid (Rb v1 pc b.length b ∧ ∀ x, pc = some x → (u4.setCell ⟨q5, 2, none⟩ (.int .i64 (i : Int))).heap.size ≤ x.block) := by
        obtain ⟨p9, c9, e9, _, h9, h8⟩ := o1.rb HG.out.g.by_
        cases e9
        exact ⟨h9, fun x hx => (h8 x hx).1⟩
      have HRv : Hid (RO w v1 q2 r4 q5 b [.int .i64 (k : Int), .int .i64 (n : Int), .int .i64 (i : Int), .int .i64 0, .slice none 0 0]) := HR6.out.keep0 k1
      have HSz : Hid (w.heap.size ≤ (u4.setCell ⟨q5, 2, none⟩ (.int .i64 (i : Int))).heap.size) := HR6.out.k.size
      have HQ2 : Hid (q2 < (u4.setCell ⟨q5, 2, none⟩ (.int .i64 (i : Int))).heap.size) := World.block_lt_of_cell? _ _ (HR6.out.l2.cell (j := 0) rfl)
      have HQ5 : Hid (q5 < (u4.setCell ⟨q5, 2, none⟩ (.int .i64 (i : Int))).heap.size) := World.block_lt_of_cell? _ _ b5
      clear k1 o1 HR6 HC a5 f5 b5 d5 g0
      have a9 := HRv.out.l5.cell (j := 4) rfl
      have f9 := HRv.out.l5.fz (j := 4) (show 4 < 5 by decide)
      have HRz : Hid (RO w (v1.setCell ⟨q5, 4, none⟩ (.slice pc b.length cc)) q2 r4 q5 b [.int .i64 (k : Int), .int .i64 (n : Int), .int .i64 (i : Int), .int .i64 0, .slice pc b.length cc]) := HRv.out.store 4 _ (show 4 < 5 by decide)
      have kz : Kp (fun b => b = q5) v1 (v1.setCell ⟨q5, 4, none⟩ (.slice pc b.length cc)) := by show Kp _ _ _; exact (Kp.refl (fun b => b = q5) v1).setCell (fun _ => rfl) _
      have HRc : Hid (Rb (v1.setCell ⟨q5, 4, none⟩ (.slice pc b.length cc)) pc b.length b) := HRb.out.1.keep kz (fun x hx _ e => by
        have h1 := HRb.out.2 x hx
        have h2 := HQ5.out
        have h3 : x.block = q5 := e
        omega)
      have HPc : Hid (∀ x, pc = some x → w.heap.size ≤ x.block) := fun x hx => Nat.le_trans HSz.out (HRb.out.2 x hx)
      have HPq : Hid (∀ x, pc = some x → ¬ x.block = q2) := fun x hx e => by
        have h1 := HRb.out.2 x hx
        have h2 := HQ2.out
        omega
      clear kz HRv HRb HSz HQ5 HQ2
      go_upto_region 10 with fail
      obtain ⟨y, hy⟩ : ∃ y, y = (v1.setCell ⟨q5, 4, none⟩ (.slice pc b.length cc)) := ⟨_, rfl⟩
      rw [← hy] at HRz HRc ⊢
      clear hy
      have hch := ro_hc (r := ⟨k, n, i, 0, b⟩) (c := c) HG.out HSr.out.1 HRz.out HRc.out HPq.out
      refine ro10_region ⟨by kernel_rfl, by kernel_rfl, by kernel_rfl, by kernel_rfl, by kernel_rfl, by kernel_rfl, by kernel_rfl, by kernel_rfl, by kernel_rfl, by kernel_rfl, by kernel_rfl, by kernel_rfl, by kernel_rfl, by kernel_rfl, by kernel_rfl, by kernel_rfl, by kernel_rfl, by kernel_rfl, by kernel_rfl, by kernel_rfl, by kernel_rfl, by kernel_rfl⟩ q5 q2 _ _ _ _ pc b.length cc p L c none 0 (fun d _ _ _ _ h => by cases d <;> exact h) (by rfl) (by rfl) (by rfl) (by rfl) hch.1 (fun wz => Kp (fun _ => False) w wz ∧ Lv wz q2 [.int .i64 (k : Int), .int .i64 (n : Int), .int .i64 (i : Int), .int .i64 0, .slice pc b.length cc] ∧ Rb wz pc b.length b) hch.2 ?_
      rintro pw cw w9 ⟨kz, lz, rz⟩
      obtain ⟨wz, hwz⟩ : ∃ z, z = (((((w9.setCell ⟨q2, 0, none⟩ (.int .i64 (k : Int))).setCell ⟨q2, 1, none⟩ (.int .i64 (n : Int))).setCell ⟨q2, 2, none⟩ (.int .i64 (i : Int))).setCell ⟨q2, 3, none⟩ (.int .i64 ((0 : Nat) : Int))).setCell ⟨q2, 4, none⟩ (.slice pc b.length cc)) := ⟨_, rfl⟩
      have HZ : Hid (Kp (fun _ => False) w wz ∧ Rb wz pc b.length b) := by rw [hwz]; exact ⟨kz, rz⟩
      have lz2 : Lv wz q2 [.int .i64 (k : Int), .int .i64 (n : Int), .int .i64 (i : Int), .int .i64 0, .slice pc b.length cc] := by rw [hwz]; exact lz
      clear hch kz lz rz HRz HRc HPq HSr HW a9 f9
      simp only [Act.put, List.setIfInBounds_toArray, List.set_cons_succ, List.set_cons_zero]
      have d0 := lz2.cell (j := 0) rfl
      have d1 := lz2.cell (j := 1) rfl
      have d2 := lz2.cell (j := 2) rfl
      have d3 := lz2.cell (j := 3) rfl
      have d4 := lz2.cell (j := 4) rfl
      rw [← hwz]
      clear hwz
      have HLd : Hid ((loadVar 85 ⟨q2, 0, none⟩).run Tryz.prog wz = .ok (.agg #[.int .i64 (k : Int), .int .i64 (n : Int), .int .i64 (i : Int), .int .i64 0, .slice pc b.length cc]) wz) := lz2.load ⟨_, Tryz.underlying85, rfl⟩ szRec rfl
      go_wp2_with fail
      refine bodyPost_ret (res_cell_tmp Tryz.results102 _ _ q2 _ rfl HLd.out) rfl ?_
      exact ⟨pc, cc, rfl, HZ.out.1, HZ.out.2, HPc.out⟩
end Go.Proofs.YtmooddbhcccicaaGreatDoor

/- replay: a stock out of records; Open of a plate that had a shelf. -/
namespace Go.Proofs.YtmooddbhcccicaaGreatDoor
set_option linter.unusedVariables false
set_option linter.unusedSimpArgs false
open Go.RowKit Go.Deep Go.Maps

/-- texts, as a slice that can be read, in blocks below B -/
def Tq (w : World) (B : Nat) (p : Option Addr) (recs : List (List Nat)) : Prop := ∀ j, j < recs.length → ∃ g o q c, p = some ⟨g, o, none⟩ ∧ g < B ∧ w.cell? ⟨g, o + j, none⟩ = some (.slice q (recs.getD j []).length c) ∧ (recs.getD j []).length ≤ c ∧ Rb w q (recs.getD j []).length (recs.getD j []) ∧ ∀ a, q = some a → a.block < B
theorem Tq.keep {S : Nat → Prop} {w w' : World} {B : Nat} {p : Option Addr} {recs : List (List Nat)} (h : Tq w B p recs) (k : Kp S w w') (hS : ∀ b, b < B → ¬ S b) : Tq w' B p recs := fun j hj => by
  obtain ⟨g, o, q, c, e, hg, hc, hl, hr, hb⟩ := h j hj
  exact ⟨g, o, q, c, e, hg, k.cellv hc (hS g hg), hl, hr.keep k (fun a ha _ => hS _ (hb a ha)), hb⟩
theorem Rw.tq {w : World} {base : Nat} {v : Value} {recs : List (List Nat)} (h : Rw w base v recs) (hx : ∀ ys ∈ recs, ∀ x ∈ ys, x < 256) : ∃ p c, v = .slice p recs.length c ∧ Tq w w.heap.size p recs := by
  obtain ⟨vs, h1, h2, h3⟩ := h
  rcases Joins.ownsRow_forms h1 with ⟨e1, e2⟩ | ⟨g, cap, e⟩
  · exact ⟨none, 0, by rw [e1, e2], fun j hj => by omega⟩
  · refine ⟨_, cap, e, fun j hj => ?_⟩
    have hu : vs[j]? = some (vs[j]'(by omega)) := List.getElem?_eq_getElem _
    have hxj : recs[j]? = some recs[j] := List.getElem?_eq_getElem hj
    have hd : recs.getD j [] = recs[j] := by rw [List.getD_eq_getElem?_getD, hxj]; rfl
    obtain ⟨o, _⟩ := h3 j _ _ hxj hu
    obtain ⟨q, c, eu, hl, hr, hb⟩ := o.rb (hx _ (List.getElem_mem hj))
    have hg : g < w.heap.size := (ownBlock_lt h1 (by rw [e]; rfl)).2
    rw [e] at h1
    have k0 := h1.cells (g := g) rfl j _ hu
    rw [Addr.add_mid, Nat.zero_add] at k0
    rw [eu] at k0
    rw [hd]
    exact ⟨g, 0, q, c, rfl, hg, by rw [Nat.zero_add]; exact k0, hl, hr, fun a ha => (ownBlock_lt o (hb a ha).2).2⟩

set_option maxRecDepth 100000 in
set_option maxHeartbeats 3200000 in
theorem replay_ok {w : World} {Z : Nat → Prop} {sh mp g : Nat} {h : List Rc} {p : Option Addr} {c B : Nat} (x : Sk w Z sh mp g []) (hcn : ∀ r ∈ h, Cn r) (hn : h.length ≤ 1000) (ht : Tq w B p (h.map wrS)) (hB : B ≤ sh ∧ B ≤ mp) (hz : ∀ b, w.heap.size ≤ b → Z b) (hd : sh ≠ mp ∧ ¬ Z sh ∧ ¬ Z mp) :
    Calls Tryz.prog 56 #[.pointer (some ⟨sh, 0, none⟩), .slice p h.length c] w fun e w' => e = .returned .nilIface ∧ Kp (fun b => b = sh ∨ b = mp) w w' ∧ Sk w' Z sh mp g h := by
  have HX : Hid (Sk w Z sh mp g []) := x
  obtain ⟨n, hnn⟩ : ∃ n, n = h.length := ⟨_, rfl⟩
  have HN : Hid (n = h.length ∧ n ≤ 1000) := ⟨hnn, by omega⟩
  have HT : Hid (Tq w B p (h.map wrS)) := ht
  have HCn : Hid (∀ r ∈ h, Cn r) := hcn
  have HD : Hid ((B ≤ sh ∧ B ≤ mp) ∧ (∀ b, w.heap.size ≤ b → Z b) ∧ (sh ≠ mp ∧ ¬ Z sh ∧ ¬ Z mp)) := ⟨hB, hz, hd⟩
  rw [← hnn]
  clear x hcn hn ht hB hz hd hnn
  go_enter Tryz.func56, Tryz.ntmps56
  go_wp2
  go_loopg [11] n (fun gk iv wr => ∃ j : Nat, j ≤ n ∧ gk = n - j ∧ iv = .int .i64 (j : Int) ∧ Hid (Kp (fun b => b = sh ∨ b = mp) w wr ∧ Sk wr Z sh mp g (h.take j)))
  case atStart => exact ⟨0, Nat.zero_le _, rfl, rfl, Kp.refl _ _, by rw [List.take_zero]; exact HX.out⟩
  case round =>
    obtain ⟨j, hj, rfl, rfl, HK⟩ := hrel
    by_cases hlt : j < n
    · have hlt2 : (j : Int) < (n : Int) := by omega
      have hjh : j < h.length := by rw [← HN.out.1]; exact hlt
      obtain ⟨g0, o0, q, cq, rfl, hg0, hc0, hl0, hr0, hb0⟩ := (HT.out.keep HK.out.1 (fun b hb e => by have := HD.out.1; omega)) j (by rw [List.length_map]; exact hjh)
      have hgd : (h.map wrS).getD j [] = wrS h[j] := by rw [List.getD_eq_getElem?_getD, List.getElem?_map, List.getElem?_eq_getElem hjh]; rfl
      rw [hgd] at hc0 hl0 hr0
      obtain ⟨r, hr⟩ : ∃ r, r = h[j] := ⟨_, rfl⟩
      rw [← hr] at hc0 hl0 hr0
      have hrc : Cn r := by rw [hr]; exact HCn.out _ (List.getElem_mem hjh)
      have HRc : Hid (Cn r) := hrc
      have HRO : Hid (Calls _ _ _ wr _) := recordOf_ok hrc hr0 hl0
      have HTk : Hid (h.take (j + 1) = h.take j ++ [r]) := by
        show _ = _
        rw [List.take_add_one, List.getElem?_eq_getElem hjh, hr]
        rfl
      have HJ : Hid (j < n) := hlt
      have hw1 : wrap64 ((j : Int) + 1) = ((j + 1 : Nat) : Int) := by have := HN.out.2; unfold wrap64; omega
      obtain ⟨L, hL⟩ : ∃ L, L = (wrS r).length := ⟨_, rfl⟩
      rw [← hL] at hc0 HRO
      clear hg0 hl0 hr0 hb0 hgd hr hrc hjh hlt hL
      go_wp2_with fail
      refine HRO.out.mono ?_
      rintro e9 w1 ⟨pb, cb, rfl, k1, rb1, hp1⟩
      have HK1 : Hid (Kp (fun _ => False) wr w1 ∧ Rb w1 pb r.b.length r.b ∧ ∀ a, pb = some a → wr.heap.size ≤ a.block) := ⟨k1, rb1, hp1⟩
      clear k1 rb1 hp1 HRO
      go_upto_region 7 with fail
      obtain ⟨w2, hw2⟩ : ∃ z, z = w1.alloc (.cells #[.int .i64 (r.k : Int), .int .i64 (r.n : Int), .int .i64 (r.i : Int), .int .i64 (r.e : Int), .slice pb r.b.length cb] 85) := ⟨_, rfl⟩
      rw [← hw2]
      have k2 : Kp (fun _ => False) w1 w2 := by rw [hw2]; exact (Kp.refl _ _).alloc _
      obtain ⟨qx, hqx⟩ : ∃ x, x = w1.heap.size := ⟨_, rfl⟩
      rw [← hqx]
      have l2 : Lv w2 qx [.int .i64 (r.k : Int), .int .i64 (r.n : Int), .int .i64 (r.i : Int), .int .i64 (r.e : Int), .slice pb r.b.length cb] := by rw [hw2, hqx]; exact Lv.new w1 _ _
      have kd : Kp (fun _ => False) w2 { w2 with drawn := w2.drawn + 1 } := (Kp.refl _ _).drew
      have l3 := l2.keep kd id
      refine wp_region_still_tail 4 (by kernel_rfl) (by kernel_rfl) ?_
      obtain ⟨w3, hw3⟩ : ∃ x, x = { w2 with drawn := w2.drawn + 1 } := ⟨_, rfl⟩
      rw [← hw3] at kd l3 ⊢
      have d0 := l3.cell (j := 0) rfl
      have d1 := l3.cell (j := 1) rfl
      have d2 := l3.cell (j := 2) rfl
      have d3 := l3.cell (j := 3) rfl
      have d4 := l3.cell (j := 4) rfl
      have kr3 : Kp (fun _ => False) wr w3 := (HK1.out.1.trans k2 (fun _ _ e => e)).trans kd (fun _ _ e => e)
      have HTa : Hid (Calls _ _ _ w3 _) := take_ok (HK.out.2.keep kr3 id id (fun _ _ => id)) r pb cb ((HK1.out.2.1.keep0 k2).keep0 kd) HRc.out.g (by rw [List.length_take]; have := HN.out; have := HJ.out; omega) (fun a ha => HD.out.2.1 _ (Nat.le_trans HK.out.1.size (HK1.out.2.2 a ha))) HD.out.2.2
      have HK3 : Hid (Kp (fun b => b = sh ∨ b = mp) w w3) := HK.out.1.trans kr3 (fun _ _ e => e.elim)
      clear kr3 hw3 kd l2 l3 k2 hw2 hqx HK1
      simp only [List.take_succ_cons, List.take_zero, List.drop_succ_cons, List.drop_zero]
      iterate 4 still_step
      refine wpStill_nil ?_
      clear d0 d1 d2 d3 d4
      go_wp2_with fail
      refine HTa.out.mono ?_
      rintro e9 w4 ⟨rfl, k4, s4⟩
      have HF4 : Hid (Kp (fun b => b = sh ∨ b = mp) w w4 ∧ Sk w4 Z sh mp g (h.take (j + 1))) := ⟨HK3.out.trans k4 (fun _ _ e => e), by rw [HTk.out]; exact s4⟩
      clear k4 s4 HTa HK3 HK
      go_wp2
      go_roundg (n - (j + 1))
      case rel => exact ⟨j + 1, HJ.out, rfl, by first | rw [hw1] | simp, HF4.out⟩
      case measure => have := HJ.out; omega
    · have hjn : j = n := by omega
      subst hjn
      have hlt2 : ¬ (j : Int) < (j : Int) := by omega
      have HF : Hid (Kp (fun b => b = sh ∨ b = mp) w wr ∧ Sk wr Z sh mp g h) := by
        have h9 := HK.out
        rw [List.take_of_length_le (Nat.le_of_eq HN.out.1.symm)] at h9
        exact h9
      clear HK HX
      go_wp2
      go_ret
      exact ⟨rfl, HF.out⟩

set_option maxRecDepth 100000 in
set_option maxHeartbeats 1600000 in
theorem sopen_any {w : World} {bp d m s q a b c e y : Nat} {hh : List Rc} {dur : List Nat} {T : Nat → Option (List Nat)} {rdW : Nat → List Nat} (h : Lc w bp d m s q a b c e y (hh.map wrS) dur T rdW) (hcn : ∀ r ∈ hh, Cn r) (hn : hh.length ≤ 1000) (ha : a < 1152921504606846976) (hb : b < 1152921504606846976) (ht : Turns w) :
    ∃ k, y ≤ k ∧ k ≤ hh.length ∧ Calls Tryz.prog 26 #[.pointer (some ⟨bp, 0, none⟩)] w fun e9 w' => ∃ sh mp g gf dur2 N, e9 = .returned (.tuple #[.pointer (some ⟨sh, 0, none⟩), .int .i64 0]) ∧ Kp (fun x => x = d ∨ x = m) w w' ∧ (w.heap.size ≤ sh ∧ w.heap.size ≤ mp ∧ w.heap.size ≤ g ∧ w.heap.size ≤ gf) ∧ N ≤ w'.heap.size ∧ Shf w' (fun x => N ≤ x) sh mp g bp d m gf s (a + 1) (b + 1) c e k dur2 (hh.take k) := by
  obtain ⟨k, hyk, hk, _, HOp⟩ := lc_open h ha hb ht
  rw [List.length_map] at hk
  refine ⟨k, hyk, hk, ?_⟩
  rw [← List.map_take] at HOp
  have HO : Hid (Calls _ _ _ w _) := HOp
  have HT : Hid (Turns w) := ht
  have HTd : Hid ((¬ (0 : Nat) = d ∧ ¬ (0 : Nat) = m) ∧ (0 : Nat) < w.heap.size ∧ bp < w.heap.size ∧ d < w.heap.size ∧ m < w.heap.size) := ⟨h.td, World.block_lt_of_cell? _ _ (ht 0 (by decide)), h.pt.lt, h.pt.row.lt, h.pt.mp.lt⟩
  have HCn : Hid ((∀ r ∈ hh.take k, Cn r) ∧ (hh.take k).length = k ∧ k ≤ 1000) := ⟨fun r hr => hcn r (List.mem_of_mem_take hr), by rw [List.length_take]; omega, by omega⟩
  have HIs : Hid (∀ u, Calls Tryz.prog 57 #[.nilIface, eno 70] u fun e w' => e = .returned (.bool false) ∧ w' = u) := fun u => is_nil 70 u
  have hmm : ∀ (t : TypeId) (w : World), (Instr.makeMap t none).run Tryz.prog w = .ok (.map (some w.heap.size)) (w.alloc (.map #[] 0)) := fun _ _ => rfl
  obtain ⟨hk2, hh2⟩ : ∃ l, l = hh.take k := ⟨_, rfl⟩
  rw [← hh2] at HO HCn ⊢
  clear h hcn hn ha hb ht hyk hk HOp hh2
  go_enter Tryz.func26, Tryz.ntmps26
  go_wp2_with fail
  refine HO.out.mono ?_
  rintro e9 w2 ⟨g, gf, v, dur2, rfl, k2, hg, hgf, r2, l2⟩
  obtain ⟨pv, cv, rfl, t2⟩ := r2.tq (fun ys hy x hx => by
    obtain ⟨r, hr, rfl⟩ := List.mem_map.1 hy
    exact wrS_b (HCn.out.1 r hr).g x hx)
  rw [List.length_map] at l2 ⊢
  obtain ⟨mp, hmp⟩ : ∃ x, x = w2.heap.size := ⟨_, rfl⟩
  obtain ⟨w3, hw3⟩ : ∃ y, y = w2.alloc (.map #[] 0) := ⟨_, rfl⟩
  have hm3 : Px3 w3 mp 0 (fun _ => none) := by rw [hw3, hmp]; exact Px3.made w2
  have k3 : Kp (fun _ => False) w2 w3 := by rw [hw3]; exact (Kp.refl _ _).alloc _
  obtain ⟨sh, hsh⟩ : ∃ x, x = w3.heap.size := ⟨_, rfl⟩
  obtain ⟨w4, hw4⟩ : ∃ y, y = w3.alloc (.cells #[.pointer (some ⟨g, 0, none⟩), .map (some mp), .int .i64 0] 92) := ⟨_, rfl⟩
  have s4 : Sk w4 (fun x => w4.heap.size ≤ x) sh mp g [] := by rw [hw4, hsh]; exact Sk.new w3 _ g mp hm3
  have k4 : Kp (fun _ => False) w3 w4 := by rw [hw4]; exact (Kp.refl _ _).alloc _
  have hz : w3.heap.size = w2.heap.size + 1 ∧ w4.heap.size = w3.heap.size + 1 := ⟨by rw [hw3]; simp, by rw [hw4]; simp⟩
  have k24 : Kp (fun _ => False) w2 w4 := k3.trans k4 (fun _ _ e => e)
  have hLen := HCn.out.2
  have HRe : Hid (Calls _ _ _ w4 _) := replay_ok (p := pv) (c := cv) s4 HCn.out.1 (by omega) (t2.keep k24 (fun _ _ e => e)) ⟨by omega, by omega⟩ (fun b hb => hb) ⟨by omega, by omega, by omega⟩
  rw [hLen.1] at HRe l2
  have HB2 := l2.blk
  have HFin : Hid (∀ w5, Kp (fun b => b = sh ∨ b = mp) w4 w5 → Sk w5 (fun x => w4.heap.size ≤ x) sh mp g hk2 → Kp (fun x => x = d ∨ x = m) w w5 ∧ (w.heap.size ≤ sh ∧ w.heap.size ≤ mp ∧ w.heap.size ≤ g ∧ w.heap.size ≤ gf) ∧ w4.heap.size ≤ w5.heap.size ∧ Shf w5 (fun x => w4.heap.size ≤ x) sh mp g bp d m gf s (a + 1) (b + 1) c e k dur2 hk2) := fun w5 k5 s5 => by
    obtain ⟨⟨t1, t2'⟩, t3, t4, t5, t6⟩ := HTd.out
    have z1 := k2.size
    refine ⟨k2.trans ((k24.mono (fun _ _ e => e.elim)).trans k5 (fun _ _ e => e)) (fun b hb9 e => by omega), ⟨by omega, by omega, by omega, by omega⟩, k5.size, ⟨⟨0, _, _, (l2.keep0 k24).keep k5 (fun e => by omega) (fun e => by omega) (fun e => by omega) (fun e => by omega) (fun e => by omega)⟩, s5, ?_, ⟨by omega, by omega, by omega⟩, fun x hx => ?_, ⟨by omega, by omega, by omega, by omega⟩, ⟨by omega, by omega⟩⟩⟩
    · exact fun j hj => k5.cellv (k24.cellv ((k2.cellv (HT.out j hj) (fun e => by rcases e with e | e; exact t1 e; exact t2' e))) id) (fun e => by
        have e' : (0 : Nat) = sh ∨ (0 : Nat) = mp := e
        omega)
    · rcases hx with rfl | rfl | rfl <;> exact ⟨by omega, by omega, by omega⟩
  rw [hLen.1]
  clear k2 l2 hm3 k3 s4 k4 hz hg hgf HO t2 r2 k24 HB2 hLen
  go_wp2_with fail
  have hsh1 : mp + 1 = sh := by rw [hsh, hw3, hmp]; simp
  rw [← hmp, ← hw3, hsh1, ← hw4]
  clear hmp hw3 hsh hsh1 hw4
  refine HRe.out.mono ?_
  rintro e9 w5 ⟨rfl, k5, s5⟩
  have HF : Hid _ := HFin.out w5 k5 s5
  clear k5 s5 HFin HRe
  go_wp2_with fail
  refine (HIs.out _).mono ?_
  rintro e9 w9 ⟨rfl, hw9⟩
  have hw8 := hw9.symm
  subst hw8
  clear hw9
  go_wp2_with fail
  go_ret2
  exact ⟨sh, mp, g, gf, dur2, _, rfl, HF.out⟩
end Go.Proofs.YtmooddbhcccicaaGreatDoor
