/- slices.Reverse of numbers of one's own: the same numbers (the region is laid by scripts/mkhu.py). -/
import Derived.Test.YtneobpdbfbcnmaaHq
import Derived.Test.YtneobpdbfbcnmaaHb
import Derived.Test.YtneobpdbfbcnmaaTh
namespace Go.Proofs.Ytneobpdbfbcnmaa
set_option linter.unusedVariables false
set_option linter.unusedSimpArgs false
open Go.RowKit Go.Deep

theorem rv_l7 (g j : Nat) (xj : Int) (ev : Operand → Value) (z : World) (e20 : ev (.tmp 20) = .pointer (some ⟨g, j, none⟩)) (c : z.cell? ⟨g, j, none⟩ = some (.int .i64 xj)) : (execOp ev ⟨some 21, Op.load 3 (Operand.tmp 20), 3, "", #[], none⟩).run Try.prog z = .ok (.value (.int .i64 xj)) z := by go_simp
theorem rv_l11 (g i : Nat) (xi : Int) (ev : Operand → Value) (z : World) (e24 : ev (.tmp 24) = .pointer (some ⟨g, i, none⟩)) (c : z.cell? ⟨g, i, none⟩ = some (.int .i64 xi)) : (execOp ev ⟨some 25, Op.load 3 (Operand.tmp 24), 3, "", #[], none⟩).run Try.prog z = .ok (.value (.int .i64 xi)) z := by go_simp
theorem rv_s13 (g i : Nat) (xj : Int) (ev : Operand → Value) (z : World) (u : Value) (e26 : ev (.tmp 26) = .pointer (some ⟨g, i, none⟩)) (e21 : ev (.tmp 21) = .int .i64 xj) (c : z.cell? ⟨g, i, none⟩ = some u) (hf : z.frozen? ⟨g, i, none⟩ = false) : (execOp ev ⟨none, Op.store 3 (Operand.tmp 26) (Operand.tmp 21), 0, "", #[], none⟩).run Try.prog z = .ok .skip (z.setCell ⟨g, i, none⟩ (.int .i64 xj)) := by go_simp
theorem rv_s15 (g j : Nat) (xi : Int) (ev : Operand → Value) (z : World) (u : Value) (e27 : ev (.tmp 27) = .pointer (some ⟨g, j, none⟩)) (e25 : ev (.tmp 25) = .int .i64 xi) (c : z.cell? ⟨g, j, none⟩ = some u) (hf : z.frozen? ⟨g, j, none⟩ = false) : (execOp ev ⟨none, Op.store 3 (Operand.tmp 27) (Operand.tmp 25), 0, "", #[], none⟩).run Try.prog z = .ok .skip (z.setCell ⟨g, j, none⟩ (.int .i64 xi)) := by go_simp
theorem rv_0 (g n c i j : Nat) (xi xj : Int) (hi : i < n) (hj : j < n) (ev : Operand → Value) (z : World) (ec : ∀ c, ev (.const c) = c) (e0 : ev (.tmp 0) = .slice (some ⟨g, 0, none⟩) n c) (hS : True) : (execOp ev ⟨some 14, Op.move (Operand.tmp 0), 22, "", #[], none⟩).run Try.prog z = .ok (.value (.slice (some ⟨g, 0, none⟩) n c)) z := by
  obtain _ := hS
  go_simp
theorem rv_1 (g n c i j : Nat) (xi xj : Int) (hi : i < n) (hj : j < n) (ev : Operand → Value) (z : World) (ec : ∀ c, ev (.const c) = c) (e2 : ev (.tmp 2) = .int .i64 (i : Int)) (hS : True) : (execOp ev ⟨some 15, Op.move (Operand.tmp 2), 3, "", #[], none⟩).run Try.prog z = .ok (.value (.int .i64 (i : Int))) z := by
  obtain _ := hS
  go_simp
theorem rv_2 (g n c i j : Nat) (xi xj : Int) (hi : i < n) (hj : j < n) (ev : Operand → Value) (z : World) (ec : ∀ c, ev (.const c) = c) (e0 : ev (.tmp 0) = .slice (some ⟨g, 0, none⟩) n c) (hS : True) : (execOp ev ⟨some 16, Op.move (Operand.tmp 0), 22, "", #[], none⟩).run Try.prog z = .ok (.value (.slice (some ⟨g, 0, none⟩) n c)) z := by
  obtain _ := hS
  go_simp
theorem rv_3 (g n c i j : Nat) (xi xj : Int) (hi : i < n) (hj : j < n) (ev : Operand → Value) (z : World) (ec : ∀ c, ev (.const c) = c) (e3 : ev (.tmp 3) = .int .i64 (j : Int)) (hS : True) : (execOp ev ⟨some 17, Op.move (Operand.tmp 3), 3, "", #[], none⟩).run Try.prog z = .ok (.value (.int .i64 (j : Int))) z := by
  obtain _ := hS
  go_simp
theorem rv_4 (g n c i j : Nat) (xi xj : Int) (hi : i < n) (hj : j < n) (ev : Operand → Value) (z : World) (ec : ∀ c, ev (.const c) = c) (e0 : ev (.tmp 0) = .slice (some ⟨g, 0, none⟩) n c) (hS : True) : (execOp ev ⟨some 18, Op.move (Operand.tmp 0), 22, "", #[], none⟩).run Try.prog z = .ok (.value (.slice (some ⟨g, 0, none⟩) n c)) z := by
  obtain _ := hS
  go_simp
theorem rv_5 (g n c i j : Nat) (xi xj : Int) (hi : i < n) (hj : j < n) (ev : Operand → Value) (z : World) (ec : ∀ c, ev (.const c) = c) (e3 : ev (.tmp 3) = .int .i64 (j : Int)) (hS : True) : (execOp ev ⟨some 19, Op.move (Operand.tmp 3), 3, "", #[], none⟩).run Try.prog z = .ok (.value (.int .i64 (j : Int))) z := by
  obtain _ := hS
  go_simp
theorem rv_6 (g n c i j : Nat) (xi xj : Int) (hi : i < n) (hj : j < n) (ev : Operand → Value) (z : World) (ec : ∀ c, ev (.const c) = c) (e18 : ev (.tmp 18) = .slice (some ⟨g, 0, none⟩) n c) (e19 : ev (.tmp 19) = .int .i64 (j : Int)) (hS : True) : (execOp ev ⟨some 20, Op.indexAddr 22 (Operand.tmp 18) (Operand.tmp 19), 0, "", #[], none⟩).run Try.prog z = .ok (.value (.pointer (some ⟨g, j, none⟩))) z := by
  have hi1 : (0 : Int) ≤ (j : Int) ∧ (j : Int) < (n : Int) := by omega
  go_simp
theorem rv_8 (g n c i j : Nat) (xi xj : Int) (hi : i < n) (hj : j < n) (ev : Operand → Value) (z : World) (ec : ∀ c, ev (.const c) = c) (e0 : ev (.tmp 0) = .slice (some ⟨g, 0, none⟩) n c) (hS : True) : (execOp ev ⟨some 22, Op.move (Operand.tmp 0), 22, "", #[], none⟩).run Try.prog z = .ok (.value (.slice (some ⟨g, 0, none⟩) n c)) z := by
  obtain _ := hS
  go_simp
theorem rv_9 (g n c i j : Nat) (xi xj : Int) (hi : i < n) (hj : j < n) (ev : Operand → Value) (z : World) (ec : ∀ c, ev (.const c) = c) (e2 : ev (.tmp 2) = .int .i64 (i : Int)) (hS : True) : (execOp ev ⟨some 23, Op.move (Operand.tmp 2), 3, "", #[], none⟩).run Try.prog z = .ok (.value (.int .i64 (i : Int))) z := by
  obtain _ := hS
  go_simp
theorem rv_10 (g n c i j : Nat) (xi xj : Int) (hi : i < n) (hj : j < n) (ev : Operand → Value) (z : World) (ec : ∀ c, ev (.const c) = c) (e22 : ev (.tmp 22) = .slice (some ⟨g, 0, none⟩) n c) (e23 : ev (.tmp 23) = .int .i64 (i : Int)) (hS : True) : (execOp ev ⟨some 24, Op.indexAddr 22 (Operand.tmp 22) (Operand.tmp 23), 0, "", #[], none⟩).run Try.prog z = .ok (.value (.pointer (some ⟨g, i, none⟩))) z := by
  have hi1 : (0 : Int) ≤ (i : Int) ∧ (i : Int) < (n : Int) := by omega
  go_simp
theorem rv_12 (g n c i j : Nat) (xi xj : Int) (hi : i < n) (hj : j < n) (ev : Operand → Value) (z : World) (ec : ∀ c, ev (.const c) = c) (e14 : ev (.tmp 14) = .slice (some ⟨g, 0, none⟩) n c) (e15 : ev (.tmp 15) = .int .i64 (i : Int)) (hS : True) : (execOp ev ⟨some 26, Op.indexAddr 22 (Operand.tmp 14) (Operand.tmp 15), 0, "", #[], none⟩).run Try.prog z = .ok (.value (.pointer (some ⟨g, i, none⟩))) z := by
  have hi1 : (0 : Int) ≤ (i : Int) ∧ (i : Int) < (n : Int) := by omega
  go_simp
theorem rv_14 (g n c i j : Nat) (xi xj : Int) (hi : i < n) (hj : j < n) (ev : Operand → Value) (z : World) (ec : ∀ c, ev (.const c) = c) (e16 : ev (.tmp 16) = .slice (some ⟨g, 0, none⟩) n c) (e17 : ev (.tmp 17) = .int .i64 (j : Int)) (hS : True) : (execOp ev ⟨some 27, Op.indexAddr 22 (Operand.tmp 16) (Operand.tmp 17), 0, "", #[], none⟩).run Try.prog z = .ok (.value (.pointer (some ⟨g, j, none⟩))) z := by
  have hi1 : (0 : Int) ≤ (j : Int) ∧ (j : Int) < (n : Int) := by omega
  go_simp
structure rvR (ops : Array Oper) : Prop where
  size : ops.size = 16
  sel : Region.noSelect ops = true
  o0 : (ops[0]?).map bare = some ⟨some 14, Op.move (Operand.tmp 0), 22, "", #[], none⟩
  o1 : (ops[1]?).map bare = some ⟨some 15, Op.move (Operand.tmp 2), 3, "", #[], none⟩
  o2 : (ops[2]?).map bare = some ⟨some 16, Op.move (Operand.tmp 0), 22, "", #[], none⟩
  o3 : (ops[3]?).map bare = some ⟨some 17, Op.move (Operand.tmp 3), 3, "", #[], none⟩
  o4 : (ops[4]?).map bare = some ⟨some 18, Op.move (Operand.tmp 0), 22, "", #[], none⟩
  o5 : (ops[5]?).map bare = some ⟨some 19, Op.move (Operand.tmp 3), 3, "", #[], none⟩
  o6 : (ops[6]?).map bare = some ⟨some 20, Op.indexAddr 22 (Operand.tmp 18) (Operand.tmp 19), 0, "", #[], none⟩
  o7 : (ops[7]?).map bare = some ⟨some 21, Op.load 3 (Operand.tmp 20), 3, "", #[], none⟩
  o8 : (ops[8]?).map bare = some ⟨some 22, Op.move (Operand.tmp 0), 22, "", #[], none⟩
  o9 : (ops[9]?).map bare = some ⟨some 23, Op.move (Operand.tmp 2), 3, "", #[], none⟩
  o10 : (ops[10]?).map bare = some ⟨some 24, Op.indexAddr 22 (Operand.tmp 22) (Operand.tmp 23), 0, "", #[], none⟩
  o11 : (ops[11]?).map bare = some ⟨some 25, Op.load 3 (Operand.tmp 24), 3, "", #[], none⟩
  o12 : (ops[12]?).map bare = some ⟨some 26, Op.indexAddr 22 (Operand.tmp 14) (Operand.tmp 15), 0, "", #[], none⟩
  o13 : (ops[13]?).map bare = some ⟨none, Op.store 3 (Operand.tmp 26) (Operand.tmp 21), 0, "", #[], none⟩
  o14 : (ops[14]?).map bare = some ⟨some 27, Op.indexAddr 22 (Operand.tmp 16) (Operand.tmp 17), 0, "", #[], none⟩
  o15 : (ops[15]?).map bare = some ⟨none, Op.store 3 (Operand.tmp 27) (Operand.tmp 25), 0, "", #[], none⟩
  f1 : takeB .any ops [0, 1, 2, 3, 4, 5, 6, 8, 9, 10] (Array.replicate 16 false) = true
  f2 : Region.ready .any ops (mark [0, 1, 2, 3, 4, 5, 6, 8, 9, 10] (Array.replicate 16 false)) = [7, 11]
  f3 : Region.ready .any ops ((mark [0, 1, 2, 3, 4, 5, 6, 8, 9, 10] (Array.replicate 16 false)).setIfInBounds 7 true) = [11]
  f4 : takeB .any ops [12] (((mark [0, 1, 2, 3, 4, 5, 6, 8, 9, 10] (Array.replicate 16 false)).setIfInBounds 7 true).setIfInBounds 11 true) = true
  f5 : Region.ready .any ops (mark [12] (((mark [0, 1, 2, 3, 4, 5, 6, 8, 9, 10] (Array.replicate 16 false)).setIfInBounds 7 true).setIfInBounds 11 true)) = [13]
  f6 : takeB .any ops [14] ((mark [12] (((mark [0, 1, 2, 3, 4, 5, 6, 8, 9, 10] (Array.replicate 16 false)).setIfInBounds 7 true).setIfInBounds 11 true)).setIfInBounds 13 true) = true
  f7 : Region.ready .any ops (mark [14] ((mark [12] (((mark [0, 1, 2, 3, 4, 5, 6, 8, 9, 10] (Array.replicate 16 false)).setIfInBounds 7 true).setIfInBounds 11 true)).setIfInBounds 13 true)) = [15]
  f8 : Region.ready .any ops ((mark [14] ((mark [12] (((mark [0, 1, 2, 3, 4, 5, 6, 8, 9, 10] (Array.replicate 16 false)).setIfInBounds 7 true).setIfInBounds 11 true)).setIfInBounds 13 true)).setIfInBounds 15 true) = []
  f9 : Region.ready .any ops ((mark [0, 1, 2, 3, 4, 5, 6, 8, 9, 10] (Array.replicate 16 false)).setIfInBounds 11 true) = [7]
  f10 : takeB .any ops [12] (((mark [0, 1, 2, 3, 4, 5, 6, 8, 9, 10] (Array.replicate 16 false)).setIfInBounds 11 true).setIfInBounds 7 true) = true
  f11 : Region.ready .any ops (mark [12] (((mark [0, 1, 2, 3, 4, 5, 6, 8, 9, 10] (Array.replicate 16 false)).setIfInBounds 11 true).setIfInBounds 7 true)) = [13]
  f12 : takeB .any ops [14] ((mark [12] (((mark [0, 1, 2, 3, 4, 5, 6, 8, 9, 10] (Array.replicate 16 false)).setIfInBounds 11 true).setIfInBounds 7 true)).setIfInBounds 13 true) = true
  f13 : Region.ready .any ops (mark [14] ((mark [12] (((mark [0, 1, 2, 3, 4, 5, 6, 8, 9, 10] (Array.replicate 16 false)).setIfInBounds 11 true).setIfInBounds 7 true)).setIfInBounds 13 true)) = [15]
  f14 : Region.ready .any ops ((mark [14] ((mark [12] (((mark [0, 1, 2, 3, 4, 5, 6, 8, 9, 10] (Array.replicate 16 false)).setIfInBounds 11 true).setIfInBounds 7 true)).setIfInBounds 13 true)).setIfInBounds 15 true) = []

set_option maxRecDepth 100000 in
set_option maxHeartbeats 3200000 in
theorem rv_region {ops : Array Oper} {id : Nat} {Q : Exit → Act → World → Prop} {a : Act} {y : World} (R : rvR ops) (g n c i j : Nat) (xi xj : Int) (hi : i < n) (hj : j < n)
    (hQ : ∀ d v c a w, Q (.panic c) (a.put d v) w → Q (.panic c) a w) (hsz : a.tmps.size = 28) (e0 : a.eval (.tmp 0) = .slice (some ⟨g, 0, none⟩) n c) (e2 : a.eval (.tmp 2) = .int .i64 (i : Int)) (e3 : a.eval (.tmp 3) = .int .i64 (j : Int)) (hci : y.drew.cell? ⟨g, i, none⟩ = some (.int .i64 xi)) (hcj : y.drew.cell? ⟨g, j, none⟩ = some (.int .i64 xj)) (hfi : y.drew.frozen? ⟨g, i, none⟩ = false) (hcj2 : (y.drew.setCell ⟨g, i, none⟩ (.int .i64 xj)).cell? ⟨g, j, none⟩ = some (.int .i64 xj)) (hfj2 : (y.drew.setCell ⟨g, i, none⟩ (.int .i64 xj)).frozen? ⟨g, j, none⟩ = false)
    (hK1 : Q .normal ((((((((((((((a.put (some 14) (.slice (some ⟨g, 0, none⟩) n c)).put (some 15) (.int .i64 (i : Int))).put (some 16) (.slice (some ⟨g, 0, none⟩) n c)).put (some 17) (.int .i64 (j : Int))).put (some 18) (.slice (some ⟨g, 0, none⟩) n c)).put (some 19) (.int .i64 (j : Int))).put (some 20) (.pointer (some ⟨g, j, none⟩))).put (some 22) (.slice (some ⟨g, 0, none⟩) n c)).put (some 23) (.int .i64 (i : Int))).put (some 24) (.pointer (some ⟨g, i, none⟩))).put (some 21) (.int .i64 xj)).put (some 25) (.int .i64 xi)).put (some 26) (.pointer (some ⟨g, i, none⟩))).put (some 27) (.pointer (some ⟨g, j, none⟩))) ((y.drew.setCell ⟨g, i, none⟩ (.int .i64 xj)).setCell ⟨g, j, none⟩ (.int .i64 xi))) (hK2 : Q .normal ((((((((((((((a.put (some 14) (.slice (some ⟨g, 0, none⟩) n c)).put (some 15) (.int .i64 (i : Int))).put (some 16) (.slice (some ⟨g, 0, none⟩) n c)).put (some 17) (.int .i64 (j : Int))).put (some 18) (.slice (some ⟨g, 0, none⟩) n c)).put (some 19) (.int .i64 (j : Int))).put (some 20) (.pointer (some ⟨g, j, none⟩))).put (some 22) (.slice (some ⟨g, 0, none⟩) n c)).put (some 23) (.int .i64 (i : Int))).put (some 24) (.pointer (some ⟨g, i, none⟩))).put (some 25) (.int .i64 xi)).put (some 21) (.int .i64 xj)).put (some 26) (.pointer (some ⟨g, i, none⟩))).put (some 27) (.pointer (some ⟨g, j, none⟩))) ((y.drew.setCell ⟨g, i, none⟩ (.int .i64 xj)).setCell ⟨g, j, none⟩ (.int .i64 xi))) : (Code.region id ops true).wp Try.prog Q a y := by
  have HR : Hid (rvR ops) := R
  have hdf : a.defers = a.defers := rfl
  have hS0 : True := trivial
  refine wp_region_held_drew (S := (fun z : World => True)) (by kernel_rfl) (hS0) (fun hHeld => ?_)
  rw [R.size]
  clear R
  refine wpAnyH_takes HR.out.sel hQ (hHeld) [0, 1, 2, 3, 4, 5, 6, 8, 9, 10] 6 _ _ HR.out.f1 ?_
  refine wpTake_stepE ⟨some 14, Op.move (Operand.tmp 0), 22, "", #[], none⟩ 14 (.slice (some ⟨g, 0, none⟩) n c) HR.out.o0 rfl (by rw [hsz]; decide) (wanted_none rfl) (fun z hS => rv_0 g n c i j xi xj hi hj _ z (fun _ => rfl) e0 hS) ?_
  intro a1 ha1 s1 f1 n1 k1
  replace hsz := s1.trans hsz
  replace hdf := f1.trans hdf
  replace e0 := (k1 0 (by decide)).trans e0
  replace e2 := (k1 2 (by decide)).trans e2
  replace e3 := (k1 3 (by decide)).trans e3
  have e14 := n1
  clear s1 f1 n1 k1
  refine wpTake_stepE ⟨some 15, Op.move (Operand.tmp 2), 3, "", #[], none⟩ 15 (.int .i64 (i : Int)) HR.out.o1 rfl (by rw [hsz]; decide) (wanted_none rfl) (fun z hS => rv_1 g n c i j xi xj hi hj _ z (fun _ => rfl) e2 hS) ?_
  intro a2 ha2 s1 f1 n1 k1
  replace hsz := s1.trans hsz
  replace hdf := f1.trans hdf
  replace e0 := (k1 0 (by decide)).trans e0
  replace e2 := (k1 2 (by decide)).trans e2
  replace e3 := (k1 3 (by decide)).trans e3
  replace e14 := (k1 14 (by decide)).trans e14
  have e15 := n1
  clear s1 f1 n1 k1
  refine wpTake_stepE ⟨some 16, Op.move (Operand.tmp 0), 22, "", #[], none⟩ 16 (.slice (some ⟨g, 0, none⟩) n c) HR.out.o2 rfl (by rw [hsz]; decide) (wanted_none rfl) (fun z hS => rv_2 g n c i j xi xj hi hj _ z (fun _ => rfl) e0 hS) ?_
  intro a3 ha3 s1 f1 n1 k1
  replace hsz := s1.trans hsz
  replace hdf := f1.trans hdf
  replace e0 := (k1 0 (by decide)).trans e0
  replace e2 := (k1 2 (by decide)).trans e2
  replace e3 := (k1 3 (by decide)).trans e3
  replace e14 := (k1 14 (by decide)).trans e14
  replace e15 := (k1 15 (by decide)).trans e15
  have e16 := n1
  clear s1 f1 n1 k1
  refine wpTake_stepE ⟨some 17, Op.move (Operand.tmp 3), 3, "", #[], none⟩ 17 (.int .i64 (j : Int)) HR.out.o3 rfl (by rw [hsz]; decide) (wanted_none rfl) (fun z hS => rv_3 g n c i j xi xj hi hj _ z (fun _ => rfl) e3 hS) ?_
  intro a4 ha4 s1 f1 n1 k1
  replace hsz := s1.trans hsz
  replace hdf := f1.trans hdf
  replace e0 := (k1 0 (by decide)).trans e0
  replace e2 := (k1 2 (by decide)).trans e2
  replace e3 := (k1 3 (by decide)).trans e3
  replace e14 := (k1 14 (by decide)).trans e14
  replace e15 := (k1 15 (by decide)).trans e15
  replace e16 := (k1 16 (by decide)).trans e16
  have e17 := n1
  clear s1 f1 n1 k1
  refine wpTake_stepE ⟨some 18, Op.move (Operand.tmp 0), 22, "", #[], none⟩ 18 (.slice (some ⟨g, 0, none⟩) n c) HR.out.o4 rfl (by rw [hsz]; decide) (wanted_none rfl) (fun z hS => rv_4 g n c i j xi xj hi hj _ z (fun _ => rfl) e0 hS) ?_
  intro a5 ha5 s1 f1 n1 k1
  replace hsz := s1.trans hsz
  replace hdf := f1.trans hdf
  replace e0 := (k1 0 (by decide)).trans e0
  replace e2 := (k1 2 (by decide)).trans e2
  replace e3 := (k1 3 (by decide)).trans e3
  replace e14 := (k1 14 (by decide)).trans e14
  replace e15 := (k1 15 (by decide)).trans e15
  replace e16 := (k1 16 (by decide)).trans e16
  replace e17 := (k1 17 (by decide)).trans e17
  have e18 := n1
  clear s1 f1 n1 k1
  refine wpTake_stepE ⟨some 19, Op.move (Operand.tmp 3), 3, "", #[], none⟩ 19 (.int .i64 (j : Int)) HR.out.o5 rfl (by rw [hsz]; decide) (wanted_none rfl) (fun z hS => rv_5 g n c i j xi xj hi hj _ z (fun _ => rfl) e3 hS) ?_
  intro a6 ha6 s1 f1 n1 k1
  replace hsz := s1.trans hsz
  replace hdf := f1.trans hdf
  replace e0 := (k1 0 (by decide)).trans e0
  replace e2 := (k1 2 (by decide)).trans e2
  replace e14 := (k1 14 (by decide)).trans e14
  replace e15 := (k1 15 (by decide)).trans e15
  replace e16 := (k1 16 (by decide)).trans e16
  replace e17 := (k1 17 (by decide)).trans e17
  replace e18 := (k1 18 (by decide)).trans e18
  have e19 := n1
  clear s1 f1 n1 k1
  refine wpTake_stepE ⟨some 20, Op.indexAddr 22 (Operand.tmp 18) (Operand.tmp 19), 0, "", #[], none⟩ 20 (.pointer (some ⟨g, j, none⟩)) HR.out.o6 rfl (by rw [hsz]; decide) (wanted_none rfl) (fun z hS => rv_6 g n c i j xi xj hi hj _ z (fun _ => rfl) e18 e19 hS) ?_
  intro a7 ha7 s1 f1 n1 k1
  replace hsz := s1.trans hsz
  replace hdf := f1.trans hdf
  replace e0 := (k1 0 (by decide)).trans e0
  replace e2 := (k1 2 (by decide)).trans e2
  replace e14 := (k1 14 (by decide)).trans e14
  replace e15 := (k1 15 (by decide)).trans e15
  replace e16 := (k1 16 (by decide)).trans e16
  replace e17 := (k1 17 (by decide)).trans e17
  have e20 := n1
  clear s1 f1 n1 k1
  refine wpTake_stepE ⟨some 22, Op.move (Operand.tmp 0), 22, "", #[], none⟩ 22 (.slice (some ⟨g, 0, none⟩) n c) HR.out.o8 rfl (by rw [hsz]; decide) (wanted_none rfl) (fun z hS => rv_8 g n c i j xi xj hi hj _ z (fun _ => rfl) e0 hS) ?_
  intro a8 ha8 s1 f1 n1 k1
  replace hsz := s1.trans hsz
  replace hdf := f1.trans hdf
  replace e2 := (k1 2 (by decide)).trans e2
  replace e14 := (k1 14 (by decide)).trans e14
  replace e15 := (k1 15 (by decide)).trans e15
  replace e16 := (k1 16 (by decide)).trans e16
  replace e17 := (k1 17 (by decide)).trans e17
  replace e20 := (k1 20 (by decide)).trans e20
  have e22 := n1
  clear s1 f1 n1 k1
  refine wpTake_stepE ⟨some 23, Op.move (Operand.tmp 2), 3, "", #[], none⟩ 23 (.int .i64 (i : Int)) HR.out.o9 rfl (by rw [hsz]; decide) (wanted_none rfl) (fun z hS => rv_9 g n c i j xi xj hi hj _ z (fun _ => rfl) e2 hS) ?_
  intro a9 ha9 s1 f1 n1 k1
  replace hsz := s1.trans hsz
  replace hdf := f1.trans hdf
  replace e14 := (k1 14 (by decide)).trans e14
  replace e15 := (k1 15 (by decide)).trans e15
  replace e16 := (k1 16 (by decide)).trans e16
  replace e17 := (k1 17 (by decide)).trans e17
  replace e20 := (k1 20 (by decide)).trans e20
  replace e22 := (k1 22 (by decide)).trans e22
  have e23 := n1
  clear s1 f1 n1 k1
  refine wpTake_stepE ⟨some 24, Op.indexAddr 22 (Operand.tmp 22) (Operand.tmp 23), 0, "", #[], none⟩ 24 (.pointer (some ⟨g, i, none⟩)) HR.out.o10 rfl (by rw [hsz]; decide) (wanted_none rfl) (fun z hS => rv_10 g n c i j xi xj hi hj _ z (fun _ => rfl) e22 e23 hS) ?_
  intro a10 ha10 s1 f1 n1 k1
  replace hsz := s1.trans hsz
  replace hdf := f1.trans hdf
  replace e14 := (k1 14 (by decide)).trans e14
  replace e15 := (k1 15 (by decide)).trans e15
  replace e16 := (k1 16 (by decide)).trans e16
  replace e17 := (k1 17 (by decide)).trans e17
  replace e20 := (k1 20 (by decide)).trans e20
  have e24 := n1
  clear s1 f1 n1 k1
  refine wpTake_nil ?_
  refine wpAnyH_two ⟨some 21, Op.load 3 (Operand.tmp 20), 3, "", #[], none⟩ ⟨some 25, Op.load 3 (Operand.tmp 24), 3, "", #[], none⟩ HR.out.f2 HR.out.o7 HR.out.o11 rfl rfl (fun Ka hKa => ?_) (fun Ka hKa => ?_)
  · refine wp_value (rv_l7 g j xj _ _ e20 hcj) (hKa.out _ _ (trivial) ?_)
    clear hKa Ka
    show wpAnyH _ _ _ _ _ _ _ (Act.put a10 (some 21) (.int .i64 xj)) _
    obtain ⟨s1, f1, n1, k1⟩ := act_put a10 21 (.int .i64 xj) (show 21 < _ by rw [hsz]; decide)
    obtain ⟨a11, ha11⟩ : ∃ x, x = Act.put a10 (some 21) (.int .i64 xj) := ⟨_, rfl⟩
    rw [← ha11] at s1 f1 n1 k1 ⊢
    replace hsz := s1.trans hsz
    replace hdf := f1.trans hdf
    replace e14 := (k1 14 (by decide)).trans e14
    replace e15 := (k1 15 (by decide)).trans e15
    replace e16 := (k1 16 (by decide)).trans e16
    replace e17 := (k1 17 (by decide)).trans e17
    replace e24 := (k1 24 (by decide)).trans e24
    have e21 := n1
    clear s1 f1 n1 k1
    refine wpAnyH_run ⟨some 25, Op.load 3 (Operand.tmp 24), 3, "", #[], none⟩ _ (.int .i64 xi) _ HR.out.f3 HR.out.o11 rfl rfl (rv_l11 g i xi _ _ e24 hci) (trivial) ?_
    obtain ⟨s1, f1, n1, k1⟩ := act_put a11 25 (.int .i64 xi) (show 25 < _ by rw [hsz]; decide)
    obtain ⟨a12, ha12⟩ : ∃ x, x = Act.put a11 (some 25) (.int .i64 xi) := ⟨_, rfl⟩
    rw [← ha12] at s1 f1 n1 k1 ⊢
    replace hsz := s1.trans hsz
    replace hdf := f1.trans hdf
    replace e14 := (k1 14 (by decide)).trans e14
    replace e15 := (k1 15 (by decide)).trans e15
    replace e16 := (k1 16 (by decide)).trans e16
    replace e17 := (k1 17 (by decide)).trans e17
    replace e21 := (k1 21 (by decide)).trans e21
    have e25 := n1
    clear s1 f1 n1 k1
    refine wpAnyH_takes HR.out.sel hQ (trivial) [12] 3 _ _ HR.out.f4 ?_
    refine wpTake_stepE ⟨some 26, Op.indexAddr 22 (Operand.tmp 14) (Operand.tmp 15), 0, "", #[], none⟩ 26 (.pointer (some ⟨g, i, none⟩)) HR.out.o12 rfl (by rw [hsz]; decide) (wanted_none rfl) (fun z hS => rv_12 g n c i j xi xj hi hj _ z (fun _ => rfl) e14 e15 hS) ?_
    intro a13 ha13 s1 f1 n1 k1
    replace hsz := s1.trans hsz
    replace hdf := f1.trans hdf
    replace e16 := (k1 16 (by decide)).trans e16
    replace e17 := (k1 17 (by decide)).trans e17
    replace e21 := (k1 21 (by decide)).trans e21
    replace e25 := (k1 25 (by decide)).trans e25
    have e26 := n1
    clear s1 f1 n1 k1
    refine wpTake_nil ?_
    refine wpAnyH_skip ⟨none, Op.store 3 (Operand.tmp 26) (Operand.tmp 21), 0, "", #[], none⟩ _ HR.out.f5 HR.out.o13 rfl rfl (rv_s13 g i xj _ _ _ e26 e21 hci hfi) (trivial) ?_
    refine wpAnyH_takes HR.out.sel hQ (trivial) [14] 1 _ _ HR.out.f6 ?_
    refine wpTake_stepE ⟨some 27, Op.indexAddr 22 (Operand.tmp 16) (Operand.tmp 17), 0, "", #[], none⟩ 27 (.pointer (some ⟨g, j, none⟩)) HR.out.o14 rfl (by rw [hsz]; decide) (wanted_none rfl) (fun z hS => rv_14 g n c i j xi xj hi hj _ z (fun _ => rfl) e16 e17 hS) ?_
    intro a14 ha14 s1 f1 n1 k1
    replace hsz := s1.trans hsz
    replace hdf := f1.trans hdf
    replace e25 := (k1 25 (by decide)).trans e25
    have e27 := n1
    clear s1 f1 n1 k1
    refine wpTake_nil ?_
    refine wpAnyH_skip ⟨none, Op.store 3 (Operand.tmp 27) (Operand.tmp 25), 0, "", #[], none⟩ _ HR.out.f7 HR.out.o15 rfl rfl (rv_s15 g j xi _ _ _ e27 e25 hcj2 hfj2) (trivial) ?_
    refine wpAnyH_done HR.out.f8 ?_ _
    rw [ha14, ha13, ha12, ha11, ha10, ha9, ha8, ha7, ha6, ha5, ha4, ha3, ha2, ha1]
    exact hK1
  · refine wp_value (rv_l11 g i xi _ _ e24 hci) (hKa.out _ _ (trivial) ?_)
    clear hKa Ka
    show wpAnyH _ _ _ _ _ _ _ (Act.put a10 (some 25) (.int .i64 xi)) _
    obtain ⟨s1, f1, n1, k1⟩ := act_put a10 25 (.int .i64 xi) (show 25 < _ by rw [hsz]; decide)
    obtain ⟨a11, ha11⟩ : ∃ x, x = Act.put a10 (some 25) (.int .i64 xi) := ⟨_, rfl⟩
    rw [← ha11] at s1 f1 n1 k1 ⊢
    replace hsz := s1.trans hsz
    replace hdf := f1.trans hdf
    replace e14 := (k1 14 (by decide)).trans e14
    replace e15 := (k1 15 (by decide)).trans e15
    replace e16 := (k1 16 (by decide)).trans e16
    replace e17 := (k1 17 (by decide)).trans e17
    replace e20 := (k1 20 (by decide)).trans e20
    have e25 := n1
    clear s1 f1 n1 k1
    refine wpAnyH_run ⟨some 21, Op.load 3 (Operand.tmp 20), 3, "", #[], none⟩ _ (.int .i64 xj) _ HR.out.f9 HR.out.o7 rfl rfl (rv_l7 g j xj _ _ e20 hcj) (trivial) ?_
    obtain ⟨s1, f1, n1, k1⟩ := act_put a11 21 (.int .i64 xj) (show 21 < _ by rw [hsz]; decide)
    obtain ⟨a12, ha12⟩ : ∃ x, x = Act.put a11 (some 21) (.int .i64 xj) := ⟨_, rfl⟩
    rw [← ha12] at s1 f1 n1 k1 ⊢
    replace hsz := s1.trans hsz
    replace hdf := f1.trans hdf
    replace e14 := (k1 14 (by decide)).trans e14
    replace e15 := (k1 15 (by decide)).trans e15
    replace e16 := (k1 16 (by decide)).trans e16
    replace e17 := (k1 17 (by decide)).trans e17
    replace e25 := (k1 25 (by decide)).trans e25
    have e21 := n1
    clear s1 f1 n1 k1
    refine wpAnyH_takes HR.out.sel hQ (trivial) [12] 3 _ _ HR.out.f10 ?_
    refine wpTake_stepE ⟨some 26, Op.indexAddr 22 (Operand.tmp 14) (Operand.tmp 15), 0, "", #[], none⟩ 26 (.pointer (some ⟨g, i, none⟩)) HR.out.o12 rfl (by rw [hsz]; decide) (wanted_none rfl) (fun z hS => rv_12 g n c i j xi xj hi hj _ z (fun _ => rfl) e14 e15 hS) ?_
    intro a13 ha13 s1 f1 n1 k1
    replace hsz := s1.trans hsz
    replace hdf := f1.trans hdf
    replace e16 := (k1 16 (by decide)).trans e16
    replace e17 := (k1 17 (by decide)).trans e17
    replace e25 := (k1 25 (by decide)).trans e25
    replace e21 := (k1 21 (by decide)).trans e21
    have e26 := n1
    clear s1 f1 n1 k1
    refine wpTake_nil ?_
    refine wpAnyH_skip ⟨none, Op.store 3 (Operand.tmp 26) (Operand.tmp 21), 0, "", #[], none⟩ _ HR.out.f11 HR.out.o13 rfl rfl (rv_s13 g i xj _ _ _ e26 e21 hci hfi) (trivial) ?_
    refine wpAnyH_takes HR.out.sel hQ (trivial) [14] 1 _ _ HR.out.f12 ?_
    refine wpTake_stepE ⟨some 27, Op.indexAddr 22 (Operand.tmp 16) (Operand.tmp 17), 0, "", #[], none⟩ 27 (.pointer (some ⟨g, j, none⟩)) HR.out.o14 rfl (by rw [hsz]; decide) (wanted_none rfl) (fun z hS => rv_14 g n c i j xi xj hi hj _ z (fun _ => rfl) e16 e17 hS) ?_
    intro a14 ha14 s1 f1 n1 k1
    replace hsz := s1.trans hsz
    replace hdf := f1.trans hdf
    replace e25 := (k1 25 (by decide)).trans e25
    have e27 := n1
    clear s1 f1 n1 k1
    refine wpTake_nil ?_
    refine wpAnyH_skip ⟨none, Op.store 3 (Operand.tmp 27) (Operand.tmp 25), 0, "", #[], none⟩ _ HR.out.f13 HR.out.o15 rfl rfl (rv_s15 g j xi _ _ _ e27 e25 hcj2 hfj2) (trivial) ?_
    refine wpAnyH_done HR.out.f14 ?_ _
    rw [ha14, ha13, ha12, ha11, ha10, ha9, ha8, ha7, ha6, ha5, ha4, ha3, ha2, ha1]
    exact hK2

theorem wrap_up (i n : Nat) (h : i ≤ n) (hn : n ≤ 4611686018427387904) : wrap64 ((i : Int) + 1) = ((i + 1 : Nat) : Int) := by unfold wrap64; omega
theorem wrap_dn (i n : Nat) (h : i ≤ n) (hn : n ≤ 4611686018427387904) : wrap64 ((i : Int) - 1) = (i : Int) - 1 := by unfold wrap64; omega
set_option maxRecDepth 100000 in
set_option maxHeartbeats 3200000 in
theorem reverse_own (g n c base : Nat) (l : List Int) (w : World) (hl : l.length = n) (hn : n ≤ 4611686018427387904) (ho : w.ownsRow base 3 1 (.slice (some ⟨g, 0, none⟩) n c) n (l.map encI)) :
    Calls Try.prog 15 #[.slice (some ⟨g, 0, none⟩) n c] w fun e w' => e = .returned (.tuple #[]) ∧ Kp (fun b => b = g) w w' ∧ ∃ l' : List Int, l'.length = n ∧ (∀ z, z ∈ l' ↔ z ∈ l) ∧ w'.ownsRow base 3 1 (.slice (some ⟨g, 0, none⟩) n c) n (l'.map encI) := by
  have HS0 : Hid (Kp (fun b => b = g) w w ∧ ∃ l' : List Int, l'.length = n ∧ (∀ z, z ∈ l' ↔ z ∈ l) ∧ w.ownsRow base 3 1 (.slice (some ⟨g, 0, none⟩) n c) n (l'.map encI)) := ⟨Kp.refl _ _, l, hl, fun _ => Iff.rfl, ho⟩
  have hw1 : wrap64 ((n : Int) - 1) = (n : Int) - 1 := by unfold wrap64; omega
  clear ho hl
  go_enter Try.func15, Try.ntmps15
  go_wp2
  go_loopg [2, 3] n (fun gk iv jv wr => ∃ i : Nat, i ≤ n ∧ gk = n - i ∧ iv = .int .i64 (i : Int) ∧ jv = .int .i64 ((n : Int) - 1 - (i : Int)) ∧ Hid (Kp (fun b => b = g) w wr ∧ ∃ l' : List Int, l'.length = n ∧ (∀ z, z ∈ l' ↔ z ∈ l) ∧ wr.ownsRow base 3 1 (.slice (some ⟨g, 0, none⟩) n c) n (l'.map encI)))
  case atStart => exact ⟨0, Nat.zero_le _, rfl, rfl, by simp, HS0⟩
  case round =>
    obtain ⟨i, hi, rfl, rfl, rfl, HS⟩ := hrel
    by_cases hlt : (i : Int) < (n : Int) - 1 - (i : Int)
    · obtain ⟨j, hj⟩ : ∃ j : Nat, j = n - 1 - i := ⟨_, rfl⟩
      have hji : (n : Int) - 1 - (i : Int) = (j : Int) := by omega
      rw [hji] at hlt ⊢
      have HIJ : Hid (i < n ∧ j = n - 1 - i ∧ i + 1 ≤ n) := by
        have h7 : i < n := by omega
        exact ⟨h7, hj, h7⟩
      have u1 : wrap64 ((i : Int) + 1) = ((i + 1 : Nat) : Int) := wrap_up i n hi hn
      have u2 : wrap64 ((j : Int) - 1) = (j : Int) - 1 := wrap_dn j n (by omega) hn
      obtain ⟨kw, l', hll, hmem, hown⟩ := HS.out
      have hi' : i < n := by omega
      have hj' : j < n := by omega
      have kd : Kp (fun _ => False) wr wr.drew := (Kp.refl _ _).drew
      have hown' := ownsRow_keep hown kd (fun _ _ => id)
      have cell : ∀ k, (h : k < l'.length) → wr.drew.cell? ⟨g, k, none⟩ = some (.int .i64 l'[k]) := fun k h => by
        have := hown'.cells (g := g) rfl k (encI l'[k]) (by rw [List.getElem?_map, List.getElem?_eq_getElem h]; rfl)
        rw [Addr.add_mid, Nat.zero_add] at this
        exact this
      have ci := cell i (by omega)
      have cj := cell j (by omega)
      have hs2 := set2_mem (l := l') (i := i) (j := j) (by omega) (by omega)
      have hlen : (l'.map encI).length = n := by rw [List.length_map, hll]
      obtain ⟨xi, hxi⟩ : ∃ x, x = l'[i] := ⟨_, rfl⟩
      obtain ⟨xj, hxj⟩ : ∃ x, x = l'[j] := ⟨_, rfl⟩
      rw [← hxi] at ci hs2
      rw [← hxj] at cj hs2
      have fi : wr.drew.frozen? ⟨g, i, none⟩ = false := own_frz hown' i
      have o1 := own_set hown' i (.int .i64 xj) (by omega)
      have hne : (⟨g, i, none⟩ : Addr) ≠ ⟨g, j, none⟩ := fun e => by injection e with _ e; omega
      have cj2 : (wr.drew.setCell ⟨g, i, none⟩ (.int .i64 xj)).cell? ⟨g, j, none⟩ = some (.int .i64 xj) := by rw [World.cell?_setCell_other _ _ _ _ hne]; exact cj
      have fj2 : (wr.drew.setCell ⟨g, i, none⟩ (.int .i64 xj)).frozen? ⟨g, j, none⟩ = false := own_frz o1 j
      have o2 := own_set o1 j (.int .i64 xi) (by rw [List.length_set]; omega)
      have kz : Kp (fun b => b = g) w ((wr.drew.setCell ⟨g, i, none⟩ (.int .i64 xj)).setCell ⟨g, j, none⟩ (.int .i64 xi)) := by
        have ka : Kp (fun b => b = g) w wr.drew := kw.drew
        have kb : Kp (fun b => b = g) w (wr.drew.setCell ⟨g, i, none⟩ (.int .i64 xj)) := ka.setCell (fun _ => rfl) _
        exact kb.setCell (fun _ => rfl) _
      have hm2 : ∀ z, z ∈ (l'.set i xj).set j xi ↔ z ∈ l := fun z => (hs2 z).trans (hmem z)
      have hl2 : ((l'.set i xj).set j xi).length = n := by rw [List.length_set, List.length_set, hll]
      have e3 : (((l'.set i xj).set j xi).map encI) = ((l'.map encI).set i (encI xj)).set j (encI xi) := by rw [List.map_set, List.map_set]
      rw [show (((l'.map encI).set i (.int .i64 xj)).set j (.int .i64 xi)) = (((l'.set i xj).set j xi).map encI) from e3.symm] at o2
      obtain ⟨l2, hl2e⟩ : ∃ l2, l2 = (l'.set i xj).set j xi := ⟨_, rfl⟩
      rw [← hl2e] at o2 hl2 hm2
      have HN : Hid (Kp (fun b => b = g) w ((wr.drew.setCell ⟨g, i, none⟩ (.int .i64 xj)).setCell ⟨g, j, none⟩ (.int .i64 xi)) ∧ ∃ l' : List Int, l'.length = n ∧ (∀ z, z ∈ l' ↔ z ∈ l) ∧ ((wr.drew.setCell ⟨g, i, none⟩ (.int .i64 xj)).setCell ⟨g, j, none⟩ (.int .i64 xi)).ownsRow base 3 1 (.slice (some ⟨g, 0, none⟩) n c) n (l'.map encI)) := ⟨kz, l2, hl2, hm2, o2⟩
      clear kw hmem hown hown' cell hs2 hlen hxi hxj o1 o2 hne HS hll kd hji kz hm2 hl2 e3 hl2e hj
      go_wp2
      refine rv_region ⟨by kernel_rfl, by kernel_rfl, by kernel_rfl, by kernel_rfl, by kernel_rfl, by kernel_rfl, by kernel_rfl, by kernel_rfl, by kernel_rfl, by kernel_rfl, by kernel_rfl, by kernel_rfl, by kernel_rfl, by kernel_rfl, by kernel_rfl, by kernel_rfl, by kernel_rfl, by kernel_rfl, by kernel_rfl, by kernel_rfl, by kernel_rfl, by kernel_rfl, by kernel_rfl, by kernel_rfl, by kernel_rfl, by kernel_rfl, by kernel_rfl, by kernel_rfl, by kernel_rfl, by kernel_rfl, by kernel_rfl, by kernel_rfl⟩ g n c i j xi xj hi' hj' (fun d _ _ _ _ h => by cases d <;> exact h) (by rfl) (by rfl) (by rfl) (by rfl) ci cj fi cj2 fj2 ?_ ?_
      all_goals
        clear ci cj fi cj2 fj2
        obtain ⟨zz, hzz⟩ : ∃ x, x = ((wr.drew.setCell ⟨g, i, none⟩ (.int .i64 xj)).setCell ⟨g, j, none⟩ (.int .i64 xi)) := ⟨_, rfl⟩
        rw [← hzz] at HN ⊢
        clear hzz
        simp only [Act.put, List.setIfInBounds_toArray, List.set_cons_succ, List.set_cons_zero]
        go_wp2
        go_roundg (n - (i + 1))
        case rel => exact ⟨i + 1, HIJ.out.2.2, rfl, by first | rfl | rw [u1], by
          have := HIJ.out
          have e : (n : Int) - 1 - ((i + 1 : Nat) : Int) = (j : Int) - 1 := by omega
          rw [e] <;> (first | rfl | rw [u2] | rw [HIJ.out.2.1]), HN⟩
        case measure => have := HIJ.out; omega
    · go_wp2
      refine bodyPost_end (results_none rfl _ _ _) rfl ?_
      exact ⟨rfl, HS.out⟩
end Go.Proofs.Ytneobpdbfbcnmaa
