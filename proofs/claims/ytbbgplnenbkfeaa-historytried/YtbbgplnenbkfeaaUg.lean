/- The drawn region of byKey (laid by scripts/mkug.py). -/
import Derived.Test.YtbbgplnenbkfeaaUf
namespace Go.Proofs.Ytbbgplnenbkfeaa
set_option linter.unusedVariables false
set_option linter.unusedSimpArgs false
open Go.RowKit Go.Deep Go.Maps

theorem bk_ld (go j : Nat) (v : Value) (ev : Operand → Value) (z : World) (e40 : ev (.tmp 40) = .pointer (some ⟨go, j, none⟩)) (c : z.cell? ⟨go, j, none⟩ = some v) : (execOp ev ⟨some 41, Op.load 41 (Operand.tmp 40), 41, "", #[], none⟩).run Try.prog z = .ok (.value v) z := by go_simp
theorem bk_bs (c : Hc) (ev : Operand → Value) (z : World) (e42 : ev (.tmp 42) = .agg #[.bool c.e.ans, .int .i64 c.e.id, .int .i64 c.e.kind, .string c.e.key, c.e.b.v, .int .i64 c.fr, .int .i64 c.to, .bool c.told, .int .i64 c.says, c.g.v]) : (execOp ev ⟨some 43, Op.buildSlice 41 1 #[(0, Operand.tmp 42)], 41, "", #[], none⟩).run Try.prog z = .ok (.value (.slice (some ⟨z.heap.size, 0, none⟩) 1 1)) (z.alloc (.cells #[.bool c.e.ans, .int .i64 c.e.id, .int .i64 c.e.kind, .string c.e.key, c.e.b.v, .int .i64 c.fr, .int .i64 c.to, .bool c.told, .int .i64 c.says, c.g.v] 65)) := by go_simp
theorem bk_ap (v x v2 : Value) (ev : Operand → Value) (z z2 : World) (e41 : ev (.tmp 41) = v) (e43 : ev (.tmp 43) = x) (hr : (Builtin.append_ #[41, 41] 41 #[v, x]).run Try.prog z = .ok v2 z2) : (execOp ev ⟨some 44, Op.call { callee := Callee.builtin Builtin.append, args := #[Operand.tmp 41, Operand.tmp 43], argTypes := #[41, 41] }, 41, "", #[], none⟩).run Try.prog z = .ok (.value v2) z2 := by
  unfold execOp
  simp only [resolve, invoke, builtin, Sem.run_bind, Sem.run_pure, Result.andThen_ok, List.map_toArray, List.map_cons, List.map_nil, e41, e43, hr]
theorem bk_st (go j g n2 cap2 : Nat) (v : Value) (ev : Operand → Value) (z : World) (e45 : ev (.tmp 45) = .pointer (some ⟨go, j, none⟩)) (e44 : ev (.tmp 44) = .slice (some ⟨g, 0, none⟩) n2 cap2) (hc : z.cell? ⟨go, j, none⟩ = some v) (hf : z.frozen? ⟨go, j, none⟩ = false) : (execOp ev ⟨none, Op.store 41 (Operand.tmp 45) (Operand.tmp 44), 0, "", #[], none⟩).run Try.prog z = .ok .skip (z.setCell ⟨go, j, none⟩ (.slice (some ⟨g, 0, none⟩) n2 cap2)) := by go_simp
theorem bk_0 (cx go no co j : Nat) (hj : (j : Int) < (no : Int)) (v : Value) (c : Hc) (g n2 cap2 : Nat) (ev : Operand → Value) (z : World) (ec : ∀ c, ev (.const c) = c) (e3 : ev (.tmp 3) = .slice (some ⟨go, 0, none⟩) no co) (hS : (loadVar 65 ⟨cx, 0, none⟩).run Try.prog z = .ok (.agg #[.bool c.e.ans, .int .i64 c.e.id, .int .i64 c.e.kind, .string c.e.key, c.e.b.v, .int .i64 c.fr, .int .i64 c.to, .bool c.told, .int .i64 c.says, c.g.v]) z) : (execOp ev ⟨some 36, Op.move (Operand.tmp 3), 47, "", #[], none⟩).run Try.prog z = .ok (.value (.slice (some ⟨go, 0, none⟩) no co)) z := by
  obtain sl := hS
  go_simp
theorem bk_1 (cx go no co j : Nat) (hj : (j : Int) < (no : Int)) (v : Value) (c : Hc) (g n2 cap2 : Nat) (ev : Operand → Value) (z : World) (ec : ∀ c, ev (.const c) = c) (e7 : ev (.tmp 7) = .int .i64 (j : Int)) (hS : (loadVar 65 ⟨cx, 0, none⟩).run Try.prog z = .ok (.agg #[.bool c.e.ans, .int .i64 c.e.id, .int .i64 c.e.kind, .string c.e.key, c.e.b.v, .int .i64 c.fr, .int .i64 c.to, .bool c.told, .int .i64 c.says, c.g.v]) z) : (execOp ev ⟨some 37, Op.move (Operand.tmp 7), 3, "", #[], none⟩).run Try.prog z = .ok (.value (.int .i64 (j : Int))) z := by
  obtain sl := hS
  go_simp
theorem bk_2 (cx go no co j : Nat) (hj : (j : Int) < (no : Int)) (v : Value) (c : Hc) (g n2 cap2 : Nat) (ev : Operand → Value) (z : World) (ec : ∀ c, ev (.const c) = c) (e3 : ev (.tmp 3) = .slice (some ⟨go, 0, none⟩) no co) (hS : (loadVar 65 ⟨cx, 0, none⟩).run Try.prog z = .ok (.agg #[.bool c.e.ans, .int .i64 c.e.id, .int .i64 c.e.kind, .string c.e.key, c.e.b.v, .int .i64 c.fr, .int .i64 c.to, .bool c.told, .int .i64 c.says, c.g.v]) z) : (execOp ev ⟨some 38, Op.move (Operand.tmp 3), 47, "", #[], none⟩).run Try.prog z = .ok (.value (.slice (some ⟨go, 0, none⟩) no co)) z := by
  obtain sl := hS
  go_simp
theorem bk_3 (cx go no co j : Nat) (hj : (j : Int) < (no : Int)) (v : Value) (c : Hc) (g n2 cap2 : Nat) (ev : Operand → Value) (z : World) (ec : ∀ c, ev (.const c) = c) (e7 : ev (.tmp 7) = .int .i64 (j : Int)) (hS : (loadVar 65 ⟨cx, 0, none⟩).run Try.prog z = .ok (.agg #[.bool c.e.ans, .int .i64 c.e.id, .int .i64 c.e.kind, .string c.e.key, c.e.b.v, .int .i64 c.fr, .int .i64 c.to, .bool c.told, .int .i64 c.says, c.g.v]) z) : (execOp ev ⟨some 39, Op.move (Operand.tmp 7), 3, "", #[], none⟩).run Try.prog z = .ok (.value (.int .i64 (j : Int))) z := by
  obtain sl := hS
  go_simp
theorem bk_4 (cx go no co j : Nat) (hj : (j : Int) < (no : Int)) (v : Value) (c : Hc) (g n2 cap2 : Nat) (ev : Operand → Value) (z : World) (ec : ∀ c, ev (.const c) = c) (e38 : ev (.tmp 38) = .slice (some ⟨go, 0, none⟩) no co) (e39 : ev (.tmp 39) = .int .i64 (j : Int)) (hS : (loadVar 65 ⟨cx, 0, none⟩).run Try.prog z = .ok (.agg #[.bool c.e.ans, .int .i64 c.e.id, .int .i64 c.e.kind, .string c.e.key, c.e.b.v, .int .i64 c.fr, .int .i64 c.to, .bool c.told, .int .i64 c.says, c.g.v]) z) : (execOp ev ⟨some 40, Op.indexAddr 47 (Operand.tmp 38) (Operand.tmp 39), 0, "", #[], none⟩).run Try.prog z = .ok (.value (.pointer (some ⟨go, j, none⟩))) z := by
  obtain sl := hS
  go_simp
theorem bk_6 (cx go no co j : Nat) (hj : (j : Int) < (no : Int)) (v : Value) (c : Hc) (g n2 cap2 : Nat) (ev : Operand → Value) (z : World) (ec : ∀ c, ev (.const c) = c) (e6 : ev (.tmp 6) = .pointer (some ⟨cx, 0, none⟩)) (hS : (loadVar 65 ⟨cx, 0, none⟩).run Try.prog z = .ok (.agg #[.bool c.e.ans, .int .i64 c.e.id, .int .i64 c.e.kind, .string c.e.key, c.e.b.v, .int .i64 c.fr, .int .i64 c.to, .bool c.told, .int .i64 c.says, c.g.v]) z) : (execOp ev ⟨some 42, Op.load 65 (Operand.tmp 6), 65, "", #[], none⟩).run Try.prog z = .ok (.value (.agg #[.bool c.e.ans, .int .i64 c.e.id, .int .i64 c.e.kind, .string c.e.key, c.e.b.v, .int .i64 c.fr, .int .i64 c.to, .bool c.told, .int .i64 c.says, c.g.v])) z := by
  exact exec_ldr e6 hS
theorem bk_9 (cx go no co j : Nat) (hj : (j : Int) < (no : Int)) (v : Value) (c : Hc) (g n2 cap2 : Nat) (ev : Operand → Value) (z : World) (ec : ∀ c, ev (.const c) = c) (e36 : ev (.tmp 36) = .slice (some ⟨go, 0, none⟩) no co) (e37 : ev (.tmp 37) = .int .i64 (j : Int)) (hS : (loadVar 65 ⟨cx, 0, none⟩).run Try.prog z = .ok (.agg #[.bool c.e.ans, .int .i64 c.e.id, .int .i64 c.e.kind, .string c.e.key, c.e.b.v, .int .i64 c.fr, .int .i64 c.to, .bool c.told, .int .i64 c.says, c.g.v]) z) : (execOp ev ⟨some 45, Op.indexAddr 47 (Operand.tmp 36) (Operand.tmp 37), 0, "", #[], none⟩).run Try.prog z = .ok (.value (.pointer (some ⟨go, j, none⟩))) z := by
  obtain sl := hS
  go_simp
structure bkR (ops : Array Oper) : Prop where
  size : ops.size = 11
  sel : Region.noSelect ops = true
  o0 : (ops[0]?).map bare = some ⟨some 36, Op.move (Operand.tmp 3), 47, "", #[], none⟩
  o1 : (ops[1]?).map bare = some ⟨some 37, Op.move (Operand.tmp 7), 3, "", #[], none⟩
  o2 : (ops[2]?).map bare = some ⟨some 38, Op.move (Operand.tmp 3), 47, "", #[], none⟩
  o3 : (ops[3]?).map bare = some ⟨some 39, Op.move (Operand.tmp 7), 3, "", #[], none⟩
  o4 : (ops[4]?).map bare = some ⟨some 40, Op.indexAddr 47 (Operand.tmp 38) (Operand.tmp 39), 0, "", #[], none⟩
  o5 : (ops[5]?).map bare = some ⟨some 41, Op.load 41 (Operand.tmp 40), 41, "", #[], none⟩
  o6 : (ops[6]?).map bare = some ⟨some 42, Op.load 65 (Operand.tmp 6), 65, "", #[], none⟩
  o7 : (ops[7]?).map bare = some ⟨some 43, Op.buildSlice 41 1 #[(0, Operand.tmp 42)], 41, "", #[], none⟩
  o8 : (ops[8]?).map bare = some ⟨some 44, Op.call { callee := Callee.builtin Builtin.append, args := #[Operand.tmp 41, Operand.tmp 43], argTypes := #[41, 41] }, 41, "", #[], none⟩
  o9 : (ops[9]?).map bare = some ⟨some 45, Op.indexAddr 47 (Operand.tmp 36) (Operand.tmp 37), 0, "", #[], none⟩
  o10 : (ops[10]?).map bare = some ⟨none, Op.store 41 (Operand.tmp 45) (Operand.tmp 44), 0, "", #[], none⟩
  f1 : takeB .any ops [0, 1, 2, 3, 4, 6] (Array.replicate 11 false) = true
  f2 : Region.ready .any ops (mark [0, 1, 2, 3, 4, 6] (Array.replicate 11 false)) = [5, 7]
  f3 : Region.ready .any ops ((mark [0, 1, 2, 3, 4, 6] (Array.replicate 11 false)).setIfInBounds 5 true) = [7]
  f4 : Region.ready .any ops (((mark [0, 1, 2, 3, 4, 6] (Array.replicate 11 false)).setIfInBounds 5 true).setIfInBounds 7 true) = [8]
  f5 : takeB .any ops [9] ((((mark [0, 1, 2, 3, 4, 6] (Array.replicate 11 false)).setIfInBounds 5 true).setIfInBounds 7 true).setIfInBounds 8 true) = true
  f6 : Region.ready .any ops (mark [9] ((((mark [0, 1, 2, 3, 4, 6] (Array.replicate 11 false)).setIfInBounds 5 true).setIfInBounds 7 true).setIfInBounds 8 true)) = [10]
  f7 : Region.ready .any ops ((mark [9] ((((mark [0, 1, 2, 3, 4, 6] (Array.replicate 11 false)).setIfInBounds 5 true).setIfInBounds 7 true).setIfInBounds 8 true)).setIfInBounds 10 true) = []
  f8 : Region.ready .any ops ((mark [0, 1, 2, 3, 4, 6] (Array.replicate 11 false)).setIfInBounds 7 true) = [5]
  f9 : Region.ready .any ops (((mark [0, 1, 2, 3, 4, 6] (Array.replicate 11 false)).setIfInBounds 7 true).setIfInBounds 5 true) = [8]
  f10 : takeB .any ops [9] ((((mark [0, 1, 2, 3, 4, 6] (Array.replicate 11 false)).setIfInBounds 7 true).setIfInBounds 5 true).setIfInBounds 8 true) = true
  f11 : Region.ready .any ops (mark [9] ((((mark [0, 1, 2, 3, 4, 6] (Array.replicate 11 false)).setIfInBounds 7 true).setIfInBounds 5 true).setIfInBounds 8 true)) = [10]
  f12 : Region.ready .any ops ((mark [9] ((((mark [0, 1, 2, 3, 4, 6] (Array.replicate 11 false)).setIfInBounds 7 true).setIfInBounds 5 true).setIfInBounds 8 true)).setIfInBounds 10 true) = []

set_option maxRecDepth 100000 in
set_option maxHeartbeats 3200000 in
theorem bk_region {ops : Array Oper} {id : Nat} {Q : Exit → Act → World → Prop} {a : Act} {y : World} (R : bkR ops) (cx go no co j : Nat) (hj : (j : Int) < (no : Int)) (v : Value) (c : Hc) (g n2 cap2 : Nat)
    (hQ : ∀ d v c a w, Q (.panic c) (a.put d v) w → Q (.panic c) a w) (hsz : a.tmps.size = 48) (e3 : a.eval (.tmp 3) = .slice (some ⟨go, 0, none⟩) no co) (e6 : a.eval (.tmp 6) = .pointer (some ⟨cx, 0, none⟩)) (e7 : a.eval (.tmp 7) = .int .i64 (j : Int)) (w2 : World) (hS0 : (loadVar 65 ⟨cx, 0, none⟩).run Try.prog y.drew = .ok (.agg #[.bool c.e.ans, .int .i64 c.e.id, .int .i64 c.e.kind, .string c.e.key, c.e.b.v, .int .i64 c.fr, .int .i64 c.to, .bool c.told, .int .i64 c.says, c.g.v]) y.drew) (hC : y.drew.cell? ⟨go, j, none⟩ = some v) (hS1 : (loadVar 65 ⟨cx, 0, none⟩).run Try.prog (y.drew.alloc (.cells #[.bool c.e.ans, .int .i64 c.e.id, .int .i64 c.e.kind, .string c.e.key, c.e.b.v, .int .i64 c.fr, .int .i64 c.to, .bool c.told, .int .i64 c.says, c.g.v] 65)) = .ok (.agg #[.bool c.e.ans, .int .i64 c.e.id, .int .i64 c.e.kind, .string c.e.key, c.e.b.v, .int .i64 c.fr, .int .i64 c.to, .bool c.told, .int .i64 c.says, c.g.v]) (y.drew.alloc (.cells #[.bool c.e.ans, .int .i64 c.e.id, .int .i64 c.e.kind, .string c.e.key, c.e.b.v, .int .i64 c.fr, .int .i64 c.to, .bool c.told, .int .i64 c.says, c.g.v] 65))) (hC1 : (y.drew.alloc (.cells #[.bool c.e.ans, .int .i64 c.e.id, .int .i64 c.e.kind, .string c.e.key, c.e.b.v, .int .i64 c.fr, .int .i64 c.to, .bool c.told, .int .i64 c.says, c.g.v] 65)).cell? ⟨go, j, none⟩ = some v) (hS2 : (loadVar 65 ⟨cx, 0, none⟩).run Try.prog w2 = .ok (.agg #[.bool c.e.ans, .int .i64 c.e.id, .int .i64 c.e.kind, .string c.e.key, c.e.b.v, .int .i64 c.fr, .int .i64 c.to, .bool c.told, .int .i64 c.says, c.g.v]) w2) (hc2 : w2.cell? ⟨go, j, none⟩ = some v) (hf2 : w2.frozen? ⟨go, j, none⟩ = false) (hS3 : (loadVar 65 ⟨cx, 0, none⟩).run Try.prog (w2.setCell ⟨go, j, none⟩ (.slice (some ⟨g, 0, none⟩) n2 cap2)) = .ok (.agg #[.bool c.e.ans, .int .i64 c.e.id, .int .i64 c.e.kind, .string c.e.key, c.e.b.v, .int .i64 c.fr, .int .i64 c.to, .bool c.told, .int .i64 c.says, c.g.v]) (w2.setCell ⟨go, j, none⟩ (.slice (some ⟨g, 0, none⟩) n2 cap2))) (hap : (Builtin.append_ #[41, 41] 41 #[v, .slice (some ⟨y.drew.heap.size, 0, none⟩) 1 1]).run Try.prog (y.drew.alloc (.cells #[.bool c.e.ans, .int .i64 c.e.id, .int .i64 c.e.kind, .string c.e.key, c.e.b.v, .int .i64 c.fr, .int .i64 c.to, .bool c.told, .int .i64 c.says, c.g.v] 65)) = .ok (.slice (some ⟨g, 0, none⟩) n2 cap2) w2)
    (hK1 :  Q .normal ((((((((((a.put (some 36) (.slice (some ⟨go, 0, none⟩) no co)).put (some 37) (.int .i64 (j : Int))).put (some 38) (.slice (some ⟨go, 0, none⟩) no co)).put (some 39) (.int .i64 (j : Int))).put (some 40) (.pointer (some ⟨go, j, none⟩))).put (some 42) (.agg #[.bool c.e.ans, .int .i64 c.e.id, .int .i64 c.e.kind, .string c.e.key, c.e.b.v, .int .i64 c.fr, .int .i64 c.to, .bool c.told, .int .i64 c.says, c.g.v])).put (some 41) (v)).put (some 43) (.slice (some ⟨y.drew.heap.size, 0, none⟩) 1 1)).put (some 44) (.slice (some ⟨g, 0, none⟩) n2 cap2)).put (some 45) (.pointer (some ⟨go, j, none⟩))) (w2.setCell ⟨go, j, none⟩ (.slice (some ⟨g, 0, none⟩) n2 cap2))) (hK2 :  Q .normal ((((((((((a.put (some 36) (.slice (some ⟨go, 0, none⟩) no co)).put (some 37) (.int .i64 (j : Int))).put (some 38) (.slice (some ⟨go, 0, none⟩) no co)).put (some 39) (.int .i64 (j : Int))).put (some 40) (.pointer (some ⟨go, j, none⟩))).put (some 42) (.agg #[.bool c.e.ans, .int .i64 c.e.id, .int .i64 c.e.kind, .string c.e.key, c.e.b.v, .int .i64 c.fr, .int .i64 c.to, .bool c.told, .int .i64 c.says, c.g.v])).put (some 43) (.slice (some ⟨y.drew.heap.size, 0, none⟩) 1 1)).put (some 41) (v)).put (some 44) (.slice (some ⟨g, 0, none⟩) n2 cap2)).put (some 45) (.pointer (some ⟨go, j, none⟩))) (w2.setCell ⟨go, j, none⟩ (.slice (some ⟨g, 0, none⟩) n2 cap2))) : (Code.region id ops true).wp Try.prog Q a y := by
  have HR : Hid (bkR ops) := R
  have hdf : a.defers = a.defers := rfl
  refine wp_region_held_drew (S := (fun z : World => (loadVar 65 ⟨cx, 0, none⟩).run Try.prog z = .ok (.agg #[.bool c.e.ans, .int .i64 c.e.id, .int .i64 c.e.kind, .string c.e.key, c.e.b.v, .int .i64 c.fr, .int .i64 c.to, .bool c.told, .int .i64 c.says, c.g.v]) z)) (by kernel_rfl) (hS0) (fun hHeld => ?_)
  rw [R.size]
  clear R
  refine wpAnyH_takes HR.out.sel hQ (hHeld) [0, 1, 2, 3, 4, 6] 5 _ _ HR.out.f1 ?_
  refine wpTake_stepE ⟨some 36, Op.move (Operand.tmp 3), 47, "", #[], none⟩ 36 (.slice (some ⟨go, 0, none⟩) no co) HR.out.o0 rfl (by rw [hsz]; decide) (wanted_none rfl) (fun z hS => bk_0 cx go no co j hj v c g n2 cap2 _ z (fun _ => rfl) e3 hS) ?_
  intro a1 ha1 s1 f1 n1 k1
  replace hsz := s1.trans hsz
  replace hdf := f1.trans hdf
  replace e3 := (k1 3 (by decide)).trans e3
  replace e6 := (k1 6 (by decide)).trans e6
  replace e7 := (k1 7 (by decide)).trans e7
  have e36 := n1
  clear s1 f1 n1 k1
  refine wpTake_stepE ⟨some 37, Op.move (Operand.tmp 7), 3, "", #[], none⟩ 37 (.int .i64 (j : Int)) HR.out.o1 rfl (by rw [hsz]; decide) (wanted_none rfl) (fun z hS => bk_1 cx go no co j hj v c g n2 cap2 _ z (fun _ => rfl) e7 hS) ?_
  intro a2 ha2 s1 f1 n1 k1
  replace hsz := s1.trans hsz
  replace hdf := f1.trans hdf
  replace e3 := (k1 3 (by decide)).trans e3
  replace e6 := (k1 6 (by decide)).trans e6
  replace e7 := (k1 7 (by decide)).trans e7
  replace e36 := (k1 36 (by decide)).trans e36
  have e37 := n1
  clear s1 f1 n1 k1
  refine wpTake_stepE ⟨some 38, Op.move (Operand.tmp 3), 47, "", #[], none⟩ 38 (.slice (some ⟨go, 0, none⟩) no co) HR.out.o2 rfl (by rw [hsz]; decide) (wanted_none rfl) (fun z hS => bk_2 cx go no co j hj v c g n2 cap2 _ z (fun _ => rfl) e3 hS) ?_
  intro a3 ha3 s1 f1 n1 k1
  replace hsz := s1.trans hsz
  replace hdf := f1.trans hdf
  replace e6 := (k1 6 (by decide)).trans e6
  replace e7 := (k1 7 (by decide)).trans e7
  replace e36 := (k1 36 (by decide)).trans e36
  replace e37 := (k1 37 (by decide)).trans e37
  have e38 := n1
  clear s1 f1 n1 k1
  refine wpTake_stepE ⟨some 39, Op.move (Operand.tmp 7), 3, "", #[], none⟩ 39 (.int .i64 (j : Int)) HR.out.o3 rfl (by rw [hsz]; decide) (wanted_none rfl) (fun z hS => bk_3 cx go no co j hj v c g n2 cap2 _ z (fun _ => rfl) e7 hS) ?_
  intro a4 ha4 s1 f1 n1 k1
  replace hsz := s1.trans hsz
  replace hdf := f1.trans hdf
  replace e6 := (k1 6 (by decide)).trans e6
  replace e36 := (k1 36 (by decide)).trans e36
  replace e37 := (k1 37 (by decide)).trans e37
  replace e38 := (k1 38 (by decide)).trans e38
  have e39 := n1
  clear s1 f1 n1 k1
  refine wpTake_stepE ⟨some 40, Op.indexAddr 47 (Operand.tmp 38) (Operand.tmp 39), 0, "", #[], none⟩ 40 (.pointer (some ⟨go, j, none⟩)) HR.out.o4 rfl (by rw [hsz]; decide) (wanted_none rfl) (fun z hS => bk_4 cx go no co j hj v c g n2 cap2 _ z (fun _ => rfl) e38 e39 hS) ?_
  intro a5 ha5 s1 f1 n1 k1
  replace hsz := s1.trans hsz
  replace hdf := f1.trans hdf
  replace e6 := (k1 6 (by decide)).trans e6
  replace e36 := (k1 36 (by decide)).trans e36
  replace e37 := (k1 37 (by decide)).trans e37
  have e40 := n1
  clear s1 f1 n1 k1
  refine wpTake_stepE ⟨some 42, Op.load 65 (Operand.tmp 6), 65, "", #[], none⟩ 42 (.agg #[.bool c.e.ans, .int .i64 c.e.id, .int .i64 c.e.kind, .string c.e.key, c.e.b.v, .int .i64 c.fr, .int .i64 c.to, .bool c.told, .int .i64 c.says, c.g.v]) HR.out.o6 rfl (by rw [hsz]; decide) (wanted_none rfl) (fun z hS => bk_6 cx go no co j hj v c g n2 cap2 _ z (fun _ => rfl) e6 hS) ?_
  intro a6 ha6 s1 f1 n1 k1
  replace hsz := s1.trans hsz
  replace hdf := f1.trans hdf
  replace e36 := (k1 36 (by decide)).trans e36
  replace e37 := (k1 37 (by decide)).trans e37
  replace e40 := (k1 40 (by decide)).trans e40
  have e42 := n1
  clear s1 f1 n1 k1
  refine wpTake_nil ?_
  refine wpAnyH_two ⟨some 41, Op.load 41 (Operand.tmp 40), 41, "", #[], none⟩ ⟨some 43, Op.buildSlice 41 1 #[(0, Operand.tmp 42)], 41, "", #[], none⟩ HR.out.f2 HR.out.o5 HR.out.o7 rfl rfl (fun Ka hKa => ?_) (fun Ka hKa => ?_)
  · refine wp_value (bk_ld go j v _ _ e40 hC) (hKa.out _ _ (hHeld) ?_)
    clear hKa Ka
    show wpAnyH _ _ _ _ _ _ _ (Act.put a6 (some 41) (v)) _
    obtain ⟨s1, f1, n1, k1⟩ := act_put a6 41 (v) (show 41 < _ by rw [hsz]; decide)
    obtain ⟨a7, ha7⟩ : ∃ x, x = Act.put a6 (some 41) (v) := ⟨_, rfl⟩
    rw [← ha7] at s1 f1 n1 k1 ⊢
    replace hsz := s1.trans hsz
    replace hdf := f1.trans hdf
    replace e36 := (k1 36 (by decide)).trans e36
    replace e37 := (k1 37 (by decide)).trans e37
    replace e42 := (k1 42 (by decide)).trans e42
    have e41 := n1
    clear s1 f1 n1 k1
    refine wpAnyH_run ⟨some 43, Op.buildSlice 41 1 #[(0, Operand.tmp 42)], 41, "", #[], none⟩ _ (.slice (some ⟨y.drew.heap.size, 0, none⟩) 1 1) _ HR.out.f3 HR.out.o7 rfl rfl (bk_bs c _ _ e42) (hS1) ?_
    obtain ⟨s1, f1, n1, k1⟩ := act_put a7 43 (.slice (some ⟨y.drew.heap.size, 0, none⟩) 1 1) (show 43 < _ by rw [hsz]; decide)
    obtain ⟨a8, ha8⟩ : ∃ x, x = Act.put a7 (some 43) (.slice (some ⟨y.drew.heap.size, 0, none⟩) 1 1) := ⟨_, rfl⟩
    rw [← ha8] at s1 f1 n1 k1 ⊢
    replace hsz := s1.trans hsz
    replace hdf := f1.trans hdf
    replace e36 := (k1 36 (by decide)).trans e36
    replace e37 := (k1 37 (by decide)).trans e37
    replace e41 := (k1 41 (by decide)).trans e41
    have e43 := n1
    clear s1 f1 n1 k1
    refine wpAnyH_run ⟨some 44, Op.call { callee := Callee.builtin Builtin.append, args := #[Operand.tmp 41, Operand.tmp 43], argTypes := #[41, 41] }, 41, "", #[], none⟩ _ (.slice (some ⟨g, 0, none⟩) n2 cap2) _ HR.out.f4 HR.out.o8 rfl rfl (bk_ap _ _ _ _ _ _ e41 e43 hap) (hS2) ?_
    obtain ⟨s1, f1, n1, k1⟩ := act_put a8 44 (.slice (some ⟨g, 0, none⟩) n2 cap2) (show 44 < _ by rw [hsz]; decide)
    obtain ⟨a9, ha9⟩ : ∃ x, x = Act.put a8 (some 44) (.slice (some ⟨g, 0, none⟩) n2 cap2) := ⟨_, rfl⟩
    rw [← ha9] at s1 f1 n1 k1 ⊢
    replace hsz := s1.trans hsz
    replace hdf := f1.trans hdf
    replace e36 := (k1 36 (by decide)).trans e36
    replace e37 := (k1 37 (by decide)).trans e37
    have e44 := n1
    clear s1 f1 n1 k1
    refine wpAnyH_takes HR.out.sel hQ (hS2) [9] 1 _ _ HR.out.f5 ?_
    refine wpTake_stepE ⟨some 45, Op.indexAddr 47 (Operand.tmp 36) (Operand.tmp 37), 0, "", #[], none⟩ 45 (.pointer (some ⟨go, j, none⟩)) HR.out.o9 rfl (by rw [hsz]; decide) (wanted_none rfl) (fun z hS => bk_9 cx go no co j hj v c g n2 cap2 _ z (fun _ => rfl) e36 e37 hS) ?_
    intro a10 ha10 s1 f1 n1 k1
    replace hsz := s1.trans hsz
    replace hdf := f1.trans hdf
    replace e44 := (k1 44 (by decide)).trans e44
    have e45 := n1
    clear s1 f1 n1 k1
    refine wpTake_nil ?_
    refine wpAnyH_skip ⟨none, Op.store 41 (Operand.tmp 45) (Operand.tmp 44), 0, "", #[], none⟩ _ HR.out.f6 HR.out.o10 rfl rfl (bk_st go j g n2 cap2 v _ _ e45 e44 hc2 hf2) (hS3) ?_
    refine wpAnyH_done HR.out.f7 ?_ _
    rw [ha10, ha9, ha8, ha7, ha6, ha5, ha4, ha3, ha2, ha1]
    exact hK1
  · refine wp_value (bk_bs c _ _ e42) (hKa.out _ _ (hS1) ?_)
    clear hKa Ka
    show wpAnyH _ _ _ _ _ _ _ (Act.put a6 (some 43) (.slice (some ⟨y.drew.heap.size, 0, none⟩) 1 1)) _
    obtain ⟨s1, f1, n1, k1⟩ := act_put a6 43 (.slice (some ⟨y.drew.heap.size, 0, none⟩) 1 1) (show 43 < _ by rw [hsz]; decide)
    obtain ⟨a7, ha7⟩ : ∃ x, x = Act.put a6 (some 43) (.slice (some ⟨y.drew.heap.size, 0, none⟩) 1 1) := ⟨_, rfl⟩
    rw [← ha7] at s1 f1 n1 k1 ⊢
    replace hsz := s1.trans hsz
    replace hdf := f1.trans hdf
    replace e36 := (k1 36 (by decide)).trans e36
    replace e37 := (k1 37 (by decide)).trans e37
    replace e40 := (k1 40 (by decide)).trans e40
    have e43 := n1
    clear s1 f1 n1 k1
    refine wpAnyH_run ⟨some 41, Op.load 41 (Operand.tmp 40), 41, "", #[], none⟩ _ (v) _ HR.out.f8 HR.out.o5 rfl rfl (bk_ld go j v _ _ e40 hC1) (hS1) ?_
    obtain ⟨s1, f1, n1, k1⟩ := act_put a7 41 (v) (show 41 < _ by rw [hsz]; decide)
    obtain ⟨a8, ha8⟩ : ∃ x, x = Act.put a7 (some 41) (v) := ⟨_, rfl⟩
    rw [← ha8] at s1 f1 n1 k1 ⊢
    replace hsz := s1.trans hsz
    replace hdf := f1.trans hdf
    replace e36 := (k1 36 (by decide)).trans e36
    replace e37 := (k1 37 (by decide)).trans e37
    replace e43 := (k1 43 (by decide)).trans e43
    have e41 := n1
    clear s1 f1 n1 k1
    refine wpAnyH_run ⟨some 44, Op.call { callee := Callee.builtin Builtin.append, args := #[Operand.tmp 41, Operand.tmp 43], argTypes := #[41, 41] }, 41, "", #[], none⟩ _ (.slice (some ⟨g, 0, none⟩) n2 cap2) _ HR.out.f9 HR.out.o8 rfl rfl (bk_ap _ _ _ _ _ _ e41 e43 hap) (hS2) ?_
    obtain ⟨s1, f1, n1, k1⟩ := act_put a8 44 (.slice (some ⟨g, 0, none⟩) n2 cap2) (show 44 < _ by rw [hsz]; decide)
    obtain ⟨a9, ha9⟩ : ∃ x, x = Act.put a8 (some 44) (.slice (some ⟨g, 0, none⟩) n2 cap2) := ⟨_, rfl⟩
    rw [← ha9] at s1 f1 n1 k1 ⊢
    replace hsz := s1.trans hsz
    replace hdf := f1.trans hdf
    replace e36 := (k1 36 (by decide)).trans e36
    replace e37 := (k1 37 (by decide)).trans e37
    have e44 := n1
    clear s1 f1 n1 k1
    refine wpAnyH_takes HR.out.sel hQ (hS2) [9] 1 _ _ HR.out.f10 ?_
    refine wpTake_stepE ⟨some 45, Op.indexAddr 47 (Operand.tmp 36) (Operand.tmp 37), 0, "", #[], none⟩ 45 (.pointer (some ⟨go, j, none⟩)) HR.out.o9 rfl (by rw [hsz]; decide) (wanted_none rfl) (fun z hS => bk_9 cx go no co j hj v c g n2 cap2 _ z (fun _ => rfl) e36 e37 hS) ?_
    intro a10 ha10 s1 f1 n1 k1
    replace hsz := s1.trans hsz
    replace hdf := f1.trans hdf
    replace e44 := (k1 44 (by decide)).trans e44
    have e45 := n1
    clear s1 f1 n1 k1
    refine wpTake_nil ?_
    refine wpAnyH_skip ⟨none, Op.store 41 (Operand.tmp 45) (Operand.tmp 44), 0, "", #[], none⟩ _ HR.out.f11 HR.out.o10 rfl rfl (bk_st go j g n2 cap2 v _ _ e45 e44 hc2 hf2) (hS3) ?_
    refine wpAnyH_done HR.out.f12 ?_ _
    rw [ha10, ha9, ha8, ha7, ha6, ha5, ha4, ha3, ha2, ha1]
    exact hK2
-- R: ⟨by kernel_rfl, by kernel_rfl, by kernel_rfl, by kernel_rfl, by kernel_rfl, by kernel_rfl, by kernel_rfl, by kernel_rfl, by kernel_rfl, by kernel_rfl, by kernel_rfl, by kernel_rfl, by kernel_rfl, by kernel_rfl, by kernel_rfl, by kernel_rfl, by kernel_rfl, by kernel_rfl, by kernel_rfl, by kernel_rfl, by kernel_rfl, by kernel_rfl, by kernel_rfl, by kernel_rfl, by kernel_rfl⟩

end Go.Proofs.Ytbbgplnenbkfeaa
