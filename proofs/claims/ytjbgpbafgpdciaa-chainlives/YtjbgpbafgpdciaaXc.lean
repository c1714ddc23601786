/- The document's chain: the region of Learn that lays a new link (laid by scripts/mkxc.py). -/
import Derived.Test.YtjbgpbafgpdciaaXb
import Derived.Test.YtjbgpbafgpdciaaTh
namespace Go.Proofs.Ytjbgpbafgpdciaa
set_option linter.unusedVariables false
set_option linter.unusedSimpArgs false
open Go.RowKit Go.Deep Go.Maps

theorem exec_ldC {ev : Operand → Value} {g : Option (Nat × Bool)} {d : Option Tmp} {ty ty2 : TypeId} {x : Operand} {v : Value} {b : Addr} {z : World} (he : ev x = .pointer (some b)) (hr : (loadVar ty b).run Try.prog z = .ok v z) : (execOp ev ⟨d, Op.load ty x, ty2, "", #[], g⟩).run Try.prog z = .ok (.value v) z := by
  unfold execOp
  simp only [he]
  simp [Instr.loadAt, Instr.sureAddr, hr]
theorem xl_ld (t : Nat) (v : Value) (ev : Operand → Value) (z : World) (e29 : ev (.tmp 29) = .pointer (some ⟨t, 0, none⟩)) (c : z.cell? ⟨t, 0, none⟩ = some v) : (execOp ev ⟨some 30, Op.load 26 (Operand.tmp 29), 26, "", #[], none⟩).run Try.prog z = .ok (.value v) z := by go_simp
theorem xl_bs (s : Int) (d : Cs0) (nn : Nat) (q : Option Addr) (cq : Nat) (ev : Operand → Value) (z : World) (e34 : ev (.tmp 34) = .agg #[.int .i64 s, .int .i64 d.id, .int .i64 d.kind, .string d.key, .int .i64 d.blob, .int .i64 d.other, .int .i64 d.index, .int .i64 d.node, .int .i64 d.size, .int .u32 d.sum, .int .i64 d.k, .int .i64 d.m, .slice q nn cq]) : (execOp ev ⟨some 35, Op.buildSlice 26 1 #[(0, Operand.tmp 34)], 26, "", #[], none⟩).run Try.prog z = .ok (.value (.slice (some ⟨z.heap.size, 0, none⟩) 1 1)) (z.alloc (.cells #[.int .i64 s, .int .i64 d.id, .int .i64 d.kind, .string d.key, .int .i64 d.blob, .int .i64 d.other, .int .i64 d.index, .int .i64 d.node, .int .i64 d.size, .int .u32 d.sum, .int .i64 d.k, .int .i64 d.m, .slice q nn cq] 62)) := by go_simp
theorem xl_ap (v x v2 : Value) (ev : Operand → Value) (z z2 : World) (e30 : ev (.tmp 30) = v) (e35 : ev (.tmp 35) = x) (hr : (Builtin.append_ #[26, 26] 26 #[v, x]).run Try.prog z = .ok v2 z2) : (execOp ev ⟨some 36, Op.call { callee := Callee.builtin Builtin.append, args := #[Operand.tmp 30, Operand.tmp 35], argTypes := #[26, 26] }, 26, "", #[], none⟩).run Try.prog z = .ok (.value v2) z2 := by
  unfold execOp
  simp only [resolve, invoke, builtin, Sem.run_bind, Sem.run_pure, Result.andThen_ok, List.map_toArray, List.map_cons, List.map_nil, e30, e35, hr]
theorem xl_st (t g n cap : Nat) (v : Value) (ev : Operand → Value) (z : World) (e38 : ev (.tmp 38) = .pointer (some ⟨t, 0, none⟩)) (e36 : ev (.tmp 36) = .slice (some ⟨g, 0, none⟩) (n + 1) cap) (hc : z.cell? ⟨t, 0, none⟩ = some v) (hf : z.frozen? ⟨t, 0, none⟩ = false) : (execOp ev ⟨none, Op.store 26 (Operand.tmp 38) (Operand.tmp 36), 0, "", #[], none⟩).run Try.prog z = .ok .skip (z.setCell ⟨t, 0, none⟩ (.slice (some ⟨g, 0, none⟩) (n + 1) cap)) := by go_simp
theorem xl_0 (t bx n : Nat) (v : Value) (s : Int) (d : Cs0) (nv0 : Value) (nn g cap : Nat) (q : Option Addr) (cq : Nat) (ev : Operand → Value) (z : World) (ec : ∀ c, ev (.const c) = c) (e0 : ev (.tmp 0) = .pointer (some ⟨t, 0, none⟩)) (hS : (loadVar 34 ⟨bx, 0, none⟩).run Try.prog z = .ok (.agg (cmdA d nv0)) z) : (execOp ev ⟨some 26, Op.move (Operand.tmp 0), 25, "", #[], none⟩).run Try.prog z = .ok (.value (.pointer (some ⟨t, 0, none⟩))) z := by
  obtain sl := hS
  go_simp
theorem xl_1 (t bx n : Nat) (v : Value) (s : Int) (d : Cs0) (nv0 : Value) (nn g cap : Nat) (q : Option Addr) (cq : Nat) (ev : Operand → Value) (z : World) (ec : ∀ c, ev (.const c) = c) (e0 : ev (.tmp 0) = .pointer (some ⟨t, 0, none⟩)) (hS : (loadVar 34 ⟨bx, 0, none⟩).run Try.prog z = .ok (.agg (cmdA d nv0)) z) : (execOp ev ⟨some 27, Op.move (Operand.tmp 0), 25, "", #[], none⟩).run Try.prog z = .ok (.value (.pointer (some ⟨t, 0, none⟩))) z := by
  obtain sl := hS
  go_simp
theorem xl_2 (t bx n : Nat) (v : Value) (s : Int) (d : Cs0) (nv0 : Value) (nn g cap : Nat) (q : Option Addr) (cq : Nat) (ev : Operand → Value) (z : World) (ec : ∀ c, ev (.const c) = c) (e27 : ev (.tmp 27) = .pointer (some ⟨t, 0, none⟩)) (hS : (loadVar 34 ⟨bx, 0, none⟩).run Try.prog z = .ok (.agg (cmdA d nv0)) z) : (execOp ev ⟨some 28, Op.nilCheck (Operand.tmp 27), 0, "", #[], none⟩).run Try.prog z = .ok (.value (.pointer (some ⟨t, 0, none⟩))) z := by
  obtain sl := hS
  go_simp
theorem xl_3 (t bx n : Nat) (v : Value) (s : Int) (d : Cs0) (nv0 : Value) (nn g cap : Nat) (q : Option Addr) (cq : Nat) (ev : Operand → Value) (z : World) (ec : ∀ c, ev (.const c) = c) (e28 : ev (.tmp 28) = .pointer (some ⟨t, 0, none⟩)) (hS : (loadVar 34 ⟨bx, 0, none⟩).run Try.prog z = .ok (.agg (cmdA d nv0)) z) : (execOp ev ⟨some 29, Op.fieldAddr 28 (Operand.tmp 28) 0, 0, "", #[], none⟩).run Try.prog z = .ok (.value (.pointer (some ⟨t, 0, none⟩))) z := by
  obtain sl := hS
  go_simp
theorem xl_5 (t bx n : Nat) (v : Value) (s : Int) (d : Cs0) (nv0 : Value) (nn g cap : Nat) (q : Option Addr) (cq : Nat) (ev : Operand → Value) (z : World) (ec : ∀ c, ev (.const c) = c) (e1 : ev (.tmp 1) = .int .i64 s) (hS : (loadVar 34 ⟨bx, 0, none⟩).run Try.prog z = .ok (.agg (cmdA d nv0)) z) : (execOp ev ⟨some 31, Op.move (Operand.tmp 1), 3, "", #[], none⟩).run Try.prog z = .ok (.value (.int .i64 s)) z := by
  obtain sl := hS
  go_simp
theorem xl_6 (t bx n : Nat) (v : Value) (s : Int) (d : Cs0) (nv0 : Value) (nn g cap : Nat) (q : Option Addr) (cq : Nat) (ev : Operand → Value) (z : World) (ec : ∀ c, ev (.const c) = c) (e5 : ev (.tmp 5) = .pointer (some ⟨bx, 0, none⟩)) (hS : (loadVar 34 ⟨bx, 0, none⟩).run Try.prog z = .ok (.agg (cmdA d nv0)) z) : (execOp ev ⟨some 32, Op.load 34 (Operand.tmp 5), 34, "", #[], none⟩).run Try.prog z = .ok (.value (.agg (cmdA d nv0))) z := by
  exact exec_ldC e5 hS
theorem xl_7 (t bx n : Nat) (v : Value) (s : Int) (d : Cs0) (nv0 : Value) (nn g cap : Nat) (q : Option Addr) (cq : Nat) (ev : Operand → Value) (z : World) (ec : ∀ c, ev (.const c) = c) (ef : ev (.func 27) = .func (.func 27) #[] #[]) (e32 : ev (.tmp 32) = .agg (cmdA d nv0)) : (execOp ev ⟨some 33, Op.call { callee := Callee.value (Operand.func 27), args := #[Operand.tmp 32], argTypes := #[34] }, 34, "", #[], none⟩).run Try.prog z = .ok (.enter 27 #[.agg (cmdA d nv0)]) z :=
  enter_run _ ef (by simp only [List.map_toArray, List.map_cons, List.map_nil, ec, e32]) (fun _ => by rfl)
theorem xl_8 (t bx n : Nat) (v : Value) (s : Int) (d : Cs0) (nv0 : Value) (nn g cap : Nat) (q : Option Addr) (cq : Nat) (ev : Operand → Value) (z : World) (ec : ∀ c, ev (.const c) = c) (e31 : ev (.tmp 31) = .int .i64 s) (e33 : ev (.tmp 33) = .agg (cmdA d (.slice q nn cq))) (hS : (loadVar 34 ⟨bx, 0, none⟩).run Try.prog z = .ok (.agg (cmdA d nv0)) z) : (execOp ev ⟨some 34, Op.build 62 #[(0, Operand.tmp 31), (1, Operand.tmp 33)], 62, "", #[], none⟩).run Try.prog z = .ok (.value (.agg #[.int .i64 s, .int .i64 d.id, .int .i64 d.kind, .string d.key, .int .i64 d.blob, .int .i64 d.other, .int .i64 d.index, .int .i64 d.node, .int .i64 d.size, .int .u32 d.sum, .int .i64 d.k, .int .i64 d.m, .slice q nn cq])) z := by
  clear hS
  go_simp
theorem xl_11 (t bx n : Nat) (v : Value) (s : Int) (d : Cs0) (nv0 : Value) (nn g cap : Nat) (q : Option Addr) (cq : Nat) (ev : Operand → Value) (z : World) (ec : ∀ c, ev (.const c) = c) (e26 : ev (.tmp 26) = .pointer (some ⟨t, 0, none⟩)) (hS : (loadVar 34 ⟨bx, 0, none⟩).run Try.prog z = .ok (.agg (cmdA d nv0)) z) : (execOp ev ⟨some 37, Op.nilCheck (Operand.tmp 26), 0, "", #[], none⟩).run Try.prog z = .ok (.value (.pointer (some ⟨t, 0, none⟩))) z := by
  obtain sl := hS
  go_simp
theorem xl_12 (t bx n : Nat) (v : Value) (s : Int) (d : Cs0) (nv0 : Value) (nn g cap : Nat) (q : Option Addr) (cq : Nat) (ev : Operand → Value) (z : World) (ec : ∀ c, ev (.const c) = c) (e37 : ev (.tmp 37) = .pointer (some ⟨t, 0, none⟩)) (hS : (loadVar 34 ⟨bx, 0, none⟩).run Try.prog z = .ok (.agg (cmdA d nv0)) z) : (execOp ev ⟨some 38, Op.fieldAddr 28 (Operand.tmp 37) 0, 0, "", #[], none⟩).run Try.prog z = .ok (.value (.pointer (some ⟨t, 0, none⟩))) z := by
  obtain sl := hS
  go_simp
structure xlR (ops : Array Oper) : Prop where
  size : ops.size = 14
  sel : Region.noSelect ops = true
  o0 : (ops[0]?).map bare = some ⟨some 26, Op.move (Operand.tmp 0), 25, "", #[], none⟩
  o1 : (ops[1]?).map bare = some ⟨some 27, Op.move (Operand.tmp 0), 25, "", #[], none⟩
  o2 : (ops[2]?).map bare = some ⟨some 28, Op.nilCheck (Operand.tmp 27), 0, "", #[], none⟩
  o3 : (ops[3]?).map bare = some ⟨some 29, Op.fieldAddr 28 (Operand.tmp 28) 0, 0, "", #[], none⟩
  o4 : (ops[4]?).map bare = some ⟨some 30, Op.load 26 (Operand.tmp 29), 26, "", #[], none⟩
  o5 : (ops[5]?).map bare = some ⟨some 31, Op.move (Operand.tmp 1), 3, "", #[], none⟩
  o6 : (ops[6]?).map bare = some ⟨some 32, Op.load 34 (Operand.tmp 5), 34, "", #[], none⟩
  o7 : (ops[7]?).map bare = some ⟨some 33, Op.call { callee := Callee.value (Operand.func 27), args := #[Operand.tmp 32], argTypes := #[34] }, 34, "", #[], none⟩
  o8 : (ops[8]?).map bare = some ⟨some 34, Op.build 62 #[(0, Operand.tmp 31), (1, Operand.tmp 33)], 62, "", #[], none⟩
  o9 : (ops[9]?).map bare = some ⟨some 35, Op.buildSlice 26 1 #[(0, Operand.tmp 34)], 26, "", #[], none⟩
  o10 : (ops[10]?).map bare = some ⟨some 36, Op.call { callee := Callee.builtin Builtin.append, args := #[Operand.tmp 30, Operand.tmp 35], argTypes := #[26, 26] }, 26, "", #[], none⟩
  o11 : (ops[11]?).map bare = some ⟨some 37, Op.nilCheck (Operand.tmp 26), 0, "", #[], none⟩
  o12 : (ops[12]?).map bare = some ⟨some 38, Op.fieldAddr 28 (Operand.tmp 37) 0, 0, "", #[], none⟩
  o13 : (ops[13]?).map bare = some ⟨none, Op.store 26 (Operand.tmp 38) (Operand.tmp 36), 0, "", #[], none⟩
  f1 : takeB .any ops [0, 1, 2, 3, 5, 6] (Array.replicate 14 false) = true
  f2 : Region.ready .any ops (mark [0, 1, 2, 3, 5, 6] (Array.replicate 14 false)) = [4, 7]
  f3 : Region.ready .any ops ((mark [0, 1, 2, 3, 5, 6] (Array.replicate 14 false)).setIfInBounds 4 true) = [7]
  f4 : takeB .any ops [8] (((mark [0, 1, 2, 3, 5, 6] (Array.replicate 14 false)).setIfInBounds 4 true).setIfInBounds 7 true) = true
  f5 : Region.ready .any ops (mark [8] (((mark [0, 1, 2, 3, 5, 6] (Array.replicate 14 false)).setIfInBounds 4 true).setIfInBounds 7 true)) = [9]
  f6 : Region.ready .any ops ((mark [8] (((mark [0, 1, 2, 3, 5, 6] (Array.replicate 14 false)).setIfInBounds 4 true).setIfInBounds 7 true)).setIfInBounds 9 true) = [10]
  f7 : takeB .any ops [11, 12] (((mark [8] (((mark [0, 1, 2, 3, 5, 6] (Array.replicate 14 false)).setIfInBounds 4 true).setIfInBounds 7 true)).setIfInBounds 9 true).setIfInBounds 10 true) = true
  f8 : Region.ready .any ops (mark [11, 12] (((mark [8] (((mark [0, 1, 2, 3, 5, 6] (Array.replicate 14 false)).setIfInBounds 4 true).setIfInBounds 7 true)).setIfInBounds 9 true).setIfInBounds 10 true)) = [13]
  f9 : Region.ready .any ops ((mark [11, 12] (((mark [8] (((mark [0, 1, 2, 3, 5, 6] (Array.replicate 14 false)).setIfInBounds 4 true).setIfInBounds 7 true)).setIfInBounds 9 true).setIfInBounds 10 true)).setIfInBounds 13 true) = []
  f10 : takeB .any ops [8] ((mark [0, 1, 2, 3, 5, 6] (Array.replicate 14 false)).setIfInBounds 7 true) = true
  f11 : Region.ready .any ops (mark [8] ((mark [0, 1, 2, 3, 5, 6] (Array.replicate 14 false)).setIfInBounds 7 true)) = [4, 9]
  f12 : Region.ready .any ops ((mark [8] ((mark [0, 1, 2, 3, 5, 6] (Array.replicate 14 false)).setIfInBounds 7 true)).setIfInBounds 4 true) = [9]
  f13 : Region.ready .any ops (((mark [8] ((mark [0, 1, 2, 3, 5, 6] (Array.replicate 14 false)).setIfInBounds 7 true)).setIfInBounds 4 true).setIfInBounds 9 true) = [10]
  f14 : takeB .any ops [11, 12] ((((mark [8] ((mark [0, 1, 2, 3, 5, 6] (Array.replicate 14 false)).setIfInBounds 7 true)).setIfInBounds 4 true).setIfInBounds 9 true).setIfInBounds 10 true) = true
  f15 : Region.ready .any ops (mark [11, 12] ((((mark [8] ((mark [0, 1, 2, 3, 5, 6] (Array.replicate 14 false)).setIfInBounds 7 true)).setIfInBounds 4 true).setIfInBounds 9 true).setIfInBounds 10 true)) = [13]
  f16 : Region.ready .any ops ((mark [11, 12] ((((mark [8] ((mark [0, 1, 2, 3, 5, 6] (Array.replicate 14 false)).setIfInBounds 7 true)).setIfInBounds 4 true).setIfInBounds 9 true).setIfInBounds 10 true)).setIfInBounds 13 true) = []
  f17 : Region.ready .any ops ((mark [8] ((mark [0, 1, 2, 3, 5, 6] (Array.replicate 14 false)).setIfInBounds 7 true)).setIfInBounds 9 true) = [4]
  f18 : Region.ready .any ops (((mark [8] ((mark [0, 1, 2, 3, 5, 6] (Array.replicate 14 false)).setIfInBounds 7 true)).setIfInBounds 9 true).setIfInBounds 4 true) = [10]
  f19 : takeB .any ops [11, 12] ((((mark [8] ((mark [0, 1, 2, 3, 5, 6] (Array.replicate 14 false)).setIfInBounds 7 true)).setIfInBounds 9 true).setIfInBounds 4 true).setIfInBounds 10 true) = true
  f20 : Region.ready .any ops (mark [11, 12] ((((mark [8] ((mark [0, 1, 2, 3, 5, 6] (Array.replicate 14 false)).setIfInBounds 7 true)).setIfInBounds 9 true).setIfInBounds 4 true).setIfInBounds 10 true)) = [13]
  f21 : Region.ready .any ops ((mark [11, 12] ((((mark [8] ((mark [0, 1, 2, 3, 5, 6] (Array.replicate 14 false)).setIfInBounds 7 true)).setIfInBounds 9 true).setIfInBounds 4 true).setIfInBounds 10 true)).setIfInBounds 13 true) = []

set_option maxRecDepth 100000 in
set_option maxHeartbeats 3200000 in
theorem xl_region {ops : Array Oper} {id : Nat} {Q : Exit → Act → World → Prop} {a : Act} {y : World} (R : xlR ops) (t bx n : Nat) (v : Value) (s : Int) (d : Cs0) (nv0 : Value) (nn g cap : Nat) (q : Option Addr) (cq : Nat)
    (hQ : ∀ d v c a w, Q (.panic c) (a.put d v) w → Q (.panic c) a w) (hsz : a.tmps.size = 39) (e0 : a.eval (.tmp 0) = .pointer (some ⟨t, 0, none⟩)) (e1 : a.eval (.tmp 1) = .int .i64 s) (e5 : a.eval (.tmp 5) = .pointer (some ⟨bx, 0, none⟩)) (hS0 : (loadVar 34 ⟨bx, 0, none⟩).run Try.prog y.drew = .ok (.agg (cmdA d nv0)) y.drew) (hC : y.drew.cell? ⟨t, 0, none⟩ = some v) (T : World → Prop) (hc : Calls Try.prog 27 #[.agg (cmdA d nv0)] y.drew fun e w9 => ∃ (q : Option Addr) (cq g cap : Nat) (w2 : World), e = .returned (.agg (cmdA d (.slice q nn cq))) ∧ ((loadVar 34 ⟨bx, 0, none⟩).run Try.prog w9 = .ok (.agg (cmdA d nv0)) w9) ∧ ((loadVar 34 ⟨bx, 0, none⟩).run Try.prog (w9.alloc (.cells #[.int .i64 s, .int .i64 d.id, .int .i64 d.kind, .string d.key, .int .i64 d.blob, .int .i64 d.other, .int .i64 d.index, .int .i64 d.node, .int .i64 d.size, .int .u32 d.sum, .int .i64 d.k, .int .i64 d.m, .slice q nn cq] 62)) = .ok (.agg (cmdA d nv0)) (w9.alloc (.cells #[.int .i64 s, .int .i64 d.id, .int .i64 d.kind, .string d.key, .int .i64 d.blob, .int .i64 d.other, .int .i64 d.index, .int .i64 d.node, .int .i64 d.size, .int .u32 d.sum, .int .i64 d.k, .int .i64 d.m, .slice q nn cq] 62))) ∧ ((loadVar 34 ⟨bx, 0, none⟩).run Try.prog w2 = .ok (.agg (cmdA d nv0)) w2) ∧ ((loadVar 34 ⟨bx, 0, none⟩).run Try.prog (w2.setCell ⟨t, 0, none⟩ (.slice (some ⟨g, 0, none⟩) (n + 1) cap)) = .ok (.agg (cmdA d nv0)) (w2.setCell ⟨t, 0, none⟩ (.slice (some ⟨g, 0, none⟩) (n + 1) cap))) ∧ w9.cell? ⟨t, 0, none⟩ = some v ∧ (w9.alloc (.cells #[.int .i64 s, .int .i64 d.id, .int .i64 d.kind, .string d.key, .int .i64 d.blob, .int .i64 d.other, .int .i64 d.index, .int .i64 d.node, .int .i64 d.size, .int .u32 d.sum, .int .i64 d.k, .int .i64 d.m, .slice q nn cq] 62)).cell? ⟨t, 0, none⟩ = some v ∧ w2.cell? ⟨t, 0, none⟩ = some v ∧ w2.frozen? ⟨t, 0, none⟩ = false ∧ (Builtin.append_ #[26, 26] 26 #[v, .slice (some ⟨w9.heap.size, 0, none⟩) 1 1]).run Try.prog (w9.alloc (.cells #[.int .i64 s, .int .i64 d.id, .int .i64 d.kind, .string d.key, .int .i64 d.blob, .int .i64 d.other, .int .i64 d.index, .int .i64 d.node, .int .i64 d.size, .int .u32 d.sum, .int .i64 d.k, .int .i64 d.m, .slice q nn cq] 62)) = .ok (.slice (some ⟨g, 0, none⟩) (n + 1) cap) w2 ∧ T (w2.setCell ⟨t, 0, none⟩ (.slice (some ⟨g, 0, none⟩) (n + 1) cap)))
    (hK1 : ∀ (q : Option Addr) (cq g cap : Nat) (w9 w2 : World), T (w2.setCell ⟨t, 0, none⟩ (.slice (some ⟨g, 0, none⟩) (n + 1) cap)) → Q .normal (((((((((((((a.put (some 26) (.pointer (some ⟨t, 0, none⟩))).put (some 27) (.pointer (some ⟨t, 0, none⟩))).put (some 28) (.pointer (some ⟨t, 0, none⟩))).put (some 29) (.pointer (some ⟨t, 0, none⟩))).put (some 31) (.int .i64 s)).put (some 32) (.agg (cmdA d nv0))).put (some 30) (v)).put (some 33) (.agg (cmdA d (.slice q nn cq)))).put (some 34) (.agg #[.int .i64 s, .int .i64 d.id, .int .i64 d.kind, .string d.key, .int .i64 d.blob, .int .i64 d.other, .int .i64 d.index, .int .i64 d.node, .int .i64 d.size, .int .u32 d.sum, .int .i64 d.k, .int .i64 d.m, .slice q nn cq])).put (some 35) (.slice (some ⟨w9.heap.size, 0, none⟩) 1 1)).put (some 36) (.slice (some ⟨g, 0, none⟩) (n + 1) cap)).put (some 37) (.pointer (some ⟨t, 0, none⟩))).put (some 38) (.pointer (some ⟨t, 0, none⟩))) (w2.setCell ⟨t, 0, none⟩ (.slice (some ⟨g, 0, none⟩) (n + 1) cap))) (hK2 : ∀ (q : Option Addr) (cq g cap : Nat) (w9 w2 : World), T (w2.setCell ⟨t, 0, none⟩ (.slice (some ⟨g, 0, none⟩) (n + 1) cap)) → Q .normal (((((((((((((a.put (some 26) (.pointer (some ⟨t, 0, none⟩))).put (some 27) (.pointer (some ⟨t, 0, none⟩))).put (some 28) (.pointer (some ⟨t, 0, none⟩))).put (some 29) (.pointer (some ⟨t, 0, none⟩))).put (some 31) (.int .i64 s)).put (some 32) (.agg (cmdA d nv0))).put (some 33) (.agg (cmdA d (.slice q nn cq)))).put (some 34) (.agg #[.int .i64 s, .int .i64 d.id, .int .i64 d.kind, .string d.key, .int .i64 d.blob, .int .i64 d.other, .int .i64 d.index, .int .i64 d.node, .int .i64 d.size, .int .u32 d.sum, .int .i64 d.k, .int .i64 d.m, .slice q nn cq])).put (some 30) (v)).put (some 35) (.slice (some ⟨w9.heap.size, 0, none⟩) 1 1)).put (some 36) (.slice (some ⟨g, 0, none⟩) (n + 1) cap)).put (some 37) (.pointer (some ⟨t, 0, none⟩))).put (some 38) (.pointer (some ⟨t, 0, none⟩))) (w2.setCell ⟨t, 0, none⟩ (.slice (some ⟨g, 0, none⟩) (n + 1) cap))) (hK3 : ∀ (q : Option Addr) (cq g cap : Nat) (w9 w2 : World), T (w2.setCell ⟨t, 0, none⟩ (.slice (some ⟨g, 0, none⟩) (n + 1) cap)) → Q .normal (((((((((((((a.put (some 26) (.pointer (some ⟨t, 0, none⟩))).put (some 27) (.pointer (some ⟨t, 0, none⟩))).put (some 28) (.pointer (some ⟨t, 0, none⟩))).put (some 29) (.pointer (some ⟨t, 0, none⟩))).put (some 31) (.int .i64 s)).put (some 32) (.agg (cmdA d nv0))).put (some 33) (.agg (cmdA d (.slice q nn cq)))).put (some 34) (.agg #[.int .i64 s, .int .i64 d.id, .int .i64 d.kind, .string d.key, .int .i64 d.blob, .int .i64 d.other, .int .i64 d.index, .int .i64 d.node, .int .i64 d.size, .int .u32 d.sum, .int .i64 d.k, .int .i64 d.m, .slice q nn cq])).put (some 35) (.slice (some ⟨w9.heap.size, 0, none⟩) 1 1)).put (some 30) (v)).put (some 36) (.slice (some ⟨g, 0, none⟩) (n + 1) cap)).put (some 37) (.pointer (some ⟨t, 0, none⟩))).put (some 38) (.pointer (some ⟨t, 0, none⟩))) (w2.setCell ⟨t, 0, none⟩ (.slice (some ⟨g, 0, none⟩) (n + 1) cap))) : (Code.region id ops true).wp Try.prog Q a y := by
  have HR : Hid (xlR ops) := R
  have hdf : a.defers = a.defers := rfl
  refine wp_region_held_drew (S := (fun z : World => (loadVar 34 ⟨bx, 0, none⟩).run Try.prog z = .ok (.agg (cmdA d nv0)) z)) (by kernel_rfl) (hS0) (fun hHeld => ?_)
  rw [R.size]
  clear R
  refine wpAnyH_takes HR.out.sel hQ (hHeld) [0, 1, 2, 3, 5, 6] 8 _ _ HR.out.f1 ?_
  refine wpTake_stepE ⟨some 26, Op.move (Operand.tmp 0), 25, "", #[], none⟩ 26 (.pointer (some ⟨t, 0, none⟩)) HR.out.o0 rfl (by rw [hsz]; decide) (wanted_none rfl) (fun z hS => xl_0 t bx n v s d nv0 nn g cap q cq _ z (fun _ => rfl) e0 hS) ?_
  intro a1 ha1 s1 f1 n1 k1
  replace hsz := s1.trans hsz
  replace hdf := f1.trans hdf
  replace e0 := (k1 0 (by decide)).trans e0
  replace e1 := (k1 1 (by decide)).trans e1
  replace e5 := (k1 5 (by decide)).trans e5
  have e26 := n1
  clear s1 f1 n1 k1
  refine wpTake_stepE ⟨some 27, Op.move (Operand.tmp 0), 25, "", #[], none⟩ 27 (.pointer (some ⟨t, 0, none⟩)) HR.out.o1 rfl (by rw [hsz]; decide) (wanted_none rfl) (fun z hS => xl_1 t bx n v s d nv0 nn g cap q cq _ z (fun _ => rfl) e0 hS) ?_
  intro a2 ha2 s1 f1 n1 k1
  replace hsz := s1.trans hsz
  replace hdf := f1.trans hdf
  replace e1 := (k1 1 (by decide)).trans e1
  replace e5 := (k1 5 (by decide)).trans e5
  replace e26 := (k1 26 (by decide)).trans e26
  have e27 := n1
  clear s1 f1 n1 k1
  refine wpTake_stepE ⟨some 28, Op.nilCheck (Operand.tmp 27), 0, "", #[], none⟩ 28 (.pointer (some ⟨t, 0, none⟩)) HR.out.o2 rfl (by rw [hsz]; decide) (wanted_none rfl) (fun z hS => xl_2 t bx n v s d nv0 nn g cap q cq _ z (fun _ => rfl) e27 hS) ?_
  intro a3 ha3 s1 f1 n1 k1
  replace hsz := s1.trans hsz
  replace hdf := f1.trans hdf
  replace e1 := (k1 1 (by decide)).trans e1
  replace e5 := (k1 5 (by decide)).trans e5
  replace e26 := (k1 26 (by decide)).trans e26
  have e28 := n1
  clear s1 f1 n1 k1
  refine wpTake_stepE ⟨some 29, Op.fieldAddr 28 (Operand.tmp 28) 0, 0, "", #[], none⟩ 29 (.pointer (some ⟨t, 0, none⟩)) HR.out.o3 rfl (by rw [hsz]; decide) (wanted_none rfl) (fun z hS => xl_3 t bx n v s d nv0 nn g cap q cq _ z (fun _ => rfl) e28 hS) ?_
  intro a4 ha4 s1 f1 n1 k1
  replace hsz := s1.trans hsz
  replace hdf := f1.trans hdf
  replace e1 := (k1 1 (by decide)).trans e1
  replace e5 := (k1 5 (by decide)).trans e5
  replace e26 := (k1 26 (by decide)).trans e26
  have e29 := n1
  clear s1 f1 n1 k1
  refine wpTake_stepE ⟨some 31, Op.move (Operand.tmp 1), 3, "", #[], none⟩ 31 (.int .i64 s) HR.out.o5 rfl (by rw [hsz]; decide) (wanted_none rfl) (fun z hS => xl_5 t bx n v s d nv0 nn g cap q cq _ z (fun _ => rfl) e1 hS) ?_
  intro a5 ha5 s1 f1 n1 k1
  replace hsz := s1.trans hsz
  replace hdf := f1.trans hdf
  replace e5 := (k1 5 (by decide)).trans e5
  replace e26 := (k1 26 (by decide)).trans e26
  replace e29 := (k1 29 (by decide)).trans e29
  have e31 := n1
  clear s1 f1 n1 k1
  refine wpTake_stepE ⟨some 32, Op.load 34 (Operand.tmp 5), 34, "", #[], none⟩ 32 (.agg (cmdA d nv0)) HR.out.o6 rfl (by rw [hsz]; decide) (wanted_none rfl) (fun z hS => xl_6 t bx n v s d nv0 nn g cap q cq _ z (fun _ => rfl) e5 hS) ?_
  intro a6 ha6 s1 f1 n1 k1
  replace hsz := s1.trans hsz
  replace hdf := f1.trans hdf
  replace e26 := (k1 26 (by decide)).trans e26
  replace e29 := (k1 29 (by decide)).trans e29
  replace e31 := (k1 31 (by decide)).trans e31
  have e32 := n1
  clear s1 f1 n1 k1
  refine wpTake_nil ?_
  refine wpAnyH_two ⟨some 30, Op.load 26 (Operand.tmp 29), 26, "", #[], none⟩ ⟨some 33, Op.call { callee := Callee.value (Operand.func 27), args := #[Operand.tmp 32], argTypes := #[34] }, 34, "", #[], none⟩ HR.out.f2 HR.out.o4 HR.out.o7 rfl rfl (fun Ka hKa => ?_) (fun Ka hKa => ?_)
  · refine wp_value (xl_ld t v _ _ e29 hC) (hKa.out _ _ (hHeld) ?_)
    clear hKa Ka
    show wpAnyH _ _ _ _ _ _ _ (Act.put a6 (some 30) (v)) _
    obtain ⟨s1, f1, n1, k1⟩ := act_put a6 30 (v) (show 30 < _ by rw [hsz]; decide)
    obtain ⟨a7, ha7⟩ : ∃ x, x = Act.put a6 (some 30) (v) := ⟨_, rfl⟩
    rw [← ha7] at s1 f1 n1 k1 ⊢
    replace hsz := s1.trans hsz
    replace hdf := f1.trans hdf
    replace e26 := (k1 26 (by decide)).trans e26
    replace e31 := (k1 31 (by decide)).trans e31
    replace e32 := (k1 32 (by decide)).trans e32
    have e30 := n1
    clear s1 f1 n1 k1
    refine wpAnyH_one ⟨some 33, Op.call { callee := Callee.value (Operand.func 27), args := #[Operand.tmp 32], argTypes := #[34] }, 34, "", #[], none⟩ HR.out.f3 HR.out.o7 rfl (fun Ka hKa => ?_)
    refine wp_enter (xl_7 t bx n v s d nv0 nn g cap q cq _ _ (fun _ => rfl) rfl e32) (hc) ?_
    rintro e9 w9 ⟨q, cq, g, cap, w2, rfl, hS9, hS1, hS2, hS3, hv9, hv1, hv2, hf2, hap, hT⟩
    refine ⟨_, rfl, hKa.out _ _ (hS9) ?_⟩
    clear hKa Ka
    show wpAnyH _ _ _ _ _ _ _ (Act.put a7 (some 33) (.agg (cmdA d (.slice q nn cq)))) _
    obtain ⟨s1, f1, n1, k1⟩ := act_put a7 33 (.agg (cmdA d (.slice q nn cq))) (show 33 < _ by rw [hsz]; decide)
    obtain ⟨a8, ha8⟩ : ∃ x, x = Act.put a7 (some 33) (.agg (cmdA d (.slice q nn cq))) := ⟨_, rfl⟩
    rw [← ha8] at s1 f1 n1 k1 ⊢
    replace hsz := s1.trans hsz
    replace hdf := f1.trans hdf
    replace e26 := (k1 26 (by decide)).trans e26
    replace e31 := (k1 31 (by decide)).trans e31
    replace e30 := (k1 30 (by decide)).trans e30
    have e33 := n1
    clear s1 f1 n1 k1
    refine wpAnyH_takes HR.out.sel hQ (hS9) [8] 5 _ _ HR.out.f4 ?_
    refine wpTake_stepE ⟨some 34, Op.build 62 #[(0, Operand.tmp 31), (1, Operand.tmp 33)], 62, "", #[], none⟩ 34 (.agg #[.int .i64 s, .int .i64 d.id, .int .i64 d.kind, .string d.key, .int .i64 d.blob, .int .i64 d.other, .int .i64 d.index, .int .i64 d.node, .int .i64 d.size, .int .u32 d.sum, .int .i64 d.k, .int .i64 d.m, .slice q nn cq]) HR.out.o8 rfl (by rw [hsz]; decide) (wanted_none rfl) (fun z hS => xl_8 t bx n v s d nv0 nn g cap q cq _ z (fun _ => rfl) e31 e33 hS) ?_
    intro a9 ha9 s1 f1 n1 k1
    replace hsz := s1.trans hsz
    replace hdf := f1.trans hdf
    replace e26 := (k1 26 (by decide)).trans e26
    replace e30 := (k1 30 (by decide)).trans e30
    have e34 := n1
    clear s1 f1 n1 k1
    refine wpTake_nil ?_
    refine wpAnyH_run ⟨some 35, Op.buildSlice 26 1 #[(0, Operand.tmp 34)], 26, "", #[], none⟩ _ (.slice (some ⟨w9.heap.size, 0, none⟩) 1 1) _ HR.out.f5 HR.out.o9 rfl rfl (xl_bs s d nn q cq _ _ e34) (hS1) ?_
    obtain ⟨s1, f1, n1, k1⟩ := act_put a9 35 (.slice (some ⟨w9.heap.size, 0, none⟩) 1 1) (show 35 < _ by rw [hsz]; decide)
    obtain ⟨a10, ha10⟩ : ∃ x, x = Act.put a9 (some 35) (.slice (some ⟨w9.heap.size, 0, none⟩) 1 1) := ⟨_, rfl⟩
    rw [← ha10] at s1 f1 n1 k1 ⊢
    replace hsz := s1.trans hsz
    replace hdf := f1.trans hdf
    replace e26 := (k1 26 (by decide)).trans e26
    replace e30 := (k1 30 (by decide)).trans e30
    have e35 := n1
    clear s1 f1 n1 k1
    refine wpAnyH_run ⟨some 36, Op.call { callee := Callee.builtin Builtin.append, args := #[Operand.tmp 30, Operand.tmp 35], argTypes := #[26, 26] }, 26, "", #[], none⟩ _ (.slice (some ⟨g, 0, none⟩) (n + 1) cap) _ HR.out.f6 HR.out.o10 rfl rfl (xl_ap _ _ _ _ _ _ e30 e35 hap) (hS2) ?_
    obtain ⟨s1, f1, n1, k1⟩ := act_put a10 36 (.slice (some ⟨g, 0, none⟩) (n + 1) cap) (show 36 < _ by rw [hsz]; decide)
    obtain ⟨a11, ha11⟩ : ∃ x, x = Act.put a10 (some 36) (.slice (some ⟨g, 0, none⟩) (n + 1) cap) := ⟨_, rfl⟩
    rw [← ha11] at s1 f1 n1 k1 ⊢
    replace hsz := s1.trans hsz
    replace hdf := f1.trans hdf
    replace e26 := (k1 26 (by decide)).trans e26
    have e36 := n1
    clear s1 f1 n1 k1
    refine wpAnyH_takes HR.out.sel hQ (hS2) [11, 12] 1 _ _ HR.out.f7 ?_
    refine wpTake_stepE ⟨some 37, Op.nilCheck (Operand.tmp 26), 0, "", #[], none⟩ 37 (.pointer (some ⟨t, 0, none⟩)) HR.out.o11 rfl (by rw [hsz]; decide) (wanted_none rfl) (fun z hS => xl_11 t bx n v s d nv0 nn g cap q cq _ z (fun _ => rfl) e26 hS) ?_
    intro a12 ha12 s1 f1 n1 k1
    replace hsz := s1.trans hsz
    replace hdf := f1.trans hdf
    replace e36 := (k1 36 (by decide)).trans e36
    have e37 := n1
    clear s1 f1 n1 k1
    refine wpTake_stepE ⟨some 38, Op.fieldAddr 28 (Operand.tmp 37) 0, 0, "", #[], none⟩ 38 (.pointer (some ⟨t, 0, none⟩)) HR.out.o12 rfl (by rw [hsz]; decide) (wanted_none rfl) (fun z hS => xl_12 t bx n v s d nv0 nn g cap q cq _ z (fun _ => rfl) e37 hS) ?_
    intro a13 ha13 s1 f1 n1 k1
    replace hsz := s1.trans hsz
    replace hdf := f1.trans hdf
    replace e36 := (k1 36 (by decide)).trans e36
    have e38 := n1
    clear s1 f1 n1 k1
    refine wpTake_nil ?_
    refine wpAnyH_skip ⟨none, Op.store 26 (Operand.tmp 38) (Operand.tmp 36), 0, "", #[], none⟩ _ HR.out.f8 HR.out.o13 rfl rfl (xl_st t g n cap v _ _ e38 e36 hv2 hf2) (hS3) ?_
    refine wpAnyH_done HR.out.f9 ?_ _
    rw [ha13, ha12, ha11, ha10, ha9, ha8, ha7, ha6, ha5, ha4, ha3, ha2, ha1]
    exact hK1 q cq g cap w9 w2 hT
  · refine wp_enter (xl_7 t bx n v s d nv0 nn g cap q cq _ _ (fun _ => rfl) rfl e32) (hc) ?_
    rintro e9 w9 ⟨q, cq, g, cap, w2, rfl, hS9, hS1, hS2, hS3, hv9, hv1, hv2, hf2, hap, hT⟩
    refine ⟨_, rfl, hKa.out _ _ (hS9) ?_⟩
    clear hKa Ka
    show wpAnyH _ _ _ _ _ _ _ (Act.put a6 (some 33) (.agg (cmdA d (.slice q nn cq)))) _
    obtain ⟨s1, f1, n1, k1⟩ := act_put a6 33 (.agg (cmdA d (.slice q nn cq))) (show 33 < _ by rw [hsz]; decide)
    obtain ⟨a7, ha7⟩ : ∃ x, x = Act.put a6 (some 33) (.agg (cmdA d (.slice q nn cq))) := ⟨_, rfl⟩
    rw [← ha7] at s1 f1 n1 k1 ⊢
    replace hsz := s1.trans hsz
    replace hdf := f1.trans hdf
    replace e26 := (k1 26 (by decide)).trans e26
    replace e29 := (k1 29 (by decide)).trans e29
    replace e31 := (k1 31 (by decide)).trans e31
    have e33 := n1
    clear s1 f1 n1 k1
    refine wpAnyH_takes HR.out.sel hQ (hS9) [8] 6 _ _ HR.out.f10 ?_
    refine wpTake_stepE ⟨some 34, Op.build 62 #[(0, Operand.tmp 31), (1, Operand.tmp 33)], 62, "", #[], none⟩ 34 (.agg #[.int .i64 s, .int .i64 d.id, .int .i64 d.kind, .string d.key, .int .i64 d.blob, .int .i64 d.other, .int .i64 d.index, .int .i64 d.node, .int .i64 d.size, .int .u32 d.sum, .int .i64 d.k, .int .i64 d.m, .slice q nn cq]) HR.out.o8 rfl (by rw [hsz]; decide) (wanted_none rfl) (fun z hS => xl_8 t bx n v s d nv0 nn g cap q cq _ z (fun _ => rfl) e31 e33 hS) ?_
    intro a8 ha8 s1 f1 n1 k1
    replace hsz := s1.trans hsz
    replace hdf := f1.trans hdf
    replace e26 := (k1 26 (by decide)).trans e26
    replace e29 := (k1 29 (by decide)).trans e29
    have e34 := n1
    clear s1 f1 n1 k1
    refine wpTake_nil ?_
    refine wpAnyH_two ⟨some 30, Op.load 26 (Operand.tmp 29), 26, "", #[], none⟩ ⟨some 35, Op.buildSlice 26 1 #[(0, Operand.tmp 34)], 26, "", #[], none⟩ HR.out.f11 HR.out.o4 HR.out.o9 rfl rfl (fun Ka hKa => ?_) (fun Ka hKa => ?_)
    · refine wp_value (xl_ld t v _ _ e29 hv9) (hKa.out _ _ (hS9) ?_)
      clear hKa Ka
      show wpAnyH _ _ _ _ _ _ _ (Act.put a8 (some 30) (v)) _
      obtain ⟨s1, f1, n1, k1⟩ := act_put a8 30 (v) (show 30 < _ by rw [hsz]; decide)
      obtain ⟨a9, ha9⟩ : ∃ x, x = Act.put a8 (some 30) (v) := ⟨_, rfl⟩
      rw [← ha9] at s1 f1 n1 k1 ⊢
      replace hsz := s1.trans hsz
      replace hdf := f1.trans hdf
      replace e26 := (k1 26 (by decide)).trans e26
      replace e34 := (k1 34 (by decide)).trans e34
      have e30 := n1
      clear s1 f1 n1 k1
      refine wpAnyH_run ⟨some 35, Op.buildSlice 26 1 #[(0, Operand.tmp 34)], 26, "", #[], none⟩ _ (.slice (some ⟨w9.heap.size, 0, none⟩) 1 1) _ HR.out.f12 HR.out.o9 rfl rfl (xl_bs s d nn q cq _ _ e34) (hS1) ?_
      obtain ⟨s1, f1, n1, k1⟩ := act_put a9 35 (.slice (some ⟨w9.heap.size, 0, none⟩) 1 1) (show 35 < _ by rw [hsz]; decide)
      obtain ⟨a10, ha10⟩ : ∃ x, x = Act.put a9 (some 35) (.slice (some ⟨w9.heap.size, 0, none⟩) 1 1) := ⟨_, rfl⟩
      rw [← ha10] at s1 f1 n1 k1 ⊢
      replace hsz := s1.trans hsz
      replace hdf := f1.trans hdf
      replace e26 := (k1 26 (by decide)).trans e26
      replace e30 := (k1 30 (by decide)).trans e30
      have e35 := n1
      clear s1 f1 n1 k1
      refine wpAnyH_run ⟨some 36, Op.call { callee := Callee.builtin Builtin.append, args := #[Operand.tmp 30, Operand.tmp 35], argTypes := #[26, 26] }, 26, "", #[], none⟩ _ (.slice (some ⟨g, 0, none⟩) (n + 1) cap) _ HR.out.f13 HR.out.o10 rfl rfl (xl_ap _ _ _ _ _ _ e30 e35 hap) (hS2) ?_
      obtain ⟨s1, f1, n1, k1⟩ := act_put a10 36 (.slice (some ⟨g, 0, none⟩) (n + 1) cap) (show 36 < _ by rw [hsz]; decide)
      obtain ⟨a11, ha11⟩ : ∃ x, x = Act.put a10 (some 36) (.slice (some ⟨g, 0, none⟩) (n + 1) cap) := ⟨_, rfl⟩
      rw [← ha11] at s1 f1 n1 k1 ⊢
      replace hsz := s1.trans hsz
      replace hdf := f1.trans hdf
      replace e26 := (k1 26 (by decide)).trans e26
      have e36 := n1
      clear s1 f1 n1 k1
      refine wpAnyH_takes HR.out.sel hQ (hS2) [11, 12] 1 _ _ HR.out.f14 ?_
      refine wpTake_stepE ⟨some 37, Op.nilCheck (Operand.tmp 26), 0, "", #[], none⟩ 37 (.pointer (some ⟨t, 0, none⟩)) HR.out.o11 rfl (by rw [hsz]; decide) (wanted_none rfl) (fun z hS => xl_11 t bx n v s d nv0 nn g cap q cq _ z (fun _ => rfl) e26 hS) ?_
      intro a12 ha12 s1 f1 n1 k1
      replace hsz := s1.trans hsz
      replace hdf := f1.trans hdf
      replace e36 := (k1 36 (by decide)).trans e36
      have e37 := n1
      clear s1 f1 n1 k1
      refine wpTake_stepE ⟨some 38, Op.fieldAddr 28 (Operand.tmp 37) 0, 0, "", #[], none⟩ 38 (.pointer (some ⟨t, 0, none⟩)) HR.out.o12 rfl (by rw [hsz]; decide) (wanted_none rfl) (fun z hS => xl_12 t bx n v s d nv0 nn g cap q cq _ z (fun _ => rfl) e37 hS) ?_
      intro a13 ha13 s1 f1 n1 k1
      replace hsz := s1.trans hsz
      replace hdf := f1.trans hdf
      replace e36 := (k1 36 (by decide)).trans e36
      have e38 := n1
      clear s1 f1 n1 k1
      refine wpTake_nil ?_
      refine wpAnyH_skip ⟨none, Op.store 26 (Operand.tmp 38) (Operand.tmp 36), 0, "", #[], none⟩ _ HR.out.f15 HR.out.o13 rfl rfl (xl_st t g n cap v _ _ e38 e36 hv2 hf2) (hS3) ?_
      refine wpAnyH_done HR.out.f16 ?_ _
      rw [ha13, ha12, ha11, ha10, ha9, ha8, ha7, ha6, ha5, ha4, ha3, ha2, ha1]
      exact hK2 q cq g cap w9 w2 hT
    · refine wp_value (xl_bs s d nn q cq _ _ e34) (hKa.out _ _ (hS1) ?_)
      clear hKa Ka
      show wpAnyH _ _ _ _ _ _ _ (Act.put a8 (some 35) (.slice (some ⟨w9.heap.size, 0, none⟩) 1 1)) _
      obtain ⟨s1, f1, n1, k1⟩ := act_put a8 35 (.slice (some ⟨w9.heap.size, 0, none⟩) 1 1) (show 35 < _ by rw [hsz]; decide)
      obtain ⟨a9, ha9⟩ : ∃ x, x = Act.put a8 (some 35) (.slice (some ⟨w9.heap.size, 0, none⟩) 1 1) := ⟨_, rfl⟩
      rw [← ha9] at s1 f1 n1 k1 ⊢
      replace hsz := s1.trans hsz
      replace hdf := f1.trans hdf
      replace e26 := (k1 26 (by decide)).trans e26
      replace e29 := (k1 29 (by decide)).trans e29
      have e35 := n1
      clear s1 f1 n1 k1
      refine wpAnyH_run ⟨some 30, Op.load 26 (Operand.tmp 29), 26, "", #[], none⟩ _ (v) _ HR.out.f17 HR.out.o4 rfl rfl (xl_ld t v _ _ e29 hv1) (hS1) ?_
      obtain ⟨s1, f1, n1, k1⟩ := act_put a9 30 (v) (show 30 < _ by rw [hsz]; decide)
      obtain ⟨a10, ha10⟩ : ∃ x, x = Act.put a9 (some 30) (v) := ⟨_, rfl⟩
      rw [← ha10] at s1 f1 n1 k1 ⊢
      replace hsz := s1.trans hsz
      replace hdf := f1.trans hdf
      replace e26 := (k1 26 (by decide)).trans e26
      replace e35 := (k1 35 (by decide)).trans e35
      have e30 := n1
      clear s1 f1 n1 k1
      refine wpAnyH_run ⟨some 36, Op.call { callee := Callee.builtin Builtin.append, args := #[Operand.tmp 30, Operand.tmp 35], argTypes := #[26, 26] }, 26, "", #[], none⟩ _ (.slice (some ⟨g, 0, none⟩) (n + 1) cap) _ HR.out.f18 HR.out.o10 rfl rfl (xl_ap _ _ _ _ _ _ e30 e35 hap) (hS2) ?_
      obtain ⟨s1, f1, n1, k1⟩ := act_put a10 36 (.slice (some ⟨g, 0, none⟩) (n + 1) cap) (show 36 < _ by rw [hsz]; decide)
      obtain ⟨a11, ha11⟩ : ∃ x, x = Act.put a10 (some 36) (.slice (some ⟨g, 0, none⟩) (n + 1) cap) := ⟨_, rfl⟩
      rw [← ha11] at s1 f1 n1 k1 ⊢
      replace hsz := s1.trans hsz
      replace hdf := f1.trans hdf
      replace e26 := (k1 26 (by decide)).trans e26
      have e36 := n1
      clear s1 f1 n1 k1
      refine wpAnyH_takes HR.out.sel hQ (hS2) [11, 12] 1 _ _ HR.out.f19 ?_
      refine wpTake_stepE ⟨some 37, Op.nilCheck (Operand.tmp 26), 0, "", #[], none⟩ 37 (.pointer (some ⟨t, 0, none⟩)) HR.out.o11 rfl (by rw [hsz]; decide) (wanted_none rfl) (fun z hS => xl_11 t bx n v s d nv0 nn g cap q cq _ z (fun _ => rfl) e26 hS) ?_
      intro a12 ha12 s1 f1 n1 k1
      replace hsz := s1.trans hsz
      replace hdf := f1.trans hdf
      replace e36 := (k1 36 (by decide)).trans e36
      have e37 := n1
      clear s1 f1 n1 k1
      refine wpTake_stepE ⟨some 38, Op.fieldAddr 28 (Operand.tmp 37) 0, 0, "", #[], none⟩ 38 (.pointer (some ⟨t, 0, none⟩)) HR.out.o12 rfl (by rw [hsz]; decide) (wanted_none rfl) (fun z hS => xl_12 t bx n v s d nv0 nn g cap q cq _ z (fun _ => rfl) e37 hS) ?_
      intro a13 ha13 s1 f1 n1 k1
      replace hsz := s1.trans hsz
      replace hdf := f1.trans hdf
      replace e36 := (k1 36 (by decide)).trans e36
      have e38 := n1
      clear s1 f1 n1 k1
      refine wpTake_nil ?_
      refine wpAnyH_skip ⟨none, Op.store 26 (Operand.tmp 38) (Operand.tmp 36), 0, "", #[], none⟩ _ HR.out.f20 HR.out.o13 rfl rfl (xl_st t g n cap v _ _ e38 e36 hv2 hf2) (hS3) ?_
      refine wpAnyH_done HR.out.f21 ?_ _
      rw [ha13, ha12, ha11, ha10, ha9, ha8, ha7, ha6, ha5, ha4, ha3, ha2, ha1]
      exact hK3 q cq g cap w9 w2 hT
-- R: ⟨by kernel_rfl, by kernel_rfl, by kernel_rfl, by kernel_rfl, by kernel_rfl, by kernel_rfl, by kernel_rfl, by kernel_rfl, by kernel_rfl, by kernel_rfl, by kernel_rfl, by kernel_rfl, by kernel_rfl, by kernel_rfl, by kernel_rfl, by kernel_rfl, by kernel_rfl, by kernel_rfl, by kernel_rfl, by kernel_rfl, by kernel_rfl, by kernel_rfl, by kernel_rfl, by kernel_rfl, by kernel_rfl, by kernel_rfl, by kernel_rfl, by kernel_rfl, by kernel_rfl, by kernel_rfl, by kernel_rfl, by kernel_rfl, by kernel_rfl, by kernel_rfl, by kernel_rfl, by kernel_rfl, by kernel_rfl⟩

end Go.Proofs.Ytjbgpbafgpdciaa
