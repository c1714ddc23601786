/- The law ChainLives: its drawn regions (laid by scripts/mkxj.py). -/
import Derived.Test.YtjbgpbafgpdciaaXc
namespace Go.Proofs.Ytjbgpbafgpdciaa
set_option linter.unusedVariables false
set_option linter.unusedSimpArgs false
open Go.RowKit Go.Deep Go.Maps

theorem cl6_0 (L t kb : Nat) (s : Int) (d : Cs0) (nv0 : Value) (r n : Int) (ev : Operand → Value) (z : World) (ec : ∀ c, ev (.const c) = c) (e5 : ev (.tmp 5) = .pointer (some ⟨L, 0, none⟩)) (hS : z.cell? ⟨kb, 0, none⟩ = some (.int .i64 s) ∧ (loadVar 34 ⟨kb, 2, none⟩).run Try.prog z = .ok (.agg (cmdA d nv0)) z) : (execOp ev ⟨some 25, Op.move (Operand.tmp 5), 23, "", #[], none⟩).run Try.prog z = .ok (.value (.pointer (some ⟨L, 0, none⟩))) z := by
  obtain ⟨sa, sb⟩ := hS
  go_simp
theorem cl6_1 (L t kb : Nat) (s : Int) (d : Cs0) (nv0 : Value) (r n : Int) (ev : Operand → Value) (z : World) (ec : ∀ c, ev (.const c) = c) (e8 : ev (.tmp 8) = .pointer (some ⟨kb, 0, none⟩)) (hS : z.cell? ⟨kb, 0, none⟩ = some (.int .i64 s) ∧ (loadVar 34 ⟨kb, 2, none⟩).run Try.prog z = .ok (.agg (cmdA d nv0)) z) : (execOp ev ⟨some 26, Op.fieldAddr 36 (Operand.tmp 8) 0, 0, "", #[], none⟩).run Try.prog z = .ok (.value (.pointer (some ⟨kb, 0, none⟩))) z := by
  obtain ⟨sa, sb⟩ := hS
  go_simp
theorem cl6_2 (L t kb : Nat) (s : Int) (d : Cs0) (nv0 : Value) (r n : Int) (ev : Operand → Value) (z : World) (ec : ∀ c, ev (.const c) = c) (e26 : ev (.tmp 26) = .pointer (some ⟨kb, 0, none⟩)) (hS : z.cell? ⟨kb, 0, none⟩ = some (.int .i64 s) ∧ (loadVar 34 ⟨kb, 2, none⟩).run Try.prog z = .ok (.agg (cmdA d nv0)) z) : (execOp ev ⟨some 27, Op.load 3 (Operand.tmp 26), 3, "", #[], none⟩).run Try.prog z = .ok (.value (.int .i64 s)) z := by
  obtain ⟨sa, sb⟩ := hS
  go_simp
theorem cl6_3 (L t kb : Nat) (s : Int) (d : Cs0) (nv0 : Value) (r n : Int) (ev : Operand → Value) (z : World) (ec : ∀ c, ev (.const c) = c) (e8 : ev (.tmp 8) = .pointer (some ⟨kb, 0, none⟩)) (hS : z.cell? ⟨kb, 0, none⟩ = some (.int .i64 s) ∧ (loadVar 34 ⟨kb, 2, none⟩).run Try.prog z = .ok (.agg (cmdA d nv0)) z) : (execOp ev ⟨some 28, Op.fieldAddr 36 (Operand.tmp 8) 2, 0, "", #[], none⟩).run Try.prog z = .ok (.value (.pointer (some ⟨kb, 2, none⟩))) z := by
  obtain ⟨sa, sb⟩ := hS
  go_simp
theorem cl6_4 (L t kb : Nat) (s : Int) (d : Cs0) (nv0 : Value) (r n : Int) (ev : Operand → Value) (z : World) (ec : ∀ c, ev (.const c) = c) (e28 : ev (.tmp 28) = .pointer (some ⟨kb, 2, none⟩)) (hS : z.cell? ⟨kb, 0, none⟩ = some (.int .i64 s) ∧ (loadVar 34 ⟨kb, 2, none⟩).run Try.prog z = .ok (.agg (cmdA d nv0)) z) : (execOp ev ⟨some 29, Op.load 34 (Operand.tmp 28), 34, "", #[], none⟩).run Try.prog z = .ok (.value (.agg (cmdA d nv0))) z := by
  exact exec_ldC e28 hS.2
theorem cl6_6 (L t kb : Nat) (s : Int) (d : Cs0) (nv0 : Value) (r n : Int) (ev : Operand → Value) (z : World) (ec : ∀ c, ev (.const c) = c) (e6 : ev (.tmp 6) = .pointer (some ⟨t, 0, none⟩)) (hS : z.cell? ⟨kb, 0, none⟩ = some (.int .i64 s) ∧ (loadVar 34 ⟨kb, 2, none⟩).run Try.prog z = .ok (.agg (cmdA d nv0)) z) : (execOp ev ⟨some 31, Op.move (Operand.tmp 6), 25, "", #[], none⟩).run Try.prog z = .ok (.value (.pointer (some ⟨t, 0, none⟩))) z := by
  obtain ⟨sa, sb⟩ := hS
  go_simp
theorem cl6_7 (L t kb : Nat) (s : Int) (d : Cs0) (nv0 : Value) (r n : Int) (ev : Operand → Value) (z : World) (ec : ∀ c, ev (.const c) = c) (e8 : ev (.tmp 8) = .pointer (some ⟨kb, 0, none⟩)) (hS : z.cell? ⟨kb, 0, none⟩ = some (.int .i64 s) ∧ (loadVar 34 ⟨kb, 2, none⟩).run Try.prog z = .ok (.agg (cmdA d nv0)) z) : (execOp ev ⟨some 32, Op.fieldAddr 36 (Operand.tmp 8) 0, 0, "", #[], none⟩).run Try.prog z = .ok (.value (.pointer (some ⟨kb, 0, none⟩))) z := by
  obtain ⟨sa, sb⟩ := hS
  go_simp
theorem cl6_8 (L t kb : Nat) (s : Int) (d : Cs0) (nv0 : Value) (r n : Int) (ev : Operand → Value) (z : World) (ec : ∀ c, ev (.const c) = c) (e32 : ev (.tmp 32) = .pointer (some ⟨kb, 0, none⟩)) (hS : z.cell? ⟨kb, 0, none⟩ = some (.int .i64 s) ∧ (loadVar 34 ⟨kb, 2, none⟩).run Try.prog z = .ok (.agg (cmdA d nv0)) z) : (execOp ev ⟨some 33, Op.load 3 (Operand.tmp 32), 3, "", #[], none⟩).run Try.prog z = .ok (.value (.int .i64 s)) z := by
  obtain ⟨sa, sb⟩ := hS
  go_simp
theorem cl6_9 (L t kb : Nat) (s : Int) (d : Cs0) (nv0 : Value) (r n : Int) (ev : Operand → Value) (z : World) (ec : ∀ c, ev (.const c) = c) (e8 : ev (.tmp 8) = .pointer (some ⟨kb, 0, none⟩)) (hS : z.cell? ⟨kb, 0, none⟩ = some (.int .i64 s) ∧ (loadVar 34 ⟨kb, 2, none⟩).run Try.prog z = .ok (.agg (cmdA d nv0)) z) : (execOp ev ⟨some 34, Op.fieldAddr 36 (Operand.tmp 8) 2, 0, "", #[], none⟩).run Try.prog z = .ok (.value (.pointer (some ⟨kb, 2, none⟩))) z := by
  obtain ⟨sa, sb⟩ := hS
  go_simp
theorem cl6_10 (L t kb : Nat) (s : Int) (d : Cs0) (nv0 : Value) (r n : Int) (ev : Operand → Value) (z : World) (ec : ∀ c, ev (.const c) = c) (e34 : ev (.tmp 34) = .pointer (some ⟨kb, 2, none⟩)) (hS : z.cell? ⟨kb, 0, none⟩ = some (.int .i64 s) ∧ (loadVar 34 ⟨kb, 2, none⟩).run Try.prog z = .ok (.agg (cmdA d nv0)) z) : (execOp ev ⟨some 35, Op.load 34 (Operand.tmp 34), 34, "", #[], none⟩).run Try.prog z = .ok (.value (.agg (cmdA d nv0))) z := by
  exact exec_ldC e34 hS.2
set_option maxRecDepth 100000 in
theorem cl6_5 (L t kb : Nat) (s : Int) (d : Cs0) (nv0 : Value) (r n : Int) (ev : Operand → Value) (z : World) (ec : ∀ c, ev (.const c) = c) (ef : ev (.func 10) = .func (.func 10) #[] #[]) (e25 : ev (.tmp 25) = .pointer (some ⟨L, 0, none⟩)) (e27 : ev (.tmp 27) = .int .i64 s) (e29 : ev (.tmp 29) = .agg (cmdA d nv0)) : (execOp ev ⟨some 30, Op.call { callee := Callee.value (Operand.func 10), args := #[Operand.tmp 25, Operand.tmp 27, Operand.tmp 29], argTypes := #[23, 3, 34] }, 37, "", #[], none⟩).run Try.prog z = .ok (.enter 10 #[.pointer (some ⟨L, 0, none⟩), .int .i64 s, .agg (cmdA d nv0)]) z :=
  enter_run _ ef (by simp only [List.map_toArray, List.map_cons, List.map_nil, ec, e25, e27, e29]) (fun _ => by rfl)
set_option maxRecDepth 100000 in
theorem cl6_11 (L t kb : Nat) (s : Int) (d : Cs0) (nv0 : Value) (r n : Int) (ev : Operand → Value) (z : World) (ec : ∀ c, ev (.const c) = c) (ef : ev (.func 11) = .func (.func 11) #[] #[]) (e31 : ev (.tmp 31) = .pointer (some ⟨t, 0, none⟩)) (e33 : ev (.tmp 33) = .int .i64 s) (e35 : ev (.tmp 35) = .agg (cmdA d nv0)) : (execOp ev ⟨some 36, Op.call { callee := Callee.value (Operand.func 11), args := #[Operand.tmp 31, Operand.tmp 33, Operand.tmp 35], argTypes := #[25, 3, 34] }, 37, "", #[], none⟩).run Try.prog z = .ok (.enter 11 #[.pointer (some ⟨t, 0, none⟩), .int .i64 s, .agg (cmdA d nv0)]) z :=
  enter_run _ ef (by simp only [List.map_toArray, List.map_cons, List.map_nil, ec, e31, e33, e35]) (fun _ => by rfl)
theorem cl6_12 (L t kb : Nat) (s : Int) (d : Cs0) (nv0 : Value) (r n : Int) (ev : Operand → Value) (z : World) (ec : ∀ c, ev (.const c) = c) (e30 : ev (.tmp 30) = .int .i64 r) (e36 : ev (.tmp 36) = .int .i64 r) (hS : z.cell? ⟨kb, 0, none⟩ = some (.int .i64 s) ∧ (loadVar 34 ⟨kb, 2, none⟩).run Try.prog z = .ok (.agg (cmdA d nv0)) z) : (execOp ev ⟨some 37, Op.binOp BinOp.neq 37 (Operand.tmp 30) (Operand.tmp 36) 37, 4, "", #[], none⟩).run Try.prog z = .ok (.value (.bool false)) z := by
  obtain ⟨sa, sb⟩ := hS
  go_simp
theorem cl6_13 (L t kb : Nat) (s : Int) (d : Cs0) (nv0 : Value) (r n : Int) (ev : Operand → Value) (z : World) (ec : ∀ c, ev (.const c) = c) (e37 : ev (.tmp 37) = .bool false) (hS : z.cell? ⟨kb, 0, none⟩ = some (.int .i64 s) ∧ (loadVar 34 ⟨kb, 2, none⟩).run Try.prog z = .ok (.agg (cmdA d nv0)) z) : (execOp ev ⟨some 38, Op.move (Operand.tmp 37), 4, "", #[], none⟩).run Try.prog z = .ok (.value (.bool false)) z := by
  obtain ⟨sa, sb⟩ := hS
  go_simp
theorem cl6_14 (L t kb : Nat) (s : Int) (d : Cs0) (nv0 : Value) (r n : Int) (ev : Operand → Value) (z : World) (ec : ∀ c, ev (.const c) = c) (e5 : ev (.tmp 5) = .pointer (some ⟨L, 0, none⟩)) (hS : z.cell? ⟨kb, 0, none⟩ = some (.int .i64 s) ∧ (loadVar 34 ⟨kb, 2, none⟩).run Try.prog z = .ok (.agg (cmdA d nv0)) z) : (execOp ev ⟨some 39, Op.move (Operand.tmp 5), 23, "", #[], some (13, false)⟩).run Try.prog z = .ok (.value (.pointer (some ⟨L, 0, none⟩))) z := by
  obtain ⟨sa, sb⟩ := hS
  go_simp
theorem cl6_16 (L t kb : Nat) (s : Int) (d : Cs0) (nv0 : Value) (r n : Int) (ev : Operand → Value) (z : World) (ec : ∀ c, ev (.const c) = c) (e6 : ev (.tmp 6) = .pointer (some ⟨t, 0, none⟩)) (hS : z.cell? ⟨kb, 0, none⟩ = some (.int .i64 s) ∧ (loadVar 34 ⟨kb, 2, none⟩).run Try.prog z = .ok (.agg (cmdA d nv0)) z) : (execOp ev ⟨some 41, Op.move (Operand.tmp 6), 25, "", #[], some (13, false)⟩).run Try.prog z = .ok (.value (.pointer (some ⟨t, 0, none⟩))) z := by
  obtain ⟨sa, sb⟩ := hS
  go_simp
set_option maxRecDepth 100000 in
theorem cl6_15 (L t kb : Nat) (s : Int) (d : Cs0) (nv0 : Value) (r n : Int) (ev : Operand → Value) (z : World) (ec : ∀ c, ev (.const c) = c) (ef : ev (.func 12) = .func (.func 12) #[] #[]) (e39 : ev (.tmp 39) = .pointer (some ⟨L, 0, none⟩)) : (execOp ev ⟨some 40, Op.call { callee := Callee.value (Operand.func 12), args := #[Operand.tmp 39], argTypes := #[23] }, 3, "", #[], some (13, false)⟩).run Try.prog z = .ok (.enter 12 #[.pointer (some ⟨L, 0, none⟩)]) z :=
  enter_run _ ef (by simp only [List.map_toArray, List.map_cons, List.map_nil, ec, e39]) (fun _ => by rfl)
set_option maxRecDepth 100000 in
theorem cl6_17 (L t kb : Nat) (s : Int) (d : Cs0) (nv0 : Value) (r n : Int) (ev : Operand → Value) (z : World) (ec : ∀ c, ev (.const c) = c) (ef : ev (.func 13) = .func (.func 13) #[] #[]) (e41 : ev (.tmp 41) = .pointer (some ⟨t, 0, none⟩)) : (execOp ev ⟨some 42, Op.call { callee := Callee.value (Operand.func 13), args := #[Operand.tmp 41], argTypes := #[25] }, 3, "", #[], some (13, false)⟩).run Try.prog z = .ok (.enter 13 #[.pointer (some ⟨t, 0, none⟩)]) z :=
  enter_run _ ef (by simp only [List.map_toArray, List.map_cons, List.map_nil, ec, e41]) (fun _ => by rfl)
theorem cl6_18 (L t kb : Nat) (s : Int) (d : Cs0) (nv0 : Value) (r n : Int) (ev : Operand → Value) (z : World) (ec : ∀ c, ev (.const c) = c) (e40 : ev (.tmp 40) = .int .i64 n) (e42 : ev (.tmp 42) = .int .i64 n) (hS : z.cell? ⟨kb, 0, none⟩ = some (.int .i64 s) ∧ (loadVar 34 ⟨kb, 2, none⟩).run Try.prog z = .ok (.agg (cmdA d nv0)) z) : (execOp ev ⟨some 43, Op.binOp BinOp.neq 3 (Operand.tmp 40) (Operand.tmp 42) 3, 4, "", #[], some (13, false)⟩).run Try.prog z = .ok (.value (.bool false)) z := by
  obtain ⟨sa, sb⟩ := hS
  go_simp
theorem cl6_19 (L t kb : Nat) (s : Int) (d : Cs0) (nv0 : Value) (r n : Int) (ev : Operand → Value) (z : World) (ec : ∀ c, ev (.const c) = c) (e38 : ev (.tmp 38) = .bool false) (e43 : ev (.tmp 43) = .bool false) (hS : z.cell? ⟨kb, 0, none⟩ = some (.int .i64 s) ∧ (loadVar 34 ⟨kb, 2, none⟩).run Try.prog z = .ok (.agg (cmdA d nv0)) z) : (execOp ev ⟨some 44, Op.pick (Operand.tmp 38) (Operand.const (Value.bool true)) (Operand.tmp 43), 4, "", #[], none⟩).run Try.prog z = .ok (.value (.bool false)) z := by
  obtain ⟨sa, sb⟩ := hS
  go_simp
structure cl6R (ops : Array Oper) : Prop where
  size : ops.size = 20
  sel : Region.noSelect ops = true
  o0 : (ops[0]?).map bare = some ⟨some 25, Op.move (Operand.tmp 5), 23, "", #[], none⟩
  o1 : (ops[1]?).map bare = some ⟨some 26, Op.fieldAddr 36 (Operand.tmp 8) 0, 0, "", #[], none⟩
  o2 : (ops[2]?).map bare = some ⟨some 27, Op.load 3 (Operand.tmp 26), 3, "", #[], none⟩
  o3 : (ops[3]?).map bare = some ⟨some 28, Op.fieldAddr 36 (Operand.tmp 8) 2, 0, "", #[], none⟩
  o4 : (ops[4]?).map bare = some ⟨some 29, Op.load 34 (Operand.tmp 28), 34, "", #[], none⟩
  o5 : (ops[5]?).map bare = some ⟨some 30, Op.call { callee := Callee.value (Operand.func 10), args := #[Operand.tmp 25, Operand.tmp 27, Operand.tmp 29], argTypes := #[23, 3, 34] }, 37, "", #[], none⟩
  o6 : (ops[6]?).map bare = some ⟨some 31, Op.move (Operand.tmp 6), 25, "", #[], none⟩
  o7 : (ops[7]?).map bare = some ⟨some 32, Op.fieldAddr 36 (Operand.tmp 8) 0, 0, "", #[], none⟩
  o8 : (ops[8]?).map bare = some ⟨some 33, Op.load 3 (Operand.tmp 32), 3, "", #[], none⟩
  o9 : (ops[9]?).map bare = some ⟨some 34, Op.fieldAddr 36 (Operand.tmp 8) 2, 0, "", #[], none⟩
  o10 : (ops[10]?).map bare = some ⟨some 35, Op.load 34 (Operand.tmp 34), 34, "", #[], none⟩
  o11 : (ops[11]?).map bare = some ⟨some 36, Op.call { callee := Callee.value (Operand.func 11), args := #[Operand.tmp 31, Operand.tmp 33, Operand.tmp 35], argTypes := #[25, 3, 34] }, 37, "", #[], none⟩
  o12 : (ops[12]?).map bare = some ⟨some 37, Op.binOp BinOp.neq 37 (Operand.tmp 30) (Operand.tmp 36) 37, 4, "", #[], none⟩
  o13 : (ops[13]?).map bare = some ⟨some 38, Op.move (Operand.tmp 37), 4, "", #[], none⟩
  o14 : (ops[14]?).map bare = some ⟨some 39, Op.move (Operand.tmp 5), 23, "", #[], some (13, false)⟩
  o15 : (ops[15]?).map bare = some ⟨some 40, Op.call { callee := Callee.value (Operand.func 12), args := #[Operand.tmp 39], argTypes := #[23] }, 3, "", #[], some (13, false)⟩
  o16 : (ops[16]?).map bare = some ⟨some 41, Op.move (Operand.tmp 6), 25, "", #[], some (13, false)⟩
  o17 : (ops[17]?).map bare = some ⟨some 42, Op.call { callee := Callee.value (Operand.func 13), args := #[Operand.tmp 41], argTypes := #[25] }, 3, "", #[], some (13, false)⟩
  o18 : (ops[18]?).map bare = some ⟨some 43, Op.binOp BinOp.neq 3 (Operand.tmp 40) (Operand.tmp 42) 3, 4, "", #[], some (13, false)⟩
  o19 : (ops[19]?).map bare = some ⟨some 44, Op.pick (Operand.tmp 38) (Operand.const (Value.bool true)) (Operand.tmp 43), 4, "", #[], none⟩
  may0 : takeB .any ops [0, 1, 2, 3, 4, 6, 7, 8, 9, 10] (Array.replicate 20 false) = true
  r5 : Region.ready .any ops (mark [0, 1, 2, 3, 4, 6, 7, 8, 9, 10] (Array.replicate 20 false)) = [5]
  r11 : Region.ready .any ops ((mark [0, 1, 2, 3, 4, 6, 7, 8, 9, 10] (Array.replicate 20 false)).setIfInBounds 5 true) = [11]
  may1 : takeB .any ops [12, 13, 14, 16] (((mark [0, 1, 2, 3, 4, 6, 7, 8, 9, 10] (Array.replicate 20 false)).setIfInBounds 5 true).setIfInBounds 11 true) = true
  r15 : Region.ready .any ops (mark [12, 13, 14, 16] (((mark [0, 1, 2, 3, 4, 6, 7, 8, 9, 10] (Array.replicate 20 false)).setIfInBounds 5 true).setIfInBounds 11 true)) = [15]
  r17 : Region.ready .any ops ((mark [12, 13, 14, 16] (((mark [0, 1, 2, 3, 4, 6, 7, 8, 9, 10] (Array.replicate 20 false)).setIfInBounds 5 true).setIfInBounds 11 true)).setIfInBounds 15 true) = [17]
  may2 : takeB .any ops [18, 19] (((mark [12, 13, 14, 16] (((mark [0, 1, 2, 3, 4, 6, 7, 8, 9, 10] (Array.replicate 20 false)).setIfInBounds 5 true).setIfInBounds 11 true)).setIfInBounds 15 true).setIfInBounds 17 true) = true
  fin : Region.ready .any ops (mark [18, 19] (((mark [12, 13, 14, 16] (((mark [0, 1, 2, 3, 4, 6, 7, 8, 9, 10] (Array.replicate 20 false)).setIfInBounds 5 true).setIfInBounds 11 true)).setIfInBounds 15 true).setIfInBounds 17 true)) = []

set_option maxRecDepth 100000 in
set_option maxHeartbeats 3200000 in
theorem cl6_region {ops : Array Oper} {id : Nat} {Q : Exit → Act → World → Prop} {a : Act} {y : World} (R : cl6R ops) (L t kb : Nat) (s : Int) (d : Cs0) (nv0 : Value) (r n : Int)
    (hQ : ∀ d v c a w, Q (.panic c) (a.put d v) w → Q (.panic c) a w) (hsz : a.tmps.size = 88) (e5 : a.eval (.tmp 5) = .pointer (some ⟨L, 0, none⟩)) (e6 : a.eval (.tmp 6) = .pointer (some ⟨t, 0, none⟩)) (e8 : a.eval (.tmp 8) = .pointer (some ⟨kb, 0, none⟩)) (hS0 : (y.drew.cell? ⟨kb, 0, none⟩ = some (.int .i64 s) ∧ (loadVar 34 ⟨kb, 2, none⟩).run Try.prog y.drew = .ok (.agg (cmdA d nv0)) y.drew)) (T : World → Prop) (hc : Calls Try.prog 10 #[.pointer (some ⟨L, 0, none⟩), .int .i64 s, .agg (cmdA d nv0)] y.drew fun e w9 => ∃ r : Int, e = .returned (.int .i64 r) ∧ (w9.cell? ⟨kb, 0, none⟩ = some (.int .i64 s) ∧ (loadVar 34 ⟨kb, 2, none⟩).run Try.prog w9 = .ok (.agg (cmdA d nv0)) w9) ∧ Calls Try.prog 11 #[.pointer (some ⟨t, 0, none⟩), .int .i64 s, .agg (cmdA d nv0)] w9 fun e w9 => e = .returned (.int .i64 r) ∧ (w9.cell? ⟨kb, 0, none⟩ = some (.int .i64 s) ∧ (loadVar 34 ⟨kb, 2, none⟩).run Try.prog w9 = .ok (.agg (cmdA d nv0)) w9) ∧ ∃ n : Int, Calls Try.prog 12 #[.pointer (some ⟨L, 0, none⟩)] w9 fun e w9 => e = .returned (.int .i64 n) ∧ (w9.cell? ⟨kb, 0, none⟩ = some (.int .i64 s) ∧ (loadVar 34 ⟨kb, 2, none⟩).run Try.prog w9 = .ok (.agg (cmdA d nv0)) w9) ∧ Calls Try.prog 13 #[.pointer (some ⟨t, 0, none⟩)] w9 fun e w9 => e = .returned (.int .i64 n) ∧ (w9.cell? ⟨kb, 0, none⟩ = some (.int .i64 s) ∧ (loadVar 34 ⟨kb, 2, none⟩).run Try.prog w9 = .ok (.agg (cmdA d nv0)) w9) ∧ T w9)
    (hK : ∀ (r n : Int) (w9 : World), T w9 → Q .normal ((((((((((((((((((((a.put (some 25) (.pointer (some ⟨L, 0, none⟩))).put (some 26) (.pointer (some ⟨kb, 0, none⟩))).put (some 27) (.int .i64 s)).put (some 28) (.pointer (some ⟨kb, 2, none⟩))).put (some 29) (.agg (cmdA d nv0))).put (some 31) (.pointer (some ⟨t, 0, none⟩))).put (some 32) (.pointer (some ⟨kb, 0, none⟩))).put (some 33) (.int .i64 s)).put (some 34) (.pointer (some ⟨kb, 2, none⟩))).put (some 35) (.agg (cmdA d nv0))).put (some 30) (.int .i64 r)).put (some 36) (.int .i64 r)).put (some 37) (.bool false)).put (some 38) (.bool false)).put (some 39) (.pointer (some ⟨L, 0, none⟩))).put (some 41) (.pointer (some ⟨t, 0, none⟩))).put (some 40) (.int .i64 n)).put (some 42) (.int .i64 n)).put (some 43) (.bool false)).put (some 44) (.bool false)) w9) : (Code.region id ops true).wp Try.prog Q a y := by
  have HR : Hid (cl6R ops) := R
  have hdf : a.defers = a.defers := rfl
  refine wp_region_held_drew (S := (fun z : World => z.cell? ⟨kb, 0, none⟩ = some (.int .i64 s) ∧ (loadVar 34 ⟨kb, 2, none⟩).run Try.prog z = .ok (.agg (cmdA d nv0)) z)) (by kernel_rfl) (hS0) (fun hHeld => ?_)
  rw [R.size]
  clear R
  refine wpAnyH_takes HR.out.sel hQ hHeld [0, 1, 2, 3, 4, 6, 7, 8, 9, 10] 10 _ _ HR.out.may0 ?_
  refine wpTake_stepE ⟨some 25, Op.move (Operand.tmp 5), 23, "", #[], none⟩ 25 (.pointer (some ⟨L, 0, none⟩)) HR.out.o0 rfl (by rw [hsz]; decide) (wanted_none rfl) (fun z hS => cl6_0 L t kb s d nv0 r n _ z (fun _ => rfl) e5 hS) ?_
  intro a1 ha1 s1 f1 n1 k1
  replace hsz := s1.trans hsz
  replace hdf := f1.trans hdf
  replace e5 := (k1 5 (by decide)).trans e5
  replace e6 := (k1 6 (by decide)).trans e6
  replace e8 := (k1 8 (by decide)).trans e8
  have e25 := n1
  clear s1 f1 n1 k1
  refine wpTake_stepE ⟨some 26, Op.fieldAddr 36 (Operand.tmp 8) 0, 0, "", #[], none⟩ 26 (.pointer (some ⟨kb, 0, none⟩)) HR.out.o1 rfl (by rw [hsz]; decide) (wanted_none rfl) (fun z hS => cl6_1 L t kb s d nv0 r n _ z (fun _ => rfl) e8 hS) ?_
  intro a2 ha2 s1 f1 n1 k1
  replace hsz := s1.trans hsz
  replace hdf := f1.trans hdf
  replace e5 := (k1 5 (by decide)).trans e5
  replace e6 := (k1 6 (by decide)).trans e6
  replace e8 := (k1 8 (by decide)).trans e8
  replace e25 := (k1 25 (by decide)).trans e25
  have e26 := n1
  clear s1 f1 n1 k1
  refine wpTake_stepE ⟨some 27, Op.load 3 (Operand.tmp 26), 3, "", #[], none⟩ 27 (.int .i64 s) HR.out.o2 rfl (by rw [hsz]; decide) (wanted_none rfl) (fun z hS => cl6_2 L t kb s d nv0 r n _ z (fun _ => rfl) e26 hS) ?_
  intro a3 ha3 s1 f1 n1 k1
  replace hsz := s1.trans hsz
  replace hdf := f1.trans hdf
  replace e5 := (k1 5 (by decide)).trans e5
  replace e6 := (k1 6 (by decide)).trans e6
  replace e8 := (k1 8 (by decide)).trans e8
  replace e25 := (k1 25 (by decide)).trans e25
  have e27 := n1
  clear s1 f1 n1 k1
  refine wpTake_stepE ⟨some 28, Op.fieldAddr 36 (Operand.tmp 8) 2, 0, "", #[], none⟩ 28 (.pointer (some ⟨kb, 2, none⟩)) HR.out.o3 rfl (by rw [hsz]; decide) (wanted_none rfl) (fun z hS => cl6_3 L t kb s d nv0 r n _ z (fun _ => rfl) e8 hS) ?_
  intro a4 ha4 s1 f1 n1 k1
  replace hsz := s1.trans hsz
  replace hdf := f1.trans hdf
  replace e5 := (k1 5 (by decide)).trans e5
  replace e6 := (k1 6 (by decide)).trans e6
  replace e8 := (k1 8 (by decide)).trans e8
  replace e25 := (k1 25 (by decide)).trans e25
  replace e27 := (k1 27 (by decide)).trans e27
  have e28 := n1
  clear s1 f1 n1 k1
  refine wpTake_stepE ⟨some 29, Op.load 34 (Operand.tmp 28), 34, "", #[], none⟩ 29 (.agg (cmdA d nv0)) HR.out.o4 rfl (by rw [hsz]; decide) (wanted_none rfl) (fun z hS => cl6_4 L t kb s d nv0 r n _ z (fun _ => rfl) e28 hS) ?_
  intro a5 ha5 s1 f1 n1 k1
  replace hsz := s1.trans hsz
  replace hdf := f1.trans hdf
  replace e5 := (k1 5 (by decide)).trans e5
  replace e6 := (k1 6 (by decide)).trans e6
  replace e8 := (k1 8 (by decide)).trans e8
  replace e25 := (k1 25 (by decide)).trans e25
  replace e27 := (k1 27 (by decide)).trans e27
  have e29 := n1
  clear s1 f1 n1 k1
  refine wpTake_stepE ⟨some 31, Op.move (Operand.tmp 6), 25, "", #[], none⟩ 31 (.pointer (some ⟨t, 0, none⟩)) HR.out.o6 rfl (by rw [hsz]; decide) (wanted_none rfl) (fun z hS => cl6_6 L t kb s d nv0 r n _ z (fun _ => rfl) e6 hS) ?_
  intro a6 ha6 s1 f1 n1 k1
  replace hsz := s1.trans hsz
  replace hdf := f1.trans hdf
  replace e5 := (k1 5 (by decide)).trans e5
  replace e6 := (k1 6 (by decide)).trans e6
  replace e8 := (k1 8 (by decide)).trans e8
  replace e25 := (k1 25 (by decide)).trans e25
  replace e27 := (k1 27 (by decide)).trans e27
  replace e29 := (k1 29 (by decide)).trans e29
  have e31 := n1
  clear s1 f1 n1 k1
  refine wpTake_stepE ⟨some 32, Op.fieldAddr 36 (Operand.tmp 8) 0, 0, "", #[], none⟩ 32 (.pointer (some ⟨kb, 0, none⟩)) HR.out.o7 rfl (by rw [hsz]; decide) (wanted_none rfl) (fun z hS => cl6_7 L t kb s d nv0 r n _ z (fun _ => rfl) e8 hS) ?_
  intro a7 ha7 s1 f1 n1 k1
  replace hsz := s1.trans hsz
  replace hdf := f1.trans hdf
  replace e5 := (k1 5 (by decide)).trans e5
  replace e6 := (k1 6 (by decide)).trans e6
  replace e8 := (k1 8 (by decide)).trans e8
  replace e25 := (k1 25 (by decide)).trans e25
  replace e27 := (k1 27 (by decide)).trans e27
  replace e29 := (k1 29 (by decide)).trans e29
  replace e31 := (k1 31 (by decide)).trans e31
  have e32 := n1
  clear s1 f1 n1 k1
  refine wpTake_stepE ⟨some 33, Op.load 3 (Operand.tmp 32), 3, "", #[], none⟩ 33 (.int .i64 s) HR.out.o8 rfl (by rw [hsz]; decide) (wanted_none rfl) (fun z hS => cl6_8 L t kb s d nv0 r n _ z (fun _ => rfl) e32 hS) ?_
  intro a8 ha8 s1 f1 n1 k1
  replace hsz := s1.trans hsz
  replace hdf := f1.trans hdf
  replace e5 := (k1 5 (by decide)).trans e5
  replace e6 := (k1 6 (by decide)).trans e6
  replace e8 := (k1 8 (by decide)).trans e8
  replace e25 := (k1 25 (by decide)).trans e25
  replace e27 := (k1 27 (by decide)).trans e27
  replace e29 := (k1 29 (by decide)).trans e29
  replace e31 := (k1 31 (by decide)).trans e31
  have e33 := n1
  clear s1 f1 n1 k1
  refine wpTake_stepE ⟨some 34, Op.fieldAddr 36 (Operand.tmp 8) 2, 0, "", #[], none⟩ 34 (.pointer (some ⟨kb, 2, none⟩)) HR.out.o9 rfl (by rw [hsz]; decide) (wanted_none rfl) (fun z hS => cl6_9 L t kb s d nv0 r n _ z (fun _ => rfl) e8 hS) ?_
  intro a9 ha9 s1 f1 n1 k1
  replace hsz := s1.trans hsz
  replace hdf := f1.trans hdf
  replace e5 := (k1 5 (by decide)).trans e5
  replace e6 := (k1 6 (by decide)).trans e6
  replace e8 := (k1 8 (by decide)).trans e8
  replace e25 := (k1 25 (by decide)).trans e25
  replace e27 := (k1 27 (by decide)).trans e27
  replace e29 := (k1 29 (by decide)).trans e29
  replace e31 := (k1 31 (by decide)).trans e31
  replace e33 := (k1 33 (by decide)).trans e33
  have e34 := n1
  clear s1 f1 n1 k1
  refine wpTake_stepE ⟨some 35, Op.load 34 (Operand.tmp 34), 34, "", #[], none⟩ 35 (.agg (cmdA d nv0)) HR.out.o10 rfl (by rw [hsz]; decide) (wanted_none rfl) (fun z hS => cl6_10 L t kb s d nv0 r n _ z (fun _ => rfl) e34 hS) ?_
  intro a10 ha10 s1 f1 n1 k1
  replace hsz := s1.trans hsz
  replace hdf := f1.trans hdf
  replace e5 := (k1 5 (by decide)).trans e5
  replace e6 := (k1 6 (by decide)).trans e6
  replace e8 := (k1 8 (by decide)).trans e8
  replace e25 := (k1 25 (by decide)).trans e25
  replace e27 := (k1 27 (by decide)).trans e27
  replace e29 := (k1 29 (by decide)).trans e29
  replace e31 := (k1 31 (by decide)).trans e31
  replace e33 := (k1 33 (by decide)).trans e33
  have e35 := n1
  clear s1 f1 n1 k1
  refine wpTake_nil ?_
  refine wpAnyH_one ⟨some 30, Op.call { callee := Callee.value (Operand.func 10), args := #[Operand.tmp 25, Operand.tmp 27, Operand.tmp 29], argTypes := #[23, 3, 34] }, 37, "", #[], none⟩ HR.out.r5 HR.out.o5 rfl (fun K' hK' => ?_)
  refine wp_enter (cl6_5 L t kb s d nv0 r n _ _ (fun _ => rfl) rfl e25 e27 e29) (hc) ?_
  rintro e9 w9 ⟨r, rfl, hS9, hc2⟩
  refine ⟨_, rfl, hK'.out _ _ (hS9) ?_⟩
  replace hHeld := hS9
  clear hK' K'
  show wpAnyH _ _ _ _ _ _ _ (Act.put a10 (some 30) (.int .i64 r)) _
  obtain ⟨s1, f1, n1, k1⟩ := act_put a10 30 (.int .i64 r) (show 30 < _ by rw [hsz]; decide)
  obtain ⟨a11, ha11⟩ : ∃ x, x = Act.put a10 (some 30) (.int .i64 r) := ⟨_, rfl⟩
  rw [← ha11] at s1 f1 n1 k1 ⊢
  replace hsz := s1.trans hsz
  replace hdf := f1.trans hdf
  replace e5 := (k1 5 (by decide)).trans e5
  replace e6 := (k1 6 (by decide)).trans e6
  replace e8 := (k1 8 (by decide)).trans e8
  replace e31 := (k1 31 (by decide)).trans e31
  replace e33 := (k1 33 (by decide)).trans e33
  replace e35 := (k1 35 (by decide)).trans e35
  have e30 := n1
  clear s1 f1 n1 k1
  refine wpAnyH_one ⟨some 36, Op.call { callee := Callee.value (Operand.func 11), args := #[Operand.tmp 31, Operand.tmp 33, Operand.tmp 35], argTypes := #[25, 3, 34] }, 37, "", #[], none⟩ HR.out.r11 HR.out.o11 rfl (fun K' hK' => ?_)
  refine wp_enter (cl6_11 L t kb s d nv0 r n _ _ (fun _ => rfl) rfl e31 e33 e35) (hc2) ?_
  rintro e9 w9 ⟨rfl, hS9, n, hc3⟩
  refine ⟨_, rfl, hK'.out _ _ (hS9) ?_⟩
  replace hHeld := hS9
  clear hK' K'
  show wpAnyH _ _ _ _ _ _ _ (Act.put a11 (some 36) (.int .i64 r)) _
  obtain ⟨s1, f1, n1, k1⟩ := act_put a11 36 (.int .i64 r) (show 36 < _ by rw [hsz]; decide)
  obtain ⟨a12, ha12⟩ : ∃ x, x = Act.put a11 (some 36) (.int .i64 r) := ⟨_, rfl⟩
  rw [← ha12] at s1 f1 n1 k1 ⊢
  replace hsz := s1.trans hsz
  replace hdf := f1.trans hdf
  replace e5 := (k1 5 (by decide)).trans e5
  replace e6 := (k1 6 (by decide)).trans e6
  replace e8 := (k1 8 (by decide)).trans e8
  replace e30 := (k1 30 (by decide)).trans e30
  have e36 := n1
  clear s1 f1 n1 k1
  refine wpAnyH_takes HR.out.sel hQ hHeld [12, 13, 14, 16] 4 _ _ HR.out.may1 ?_
  refine wpTake_stepE ⟨some 37, Op.binOp BinOp.neq 37 (Operand.tmp 30) (Operand.tmp 36) 37, 4, "", #[], none⟩ 37 (.bool false) HR.out.o12 rfl (by rw [hsz]; decide) (wanted_none rfl) (fun z hS => cl6_12 L t kb s d nv0 r n _ z (fun _ => rfl) e30 e36 hS) ?_
  intro a13 ha13 s1 f1 n1 k1
  replace hsz := s1.trans hsz
  replace hdf := f1.trans hdf
  replace e5 := (k1 5 (by decide)).trans e5
  replace e6 := (k1 6 (by decide)).trans e6
  replace e8 := (k1 8 (by decide)).trans e8
  have e37 := n1
  clear s1 f1 n1 k1
  refine wpTake_stepE ⟨some 38, Op.move (Operand.tmp 37), 4, "", #[], none⟩ 38 (.bool false) HR.out.o13 rfl (by rw [hsz]; decide) (wanted_none rfl) (fun z hS => cl6_13 L t kb s d nv0 r n _ z (fun _ => rfl) e37 hS) ?_
  intro a14 ha14 s1 f1 n1 k1
  replace hsz := s1.trans hsz
  replace hdf := f1.trans hdf
  replace e5 := (k1 5 (by decide)).trans e5
  replace e6 := (k1 6 (by decide)).trans e6
  replace e8 := (k1 8 (by decide)).trans e8
  have e38 := n1
  clear s1 f1 n1 k1
  refine wpTake_stepE ⟨some 39, Op.move (Operand.tmp 5), 23, "", #[], some (13, false)⟩ 39 (.pointer (some ⟨L, 0, none⟩)) HR.out.o14 rfl (by rw [hsz]; decide) (wanted_some rfl (yielded_of HR.out.o13 rfl e38 (by rw [hsz]; decide))) (fun z hS => cl6_14 L t kb s d nv0 r n _ z (fun _ => rfl) e5 hS) ?_
  intro a15 ha15 s1 f1 n1 k1
  replace hsz := s1.trans hsz
  replace hdf := f1.trans hdf
  replace e5 := (k1 5 (by decide)).trans e5
  replace e6 := (k1 6 (by decide)).trans e6
  replace e8 := (k1 8 (by decide)).trans e8
  replace e38 := (k1 38 (by decide)).trans e38
  have e39 := n1
  clear s1 f1 n1 k1
  refine wpTake_stepE ⟨some 41, Op.move (Operand.tmp 6), 25, "", #[], some (13, false)⟩ 41 (.pointer (some ⟨t, 0, none⟩)) HR.out.o16 rfl (by rw [hsz]; decide) (wanted_some rfl (yielded_of HR.out.o13 rfl e38 (by rw [hsz]; decide))) (fun z hS => cl6_16 L t kb s d nv0 r n _ z (fun _ => rfl) e6 hS) ?_
  intro a16 ha16 s1 f1 n1 k1
  replace hsz := s1.trans hsz
  replace hdf := f1.trans hdf
  replace e5 := (k1 5 (by decide)).trans e5
  replace e6 := (k1 6 (by decide)).trans e6
  replace e8 := (k1 8 (by decide)).trans e8
  replace e38 := (k1 38 (by decide)).trans e38
  replace e39 := (k1 39 (by decide)).trans e39
  have e41 := n1
  clear s1 f1 n1 k1
  refine wpTake_nil ?_
  refine wpAnyH_oneG ⟨some 40, Op.call { callee := Callee.value (Operand.func 12), args := #[Operand.tmp 39], argTypes := #[23] }, 3, "", #[], some (13, false)⟩ HR.out.r15 HR.out.o15 (wanted_some rfl (yielded_of HR.out.o13 rfl e38 (by rw [hsz]; decide))) (fun K' hK' => ?_)
  refine wp_enter (cl6_15 L t kb s d nv0 r n _ _ (fun _ => rfl) rfl e39) (hc3) ?_
  rintro e9 w9 ⟨rfl, hS9, hc4⟩
  refine ⟨_, rfl, hK'.out _ _ (hS9) ?_⟩
  replace hHeld := hS9
  clear hK' K'
  show wpAnyH _ _ _ _ _ _ _ (Act.put a16 (some 40) (.int .i64 n)) _
  obtain ⟨s1, f1, n1, k1⟩ := act_put a16 40 (.int .i64 n) (show 40 < _ by rw [hsz]; decide)
  obtain ⟨a17, ha17⟩ : ∃ x, x = Act.put a16 (some 40) (.int .i64 n) := ⟨_, rfl⟩
  rw [← ha17] at s1 f1 n1 k1 ⊢
  replace hsz := s1.trans hsz
  replace hdf := f1.trans hdf
  replace e5 := (k1 5 (by decide)).trans e5
  replace e6 := (k1 6 (by decide)).trans e6
  replace e8 := (k1 8 (by decide)).trans e8
  replace e38 := (k1 38 (by decide)).trans e38
  replace e41 := (k1 41 (by decide)).trans e41
  have e40 := n1
  clear s1 f1 n1 k1
  refine wpAnyH_oneG ⟨some 42, Op.call { callee := Callee.value (Operand.func 13), args := #[Operand.tmp 41], argTypes := #[25] }, 3, "", #[], some (13, false)⟩ HR.out.r17 HR.out.o17 (wanted_some rfl (yielded_of HR.out.o13 rfl e38 (by rw [hsz]; decide))) (fun K' hK' => ?_)
  refine wp_enter (cl6_17 L t kb s d nv0 r n _ _ (fun _ => rfl) rfl e41) (hc4) ?_
  rintro e9 w9 ⟨rfl, hS9, hT⟩
  refine ⟨_, rfl, hK'.out _ _ (hS9) ?_⟩
  replace hHeld := hS9
  clear hK' K'
  show wpAnyH _ _ _ _ _ _ _ (Act.put a17 (some 42) (.int .i64 n)) _
  obtain ⟨s1, f1, n1, k1⟩ := act_put a17 42 (.int .i64 n) (show 42 < _ by rw [hsz]; decide)
  obtain ⟨a18, ha18⟩ : ∃ x, x = Act.put a17 (some 42) (.int .i64 n) := ⟨_, rfl⟩
  rw [← ha18] at s1 f1 n1 k1 ⊢
  replace hsz := s1.trans hsz
  replace hdf := f1.trans hdf
  replace e5 := (k1 5 (by decide)).trans e5
  replace e6 := (k1 6 (by decide)).trans e6
  replace e8 := (k1 8 (by decide)).trans e8
  replace e38 := (k1 38 (by decide)).trans e38
  replace e40 := (k1 40 (by decide)).trans e40
  have e42 := n1
  clear s1 f1 n1 k1
  refine wpAnyH_takes HR.out.sel hQ hHeld [18, 19] 0 _ _ HR.out.may2 ?_
  refine wpTake_stepE ⟨some 43, Op.binOp BinOp.neq 3 (Operand.tmp 40) (Operand.tmp 42) 3, 4, "", #[], some (13, false)⟩ 43 (.bool false) HR.out.o18 rfl (by rw [hsz]; decide) (wanted_some rfl (yielded_of HR.out.o13 rfl e38 (by rw [hsz]; decide))) (fun z hS => cl6_18 L t kb s d nv0 r n _ z (fun _ => rfl) e40 e42 hS) ?_
  intro a19 ha19 s1 f1 n1 k1
  replace hsz := s1.trans hsz
  replace hdf := f1.trans hdf
  replace e5 := (k1 5 (by decide)).trans e5
  replace e6 := (k1 6 (by decide)).trans e6
  replace e8 := (k1 8 (by decide)).trans e8
  replace e38 := (k1 38 (by decide)).trans e38
  have e43 := n1
  clear s1 f1 n1 k1
  refine wpTake_stepE ⟨some 44, Op.pick (Operand.tmp 38) (Operand.const (Value.bool true)) (Operand.tmp 43), 4, "", #[], none⟩ 44 (.bool false) HR.out.o19 rfl (by rw [hsz]; decide) (wanted_none rfl) (fun z hS => cl6_19 L t kb s d nv0 r n _ z (fun _ => rfl) e38 e43 hS) ?_
  intro a20 ha20 s1 f1 n1 k1
  replace hsz := s1.trans hsz
  replace hdf := f1.trans hdf
  replace e5 := (k1 5 (by decide)).trans e5
  replace e6 := (k1 6 (by decide)).trans e6
  replace e8 := (k1 8 (by decide)).trans e8
  clear s1 f1 n1 k1
  refine wpTake_nil ?_
  refine wpAnyH_done HR.out.fin ?_ _
  rw [ha20, ha19, ha18, ha17, ha16, ha15, ha14, ha13, ha12, ha11, ha10, ha9, ha8, ha7, ha6, ha5, ha4, ha3, ha2, ha1]
  exact hK _ _ _ hT
-- R6: ⟨by kernel_rfl, by kernel_rfl, by kernel_rfl, by kernel_rfl, by kernel_rfl, by kernel_rfl, by kernel_rfl, by kernel_rfl, by kernel_rfl, by kernel_rfl, by kernel_rfl, by kernel_rfl, by kernel_rfl, by kernel_rfl, by kernel_rfl, by kernel_rfl, by kernel_rfl, by kernel_rfl, by kernel_rfl, by kernel_rfl, by kernel_rfl, by kernel_rfl, by kernel_rfl, by kernel_rfl, by kernel_rfl, by kernel_rfl, by kernel_rfl, by kernel_rfl, by kernel_rfl, by kernel_rfl⟩

theorem cl10_0 (L t kb pa pb : Nat) (s most : Int) (b : Bool) (va vb : Array Value) (v1 v2 : Value) (ev : Operand → Value) (z : World) (ec : ∀ c, ev (.const c) = c) (e10 : ev (.tmp 10) = .bool b) (hS : z.cell? ⟨kb, 0, none⟩ = some (.int .i64 s) ∧ (loadVar 34 ⟨pa, 0, none⟩).run Try.prog z = .ok (.agg va) z ∧ (loadVar 34 ⟨pb, 0, none⟩).run Try.prog z = .ok (.agg vb) z) : (execOp ev ⟨some 59, Op.move (Operand.tmp 10), 4, "", #[], none⟩).run Try.prog z = .ok (.value (.bool b)) z := by
  obtain ⟨sa, sb, sc⟩ := hS
  go_simp
theorem cl10_1 (L t kb pa pb : Nat) (s most : Int) (b : Bool) (va vb : Array Value) (v1 v2 : Value) (ev : Operand → Value) (z : World) (ec : ∀ c, ev (.const c) = c) (e12 : ev (.tmp 12) = .bool b) (hS : z.cell? ⟨kb, 0, none⟩ = some (.int .i64 s) ∧ (loadVar 34 ⟨pa, 0, none⟩).run Try.prog z = .ok (.agg va) z ∧ (loadVar 34 ⟨pb, 0, none⟩).run Try.prog z = .ok (.agg vb) z) : (execOp ev ⟨some 60, Op.move (Operand.tmp 12), 4, "", #[], none⟩).run Try.prog z = .ok (.value (.bool b)) z := by
  obtain ⟨sa, sb, sc⟩ := hS
  go_simp
theorem cl10_2 (L t kb pa pb : Nat) (s most : Int) (b : Bool) (va vb : Array Value) (v1 v2 : Value) (ev : Operand → Value) (z : World) (ec : ∀ c, ev (.const c) = c) (e59 : ev (.tmp 59) = .bool b) (e60 : ev (.tmp 60) = .bool b) (hS : z.cell? ⟨kb, 0, none⟩ = some (.int .i64 s) ∧ (loadVar 34 ⟨pa, 0, none⟩).run Try.prog z = .ok (.agg va) z ∧ (loadVar 34 ⟨pb, 0, none⟩).run Try.prog z = .ok (.agg vb) z) : (execOp ev ⟨some 61, Op.binOp BinOp.neq 4 (Operand.tmp 59) (Operand.tmp 60) 4, 4, "", #[], none⟩).run Try.prog z = .ok (.value (.bool false)) z := by
  obtain ⟨sa, sb, sc⟩ := hS
  cases b <;> go_simp
theorem cl10_3 (L t kb pa pb : Nat) (s most : Int) (b : Bool) (va vb : Array Value) (v1 v2 : Value) (ev : Operand → Value) (z : World) (ec : ∀ c, ev (.const c) = c) (e61 : ev (.tmp 61) = .bool false) (hS : z.cell? ⟨kb, 0, none⟩ = some (.int .i64 s) ∧ (loadVar 34 ⟨pa, 0, none⟩).run Try.prog z = .ok (.agg va) z ∧ (loadVar 34 ⟨pb, 0, none⟩).run Try.prog z = .ok (.agg vb) z) : (execOp ev ⟨some 62, Op.move (Operand.tmp 61), 4, "", #[], none⟩).run Try.prog z = .ok (.value (.bool false)) z := by
  obtain ⟨sa, sb, sc⟩ := hS
  go_simp
theorem cl10_4 (L t kb pa pb : Nat) (s most : Int) (b : Bool) (va vb : Array Value) (v1 v2 : Value) (ev : Operand → Value) (z : World) (ec : ∀ c, ev (.const c) = c) (e9 : ev (.tmp 9) = .pointer (some ⟨pa, 0, none⟩)) (hS : z.cell? ⟨kb, 0, none⟩ = some (.int .i64 s) ∧ (loadVar 34 ⟨pa, 0, none⟩).run Try.prog z = .ok (.agg va) z ∧ (loadVar 34 ⟨pb, 0, none⟩).run Try.prog z = .ok (.agg vb) z) : (execOp ev ⟨some 63, Op.load 34 (Operand.tmp 9), 34, "", #[], some (3, false)⟩).run Try.prog z = .ok (.value (.agg va)) z := by
  exact exec_ldC e9 hS.2.1
theorem cl10_5 (L t kb pa pb : Nat) (s most : Int) (b : Bool) (va vb : Array Value) (v1 v2 : Value) (ev : Operand → Value) (z : World) (ec : ∀ c, ev (.const c) = c) (e11 : ev (.tmp 11) = .pointer (some ⟨pb, 0, none⟩)) (hS : z.cell? ⟨kb, 0, none⟩ = some (.int .i64 s) ∧ (loadVar 34 ⟨pa, 0, none⟩).run Try.prog z = .ok (.agg va) z ∧ (loadVar 34 ⟨pb, 0, none⟩).run Try.prog z = .ok (.agg vb) z) : (execOp ev ⟨some 64, Op.load 34 (Operand.tmp 11), 34, "", #[], some (3, false)⟩).run Try.prog z = .ok (.value (.agg vb)) z := by
  exact exec_ldC e11 hS.2.2
set_option maxRecDepth 100000 in
theorem cl10_6 (L t kb pa pb : Nat) (s most : Int) (b : Bool) (va vb : Array Value) (v1 v2 : Value) (ev : Operand → Value) (z : World) (ec : ∀ c, ev (.const c) = c) (ef : ev (.func 16) = .func (.func 16) #[] #[]) (e63 : ev (.tmp 63) = .agg va) (e64 : ev (.tmp 64) = .agg vb) : (execOp ev ⟨some 65, Op.call { callee := Callee.value (Operand.func 16), args := #[Operand.tmp 63, Operand.tmp 64], argTypes := #[34, 34] }, 4, "", #[], some (3, false)⟩).run Try.prog z = .ok (.enter 16 #[.agg va, .agg vb]) z :=
  enter_run _ ef (by simp only [List.map_toArray, List.map_cons, List.map_nil, ec, e63, e64]) (fun _ => by rfl)
theorem cl10_7 (L t kb pa pb : Nat) (s most : Int) (b : Bool) (va vb : Array Value) (v1 v2 : Value) (ev : Operand → Value) (z : World) (ec : ∀ c, ev (.const c) = c) (e65 : ev (.tmp 65) = .bool true) (hS : z.cell? ⟨kb, 0, none⟩ = some (.int .i64 s) ∧ (loadVar 34 ⟨pa, 0, none⟩).run Try.prog z = .ok (.agg va) z ∧ (loadVar 34 ⟨pb, 0, none⟩).run Try.prog z = .ok (.agg vb) z) : (execOp ev ⟨some 66, Op.unOp UnOp.not 4 (Operand.tmp 65), 4, "", #[], some (3, false)⟩).run Try.prog z = .ok (.value (.bool false)) z := by
  obtain ⟨sa, sb, sc⟩ := hS
  go_simp
theorem cl10_8 (L t kb pa pb : Nat) (s most : Int) (b : Bool) (va vb : Array Value) (v1 v2 : Value) (ev : Operand → Value) (z : World) (ec : ∀ c, ev (.const c) = c) (e62 : ev (.tmp 62) = .bool false) (e66 : ev (.tmp 66) = .bool false) (hS : z.cell? ⟨kb, 0, none⟩ = some (.int .i64 s) ∧ (loadVar 34 ⟨pa, 0, none⟩).run Try.prog z = .ok (.agg va) z ∧ (loadVar 34 ⟨pb, 0, none⟩).run Try.prog z = .ok (.agg vb) z) : (execOp ev ⟨some 67, Op.pick (Operand.tmp 62) (Operand.const (Value.bool true)) (Operand.tmp 66), 4, "", #[], none⟩).run Try.prog z = .ok (.value (.bool false)) z := by
  obtain ⟨sa, sb, sc⟩ := hS
  go_simp
theorem cl10_9 (L t kb pa pb : Nat) (s most : Int) (b : Bool) (va vb : Array Value) (v1 v2 : Value) (ev : Operand → Value) (z : World) (ec : ∀ c, ev (.const c) = c) (e67 : ev (.tmp 67) = .bool false) (hS : z.cell? ⟨kb, 0, none⟩ = some (.int .i64 s) ∧ (loadVar 34 ⟨pa, 0, none⟩).run Try.prog z = .ok (.agg va) z ∧ (loadVar 34 ⟨pb, 0, none⟩).run Try.prog z = .ok (.agg vb) z) : (execOp ev ⟨some 68, Op.move (Operand.tmp 67), 4, "", #[], none⟩).run Try.prog z = .ok (.value (.bool false)) z := by
  obtain ⟨sa, sb, sc⟩ := hS
  go_simp
theorem cl10_10 (L t kb pa pb : Nat) (s most : Int) (b : Bool) (va vb : Array Value) (v1 v2 : Value) (ev : Operand → Value) (z : World) (ec : ∀ c, ev (.const c) = c) (e5 : ev (.tmp 5) = .pointer (some ⟨L, 0, none⟩)) (hS : z.cell? ⟨kb, 0, none⟩ = some (.int .i64 s) ∧ (loadVar 34 ⟨pa, 0, none⟩).run Try.prog z = .ok (.agg va) z ∧ (loadVar 34 ⟨pb, 0, none⟩).run Try.prog z = .ok (.agg vb) z) : (execOp ev ⟨some 69, Op.move (Operand.tmp 5), 23, "", #[], some (9, false)⟩).run Try.prog z = .ok (.value (.pointer (some ⟨L, 0, none⟩))) z := by
  obtain ⟨sa, sb, sc⟩ := hS
  go_simp
theorem cl10_11 (L t kb pa pb : Nat) (s most : Int) (b : Bool) (va vb : Array Value) (v1 v2 : Value) (ev : Operand → Value) (z : World) (ec : ∀ c, ev (.const c) = c) (e8 : ev (.tmp 8) = .pointer (some ⟨kb, 0, none⟩)) (hS : z.cell? ⟨kb, 0, none⟩ = some (.int .i64 s) ∧ (loadVar 34 ⟨pa, 0, none⟩).run Try.prog z = .ok (.agg va) z ∧ (loadVar 34 ⟨pb, 0, none⟩).run Try.prog z = .ok (.agg vb) z) : (execOp ev ⟨some 70, Op.fieldAddr 36 (Operand.tmp 8) 0, 0, "", #[], some (9, false)⟩).run Try.prog z = .ok (.value (.pointer (some ⟨kb, 0, none⟩))) z := by
  obtain ⟨sa, sb, sc⟩ := hS
  go_simp
theorem cl10_12 (L t kb pa pb : Nat) (s most : Int) (b : Bool) (va vb : Array Value) (v1 v2 : Value) (ev : Operand → Value) (z : World) (ec : ∀ c, ev (.const c) = c) (e70 : ev (.tmp 70) = .pointer (some ⟨kb, 0, none⟩)) (hS : z.cell? ⟨kb, 0, none⟩ = some (.int .i64 s) ∧ (loadVar 34 ⟨pa, 0, none⟩).run Try.prog z = .ok (.agg va) z ∧ (loadVar 34 ⟨pb, 0, none⟩).run Try.prog z = .ok (.agg vb) z) : (execOp ev ⟨some 71, Op.load 3 (Operand.tmp 70), 3, "", #[], some (9, false)⟩).run Try.prog z = .ok (.value (.int .i64 s)) z := by
  obtain ⟨sa, sb, sc⟩ := hS
  go_simp
theorem cl10_13 (L t kb pa pb : Nat) (s most : Int) (b : Bool) (va vb : Array Value) (v1 v2 : Value) (ev : Operand → Value) (z : World) (ec : ∀ c, ev (.const c) = c) (e1 : ev (.tmp 1) = .int .i64 most) (hS : z.cell? ⟨kb, 0, none⟩ = some (.int .i64 s) ∧ (loadVar 34 ⟨pa, 0, none⟩).run Try.prog z = .ok (.agg va) z ∧ (loadVar 34 ⟨pb, 0, none⟩).run Try.prog z = .ok (.agg vb) z) : (execOp ev ⟨some 72, Op.move (Operand.tmp 1), 3, "", #[], some (9, false)⟩).run Try.prog z = .ok (.value (.int .i64 most)) z := by
  obtain ⟨sa, sb, sc⟩ := hS
  go_simp
theorem cl10_15 (L t kb pa pb : Nat) (s most : Int) (b : Bool) (va vb : Array Value) (v1 v2 : Value) (ev : Operand → Value) (z : World) (ec : ∀ c, ev (.const c) = c) (e6 : ev (.tmp 6) = .pointer (some ⟨t, 0, none⟩)) (hS : z.cell? ⟨kb, 0, none⟩ = some (.int .i64 s) ∧ (loadVar 34 ⟨pa, 0, none⟩).run Try.prog z = .ok (.agg va) z ∧ (loadVar 34 ⟨pb, 0, none⟩).run Try.prog z = .ok (.agg vb) z) : (execOp ev ⟨some 74, Op.move (Operand.tmp 6), 25, "", #[], some (9, false)⟩).run Try.prog z = .ok (.value (.pointer (some ⟨t, 0, none⟩))) z := by
  obtain ⟨sa, sb, sc⟩ := hS
  go_simp
theorem cl10_16 (L t kb pa pb : Nat) (s most : Int) (b : Bool) (va vb : Array Value) (v1 v2 : Value) (ev : Operand → Value) (z : World) (ec : ∀ c, ev (.const c) = c) (e8 : ev (.tmp 8) = .pointer (some ⟨kb, 0, none⟩)) (hS : z.cell? ⟨kb, 0, none⟩ = some (.int .i64 s) ∧ (loadVar 34 ⟨pa, 0, none⟩).run Try.prog z = .ok (.agg va) z ∧ (loadVar 34 ⟨pb, 0, none⟩).run Try.prog z = .ok (.agg vb) z) : (execOp ev ⟨some 75, Op.fieldAddr 36 (Operand.tmp 8) 0, 0, "", #[], some (9, false)⟩).run Try.prog z = .ok (.value (.pointer (some ⟨kb, 0, none⟩))) z := by
  obtain ⟨sa, sb, sc⟩ := hS
  go_simp
theorem cl10_17 (L t kb pa pb : Nat) (s most : Int) (b : Bool) (va vb : Array Value) (v1 v2 : Value) (ev : Operand → Value) (z : World) (ec : ∀ c, ev (.const c) = c) (e75 : ev (.tmp 75) = .pointer (some ⟨kb, 0, none⟩)) (hS : z.cell? ⟨kb, 0, none⟩ = some (.int .i64 s) ∧ (loadVar 34 ⟨pa, 0, none⟩).run Try.prog z = .ok (.agg va) z ∧ (loadVar 34 ⟨pb, 0, none⟩).run Try.prog z = .ok (.agg vb) z) : (execOp ev ⟨some 76, Op.load 3 (Operand.tmp 75), 3, "", #[], some (9, false)⟩).run Try.prog z = .ok (.value (.int .i64 s)) z := by
  obtain ⟨sa, sb, sc⟩ := hS
  go_simp
theorem cl10_18 (L t kb pa pb : Nat) (s most : Int) (b : Bool) (va vb : Array Value) (v1 v2 : Value) (ev : Operand → Value) (z : World) (ec : ∀ c, ev (.const c) = c) (e1 : ev (.tmp 1) = .int .i64 most) (hS : z.cell? ⟨kb, 0, none⟩ = some (.int .i64 s) ∧ (loadVar 34 ⟨pa, 0, none⟩).run Try.prog z = .ok (.agg va) z ∧ (loadVar 34 ⟨pb, 0, none⟩).run Try.prog z = .ok (.agg vb) z) : (execOp ev ⟨some 77, Op.move (Operand.tmp 1), 3, "", #[], some (9, false)⟩).run Try.prog z = .ok (.value (.int .i64 most)) z := by
  obtain ⟨sa, sb, sc⟩ := hS
  go_simp
set_option maxRecDepth 100000 in
theorem cl10_14 (L t kb pa pb : Nat) (s most : Int) (b : Bool) (va vb : Array Value) (v1 v2 : Value) (ev : Operand → Value) (z : World) (ec : ∀ c, ev (.const c) = c) (ef : ev (.func 18) = .func (.func 18) #[] #[]) (e69 : ev (.tmp 69) = .pointer (some ⟨L, 0, none⟩)) (e71 : ev (.tmp 71) = .int .i64 s) (e72 : ev (.tmp 72) = .int .i64 most) : (execOp ev ⟨some 73, Op.call { callee := Callee.value (Operand.func 18), args := #[Operand.tmp 69, Operand.tmp 71, Operand.tmp 72], argTypes := #[23, 3, 3] }, 44, "", #[], some (9, false)⟩).run Try.prog z = .ok (.enter 18 #[.pointer (some ⟨L, 0, none⟩), .int .i64 s, .int .i64 most]) z :=
  enter_run _ ef (by simp only [List.map_toArray, List.map_cons, List.map_nil, ec, e69, e71, e72]) (fun _ => by rfl)
set_option maxRecDepth 100000 in
theorem cl10_19 (L t kb pa pb : Nat) (s most : Int) (b : Bool) (va vb : Array Value) (v1 v2 : Value) (ev : Operand → Value) (z : World) (ec : ∀ c, ev (.const c) = c) (ef : ev (.func 19) = .func (.func 19) #[] #[]) (e74 : ev (.tmp 74) = .pointer (some ⟨t, 0, none⟩)) (e76 : ev (.tmp 76) = .int .i64 s) (e77 : ev (.tmp 77) = .int .i64 most) : (execOp ev ⟨some 78, Op.call { callee := Callee.value (Operand.func 19), args := #[Operand.tmp 74, Operand.tmp 76, Operand.tmp 77], argTypes := #[25, 3, 3] }, 44, "", #[], some (9, false)⟩).run Try.prog z = .ok (.enter 19 #[.pointer (some ⟨t, 0, none⟩), .int .i64 s, .int .i64 most]) z :=
  enter_run _ ef (by simp only [List.map_toArray, List.map_cons, List.map_nil, ec, e74, e76, e77]) (fun _ => by rfl)
set_option maxRecDepth 100000 in
theorem cl10_20 (L t kb pa pb : Nat) (s most : Int) (b : Bool) (va vb : Array Value) (v1 v2 : Value) (ev : Operand → Value) (z : World) (ec : ∀ c, ev (.const c) = c) (ef : ev (.func 17) = .func (.func 17) #[] #[]) (g16 : ev (.func 16) = .func (.func 16) #[] #[]) (e73 : ev (.tmp 73) = v1) (e78 : ev (.tmp 78) = v2) : (execOp ev ⟨some 79, Op.call { callee := Callee.value (Operand.func 17), args := #[Operand.tmp 73, Operand.tmp 78, Operand.func 16], argTypes := #[44, 44, 42] }, 4, "", #[], some (9, false)⟩).run Try.prog z = .ok (.enter 17 #[v1, v2, .func (.func 16) #[] #[]]) z :=
  enter_run _ ef (by simp only [List.map_toArray, List.map_cons, List.map_nil, ec, g16, e73, e78]) (fun _ => by rfl)
theorem cl10_21 (L t kb pa pb : Nat) (s most : Int) (b : Bool) (va vb : Array Value) (v1 v2 : Value) (ev : Operand → Value) (z : World) (ec : ∀ c, ev (.const c) = c) (e79 : ev (.tmp 79) = .bool true) (hS : z.cell? ⟨kb, 0, none⟩ = some (.int .i64 s) ∧ (loadVar 34 ⟨pa, 0, none⟩).run Try.prog z = .ok (.agg va) z ∧ (loadVar 34 ⟨pb, 0, none⟩).run Try.prog z = .ok (.agg vb) z) : (execOp ev ⟨some 80, Op.unOp UnOp.not 4 (Operand.tmp 79), 4, "", #[], some (9, false)⟩).run Try.prog z = .ok (.value (.bool false)) z := by
  obtain ⟨sa, sb, sc⟩ := hS
  go_simp
theorem cl10_22 (L t kb pa pb : Nat) (s most : Int) (b : Bool) (va vb : Array Value) (v1 v2 : Value) (ev : Operand → Value) (z : World) (ec : ∀ c, ev (.const c) = c) (e68 : ev (.tmp 68) = .bool false) (e80 : ev (.tmp 80) = .bool false) (hS : z.cell? ⟨kb, 0, none⟩ = some (.int .i64 s) ∧ (loadVar 34 ⟨pa, 0, none⟩).run Try.prog z = .ok (.agg va) z ∧ (loadVar 34 ⟨pb, 0, none⟩).run Try.prog z = .ok (.agg vb) z) : (execOp ev ⟨some 81, Op.pick (Operand.tmp 68) (Operand.const (Value.bool true)) (Operand.tmp 80), 4, "", #[], none⟩).run Try.prog z = .ok (.value (.bool false)) z := by
  obtain ⟨sa, sb, sc⟩ := hS
  go_simp
structure cl10R (ops : Array Oper) : Prop where
  size : ops.size = 23
  sel : Region.noSelect ops = true
  o0 : (ops[0]?).map bare = some ⟨some 59, Op.move (Operand.tmp 10), 4, "", #[], none⟩
  o1 : (ops[1]?).map bare = some ⟨some 60, Op.move (Operand.tmp 12), 4, "", #[], none⟩
  o2 : (ops[2]?).map bare = some ⟨some 61, Op.binOp BinOp.neq 4 (Operand.tmp 59) (Operand.tmp 60) 4, 4, "", #[], none⟩
  o3 : (ops[3]?).map bare = some ⟨some 62, Op.move (Operand.tmp 61), 4, "", #[], none⟩
  o4 : (ops[4]?).map bare = some ⟨some 63, Op.load 34 (Operand.tmp 9), 34, "", #[], some (3, false)⟩
  o5 : (ops[5]?).map bare = some ⟨some 64, Op.load 34 (Operand.tmp 11), 34, "", #[], some (3, false)⟩
  o6 : (ops[6]?).map bare = some ⟨some 65, Op.call { callee := Callee.value (Operand.func 16), args := #[Operand.tmp 63, Operand.tmp 64], argTypes := #[34, 34] }, 4, "", #[], some (3, false)⟩
  o7 : (ops[7]?).map bare = some ⟨some 66, Op.unOp UnOp.not 4 (Operand.tmp 65), 4, "", #[], some (3, false)⟩
  o8 : (ops[8]?).map bare = some ⟨some 67, Op.pick (Operand.tmp 62) (Operand.const (Value.bool true)) (Operand.tmp 66), 4, "", #[], none⟩
  o9 : (ops[9]?).map bare = some ⟨some 68, Op.move (Operand.tmp 67), 4, "", #[], none⟩
  o10 : (ops[10]?).map bare = some ⟨some 69, Op.move (Operand.tmp 5), 23, "", #[], some (9, false)⟩
  o11 : (ops[11]?).map bare = some ⟨some 70, Op.fieldAddr 36 (Operand.tmp 8) 0, 0, "", #[], some (9, false)⟩
  o12 : (ops[12]?).map bare = some ⟨some 71, Op.load 3 (Operand.tmp 70), 3, "", #[], some (9, false)⟩
  o13 : (ops[13]?).map bare = some ⟨some 72, Op.move (Operand.tmp 1), 3, "", #[], some (9, false)⟩
  o14 : (ops[14]?).map bare = some ⟨some 73, Op.call { callee := Callee.value (Operand.func 18), args := #[Operand.tmp 69, Operand.tmp 71, Operand.tmp 72], argTypes := #[23, 3, 3] }, 44, "", #[], some (9, false)⟩
  o15 : (ops[15]?).map bare = some ⟨some 74, Op.move (Operand.tmp 6), 25, "", #[], some (9, false)⟩
  o16 : (ops[16]?).map bare = some ⟨some 75, Op.fieldAddr 36 (Operand.tmp 8) 0, 0, "", #[], some (9, false)⟩
  o17 : (ops[17]?).map bare = some ⟨some 76, Op.load 3 (Operand.tmp 75), 3, "", #[], some (9, false)⟩
  o18 : (ops[18]?).map bare = some ⟨some 77, Op.move (Operand.tmp 1), 3, "", #[], some (9, false)⟩
  o19 : (ops[19]?).map bare = some ⟨some 78, Op.call { callee := Callee.value (Operand.func 19), args := #[Operand.tmp 74, Operand.tmp 76, Operand.tmp 77], argTypes := #[25, 3, 3] }, 44, "", #[], some (9, false)⟩
  o20 : (ops[20]?).map bare = some ⟨some 79, Op.call { callee := Callee.value (Operand.func 17), args := #[Operand.tmp 73, Operand.tmp 78, Operand.func 16], argTypes := #[44, 44, 42] }, 4, "", #[], some (9, false)⟩
  o21 : (ops[21]?).map bare = some ⟨some 80, Op.unOp UnOp.not 4 (Operand.tmp 79), 4, "", #[], some (9, false)⟩
  o22 : (ops[22]?).map bare = some ⟨some 81, Op.pick (Operand.tmp 68) (Operand.const (Value.bool true)) (Operand.tmp 80), 4, "", #[], none⟩
  may0 : takeB .any ops [0, 1, 2, 3, 4, 5] (Array.replicate 23 false) = true
  r6 : Region.ready .any ops (mark [0, 1, 2, 3, 4, 5] (Array.replicate 23 false)) = [6]
  may1 : takeB .any ops [7, 8, 9, 10, 11, 12, 13, 15, 16, 17, 18] ((mark [0, 1, 2, 3, 4, 5] (Array.replicate 23 false)).setIfInBounds 6 true) = true
  r14 : Region.ready .any ops (mark [7, 8, 9, 10, 11, 12, 13, 15, 16, 17, 18] ((mark [0, 1, 2, 3, 4, 5] (Array.replicate 23 false)).setIfInBounds 6 true)) = [14]
  r19 : Region.ready .any ops ((mark [7, 8, 9, 10, 11, 12, 13, 15, 16, 17, 18] ((mark [0, 1, 2, 3, 4, 5] (Array.replicate 23 false)).setIfInBounds 6 true)).setIfInBounds 14 true) = [19]
  r20 : Region.ready .any ops (((mark [7, 8, 9, 10, 11, 12, 13, 15, 16, 17, 18] ((mark [0, 1, 2, 3, 4, 5] (Array.replicate 23 false)).setIfInBounds 6 true)).setIfInBounds 14 true).setIfInBounds 19 true) = [20]
  may2 : takeB .any ops [21, 22] ((((mark [7, 8, 9, 10, 11, 12, 13, 15, 16, 17, 18] ((mark [0, 1, 2, 3, 4, 5] (Array.replicate 23 false)).setIfInBounds 6 true)).setIfInBounds 14 true).setIfInBounds 19 true).setIfInBounds 20 true) = true
  fin : Region.ready .any ops (mark [21, 22] ((((mark [7, 8, 9, 10, 11, 12, 13, 15, 16, 17, 18] ((mark [0, 1, 2, 3, 4, 5] (Array.replicate 23 false)).setIfInBounds 6 true)).setIfInBounds 14 true).setIfInBounds 19 true).setIfInBounds 20 true)) = []

set_option maxRecDepth 100000 in
set_option maxHeartbeats 3200000 in
theorem cl10_region {ops : Array Oper} {id : Nat} {Q : Exit → Act → World → Prop} {a : Act} {y : World} (R : cl10R ops) (L t kb pa pb : Nat) (s most : Int) (b : Bool) (va vb : Array Value) (v1 v2 : Value)
    (hQ : ∀ d v c a w, Q (.panic c) (a.put d v) w → Q (.panic c) a w) (hsz : a.tmps.size = 88) (e1 : a.eval (.tmp 1) = .int .i64 most) (e5 : a.eval (.tmp 5) = .pointer (some ⟨L, 0, none⟩)) (e6 : a.eval (.tmp 6) = .pointer (some ⟨t, 0, none⟩)) (e8 : a.eval (.tmp 8) = .pointer (some ⟨kb, 0, none⟩)) (e9 : a.eval (.tmp 9) = .pointer (some ⟨pa, 0, none⟩)) (e10 : a.eval (.tmp 10) = .bool b) (e11 : a.eval (.tmp 11) = .pointer (some ⟨pb, 0, none⟩)) (e12 : a.eval (.tmp 12) = .bool b) (hS0 : (y.drew.cell? ⟨kb, 0, none⟩ = some (.int .i64 s) ∧ (loadVar 34 ⟨pa, 0, none⟩).run Try.prog y.drew = .ok (.agg va) y.drew ∧ (loadVar 34 ⟨pb, 0, none⟩).run Try.prog y.drew = .ok (.agg vb) y.drew)) (T : World → Prop) (hc : Calls Try.prog 16 #[.agg va, .agg vb] y.drew fun e w9 => e = .returned (.bool true) ∧ (w9.cell? ⟨kb, 0, none⟩ = some (.int .i64 s) ∧ (loadVar 34 ⟨pa, 0, none⟩).run Try.prog w9 = .ok (.agg va) w9 ∧ (loadVar 34 ⟨pb, 0, none⟩).run Try.prog w9 = .ok (.agg vb) w9) ∧ Calls Try.prog 18 #[.pointer (some ⟨L, 0, none⟩), .int .i64 s, .int .i64 most] w9 fun e w9 => ∃ v1, e = .returned v1 ∧ (w9.cell? ⟨kb, 0, none⟩ = some (.int .i64 s) ∧ (loadVar 34 ⟨pa, 0, none⟩).run Try.prog w9 = .ok (.agg va) w9 ∧ (loadVar 34 ⟨pb, 0, none⟩).run Try.prog w9 = .ok (.agg vb) w9) ∧ Calls Try.prog 19 #[.pointer (some ⟨t, 0, none⟩), .int .i64 s, .int .i64 most] w9 fun e w9 => ∃ v2, e = .returned v2 ∧ (w9.cell? ⟨kb, 0, none⟩ = some (.int .i64 s) ∧ (loadVar 34 ⟨pa, 0, none⟩).run Try.prog w9 = .ok (.agg va) w9 ∧ (loadVar 34 ⟨pb, 0, none⟩).run Try.prog w9 = .ok (.agg vb) w9) ∧ Calls Try.prog 17 #[v1, v2, .func (.func 16) #[] #[]] w9 fun e w9 => e = .returned (.bool true) ∧ (w9.cell? ⟨kb, 0, none⟩ = some (.int .i64 s) ∧ (loadVar 34 ⟨pa, 0, none⟩).run Try.prog w9 = .ok (.agg va) w9 ∧ (loadVar 34 ⟨pb, 0, none⟩).run Try.prog w9 = .ok (.agg vb) w9) ∧ T w9)
    (hK : ∀ (v1 v2 : Value) (w9 : World), T w9 → Q .normal (((((((((((((((((((((((a.put (some 59) (.bool b)).put (some 60) (.bool b)).put (some 61) (.bool false)).put (some 62) (.bool false)).put (some 63) (.agg va)).put (some 64) (.agg vb)).put (some 65) (.bool true)).put (some 66) (.bool false)).put (some 67) (.bool false)).put (some 68) (.bool false)).put (some 69) (.pointer (some ⟨L, 0, none⟩))).put (some 70) (.pointer (some ⟨kb, 0, none⟩))).put (some 71) (.int .i64 s)).put (some 72) (.int .i64 most)).put (some 74) (.pointer (some ⟨t, 0, none⟩))).put (some 75) (.pointer (some ⟨kb, 0, none⟩))).put (some 76) (.int .i64 s)).put (some 77) (.int .i64 most)).put (some 73) (v1)).put (some 78) (v2)).put (some 79) (.bool true)).put (some 80) (.bool false)).put (some 81) (.bool false)) w9) : (Code.region id ops true).wp Try.prog Q a y := by
  have HR : Hid (cl10R ops) := R
  have hdf : a.defers = a.defers := rfl
  refine wp_region_held_drew (S := (fun z : World => z.cell? ⟨kb, 0, none⟩ = some (.int .i64 s) ∧ (loadVar 34 ⟨pa, 0, none⟩).run Try.prog z = .ok (.agg va) z ∧ (loadVar 34 ⟨pb, 0, none⟩).run Try.prog z = .ok (.agg vb) z)) (by kernel_rfl) (hS0) (fun hHeld => ?_)
  rw [R.size]
  clear R
  refine wpAnyH_takes HR.out.sel hQ hHeld [0, 1, 2, 3, 4, 5] 17 _ _ HR.out.may0 ?_
  refine wpTake_stepE ⟨some 59, Op.move (Operand.tmp 10), 4, "", #[], none⟩ 59 (.bool b) HR.out.o0 rfl (by rw [hsz]; decide) (wanted_none rfl) (fun z hS => cl10_0 L t kb pa pb s most b va vb v1 v2 _ z (fun _ => rfl) e10 hS) ?_
  intro a1 ha1 s1 f1 n1 k1
  replace hsz := s1.trans hsz
  replace hdf := f1.trans hdf
  replace e1 := (k1 1 (by decide)).trans e1
  replace e5 := (k1 5 (by decide)).trans e5
  replace e6 := (k1 6 (by decide)).trans e6
  replace e8 := (k1 8 (by decide)).trans e8
  replace e9 := (k1 9 (by decide)).trans e9
  replace e11 := (k1 11 (by decide)).trans e11
  replace e12 := (k1 12 (by decide)).trans e12
  have e59 := n1
  clear s1 f1 n1 k1
  refine wpTake_stepE ⟨some 60, Op.move (Operand.tmp 12), 4, "", #[], none⟩ 60 (.bool b) HR.out.o1 rfl (by rw [hsz]; decide) (wanted_none rfl) (fun z hS => cl10_1 L t kb pa pb s most b va vb v1 v2 _ z (fun _ => rfl) e12 hS) ?_
  intro a2 ha2 s1 f1 n1 k1
  replace hsz := s1.trans hsz
  replace hdf := f1.trans hdf
  replace e1 := (k1 1 (by decide)).trans e1
  replace e5 := (k1 5 (by decide)).trans e5
  replace e6 := (k1 6 (by decide)).trans e6
  replace e8 := (k1 8 (by decide)).trans e8
  replace e9 := (k1 9 (by decide)).trans e9
  replace e11 := (k1 11 (by decide)).trans e11
  replace e59 := (k1 59 (by decide)).trans e59
  have e60 := n1
  clear s1 f1 n1 k1
  refine wpTake_stepE ⟨some 61, Op.binOp BinOp.neq 4 (Operand.tmp 59) (Operand.tmp 60) 4, 4, "", #[], none⟩ 61 (.bool false) HR.out.o2 rfl (by rw [hsz]; decide) (wanted_none rfl) (fun z hS => cl10_2 L t kb pa pb s most b va vb v1 v2 _ z (fun _ => rfl) e59 e60 hS) ?_
  intro a3 ha3 s1 f1 n1 k1
  replace hsz := s1.trans hsz
  replace hdf := f1.trans hdf
  replace e1 := (k1 1 (by decide)).trans e1
  replace e5 := (k1 5 (by decide)).trans e5
  replace e6 := (k1 6 (by decide)).trans e6
  replace e8 := (k1 8 (by decide)).trans e8
  replace e9 := (k1 9 (by decide)).trans e9
  replace e11 := (k1 11 (by decide)).trans e11
  have e61 := n1
  clear s1 f1 n1 k1
  refine wpTake_stepE ⟨some 62, Op.move (Operand.tmp 61), 4, "", #[], none⟩ 62 (.bool false) HR.out.o3 rfl (by rw [hsz]; decide) (wanted_none rfl) (fun z hS => cl10_3 L t kb pa pb s most b va vb v1 v2 _ z (fun _ => rfl) e61 hS) ?_
  intro a4 ha4 s1 f1 n1 k1
  replace hsz := s1.trans hsz
  replace hdf := f1.trans hdf
  replace e1 := (k1 1 (by decide)).trans e1
  replace e5 := (k1 5 (by decide)).trans e5
  replace e6 := (k1 6 (by decide)).trans e6
  replace e8 := (k1 8 (by decide)).trans e8
  replace e9 := (k1 9 (by decide)).trans e9
  replace e11 := (k1 11 (by decide)).trans e11
  have e62 := n1
  clear s1 f1 n1 k1
  refine wpTake_stepE ⟨some 63, Op.load 34 (Operand.tmp 9), 34, "", #[], some (3, false)⟩ 63 (.agg va) HR.out.o4 rfl (by rw [hsz]; decide) (wanted_some rfl (yielded_of HR.out.o3 rfl e62 (by rw [hsz]; decide))) (fun z hS => cl10_4 L t kb pa pb s most b va vb v1 v2 _ z (fun _ => rfl) e9 hS) ?_
  intro a5 ha5 s1 f1 n1 k1
  replace hsz := s1.trans hsz
  replace hdf := f1.trans hdf
  replace e1 := (k1 1 (by decide)).trans e1
  replace e5 := (k1 5 (by decide)).trans e5
  replace e6 := (k1 6 (by decide)).trans e6
  replace e8 := (k1 8 (by decide)).trans e8
  replace e11 := (k1 11 (by decide)).trans e11
  replace e62 := (k1 62 (by decide)).trans e62
  have e63 := n1
  clear s1 f1 n1 k1
  refine wpTake_stepE ⟨some 64, Op.load 34 (Operand.tmp 11), 34, "", #[], some (3, false)⟩ 64 (.agg vb) HR.out.o5 rfl (by rw [hsz]; decide) (wanted_some rfl (yielded_of HR.out.o3 rfl e62 (by rw [hsz]; decide))) (fun z hS => cl10_5 L t kb pa pb s most b va vb v1 v2 _ z (fun _ => rfl) e11 hS) ?_
  intro a6 ha6 s1 f1 n1 k1
  replace hsz := s1.trans hsz
  replace hdf := f1.trans hdf
  replace e1 := (k1 1 (by decide)).trans e1
  replace e5 := (k1 5 (by decide)).trans e5
  replace e6 := (k1 6 (by decide)).trans e6
  replace e8 := (k1 8 (by decide)).trans e8
  replace e62 := (k1 62 (by decide)).trans e62
  replace e63 := (k1 63 (by decide)).trans e63
  have e64 := n1
  clear s1 f1 n1 k1
  refine wpTake_nil ?_
  refine wpAnyH_oneG ⟨some 65, Op.call { callee := Callee.value (Operand.func 16), args := #[Operand.tmp 63, Operand.tmp 64], argTypes := #[34, 34] }, 4, "", #[], some (3, false)⟩ HR.out.r6 HR.out.o6 (wanted_some rfl (yielded_of HR.out.o3 rfl e62 (by rw [hsz]; decide))) (fun K' hK' => ?_)
  refine wp_enter (cl10_6 L t kb pa pb s most b va vb v1 v2 _ _ (fun _ => rfl) rfl e63 e64) (hc) ?_
  rintro e9 w9 ⟨rfl, hS9, hc2⟩
  refine ⟨_, rfl, hK'.out _ _ (hS9) ?_⟩
  replace hHeld := hS9
  clear hK' K'
  show wpAnyH _ _ _ _ _ _ _ (Act.put a6 (some 65) (.bool true)) _
  obtain ⟨s1, f1, n1, k1⟩ := act_put a6 65 (.bool true) (show 65 < _ by rw [hsz]; decide)
  obtain ⟨a7, ha7⟩ : ∃ x, x = Act.put a6 (some 65) (.bool true) := ⟨_, rfl⟩
  rw [← ha7] at s1 f1 n1 k1 ⊢
  replace hsz := s1.trans hsz
  replace hdf := f1.trans hdf
  replace e1 := (k1 1 (by decide)).trans e1
  replace e5 := (k1 5 (by decide)).trans e5
  replace e6 := (k1 6 (by decide)).trans e6
  replace e8 := (k1 8 (by decide)).trans e8
  replace e62 := (k1 62 (by decide)).trans e62
  have e65 := n1
  clear s1 f1 n1 k1
  refine wpAnyH_takes HR.out.sel hQ hHeld [7, 8, 9, 10, 11, 12, 13, 15, 16, 17, 18] 5 _ _ HR.out.may1 ?_
  refine wpTake_stepE ⟨some 66, Op.unOp UnOp.not 4 (Operand.tmp 65), 4, "", #[], some (3, false)⟩ 66 (.bool false) HR.out.o7 rfl (by rw [hsz]; decide) (wanted_some rfl (yielded_of HR.out.o3 rfl e62 (by rw [hsz]; decide))) (fun z hS => cl10_7 L t kb pa pb s most b va vb v1 v2 _ z (fun _ => rfl) e65 hS) ?_
  intro a8 ha8 s1 f1 n1 k1
  replace hsz := s1.trans hsz
  replace hdf := f1.trans hdf
  replace e1 := (k1 1 (by decide)).trans e1
  replace e5 := (k1 5 (by decide)).trans e5
  replace e6 := (k1 6 (by decide)).trans e6
  replace e8 := (k1 8 (by decide)).trans e8
  replace e62 := (k1 62 (by decide)).trans e62
  have e66 := n1
  clear s1 f1 n1 k1
  refine wpTake_stepE ⟨some 67, Op.pick (Operand.tmp 62) (Operand.const (Value.bool true)) (Operand.tmp 66), 4, "", #[], none⟩ 67 (.bool false) HR.out.o8 rfl (by rw [hsz]; decide) (wanted_none rfl) (fun z hS => cl10_8 L t kb pa pb s most b va vb v1 v2 _ z (fun _ => rfl) e62 e66 hS) ?_
  intro a9 ha9 s1 f1 n1 k1
  replace hsz := s1.trans hsz
  replace hdf := f1.trans hdf
  replace e1 := (k1 1 (by decide)).trans e1
  replace e5 := (k1 5 (by decide)).trans e5
  replace e6 := (k1 6 (by decide)).trans e6
  replace e8 := (k1 8 (by decide)).trans e8
  have e67 := n1
  clear s1 f1 n1 k1
  refine wpTake_stepE ⟨some 68, Op.move (Operand.tmp 67), 4, "", #[], none⟩ 68 (.bool false) HR.out.o9 rfl (by rw [hsz]; decide) (wanted_none rfl) (fun z hS => cl10_9 L t kb pa pb s most b va vb v1 v2 _ z (fun _ => rfl) e67 hS) ?_
  intro a10 ha10 s1 f1 n1 k1
  replace hsz := s1.trans hsz
  replace hdf := f1.trans hdf
  replace e1 := (k1 1 (by decide)).trans e1
  replace e5 := (k1 5 (by decide)).trans e5
  replace e6 := (k1 6 (by decide)).trans e6
  replace e8 := (k1 8 (by decide)).trans e8
  have e68 := n1
  clear s1 f1 n1 k1
  refine wpTake_stepE ⟨some 69, Op.move (Operand.tmp 5), 23, "", #[], some (9, false)⟩ 69 (.pointer (some ⟨L, 0, none⟩)) HR.out.o10 rfl (by rw [hsz]; decide) (wanted_some rfl (yielded_of HR.out.o9 rfl e68 (by rw [hsz]; decide))) (fun z hS => cl10_10 L t kb pa pb s most b va vb v1 v2 _ z (fun _ => rfl) e5 hS) ?_
  intro a11 ha11 s1 f1 n1 k1
  replace hsz := s1.trans hsz
  replace hdf := f1.trans hdf
  replace e1 := (k1 1 (by decide)).trans e1
  replace e6 := (k1 6 (by decide)).trans e6
  replace e8 := (k1 8 (by decide)).trans e8
  replace e68 := (k1 68 (by decide)).trans e68
  have e69 := n1
  clear s1 f1 n1 k1
  refine wpTake_stepE ⟨some 70, Op.fieldAddr 36 (Operand.tmp 8) 0, 0, "", #[], some (9, false)⟩ 70 (.pointer (some ⟨kb, 0, none⟩)) HR.out.o11 rfl (by rw [hsz]; decide) (wanted_some rfl (yielded_of HR.out.o9 rfl e68 (by rw [hsz]; decide))) (fun z hS => cl10_11 L t kb pa pb s most b va vb v1 v2 _ z (fun _ => rfl) e8 hS) ?_
  intro a12 ha12 s1 f1 n1 k1
  replace hsz := s1.trans hsz
  replace hdf := f1.trans hdf
  replace e1 := (k1 1 (by decide)).trans e1
  replace e6 := (k1 6 (by decide)).trans e6
  replace e8 := (k1 8 (by decide)).trans e8
  replace e68 := (k1 68 (by decide)).trans e68
  replace e69 := (k1 69 (by decide)).trans e69
  have e70 := n1
  clear s1 f1 n1 k1
  refine wpTake_stepE ⟨some 71, Op.load 3 (Operand.tmp 70), 3, "", #[], some (9, false)⟩ 71 (.int .i64 s) HR.out.o12 rfl (by rw [hsz]; decide) (wanted_some rfl (yielded_of HR.out.o9 rfl e68 (by rw [hsz]; decide))) (fun z hS => cl10_12 L t kb pa pb s most b va vb v1 v2 _ z (fun _ => rfl) e70 hS) ?_
  intro a13 ha13 s1 f1 n1 k1
  replace hsz := s1.trans hsz
  replace hdf := f1.trans hdf
  replace e1 := (k1 1 (by decide)).trans e1
  replace e6 := (k1 6 (by decide)).trans e6
  replace e8 := (k1 8 (by decide)).trans e8
  replace e68 := (k1 68 (by decide)).trans e68
  replace e69 := (k1 69 (by decide)).trans e69
  have e71 := n1
  clear s1 f1 n1 k1
  refine wpTake_stepE ⟨some 72, Op.move (Operand.tmp 1), 3, "", #[], some (9, false)⟩ 72 (.int .i64 most) HR.out.o13 rfl (by rw [hsz]; decide) (wanted_some rfl (yielded_of HR.out.o9 rfl e68 (by rw [hsz]; decide))) (fun z hS => cl10_13 L t kb pa pb s most b va vb v1 v2 _ z (fun _ => rfl) e1 hS) ?_
  intro a14 ha14 s1 f1 n1 k1
  replace hsz := s1.trans hsz
  replace hdf := f1.trans hdf
  replace e1 := (k1 1 (by decide)).trans e1
  replace e6 := (k1 6 (by decide)).trans e6
  replace e8 := (k1 8 (by decide)).trans e8
  replace e68 := (k1 68 (by decide)).trans e68
  replace e69 := (k1 69 (by decide)).trans e69
  replace e71 := (k1 71 (by decide)).trans e71
  have e72 := n1
  clear s1 f1 n1 k1
  refine wpTake_stepE ⟨some 74, Op.move (Operand.tmp 6), 25, "", #[], some (9, false)⟩ 74 (.pointer (some ⟨t, 0, none⟩)) HR.out.o15 rfl (by rw [hsz]; decide) (wanted_some rfl (yielded_of HR.out.o9 rfl e68 (by rw [hsz]; decide))) (fun z hS => cl10_15 L t kb pa pb s most b va vb v1 v2 _ z (fun _ => rfl) e6 hS) ?_
  intro a15 ha15 s1 f1 n1 k1
  replace hsz := s1.trans hsz
  replace hdf := f1.trans hdf
  replace e1 := (k1 1 (by decide)).trans e1
  replace e8 := (k1 8 (by decide)).trans e8
  replace e68 := (k1 68 (by decide)).trans e68
  replace e69 := (k1 69 (by decide)).trans e69
  replace e71 := (k1 71 (by decide)).trans e71
  replace e72 := (k1 72 (by decide)).trans e72
  have e74 := n1
  clear s1 f1 n1 k1
  refine wpTake_stepE ⟨some 75, Op.fieldAddr 36 (Operand.tmp 8) 0, 0, "", #[], some (9, false)⟩ 75 (.pointer (some ⟨kb, 0, none⟩)) HR.out.o16 rfl (by rw [hsz]; decide) (wanted_some rfl (yielded_of HR.out.o9 rfl e68 (by rw [hsz]; decide))) (fun z hS => cl10_16 L t kb pa pb s most b va vb v1 v2 _ z (fun _ => rfl) e8 hS) ?_
  intro a16 ha16 s1 f1 n1 k1
  replace hsz := s1.trans hsz
  replace hdf := f1.trans hdf
  replace e1 := (k1 1 (by decide)).trans e1
  replace e68 := (k1 68 (by decide)).trans e68
  replace e69 := (k1 69 (by decide)).trans e69
  replace e71 := (k1 71 (by decide)).trans e71
  replace e72 := (k1 72 (by decide)).trans e72
  replace e74 := (k1 74 (by decide)).trans e74
  have e75 := n1
  clear s1 f1 n1 k1
  refine wpTake_stepE ⟨some 76, Op.load 3 (Operand.tmp 75), 3, "", #[], some (9, false)⟩ 76 (.int .i64 s) HR.out.o17 rfl (by rw [hsz]; decide) (wanted_some rfl (yielded_of HR.out.o9 rfl e68 (by rw [hsz]; decide))) (fun z hS => cl10_17 L t kb pa pb s most b va vb v1 v2 _ z (fun _ => rfl) e75 hS) ?_
  intro a17 ha17 s1 f1 n1 k1
  replace hsz := s1.trans hsz
  replace hdf := f1.trans hdf
  replace e1 := (k1 1 (by decide)).trans e1
  replace e68 := (k1 68 (by decide)).trans e68
  replace e69 := (k1 69 (by decide)).trans e69
  replace e71 := (k1 71 (by decide)).trans e71
  replace e72 := (k1 72 (by decide)).trans e72
  replace e74 := (k1 74 (by decide)).trans e74
  have e76 := n1
  clear s1 f1 n1 k1
  refine wpTake_stepE ⟨some 77, Op.move (Operand.tmp 1), 3, "", #[], some (9, false)⟩ 77 (.int .i64 most) HR.out.o18 rfl (by rw [hsz]; decide) (wanted_some rfl (yielded_of HR.out.o9 rfl e68 (by rw [hsz]; decide))) (fun z hS => cl10_18 L t kb pa pb s most b va vb v1 v2 _ z (fun _ => rfl) e1 hS) ?_
  intro a18 ha18 s1 f1 n1 k1
  replace hsz := s1.trans hsz
  replace hdf := f1.trans hdf
  replace e68 := (k1 68 (by decide)).trans e68
  replace e69 := (k1 69 (by decide)).trans e69
  replace e71 := (k1 71 (by decide)).trans e71
  replace e72 := (k1 72 (by decide)).trans e72
  replace e74 := (k1 74 (by decide)).trans e74
  replace e76 := (k1 76 (by decide)).trans e76
  have e77 := n1
  clear s1 f1 n1 k1
  refine wpTake_nil ?_
  refine wpAnyH_oneG ⟨some 73, Op.call { callee := Callee.value (Operand.func 18), args := #[Operand.tmp 69, Operand.tmp 71, Operand.tmp 72], argTypes := #[23, 3, 3] }, 44, "", #[], some (9, false)⟩ HR.out.r14 HR.out.o14 (wanted_some rfl (yielded_of HR.out.o9 rfl e68 (by rw [hsz]; decide))) (fun K' hK' => ?_)
  refine wp_enter (cl10_14 L t kb pa pb s most b va vb v1 v2 _ _ (fun _ => rfl) rfl e69 e71 e72) (hc2) ?_
  rintro e9 w9 ⟨v1, rfl, hS9, hc3⟩
  refine ⟨_, rfl, hK'.out _ _ (hS9) ?_⟩
  replace hHeld := hS9
  clear hK' K'
  show wpAnyH _ _ _ _ _ _ _ (Act.put a18 (some 73) (v1)) _
  obtain ⟨s1, f1, n1, k1⟩ := act_put a18 73 (v1) (show 73 < _ by rw [hsz]; decide)
  obtain ⟨a19, ha19⟩ : ∃ x, x = Act.put a18 (some 73) (v1) := ⟨_, rfl⟩
  rw [← ha19] at s1 f1 n1 k1 ⊢
  replace hsz := s1.trans hsz
  replace hdf := f1.trans hdf
  replace e68 := (k1 68 (by decide)).trans e68
  replace e74 := (k1 74 (by decide)).trans e74
  replace e76 := (k1 76 (by decide)).trans e76
  replace e77 := (k1 77 (by decide)).trans e77
  have e73 := n1
  clear s1 f1 n1 k1
  refine wpAnyH_oneG ⟨some 78, Op.call { callee := Callee.value (Operand.func 19), args := #[Operand.tmp 74, Operand.tmp 76, Operand.tmp 77], argTypes := #[25, 3, 3] }, 44, "", #[], some (9, false)⟩ HR.out.r19 HR.out.o19 (wanted_some rfl (yielded_of HR.out.o9 rfl e68 (by rw [hsz]; decide))) (fun K' hK' => ?_)
  refine wp_enter (cl10_19 L t kb pa pb s most b va vb v1 v2 _ _ (fun _ => rfl) rfl e74 e76 e77) (hc3) ?_
  rintro e9 w9 ⟨v2, rfl, hS9, hc4⟩
  refine ⟨_, rfl, hK'.out _ _ (hS9) ?_⟩
  replace hHeld := hS9
  clear hK' K'
  show wpAnyH _ _ _ _ _ _ _ (Act.put a19 (some 78) (v2)) _
  obtain ⟨s1, f1, n1, k1⟩ := act_put a19 78 (v2) (show 78 < _ by rw [hsz]; decide)
  obtain ⟨a20, ha20⟩ : ∃ x, x = Act.put a19 (some 78) (v2) := ⟨_, rfl⟩
  rw [← ha20] at s1 f1 n1 k1 ⊢
  replace hsz := s1.trans hsz
  replace hdf := f1.trans hdf
  replace e68 := (k1 68 (by decide)).trans e68
  replace e73 := (k1 73 (by decide)).trans e73
  have e78 := n1
  clear s1 f1 n1 k1
  refine wpAnyH_oneG ⟨some 79, Op.call { callee := Callee.value (Operand.func 17), args := #[Operand.tmp 73, Operand.tmp 78, Operand.func 16], argTypes := #[44, 44, 42] }, 4, "", #[], some (9, false)⟩ HR.out.r20 HR.out.o20 (wanted_some rfl (yielded_of HR.out.o9 rfl e68 (by rw [hsz]; decide))) (fun K' hK' => ?_)
  refine wp_enter (cl10_20 L t kb pa pb s most b va vb v1 v2 _ _ (fun _ => rfl) rfl rfl e73 e78) (hc4) ?_
  rintro e9 w9 ⟨rfl, hS9, hT⟩
  refine ⟨_, rfl, hK'.out _ _ (hS9) ?_⟩
  replace hHeld := hS9
  clear hK' K'
  show wpAnyH _ _ _ _ _ _ _ (Act.put a20 (some 79) (.bool true)) _
  obtain ⟨s1, f1, n1, k1⟩ := act_put a20 79 (.bool true) (show 79 < _ by rw [hsz]; decide)
  obtain ⟨a21, ha21⟩ : ∃ x, x = Act.put a20 (some 79) (.bool true) := ⟨_, rfl⟩
  rw [← ha21] at s1 f1 n1 k1 ⊢
  replace hsz := s1.trans hsz
  replace hdf := f1.trans hdf
  replace e68 := (k1 68 (by decide)).trans e68
  have e79 := n1
  clear s1 f1 n1 k1
  refine wpAnyH_takes HR.out.sel hQ hHeld [21, 22] 0 _ _ HR.out.may2 ?_
  refine wpTake_stepE ⟨some 80, Op.unOp UnOp.not 4 (Operand.tmp 79), 4, "", #[], some (9, false)⟩ 80 (.bool false) HR.out.o21 rfl (by rw [hsz]; decide) (wanted_some rfl (yielded_of HR.out.o9 rfl e68 (by rw [hsz]; decide))) (fun z hS => cl10_21 L t kb pa pb s most b va vb v1 v2 _ z (fun _ => rfl) e79 hS) ?_
  intro a22 ha22 s1 f1 n1 k1
  replace hsz := s1.trans hsz
  replace hdf := f1.trans hdf
  replace e68 := (k1 68 (by decide)).trans e68
  have e80 := n1
  clear s1 f1 n1 k1
  refine wpTake_stepE ⟨some 81, Op.pick (Operand.tmp 68) (Operand.const (Value.bool true)) (Operand.tmp 80), 4, "", #[], none⟩ 81 (.bool false) HR.out.o22 rfl (by rw [hsz]; decide) (wanted_none rfl) (fun z hS => cl10_22 L t kb pa pb s most b va vb v1 v2 _ z (fun _ => rfl) e68 e80 hS) ?_
  intro a23 ha23 s1 f1 n1 k1
  replace hsz := s1.trans hsz
  replace hdf := f1.trans hdf
  clear s1 f1 n1 k1
  refine wpTake_nil ?_
  refine wpAnyH_done HR.out.fin ?_ _
  rw [ha23, ha22, ha21, ha20, ha19, ha18, ha17, ha16, ha15, ha14, ha13, ha12, ha11, ha10, ha9, ha8, ha7, ha6, ha5, ha4, ha3, ha2, ha1]
  exact hK _ _ _ hT
-- R10: ⟨by kernel_rfl, by kernel_rfl, by kernel_rfl, by kernel_rfl, by kernel_rfl, by kernel_rfl, by kernel_rfl, by kernel_rfl, by kernel_rfl, by kernel_rfl, by kernel_rfl, by kernel_rfl, by kernel_rfl, by kernel_rfl, by kernel_rfl, by kernel_rfl, by kernel_rfl, by kernel_rfl, by kernel_rfl, by kernel_rfl, by kernel_rfl, by kernel_rfl, by kernel_rfl, by kernel_rfl, by kernel_rfl, by kernel_rfl, by kernel_rfl, by kernel_rfl, by kernel_rfl, by kernel_rfl, by kernel_rfl, by kernel_rfl, by kernel_rfl⟩

end Go.Proofs.Ytjbgpbafgpdciaa
