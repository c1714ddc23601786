/- Texts of this proof, joined: Zb, Ra0. -/
import Derived.Test.YtmncocmeafcpfaaDoorMgAP
/- Drawn regions of coord.New and of the law CoordNobody (laid by scripts/mkzb.py). -/
namespace Go.Proofs.YtmncocmeafcpfaaDoor
set_option linter.unusedVariables false
set_option linter.unusedSimpArgs false
open Go.RowKit Go.Deep

theorem exec_ldC {ev : Operand → Value} {g : Option (Nat × Bool)} {d : Option Tmp} {ty ty2 : TypeId} {x : Operand} {v : Value} {b : Addr} {z : World} (he : ev x = .pointer (some b)) (hr : (loadVar ty b).run Tryd.prog z = .ok v z) : (execOp ev ⟨d, Op.load ty x, ty2, "", #[], g⟩).run Tryd.prog z = .ok (.value v) z := by
  unfold execOp
  simp only [he]
  simp [Instr.loadAt, Instr.sureAddr, hr]
theorem cn3_bx (self aid ck nid now : Int) (key : ByteArray) (ev : Operand → Value) (z : World) (e46 : ev (.tmp 46) = .agg #[.int .i64 self, .int .i64 aid, .int .i64 now, .int .i64 nid, .int .i64 ck, .string key, .int .i64 0, .int .i64 0, .int .i64 0, .int .i64 0, .int .i64 0, .int .u32 0, .int .i64 0, .int .i64 0, .slice none 0 0, .bool false, .slice none 0 0, .pointer none, .pointer none]) : (execOp ev ⟨some 47, Op.box 106 (Operand.tmp 46), 83, "", #[], none⟩).run Tryd.prog z = .ok (.value (.pointer (some ⟨z.heap.size, 0, none⟩))) (z.alloc (.cells #[.int .i64 self, .int .i64 aid, .int .i64 now, .int .i64 nid, .int .i64 ck, .string key, .int .i64 0, .int .i64 0, .int .i64 0, .int .i64 0, .int .i64 0, .int .u32 0, .int .i64 0, .int .i64 0, .slice none 0 0, .bool false, .slice none 0 0, .pointer none, .pointer none] 106)) := by go_simp
theorem cn3_0 (bx : Nat) (self aid kind ck nid now : Int) (key : ByteArray) (ev : Operand → Value) (z : World) (ec : ∀ c, ev (.const c) = c) (e0 : ev (.tmp 0) = .int .i64 self) (hS : z.cell? ⟨bx, 0, none⟩ = some (.int .i64 aid) ∧ z.cell? ⟨bx, 1, none⟩ = some (.int .i64 kind) ∧ z.cell? ⟨bx, 2, none⟩ = some (.string key)) : (execOp ev ⟨some 35, Op.move (Operand.tmp 0), 3, "", #[], none⟩).run Tryd.prog z = .ok (.value (.int .i64 self)) z := by
  obtain ⟨sa, sb, sc⟩ := hS
  go_simp
theorem cn3_1 (bx : Nat) (self aid kind ck nid now : Int) (key : ByteArray) (ev : Operand → Value) (z : World) (ec : ∀ c, ev (.const c) = c) (e5 : ev (.tmp 5) = .pointer (some ⟨bx, 0, none⟩)) (hS : z.cell? ⟨bx, 0, none⟩ = some (.int .i64 aid) ∧ z.cell? ⟨bx, 1, none⟩ = some (.int .i64 kind) ∧ z.cell? ⟨bx, 2, none⟩ = some (.string key)) : (execOp ev ⟨some 36, Op.fieldAddr 81 (Operand.tmp 5) 0, 0, "", #[], none⟩).run Tryd.prog z = .ok (.value (.pointer (some ⟨bx, 0, none⟩))) z := by
  obtain ⟨sa, sb, sc⟩ := hS
  go_simp
theorem cn3_2 (bx : Nat) (self aid kind ck nid now : Int) (key : ByteArray) (ev : Operand → Value) (z : World) (ec : ∀ c, ev (.const c) = c) (e36 : ev (.tmp 36) = .pointer (some ⟨bx, 0, none⟩)) (hS : z.cell? ⟨bx, 0, none⟩ = some (.int .i64 aid) ∧ z.cell? ⟨bx, 1, none⟩ = some (.int .i64 kind) ∧ z.cell? ⟨bx, 2, none⟩ = some (.string key)) : (execOp ev ⟨some 37, Op.load 3 (Operand.tmp 36), 3, "", #[], none⟩).run Tryd.prog z = .ok (.value (.int .i64 aid)) z := by
  obtain ⟨sa, sb, sc⟩ := hS
  go_simp
theorem cn3_3 (bx : Nat) (self aid kind ck nid now : Int) (key : ByteArray) (ev : Operand → Value) (z : World) (ec : ∀ c, ev (.const c) = c) (e3 : ev (.tmp 3) = .int .i64 now) (hS : z.cell? ⟨bx, 0, none⟩ = some (.int .i64 aid) ∧ z.cell? ⟨bx, 1, none⟩ = some (.int .i64 kind) ∧ z.cell? ⟨bx, 2, none⟩ = some (.string key)) : (execOp ev ⟨some 38, Op.move (Operand.tmp 3), 3, "", #[], none⟩).run Tryd.prog z = .ok (.value (.int .i64 now)) z := by
  obtain ⟨sa, sb, sc⟩ := hS
  go_simp
theorem cn3_4 (bx : Nat) (self aid kind ck nid now : Int) (key : ByteArray) (ev : Operand → Value) (z : World) (ec : ∀ c, ev (.const c) = c) (e2 : ev (.tmp 2) = .int .i64 nid) (hS : z.cell? ⟨bx, 0, none⟩ = some (.int .i64 aid) ∧ z.cell? ⟨bx, 1, none⟩ = some (.int .i64 kind) ∧ z.cell? ⟨bx, 2, none⟩ = some (.string key)) : (execOp ev ⟨some 39, Op.move (Operand.tmp 2), 3, "", #[], none⟩).run Tryd.prog z = .ok (.value (.int .i64 nid)) z := by
  obtain ⟨sa, sb, sc⟩ := hS
  go_simp
theorem cn3_5 (bx : Nat) (self aid kind ck nid now : Int) (key : ByteArray) (ev : Operand → Value) (z : World) (ec : ∀ c, ev (.const c) = c) (e5 : ev (.tmp 5) = .pointer (some ⟨bx, 0, none⟩)) (hS : z.cell? ⟨bx, 0, none⟩ = some (.int .i64 aid) ∧ z.cell? ⟨bx, 1, none⟩ = some (.int .i64 kind) ∧ z.cell? ⟨bx, 2, none⟩ = some (.string key)) : (execOp ev ⟨some 40, Op.fieldAddr 81 (Operand.tmp 5) 1, 0, "", #[], none⟩).run Tryd.prog z = .ok (.value (.pointer (some ⟨bx, 1, none⟩))) z := by
  obtain ⟨sa, sb, sc⟩ := hS
  go_simp
theorem cn3_6 (bx : Nat) (self aid kind ck nid now : Int) (key : ByteArray) (ev : Operand → Value) (z : World) (ec : ∀ c, ev (.const c) = c) (e40 : ev (.tmp 40) = .pointer (some ⟨bx, 1, none⟩)) (hS : z.cell? ⟨bx, 0, none⟩ = some (.int .i64 aid) ∧ z.cell? ⟨bx, 1, none⟩ = some (.int .i64 kind) ∧ z.cell? ⟨bx, 2, none⟩ = some (.string key)) : (execOp ev ⟨some 41, Op.load 3 (Operand.tmp 40), 3, "", #[], none⟩).run Tryd.prog z = .ok (.value (.int .i64 kind)) z := by
  obtain ⟨sa, sb, sc⟩ := hS
  go_simp
theorem cn3_8 (bx : Nat) (self aid kind ck nid now : Int) (key : ByteArray) (ev : Operand → Value) (z : World) (ec : ∀ c, ev (.const c) = c) (e5 : ev (.tmp 5) = .pointer (some ⟨bx, 0, none⟩)) (hS : z.cell? ⟨bx, 0, none⟩ = some (.int .i64 aid) ∧ z.cell? ⟨bx, 1, none⟩ = some (.int .i64 kind) ∧ z.cell? ⟨bx, 2, none⟩ = some (.string key)) : (execOp ev ⟨some 43, Op.fieldAddr 81 (Operand.tmp 5) 2, 0, "", #[], none⟩).run Tryd.prog z = .ok (.value (.pointer (some ⟨bx, 2, none⟩))) z := by
  obtain ⟨sa, sb, sc⟩ := hS
  go_simp
theorem cn3_9 (bx : Nat) (self aid kind ck nid now : Int) (key : ByteArray) (ev : Operand → Value) (z : World) (ec : ∀ c, ev (.const c) = c) (e43 : ev (.tmp 43) = .pointer (some ⟨bx, 2, none⟩)) (hS : z.cell? ⟨bx, 0, none⟩ = some (.int .i64 aid) ∧ z.cell? ⟨bx, 1, none⟩ = some (.int .i64 kind) ∧ z.cell? ⟨bx, 2, none⟩ = some (.string key)) : (execOp ev ⟨some 44, Op.load 9 (Operand.tmp 43), 9, "", #[], none⟩).run Tryd.prog z = .ok (.value (.string key)) z := by
  obtain ⟨sa, sb, sc⟩ := hS
  go_simp
set_option maxRecDepth 100000 in
theorem cn3_7 (bx : Nat) (self aid kind ck nid now : Int) (key : ByteArray) (ev : Operand → Value) (z : World) (ec : ∀ c, ev (.const c) = c) (ef : ev (.func 69) = .func (.func 69) #[] #[]) (e41 : ev (.tmp 41) = .int .i64 kind) : (execOp ev ⟨some 42, Op.call { callee := Callee.value (Operand.func 69), args := #[Operand.tmp 41], argTypes := #[3] }, 3, "", #[], none⟩).run Tryd.prog z = .ok (.enter 69 #[.int .i64 kind]) z :=
  enter_run _ ef (by simp only [List.map_toArray, List.map_cons, List.map_nil, ec, e41]) (fun _ => by rfl)
theorem cn3_10 (bx : Nat) (self aid kind ck nid now : Int) (key : ByteArray) (ev : Operand → Value) (z : World) (ec : ∀ c, ev (.const c) = c) (e39 : ev (.tmp 39) = .int .i64 nid) (e42 : ev (.tmp 42) = .int .i64 ck) (e44 : ev (.tmp 44) = .string key) (hS : z.cell? ⟨bx, 0, none⟩ = some (.int .i64 aid) ∧ z.cell? ⟨bx, 1, none⟩ = some (.int .i64 kind) ∧ z.cell? ⟨bx, 2, none⟩ = some (.string key)) : (execOp ev ⟨some 45, Op.build 42 #[(0, Operand.tmp 39), (1, Operand.tmp 42), (2, Operand.tmp 44)], 42, "", #[], none⟩).run Tryd.prog z = .ok (.value (.agg #[.int .i64 nid, .int .i64 ck, .string key, .int .i64 0, .int .i64 0, .int .i64 0, .int .i64 0, .int .i64 0, .int .u32 0, .int .i64 0, .int .i64 0, .slice none 0 0])) z := by
  obtain ⟨sa, sb, sc⟩ := hS
  go_simp
theorem cn3_11 (bx : Nat) (self aid kind ck nid now : Int) (key : ByteArray) (ev : Operand → Value) (z : World) (ec : ∀ c, ev (.const c) = c) (e35 : ev (.tmp 35) = .int .i64 self) (e37 : ev (.tmp 37) = .int .i64 aid) (e38 : ev (.tmp 38) = .int .i64 now) (e45 : ev (.tmp 45) = .agg #[.int .i64 nid, .int .i64 ck, .string key, .int .i64 0, .int .i64 0, .int .i64 0, .int .i64 0, .int .i64 0, .int .u32 0, .int .i64 0, .int .i64 0, .slice none 0 0]) (hS : z.cell? ⟨bx, 0, none⟩ = some (.int .i64 aid) ∧ z.cell? ⟨bx, 1, none⟩ = some (.int .i64 kind) ∧ z.cell? ⟨bx, 2, none⟩ = some (.string key)) : (execOp ev ⟨some 46, Op.build 106 #[(0, Operand.tmp 35), (1, Operand.tmp 37), (2, Operand.tmp 38), (3, Operand.tmp 45)], 106, "", #[], none⟩).run Tryd.prog z = .ok (.value (.agg #[.int .i64 self, .int .i64 aid, .int .i64 now, .int .i64 nid, .int .i64 ck, .string key, .int .i64 0, .int .i64 0, .int .i64 0, .int .i64 0, .int .i64 0, .int .u32 0, .int .i64 0, .int .i64 0, .slice none 0 0, .bool false, .slice none 0 0, .pointer none, .pointer none])) z := by
  obtain ⟨sa, sb, sc⟩ := hS
  go_simp
theorem cn3_13 {y : World} (bx : Nat) (self aid kind ck nid now : Int) (key : ByteArray) (ev : Operand → Value) (z : World) (ec : ∀ c, ev (.const c) = c) (e47 : ev (.tmp 47) = .pointer (some ⟨y.drew.heap.size, 0, none⟩)) (hS : z.cell? ⟨bx, 0, none⟩ = some (.int .i64 aid) ∧ z.cell? ⟨bx, 1, none⟩ = some (.int .i64 kind) ∧ z.cell? ⟨bx, 2, none⟩ = some (.string key)) : (execOp ev ⟨some 10, Op.assign (Operand.tmp 47), 83, "", #[], none⟩).run Tryd.prog z = .ok (.value (.pointer (some ⟨y.drew.heap.size, 0, none⟩))) z := by
  obtain ⟨sa, sb, sc⟩ := hS
  go_simp
structure cn3R (ops : Array Oper) : Prop where
  size : ops.size = 14
  sel : Region.noSelect ops = true
  o0 : (ops[0]?).map bare = some ⟨some 35, Op.move (Operand.tmp 0), 3, "", #[], none⟩
  o1 : (ops[1]?).map bare = some ⟨some 36, Op.fieldAddr 81 (Operand.tmp 5) 0, 0, "", #[], none⟩
  o2 : (ops[2]?).map bare = some ⟨some 37, Op.load 3 (Operand.tmp 36), 3, "", #[], none⟩
  o3 : (ops[3]?).map bare = some ⟨some 38, Op.move (Operand.tmp 3), 3, "", #[], none⟩
  o4 : (ops[4]?).map bare = some ⟨some 39, Op.move (Operand.tmp 2), 3, "", #[], none⟩
  o5 : (ops[5]?).map bare = some ⟨some 40, Op.fieldAddr 81 (Operand.tmp 5) 1, 0, "", #[], none⟩
  o6 : (ops[6]?).map bare = some ⟨some 41, Op.load 3 (Operand.tmp 40), 3, "", #[], none⟩
  o7 : (ops[7]?).map bare = some ⟨some 42, Op.call { callee := Callee.value (Operand.func 69), args := #[Operand.tmp 41], argTypes := #[3] }, 3, "", #[], none⟩
  o8 : (ops[8]?).map bare = some ⟨some 43, Op.fieldAddr 81 (Operand.tmp 5) 2, 0, "", #[], none⟩
  o9 : (ops[9]?).map bare = some ⟨some 44, Op.load 9 (Operand.tmp 43), 9, "", #[], none⟩
  o10 : (ops[10]?).map bare = some ⟨some 45, Op.build 42 #[(0, Operand.tmp 39), (1, Operand.tmp 42), (2, Operand.tmp 44)], 42, "", #[], none⟩
  o11 : (ops[11]?).map bare = some ⟨some 46, Op.build 106 #[(0, Operand.tmp 35), (1, Operand.tmp 37), (2, Operand.tmp 38), (3, Operand.tmp 45)], 106, "", #[], none⟩
  o12 : (ops[12]?).map bare = some ⟨some 47, Op.box 106 (Operand.tmp 46), 83, "", #[], none⟩
  o13 : (ops[13]?).map bare = some ⟨some 10, Op.assign (Operand.tmp 47), 83, "", #[], none⟩
  may0 : takeB .any ops [0, 1, 2, 3, 4, 5, 6, 8, 9] (Array.replicate 14 false) = true
  r7 : Region.ready .any ops (mark [0, 1, 2, 3, 4, 5, 6, 8, 9] (Array.replicate 14 false)) = [7]
  may1 : takeB .any ops [10, 11] ((mark [0, 1, 2, 3, 4, 5, 6, 8, 9] (Array.replicate 14 false)).setIfInBounds 7 true) = true
  r12 : Region.ready .any ops (mark [10, 11] ((mark [0, 1, 2, 3, 4, 5, 6, 8, 9] (Array.replicate 14 false)).setIfInBounds 7 true)) = [12]
  may2 : takeB .any ops [13] ((mark [10, 11] ((mark [0, 1, 2, 3, 4, 5, 6, 8, 9] (Array.replicate 14 false)).setIfInBounds 7 true)).setIfInBounds 12 true) = true
  fin : Region.ready .any ops (mark [13] ((mark [10, 11] ((mark [0, 1, 2, 3, 4, 5, 6, 8, 9] (Array.replicate 14 false)).setIfInBounds 7 true)).setIfInBounds 12 true)) = []

set_option maxRecDepth 100000 in
set_option maxHeartbeats 3200000 in
theorem cn3_region {ops : Array Oper} {id : Nat} {Q : Exit → Act → World → Prop} {a : Act} {y : World} (R : cn3R ops) (bx : Nat) (self aid kind ck nid now : Int) (key : ByteArray)
    (hQ : ∀ d v c a w, Q (.panic c) (a.put d v) w → Q (.panic c) a w) (hsz : a.tmps.size = 73) (e0 : a.eval (.tmp 0) = .int .i64 self) (e2 : a.eval (.tmp 2) = .int .i64 nid) (e3 : a.eval (.tmp 3) = .int .i64 now) (e5 : a.eval (.tmp 5) = .pointer (some ⟨bx, 0, none⟩)) (hS0 : (y.drew.cell? ⟨bx, 0, none⟩ = some (.int .i64 aid) ∧ y.drew.cell? ⟨bx, 1, none⟩ = some (.int .i64 kind) ∧ y.drew.cell? ⟨bx, 2, none⟩ = some (.string key))) (hS1 : ((y.drew.alloc (.cells #[.int .i64 self, .int .i64 aid, .int .i64 now, .int .i64 nid, .int .i64 ck, .string key, .int .i64 0, .int .i64 0, .int .i64 0, .int .i64 0, .int .i64 0, .int .u32 0, .int .i64 0, .int .i64 0, .slice none 0 0, .bool false, .slice none 0 0, .pointer none, .pointer none] 106)).cell? ⟨bx, 0, none⟩ = some (.int .i64 aid) ∧ (y.drew.alloc (.cells #[.int .i64 self, .int .i64 aid, .int .i64 now, .int .i64 nid, .int .i64 ck, .string key, .int .i64 0, .int .i64 0, .int .i64 0, .int .i64 0, .int .i64 0, .int .u32 0, .int .i64 0, .int .i64 0, .slice none 0 0, .bool false, .slice none 0 0, .pointer none, .pointer none] 106)).cell? ⟨bx, 1, none⟩ = some (.int .i64 kind) ∧ (y.drew.alloc (.cells #[.int .i64 self, .int .i64 aid, .int .i64 now, .int .i64 nid, .int .i64 ck, .string key, .int .i64 0, .int .i64 0, .int .i64 0, .int .i64 0, .int .i64 0, .int .u32 0, .int .i64 0, .int .i64 0, .slice none 0 0, .bool false, .slice none 0 0, .pointer none, .pointer none] 106)).cell? ⟨bx, 2, none⟩ = some (.string key))) (hc : Calls Tryd.prog 69 #[.int .i64 kind] y.drew fun e w9 => e = .returned (.int .i64 ck) ∧ w9 = y.drew)
    (hK :  Q .normal ((((((((((((((a.put (some 35) (.int .i64 self)).put (some 36) (.pointer (some ⟨bx, 0, none⟩))).put (some 37) (.int .i64 aid)).put (some 38) (.int .i64 now)).put (some 39) (.int .i64 nid)).put (some 40) (.pointer (some ⟨bx, 1, none⟩))).put (some 41) (.int .i64 kind)).put (some 43) (.pointer (some ⟨bx, 2, none⟩))).put (some 44) (.string key)).put (some 42) (.int .i64 ck)).put (some 45) (.agg #[.int .i64 nid, .int .i64 ck, .string key, .int .i64 0, .int .i64 0, .int .i64 0, .int .i64 0, .int .i64 0, .int .u32 0, .int .i64 0, .int .i64 0, .slice none 0 0])).put (some 46) (.agg #[.int .i64 self, .int .i64 aid, .int .i64 now, .int .i64 nid, .int .i64 ck, .string key, .int .i64 0, .int .i64 0, .int .i64 0, .int .i64 0, .int .i64 0, .int .u32 0, .int .i64 0, .int .i64 0, .slice none 0 0, .bool false, .slice none 0 0, .pointer none, .pointer none])).put (some 47) (.pointer (some ⟨y.drew.heap.size, 0, none⟩))).put (some 10) (.pointer (some ⟨y.drew.heap.size, 0, none⟩))) (y.drew.alloc (.cells #[.int .i64 self, .int .i64 aid, .int .i64 now, .int .i64 nid, .int .i64 ck, .string key, .int .i64 0, .int .i64 0, .int .i64 0, .int .i64 0, .int .i64 0, .int .u32 0, .int .i64 0, .int .i64 0, .slice none 0 0, .bool false, .slice none 0 0, .pointer none, .pointer none] 106))) : (Code.region id ops true).wp Tryd.prog Q a y := by
  have HR : Hid (cn3R ops) := R
  have hdf : a.defers = a.defers := rfl
  refine wp_region_held_drew (S := (fun z : World => z.cell? ⟨bx, 0, none⟩ = some (.int .i64 aid) ∧ z.cell? ⟨bx, 1, none⟩ = some (.int .i64 kind) ∧ z.cell? ⟨bx, 2, none⟩ = some (.string key))) (by kernel_rfl) (hS0) (fun hHeld => ?_)
  rw [R.size]
  clear R
  refine wpAnyH_takes HR.out.sel hQ hHeld [0, 1, 2, 3, 4, 5, 6, 8, 9] 5 _ _ HR.out.may0 ?_
  refine wpTake_stepE ⟨some 35, Op.move (Operand.tmp 0), 3, "", #[], none⟩ 35 (.int .i64 self) HR.out.o0 rfl (by rw [hsz]; decide) (wanted_none rfl) (fun z hS => cn3_0 bx self aid kind ck nid now key _ z (fun _ => rfl) e0 hS) ?_
  intro a1 ha1 s1 f1 n1 k1
  replace hsz := s1.trans hsz
  replace hdf := f1.trans hdf
  replace e2 := (k1 2 (by decide)).trans e2
  replace e3 := (k1 3 (by decide)).trans e3
  replace e5 := (k1 5 (by decide)).trans e5
  have e35 := n1
  clear s1 f1 n1 k1
  refine wpTake_stepE ⟨some 36, Op.fieldAddr 81 (Operand.tmp 5) 0, 0, "", #[], none⟩ 36 (.pointer (some ⟨bx, 0, none⟩)) HR.out.o1 rfl (by rw [hsz]; decide) (wanted_none rfl) (fun z hS => cn3_1 bx self aid kind ck nid now key _ z (fun _ => rfl) e5 hS) ?_
  intro a2 ha2 s1 f1 n1 k1
  replace hsz := s1.trans hsz
  replace hdf := f1.trans hdf
  replace e2 := (k1 2 (by decide)).trans e2
  replace e3 := (k1 3 (by decide)).trans e3
  replace e5 := (k1 5 (by decide)).trans e5
  replace e35 := (k1 35 (by decide)).trans e35
  have e36 := n1
  clear s1 f1 n1 k1
  refine wpTake_stepE ⟨some 37, Op.load 3 (Operand.tmp 36), 3, "", #[], none⟩ 37 (.int .i64 aid) HR.out.o2 rfl (by rw [hsz]; decide) (wanted_none rfl) (fun z hS => cn3_2 bx self aid kind ck nid now key _ z (fun _ => rfl) e36 hS) ?_
  intro a3 ha3 s1 f1 n1 k1
  replace hsz := s1.trans hsz
  replace hdf := f1.trans hdf
  replace e2 := (k1 2 (by decide)).trans e2
  replace e3 := (k1 3 (by decide)).trans e3
  replace e5 := (k1 5 (by decide)).trans e5
  replace e35 := (k1 35 (by decide)).trans e35
  have e37 := n1
  clear s1 f1 n1 k1
  refine wpTake_stepE ⟨some 38, Op.move (Operand.tmp 3), 3, "", #[], none⟩ 38 (.int .i64 now) HR.out.o3 rfl (by rw [hsz]; decide) (wanted_none rfl) (fun z hS => cn3_3 bx self aid kind ck nid now key _ z (fun _ => rfl) e3 hS) ?_
  intro a4 ha4 s1 f1 n1 k1
  replace hsz := s1.trans hsz
  replace hdf := f1.trans hdf
  replace e2 := (k1 2 (by decide)).trans e2
  replace e5 := (k1 5 (by decide)).trans e5
  replace e35 := (k1 35 (by decide)).trans e35
  replace e37 := (k1 37 (by decide)).trans e37
  have e38 := n1
  clear s1 f1 n1 k1
  refine wpTake_stepE ⟨some 39, Op.move (Operand.tmp 2), 3, "", #[], none⟩ 39 (.int .i64 nid) HR.out.o4 rfl (by rw [hsz]; decide) (wanted_none rfl) (fun z hS => cn3_4 bx self aid kind ck nid now key _ z (fun _ => rfl) e2 hS) ?_
  intro a5 ha5 s1 f1 n1 k1
  replace hsz := s1.trans hsz
  replace hdf := f1.trans hdf
  replace e5 := (k1 5 (by decide)).trans e5
  replace e35 := (k1 35 (by decide)).trans e35
  replace e37 := (k1 37 (by decide)).trans e37
  replace e38 := (k1 38 (by decide)).trans e38
  have e39 := n1
  clear s1 f1 n1 k1
  refine wpTake_stepE ⟨some 40, Op.fieldAddr 81 (Operand.tmp 5) 1, 0, "", #[], none⟩ 40 (.pointer (some ⟨bx, 1, none⟩)) HR.out.o5 rfl (by rw [hsz]; decide) (wanted_none rfl) (fun z hS => cn3_5 bx self aid kind ck nid now key _ z (fun _ => rfl) e5 hS) ?_
  intro a6 ha6 s1 f1 n1 k1
  replace hsz := s1.trans hsz
  replace hdf := f1.trans hdf
  replace e5 := (k1 5 (by decide)).trans e5
  replace e35 := (k1 35 (by decide)).trans e35
  replace e37 := (k1 37 (by decide)).trans e37
  replace e38 := (k1 38 (by decide)).trans e38
  replace e39 := (k1 39 (by decide)).trans e39
  have e40 := n1
  clear s1 f1 n1 k1
  refine wpTake_stepE ⟨some 41, Op.load 3 (Operand.tmp 40), 3, "", #[], none⟩ 41 (.int .i64 kind) HR.out.o6 rfl (by rw [hsz]; decide) (wanted_none rfl) (fun z hS => cn3_6 bx self aid kind ck nid now key _ z (fun _ => rfl) e40 hS) ?_
  intro a7 ha7 s1 f1 n1 k1
  replace hsz := s1.trans hsz
  replace hdf := f1.trans hdf
  replace e5 := (k1 5 (by decide)).trans e5
  replace e35 := (k1 35 (by decide)).trans e35
  replace e37 := (k1 37 (by decide)).trans e37
  replace e38 := (k1 38 (by decide)).trans e38
  replace e39 := (k1 39 (by decide)).trans e39
  have e41 := n1
  clear s1 f1 n1 k1
  refine wpTake_stepE ⟨some 43, Op.fieldAddr 81 (Operand.tmp 5) 2, 0, "", #[], none⟩ 43 (.pointer (some ⟨bx, 2, none⟩)) HR.out.o8 rfl (by rw [hsz]; decide) (wanted_none rfl) (fun z hS => cn3_8 bx self aid kind ck nid now key _ z (fun _ => rfl) e5 hS) ?_
  intro a8 ha8 s1 f1 n1 k1
  replace hsz := s1.trans hsz
  replace hdf := f1.trans hdf
  replace e5 := (k1 5 (by decide)).trans e5
  replace e35 := (k1 35 (by decide)).trans e35
  replace e37 := (k1 37 (by decide)).trans e37
  replace e38 := (k1 38 (by decide)).trans e38
  replace e39 := (k1 39 (by decide)).trans e39
  replace e41 := (k1 41 (by decide)).trans e41
  have e43 := n1
  clear s1 f1 n1 k1
  refine wpTake_stepE ⟨some 44, Op.load 9 (Operand.tmp 43), 9, "", #[], none⟩ 44 (.string key) HR.out.o9 rfl (by rw [hsz]; decide) (wanted_none rfl) (fun z hS => cn3_9 bx self aid kind ck nid now key _ z (fun _ => rfl) e43 hS) ?_
  intro a9 ha9 s1 f1 n1 k1
  replace hsz := s1.trans hsz
  replace hdf := f1.trans hdf
  replace e5 := (k1 5 (by decide)).trans e5
  replace e35 := (k1 35 (by decide)).trans e35
  replace e37 := (k1 37 (by decide)).trans e37
  replace e38 := (k1 38 (by decide)).trans e38
  replace e39 := (k1 39 (by decide)).trans e39
  replace e41 := (k1 41 (by decide)).trans e41
  have e44 := n1
  clear s1 f1 n1 k1
  refine wpTake_nil ?_
  refine wpAnyH_one ⟨some 42, Op.call { callee := Callee.value (Operand.func 69), args := #[Operand.tmp 41], argTypes := #[3] }, 3, "", #[], none⟩ HR.out.r7 HR.out.o7 rfl (fun K' hK' => ?_)
  refine wp_enter (cn3_7 bx self aid kind ck nid now key _ _ (fun _ => rfl) rfl e41) (hc) ?_
  rintro e9 w9 ⟨rfl, rfl⟩
  refine ⟨_, rfl, hK'.out _ _ (hS0) ?_⟩
  replace hHeld := hS0
  clear hK' K'
  show wpAnyH _ _ _ _ _ _ _ (Act.put a9 (some 42) (.int .i64 ck)) _
  obtain ⟨s1, f1, n1, k1⟩ := act_put a9 42 (.int .i64 ck) (show 42 < _ by rw [hsz]; decide)
  obtain ⟨a10, ha10⟩ : ∃ x, x = Act.put a9 (some 42) (.int .i64 ck) := ⟨_, rfl⟩
  rw [← ha10] at s1 f1 n1 k1 ⊢
  replace hsz := s1.trans hsz
  replace hdf := f1.trans hdf
  replace e5 := (k1 5 (by decide)).trans e5
  replace e35 := (k1 35 (by decide)).trans e35
  replace e37 := (k1 37 (by decide)).trans e37
  replace e38 := (k1 38 (by decide)).trans e38
  replace e39 := (k1 39 (by decide)).trans e39
  replace e44 := (k1 44 (by decide)).trans e44
  have e42 := n1
  clear s1 f1 n1 k1
  refine wpAnyH_takes HR.out.sel hQ hHeld [10, 11] 2 _ _ HR.out.may1 ?_
  refine wpTake_stepE ⟨some 45, Op.build 42 #[(0, Operand.tmp 39), (1, Operand.tmp 42), (2, Operand.tmp 44)], 42, "", #[], none⟩ 45 (.agg #[.int .i64 nid, .int .i64 ck, .string key, .int .i64 0, .int .i64 0, .int .i64 0, .int .i64 0, .int .i64 0, .int .u32 0, .int .i64 0, .int .i64 0, .slice none 0 0]) HR.out.o10 rfl (by rw [hsz]; decide) (wanted_none rfl) (fun z hS => cn3_10 bx self aid kind ck nid now key _ z (fun _ => rfl) e39 e42 e44 hS) ?_
  intro a11 ha11 s1 f1 n1 k1
  replace hsz := s1.trans hsz
  replace hdf := f1.trans hdf
  replace e5 := (k1 5 (by decide)).trans e5
  replace e35 := (k1 35 (by decide)).trans e35
  replace e37 := (k1 37 (by decide)).trans e37
  replace e38 := (k1 38 (by decide)).trans e38
  have e45 := n1
  clear s1 f1 n1 k1
  refine wpTake_stepE ⟨some 46, Op.build 106 #[(0, Operand.tmp 35), (1, Operand.tmp 37), (2, Operand.tmp 38), (3, Operand.tmp 45)], 106, "", #[], none⟩ 46 (.agg #[.int .i64 self, .int .i64 aid, .int .i64 now, .int .i64 nid, .int .i64 ck, .string key, .int .i64 0, .int .i64 0, .int .i64 0, .int .i64 0, .int .i64 0, .int .u32 0, .int .i64 0, .int .i64 0, .slice none 0 0, .bool false, .slice none 0 0, .pointer none, .pointer none]) HR.out.o11 rfl (by rw [hsz]; decide) (wanted_none rfl) (fun z hS => cn3_11 bx self aid kind ck nid now key _ z (fun _ => rfl) e35 e37 e38 e45 hS) ?_
  intro a12 ha12 s1 f1 n1 k1
  replace hsz := s1.trans hsz
  replace hdf := f1.trans hdf
  replace e5 := (k1 5 (by decide)).trans e5
  have e46 := n1
  clear s1 f1 n1 k1
  refine wpTake_nil ?_
  refine wpAnyH_run ⟨some 47, Op.box 106 (Operand.tmp 46), 83, "", #[], none⟩ _ (.pointer (some ⟨y.drew.heap.size, 0, none⟩)) _ HR.out.r12 HR.out.o12 rfl rfl (cn3_bx self aid ck nid now key _ _ e46) (hS1) ?_
  replace hHeld := hS1
  obtain ⟨s1, f1, n1, k1⟩ := act_put a12 47 (.pointer (some ⟨y.drew.heap.size, 0, none⟩)) (show 47 < _ by rw [hsz]; decide)
  obtain ⟨a13, ha13⟩ : ∃ x, x = Act.put a12 (some 47) (.pointer (some ⟨y.drew.heap.size, 0, none⟩)) := ⟨_, rfl⟩
  rw [← ha13] at s1 f1 n1 k1 ⊢
  replace hsz := s1.trans hsz
  replace hdf := f1.trans hdf
  replace e5 := (k1 5 (by decide)).trans e5
  have e47 := n1
  clear s1 f1 n1 k1
  refine wpAnyH_takes HR.out.sel hQ hHeld [13] 0 _ _ HR.out.may2 ?_
  refine wpTake_stepE ⟨some 10, Op.assign (Operand.tmp 47), 83, "", #[], none⟩ 10 (.pointer (some ⟨y.drew.heap.size, 0, none⟩)) HR.out.o13 rfl (by rw [hsz]; decide) (wanted_none rfl) (fun z hS => cn3_13 bx self aid kind ck nid now key _ z (fun _ => rfl) e47 hS) ?_
  intro a14 ha14 s1 f1 n1 k1
  replace hsz := s1.trans hsz
  replace hdf := f1.trans hdf
  replace e5 := (k1 5 (by decide)).trans e5
  have e10 := n1
  clear s1 f1 n1 k1
  refine wpTake_nil ?_
  refine wpAnyH_done HR.out.fin ?_ _
  rw [ha14, ha13, ha12, ha11, ha10, ha9, ha8, ha7, ha6, ha5, ha4, ha3, ha2, ha1]
  exact hK
-- R3: ⟨by kernel_rfl, by kernel_rfl, by kernel_rfl, by kernel_rfl, by kernel_rfl, by kernel_rfl, by kernel_rfl, by kernel_rfl, by kernel_rfl, by kernel_rfl, by kernel_rfl, by kernel_rfl, by kernel_rfl, by kernel_rfl, by kernel_rfl, by kernel_rfl, by kernel_rfl, by kernel_rfl, by kernel_rfl, by kernel_rfl, by kernel_rfl, by kernel_rfl⟩

theorem cb5_0 (bx : Nat) (v vn x1 : Value) (ca cm co : Array Value) (ev : Operand → Value) (z : World) (ec : ∀ c, ev (.const c) = c) (e4 : ev (.tmp 4) = v) (hS : (loadVar 26 ⟨bx, 2, none⟩).run Tryd.prog z = .ok (.agg ca) z ∧ z.cell? ⟨bx, 4, none⟩ = some vn ∧ (loadVar 45 ⟨bx, 5, none⟩).run Tryd.prog z = .ok (.agg cm) z ∧ z.cell? ⟨bx, 1, none⟩ = some x1 ∧ (loadVar 87 ⟨bx, 29, none⟩).run Tryd.prog z = .ok (.agg co) z) : (execOp ev ⟨some 20, Op.move (Operand.tmp 4), 83, "", #[], none⟩).run Tryd.prog z = .ok (.value (v)) z := by
  obtain ⟨sa, sb, sc, sd, se⟩ := hS
  go_simp
theorem cb5_1 (bx : Nat) (v vn x1 : Value) (ca cm co : Array Value) (ev : Operand → Value) (z : World) (ec : ∀ c, ev (.const c) = c) (e1 : ev (.tmp 1) = .pointer (some ⟨bx, 0, none⟩)) (hS : (loadVar 26 ⟨bx, 2, none⟩).run Tryd.prog z = .ok (.agg ca) z ∧ z.cell? ⟨bx, 4, none⟩ = some vn ∧ (loadVar 45 ⟨bx, 5, none⟩).run Tryd.prog z = .ok (.agg cm) z ∧ z.cell? ⟨bx, 1, none⟩ = some x1 ∧ (loadVar 87 ⟨bx, 29, none⟩).run Tryd.prog z = .ok (.agg co) z) : (execOp ev ⟨some 21, Op.fieldAddr 89 (Operand.tmp 1) 2, 0, "", #[], none⟩).run Tryd.prog z = .ok (.value (.pointer (some ⟨bx, 2, none⟩))) z := by
  obtain ⟨sa, sb, sc, sd, se⟩ := hS
  go_simp
theorem cb5_2 (bx : Nat) (v vn x1 : Value) (ca cm co : Array Value) (ev : Operand → Value) (z : World) (ec : ∀ c, ev (.const c) = c) (e21 : ev (.tmp 21) = .pointer (some ⟨bx, 2, none⟩)) (hS : (loadVar 26 ⟨bx, 2, none⟩).run Tryd.prog z = .ok (.agg ca) z ∧ z.cell? ⟨bx, 4, none⟩ = some vn ∧ (loadVar 45 ⟨bx, 5, none⟩).run Tryd.prog z = .ok (.agg cm) z ∧ z.cell? ⟨bx, 1, none⟩ = some x1 ∧ (loadVar 87 ⟨bx, 29, none⟩).run Tryd.prog z = .ok (.agg co) z) : (execOp ev ⟨some 22, Op.load 26 (Operand.tmp 21), 26, "", #[], none⟩).run Tryd.prog z = .ok (.value (.agg ca)) z := by
  exact exec_ldC e21 hS.1
theorem cb5_3 (bx : Nat) (v vn x1 : Value) (ca cm co : Array Value) (ev : Operand → Value) (z : World) (ec : ∀ c, ev (.const c) = c) (e1 : ev (.tmp 1) = .pointer (some ⟨bx, 0, none⟩)) (hS : (loadVar 26 ⟨bx, 2, none⟩).run Tryd.prog z = .ok (.agg ca) z ∧ z.cell? ⟨bx, 4, none⟩ = some vn ∧ (loadVar 45 ⟨bx, 5, none⟩).run Tryd.prog z = .ok (.agg cm) z ∧ z.cell? ⟨bx, 1, none⟩ = some x1 ∧ (loadVar 87 ⟨bx, 29, none⟩).run Tryd.prog z = .ok (.agg co) z) : (execOp ev ⟨some 23, Op.fieldAddr 89 (Operand.tmp 1) 3, 0, "", #[], none⟩).run Tryd.prog z = .ok (.value (.pointer (some ⟨bx, 4, none⟩))) z := by
  obtain ⟨sa, sb, sc, sd, se⟩ := hS
  go_simp
theorem cb5_4 (bx : Nat) (v vn x1 : Value) (ca cm co : Array Value) (ev : Operand → Value) (z : World) (ec : ∀ c, ev (.const c) = c) (e23 : ev (.tmp 23) = .pointer (some ⟨bx, 4, none⟩)) (hS : (loadVar 26 ⟨bx, 2, none⟩).run Tryd.prog z = .ok (.agg ca) z ∧ z.cell? ⟨bx, 4, none⟩ = some vn ∧ (loadVar 45 ⟨bx, 5, none⟩).run Tryd.prog z = .ok (.agg cm) z ∧ z.cell? ⟨bx, 1, none⟩ = some x1 ∧ (loadVar 87 ⟨bx, 29, none⟩).run Tryd.prog z = .ok (.agg co) z) : (execOp ev ⟨some 24, Op.load 23 (Operand.tmp 23), 23, "", #[], none⟩).run Tryd.prog z = .ok (.value (vn)) z := by
  obtain ⟨sa, sb, sc, sd, se⟩ := hS
  go_simp
set_option maxRecDepth 100000 in
theorem cb5_5 (bx : Nat) (v vn x1 : Value) (ca cm co : Array Value) (ev : Operand → Value) (z : World) (ec : ∀ c, ev (.const c) = c) (ef : ev (.func 35) = .func (.func 35) #[] #[]) (e20 : ev (.tmp 20) = v) (e22 : ev (.tmp 22) = .agg ca) (e24 : ev (.tmp 24) = vn) : (execOp ev ⟨some 25, Op.call { callee := Callee.value (Operand.func 35), args := #[Operand.tmp 20, Operand.tmp 22, Operand.tmp 24], argTypes := #[83, 26, 23] }, 28, "", #[], none⟩).run Tryd.prog z = .ok (.enter 35 #[v, .agg ca, vn]) z :=
  enter_run _ ef (by simp only [List.map_toArray, List.map_cons, List.map_nil, ec, e20, e22, e24]) (fun _ => by rfl)
theorem cb5_6 (bx : Nat) (v vn x1 : Value) (ca cm co : Array Value) (ev : Operand → Value) (z : World) (ec : ∀ c, ev (.const c) = c) (e25 : ev (.tmp 25) = .int .i64 2) (hS : (loadVar 26 ⟨bx, 2, none⟩).run Tryd.prog z = .ok (.agg ca) z ∧ z.cell? ⟨bx, 4, none⟩ = some vn ∧ (loadVar 45 ⟨bx, 5, none⟩).run Tryd.prog z = .ok (.agg cm) z ∧ z.cell? ⟨bx, 1, none⟩ = some x1 ∧ (loadVar 87 ⟨bx, 29, none⟩).run Tryd.prog z = .ok (.agg co) z) : (execOp ev ⟨some 26, Op.binOp BinOp.neq 28 (Operand.tmp 25) (Operand.const (Value.int IntKind.i64 2)) 28, 4, "", #[], none⟩).run Tryd.prog z = .ok (.value (.bool false)) z := by
  obtain ⟨sa, sb, sc, sd, se⟩ := hS
  go_simp
theorem cb5_7 (bx : Nat) (v vn x1 : Value) (ca cm co : Array Value) (ev : Operand → Value) (z : World) (ec : ∀ c, ev (.const c) = c) (e26 : ev (.tmp 26) = .bool false) (hS : (loadVar 26 ⟨bx, 2, none⟩).run Tryd.prog z = .ok (.agg ca) z ∧ z.cell? ⟨bx, 4, none⟩ = some vn ∧ (loadVar 45 ⟨bx, 5, none⟩).run Tryd.prog z = .ok (.agg cm) z ∧ z.cell? ⟨bx, 1, none⟩ = some x1 ∧ (loadVar 87 ⟨bx, 29, none⟩).run Tryd.prog z = .ok (.agg co) z) : (execOp ev ⟨some 27, Op.move (Operand.tmp 26), 4, "", #[], none⟩).run Tryd.prog z = .ok (.value (.bool false)) z := by
  obtain ⟨sa, sb, sc, sd, se⟩ := hS
  go_simp
theorem cb5_8 (bx : Nat) (v vn x1 : Value) (ca cm co : Array Value) (ev : Operand → Value) (z : World) (ec : ∀ c, ev (.const c) = c) (e4 : ev (.tmp 4) = v) (hS : (loadVar 26 ⟨bx, 2, none⟩).run Tryd.prog z = .ok (.agg ca) z ∧ z.cell? ⟨bx, 4, none⟩ = some vn ∧ (loadVar 45 ⟨bx, 5, none⟩).run Tryd.prog z = .ok (.agg cm) z ∧ z.cell? ⟨bx, 1, none⟩ = some x1 ∧ (loadVar 87 ⟨bx, 29, none⟩).run Tryd.prog z = .ok (.agg co) z) : (execOp ev ⟨some 28, Op.move (Operand.tmp 4), 83, "", #[], some (7, false)⟩).run Tryd.prog z = .ok (.value (v)) z := by
  obtain ⟨sa, sb, sc, sd, se⟩ := hS
  go_simp
theorem cb5_11 (bx : Nat) (v vn x1 : Value) (ca cm co : Array Value) (ev : Operand → Value) (z : World) (ec : ∀ c, ev (.const c) = c) (e4 : ev (.tmp 4) = v) (hS : (loadVar 26 ⟨bx, 2, none⟩).run Tryd.prog z = .ok (.agg ca) z ∧ z.cell? ⟨bx, 4, none⟩ = some vn ∧ (loadVar 45 ⟨bx, 5, none⟩).run Tryd.prog z = .ok (.agg cm) z ∧ z.cell? ⟨bx, 1, none⟩ = some x1 ∧ (loadVar 87 ⟨bx, 29, none⟩).run Tryd.prog z = .ok (.agg co) z) : (execOp ev ⟨some 31, Op.move (Operand.tmp 4), 83, "", #[], some (7, false)⟩).run Tryd.prog z = .ok (.value (v)) z := by
  obtain ⟨sa, sb, sc, sd, se⟩ := hS
  go_simp
theorem cb5_12 (bx : Nat) (v vn x1 : Value) (ca cm co : Array Value) (ev : Operand → Value) (z : World) (ec : ∀ c, ev (.const c) = c) (e1 : ev (.tmp 1) = .pointer (some ⟨bx, 0, none⟩)) (hS : (loadVar 26 ⟨bx, 2, none⟩).run Tryd.prog z = .ok (.agg ca) z ∧ z.cell? ⟨bx, 4, none⟩ = some vn ∧ (loadVar 45 ⟨bx, 5, none⟩).run Tryd.prog z = .ok (.agg cm) z ∧ z.cell? ⟨bx, 1, none⟩ = some x1 ∧ (loadVar 87 ⟨bx, 29, none⟩).run Tryd.prog z = .ok (.agg co) z) : (execOp ev ⟨some 32, Op.fieldAddr 89 (Operand.tmp 1) 4, 0, "", #[], some (7, false)⟩).run Tryd.prog z = .ok (.value (.pointer (some ⟨bx, 5, none⟩))) z := by
  obtain ⟨sa, sb, sc, sd, se⟩ := hS
  go_simp
theorem cb5_13 (bx : Nat) (v vn x1 : Value) (ca cm co : Array Value) (ev : Operand → Value) (z : World) (ec : ∀ c, ev (.const c) = c) (e32 : ev (.tmp 32) = .pointer (some ⟨bx, 5, none⟩)) (hS : (loadVar 26 ⟨bx, 2, none⟩).run Tryd.prog z = .ok (.agg ca) z ∧ z.cell? ⟨bx, 4, none⟩ = some vn ∧ (loadVar 45 ⟨bx, 5, none⟩).run Tryd.prog z = .ok (.agg cm) z ∧ z.cell? ⟨bx, 1, none⟩ = some x1 ∧ (loadVar 87 ⟨bx, 29, none⟩).run Tryd.prog z = .ok (.agg co) z) : (execOp ev ⟨some 33, Op.load 45 (Operand.tmp 32), 45, "", #[], some (7, false)⟩).run Tryd.prog z = .ok (.value (.agg cm)) z := by
  exact exec_ldC e32 hS.2.2.1
theorem cb5_14 (bx : Nat) (v vn x1 : Value) (ca cm co : Array Value) (ev : Operand → Value) (z : World) (ec : ∀ c, ev (.const c) = c) (e1 : ev (.tmp 1) = .pointer (some ⟨bx, 0, none⟩)) (hS : (loadVar 26 ⟨bx, 2, none⟩).run Tryd.prog z = .ok (.agg ca) z ∧ z.cell? ⟨bx, 4, none⟩ = some vn ∧ (loadVar 45 ⟨bx, 5, none⟩).run Tryd.prog z = .ok (.agg cm) z ∧ z.cell? ⟨bx, 1, none⟩ = some x1 ∧ (loadVar 87 ⟨bx, 29, none⟩).run Tryd.prog z = .ok (.agg co) z) : (execOp ev ⟨some 34, Op.fieldAddr 89 (Operand.tmp 1) 1, 0, "", #[], some (7, false)⟩).run Tryd.prog z = .ok (.value (.pointer (some ⟨bx, 1, none⟩))) z := by
  obtain ⟨sa, sb, sc, sd, se⟩ := hS
  go_simp
theorem cb5_15 (bx : Nat) (v vn x1 : Value) (ca cm co : Array Value) (ev : Operand → Value) (z : World) (ec : ∀ c, ev (.const c) = c) (e34 : ev (.tmp 34) = .pointer (some ⟨bx, 1, none⟩)) (hS : (loadVar 26 ⟨bx, 2, none⟩).run Tryd.prog z = .ok (.agg ca) z ∧ z.cell? ⟨bx, 4, none⟩ = some vn ∧ (loadVar 45 ⟨bx, 5, none⟩).run Tryd.prog z = .ok (.agg cm) z ∧ z.cell? ⟨bx, 1, none⟩ = some x1 ∧ (loadVar 87 ⟨bx, 29, none⟩).run Tryd.prog z = .ok (.agg co) z) : (execOp ev ⟨some 35, Op.load 3 (Operand.tmp 34), 3, "", #[], some (7, false)⟩).run Tryd.prog z = .ok (.value (x1)) z := by
  obtain ⟨sa, sb, sc, sd, se⟩ := hS
  go_simp
theorem cb5_19 (bx : Nat) (v vn x1 : Value) (ca cm co : Array Value) (ev : Operand → Value) (z : World) (ec : ∀ c, ev (.const c) = c) (e4 : ev (.tmp 4) = v) (hS : (loadVar 26 ⟨bx, 2, none⟩).run Tryd.prog z = .ok (.agg ca) z ∧ z.cell? ⟨bx, 4, none⟩ = some vn ∧ (loadVar 45 ⟨bx, 5, none⟩).run Tryd.prog z = .ok (.agg cm) z ∧ z.cell? ⟨bx, 1, none⟩ = some x1 ∧ (loadVar 87 ⟨bx, 29, none⟩).run Tryd.prog z = .ok (.agg co) z) : (execOp ev ⟨some 39, Op.move (Operand.tmp 4), 83, "", #[], some (7, false)⟩).run Tryd.prog z = .ok (.value (v)) z := by
  obtain ⟨sa, sb, sc, sd, se⟩ := hS
  go_simp
theorem cb5_20 (bx : Nat) (v vn x1 : Value) (ca cm co : Array Value) (ev : Operand → Value) (z : World) (ec : ∀ c, ev (.const c) = c) (e1 : ev (.tmp 1) = .pointer (some ⟨bx, 0, none⟩)) (hS : (loadVar 26 ⟨bx, 2, none⟩).run Tryd.prog z = .ok (.agg ca) z ∧ z.cell? ⟨bx, 4, none⟩ = some vn ∧ (loadVar 45 ⟨bx, 5, none⟩).run Tryd.prog z = .ok (.agg cm) z ∧ z.cell? ⟨bx, 1, none⟩ = some x1 ∧ (loadVar 87 ⟨bx, 29, none⟩).run Tryd.prog z = .ok (.agg co) z) : (execOp ev ⟨some 40, Op.fieldAddr 89 (Operand.tmp 1) 5, 0, "", #[], some (7, false)⟩).run Tryd.prog z = .ok (.value (.pointer (some ⟨bx, 29, none⟩))) z := by
  obtain ⟨sa, sb, sc, sd, se⟩ := hS
  go_simp
theorem cb5_21 (bx : Nat) (v vn x1 : Value) (ca cm co : Array Value) (ev : Operand → Value) (z : World) (ec : ∀ c, ev (.const c) = c) (e40 : ev (.tmp 40) = .pointer (some ⟨bx, 29, none⟩)) (hS : (loadVar 26 ⟨bx, 2, none⟩).run Tryd.prog z = .ok (.agg ca) z ∧ z.cell? ⟨bx, 4, none⟩ = some vn ∧ (loadVar 45 ⟨bx, 5, none⟩).run Tryd.prog z = .ok (.agg cm) z ∧ z.cell? ⟨bx, 1, none⟩ = some x1 ∧ (loadVar 87 ⟨bx, 29, none⟩).run Tryd.prog z = .ok (.agg co) z) : (execOp ev ⟨some 41, Op.load 87 (Operand.tmp 40), 87, "", #[], some (7, false)⟩).run Tryd.prog z = .ok (.value (.agg co)) z := by
  exact exec_ldC e40 hS.2.2.2.2
theorem cb5_22 (bx : Nat) (v vn x1 : Value) (ca cm co : Array Value) (ev : Operand → Value) (z : World) (ec : ∀ c, ev (.const c) = c) (e1 : ev (.tmp 1) = .pointer (some ⟨bx, 0, none⟩)) (hS : (loadVar 26 ⟨bx, 2, none⟩).run Tryd.prog z = .ok (.agg ca) z ∧ z.cell? ⟨bx, 4, none⟩ = some vn ∧ (loadVar 45 ⟨bx, 5, none⟩).run Tryd.prog z = .ok (.agg cm) z ∧ z.cell? ⟨bx, 1, none⟩ = some x1 ∧ (loadVar 87 ⟨bx, 29, none⟩).run Tryd.prog z = .ok (.agg co) z) : (execOp ev ⟨some 42, Op.fieldAddr 89 (Operand.tmp 1) 1, 0, "", #[], some (7, false)⟩).run Tryd.prog z = .ok (.value (.pointer (some ⟨bx, 1, none⟩))) z := by
  obtain ⟨sa, sb, sc, sd, se⟩ := hS
  go_simp
theorem cb5_23 (bx : Nat) (v vn x1 : Value) (ca cm co : Array Value) (ev : Operand → Value) (z : World) (ec : ∀ c, ev (.const c) = c) (e42 : ev (.tmp 42) = .pointer (some ⟨bx, 1, none⟩)) (hS : (loadVar 26 ⟨bx, 2, none⟩).run Tryd.prog z = .ok (.agg ca) z ∧ z.cell? ⟨bx, 4, none⟩ = some vn ∧ (loadVar 45 ⟨bx, 5, none⟩).run Tryd.prog z = .ok (.agg cm) z ∧ z.cell? ⟨bx, 1, none⟩ = some x1 ∧ (loadVar 87 ⟨bx, 29, none⟩).run Tryd.prog z = .ok (.agg co) z) : (execOp ev ⟨some 43, Op.load 3 (Operand.tmp 42), 3, "", #[], some (7, false)⟩).run Tryd.prog z = .ok (.value (x1)) z := by
  obtain ⟨sa, sb, sc, sd, se⟩ := hS
  go_simp
theorem cb5_27 (bx : Nat) (v vn x1 : Value) (ca cm co : Array Value) (ev : Operand → Value) (z : World) (ec : ∀ c, ev (.const c) = c) (e4 : ev (.tmp 4) = v) (hS : (loadVar 26 ⟨bx, 2, none⟩).run Tryd.prog z = .ok (.agg ca) z ∧ z.cell? ⟨bx, 4, none⟩ = some vn ∧ (loadVar 45 ⟨bx, 5, none⟩).run Tryd.prog z = .ok (.agg cm) z ∧ z.cell? ⟨bx, 1, none⟩ = some x1 ∧ (loadVar 87 ⟨bx, 29, none⟩).run Tryd.prog z = .ok (.agg co) z) : (execOp ev ⟨some 47, Op.move (Operand.tmp 4), 83, "", #[], some (7, false)⟩).run Tryd.prog z = .ok (.value (v)) z := by
  obtain ⟨sa, sb, sc, sd, se⟩ := hS
  go_simp
theorem cb5_28 (bx : Nat) (v vn x1 : Value) (ca cm co : Array Value) (ev : Operand → Value) (z : World) (ec : ∀ c, ev (.const c) = c) (e1 : ev (.tmp 1) = .pointer (some ⟨bx, 0, none⟩)) (hS : (loadVar 26 ⟨bx, 2, none⟩).run Tryd.prog z = .ok (.agg ca) z ∧ z.cell? ⟨bx, 4, none⟩ = some vn ∧ (loadVar 45 ⟨bx, 5, none⟩).run Tryd.prog z = .ok (.agg cm) z ∧ z.cell? ⟨bx, 1, none⟩ = some x1 ∧ (loadVar 87 ⟨bx, 29, none⟩).run Tryd.prog z = .ok (.agg co) z) : (execOp ev ⟨some 48, Op.fieldAddr 89 (Operand.tmp 1) 1, 0, "", #[], some (7, false)⟩).run Tryd.prog z = .ok (.value (.pointer (some ⟨bx, 1, none⟩))) z := by
  obtain ⟨sa, sb, sc, sd, se⟩ := hS
  go_simp
theorem cb5_29 (bx : Nat) (v vn x1 : Value) (ca cm co : Array Value) (ev : Operand → Value) (z : World) (ec : ∀ c, ev (.const c) = c) (e48 : ev (.tmp 48) = .pointer (some ⟨bx, 1, none⟩)) (hS : (loadVar 26 ⟨bx, 2, none⟩).run Tryd.prog z = .ok (.agg ca) z ∧ z.cell? ⟨bx, 4, none⟩ = some vn ∧ (loadVar 45 ⟨bx, 5, none⟩).run Tryd.prog z = .ok (.agg cm) z ∧ z.cell? ⟨bx, 1, none⟩ = some x1 ∧ (loadVar 87 ⟨bx, 29, none⟩).run Tryd.prog z = .ok (.agg co) z) : (execOp ev ⟨some 49, Op.load 3 (Operand.tmp 48), 3, "", #[], some (7, false)⟩).run Tryd.prog z = .ok (.value (x1)) z := by
  obtain ⟨sa, sb, sc, sd, se⟩ := hS
  go_simp
set_option maxRecDepth 100000 in
theorem cb5_9 (bx : Nat) (v vn x1 : Value) (ca cm co : Array Value) (ev : Operand → Value) (z : World) (ec : ∀ c, ev (.const c) = c) (ef : ev (.func 41) = .func (.func 41) #[] #[]) (e28 : ev (.tmp 28) = v) : (execOp ev ⟨some 29, Op.call { callee := Callee.value (Operand.func 41), args := #[Operand.tmp 28, Operand.const (Value.int IntKind.i64 1)], argTypes := #[83, 3] }, 54, "", #[], some (7, false)⟩).run Tryd.prog z = .ok (.enter 41 #[v, .int .i64 1]) z :=
  enter_run _ ef (by simp only [List.map_toArray, List.map_cons, List.map_nil, ec, e28]) (fun _ => by rfl)
theorem cb5_10 (bx : Nat) (v vn x1 : Value) (ca cm co : Array Value) (ev : Operand → Value) (z : World) (ec : ∀ c, ev (.const c) = c) (e29 : ev (.tmp 29) = .slice none 0 0) (hS : (loadVar 26 ⟨bx, 2, none⟩).run Tryd.prog z = .ok (.agg ca) z ∧ z.cell? ⟨bx, 4, none⟩ = some vn ∧ (loadVar 45 ⟨bx, 5, none⟩).run Tryd.prog z = .ok (.agg cm) z ∧ z.cell? ⟨bx, 1, none⟩ = some x1 ∧ (loadVar 87 ⟨bx, 29, none⟩).run Tryd.prog z = .ok (.agg co) z) : (execOp ev ⟨some 30, Op.call { callee := Callee.builtin Builtin.len, args := #[Operand.tmp 29], argTypes := #[54] }, 3, "", #[], some (7, false)⟩).run Tryd.prog z = .ok (.value (.int .i64 0)) z := by
  obtain ⟨sa, sb, sc, sd, se⟩ := hS
  go_simp
set_option maxRecDepth 100000 in
theorem cb5_16 (bx : Nat) (v vn x1 : Value) (ca cm co : Array Value) (ev : Operand → Value) (z : World) (ec : ∀ c, ev (.const c) = c) (ef : ev (.func 36) = .func (.func 36) #[] #[]) (e31 : ev (.tmp 31) = v) (e33 : ev (.tmp 33) = .agg cm) (e35 : ev (.tmp 35) = x1) : (execOp ev ⟨some 36, Op.call { callee := Callee.value (Operand.func 36), args := #[Operand.tmp 31, Operand.tmp 33, Operand.tmp 35], argTypes := #[83, 45, 3] }, 91, "", #[], some (7, false)⟩).run Tryd.prog z = .ok (.enter 36 #[v, .agg cm, x1]) z :=
  enter_run _ ef (by simp only [List.map_toArray, List.map_cons, List.map_nil, ec, e31, e33, e35]) (fun _ => by rfl)
theorem cb5_17 (bx : Nat) (v vn x1 : Value) (ca cm co : Array Value) (ev : Operand → Value) (z : World) (ec : ∀ c, ev (.const c) = c) (e36 : ev (.tmp 36) = .slice none 0 0) (hS : (loadVar 26 ⟨bx, 2, none⟩).run Tryd.prog z = .ok (.agg ca) z ∧ z.cell? ⟨bx, 4, none⟩ = some vn ∧ (loadVar 45 ⟨bx, 5, none⟩).run Tryd.prog z = .ok (.agg cm) z ∧ z.cell? ⟨bx, 1, none⟩ = some x1 ∧ (loadVar 87 ⟨bx, 29, none⟩).run Tryd.prog z = .ok (.agg co) z) : (execOp ev ⟨some 37, Op.call { callee := Callee.builtin Builtin.len, args := #[Operand.tmp 36], argTypes := #[91] }, 3, "", #[], some (7, false)⟩).run Tryd.prog z = .ok (.value (.int .i64 0)) z := by
  obtain ⟨sa, sb, sc, sd, se⟩ := hS
  go_simp
theorem cb5_18 (bx : Nat) (v vn x1 : Value) (ca cm co : Array Value) (ev : Operand → Value) (z : World) (ec : ∀ c, ev (.const c) = c) (e30 : ev (.tmp 30) = .int .i64 0) (e37 : ev (.tmp 37) = .int .i64 0) (hS : (loadVar 26 ⟨bx, 2, none⟩).run Tryd.prog z = .ok (.agg ca) z ∧ z.cell? ⟨bx, 4, none⟩ = some vn ∧ (loadVar 45 ⟨bx, 5, none⟩).run Tryd.prog z = .ok (.agg cm) z ∧ z.cell? ⟨bx, 1, none⟩ = some x1 ∧ (loadVar 87 ⟨bx, 29, none⟩).run Tryd.prog z = .ok (.agg co) z) : (execOp ev ⟨some 38, Op.binOp BinOp.add 3 (Operand.tmp 30) (Operand.tmp 37) 3, 3, "", #[], some (7, false)⟩).run Tryd.prog z = .ok (.value (.int .i64 0)) z := by
  obtain ⟨sa, sb, sc, sd, se⟩ := hS
  go_simp
  rfl
set_option maxRecDepth 100000 in
theorem cb5_24 (bx : Nat) (v vn x1 : Value) (ca cm co : Array Value) (ev : Operand → Value) (z : World) (ec : ∀ c, ev (.const c) = c) (ef : ev (.func 37) = .func (.func 37) #[] #[]) (e39 : ev (.tmp 39) = v) (e41 : ev (.tmp 41) = .agg co) (e43 : ev (.tmp 43) = x1) : (execOp ev ⟨some 44, Op.call { callee := Callee.value (Operand.func 37), args := #[Operand.tmp 39, Operand.tmp 41, Operand.tmp 43], argTypes := #[83, 87, 3] }, 91, "", #[], some (7, false)⟩).run Tryd.prog z = .ok (.enter 37 #[v, .agg co, x1]) z :=
  enter_run _ ef (by simp only [List.map_toArray, List.map_cons, List.map_nil, ec, e39, e41, e43]) (fun _ => by rfl)
theorem cb5_25 (bx : Nat) (v vn x1 : Value) (ca cm co : Array Value) (ev : Operand → Value) (z : World) (ec : ∀ c, ev (.const c) = c) (e44 : ev (.tmp 44) = .slice none 0 0) (hS : (loadVar 26 ⟨bx, 2, none⟩).run Tryd.prog z = .ok (.agg ca) z ∧ z.cell? ⟨bx, 4, none⟩ = some vn ∧ (loadVar 45 ⟨bx, 5, none⟩).run Tryd.prog z = .ok (.agg cm) z ∧ z.cell? ⟨bx, 1, none⟩ = some x1 ∧ (loadVar 87 ⟨bx, 29, none⟩).run Tryd.prog z = .ok (.agg co) z) : (execOp ev ⟨some 45, Op.call { callee := Callee.builtin Builtin.len, args := #[Operand.tmp 44], argTypes := #[91] }, 3, "", #[], some (7, false)⟩).run Tryd.prog z = .ok (.value (.int .i64 0)) z := by
  obtain ⟨sa, sb, sc, sd, se⟩ := hS
  go_simp
theorem cb5_26 (bx : Nat) (v vn x1 : Value) (ca cm co : Array Value) (ev : Operand → Value) (z : World) (ec : ∀ c, ev (.const c) = c) (e38 : ev (.tmp 38) = .int .i64 0) (e45 : ev (.tmp 45) = .int .i64 0) (hS : (loadVar 26 ⟨bx, 2, none⟩).run Tryd.prog z = .ok (.agg ca) z ∧ z.cell? ⟨bx, 4, none⟩ = some vn ∧ (loadVar 45 ⟨bx, 5, none⟩).run Tryd.prog z = .ok (.agg cm) z ∧ z.cell? ⟨bx, 1, none⟩ = some x1 ∧ (loadVar 87 ⟨bx, 29, none⟩).run Tryd.prog z = .ok (.agg co) z) : (execOp ev ⟨some 46, Op.binOp BinOp.add 3 (Operand.tmp 38) (Operand.tmp 45) 3, 3, "", #[], some (7, false)⟩).run Tryd.prog z = .ok (.value (.int .i64 0)) z := by
  obtain ⟨sa, sb, sc, sd, se⟩ := hS
  go_simp
  rfl
set_option maxRecDepth 100000 in
theorem cb5_30 (bx : Nat) (v vn x1 : Value) (ca cm co : Array Value) (ev : Operand → Value) (z : World) (ec : ∀ c, ev (.const c) = c) (ef : ev (.func 38) = .func (.func 38) #[] #[]) (e47 : ev (.tmp 47) = v) (e49 : ev (.tmp 49) = x1) : (execOp ev ⟨some 50, Op.call { callee := Callee.value (Operand.func 38), args := #[Operand.tmp 47, Operand.tmp 49], argTypes := #[83, 3] }, 91, "", #[], some (7, false)⟩).run Tryd.prog z = .ok (.enter 38 #[v, x1]) z :=
  enter_run _ ef (by simp only [List.map_toArray, List.map_cons, List.map_nil, ec, e47, e49]) (fun _ => by rfl)
theorem cb5_31 (bx : Nat) (v vn x1 : Value) (ca cm co : Array Value) (ev : Operand → Value) (z : World) (ec : ∀ c, ev (.const c) = c) (e50 : ev (.tmp 50) = .slice none 0 0) (hS : (loadVar 26 ⟨bx, 2, none⟩).run Tryd.prog z = .ok (.agg ca) z ∧ z.cell? ⟨bx, 4, none⟩ = some vn ∧ (loadVar 45 ⟨bx, 5, none⟩).run Tryd.prog z = .ok (.agg cm) z ∧ z.cell? ⟨bx, 1, none⟩ = some x1 ∧ (loadVar 87 ⟨bx, 29, none⟩).run Tryd.prog z = .ok (.agg co) z) : (execOp ev ⟨some 51, Op.call { callee := Callee.builtin Builtin.len, args := #[Operand.tmp 50], argTypes := #[91] }, 3, "", #[], some (7, false)⟩).run Tryd.prog z = .ok (.value (.int .i64 0)) z := by
  obtain ⟨sa, sb, sc, sd, se⟩ := hS
  go_simp
theorem cb5_32 (bx : Nat) (v vn x1 : Value) (ca cm co : Array Value) (ev : Operand → Value) (z : World) (ec : ∀ c, ev (.const c) = c) (e46 : ev (.tmp 46) = .int .i64 0) (e51 : ev (.tmp 51) = .int .i64 0) (hS : (loadVar 26 ⟨bx, 2, none⟩).run Tryd.prog z = .ok (.agg ca) z ∧ z.cell? ⟨bx, 4, none⟩ = some vn ∧ (loadVar 45 ⟨bx, 5, none⟩).run Tryd.prog z = .ok (.agg cm) z ∧ z.cell? ⟨bx, 1, none⟩ = some x1 ∧ (loadVar 87 ⟨bx, 29, none⟩).run Tryd.prog z = .ok (.agg co) z) : (execOp ev ⟨some 52, Op.binOp BinOp.add 3 (Operand.tmp 46) (Operand.tmp 51) 3, 3, "", #[], some (7, false)⟩).run Tryd.prog z = .ok (.value (.int .i64 0)) z := by
  obtain ⟨sa, sb, sc, sd, se⟩ := hS
  go_simp
  rfl
theorem cb5_33 (bx : Nat) (v vn x1 : Value) (ca cm co : Array Value) (ev : Operand → Value) (z : World) (ec : ∀ c, ev (.const c) = c) (e52 : ev (.tmp 52) = .int .i64 0) (hS : (loadVar 26 ⟨bx, 2, none⟩).run Tryd.prog z = .ok (.agg ca) z ∧ z.cell? ⟨bx, 4, none⟩ = some vn ∧ (loadVar 45 ⟨bx, 5, none⟩).run Tryd.prog z = .ok (.agg cm) z ∧ z.cell? ⟨bx, 1, none⟩ = some x1 ∧ (loadVar 87 ⟨bx, 29, none⟩).run Tryd.prog z = .ok (.agg co) z) : (execOp ev ⟨some 53, Op.binOp BinOp.gtr 3 (Operand.tmp 52) (Operand.const (Value.int IntKind.i64 0)) 3, 4, "", #[], some (7, false)⟩).run Tryd.prog z = .ok (.value (.bool false)) z := by
  obtain ⟨sa, sb, sc, sd, se⟩ := hS
  go_simp
theorem cb5_34 (bx : Nat) (v vn x1 : Value) (ca cm co : Array Value) (ev : Operand → Value) (z : World) (ec : ∀ c, ev (.const c) = c) (e27 : ev (.tmp 27) = .bool false) (e53 : ev (.tmp 53) = .bool false) (hS : (loadVar 26 ⟨bx, 2, none⟩).run Tryd.prog z = .ok (.agg ca) z ∧ z.cell? ⟨bx, 4, none⟩ = some vn ∧ (loadVar 45 ⟨bx, 5, none⟩).run Tryd.prog z = .ok (.agg cm) z ∧ z.cell? ⟨bx, 1, none⟩ = some x1 ∧ (loadVar 87 ⟨bx, 29, none⟩).run Tryd.prog z = .ok (.agg co) z) : (execOp ev ⟨some 54, Op.pick (Operand.tmp 27) (Operand.const (Value.bool true)) (Operand.tmp 53), 4, "", #[], none⟩).run Tryd.prog z = .ok (.value (.bool false)) z := by
  obtain ⟨sa, sb, sc, sd, se⟩ := hS
  go_simp
theorem cb5_35 (bx : Nat) (v vn x1 : Value) (ca cm co : Array Value) (ev : Operand → Value) (z : World) (ec : ∀ c, ev (.const c) = c) (e54 : ev (.tmp 54) = .bool false) (hS : (loadVar 26 ⟨bx, 2, none⟩).run Tryd.prog z = .ok (.agg ca) z ∧ z.cell? ⟨bx, 4, none⟩ = some vn ∧ (loadVar 45 ⟨bx, 5, none⟩).run Tryd.prog z = .ok (.agg cm) z ∧ z.cell? ⟨bx, 1, none⟩ = some x1 ∧ (loadVar 87 ⟨bx, 29, none⟩).run Tryd.prog z = .ok (.agg co) z) : (execOp ev ⟨some 55, Op.move (Operand.tmp 54), 4, "", #[], none⟩).run Tryd.prog z = .ok (.value (.bool false)) z := by
  obtain ⟨sa, sb, sc, sd, se⟩ := hS
  go_simp
theorem cb5_36 (bx : Nat) (v vn x1 : Value) (ca cm co : Array Value) (ev : Operand → Value) (z : World) (ec : ∀ c, ev (.const c) = c) (e6 : ev (.tmp 6) = .bool false) (hS : (loadVar 26 ⟨bx, 2, none⟩).run Tryd.prog z = .ok (.agg ca) z ∧ z.cell? ⟨bx, 4, none⟩ = some vn ∧ (loadVar 45 ⟨bx, 5, none⟩).run Tryd.prog z = .ok (.agg cm) z ∧ z.cell? ⟨bx, 1, none⟩ = some x1 ∧ (loadVar 87 ⟨bx, 29, none⟩).run Tryd.prog z = .ok (.agg co) z) : (execOp ev ⟨some 56, Op.move (Operand.tmp 6), 4, "", #[], some (35, false)⟩).run Tryd.prog z = .ok (.value (.bool false)) z := by
  obtain ⟨sa, sb, sc, sd, se⟩ := hS
  go_simp
theorem cb5_37 (bx : Nat) (v vn x1 : Value) (ca cm co : Array Value) (ev : Operand → Value) (z : World) (ec : ∀ c, ev (.const c) = c) (e55 : ev (.tmp 55) = .bool false) (e56 : ev (.tmp 56) = .bool false) (hS : (loadVar 26 ⟨bx, 2, none⟩).run Tryd.prog z = .ok (.agg ca) z ∧ z.cell? ⟨bx, 4, none⟩ = some vn ∧ (loadVar 45 ⟨bx, 5, none⟩).run Tryd.prog z = .ok (.agg cm) z ∧ z.cell? ⟨bx, 1, none⟩ = some x1 ∧ (loadVar 87 ⟨bx, 29, none⟩).run Tryd.prog z = .ok (.agg co) z) : (execOp ev ⟨some 57, Op.pick (Operand.tmp 55) (Operand.const (Value.bool true)) (Operand.tmp 56), 4, "", #[], none⟩).run Tryd.prog z = .ok (.value (.bool false)) z := by
  obtain ⟨sa, sb, sc, sd, se⟩ := hS
  go_simp
theorem cb5_38 (bx : Nat) (v vn x1 : Value) (ca cm co : Array Value) (ev : Operand → Value) (z : World) (ec : ∀ c, ev (.const c) = c) (e57 : ev (.tmp 57) = .bool false) (hS : (loadVar 26 ⟨bx, 2, none⟩).run Tryd.prog z = .ok (.agg ca) z ∧ z.cell? ⟨bx, 4, none⟩ = some vn ∧ (loadVar 45 ⟨bx, 5, none⟩).run Tryd.prog z = .ok (.agg cm) z ∧ z.cell? ⟨bx, 1, none⟩ = some x1 ∧ (loadVar 87 ⟨bx, 29, none⟩).run Tryd.prog z = .ok (.agg co) z) : (execOp ev ⟨some 58, Op.move (Operand.tmp 57), 4, "", #[], none⟩).run Tryd.prog z = .ok (.value (.bool false)) z := by
  obtain ⟨sa, sb, sc, sd, se⟩ := hS
  go_simp
theorem cb5_39 (bx : Nat) (v vn x1 : Value) (ca cm co : Array Value) (ev : Operand → Value) (z : World) (ec : ∀ c, ev (.const c) = c) (e4 : ev (.tmp 4) = v) (hS : (loadVar 26 ⟨bx, 2, none⟩).run Tryd.prog z = .ok (.agg ca) z ∧ z.cell? ⟨bx, 4, none⟩ = some vn ∧ (loadVar 45 ⟨bx, 5, none⟩).run Tryd.prog z = .ok (.agg cm) z ∧ z.cell? ⟨bx, 1, none⟩ = some x1 ∧ (loadVar 87 ⟨bx, 29, none⟩).run Tryd.prog z = .ok (.agg co) z) : (execOp ev ⟨some 59, Op.move (Operand.tmp 4), 83, "", #[], some (38, false)⟩).run Tryd.prog z = .ok (.value (v)) z := by
  obtain ⟨sa, sb, sc, sd, se⟩ := hS
  go_simp
set_option maxRecDepth 100000 in
theorem cb5_40 (bx : Nat) (v vn x1 : Value) (ca cm co : Array Value) (ev : Operand → Value) (z : World) (ec : ∀ c, ev (.const c) = c) (ef : ev (.func 40) = .func (.func 40) #[] #[]) (e59 : ev (.tmp 59) = v) : (execOp ev ⟨some 60, Op.call { callee := Callee.value (Operand.func 40), args := #[Operand.tmp 59], argTypes := #[83] }, 4, "", #[], some (38, false)⟩).run Tryd.prog z = .ok (.enter 40 #[v]) z :=
  enter_run _ ef (by simp only [List.map_toArray, List.map_cons, List.map_nil, ec, e59]) (fun _ => by rfl)
theorem cb5_41 (bx : Nat) (v vn x1 : Value) (ca cm co : Array Value) (ev : Operand → Value) (z : World) (ec : ∀ c, ev (.const c) = c) (e58 : ev (.tmp 58) = .bool false) (e60 : ev (.tmp 60) = .bool false) (hS : (loadVar 26 ⟨bx, 2, none⟩).run Tryd.prog z = .ok (.agg ca) z ∧ z.cell? ⟨bx, 4, none⟩ = some vn ∧ (loadVar 45 ⟨bx, 5, none⟩).run Tryd.prog z = .ok (.agg cm) z ∧ z.cell? ⟨bx, 1, none⟩ = some x1 ∧ (loadVar 87 ⟨bx, 29, none⟩).run Tryd.prog z = .ok (.agg co) z) : (execOp ev ⟨some 61, Op.pick (Operand.tmp 58) (Operand.const (Value.bool true)) (Operand.tmp 60), 4, "", #[], none⟩).run Tryd.prog z = .ok (.value (.bool false)) z := by
  obtain ⟨sa, sb, sc, sd, se⟩ := hS
  go_simp
structure cb5R (ops : Array Oper) : Prop where
  size : ops.size = 42
  sel : Region.noSelect ops = true
  o0 : (ops[0]?).map bare = some ⟨some 20, Op.move (Operand.tmp 4), 83, "", #[], none⟩
  o1 : (ops[1]?).map bare = some ⟨some 21, Op.fieldAddr 89 (Operand.tmp 1) 2, 0, "", #[], none⟩
  o2 : (ops[2]?).map bare = some ⟨some 22, Op.load 26 (Operand.tmp 21), 26, "", #[], none⟩
  o3 : (ops[3]?).map bare = some ⟨some 23, Op.fieldAddr 89 (Operand.tmp 1) 3, 0, "", #[], none⟩
  o4 : (ops[4]?).map bare = some ⟨some 24, Op.load 23 (Operand.tmp 23), 23, "", #[], none⟩
  o5 : (ops[5]?).map bare = some ⟨some 25, Op.call { callee := Callee.value (Operand.func 35), args := #[Operand.tmp 20, Operand.tmp 22, Operand.tmp 24], argTypes := #[83, 26, 23] }, 28, "", #[], none⟩
  o6 : (ops[6]?).map bare = some ⟨some 26, Op.binOp BinOp.neq 28 (Operand.tmp 25) (Operand.const (Value.int IntKind.i64 2)) 28, 4, "", #[], none⟩
  o7 : (ops[7]?).map bare = some ⟨some 27, Op.move (Operand.tmp 26), 4, "", #[], none⟩
  o8 : (ops[8]?).map bare = some ⟨some 28, Op.move (Operand.tmp 4), 83, "", #[], some (7, false)⟩
  o9 : (ops[9]?).map bare = some ⟨some 29, Op.call { callee := Callee.value (Operand.func 41), args := #[Operand.tmp 28, Operand.const (Value.int IntKind.i64 1)], argTypes := #[83, 3] }, 54, "", #[], some (7, false)⟩
  o10 : (ops[10]?).map bare = some ⟨some 30, Op.call { callee := Callee.builtin Builtin.len, args := #[Operand.tmp 29], argTypes := #[54] }, 3, "", #[], some (7, false)⟩
  o11 : (ops[11]?).map bare = some ⟨some 31, Op.move (Operand.tmp 4), 83, "", #[], some (7, false)⟩
  o12 : (ops[12]?).map bare = some ⟨some 32, Op.fieldAddr 89 (Operand.tmp 1) 4, 0, "", #[], some (7, false)⟩
  o13 : (ops[13]?).map bare = some ⟨some 33, Op.load 45 (Operand.tmp 32), 45, "", #[], some (7, false)⟩
  o14 : (ops[14]?).map bare = some ⟨some 34, Op.fieldAddr 89 (Operand.tmp 1) 1, 0, "", #[], some (7, false)⟩
  o15 : (ops[15]?).map bare = some ⟨some 35, Op.load 3 (Operand.tmp 34), 3, "", #[], some (7, false)⟩
  o16 : (ops[16]?).map bare = some ⟨some 36, Op.call { callee := Callee.value (Operand.func 36), args := #[Operand.tmp 31, Operand.tmp 33, Operand.tmp 35], argTypes := #[83, 45, 3] }, 91, "", #[], some (7, false)⟩
  o17 : (ops[17]?).map bare = some ⟨some 37, Op.call { callee := Callee.builtin Builtin.len, args := #[Operand.tmp 36], argTypes := #[91] }, 3, "", #[], some (7, false)⟩
  o18 : (ops[18]?).map bare = some ⟨some 38, Op.binOp BinOp.add 3 (Operand.tmp 30) (Operand.tmp 37) 3, 3, "", #[], some (7, false)⟩
  o19 : (ops[19]?).map bare = some ⟨some 39, Op.move (Operand.tmp 4), 83, "", #[], some (7, false)⟩
  o20 : (ops[20]?).map bare = some ⟨some 40, Op.fieldAddr 89 (Operand.tmp 1) 5, 0, "", #[], some (7, false)⟩
  o21 : (ops[21]?).map bare = some ⟨some 41, Op.load 87 (Operand.tmp 40), 87, "", #[], some (7, false)⟩
  o22 : (ops[22]?).map bare = some ⟨some 42, Op.fieldAddr 89 (Operand.tmp 1) 1, 0, "", #[], some (7, false)⟩
  o23 : (ops[23]?).map bare = some ⟨some 43, Op.load 3 (Operand.tmp 42), 3, "", #[], some (7, false)⟩
  o24 : (ops[24]?).map bare = some ⟨some 44, Op.call { callee := Callee.value (Operand.func 37), args := #[Operand.tmp 39, Operand.tmp 41, Operand.tmp 43], argTypes := #[83, 87, 3] }, 91, "", #[], some (7, false)⟩
  o25 : (ops[25]?).map bare = some ⟨some 45, Op.call { callee := Callee.builtin Builtin.len, args := #[Operand.tmp 44], argTypes := #[91] }, 3, "", #[], some (7, false)⟩
  o26 : (ops[26]?).map bare = some ⟨some 46, Op.binOp BinOp.add 3 (Operand.tmp 38) (Operand.tmp 45) 3, 3, "", #[], some (7, false)⟩
  o27 : (ops[27]?).map bare = some ⟨some 47, Op.move (Operand.tmp 4), 83, "", #[], some (7, false)⟩
  o28 : (ops[28]?).map bare = some ⟨some 48, Op.fieldAddr 89 (Operand.tmp 1) 1, 0, "", #[], some (7, false)⟩
  o29 : (ops[29]?).map bare = some ⟨some 49, Op.load 3 (Operand.tmp 48), 3, "", #[], some (7, false)⟩
  o30 : (ops[30]?).map bare = some ⟨some 50, Op.call { callee := Callee.value (Operand.func 38), args := #[Operand.tmp 47, Operand.tmp 49], argTypes := #[83, 3] }, 91, "", #[], some (7, false)⟩
  o31 : (ops[31]?).map bare = some ⟨some 51, Op.call { callee := Callee.builtin Builtin.len, args := #[Operand.tmp 50], argTypes := #[91] }, 3, "", #[], some (7, false)⟩
  o32 : (ops[32]?).map bare = some ⟨some 52, Op.binOp BinOp.add 3 (Operand.tmp 46) (Operand.tmp 51) 3, 3, "", #[], some (7, false)⟩
  o33 : (ops[33]?).map bare = some ⟨some 53, Op.binOp BinOp.gtr 3 (Operand.tmp 52) (Operand.const (Value.int IntKind.i64 0)) 3, 4, "", #[], some (7, false)⟩
  o34 : (ops[34]?).map bare = some ⟨some 54, Op.pick (Operand.tmp 27) (Operand.const (Value.bool true)) (Operand.tmp 53), 4, "", #[], none⟩
  o35 : (ops[35]?).map bare = some ⟨some 55, Op.move (Operand.tmp 54), 4, "", #[], none⟩
  o36 : (ops[36]?).map bare = some ⟨some 56, Op.move (Operand.tmp 6), 4, "", #[], some (35, false)⟩
  o37 : (ops[37]?).map bare = some ⟨some 57, Op.pick (Operand.tmp 55) (Operand.const (Value.bool true)) (Operand.tmp 56), 4, "", #[], none⟩
  o38 : (ops[38]?).map bare = some ⟨some 58, Op.move (Operand.tmp 57), 4, "", #[], none⟩
  o39 : (ops[39]?).map bare = some ⟨some 59, Op.move (Operand.tmp 4), 83, "", #[], some (38, false)⟩
  o40 : (ops[40]?).map bare = some ⟨some 60, Op.call { callee := Callee.value (Operand.func 40), args := #[Operand.tmp 59], argTypes := #[83] }, 4, "", #[], some (38, false)⟩
  o41 : (ops[41]?).map bare = some ⟨some 61, Op.pick (Operand.tmp 58) (Operand.const (Value.bool true)) (Operand.tmp 60), 4, "", #[], none⟩
  may0 : takeB .any ops [0, 1, 2, 3, 4] (Array.replicate 42 false) = true
  r5 : Region.ready .any ops (mark [0, 1, 2, 3, 4] (Array.replicate 42 false)) = [5]
  may1 : takeB .any ops [6, 7, 8, 11, 12, 13, 14, 15, 19, 20, 21, 22, 23, 27, 28, 29] ((mark [0, 1, 2, 3, 4] (Array.replicate 42 false)).setIfInBounds 5 true) = true
  r9 : Region.ready .any ops (mark [6, 7, 8, 11, 12, 13, 14, 15, 19, 20, 21, 22, 23, 27, 28, 29] ((mark [0, 1, 2, 3, 4] (Array.replicate 42 false)).setIfInBounds 5 true)) = [9]
  may2 : takeB .any ops [10] ((mark [6, 7, 8, 11, 12, 13, 14, 15, 19, 20, 21, 22, 23, 27, 28, 29] ((mark [0, 1, 2, 3, 4] (Array.replicate 42 false)).setIfInBounds 5 true)).setIfInBounds 9 true) = true
  r16 : Region.ready .any ops (mark [10] ((mark [6, 7, 8, 11, 12, 13, 14, 15, 19, 20, 21, 22, 23, 27, 28, 29] ((mark [0, 1, 2, 3, 4] (Array.replicate 42 false)).setIfInBounds 5 true)).setIfInBounds 9 true)) = [16]
  may3 : takeB .any ops [17, 18] ((mark [10] ((mark [6, 7, 8, 11, 12, 13, 14, 15, 19, 20, 21, 22, 23, 27, 28, 29] ((mark [0, 1, 2, 3, 4] (Array.replicate 42 false)).setIfInBounds 5 true)).setIfInBounds 9 true)).setIfInBounds 16 true) = true
  r24 : Region.ready .any ops (mark [17, 18] ((mark [10] ((mark [6, 7, 8, 11, 12, 13, 14, 15, 19, 20, 21, 22, 23, 27, 28, 29] ((mark [0, 1, 2, 3, 4] (Array.replicate 42 false)).setIfInBounds 5 true)).setIfInBounds 9 true)).setIfInBounds 16 true)) = [24]
  may4 : takeB .any ops [25, 26] ((mark [17, 18] ((mark [10] ((mark [6, 7, 8, 11, 12, 13, 14, 15, 19, 20, 21, 22, 23, 27, 28, 29] ((mark [0, 1, 2, 3, 4] (Array.replicate 42 false)).setIfInBounds 5 true)).setIfInBounds 9 true)).setIfInBounds 16 true)).setIfInBounds 24 true) = true
  r30 : Region.ready .any ops (mark [25, 26] ((mark [17, 18] ((mark [10] ((mark [6, 7, 8, 11, 12, 13, 14, 15, 19, 20, 21, 22, 23, 27, 28, 29] ((mark [0, 1, 2, 3, 4] (Array.replicate 42 false)).setIfInBounds 5 true)).setIfInBounds 9 true)).setIfInBounds 16 true)).setIfInBounds 24 true)) = [30]
  may5 : takeB .any ops [31, 32, 33, 34, 35, 36, 37, 38, 39] ((mark [25, 26] ((mark [17, 18] ((mark [10] ((mark [6, 7, 8, 11, 12, 13, 14, 15, 19, 20, 21, 22, 23, 27, 28, 29] ((mark [0, 1, 2, 3, 4] (Array.replicate 42 false)).setIfInBounds 5 true)).setIfInBounds 9 true)).setIfInBounds 16 true)).setIfInBounds 24 true)).setIfInBounds 30 true) = true
  r40 : Region.ready .any ops (mark [31, 32, 33, 34, 35, 36, 37, 38, 39] ((mark [25, 26] ((mark [17, 18] ((mark [10] ((mark [6, 7, 8, 11, 12, 13, 14, 15, 19, 20, 21, 22, 23, 27, 28, 29] ((mark [0, 1, 2, 3, 4] (Array.replicate 42 false)).setIfInBounds 5 true)).setIfInBounds 9 true)).setIfInBounds 16 true)).setIfInBounds 24 true)).setIfInBounds 30 true)) = [40]
  may6 : takeB .any ops [41] ((mark [31, 32, 33, 34, 35, 36, 37, 38, 39] ((mark [25, 26] ((mark [17, 18] ((mark [10] ((mark [6, 7, 8, 11, 12, 13, 14, 15, 19, 20, 21, 22, 23, 27, 28, 29] ((mark [0, 1, 2, 3, 4] (Array.replicate 42 false)).setIfInBounds 5 true)).setIfInBounds 9 true)).setIfInBounds 16 true)).setIfInBounds 24 true)).setIfInBounds 30 true)).setIfInBounds 40 true) = true
  fin : Region.ready .any ops (mark [41] ((mark [31, 32, 33, 34, 35, 36, 37, 38, 39] ((mark [25, 26] ((mark [17, 18] ((mark [10] ((mark [6, 7, 8, 11, 12, 13, 14, 15, 19, 20, 21, 22, 23, 27, 28, 29] ((mark [0, 1, 2, 3, 4] (Array.replicate 42 false)).setIfInBounds 5 true)).setIfInBounds 9 true)).setIfInBounds 16 true)).setIfInBounds 24 true)).setIfInBounds 30 true)).setIfInBounds 40 true)) = []

set_option maxRecDepth 100000 in
set_option maxHeartbeats 3200000 in
theorem cb5_region {ops : Array Oper} {id : Nat} {Q : Exit → Act → World → Prop} {a : Act} {y : World} (R : cb5R ops) (bx : Nat) (v vn x1 : Value) (ca cm co : Array Value)
    (hQ : ∀ d v c a w, Q (.panic c) (a.put d v) w → Q (.panic c) a w) (hsz : a.tmps.size = 64) (e1 : a.eval (.tmp 1) = .pointer (some ⟨bx, 0, none⟩)) (e4 : a.eval (.tmp 4) = v) (e6 : a.eval (.tmp 6) = .bool false) (hS0 : ((loadVar 26 ⟨bx, 2, none⟩).run Tryd.prog y.drew = .ok (.agg ca) y.drew ∧ y.drew.cell? ⟨bx, 4, none⟩ = some vn ∧ (loadVar 45 ⟨bx, 5, none⟩).run Tryd.prog y.drew = .ok (.agg cm) y.drew ∧ y.drew.cell? ⟨bx, 1, none⟩ = some x1 ∧ (loadVar 87 ⟨bx, 29, none⟩).run Tryd.prog y.drew = .ok (.agg co) y.drew)) (T : World → Prop) (hc : Calls Tryd.prog 35 #[v, .agg ca, vn] y.drew fun e w9 => e = .returned (.int .i64 2) ∧ ((loadVar 26 ⟨bx, 2, none⟩).run Tryd.prog w9 = .ok (.agg ca) w9 ∧ w9.cell? ⟨bx, 4, none⟩ = some vn ∧ (loadVar 45 ⟨bx, 5, none⟩).run Tryd.prog w9 = .ok (.agg cm) w9 ∧ w9.cell? ⟨bx, 1, none⟩ = some x1 ∧ (loadVar 87 ⟨bx, 29, none⟩).run Tryd.prog w9 = .ok (.agg co) w9) ∧ Calls Tryd.prog 41 #[v, .int .i64 1] w9 fun e w9 => e = .returned (.slice none 0 0) ∧ ((loadVar 26 ⟨bx, 2, none⟩).run Tryd.prog w9 = .ok (.agg ca) w9 ∧ w9.cell? ⟨bx, 4, none⟩ = some vn ∧ (loadVar 45 ⟨bx, 5, none⟩).run Tryd.prog w9 = .ok (.agg cm) w9 ∧ w9.cell? ⟨bx, 1, none⟩ = some x1 ∧ (loadVar 87 ⟨bx, 29, none⟩).run Tryd.prog w9 = .ok (.agg co) w9) ∧ Calls Tryd.prog 36 #[v, .agg cm, x1] w9 fun e w9 => e = .returned (.slice none 0 0) ∧ ((loadVar 26 ⟨bx, 2, none⟩).run Tryd.prog w9 = .ok (.agg ca) w9 ∧ w9.cell? ⟨bx, 4, none⟩ = some vn ∧ (loadVar 45 ⟨bx, 5, none⟩).run Tryd.prog w9 = .ok (.agg cm) w9 ∧ w9.cell? ⟨bx, 1, none⟩ = some x1 ∧ (loadVar 87 ⟨bx, 29, none⟩).run Tryd.prog w9 = .ok (.agg co) w9) ∧ Calls Tryd.prog 37 #[v, .agg co, x1] w9 fun e w9 => e = .returned (.slice none 0 0) ∧ ((loadVar 26 ⟨bx, 2, none⟩).run Tryd.prog w9 = .ok (.agg ca) w9 ∧ w9.cell? ⟨bx, 4, none⟩ = some vn ∧ (loadVar 45 ⟨bx, 5, none⟩).run Tryd.prog w9 = .ok (.agg cm) w9 ∧ w9.cell? ⟨bx, 1, none⟩ = some x1 ∧ (loadVar 87 ⟨bx, 29, none⟩).run Tryd.prog w9 = .ok (.agg co) w9) ∧ Calls Tryd.prog 38 #[v, x1] w9 fun e w9 => e = .returned (.slice none 0 0) ∧ ((loadVar 26 ⟨bx, 2, none⟩).run Tryd.prog w9 = .ok (.agg ca) w9 ∧ w9.cell? ⟨bx, 4, none⟩ = some vn ∧ (loadVar 45 ⟨bx, 5, none⟩).run Tryd.prog w9 = .ok (.agg cm) w9 ∧ w9.cell? ⟨bx, 1, none⟩ = some x1 ∧ (loadVar 87 ⟨bx, 29, none⟩).run Tryd.prog w9 = .ok (.agg co) w9) ∧ Calls Tryd.prog 40 #[v] w9 fun e w9 => e = .returned (.bool false) ∧ ((loadVar 26 ⟨bx, 2, none⟩).run Tryd.prog w9 = .ok (.agg ca) w9 ∧ w9.cell? ⟨bx, 4, none⟩ = some vn ∧ (loadVar 45 ⟨bx, 5, none⟩).run Tryd.prog w9 = .ok (.agg cm) w9 ∧ w9.cell? ⟨bx, 1, none⟩ = some x1 ∧ (loadVar 87 ⟨bx, 29, none⟩).run Tryd.prog w9 = .ok (.agg co) w9) ∧ T w9)
    (hK : ∀ (w9 : World), T w9 → Q .normal ((((((((((((((((((((((((((((((((((((((((((a.put (some 20) (v)).put (some 21) (.pointer (some ⟨bx, 2, none⟩))).put (some 22) (.agg ca)).put (some 23) (.pointer (some ⟨bx, 4, none⟩))).put (some 24) (vn)).put (some 25) (.int .i64 2)).put (some 26) (.bool false)).put (some 27) (.bool false)).put (some 28) (v)).put (some 31) (v)).put (some 32) (.pointer (some ⟨bx, 5, none⟩))).put (some 33) (.agg cm)).put (some 34) (.pointer (some ⟨bx, 1, none⟩))).put (some 35) (x1)).put (some 39) (v)).put (some 40) (.pointer (some ⟨bx, 29, none⟩))).put (some 41) (.agg co)).put (some 42) (.pointer (some ⟨bx, 1, none⟩))).put (some 43) (x1)).put (some 47) (v)).put (some 48) (.pointer (some ⟨bx, 1, none⟩))).put (some 49) (x1)).put (some 29) (.slice none 0 0)).put (some 30) (.int .i64 0)).put (some 36) (.slice none 0 0)).put (some 37) (.int .i64 0)).put (some 38) (.int .i64 0)).put (some 44) (.slice none 0 0)).put (some 45) (.int .i64 0)).put (some 46) (.int .i64 0)).put (some 50) (.slice none 0 0)).put (some 51) (.int .i64 0)).put (some 52) (.int .i64 0)).put (some 53) (.bool false)).put (some 54) (.bool false)).put (some 55) (.bool false)).put (some 56) (.bool false)).put (some 57) (.bool false)).put (some 58) (.bool false)).put (some 59) (v)).put (some 60) (.bool false)).put (some 61) (.bool false)) w9) : (Code.region id ops true).wp Tryd.prog Q a y := by
  have HR : Hid (cb5R ops) := R
  have hdf : a.defers = a.defers := rfl
  refine wp_region_held_drew (S := (fun z : World => (loadVar 26 ⟨bx, 2, none⟩).run Tryd.prog z = .ok (.agg ca) z ∧ z.cell? ⟨bx, 4, none⟩ = some vn ∧ (loadVar 45 ⟨bx, 5, none⟩).run Tryd.prog z = .ok (.agg cm) z ∧ z.cell? ⟨bx, 1, none⟩ = some x1 ∧ (loadVar 87 ⟨bx, 29, none⟩).run Tryd.prog z = .ok (.agg co) z)) (by kernel_rfl) (hS0) (fun hHeld => ?_)
  rw [R.size]
  clear R
  refine wpAnyH_takes HR.out.sel hQ hHeld [0, 1, 2, 3, 4] 37 _ _ HR.out.may0 ?_
  refine wpTake_stepE ⟨some 20, Op.move (Operand.tmp 4), 83, "", #[], none⟩ 20 (v) HR.out.o0 rfl (by rw [hsz]; decide) (wanted_none rfl) (fun z hS => cb5_0 bx v vn x1 ca cm co _ z (fun _ => rfl) e4 hS) ?_
  intro a1 ha1 s1 f1 n1 k1
  replace hsz := s1.trans hsz
  replace hdf := f1.trans hdf
  replace e1 := (k1 1 (by decide)).trans e1
  replace e4 := (k1 4 (by decide)).trans e4
  replace e6 := (k1 6 (by decide)).trans e6
  have e20 := n1
  clear s1 f1 n1 k1
  refine wpTake_stepE ⟨some 21, Op.fieldAddr 89 (Operand.tmp 1) 2, 0, "", #[], none⟩ 21 (.pointer (some ⟨bx, 2, none⟩)) HR.out.o1 rfl (by rw [hsz]; decide) (wanted_none rfl) (fun z hS => cb5_1 bx v vn x1 ca cm co _ z (fun _ => rfl) e1 hS) ?_
  intro a2 ha2 s1 f1 n1 k1
  replace hsz := s1.trans hsz
  replace hdf := f1.trans hdf
  replace e1 := (k1 1 (by decide)).trans e1
  replace e4 := (k1 4 (by decide)).trans e4
  replace e6 := (k1 6 (by decide)).trans e6
  replace e20 := (k1 20 (by decide)).trans e20
  have e21 := n1
  clear s1 f1 n1 k1
  refine wpTake_stepE ⟨some 22, Op.load 26 (Operand.tmp 21), 26, "", #[], none⟩ 22 (.agg ca) HR.out.o2 rfl (by rw [hsz]; decide) (wanted_none rfl) (fun z hS => cb5_2 bx v vn x1 ca cm co _ z (fun _ => rfl) e21 hS) ?_
  intro a3 ha3 s1 f1 n1 k1
  replace hsz := s1.trans hsz
  replace hdf := f1.trans hdf
  replace e1 := (k1 1 (by decide)).trans e1
  replace e4 := (k1 4 (by decide)).trans e4
  replace e6 := (k1 6 (by decide)).trans e6
  replace e20 := (k1 20 (by decide)).trans e20
  have e22 := n1
  clear s1 f1 n1 k1
  refine wpTake_stepE ⟨some 23, Op.fieldAddr 89 (Operand.tmp 1) 3, 0, "", #[], none⟩ 23 (.pointer (some ⟨bx, 4, none⟩)) HR.out.o3 rfl (by rw [hsz]; decide) (wanted_none rfl) (fun z hS => cb5_3 bx v vn x1 ca cm co _ z (fun _ => rfl) e1 hS) ?_
  intro a4 ha4 s1 f1 n1 k1
  replace hsz := s1.trans hsz
  replace hdf := f1.trans hdf
  replace e1 := (k1 1 (by decide)).trans e1
  replace e4 := (k1 4 (by decide)).trans e4
  replace e6 := (k1 6 (by decide)).trans e6
  replace e20 := (k1 20 (by decide)).trans e20
  replace e22 := (k1 22 (by decide)).trans e22
  have e23 := n1
  clear s1 f1 n1 k1
  refine wpTake_stepE ⟨some 24, Op.load 23 (Operand.tmp 23), 23, "", #[], none⟩ 24 (vn) HR.out.o4 rfl (by rw [hsz]; decide) (wanted_none rfl) (fun z hS => cb5_4 bx v vn x1 ca cm co _ z (fun _ => rfl) e23 hS) ?_
  intro a5 ha5 s1 f1 n1 k1
  replace hsz := s1.trans hsz
  replace hdf := f1.trans hdf
  replace e1 := (k1 1 (by decide)).trans e1
  replace e4 := (k1 4 (by decide)).trans e4
  replace e6 := (k1 6 (by decide)).trans e6
  replace e20 := (k1 20 (by decide)).trans e20
  replace e22 := (k1 22 (by decide)).trans e22
  have e24 := n1
  clear s1 f1 n1 k1
  refine wpTake_nil ?_
  refine wpAnyH_one ⟨some 25, Op.call { callee := Callee.value (Operand.func 35), args := #[Operand.tmp 20, Operand.tmp 22, Operand.tmp 24], argTypes := #[83, 26, 23] }, 28, "", #[], none⟩ HR.out.r5 HR.out.o5 rfl (fun K' hK' => ?_)
  refine wp_enter (cb5_5 bx v vn x1 ca cm co _ _ (fun _ => rfl) rfl e20 e22 e24) (hc) ?_
  rintro e9 w9 ⟨rfl, hS9, hc1⟩
  refine ⟨_, rfl, hK'.out _ _ (hS9) ?_⟩
  replace hHeld := hS9
  clear hK' K'
  show wpAnyH _ _ _ _ _ _ _ (Act.put a5 (some 25) (.int .i64 2)) _
  obtain ⟨s1, f1, n1, k1⟩ := act_put a5 25 (.int .i64 2) (show 25 < _ by rw [hsz]; decide)
  obtain ⟨a6, ha6⟩ : ∃ x, x = Act.put a5 (some 25) (.int .i64 2) := ⟨_, rfl⟩
  rw [← ha6] at s1 f1 n1 k1 ⊢
  replace hsz := s1.trans hsz
  replace hdf := f1.trans hdf
  replace e1 := (k1 1 (by decide)).trans e1
  replace e4 := (k1 4 (by decide)).trans e4
  replace e6 := (k1 6 (by decide)).trans e6
  have e25 := n1
  clear s1 f1 n1 k1
  refine wpAnyH_takes HR.out.sel hQ hHeld [6, 7, 8, 11, 12, 13, 14, 15, 19, 20, 21, 22, 23, 27, 28, 29] 20 _ _ HR.out.may1 ?_
  refine wpTake_stepE ⟨some 26, Op.binOp BinOp.neq 28 (Operand.tmp 25) (Operand.const (Value.int IntKind.i64 2)) 28, 4, "", #[], none⟩ 26 (.bool false) HR.out.o6 rfl (by rw [hsz]; decide) (wanted_none rfl) (fun z hS => cb5_6 bx v vn x1 ca cm co _ z (fun _ => rfl) e25 hS) ?_
  intro a7 ha7 s1 f1 n1 k1
  replace hsz := s1.trans hsz
  replace hdf := f1.trans hdf
  replace e1 := (k1 1 (by decide)).trans e1
  replace e4 := (k1 4 (by decide)).trans e4
  replace e6 := (k1 6 (by decide)).trans e6
  have e26 := n1
  clear s1 f1 n1 k1
  refine wpTake_stepE ⟨some 27, Op.move (Operand.tmp 26), 4, "", #[], none⟩ 27 (.bool false) HR.out.o7 rfl (by rw [hsz]; decide) (wanted_none rfl) (fun z hS => cb5_7 bx v vn x1 ca cm co _ z (fun _ => rfl) e26 hS) ?_
  intro a8 ha8 s1 f1 n1 k1
  replace hsz := s1.trans hsz
  replace hdf := f1.trans hdf
  replace e1 := (k1 1 (by decide)).trans e1
  replace e4 := (k1 4 (by decide)).trans e4
  replace e6 := (k1 6 (by decide)).trans e6
  have e27 := n1
  clear s1 f1 n1 k1
  refine wpTake_stepE ⟨some 28, Op.move (Operand.tmp 4), 83, "", #[], some (7, false)⟩ 28 (v) HR.out.o8 rfl (by rw [hsz]; decide) (wanted_some rfl (yielded_of HR.out.o7 rfl e27 (by rw [hsz]; decide))) (fun z hS => cb5_8 bx v vn x1 ca cm co _ z (fun _ => rfl) e4 hS) ?_
  intro a9 ha9 s1 f1 n1 k1
  replace hsz := s1.trans hsz
  replace hdf := f1.trans hdf
  replace e1 := (k1 1 (by decide)).trans e1
  replace e4 := (k1 4 (by decide)).trans e4
  replace e6 := (k1 6 (by decide)).trans e6
  replace e27 := (k1 27 (by decide)).trans e27
  have e28 := n1
  clear s1 f1 n1 k1
  refine wpTake_stepE ⟨some 31, Op.move (Operand.tmp 4), 83, "", #[], some (7, false)⟩ 31 (v) HR.out.o11 rfl (by rw [hsz]; decide) (wanted_some rfl (yielded_of HR.out.o7 rfl e27 (by rw [hsz]; decide))) (fun z hS => cb5_11 bx v vn x1 ca cm co _ z (fun _ => rfl) e4 hS) ?_
  intro a10 ha10 s1 f1 n1 k1
  replace hsz := s1.trans hsz
  replace hdf := f1.trans hdf
  replace e1 := (k1 1 (by decide)).trans e1
  replace e4 := (k1 4 (by decide)).trans e4
  replace e6 := (k1 6 (by decide)).trans e6
  replace e27 := (k1 27 (by decide)).trans e27
  replace e28 := (k1 28 (by decide)).trans e28
  have e31 := n1
  clear s1 f1 n1 k1
  refine wpTake_stepE ⟨some 32, Op.fieldAddr 89 (Operand.tmp 1) 4, 0, "", #[], some (7, false)⟩ 32 (.pointer (some ⟨bx, 5, none⟩)) HR.out.o12 rfl (by rw [hsz]; decide) (wanted_some rfl (yielded_of HR.out.o7 rfl e27 (by rw [hsz]; decide))) (fun z hS => cb5_12 bx v vn x1 ca cm co _ z (fun _ => rfl) e1 hS) ?_
  intro a11 ha11 s1 f1 n1 k1
  replace hsz := s1.trans hsz
  replace hdf := f1.trans hdf
  replace e1 := (k1 1 (by decide)).trans e1
  replace e4 := (k1 4 (by decide)).trans e4
  replace e6 := (k1 6 (by decide)).trans e6
  replace e27 := (k1 27 (by decide)).trans e27
  replace e28 := (k1 28 (by decide)).trans e28
  replace e31 := (k1 31 (by decide)).trans e31
  have e32 := n1
  clear s1 f1 n1 k1
  refine wpTake_stepE ⟨some 33, Op.load 45 (Operand.tmp 32), 45, "", #[], some (7, false)⟩ 33 (.agg cm) HR.out.o13 rfl (by rw [hsz]; decide) (wanted_some rfl (yielded_of HR.out.o7 rfl e27 (by rw [hsz]; decide))) (fun z hS => cb5_13 bx v vn x1 ca cm co _ z (fun _ => rfl) e32 hS) ?_
  intro a12 ha12 s1 f1 n1 k1
  replace hsz := s1.trans hsz
  replace hdf := f1.trans hdf
  replace e1 := (k1 1 (by decide)).trans e1
  replace e4 := (k1 4 (by decide)).trans e4
  replace e6 := (k1 6 (by decide)).trans e6
  replace e27 := (k1 27 (by decide)).trans e27
  replace e28 := (k1 28 (by decide)).trans e28
  replace e31 := (k1 31 (by decide)).trans e31
  have e33 := n1
  clear s1 f1 n1 k1
  refine wpTake_stepE ⟨some 34, Op.fieldAddr 89 (Operand.tmp 1) 1, 0, "", #[], some (7, false)⟩ 34 (.pointer (some ⟨bx, 1, none⟩)) HR.out.o14 rfl (by rw [hsz]; decide) (wanted_some rfl (yielded_of HR.out.o7 rfl e27 (by rw [hsz]; decide))) (fun z hS => cb5_14 bx v vn x1 ca cm co _ z (fun _ => rfl) e1 hS) ?_
  intro a13 ha13 s1 f1 n1 k1
  replace hsz := s1.trans hsz
  replace hdf := f1.trans hdf
  replace e1 := (k1 1 (by decide)).trans e1
  replace e4 := (k1 4 (by decide)).trans e4
  replace e6 := (k1 6 (by decide)).trans e6
  replace e27 := (k1 27 (by decide)).trans e27
  replace e28 := (k1 28 (by decide)).trans e28
  replace e31 := (k1 31 (by decide)).trans e31
  replace e33 := (k1 33 (by decide)).trans e33
  have e34 := n1
  clear s1 f1 n1 k1
  refine wpTake_stepE ⟨some 35, Op.load 3 (Operand.tmp 34), 3, "", #[], some (7, false)⟩ 35 (x1) HR.out.o15 rfl (by rw [hsz]; decide) (wanted_some rfl (yielded_of HR.out.o7 rfl e27 (by rw [hsz]; decide))) (fun z hS => cb5_15 bx v vn x1 ca cm co _ z (fun _ => rfl) e34 hS) ?_
  intro a14 ha14 s1 f1 n1 k1
  replace hsz := s1.trans hsz
  replace hdf := f1.trans hdf
  replace e1 := (k1 1 (by decide)).trans e1
  replace e4 := (k1 4 (by decide)).trans e4
  replace e6 := (k1 6 (by decide)).trans e6
  replace e27 := (k1 27 (by decide)).trans e27
  replace e28 := (k1 28 (by decide)).trans e28
  replace e31 := (k1 31 (by decide)).trans e31
  replace e33 := (k1 33 (by decide)).trans e33
  have e35 := n1
  clear s1 f1 n1 k1
  refine wpTake_stepE ⟨some 39, Op.move (Operand.tmp 4), 83, "", #[], some (7, false)⟩ 39 (v) HR.out.o19 rfl (by rw [hsz]; decide) (wanted_some rfl (yielded_of HR.out.o7 rfl e27 (by rw [hsz]; decide))) (fun z hS => cb5_19 bx v vn x1 ca cm co _ z (fun _ => rfl) e4 hS) ?_
  intro a15 ha15 s1 f1 n1 k1
  replace hsz := s1.trans hsz
  replace hdf := f1.trans hdf
  replace e1 := (k1 1 (by decide)).trans e1
  replace e4 := (k1 4 (by decide)).trans e4
  replace e6 := (k1 6 (by decide)).trans e6
  replace e27 := (k1 27 (by decide)).trans e27
  replace e28 := (k1 28 (by decide)).trans e28
  replace e31 := (k1 31 (by decide)).trans e31
  replace e33 := (k1 33 (by decide)).trans e33
  replace e35 := (k1 35 (by decide)).trans e35
  have e39 := n1
  clear s1 f1 n1 k1
  refine wpTake_stepE ⟨some 40, Op.fieldAddr 89 (Operand.tmp 1) 5, 0, "", #[], some (7, false)⟩ 40 (.pointer (some ⟨bx, 29, none⟩)) HR.out.o20 rfl (by rw [hsz]; decide) (wanted_some rfl (yielded_of HR.out.o7 rfl e27 (by rw [hsz]; decide))) (fun z hS => cb5_20 bx v vn x1 ca cm co _ z (fun _ => rfl) e1 hS) ?_
  intro a16 ha16 s1 f1 n1 k1
  replace hsz := s1.trans hsz
  replace hdf := f1.trans hdf
  replace e1 := (k1 1 (by decide)).trans e1
  replace e4 := (k1 4 (by decide)).trans e4
  replace e6 := (k1 6 (by decide)).trans e6
  replace e27 := (k1 27 (by decide)).trans e27
  replace e28 := (k1 28 (by decide)).trans e28
  replace e31 := (k1 31 (by decide)).trans e31
  replace e33 := (k1 33 (by decide)).trans e33
  replace e35 := (k1 35 (by decide)).trans e35
  replace e39 := (k1 39 (by decide)).trans e39
  have e40 := n1
  clear s1 f1 n1 k1
  refine wpTake_stepE ⟨some 41, Op.load 87 (Operand.tmp 40), 87, "", #[], some (7, false)⟩ 41 (.agg co) HR.out.o21 rfl (by rw [hsz]; decide) (wanted_some rfl (yielded_of HR.out.o7 rfl e27 (by rw [hsz]; decide))) (fun z hS => cb5_21 bx v vn x1 ca cm co _ z (fun _ => rfl) e40 hS) ?_
  intro a17 ha17 s1 f1 n1 k1
  replace hsz := s1.trans hsz
  replace hdf := f1.trans hdf
  replace e1 := (k1 1 (by decide)).trans e1
  replace e4 := (k1 4 (by decide)).trans e4
  replace e6 := (k1 6 (by decide)).trans e6
  replace e27 := (k1 27 (by decide)).trans e27
  replace e28 := (k1 28 (by decide)).trans e28
  replace e31 := (k1 31 (by decide)).trans e31
  replace e33 := (k1 33 (by decide)).trans e33
  replace e35 := (k1 35 (by decide)).trans e35
  replace e39 := (k1 39 (by decide)).trans e39
  have e41 := n1
  clear s1 f1 n1 k1
  refine wpTake_stepE ⟨some 42, Op.fieldAddr 89 (Operand.tmp 1) 1, 0, "", #[], some (7, false)⟩ 42 (.pointer (some ⟨bx, 1, none⟩)) HR.out.o22 rfl (by rw [hsz]; decide) (wanted_some rfl (yielded_of HR.out.o7 rfl e27 (by rw [hsz]; decide))) (fun z hS => cb5_22 bx v vn x1 ca cm co _ z (fun _ => rfl) e1 hS) ?_
  intro a18 ha18 s1 f1 n1 k1
  replace hsz := s1.trans hsz
  replace hdf := f1.trans hdf
  replace e1 := (k1 1 (by decide)).trans e1
  replace e4 := (k1 4 (by decide)).trans e4
  replace e6 := (k1 6 (by decide)).trans e6
  replace e27 := (k1 27 (by decide)).trans e27
  replace e28 := (k1 28 (by decide)).trans e28
  replace e31 := (k1 31 (by decide)).trans e31
  replace e33 := (k1 33 (by decide)).trans e33
  replace e35 := (k1 35 (by decide)).trans e35
  replace e39 := (k1 39 (by decide)).trans e39
  replace e41 := (k1 41 (by decide)).trans e41
  have e42 := n1
  clear s1 f1 n1 k1
  refine wpTake_stepE ⟨some 43, Op.load 3 (Operand.tmp 42), 3, "", #[], some (7, false)⟩ 43 (x1) HR.out.o23 rfl (by rw [hsz]; decide) (wanted_some rfl (yielded_of HR.out.o7 rfl e27 (by rw [hsz]; decide))) (fun z hS => cb5_23 bx v vn x1 ca cm co _ z (fun _ => rfl) e42 hS) ?_
  intro a19 ha19 s1 f1 n1 k1
  replace hsz := s1.trans hsz
  replace hdf := f1.trans hdf
  replace e1 := (k1 1 (by decide)).trans e1
  replace e4 := (k1 4 (by decide)).trans e4
  replace e6 := (k1 6 (by decide)).trans e6
  replace e27 := (k1 27 (by decide)).trans e27
  replace e28 := (k1 28 (by decide)).trans e28
  replace e31 := (k1 31 (by decide)).trans e31
  replace e33 := (k1 33 (by decide)).trans e33
  replace e35 := (k1 35 (by decide)).trans e35
  replace e39 := (k1 39 (by decide)).trans e39
  replace e41 := (k1 41 (by decide)).trans e41
  have e43 := n1
  clear s1 f1 n1 k1
  refine wpTake_stepE ⟨some 47, Op.move (Operand.tmp 4), 83, "", #[], some (7, false)⟩ 47 (v) HR.out.o27 rfl (by rw [hsz]; decide) (wanted_some rfl (yielded_of HR.out.o7 rfl e27 (by rw [hsz]; decide))) (fun z hS => cb5_27 bx v vn x1 ca cm co _ z (fun _ => rfl) e4 hS) ?_
  intro a20 ha20 s1 f1 n1 k1
  replace hsz := s1.trans hsz
  replace hdf := f1.trans hdf
  replace e1 := (k1 1 (by decide)).trans e1
  replace e4 := (k1 4 (by decide)).trans e4
  replace e6 := (k1 6 (by decide)).trans e6
  replace e27 := (k1 27 (by decide)).trans e27
  replace e28 := (k1 28 (by decide)).trans e28
  replace e31 := (k1 31 (by decide)).trans e31
  replace e33 := (k1 33 (by decide)).trans e33
  replace e35 := (k1 35 (by decide)).trans e35
  replace e39 := (k1 39 (by decide)).trans e39
  replace e41 := (k1 41 (by decide)).trans e41
  replace e43 := (k1 43 (by decide)).trans e43
  have e47 := n1
  clear s1 f1 n1 k1
  refine wpTake_stepE ⟨some 48, Op.fieldAddr 89 (Operand.tmp 1) 1, 0, "", #[], some (7, false)⟩ 48 (.pointer (some ⟨bx, 1, none⟩)) HR.out.o28 rfl (by rw [hsz]; decide) (wanted_some rfl (yielded_of HR.out.o7 rfl e27 (by rw [hsz]; decide))) (fun z hS => cb5_28 bx v vn x1 ca cm co _ z (fun _ => rfl) e1 hS) ?_
  intro a21 ha21 s1 f1 n1 k1
  replace hsz := s1.trans hsz
  replace hdf := f1.trans hdf
  replace e4 := (k1 4 (by decide)).trans e4
  replace e6 := (k1 6 (by decide)).trans e6
  replace e27 := (k1 27 (by decide)).trans e27
  replace e28 := (k1 28 (by decide)).trans e28
  replace e31 := (k1 31 (by decide)).trans e31
  replace e33 := (k1 33 (by decide)).trans e33
  replace e35 := (k1 35 (by decide)).trans e35
  replace e39 := (k1 39 (by decide)).trans e39
  replace e41 := (k1 41 (by decide)).trans e41
  replace e43 := (k1 43 (by decide)).trans e43
  replace e47 := (k1 47 (by decide)).trans e47
  have e48 := n1
  clear s1 f1 n1 k1
  refine wpTake_stepE ⟨some 49, Op.load 3 (Operand.tmp 48), 3, "", #[], some (7, false)⟩ 49 (x1) HR.out.o29 rfl (by rw [hsz]; decide) (wanted_some rfl (yielded_of HR.out.o7 rfl e27 (by rw [hsz]; decide))) (fun z hS => cb5_29 bx v vn x1 ca cm co _ z (fun _ => rfl) e48 hS) ?_
  intro a22 ha22 s1 f1 n1 k1
  replace hsz := s1.trans hsz
  replace hdf := f1.trans hdf
  replace e4 := (k1 4 (by decide)).trans e4
  replace e6 := (k1 6 (by decide)).trans e6
  replace e27 := (k1 27 (by decide)).trans e27
  replace e28 := (k1 28 (by decide)).trans e28
  replace e31 := (k1 31 (by decide)).trans e31
  replace e33 := (k1 33 (by decide)).trans e33
  replace e35 := (k1 35 (by decide)).trans e35
  replace e39 := (k1 39 (by decide)).trans e39
  replace e41 := (k1 41 (by decide)).trans e41
  replace e43 := (k1 43 (by decide)).trans e43
  replace e47 := (k1 47 (by decide)).trans e47
  have e49 := n1
  clear s1 f1 n1 k1
  refine wpTake_nil ?_
  refine wpAnyH_oneG ⟨some 29, Op.call { callee := Callee.value (Operand.func 41), args := #[Operand.tmp 28, Operand.const (Value.int IntKind.i64 1)], argTypes := #[83, 3] }, 54, "", #[], some (7, false)⟩ HR.out.r9 HR.out.o9 (wanted_some rfl (yielded_of HR.out.o7 rfl e27 (by rw [hsz]; decide))) (fun K' hK' => ?_)
  refine wp_enter (cb5_9 bx v vn x1 ca cm co _ _ (fun _ => rfl) rfl e28) (hc1) ?_
  rintro e9 w9 ⟨rfl, hS9, hc2⟩
  refine ⟨_, rfl, hK'.out _ _ (hS9) ?_⟩
  replace hHeld := hS9
  clear hK' K'
  show wpAnyH _ _ _ _ _ _ _ (Act.put a22 (some 29) (.slice none 0 0)) _
  obtain ⟨s1, f1, n1, k1⟩ := act_put a22 29 (.slice none 0 0) (show 29 < _ by rw [hsz]; decide)
  obtain ⟨a23, ha23⟩ : ∃ x, x = Act.put a22 (some 29) (.slice none 0 0) := ⟨_, rfl⟩
  rw [← ha23] at s1 f1 n1 k1 ⊢
  replace hsz := s1.trans hsz
  replace hdf := f1.trans hdf
  replace e4 := (k1 4 (by decide)).trans e4
  replace e6 := (k1 6 (by decide)).trans e6
  replace e27 := (k1 27 (by decide)).trans e27
  replace e31 := (k1 31 (by decide)).trans e31
  replace e33 := (k1 33 (by decide)).trans e33
  replace e35 := (k1 35 (by decide)).trans e35
  replace e39 := (k1 39 (by decide)).trans e39
  replace e41 := (k1 41 (by decide)).trans e41
  replace e43 := (k1 43 (by decide)).trans e43
  replace e47 := (k1 47 (by decide)).trans e47
  replace e49 := (k1 49 (by decide)).trans e49
  have e29 := n1
  clear s1 f1 n1 k1
  refine wpAnyH_takes HR.out.sel hQ hHeld [10] 18 _ _ HR.out.may2 ?_
  refine wpTake_stepE ⟨some 30, Op.call { callee := Callee.builtin Builtin.len, args := #[Operand.tmp 29], argTypes := #[54] }, 3, "", #[], some (7, false)⟩ 30 (.int .i64 0) HR.out.o10 rfl (by rw [hsz]; decide) (wanted_some rfl (yielded_of HR.out.o7 rfl e27 (by rw [hsz]; decide))) (fun z hS => cb5_10 bx v vn x1 ca cm co _ z (fun _ => rfl) e29 hS) ?_
  intro a24 ha24 s1 f1 n1 k1
  replace hsz := s1.trans hsz
  replace hdf := f1.trans hdf
  replace e4 := (k1 4 (by decide)).trans e4
  replace e6 := (k1 6 (by decide)).trans e6
  replace e27 := (k1 27 (by decide)).trans e27
  replace e31 := (k1 31 (by decide)).trans e31
  replace e33 := (k1 33 (by decide)).trans e33
  replace e35 := (k1 35 (by decide)).trans e35
  replace e39 := (k1 39 (by decide)).trans e39
  replace e41 := (k1 41 (by decide)).trans e41
  replace e43 := (k1 43 (by decide)).trans e43
  replace e47 := (k1 47 (by decide)).trans e47
  replace e49 := (k1 49 (by decide)).trans e49
  have e30 := n1
  clear s1 f1 n1 k1
  refine wpTake_nil ?_
  refine wpAnyH_oneG ⟨some 36, Op.call { callee := Callee.value (Operand.func 36), args := #[Operand.tmp 31, Operand.tmp 33, Operand.tmp 35], argTypes := #[83, 45, 3] }, 91, "", #[], some (7, false)⟩ HR.out.r16 HR.out.o16 (wanted_some rfl (yielded_of HR.out.o7 rfl e27 (by rw [hsz]; decide))) (fun K' hK' => ?_)
  refine wp_enter (cb5_16 bx v vn x1 ca cm co _ _ (fun _ => rfl) rfl e31 e33 e35) (hc2) ?_
  rintro e9 w9 ⟨rfl, hS9, hc3⟩
  refine ⟨_, rfl, hK'.out _ _ (hS9) ?_⟩
  replace hHeld := hS9
  clear hK' K'
  show wpAnyH _ _ _ _ _ _ _ (Act.put a24 (some 36) (.slice none 0 0)) _
  obtain ⟨s1, f1, n1, k1⟩ := act_put a24 36 (.slice none 0 0) (show 36 < _ by rw [hsz]; decide)
  obtain ⟨a25, ha25⟩ : ∃ x, x = Act.put a24 (some 36) (.slice none 0 0) := ⟨_, rfl⟩
  rw [← ha25] at s1 f1 n1 k1 ⊢
  replace hsz := s1.trans hsz
  replace hdf := f1.trans hdf
  replace e4 := (k1 4 (by decide)).trans e4
  replace e6 := (k1 6 (by decide)).trans e6
  replace e27 := (k1 27 (by decide)).trans e27
  replace e39 := (k1 39 (by decide)).trans e39
  replace e41 := (k1 41 (by decide)).trans e41
  replace e43 := (k1 43 (by decide)).trans e43
  replace e47 := (k1 47 (by decide)).trans e47
  replace e49 := (k1 49 (by decide)).trans e49
  replace e30 := (k1 30 (by decide)).trans e30
  have e36 := n1
  clear s1 f1 n1 k1
  refine wpAnyH_takes HR.out.sel hQ hHeld [17, 18] 15 _ _ HR.out.may3 ?_
  refine wpTake_stepE ⟨some 37, Op.call { callee := Callee.builtin Builtin.len, args := #[Operand.tmp 36], argTypes := #[91] }, 3, "", #[], some (7, false)⟩ 37 (.int .i64 0) HR.out.o17 rfl (by rw [hsz]; decide) (wanted_some rfl (yielded_of HR.out.o7 rfl e27 (by rw [hsz]; decide))) (fun z hS => cb5_17 bx v vn x1 ca cm co _ z (fun _ => rfl) e36 hS) ?_
  intro a26 ha26 s1 f1 n1 k1
  replace hsz := s1.trans hsz
  replace hdf := f1.trans hdf
  replace e4 := (k1 4 (by decide)).trans e4
  replace e6 := (k1 6 (by decide)).trans e6
  replace e27 := (k1 27 (by decide)).trans e27
  replace e39 := (k1 39 (by decide)).trans e39
  replace e41 := (k1 41 (by decide)).trans e41
  replace e43 := (k1 43 (by decide)).trans e43
  replace e47 := (k1 47 (by decide)).trans e47
  replace e49 := (k1 49 (by decide)).trans e49
  replace e30 := (k1 30 (by decide)).trans e30
  have e37 := n1
  clear s1 f1 n1 k1
  refine wpTake_stepE ⟨some 38, Op.binOp BinOp.add 3 (Operand.tmp 30) (Operand.tmp 37) 3, 3, "", #[], some (7, false)⟩ 38 (.int .i64 0) HR.out.o18 rfl (by rw [hsz]; decide) (wanted_some rfl (yielded_of HR.out.o7 rfl e27 (by rw [hsz]; decide))) (fun z hS => cb5_18 bx v vn x1 ca cm co _ z (fun _ => rfl) e30 e37 hS) ?_
  intro a27 ha27 s1 f1 n1 k1
  replace hsz := s1.trans hsz
  replace hdf := f1.trans hdf
  replace e4 := (k1 4 (by decide)).trans e4
  replace e6 := (k1 6 (by decide)).trans e6
  replace e27 := (k1 27 (by decide)).trans e27
  replace e39 := (k1 39 (by decide)).trans e39
  replace e41 := (k1 41 (by decide)).trans e41
  replace e43 := (k1 43 (by decide)).trans e43
  replace e47 := (k1 47 (by decide)).trans e47
  replace e49 := (k1 49 (by decide)).trans e49
  have e38 := n1
  clear s1 f1 n1 k1
  refine wpTake_nil ?_
  refine wpAnyH_oneG ⟨some 44, Op.call { callee := Callee.value (Operand.func 37), args := #[Operand.tmp 39, Operand.tmp 41, Operand.tmp 43], argTypes := #[83, 87, 3] }, 91, "", #[], some (7, false)⟩ HR.out.r24 HR.out.o24 (wanted_some rfl (yielded_of HR.out.o7 rfl e27 (by rw [hsz]; decide))) (fun K' hK' => ?_)
  refine wp_enter (cb5_24 bx v vn x1 ca cm co _ _ (fun _ => rfl) rfl e39 e41 e43) (hc3) ?_
  rintro e9 w9 ⟨rfl, hS9, hc4⟩
  refine ⟨_, rfl, hK'.out _ _ (hS9) ?_⟩
  replace hHeld := hS9
  clear hK' K'
  show wpAnyH _ _ _ _ _ _ _ (Act.put a27 (some 44) (.slice none 0 0)) _
  obtain ⟨s1, f1, n1, k1⟩ := act_put a27 44 (.slice none 0 0) (show 44 < _ by rw [hsz]; decide)
  obtain ⟨a28, ha28⟩ : ∃ x, x = Act.put a27 (some 44) (.slice none 0 0) := ⟨_, rfl⟩
  rw [← ha28] at s1 f1 n1 k1 ⊢
  replace hsz := s1.trans hsz
  replace hdf := f1.trans hdf
  replace e4 := (k1 4 (by decide)).trans e4
  replace e6 := (k1 6 (by decide)).trans e6
  replace e27 := (k1 27 (by decide)).trans e27
  replace e47 := (k1 47 (by decide)).trans e47
  replace e49 := (k1 49 (by decide)).trans e49
  replace e38 := (k1 38 (by decide)).trans e38
  have e44 := n1
  clear s1 f1 n1 k1
  refine wpAnyH_takes HR.out.sel hQ hHeld [25, 26] 12 _ _ HR.out.may4 ?_
  refine wpTake_stepE ⟨some 45, Op.call { callee := Callee.builtin Builtin.len, args := #[Operand.tmp 44], argTypes := #[91] }, 3, "", #[], some (7, false)⟩ 45 (.int .i64 0) HR.out.o25 rfl (by rw [hsz]; decide) (wanted_some rfl (yielded_of HR.out.o7 rfl e27 (by rw [hsz]; decide))) (fun z hS => cb5_25 bx v vn x1 ca cm co _ z (fun _ => rfl) e44 hS) ?_
  intro a29 ha29 s1 f1 n1 k1
  replace hsz := s1.trans hsz
  replace hdf := f1.trans hdf
  replace e4 := (k1 4 (by decide)).trans e4
  replace e6 := (k1 6 (by decide)).trans e6
  replace e27 := (k1 27 (by decide)).trans e27
  replace e47 := (k1 47 (by decide)).trans e47
  replace e49 := (k1 49 (by decide)).trans e49
  replace e38 := (k1 38 (by decide)).trans e38
  have e45 := n1
  clear s1 f1 n1 k1
  refine wpTake_stepE ⟨some 46, Op.binOp BinOp.add 3 (Operand.tmp 38) (Operand.tmp 45) 3, 3, "", #[], some (7, false)⟩ 46 (.int .i64 0) HR.out.o26 rfl (by rw [hsz]; decide) (wanted_some rfl (yielded_of HR.out.o7 rfl e27 (by rw [hsz]; decide))) (fun z hS => cb5_26 bx v vn x1 ca cm co _ z (fun _ => rfl) e38 e45 hS) ?_
  intro a30 ha30 s1 f1 n1 k1
  replace hsz := s1.trans hsz
  replace hdf := f1.trans hdf
  replace e4 := (k1 4 (by decide)).trans e4
  replace e6 := (k1 6 (by decide)).trans e6
  replace e27 := (k1 27 (by decide)).trans e27
  replace e47 := (k1 47 (by decide)).trans e47
  replace e49 := (k1 49 (by decide)).trans e49
  have e46 := n1
  clear s1 f1 n1 k1
  refine wpTake_nil ?_
  refine wpAnyH_oneG ⟨some 50, Op.call { callee := Callee.value (Operand.func 38), args := #[Operand.tmp 47, Operand.tmp 49], argTypes := #[83, 3] }, 91, "", #[], some (7, false)⟩ HR.out.r30 HR.out.o30 (wanted_some rfl (yielded_of HR.out.o7 rfl e27 (by rw [hsz]; decide))) (fun K' hK' => ?_)
  refine wp_enter (cb5_30 bx v vn x1 ca cm co _ _ (fun _ => rfl) rfl e47 e49) (hc4) ?_
  rintro e9 w9 ⟨rfl, hS9, hc5⟩
  refine ⟨_, rfl, hK'.out _ _ (hS9) ?_⟩
  replace hHeld := hS9
  clear hK' K'
  show wpAnyH _ _ _ _ _ _ _ (Act.put a30 (some 50) (.slice none 0 0)) _
  obtain ⟨s1, f1, n1, k1⟩ := act_put a30 50 (.slice none 0 0) (show 50 < _ by rw [hsz]; decide)
  obtain ⟨a31, ha31⟩ : ∃ x, x = Act.put a30 (some 50) (.slice none 0 0) := ⟨_, rfl⟩
  rw [← ha31] at s1 f1 n1 k1 ⊢
  replace hsz := s1.trans hsz
  replace hdf := f1.trans hdf
  replace e4 := (k1 4 (by decide)).trans e4
  replace e6 := (k1 6 (by decide)).trans e6
  replace e27 := (k1 27 (by decide)).trans e27
  replace e46 := (k1 46 (by decide)).trans e46
  have e50 := n1
  clear s1 f1 n1 k1
  refine wpAnyH_takes HR.out.sel hQ hHeld [31, 32, 33, 34, 35, 36, 37, 38, 39] 2 _ _ HR.out.may5 ?_
  refine wpTake_stepE ⟨some 51, Op.call { callee := Callee.builtin Builtin.len, args := #[Operand.tmp 50], argTypes := #[91] }, 3, "", #[], some (7, false)⟩ 51 (.int .i64 0) HR.out.o31 rfl (by rw [hsz]; decide) (wanted_some rfl (yielded_of HR.out.o7 rfl e27 (by rw [hsz]; decide))) (fun z hS => cb5_31 bx v vn x1 ca cm co _ z (fun _ => rfl) e50 hS) ?_
  intro a32 ha32 s1 f1 n1 k1
  replace hsz := s1.trans hsz
  replace hdf := f1.trans hdf
  replace e4 := (k1 4 (by decide)).trans e4
  replace e6 := (k1 6 (by decide)).trans e6
  replace e27 := (k1 27 (by decide)).trans e27
  replace e46 := (k1 46 (by decide)).trans e46
  have e51 := n1
  clear s1 f1 n1 k1
  refine wpTake_stepE ⟨some 52, Op.binOp BinOp.add 3 (Operand.tmp 46) (Operand.tmp 51) 3, 3, "", #[], some (7, false)⟩ 52 (.int .i64 0) HR.out.o32 rfl (by rw [hsz]; decide) (wanted_some rfl (yielded_of HR.out.o7 rfl e27 (by rw [hsz]; decide))) (fun z hS => cb5_32 bx v vn x1 ca cm co _ z (fun _ => rfl) e46 e51 hS) ?_
  intro a33 ha33 s1 f1 n1 k1
  replace hsz := s1.trans hsz
  replace hdf := f1.trans hdf
  replace e4 := (k1 4 (by decide)).trans e4
  replace e6 := (k1 6 (by decide)).trans e6
  replace e27 := (k1 27 (by decide)).trans e27
  have e52 := n1
  clear s1 f1 n1 k1
  refine wpTake_stepE ⟨some 53, Op.binOp BinOp.gtr 3 (Operand.tmp 52) (Operand.const (Value.int IntKind.i64 0)) 3, 4, "", #[], some (7, false)⟩ 53 (.bool false) HR.out.o33 rfl (by rw [hsz]; decide) (wanted_some rfl (yielded_of HR.out.o7 rfl e27 (by rw [hsz]; decide))) (fun z hS => cb5_33 bx v vn x1 ca cm co _ z (fun _ => rfl) e52 hS) ?_
  intro a34 ha34 s1 f1 n1 k1
  replace hsz := s1.trans hsz
  replace hdf := f1.trans hdf
  replace e4 := (k1 4 (by decide)).trans e4
  replace e6 := (k1 6 (by decide)).trans e6
  replace e27 := (k1 27 (by decide)).trans e27
  have e53 := n1
  clear s1 f1 n1 k1
  refine wpTake_stepE ⟨some 54, Op.pick (Operand.tmp 27) (Operand.const (Value.bool true)) (Operand.tmp 53), 4, "", #[], none⟩ 54 (.bool false) HR.out.o34 rfl (by rw [hsz]; decide) (wanted_none rfl) (fun z hS => cb5_34 bx v vn x1 ca cm co _ z (fun _ => rfl) e27 e53 hS) ?_
  intro a35 ha35 s1 f1 n1 k1
  replace hsz := s1.trans hsz
  replace hdf := f1.trans hdf
  replace e4 := (k1 4 (by decide)).trans e4
  replace e6 := (k1 6 (by decide)).trans e6
  have e54 := n1
  clear s1 f1 n1 k1
  refine wpTake_stepE ⟨some 55, Op.move (Operand.tmp 54), 4, "", #[], none⟩ 55 (.bool false) HR.out.o35 rfl (by rw [hsz]; decide) (wanted_none rfl) (fun z hS => cb5_35 bx v vn x1 ca cm co _ z (fun _ => rfl) e54 hS) ?_
  intro a36 ha36 s1 f1 n1 k1
  replace hsz := s1.trans hsz
  replace hdf := f1.trans hdf
  replace e4 := (k1 4 (by decide)).trans e4
  replace e6 := (k1 6 (by decide)).trans e6
  have e55 := n1
  clear s1 f1 n1 k1
  refine wpTake_stepE ⟨some 56, Op.move (Operand.tmp 6), 4, "", #[], some (35, false)⟩ 56 (.bool false) HR.out.o36 rfl (by rw [hsz]; decide) (wanted_some rfl (yielded_of HR.out.o35 rfl e55 (by rw [hsz]; decide))) (fun z hS => cb5_36 bx v vn x1 ca cm co _ z (fun _ => rfl) e6 hS) ?_
  intro a37 ha37 s1 f1 n1 k1
  replace hsz := s1.trans hsz
  replace hdf := f1.trans hdf
  replace e4 := (k1 4 (by decide)).trans e4
  replace e55 := (k1 55 (by decide)).trans e55
  have e56 := n1
  clear s1 f1 n1 k1
  refine wpTake_stepE ⟨some 57, Op.pick (Operand.tmp 55) (Operand.const (Value.bool true)) (Operand.tmp 56), 4, "", #[], none⟩ 57 (.bool false) HR.out.o37 rfl (by rw [hsz]; decide) (wanted_none rfl) (fun z hS => cb5_37 bx v vn x1 ca cm co _ z (fun _ => rfl) e55 e56 hS) ?_
  intro a38 ha38 s1 f1 n1 k1
  replace hsz := s1.trans hsz
  replace hdf := f1.trans hdf
  replace e4 := (k1 4 (by decide)).trans e4
  have e57 := n1
  clear s1 f1 n1 k1
  refine wpTake_stepE ⟨some 58, Op.move (Operand.tmp 57), 4, "", #[], none⟩ 58 (.bool false) HR.out.o38 rfl (by rw [hsz]; decide) (wanted_none rfl) (fun z hS => cb5_38 bx v vn x1 ca cm co _ z (fun _ => rfl) e57 hS) ?_
  intro a39 ha39 s1 f1 n1 k1
  replace hsz := s1.trans hsz
  replace hdf := f1.trans hdf
  replace e4 := (k1 4 (by decide)).trans e4
  have e58 := n1
  clear s1 f1 n1 k1
  refine wpTake_stepE ⟨some 59, Op.move (Operand.tmp 4), 83, "", #[], some (38, false)⟩ 59 (v) HR.out.o39 rfl (by rw [hsz]; decide) (wanted_some rfl (yielded_of HR.out.o38 rfl e58 (by rw [hsz]; decide))) (fun z hS => cb5_39 bx v vn x1 ca cm co _ z (fun _ => rfl) e4 hS) ?_
  intro a40 ha40 s1 f1 n1 k1
  replace hsz := s1.trans hsz
  replace hdf := f1.trans hdf
  replace e58 := (k1 58 (by decide)).trans e58
  have e59 := n1
  clear s1 f1 n1 k1
  refine wpTake_nil ?_
  refine wpAnyH_oneG ⟨some 60, Op.call { callee := Callee.value (Operand.func 40), args := #[Operand.tmp 59], argTypes := #[83] }, 4, "", #[], some (38, false)⟩ HR.out.r40 HR.out.o40 (wanted_some rfl (yielded_of HR.out.o38 rfl e58 (by rw [hsz]; decide))) (fun K' hK' => ?_)
  refine wp_enter (cb5_40 bx v vn x1 ca cm co _ _ (fun _ => rfl) rfl e59) (hc5) ?_
  rintro e9 w9 ⟨rfl, hS9, hT⟩
  refine ⟨_, rfl, hK'.out _ _ (hS9) ?_⟩
  replace hHeld := hS9
  clear hK' K'
  show wpAnyH _ _ _ _ _ _ _ (Act.put a40 (some 60) (.bool false)) _
  obtain ⟨s1, f1, n1, k1⟩ := act_put a40 60 (.bool false) (show 60 < _ by rw [hsz]; decide)
  obtain ⟨a41, ha41⟩ : ∃ x, x = Act.put a40 (some 60) (.bool false) := ⟨_, rfl⟩
  rw [← ha41] at s1 f1 n1 k1 ⊢
  replace hsz := s1.trans hsz
  replace hdf := f1.trans hdf
  replace e58 := (k1 58 (by decide)).trans e58
  have e60 := n1
  clear s1 f1 n1 k1
  refine wpAnyH_takes HR.out.sel hQ hHeld [41] 0 _ _ HR.out.may6 ?_
  refine wpTake_stepE ⟨some 61, Op.pick (Operand.tmp 58) (Operand.const (Value.bool true)) (Operand.tmp 60), 4, "", #[], none⟩ 61 (.bool false) HR.out.o41 rfl (by rw [hsz]; decide) (wanted_none rfl) (fun z hS => cb5_41 bx v vn x1 ca cm co _ z (fun _ => rfl) e58 e60 hS) ?_
  intro a42 ha42 s1 f1 n1 k1
  replace hsz := s1.trans hsz
  replace hdf := f1.trans hdf
  clear s1 f1 n1 k1
  refine wpTake_nil ?_
  refine wpAnyH_done HR.out.fin ?_ _
  rw [ha42, ha41, ha40, ha39, ha38, ha37, ha36, ha35, ha34, ha33, ha32, ha31, ha30, ha29, ha28, ha27, ha26, ha25, ha24, ha23, ha22, ha21, ha20, ha19, ha18, ha17, ha16, ha15, ha14, ha13, ha12, ha11, ha10, ha9, ha8, ha7, ha6, ha5, ha4, ha3, ha2, ha1]
  exact hK _ hT
-- R5: ⟨by kernel_rfl, by kernel_rfl, by kernel_rfl, by kernel_rfl, by kernel_rfl, by kernel_rfl, by kernel_rfl, by kernel_rfl, by kernel_rfl, by kernel_rfl, by kernel_rfl, by kernel_rfl, by kernel_rfl, by kernel_rfl, by kernel_rfl, by kernel_rfl, by kernel_rfl, by kernel_rfl, by kernel_rfl, by kernel_rfl, by kernel_rfl, by kernel_rfl, by kernel_rfl, by kernel_rfl, by kernel_rfl, by kernel_rfl, by kernel_rfl, by kernel_rfl, by kernel_rfl, by kernel_rfl, by kernel_rfl, by kernel_rfl, by kernel_rfl, by kernel_rfl, by kernel_rfl, by kernel_rfl, by kernel_rfl, by kernel_rfl, by kernel_rfl, by kernel_rfl, by kernel_rfl, by kernel_rfl, by kernel_rfl, by kernel_rfl, by kernel_rfl, by kernel_rfl, by kernel_rfl, by kernel_rfl, by kernel_rfl, by kernel_rfl, by kernel_rfl, by kernel_rfl, by kernel_rfl, by kernel_rfl, by kernel_rfl, by kernel_rfl, by kernel_rfl, by kernel_rfl⟩

end Go.Proofs.YtmncocmeafcpfaaDoor

/- Drawn regions of a fetch of two shards (laid by scripts/mkra.py). -/
namespace Go.Proofs.YtmncocmeafcpfaaDoor
set_option linter.unusedVariables false
set_option linter.unusedSimpArgs false
open Go.RowKit Go.Deep

theorem fp1_0 (bx f c : Nat) (pb : Option Addr) (ev : Operand → Value) (z : World) (ec : ∀ c, ev (.const c) = c) (e3 : ev (.tmp 3) = .pointer (some ⟨bx, 0, none⟩)) (hS : z.cell? ⟨bx, 0, none⟩ = some (.int .i64 13) ∧ z.cell? ⟨bx, 9, none⟩ = some (.bool true) ∧ z.cell? ⟨bx, 23, none⟩ = some (.slice pb 8 c)) : (execOp ev ⟨some 5, Op.fieldAddr 45 (Operand.tmp 3) 0, 0, "", #[], none⟩).run Tryd.prog z = .ok (.value (.pointer (some ⟨bx, 0, none⟩))) z := by
  obtain ⟨sa, sb, sc⟩ := hS
  go_simp
theorem fp1_1 (bx f c : Nat) (pb : Option Addr) (ev : Operand → Value) (z : World) (ec : ∀ c, ev (.const c) = c) (e5 : ev (.tmp 5) = .pointer (some ⟨bx, 0, none⟩)) (hS : z.cell? ⟨bx, 0, none⟩ = some (.int .i64 13) ∧ z.cell? ⟨bx, 9, none⟩ = some (.bool true) ∧ z.cell? ⟨bx, 23, none⟩ = some (.slice pb 8 c)) : (execOp ev ⟨some 6, Op.load 3 (Operand.tmp 5), 3, "", #[], none⟩).run Tryd.prog z = .ok (.value (.int .i64 13)) z := by
  obtain ⟨sa, sb, sc⟩ := hS
  go_simp
theorem fp1_2 (bx f c : Nat) (pb : Option Addr) (ev : Operand → Value) (z : World) (ec : ∀ c, ev (.const c) = c) (e6 : ev (.tmp 6) = .int .i64 13) (hS : z.cell? ⟨bx, 0, none⟩ = some (.int .i64 13) ∧ z.cell? ⟨bx, 9, none⟩ = some (.bool true) ∧ z.cell? ⟨bx, 23, none⟩ = some (.slice pb 8 c)) : (execOp ev ⟨some 7, Op.binOp BinOp.neq 3 (Operand.tmp 6) (Operand.const (Value.int IntKind.i64 13)) 3, 4, "", #[], none⟩).run Tryd.prog z = .ok (.value (.bool false)) z := by
  obtain ⟨sa, sb, sc⟩ := hS
  go_simp
theorem fp1_3 (bx f c : Nat) (pb : Option Addr) (ev : Operand → Value) (z : World) (ec : ∀ c, ev (.const c) = c) (e7 : ev (.tmp 7) = .bool false) (hS : z.cell? ⟨bx, 0, none⟩ = some (.int .i64 13) ∧ z.cell? ⟨bx, 9, none⟩ = some (.bool true) ∧ z.cell? ⟨bx, 23, none⟩ = some (.slice pb 8 c)) : (execOp ev ⟨some 8, Op.move (Operand.tmp 7), 4, "", #[], none⟩).run Tryd.prog z = .ok (.value (.bool false)) z := by
  obtain ⟨sa, sb, sc⟩ := hS
  go_simp
theorem fp1_4 (bx f c : Nat) (pb : Option Addr) (ev : Operand → Value) (z : World) (ec : ∀ c, ev (.const c) = c) (e3 : ev (.tmp 3) = .pointer (some ⟨bx, 0, none⟩)) (hS : z.cell? ⟨bx, 0, none⟩ = some (.int .i64 13) ∧ z.cell? ⟨bx, 9, none⟩ = some (.bool true) ∧ z.cell? ⟨bx, 23, none⟩ = some (.slice pb 8 c)) : (execOp ev ⟨some 9, Op.fieldAddr 45 (Operand.tmp 3) 9, 0, "", #[], some (3, false)⟩).run Tryd.prog z = .ok (.value (.pointer (some ⟨bx, 9, none⟩))) z := by
  obtain ⟨sa, sb, sc⟩ := hS
  go_simp
theorem fp1_5 (bx f c : Nat) (pb : Option Addr) (ev : Operand → Value) (z : World) (ec : ∀ c, ev (.const c) = c) (e9 : ev (.tmp 9) = .pointer (some ⟨bx, 9, none⟩)) (hS : z.cell? ⟨bx, 0, none⟩ = some (.int .i64 13) ∧ z.cell? ⟨bx, 9, none⟩ = some (.bool true) ∧ z.cell? ⟨bx, 23, none⟩ = some (.slice pb 8 c)) : (execOp ev ⟨some 10, Op.load 4 (Operand.tmp 9), 4, "", #[], some (3, false)⟩).run Tryd.prog z = .ok (.value (.bool true)) z := by
  obtain ⟨sa, sb, sc⟩ := hS
  go_simp
theorem fp1_6 (bx f c : Nat) (pb : Option Addr) (ev : Operand → Value) (z : World) (ec : ∀ c, ev (.const c) = c) (e10 : ev (.tmp 10) = .bool true) (hS : z.cell? ⟨bx, 0, none⟩ = some (.int .i64 13) ∧ z.cell? ⟨bx, 9, none⟩ = some (.bool true) ∧ z.cell? ⟨bx, 23, none⟩ = some (.slice pb 8 c)) : (execOp ev ⟨some 11, Op.unOp UnOp.not 4 (Operand.tmp 10), 4, "", #[], some (3, false)⟩).run Tryd.prog z = .ok (.value (.bool false)) z := by
  obtain ⟨sa, sb, sc⟩ := hS
  go_simp
theorem fp1_7 (bx f c : Nat) (pb : Option Addr) (ev : Operand → Value) (z : World) (ec : ∀ c, ev (.const c) = c) (e8 : ev (.tmp 8) = .bool false) (e11 : ev (.tmp 11) = .bool false) (hS : z.cell? ⟨bx, 0, none⟩ = some (.int .i64 13) ∧ z.cell? ⟨bx, 9, none⟩ = some (.bool true) ∧ z.cell? ⟨bx, 23, none⟩ = some (.slice pb 8 c)) : (execOp ev ⟨some 12, Op.pick (Operand.tmp 8) (Operand.const (Value.bool true)) (Operand.tmp 11), 4, "", #[], none⟩).run Tryd.prog z = .ok (.value (.bool false)) z := by
  obtain ⟨sa, sb, sc⟩ := hS
  go_simp
theorem fp1_8 (bx f c : Nat) (pb : Option Addr) (ev : Operand → Value) (z : World) (ec : ∀ c, ev (.const c) = c) (e12 : ev (.tmp 12) = .bool false) (hS : z.cell? ⟨bx, 0, none⟩ = some (.int .i64 13) ∧ z.cell? ⟨bx, 9, none⟩ = some (.bool true) ∧ z.cell? ⟨bx, 23, none⟩ = some (.slice pb 8 c)) : (execOp ev ⟨some 13, Op.move (Operand.tmp 12), 4, "", #[], none⟩).run Tryd.prog z = .ok (.value (.bool false)) z := by
  obtain ⟨sa, sb, sc⟩ := hS
  go_simp
theorem fp1_9 (bx f c : Nat) (pb : Option Addr) (ev : Operand → Value) (z : World) (ec : ∀ c, ev (.const c) = c) (e3 : ev (.tmp 3) = .pointer (some ⟨bx, 0, none⟩)) (hS : z.cell? ⟨bx, 0, none⟩ = some (.int .i64 13) ∧ z.cell? ⟨bx, 9, none⟩ = some (.bool true) ∧ z.cell? ⟨bx, 23, none⟩ = some (.slice pb 8 c)) : (execOp ev ⟨some 14, Op.fieldAddr 45 (Operand.tmp 3) 12, 0, "", #[], some (8, false)⟩).run Tryd.prog z = .ok (.value (.pointer (some ⟨bx, 23, none⟩))) z := by
  obtain ⟨sa, sb, sc⟩ := hS
  go_simp
theorem fp1_10 (bx f c : Nat) (pb : Option Addr) (ev : Operand → Value) (z : World) (ec : ∀ c, ev (.const c) = c) (e14 : ev (.tmp 14) = .pointer (some ⟨bx, 23, none⟩)) (hS : z.cell? ⟨bx, 0, none⟩ = some (.int .i64 13) ∧ z.cell? ⟨bx, 9, none⟩ = some (.bool true) ∧ z.cell? ⟨bx, 23, none⟩ = some (.slice pb 8 c)) : (execOp ev ⟨some 15, Op.load 22 (Operand.tmp 14), 22, "", #[], some (8, false)⟩).run Tryd.prog z = .ok (.value (.slice pb 8 c)) z := by
  obtain ⟨sa, sb, sc⟩ := hS
  go_simp
theorem fp1_11 (bx f c : Nat) (pb : Option Addr) (ev : Operand → Value) (z : World) (ec : ∀ c, ev (.const c) = c) (e15 : ev (.tmp 15) = .slice pb 8 c) (hS : z.cell? ⟨bx, 0, none⟩ = some (.int .i64 13) ∧ z.cell? ⟨bx, 9, none⟩ = some (.bool true) ∧ z.cell? ⟨bx, 23, none⟩ = some (.slice pb 8 c)) : (execOp ev ⟨some 16, Op.call { callee := Callee.builtin Builtin.len, args := #[Operand.tmp 15], argTypes := #[22] }, 3, "", #[], some (8, false)⟩).run Tryd.prog z = .ok (.value (.int .i64 8)) z := by
  obtain ⟨sa, sb, sc⟩ := hS
  go_simp
theorem fp1_12 (bx f c : Nat) (pb : Option Addr) (ev : Operand → Value) (z : World) (ec : ∀ c, ev (.const c) = c) (e0 : ev (.tmp 0) = .pointer (some ⟨f, 0, none⟩)) (hS : z.cell? ⟨bx, 0, none⟩ = some (.int .i64 13) ∧ z.cell? ⟨bx, 9, none⟩ = some (.bool true) ∧ z.cell? ⟨bx, 23, none⟩ = some (.slice pb 8 c)) : (execOp ev ⟨some 17, Op.move (Operand.tmp 0), 58, "", #[], some (8, false)⟩).run Tryd.prog z = .ok (.value (.pointer (some ⟨f, 0, none⟩))) z := by
  obtain ⟨sa, sb, sc⟩ := hS
  go_simp
set_option maxRecDepth 100000 in
theorem fp1_13 (bx f c : Nat) (pb : Option Addr) (ev : Operand → Value) (z : World) (ec : ∀ c, ev (.const c) = c) (ef : ev (.func 55) = .func (.func 55) #[] #[]) (e17 : ev (.tmp 17) = .pointer (some ⟨f, 0, none⟩)) : (execOp ev ⟨some 18, Op.call { callee := Callee.value (Operand.func 55), args := #[Operand.tmp 17], argTypes := #[58] }, 3, "", #[], some (8, false)⟩).run Tryd.prog z = .ok (.enter 55 #[.pointer (some ⟨f, 0, none⟩)]) z :=
  enter_run _ ef (by simp only [List.map_toArray, List.map_cons, List.map_nil, ec, e17]) (fun _ => by rfl)
theorem fp1_14 (bx f c : Nat) (pb : Option Addr) (ev : Operand → Value) (z : World) (ec : ∀ c, ev (.const c) = c) (e16 : ev (.tmp 16) = .int .i64 8) (e18 : ev (.tmp 18) = .int .i64 8) (hS : z.cell? ⟨bx, 0, none⟩ = some (.int .i64 13) ∧ z.cell? ⟨bx, 9, none⟩ = some (.bool true) ∧ z.cell? ⟨bx, 23, none⟩ = some (.slice pb 8 c)) : (execOp ev ⟨some 19, Op.binOp BinOp.neq 3 (Operand.tmp 16) (Operand.tmp 18) 3, 4, "", #[], some (8, false)⟩).run Tryd.prog z = .ok (.value (.bool false)) z := by
  obtain ⟨sa, sb, sc⟩ := hS
  go_simp
theorem fp1_15 (bx f c : Nat) (pb : Option Addr) (ev : Operand → Value) (z : World) (ec : ∀ c, ev (.const c) = c) (e13 : ev (.tmp 13) = .bool false) (e19 : ev (.tmp 19) = .bool false) (hS : z.cell? ⟨bx, 0, none⟩ = some (.int .i64 13) ∧ z.cell? ⟨bx, 9, none⟩ = some (.bool true) ∧ z.cell? ⟨bx, 23, none⟩ = some (.slice pb 8 c)) : (execOp ev ⟨some 20, Op.pick (Operand.tmp 13) (Operand.const (Value.bool true)) (Operand.tmp 19), 4, "", #[], none⟩).run Tryd.prog z = .ok (.value (.bool false)) z := by
  obtain ⟨sa, sb, sc⟩ := hS
  go_simp
structure fp1R (ops : Array Oper) : Prop where
  size : ops.size = 16
  sel : Region.noSelect ops = true
  o0 : (ops[0]?).map bare = some ⟨some 5, Op.fieldAddr 45 (Operand.tmp 3) 0, 0, "", #[], none⟩
  o1 : (ops[1]?).map bare = some ⟨some 6, Op.load 3 (Operand.tmp 5), 3, "", #[], none⟩
  o2 : (ops[2]?).map bare = some ⟨some 7, Op.binOp BinOp.neq 3 (Operand.tmp 6) (Operand.const (Value.int IntKind.i64 13)) 3, 4, "", #[], none⟩
  o3 : (ops[3]?).map bare = some ⟨some 8, Op.move (Operand.tmp 7), 4, "", #[], none⟩
  o4 : (ops[4]?).map bare = some ⟨some 9, Op.fieldAddr 45 (Operand.tmp 3) 9, 0, "", #[], some (3, false)⟩
  o5 : (ops[5]?).map bare = some ⟨some 10, Op.load 4 (Operand.tmp 9), 4, "", #[], some (3, false)⟩
  o6 : (ops[6]?).map bare = some ⟨some 11, Op.unOp UnOp.not 4 (Operand.tmp 10), 4, "", #[], some (3, false)⟩
  o7 : (ops[7]?).map bare = some ⟨some 12, Op.pick (Operand.tmp 8) (Operand.const (Value.bool true)) (Operand.tmp 11), 4, "", #[], none⟩
  o8 : (ops[8]?).map bare = some ⟨some 13, Op.move (Operand.tmp 12), 4, "", #[], none⟩
  o9 : (ops[9]?).map bare = some ⟨some 14, Op.fieldAddr 45 (Operand.tmp 3) 12, 0, "", #[], some (8, false)⟩
  o10 : (ops[10]?).map bare = some ⟨some 15, Op.load 22 (Operand.tmp 14), 22, "", #[], some (8, false)⟩
  o11 : (ops[11]?).map bare = some ⟨some 16, Op.call { callee := Callee.builtin Builtin.len, args := #[Operand.tmp 15], argTypes := #[22] }, 3, "", #[], some (8, false)⟩
  o12 : (ops[12]?).map bare = some ⟨some 17, Op.move (Operand.tmp 0), 58, "", #[], some (8, false)⟩
  o13 : (ops[13]?).map bare = some ⟨some 18, Op.call { callee := Callee.value (Operand.func 55), args := #[Operand.tmp 17], argTypes := #[58] }, 3, "", #[], some (8, false)⟩
  o14 : (ops[14]?).map bare = some ⟨some 19, Op.binOp BinOp.neq 3 (Operand.tmp 16) (Operand.tmp 18) 3, 4, "", #[], some (8, false)⟩
  o15 : (ops[15]?).map bare = some ⟨some 20, Op.pick (Operand.tmp 13) (Operand.const (Value.bool true)) (Operand.tmp 19), 4, "", #[], none⟩
  may0 : takeB .any ops [0, 1, 2, 3, 4, 5, 6, 7, 8, 9, 10, 11, 12] (Array.replicate 16 false) = true
  r13 : Region.ready .any ops (mark [0, 1, 2, 3, 4, 5, 6, 7, 8, 9, 10, 11, 12] (Array.replicate 16 false)) = [13]
  may1 : takeB .any ops [14, 15] ((mark [0, 1, 2, 3, 4, 5, 6, 7, 8, 9, 10, 11, 12] (Array.replicate 16 false)).setIfInBounds 13 true) = true
  fin : Region.ready .any ops (mark [14, 15] ((mark [0, 1, 2, 3, 4, 5, 6, 7, 8, 9, 10, 11, 12] (Array.replicate 16 false)).setIfInBounds 13 true)) = []

set_option maxRecDepth 100000 in
set_option maxHeartbeats 3200000 in
theorem fp1_region {ops : Array Oper} {id : Nat} {Q : Exit → Act → World → Prop} {a : Act} {y : World} (R : fp1R ops) (bx f c : Nat) (pb : Option Addr)
    (hQ : ∀ d v c a w, Q (.panic c) (a.put d v) w → Q (.panic c) a w) (hsz : a.tmps.size = 63) (e0 : a.eval (.tmp 0) = .pointer (some ⟨f, 0, none⟩)) (e3 : a.eval (.tmp 3) = .pointer (some ⟨bx, 0, none⟩)) (hS0 : (y.drew.cell? ⟨bx, 0, none⟩ = some (.int .i64 13) ∧ y.drew.cell? ⟨bx, 9, none⟩ = some (.bool true) ∧ y.drew.cell? ⟨bx, 23, none⟩ = some (.slice pb 8 c))) (T : World → Prop) (hc : Calls Tryd.prog 55 #[.pointer (some ⟨f, 0, none⟩)] y.drew fun e w9 => e = .returned (.int .i64 8) ∧ (w9.cell? ⟨bx, 0, none⟩ = some (.int .i64 13) ∧ w9.cell? ⟨bx, 9, none⟩ = some (.bool true) ∧ w9.cell? ⟨bx, 23, none⟩ = some (.slice pb 8 c)) ∧ T w9)
    (hK : ∀ w9 : World, T w9 → Q .normal ((((((((((((((((a.put (some 5) (.pointer (some ⟨bx, 0, none⟩))).put (some 6) (.int .i64 13)).put (some 7) (.bool false)).put (some 8) (.bool false)).put (some 9) (.pointer (some ⟨bx, 9, none⟩))).put (some 10) (.bool true)).put (some 11) (.bool false)).put (some 12) (.bool false)).put (some 13) (.bool false)).put (some 14) (.pointer (some ⟨bx, 23, none⟩))).put (some 15) (.slice pb 8 c)).put (some 16) (.int .i64 8)).put (some 17) (.pointer (some ⟨f, 0, none⟩))).put (some 18) (.int .i64 8)).put (some 19) (.bool false)).put (some 20) (.bool false)) w9) : (Code.region id ops true).wp Tryd.prog Q a y := by
  have HR : Hid (fp1R ops) := R
  have hdf : a.defers = a.defers := rfl
  refine wp_region_held_drew (S := (fun z : World => z.cell? ⟨bx, 0, none⟩ = some (.int .i64 13) ∧ z.cell? ⟨bx, 9, none⟩ = some (.bool true) ∧ z.cell? ⟨bx, 23, none⟩ = some (.slice pb 8 c))) (by kernel_rfl) (hS0) (fun hHeld => ?_)
  rw [R.size]
  clear R
  refine wpAnyH_takes HR.out.sel hQ hHeld [0, 1, 2, 3, 4, 5, 6, 7, 8, 9, 10, 11, 12] 3 _ _ HR.out.may0 ?_
  refine wpTake_stepE ⟨some 5, Op.fieldAddr 45 (Operand.tmp 3) 0, 0, "", #[], none⟩ 5 (.pointer (some ⟨bx, 0, none⟩)) HR.out.o0 rfl (by rw [hsz]; decide) (wanted_none rfl) (fun z hS => fp1_0 bx f c pb _ z (fun _ => rfl) e3 hS) ?_
  intro a1 ha1 s1 f1 n1 k1
  replace hsz := s1.trans hsz
  replace hdf := f1.trans hdf
  replace e0 := (k1 0 (by decide)).trans e0
  replace e3 := (k1 3 (by decide)).trans e3
  have e5 := n1
  clear s1 f1 n1 k1
  refine wpTake_stepE ⟨some 6, Op.load 3 (Operand.tmp 5), 3, "", #[], none⟩ 6 (.int .i64 13) HR.out.o1 rfl (by rw [hsz]; decide) (wanted_none rfl) (fun z hS => fp1_1 bx f c pb _ z (fun _ => rfl) e5 hS) ?_
  intro a2 ha2 s1 f1 n1 k1
  replace hsz := s1.trans hsz
  replace hdf := f1.trans hdf
  replace e0 := (k1 0 (by decide)).trans e0
  replace e3 := (k1 3 (by decide)).trans e3
  have e6 := n1
  clear s1 f1 n1 k1
  refine wpTake_stepE ⟨some 7, Op.binOp BinOp.neq 3 (Operand.tmp 6) (Operand.const (Value.int IntKind.i64 13)) 3, 4, "", #[], none⟩ 7 (.bool false) HR.out.o2 rfl (by rw [hsz]; decide) (wanted_none rfl) (fun z hS => fp1_2 bx f c pb _ z (fun _ => rfl) e6 hS) ?_
  intro a3 ha3 s1 f1 n1 k1
  replace hsz := s1.trans hsz
  replace hdf := f1.trans hdf
  replace e0 := (k1 0 (by decide)).trans e0
  replace e3 := (k1 3 (by decide)).trans e3
  have e7 := n1
  clear s1 f1 n1 k1
  refine wpTake_stepE ⟨some 8, Op.move (Operand.tmp 7), 4, "", #[], none⟩ 8 (.bool false) HR.out.o3 rfl (by rw [hsz]; decide) (wanted_none rfl) (fun z hS => fp1_3 bx f c pb _ z (fun _ => rfl) e7 hS) ?_
  intro a4 ha4 s1 f1 n1 k1
  replace hsz := s1.trans hsz
  replace hdf := f1.trans hdf
  replace e0 := (k1 0 (by decide)).trans e0
  replace e3 := (k1 3 (by decide)).trans e3
  have e8 := n1
  clear s1 f1 n1 k1
  refine wpTake_stepE ⟨some 9, Op.fieldAddr 45 (Operand.tmp 3) 9, 0, "", #[], some (3, false)⟩ 9 (.pointer (some ⟨bx, 9, none⟩)) HR.out.o4 rfl (by rw [hsz]; decide) (wanted_some rfl (yielded_of HR.out.o3 rfl e8 (by rw [hsz]; decide))) (fun z hS => fp1_4 bx f c pb _ z (fun _ => rfl) e3 hS) ?_
  intro a5 ha5 s1 f1 n1 k1
  replace hsz := s1.trans hsz
  replace hdf := f1.trans hdf
  replace e0 := (k1 0 (by decide)).trans e0
  replace e3 := (k1 3 (by decide)).trans e3
  replace e8 := (k1 8 (by decide)).trans e8
  have e9 := n1
  clear s1 f1 n1 k1
  refine wpTake_stepE ⟨some 10, Op.load 4 (Operand.tmp 9), 4, "", #[], some (3, false)⟩ 10 (.bool true) HR.out.o5 rfl (by rw [hsz]; decide) (wanted_some rfl (yielded_of HR.out.o3 rfl e8 (by rw [hsz]; decide))) (fun z hS => fp1_5 bx f c pb _ z (fun _ => rfl) e9 hS) ?_
  intro a6 ha6 s1 f1 n1 k1
  replace hsz := s1.trans hsz
  replace hdf := f1.trans hdf
  replace e0 := (k1 0 (by decide)).trans e0
  replace e3 := (k1 3 (by decide)).trans e3
  replace e8 := (k1 8 (by decide)).trans e8
  have e10 := n1
  clear s1 f1 n1 k1
  refine wpTake_stepE ⟨some 11, Op.unOp UnOp.not 4 (Operand.tmp 10), 4, "", #[], some (3, false)⟩ 11 (.bool false) HR.out.o6 rfl (by rw [hsz]; decide) (wanted_some rfl (yielded_of HR.out.o3 rfl e8 (by rw [hsz]; decide))) (fun z hS => fp1_6 bx f c pb _ z (fun _ => rfl) e10 hS) ?_
  intro a7 ha7 s1 f1 n1 k1
  replace hsz := s1.trans hsz
  replace hdf := f1.trans hdf
  replace e0 := (k1 0 (by decide)).trans e0
  replace e3 := (k1 3 (by decide)).trans e3
  replace e8 := (k1 8 (by decide)).trans e8
  have e11 := n1
  clear s1 f1 n1 k1
  refine wpTake_stepE ⟨some 12, Op.pick (Operand.tmp 8) (Operand.const (Value.bool true)) (Operand.tmp 11), 4, "", #[], none⟩ 12 (.bool false) HR.out.o7 rfl (by rw [hsz]; decide) (wanted_none rfl) (fun z hS => fp1_7 bx f c pb _ z (fun _ => rfl) e8 e11 hS) ?_
  intro a8 ha8 s1 f1 n1 k1
  replace hsz := s1.trans hsz
  replace hdf := f1.trans hdf
  replace e0 := (k1 0 (by decide)).trans e0
  replace e3 := (k1 3 (by decide)).trans e3
  have e12 := n1
  clear s1 f1 n1 k1
  refine wpTake_stepE ⟨some 13, Op.move (Operand.tmp 12), 4, "", #[], none⟩ 13 (.bool false) HR.out.o8 rfl (by rw [hsz]; decide) (wanted_none rfl) (fun z hS => fp1_8 bx f c pb _ z (fun _ => rfl) e12 hS) ?_
  intro a9 ha9 s1 f1 n1 k1
  replace hsz := s1.trans hsz
  replace hdf := f1.trans hdf
  replace e0 := (k1 0 (by decide)).trans e0
  replace e3 := (k1 3 (by decide)).trans e3
  have e13 := n1
  clear s1 f1 n1 k1
  refine wpTake_stepE ⟨some 14, Op.fieldAddr 45 (Operand.tmp 3) 12, 0, "", #[], some (8, false)⟩ 14 (.pointer (some ⟨bx, 23, none⟩)) HR.out.o9 rfl (by rw [hsz]; decide) (wanted_some rfl (yielded_of HR.out.o8 rfl e13 (by rw [hsz]; decide))) (fun z hS => fp1_9 bx f c pb _ z (fun _ => rfl) e3 hS) ?_
  intro a10 ha10 s1 f1 n1 k1
  replace hsz := s1.trans hsz
  replace hdf := f1.trans hdf
  replace e0 := (k1 0 (by decide)).trans e0
  replace e3 := (k1 3 (by decide)).trans e3
  replace e13 := (k1 13 (by decide)).trans e13
  have e14 := n1
  clear s1 f1 n1 k1
  refine wpTake_stepE ⟨some 15, Op.load 22 (Operand.tmp 14), 22, "", #[], some (8, false)⟩ 15 (.slice pb 8 c) HR.out.o10 rfl (by rw [hsz]; decide) (wanted_some rfl (yielded_of HR.out.o8 rfl e13 (by rw [hsz]; decide))) (fun z hS => fp1_10 bx f c pb _ z (fun _ => rfl) e14 hS) ?_
  intro a11 ha11 s1 f1 n1 k1
  replace hsz := s1.trans hsz
  replace hdf := f1.trans hdf
  replace e0 := (k1 0 (by decide)).trans e0
  replace e3 := (k1 3 (by decide)).trans e3
  replace e13 := (k1 13 (by decide)).trans e13
  have e15 := n1
  clear s1 f1 n1 k1
  refine wpTake_stepE ⟨some 16, Op.call { callee := Callee.builtin Builtin.len, args := #[Operand.tmp 15], argTypes := #[22] }, 3, "", #[], some (8, false)⟩ 16 (.int .i64 8) HR.out.o11 rfl (by rw [hsz]; decide) (wanted_some rfl (yielded_of HR.out.o8 rfl e13 (by rw [hsz]; decide))) (fun z hS => fp1_11 bx f c pb _ z (fun _ => rfl) e15 hS) ?_
  intro a12 ha12 s1 f1 n1 k1
  replace hsz := s1.trans hsz
  replace hdf := f1.trans hdf
  replace e0 := (k1 0 (by decide)).trans e0
  replace e3 := (k1 3 (by decide)).trans e3
  replace e13 := (k1 13 (by decide)).trans e13
  have e16 := n1
  clear s1 f1 n1 k1
  refine wpTake_stepE ⟨some 17, Op.move (Operand.tmp 0), 58, "", #[], some (8, false)⟩ 17 (.pointer (some ⟨f, 0, none⟩)) HR.out.o12 rfl (by rw [hsz]; decide) (wanted_some rfl (yielded_of HR.out.o8 rfl e13 (by rw [hsz]; decide))) (fun z hS => fp1_12 bx f c pb _ z (fun _ => rfl) e0 hS) ?_
  intro a13 ha13 s1 f1 n1 k1
  replace hsz := s1.trans hsz
  replace hdf := f1.trans hdf
  replace e0 := (k1 0 (by decide)).trans e0
  replace e3 := (k1 3 (by decide)).trans e3
  replace e13 := (k1 13 (by decide)).trans e13
  replace e16 := (k1 16 (by decide)).trans e16
  have e17 := n1
  clear s1 f1 n1 k1
  refine wpTake_nil ?_
  refine wpAnyH_oneG ⟨some 18, Op.call { callee := Callee.value (Operand.func 55), args := #[Operand.tmp 17], argTypes := #[58] }, 3, "", #[], some (8, false)⟩ HR.out.r13 HR.out.o13 (wanted_some rfl (yielded_of HR.out.o8 rfl e13 (by rw [hsz]; decide))) (fun K' hK' => ?_)
  refine wp_enter (fp1_13 bx f c pb _ _ (fun _ => rfl) rfl e17) (hc) ?_
  rintro e9 w9 ⟨rfl, hS9, hT⟩
  refine ⟨_, rfl, hK'.out _ _ (hS9) ?_⟩
  replace hHeld := hS9
  clear hK' K'
  show wpAnyH _ _ _ _ _ _ _ (Act.put a13 (some 18) (.int .i64 8)) _
  obtain ⟨s1, f1, n1, k1⟩ := act_put a13 18 (.int .i64 8) (show 18 < _ by rw [hsz]; decide)
  obtain ⟨a14, ha14⟩ : ∃ x, x = Act.put a13 (some 18) (.int .i64 8) := ⟨_, rfl⟩
  rw [← ha14] at s1 f1 n1 k1 ⊢
  replace hsz := s1.trans hsz
  replace hdf := f1.trans hdf
  replace e0 := (k1 0 (by decide)).trans e0
  replace e3 := (k1 3 (by decide)).trans e3
  replace e13 := (k1 13 (by decide)).trans e13
  replace e16 := (k1 16 (by decide)).trans e16
  have e18 := n1
  clear s1 f1 n1 k1
  refine wpAnyH_takes HR.out.sel hQ hHeld [14, 15] 0 _ _ HR.out.may1 ?_
  refine wpTake_stepE ⟨some 19, Op.binOp BinOp.neq 3 (Operand.tmp 16) (Operand.tmp 18) 3, 4, "", #[], some (8, false)⟩ 19 (.bool false) HR.out.o14 rfl (by rw [hsz]; decide) (wanted_some rfl (yielded_of HR.out.o8 rfl e13 (by rw [hsz]; decide))) (fun z hS => fp1_14 bx f c pb _ z (fun _ => rfl) e16 e18 hS) ?_
  intro a15 ha15 s1 f1 n1 k1
  replace hsz := s1.trans hsz
  replace hdf := f1.trans hdf
  replace e0 := (k1 0 (by decide)).trans e0
  replace e3 := (k1 3 (by decide)).trans e3
  replace e13 := (k1 13 (by decide)).trans e13
  have e19 := n1
  clear s1 f1 n1 k1
  refine wpTake_stepE ⟨some 20, Op.pick (Operand.tmp 13) (Operand.const (Value.bool true)) (Operand.tmp 19), 4, "", #[], none⟩ 20 (.bool false) HR.out.o15 rfl (by rw [hsz]; decide) (wanted_none rfl) (fun z hS => fp1_15 bx f c pb _ z (fun _ => rfl) e13 e19 hS) ?_
  intro a16 ha16 s1 f1 n1 k1
  replace hsz := s1.trans hsz
  replace hdf := f1.trans hdf
  replace e0 := (k1 0 (by decide)).trans e0
  replace e3 := (k1 3 (by decide)).trans e3
  clear s1 f1 n1 k1
  refine wpTake_nil ?_
  refine wpAnyH_done HR.out.fin ?_ _
  rw [ha16, ha15, ha14, ha13, ha12, ha11, ha10, ha9, ha8, ha7, ha6, ha5, ha4, ha3, ha2, ha1]
  exact hK _ hT
-- fp1: ⟨by kernel_rfl, by kernel_rfl, by kernel_rfl, by kernel_rfl, by kernel_rfl, by kernel_rfl, by kernel_rfl, by kernel_rfl, by kernel_rfl, by kernel_rfl, by kernel_rfl, by kernel_rfl, by kernel_rfl, by kernel_rfl, by kernel_rfl, by kernel_rfl, by kernel_rfl, by kernel_rfl, by kernel_rfl, by kernel_rfl, by kernel_rfl, by kernel_rfl⟩

theorem fp3_0 (bx f g q oq cq : Nat) (mv : Array Value) (ev : Operand → Value) (z : World) (ec : ∀ c, ev (.const c) = c) (e3 : ev (.tmp 3) = .pointer (some ⟨bx, 0, none⟩)) (hS : (loadVar 45 ⟨bx, 0, none⟩).run Tryd.prog z = .ok (.agg mv) z ∧ z.cell? ⟨bx, 6, none⟩ = some (.int .i64 0) ∧ z.cell? ⟨f, 0, none⟩ = some (.int .i64 4) ∧ z.cell? ⟨f, 5, none⟩ = some (.slice (some ⟨q, oq, none⟩) 2 cq) ∧ z.cell? ⟨f, 6, none⟩ = some (.slice (some ⟨g, 0, none⟩) 2 2) ∧ z.cell? ⟨g, 0, none⟩ = some (.slice none 0 0)) : (execOp ev ⟨some 21, Op.load 45 (Operand.tmp 3), 45, "", #[], none⟩).run Tryd.prog z = .ok (.value (.agg mv)) z := by
  exact exec_ldC e3 hS.1
theorem fp3_1 (bx f g q oq cq : Nat) (mv : Array Value) (ev : Operand → Value) (z : World) (ec : ∀ c, ev (.const c) = c) (e0 : ev (.tmp 0) = .pointer (some ⟨f, 0, none⟩)) (hS : (loadVar 45 ⟨bx, 0, none⟩).run Tryd.prog z = .ok (.agg mv) z ∧ z.cell? ⟨bx, 6, none⟩ = some (.int .i64 0) ∧ z.cell? ⟨f, 0, none⟩ = some (.int .i64 4) ∧ z.cell? ⟨f, 5, none⟩ = some (.slice (some ⟨q, oq, none⟩) 2 cq) ∧ z.cell? ⟨f, 6, none⟩ = some (.slice (some ⟨g, 0, none⟩) 2 2) ∧ z.cell? ⟨g, 0, none⟩ = some (.slice none 0 0)) : (execOp ev ⟨some 22, Op.move (Operand.tmp 0), 58, "", #[], none⟩).run Tryd.prog z = .ok (.value (.pointer (some ⟨f, 0, none⟩))) z := by
  obtain ⟨sl, s6, s0, s5, s6f, sg⟩ := hS
  go_simp
theorem fp3_2 (bx f g q oq cq : Nat) (mv : Array Value) (ev : Operand → Value) (z : World) (ec : ∀ c, ev (.const c) = c) (e22 : ev (.tmp 22) = .pointer (some ⟨f, 0, none⟩)) (hS : (loadVar 45 ⟨bx, 0, none⟩).run Tryd.prog z = .ok (.agg mv) z ∧ z.cell? ⟨bx, 6, none⟩ = some (.int .i64 0) ∧ z.cell? ⟨f, 0, none⟩ = some (.int .i64 4) ∧ z.cell? ⟨f, 5, none⟩ = some (.slice (some ⟨q, oq, none⟩) 2 cq) ∧ z.cell? ⟨f, 6, none⟩ = some (.slice (some ⟨g, 0, none⟩) 2 2) ∧ z.cell? ⟨g, 0, none⟩ = some (.slice none 0 0)) : (execOp ev ⟨some 23, Op.nilCheck (Operand.tmp 22), 0, "", #[], none⟩).run Tryd.prog z = .ok (.value (.pointer (some ⟨f, 0, none⟩))) z := by
  obtain ⟨sl, s6, s0, s5, s6f, sg⟩ := hS
  go_simp
theorem fp3_3 (bx f g q oq cq : Nat) (mv : Array Value) (ev : Operand → Value) (z : World) (ec : ∀ c, ev (.const c) = c) (e23 : ev (.tmp 23) = .pointer (some ⟨f, 0, none⟩)) (hS : (loadVar 45 ⟨bx, 0, none⟩).run Tryd.prog z = .ok (.agg mv) z ∧ z.cell? ⟨bx, 6, none⟩ = some (.int .i64 0) ∧ z.cell? ⟨f, 0, none⟩ = some (.int .i64 4) ∧ z.cell? ⟨f, 5, none⟩ = some (.slice (some ⟨q, oq, none⟩) 2 cq) ∧ z.cell? ⟨f, 6, none⟩ = some (.slice (some ⟨g, 0, none⟩) 2 2) ∧ z.cell? ⟨g, 0, none⟩ = some (.slice none 0 0)) : (execOp ev ⟨some 24, Op.fieldAddr 143 (Operand.tmp 23) 0, 0, "", #[], none⟩).run Tryd.prog z = .ok (.value (.pointer (some ⟨f, 0, none⟩))) z := by
  obtain ⟨sl, s6, s0, s5, s6f, sg⟩ := hS
  go_simp
theorem fp3_4 (bx f g q oq cq : Nat) (mv : Array Value) (ev : Operand → Value) (z : World) (ec : ∀ c, ev (.const c) = c) (e24 : ev (.tmp 24) = .pointer (some ⟨f, 0, none⟩)) (hS : (loadVar 45 ⟨bx, 0, none⟩).run Tryd.prog z = .ok (.agg mv) z ∧ z.cell? ⟨bx, 6, none⟩ = some (.int .i64 0) ∧ z.cell? ⟨f, 0, none⟩ = some (.int .i64 4) ∧ z.cell? ⟨f, 5, none⟩ = some (.slice (some ⟨q, oq, none⟩) 2 cq) ∧ z.cell? ⟨f, 6, none⟩ = some (.slice (some ⟨g, 0, none⟩) 2 2) ∧ z.cell? ⟨g, 0, none⟩ = some (.slice none 0 0)) : (execOp ev ⟨some 25, Op.fieldAddr 33 (Operand.tmp 24) 0, 0, "", #[], none⟩).run Tryd.prog z = .ok (.value (.pointer (some ⟨f, 0, none⟩))) z := by
  obtain ⟨sl, s6, s0, s5, s6f, sg⟩ := hS
  go_simp
theorem fp3_5 (bx f g q oq cq : Nat) (mv : Array Value) (ev : Operand → Value) (z : World) (ec : ∀ c, ev (.const c) = c) (e25 : ev (.tmp 25) = .pointer (some ⟨f, 0, none⟩)) (hS : (loadVar 45 ⟨bx, 0, none⟩).run Tryd.prog z = .ok (.agg mv) z ∧ z.cell? ⟨bx, 6, none⟩ = some (.int .i64 0) ∧ z.cell? ⟨f, 0, none⟩ = some (.int .i64 4) ∧ z.cell? ⟨f, 5, none⟩ = some (.slice (some ⟨q, oq, none⟩) 2 cq) ∧ z.cell? ⟨f, 6, none⟩ = some (.slice (some ⟨g, 0, none⟩) 2 2) ∧ z.cell? ⟨g, 0, none⟩ = some (.slice none 0 0)) : (execOp ev ⟨some 26, Op.load 3 (Operand.tmp 25), 3, "", #[], none⟩).run Tryd.prog z = .ok (.value (.int .i64 4)) z := by
  obtain ⟨sl, s6, s0, s5, s6f, sg⟩ := hS
  go_simp
theorem fp3_6 (bx f g q oq cq : Nat) (mv : Array Value) (ev : Operand → Value) (z : World) (ec : ∀ c, ev (.const c) = c) (e0 : ev (.tmp 0) = .pointer (some ⟨f, 0, none⟩)) (hS : (loadVar 45 ⟨bx, 0, none⟩).run Tryd.prog z = .ok (.agg mv) z ∧ z.cell? ⟨bx, 6, none⟩ = some (.int .i64 0) ∧ z.cell? ⟨f, 0, none⟩ = some (.int .i64 4) ∧ z.cell? ⟨f, 5, none⟩ = some (.slice (some ⟨q, oq, none⟩) 2 cq) ∧ z.cell? ⟨f, 6, none⟩ = some (.slice (some ⟨g, 0, none⟩) 2 2) ∧ z.cell? ⟨g, 0, none⟩ = some (.slice none 0 0)) : (execOp ev ⟨some 27, Op.move (Operand.tmp 0), 58, "", #[], none⟩).run Tryd.prog z = .ok (.value (.pointer (some ⟨f, 0, none⟩))) z := by
  obtain ⟨sl, s6, s0, s5, s6f, sg⟩ := hS
  go_simp
theorem fp3_7 (bx f g q oq cq : Nat) (mv : Array Value) (ev : Operand → Value) (z : World) (ec : ∀ c, ev (.const c) = c) (e27 : ev (.tmp 27) = .pointer (some ⟨f, 0, none⟩)) (hS : (loadVar 45 ⟨bx, 0, none⟩).run Tryd.prog z = .ok (.agg mv) z ∧ z.cell? ⟨bx, 6, none⟩ = some (.int .i64 0) ∧ z.cell? ⟨f, 0, none⟩ = some (.int .i64 4) ∧ z.cell? ⟨f, 5, none⟩ = some (.slice (some ⟨q, oq, none⟩) 2 cq) ∧ z.cell? ⟨f, 6, none⟩ = some (.slice (some ⟨g, 0, none⟩) 2 2) ∧ z.cell? ⟨g, 0, none⟩ = some (.slice none 0 0)) : (execOp ev ⟨some 28, Op.nilCheck (Operand.tmp 27), 0, "", #[], none⟩).run Tryd.prog z = .ok (.value (.pointer (some ⟨f, 0, none⟩))) z := by
  obtain ⟨sl, s6, s0, s5, s6f, sg⟩ := hS
  go_simp
theorem fp3_8 (bx f g q oq cq : Nat) (mv : Array Value) (ev : Operand → Value) (z : World) (ec : ∀ c, ev (.const c) = c) (e28 : ev (.tmp 28) = .pointer (some ⟨f, 0, none⟩)) (hS : (loadVar 45 ⟨bx, 0, none⟩).run Tryd.prog z = .ok (.agg mv) z ∧ z.cell? ⟨bx, 6, none⟩ = some (.int .i64 0) ∧ z.cell? ⟨f, 0, none⟩ = some (.int .i64 4) ∧ z.cell? ⟨f, 5, none⟩ = some (.slice (some ⟨q, oq, none⟩) 2 cq) ∧ z.cell? ⟨f, 6, none⟩ = some (.slice (some ⟨g, 0, none⟩) 2 2) ∧ z.cell? ⟨g, 0, none⟩ = some (.slice none 0 0)) : (execOp ev ⟨some 29, Op.fieldAddr 143 (Operand.tmp 28) 0, 0, "", #[], none⟩).run Tryd.prog z = .ok (.value (.pointer (some ⟨f, 0, none⟩))) z := by
  obtain ⟨sl, s6, s0, s5, s6f, sg⟩ := hS
  go_simp
theorem fp3_9 (bx f g q oq cq : Nat) (mv : Array Value) (ev : Operand → Value) (z : World) (ec : ∀ c, ev (.const c) = c) (e29 : ev (.tmp 29) = .pointer (some ⟨f, 0, none⟩)) (hS : (loadVar 45 ⟨bx, 0, none⟩).run Tryd.prog z = .ok (.agg mv) z ∧ z.cell? ⟨bx, 6, none⟩ = some (.int .i64 0) ∧ z.cell? ⟨f, 0, none⟩ = some (.int .i64 4) ∧ z.cell? ⟨f, 5, none⟩ = some (.slice (some ⟨q, oq, none⟩) 2 cq) ∧ z.cell? ⟨f, 6, none⟩ = some (.slice (some ⟨g, 0, none⟩) 2 2) ∧ z.cell? ⟨g, 0, none⟩ = some (.slice none 0 0)) : (execOp ev ⟨some 30, Op.fieldAddr 33 (Operand.tmp 29) 4, 0, "", #[], none⟩).run Tryd.prog z = .ok (.value (.pointer (some ⟨f, 5, none⟩))) z := by
  obtain ⟨sl, s6, s0, s5, s6f, sg⟩ := hS
  go_simp
theorem fp3_10 (bx f g q oq cq : Nat) (mv : Array Value) (ev : Operand → Value) (z : World) (ec : ∀ c, ev (.const c) = c) (e30 : ev (.tmp 30) = .pointer (some ⟨f, 5, none⟩)) (hS : (loadVar 45 ⟨bx, 0, none⟩).run Tryd.prog z = .ok (.agg mv) z ∧ z.cell? ⟨bx, 6, none⟩ = some (.int .i64 0) ∧ z.cell? ⟨f, 0, none⟩ = some (.int .i64 4) ∧ z.cell? ⟨f, 5, none⟩ = some (.slice (some ⟨q, oq, none⟩) 2 cq) ∧ z.cell? ⟨f, 6, none⟩ = some (.slice (some ⟨g, 0, none⟩) 2 2) ∧ z.cell? ⟨g, 0, none⟩ = some (.slice none 0 0)) : (execOp ev ⟨some 31, Op.load 23 (Operand.tmp 30), 23, "", #[], none⟩).run Tryd.prog z = .ok (.value (.slice (some ⟨q, oq, none⟩) 2 cq)) z := by
  obtain ⟨sl, s6, s0, s5, s6f, sg⟩ := hS
  go_simp
set_option maxRecDepth 100000 in
theorem fp3_11 (bx f g q oq cq : Nat) (mv : Array Value) (ev : Operand → Value) (z : World) (ec : ∀ c, ev (.const c) = c) (ef : ev (.func 96) = .func (.func 96) #[] #[]) (e21 : ev (.tmp 21) = .agg mv) (e26 : ev (.tmp 26) = .int .i64 4) (e31 : ev (.tmp 31) = .slice (some ⟨q, oq, none⟩) 2 cq) : (execOp ev ⟨some 32, Op.call { callee := Callee.value (Operand.func 96), args := #[Operand.tmp 21, Operand.tmp 26, Operand.tmp 31], argTypes := #[45, 3, 23] }, 4, "", #[], none⟩).run Tryd.prog z = .ok (.enter 96 #[.agg mv, .int .i64 4, .slice (some ⟨q, oq, none⟩) 2 cq]) z :=
  enter_run _ ef (by simp only [List.map_toArray, List.map_cons, List.map_nil, ec, e21, e26, e31]) (fun _ => by rfl)
theorem fp3_12 (bx f g q oq cq : Nat) (mv : Array Value) (ev : Operand → Value) (z : World) (ec : ∀ c, ev (.const c) = c) (e32 : ev (.tmp 32) = .bool true) (hS : (loadVar 45 ⟨bx, 0, none⟩).run Tryd.prog z = .ok (.agg mv) z ∧ z.cell? ⟨bx, 6, none⟩ = some (.int .i64 0) ∧ z.cell? ⟨f, 0, none⟩ = some (.int .i64 4) ∧ z.cell? ⟨f, 5, none⟩ = some (.slice (some ⟨q, oq, none⟩) 2 cq) ∧ z.cell? ⟨f, 6, none⟩ = some (.slice (some ⟨g, 0, none⟩) 2 2) ∧ z.cell? ⟨g, 0, none⟩ = some (.slice none 0 0)) : (execOp ev ⟨some 33, Op.unOp UnOp.not 4 (Operand.tmp 32), 4, "", #[], none⟩).run Tryd.prog z = .ok (.value (.bool false)) z := by
  obtain ⟨sl, s6, s0, s5, s6f, sg⟩ := hS
  go_simp
theorem fp3_13 (bx f g q oq cq : Nat) (mv : Array Value) (ev : Operand → Value) (z : World) (ec : ∀ c, ev (.const c) = c) (e33 : ev (.tmp 33) = .bool false) (hS : (loadVar 45 ⟨bx, 0, none⟩).run Tryd.prog z = .ok (.agg mv) z ∧ z.cell? ⟨bx, 6, none⟩ = some (.int .i64 0) ∧ z.cell? ⟨f, 0, none⟩ = some (.int .i64 4) ∧ z.cell? ⟨f, 5, none⟩ = some (.slice (some ⟨q, oq, none⟩) 2 cq) ∧ z.cell? ⟨f, 6, none⟩ = some (.slice (some ⟨g, 0, none⟩) 2 2) ∧ z.cell? ⟨g, 0, none⟩ = some (.slice none 0 0)) : (execOp ev ⟨some 34, Op.move (Operand.tmp 33), 4, "", #[], none⟩).run Tryd.prog z = .ok (.value (.bool false)) z := by
  obtain ⟨sl, s6, s0, s5, s6f, sg⟩ := hS
  go_simp
theorem fp3_14 (bx f g q oq cq : Nat) (mv : Array Value) (ev : Operand → Value) (z : World) (ec : ∀ c, ev (.const c) = c) (e0 : ev (.tmp 0) = .pointer (some ⟨f, 0, none⟩)) (hS : (loadVar 45 ⟨bx, 0, none⟩).run Tryd.prog z = .ok (.agg mv) z ∧ z.cell? ⟨bx, 6, none⟩ = some (.int .i64 0) ∧ z.cell? ⟨f, 0, none⟩ = some (.int .i64 4) ∧ z.cell? ⟨f, 5, none⟩ = some (.slice (some ⟨q, oq, none⟩) 2 cq) ∧ z.cell? ⟨f, 6, none⟩ = some (.slice (some ⟨g, 0, none⟩) 2 2) ∧ z.cell? ⟨g, 0, none⟩ = some (.slice none 0 0)) : (execOp ev ⟨some 35, Op.move (Operand.tmp 0), 58, "", #[], some (13, false)⟩).run Tryd.prog z = .ok (.value (.pointer (some ⟨f, 0, none⟩))) z := by
  obtain ⟨sl, s6, s0, s5, s6f, sg⟩ := hS
  go_simp
theorem fp3_15 (bx f g q oq cq : Nat) (mv : Array Value) (ev : Operand → Value) (z : World) (ec : ∀ c, ev (.const c) = c) (e35 : ev (.tmp 35) = .pointer (some ⟨f, 0, none⟩)) (hS : (loadVar 45 ⟨bx, 0, none⟩).run Tryd.prog z = .ok (.agg mv) z ∧ z.cell? ⟨bx, 6, none⟩ = some (.int .i64 0) ∧ z.cell? ⟨f, 0, none⟩ = some (.int .i64 4) ∧ z.cell? ⟨f, 5, none⟩ = some (.slice (some ⟨q, oq, none⟩) 2 cq) ∧ z.cell? ⟨f, 6, none⟩ = some (.slice (some ⟨g, 0, none⟩) 2 2) ∧ z.cell? ⟨g, 0, none⟩ = some (.slice none 0 0)) : (execOp ev ⟨some 36, Op.nilCheck (Operand.tmp 35), 0, "", #[], some (13, false)⟩).run Tryd.prog z = .ok (.value (.pointer (some ⟨f, 0, none⟩))) z := by
  obtain ⟨sl, s6, s0, s5, s6f, sg⟩ := hS
  go_simp
theorem fp3_16 (bx f g q oq cq : Nat) (mv : Array Value) (ev : Operand → Value) (z : World) (ec : ∀ c, ev (.const c) = c) (e36 : ev (.tmp 36) = .pointer (some ⟨f, 0, none⟩)) (hS : (loadVar 45 ⟨bx, 0, none⟩).run Tryd.prog z = .ok (.agg mv) z ∧ z.cell? ⟨bx, 6, none⟩ = some (.int .i64 0) ∧ z.cell? ⟨f, 0, none⟩ = some (.int .i64 4) ∧ z.cell? ⟨f, 5, none⟩ = some (.slice (some ⟨q, oq, none⟩) 2 cq) ∧ z.cell? ⟨f, 6, none⟩ = some (.slice (some ⟨g, 0, none⟩) 2 2) ∧ z.cell? ⟨g, 0, none⟩ = some (.slice none 0 0)) : (execOp ev ⟨some 37, Op.fieldAddr 143 (Operand.tmp 36) 1, 0, "", #[], some (13, false)⟩).run Tryd.prog z = .ok (.value (.pointer (some ⟨f, 6, none⟩))) z := by
  obtain ⟨sl, s6, s0, s5, s6f, sg⟩ := hS
  go_simp
theorem fp3_17 (bx f g q oq cq : Nat) (mv : Array Value) (ev : Operand → Value) (z : World) (ec : ∀ c, ev (.const c) = c) (e37 : ev (.tmp 37) = .pointer (some ⟨f, 6, none⟩)) (hS : (loadVar 45 ⟨bx, 0, none⟩).run Tryd.prog z = .ok (.agg mv) z ∧ z.cell? ⟨bx, 6, none⟩ = some (.int .i64 0) ∧ z.cell? ⟨f, 0, none⟩ = some (.int .i64 4) ∧ z.cell? ⟨f, 5, none⟩ = some (.slice (some ⟨q, oq, none⟩) 2 cq) ∧ z.cell? ⟨f, 6, none⟩ = some (.slice (some ⟨g, 0, none⟩) 2 2) ∧ z.cell? ⟨g, 0, none⟩ = some (.slice none 0 0)) : (execOp ev ⟨some 38, Op.load 27 (Operand.tmp 37), 27, "", #[], some (13, false)⟩).run Tryd.prog z = .ok (.value (.slice (some ⟨g, 0, none⟩) 2 2)) z := by
  obtain ⟨sl, s6, s0, s5, s6f, sg⟩ := hS
  go_simp
theorem fp3_18 (bx f g q oq cq : Nat) (mv : Array Value) (ev : Operand → Value) (z : World) (ec : ∀ c, ev (.const c) = c) (e3 : ev (.tmp 3) = .pointer (some ⟨bx, 0, none⟩)) (hS : (loadVar 45 ⟨bx, 0, none⟩).run Tryd.prog z = .ok (.agg mv) z ∧ z.cell? ⟨bx, 6, none⟩ = some (.int .i64 0) ∧ z.cell? ⟨f, 0, none⟩ = some (.int .i64 4) ∧ z.cell? ⟨f, 5, none⟩ = some (.slice (some ⟨q, oq, none⟩) 2 cq) ∧ z.cell? ⟨f, 6, none⟩ = some (.slice (some ⟨g, 0, none⟩) 2 2) ∧ z.cell? ⟨g, 0, none⟩ = some (.slice none 0 0)) : (execOp ev ⟨some 39, Op.fieldAddr 45 (Operand.tmp 3) 6, 0, "", #[], some (13, false)⟩).run Tryd.prog z = .ok (.value (.pointer (some ⟨bx, 6, none⟩))) z := by
  obtain ⟨sl, s6, s0, s5, s6f, sg⟩ := hS
  go_simp
theorem fp3_19 (bx f g q oq cq : Nat) (mv : Array Value) (ev : Operand → Value) (z : World) (ec : ∀ c, ev (.const c) = c) (e39 : ev (.tmp 39) = .pointer (some ⟨bx, 6, none⟩)) (hS : (loadVar 45 ⟨bx, 0, none⟩).run Tryd.prog z = .ok (.agg mv) z ∧ z.cell? ⟨bx, 6, none⟩ = some (.int .i64 0) ∧ z.cell? ⟨f, 0, none⟩ = some (.int .i64 4) ∧ z.cell? ⟨f, 5, none⟩ = some (.slice (some ⟨q, oq, none⟩) 2 cq) ∧ z.cell? ⟨f, 6, none⟩ = some (.slice (some ⟨g, 0, none⟩) 2 2) ∧ z.cell? ⟨g, 0, none⟩ = some (.slice none 0 0)) : (execOp ev ⟨some 40, Op.load 3 (Operand.tmp 39), 3, "", #[], some (13, false)⟩).run Tryd.prog z = .ok (.value (.int .i64 0)) z := by
  obtain ⟨sl, s6, s0, s5, s6f, sg⟩ := hS
  go_simp
theorem fp3_20 (bx f g q oq cq : Nat) (mv : Array Value) (ev : Operand → Value) (z : World) (ec : ∀ c, ev (.const c) = c) (e38 : ev (.tmp 38) = .slice (some ⟨g, 0, none⟩) 2 2) (e40 : ev (.tmp 40) = .int .i64 0) (hS : (loadVar 45 ⟨bx, 0, none⟩).run Tryd.prog z = .ok (.agg mv) z ∧ z.cell? ⟨bx, 6, none⟩ = some (.int .i64 0) ∧ z.cell? ⟨f, 0, none⟩ = some (.int .i64 4) ∧ z.cell? ⟨f, 5, none⟩ = some (.slice (some ⟨q, oq, none⟩) 2 cq) ∧ z.cell? ⟨f, 6, none⟩ = some (.slice (some ⟨g, 0, none⟩) 2 2) ∧ z.cell? ⟨g, 0, none⟩ = some (.slice none 0 0)) : (execOp ev ⟨some 41, Op.indexAddr 27 (Operand.tmp 38) (Operand.tmp 40), 0, "", #[], some (13, false)⟩).run Tryd.prog z = .ok (.value (.pointer (some ⟨g, 0, none⟩))) z := by
  obtain ⟨sl, s6, s0, s5, s6f, sg⟩ := hS
  go_simp
theorem fp3_21 (bx f g q oq cq : Nat) (mv : Array Value) (ev : Operand → Value) (z : World) (ec : ∀ c, ev (.const c) = c) (e41 : ev (.tmp 41) = .pointer (some ⟨g, 0, none⟩)) (hS : (loadVar 45 ⟨bx, 0, none⟩).run Tryd.prog z = .ok (.agg mv) z ∧ z.cell? ⟨bx, 6, none⟩ = some (.int .i64 0) ∧ z.cell? ⟨f, 0, none⟩ = some (.int .i64 4) ∧ z.cell? ⟨f, 5, none⟩ = some (.slice (some ⟨q, oq, none⟩) 2 cq) ∧ z.cell? ⟨f, 6, none⟩ = some (.slice (some ⟨g, 0, none⟩) 2 2) ∧ z.cell? ⟨g, 0, none⟩ = some (.slice none 0 0)) : (execOp ev ⟨some 42, Op.load 22 (Operand.tmp 41), 22, "", #[], some (13, false)⟩).run Tryd.prog z = .ok (.value (.slice none 0 0)) z := by
  obtain ⟨sl, s6, s0, s5, s6f, sg⟩ := hS
  go_simp
theorem fp3_22 (bx f g q oq cq : Nat) (mv : Array Value) (ev : Operand → Value) (z : World) (ec : ∀ c, ev (.const c) = c) (e42 : ev (.tmp 42) = .slice none 0 0) (hS : (loadVar 45 ⟨bx, 0, none⟩).run Tryd.prog z = .ok (.agg mv) z ∧ z.cell? ⟨bx, 6, none⟩ = some (.int .i64 0) ∧ z.cell? ⟨f, 0, none⟩ = some (.int .i64 4) ∧ z.cell? ⟨f, 5, none⟩ = some (.slice (some ⟨q, oq, none⟩) 2 cq) ∧ z.cell? ⟨f, 6, none⟩ = some (.slice (some ⟨g, 0, none⟩) 2 2) ∧ z.cell? ⟨g, 0, none⟩ = some (.slice none 0 0)) : (execOp ev ⟨some 43, Op.call { callee := Callee.builtin Builtin.len, args := #[Operand.tmp 42], argTypes := #[22] }, 3, "", #[], some (13, false)⟩).run Tryd.prog z = .ok (.value (.int .i64 0)) z := by
  obtain ⟨sl, s6, s0, s5, s6f, sg⟩ := hS
  go_simp
theorem fp3_23 (bx f g q oq cq : Nat) (mv : Array Value) (ev : Operand → Value) (z : World) (ec : ∀ c, ev (.const c) = c) (e43 : ev (.tmp 43) = .int .i64 0) (hS : (loadVar 45 ⟨bx, 0, none⟩).run Tryd.prog z = .ok (.agg mv) z ∧ z.cell? ⟨bx, 6, none⟩ = some (.int .i64 0) ∧ z.cell? ⟨f, 0, none⟩ = some (.int .i64 4) ∧ z.cell? ⟨f, 5, none⟩ = some (.slice (some ⟨q, oq, none⟩) 2 cq) ∧ z.cell? ⟨f, 6, none⟩ = some (.slice (some ⟨g, 0, none⟩) 2 2) ∧ z.cell? ⟨g, 0, none⟩ = some (.slice none 0 0)) : (execOp ev ⟨some 44, Op.binOp BinOp.gtr 3 (Operand.tmp 43) (Operand.const (Value.int IntKind.i64 0)) 3, 4, "", #[], some (13, false)⟩).run Tryd.prog z = .ok (.value (.bool false)) z := by
  obtain ⟨sl, s6, s0, s5, s6f, sg⟩ := hS
  go_simp
theorem fp3_24 (bx f g q oq cq : Nat) (mv : Array Value) (ev : Operand → Value) (z : World) (ec : ∀ c, ev (.const c) = c) (e34 : ev (.tmp 34) = .bool false) (e44 : ev (.tmp 44) = .bool false) (hS : (loadVar 45 ⟨bx, 0, none⟩).run Tryd.prog z = .ok (.agg mv) z ∧ z.cell? ⟨bx, 6, none⟩ = some (.int .i64 0) ∧ z.cell? ⟨f, 0, none⟩ = some (.int .i64 4) ∧ z.cell? ⟨f, 5, none⟩ = some (.slice (some ⟨q, oq, none⟩) 2 cq) ∧ z.cell? ⟨f, 6, none⟩ = some (.slice (some ⟨g, 0, none⟩) 2 2) ∧ z.cell? ⟨g, 0, none⟩ = some (.slice none 0 0)) : (execOp ev ⟨some 45, Op.pick (Operand.tmp 34) (Operand.const (Value.bool true)) (Operand.tmp 44), 4, "", #[], none⟩).run Tryd.prog z = .ok (.value (.bool false)) z := by
  obtain ⟨sl, s6, s0, s5, s6f, sg⟩ := hS
  go_simp
structure fp3R (ops : Array Oper) : Prop where
  size : ops.size = 25
  sel : Region.noSelect ops = true
  o0 : (ops[0]?).map bare = some ⟨some 21, Op.load 45 (Operand.tmp 3), 45, "", #[], none⟩
  o1 : (ops[1]?).map bare = some ⟨some 22, Op.move (Operand.tmp 0), 58, "", #[], none⟩
  o2 : (ops[2]?).map bare = some ⟨some 23, Op.nilCheck (Operand.tmp 22), 0, "", #[], none⟩
  o3 : (ops[3]?).map bare = some ⟨some 24, Op.fieldAddr 143 (Operand.tmp 23) 0, 0, "", #[], none⟩
  o4 : (ops[4]?).map bare = some ⟨some 25, Op.fieldAddr 33 (Operand.tmp 24) 0, 0, "", #[], none⟩
  o5 : (ops[5]?).map bare = some ⟨some 26, Op.load 3 (Operand.tmp 25), 3, "", #[], none⟩
  o6 : (ops[6]?).map bare = some ⟨some 27, Op.move (Operand.tmp 0), 58, "", #[], none⟩
  o7 : (ops[7]?).map bare = some ⟨some 28, Op.nilCheck (Operand.tmp 27), 0, "", #[], none⟩
  o8 : (ops[8]?).map bare = some ⟨some 29, Op.fieldAddr 143 (Operand.tmp 28) 0, 0, "", #[], none⟩
  o9 : (ops[9]?).map bare = some ⟨some 30, Op.fieldAddr 33 (Operand.tmp 29) 4, 0, "", #[], none⟩
  o10 : (ops[10]?).map bare = some ⟨some 31, Op.load 23 (Operand.tmp 30), 23, "", #[], none⟩
  o11 : (ops[11]?).map bare = some ⟨some 32, Op.call { callee := Callee.value (Operand.func 96), args := #[Operand.tmp 21, Operand.tmp 26, Operand.tmp 31], argTypes := #[45, 3, 23] }, 4, "", #[], none⟩
  o12 : (ops[12]?).map bare = some ⟨some 33, Op.unOp UnOp.not 4 (Operand.tmp 32), 4, "", #[], none⟩
  o13 : (ops[13]?).map bare = some ⟨some 34, Op.move (Operand.tmp 33), 4, "", #[], none⟩
  o14 : (ops[14]?).map bare = some ⟨some 35, Op.move (Operand.tmp 0), 58, "", #[], some (13, false)⟩
  o15 : (ops[15]?).map bare = some ⟨some 36, Op.nilCheck (Operand.tmp 35), 0, "", #[], some (13, false)⟩
  o16 : (ops[16]?).map bare = some ⟨some 37, Op.fieldAddr 143 (Operand.tmp 36) 1, 0, "", #[], some (13, false)⟩
  o17 : (ops[17]?).map bare = some ⟨some 38, Op.load 27 (Operand.tmp 37), 27, "", #[], some (13, false)⟩
  o18 : (ops[18]?).map bare = some ⟨some 39, Op.fieldAddr 45 (Operand.tmp 3) 6, 0, "", #[], some (13, false)⟩
  o19 : (ops[19]?).map bare = some ⟨some 40, Op.load 3 (Operand.tmp 39), 3, "", #[], some (13, false)⟩
  o20 : (ops[20]?).map bare = some ⟨some 41, Op.indexAddr 27 (Operand.tmp 38) (Operand.tmp 40), 0, "", #[], some (13, false)⟩
  o21 : (ops[21]?).map bare = some ⟨some 42, Op.load 22 (Operand.tmp 41), 22, "", #[], some (13, false)⟩
  o22 : (ops[22]?).map bare = some ⟨some 43, Op.call { callee := Callee.builtin Builtin.len, args := #[Operand.tmp 42], argTypes := #[22] }, 3, "", #[], some (13, false)⟩
  o23 : (ops[23]?).map bare = some ⟨some 44, Op.binOp BinOp.gtr 3 (Operand.tmp 43) (Operand.const (Value.int IntKind.i64 0)) 3, 4, "", #[], some (13, false)⟩
  o24 : (ops[24]?).map bare = some ⟨some 45, Op.pick (Operand.tmp 34) (Operand.const (Value.bool true)) (Operand.tmp 44), 4, "", #[], none⟩
  may0 : takeB .any ops [0, 1, 2, 3, 4, 5, 6, 7, 8, 9, 10] (Array.replicate 25 false) = true
  r11 : Region.ready .any ops (mark [0, 1, 2, 3, 4, 5, 6, 7, 8, 9, 10] (Array.replicate 25 false)) = [11]
  may1 : takeB .any ops [12, 13, 14, 15, 16, 17, 18, 19, 20, 21, 22, 23, 24] ((mark [0, 1, 2, 3, 4, 5, 6, 7, 8, 9, 10] (Array.replicate 25 false)).setIfInBounds 11 true) = true
  fin : Region.ready .any ops (mark [12, 13, 14, 15, 16, 17, 18, 19, 20, 21, 22, 23, 24] ((mark [0, 1, 2, 3, 4, 5, 6, 7, 8, 9, 10] (Array.replicate 25 false)).setIfInBounds 11 true)) = []

set_option maxRecDepth 100000 in
set_option maxHeartbeats 3200000 in
theorem fp3_region {ops : Array Oper} {id : Nat} {Q : Exit → Act → World → Prop} {a : Act} {y : World} (R : fp3R ops) (bx f g q oq cq : Nat) (mv : Array Value)
    (hQ : ∀ d v c a w, Q (.panic c) (a.put d v) w → Q (.panic c) a w) (hsz : a.tmps.size = 63) (e0 : a.eval (.tmp 0) = .pointer (some ⟨f, 0, none⟩)) (e3 : a.eval (.tmp 3) = .pointer (some ⟨bx, 0, none⟩)) (hS0 : ((loadVar 45 ⟨bx, 0, none⟩).run Tryd.prog y.drew = .ok (.agg mv) y.drew ∧ y.drew.cell? ⟨bx, 6, none⟩ = some (.int .i64 0) ∧ y.drew.cell? ⟨f, 0, none⟩ = some (.int .i64 4) ∧ y.drew.cell? ⟨f, 5, none⟩ = some (.slice (some ⟨q, oq, none⟩) 2 cq) ∧ y.drew.cell? ⟨f, 6, none⟩ = some (.slice (some ⟨g, 0, none⟩) 2 2) ∧ y.drew.cell? ⟨g, 0, none⟩ = some (.slice none 0 0))) (T : World → Prop) (hc : Calls Tryd.prog 96 #[.agg mv, .int .i64 4, .slice (some ⟨q, oq, none⟩) 2 cq] y.drew fun e w9 => e = .returned (.bool true) ∧ ((loadVar 45 ⟨bx, 0, none⟩).run Tryd.prog w9 = .ok (.agg mv) w9 ∧ w9.cell? ⟨bx, 6, none⟩ = some (.int .i64 0) ∧ w9.cell? ⟨f, 0, none⟩ = some (.int .i64 4) ∧ w9.cell? ⟨f, 5, none⟩ = some (.slice (some ⟨q, oq, none⟩) 2 cq) ∧ w9.cell? ⟨f, 6, none⟩ = some (.slice (some ⟨g, 0, none⟩) 2 2) ∧ w9.cell? ⟨g, 0, none⟩ = some (.slice none 0 0)) ∧ T w9)
    (hK : ∀ w9 : World, T w9 → Q .normal (((((((((((((((((((((((((a.put (some 21) (.agg mv)).put (some 22) (.pointer (some ⟨f, 0, none⟩))).put (some 23) (.pointer (some ⟨f, 0, none⟩))).put (some 24) (.pointer (some ⟨f, 0, none⟩))).put (some 25) (.pointer (some ⟨f, 0, none⟩))).put (some 26) (.int .i64 4)).put (some 27) (.pointer (some ⟨f, 0, none⟩))).put (some 28) (.pointer (some ⟨f, 0, none⟩))).put (some 29) (.pointer (some ⟨f, 0, none⟩))).put (some 30) (.pointer (some ⟨f, 5, none⟩))).put (some 31) (.slice (some ⟨q, oq, none⟩) 2 cq)).put (some 32) (.bool true)).put (some 33) (.bool false)).put (some 34) (.bool false)).put (some 35) (.pointer (some ⟨f, 0, none⟩))).put (some 36) (.pointer (some ⟨f, 0, none⟩))).put (some 37) (.pointer (some ⟨f, 6, none⟩))).put (some 38) (.slice (some ⟨g, 0, none⟩) 2 2)).put (some 39) (.pointer (some ⟨bx, 6, none⟩))).put (some 40) (.int .i64 0)).put (some 41) (.pointer (some ⟨g, 0, none⟩))).put (some 42) (.slice none 0 0)).put (some 43) (.int .i64 0)).put (some 44) (.bool false)).put (some 45) (.bool false)) w9) : (Code.region id ops true).wp Tryd.prog Q a y := by
  have HR : Hid (fp3R ops) := R
  have hdf : a.defers = a.defers := rfl
  refine wp_region_held_drew (S := (fun z : World => (loadVar 45 ⟨bx, 0, none⟩).run Tryd.prog z = .ok (.agg mv) z ∧ z.cell? ⟨bx, 6, none⟩ = some (.int .i64 0) ∧ z.cell? ⟨f, 0, none⟩ = some (.int .i64 4) ∧ z.cell? ⟨f, 5, none⟩ = some (.slice (some ⟨q, oq, none⟩) 2 cq) ∧ z.cell? ⟨f, 6, none⟩ = some (.slice (some ⟨g, 0, none⟩) 2 2) ∧ z.cell? ⟨g, 0, none⟩ = some (.slice none 0 0))) (by kernel_rfl) (hS0) (fun hHeld => ?_)
  rw [R.size]
  clear R
  refine wpAnyH_takes HR.out.sel hQ hHeld [0, 1, 2, 3, 4, 5, 6, 7, 8, 9, 10] 14 _ _ HR.out.may0 ?_
  refine wpTake_stepE ⟨some 21, Op.load 45 (Operand.tmp 3), 45, "", #[], none⟩ 21 (.agg mv) HR.out.o0 rfl (by rw [hsz]; decide) (wanted_none rfl) (fun z hS => fp3_0 bx f g q oq cq mv _ z (fun _ => rfl) e3 hS) ?_
  intro a1 ha1 s1 f1 n1 k1
  replace hsz := s1.trans hsz
  replace hdf := f1.trans hdf
  replace e0 := (k1 0 (by decide)).trans e0
  replace e3 := (k1 3 (by decide)).trans e3
  have e21 := n1
  clear s1 f1 n1 k1
  refine wpTake_stepE ⟨some 22, Op.move (Operand.tmp 0), 58, "", #[], none⟩ 22 (.pointer (some ⟨f, 0, none⟩)) HR.out.o1 rfl (by rw [hsz]; decide) (wanted_none rfl) (fun z hS => fp3_1 bx f g q oq cq mv _ z (fun _ => rfl) e0 hS) ?_
  intro a2 ha2 s1 f1 n1 k1
  replace hsz := s1.trans hsz
  replace hdf := f1.trans hdf
  replace e0 := (k1 0 (by decide)).trans e0
  replace e3 := (k1 3 (by decide)).trans e3
  replace e21 := (k1 21 (by decide)).trans e21
  have e22 := n1
  clear s1 f1 n1 k1
  refine wpTake_stepE ⟨some 23, Op.nilCheck (Operand.tmp 22), 0, "", #[], none⟩ 23 (.pointer (some ⟨f, 0, none⟩)) HR.out.o2 rfl (by rw [hsz]; decide) (wanted_none rfl) (fun z hS => fp3_2 bx f g q oq cq mv _ z (fun _ => rfl) e22 hS) ?_
  intro a3 ha3 s1 f1 n1 k1
  replace hsz := s1.trans hsz
  replace hdf := f1.trans hdf
  replace e0 := (k1 0 (by decide)).trans e0
  replace e3 := (k1 3 (by decide)).trans e3
  replace e21 := (k1 21 (by decide)).trans e21
  have e23 := n1
  clear s1 f1 n1 k1
  refine wpTake_stepE ⟨some 24, Op.fieldAddr 143 (Operand.tmp 23) 0, 0, "", #[], none⟩ 24 (.pointer (some ⟨f, 0, none⟩)) HR.out.o3 rfl (by rw [hsz]; decide) (wanted_none rfl) (fun z hS => fp3_3 bx f g q oq cq mv _ z (fun _ => rfl) e23 hS) ?_
  intro a4 ha4 s1 f1 n1 k1
  replace hsz := s1.trans hsz
  replace hdf := f1.trans hdf
  replace e0 := (k1 0 (by decide)).trans e0
  replace e3 := (k1 3 (by decide)).trans e3
  replace e21 := (k1 21 (by decide)).trans e21
  have e24 := n1
  clear s1 f1 n1 k1
  refine wpTake_stepE ⟨some 25, Op.fieldAddr 33 (Operand.tmp 24) 0, 0, "", #[], none⟩ 25 (.pointer (some ⟨f, 0, none⟩)) HR.out.o4 rfl (by rw [hsz]; decide) (wanted_none rfl) (fun z hS => fp3_4 bx f g q oq cq mv _ z (fun _ => rfl) e24 hS) ?_
  intro a5 ha5 s1 f1 n1 k1
  replace hsz := s1.trans hsz
  replace hdf := f1.trans hdf
  replace e0 := (k1 0 (by decide)).trans e0
  replace e3 := (k1 3 (by decide)).trans e3
  replace e21 := (k1 21 (by decide)).trans e21
  have e25 := n1
  clear s1 f1 n1 k1
  refine wpTake_stepE ⟨some 26, Op.load 3 (Operand.tmp 25), 3, "", #[], none⟩ 26 (.int .i64 4) HR.out.o5 rfl (by rw [hsz]; decide) (wanted_none rfl) (fun z hS => fp3_5 bx f g q oq cq mv _ z (fun _ => rfl) e25 hS) ?_
  intro a6 ha6 s1 f1 n1 k1
  replace hsz := s1.trans hsz
  replace hdf := f1.trans hdf
  replace e0 := (k1 0 (by decide)).trans e0
  replace e3 := (k1 3 (by decide)).trans e3
  replace e21 := (k1 21 (by decide)).trans e21
  have e26 := n1
  clear s1 f1 n1 k1
  refine wpTake_stepE ⟨some 27, Op.move (Operand.tmp 0), 58, "", #[], none⟩ 27 (.pointer (some ⟨f, 0, none⟩)) HR.out.o6 rfl (by rw [hsz]; decide) (wanted_none rfl) (fun z hS => fp3_6 bx f g q oq cq mv _ z (fun _ => rfl) e0 hS) ?_
  intro a7 ha7 s1 f1 n1 k1
  replace hsz := s1.trans hsz
  replace hdf := f1.trans hdf
  replace e0 := (k1 0 (by decide)).trans e0
  replace e3 := (k1 3 (by decide)).trans e3
  replace e21 := (k1 21 (by decide)).trans e21
  replace e26 := (k1 26 (by decide)).trans e26
  have e27 := n1
  clear s1 f1 n1 k1
  refine wpTake_stepE ⟨some 28, Op.nilCheck (Operand.tmp 27), 0, "", #[], none⟩ 28 (.pointer (some ⟨f, 0, none⟩)) HR.out.o7 rfl (by rw [hsz]; decide) (wanted_none rfl) (fun z hS => fp3_7 bx f g q oq cq mv _ z (fun _ => rfl) e27 hS) ?_
  intro a8 ha8 s1 f1 n1 k1
  replace hsz := s1.trans hsz
  replace hdf := f1.trans hdf
  replace e0 := (k1 0 (by decide)).trans e0
  replace e3 := (k1 3 (by decide)).trans e3
  replace e21 := (k1 21 (by decide)).trans e21
  replace e26 := (k1 26 (by decide)).trans e26
  have e28 := n1
  clear s1 f1 n1 k1
  refine wpTake_stepE ⟨some 29, Op.fieldAddr 143 (Operand.tmp 28) 0, 0, "", #[], none⟩ 29 (.pointer (some ⟨f, 0, none⟩)) HR.out.o8 rfl (by rw [hsz]; decide) (wanted_none rfl) (fun z hS => fp3_8 bx f g q oq cq mv _ z (fun _ => rfl) e28 hS) ?_
  intro a9 ha9 s1 f1 n1 k1
  replace hsz := s1.trans hsz
  replace hdf := f1.trans hdf
  replace e0 := (k1 0 (by decide)).trans e0
  replace e3 := (k1 3 (by decide)).trans e3
  replace e21 := (k1 21 (by decide)).trans e21
  replace e26 := (k1 26 (by decide)).trans e26
  have e29 := n1
  clear s1 f1 n1 k1
  refine wpTake_stepE ⟨some 30, Op.fieldAddr 33 (Operand.tmp 29) 4, 0, "", #[], none⟩ 30 (.pointer (some ⟨f, 5, none⟩)) HR.out.o9 rfl (by rw [hsz]; decide) (wanted_none rfl) (fun z hS => fp3_9 bx f g q oq cq mv _ z (fun _ => rfl) e29 hS) ?_
  intro a10 ha10 s1 f1 n1 k1
  replace hsz := s1.trans hsz
  replace hdf := f1.trans hdf
  replace e0 := (k1 0 (by decide)).trans e0
  replace e3 := (k1 3 (by decide)).trans e3
  replace e21 := (k1 21 (by decide)).trans e21
  replace e26 := (k1 26 (by decide)).trans e26
  have e30 := n1
  clear s1 f1 n1 k1
  refine wpTake_stepE ⟨some 31, Op.load 23 (Operand.tmp 30), 23, "", #[], none⟩ 31 (.slice (some ⟨q, oq, none⟩) 2 cq) HR.out.o10 rfl (by rw [hsz]; decide) (wanted_none rfl) (fun z hS => fp3_10 bx f g q oq cq mv _ z (fun _ => rfl) e30 hS) ?_
  intro a11 ha11 s1 f1 n1 k1
  replace hsz := s1.trans hsz
  replace hdf := f1.trans hdf
  replace e0 := (k1 0 (by decide)).trans e0
  replace e3 := (k1 3 (by decide)).trans e3
  replace e21 := (k1 21 (by decide)).trans e21
  replace e26 := (k1 26 (by decide)).trans e26
  have e31 := n1
  clear s1 f1 n1 k1
  refine wpTake_nil ?_
  refine wpAnyH_one ⟨some 32, Op.call { callee := Callee.value (Operand.func 96), args := #[Operand.tmp 21, Operand.tmp 26, Operand.tmp 31], argTypes := #[45, 3, 23] }, 4, "", #[], none⟩ HR.out.r11 HR.out.o11 rfl (fun K' hK' => ?_)
  refine wp_enter (fp3_11 bx f g q oq cq mv _ _ (fun _ => rfl) rfl e21 e26 e31) (hc) ?_
  rintro e9 w9 ⟨rfl, hS9, hT⟩
  refine ⟨_, rfl, hK'.out _ _ (hS9) ?_⟩
  replace hHeld := hS9
  clear hK' K'
  show wpAnyH _ _ _ _ _ _ _ (Act.put a11 (some 32) (.bool true)) _
  obtain ⟨s1, f1, n1, k1⟩ := act_put a11 32 (.bool true) (show 32 < _ by rw [hsz]; decide)
  obtain ⟨a12, ha12⟩ : ∃ x, x = Act.put a11 (some 32) (.bool true) := ⟨_, rfl⟩
  rw [← ha12] at s1 f1 n1 k1 ⊢
  replace hsz := s1.trans hsz
  replace hdf := f1.trans hdf
  replace e0 := (k1 0 (by decide)).trans e0
  replace e3 := (k1 3 (by decide)).trans e3
  have e32 := n1
  clear s1 f1 n1 k1
  refine wpAnyH_takes HR.out.sel hQ hHeld [12, 13, 14, 15, 16, 17, 18, 19, 20, 21, 22, 23, 24] 0 _ _ HR.out.may1 ?_
  refine wpTake_stepE ⟨some 33, Op.unOp UnOp.not 4 (Operand.tmp 32), 4, "", #[], none⟩ 33 (.bool false) HR.out.o12 rfl (by rw [hsz]; decide) (wanted_none rfl) (fun z hS => fp3_12 bx f g q oq cq mv _ z (fun _ => rfl) e32 hS) ?_
  intro a13 ha13 s1 f1 n1 k1
  replace hsz := s1.trans hsz
  replace hdf := f1.trans hdf
  replace e0 := (k1 0 (by decide)).trans e0
  replace e3 := (k1 3 (by decide)).trans e3
  have e33 := n1
  clear s1 f1 n1 k1
  refine wpTake_stepE ⟨some 34, Op.move (Operand.tmp 33), 4, "", #[], none⟩ 34 (.bool false) HR.out.o13 rfl (by rw [hsz]; decide) (wanted_none rfl) (fun z hS => fp3_13 bx f g q oq cq mv _ z (fun _ => rfl) e33 hS) ?_
  intro a14 ha14 s1 f1 n1 k1
  replace hsz := s1.trans hsz
  replace hdf := f1.trans hdf
  replace e0 := (k1 0 (by decide)).trans e0
  replace e3 := (k1 3 (by decide)).trans e3
  have e34 := n1
  clear s1 f1 n1 k1
  refine wpTake_stepE ⟨some 35, Op.move (Operand.tmp 0), 58, "", #[], some (13, false)⟩ 35 (.pointer (some ⟨f, 0, none⟩)) HR.out.o14 rfl (by rw [hsz]; decide) (wanted_some rfl (yielded_of HR.out.o13 rfl e34 (by rw [hsz]; decide))) (fun z hS => fp3_14 bx f g q oq cq mv _ z (fun _ => rfl) e0 hS) ?_
  intro a15 ha15 s1 f1 n1 k1
  replace hsz := s1.trans hsz
  replace hdf := f1.trans hdf
  replace e0 := (k1 0 (by decide)).trans e0
  replace e3 := (k1 3 (by decide)).trans e3
  replace e34 := (k1 34 (by decide)).trans e34
  have e35 := n1
  clear s1 f1 n1 k1
  refine wpTake_stepE ⟨some 36, Op.nilCheck (Operand.tmp 35), 0, "", #[], some (13, false)⟩ 36 (.pointer (some ⟨f, 0, none⟩)) HR.out.o15 rfl (by rw [hsz]; decide) (wanted_some rfl (yielded_of HR.out.o13 rfl e34 (by rw [hsz]; decide))) (fun z hS => fp3_15 bx f g q oq cq mv _ z (fun _ => rfl) e35 hS) ?_
  intro a16 ha16 s1 f1 n1 k1
  replace hsz := s1.trans hsz
  replace hdf := f1.trans hdf
  replace e0 := (k1 0 (by decide)).trans e0
  replace e3 := (k1 3 (by decide)).trans e3
  replace e34 := (k1 34 (by decide)).trans e34
  have e36 := n1
  clear s1 f1 n1 k1
  refine wpTake_stepE ⟨some 37, Op.fieldAddr 143 (Operand.tmp 36) 1, 0, "", #[], some (13, false)⟩ 37 (.pointer (some ⟨f, 6, none⟩)) HR.out.o16 rfl (by rw [hsz]; decide) (wanted_some rfl (yielded_of HR.out.o13 rfl e34 (by rw [hsz]; decide))) (fun z hS => fp3_16 bx f g q oq cq mv _ z (fun _ => rfl) e36 hS) ?_
  intro a17 ha17 s1 f1 n1 k1
  replace hsz := s1.trans hsz
  replace hdf := f1.trans hdf
  replace e0 := (k1 0 (by decide)).trans e0
  replace e3 := (k1 3 (by decide)).trans e3
  replace e34 := (k1 34 (by decide)).trans e34
  have e37 := n1
  clear s1 f1 n1 k1
  refine wpTake_stepE ⟨some 38, Op.load 27 (Operand.tmp 37), 27, "", #[], some (13, false)⟩ 38 (.slice (some ⟨g, 0, none⟩) 2 2) HR.out.o17 rfl (by rw [hsz]; decide) (wanted_some rfl (yielded_of HR.out.o13 rfl e34 (by rw [hsz]; decide))) (fun z hS => fp3_17 bx f g q oq cq mv _ z (fun _ => rfl) e37 hS) ?_
  intro a18 ha18 s1 f1 n1 k1
  replace hsz := s1.trans hsz
  replace hdf := f1.trans hdf
  replace e0 := (k1 0 (by decide)).trans e0
  replace e3 := (k1 3 (by decide)).trans e3
  replace e34 := (k1 34 (by decide)).trans e34
  have e38 := n1
  clear s1 f1 n1 k1
  refine wpTake_stepE ⟨some 39, Op.fieldAddr 45 (Operand.tmp 3) 6, 0, "", #[], some (13, false)⟩ 39 (.pointer (some ⟨bx, 6, none⟩)) HR.out.o18 rfl (by rw [hsz]; decide) (wanted_some rfl (yielded_of HR.out.o13 rfl e34 (by rw [hsz]; decide))) (fun z hS => fp3_18 bx f g q oq cq mv _ z (fun _ => rfl) e3 hS) ?_
  intro a19 ha19 s1 f1 n1 k1
  replace hsz := s1.trans hsz
  replace hdf := f1.trans hdf
  replace e0 := (k1 0 (by decide)).trans e0
  replace e3 := (k1 3 (by decide)).trans e3
  replace e34 := (k1 34 (by decide)).trans e34
  replace e38 := (k1 38 (by decide)).trans e38
  have e39 := n1
  clear s1 f1 n1 k1
  refine wpTake_stepE ⟨some 40, Op.load 3 (Operand.tmp 39), 3, "", #[], some (13, false)⟩ 40 (.int .i64 0) HR.out.o19 rfl (by rw [hsz]; decide) (wanted_some rfl (yielded_of HR.out.o13 rfl e34 (by rw [hsz]; decide))) (fun z hS => fp3_19 bx f g q oq cq mv _ z (fun _ => rfl) e39 hS) ?_
  intro a20 ha20 s1 f1 n1 k1
  replace hsz := s1.trans hsz
  replace hdf := f1.trans hdf
  replace e0 := (k1 0 (by decide)).trans e0
  replace e3 := (k1 3 (by decide)).trans e3
  replace e34 := (k1 34 (by decide)).trans e34
  replace e38 := (k1 38 (by decide)).trans e38
  have e40 := n1
  clear s1 f1 n1 k1
  refine wpTake_stepE ⟨some 41, Op.indexAddr 27 (Operand.tmp 38) (Operand.tmp 40), 0, "", #[], some (13, false)⟩ 41 (.pointer (some ⟨g, 0, none⟩)) HR.out.o20 rfl (by rw [hsz]; decide) (wanted_some rfl (yielded_of HR.out.o13 rfl e34 (by rw [hsz]; decide))) (fun z hS => fp3_20 bx f g q oq cq mv _ z (fun _ => rfl) e38 e40 hS) ?_
  intro a21 ha21 s1 f1 n1 k1
  replace hsz := s1.trans hsz
  replace hdf := f1.trans hdf
  replace e0 := (k1 0 (by decide)).trans e0
  replace e3 := (k1 3 (by decide)).trans e3
  replace e34 := (k1 34 (by decide)).trans e34
  have e41 := n1
  clear s1 f1 n1 k1
  refine wpTake_stepE ⟨some 42, Op.load 22 (Operand.tmp 41), 22, "", #[], some (13, false)⟩ 42 (.slice none 0 0) HR.out.o21 rfl (by rw [hsz]; decide) (wanted_some rfl (yielded_of HR.out.o13 rfl e34 (by rw [hsz]; decide))) (fun z hS => fp3_21 bx f g q oq cq mv _ z (fun _ => rfl) e41 hS) ?_
  intro a22 ha22 s1 f1 n1 k1
  replace hsz := s1.trans hsz
  replace hdf := f1.trans hdf
  replace e0 := (k1 0 (by decide)).trans e0
  replace e3 := (k1 3 (by decide)).trans e3
  replace e34 := (k1 34 (by decide)).trans e34
  have e42 := n1
  clear s1 f1 n1 k1
  refine wpTake_stepE ⟨some 43, Op.call { callee := Callee.builtin Builtin.len, args := #[Operand.tmp 42], argTypes := #[22] }, 3, "", #[], some (13, false)⟩ 43 (.int .i64 0) HR.out.o22 rfl (by rw [hsz]; decide) (wanted_some rfl (yielded_of HR.out.o13 rfl e34 (by rw [hsz]; decide))) (fun z hS => fp3_22 bx f g q oq cq mv _ z (fun _ => rfl) e42 hS) ?_
  intro a23 ha23 s1 f1 n1 k1
  replace hsz := s1.trans hsz
  replace hdf := f1.trans hdf
  replace e0 := (k1 0 (by decide)).trans e0
  replace e3 := (k1 3 (by decide)).trans e3
  replace e34 := (k1 34 (by decide)).trans e34
  have e43 := n1
  clear s1 f1 n1 k1
  refine wpTake_stepE ⟨some 44, Op.binOp BinOp.gtr 3 (Operand.tmp 43) (Operand.const (Value.int IntKind.i64 0)) 3, 4, "", #[], some (13, false)⟩ 44 (.bool false) HR.out.o23 rfl (by rw [hsz]; decide) (wanted_some rfl (yielded_of HR.out.o13 rfl e34 (by rw [hsz]; decide))) (fun z hS => fp3_23 bx f g q oq cq mv _ z (fun _ => rfl) e43 hS) ?_
  intro a24 ha24 s1 f1 n1 k1
  replace hsz := s1.trans hsz
  replace hdf := f1.trans hdf
  replace e0 := (k1 0 (by decide)).trans e0
  replace e3 := (k1 3 (by decide)).trans e3
  replace e34 := (k1 34 (by decide)).trans e34
  have e44 := n1
  clear s1 f1 n1 k1
  refine wpTake_stepE ⟨some 45, Op.pick (Operand.tmp 34) (Operand.const (Value.bool true)) (Operand.tmp 44), 4, "", #[], none⟩ 45 (.bool false) HR.out.o24 rfl (by rw [hsz]; decide) (wanted_none rfl) (fun z hS => fp3_24 bx f g q oq cq mv _ z (fun _ => rfl) e34 e44 hS) ?_
  intro a25 ha25 s1 f1 n1 k1
  replace hsz := s1.trans hsz
  replace hdf := f1.trans hdf
  replace e0 := (k1 0 (by decide)).trans e0
  replace e3 := (k1 3 (by decide)).trans e3
  clear s1 f1 n1 k1
  refine wpTake_nil ?_
  refine wpAnyH_done HR.out.fin ?_ _
  rw [ha25, ha24, ha23, ha22, ha21, ha20, ha19, ha18, ha17, ha16, ha15, ha14, ha13, ha12, ha11, ha10, ha9, ha8, ha7, ha6, ha5, ha4, ha3, ha2, ha1]
  exact hK _ hT
-- fp3: ⟨by kernel_rfl, by kernel_rfl, by kernel_rfl, by kernel_rfl, by kernel_rfl, by kernel_rfl, by kernel_rfl, by kernel_rfl, by kernel_rfl, by kernel_rfl, by kernel_rfl, by kernel_rfl, by kernel_rfl, by kernel_rfl, by kernel_rfl, by kernel_rfl, by kernel_rfl, by kernel_rfl, by kernel_rfl, by kernel_rfl, by kernel_rfl, by kernel_rfl, by kernel_rfl, by kernel_rfl, by kernel_rfl, by kernel_rfl, by kernel_rfl, by kernel_rfl, by kernel_rfl, by kernel_rfl, by kernel_rfl⟩

theorem fp5_st (g : Nat) (ps : Option Addr) (cs : Nat) (ev : Operand → Value) (z : World) (e55 : ev (.tmp 55) = .pointer (some ⟨g, 0, none⟩)) (e54 : ev (.tmp 54) = .slice ps 8 cs) (hc : z.cell? ⟨g, 0, none⟩ = some (.slice none 0 0)) (hf : z.frozen? ⟨g, 0, none⟩ = false) : (execOp ev ⟨none, Op.store 22 (Operand.tmp 55) (Operand.tmp 54), 0, "", #[], none⟩).run Tryd.prog z = .ok .skip (z.setCell ⟨g, 0, none⟩ (.slice ps 8 cs)) := by go_simp
theorem fp5_0 (bx f g : Nat) (pb : Option Addr) (c : Nat) (ev : Operand → Value) (z : World) (ec : ∀ c, ev (.const c) = c) (e0 : ev (.tmp 0) = .pointer (some ⟨f, 0, none⟩)) (hS : z.cell? ⟨f, 6, none⟩ = some (.slice (some ⟨g, 0, none⟩) 2 2) ∧ z.cell? ⟨bx, 6, none⟩ = some (.int .i64 0) ∧ z.cell? ⟨bx, 23, none⟩ = some (.slice pb 8 c)) : (execOp ev ⟨some 46, Op.move (Operand.tmp 0), 58, "", #[], none⟩).run Tryd.prog z = .ok (.value (.pointer (some ⟨f, 0, none⟩))) z := by
  obtain ⟨s6f, s6, s23⟩ := hS
  go_simp
theorem fp5_1 (bx f g : Nat) (pb : Option Addr) (c : Nat) (ev : Operand → Value) (z : World) (ec : ∀ c, ev (.const c) = c) (e46 : ev (.tmp 46) = .pointer (some ⟨f, 0, none⟩)) (hS : z.cell? ⟨f, 6, none⟩ = some (.slice (some ⟨g, 0, none⟩) 2 2) ∧ z.cell? ⟨bx, 6, none⟩ = some (.int .i64 0) ∧ z.cell? ⟨bx, 23, none⟩ = some (.slice pb 8 c)) : (execOp ev ⟨some 47, Op.nilCheck (Operand.tmp 46), 0, "", #[], none⟩).run Tryd.prog z = .ok (.value (.pointer (some ⟨f, 0, none⟩))) z := by
  obtain ⟨s6f, s6, s23⟩ := hS
  go_simp
theorem fp5_2 (bx f g : Nat) (pb : Option Addr) (c : Nat) (ev : Operand → Value) (z : World) (ec : ∀ c, ev (.const c) = c) (e47 : ev (.tmp 47) = .pointer (some ⟨f, 0, none⟩)) (hS : z.cell? ⟨f, 6, none⟩ = some (.slice (some ⟨g, 0, none⟩) 2 2) ∧ z.cell? ⟨bx, 6, none⟩ = some (.int .i64 0) ∧ z.cell? ⟨bx, 23, none⟩ = some (.slice pb 8 c)) : (execOp ev ⟨some 48, Op.fieldAddr 143 (Operand.tmp 47) 1, 0, "", #[], none⟩).run Tryd.prog z = .ok (.value (.pointer (some ⟨f, 6, none⟩))) z := by
  obtain ⟨s6f, s6, s23⟩ := hS
  go_simp
theorem fp5_3 (bx f g : Nat) (pb : Option Addr) (c : Nat) (ev : Operand → Value) (z : World) (ec : ∀ c, ev (.const c) = c) (e48 : ev (.tmp 48) = .pointer (some ⟨f, 6, none⟩)) (hS : z.cell? ⟨f, 6, none⟩ = some (.slice (some ⟨g, 0, none⟩) 2 2) ∧ z.cell? ⟨bx, 6, none⟩ = some (.int .i64 0) ∧ z.cell? ⟨bx, 23, none⟩ = some (.slice pb 8 c)) : (execOp ev ⟨some 49, Op.load 27 (Operand.tmp 48), 27, "", #[], none⟩).run Tryd.prog z = .ok (.value (.slice (some ⟨g, 0, none⟩) 2 2)) z := by
  obtain ⟨s6f, s6, s23⟩ := hS
  go_simp
theorem fp5_4 (bx f g : Nat) (pb : Option Addr) (c : Nat) (ev : Operand → Value) (z : World) (ec : ∀ c, ev (.const c) = c) (e3 : ev (.tmp 3) = .pointer (some ⟨bx, 0, none⟩)) (hS : z.cell? ⟨f, 6, none⟩ = some (.slice (some ⟨g, 0, none⟩) 2 2) ∧ z.cell? ⟨bx, 6, none⟩ = some (.int .i64 0) ∧ z.cell? ⟨bx, 23, none⟩ = some (.slice pb 8 c)) : (execOp ev ⟨some 50, Op.fieldAddr 45 (Operand.tmp 3) 6, 0, "", #[], none⟩).run Tryd.prog z = .ok (.value (.pointer (some ⟨bx, 6, none⟩))) z := by
  obtain ⟨s6f, s6, s23⟩ := hS
  go_simp
theorem fp5_5 (bx f g : Nat) (pb : Option Addr) (c : Nat) (ev : Operand → Value) (z : World) (ec : ∀ c, ev (.const c) = c) (e50 : ev (.tmp 50) = .pointer (some ⟨bx, 6, none⟩)) (hS : z.cell? ⟨f, 6, none⟩ = some (.slice (some ⟨g, 0, none⟩) 2 2) ∧ z.cell? ⟨bx, 6, none⟩ = some (.int .i64 0) ∧ z.cell? ⟨bx, 23, none⟩ = some (.slice pb 8 c)) : (execOp ev ⟨some 51, Op.load 3 (Operand.tmp 50), 3, "", #[], none⟩).run Tryd.prog z = .ok (.value (.int .i64 0)) z := by
  obtain ⟨s6f, s6, s23⟩ := hS
  go_simp
theorem fp5_6 (bx f g : Nat) (pb : Option Addr) (c : Nat) (ev : Operand → Value) (z : World) (ec : ∀ c, ev (.const c) = c) (e3 : ev (.tmp 3) = .pointer (some ⟨bx, 0, none⟩)) (hS : z.cell? ⟨f, 6, none⟩ = some (.slice (some ⟨g, 0, none⟩) 2 2) ∧ z.cell? ⟨bx, 6, none⟩ = some (.int .i64 0) ∧ z.cell? ⟨bx, 23, none⟩ = some (.slice pb 8 c)) : (execOp ev ⟨some 52, Op.fieldAddr 45 (Operand.tmp 3) 12, 0, "", #[], none⟩).run Tryd.prog z = .ok (.value (.pointer (some ⟨bx, 23, none⟩))) z := by
  obtain ⟨s6f, s6, s23⟩ := hS
  go_simp
theorem fp5_7 (bx f g : Nat) (pb : Option Addr) (c : Nat) (ev : Operand → Value) (z : World) (ec : ∀ c, ev (.const c) = c) (e52 : ev (.tmp 52) = .pointer (some ⟨bx, 23, none⟩)) (hS : z.cell? ⟨f, 6, none⟩ = some (.slice (some ⟨g, 0, none⟩) 2 2) ∧ z.cell? ⟨bx, 6, none⟩ = some (.int .i64 0) ∧ z.cell? ⟨bx, 23, none⟩ = some (.slice pb 8 c)) : (execOp ev ⟨some 53, Op.load 22 (Operand.tmp 52), 22, "", #[], none⟩).run Tryd.prog z = .ok (.value (.slice pb 8 c)) z := by
  obtain ⟨s6f, s6, s23⟩ := hS
  go_simp
set_option maxRecDepth 100000 in
theorem fp5_8 (bx f g : Nat) (pb : Option Addr) (c : Nat) (ev : Operand → Value) (z : World) (ec : ∀ c, ev (.const c) = c) (ef : ev (.func 17) = .func (.func 17) #[] #[]) (e53 : ev (.tmp 53) = .slice pb 8 c) : (execOp ev ⟨some 54, Op.call { callee := Callee.value (Operand.func 17), args := #[Operand.tmp 53], argTypes := #[22] }, 22, "", #[], none⟩).run Tryd.prog z = .ok (.enter 17 #[.slice pb 8 c]) z :=
  enter_run _ ef (by simp only [List.map_toArray, List.map_cons, List.map_nil, ec, e53]) (fun _ => by rfl)
theorem fp5_9 (bx f g : Nat) (pb : Option Addr) (c : Nat) (ev : Operand → Value) (z : World) (ec : ∀ c, ev (.const c) = c) (e49 : ev (.tmp 49) = .slice (some ⟨g, 0, none⟩) 2 2) (e51 : ev (.tmp 51) = .int .i64 0) (hS : z.cell? ⟨f, 6, none⟩ = some (.slice (some ⟨g, 0, none⟩) 2 2) ∧ z.cell? ⟨bx, 6, none⟩ = some (.int .i64 0) ∧ z.cell? ⟨bx, 23, none⟩ = some (.slice pb 8 c)) : (execOp ev ⟨some 55, Op.indexAddr 27 (Operand.tmp 49) (Operand.tmp 51), 0, "", #[], none⟩).run Tryd.prog z = .ok (.value (.pointer (some ⟨g, 0, none⟩))) z := by
  obtain ⟨s6f, s6, s23⟩ := hS
  go_simp
structure fp5R (ops : Array Oper) : Prop where
  size : ops.size = 11
  sel : Region.noSelect ops = true
  o0 : (ops[0]?).map bare = some ⟨some 46, Op.move (Operand.tmp 0), 58, "", #[], none⟩
  o1 : (ops[1]?).map bare = some ⟨some 47, Op.nilCheck (Operand.tmp 46), 0, "", #[], none⟩
  o2 : (ops[2]?).map bare = some ⟨some 48, Op.fieldAddr 143 (Operand.tmp 47) 1, 0, "", #[], none⟩
  o3 : (ops[3]?).map bare = some ⟨some 49, Op.load 27 (Operand.tmp 48), 27, "", #[], none⟩
  o4 : (ops[4]?).map bare = some ⟨some 50, Op.fieldAddr 45 (Operand.tmp 3) 6, 0, "", #[], none⟩
  o5 : (ops[5]?).map bare = some ⟨some 51, Op.load 3 (Operand.tmp 50), 3, "", #[], none⟩
  o6 : (ops[6]?).map bare = some ⟨some 52, Op.fieldAddr 45 (Operand.tmp 3) 12, 0, "", #[], none⟩
  o7 : (ops[7]?).map bare = some ⟨some 53, Op.load 22 (Operand.tmp 52), 22, "", #[], none⟩
  o8 : (ops[8]?).map bare = some ⟨some 54, Op.call { callee := Callee.value (Operand.func 17), args := #[Operand.tmp 53], argTypes := #[22] }, 22, "", #[], none⟩
  o9 : (ops[9]?).map bare = some ⟨some 55, Op.indexAddr 27 (Operand.tmp 49) (Operand.tmp 51), 0, "", #[], none⟩
  o10 : (ops[10]?).map bare = some ⟨none, Op.store 22 (Operand.tmp 55) (Operand.tmp 54), 0, "", #[], none⟩
  may0 : takeB .any ops [0, 1, 2, 3, 4, 5, 6, 7] (Array.replicate 11 false) = true
  r8 : Region.ready .any ops (mark [0, 1, 2, 3, 4, 5, 6, 7] (Array.replicate 11 false)) = [8]
  may1 : takeB .any ops [9] ((mark [0, 1, 2, 3, 4, 5, 6, 7] (Array.replicate 11 false)).setIfInBounds 8 true) = true
  r10 : Region.ready .any ops (mark [9] ((mark [0, 1, 2, 3, 4, 5, 6, 7] (Array.replicate 11 false)).setIfInBounds 8 true)) = [10]
  fin : Region.ready .any ops ((mark [9] ((mark [0, 1, 2, 3, 4, 5, 6, 7] (Array.replicate 11 false)).setIfInBounds 8 true)).setIfInBounds 10 true) = []

set_option maxRecDepth 100000 in
set_option maxHeartbeats 3200000 in
theorem fp5_region {ops : Array Oper} {id : Nat} {Q : Exit → Act → World → Prop} {a : Act} {y : World} (R : fp5R ops) (bx f g : Nat) (pb : Option Addr) (c : Nat)
    (hQ : ∀ d v c a w, Q (.panic c) (a.put d v) w → Q (.panic c) a w) (hsz : a.tmps.size = 63) (e0 : a.eval (.tmp 0) = .pointer (some ⟨f, 0, none⟩)) (e3 : a.eval (.tmp 3) = .pointer (some ⟨bx, 0, none⟩)) (hS0 : (y.drew.cell? ⟨f, 6, none⟩ = some (.slice (some ⟨g, 0, none⟩) 2 2) ∧ y.drew.cell? ⟨bx, 6, none⟩ = some (.int .i64 0) ∧ y.drew.cell? ⟨bx, 23, none⟩ = some (.slice pb 8 c))) (T : World → Prop) (hc : Calls Tryd.prog 17 #[.slice pb 8 c] y.drew fun e w9 => ∃ ps cs, e = .returned (.slice ps 8 cs) ∧ (w9.cell? ⟨f, 6, none⟩ = some (.slice (some ⟨g, 0, none⟩) 2 2) ∧ w9.cell? ⟨bx, 6, none⟩ = some (.int .i64 0) ∧ w9.cell? ⟨bx, 23, none⟩ = some (.slice pb 8 c)) ∧ ((w9.setCell ⟨g, 0, none⟩ (.slice ps 8 cs)).cell? ⟨f, 6, none⟩ = some (.slice (some ⟨g, 0, none⟩) 2 2) ∧ (w9.setCell ⟨g, 0, none⟩ (.slice ps 8 cs)).cell? ⟨bx, 6, none⟩ = some (.int .i64 0) ∧ (w9.setCell ⟨g, 0, none⟩ (.slice ps 8 cs)).cell? ⟨bx, 23, none⟩ = some (.slice pb 8 c)) ∧ w9.cell? ⟨g, 0, none⟩ = some (.slice none 0 0) ∧ w9.frozen? ⟨g, 0, none⟩ = false ∧ T (w9.setCell ⟨g, 0, none⟩ (.slice ps 8 cs)))
    (hK : ∀ (ps : Option Addr) (cs : Nat) (w9 : World), T (w9.setCell ⟨g, 0, none⟩ (.slice ps 8 cs)) → Q .normal ((((((((((a.put (some 46) (.pointer (some ⟨f, 0, none⟩))).put (some 47) (.pointer (some ⟨f, 0, none⟩))).put (some 48) (.pointer (some ⟨f, 6, none⟩))).put (some 49) (.slice (some ⟨g, 0, none⟩) 2 2)).put (some 50) (.pointer (some ⟨bx, 6, none⟩))).put (some 51) (.int .i64 0)).put (some 52) (.pointer (some ⟨bx, 23, none⟩))).put (some 53) (.slice pb 8 c)).put (some 54) (.slice ps 8 cs)).put (some 55) (.pointer (some ⟨g, 0, none⟩))) (w9.setCell ⟨g, 0, none⟩ (.slice ps 8 cs))) : (Code.region id ops true).wp Tryd.prog Q a y := by
  have HR : Hid (fp5R ops) := R
  have hdf : a.defers = a.defers := rfl
  refine wp_region_held_drew (S := (fun z : World => z.cell? ⟨f, 6, none⟩ = some (.slice (some ⟨g, 0, none⟩) 2 2) ∧ z.cell? ⟨bx, 6, none⟩ = some (.int .i64 0) ∧ z.cell? ⟨bx, 23, none⟩ = some (.slice pb 8 c))) (by kernel_rfl) (hS0) (fun hHeld => ?_)
  rw [R.size]
  clear R
  refine wpAnyH_takes HR.out.sel hQ hHeld [0, 1, 2, 3, 4, 5, 6, 7] 3 _ _ HR.out.may0 ?_
  refine wpTake_stepE ⟨some 46, Op.move (Operand.tmp 0), 58, "", #[], none⟩ 46 (.pointer (some ⟨f, 0, none⟩)) HR.out.o0 rfl (by rw [hsz]; decide) (wanted_none rfl) (fun z hS => fp5_0 bx f g pb c _ z (fun _ => rfl) e0 hS) ?_
  intro a1 ha1 s1 f1 n1 k1
  replace hsz := s1.trans hsz
  replace hdf := f1.trans hdf
  replace e0 := (k1 0 (by decide)).trans e0
  replace e3 := (k1 3 (by decide)).trans e3
  have e46 := n1
  clear s1 f1 n1 k1
  refine wpTake_stepE ⟨some 47, Op.nilCheck (Operand.tmp 46), 0, "", #[], none⟩ 47 (.pointer (some ⟨f, 0, none⟩)) HR.out.o1 rfl (by rw [hsz]; decide) (wanted_none rfl) (fun z hS => fp5_1 bx f g pb c _ z (fun _ => rfl) e46 hS) ?_
  intro a2 ha2 s1 f1 n1 k1
  replace hsz := s1.trans hsz
  replace hdf := f1.trans hdf
  replace e0 := (k1 0 (by decide)).trans e0
  replace e3 := (k1 3 (by decide)).trans e3
  have e47 := n1
  clear s1 f1 n1 k1
  refine wpTake_stepE ⟨some 48, Op.fieldAddr 143 (Operand.tmp 47) 1, 0, "", #[], none⟩ 48 (.pointer (some ⟨f, 6, none⟩)) HR.out.o2 rfl (by rw [hsz]; decide) (wanted_none rfl) (fun z hS => fp5_2 bx f g pb c _ z (fun _ => rfl) e47 hS) ?_
  intro a3 ha3 s1 f1 n1 k1
  replace hsz := s1.trans hsz
  replace hdf := f1.trans hdf
  replace e0 := (k1 0 (by decide)).trans e0
  replace e3 := (k1 3 (by decide)).trans e3
  have e48 := n1
  clear s1 f1 n1 k1
  refine wpTake_stepE ⟨some 49, Op.load 27 (Operand.tmp 48), 27, "", #[], none⟩ 49 (.slice (some ⟨g, 0, none⟩) 2 2) HR.out.o3 rfl (by rw [hsz]; decide) (wanted_none rfl) (fun z hS => fp5_3 bx f g pb c _ z (fun _ => rfl) e48 hS) ?_
  intro a4 ha4 s1 f1 n1 k1
  replace hsz := s1.trans hsz
  replace hdf := f1.trans hdf
  replace e0 := (k1 0 (by decide)).trans e0
  replace e3 := (k1 3 (by decide)).trans e3
  have e49 := n1
  clear s1 f1 n1 k1
  refine wpTake_stepE ⟨some 50, Op.fieldAddr 45 (Operand.tmp 3) 6, 0, "", #[], none⟩ 50 (.pointer (some ⟨bx, 6, none⟩)) HR.out.o4 rfl (by rw [hsz]; decide) (wanted_none rfl) (fun z hS => fp5_4 bx f g pb c _ z (fun _ => rfl) e3 hS) ?_
  intro a5 ha5 s1 f1 n1 k1
  replace hsz := s1.trans hsz
  replace hdf := f1.trans hdf
  replace e0 := (k1 0 (by decide)).trans e0
  replace e3 := (k1 3 (by decide)).trans e3
  replace e49 := (k1 49 (by decide)).trans e49
  have e50 := n1
  clear s1 f1 n1 k1
  refine wpTake_stepE ⟨some 51, Op.load 3 (Operand.tmp 50), 3, "", #[], none⟩ 51 (.int .i64 0) HR.out.o5 rfl (by rw [hsz]; decide) (wanted_none rfl) (fun z hS => fp5_5 bx f g pb c _ z (fun _ => rfl) e50 hS) ?_
  intro a6 ha6 s1 f1 n1 k1
  replace hsz := s1.trans hsz
  replace hdf := f1.trans hdf
  replace e0 := (k1 0 (by decide)).trans e0
  replace e3 := (k1 3 (by decide)).trans e3
  replace e49 := (k1 49 (by decide)).trans e49
  have e51 := n1
  clear s1 f1 n1 k1
  refine wpTake_stepE ⟨some 52, Op.fieldAddr 45 (Operand.tmp 3) 12, 0, "", #[], none⟩ 52 (.pointer (some ⟨bx, 23, none⟩)) HR.out.o6 rfl (by rw [hsz]; decide) (wanted_none rfl) (fun z hS => fp5_6 bx f g pb c _ z (fun _ => rfl) e3 hS) ?_
  intro a7 ha7 s1 f1 n1 k1
  replace hsz := s1.trans hsz
  replace hdf := f1.trans hdf
  replace e0 := (k1 0 (by decide)).trans e0
  replace e3 := (k1 3 (by decide)).trans e3
  replace e49 := (k1 49 (by decide)).trans e49
  replace e51 := (k1 51 (by decide)).trans e51
  have e52 := n1
  clear s1 f1 n1 k1
  refine wpTake_stepE ⟨some 53, Op.load 22 (Operand.tmp 52), 22, "", #[], none⟩ 53 (.slice pb 8 c) HR.out.o7 rfl (by rw [hsz]; decide) (wanted_none rfl) (fun z hS => fp5_7 bx f g pb c _ z (fun _ => rfl) e52 hS) ?_
  intro a8 ha8 s1 f1 n1 k1
  replace hsz := s1.trans hsz
  replace hdf := f1.trans hdf
  replace e0 := (k1 0 (by decide)).trans e0
  replace e3 := (k1 3 (by decide)).trans e3
  replace e49 := (k1 49 (by decide)).trans e49
  replace e51 := (k1 51 (by decide)).trans e51
  have e53 := n1
  clear s1 f1 n1 k1
  refine wpTake_nil ?_
  refine wpAnyH_one ⟨some 54, Op.call { callee := Callee.value (Operand.func 17), args := #[Operand.tmp 53], argTypes := #[22] }, 22, "", #[], none⟩ HR.out.r8 HR.out.o8 rfl (fun K' hK' => ?_)
  refine wp_enter (fp5_8 bx f g pb c _ _ (fun _ => rfl) rfl e53) (hc) ?_
  rintro e9 w9 ⟨ps, cs, rfl, hS9, hS10, hcg, hfg, hT⟩
  refine ⟨_, rfl, hK'.out _ _ (hS9) ?_⟩
  replace hHeld := hS9
  clear hK' K'
  show wpAnyH _ _ _ _ _ _ _ (Act.put a8 (some 54) (.slice ps 8 cs)) _
  obtain ⟨s1, f1, n1, k1⟩ := act_put a8 54 (.slice ps 8 cs) (show 54 < _ by rw [hsz]; decide)
  obtain ⟨a9, ha9⟩ : ∃ x, x = Act.put a8 (some 54) (.slice ps 8 cs) := ⟨_, rfl⟩
  rw [← ha9] at s1 f1 n1 k1 ⊢
  replace hsz := s1.trans hsz
  replace hdf := f1.trans hdf
  replace e0 := (k1 0 (by decide)).trans e0
  replace e3 := (k1 3 (by decide)).trans e3
  replace e49 := (k1 49 (by decide)).trans e49
  replace e51 := (k1 51 (by decide)).trans e51
  have e54 := n1
  clear s1 f1 n1 k1
  refine wpAnyH_takes HR.out.sel hQ hHeld [9] 1 _ _ HR.out.may1 ?_
  refine wpTake_stepE ⟨some 55, Op.indexAddr 27 (Operand.tmp 49) (Operand.tmp 51), 0, "", #[], none⟩ 55 (.pointer (some ⟨g, 0, none⟩)) HR.out.o9 rfl (by rw [hsz]; decide) (wanted_none rfl) (fun z hS => fp5_9 bx f g pb c _ z (fun _ => rfl) e49 e51 hS) ?_
  intro a10 ha10 s1 f1 n1 k1
  replace hsz := s1.trans hsz
  replace hdf := f1.trans hdf
  replace e0 := (k1 0 (by decide)).trans e0
  replace e3 := (k1 3 (by decide)).trans e3
  replace e54 := (k1 54 (by decide)).trans e54
  have e55 := n1
  clear s1 f1 n1 k1
  refine wpTake_nil ?_
  refine wpAnyH_skip ⟨none, Op.store 22 (Operand.tmp 55) (Operand.tmp 54), 0, "", #[], none⟩ (w9.setCell ⟨g, 0, none⟩ (.slice ps 8 cs)) HR.out.r10 HR.out.o10 rfl rfl (fp5_st g ps cs _ _ e55 e54 hcg hfg) (hS10) ?_
  replace hHeld := hS10
  refine wpAnyH_done HR.out.fin ?_ _
  rw [ha10, ha9, ha8, ha7, ha6, ha5, ha4, ha3, ha2, ha1]
  exact hK _ _ _ hT
-- fp5: ⟨by kernel_rfl, by kernel_rfl, by kernel_rfl, by kernel_rfl, by kernel_rfl, by kernel_rfl, by kernel_rfl, by kernel_rfl, by kernel_rfl, by kernel_rfl, by kernel_rfl, by kernel_rfl, by kernel_rfl, by kernel_rfl, by kernel_rfl, by kernel_rfl, by kernel_rfl, by kernel_rfl⟩

theorem rj1_0 (r bx f g n jb : Nat) (ev : Operand → Value) (z : World) (ec : ∀ c, ev (.const c) = c) (e2 : ev (.tmp 2) = .pointer (some ⟨bx, 0, none⟩)) (hS : (loadVar 26 ⟨bx, 3, none⟩).run Tryd.prog z = .ok (.agg #[.int .i64 1, .int .i64 1]) z ∧ z.cell? ⟨bx, 1, none⟩ = some (.int .i64 (n : Int)) ∧ z.cell? ⟨r, 7, none⟩ = some (.pointer (some ⟨f, 0, none⟩))) : (execOp ev ⟨some 13, Op.fieldAddr 33 (Operand.tmp 2) 3, 0, "", #[], none⟩).run Tryd.prog z = .ok (.value (.pointer (some ⟨bx, 3, none⟩))) z := by
  obtain ⟨sa, sb, sc⟩ := hS
  go_simp
theorem rj1_1 (r bx f g n jb : Nat) (ev : Operand → Value) (z : World) (ec : ∀ c, ev (.const c) = c) (e13 : ev (.tmp 13) = .pointer (some ⟨bx, 3, none⟩)) (hS : (loadVar 26 ⟨bx, 3, none⟩).run Tryd.prog z = .ok (.agg #[.int .i64 1, .int .i64 1]) z ∧ z.cell? ⟨bx, 1, none⟩ = some (.int .i64 (n : Int)) ∧ z.cell? ⟨r, 7, none⟩ = some (.pointer (some ⟨f, 0, none⟩))) : (execOp ev ⟨some 14, Op.load 26 (Operand.tmp 13), 26, "", #[], none⟩).run Tryd.prog z = .ok (.value (.agg #[.int .i64 1, .int .i64 1])) z := by
  exact exec_ldC e13 hS.1
theorem rj1_2 (r bx f g n jb : Nat) (ev : Operand → Value) (z : World) (ec : ∀ c, ev (.const c) = c) (e2 : ev (.tmp 2) = .pointer (some ⟨bx, 0, none⟩)) (hS : (loadVar 26 ⟨bx, 3, none⟩).run Tryd.prog z = .ok (.agg #[.int .i64 1, .int .i64 1]) z ∧ z.cell? ⟨bx, 1, none⟩ = some (.int .i64 (n : Int)) ∧ z.cell? ⟨r, 7, none⟩ = some (.pointer (some ⟨f, 0, none⟩))) : (execOp ev ⟨some 15, Op.fieldAddr 33 (Operand.tmp 2) 1, 0, "", #[], none⟩).run Tryd.prog z = .ok (.value (.pointer (some ⟨bx, 1, none⟩))) z := by
  obtain ⟨sa, sb, sc⟩ := hS
  go_simp
theorem rj1_3 (r bx f g n jb : Nat) (ev : Operand → Value) (z : World) (ec : ∀ c, ev (.const c) = c) (e15 : ev (.tmp 15) = .pointer (some ⟨bx, 1, none⟩)) (hS : (loadVar 26 ⟨bx, 3, none⟩).run Tryd.prog z = .ok (.agg #[.int .i64 1, .int .i64 1]) z ∧ z.cell? ⟨bx, 1, none⟩ = some (.int .i64 (n : Int)) ∧ z.cell? ⟨r, 7, none⟩ = some (.pointer (some ⟨f, 0, none⟩))) : (execOp ev ⟨some 16, Op.load 3 (Operand.tmp 15), 3, "", #[], none⟩).run Tryd.prog z = .ok (.value (.int .i64 (n : Int))) z := by
  obtain ⟨sa, sb, sc⟩ := hS
  go_simp
theorem rj1_4 (r bx f g n jb : Nat) (ev : Operand → Value) (z : World) (ec : ∀ c, ev (.const c) = c) (e0 : ev (.tmp 0) = .pointer (some ⟨r, 0, none⟩)) (hS : (loadVar 26 ⟨bx, 3, none⟩).run Tryd.prog z = .ok (.agg #[.int .i64 1, .int .i64 1]) z ∧ z.cell? ⟨bx, 1, none⟩ = some (.int .i64 (n : Int)) ∧ z.cell? ⟨r, 7, none⟩ = some (.pointer (some ⟨f, 0, none⟩))) : (execOp ev ⟨some 17, Op.move (Operand.tmp 0), 67, "", #[], none⟩).run Tryd.prog z = .ok (.value (.pointer (some ⟨r, 0, none⟩))) z := by
  obtain ⟨sa, sb, sc⟩ := hS
  go_simp
theorem rj1_5 (r bx f g n jb : Nat) (ev : Operand → Value) (z : World) (ec : ∀ c, ev (.const c) = c) (e17 : ev (.tmp 17) = .pointer (some ⟨r, 0, none⟩)) (hS : (loadVar 26 ⟨bx, 3, none⟩).run Tryd.prog z = .ok (.agg #[.int .i64 1, .int .i64 1]) z ∧ z.cell? ⟨bx, 1, none⟩ = some (.int .i64 (n : Int)) ∧ z.cell? ⟨r, 7, none⟩ = some (.pointer (some ⟨f, 0, none⟩))) : (execOp ev ⟨some 18, Op.nilCheck (Operand.tmp 17), 0, "", #[], none⟩).run Tryd.prog z = .ok (.value (.pointer (some ⟨r, 0, none⟩))) z := by
  obtain ⟨sa, sb, sc⟩ := hS
  go_simp
theorem rj1_6 (r bx f g n jb : Nat) (ev : Operand → Value) (z : World) (ec : ∀ c, ev (.const c) = c) (e18 : ev (.tmp 18) = .pointer (some ⟨r, 0, none⟩)) (hS : (loadVar 26 ⟨bx, 3, none⟩).run Tryd.prog z = .ok (.agg #[.int .i64 1, .int .i64 1]) z ∧ z.cell? ⟨bx, 1, none⟩ = some (.int .i64 (n : Int)) ∧ z.cell? ⟨r, 7, none⟩ = some (.pointer (some ⟨f, 0, none⟩))) : (execOp ev ⟨some 19, Op.fieldAddr 75 (Operand.tmp 18) 3, 0, "", #[], none⟩).run Tryd.prog z = .ok (.value (.pointer (some ⟨r, 7, none⟩))) z := by
  obtain ⟨sa, sb, sc⟩ := hS
  go_simp
theorem rj1_7 (r bx f g n jb : Nat) (ev : Operand → Value) (z : World) (ec : ∀ c, ev (.const c) = c) (e19 : ev (.tmp 19) = .pointer (some ⟨r, 7, none⟩)) (hS : (loadVar 26 ⟨bx, 3, none⟩).run Tryd.prog z = .ok (.agg #[.int .i64 1, .int .i64 1]) z ∧ z.cell? ⟨bx, 1, none⟩ = some (.int .i64 (n : Int)) ∧ z.cell? ⟨r, 7, none⟩ = some (.pointer (some ⟨f, 0, none⟩))) : (execOp ev ⟨some 20, Op.load 58 (Operand.tmp 19), 58, "", #[], none⟩).run Tryd.prog z = .ok (.value (.pointer (some ⟨f, 0, none⟩))) z := by
  obtain ⟨sa, sb, sc⟩ := hS
  go_simp
set_option maxRecDepth 100000 in
theorem rj1_8 (r bx f g n jb : Nat) (ev : Operand → Value) (z : World) (ec : ∀ c, ev (.const c) = c) (ef : ev (.func 91) = .func (.func 91) #[] #[]) (e20 : ev (.tmp 20) = .pointer (some ⟨f, 0, none⟩)) : (execOp ev ⟨some 21, Op.call { callee := Callee.value (Operand.func 91), args := #[Operand.tmp 20], argTypes := #[58] }, 27, "", #[], none⟩).run Tryd.prog z = .ok (.enter 91 #[.pointer (some ⟨f, 0, none⟩)]) z :=
  enter_run _ ef (by simp only [List.map_toArray, List.map_cons, List.map_nil, ec, e20]) (fun _ => by rfl)
set_option maxRecDepth 100000 in
theorem rj1_9 (r bx f g n jb : Nat) (ev : Operand → Value) (z : World) (ec : ∀ c, ev (.const c) = c) (ef : ev (.func 115) = .func (.func 115) #[] #[]) (e14 : ev (.tmp 14) = .agg #[.int .i64 1, .int .i64 1]) (e16 : ev (.tmp 16) = .int .i64 (n : Int)) (e21 : ev (.tmp 21) = .slice (some ⟨g, 0, none⟩) 2 2) : (execOp ev ⟨some 22, Op.call { callee := Callee.value (Operand.func 115), args := #[Operand.tmp 14, Operand.tmp 16, Operand.tmp 21], argTypes := #[26, 3, 27] }, 146, "", #[], none⟩).run Tryd.prog z = .ok (.enter 115 #[.agg #[.int .i64 1, .int .i64 1], .int .i64 (n : Int), .slice (some ⟨g, 0, none⟩) 2 2]) z :=
  enter_run _ ef (by simp only [List.map_toArray, List.map_cons, List.map_nil, ec, e14, e16, e21]) (fun _ => by rfl)
theorem rj1_10 (r bx f g n jb : Nat) (ev : Operand → Value) (z : World) (ec : ∀ c, ev (.const c) = c) (e22 : ev (.tmp 22) = .tuple #[.slice (some ⟨jb, 0, none⟩) n n, .int .i64 0]) (hS : (loadVar 26 ⟨bx, 3, none⟩).run Tryd.prog z = .ok (.agg #[.int .i64 1, .int .i64 1]) z ∧ z.cell? ⟨bx, 1, none⟩ = some (.int .i64 (n : Int)) ∧ z.cell? ⟨r, 7, none⟩ = some (.pointer (some ⟨f, 0, none⟩))) : (execOp ev ⟨some 12, Op.move (Operand.tmp 22), 146, "", #[], none⟩).run Tryd.prog z = .ok (.value (.tuple #[.slice (some ⟨jb, 0, none⟩) n n, .int .i64 0])) z := by
  obtain ⟨sa, sb, sc⟩ := hS
  go_simp
theorem rj1_11 (r bx f g n jb : Nat) (ev : Operand → Value) (z : World) (ec : ∀ c, ev (.const c) = c) (e12 : ev (.tmp 12) = .tuple #[.slice (some ⟨jb, 0, none⟩) n n, .int .i64 0]) (hS : (loadVar 26 ⟨bx, 3, none⟩).run Tryd.prog z = .ok (.agg #[.int .i64 1, .int .i64 1]) z ∧ z.cell? ⟨bx, 1, none⟩ = some (.int .i64 (n : Int)) ∧ z.cell? ⟨r, 7, none⟩ = some (.pointer (some ⟨f, 0, none⟩))) : (execOp ev ⟨some 23, Op.extract (Operand.tmp 12) 0, 22, "", #[], none⟩).run Tryd.prog z = .ok (.value (.slice (some ⟨jb, 0, none⟩) n n)) z := by
  obtain ⟨sa, sb, sc⟩ := hS
  go_simp
theorem rj1_12 (r bx f g n jb : Nat) (ev : Operand → Value) (z : World) (ec : ∀ c, ev (.const c) = c) (e12 : ev (.tmp 12) = .tuple #[.slice (some ⟨jb, 0, none⟩) n n, .int .i64 0]) (hS : (loadVar 26 ⟨bx, 3, none⟩).run Tryd.prog z = .ok (.agg #[.int .i64 1, .int .i64 1]) z ∧ z.cell? ⟨bx, 1, none⟩ = some (.int .i64 (n : Int)) ∧ z.cell? ⟨r, 7, none⟩ = some (.pointer (some ⟨f, 0, none⟩))) : (execOp ev ⟨some 24, Op.extract (Operand.tmp 12) 1, 28, "", #[], none⟩).run Tryd.prog z = .ok (.value (.int .i64 0)) z := by
  obtain ⟨sa, sb, sc⟩ := hS
  go_simp
theorem rj1_13 (r bx f g n jb : Nat) (ev : Operand → Value) (z : World) (ec : ∀ c, ev (.const c) = c) (e23 : ev (.tmp 23) = .slice (some ⟨jb, 0, none⟩) n n) (hS : (loadVar 26 ⟨bx, 3, none⟩).run Tryd.prog z = .ok (.agg #[.int .i64 1, .int .i64 1]) z ∧ z.cell? ⟨bx, 1, none⟩ = some (.int .i64 (n : Int)) ∧ z.cell? ⟨r, 7, none⟩ = some (.pointer (some ⟨f, 0, none⟩))) : (execOp ev ⟨some 3, Op.assign (Operand.tmp 23), 22, "", #[], none⟩).run Tryd.prog z = .ok (.value (.slice (some ⟨jb, 0, none⟩) n n)) z := by
  obtain ⟨sa, sb, sc⟩ := hS
  go_simp
theorem rj1_14 (r bx f g n jb : Nat) (ev : Operand → Value) (z : World) (ec : ∀ c, ev (.const c) = c) (e24 : ev (.tmp 24) = .int .i64 0) (hS : (loadVar 26 ⟨bx, 3, none⟩).run Tryd.prog z = .ok (.agg #[.int .i64 1, .int .i64 1]) z ∧ z.cell? ⟨bx, 1, none⟩ = some (.int .i64 (n : Int)) ∧ z.cell? ⟨r, 7, none⟩ = some (.pointer (some ⟨f, 0, none⟩))) : (execOp ev ⟨some 4, Op.assign (Operand.tmp 24), 28, "", #[], none⟩).run Tryd.prog z = .ok (.value (.int .i64 0)) z := by
  obtain ⟨sa, sb, sc⟩ := hS
  go_simp
structure rj1R (ops : Array Oper) : Prop where
  size : ops.size = 15
  sel : Region.noSelect ops = true
  o0 : (ops[0]?).map bare = some ⟨some 13, Op.fieldAddr 33 (Operand.tmp 2) 3, 0, "", #[], none⟩
  o1 : (ops[1]?).map bare = some ⟨some 14, Op.load 26 (Operand.tmp 13), 26, "", #[], none⟩
  o2 : (ops[2]?).map bare = some ⟨some 15, Op.fieldAddr 33 (Operand.tmp 2) 1, 0, "", #[], none⟩
  o3 : (ops[3]?).map bare = some ⟨some 16, Op.load 3 (Operand.tmp 15), 3, "", #[], none⟩
  o4 : (ops[4]?).map bare = some ⟨some 17, Op.move (Operand.tmp 0), 67, "", #[], none⟩
  o5 : (ops[5]?).map bare = some ⟨some 18, Op.nilCheck (Operand.tmp 17), 0, "", #[], none⟩
  o6 : (ops[6]?).map bare = some ⟨some 19, Op.fieldAddr 75 (Operand.tmp 18) 3, 0, "", #[], none⟩
  o7 : (ops[7]?).map bare = some ⟨some 20, Op.load 58 (Operand.tmp 19), 58, "", #[], none⟩
  o8 : (ops[8]?).map bare = some ⟨some 21, Op.call { callee := Callee.value (Operand.func 91), args := #[Operand.tmp 20], argTypes := #[58] }, 27, "", #[], none⟩
  o9 : (ops[9]?).map bare = some ⟨some 22, Op.call { callee := Callee.value (Operand.func 115), args := #[Operand.tmp 14, Operand.tmp 16, Operand.tmp 21], argTypes := #[26, 3, 27] }, 146, "", #[], none⟩
  o10 : (ops[10]?).map bare = some ⟨some 12, Op.move (Operand.tmp 22), 146, "", #[], none⟩
  o11 : (ops[11]?).map bare = some ⟨some 23, Op.extract (Operand.tmp 12) 0, 22, "", #[], none⟩
  o12 : (ops[12]?).map bare = some ⟨some 24, Op.extract (Operand.tmp 12) 1, 28, "", #[], none⟩
  o13 : (ops[13]?).map bare = some ⟨some 3, Op.assign (Operand.tmp 23), 22, "", #[], none⟩
  o14 : (ops[14]?).map bare = some ⟨some 4, Op.assign (Operand.tmp 24), 28, "", #[], none⟩
  may0 : takeB .any ops [0, 1, 2, 3, 4, 5, 6, 7] (Array.replicate 15 false) = true
  r8 : Region.ready .any ops (mark [0, 1, 2, 3, 4, 5, 6, 7] (Array.replicate 15 false)) = [8]
  r9 : Region.ready .any ops ((mark [0, 1, 2, 3, 4, 5, 6, 7] (Array.replicate 15 false)).setIfInBounds 8 true) = [9]
  may1 : takeB .any ops [10, 11, 12, 13, 14] (((mark [0, 1, 2, 3, 4, 5, 6, 7] (Array.replicate 15 false)).setIfInBounds 8 true).setIfInBounds 9 true) = true
  fin : Region.ready .any ops (mark [10, 11, 12, 13, 14] (((mark [0, 1, 2, 3, 4, 5, 6, 7] (Array.replicate 15 false)).setIfInBounds 8 true).setIfInBounds 9 true)) = []

set_option maxRecDepth 100000 in
set_option maxHeartbeats 3200000 in
theorem rj1_region {ops : Array Oper} {id : Nat} {Q : Exit → Act → World → Prop} {a : Act} {y : World} (R : rj1R ops) (r bx f g n jb : Nat)
    (hQ : ∀ d v c a w, Q (.panic c) (a.put d v) w → Q (.panic c) a w) (hsz : a.tmps.size = 66) (e0 : a.eval (.tmp 0) = .pointer (some ⟨r, 0, none⟩)) (e2 : a.eval (.tmp 2) = .pointer (some ⟨bx, 0, none⟩)) (hS0 : ((loadVar 26 ⟨bx, 3, none⟩).run Tryd.prog y.drew = .ok (.agg #[.int .i64 1, .int .i64 1]) y.drew ∧ y.drew.cell? ⟨bx, 1, none⟩ = some (.int .i64 (n : Int)) ∧ y.drew.cell? ⟨r, 7, none⟩ = some (.pointer (some ⟨f, 0, none⟩)))) (T : Nat → World → Prop) (hc : Calls Tryd.prog 91 #[.pointer (some ⟨f, 0, none⟩)] y.drew fun e w9 => e = .returned (.slice (some ⟨g, 0, none⟩) 2 2) ∧ ((loadVar 26 ⟨bx, 3, none⟩).run Tryd.prog w9 = .ok (.agg #[.int .i64 1, .int .i64 1]) w9 ∧ w9.cell? ⟨bx, 1, none⟩ = some (.int .i64 (n : Int)) ∧ w9.cell? ⟨r, 7, none⟩ = some (.pointer (some ⟨f, 0, none⟩))) ∧ Calls Tryd.prog 115 #[.agg #[.int .i64 1, .int .i64 1], .int .i64 (n : Int), .slice (some ⟨g, 0, none⟩) 2 2] w9 fun e w9 => ∃ jb : Nat, e = .returned (.tuple #[.slice (some ⟨jb, 0, none⟩) n n, .int .i64 0]) ∧ ((loadVar 26 ⟨bx, 3, none⟩).run Tryd.prog w9 = .ok (.agg #[.int .i64 1, .int .i64 1]) w9 ∧ w9.cell? ⟨bx, 1, none⟩ = some (.int .i64 (n : Int)) ∧ w9.cell? ⟨r, 7, none⟩ = some (.pointer (some ⟨f, 0, none⟩))) ∧ T jb w9)
    (hK : ∀ (jb : Nat) (w9 : World), T jb w9 → Q .normal (((((((((((((((a.put (some 13) (.pointer (some ⟨bx, 3, none⟩))).put (some 14) (.agg #[.int .i64 1, .int .i64 1])).put (some 15) (.pointer (some ⟨bx, 1, none⟩))).put (some 16) (.int .i64 (n : Int))).put (some 17) (.pointer (some ⟨r, 0, none⟩))).put (some 18) (.pointer (some ⟨r, 0, none⟩))).put (some 19) (.pointer (some ⟨r, 7, none⟩))).put (some 20) (.pointer (some ⟨f, 0, none⟩))).put (some 21) (.slice (some ⟨g, 0, none⟩) 2 2)).put (some 22) (.tuple #[.slice (some ⟨jb, 0, none⟩) n n, .int .i64 0])).put (some 12) (.tuple #[.slice (some ⟨jb, 0, none⟩) n n, .int .i64 0])).put (some 23) (.slice (some ⟨jb, 0, none⟩) n n)).put (some 24) (.int .i64 0)).put (some 3) (.slice (some ⟨jb, 0, none⟩) n n)).put (some 4) (.int .i64 0)) w9) : (Code.region id ops true).wp Tryd.prog Q a y := by
  have HR : Hid (rj1R ops) := R
  have hdf : a.defers = a.defers := rfl
  refine wp_region_held_drew (S := (fun z : World => (loadVar 26 ⟨bx, 3, none⟩).run Tryd.prog z = .ok (.agg #[.int .i64 1, .int .i64 1]) z ∧ z.cell? ⟨bx, 1, none⟩ = some (.int .i64 (n : Int)) ∧ z.cell? ⟨r, 7, none⟩ = some (.pointer (some ⟨f, 0, none⟩)))) (by kernel_rfl) (hS0) (fun hHeld => ?_)
  rw [R.size]
  clear R
  refine wpAnyH_takes HR.out.sel hQ hHeld [0, 1, 2, 3, 4, 5, 6, 7] 7 _ _ HR.out.may0 ?_
  refine wpTake_stepE ⟨some 13, Op.fieldAddr 33 (Operand.tmp 2) 3, 0, "", #[], none⟩ 13 (.pointer (some ⟨bx, 3, none⟩)) HR.out.o0 rfl (by rw [hsz]; decide) (wanted_none rfl) (fun z hS => rj1_0 r bx f g n jb _ z (fun _ => rfl) e2 hS) ?_
  intro a1 ha1 s1 f1 n1 k1
  replace hsz := s1.trans hsz
  replace hdf := f1.trans hdf
  replace e0 := (k1 0 (by decide)).trans e0
  replace e2 := (k1 2 (by decide)).trans e2
  have e13 := n1
  clear s1 f1 n1 k1
  refine wpTake_stepE ⟨some 14, Op.load 26 (Operand.tmp 13), 26, "", #[], none⟩ 14 (.agg #[.int .i64 1, .int .i64 1]) HR.out.o1 rfl (by rw [hsz]; decide) (wanted_none rfl) (fun z hS => rj1_1 r bx f g n jb _ z (fun _ => rfl) e13 hS) ?_
  intro a2 ha2 s1 f1 n1 k1
  replace hsz := s1.trans hsz
  replace hdf := f1.trans hdf
  replace e0 := (k1 0 (by decide)).trans e0
  replace e2 := (k1 2 (by decide)).trans e2
  have e14 := n1
  clear s1 f1 n1 k1
  refine wpTake_stepE ⟨some 15, Op.fieldAddr 33 (Operand.tmp 2) 1, 0, "", #[], none⟩ 15 (.pointer (some ⟨bx, 1, none⟩)) HR.out.o2 rfl (by rw [hsz]; decide) (wanted_none rfl) (fun z hS => rj1_2 r bx f g n jb _ z (fun _ => rfl) e2 hS) ?_
  intro a3 ha3 s1 f1 n1 k1
  replace hsz := s1.trans hsz
  replace hdf := f1.trans hdf
  replace e0 := (k1 0 (by decide)).trans e0
  replace e2 := (k1 2 (by decide)).trans e2
  replace e14 := (k1 14 (by decide)).trans e14
  have e15 := n1
  clear s1 f1 n1 k1
  refine wpTake_stepE ⟨some 16, Op.load 3 (Operand.tmp 15), 3, "", #[], none⟩ 16 (.int .i64 (n : Int)) HR.out.o3 rfl (by rw [hsz]; decide) (wanted_none rfl) (fun z hS => rj1_3 r bx f g n jb _ z (fun _ => rfl) e15 hS) ?_
  intro a4 ha4 s1 f1 n1 k1
  replace hsz := s1.trans hsz
  replace hdf := f1.trans hdf
  replace e0 := (k1 0 (by decide)).trans e0
  replace e2 := (k1 2 (by decide)).trans e2
  replace e14 := (k1 14 (by decide)).trans e14
  have e16 := n1
  clear s1 f1 n1 k1
  refine wpTake_stepE ⟨some 17, Op.move (Operand.tmp 0), 67, "", #[], none⟩ 17 (.pointer (some ⟨r, 0, none⟩)) HR.out.o4 rfl (by rw [hsz]; decide) (wanted_none rfl) (fun z hS => rj1_4 r bx f g n jb _ z (fun _ => rfl) e0 hS) ?_
  intro a5 ha5 s1 f1 n1 k1
  replace hsz := s1.trans hsz
  replace hdf := f1.trans hdf
  replace e0 := (k1 0 (by decide)).trans e0
  replace e2 := (k1 2 (by decide)).trans e2
  replace e14 := (k1 14 (by decide)).trans e14
  replace e16 := (k1 16 (by decide)).trans e16
  have e17 := n1
  clear s1 f1 n1 k1
  refine wpTake_stepE ⟨some 18, Op.nilCheck (Operand.tmp 17), 0, "", #[], none⟩ 18 (.pointer (some ⟨r, 0, none⟩)) HR.out.o5 rfl (by rw [hsz]; decide) (wanted_none rfl) (fun z hS => rj1_5 r bx f g n jb _ z (fun _ => rfl) e17 hS) ?_
  intro a6 ha6 s1 f1 n1 k1
  replace hsz := s1.trans hsz
  replace hdf := f1.trans hdf
  replace e0 := (k1 0 (by decide)).trans e0
  replace e2 := (k1 2 (by decide)).trans e2
  replace e14 := (k1 14 (by decide)).trans e14
  replace e16 := (k1 16 (by decide)).trans e16
  have e18 := n1
  clear s1 f1 n1 k1
  refine wpTake_stepE ⟨some 19, Op.fieldAddr 75 (Operand.tmp 18) 3, 0, "", #[], none⟩ 19 (.pointer (some ⟨r, 7, none⟩)) HR.out.o6 rfl (by rw [hsz]; decide) (wanted_none rfl) (fun z hS => rj1_6 r bx f g n jb _ z (fun _ => rfl) e18 hS) ?_
  intro a7 ha7 s1 f1 n1 k1
  replace hsz := s1.trans hsz
  replace hdf := f1.trans hdf
  replace e0 := (k1 0 (by decide)).trans e0
  replace e2 := (k1 2 (by decide)).trans e2
  replace e14 := (k1 14 (by decide)).trans e14
  replace e16 := (k1 16 (by decide)).trans e16
  have e19 := n1
  clear s1 f1 n1 k1
  refine wpTake_stepE ⟨some 20, Op.load 58 (Operand.tmp 19), 58, "", #[], none⟩ 20 (.pointer (some ⟨f, 0, none⟩)) HR.out.o7 rfl (by rw [hsz]; decide) (wanted_none rfl) (fun z hS => rj1_7 r bx f g n jb _ z (fun _ => rfl) e19 hS) ?_
  intro a8 ha8 s1 f1 n1 k1
  replace hsz := s1.trans hsz
  replace hdf := f1.trans hdf
  replace e0 := (k1 0 (by decide)).trans e0
  replace e2 := (k1 2 (by decide)).trans e2
  replace e14 := (k1 14 (by decide)).trans e14
  replace e16 := (k1 16 (by decide)).trans e16
  have e20 := n1
  clear s1 f1 n1 k1
  refine wpTake_nil ?_
  refine wpAnyH_one ⟨some 21, Op.call { callee := Callee.value (Operand.func 91), args := #[Operand.tmp 20], argTypes := #[58] }, 27, "", #[], none⟩ HR.out.r8 HR.out.o8 rfl (fun K' hK' => ?_)
  refine wp_enter (rj1_8 r bx f g n jb _ _ (fun _ => rfl) rfl e20) (hc) ?_
  rintro e9 w9 ⟨rfl, hS9, hc2⟩
  refine ⟨_, rfl, hK'.out _ _ (hS9) ?_⟩
  replace hHeld := hS9
  clear hK' K'
  show wpAnyH _ _ _ _ _ _ _ (Act.put a8 (some 21) (.slice (some ⟨g, 0, none⟩) 2 2)) _
  obtain ⟨s1, f1, n1, k1⟩ := act_put a8 21 (.slice (some ⟨g, 0, none⟩) 2 2) (show 21 < _ by rw [hsz]; decide)
  obtain ⟨a9, ha9⟩ : ∃ x, x = Act.put a8 (some 21) (.slice (some ⟨g, 0, none⟩) 2 2) := ⟨_, rfl⟩
  rw [← ha9] at s1 f1 n1 k1 ⊢
  replace hsz := s1.trans hsz
  replace hdf := f1.trans hdf
  replace e0 := (k1 0 (by decide)).trans e0
  replace e2 := (k1 2 (by decide)).trans e2
  replace e14 := (k1 14 (by decide)).trans e14
  replace e16 := (k1 16 (by decide)).trans e16
  have e21 := n1
  clear s1 f1 n1 k1
  refine wpAnyH_one ⟨some 22, Op.call { callee := Callee.value (Operand.func 115), args := #[Operand.tmp 14, Operand.tmp 16, Operand.tmp 21], argTypes := #[26, 3, 27] }, 146, "", #[], none⟩ HR.out.r9 HR.out.o9 rfl (fun K' hK' => ?_)
  refine wp_enter (rj1_9 r bx f g n jb _ _ (fun _ => rfl) rfl e14 e16 e21) (hc2) ?_
  rintro e9 w9 ⟨jb, rfl, hS9, hT⟩
  refine ⟨_, rfl, hK'.out _ _ (hS9) ?_⟩
  replace hHeld := hS9
  clear hK' K'
  show wpAnyH _ _ _ _ _ _ _ (Act.put a9 (some 22) (.tuple #[.slice (some ⟨jb, 0, none⟩) n n, .int .i64 0])) _
  obtain ⟨s1, f1, n1, k1⟩ := act_put a9 22 (.tuple #[.slice (some ⟨jb, 0, none⟩) n n, .int .i64 0]) (show 22 < _ by rw [hsz]; decide)
  obtain ⟨a10, ha10⟩ : ∃ x, x = Act.put a9 (some 22) (.tuple #[.slice (some ⟨jb, 0, none⟩) n n, .int .i64 0]) := ⟨_, rfl⟩
  rw [← ha10] at s1 f1 n1 k1 ⊢
  replace hsz := s1.trans hsz
  replace hdf := f1.trans hdf
  replace e0 := (k1 0 (by decide)).trans e0
  replace e2 := (k1 2 (by decide)).trans e2
  have e22 := n1
  clear s1 f1 n1 k1
  refine wpAnyH_takes HR.out.sel hQ hHeld [10, 11, 12, 13, 14] 0 _ _ HR.out.may1 ?_
  refine wpTake_stepE ⟨some 12, Op.move (Operand.tmp 22), 146, "", #[], none⟩ 12 (.tuple #[.slice (some ⟨jb, 0, none⟩) n n, .int .i64 0]) HR.out.o10 rfl (by rw [hsz]; decide) (wanted_none rfl) (fun z hS => rj1_10 r bx f g n jb _ z (fun _ => rfl) e22 hS) ?_
  intro a11 ha11 s1 f1 n1 k1
  replace hsz := s1.trans hsz
  replace hdf := f1.trans hdf
  replace e0 := (k1 0 (by decide)).trans e0
  replace e2 := (k1 2 (by decide)).trans e2
  have e12 := n1
  clear s1 f1 n1 k1
  refine wpTake_stepE ⟨some 23, Op.extract (Operand.tmp 12) 0, 22, "", #[], none⟩ 23 (.slice (some ⟨jb, 0, none⟩) n n) HR.out.o11 rfl (by rw [hsz]; decide) (wanted_none rfl) (fun z hS => rj1_11 r bx f g n jb _ z (fun _ => rfl) e12 hS) ?_
  intro a12 ha12 s1 f1 n1 k1
  replace hsz := s1.trans hsz
  replace hdf := f1.trans hdf
  replace e0 := (k1 0 (by decide)).trans e0
  replace e2 := (k1 2 (by decide)).trans e2
  replace e12 := (k1 12 (by decide)).trans e12
  have e23 := n1
  clear s1 f1 n1 k1
  refine wpTake_stepE ⟨some 24, Op.extract (Operand.tmp 12) 1, 28, "", #[], none⟩ 24 (.int .i64 0) HR.out.o12 rfl (by rw [hsz]; decide) (wanted_none rfl) (fun z hS => rj1_12 r bx f g n jb _ z (fun _ => rfl) e12 hS) ?_
  intro a13 ha13 s1 f1 n1 k1
  replace hsz := s1.trans hsz
  replace hdf := f1.trans hdf
  replace e0 := (k1 0 (by decide)).trans e0
  replace e2 := (k1 2 (by decide)).trans e2
  replace e23 := (k1 23 (by decide)).trans e23
  have e24 := n1
  clear s1 f1 n1 k1
  refine wpTake_stepE ⟨some 3, Op.assign (Operand.tmp 23), 22, "", #[], none⟩ 3 (.slice (some ⟨jb, 0, none⟩) n n) HR.out.o13 rfl (by rw [hsz]; decide) (wanted_none rfl) (fun z hS => rj1_13 r bx f g n jb _ z (fun _ => rfl) e23 hS) ?_
  intro a14 ha14 s1 f1 n1 k1
  replace hsz := s1.trans hsz
  replace hdf := f1.trans hdf
  replace e0 := (k1 0 (by decide)).trans e0
  replace e2 := (k1 2 (by decide)).trans e2
  replace e24 := (k1 24 (by decide)).trans e24
  have e3 := n1
  clear s1 f1 n1 k1
  refine wpTake_stepE ⟨some 4, Op.assign (Operand.tmp 24), 28, "", #[], none⟩ 4 (.int .i64 0) HR.out.o14 rfl (by rw [hsz]; decide) (wanted_none rfl) (fun z hS => rj1_14 r bx f g n jb _ z (fun _ => rfl) e24 hS) ?_
  intro a15 ha15 s1 f1 n1 k1
  replace hsz := s1.trans hsz
  replace hdf := f1.trans hdf
  replace e0 := (k1 0 (by decide)).trans e0
  replace e2 := (k1 2 (by decide)).trans e2
  replace e3 := (k1 3 (by decide)).trans e3
  clear s1 f1 n1 k1
  refine wpTake_nil ?_
  refine wpAnyH_done HR.out.fin ?_ _
  rw [ha15, ha14, ha13, ha12, ha11, ha10, ha9, ha8, ha7, ha6, ha5, ha4, ha3, ha2, ha1]
  exact hK _ _ hT
-- rj1: ⟨by kernel_rfl, by kernel_rfl, by kernel_rfl, by kernel_rfl, by kernel_rfl, by kernel_rfl, by kernel_rfl, by kernel_rfl, by kernel_rfl, by kernel_rfl, by kernel_rfl, by kernel_rfl, by kernel_rfl, by kernel_rfl, by kernel_rfl, by kernel_rfl, by kernel_rfl, by kernel_rfl, by kernel_rfl, by kernel_rfl, by kernel_rfl, by kernel_rfl⟩

theorem rj2_0 (bx : Nat) (v : Value) (s2 sm : Int) (b : Bool) (ev : Operand → Value) (z : World) (ec : ∀ c, ev (.const c) = c) (e3 : ev (.tmp 3) = v) (hS : z.cell? ⟨bx, 2, none⟩ = some (.int .u32 sm) ∧ (s2 != sm) = b) : (execOp ev ⟨some 25, Op.move (Operand.tmp 3), 22, "", #[], none⟩).run Tryd.prog z = .ok (.value (v)) z := by
  obtain ⟨sa, sb⟩ := hS
  go_simp
theorem rj2_2 (bx : Nat) (v : Value) (s2 sm : Int) (b : Bool) (ev : Operand → Value) (z : World) (ec : ∀ c, ev (.const c) = c) (e2 : ev (.tmp 2) = .pointer (some ⟨bx, 0, none⟩)) (hS : z.cell? ⟨bx, 2, none⟩ = some (.int .u32 sm) ∧ (s2 != sm) = b) : (execOp ev ⟨some 27, Op.fieldAddr 33 (Operand.tmp 2) 2, 0, "", #[], none⟩).run Tryd.prog z = .ok (.value (.pointer (some ⟨bx, 2, none⟩))) z := by
  obtain ⟨sa, sb⟩ := hS
  go_simp
theorem rj2_3 (bx : Nat) (v : Value) (s2 sm : Int) (b : Bool) (ev : Operand → Value) (z : World) (ec : ∀ c, ev (.const c) = c) (e27 : ev (.tmp 27) = .pointer (some ⟨bx, 2, none⟩)) (hS : z.cell? ⟨bx, 2, none⟩ = some (.int .u32 sm) ∧ (s2 != sm) = b) : (execOp ev ⟨some 28, Op.load 31 (Operand.tmp 27), 31, "", #[], none⟩).run Tryd.prog z = .ok (.value (.int .u32 sm)) z := by
  obtain ⟨sa, sb⟩ := hS
  go_simp
set_option maxRecDepth 100000 in
theorem rj2_1 (bx : Nat) (v : Value) (s2 sm : Int) (b : Bool) (ev : Operand → Value) (z : World) (ec : ∀ c, ev (.const c) = c) (ef : ev (.func 70) = .func (.func 70) #[] #[]) (e25 : ev (.tmp 25) = v) : (execOp ev ⟨some 26, Op.call { callee := Callee.value (Operand.func 70), args := #[Operand.tmp 25], argTypes := #[22] }, 31, "", #[], none⟩).run Tryd.prog z = .ok (.enter 70 #[v]) z :=
  enter_run _ ef (by simp only [List.map_toArray, List.map_cons, List.map_nil, ec, e25]) (fun _ => by rfl)
theorem rj2_4 (bx : Nat) (v : Value) (s2 sm : Int) (b : Bool) (ev : Operand → Value) (z : World) (ec : ∀ c, ev (.const c) = c) (e26 : ev (.tmp 26) = .int .u32 s2) (e28 : ev (.tmp 28) = .int .u32 sm) (hS : z.cell? ⟨bx, 2, none⟩ = some (.int .u32 sm) ∧ (s2 != sm) = b) : (execOp ev ⟨some 29, Op.binOp BinOp.neq 31 (Operand.tmp 26) (Operand.tmp 28) 31, 4, "", #[], none⟩).run Tryd.prog z = .ok (.value (.bool b)) z := by
  obtain ⟨sa, rfl⟩ := hS
  go_simp
structure rj2R (ops : Array Oper) : Prop where
  size : ops.size = 5
  sel : Region.noSelect ops = true
  o0 : (ops[0]?).map bare = some ⟨some 25, Op.move (Operand.tmp 3), 22, "", #[], none⟩
  o1 : (ops[1]?).map bare = some ⟨some 26, Op.call { callee := Callee.value (Operand.func 70), args := #[Operand.tmp 25], argTypes := #[22] }, 31, "", #[], none⟩
  o2 : (ops[2]?).map bare = some ⟨some 27, Op.fieldAddr 33 (Operand.tmp 2) 2, 0, "", #[], none⟩
  o3 : (ops[3]?).map bare = some ⟨some 28, Op.load 31 (Operand.tmp 27), 31, "", #[], none⟩
  o4 : (ops[4]?).map bare = some ⟨some 29, Op.binOp BinOp.neq 31 (Operand.tmp 26) (Operand.tmp 28) 31, 4, "", #[], none⟩
  may0 : takeB .any ops [0, 2, 3] (Array.replicate 5 false) = true
  r1 : Region.ready .any ops (mark [0, 2, 3] (Array.replicate 5 false)) = [1]
  may1 : takeB .any ops [4] ((mark [0, 2, 3] (Array.replicate 5 false)).setIfInBounds 1 true) = true
  fin : Region.ready .any ops (mark [4] ((mark [0, 2, 3] (Array.replicate 5 false)).setIfInBounds 1 true)) = []

set_option maxRecDepth 100000 in
set_option maxHeartbeats 3200000 in
theorem rj2_region {ops : Array Oper} {id : Nat} {Q : Exit → Act → World → Prop} {a : Act} {y : World} (R : rj2R ops) (bx : Nat) (v : Value) (s2 sm : Int) (b : Bool)
    (hQ : ∀ d v c a w, Q (.panic c) (a.put d v) w → Q (.panic c) a w) (hsz : a.tmps.size = 66) (e2 : a.eval (.tmp 2) = .pointer (some ⟨bx, 0, none⟩)) (e3 : a.eval (.tmp 3) = v) (hS0 : (y.drew.cell? ⟨bx, 2, none⟩ = some (.int .u32 sm) ∧ (s2 != sm) = b)) (T : World → Prop) (hc : Calls Tryd.prog 70 #[v] y.drew fun e w9 => e = .returned (.int .u32 s2) ∧ (w9.cell? ⟨bx, 2, none⟩ = some (.int .u32 sm) ∧ (s2 != sm) = b) ∧ T w9)
    (hK : ∀ (w9 : World), T w9 → Q .normal (((((a.put (some 25) (v)).put (some 27) (.pointer (some ⟨bx, 2, none⟩))).put (some 28) (.int .u32 sm)).put (some 26) (.int .u32 s2)).put (some 29) (.bool b)) w9) : (Code.region id ops true).wp Tryd.prog Q a y := by
  have HR : Hid (rj2R ops) := R
  have hdf : a.defers = a.defers := rfl
  refine wp_region_held_drew (S := (fun z : World => z.cell? ⟨bx, 2, none⟩ = some (.int .u32 sm) ∧ (s2 != sm) = b)) (by kernel_rfl) (hS0) (fun hHeld => ?_)
  rw [R.size]
  clear R
  refine wpAnyH_takes HR.out.sel hQ hHeld [0, 2, 3] 2 _ _ HR.out.may0 ?_
  refine wpTake_stepE ⟨some 25, Op.move (Operand.tmp 3), 22, "", #[], none⟩ 25 (v) HR.out.o0 rfl (by rw [hsz]; decide) (wanted_none rfl) (fun z hS => rj2_0 bx v s2 sm b _ z (fun _ => rfl) e3 hS) ?_
  intro a1 ha1 s1 f1 n1 k1
  replace hsz := s1.trans hsz
  replace hdf := f1.trans hdf
  replace e2 := (k1 2 (by decide)).trans e2
  replace e3 := (k1 3 (by decide)).trans e3
  have e25 := n1
  clear s1 f1 n1 k1
  refine wpTake_stepE ⟨some 27, Op.fieldAddr 33 (Operand.tmp 2) 2, 0, "", #[], none⟩ 27 (.pointer (some ⟨bx, 2, none⟩)) HR.out.o2 rfl (by rw [hsz]; decide) (wanted_none rfl) (fun z hS => rj2_2 bx v s2 sm b _ z (fun _ => rfl) e2 hS) ?_
  intro a2 ha2 s1 f1 n1 k1
  replace hsz := s1.trans hsz
  replace hdf := f1.trans hdf
  replace e2 := (k1 2 (by decide)).trans e2
  replace e3 := (k1 3 (by decide)).trans e3
  replace e25 := (k1 25 (by decide)).trans e25
  have e27 := n1
  clear s1 f1 n1 k1
  refine wpTake_stepE ⟨some 28, Op.load 31 (Operand.tmp 27), 31, "", #[], none⟩ 28 (.int .u32 sm) HR.out.o3 rfl (by rw [hsz]; decide) (wanted_none rfl) (fun z hS => rj2_3 bx v s2 sm b _ z (fun _ => rfl) e27 hS) ?_
  intro a3 ha3 s1 f1 n1 k1
  replace hsz := s1.trans hsz
  replace hdf := f1.trans hdf
  replace e2 := (k1 2 (by decide)).trans e2
  replace e3 := (k1 3 (by decide)).trans e3
  replace e25 := (k1 25 (by decide)).trans e25
  have e28 := n1
  clear s1 f1 n1 k1
  refine wpTake_nil ?_
  refine wpAnyH_one ⟨some 26, Op.call { callee := Callee.value (Operand.func 70), args := #[Operand.tmp 25], argTypes := #[22] }, 31, "", #[], none⟩ HR.out.r1 HR.out.o1 rfl (fun K' hK' => ?_)
  refine wp_enter (rj2_1 bx v s2 sm b _ _ (fun _ => rfl) rfl e25) (hc) ?_
  rintro e9 w9 ⟨rfl, hS9, hT⟩
  refine ⟨_, rfl, hK'.out _ _ (hS9) ?_⟩
  replace hHeld := hS9
  clear hK' K'
  show wpAnyH _ _ _ _ _ _ _ (Act.put a3 (some 26) (.int .u32 s2)) _
  obtain ⟨s1, f1, n1, k1⟩ := act_put a3 26 (.int .u32 s2) (show 26 < _ by rw [hsz]; decide)
  obtain ⟨a4, ha4⟩ : ∃ x, x = Act.put a3 (some 26) (.int .u32 s2) := ⟨_, rfl⟩
  rw [← ha4] at s1 f1 n1 k1 ⊢
  replace hsz := s1.trans hsz
  replace hdf := f1.trans hdf
  replace e2 := (k1 2 (by decide)).trans e2
  replace e3 := (k1 3 (by decide)).trans e3
  replace e28 := (k1 28 (by decide)).trans e28
  have e26 := n1
  clear s1 f1 n1 k1
  refine wpAnyH_takes HR.out.sel hQ hHeld [4] 0 _ _ HR.out.may1 ?_
  refine wpTake_stepE ⟨some 29, Op.binOp BinOp.neq 31 (Operand.tmp 26) (Operand.tmp 28) 31, 4, "", #[], none⟩ 29 (.bool b) HR.out.o4 rfl (by rw [hsz]; decide) (wanted_none rfl) (fun z hS => rj2_4 bx v s2 sm b _ z (fun _ => rfl) e26 e28 hS) ?_
  intro a5 ha5 s1 f1 n1 k1
  replace hsz := s1.trans hsz
  replace hdf := f1.trans hdf
  replace e2 := (k1 2 (by decide)).trans e2
  replace e3 := (k1 3 (by decide)).trans e3
  clear s1 f1 n1 k1
  refine wpTake_nil ?_
  refine wpAnyH_done HR.out.fin ?_ _
  rw [ha5, ha4, ha3, ha2, ha1]
  exact hK _ hT
-- rj2: ⟨by kernel_rfl, by kernel_rfl, by kernel_rfl, by kernel_rfl, by kernel_rfl, by kernel_rfl, by kernel_rfl, by kernel_rfl, by kernel_rfl, by kernel_rfl, by kernel_rfl⟩

theorem rj5_st (r sp : Nat) (v : Value) (ev : Operand → Value) (z : World) (e59 : ev (.tmp 59) = .pointer (some ⟨r, 8, none⟩)) (e57 : ev (.tmp 57) = .pointer (some ⟨sp, 0, none⟩)) (hc : z.cell? ⟨r, 8, none⟩ = some v) (hf : z.frozen? ⟨r, 8, none⟩ = false) : (execOp ev ⟨none, Op.store 73 (Operand.tmp 59) (Operand.tmp 57), 0, "", #[], none⟩).run Tryd.prog z = .ok .skip (z.setCell ⟨r, 8, none⟩ (.pointer (some ⟨sp, 0, none⟩))) := by go_simp
theorem rj5_0 (r t G gc cp sp : Nat) (p : Option Addr) (ev : Operand → Value) (z : World) (ec : ∀ c, ev (.const c) = c) (e0 : ev (.tmp 0) = .pointer (some ⟨r, 0, none⟩)) (hS : z.cell? ⟨r, 3, none⟩ = some (.int .i64 6) ∧ z.cell? ⟨r, 6, none⟩ = some (.slice p G cp)) : (execOp ev ⟨some 45, Op.move (Operand.tmp 0), 67, "", #[], none⟩).run Tryd.prog z = .ok (.value (.pointer (some ⟨r, 0, none⟩))) z := by
  obtain ⟨sa, sb⟩ := hS
  go_simp
theorem rj5_1 (r t G gc cp sp : Nat) (p : Option Addr) (ev : Operand → Value) (z : World) (ec : ∀ c, ev (.const c) = c) (e0 : ev (.tmp 0) = .pointer (some ⟨r, 0, none⟩)) (hS : z.cell? ⟨r, 3, none⟩ = some (.int .i64 6) ∧ z.cell? ⟨r, 6, none⟩ = some (.slice p G cp)) : (execOp ev ⟨some 46, Op.move (Operand.tmp 0), 67, "", #[], none⟩).run Tryd.prog z = .ok (.value (.pointer (some ⟨r, 0, none⟩))) z := by
  obtain ⟨sa, sb⟩ := hS
  go_simp
theorem rj5_2 (r t G gc cp sp : Nat) (p : Option Addr) (ev : Operand → Value) (z : World) (ec : ∀ c, ev (.const c) = c) (e46 : ev (.tmp 46) = .pointer (some ⟨r, 0, none⟩)) (hS : z.cell? ⟨r, 3, none⟩ = some (.int .i64 6) ∧ z.cell? ⟨r, 6, none⟩ = some (.slice p G cp)) : (execOp ev ⟨some 47, Op.nilCheck (Operand.tmp 46), 0, "", #[], none⟩).run Tryd.prog z = .ok (.value (.pointer (some ⟨r, 0, none⟩))) z := by
  obtain ⟨sa, sb⟩ := hS
  go_simp
theorem rj5_3 (r t G gc cp sp : Nat) (p : Option Addr) (ev : Operand → Value) (z : World) (ec : ∀ c, ev (.const c) = c) (e47 : ev (.tmp 47) = .pointer (some ⟨r, 0, none⟩)) (hS : z.cell? ⟨r, 3, none⟩ = some (.int .i64 6) ∧ z.cell? ⟨r, 6, none⟩ = some (.slice p G cp)) : (execOp ev ⟨some 48, Op.fieldAddr 75 (Operand.tmp 47) 2, 0, "", #[], none⟩).run Tryd.prog z = .ok (.value (.pointer (some ⟨r, 2, none⟩))) z := by
  obtain ⟨sa, sb⟩ := hS
  go_simp
theorem rj5_4 (r t G gc cp sp : Nat) (p : Option Addr) (ev : Operand → Value) (z : World) (ec : ∀ c, ev (.const c) = c) (e48 : ev (.tmp 48) = .pointer (some ⟨r, 2, none⟩)) (hS : z.cell? ⟨r, 3, none⟩ = some (.int .i64 6) ∧ z.cell? ⟨r, 6, none⟩ = some (.slice p G cp)) : (execOp ev ⟨some 49, Op.fieldAddr 66 (Operand.tmp 48) 1, 0, "", #[], none⟩).run Tryd.prog z = .ok (.value (.pointer (some ⟨r, 3, none⟩))) z := by
  obtain ⟨sa, sb⟩ := hS
  go_simp
theorem rj5_5 (r t G gc cp sp : Nat) (p : Option Addr) (ev : Operand → Value) (z : World) (ec : ∀ c, ev (.const c) = c) (e49 : ev (.tmp 49) = .pointer (some ⟨r, 3, none⟩)) (hS : z.cell? ⟨r, 3, none⟩ = some (.int .i64 6) ∧ z.cell? ⟨r, 6, none⟩ = some (.slice p G cp)) : (execOp ev ⟨some 50, Op.load 3 (Operand.tmp 49), 3, "", #[], none⟩).run Tryd.prog z = .ok (.value (.int .i64 6)) z := by
  obtain ⟨sa, sb⟩ := hS
  go_simp
theorem rj5_6 (r t G gc cp sp : Nat) (p : Option Addr) (ev : Operand → Value) (z : World) (ec : ∀ c, ev (.const c) = c) (e0 : ev (.tmp 0) = .pointer (some ⟨r, 0, none⟩)) (hS : z.cell? ⟨r, 3, none⟩ = some (.int .i64 6) ∧ z.cell? ⟨r, 6, none⟩ = some (.slice p G cp)) : (execOp ev ⟨some 51, Op.move (Operand.tmp 0), 67, "", #[], none⟩).run Tryd.prog z = .ok (.value (.pointer (some ⟨r, 0, none⟩))) z := by
  obtain ⟨sa, sb⟩ := hS
  go_simp
theorem rj5_7 (r t G gc cp sp : Nat) (p : Option Addr) (ev : Operand → Value) (z : World) (ec : ∀ c, ev (.const c) = c) (e51 : ev (.tmp 51) = .pointer (some ⟨r, 0, none⟩)) (hS : z.cell? ⟨r, 3, none⟩ = some (.int .i64 6) ∧ z.cell? ⟨r, 6, none⟩ = some (.slice p G cp)) : (execOp ev ⟨some 52, Op.nilCheck (Operand.tmp 51), 0, "", #[], none⟩).run Tryd.prog z = .ok (.value (.pointer (some ⟨r, 0, none⟩))) z := by
  obtain ⟨sa, sb⟩ := hS
  go_simp
theorem rj5_8 (r t G gc cp sp : Nat) (p : Option Addr) (ev : Operand → Value) (z : World) (ec : ∀ c, ev (.const c) = c) (e52 : ev (.tmp 52) = .pointer (some ⟨r, 0, none⟩)) (hS : z.cell? ⟨r, 3, none⟩ = some (.int .i64 6) ∧ z.cell? ⟨r, 6, none⟩ = some (.slice p G cp)) : (execOp ev ⟨some 53, Op.fieldAddr 75 (Operand.tmp 52) 2, 0, "", #[], none⟩).run Tryd.prog z = .ok (.value (.pointer (some ⟨r, 2, none⟩))) z := by
  obtain ⟨sa, sb⟩ := hS
  go_simp
theorem rj5_9 (r t G gc cp sp : Nat) (p : Option Addr) (ev : Operand → Value) (z : World) (ec : ∀ c, ev (.const c) = c) (e53 : ev (.tmp 53) = .pointer (some ⟨r, 2, none⟩)) (hS : z.cell? ⟨r, 3, none⟩ = some (.int .i64 6) ∧ z.cell? ⟨r, 6, none⟩ = some (.slice p G cp)) : (execOp ev ⟨some 54, Op.fieldAddr 66 (Operand.tmp 53) 3, 0, "", #[], none⟩).run Tryd.prog z = .ok (.value (.pointer (some ⟨r, 6, none⟩))) z := by
  obtain ⟨sa, sb⟩ := hS
  go_simp
theorem rj5_10 (r t G gc cp sp : Nat) (p : Option Addr) (ev : Operand → Value) (z : World) (ec : ∀ c, ev (.const c) = c) (e54 : ev (.tmp 54) = .pointer (some ⟨r, 6, none⟩)) (hS : z.cell? ⟨r, 3, none⟩ = some (.int .i64 6) ∧ z.cell? ⟨r, 6, none⟩ = some (.slice p G cp)) : (execOp ev ⟨some 55, Op.load 23 (Operand.tmp 54), 23, "", #[], none⟩).run Tryd.prog z = .ok (.value (.slice p G cp)) z := by
  obtain ⟨sa, sb⟩ := hS
  go_simp
theorem rj5_11 (r t G gc cp sp : Nat) (p : Option Addr) (ev : Operand → Value) (z : World) (ec : ∀ c, ev (.const c) = c) (e5 : ev (.tmp 5) = .slice (some ⟨t, 0, none⟩) G gc) (hS : z.cell? ⟨r, 3, none⟩ = some (.int .i64 6) ∧ z.cell? ⟨r, 6, none⟩ = some (.slice p G cp)) : (execOp ev ⟨some 56, Op.move (Operand.tmp 5), 27, "", #[], none⟩).run Tryd.prog z = .ok (.value (.slice (some ⟨t, 0, none⟩) G gc)) z := by
  obtain ⟨sa, sb⟩ := hS
  go_simp
set_option maxRecDepth 100000 in
theorem rj5_12 (r t G gc cp sp : Nat) (p : Option Addr) (ev : Operand → Value) (z : World) (ec : ∀ c, ev (.const c) = c) (ef : ev (.func 102) = .func (.func 102) #[] #[]) (e50 : ev (.tmp 50) = .int .i64 6) (e55 : ev (.tmp 55) = .slice p G cp) (e56 : ev (.tmp 56) = .slice (some ⟨t, 0, none⟩) G gc) : (execOp ev ⟨some 57, Op.call { callee := Callee.value (Operand.func 102), args := #[Operand.tmp 50, Operand.tmp 55, Operand.tmp 56], argTypes := #[3, 23, 27] }, 73, "", #[], none⟩).run Tryd.prog z = .ok (.enter 102 #[.int .i64 6, .slice p G cp, .slice (some ⟨t, 0, none⟩) G gc]) z :=
  enter_run _ ef (by simp only [List.map_toArray, List.map_cons, List.map_nil, ec, e50, e55, e56]) (fun _ => by rfl)
theorem rj5_13 (r t G gc cp sp : Nat) (p : Option Addr) (ev : Operand → Value) (z : World) (ec : ∀ c, ev (.const c) = c) (e45 : ev (.tmp 45) = .pointer (some ⟨r, 0, none⟩)) (hS : z.cell? ⟨r, 3, none⟩ = some (.int .i64 6) ∧ z.cell? ⟨r, 6, none⟩ = some (.slice p G cp)) : (execOp ev ⟨some 58, Op.nilCheck (Operand.tmp 45), 0, "", #[], none⟩).run Tryd.prog z = .ok (.value (.pointer (some ⟨r, 0, none⟩))) z := by
  obtain ⟨sa, sb⟩ := hS
  go_simp
theorem rj5_14 (r t G gc cp sp : Nat) (p : Option Addr) (ev : Operand → Value) (z : World) (ec : ∀ c, ev (.const c) = c) (e58 : ev (.tmp 58) = .pointer (some ⟨r, 0, none⟩)) (hS : z.cell? ⟨r, 3, none⟩ = some (.int .i64 6) ∧ z.cell? ⟨r, 6, none⟩ = some (.slice p G cp)) : (execOp ev ⟨some 59, Op.fieldAddr 75 (Operand.tmp 58) 4, 0, "", #[], none⟩).run Tryd.prog z = .ok (.value (.pointer (some ⟨r, 8, none⟩))) z := by
  obtain ⟨sa, sb⟩ := hS
  go_simp
structure rj5R (ops : Array Oper) : Prop where
  size : ops.size = 16
  sel : Region.noSelect ops = true
  o0 : (ops[0]?).map bare = some ⟨some 45, Op.move (Operand.tmp 0), 67, "", #[], none⟩
  o1 : (ops[1]?).map bare = some ⟨some 46, Op.move (Operand.tmp 0), 67, "", #[], none⟩
  o2 : (ops[2]?).map bare = some ⟨some 47, Op.nilCheck (Operand.tmp 46), 0, "", #[], none⟩
  o3 : (ops[3]?).map bare = some ⟨some 48, Op.fieldAddr 75 (Operand.tmp 47) 2, 0, "", #[], none⟩
  o4 : (ops[4]?).map bare = some ⟨some 49, Op.fieldAddr 66 (Operand.tmp 48) 1, 0, "", #[], none⟩
  o5 : (ops[5]?).map bare = some ⟨some 50, Op.load 3 (Operand.tmp 49), 3, "", #[], none⟩
  o6 : (ops[6]?).map bare = some ⟨some 51, Op.move (Operand.tmp 0), 67, "", #[], none⟩
  o7 : (ops[7]?).map bare = some ⟨some 52, Op.nilCheck (Operand.tmp 51), 0, "", #[], none⟩
  o8 : (ops[8]?).map bare = some ⟨some 53, Op.fieldAddr 75 (Operand.tmp 52) 2, 0, "", #[], none⟩
  o9 : (ops[9]?).map bare = some ⟨some 54, Op.fieldAddr 66 (Operand.tmp 53) 3, 0, "", #[], none⟩
  o10 : (ops[10]?).map bare = some ⟨some 55, Op.load 23 (Operand.tmp 54), 23, "", #[], none⟩
  o11 : (ops[11]?).map bare = some ⟨some 56, Op.move (Operand.tmp 5), 27, "", #[], none⟩
  o12 : (ops[12]?).map bare = some ⟨some 57, Op.call { callee := Callee.value (Operand.func 102), args := #[Operand.tmp 50, Operand.tmp 55, Operand.tmp 56], argTypes := #[3, 23, 27] }, 73, "", #[], none⟩
  o13 : (ops[13]?).map bare = some ⟨some 58, Op.nilCheck (Operand.tmp 45), 0, "", #[], none⟩
  o14 : (ops[14]?).map bare = some ⟨some 59, Op.fieldAddr 75 (Operand.tmp 58) 4, 0, "", #[], none⟩
  o15 : (ops[15]?).map bare = some ⟨none, Op.store 73 (Operand.tmp 59) (Operand.tmp 57), 0, "", #[], none⟩
  may0 : takeB .any ops [0, 1, 2, 3, 4, 5, 6, 7, 8, 9, 10, 11] (Array.replicate 16 false) = true
  r12 : Region.ready .any ops (mark [0, 1, 2, 3, 4, 5, 6, 7, 8, 9, 10, 11] (Array.replicate 16 false)) = [12]
  may1 : takeB .any ops [13, 14] ((mark [0, 1, 2, 3, 4, 5, 6, 7, 8, 9, 10, 11] (Array.replicate 16 false)).setIfInBounds 12 true) = true
  r15 : Region.ready .any ops (mark [13, 14] ((mark [0, 1, 2, 3, 4, 5, 6, 7, 8, 9, 10, 11] (Array.replicate 16 false)).setIfInBounds 12 true)) = [15]
  fin : Region.ready .any ops ((mark [13, 14] ((mark [0, 1, 2, 3, 4, 5, 6, 7, 8, 9, 10, 11] (Array.replicate 16 false)).setIfInBounds 12 true)).setIfInBounds 15 true) = []

set_option maxRecDepth 100000 in
set_option maxHeartbeats 3200000 in
theorem rj5_region {ops : Array Oper} {id : Nat} {Q : Exit → Act → World → Prop} {a : Act} {y : World} (R : rj5R ops) (r t G gc cp sp : Nat) (p : Option Addr)
    (hQ : ∀ d v c a w, Q (.panic c) (a.put d v) w → Q (.panic c) a w) (hsz : a.tmps.size = 66) (e0 : a.eval (.tmp 0) = .pointer (some ⟨r, 0, none⟩)) (e5 : a.eval (.tmp 5) = .slice (some ⟨t, 0, none⟩) G gc) (hS0 : (y.drew.cell? ⟨r, 3, none⟩ = some (.int .i64 6) ∧ y.drew.cell? ⟨r, 6, none⟩ = some (.slice p G cp))) (T : Nat → World → Prop) (hc : Calls Tryd.prog 102 #[.int .i64 6, .slice p G cp, .slice (some ⟨t, 0, none⟩) G gc] y.drew fun e w9 => ∃ (sp : Nat) (v8 : Value), e = .returned (.pointer (some ⟨sp, 0, none⟩)) ∧ (w9.cell? ⟨r, 3, none⟩ = some (.int .i64 6) ∧ w9.cell? ⟨r, 6, none⟩ = some (.slice p G cp)) ∧ ((w9.setCell ⟨r, 8, none⟩ (.pointer (some ⟨sp, 0, none⟩))).cell? ⟨r, 3, none⟩ = some (.int .i64 6) ∧ (w9.setCell ⟨r, 8, none⟩ (.pointer (some ⟨sp, 0, none⟩))).cell? ⟨r, 6, none⟩ = some (.slice p G cp)) ∧ w9.cell? ⟨r, 8, none⟩ = some v8 ∧ w9.frozen? ⟨r, 8, none⟩ = false ∧ T sp (w9.setCell ⟨r, 8, none⟩ (.pointer (some ⟨sp, 0, none⟩))))
    (hK : ∀ (sp : Nat) (w9 : World), T sp (w9.setCell ⟨r, 8, none⟩ (.pointer (some ⟨sp, 0, none⟩))) → Q .normal (((((((((((((((a.put (some 45) (.pointer (some ⟨r, 0, none⟩))).put (some 46) (.pointer (some ⟨r, 0, none⟩))).put (some 47) (.pointer (some ⟨r, 0, none⟩))).put (some 48) (.pointer (some ⟨r, 2, none⟩))).put (some 49) (.pointer (some ⟨r, 3, none⟩))).put (some 50) (.int .i64 6)).put (some 51) (.pointer (some ⟨r, 0, none⟩))).put (some 52) (.pointer (some ⟨r, 0, none⟩))).put (some 53) (.pointer (some ⟨r, 2, none⟩))).put (some 54) (.pointer (some ⟨r, 6, none⟩))).put (some 55) (.slice p G cp)).put (some 56) (.slice (some ⟨t, 0, none⟩) G gc)).put (some 57) (.pointer (some ⟨sp, 0, none⟩))).put (some 58) (.pointer (some ⟨r, 0, none⟩))).put (some 59) (.pointer (some ⟨r, 8, none⟩))) (w9.setCell ⟨r, 8, none⟩ (.pointer (some ⟨sp, 0, none⟩)))) : (Code.region id ops true).wp Tryd.prog Q a y := by
  have HR : Hid (rj5R ops) := R
  have hdf : a.defers = a.defers := rfl
  refine wp_region_held_drew (S := (fun z : World => z.cell? ⟨r, 3, none⟩ = some (.int .i64 6) ∧ z.cell? ⟨r, 6, none⟩ = some (.slice p G cp))) (by kernel_rfl) (hS0) (fun hHeld => ?_)
  rw [R.size]
  clear R
  refine wpAnyH_takes HR.out.sel hQ hHeld [0, 1, 2, 3, 4, 5, 6, 7, 8, 9, 10, 11] 4 _ _ HR.out.may0 ?_
  refine wpTake_stepE ⟨some 45, Op.move (Operand.tmp 0), 67, "", #[], none⟩ 45 (.pointer (some ⟨r, 0, none⟩)) HR.out.o0 rfl (by rw [hsz]; decide) (wanted_none rfl) (fun z hS => rj5_0 r t G gc cp sp p _ z (fun _ => rfl) e0 hS) ?_
  intro a1 ha1 s1 f1 n1 k1
  replace hsz := s1.trans hsz
  replace hdf := f1.trans hdf
  replace e0 := (k1 0 (by decide)).trans e0
  replace e5 := (k1 5 (by decide)).trans e5
  have e45 := n1
  clear s1 f1 n1 k1
  refine wpTake_stepE ⟨some 46, Op.move (Operand.tmp 0), 67, "", #[], none⟩ 46 (.pointer (some ⟨r, 0, none⟩)) HR.out.o1 rfl (by rw [hsz]; decide) (wanted_none rfl) (fun z hS => rj5_1 r t G gc cp sp p _ z (fun _ => rfl) e0 hS) ?_
  intro a2 ha2 s1 f1 n1 k1
  replace hsz := s1.trans hsz
  replace hdf := f1.trans hdf
  replace e0 := (k1 0 (by decide)).trans e0
  replace e5 := (k1 5 (by decide)).trans e5
  replace e45 := (k1 45 (by decide)).trans e45
  have e46 := n1
  clear s1 f1 n1 k1
  refine wpTake_stepE ⟨some 47, Op.nilCheck (Operand.tmp 46), 0, "", #[], none⟩ 47 (.pointer (some ⟨r, 0, none⟩)) HR.out.o2 rfl (by rw [hsz]; decide) (wanted_none rfl) (fun z hS => rj5_2 r t G gc cp sp p _ z (fun _ => rfl) e46 hS) ?_
  intro a3 ha3 s1 f1 n1 k1
  replace hsz := s1.trans hsz
  replace hdf := f1.trans hdf
  replace e0 := (k1 0 (by decide)).trans e0
  replace e5 := (k1 5 (by decide)).trans e5
  replace e45 := (k1 45 (by decide)).trans e45
  have e47 := n1
  clear s1 f1 n1 k1
  refine wpTake_stepE ⟨some 48, Op.fieldAddr 75 (Operand.tmp 47) 2, 0, "", #[], none⟩ 48 (.pointer (some ⟨r, 2, none⟩)) HR.out.o3 rfl (by rw [hsz]; decide) (wanted_none rfl) (fun z hS => rj5_3 r t G gc cp sp p _ z (fun _ => rfl) e47 hS) ?_
  intro a4 ha4 s1 f1 n1 k1
  replace hsz := s1.trans hsz
  replace hdf := f1.trans hdf
  replace e0 := (k1 0 (by decide)).trans e0
  replace e5 := (k1 5 (by decide)).trans e5
  replace e45 := (k1 45 (by decide)).trans e45
  have e48 := n1
  clear s1 f1 n1 k1
  refine wpTake_stepE ⟨some 49, Op.fieldAddr 66 (Operand.tmp 48) 1, 0, "", #[], none⟩ 49 (.pointer (some ⟨r, 3, none⟩)) HR.out.o4 rfl (by rw [hsz]; decide) (wanted_none rfl) (fun z hS => rj5_4 r t G gc cp sp p _ z (fun _ => rfl) e48 hS) ?_
  intro a5 ha5 s1 f1 n1 k1
  replace hsz := s1.trans hsz
  replace hdf := f1.trans hdf
  replace e0 := (k1 0 (by decide)).trans e0
  replace e5 := (k1 5 (by decide)).trans e5
  replace e45 := (k1 45 (by decide)).trans e45
  have e49 := n1
  clear s1 f1 n1 k1
  refine wpTake_stepE ⟨some 50, Op.load 3 (Operand.tmp 49), 3, "", #[], none⟩ 50 (.int .i64 6) HR.out.o5 rfl (by rw [hsz]; decide) (wanted_none rfl) (fun z hS => rj5_5 r t G gc cp sp p _ z (fun _ => rfl) e49 hS) ?_
  intro a6 ha6 s1 f1 n1 k1
  replace hsz := s1.trans hsz
  replace hdf := f1.trans hdf
  replace e0 := (k1 0 (by decide)).trans e0
  replace e5 := (k1 5 (by decide)).trans e5
  replace e45 := (k1 45 (by decide)).trans e45
  have e50 := n1
  clear s1 f1 n1 k1
  refine wpTake_stepE ⟨some 51, Op.move (Operand.tmp 0), 67, "", #[], none⟩ 51 (.pointer (some ⟨r, 0, none⟩)) HR.out.o6 rfl (by rw [hsz]; decide) (wanted_none rfl) (fun z hS => rj5_6 r t G gc cp sp p _ z (fun _ => rfl) e0 hS) ?_
  intro a7 ha7 s1 f1 n1 k1
  replace hsz := s1.trans hsz
  replace hdf := f1.trans hdf
  replace e0 := (k1 0 (by decide)).trans e0
  replace e5 := (k1 5 (by decide)).trans e5
  replace e45 := (k1 45 (by decide)).trans e45
  replace e50 := (k1 50 (by decide)).trans e50
  have e51 := n1
  clear s1 f1 n1 k1
  refine wpTake_stepE ⟨some 52, Op.nilCheck (Operand.tmp 51), 0, "", #[], none⟩ 52 (.pointer (some ⟨r, 0, none⟩)) HR.out.o7 rfl (by rw [hsz]; decide) (wanted_none rfl) (fun z hS => rj5_7 r t G gc cp sp p _ z (fun _ => rfl) e51 hS) ?_
  intro a8 ha8 s1 f1 n1 k1
  replace hsz := s1.trans hsz
  replace hdf := f1.trans hdf
  replace e0 := (k1 0 (by decide)).trans e0
  replace e5 := (k1 5 (by decide)).trans e5
  replace e45 := (k1 45 (by decide)).trans e45
  replace e50 := (k1 50 (by decide)).trans e50
  have e52 := n1
  clear s1 f1 n1 k1
  refine wpTake_stepE ⟨some 53, Op.fieldAddr 75 (Operand.tmp 52) 2, 0, "", #[], none⟩ 53 (.pointer (some ⟨r, 2, none⟩)) HR.out.o8 rfl (by rw [hsz]; decide) (wanted_none rfl) (fun z hS => rj5_8 r t G gc cp sp p _ z (fun _ => rfl) e52 hS) ?_
  intro a9 ha9 s1 f1 n1 k1
  replace hsz := s1.trans hsz
  replace hdf := f1.trans hdf
  replace e0 := (k1 0 (by decide)).trans e0
  replace e5 := (k1 5 (by decide)).trans e5
  replace e45 := (k1 45 (by decide)).trans e45
  replace e50 := (k1 50 (by decide)).trans e50
  have e53 := n1
  clear s1 f1 n1 k1
  refine wpTake_stepE ⟨some 54, Op.fieldAddr 66 (Operand.tmp 53) 3, 0, "", #[], none⟩ 54 (.pointer (some ⟨r, 6, none⟩)) HR.out.o9 rfl (by rw [hsz]; decide) (wanted_none rfl) (fun z hS => rj5_9 r t G gc cp sp p _ z (fun _ => rfl) e53 hS) ?_
  intro a10 ha10 s1 f1 n1 k1
  replace hsz := s1.trans hsz
  replace hdf := f1.trans hdf
  replace e0 := (k1 0 (by decide)).trans e0
  replace e5 := (k1 5 (by decide)).trans e5
  replace e45 := (k1 45 (by decide)).trans e45
  replace e50 := (k1 50 (by decide)).trans e50
  have e54 := n1
  clear s1 f1 n1 k1
  refine wpTake_stepE ⟨some 55, Op.load 23 (Operand.tmp 54), 23, "", #[], none⟩ 55 (.slice p G cp) HR.out.o10 rfl (by rw [hsz]; decide) (wanted_none rfl) (fun z hS => rj5_10 r t G gc cp sp p _ z (fun _ => rfl) e54 hS) ?_
  intro a11 ha11 s1 f1 n1 k1
  replace hsz := s1.trans hsz
  replace hdf := f1.trans hdf
  replace e0 := (k1 0 (by decide)).trans e0
  replace e5 := (k1 5 (by decide)).trans e5
  replace e45 := (k1 45 (by decide)).trans e45
  replace e50 := (k1 50 (by decide)).trans e50
  have e55 := n1
  clear s1 f1 n1 k1
  refine wpTake_stepE ⟨some 56, Op.move (Operand.tmp 5), 27, "", #[], none⟩ 56 (.slice (some ⟨t, 0, none⟩) G gc) HR.out.o11 rfl (by rw [hsz]; decide) (wanted_none rfl) (fun z hS => rj5_11 r t G gc cp sp p _ z (fun _ => rfl) e5 hS) ?_
  intro a12 ha12 s1 f1 n1 k1
  replace hsz := s1.trans hsz
  replace hdf := f1.trans hdf
  replace e0 := (k1 0 (by decide)).trans e0
  replace e45 := (k1 45 (by decide)).trans e45
  replace e50 := (k1 50 (by decide)).trans e50
  replace e55 := (k1 55 (by decide)).trans e55
  have e56 := n1
  clear s1 f1 n1 k1
  refine wpTake_nil ?_
  refine wpAnyH_one ⟨some 57, Op.call { callee := Callee.value (Operand.func 102), args := #[Operand.tmp 50, Operand.tmp 55, Operand.tmp 56], argTypes := #[3, 23, 27] }, 73, "", #[], none⟩ HR.out.r12 HR.out.o12 rfl (fun K' hK' => ?_)
  refine wp_enter (rj5_12 r t G gc cp sp p _ _ (fun _ => rfl) rfl e50 e55 e56) (hc) ?_
  rintro e9 w9 ⟨sp, v8, rfl, hS9, hS10, hcr, hfr, hT⟩
  refine ⟨_, rfl, hK'.out _ _ (hS9) ?_⟩
  replace hHeld := hS9
  clear hK' K'
  show wpAnyH _ _ _ _ _ _ _ (Act.put a12 (some 57) (.pointer (some ⟨sp, 0, none⟩))) _
  obtain ⟨s1, f1, n1, k1⟩ := act_put a12 57 (.pointer (some ⟨sp, 0, none⟩)) (show 57 < _ by rw [hsz]; decide)
  obtain ⟨a13, ha13⟩ : ∃ x, x = Act.put a12 (some 57) (.pointer (some ⟨sp, 0, none⟩)) := ⟨_, rfl⟩
  rw [← ha13] at s1 f1 n1 k1 ⊢
  replace hsz := s1.trans hsz
  replace hdf := f1.trans hdf
  replace e0 := (k1 0 (by decide)).trans e0
  replace e45 := (k1 45 (by decide)).trans e45
  have e57 := n1
  clear s1 f1 n1 k1
  refine wpAnyH_takes HR.out.sel hQ hHeld [13, 14] 1 _ _ HR.out.may1 ?_
  refine wpTake_stepE ⟨some 58, Op.nilCheck (Operand.tmp 45), 0, "", #[], none⟩ 58 (.pointer (some ⟨r, 0, none⟩)) HR.out.o13 rfl (by rw [hsz]; decide) (wanted_none rfl) (fun z hS => rj5_13 r t G gc cp sp p _ z (fun _ => rfl) e45 hS) ?_
  intro a14 ha14 s1 f1 n1 k1
  replace hsz := s1.trans hsz
  replace hdf := f1.trans hdf
  replace e0 := (k1 0 (by decide)).trans e0
  replace e57 := (k1 57 (by decide)).trans e57
  have e58 := n1
  clear s1 f1 n1 k1
  refine wpTake_stepE ⟨some 59, Op.fieldAddr 75 (Operand.tmp 58) 4, 0, "", #[], none⟩ 59 (.pointer (some ⟨r, 8, none⟩)) HR.out.o14 rfl (by rw [hsz]; decide) (wanted_none rfl) (fun z hS => rj5_14 r t G gc cp sp p _ z (fun _ => rfl) e58 hS) ?_
  intro a15 ha15 s1 f1 n1 k1
  replace hsz := s1.trans hsz
  replace hdf := f1.trans hdf
  replace e0 := (k1 0 (by decide)).trans e0
  replace e57 := (k1 57 (by decide)).trans e57
  have e59 := n1
  clear s1 f1 n1 k1
  refine wpTake_nil ?_
  refine wpAnyH_skip ⟨none, Op.store 73 (Operand.tmp 59) (Operand.tmp 57), 0, "", #[], none⟩ (w9.setCell ⟨r, 8, none⟩ (.pointer (some ⟨sp, 0, none⟩))) HR.out.r15 HR.out.o15 rfl rfl (rj5_st r sp v8 _ _ e59 e57 hcr hfr) (hS10) ?_
  replace hHeld := hS10
  refine wpAnyH_done HR.out.fin ?_ _
  rw [ha15, ha14, ha13, ha12, ha11, ha10, ha9, ha8, ha7, ha6, ha5, ha4, ha3, ha2, ha1]
  exact hK _ _ hT
-- rj5: ⟨by kernel_rfl, by kernel_rfl, by kernel_rfl, by kernel_rfl, by kernel_rfl, by kernel_rfl, by kernel_rfl, by kernel_rfl, by kernel_rfl, by kernel_rfl, by kernel_rfl, by kernel_rfl, by kernel_rfl, by kernel_rfl, by kernel_rfl, by kernel_rfl, by kernel_rfl, by kernel_rfl, by kernel_rfl, by kernel_rfl, by kernel_rfl, by kernel_rfl, by kernel_rfl⟩

theorem ro4_0 (r bx f : Nat) (mv : Array Value) (ev : Operand → Value) (z : World) (ec : ∀ c, ev (.const c) = c) (e0 : ev (.tmp 0) = .pointer (some ⟨r, 0, none⟩)) (hS : z.cell? ⟨r, 7, none⟩ = some (.pointer (some ⟨f, 0, none⟩)) ∧ (loadVar 45 ⟨bx, 0, none⟩).run Tryd.prog z = .ok (.agg mv) z) : (execOp ev ⟨some 10, Op.move (Operand.tmp 0), 67, "", #[], none⟩).run Tryd.prog z = .ok (.value (.pointer (some ⟨r, 0, none⟩))) z := by
  obtain ⟨sa, sb⟩ := hS
  go_simp
theorem ro4_1 (r bx f : Nat) (mv : Array Value) (ev : Operand → Value) (z : World) (ec : ∀ c, ev (.const c) = c) (e10 : ev (.tmp 10) = .pointer (some ⟨r, 0, none⟩)) (hS : z.cell? ⟨r, 7, none⟩ = some (.pointer (some ⟨f, 0, none⟩)) ∧ (loadVar 45 ⟨bx, 0, none⟩).run Tryd.prog z = .ok (.agg mv) z) : (execOp ev ⟨some 11, Op.nilCheck (Operand.tmp 10), 0, "", #[], none⟩).run Tryd.prog z = .ok (.value (.pointer (some ⟨r, 0, none⟩))) z := by
  obtain ⟨sa, sb⟩ := hS
  go_simp
theorem ro4_2 (r bx f : Nat) (mv : Array Value) (ev : Operand → Value) (z : World) (ec : ∀ c, ev (.const c) = c) (e11 : ev (.tmp 11) = .pointer (some ⟨r, 0, none⟩)) (hS : z.cell? ⟨r, 7, none⟩ = some (.pointer (some ⟨f, 0, none⟩)) ∧ (loadVar 45 ⟨bx, 0, none⟩).run Tryd.prog z = .ok (.agg mv) z) : (execOp ev ⟨some 12, Op.fieldAddr 75 (Operand.tmp 11) 3, 0, "", #[], none⟩).run Tryd.prog z = .ok (.value (.pointer (some ⟨r, 7, none⟩))) z := by
  obtain ⟨sa, sb⟩ := hS
  go_simp
theorem ro4_3 (r bx f : Nat) (mv : Array Value) (ev : Operand → Value) (z : World) (ec : ∀ c, ev (.const c) = c) (e12 : ev (.tmp 12) = .pointer (some ⟨r, 7, none⟩)) (hS : z.cell? ⟨r, 7, none⟩ = some (.pointer (some ⟨f, 0, none⟩)) ∧ (loadVar 45 ⟨bx, 0, none⟩).run Tryd.prog z = .ok (.agg mv) z) : (execOp ev ⟨some 13, Op.load 58 (Operand.tmp 12), 58, "", #[], none⟩).run Tryd.prog z = .ok (.value (.pointer (some ⟨f, 0, none⟩))) z := by
  obtain ⟨sa, sb⟩ := hS
  go_simp
theorem ro4_4 (r bx f : Nat) (mv : Array Value) (ev : Operand → Value) (z : World) (ec : ∀ c, ev (.const c) = c) (e3 : ev (.tmp 3) = .pointer (some ⟨bx, 0, none⟩)) (hS : z.cell? ⟨r, 7, none⟩ = some (.pointer (some ⟨f, 0, none⟩)) ∧ (loadVar 45 ⟨bx, 0, none⟩).run Tryd.prog z = .ok (.agg mv) z) : (execOp ev ⟨some 14, Op.load 45 (Operand.tmp 3), 45, "", #[], none⟩).run Tryd.prog z = .ok (.value (.agg mv)) z := by
  exact exec_ldC e3 hS.2
set_option maxRecDepth 100000 in
theorem ro4_5 (r bx f : Nat) (mv : Array Value) (ev : Operand → Value) (z : World) (ec : ∀ c, ev (.const c) = c) (ef : ev (.func 60) = .func (.func 60) #[] #[]) (e13 : ev (.tmp 13) = .pointer (some ⟨f, 0, none⟩)) (e14 : ev (.tmp 14) = .agg mv) : (execOp ev ⟨some 15, Op.call { callee := Callee.value (Operand.func 60), args := #[Operand.tmp 13, Operand.tmp 14], argTypes := #[58, 45] }, 4, "", #[], none⟩).run Tryd.prog z = .ok (.enter 60 #[.pointer (some ⟨f, 0, none⟩), .agg mv]) z :=
  enter_run _ ef (by simp only [List.map_toArray, List.map_cons, List.map_nil, ec, e13, e14]) (fun _ => by rfl)
theorem ro4_6 (r bx f : Nat) (mv : Array Value) (ev : Operand → Value) (z : World) (ec : ∀ c, ev (.const c) = c) (e15 : ev (.tmp 15) = .bool true) (hS : z.cell? ⟨r, 7, none⟩ = some (.pointer (some ⟨f, 0, none⟩)) ∧ (loadVar 45 ⟨bx, 0, none⟩).run Tryd.prog z = .ok (.agg mv) z) : (execOp ev ⟨some 5, Op.assign (Operand.tmp 15), 4, "", #[], none⟩).run Tryd.prog z = .ok (.value (.bool true)) z := by
  obtain ⟨sa, sb⟩ := hS
  go_simp
structure ro4R (ops : Array Oper) : Prop where
  size : ops.size = 7
  sel : Region.noSelect ops = true
  o0 : (ops[0]?).map bare = some ⟨some 10, Op.move (Operand.tmp 0), 67, "", #[], none⟩
  o1 : (ops[1]?).map bare = some ⟨some 11, Op.nilCheck (Operand.tmp 10), 0, "", #[], none⟩
  o2 : (ops[2]?).map bare = some ⟨some 12, Op.fieldAddr 75 (Operand.tmp 11) 3, 0, "", #[], none⟩
  o3 : (ops[3]?).map bare = some ⟨some 13, Op.load 58 (Operand.tmp 12), 58, "", #[], none⟩
  o4 : (ops[4]?).map bare = some ⟨some 14, Op.load 45 (Operand.tmp 3), 45, "", #[], none⟩
  o5 : (ops[5]?).map bare = some ⟨some 15, Op.call { callee := Callee.value (Operand.func 60), args := #[Operand.tmp 13, Operand.tmp 14], argTypes := #[58, 45] }, 4, "", #[], none⟩
  o6 : (ops[6]?).map bare = some ⟨some 5, Op.assign (Operand.tmp 15), 4, "", #[], none⟩
  may0 : takeB .any ops [0, 1, 2, 3, 4] (Array.replicate 7 false) = true
  r5 : Region.ready .any ops (mark [0, 1, 2, 3, 4] (Array.replicate 7 false)) = [5]
  may1 : takeB .any ops [6] ((mark [0, 1, 2, 3, 4] (Array.replicate 7 false)).setIfInBounds 5 true) = true
  fin : Region.ready .any ops (mark [6] ((mark [0, 1, 2, 3, 4] (Array.replicate 7 false)).setIfInBounds 5 true)) = []

set_option maxRecDepth 100000 in
set_option maxHeartbeats 3200000 in
theorem ro4_region {ops : Array Oper} {id : Nat} {Q : Exit → Act → World → Prop} {a : Act} {y : World} (R : ro4R ops) (r bx f : Nat) (mv : Array Value)
    (hQ : ∀ d v c a w, Q (.panic c) (a.put d v) w → Q (.panic c) a w) (hsz : a.tmps.size = 28) (e0 : a.eval (.tmp 0) = .pointer (some ⟨r, 0, none⟩)) (e3 : a.eval (.tmp 3) = .pointer (some ⟨bx, 0, none⟩)) (hS0 : (y.drew.cell? ⟨r, 7, none⟩ = some (.pointer (some ⟨f, 0, none⟩)) ∧ (loadVar 45 ⟨bx, 0, none⟩).run Tryd.prog y.drew = .ok (.agg mv) y.drew)) (T : World → Prop) (hc : Calls Tryd.prog 60 #[.pointer (some ⟨f, 0, none⟩), .agg mv] y.drew fun e w9 => e = .returned (.bool true) ∧ (w9.cell? ⟨r, 7, none⟩ = some (.pointer (some ⟨f, 0, none⟩)) ∧ (loadVar 45 ⟨bx, 0, none⟩).run Tryd.prog w9 = .ok (.agg mv) w9) ∧ T w9)
    (hK : ∀ (w9 : World), T w9 → Q .normal (((((((a.put (some 10) (.pointer (some ⟨r, 0, none⟩))).put (some 11) (.pointer (some ⟨r, 0, none⟩))).put (some 12) (.pointer (some ⟨r, 7, none⟩))).put (some 13) (.pointer (some ⟨f, 0, none⟩))).put (some 14) (.agg mv)).put (some 15) (.bool true)).put (some 5) (.bool true)) w9) : (Code.region id ops true).wp Tryd.prog Q a y := by
  have HR : Hid (ro4R ops) := R
  have hdf : a.defers = a.defers := rfl
  refine wp_region_held_drew (S := (fun z : World => z.cell? ⟨r, 7, none⟩ = some (.pointer (some ⟨f, 0, none⟩)) ∧ (loadVar 45 ⟨bx, 0, none⟩).run Tryd.prog z = .ok (.agg mv) z)) (by kernel_rfl) (hS0) (fun hHeld => ?_)
  rw [R.size]
  clear R
  refine wpAnyH_takes HR.out.sel hQ hHeld [0, 1, 2, 3, 4] 2 _ _ HR.out.may0 ?_
  refine wpTake_stepE ⟨some 10, Op.move (Operand.tmp 0), 67, "", #[], none⟩ 10 (.pointer (some ⟨r, 0, none⟩)) HR.out.o0 rfl (by rw [hsz]; decide) (wanted_none rfl) (fun z hS => ro4_0 r bx f mv _ z (fun _ => rfl) e0 hS) ?_
  intro a1 ha1 s1 f1 n1 k1
  replace hsz := s1.trans hsz
  replace hdf := f1.trans hdf
  replace e0 := (k1 0 (by decide)).trans e0
  replace e3 := (k1 3 (by decide)).trans e3
  have e10 := n1
  clear s1 f1 n1 k1
  refine wpTake_stepE ⟨some 11, Op.nilCheck (Operand.tmp 10), 0, "", #[], none⟩ 11 (.pointer (some ⟨r, 0, none⟩)) HR.out.o1 rfl (by rw [hsz]; decide) (wanted_none rfl) (fun z hS => ro4_1 r bx f mv _ z (fun _ => rfl) e10 hS) ?_
  intro a2 ha2 s1 f1 n1 k1
  replace hsz := s1.trans hsz
  replace hdf := f1.trans hdf
  replace e0 := (k1 0 (by decide)).trans e0
  replace e3 := (k1 3 (by decide)).trans e3
  have e11 := n1
  clear s1 f1 n1 k1
  refine wpTake_stepE ⟨some 12, Op.fieldAddr 75 (Operand.tmp 11) 3, 0, "", #[], none⟩ 12 (.pointer (some ⟨r, 7, none⟩)) HR.out.o2 rfl (by rw [hsz]; decide) (wanted_none rfl) (fun z hS => ro4_2 r bx f mv _ z (fun _ => rfl) e11 hS) ?_
  intro a3 ha3 s1 f1 n1 k1
  replace hsz := s1.trans hsz
  replace hdf := f1.trans hdf
  replace e0 := (k1 0 (by decide)).trans e0
  replace e3 := (k1 3 (by decide)).trans e3
  have e12 := n1
  clear s1 f1 n1 k1
  refine wpTake_stepE ⟨some 13, Op.load 58 (Operand.tmp 12), 58, "", #[], none⟩ 13 (.pointer (some ⟨f, 0, none⟩)) HR.out.o3 rfl (by rw [hsz]; decide) (wanted_none rfl) (fun z hS => ro4_3 r bx f mv _ z (fun _ => rfl) e12 hS) ?_
  intro a4 ha4 s1 f1 n1 k1
  replace hsz := s1.trans hsz
  replace hdf := f1.trans hdf
  replace e0 := (k1 0 (by decide)).trans e0
  replace e3 := (k1 3 (by decide)).trans e3
  have e13 := n1
  clear s1 f1 n1 k1
  refine wpTake_stepE ⟨some 14, Op.load 45 (Operand.tmp 3), 45, "", #[], none⟩ 14 (.agg mv) HR.out.o4 rfl (by rw [hsz]; decide) (wanted_none rfl) (fun z hS => ro4_4 r bx f mv _ z (fun _ => rfl) e3 hS) ?_
  intro a5 ha5 s1 f1 n1 k1
  replace hsz := s1.trans hsz
  replace hdf := f1.trans hdf
  replace e0 := (k1 0 (by decide)).trans e0
  replace e3 := (k1 3 (by decide)).trans e3
  replace e13 := (k1 13 (by decide)).trans e13
  have e14 := n1
  clear s1 f1 n1 k1
  refine wpTake_nil ?_
  refine wpAnyH_one ⟨some 15, Op.call { callee := Callee.value (Operand.func 60), args := #[Operand.tmp 13, Operand.tmp 14], argTypes := #[58, 45] }, 4, "", #[], none⟩ HR.out.r5 HR.out.o5 rfl (fun K' hK' => ?_)
  refine wp_enter (ro4_5 r bx f mv _ _ (fun _ => rfl) rfl e13 e14) (hc) ?_
  rintro e9 w9 ⟨rfl, hS9, hT⟩
  refine ⟨_, rfl, hK'.out _ _ (hS9) ?_⟩
  replace hHeld := hS9
  clear hK' K'
  show wpAnyH _ _ _ _ _ _ _ (Act.put a5 (some 15) (.bool true)) _
  obtain ⟨s1, f1, n1, k1⟩ := act_put a5 15 (.bool true) (show 15 < _ by rw [hsz]; decide)
  obtain ⟨a6, ha6⟩ : ∃ x, x = Act.put a5 (some 15) (.bool true) := ⟨_, rfl⟩
  rw [← ha6] at s1 f1 n1 k1 ⊢
  replace hsz := s1.trans hsz
  replace hdf := f1.trans hdf
  replace e0 := (k1 0 (by decide)).trans e0
  replace e3 := (k1 3 (by decide)).trans e3
  have e15 := n1
  clear s1 f1 n1 k1
  refine wpAnyH_takes HR.out.sel hQ hHeld [6] 0 _ _ HR.out.may1 ?_
  refine wpTake_stepE ⟨some 5, Op.assign (Operand.tmp 15), 4, "", #[], none⟩ 5 (.bool true) HR.out.o6 rfl (by rw [hsz]; decide) (wanted_none rfl) (fun z hS => ro4_6 r bx f mv _ z (fun _ => rfl) e15 hS) ?_
  intro a7 ha7 s1 f1 n1 k1
  replace hsz := s1.trans hsz
  replace hdf := f1.trans hdf
  replace e0 := (k1 0 (by decide)).trans e0
  replace e3 := (k1 3 (by decide)).trans e3
  clear s1 f1 n1 k1
  refine wpTake_nil ?_
  refine wpAnyH_done HR.out.fin ?_ _
  rw [ha7, ha6, ha5, ha4, ha3, ha2, ha1]
  exact hK _ hT
-- ro4: ⟨by kernel_rfl, by kernel_rfl, by kernel_rfl, by kernel_rfl, by kernel_rfl, by kernel_rfl, by kernel_rfl, by kernel_rfl, by kernel_rfl, by kernel_rfl, by kernel_rfl, by kernel_rfl, by kernel_rfl⟩

theorem ra3_0 (r f : Nat) (ep : Int) (v : Value) (ev : Operand → Value) (z : World) (ec : ∀ c, ev (.const c) = c) (e0 : ev (.tmp 0) = .pointer (some ⟨r, 0, none⟩)) (hS : z.cell? ⟨r, 7, none⟩ = some (.pointer (some ⟨f, 0, none⟩)) ∧ z.cell? ⟨r, 1, none⟩ = some (.int .i64 2)) : (execOp ev ⟨some 9, Op.move (Operand.tmp 0), 67, "", #[], none⟩).run Tryd.prog z = .ok (.value (.pointer (some ⟨r, 0, none⟩))) z := by
  obtain ⟨sa, sb⟩ := hS
  go_simp
theorem ra3_1 (r f : Nat) (ep : Int) (v : Value) (ev : Operand → Value) (z : World) (ec : ∀ c, ev (.const c) = c) (e9 : ev (.tmp 9) = .pointer (some ⟨r, 0, none⟩)) (hS : z.cell? ⟨r, 7, none⟩ = some (.pointer (some ⟨f, 0, none⟩)) ∧ z.cell? ⟨r, 1, none⟩ = some (.int .i64 2)) : (execOp ev ⟨some 10, Op.nilCheck (Operand.tmp 9), 0, "", #[], none⟩).run Tryd.prog z = .ok (.value (.pointer (some ⟨r, 0, none⟩))) z := by
  obtain ⟨sa, sb⟩ := hS
  go_simp
theorem ra3_2 (r f : Nat) (ep : Int) (v : Value) (ev : Operand → Value) (z : World) (ec : ∀ c, ev (.const c) = c) (e10 : ev (.tmp 10) = .pointer (some ⟨r, 0, none⟩)) (hS : z.cell? ⟨r, 7, none⟩ = some (.pointer (some ⟨f, 0, none⟩)) ∧ z.cell? ⟨r, 1, none⟩ = some (.int .i64 2)) : (execOp ev ⟨some 11, Op.fieldAddr 75 (Operand.tmp 10) 3, 0, "", #[], none⟩).run Tryd.prog z = .ok (.value (.pointer (some ⟨r, 7, none⟩))) z := by
  obtain ⟨sa, sb⟩ := hS
  go_simp
theorem ra3_3 (r f : Nat) (ep : Int) (v : Value) (ev : Operand → Value) (z : World) (ec : ∀ c, ev (.const c) = c) (e11 : ev (.tmp 11) = .pointer (some ⟨r, 7, none⟩)) (hS : z.cell? ⟨r, 7, none⟩ = some (.pointer (some ⟨f, 0, none⟩)) ∧ z.cell? ⟨r, 1, none⟩ = some (.int .i64 2)) : (execOp ev ⟨some 12, Op.load 58 (Operand.tmp 11), 58, "", #[], none⟩).run Tryd.prog z = .ok (.value (.pointer (some ⟨f, 0, none⟩))) z := by
  obtain ⟨sa, sb⟩ := hS
  go_simp
theorem ra3_4 (r f : Nat) (ep : Int) (v : Value) (ev : Operand → Value) (z : World) (ec : ∀ c, ev (.const c) = c) (e0 : ev (.tmp 0) = .pointer (some ⟨r, 0, none⟩)) (hS : z.cell? ⟨r, 7, none⟩ = some (.pointer (some ⟨f, 0, none⟩)) ∧ z.cell? ⟨r, 1, none⟩ = some (.int .i64 2)) : (execOp ev ⟨some 13, Op.move (Operand.tmp 0), 67, "", #[], none⟩).run Tryd.prog z = .ok (.value (.pointer (some ⟨r, 0, none⟩))) z := by
  obtain ⟨sa, sb⟩ := hS
  go_simp
theorem ra3_5 (r f : Nat) (ep : Int) (v : Value) (ev : Operand → Value) (z : World) (ec : ∀ c, ev (.const c) = c) (e13 : ev (.tmp 13) = .pointer (some ⟨r, 0, none⟩)) (hS : z.cell? ⟨r, 7, none⟩ = some (.pointer (some ⟨f, 0, none⟩)) ∧ z.cell? ⟨r, 1, none⟩ = some (.int .i64 2)) : (execOp ev ⟨some 14, Op.nilCheck (Operand.tmp 13), 0, "", #[], none⟩).run Tryd.prog z = .ok (.value (.pointer (some ⟨r, 0, none⟩))) z := by
  obtain ⟨sa, sb⟩ := hS
  go_simp
theorem ra3_6 (r f : Nat) (ep : Int) (v : Value) (ev : Operand → Value) (z : World) (ec : ∀ c, ev (.const c) = c) (e14 : ev (.tmp 14) = .pointer (some ⟨r, 0, none⟩)) (hS : z.cell? ⟨r, 7, none⟩ = some (.pointer (some ⟨f, 0, none⟩)) ∧ z.cell? ⟨r, 1, none⟩ = some (.int .i64 2)) : (execOp ev ⟨some 15, Op.fieldAddr 75 (Operand.tmp 14) 1, 0, "", #[], none⟩).run Tryd.prog z = .ok (.value (.pointer (some ⟨r, 1, none⟩))) z := by
  obtain ⟨sa, sb⟩ := hS
  go_simp
theorem ra3_7 (r f : Nat) (ep : Int) (v : Value) (ev : Operand → Value) (z : World) (ec : ∀ c, ev (.const c) = c) (e15 : ev (.tmp 15) = .pointer (some ⟨r, 1, none⟩)) (hS : z.cell? ⟨r, 7, none⟩ = some (.pointer (some ⟨f, 0, none⟩)) ∧ z.cell? ⟨r, 1, none⟩ = some (.int .i64 2)) : (execOp ev ⟨some 16, Op.load 3 (Operand.tmp 15), 3, "", #[], none⟩).run Tryd.prog z = .ok (.value (.int .i64 2)) z := by
  obtain ⟨sa, sb⟩ := hS
  go_simp
theorem ra3_8 (r f : Nat) (ep : Int) (v : Value) (ev : Operand → Value) (z : World) (ec : ∀ c, ev (.const c) = c) (e1 : ev (.tmp 1) = .int .i64 ep) (hS : z.cell? ⟨r, 7, none⟩ = some (.pointer (some ⟨f, 0, none⟩)) ∧ z.cell? ⟨r, 1, none⟩ = some (.int .i64 2)) : (execOp ev ⟨some 17, Op.move (Operand.tmp 1), 3, "", #[], none⟩).run Tryd.prog z = .ok (.value (.int .i64 ep)) z := by
  obtain ⟨sa, sb⟩ := hS
  go_simp
set_option maxRecDepth 100000 in
theorem ra3_9 (r f : Nat) (ep : Int) (v : Value) (ev : Operand → Value) (z : World) (ec : ∀ c, ev (.const c) = c) (ef : ev (.func 54) = .func (.func 54) #[] #[]) (e12 : ev (.tmp 12) = .pointer (some ⟨f, 0, none⟩)) (e16 : ev (.tmp 16) = .int .i64 2) (e17 : ev (.tmp 17) = .int .i64 ep) : (execOp ev ⟨some 18, Op.call { callee := Callee.value (Operand.func 54), args := #[Operand.tmp 12, Operand.tmp 16, Operand.tmp 17], argTypes := #[58, 3, 3] }, 54, "", #[], none⟩).run Tryd.prog z = .ok (.enter 54 #[.pointer (some ⟨f, 0, none⟩), .int .i64 2, .int .i64 ep]) z :=
  enter_run _ ef (by simp only [List.map_toArray, List.map_cons, List.map_nil, ec, e12, e16, e17]) (fun _ => by rfl)
theorem ra3_10 (r f : Nat) (ep : Int) (v : Value) (ev : Operand → Value) (z : World) (ec : ∀ c, ev (.const c) = c) (e18 : ev (.tmp 18) = v) (hS : z.cell? ⟨r, 7, none⟩ = some (.pointer (some ⟨f, 0, none⟩)) ∧ z.cell? ⟨r, 1, none⟩ = some (.int .i64 2)) : (execOp ev ⟨some 4, Op.assign (Operand.tmp 18), 54, "", #[], none⟩).run Tryd.prog z = .ok (.value (v)) z := by
  obtain ⟨sa, sb⟩ := hS
  go_simp
structure ra3R (ops : Array Oper) : Prop where
  size : ops.size = 11
  sel : Region.noSelect ops = true
  o0 : (ops[0]?).map bare = some ⟨some 9, Op.move (Operand.tmp 0), 67, "", #[], none⟩
  o1 : (ops[1]?).map bare = some ⟨some 10, Op.nilCheck (Operand.tmp 9), 0, "", #[], none⟩
  o2 : (ops[2]?).map bare = some ⟨some 11, Op.fieldAddr 75 (Operand.tmp 10) 3, 0, "", #[], none⟩
  o3 : (ops[3]?).map bare = some ⟨some 12, Op.load 58 (Operand.tmp 11), 58, "", #[], none⟩
  o4 : (ops[4]?).map bare = some ⟨some 13, Op.move (Operand.tmp 0), 67, "", #[], none⟩
  o5 : (ops[5]?).map bare = some ⟨some 14, Op.nilCheck (Operand.tmp 13), 0, "", #[], none⟩
  o6 : (ops[6]?).map bare = some ⟨some 15, Op.fieldAddr 75 (Operand.tmp 14) 1, 0, "", #[], none⟩
  o7 : (ops[7]?).map bare = some ⟨some 16, Op.load 3 (Operand.tmp 15), 3, "", #[], none⟩
  o8 : (ops[8]?).map bare = some ⟨some 17, Op.move (Operand.tmp 1), 3, "", #[], none⟩
  o9 : (ops[9]?).map bare = some ⟨some 18, Op.call { callee := Callee.value (Operand.func 54), args := #[Operand.tmp 12, Operand.tmp 16, Operand.tmp 17], argTypes := #[58, 3, 3] }, 54, "", #[], none⟩
  o10 : (ops[10]?).map bare = some ⟨some 4, Op.assign (Operand.tmp 18), 54, "", #[], none⟩
  may0 : takeB .any ops [0, 1, 2, 3, 4, 5, 6, 7, 8] (Array.replicate 11 false) = true
  r9 : Region.ready .any ops (mark [0, 1, 2, 3, 4, 5, 6, 7, 8] (Array.replicate 11 false)) = [9]
  may1 : takeB .any ops [10] ((mark [0, 1, 2, 3, 4, 5, 6, 7, 8] (Array.replicate 11 false)).setIfInBounds 9 true) = true
  fin : Region.ready .any ops (mark [10] ((mark [0, 1, 2, 3, 4, 5, 6, 7, 8] (Array.replicate 11 false)).setIfInBounds 9 true)) = []

set_option maxRecDepth 100000 in
set_option maxHeartbeats 3200000 in
theorem ra3_region {ops : Array Oper} {id : Nat} {Q : Exit → Act → World → Prop} {a : Act} {y : World} (R : ra3R ops) (r f : Nat) (ep : Int) (v : Value)
    (hQ : ∀ d v c a w, Q (.panic c) (a.put d v) w → Q (.panic c) a w) (hsz : a.tmps.size = 31) (e0 : a.eval (.tmp 0) = .pointer (some ⟨r, 0, none⟩)) (e1 : a.eval (.tmp 1) = .int .i64 ep) (hS0 : (y.drew.cell? ⟨r, 7, none⟩ = some (.pointer (some ⟨f, 0, none⟩)) ∧ y.drew.cell? ⟨r, 1, none⟩ = some (.int .i64 2))) (T : Value → World → Prop) (hc : Calls Tryd.prog 54 #[.pointer (some ⟨f, 0, none⟩), .int .i64 2, .int .i64 ep] y.drew fun e w9 => ∃ v, e = .returned v ∧ (w9.cell? ⟨r, 7, none⟩ = some (.pointer (some ⟨f, 0, none⟩)) ∧ w9.cell? ⟨r, 1, none⟩ = some (.int .i64 2)) ∧ T v w9)
    (hK : ∀ (v : Value) (w9 : World), T v w9 → Q .normal (((((((((((a.put (some 9) (.pointer (some ⟨r, 0, none⟩))).put (some 10) (.pointer (some ⟨r, 0, none⟩))).put (some 11) (.pointer (some ⟨r, 7, none⟩))).put (some 12) (.pointer (some ⟨f, 0, none⟩))).put (some 13) (.pointer (some ⟨r, 0, none⟩))).put (some 14) (.pointer (some ⟨r, 0, none⟩))).put (some 15) (.pointer (some ⟨r, 1, none⟩))).put (some 16) (.int .i64 2)).put (some 17) (.int .i64 ep)).put (some 18) (v)).put (some 4) (v)) w9) : (Code.region id ops true).wp Tryd.prog Q a y := by
  have HR : Hid (ra3R ops) := R
  have hdf : a.defers = a.defers := rfl
  refine wp_region_held_drew (S := (fun z : World => z.cell? ⟨r, 7, none⟩ = some (.pointer (some ⟨f, 0, none⟩)) ∧ z.cell? ⟨r, 1, none⟩ = some (.int .i64 2))) (by kernel_rfl) (hS0) (fun hHeld => ?_)
  rw [R.size]
  clear R
  refine wpAnyH_takes HR.out.sel hQ hHeld [0, 1, 2, 3, 4, 5, 6, 7, 8] 2 _ _ HR.out.may0 ?_
  refine wpTake_stepE ⟨some 9, Op.move (Operand.tmp 0), 67, "", #[], none⟩ 9 (.pointer (some ⟨r, 0, none⟩)) HR.out.o0 rfl (by rw [hsz]; decide) (wanted_none rfl) (fun z hS => ra3_0 r f ep v _ z (fun _ => rfl) e0 hS) ?_
  intro a1 ha1 s1 f1 n1 k1
  replace hsz := s1.trans hsz
  replace hdf := f1.trans hdf
  replace e0 := (k1 0 (by decide)).trans e0
  replace e1 := (k1 1 (by decide)).trans e1
  have e9 := n1
  clear s1 f1 n1 k1
  refine wpTake_stepE ⟨some 10, Op.nilCheck (Operand.tmp 9), 0, "", #[], none⟩ 10 (.pointer (some ⟨r, 0, none⟩)) HR.out.o1 rfl (by rw [hsz]; decide) (wanted_none rfl) (fun z hS => ra3_1 r f ep v _ z (fun _ => rfl) e9 hS) ?_
  intro a2 ha2 s1 f1 n1 k1
  replace hsz := s1.trans hsz
  replace hdf := f1.trans hdf
  replace e0 := (k1 0 (by decide)).trans e0
  replace e1 := (k1 1 (by decide)).trans e1
  have e10 := n1
  clear s1 f1 n1 k1
  refine wpTake_stepE ⟨some 11, Op.fieldAddr 75 (Operand.tmp 10) 3, 0, "", #[], none⟩ 11 (.pointer (some ⟨r, 7, none⟩)) HR.out.o2 rfl (by rw [hsz]; decide) (wanted_none rfl) (fun z hS => ra3_2 r f ep v _ z (fun _ => rfl) e10 hS) ?_
  intro a3 ha3 s1 f1 n1 k1
  replace hsz := s1.trans hsz
  replace hdf := f1.trans hdf
  replace e0 := (k1 0 (by decide)).trans e0
  replace e1 := (k1 1 (by decide)).trans e1
  have e11 := n1
  clear s1 f1 n1 k1
  refine wpTake_stepE ⟨some 12, Op.load 58 (Operand.tmp 11), 58, "", #[], none⟩ 12 (.pointer (some ⟨f, 0, none⟩)) HR.out.o3 rfl (by rw [hsz]; decide) (wanted_none rfl) (fun z hS => ra3_3 r f ep v _ z (fun _ => rfl) e11 hS) ?_
  intro a4 ha4 s1 f1 n1 k1
  replace hsz := s1.trans hsz
  replace hdf := f1.trans hdf
  replace e0 := (k1 0 (by decide)).trans e0
  replace e1 := (k1 1 (by decide)).trans e1
  have e12 := n1
  clear s1 f1 n1 k1
  refine wpTake_stepE ⟨some 13, Op.move (Operand.tmp 0), 67, "", #[], none⟩ 13 (.pointer (some ⟨r, 0, none⟩)) HR.out.o4 rfl (by rw [hsz]; decide) (wanted_none rfl) (fun z hS => ra3_4 r f ep v _ z (fun _ => rfl) e0 hS) ?_
  intro a5 ha5 s1 f1 n1 k1
  replace hsz := s1.trans hsz
  replace hdf := f1.trans hdf
  replace e1 := (k1 1 (by decide)).trans e1
  replace e12 := (k1 12 (by decide)).trans e12
  have e13 := n1
  clear s1 f1 n1 k1
  refine wpTake_stepE ⟨some 14, Op.nilCheck (Operand.tmp 13), 0, "", #[], none⟩ 14 (.pointer (some ⟨r, 0, none⟩)) HR.out.o5 rfl (by rw [hsz]; decide) (wanted_none rfl) (fun z hS => ra3_5 r f ep v _ z (fun _ => rfl) e13 hS) ?_
  intro a6 ha6 s1 f1 n1 k1
  replace hsz := s1.trans hsz
  replace hdf := f1.trans hdf
  replace e1 := (k1 1 (by decide)).trans e1
  replace e12 := (k1 12 (by decide)).trans e12
  have e14 := n1
  clear s1 f1 n1 k1
  refine wpTake_stepE ⟨some 15, Op.fieldAddr 75 (Operand.tmp 14) 1, 0, "", #[], none⟩ 15 (.pointer (some ⟨r, 1, none⟩)) HR.out.o6 rfl (by rw [hsz]; decide) (wanted_none rfl) (fun z hS => ra3_6 r f ep v _ z (fun _ => rfl) e14 hS) ?_
  intro a7 ha7 s1 f1 n1 k1
  replace hsz := s1.trans hsz
  replace hdf := f1.trans hdf
  replace e1 := (k1 1 (by decide)).trans e1
  replace e12 := (k1 12 (by decide)).trans e12
  have e15 := n1
  clear s1 f1 n1 k1
  refine wpTake_stepE ⟨some 16, Op.load 3 (Operand.tmp 15), 3, "", #[], none⟩ 16 (.int .i64 2) HR.out.o7 rfl (by rw [hsz]; decide) (wanted_none rfl) (fun z hS => ra3_7 r f ep v _ z (fun _ => rfl) e15 hS) ?_
  intro a8 ha8 s1 f1 n1 k1
  replace hsz := s1.trans hsz
  replace hdf := f1.trans hdf
  replace e1 := (k1 1 (by decide)).trans e1
  replace e12 := (k1 12 (by decide)).trans e12
  have e16 := n1
  clear s1 f1 n1 k1
  refine wpTake_stepE ⟨some 17, Op.move (Operand.tmp 1), 3, "", #[], none⟩ 17 (.int .i64 ep) HR.out.o8 rfl (by rw [hsz]; decide) (wanted_none rfl) (fun z hS => ra3_8 r f ep v _ z (fun _ => rfl) e1 hS) ?_
  intro a9 ha9 s1 f1 n1 k1
  replace hsz := s1.trans hsz
  replace hdf := f1.trans hdf
  replace e12 := (k1 12 (by decide)).trans e12
  replace e16 := (k1 16 (by decide)).trans e16
  have e17 := n1
  clear s1 f1 n1 k1
  refine wpTake_nil ?_
  refine wpAnyH_one ⟨some 18, Op.call { callee := Callee.value (Operand.func 54), args := #[Operand.tmp 12, Operand.tmp 16, Operand.tmp 17], argTypes := #[58, 3, 3] }, 54, "", #[], none⟩ HR.out.r9 HR.out.o9 rfl (fun K' hK' => ?_)
  refine wp_enter (ra3_9 r f ep v _ _ (fun _ => rfl) rfl e12 e16 e17) (hc) ?_
  rintro e9 w9 ⟨v, rfl, hS9, hT⟩
  refine ⟨_, rfl, hK'.out _ _ (hS9) ?_⟩
  replace hHeld := hS9
  clear hK' K'
  show wpAnyH _ _ _ _ _ _ _ (Act.put a9 (some 18) (v)) _
  obtain ⟨s1, f1, n1, k1⟩ := act_put a9 18 (v) (show 18 < _ by rw [hsz]; decide)
  obtain ⟨a10, ha10⟩ : ∃ x, x = Act.put a9 (some 18) (v) := ⟨_, rfl⟩
  rw [← ha10] at s1 f1 n1 k1 ⊢
  replace hsz := s1.trans hsz
  replace hdf := f1.trans hdf
  have e18 := n1
  clear s1 f1 n1 k1
  refine wpAnyH_takes HR.out.sel hQ hHeld [10] 0 _ _ HR.out.may1 ?_
  refine wpTake_stepE ⟨some 4, Op.assign (Operand.tmp 18), 54, "", #[], none⟩ 4 (v) HR.out.o10 rfl (by rw [hsz]; decide) (wanted_none rfl) (fun z hS => ra3_10 r f ep v _ z (fun _ => rfl) e18 hS) ?_
  intro a11 ha11 s1 f1 n1 k1
  replace hsz := s1.trans hsz
  replace hdf := f1.trans hdf
  clear s1 f1 n1 k1
  refine wpTake_nil ?_
  refine wpAnyH_done HR.out.fin ?_ _
  rw [ha11, ha10, ha9, ha8, ha7, ha6, ha5, ha4, ha3, ha2, ha1]
  exact hK _ _ hT
-- ra3: ⟨by kernel_rfl, by kernel_rfl, by kernel_rfl, by kernel_rfl, by kernel_rfl, by kernel_rfl, by kernel_rfl, by kernel_rfl, by kernel_rfl, by kernel_rfl, by kernel_rfl, by kernel_rfl, by kernel_rfl, by kernel_rfl, by kernel_rfl, by kernel_rfl, by kernel_rfl⟩

end Go.Proofs.YtmncocmeafcpfaaDoor
