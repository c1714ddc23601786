/- Drawn regions of puts (laid by scripts/mkze.py). -/
import Derived.Test.YtmncocmeafcpfaaDoorZb
namespace Go.Proofs.YtmncocmeafcpfaaDoor
set_option linter.unusedVariables false
set_option linter.unusedSimpArgs false
open Go.RowKit Go.Deep

theorem cn5_s1 (c n : Nat) (v : Value) (ev : Operand → Value) (z : World) (e61 : ev (.tmp 61) = .pointer (some ⟨c, 10, none⟩)) (e55 : ev (.tmp 55) = .int .i64 (n : Int)) (hc : z.cell? ⟨c, 10, none⟩ = some v) (hf : z.frozen? ⟨c, 10, none⟩ = false) : (execOp ev ⟨none, Op.store 3 (Operand.tmp 61) (Operand.tmp 55), 0, "", #[], none⟩).run Tryd.prog z = .ok .skip (z.setCell ⟨c, 10, none⟩ (.int .i64 (n : Int))) := by go_simp
theorem cn5_s2 (c : Nat) (sm : Int) (v : Value) (ev : Operand → Value) (z : World) (e64 : ev (.tmp 64) = .pointer (some ⟨c, 11, none⟩)) (e58 : ev (.tmp 58) = .int .u32 sm) (hc : z.cell? ⟨c, 11, none⟩ = some v) (hf : z.frozen? ⟨c, 11, none⟩ = false) : (execOp ev ⟨none, Op.store 31 (Operand.tmp 64) (Operand.tmp 58), 0, "", #[], none⟩).run Tryd.prog z = .ok .skip (z.setCell ⟨c, 11, none⟩ (.int .u32 sm)) := by go_simp
theorem cn5_0 (bx c n cp : Nat) (p : Option Addr) (sm : Int) (v10 v11 : Value) (ev : Operand → Value) (z : World) (ec : ∀ c, ev (.const c) = c) (e10 : ev (.tmp 10) = .pointer (some ⟨c, 0, none⟩)) (hS : z.cell? ⟨bx, 3, none⟩ = some (.slice p n cp)) : (execOp ev ⟨some 51, Op.move (Operand.tmp 10), 83, "", #[], none⟩).run Tryd.prog z = .ok (.value (.pointer (some ⟨c, 0, none⟩))) z := by
  obtain sa := hS
  go_simp
theorem cn5_1 (bx c n cp : Nat) (p : Option Addr) (sm : Int) (v10 v11 : Value) (ev : Operand → Value) (z : World) (ec : ∀ c, ev (.const c) = c) (e10 : ev (.tmp 10) = .pointer (some ⟨c, 0, none⟩)) (hS : z.cell? ⟨bx, 3, none⟩ = some (.slice p n cp)) : (execOp ev ⟨some 52, Op.move (Operand.tmp 10), 83, "", #[], none⟩).run Tryd.prog z = .ok (.value (.pointer (some ⟨c, 0, none⟩))) z := by
  obtain sa := hS
  go_simp
theorem cn5_2 (bx c n cp : Nat) (p : Option Addr) (sm : Int) (v10 v11 : Value) (ev : Operand → Value) (z : World) (ec : ∀ c, ev (.const c) = c) (e5 : ev (.tmp 5) = .pointer (some ⟨bx, 0, none⟩)) (hS : z.cell? ⟨bx, 3, none⟩ = some (.slice p n cp)) : (execOp ev ⟨some 53, Op.fieldAddr 81 (Operand.tmp 5) 3, 0, "", #[], none⟩).run Tryd.prog z = .ok (.value (.pointer (some ⟨bx, 3, none⟩))) z := by
  obtain sa := hS
  go_simp
theorem cn5_3 (bx c n cp : Nat) (p : Option Addr) (sm : Int) (v10 v11 : Value) (ev : Operand → Value) (z : World) (ec : ∀ c, ev (.const c) = c) (e53 : ev (.tmp 53) = .pointer (some ⟨bx, 3, none⟩)) (hS : z.cell? ⟨bx, 3, none⟩ = some (.slice p n cp)) : (execOp ev ⟨some 54, Op.load 22 (Operand.tmp 53), 22, "", #[], none⟩).run Tryd.prog z = .ok (.value (.slice p n cp)) z := by
  obtain sa := hS
  go_simp
theorem cn5_4 (bx c n cp : Nat) (p : Option Addr) (sm : Int) (v10 v11 : Value) (ev : Operand → Value) (z : World) (ec : ∀ c, ev (.const c) = c) (e54 : ev (.tmp 54) = .slice p n cp) (hS : z.cell? ⟨bx, 3, none⟩ = some (.slice p n cp)) : (execOp ev ⟨some 55, Op.call { callee := Callee.builtin Builtin.len, args := #[Operand.tmp 54], argTypes := #[22] }, 3, "", #[], none⟩).run Tryd.prog z = .ok (.value (.int .i64 (n : Int))) z := by
  obtain sa := hS
  go_simp
theorem cn5_5 (bx c n cp : Nat) (p : Option Addr) (sm : Int) (v10 v11 : Value) (ev : Operand → Value) (z : World) (ec : ∀ c, ev (.const c) = c) (e5 : ev (.tmp 5) = .pointer (some ⟨bx, 0, none⟩)) (hS : z.cell? ⟨bx, 3, none⟩ = some (.slice p n cp)) : (execOp ev ⟨some 56, Op.fieldAddr 81 (Operand.tmp 5) 3, 0, "", #[], none⟩).run Tryd.prog z = .ok (.value (.pointer (some ⟨bx, 3, none⟩))) z := by
  obtain sa := hS
  go_simp
theorem cn5_6 (bx c n cp : Nat) (p : Option Addr) (sm : Int) (v10 v11 : Value) (ev : Operand → Value) (z : World) (ec : ∀ c, ev (.const c) = c) (e56 : ev (.tmp 56) = .pointer (some ⟨bx, 3, none⟩)) (hS : z.cell? ⟨bx, 3, none⟩ = some (.slice p n cp)) : (execOp ev ⟨some 57, Op.load 22 (Operand.tmp 56), 22, "", #[], none⟩).run Tryd.prog z = .ok (.value (.slice p n cp)) z := by
  obtain sa := hS
  go_simp
set_option maxRecDepth 100000 in
theorem cn5_7 (bx c n cp : Nat) (p : Option Addr) (sm : Int) (v10 v11 : Value) (ev : Operand → Value) (z : World) (ec : ∀ c, ev (.const c) = c) (ef : ev (.func 70) = .func (.func 70) #[] #[]) (e57 : ev (.tmp 57) = .slice p n cp) : (execOp ev ⟨some 58, Op.call { callee := Callee.value (Operand.func 70), args := #[Operand.tmp 57], argTypes := #[22] }, 31, "", #[], none⟩).run Tryd.prog z = .ok (.enter 70 #[.slice p n cp]) z :=
  enter_run _ ef (by simp only [List.map_toArray, List.map_cons, List.map_nil, ec, e57]) (fun _ => by rfl)
theorem cn5_8 (bx c n cp : Nat) (p : Option Addr) (sm : Int) (v10 v11 : Value) (ev : Operand → Value) (z : World) (ec : ∀ c, ev (.const c) = c) (e51 : ev (.tmp 51) = .pointer (some ⟨c, 0, none⟩)) (hS : z.cell? ⟨bx, 3, none⟩ = some (.slice p n cp)) : (execOp ev ⟨some 59, Op.nilCheck (Operand.tmp 51), 0, "", #[], none⟩).run Tryd.prog z = .ok (.value (.pointer (some ⟨c, 0, none⟩))) z := by
  obtain sa := hS
  go_simp
theorem cn5_9 (bx c n cp : Nat) (p : Option Addr) (sm : Int) (v10 v11 : Value) (ev : Operand → Value) (z : World) (ec : ∀ c, ev (.const c) = c) (e59 : ev (.tmp 59) = .pointer (some ⟨c, 0, none⟩)) (hS : z.cell? ⟨bx, 3, none⟩ = some (.slice p n cp)) : (execOp ev ⟨some 60, Op.fieldAddr 106 (Operand.tmp 59) 3, 0, "", #[], none⟩).run Tryd.prog z = .ok (.value (.pointer (some ⟨c, 3, none⟩))) z := by
  obtain sa := hS
  go_simp
theorem cn5_10 (bx c n cp : Nat) (p : Option Addr) (sm : Int) (v10 v11 : Value) (ev : Operand → Value) (z : World) (ec : ∀ c, ev (.const c) = c) (e60 : ev (.tmp 60) = .pointer (some ⟨c, 3, none⟩)) (hS : z.cell? ⟨bx, 3, none⟩ = some (.slice p n cp)) : (execOp ev ⟨some 61, Op.fieldAddr 42 (Operand.tmp 60) 7, 0, "", #[], none⟩).run Tryd.prog z = .ok (.value (.pointer (some ⟨c, 10, none⟩))) z := by
  obtain sa := hS
  go_simp
theorem cn5_12 (bx c n cp : Nat) (p : Option Addr) (sm : Int) (v10 v11 : Value) (ev : Operand → Value) (z : World) (ec : ∀ c, ev (.const c) = c) (e52 : ev (.tmp 52) = .pointer (some ⟨c, 0, none⟩)) (hS : z.cell? ⟨bx, 3, none⟩ = some (.slice p n cp)) : (execOp ev ⟨some 62, Op.nilCheck (Operand.tmp 52), 0, "", #[], none⟩).run Tryd.prog z = .ok (.value (.pointer (some ⟨c, 0, none⟩))) z := by
  obtain sa := hS
  go_simp
theorem cn5_13 (bx c n cp : Nat) (p : Option Addr) (sm : Int) (v10 v11 : Value) (ev : Operand → Value) (z : World) (ec : ∀ c, ev (.const c) = c) (e62 : ev (.tmp 62) = .pointer (some ⟨c, 0, none⟩)) (hS : z.cell? ⟨bx, 3, none⟩ = some (.slice p n cp)) : (execOp ev ⟨some 63, Op.fieldAddr 106 (Operand.tmp 62) 3, 0, "", #[], none⟩).run Tryd.prog z = .ok (.value (.pointer (some ⟨c, 3, none⟩))) z := by
  obtain sa := hS
  go_simp
theorem cn5_14 (bx c n cp : Nat) (p : Option Addr) (sm : Int) (v10 v11 : Value) (ev : Operand → Value) (z : World) (ec : ∀ c, ev (.const c) = c) (e63 : ev (.tmp 63) = .pointer (some ⟨c, 3, none⟩)) (hS : z.cell? ⟨bx, 3, none⟩ = some (.slice p n cp)) : (execOp ev ⟨some 64, Op.fieldAddr 42 (Operand.tmp 63) 8, 0, "", #[], none⟩).run Tryd.prog z = .ok (.value (.pointer (some ⟨c, 11, none⟩))) z := by
  obtain sa := hS
  go_simp
structure cn5R (ops : Array Oper) : Prop where
  size : ops.size = 16
  sel : Region.noSelect ops = true
  o0 : (ops[0]?).map bare = some ⟨some 51, Op.move (Operand.tmp 10), 83, "", #[], none⟩
  o1 : (ops[1]?).map bare = some ⟨some 52, Op.move (Operand.tmp 10), 83, "", #[], none⟩
  o2 : (ops[2]?).map bare = some ⟨some 53, Op.fieldAddr 81 (Operand.tmp 5) 3, 0, "", #[], none⟩
  o3 : (ops[3]?).map bare = some ⟨some 54, Op.load 22 (Operand.tmp 53), 22, "", #[], none⟩
  o4 : (ops[4]?).map bare = some ⟨some 55, Op.call { callee := Callee.builtin Builtin.len, args := #[Operand.tmp 54], argTypes := #[22] }, 3, "", #[], none⟩
  o5 : (ops[5]?).map bare = some ⟨some 56, Op.fieldAddr 81 (Operand.tmp 5) 3, 0, "", #[], none⟩
  o6 : (ops[6]?).map bare = some ⟨some 57, Op.load 22 (Operand.tmp 56), 22, "", #[], none⟩
  o7 : (ops[7]?).map bare = some ⟨some 58, Op.call { callee := Callee.value (Operand.func 70), args := #[Operand.tmp 57], argTypes := #[22] }, 31, "", #[], none⟩
  o8 : (ops[8]?).map bare = some ⟨some 59, Op.nilCheck (Operand.tmp 51), 0, "", #[], none⟩
  o9 : (ops[9]?).map bare = some ⟨some 60, Op.fieldAddr 106 (Operand.tmp 59) 3, 0, "", #[], none⟩
  o10 : (ops[10]?).map bare = some ⟨some 61, Op.fieldAddr 42 (Operand.tmp 60) 7, 0, "", #[], none⟩
  o11 : (ops[11]?).map bare = some ⟨none, Op.store 3 (Operand.tmp 61) (Operand.tmp 55), 0, "", #[], none⟩
  o12 : (ops[12]?).map bare = some ⟨some 62, Op.nilCheck (Operand.tmp 52), 0, "", #[], none⟩
  o13 : (ops[13]?).map bare = some ⟨some 63, Op.fieldAddr 106 (Operand.tmp 62) 3, 0, "", #[], none⟩
  o14 : (ops[14]?).map bare = some ⟨some 64, Op.fieldAddr 42 (Operand.tmp 63) 8, 0, "", #[], none⟩
  o15 : (ops[15]?).map bare = some ⟨none, Op.store 31 (Operand.tmp 64) (Operand.tmp 58), 0, "", #[], none⟩
  may0 : takeB .any ops [0, 1, 2, 3, 4, 5, 6] (Array.replicate 16 false) = true
  r7 : Region.ready .any ops (mark [0, 1, 2, 3, 4, 5, 6] (Array.replicate 16 false)) = [7]
  may1 : takeB .any ops [8, 9, 10] ((mark [0, 1, 2, 3, 4, 5, 6] (Array.replicate 16 false)).setIfInBounds 7 true) = true
  r11 : Region.ready .any ops (mark [8, 9, 10] ((mark [0, 1, 2, 3, 4, 5, 6] (Array.replicate 16 false)).setIfInBounds 7 true)) = [11]
  may2 : takeB .any ops [12, 13, 14] ((mark [8, 9, 10] ((mark [0, 1, 2, 3, 4, 5, 6] (Array.replicate 16 false)).setIfInBounds 7 true)).setIfInBounds 11 true) = true
  r15 : Region.ready .any ops (mark [12, 13, 14] ((mark [8, 9, 10] ((mark [0, 1, 2, 3, 4, 5, 6] (Array.replicate 16 false)).setIfInBounds 7 true)).setIfInBounds 11 true)) = [15]
  fin : Region.ready .any ops ((mark [12, 13, 14] ((mark [8, 9, 10] ((mark [0, 1, 2, 3, 4, 5, 6] (Array.replicate 16 false)).setIfInBounds 7 true)).setIfInBounds 11 true)).setIfInBounds 15 true) = []

set_option maxRecDepth 100000 in
set_option maxHeartbeats 3200000 in
theorem cn5_region {ops : Array Oper} {id : Nat} {Q : Exit → Act → World → Prop} {a : Act} {y : World} (R : cn5R ops) (bx c n cp : Nat) (p : Option Addr) (sm : Int) (v10 v11 : Value)
    (hQ : ∀ d v c a w, Q (.panic c) (a.put d v) w → Q (.panic c) a w) (hsz : a.tmps.size = 73) (e5 : a.eval (.tmp 5) = .pointer (some ⟨bx, 0, none⟩)) (e10 : a.eval (.tmp 10) = .pointer (some ⟨c, 0, none⟩)) (hS0 : (y.drew.cell? ⟨bx, 3, none⟩ = some (.slice p n cp))) (hS1 : ((y.drew.setCell ⟨c, 10, none⟩ (.int .i64 (n : Int))).cell? ⟨bx, 3, none⟩ = some (.slice p n cp))) (hS2 : (((y.drew.setCell ⟨c, 10, none⟩ (.int .i64 (n : Int))).setCell ⟨c, 11, none⟩ (.int .u32 sm)).cell? ⟨bx, 3, none⟩ = some (.slice p n cp))) (c10 : y.drew.cell? ⟨c, 10, none⟩ = some v10) (f10 : y.drew.frozen? ⟨c, 10, none⟩ = false) (c11 : (y.drew.setCell ⟨c, 10, none⟩ (.int .i64 (n : Int))).cell? ⟨c, 11, none⟩ = some v11) (f11 : (y.drew.setCell ⟨c, 10, none⟩ (.int .i64 (n : Int))).frozen? ⟨c, 11, none⟩ = false) (hc : Calls Tryd.prog 70 #[.slice p n cp] y.drew fun e w9 => e = .returned (.int .u32 sm) ∧ w9 = y.drew)
    (hK :  Q .normal ((((((((((((((a.put (some 51) (.pointer (some ⟨c, 0, none⟩))).put (some 52) (.pointer (some ⟨c, 0, none⟩))).put (some 53) (.pointer (some ⟨bx, 3, none⟩))).put (some 54) (.slice p n cp)).put (some 55) (.int .i64 (n : Int))).put (some 56) (.pointer (some ⟨bx, 3, none⟩))).put (some 57) (.slice p n cp)).put (some 58) (.int .u32 sm)).put (some 59) (.pointer (some ⟨c, 0, none⟩))).put (some 60) (.pointer (some ⟨c, 3, none⟩))).put (some 61) (.pointer (some ⟨c, 10, none⟩))).put (some 62) (.pointer (some ⟨c, 0, none⟩))).put (some 63) (.pointer (some ⟨c, 3, none⟩))).put (some 64) (.pointer (some ⟨c, 11, none⟩))) ((y.drew.setCell ⟨c, 10, none⟩ (.int .i64 (n : Int))).setCell ⟨c, 11, none⟩ (.int .u32 sm))) : (Code.region id ops true).wp Tryd.prog Q a y := by
  have HR : Hid (cn5R ops) := R
  have hdf : a.defers = a.defers := rfl
  refine wp_region_held_drew (S := (fun z : World => z.cell? ⟨bx, 3, none⟩ = some (.slice p n cp))) (by kernel_rfl) (hS0) (fun hHeld => ?_)
  rw [R.size]
  clear R
  refine wpAnyH_takes HR.out.sel hQ hHeld [0, 1, 2, 3, 4, 5, 6] 9 _ _ HR.out.may0 ?_
  refine wpTake_stepE ⟨some 51, Op.move (Operand.tmp 10), 83, "", #[], none⟩ 51 (.pointer (some ⟨c, 0, none⟩)) HR.out.o0 rfl (by rw [hsz]; decide) (wanted_none rfl) (fun z hS => cn5_0 bx c n cp p sm v10 v11 _ z (fun _ => rfl) e10 hS) ?_
  intro a1 ha1 s1 f1 n1 k1
  replace hsz := s1.trans hsz
  replace hdf := f1.trans hdf
  replace e5 := (k1 5 (by decide)).trans e5
  replace e10 := (k1 10 (by decide)).trans e10
  have e51 := n1
  clear s1 f1 n1 k1
  refine wpTake_stepE ⟨some 52, Op.move (Operand.tmp 10), 83, "", #[], none⟩ 52 (.pointer (some ⟨c, 0, none⟩)) HR.out.o1 rfl (by rw [hsz]; decide) (wanted_none rfl) (fun z hS => cn5_1 bx c n cp p sm v10 v11 _ z (fun _ => rfl) e10 hS) ?_
  intro a2 ha2 s1 f1 n1 k1
  replace hsz := s1.trans hsz
  replace hdf := f1.trans hdf
  replace e5 := (k1 5 (by decide)).trans e5
  replace e10 := (k1 10 (by decide)).trans e10
  replace e51 := (k1 51 (by decide)).trans e51
  have e52 := n1
  clear s1 f1 n1 k1
  refine wpTake_stepE ⟨some 53, Op.fieldAddr 81 (Operand.tmp 5) 3, 0, "", #[], none⟩ 53 (.pointer (some ⟨bx, 3, none⟩)) HR.out.o2 rfl (by rw [hsz]; decide) (wanted_none rfl) (fun z hS => cn5_2 bx c n cp p sm v10 v11 _ z (fun _ => rfl) e5 hS) ?_
  intro a3 ha3 s1 f1 n1 k1
  replace hsz := s1.trans hsz
  replace hdf := f1.trans hdf
  replace e5 := (k1 5 (by decide)).trans e5
  replace e10 := (k1 10 (by decide)).trans e10
  replace e51 := (k1 51 (by decide)).trans e51
  replace e52 := (k1 52 (by decide)).trans e52
  have e53 := n1
  clear s1 f1 n1 k1
  refine wpTake_stepE ⟨some 54, Op.load 22 (Operand.tmp 53), 22, "", #[], none⟩ 54 (.slice p n cp) HR.out.o3 rfl (by rw [hsz]; decide) (wanted_none rfl) (fun z hS => cn5_3 bx c n cp p sm v10 v11 _ z (fun _ => rfl) e53 hS) ?_
  intro a4 ha4 s1 f1 n1 k1
  replace hsz := s1.trans hsz
  replace hdf := f1.trans hdf
  replace e5 := (k1 5 (by decide)).trans e5
  replace e10 := (k1 10 (by decide)).trans e10
  replace e51 := (k1 51 (by decide)).trans e51
  replace e52 := (k1 52 (by decide)).trans e52
  have e54 := n1
  clear s1 f1 n1 k1
  refine wpTake_stepE ⟨some 55, Op.call { callee := Callee.builtin Builtin.len, args := #[Operand.tmp 54], argTypes := #[22] }, 3, "", #[], none⟩ 55 (.int .i64 (n : Int)) HR.out.o4 rfl (by rw [hsz]; decide) (wanted_none rfl) (fun z hS => cn5_4 bx c n cp p sm v10 v11 _ z (fun _ => rfl) e54 hS) ?_
  intro a5 ha5 s1 f1 n1 k1
  replace hsz := s1.trans hsz
  replace hdf := f1.trans hdf
  replace e5 := (k1 5 (by decide)).trans e5
  replace e10 := (k1 10 (by decide)).trans e10
  replace e51 := (k1 51 (by decide)).trans e51
  replace e52 := (k1 52 (by decide)).trans e52
  have e55 := n1
  clear s1 f1 n1 k1
  refine wpTake_stepE ⟨some 56, Op.fieldAddr 81 (Operand.tmp 5) 3, 0, "", #[], none⟩ 56 (.pointer (some ⟨bx, 3, none⟩)) HR.out.o5 rfl (by rw [hsz]; decide) (wanted_none rfl) (fun z hS => cn5_5 bx c n cp p sm v10 v11 _ z (fun _ => rfl) e5 hS) ?_
  intro a6 ha6 s1 f1 n1 k1
  replace hsz := s1.trans hsz
  replace hdf := f1.trans hdf
  replace e5 := (k1 5 (by decide)).trans e5
  replace e10 := (k1 10 (by decide)).trans e10
  replace e51 := (k1 51 (by decide)).trans e51
  replace e52 := (k1 52 (by decide)).trans e52
  replace e55 := (k1 55 (by decide)).trans e55
  have e56 := n1
  clear s1 f1 n1 k1
  refine wpTake_stepE ⟨some 57, Op.load 22 (Operand.tmp 56), 22, "", #[], none⟩ 57 (.slice p n cp) HR.out.o6 rfl (by rw [hsz]; decide) (wanted_none rfl) (fun z hS => cn5_6 bx c n cp p sm v10 v11 _ z (fun _ => rfl) e56 hS) ?_
  intro a7 ha7 s1 f1 n1 k1
  replace hsz := s1.trans hsz
  replace hdf := f1.trans hdf
  replace e5 := (k1 5 (by decide)).trans e5
  replace e10 := (k1 10 (by decide)).trans e10
  replace e51 := (k1 51 (by decide)).trans e51
  replace e52 := (k1 52 (by decide)).trans e52
  replace e55 := (k1 55 (by decide)).trans e55
  have e57 := n1
  clear s1 f1 n1 k1
  refine wpTake_nil ?_
  refine wpAnyH_one ⟨some 58, Op.call { callee := Callee.value (Operand.func 70), args := #[Operand.tmp 57], argTypes := #[22] }, 31, "", #[], none⟩ HR.out.r7 HR.out.o7 rfl (fun K' hK' => ?_)
  refine wp_enter (cn5_7 bx c n cp p sm v10 v11 _ _ (fun _ => rfl) rfl e57) (hc) ?_
  rintro e9 w9 ⟨rfl, rfl⟩
  refine ⟨_, rfl, hK'.out _ _ (hS0) ?_⟩
  replace hHeld := hS0
  clear hK' K'
  show wpAnyH _ _ _ _ _ _ _ (Act.put a7 (some 58) (.int .u32 sm)) _
  obtain ⟨s1, f1, n1, k1⟩ := act_put a7 58 (.int .u32 sm) (show 58 < _ by rw [hsz]; decide)
  obtain ⟨a8, ha8⟩ : ∃ x, x = Act.put a7 (some 58) (.int .u32 sm) := ⟨_, rfl⟩
  rw [← ha8] at s1 f1 n1 k1 ⊢
  replace hsz := s1.trans hsz
  replace hdf := f1.trans hdf
  replace e5 := (k1 5 (by decide)).trans e5
  replace e10 := (k1 10 (by decide)).trans e10
  replace e51 := (k1 51 (by decide)).trans e51
  replace e52 := (k1 52 (by decide)).trans e52
  replace e55 := (k1 55 (by decide)).trans e55
  have e58 := n1
  clear s1 f1 n1 k1
  refine wpAnyH_takes HR.out.sel hQ hHeld [8, 9, 10] 5 _ _ HR.out.may1 ?_
  refine wpTake_stepE ⟨some 59, Op.nilCheck (Operand.tmp 51), 0, "", #[], none⟩ 59 (.pointer (some ⟨c, 0, none⟩)) HR.out.o8 rfl (by rw [hsz]; decide) (wanted_none rfl) (fun z hS => cn5_8 bx c n cp p sm v10 v11 _ z (fun _ => rfl) e51 hS) ?_
  intro a9 ha9 s1 f1 n1 k1
  replace hsz := s1.trans hsz
  replace hdf := f1.trans hdf
  replace e5 := (k1 5 (by decide)).trans e5
  replace e10 := (k1 10 (by decide)).trans e10
  replace e52 := (k1 52 (by decide)).trans e52
  replace e55 := (k1 55 (by decide)).trans e55
  replace e58 := (k1 58 (by decide)).trans e58
  have e59 := n1
  clear s1 f1 n1 k1
  refine wpTake_stepE ⟨some 60, Op.fieldAddr 106 (Operand.tmp 59) 3, 0, "", #[], none⟩ 60 (.pointer (some ⟨c, 3, none⟩)) HR.out.o9 rfl (by rw [hsz]; decide) (wanted_none rfl) (fun z hS => cn5_9 bx c n cp p sm v10 v11 _ z (fun _ => rfl) e59 hS) ?_
  intro a10 ha10 s1 f1 n1 k1
  replace hsz := s1.trans hsz
  replace hdf := f1.trans hdf
  replace e5 := (k1 5 (by decide)).trans e5
  replace e10 := (k1 10 (by decide)).trans e10
  replace e52 := (k1 52 (by decide)).trans e52
  replace e55 := (k1 55 (by decide)).trans e55
  replace e58 := (k1 58 (by decide)).trans e58
  have e60 := n1
  clear s1 f1 n1 k1
  refine wpTake_stepE ⟨some 61, Op.fieldAddr 42 (Operand.tmp 60) 7, 0, "", #[], none⟩ 61 (.pointer (some ⟨c, 10, none⟩)) HR.out.o10 rfl (by rw [hsz]; decide) (wanted_none rfl) (fun z hS => cn5_10 bx c n cp p sm v10 v11 _ z (fun _ => rfl) e60 hS) ?_
  intro a11 ha11 s1 f1 n1 k1
  replace hsz := s1.trans hsz
  replace hdf := f1.trans hdf
  replace e5 := (k1 5 (by decide)).trans e5
  replace e10 := (k1 10 (by decide)).trans e10
  replace e52 := (k1 52 (by decide)).trans e52
  replace e55 := (k1 55 (by decide)).trans e55
  replace e58 := (k1 58 (by decide)).trans e58
  have e61 := n1
  clear s1 f1 n1 k1
  refine wpTake_nil ?_
  refine wpAnyH_skip ⟨none, Op.store 3 (Operand.tmp 61) (Operand.tmp 55), 0, "", #[], none⟩ (y.drew.setCell ⟨c, 10, none⟩ (.int .i64 (n : Int))) HR.out.r11 HR.out.o11 rfl rfl (cn5_s1 c n v10 _ _ e61 e55 c10 f10) (hS1) ?_
  replace hHeld := hS1
  refine wpAnyH_takes HR.out.sel hQ hHeld [12, 13, 14] 1 _ _ HR.out.may2 ?_
  refine wpTake_stepE ⟨some 62, Op.nilCheck (Operand.tmp 52), 0, "", #[], none⟩ 62 (.pointer (some ⟨c, 0, none⟩)) HR.out.o12 rfl (by rw [hsz]; decide) (wanted_none rfl) (fun z hS => cn5_12 bx c n cp p sm v10 v11 _ z (fun _ => rfl) e52 hS) ?_
  intro a12 ha12 s1 f1 n1 k1
  replace hsz := s1.trans hsz
  replace hdf := f1.trans hdf
  replace e5 := (k1 5 (by decide)).trans e5
  replace e10 := (k1 10 (by decide)).trans e10
  replace e58 := (k1 58 (by decide)).trans e58
  have e62 := n1
  clear s1 f1 n1 k1
  refine wpTake_stepE ⟨some 63, Op.fieldAddr 106 (Operand.tmp 62) 3, 0, "", #[], none⟩ 63 (.pointer (some ⟨c, 3, none⟩)) HR.out.o13 rfl (by rw [hsz]; decide) (wanted_none rfl) (fun z hS => cn5_13 bx c n cp p sm v10 v11 _ z (fun _ => rfl) e62 hS) ?_
  intro a13 ha13 s1 f1 n1 k1
  replace hsz := s1.trans hsz
  replace hdf := f1.trans hdf
  replace e5 := (k1 5 (by decide)).trans e5
  replace e10 := (k1 10 (by decide)).trans e10
  replace e58 := (k1 58 (by decide)).trans e58
  have e63 := n1
  clear s1 f1 n1 k1
  refine wpTake_stepE ⟨some 64, Op.fieldAddr 42 (Operand.tmp 63) 8, 0, "", #[], none⟩ 64 (.pointer (some ⟨c, 11, none⟩)) HR.out.o14 rfl (by rw [hsz]; decide) (wanted_none rfl) (fun z hS => cn5_14 bx c n cp p sm v10 v11 _ z (fun _ => rfl) e63 hS) ?_
  intro a14 ha14 s1 f1 n1 k1
  replace hsz := s1.trans hsz
  replace hdf := f1.trans hdf
  replace e5 := (k1 5 (by decide)).trans e5
  replace e10 := (k1 10 (by decide)).trans e10
  replace e58 := (k1 58 (by decide)).trans e58
  have e64 := n1
  clear s1 f1 n1 k1
  refine wpTake_nil ?_
  refine wpAnyH_skip ⟨none, Op.store 31 (Operand.tmp 64) (Operand.tmp 58), 0, "", #[], none⟩ ((y.drew.setCell ⟨c, 10, none⟩ (.int .i64 (n : Int))).setCell ⟨c, 11, none⟩ (.int .u32 sm)) HR.out.r15 HR.out.o15 rfl rfl (cn5_s2 c sm v11 _ _ e64 e58 c11 f11) (hS2) ?_
  replace hHeld := hS2
  refine wpAnyH_done HR.out.fin ?_ _
  rw [ha14, ha13, ha12, ha11, ha10, ha9, ha8, ha7, ha6, ha5, ha4, ha3, ha2, ha1]
  exact hK
-- cn5: ⟨by kernel_rfl, by kernel_rfl, by kernel_rfl, by kernel_rfl, by kernel_rfl, by kernel_rfl, by kernel_rfl, by kernel_rfl, by kernel_rfl, by kernel_rfl, by kernel_rfl, by kernel_rfl, by kernel_rfl, by kernel_rfl, by kernel_rfl, by kernel_rfl, by kernel_rfl, by kernel_rfl, by kernel_rfl, by kernel_rfl, by kernel_rfl, by kernel_rfl, by kernel_rfl, by kernel_rfl, by kernel_rfl⟩

theorem pl3_0 (c bx K M : Nat) (sz : Int) (nv : Value) (ev : Operand → Value) (z : World) (ec : ∀ c, ev (.const c) = c) (e0 : ev (.tmp 0) = .pointer (some ⟨c, 0, none⟩)) (hS : z.cell? ⟨c, 15, none⟩ = some (.bool false) ∧ z.cell? ⟨c, 4, none⟩ = some (.int .i64 1) ∧ z.cell? ⟨c, 10, none⟩ = some (.int .i64 sz) ∧ (loadVar 26 ⟨bx, 0, none⟩).run Tryd.prog z = .ok (.agg #[.int .i64 (K : Int), .int .i64 (M : Int)]) z) : (execOp ev ⟨some 10, Op.move (Operand.tmp 0), 83, "", #[], none⟩).run Tryd.prog z = .ok (.value (.pointer (some ⟨c, 0, none⟩))) z := by
  obtain ⟨sa, sb, sc, sd⟩ := hS
  go_simp
theorem pl3_1 (c bx K M : Nat) (sz : Int) (nv : Value) (ev : Operand → Value) (z : World) (ec : ∀ c, ev (.const c) = c) (e10 : ev (.tmp 10) = .pointer (some ⟨c, 0, none⟩)) (hS : z.cell? ⟨c, 15, none⟩ = some (.bool false) ∧ z.cell? ⟨c, 4, none⟩ = some (.int .i64 1) ∧ z.cell? ⟨c, 10, none⟩ = some (.int .i64 sz) ∧ (loadVar 26 ⟨bx, 0, none⟩).run Tryd.prog z = .ok (.agg #[.int .i64 (K : Int), .int .i64 (M : Int)]) z) : (execOp ev ⟨some 11, Op.nilCheck (Operand.tmp 10), 0, "", #[], none⟩).run Tryd.prog z = .ok (.value (.pointer (some ⟨c, 0, none⟩))) z := by
  obtain ⟨sa, sb, sc, sd⟩ := hS
  go_simp
theorem pl3_2 (c bx K M : Nat) (sz : Int) (nv : Value) (ev : Operand → Value) (z : World) (ec : ∀ c, ev (.const c) = c) (e11 : ev (.tmp 11) = .pointer (some ⟨c, 0, none⟩)) (hS : z.cell? ⟨c, 15, none⟩ = some (.bool false) ∧ z.cell? ⟨c, 4, none⟩ = some (.int .i64 1) ∧ z.cell? ⟨c, 10, none⟩ = some (.int .i64 sz) ∧ (loadVar 26 ⟨bx, 0, none⟩).run Tryd.prog z = .ok (.agg #[.int .i64 (K : Int), .int .i64 (M : Int)]) z) : (execOp ev ⟨some 12, Op.fieldAddr 106 (Operand.tmp 11) 4, 0, "", #[], none⟩).run Tryd.prog z = .ok (.value (.pointer (some ⟨c, 15, none⟩))) z := by
  obtain ⟨sa, sb, sc, sd⟩ := hS
  go_simp
theorem pl3_3 (c bx K M : Nat) (sz : Int) (nv : Value) (ev : Operand → Value) (z : World) (ec : ∀ c, ev (.const c) = c) (e12 : ev (.tmp 12) = .pointer (some ⟨c, 15, none⟩)) (hS : z.cell? ⟨c, 15, none⟩ = some (.bool false) ∧ z.cell? ⟨c, 4, none⟩ = some (.int .i64 1) ∧ z.cell? ⟨c, 10, none⟩ = some (.int .i64 sz) ∧ (loadVar 26 ⟨bx, 0, none⟩).run Tryd.prog z = .ok (.agg #[.int .i64 (K : Int), .int .i64 (M : Int)]) z) : (execOp ev ⟨some 13, Op.load 4 (Operand.tmp 12), 4, "", #[], none⟩).run Tryd.prog z = .ok (.value (.bool false)) z := by
  obtain ⟨sa, sb, sc, sd⟩ := hS
  go_simp
theorem pl3_4 (c bx K M : Nat) (sz : Int) (nv : Value) (ev : Operand → Value) (z : World) (ec : ∀ c, ev (.const c) = c) (e13 : ev (.tmp 13) = .bool false) (hS : z.cell? ⟨c, 15, none⟩ = some (.bool false) ∧ z.cell? ⟨c, 4, none⟩ = some (.int .i64 1) ∧ z.cell? ⟨c, 10, none⟩ = some (.int .i64 sz) ∧ (loadVar 26 ⟨bx, 0, none⟩).run Tryd.prog z = .ok (.agg #[.int .i64 (K : Int), .int .i64 (M : Int)]) z) : (execOp ev ⟨some 14, Op.move (Operand.tmp 13), 4, "", #[], none⟩).run Tryd.prog z = .ok (.value (.bool false)) z := by
  obtain ⟨sa, sb, sc, sd⟩ := hS
  go_simp
theorem pl3_5 (c bx K M : Nat) (sz : Int) (nv : Value) (ev : Operand → Value) (z : World) (ec : ∀ c, ev (.const c) = c) (e0 : ev (.tmp 0) = .pointer (some ⟨c, 0, none⟩)) (hS : z.cell? ⟨c, 15, none⟩ = some (.bool false) ∧ z.cell? ⟨c, 4, none⟩ = some (.int .i64 1) ∧ z.cell? ⟨c, 10, none⟩ = some (.int .i64 sz) ∧ (loadVar 26 ⟨bx, 0, none⟩).run Tryd.prog z = .ok (.agg #[.int .i64 (K : Int), .int .i64 (M : Int)]) z) : (execOp ev ⟨some 15, Op.move (Operand.tmp 0), 83, "", #[], some (4, false)⟩).run Tryd.prog z = .ok (.value (.pointer (some ⟨c, 0, none⟩))) z := by
  obtain ⟨sa, sb, sc, sd⟩ := hS
  go_simp
theorem pl3_6 (c bx K M : Nat) (sz : Int) (nv : Value) (ev : Operand → Value) (z : World) (ec : ∀ c, ev (.const c) = c) (e15 : ev (.tmp 15) = .pointer (some ⟨c, 0, none⟩)) (hS : z.cell? ⟨c, 15, none⟩ = some (.bool false) ∧ z.cell? ⟨c, 4, none⟩ = some (.int .i64 1) ∧ z.cell? ⟨c, 10, none⟩ = some (.int .i64 sz) ∧ (loadVar 26 ⟨bx, 0, none⟩).run Tryd.prog z = .ok (.agg #[.int .i64 (K : Int), .int .i64 (M : Int)]) z) : (execOp ev ⟨some 16, Op.nilCheck (Operand.tmp 15), 0, "", #[], some (4, false)⟩).run Tryd.prog z = .ok (.value (.pointer (some ⟨c, 0, none⟩))) z := by
  obtain ⟨sa, sb, sc, sd⟩ := hS
  go_simp
theorem pl3_7 (c bx K M : Nat) (sz : Int) (nv : Value) (ev : Operand → Value) (z : World) (ec : ∀ c, ev (.const c) = c) (e16 : ev (.tmp 16) = .pointer (some ⟨c, 0, none⟩)) (hS : z.cell? ⟨c, 15, none⟩ = some (.bool false) ∧ z.cell? ⟨c, 4, none⟩ = some (.int .i64 1) ∧ z.cell? ⟨c, 10, none⟩ = some (.int .i64 sz) ∧ (loadVar 26 ⟨bx, 0, none⟩).run Tryd.prog z = .ok (.agg #[.int .i64 (K : Int), .int .i64 (M : Int)]) z) : (execOp ev ⟨some 17, Op.fieldAddr 106 (Operand.tmp 16) 3, 0, "", #[], some (4, false)⟩).run Tryd.prog z = .ok (.value (.pointer (some ⟨c, 3, none⟩))) z := by
  obtain ⟨sa, sb, sc, sd⟩ := hS
  go_simp
theorem pl3_8 (c bx K M : Nat) (sz : Int) (nv : Value) (ev : Operand → Value) (z : World) (ec : ∀ c, ev (.const c) = c) (e17 : ev (.tmp 17) = .pointer (some ⟨c, 3, none⟩)) (hS : z.cell? ⟨c, 15, none⟩ = some (.bool false) ∧ z.cell? ⟨c, 4, none⟩ = some (.int .i64 1) ∧ z.cell? ⟨c, 10, none⟩ = some (.int .i64 sz) ∧ (loadVar 26 ⟨bx, 0, none⟩).run Tryd.prog z = .ok (.agg #[.int .i64 (K : Int), .int .i64 (M : Int)]) z) : (execOp ev ⟨some 18, Op.fieldAddr 42 (Operand.tmp 17) 1, 0, "", #[], some (4, false)⟩).run Tryd.prog z = .ok (.value (.pointer (some ⟨c, 4, none⟩))) z := by
  obtain ⟨sa, sb, sc, sd⟩ := hS
  go_simp
theorem pl3_9 (c bx K M : Nat) (sz : Int) (nv : Value) (ev : Operand → Value) (z : World) (ec : ∀ c, ev (.const c) = c) (e18 : ev (.tmp 18) = .pointer (some ⟨c, 4, none⟩)) (hS : z.cell? ⟨c, 15, none⟩ = some (.bool false) ∧ z.cell? ⟨c, 4, none⟩ = some (.int .i64 1) ∧ z.cell? ⟨c, 10, none⟩ = some (.int .i64 sz) ∧ (loadVar 26 ⟨bx, 0, none⟩).run Tryd.prog z = .ok (.agg #[.int .i64 (K : Int), .int .i64 (M : Int)]) z) : (execOp ev ⟨some 19, Op.load 3 (Operand.tmp 18), 3, "", #[], some (4, false)⟩).run Tryd.prog z = .ok (.value (.int .i64 1)) z := by
  obtain ⟨sa, sb, sc, sd⟩ := hS
  go_simp
theorem pl3_10 (c bx K M : Nat) (sz : Int) (nv : Value) (ev : Operand → Value) (z : World) (ec : ∀ c, ev (.const c) = c) (e19 : ev (.tmp 19) = .int .i64 1) (hS : z.cell? ⟨c, 15, none⟩ = some (.bool false) ∧ z.cell? ⟨c, 4, none⟩ = some (.int .i64 1) ∧ z.cell? ⟨c, 10, none⟩ = some (.int .i64 sz) ∧ (loadVar 26 ⟨bx, 0, none⟩).run Tryd.prog z = .ok (.agg #[.int .i64 (K : Int), .int .i64 (M : Int)]) z) : (execOp ev ⟨some 20, Op.binOp BinOp.neq 3 (Operand.tmp 19) (Operand.const (Value.int IntKind.i64 1)) 3, 4, "", #[], some (4, false)⟩).run Tryd.prog z = .ok (.value (.bool false)) z := by
  obtain ⟨sa, sb, sc, sd⟩ := hS
  go_simp
theorem pl3_11 (c bx K M : Nat) (sz : Int) (nv : Value) (ev : Operand → Value) (z : World) (ec : ∀ c, ev (.const c) = c) (e14 : ev (.tmp 14) = .bool false) (e20 : ev (.tmp 20) = .bool false) (hS : z.cell? ⟨c, 15, none⟩ = some (.bool false) ∧ z.cell? ⟨c, 4, none⟩ = some (.int .i64 1) ∧ z.cell? ⟨c, 10, none⟩ = some (.int .i64 sz) ∧ (loadVar 26 ⟨bx, 0, none⟩).run Tryd.prog z = .ok (.agg #[.int .i64 (K : Int), .int .i64 (M : Int)]) z) : (execOp ev ⟨some 21, Op.pick (Operand.tmp 14) (Operand.const (Value.bool true)) (Operand.tmp 20), 4, "", #[], none⟩).run Tryd.prog z = .ok (.value (.bool false)) z := by
  obtain ⟨sa, sb, sc, sd⟩ := hS
  go_simp
theorem pl3_12 (c bx K M : Nat) (sz : Int) (nv : Value) (ev : Operand → Value) (z : World) (ec : ∀ c, ev (.const c) = c) (e21 : ev (.tmp 21) = .bool false) (hS : z.cell? ⟨c, 15, none⟩ = some (.bool false) ∧ z.cell? ⟨c, 4, none⟩ = some (.int .i64 1) ∧ z.cell? ⟨c, 10, none⟩ = some (.int .i64 sz) ∧ (loadVar 26 ⟨bx, 0, none⟩).run Tryd.prog z = .ok (.agg #[.int .i64 (K : Int), .int .i64 (M : Int)]) z) : (execOp ev ⟨some 22, Op.move (Operand.tmp 21), 4, "", #[], none⟩).run Tryd.prog z = .ok (.value (.bool false)) z := by
  obtain ⟨sa, sb, sc, sd⟩ := hS
  go_simp
theorem pl3_13 (c bx K M : Nat) (sz : Int) (nv : Value) (ev : Operand → Value) (z : World) (ec : ∀ c, ev (.const c) = c) (e0 : ev (.tmp 0) = .pointer (some ⟨c, 0, none⟩)) (hS : z.cell? ⟨c, 15, none⟩ = some (.bool false) ∧ z.cell? ⟨c, 4, none⟩ = some (.int .i64 1) ∧ z.cell? ⟨c, 10, none⟩ = some (.int .i64 sz) ∧ (loadVar 26 ⟨bx, 0, none⟩).run Tryd.prog z = .ok (.agg #[.int .i64 (K : Int), .int .i64 (M : Int)]) z) : (execOp ev ⟨some 23, Op.move (Operand.tmp 0), 83, "", #[], some (12, false)⟩).run Tryd.prog z = .ok (.value (.pointer (some ⟨c, 0, none⟩))) z := by
  obtain ⟨sa, sb, sc, sd⟩ := hS
  go_simp
theorem pl3_14 (c bx K M : Nat) (sz : Int) (nv : Value) (ev : Operand → Value) (z : World) (ec : ∀ c, ev (.const c) = c) (e23 : ev (.tmp 23) = .pointer (some ⟨c, 0, none⟩)) (hS : z.cell? ⟨c, 15, none⟩ = some (.bool false) ∧ z.cell? ⟨c, 4, none⟩ = some (.int .i64 1) ∧ z.cell? ⟨c, 10, none⟩ = some (.int .i64 sz) ∧ (loadVar 26 ⟨bx, 0, none⟩).run Tryd.prog z = .ok (.agg #[.int .i64 (K : Int), .int .i64 (M : Int)]) z) : (execOp ev ⟨some 24, Op.nilCheck (Operand.tmp 23), 0, "", #[], some (12, false)⟩).run Tryd.prog z = .ok (.value (.pointer (some ⟨c, 0, none⟩))) z := by
  obtain ⟨sa, sb, sc, sd⟩ := hS
  go_simp
theorem pl3_15 (c bx K M : Nat) (sz : Int) (nv : Value) (ev : Operand → Value) (z : World) (ec : ∀ c, ev (.const c) = c) (e24 : ev (.tmp 24) = .pointer (some ⟨c, 0, none⟩)) (hS : z.cell? ⟨c, 15, none⟩ = some (.bool false) ∧ z.cell? ⟨c, 4, none⟩ = some (.int .i64 1) ∧ z.cell? ⟨c, 10, none⟩ = some (.int .i64 sz) ∧ (loadVar 26 ⟨bx, 0, none⟩).run Tryd.prog z = .ok (.agg #[.int .i64 (K : Int), .int .i64 (M : Int)]) z) : (execOp ev ⟨some 25, Op.fieldAddr 106 (Operand.tmp 24) 5, 0, "", #[], some (12, false)⟩).run Tryd.prog z = .ok (.value (.pointer (some ⟨c, 16, none⟩))) z := by
  obtain ⟨sa, sb, sc, sd⟩ := hS
  go_simp
set_option maxRecDepth 100000 in
theorem pl3_16 (c bx K M : Nat) (sz : Int) (nv : Value) (ev : Operand → Value) (z : World) (ec : ∀ c, ev (.const c) = c) (ef : ev (.func 72) = .func (.func 72) #[] #[]) (e25 : ev (.tmp 25) = .pointer (some ⟨c, 16, none⟩)) : (execOp ev ⟨some 26, Op.call { callee := Callee.value (Operand.func 72), args := #[Operand.tmp 25], argTypes := #[102] }, 4, "", #[], some (12, false)⟩).run Tryd.prog z = .ok (.enter 72 #[.pointer (some ⟨c, 16, none⟩)]) z :=
  enter_run _ ef (by simp only [List.map_toArray, List.map_cons, List.map_nil, ec, e25]) (fun _ => by rfl)
theorem pl3_17 (c bx K M : Nat) (sz : Int) (nv : Value) (ev : Operand → Value) (z : World) (ec : ∀ c, ev (.const c) = c) (e22 : ev (.tmp 22) = .bool false) (e26 : ev (.tmp 26) = .bool false) (hS : z.cell? ⟨c, 15, none⟩ = some (.bool false) ∧ z.cell? ⟨c, 4, none⟩ = some (.int .i64 1) ∧ z.cell? ⟨c, 10, none⟩ = some (.int .i64 sz) ∧ (loadVar 26 ⟨bx, 0, none⟩).run Tryd.prog z = .ok (.agg #[.int .i64 (K : Int), .int .i64 (M : Int)]) z) : (execOp ev ⟨some 27, Op.pick (Operand.tmp 22) (Operand.const (Value.bool true)) (Operand.tmp 26), 4, "", #[], none⟩).run Tryd.prog z = .ok (.value (.bool false)) z := by
  obtain ⟨sa, sb, sc, sd⟩ := hS
  go_simp
theorem pl3_18 (c bx K M : Nat) (sz : Int) (nv : Value) (ev : Operand → Value) (z : World) (ec : ∀ c, ev (.const c) = c) (e27 : ev (.tmp 27) = .bool false) (hS : z.cell? ⟨c, 15, none⟩ = some (.bool false) ∧ z.cell? ⟨c, 4, none⟩ = some (.int .i64 1) ∧ z.cell? ⟨c, 10, none⟩ = some (.int .i64 sz) ∧ (loadVar 26 ⟨bx, 0, none⟩).run Tryd.prog z = .ok (.agg #[.int .i64 (K : Int), .int .i64 (M : Int)]) z) : (execOp ev ⟨some 28, Op.move (Operand.tmp 27), 4, "", #[], none⟩).run Tryd.prog z = .ok (.value (.bool false)) z := by
  obtain ⟨sa, sb, sc, sd⟩ := hS
  go_simp
theorem pl3_19 (c bx K M : Nat) (sz : Int) (nv : Value) (ev : Operand → Value) (z : World) (ec : ∀ c, ev (.const c) = c) (e4 : ev (.tmp 4) = .pointer (some ⟨bx, 0, none⟩)) (hS : z.cell? ⟨c, 15, none⟩ = some (.bool false) ∧ z.cell? ⟨c, 4, none⟩ = some (.int .i64 1) ∧ z.cell? ⟨c, 10, none⟩ = some (.int .i64 sz) ∧ (loadVar 26 ⟨bx, 0, none⟩).run Tryd.prog z = .ok (.agg #[.int .i64 (K : Int), .int .i64 (M : Int)]) z) : (execOp ev ⟨some 29, Op.load 26 (Operand.tmp 4), 26, "", #[], some (18, false)⟩).run Tryd.prog z = .ok (.value (.agg #[.int .i64 (K : Int), .int .i64 (M : Int)])) z := by
  exact exec_ldC e4 hS.2.2.2
theorem pl3_20 (c bx K M : Nat) (sz : Int) (nv : Value) (ev : Operand → Value) (z : World) (ec : ∀ c, ev (.const c) = c) (e0 : ev (.tmp 0) = .pointer (some ⟨c, 0, none⟩)) (hS : z.cell? ⟨c, 15, none⟩ = some (.bool false) ∧ z.cell? ⟨c, 4, none⟩ = some (.int .i64 1) ∧ z.cell? ⟨c, 10, none⟩ = some (.int .i64 sz) ∧ (loadVar 26 ⟨bx, 0, none⟩).run Tryd.prog z = .ok (.agg #[.int .i64 (K : Int), .int .i64 (M : Int)]) z) : (execOp ev ⟨some 30, Op.move (Operand.tmp 0), 83, "", #[], some (18, false)⟩).run Tryd.prog z = .ok (.value (.pointer (some ⟨c, 0, none⟩))) z := by
  obtain ⟨sa, sb, sc, sd⟩ := hS
  go_simp
theorem pl3_21 (c bx K M : Nat) (sz : Int) (nv : Value) (ev : Operand → Value) (z : World) (ec : ∀ c, ev (.const c) = c) (e30 : ev (.tmp 30) = .pointer (some ⟨c, 0, none⟩)) (hS : z.cell? ⟨c, 15, none⟩ = some (.bool false) ∧ z.cell? ⟨c, 4, none⟩ = some (.int .i64 1) ∧ z.cell? ⟨c, 10, none⟩ = some (.int .i64 sz) ∧ (loadVar 26 ⟨bx, 0, none⟩).run Tryd.prog z = .ok (.agg #[.int .i64 (K : Int), .int .i64 (M : Int)]) z) : (execOp ev ⟨some 31, Op.nilCheck (Operand.tmp 30), 0, "", #[], some (18, false)⟩).run Tryd.prog z = .ok (.value (.pointer (some ⟨c, 0, none⟩))) z := by
  obtain ⟨sa, sb, sc, sd⟩ := hS
  go_simp
theorem pl3_22 (c bx K M : Nat) (sz : Int) (nv : Value) (ev : Operand → Value) (z : World) (ec : ∀ c, ev (.const c) = c) (e31 : ev (.tmp 31) = .pointer (some ⟨c, 0, none⟩)) (hS : z.cell? ⟨c, 15, none⟩ = some (.bool false) ∧ z.cell? ⟨c, 4, none⟩ = some (.int .i64 1) ∧ z.cell? ⟨c, 10, none⟩ = some (.int .i64 sz) ∧ (loadVar 26 ⟨bx, 0, none⟩).run Tryd.prog z = .ok (.agg #[.int .i64 (K : Int), .int .i64 (M : Int)]) z) : (execOp ev ⟨some 32, Op.fieldAddr 106 (Operand.tmp 31) 3, 0, "", #[], some (18, false)⟩).run Tryd.prog z = .ok (.value (.pointer (some ⟨c, 3, none⟩))) z := by
  obtain ⟨sa, sb, sc, sd⟩ := hS
  go_simp
theorem pl3_23 (c bx K M : Nat) (sz : Int) (nv : Value) (ev : Operand → Value) (z : World) (ec : ∀ c, ev (.const c) = c) (e32 : ev (.tmp 32) = .pointer (some ⟨c, 3, none⟩)) (hS : z.cell? ⟨c, 15, none⟩ = some (.bool false) ∧ z.cell? ⟨c, 4, none⟩ = some (.int .i64 1) ∧ z.cell? ⟨c, 10, none⟩ = some (.int .i64 sz) ∧ (loadVar 26 ⟨bx, 0, none⟩).run Tryd.prog z = .ok (.agg #[.int .i64 (K : Int), .int .i64 (M : Int)]) z) : (execOp ev ⟨some 33, Op.fieldAddr 42 (Operand.tmp 32) 7, 0, "", #[], some (18, false)⟩).run Tryd.prog z = .ok (.value (.pointer (some ⟨c, 10, none⟩))) z := by
  obtain ⟨sa, sb, sc, sd⟩ := hS
  go_simp
theorem pl3_24 (c bx K M : Nat) (sz : Int) (nv : Value) (ev : Operand → Value) (z : World) (ec : ∀ c, ev (.const c) = c) (e33 : ev (.tmp 33) = .pointer (some ⟨c, 10, none⟩)) (hS : z.cell? ⟨c, 15, none⟩ = some (.bool false) ∧ z.cell? ⟨c, 4, none⟩ = some (.int .i64 1) ∧ z.cell? ⟨c, 10, none⟩ = some (.int .i64 sz) ∧ (loadVar 26 ⟨bx, 0, none⟩).run Tryd.prog z = .ok (.agg #[.int .i64 (K : Int), .int .i64 (M : Int)]) z) : (execOp ev ⟨some 34, Op.load 3 (Operand.tmp 33), 3, "", #[], some (18, false)⟩).run Tryd.prog z = .ok (.value (.int .i64 sz)) z := by
  obtain ⟨sa, sb, sc, sd⟩ := hS
  go_simp
theorem pl3_25 (c bx K M : Nat) (sz : Int) (nv : Value) (ev : Operand → Value) (z : World) (ec : ∀ c, ev (.const c) = c) (e2 : ev (.tmp 2) = nv) (hS : z.cell? ⟨c, 15, none⟩ = some (.bool false) ∧ z.cell? ⟨c, 4, none⟩ = some (.int .i64 1) ∧ z.cell? ⟨c, 10, none⟩ = some (.int .i64 sz) ∧ (loadVar 26 ⟨bx, 0, none⟩).run Tryd.prog z = .ok (.agg #[.int .i64 (K : Int), .int .i64 (M : Int)]) z) : (execOp ev ⟨some 35, Op.move (Operand.tmp 2), 23, "", #[], some (18, false)⟩).run Tryd.prog z = .ok (.value (nv)) z := by
  obtain ⟨sa, sb, sc, sd⟩ := hS
  go_simp
set_option maxRecDepth 100000 in
theorem pl3_26 (c bx K M : Nat) (sz : Int) (nv : Value) (ev : Operand → Value) (z : World) (ec : ∀ c, ev (.const c) = c) (ef : ev (.func 57) = .func (.func 57) #[] #[]) (e29 : ev (.tmp 29) = .agg #[.int .i64 (K : Int), .int .i64 (M : Int)]) (e34 : ev (.tmp 34) = .int .i64 sz) (e35 : ev (.tmp 35) = nv) : (execOp ev ⟨some 36, Op.call { callee := Callee.value (Operand.func 57), args := #[Operand.tmp 29, Operand.tmp 34, Operand.tmp 35], argTypes := #[26, 3, 23] }, 4, "", #[], some (18, false)⟩).run Tryd.prog z = .ok (.enter 57 #[.agg #[.int .i64 (K : Int), .int .i64 (M : Int)], .int .i64 sz, nv]) z :=
  enter_run _ ef (by simp only [List.map_toArray, List.map_cons, List.map_nil, ec, e29, e34, e35]) (fun _ => by rfl)
theorem pl3_27 (c bx K M : Nat) (sz : Int) (nv : Value) (ev : Operand → Value) (z : World) (ec : ∀ c, ev (.const c) = c) (e36 : ev (.tmp 36) = .bool true) (hS : z.cell? ⟨c, 15, none⟩ = some (.bool false) ∧ z.cell? ⟨c, 4, none⟩ = some (.int .i64 1) ∧ z.cell? ⟨c, 10, none⟩ = some (.int .i64 sz) ∧ (loadVar 26 ⟨bx, 0, none⟩).run Tryd.prog z = .ok (.agg #[.int .i64 (K : Int), .int .i64 (M : Int)]) z) : (execOp ev ⟨some 37, Op.unOp UnOp.not 4 (Operand.tmp 36), 4, "", #[], some (18, false)⟩).run Tryd.prog z = .ok (.value (.bool false)) z := by
  obtain ⟨sa, sb, sc, sd⟩ := hS
  go_simp
theorem pl3_28 (c bx K M : Nat) (sz : Int) (nv : Value) (ev : Operand → Value) (z : World) (ec : ∀ c, ev (.const c) = c) (e28 : ev (.tmp 28) = .bool false) (e37 : ev (.tmp 37) = .bool false) (hS : z.cell? ⟨c, 15, none⟩ = some (.bool false) ∧ z.cell? ⟨c, 4, none⟩ = some (.int .i64 1) ∧ z.cell? ⟨c, 10, none⟩ = some (.int .i64 sz) ∧ (loadVar 26 ⟨bx, 0, none⟩).run Tryd.prog z = .ok (.agg #[.int .i64 (K : Int), .int .i64 (M : Int)]) z) : (execOp ev ⟨some 38, Op.pick (Operand.tmp 28) (Operand.const (Value.bool true)) (Operand.tmp 37), 4, "", #[], none⟩).run Tryd.prog z = .ok (.value (.bool false)) z := by
  obtain ⟨sa, sb, sc, sd⟩ := hS
  go_simp
structure pl3R (ops : Array Oper) : Prop where
  size : ops.size = 29
  sel : Region.noSelect ops = true
  o0 : (ops[0]?).map bare = some ⟨some 10, Op.move (Operand.tmp 0), 83, "", #[], none⟩
  o1 : (ops[1]?).map bare = some ⟨some 11, Op.nilCheck (Operand.tmp 10), 0, "", #[], none⟩
  o2 : (ops[2]?).map bare = some ⟨some 12, Op.fieldAddr 106 (Operand.tmp 11) 4, 0, "", #[], none⟩
  o3 : (ops[3]?).map bare = some ⟨some 13, Op.load 4 (Operand.tmp 12), 4, "", #[], none⟩
  o4 : (ops[4]?).map bare = some ⟨some 14, Op.move (Operand.tmp 13), 4, "", #[], none⟩
  o5 : (ops[5]?).map bare = some ⟨some 15, Op.move (Operand.tmp 0), 83, "", #[], some (4, false)⟩
  o6 : (ops[6]?).map bare = some ⟨some 16, Op.nilCheck (Operand.tmp 15), 0, "", #[], some (4, false)⟩
  o7 : (ops[7]?).map bare = some ⟨some 17, Op.fieldAddr 106 (Operand.tmp 16) 3, 0, "", #[], some (4, false)⟩
  o8 : (ops[8]?).map bare = some ⟨some 18, Op.fieldAddr 42 (Operand.tmp 17) 1, 0, "", #[], some (4, false)⟩
  o9 : (ops[9]?).map bare = some ⟨some 19, Op.load 3 (Operand.tmp 18), 3, "", #[], some (4, false)⟩
  o10 : (ops[10]?).map bare = some ⟨some 20, Op.binOp BinOp.neq 3 (Operand.tmp 19) (Operand.const (Value.int IntKind.i64 1)) 3, 4, "", #[], some (4, false)⟩
  o11 : (ops[11]?).map bare = some ⟨some 21, Op.pick (Operand.tmp 14) (Operand.const (Value.bool true)) (Operand.tmp 20), 4, "", #[], none⟩
  o12 : (ops[12]?).map bare = some ⟨some 22, Op.move (Operand.tmp 21), 4, "", #[], none⟩
  o13 : (ops[13]?).map bare = some ⟨some 23, Op.move (Operand.tmp 0), 83, "", #[], some (12, false)⟩
  o14 : (ops[14]?).map bare = some ⟨some 24, Op.nilCheck (Operand.tmp 23), 0, "", #[], some (12, false)⟩
  o15 : (ops[15]?).map bare = some ⟨some 25, Op.fieldAddr 106 (Operand.tmp 24) 5, 0, "", #[], some (12, false)⟩
  o16 : (ops[16]?).map bare = some ⟨some 26, Op.call { callee := Callee.value (Operand.func 72), args := #[Operand.tmp 25], argTypes := #[102] }, 4, "", #[], some (12, false)⟩
  o17 : (ops[17]?).map bare = some ⟨some 27, Op.pick (Operand.tmp 22) (Operand.const (Value.bool true)) (Operand.tmp 26), 4, "", #[], none⟩
  o18 : (ops[18]?).map bare = some ⟨some 28, Op.move (Operand.tmp 27), 4, "", #[], none⟩
  o19 : (ops[19]?).map bare = some ⟨some 29, Op.load 26 (Operand.tmp 4), 26, "", #[], some (18, false)⟩
  o20 : (ops[20]?).map bare = some ⟨some 30, Op.move (Operand.tmp 0), 83, "", #[], some (18, false)⟩
  o21 : (ops[21]?).map bare = some ⟨some 31, Op.nilCheck (Operand.tmp 30), 0, "", #[], some (18, false)⟩
  o22 : (ops[22]?).map bare = some ⟨some 32, Op.fieldAddr 106 (Operand.tmp 31) 3, 0, "", #[], some (18, false)⟩
  o23 : (ops[23]?).map bare = some ⟨some 33, Op.fieldAddr 42 (Operand.tmp 32) 7, 0, "", #[], some (18, false)⟩
  o24 : (ops[24]?).map bare = some ⟨some 34, Op.load 3 (Operand.tmp 33), 3, "", #[], some (18, false)⟩
  o25 : (ops[25]?).map bare = some ⟨some 35, Op.move (Operand.tmp 2), 23, "", #[], some (18, false)⟩
  o26 : (ops[26]?).map bare = some ⟨some 36, Op.call { callee := Callee.value (Operand.func 57), args := #[Operand.tmp 29, Operand.tmp 34, Operand.tmp 35], argTypes := #[26, 3, 23] }, 4, "", #[], some (18, false)⟩
  o27 : (ops[27]?).map bare = some ⟨some 37, Op.unOp UnOp.not 4 (Operand.tmp 36), 4, "", #[], some (18, false)⟩
  o28 : (ops[28]?).map bare = some ⟨some 38, Op.pick (Operand.tmp 28) (Operand.const (Value.bool true)) (Operand.tmp 37), 4, "", #[], none⟩
  may0 : takeB .any ops [0, 1, 2, 3, 4, 5, 6, 7, 8, 9, 10, 11, 12, 13, 14, 15] (Array.replicate 29 false) = true
  r16 : Region.ready .any ops (mark [0, 1, 2, 3, 4, 5, 6, 7, 8, 9, 10, 11, 12, 13, 14, 15] (Array.replicate 29 false)) = [16]
  may1 : takeB .any ops [17, 18, 19, 20, 21, 22, 23, 24, 25] ((mark [0, 1, 2, 3, 4, 5, 6, 7, 8, 9, 10, 11, 12, 13, 14, 15] (Array.replicate 29 false)).setIfInBounds 16 true) = true
  r26 : Region.ready .any ops (mark [17, 18, 19, 20, 21, 22, 23, 24, 25] ((mark [0, 1, 2, 3, 4, 5, 6, 7, 8, 9, 10, 11, 12, 13, 14, 15] (Array.replicate 29 false)).setIfInBounds 16 true)) = [26]
  may2 : takeB .any ops [27, 28] ((mark [17, 18, 19, 20, 21, 22, 23, 24, 25] ((mark [0, 1, 2, 3, 4, 5, 6, 7, 8, 9, 10, 11, 12, 13, 14, 15] (Array.replicate 29 false)).setIfInBounds 16 true)).setIfInBounds 26 true) = true
  fin : Region.ready .any ops (mark [27, 28] ((mark [17, 18, 19, 20, 21, 22, 23, 24, 25] ((mark [0, 1, 2, 3, 4, 5, 6, 7, 8, 9, 10, 11, 12, 13, 14, 15] (Array.replicate 29 false)).setIfInBounds 16 true)).setIfInBounds 26 true)) = []

set_option maxRecDepth 100000 in
set_option maxHeartbeats 3200000 in
theorem pl3_region {ops : Array Oper} {id : Nat} {Q : Exit → Act → World → Prop} {a : Act} {y : World} (R : pl3R ops) (c bx K M : Nat) (sz : Int) (nv : Value)
    (hQ : ∀ d v c a w, Q (.panic c) (a.put d v) w → Q (.panic c) a w) (hsz : a.tmps.size = 58) (e0 : a.eval (.tmp 0) = .pointer (some ⟨c, 0, none⟩)) (e2 : a.eval (.tmp 2) = nv) (e4 : a.eval (.tmp 4) = .pointer (some ⟨bx, 0, none⟩)) (hS0 : (y.drew.cell? ⟨c, 15, none⟩ = some (.bool false) ∧ y.drew.cell? ⟨c, 4, none⟩ = some (.int .i64 1) ∧ y.drew.cell? ⟨c, 10, none⟩ = some (.int .i64 sz) ∧ (loadVar 26 ⟨bx, 0, none⟩).run Tryd.prog y.drew = .ok (.agg #[.int .i64 (K : Int), .int .i64 (M : Int)]) y.drew)) (T : World → Prop) (hc : Calls Tryd.prog 72 #[.pointer (some ⟨c, 16, none⟩)] y.drew fun e w9 => e = .returned (.bool false) ∧ (w9.cell? ⟨c, 15, none⟩ = some (.bool false) ∧ w9.cell? ⟨c, 4, none⟩ = some (.int .i64 1) ∧ w9.cell? ⟨c, 10, none⟩ = some (.int .i64 sz) ∧ (loadVar 26 ⟨bx, 0, none⟩).run Tryd.prog w9 = .ok (.agg #[.int .i64 (K : Int), .int .i64 (M : Int)]) w9) ∧ Calls Tryd.prog 57 #[.agg #[.int .i64 (K : Int), .int .i64 (M : Int)], .int .i64 sz, nv] w9 fun e w9 => e = .returned (.bool true) ∧ (w9.cell? ⟨c, 15, none⟩ = some (.bool false) ∧ w9.cell? ⟨c, 4, none⟩ = some (.int .i64 1) ∧ w9.cell? ⟨c, 10, none⟩ = some (.int .i64 sz) ∧ (loadVar 26 ⟨bx, 0, none⟩).run Tryd.prog w9 = .ok (.agg #[.int .i64 (K : Int), .int .i64 (M : Int)]) w9) ∧ T w9)
    (hK : ∀ (w9 : World), T w9 → Q .normal (((((((((((((((((((((((((((((a.put (some 10) (.pointer (some ⟨c, 0, none⟩))).put (some 11) (.pointer (some ⟨c, 0, none⟩))).put (some 12) (.pointer (some ⟨c, 15, none⟩))).put (some 13) (.bool false)).put (some 14) (.bool false)).put (some 15) (.pointer (some ⟨c, 0, none⟩))).put (some 16) (.pointer (some ⟨c, 0, none⟩))).put (some 17) (.pointer (some ⟨c, 3, none⟩))).put (some 18) (.pointer (some ⟨c, 4, none⟩))).put (some 19) (.int .i64 1)).put (some 20) (.bool false)).put (some 21) (.bool false)).put (some 22) (.bool false)).put (some 23) (.pointer (some ⟨c, 0, none⟩))).put (some 24) (.pointer (some ⟨c, 0, none⟩))).put (some 25) (.pointer (some ⟨c, 16, none⟩))).put (some 26) (.bool false)).put (some 27) (.bool false)).put (some 28) (.bool false)).put (some 29) (.agg #[.int .i64 (K : Int), .int .i64 (M : Int)])).put (some 30) (.pointer (some ⟨c, 0, none⟩))).put (some 31) (.pointer (some ⟨c, 0, none⟩))).put (some 32) (.pointer (some ⟨c, 3, none⟩))).put (some 33) (.pointer (some ⟨c, 10, none⟩))).put (some 34) (.int .i64 sz)).put (some 35) (nv)).put (some 36) (.bool true)).put (some 37) (.bool false)).put (some 38) (.bool false)) w9) : (Code.region id ops true).wp Tryd.prog Q a y := by
  have HR : Hid (pl3R ops) := R
  have hdf : a.defers = a.defers := rfl
  refine wp_region_held_drew (S := (fun z : World => z.cell? ⟨c, 15, none⟩ = some (.bool false) ∧ z.cell? ⟨c, 4, none⟩ = some (.int .i64 1) ∧ z.cell? ⟨c, 10, none⟩ = some (.int .i64 sz) ∧ (loadVar 26 ⟨bx, 0, none⟩).run Tryd.prog z = .ok (.agg #[.int .i64 (K : Int), .int .i64 (M : Int)]) z)) (by kernel_rfl) (hS0) (fun hHeld => ?_)
  rw [R.size]
  clear R
  refine wpAnyH_takes HR.out.sel hQ hHeld [0, 1, 2, 3, 4, 5, 6, 7, 8, 9, 10, 11, 12, 13, 14, 15] 13 _ _ HR.out.may0 ?_
  refine wpTake_stepE ⟨some 10, Op.move (Operand.tmp 0), 83, "", #[], none⟩ 10 (.pointer (some ⟨c, 0, none⟩)) HR.out.o0 rfl (by rw [hsz]; decide) (wanted_none rfl) (fun z hS => pl3_0 c bx K M sz nv _ z (fun _ => rfl) e0 hS) ?_
  intro a1 ha1 s1 f1 n1 k1
  replace hsz := s1.trans hsz
  replace hdf := f1.trans hdf
  replace e0 := (k1 0 (by decide)).trans e0
  replace e2 := (k1 2 (by decide)).trans e2
  replace e4 := (k1 4 (by decide)).trans e4
  have e10 := n1
  clear s1 f1 n1 k1
  refine wpTake_stepE ⟨some 11, Op.nilCheck (Operand.tmp 10), 0, "", #[], none⟩ 11 (.pointer (some ⟨c, 0, none⟩)) HR.out.o1 rfl (by rw [hsz]; decide) (wanted_none rfl) (fun z hS => pl3_1 c bx K M sz nv _ z (fun _ => rfl) e10 hS) ?_
  intro a2 ha2 s1 f1 n1 k1
  replace hsz := s1.trans hsz
  replace hdf := f1.trans hdf
  replace e0 := (k1 0 (by decide)).trans e0
  replace e2 := (k1 2 (by decide)).trans e2
  replace e4 := (k1 4 (by decide)).trans e4
  have e11 := n1
  clear s1 f1 n1 k1
  refine wpTake_stepE ⟨some 12, Op.fieldAddr 106 (Operand.tmp 11) 4, 0, "", #[], none⟩ 12 (.pointer (some ⟨c, 15, none⟩)) HR.out.o2 rfl (by rw [hsz]; decide) (wanted_none rfl) (fun z hS => pl3_2 c bx K M sz nv _ z (fun _ => rfl) e11 hS) ?_
  intro a3 ha3 s1 f1 n1 k1
  replace hsz := s1.trans hsz
  replace hdf := f1.trans hdf
  replace e0 := (k1 0 (by decide)).trans e0
  replace e2 := (k1 2 (by decide)).trans e2
  replace e4 := (k1 4 (by decide)).trans e4
  have e12 := n1
  clear s1 f1 n1 k1
  refine wpTake_stepE ⟨some 13, Op.load 4 (Operand.tmp 12), 4, "", #[], none⟩ 13 (.bool false) HR.out.o3 rfl (by rw [hsz]; decide) (wanted_none rfl) (fun z hS => pl3_3 c bx K M sz nv _ z (fun _ => rfl) e12 hS) ?_
  intro a4 ha4 s1 f1 n1 k1
  replace hsz := s1.trans hsz
  replace hdf := f1.trans hdf
  replace e0 := (k1 0 (by decide)).trans e0
  replace e2 := (k1 2 (by decide)).trans e2
  replace e4 := (k1 4 (by decide)).trans e4
  have e13 := n1
  clear s1 f1 n1 k1
  refine wpTake_stepE ⟨some 14, Op.move (Operand.tmp 13), 4, "", #[], none⟩ 14 (.bool false) HR.out.o4 rfl (by rw [hsz]; decide) (wanted_none rfl) (fun z hS => pl3_4 c bx K M sz nv _ z (fun _ => rfl) e13 hS) ?_
  intro a5 ha5 s1 f1 n1 k1
  replace hsz := s1.trans hsz
  replace hdf := f1.trans hdf
  replace e0 := (k1 0 (by decide)).trans e0
  replace e2 := (k1 2 (by decide)).trans e2
  replace e4 := (k1 4 (by decide)).trans e4
  have e14 := n1
  clear s1 f1 n1 k1
  refine wpTake_stepE ⟨some 15, Op.move (Operand.tmp 0), 83, "", #[], some (4, false)⟩ 15 (.pointer (some ⟨c, 0, none⟩)) HR.out.o5 rfl (by rw [hsz]; decide) (wanted_some rfl (yielded_of HR.out.o4 rfl e14 (by rw [hsz]; decide))) (fun z hS => pl3_5 c bx K M sz nv _ z (fun _ => rfl) e0 hS) ?_
  intro a6 ha6 s1 f1 n1 k1
  replace hsz := s1.trans hsz
  replace hdf := f1.trans hdf
  replace e0 := (k1 0 (by decide)).trans e0
  replace e2 := (k1 2 (by decide)).trans e2
  replace e4 := (k1 4 (by decide)).trans e4
  replace e14 := (k1 14 (by decide)).trans e14
  have e15 := n1
  clear s1 f1 n1 k1
  refine wpTake_stepE ⟨some 16, Op.nilCheck (Operand.tmp 15), 0, "", #[], some (4, false)⟩ 16 (.pointer (some ⟨c, 0, none⟩)) HR.out.o6 rfl (by rw [hsz]; decide) (wanted_some rfl (yielded_of HR.out.o4 rfl e14 (by rw [hsz]; decide))) (fun z hS => pl3_6 c bx K M sz nv _ z (fun _ => rfl) e15 hS) ?_
  intro a7 ha7 s1 f1 n1 k1
  replace hsz := s1.trans hsz
  replace hdf := f1.trans hdf
  replace e0 := (k1 0 (by decide)).trans e0
  replace e2 := (k1 2 (by decide)).trans e2
  replace e4 := (k1 4 (by decide)).trans e4
  replace e14 := (k1 14 (by decide)).trans e14
  have e16 := n1
  clear s1 f1 n1 k1
  refine wpTake_stepE ⟨some 17, Op.fieldAddr 106 (Operand.tmp 16) 3, 0, "", #[], some (4, false)⟩ 17 (.pointer (some ⟨c, 3, none⟩)) HR.out.o7 rfl (by rw [hsz]; decide) (wanted_some rfl (yielded_of HR.out.o4 rfl e14 (by rw [hsz]; decide))) (fun z hS => pl3_7 c bx K M sz nv _ z (fun _ => rfl) e16 hS) ?_
  intro a8 ha8 s1 f1 n1 k1
  replace hsz := s1.trans hsz
  replace hdf := f1.trans hdf
  replace e0 := (k1 0 (by decide)).trans e0
  replace e2 := (k1 2 (by decide)).trans e2
  replace e4 := (k1 4 (by decide)).trans e4
  replace e14 := (k1 14 (by decide)).trans e14
  have e17 := n1
  clear s1 f1 n1 k1
  refine wpTake_stepE ⟨some 18, Op.fieldAddr 42 (Operand.tmp 17) 1, 0, "", #[], some (4, false)⟩ 18 (.pointer (some ⟨c, 4, none⟩)) HR.out.o8 rfl (by rw [hsz]; decide) (wanted_some rfl (yielded_of HR.out.o4 rfl e14 (by rw [hsz]; decide))) (fun z hS => pl3_8 c bx K M sz nv _ z (fun _ => rfl) e17 hS) ?_
  intro a9 ha9 s1 f1 n1 k1
  replace hsz := s1.trans hsz
  replace hdf := f1.trans hdf
  replace e0 := (k1 0 (by decide)).trans e0
  replace e2 := (k1 2 (by decide)).trans e2
  replace e4 := (k1 4 (by decide)).trans e4
  replace e14 := (k1 14 (by decide)).trans e14
  have e18 := n1
  clear s1 f1 n1 k1
  refine wpTake_stepE ⟨some 19, Op.load 3 (Operand.tmp 18), 3, "", #[], some (4, false)⟩ 19 (.int .i64 1) HR.out.o9 rfl (by rw [hsz]; decide) (wanted_some rfl (yielded_of HR.out.o4 rfl e14 (by rw [hsz]; decide))) (fun z hS => pl3_9 c bx K M sz nv _ z (fun _ => rfl) e18 hS) ?_
  intro a10 ha10 s1 f1 n1 k1
  replace hsz := s1.trans hsz
  replace hdf := f1.trans hdf
  replace e0 := (k1 0 (by decide)).trans e0
  replace e2 := (k1 2 (by decide)).trans e2
  replace e4 := (k1 4 (by decide)).trans e4
  replace e14 := (k1 14 (by decide)).trans e14
  have e19 := n1
  clear s1 f1 n1 k1
  refine wpTake_stepE ⟨some 20, Op.binOp BinOp.neq 3 (Operand.tmp 19) (Operand.const (Value.int IntKind.i64 1)) 3, 4, "", #[], some (4, false)⟩ 20 (.bool false) HR.out.o10 rfl (by rw [hsz]; decide) (wanted_some rfl (yielded_of HR.out.o4 rfl e14 (by rw [hsz]; decide))) (fun z hS => pl3_10 c bx K M sz nv _ z (fun _ => rfl) e19 hS) ?_
  intro a11 ha11 s1 f1 n1 k1
  replace hsz := s1.trans hsz
  replace hdf := f1.trans hdf
  replace e0 := (k1 0 (by decide)).trans e0
  replace e2 := (k1 2 (by decide)).trans e2
  replace e4 := (k1 4 (by decide)).trans e4
  replace e14 := (k1 14 (by decide)).trans e14
  have e20 := n1
  clear s1 f1 n1 k1
  refine wpTake_stepE ⟨some 21, Op.pick (Operand.tmp 14) (Operand.const (Value.bool true)) (Operand.tmp 20), 4, "", #[], none⟩ 21 (.bool false) HR.out.o11 rfl (by rw [hsz]; decide) (wanted_none rfl) (fun z hS => pl3_11 c bx K M sz nv _ z (fun _ => rfl) e14 e20 hS) ?_
  intro a12 ha12 s1 f1 n1 k1
  replace hsz := s1.trans hsz
  replace hdf := f1.trans hdf
  replace e0 := (k1 0 (by decide)).trans e0
  replace e2 := (k1 2 (by decide)).trans e2
  replace e4 := (k1 4 (by decide)).trans e4
  have e21 := n1
  clear s1 f1 n1 k1
  refine wpTake_stepE ⟨some 22, Op.move (Operand.tmp 21), 4, "", #[], none⟩ 22 (.bool false) HR.out.o12 rfl (by rw [hsz]; decide) (wanted_none rfl) (fun z hS => pl3_12 c bx K M sz nv _ z (fun _ => rfl) e21 hS) ?_
  intro a13 ha13 s1 f1 n1 k1
  replace hsz := s1.trans hsz
  replace hdf := f1.trans hdf
  replace e0 := (k1 0 (by decide)).trans e0
  replace e2 := (k1 2 (by decide)).trans e2
  replace e4 := (k1 4 (by decide)).trans e4
  have e22 := n1
  clear s1 f1 n1 k1
  refine wpTake_stepE ⟨some 23, Op.move (Operand.tmp 0), 83, "", #[], some (12, false)⟩ 23 (.pointer (some ⟨c, 0, none⟩)) HR.out.o13 rfl (by rw [hsz]; decide) (wanted_some rfl (yielded_of HR.out.o12 rfl e22 (by rw [hsz]; decide))) (fun z hS => pl3_13 c bx K M sz nv _ z (fun _ => rfl) e0 hS) ?_
  intro a14 ha14 s1 f1 n1 k1
  replace hsz := s1.trans hsz
  replace hdf := f1.trans hdf
  replace e0 := (k1 0 (by decide)).trans e0
  replace e2 := (k1 2 (by decide)).trans e2
  replace e4 := (k1 4 (by decide)).trans e4
  replace e22 := (k1 22 (by decide)).trans e22
  have e23 := n1
  clear s1 f1 n1 k1
  refine wpTake_stepE ⟨some 24, Op.nilCheck (Operand.tmp 23), 0, "", #[], some (12, false)⟩ 24 (.pointer (some ⟨c, 0, none⟩)) HR.out.o14 rfl (by rw [hsz]; decide) (wanted_some rfl (yielded_of HR.out.o12 rfl e22 (by rw [hsz]; decide))) (fun z hS => pl3_14 c bx K M sz nv _ z (fun _ => rfl) e23 hS) ?_
  intro a15 ha15 s1 f1 n1 k1
  replace hsz := s1.trans hsz
  replace hdf := f1.trans hdf
  replace e0 := (k1 0 (by decide)).trans e0
  replace e2 := (k1 2 (by decide)).trans e2
  replace e4 := (k1 4 (by decide)).trans e4
  replace e22 := (k1 22 (by decide)).trans e22
  have e24 := n1
  clear s1 f1 n1 k1
  refine wpTake_stepE ⟨some 25, Op.fieldAddr 106 (Operand.tmp 24) 5, 0, "", #[], some (12, false)⟩ 25 (.pointer (some ⟨c, 16, none⟩)) HR.out.o15 rfl (by rw [hsz]; decide) (wanted_some rfl (yielded_of HR.out.o12 rfl e22 (by rw [hsz]; decide))) (fun z hS => pl3_15 c bx K M sz nv _ z (fun _ => rfl) e24 hS) ?_
  intro a16 ha16 s1 f1 n1 k1
  replace hsz := s1.trans hsz
  replace hdf := f1.trans hdf
  replace e0 := (k1 0 (by decide)).trans e0
  replace e2 := (k1 2 (by decide)).trans e2
  replace e4 := (k1 4 (by decide)).trans e4
  replace e22 := (k1 22 (by decide)).trans e22
  have e25 := n1
  clear s1 f1 n1 k1
  refine wpTake_nil ?_
  refine wpAnyH_oneG ⟨some 26, Op.call { callee := Callee.value (Operand.func 72), args := #[Operand.tmp 25], argTypes := #[102] }, 4, "", #[], some (12, false)⟩ HR.out.r16 HR.out.o16 (wanted_some rfl (yielded_of HR.out.o12 rfl e22 (by rw [hsz]; decide))) (fun K' hK' => ?_)
  refine wp_enter (pl3_16 c bx K M sz nv _ _ (fun _ => rfl) rfl e25) (hc) ?_
  rintro e9 w9 ⟨rfl, hS9, hc2⟩
  refine ⟨_, rfl, hK'.out _ _ (hS9) ?_⟩
  replace hHeld := hS9
  clear hK' K'
  show wpAnyH _ _ _ _ _ _ _ (Act.put a16 (some 26) (.bool false)) _
  obtain ⟨s1, f1, n1, k1⟩ := act_put a16 26 (.bool false) (show 26 < _ by rw [hsz]; decide)
  obtain ⟨a17, ha17⟩ : ∃ x, x = Act.put a16 (some 26) (.bool false) := ⟨_, rfl⟩
  rw [← ha17] at s1 f1 n1 k1 ⊢
  replace hsz := s1.trans hsz
  replace hdf := f1.trans hdf
  replace e0 := (k1 0 (by decide)).trans e0
  replace e2 := (k1 2 (by decide)).trans e2
  replace e4 := (k1 4 (by decide)).trans e4
  replace e22 := (k1 22 (by decide)).trans e22
  have e26 := n1
  clear s1 f1 n1 k1
  refine wpAnyH_takes HR.out.sel hQ hHeld [17, 18, 19, 20, 21, 22, 23, 24, 25] 3 _ _ HR.out.may1 ?_
  refine wpTake_stepE ⟨some 27, Op.pick (Operand.tmp 22) (Operand.const (Value.bool true)) (Operand.tmp 26), 4, "", #[], none⟩ 27 (.bool false) HR.out.o17 rfl (by rw [hsz]; decide) (wanted_none rfl) (fun z hS => pl3_17 c bx K M sz nv _ z (fun _ => rfl) e22 e26 hS) ?_
  intro a18 ha18 s1 f1 n1 k1
  replace hsz := s1.trans hsz
  replace hdf := f1.trans hdf
  replace e0 := (k1 0 (by decide)).trans e0
  replace e2 := (k1 2 (by decide)).trans e2
  replace e4 := (k1 4 (by decide)).trans e4
  have e27 := n1
  clear s1 f1 n1 k1
  refine wpTake_stepE ⟨some 28, Op.move (Operand.tmp 27), 4, "", #[], none⟩ 28 (.bool false) HR.out.o18 rfl (by rw [hsz]; decide) (wanted_none rfl) (fun z hS => pl3_18 c bx K M sz nv _ z (fun _ => rfl) e27 hS) ?_
  intro a19 ha19 s1 f1 n1 k1
  replace hsz := s1.trans hsz
  replace hdf := f1.trans hdf
  replace e0 := (k1 0 (by decide)).trans e0
  replace e2 := (k1 2 (by decide)).trans e2
  replace e4 := (k1 4 (by decide)).trans e4
  have e28 := n1
  clear s1 f1 n1 k1
  refine wpTake_stepE ⟨some 29, Op.load 26 (Operand.tmp 4), 26, "", #[], some (18, false)⟩ 29 (.agg #[.int .i64 (K : Int), .int .i64 (M : Int)]) HR.out.o19 rfl (by rw [hsz]; decide) (wanted_some rfl (yielded_of HR.out.o18 rfl e28 (by rw [hsz]; decide))) (fun z hS => pl3_19 c bx K M sz nv _ z (fun _ => rfl) e4 hS) ?_
  intro a20 ha20 s1 f1 n1 k1
  replace hsz := s1.trans hsz
  replace hdf := f1.trans hdf
  replace e0 := (k1 0 (by decide)).trans e0
  replace e2 := (k1 2 (by decide)).trans e2
  replace e4 := (k1 4 (by decide)).trans e4
  replace e28 := (k1 28 (by decide)).trans e28
  have e29 := n1
  clear s1 f1 n1 k1
  refine wpTake_stepE ⟨some 30, Op.move (Operand.tmp 0), 83, "", #[], some (18, false)⟩ 30 (.pointer (some ⟨c, 0, none⟩)) HR.out.o20 rfl (by rw [hsz]; decide) (wanted_some rfl (yielded_of HR.out.o18 rfl e28 (by rw [hsz]; decide))) (fun z hS => pl3_20 c bx K M sz nv _ z (fun _ => rfl) e0 hS) ?_
  intro a21 ha21 s1 f1 n1 k1
  replace hsz := s1.trans hsz
  replace hdf := f1.trans hdf
  replace e0 := (k1 0 (by decide)).trans e0
  replace e2 := (k1 2 (by decide)).trans e2
  replace e4 := (k1 4 (by decide)).trans e4
  replace e28 := (k1 28 (by decide)).trans e28
  replace e29 := (k1 29 (by decide)).trans e29
  have e30 := n1
  clear s1 f1 n1 k1
  refine wpTake_stepE ⟨some 31, Op.nilCheck (Operand.tmp 30), 0, "", #[], some (18, false)⟩ 31 (.pointer (some ⟨c, 0, none⟩)) HR.out.o21 rfl (by rw [hsz]; decide) (wanted_some rfl (yielded_of HR.out.o18 rfl e28 (by rw [hsz]; decide))) (fun z hS => pl3_21 c bx K M sz nv _ z (fun _ => rfl) e30 hS) ?_
  intro a22 ha22 s1 f1 n1 k1
  replace hsz := s1.trans hsz
  replace hdf := f1.trans hdf
  replace e0 := (k1 0 (by decide)).trans e0
  replace e2 := (k1 2 (by decide)).trans e2
  replace e4 := (k1 4 (by decide)).trans e4
  replace e28 := (k1 28 (by decide)).trans e28
  replace e29 := (k1 29 (by decide)).trans e29
  have e31 := n1
  clear s1 f1 n1 k1
  refine wpTake_stepE ⟨some 32, Op.fieldAddr 106 (Operand.tmp 31) 3, 0, "", #[], some (18, false)⟩ 32 (.pointer (some ⟨c, 3, none⟩)) HR.out.o22 rfl (by rw [hsz]; decide) (wanted_some rfl (yielded_of HR.out.o18 rfl e28 (by rw [hsz]; decide))) (fun z hS => pl3_22 c bx K M sz nv _ z (fun _ => rfl) e31 hS) ?_
  intro a23 ha23 s1 f1 n1 k1
  replace hsz := s1.trans hsz
  replace hdf := f1.trans hdf
  replace e0 := (k1 0 (by decide)).trans e0
  replace e2 := (k1 2 (by decide)).trans e2
  replace e4 := (k1 4 (by decide)).trans e4
  replace e28 := (k1 28 (by decide)).trans e28
  replace e29 := (k1 29 (by decide)).trans e29
  have e32 := n1
  clear s1 f1 n1 k1
  refine wpTake_stepE ⟨some 33, Op.fieldAddr 42 (Operand.tmp 32) 7, 0, "", #[], some (18, false)⟩ 33 (.pointer (some ⟨c, 10, none⟩)) HR.out.o23 rfl (by rw [hsz]; decide) (wanted_some rfl (yielded_of HR.out.o18 rfl e28 (by rw [hsz]; decide))) (fun z hS => pl3_23 c bx K M sz nv _ z (fun _ => rfl) e32 hS) ?_
  intro a24 ha24 s1 f1 n1 k1
  replace hsz := s1.trans hsz
  replace hdf := f1.trans hdf
  replace e0 := (k1 0 (by decide)).trans e0
  replace e2 := (k1 2 (by decide)).trans e2
  replace e4 := (k1 4 (by decide)).trans e4
  replace e28 := (k1 28 (by decide)).trans e28
  replace e29 := (k1 29 (by decide)).trans e29
  have e33 := n1
  clear s1 f1 n1 k1
  refine wpTake_stepE ⟨some 34, Op.load 3 (Operand.tmp 33), 3, "", #[], some (18, false)⟩ 34 (.int .i64 sz) HR.out.o24 rfl (by rw [hsz]; decide) (wanted_some rfl (yielded_of HR.out.o18 rfl e28 (by rw [hsz]; decide))) (fun z hS => pl3_24 c bx K M sz nv _ z (fun _ => rfl) e33 hS) ?_
  intro a25 ha25 s1 f1 n1 k1
  replace hsz := s1.trans hsz
  replace hdf := f1.trans hdf
  replace e0 := (k1 0 (by decide)).trans e0
  replace e2 := (k1 2 (by decide)).trans e2
  replace e4 := (k1 4 (by decide)).trans e4
  replace e28 := (k1 28 (by decide)).trans e28
  replace e29 := (k1 29 (by decide)).trans e29
  have e34 := n1
  clear s1 f1 n1 k1
  refine wpTake_stepE ⟨some 35, Op.move (Operand.tmp 2), 23, "", #[], some (18, false)⟩ 35 (nv) HR.out.o25 rfl (by rw [hsz]; decide) (wanted_some rfl (yielded_of HR.out.o18 rfl e28 (by rw [hsz]; decide))) (fun z hS => pl3_25 c bx K M sz nv _ z (fun _ => rfl) e2 hS) ?_
  intro a26 ha26 s1 f1 n1 k1
  replace hsz := s1.trans hsz
  replace hdf := f1.trans hdf
  replace e0 := (k1 0 (by decide)).trans e0
  replace e2 := (k1 2 (by decide)).trans e2
  replace e4 := (k1 4 (by decide)).trans e4
  replace e28 := (k1 28 (by decide)).trans e28
  replace e29 := (k1 29 (by decide)).trans e29
  replace e34 := (k1 34 (by decide)).trans e34
  have e35 := n1
  clear s1 f1 n1 k1
  refine wpTake_nil ?_
  refine wpAnyH_oneG ⟨some 36, Op.call { callee := Callee.value (Operand.func 57), args := #[Operand.tmp 29, Operand.tmp 34, Operand.tmp 35], argTypes := #[26, 3, 23] }, 4, "", #[], some (18, false)⟩ HR.out.r26 HR.out.o26 (wanted_some rfl (yielded_of HR.out.o18 rfl e28 (by rw [hsz]; decide))) (fun K' hK' => ?_)
  refine wp_enter (pl3_26 c bx K M sz nv _ _ (fun _ => rfl) rfl e29 e34 e35) (hc2) ?_
  rintro e9 w9 ⟨rfl, hS9, hT⟩
  refine ⟨_, rfl, hK'.out _ _ (hS9) ?_⟩
  replace hHeld := hS9
  clear hK' K'
  show wpAnyH _ _ _ _ _ _ _ (Act.put a26 (some 36) (.bool true)) _
  obtain ⟨s1, f1, n1, k1⟩ := act_put a26 36 (.bool true) (show 36 < _ by rw [hsz]; decide)
  obtain ⟨a27, ha27⟩ : ∃ x, x = Act.put a26 (some 36) (.bool true) := ⟨_, rfl⟩
  rw [← ha27] at s1 f1 n1 k1 ⊢
  replace hsz := s1.trans hsz
  replace hdf := f1.trans hdf
  replace e0 := (k1 0 (by decide)).trans e0
  replace e2 := (k1 2 (by decide)).trans e2
  replace e4 := (k1 4 (by decide)).trans e4
  replace e28 := (k1 28 (by decide)).trans e28
  have e36 := n1
  clear s1 f1 n1 k1
  refine wpAnyH_takes HR.out.sel hQ hHeld [27, 28] 0 _ _ HR.out.may2 ?_
  refine wpTake_stepE ⟨some 37, Op.unOp UnOp.not 4 (Operand.tmp 36), 4, "", #[], some (18, false)⟩ 37 (.bool false) HR.out.o27 rfl (by rw [hsz]; decide) (wanted_some rfl (yielded_of HR.out.o18 rfl e28 (by rw [hsz]; decide))) (fun z hS => pl3_27 c bx K M sz nv _ z (fun _ => rfl) e36 hS) ?_
  intro a28 ha28 s1 f1 n1 k1
  replace hsz := s1.trans hsz
  replace hdf := f1.trans hdf
  replace e0 := (k1 0 (by decide)).trans e0
  replace e2 := (k1 2 (by decide)).trans e2
  replace e4 := (k1 4 (by decide)).trans e4
  replace e28 := (k1 28 (by decide)).trans e28
  have e37 := n1
  clear s1 f1 n1 k1
  refine wpTake_stepE ⟨some 38, Op.pick (Operand.tmp 28) (Operand.const (Value.bool true)) (Operand.tmp 37), 4, "", #[], none⟩ 38 (.bool false) HR.out.o28 rfl (by rw [hsz]; decide) (wanted_none rfl) (fun z hS => pl3_28 c bx K M sz nv _ z (fun _ => rfl) e28 e37 hS) ?_
  intro a29 ha29 s1 f1 n1 k1
  replace hsz := s1.trans hsz
  replace hdf := f1.trans hdf
  replace e0 := (k1 0 (by decide)).trans e0
  replace e2 := (k1 2 (by decide)).trans e2
  replace e4 := (k1 4 (by decide)).trans e4
  clear s1 f1 n1 k1
  refine wpTake_nil ?_
  refine wpAnyH_done HR.out.fin ?_ _
  rw [ha29, ha28, ha27, ha26, ha25, ha24, ha23, ha22, ha21, ha20, ha19, ha18, ha17, ha16, ha15, ha14, ha13, ha12, ha11, ha10, ha9, ha8, ha7, ha6, ha5, ha4, ha3, ha2, ha1]
  exact hK _ hT
-- pl3: ⟨by kernel_rfl, by kernel_rfl, by kernel_rfl, by kernel_rfl, by kernel_rfl, by kernel_rfl, by kernel_rfl, by kernel_rfl, by kernel_rfl, by kernel_rfl, by kernel_rfl, by kernel_rfl, by kernel_rfl, by kernel_rfl, by kernel_rfl, by kernel_rfl, by kernel_rfl, by kernel_rfl, by kernel_rfl, by kernel_rfl, by kernel_rfl, by kernel_rfl, by kernel_rfl, by kernel_rfl, by kernel_rfl, by kernel_rfl, by kernel_rfl, by kernel_rfl, by kernel_rfl, by kernel_rfl, by kernel_rfl, by kernel_rfl, by kernel_rfl, by kernel_rfl, by kernel_rfl, by kernel_rfl, by kernel_rfl⟩

theorem pl5_s1 (c K M : Nat) (va vb : Value) (ev : Operand → Value) (z : World) (e46 : ev (.tmp 46) = .pointer (some ⟨c, 12, none⟩)) (e41 : ev (.tmp 41) = .agg #[.int .i64 (K : Int), .int .i64 (M : Int)]) (hc : z.cell? ⟨c, 12, none⟩ = some va) (hf : z.frozen? ⟨c, 12, none⟩ = false) (hc2 : z.cell? ⟨c, 13, none⟩ = some vb) (hf2 : z.frozen? ⟨c, 13, none⟩ = false) : (execOp ev ⟨none, Op.store 26 (Operand.tmp 46) (Operand.tmp 41), 0, "", #[], none⟩).run Tryd.prog z = .ok .skip ((z.setCell ⟨c, 12, none⟩ (.int .i64 (K : Int))).setCell ⟨c, 13, none⟩ (.int .i64 (M : Int))) := by go_simp
theorem pl5_s2 (c G cq : Nat) (q : Option Addr) (va : Value) (ev : Operand → Value) (z : World) (e49 : ev (.tmp 49) = .pointer (some ⟨c, 14, none⟩)) (e43 : ev (.tmp 43) = .slice q G cq) (hc : z.cell? ⟨c, 14, none⟩ = some va) (hf : z.frozen? ⟨c, 14, none⟩ = false) : (execOp ev ⟨none, Op.store 23 (Operand.tmp 49) (Operand.tmp 43), 0, "", #[], none⟩).run Tryd.prog z = .ok .skip (z.setCell ⟨c, 14, none⟩ (.slice q G cq)) := by go_simp
theorem pl5_0 (c bx K M G cq : Nat) (q : Option Addr) (nv : Value) (ev : Operand → Value) (z : World) (ec : ∀ c, ev (.const c) = c) (e0 : ev (.tmp 0) = .pointer (some ⟨c, 0, none⟩)) (hS : (loadVar 26 ⟨bx, 0, none⟩).run Tryd.prog z = .ok (.agg #[.int .i64 (K : Int), .int .i64 (M : Int)]) z) : (execOp ev ⟨some 39, Op.move (Operand.tmp 0), 83, "", #[], none⟩).run Tryd.prog z = .ok (.value (.pointer (some ⟨c, 0, none⟩))) z := by
  obtain sa := hS
  go_simp
theorem pl5_1 (c bx K M G cq : Nat) (q : Option Addr) (nv : Value) (ev : Operand → Value) (z : World) (ec : ∀ c, ev (.const c) = c) (e0 : ev (.tmp 0) = .pointer (some ⟨c, 0, none⟩)) (hS : (loadVar 26 ⟨bx, 0, none⟩).run Tryd.prog z = .ok (.agg #[.int .i64 (K : Int), .int .i64 (M : Int)]) z) : (execOp ev ⟨some 40, Op.move (Operand.tmp 0), 83, "", #[], none⟩).run Tryd.prog z = .ok (.value (.pointer (some ⟨c, 0, none⟩))) z := by
  obtain sa := hS
  go_simp
theorem pl5_2 (c bx K M G cq : Nat) (q : Option Addr) (nv : Value) (ev : Operand → Value) (z : World) (ec : ∀ c, ev (.const c) = c) (e4 : ev (.tmp 4) = .pointer (some ⟨bx, 0, none⟩)) (hS : (loadVar 26 ⟨bx, 0, none⟩).run Tryd.prog z = .ok (.agg #[.int .i64 (K : Int), .int .i64 (M : Int)]) z) : (execOp ev ⟨some 41, Op.load 26 (Operand.tmp 4), 26, "", #[], none⟩).run Tryd.prog z = .ok (.value (.agg #[.int .i64 (K : Int), .int .i64 (M : Int)])) z := by
  exact exec_ldC e4 hS
theorem pl5_3 (c bx K M G cq : Nat) (q : Option Addr) (nv : Value) (ev : Operand → Value) (z : World) (ec : ∀ c, ev (.const c) = c) (e2 : ev (.tmp 2) = nv) (hS : (loadVar 26 ⟨bx, 0, none⟩).run Tryd.prog z = .ok (.agg #[.int .i64 (K : Int), .int .i64 (M : Int)]) z) : (execOp ev ⟨some 42, Op.move (Operand.tmp 2), 23, "", #[], none⟩).run Tryd.prog z = .ok (.value (nv)) z := by
  obtain sa := hS
  go_simp
set_option maxRecDepth 100000 in
theorem pl5_4 (c bx K M G cq : Nat) (q : Option Addr) (nv : Value) (ev : Operand → Value) (z : World) (ec : ∀ c, ev (.const c) = c) (ef : ev (.func 73) = .func (.func 73) #[] #[]) (e42 : ev (.tmp 42) = nv) : (execOp ev ⟨some 43, Op.call { callee := Callee.value (Operand.func 73), args := #[Operand.tmp 42], argTypes := #[23] }, 23, "", #[], none⟩).run Tryd.prog z = .ok (.enter 73 #[nv]) z :=
  enter_run _ ef (by simp only [List.map_toArray, List.map_cons, List.map_nil, ec, e42]) (fun _ => by rfl)
theorem pl5_5 (c bx K M G cq : Nat) (q : Option Addr) (nv : Value) (ev : Operand → Value) (z : World) (ec : ∀ c, ev (.const c) = c) (e39 : ev (.tmp 39) = .pointer (some ⟨c, 0, none⟩)) (hS : (loadVar 26 ⟨bx, 0, none⟩).run Tryd.prog z = .ok (.agg #[.int .i64 (K : Int), .int .i64 (M : Int)]) z) : (execOp ev ⟨some 44, Op.nilCheck (Operand.tmp 39), 0, "", #[], none⟩).run Tryd.prog z = .ok (.value (.pointer (some ⟨c, 0, none⟩))) z := by
  obtain sa := hS
  go_simp
theorem pl5_6 (c bx K M G cq : Nat) (q : Option Addr) (nv : Value) (ev : Operand → Value) (z : World) (ec : ∀ c, ev (.const c) = c) (e44 : ev (.tmp 44) = .pointer (some ⟨c, 0, none⟩)) (hS : (loadVar 26 ⟨bx, 0, none⟩).run Tryd.prog z = .ok (.agg #[.int .i64 (K : Int), .int .i64 (M : Int)]) z) : (execOp ev ⟨some 45, Op.fieldAddr 106 (Operand.tmp 44) 3, 0, "", #[], none⟩).run Tryd.prog z = .ok (.value (.pointer (some ⟨c, 3, none⟩))) z := by
  obtain sa := hS
  go_simp
theorem pl5_7 (c bx K M G cq : Nat) (q : Option Addr) (nv : Value) (ev : Operand → Value) (z : World) (ec : ∀ c, ev (.const c) = c) (e45 : ev (.tmp 45) = .pointer (some ⟨c, 3, none⟩)) (hS : (loadVar 26 ⟨bx, 0, none⟩).run Tryd.prog z = .ok (.agg #[.int .i64 (K : Int), .int .i64 (M : Int)]) z) : (execOp ev ⟨some 46, Op.fieldAddr 42 (Operand.tmp 45) 9, 0, "", #[], none⟩).run Tryd.prog z = .ok (.value (.pointer (some ⟨c, 12, none⟩))) z := by
  obtain sa := hS
  go_simp
theorem pl5_9 (c bx K M G cq : Nat) (q : Option Addr) (nv : Value) (ev : Operand → Value) (z : World) (ec : ∀ c, ev (.const c) = c) (e40 : ev (.tmp 40) = .pointer (some ⟨c, 0, none⟩)) (hS : (loadVar 26 ⟨bx, 0, none⟩).run Tryd.prog z = .ok (.agg #[.int .i64 (K : Int), .int .i64 (M : Int)]) z) : (execOp ev ⟨some 47, Op.nilCheck (Operand.tmp 40), 0, "", #[], none⟩).run Tryd.prog z = .ok (.value (.pointer (some ⟨c, 0, none⟩))) z := by
  obtain sa := hS
  go_simp
theorem pl5_10 (c bx K M G cq : Nat) (q : Option Addr) (nv : Value) (ev : Operand → Value) (z : World) (ec : ∀ c, ev (.const c) = c) (e47 : ev (.tmp 47) = .pointer (some ⟨c, 0, none⟩)) (hS : (loadVar 26 ⟨bx, 0, none⟩).run Tryd.prog z = .ok (.agg #[.int .i64 (K : Int), .int .i64 (M : Int)]) z) : (execOp ev ⟨some 48, Op.fieldAddr 106 (Operand.tmp 47) 3, 0, "", #[], none⟩).run Tryd.prog z = .ok (.value (.pointer (some ⟨c, 3, none⟩))) z := by
  obtain sa := hS
  go_simp
theorem pl5_11 (c bx K M G cq : Nat) (q : Option Addr) (nv : Value) (ev : Operand → Value) (z : World) (ec : ∀ c, ev (.const c) = c) (e48 : ev (.tmp 48) = .pointer (some ⟨c, 3, none⟩)) (hS : (loadVar 26 ⟨bx, 0, none⟩).run Tryd.prog z = .ok (.agg #[.int .i64 (K : Int), .int .i64 (M : Int)]) z) : (execOp ev ⟨some 49, Op.fieldAddr 42 (Operand.tmp 48) 10, 0, "", #[], none⟩).run Tryd.prog z = .ok (.value (.pointer (some ⟨c, 14, none⟩))) z := by
  obtain sa := hS
  go_simp
structure pl5R (ops : Array Oper) : Prop where
  size : ops.size = 13
  sel : Region.noSelect ops = true
  o0 : (ops[0]?).map bare = some ⟨some 39, Op.move (Operand.tmp 0), 83, "", #[], none⟩
  o1 : (ops[1]?).map bare = some ⟨some 40, Op.move (Operand.tmp 0), 83, "", #[], none⟩
  o2 : (ops[2]?).map bare = some ⟨some 41, Op.load 26 (Operand.tmp 4), 26, "", #[], none⟩
  o3 : (ops[3]?).map bare = some ⟨some 42, Op.move (Operand.tmp 2), 23, "", #[], none⟩
  o4 : (ops[4]?).map bare = some ⟨some 43, Op.call { callee := Callee.value (Operand.func 73), args := #[Operand.tmp 42], argTypes := #[23] }, 23, "", #[], none⟩
  o5 : (ops[5]?).map bare = some ⟨some 44, Op.nilCheck (Operand.tmp 39), 0, "", #[], none⟩
  o6 : (ops[6]?).map bare = some ⟨some 45, Op.fieldAddr 106 (Operand.tmp 44) 3, 0, "", #[], none⟩
  o7 : (ops[7]?).map bare = some ⟨some 46, Op.fieldAddr 42 (Operand.tmp 45) 9, 0, "", #[], none⟩
  o8 : (ops[8]?).map bare = some ⟨none, Op.store 26 (Operand.tmp 46) (Operand.tmp 41), 0, "", #[], none⟩
  o9 : (ops[9]?).map bare = some ⟨some 47, Op.nilCheck (Operand.tmp 40), 0, "", #[], none⟩
  o10 : (ops[10]?).map bare = some ⟨some 48, Op.fieldAddr 106 (Operand.tmp 47) 3, 0, "", #[], none⟩
  o11 : (ops[11]?).map bare = some ⟨some 49, Op.fieldAddr 42 (Operand.tmp 48) 10, 0, "", #[], none⟩
  o12 : (ops[12]?).map bare = some ⟨none, Op.store 23 (Operand.tmp 49) (Operand.tmp 43), 0, "", #[], none⟩
  may0 : takeB .any ops [0, 1, 2, 3] (Array.replicate 13 false) = true
  r4 : Region.ready .any ops (mark [0, 1, 2, 3] (Array.replicate 13 false)) = [4]
  may1 : takeB .any ops [5, 6, 7] ((mark [0, 1, 2, 3] (Array.replicate 13 false)).setIfInBounds 4 true) = true
  r8 : Region.ready .any ops (mark [5, 6, 7] ((mark [0, 1, 2, 3] (Array.replicate 13 false)).setIfInBounds 4 true)) = [8]
  may2 : takeB .any ops [9, 10, 11] ((mark [5, 6, 7] ((mark [0, 1, 2, 3] (Array.replicate 13 false)).setIfInBounds 4 true)).setIfInBounds 8 true) = true
  r12 : Region.ready .any ops (mark [9, 10, 11] ((mark [5, 6, 7] ((mark [0, 1, 2, 3] (Array.replicate 13 false)).setIfInBounds 4 true)).setIfInBounds 8 true)) = [12]
  fin : Region.ready .any ops ((mark [9, 10, 11] ((mark [5, 6, 7] ((mark [0, 1, 2, 3] (Array.replicate 13 false)).setIfInBounds 4 true)).setIfInBounds 8 true)).setIfInBounds 12 true) = []

set_option maxRecDepth 100000 in
set_option maxHeartbeats 3200000 in
theorem pl5_region {ops : Array Oper} {id : Nat} {Q : Exit → Act → World → Prop} {a : Act} {y : World} (R : pl5R ops) (c bx K M G cq : Nat) (q : Option Addr) (nv : Value)
    (hQ : ∀ d v c a w, Q (.panic c) (a.put d v) w → Q (.panic c) a w) (hsz : a.tmps.size = 58) (e0 : a.eval (.tmp 0) = .pointer (some ⟨c, 0, none⟩)) (e2 : a.eval (.tmp 2) = nv) (e4 : a.eval (.tmp 4) = .pointer (some ⟨bx, 0, none⟩)) (hS0 : ((loadVar 26 ⟨bx, 0, none⟩).run Tryd.prog y.drew = .ok (.agg #[.int .i64 (K : Int), .int .i64 (M : Int)]) y.drew)) (T : World → Prop) (hc : Calls Tryd.prog 73 #[nv] y.drew fun e w9 => ∃ (q : Option Addr) (cq : Nat) (va vb vc : Value), e = .returned (.slice q G cq) ∧ ((loadVar 26 ⟨bx, 0, none⟩).run Tryd.prog w9 = .ok (.agg #[.int .i64 (K : Int), .int .i64 (M : Int)]) w9) ∧ ((loadVar 26 ⟨bx, 0, none⟩).run Tryd.prog ((w9.setCell ⟨c, 12, none⟩ (.int .i64 (K : Int))).setCell ⟨c, 13, none⟩ (.int .i64 (M : Int))) = .ok (.agg #[.int .i64 (K : Int), .int .i64 (M : Int)]) ((w9.setCell ⟨c, 12, none⟩ (.int .i64 (K : Int))).setCell ⟨c, 13, none⟩ (.int .i64 (M : Int)))) ∧ ((loadVar 26 ⟨bx, 0, none⟩).run Tryd.prog (((w9.setCell ⟨c, 12, none⟩ (.int .i64 (K : Int))).setCell ⟨c, 13, none⟩ (.int .i64 (M : Int))).setCell ⟨c, 14, none⟩ (.slice q G cq)) = .ok (.agg #[.int .i64 (K : Int), .int .i64 (M : Int)]) (((w9.setCell ⟨c, 12, none⟩ (.int .i64 (K : Int))).setCell ⟨c, 13, none⟩ (.int .i64 (M : Int))).setCell ⟨c, 14, none⟩ (.slice q G cq))) ∧ w9.cell? ⟨c, 12, none⟩ = some va ∧ w9.frozen? ⟨c, 12, none⟩ = false ∧ w9.cell? ⟨c, 13, none⟩ = some vb ∧ w9.frozen? ⟨c, 13, none⟩ = false ∧ ((w9.setCell ⟨c, 12, none⟩ (.int .i64 (K : Int))).setCell ⟨c, 13, none⟩ (.int .i64 (M : Int))).cell? ⟨c, 14, none⟩ = some vc ∧ ((w9.setCell ⟨c, 12, none⟩ (.int .i64 (K : Int))).setCell ⟨c, 13, none⟩ (.int .i64 (M : Int))).frozen? ⟨c, 14, none⟩ = false ∧ T (((w9.setCell ⟨c, 12, none⟩ (.int .i64 (K : Int))).setCell ⟨c, 13, none⟩ (.int .i64 (M : Int))).setCell ⟨c, 14, none⟩ (.slice q G cq)))
    (hK : ∀ (q : Option Addr) (cq : Nat) (w9 : World), T (((w9.setCell ⟨c, 12, none⟩ (.int .i64 (K : Int))).setCell ⟨c, 13, none⟩ (.int .i64 (M : Int))).setCell ⟨c, 14, none⟩ (.slice q G cq)) → Q .normal (((((((((((a.put (some 39) (.pointer (some ⟨c, 0, none⟩))).put (some 40) (.pointer (some ⟨c, 0, none⟩))).put (some 41) (.agg #[.int .i64 (K : Int), .int .i64 (M : Int)])).put (some 42) (nv)).put (some 43) (.slice q G cq)).put (some 44) (.pointer (some ⟨c, 0, none⟩))).put (some 45) (.pointer (some ⟨c, 3, none⟩))).put (some 46) (.pointer (some ⟨c, 12, none⟩))).put (some 47) (.pointer (some ⟨c, 0, none⟩))).put (some 48) (.pointer (some ⟨c, 3, none⟩))).put (some 49) (.pointer (some ⟨c, 14, none⟩))) (((w9.setCell ⟨c, 12, none⟩ (.int .i64 (K : Int))).setCell ⟨c, 13, none⟩ (.int .i64 (M : Int))).setCell ⟨c, 14, none⟩ (.slice q G cq))) : (Code.region id ops true).wp Tryd.prog Q a y := by
  have HR : Hid (pl5R ops) := R
  have hdf : a.defers = a.defers := rfl
  refine wp_region_held_drew (S := (fun z : World => (loadVar 26 ⟨bx, 0, none⟩).run Tryd.prog z = .ok (.agg #[.int .i64 (K : Int), .int .i64 (M : Int)]) z)) (by kernel_rfl) (hS0) (fun hHeld => ?_)
  rw [R.size]
  clear R
  refine wpAnyH_takes HR.out.sel hQ hHeld [0, 1, 2, 3] 9 _ _ HR.out.may0 ?_
  refine wpTake_stepE ⟨some 39, Op.move (Operand.tmp 0), 83, "", #[], none⟩ 39 (.pointer (some ⟨c, 0, none⟩)) HR.out.o0 rfl (by rw [hsz]; decide) (wanted_none rfl) (fun z hS => pl5_0 c bx K M G cq q nv _ z (fun _ => rfl) e0 hS) ?_
  intro a1 ha1 s1 f1 n1 k1
  replace hsz := s1.trans hsz
  replace hdf := f1.trans hdf
  replace e0 := (k1 0 (by decide)).trans e0
  replace e2 := (k1 2 (by decide)).trans e2
  replace e4 := (k1 4 (by decide)).trans e4
  have e39 := n1
  clear s1 f1 n1 k1
  refine wpTake_stepE ⟨some 40, Op.move (Operand.tmp 0), 83, "", #[], none⟩ 40 (.pointer (some ⟨c, 0, none⟩)) HR.out.o1 rfl (by rw [hsz]; decide) (wanted_none rfl) (fun z hS => pl5_1 c bx K M G cq q nv _ z (fun _ => rfl) e0 hS) ?_
  intro a2 ha2 s1 f1 n1 k1
  replace hsz := s1.trans hsz
  replace hdf := f1.trans hdf
  replace e0 := (k1 0 (by decide)).trans e0
  replace e2 := (k1 2 (by decide)).trans e2
  replace e4 := (k1 4 (by decide)).trans e4
  replace e39 := (k1 39 (by decide)).trans e39
  have e40 := n1
  clear s1 f1 n1 k1
  refine wpTake_stepE ⟨some 41, Op.load 26 (Operand.tmp 4), 26, "", #[], none⟩ 41 (.agg #[.int .i64 (K : Int), .int .i64 (M : Int)]) HR.out.o2 rfl (by rw [hsz]; decide) (wanted_none rfl) (fun z hS => pl5_2 c bx K M G cq q nv _ z (fun _ => rfl) e4 hS) ?_
  intro a3 ha3 s1 f1 n1 k1
  replace hsz := s1.trans hsz
  replace hdf := f1.trans hdf
  replace e0 := (k1 0 (by decide)).trans e0
  replace e2 := (k1 2 (by decide)).trans e2
  replace e4 := (k1 4 (by decide)).trans e4
  replace e39 := (k1 39 (by decide)).trans e39
  replace e40 := (k1 40 (by decide)).trans e40
  have e41 := n1
  clear s1 f1 n1 k1
  refine wpTake_stepE ⟨some 42, Op.move (Operand.tmp 2), 23, "", #[], none⟩ 42 (nv) HR.out.o3 rfl (by rw [hsz]; decide) (wanted_none rfl) (fun z hS => pl5_3 c bx K M G cq q nv _ z (fun _ => rfl) e2 hS) ?_
  intro a4 ha4 s1 f1 n1 k1
  replace hsz := s1.trans hsz
  replace hdf := f1.trans hdf
  replace e0 := (k1 0 (by decide)).trans e0
  replace e2 := (k1 2 (by decide)).trans e2
  replace e4 := (k1 4 (by decide)).trans e4
  replace e39 := (k1 39 (by decide)).trans e39
  replace e40 := (k1 40 (by decide)).trans e40
  replace e41 := (k1 41 (by decide)).trans e41
  have e42 := n1
  clear s1 f1 n1 k1
  refine wpTake_nil ?_
  refine wpAnyH_one ⟨some 43, Op.call { callee := Callee.value (Operand.func 73), args := #[Operand.tmp 42], argTypes := #[23] }, 23, "", #[], none⟩ HR.out.r4 HR.out.o4 rfl (fun K' hK' => ?_)
  refine wp_enter (pl5_4 c bx K M G cq q nv _ _ (fun _ => rfl) rfl e42) (hc) ?_
  rintro e9 w9 ⟨q, cq, va, vb, vc, rfl, hS9, hSa, hSb, ca, fa, cb, fb, cc, fc, hT⟩
  refine ⟨_, rfl, hK'.out _ _ (hS9) ?_⟩
  replace hHeld := hS9
  clear hK' K'
  show wpAnyH _ _ _ _ _ _ _ (Act.put a4 (some 43) (.slice q G cq)) _
  obtain ⟨s1, f1, n1, k1⟩ := act_put a4 43 (.slice q G cq) (show 43 < _ by rw [hsz]; decide)
  obtain ⟨a5, ha5⟩ : ∃ x, x = Act.put a4 (some 43) (.slice q G cq) := ⟨_, rfl⟩
  rw [← ha5] at s1 f1 n1 k1 ⊢
  replace hsz := s1.trans hsz
  replace hdf := f1.trans hdf
  replace e0 := (k1 0 (by decide)).trans e0
  replace e2 := (k1 2 (by decide)).trans e2
  replace e4 := (k1 4 (by decide)).trans e4
  replace e39 := (k1 39 (by decide)).trans e39
  replace e40 := (k1 40 (by decide)).trans e40
  replace e41 := (k1 41 (by decide)).trans e41
  have e43 := n1
  clear s1 f1 n1 k1
  refine wpAnyH_takes HR.out.sel hQ hHeld [5, 6, 7] 5 _ _ HR.out.may1 ?_
  refine wpTake_stepE ⟨some 44, Op.nilCheck (Operand.tmp 39), 0, "", #[], none⟩ 44 (.pointer (some ⟨c, 0, none⟩)) HR.out.o5 rfl (by rw [hsz]; decide) (wanted_none rfl) (fun z hS => pl5_5 c bx K M G cq q nv _ z (fun _ => rfl) e39 hS) ?_
  intro a6 ha6 s1 f1 n1 k1
  replace hsz := s1.trans hsz
  replace hdf := f1.trans hdf
  replace e0 := (k1 0 (by decide)).trans e0
  replace e2 := (k1 2 (by decide)).trans e2
  replace e4 := (k1 4 (by decide)).trans e4
  replace e40 := (k1 40 (by decide)).trans e40
  replace e41 := (k1 41 (by decide)).trans e41
  replace e43 := (k1 43 (by decide)).trans e43
  have e44 := n1
  clear s1 f1 n1 k1
  refine wpTake_stepE ⟨some 45, Op.fieldAddr 106 (Operand.tmp 44) 3, 0, "", #[], none⟩ 45 (.pointer (some ⟨c, 3, none⟩)) HR.out.o6 rfl (by rw [hsz]; decide) (wanted_none rfl) (fun z hS => pl5_6 c bx K M G cq q nv _ z (fun _ => rfl) e44 hS) ?_
  intro a7 ha7 s1 f1 n1 k1
  replace hsz := s1.trans hsz
  replace hdf := f1.trans hdf
  replace e0 := (k1 0 (by decide)).trans e0
  replace e2 := (k1 2 (by decide)).trans e2
  replace e4 := (k1 4 (by decide)).trans e4
  replace e40 := (k1 40 (by decide)).trans e40
  replace e41 := (k1 41 (by decide)).trans e41
  replace e43 := (k1 43 (by decide)).trans e43
  have e45 := n1
  clear s1 f1 n1 k1
  refine wpTake_stepE ⟨some 46, Op.fieldAddr 42 (Operand.tmp 45) 9, 0, "", #[], none⟩ 46 (.pointer (some ⟨c, 12, none⟩)) HR.out.o7 rfl (by rw [hsz]; decide) (wanted_none rfl) (fun z hS => pl5_7 c bx K M G cq q nv _ z (fun _ => rfl) e45 hS) ?_
  intro a8 ha8 s1 f1 n1 k1
  replace hsz := s1.trans hsz
  replace hdf := f1.trans hdf
  replace e0 := (k1 0 (by decide)).trans e0
  replace e2 := (k1 2 (by decide)).trans e2
  replace e4 := (k1 4 (by decide)).trans e4
  replace e40 := (k1 40 (by decide)).trans e40
  replace e41 := (k1 41 (by decide)).trans e41
  replace e43 := (k1 43 (by decide)).trans e43
  have e46 := n1
  clear s1 f1 n1 k1
  refine wpTake_nil ?_
  refine wpAnyH_skip ⟨none, Op.store 26 (Operand.tmp 46) (Operand.tmp 41), 0, "", #[], none⟩ ((w9.setCell ⟨c, 12, none⟩ (.int .i64 (K : Int))).setCell ⟨c, 13, none⟩ (.int .i64 (M : Int))) HR.out.r8 HR.out.o8 rfl rfl (pl5_s1 c K M va vb _ _ e46 e41 ca fa cb fb) (hSa) ?_
  replace hHeld := hSa
  refine wpAnyH_takes HR.out.sel hQ hHeld [9, 10, 11] 1 _ _ HR.out.may2 ?_
  refine wpTake_stepE ⟨some 47, Op.nilCheck (Operand.tmp 40), 0, "", #[], none⟩ 47 (.pointer (some ⟨c, 0, none⟩)) HR.out.o9 rfl (by rw [hsz]; decide) (wanted_none rfl) (fun z hS => pl5_9 c bx K M G cq q nv _ z (fun _ => rfl) e40 hS) ?_
  intro a9 ha9 s1 f1 n1 k1
  replace hsz := s1.trans hsz
  replace hdf := f1.trans hdf
  replace e0 := (k1 0 (by decide)).trans e0
  replace e2 := (k1 2 (by decide)).trans e2
  replace e4 := (k1 4 (by decide)).trans e4
  replace e43 := (k1 43 (by decide)).trans e43
  have e47 := n1
  clear s1 f1 n1 k1
  refine wpTake_stepE ⟨some 48, Op.fieldAddr 106 (Operand.tmp 47) 3, 0, "", #[], none⟩ 48 (.pointer (some ⟨c, 3, none⟩)) HR.out.o10 rfl (by rw [hsz]; decide) (wanted_none rfl) (fun z hS => pl5_10 c bx K M G cq q nv _ z (fun _ => rfl) e47 hS) ?_
  intro a10 ha10 s1 f1 n1 k1
  replace hsz := s1.trans hsz
  replace hdf := f1.trans hdf
  replace e0 := (k1 0 (by decide)).trans e0
  replace e2 := (k1 2 (by decide)).trans e2
  replace e4 := (k1 4 (by decide)).trans e4
  replace e43 := (k1 43 (by decide)).trans e43
  have e48 := n1
  clear s1 f1 n1 k1
  refine wpTake_stepE ⟨some 49, Op.fieldAddr 42 (Operand.tmp 48) 10, 0, "", #[], none⟩ 49 (.pointer (some ⟨c, 14, none⟩)) HR.out.o11 rfl (by rw [hsz]; decide) (wanted_none rfl) (fun z hS => pl5_11 c bx K M G cq q nv _ z (fun _ => rfl) e48 hS) ?_
  intro a11 ha11 s1 f1 n1 k1
  replace hsz := s1.trans hsz
  replace hdf := f1.trans hdf
  replace e0 := (k1 0 (by decide)).trans e0
  replace e2 := (k1 2 (by decide)).trans e2
  replace e4 := (k1 4 (by decide)).trans e4
  replace e43 := (k1 43 (by decide)).trans e43
  have e49 := n1
  clear s1 f1 n1 k1
  refine wpTake_nil ?_
  refine wpAnyH_skip ⟨none, Op.store 23 (Operand.tmp 49) (Operand.tmp 43), 0, "", #[], none⟩ (((w9.setCell ⟨c, 12, none⟩ (.int .i64 (K : Int))).setCell ⟨c, 13, none⟩ (.int .i64 (M : Int))).setCell ⟨c, 14, none⟩ (.slice q G cq)) HR.out.r12 HR.out.o12 rfl rfl (pl5_s2 c G cq q vc _ _ e49 e43 cc fc) (hSb) ?_
  replace hHeld := hSb
  refine wpAnyH_done HR.out.fin ?_ _
  rw [ha11, ha10, ha9, ha8, ha7, ha6, ha5, ha4, ha3, ha2, ha1]
  exact hK _ _ _ hT
-- pl5: ⟨by kernel_rfl, by kernel_rfl, by kernel_rfl, by kernel_rfl, by kernel_rfl, by kernel_rfl, by kernel_rfl, by kernel_rfl, by kernel_rfl, by kernel_rfl, by kernel_rfl, by kernel_rfl, by kernel_rfl, by kernel_rfl, by kernel_rfl, by kernel_rfl, by kernel_rfl, by kernel_rfl, by kernel_rfl, by kernel_rfl, by kernel_rfl, by kernel_rfl⟩

theorem pl6_0 (c : Nat) (ca : Array Value) (ev : Operand → Value) (z : World) (ec : ∀ c, ev (.const c) = c) (e0 : ev (.tmp 0) = .pointer (some ⟨c, 0, none⟩)) (hS : (loadVar 42 ⟨c, 3, none⟩).run Tryd.prog z = .ok (.agg ca) z) : (execOp ev ⟨some 50, Op.move (Operand.tmp 0), 83, "", #[], none⟩).run Tryd.prog z = .ok (.value (.pointer (some ⟨c, 0, none⟩))) z := by
  obtain sa := hS
  go_simp
theorem pl6_1 (c : Nat) (ca : Array Value) (ev : Operand → Value) (z : World) (ec : ∀ c, ev (.const c) = c) (e50 : ev (.tmp 50) = .pointer (some ⟨c, 0, none⟩)) (hS : (loadVar 42 ⟨c, 3, none⟩).run Tryd.prog z = .ok (.agg ca) z) : (execOp ev ⟨some 51, Op.nilCheck (Operand.tmp 50), 0, "", #[], none⟩).run Tryd.prog z = .ok (.value (.pointer (some ⟨c, 0, none⟩))) z := by
  obtain sa := hS
  go_simp
theorem pl6_2 (c : Nat) (ca : Array Value) (ev : Operand → Value) (z : World) (ec : ∀ c, ev (.const c) = c) (e51 : ev (.tmp 51) = .pointer (some ⟨c, 0, none⟩)) (hS : (loadVar 42 ⟨c, 3, none⟩).run Tryd.prog z = .ok (.agg ca) z) : (execOp ev ⟨some 52, Op.fieldAddr 106 (Operand.tmp 51) 5, 0, "", #[], none⟩).run Tryd.prog z = .ok (.value (.pointer (some ⟨c, 16, none⟩))) z := by
  obtain sa := hS
  go_simp
theorem pl6_3 (c : Nat) (ca : Array Value) (ev : Operand → Value) (z : World) (ec : ∀ c, ev (.const c) = c) (e0 : ev (.tmp 0) = .pointer (some ⟨c, 0, none⟩)) (hS : (loadVar 42 ⟨c, 3, none⟩).run Tryd.prog z = .ok (.agg ca) z) : (execOp ev ⟨some 53, Op.move (Operand.tmp 0), 83, "", #[], none⟩).run Tryd.prog z = .ok (.value (.pointer (some ⟨c, 0, none⟩))) z := by
  obtain sa := hS
  go_simp
theorem pl6_4 (c : Nat) (ca : Array Value) (ev : Operand → Value) (z : World) (ec : ∀ c, ev (.const c) = c) (e53 : ev (.tmp 53) = .pointer (some ⟨c, 0, none⟩)) (hS : (loadVar 42 ⟨c, 3, none⟩).run Tryd.prog z = .ok (.agg ca) z) : (execOp ev ⟨some 54, Op.nilCheck (Operand.tmp 53), 0, "", #[], none⟩).run Tryd.prog z = .ok (.value (.pointer (some ⟨c, 0, none⟩))) z := by
  obtain sa := hS
  go_simp
theorem pl6_5 (c : Nat) (ca : Array Value) (ev : Operand → Value) (z : World) (ec : ∀ c, ev (.const c) = c) (e54 : ev (.tmp 54) = .pointer (some ⟨c, 0, none⟩)) (hS : (loadVar 42 ⟨c, 3, none⟩).run Tryd.prog z = .ok (.agg ca) z) : (execOp ev ⟨some 55, Op.fieldAddr 106 (Operand.tmp 54) 3, 0, "", #[], none⟩).run Tryd.prog z = .ok (.value (.pointer (some ⟨c, 3, none⟩))) z := by
  obtain sa := hS
  go_simp
theorem pl6_6 (c : Nat) (ca : Array Value) (ev : Operand → Value) (z : World) (ec : ∀ c, ev (.const c) = c) (e55 : ev (.tmp 55) = .pointer (some ⟨c, 3, none⟩)) (hS : (loadVar 42 ⟨c, 3, none⟩).run Tryd.prog z = .ok (.agg ca) z) : (execOp ev ⟨some 56, Op.load 42 (Operand.tmp 55), 42, "", #[], none⟩).run Tryd.prog z = .ok (.value (.agg ca)) z := by
  exact exec_ldC e55 hS
set_option maxRecDepth 100000 in
theorem pl6_7 (c : Nat) (ca : Array Value) (ev : Operand → Value) (z : World) (ec : ∀ c, ev (.const c) = c) (ef : ev (.func 74) = .func (.func 74) #[] #[]) (e52 : ev (.tmp 52) = .pointer (some ⟨c, 16, none⟩)) (e56 : ev (.tmp 56) = .agg ca) : (execOp ev ⟨some 57, Op.call { callee := Callee.value (Operand.func 74), args := #[Operand.tmp 52, Operand.tmp 56], argTypes := #[102, 42] }, 0, "", #[], none⟩).run Tryd.prog z = .ok (.enter 74 #[.pointer (some ⟨c, 16, none⟩), .agg ca]) z :=
  enter_run _ ef (by simp only [List.map_toArray, List.map_cons, List.map_nil, ec, e52, e56]) (fun _ => by rfl)
structure pl6R (ops : Array Oper) : Prop where
  size : ops.size = 8
  sel : Region.noSelect ops = true
  o0 : (ops[0]?).map bare = some ⟨some 50, Op.move (Operand.tmp 0), 83, "", #[], none⟩
  o1 : (ops[1]?).map bare = some ⟨some 51, Op.nilCheck (Operand.tmp 50), 0, "", #[], none⟩
  o2 : (ops[2]?).map bare = some ⟨some 52, Op.fieldAddr 106 (Operand.tmp 51) 5, 0, "", #[], none⟩
  o3 : (ops[3]?).map bare = some ⟨some 53, Op.move (Operand.tmp 0), 83, "", #[], none⟩
  o4 : (ops[4]?).map bare = some ⟨some 54, Op.nilCheck (Operand.tmp 53), 0, "", #[], none⟩
  o5 : (ops[5]?).map bare = some ⟨some 55, Op.fieldAddr 106 (Operand.tmp 54) 3, 0, "", #[], none⟩
  o6 : (ops[6]?).map bare = some ⟨some 56, Op.load 42 (Operand.tmp 55), 42, "", #[], none⟩
  o7 : (ops[7]?).map bare = some ⟨some 57, Op.call { callee := Callee.value (Operand.func 74), args := #[Operand.tmp 52, Operand.tmp 56], argTypes := #[102, 42] }, 0, "", #[], none⟩
  may0 : takeB .any ops [0, 1, 2, 3, 4, 5, 6] (Array.replicate 8 false) = true
  r7 : Region.ready .any ops (mark [0, 1, 2, 3, 4, 5, 6] (Array.replicate 8 false)) = [7]
  fin : Region.ready .any ops ((mark [0, 1, 2, 3, 4, 5, 6] (Array.replicate 8 false)).setIfInBounds 7 true) = []

set_option maxRecDepth 100000 in
set_option maxHeartbeats 3200000 in
theorem pl6_region {ops : Array Oper} {id : Nat} {Q : Exit → Act → World → Prop} {a : Act} {y : World} (R : pl6R ops) (c : Nat) (ca : Array Value)
    (hQ : ∀ d v c a w, Q (.panic c) (a.put d v) w → Q (.panic c) a w) (hsz : a.tmps.size = 58) (e0 : a.eval (.tmp 0) = .pointer (some ⟨c, 0, none⟩)) (hS0 : ((loadVar 42 ⟨c, 3, none⟩).run Tryd.prog y.drew = .ok (.agg ca) y.drew)) (T : World → Prop) (hc : Calls Tryd.prog 74 #[.pointer (some ⟨c, 16, none⟩), .agg ca] y.drew fun e w9 => e = .returned (.tuple #[]) ∧ ((loadVar 42 ⟨c, 3, none⟩).run Tryd.prog w9 = .ok (.agg ca) w9) ∧ T w9)
    (hK : ∀ (w9 : World), T w9 → Q .normal ((((((((a.put (some 50) (.pointer (some ⟨c, 0, none⟩))).put (some 51) (.pointer (some ⟨c, 0, none⟩))).put (some 52) (.pointer (some ⟨c, 16, none⟩))).put (some 53) (.pointer (some ⟨c, 0, none⟩))).put (some 54) (.pointer (some ⟨c, 0, none⟩))).put (some 55) (.pointer (some ⟨c, 3, none⟩))).put (some 56) (.agg ca)).put (some 57) (.tuple #[])) w9) : (Code.region id ops true).wp Tryd.prog Q a y := by
  have HR : Hid (pl6R ops) := R
  have hdf : a.defers = a.defers := rfl
  refine wp_region_held_drew (S := (fun z : World => (loadVar 42 ⟨c, 3, none⟩).run Tryd.prog z = .ok (.agg ca) z)) (by kernel_rfl) (hS0) (fun hHeld => ?_)
  rw [R.size]
  clear R
  refine wpAnyH_takes HR.out.sel hQ hHeld [0, 1, 2, 3, 4, 5, 6] 1 _ _ HR.out.may0 ?_
  refine wpTake_stepE ⟨some 50, Op.move (Operand.tmp 0), 83, "", #[], none⟩ 50 (.pointer (some ⟨c, 0, none⟩)) HR.out.o0 rfl (by rw [hsz]; decide) (wanted_none rfl) (fun z hS => pl6_0 c ca _ z (fun _ => rfl) e0 hS) ?_
  intro a1 ha1 s1 f1 n1 k1
  replace hsz := s1.trans hsz
  replace hdf := f1.trans hdf
  replace e0 := (k1 0 (by decide)).trans e0
  have e50 := n1
  clear s1 f1 n1 k1
  refine wpTake_stepE ⟨some 51, Op.nilCheck (Operand.tmp 50), 0, "", #[], none⟩ 51 (.pointer (some ⟨c, 0, none⟩)) HR.out.o1 rfl (by rw [hsz]; decide) (wanted_none rfl) (fun z hS => pl6_1 c ca _ z (fun _ => rfl) e50 hS) ?_
  intro a2 ha2 s1 f1 n1 k1
  replace hsz := s1.trans hsz
  replace hdf := f1.trans hdf
  replace e0 := (k1 0 (by decide)).trans e0
  have e51 := n1
  clear s1 f1 n1 k1
  refine wpTake_stepE ⟨some 52, Op.fieldAddr 106 (Operand.tmp 51) 5, 0, "", #[], none⟩ 52 (.pointer (some ⟨c, 16, none⟩)) HR.out.o2 rfl (by rw [hsz]; decide) (wanted_none rfl) (fun z hS => pl6_2 c ca _ z (fun _ => rfl) e51 hS) ?_
  intro a3 ha3 s1 f1 n1 k1
  replace hsz := s1.trans hsz
  replace hdf := f1.trans hdf
  replace e0 := (k1 0 (by decide)).trans e0
  have e52 := n1
  clear s1 f1 n1 k1
  refine wpTake_stepE ⟨some 53, Op.move (Operand.tmp 0), 83, "", #[], none⟩ 53 (.pointer (some ⟨c, 0, none⟩)) HR.out.o3 rfl (by rw [hsz]; decide) (wanted_none rfl) (fun z hS => pl6_3 c ca _ z (fun _ => rfl) e0 hS) ?_
  intro a4 ha4 s1 f1 n1 k1
  replace hsz := s1.trans hsz
  replace hdf := f1.trans hdf
  replace e52 := (k1 52 (by decide)).trans e52
  have e53 := n1
  clear s1 f1 n1 k1
  refine wpTake_stepE ⟨some 54, Op.nilCheck (Operand.tmp 53), 0, "", #[], none⟩ 54 (.pointer (some ⟨c, 0, none⟩)) HR.out.o4 rfl (by rw [hsz]; decide) (wanted_none rfl) (fun z hS => pl6_4 c ca _ z (fun _ => rfl) e53 hS) ?_
  intro a5 ha5 s1 f1 n1 k1
  replace hsz := s1.trans hsz
  replace hdf := f1.trans hdf
  replace e52 := (k1 52 (by decide)).trans e52
  have e54 := n1
  clear s1 f1 n1 k1
  refine wpTake_stepE ⟨some 55, Op.fieldAddr 106 (Operand.tmp 54) 3, 0, "", #[], none⟩ 55 (.pointer (some ⟨c, 3, none⟩)) HR.out.o5 rfl (by rw [hsz]; decide) (wanted_none rfl) (fun z hS => pl6_5 c ca _ z (fun _ => rfl) e54 hS) ?_
  intro a6 ha6 s1 f1 n1 k1
  replace hsz := s1.trans hsz
  replace hdf := f1.trans hdf
  replace e52 := (k1 52 (by decide)).trans e52
  have e55 := n1
  clear s1 f1 n1 k1
  refine wpTake_stepE ⟨some 56, Op.load 42 (Operand.tmp 55), 42, "", #[], none⟩ 56 (.agg ca) HR.out.o6 rfl (by rw [hsz]; decide) (wanted_none rfl) (fun z hS => pl6_6 c ca _ z (fun _ => rfl) e55 hS) ?_
  intro a7 ha7 s1 f1 n1 k1
  replace hsz := s1.trans hsz
  replace hdf := f1.trans hdf
  replace e52 := (k1 52 (by decide)).trans e52
  have e56 := n1
  clear s1 f1 n1 k1
  refine wpTake_nil ?_
  refine wpAnyH_one ⟨some 57, Op.call { callee := Callee.value (Operand.func 74), args := #[Operand.tmp 52, Operand.tmp 56], argTypes := #[102, 42] }, 0, "", #[], none⟩ HR.out.r7 HR.out.o7 rfl (fun K' hK' => ?_)
  refine wp_enter (pl6_7 c ca _ _ (fun _ => rfl) rfl e52 e56) (hc) ?_
  rintro e9 w9 ⟨rfl, hS9, hT⟩
  refine ⟨_, rfl, hK'.out _ _ (hS9) ?_⟩
  replace hHeld := hS9
  clear hK' K'
  show wpAnyH _ _ _ _ _ _ _ (Act.put a7 (some 57) (.tuple #[])) _
  obtain ⟨s1, f1, n1, k1⟩ := act_put a7 57 (.tuple #[]) (show 57 < _ by rw [hsz]; decide)
  obtain ⟨a8, ha8⟩ : ∃ x, x = Act.put a7 (some 57) (.tuple #[]) := ⟨_, rfl⟩
  rw [← ha8] at s1 f1 n1 k1 ⊢
  replace hsz := s1.trans hsz
  replace hdf := f1.trans hdf
  clear s1 f1 n1 k1
  refine wpAnyH_done HR.out.fin ?_ _
  rw [ha8, ha7, ha6, ha5, ha4, ha3, ha2, ha1]
  exact hK _ hT
-- pl6: ⟨by kernel_rfl, by kernel_rfl, by kernel_rfl, by kernel_rfl, by kernel_rfl, by kernel_rfl, by kernel_rfl, by kernel_rfl, by kernel_rfl, by kernel_rfl, by kernel_rfl, by kernel_rfl, by kernel_rfl⟩

theorem ct1_0 (c bx K M n cp t : Nat) (p : Option Addr) (ev : Operand → Value) (z : World) (ec : ∀ c, ev (.const c) = c) (e3 : ev (.tmp 3) = .pointer (some ⟨bx, 0, none⟩)) (hS : (loadVar 26 ⟨bx, 9, none⟩).run Tryd.prog z = .ok (.agg #[.int .i64 (K : Int), .int .i64 (M : Int)]) z ∧ z.cell? ⟨c, 16, none⟩ = some (.slice p n cp)) : (execOp ev ⟨some 7, Op.fieldAddr 42 (Operand.tmp 3) 9, 0, "", #[], none⟩).run Tryd.prog z = .ok (.value (.pointer (some ⟨bx, 9, none⟩))) z := by
  obtain ⟨sa, sb⟩ := hS
  go_simp
theorem ct1_1 (c bx K M n cp t : Nat) (p : Option Addr) (ev : Operand → Value) (z : World) (ec : ∀ c, ev (.const c) = c) (e7 : ev (.tmp 7) = .pointer (some ⟨bx, 9, none⟩)) (hS : (loadVar 26 ⟨bx, 9, none⟩).run Tryd.prog z = .ok (.agg #[.int .i64 (K : Int), .int .i64 (M : Int)]) z ∧ z.cell? ⟨c, 16, none⟩ = some (.slice p n cp)) : (execOp ev ⟨some 8, Op.load 26 (Operand.tmp 7), 26, "", #[], none⟩).run Tryd.prog z = .ok (.value (.agg #[.int .i64 (K : Int), .int .i64 (M : Int)])) z := by
  exact exec_ldC e7 hS.1
theorem ct1_2 (c bx K M n cp t : Nat) (p : Option Addr) (ev : Operand → Value) (z : World) (ec : ∀ c, ev (.const c) = c) (e0 : ev (.tmp 0) = .pointer (some ⟨c, 16, none⟩)) (hS : (loadVar 26 ⟨bx, 9, none⟩).run Tryd.prog z = .ok (.agg #[.int .i64 (K : Int), .int .i64 (M : Int)]) z ∧ z.cell? ⟨c, 16, none⟩ = some (.slice p n cp)) : (execOp ev ⟨some 9, Op.move (Operand.tmp 0), 154, "", #[], none⟩).run Tryd.prog z = .ok (.value (.pointer (some ⟨c, 16, none⟩))) z := by
  obtain ⟨sa, sb⟩ := hS
  go_simp
theorem ct1_3 (c bx K M n cp t : Nat) (p : Option Addr) (ev : Operand → Value) (z : World) (ec : ∀ c, ev (.const c) = c) (e9 : ev (.tmp 9) = .pointer (some ⟨c, 16, none⟩)) (hS : (loadVar 26 ⟨bx, 9, none⟩).run Tryd.prog z = .ok (.agg #[.int .i64 (K : Int), .int .i64 (M : Int)]) z ∧ z.cell? ⟨c, 16, none⟩ = some (.slice p n cp)) : (execOp ev ⟨some 10, Op.nilCheck (Operand.tmp 9), 0, "", #[], none⟩).run Tryd.prog z = .ok (.value (.pointer (some ⟨c, 16, none⟩))) z := by
  obtain ⟨sa, sb⟩ := hS
  go_simp
theorem ct1_4 (c bx K M n cp t : Nat) (p : Option Addr) (ev : Operand → Value) (z : World) (ec : ∀ c, ev (.const c) = c) (e10 : ev (.tmp 10) = .pointer (some ⟨c, 16, none⟩)) (hS : (loadVar 26 ⟨bx, 9, none⟩).run Tryd.prog z = .ok (.agg #[.int .i64 (K : Int), .int .i64 (M : Int)]) z ∧ z.cell? ⟨c, 16, none⟩ = some (.slice p n cp)) : (execOp ev ⟨some 11, Op.fieldAddr 102 (Operand.tmp 10) 0, 0, "", #[], none⟩).run Tryd.prog z = .ok (.value (.pointer (some ⟨c, 16, none⟩))) z := by
  obtain ⟨sa, sb⟩ := hS
  go_simp
theorem ct1_5 (c bx K M n cp t : Nat) (p : Option Addr) (ev : Operand → Value) (z : World) (ec : ∀ c, ev (.const c) = c) (e11 : ev (.tmp 11) = .pointer (some ⟨c, 16, none⟩)) (hS : (loadVar 26 ⟨bx, 9, none⟩).run Tryd.prog z = .ok (.agg #[.int .i64 (K : Int), .int .i64 (M : Int)]) z ∧ z.cell? ⟨c, 16, none⟩ = some (.slice p n cp)) : (execOp ev ⟨some 12, Op.load 22 (Operand.tmp 11), 22, "", #[], none⟩).run Tryd.prog z = .ok (.value (.slice p n cp)) z := by
  obtain ⟨sa, sb⟩ := hS
  go_simp
set_option maxRecDepth 100000 in
theorem ct1_6 (c bx K M n cp t : Nat) (p : Option Addr) (ev : Operand → Value) (z : World) (ec : ∀ c, ev (.const c) = c) (ef : ev (.func 101) = .func (.func 101) #[] #[]) (e8 : ev (.tmp 8) = .agg #[.int .i64 (K : Int), .int .i64 (M : Int)]) (e12 : ev (.tmp 12) = .slice p n cp) : (execOp ev ⟨some 13, Op.call { callee := Callee.value (Operand.func 101), args := #[Operand.tmp 8, Operand.tmp 12], argTypes := #[26, 22] }, 29, "", #[], none⟩).run Tryd.prog z = .ok (.enter 101 #[.agg #[.int .i64 (K : Int), .int .i64 (M : Int)], .slice p n cp]) z :=
  enter_run _ ef (by simp only [List.map_toArray, List.map_cons, List.map_nil, ec, e8, e12]) (fun _ => by rfl)
theorem ct1_7 (c bx K M n cp t : Nat) (p : Option Addr) (ev : Operand → Value) (z : World) (ec : ∀ c, ev (.const c) = c) (e13 : ev (.tmp 13) = .tuple #[.slice (some ⟨t, 0, none⟩) (K + M) (K + M), .int .i64 0]) (hS : (loadVar 26 ⟨bx, 9, none⟩).run Tryd.prog z = .ok (.agg #[.int .i64 (K : Int), .int .i64 (M : Int)]) z ∧ z.cell? ⟨c, 16, none⟩ = some (.slice p n cp)) : (execOp ev ⟨some 6, Op.move (Operand.tmp 13), 29, "", #[], none⟩).run Tryd.prog z = .ok (.value (.tuple #[.slice (some ⟨t, 0, none⟩) (K + M) (K + M), .int .i64 0])) z := by
  obtain ⟨sa, sb⟩ := hS
  go_simp
theorem ct1_8 (c bx K M n cp t : Nat) (p : Option Addr) (ev : Operand → Value) (z : World) (ec : ∀ c, ev (.const c) = c) (e6 : ev (.tmp 6) = .tuple #[.slice (some ⟨t, 0, none⟩) (K + M) (K + M), .int .i64 0]) (hS : (loadVar 26 ⟨bx, 9, none⟩).run Tryd.prog z = .ok (.agg #[.int .i64 (K : Int), .int .i64 (M : Int)]) z ∧ z.cell? ⟨c, 16, none⟩ = some (.slice p n cp)) : (execOp ev ⟨some 14, Op.extract (Operand.tmp 6) 0, 27, "", #[], none⟩).run Tryd.prog z = .ok (.value (.slice (some ⟨t, 0, none⟩) (K + M) (K + M))) z := by
  obtain ⟨sa, sb⟩ := hS
  go_simp
theorem ct1_9 (c bx K M n cp t : Nat) (p : Option Addr) (ev : Operand → Value) (z : World) (ec : ∀ c, ev (.const c) = c) (e6 : ev (.tmp 6) = .tuple #[.slice (some ⟨t, 0, none⟩) (K + M) (K + M), .int .i64 0]) (hS : (loadVar 26 ⟨bx, 9, none⟩).run Tryd.prog z = .ok (.agg #[.int .i64 (K : Int), .int .i64 (M : Int)]) z ∧ z.cell? ⟨c, 16, none⟩ = some (.slice p n cp)) : (execOp ev ⟨some 15, Op.extract (Operand.tmp 6) 1, 28, "", #[], none⟩).run Tryd.prog z = .ok (.value (.int .i64 0)) z := by
  obtain ⟨sa, sb⟩ := hS
  go_simp
theorem ct1_10 (c bx K M n cp t : Nat) (p : Option Addr) (ev : Operand → Value) (z : World) (ec : ∀ c, ev (.const c) = c) (e14 : ev (.tmp 14) = .slice (some ⟨t, 0, none⟩) (K + M) (K + M)) (hS : (loadVar 26 ⟨bx, 9, none⟩).run Tryd.prog z = .ok (.agg #[.int .i64 (K : Int), .int .i64 (M : Int)]) z ∧ z.cell? ⟨c, 16, none⟩ = some (.slice p n cp)) : (execOp ev ⟨some 4, Op.assign (Operand.tmp 14), 27, "", #[], none⟩).run Tryd.prog z = .ok (.value (.slice (some ⟨t, 0, none⟩) (K + M) (K + M))) z := by
  obtain ⟨sa, sb⟩ := hS
  go_simp
theorem ct1_11 (c bx K M n cp t : Nat) (p : Option Addr) (ev : Operand → Value) (z : World) (ec : ∀ c, ev (.const c) = c) (e15 : ev (.tmp 15) = .int .i64 0) (hS : (loadVar 26 ⟨bx, 9, none⟩).run Tryd.prog z = .ok (.agg #[.int .i64 (K : Int), .int .i64 (M : Int)]) z ∧ z.cell? ⟨c, 16, none⟩ = some (.slice p n cp)) : (execOp ev ⟨some 5, Op.assign (Operand.tmp 15), 28, "", #[], none⟩).run Tryd.prog z = .ok (.value (.int .i64 0)) z := by
  obtain ⟨sa, sb⟩ := hS
  go_simp
structure ct1R (ops : Array Oper) : Prop where
  size : ops.size = 12
  sel : Region.noSelect ops = true
  o0 : (ops[0]?).map bare = some ⟨some 7, Op.fieldAddr 42 (Operand.tmp 3) 9, 0, "", #[], none⟩
  o1 : (ops[1]?).map bare = some ⟨some 8, Op.load 26 (Operand.tmp 7), 26, "", #[], none⟩
  o2 : (ops[2]?).map bare = some ⟨some 9, Op.move (Operand.tmp 0), 154, "", #[], none⟩
  o3 : (ops[3]?).map bare = some ⟨some 10, Op.nilCheck (Operand.tmp 9), 0, "", #[], none⟩
  o4 : (ops[4]?).map bare = some ⟨some 11, Op.fieldAddr 102 (Operand.tmp 10) 0, 0, "", #[], none⟩
  o5 : (ops[5]?).map bare = some ⟨some 12, Op.load 22 (Operand.tmp 11), 22, "", #[], none⟩
  o6 : (ops[6]?).map bare = some ⟨some 13, Op.call { callee := Callee.value (Operand.func 101), args := #[Operand.tmp 8, Operand.tmp 12], argTypes := #[26, 22] }, 29, "", #[], none⟩
  o7 : (ops[7]?).map bare = some ⟨some 6, Op.move (Operand.tmp 13), 29, "", #[], none⟩
  o8 : (ops[8]?).map bare = some ⟨some 14, Op.extract (Operand.tmp 6) 0, 27, "", #[], none⟩
  o9 : (ops[9]?).map bare = some ⟨some 15, Op.extract (Operand.tmp 6) 1, 28, "", #[], none⟩
  o10 : (ops[10]?).map bare = some ⟨some 4, Op.assign (Operand.tmp 14), 27, "", #[], none⟩
  o11 : (ops[11]?).map bare = some ⟨some 5, Op.assign (Operand.tmp 15), 28, "", #[], none⟩
  may0 : takeB .any ops [0, 1, 2, 3, 4, 5] (Array.replicate 12 false) = true
  r6 : Region.ready .any ops (mark [0, 1, 2, 3, 4, 5] (Array.replicate 12 false)) = [6]
  may1 : takeB .any ops [7, 8, 9, 10, 11] ((mark [0, 1, 2, 3, 4, 5] (Array.replicate 12 false)).setIfInBounds 6 true) = true
  fin : Region.ready .any ops (mark [7, 8, 9, 10, 11] ((mark [0, 1, 2, 3, 4, 5] (Array.replicate 12 false)).setIfInBounds 6 true)) = []

set_option maxRecDepth 100000 in
set_option maxHeartbeats 3200000 in
theorem ct1_region {ops : Array Oper} {id : Nat} {Q : Exit → Act → World → Prop} {a : Act} {y : World} (R : ct1R ops) (c bx K M n cp t : Nat) (p : Option Addr)
    (hQ : ∀ d v c a w, Q (.panic c) (a.put d v) w → Q (.panic c) a w) (hsz : a.tmps.size = 28) (e0 : a.eval (.tmp 0) = .pointer (some ⟨c, 16, none⟩)) (e3 : a.eval (.tmp 3) = .pointer (some ⟨bx, 0, none⟩)) (hS0 : ((loadVar 26 ⟨bx, 9, none⟩).run Tryd.prog y.drew = .ok (.agg #[.int .i64 (K : Int), .int .i64 (M : Int)]) y.drew ∧ y.drew.cell? ⟨c, 16, none⟩ = some (.slice p n cp))) (T : Nat → World → Prop) (hc : Calls Tryd.prog 101 #[.agg #[.int .i64 (K : Int), .int .i64 (M : Int)], .slice p n cp] y.drew fun e w9 => ∃ t : Nat, e = .returned (.tuple #[.slice (some ⟨t, 0, none⟩) (K + M) (K + M), .int .i64 0]) ∧ ((loadVar 26 ⟨bx, 9, none⟩).run Tryd.prog w9 = .ok (.agg #[.int .i64 (K : Int), .int .i64 (M : Int)]) w9 ∧ w9.cell? ⟨c, 16, none⟩ = some (.slice p n cp)) ∧ T t w9)
    (hK : ∀ (t : Nat) (w9 : World), T t w9 → Q .normal ((((((((((((a.put (some 7) (.pointer (some ⟨bx, 9, none⟩))).put (some 8) (.agg #[.int .i64 (K : Int), .int .i64 (M : Int)])).put (some 9) (.pointer (some ⟨c, 16, none⟩))).put (some 10) (.pointer (some ⟨c, 16, none⟩))).put (some 11) (.pointer (some ⟨c, 16, none⟩))).put (some 12) (.slice p n cp)).put (some 13) (.tuple #[.slice (some ⟨t, 0, none⟩) (K + M) (K + M), .int .i64 0])).put (some 6) (.tuple #[.slice (some ⟨t, 0, none⟩) (K + M) (K + M), .int .i64 0])).put (some 14) (.slice (some ⟨t, 0, none⟩) (K + M) (K + M))).put (some 15) (.int .i64 0)).put (some 4) (.slice (some ⟨t, 0, none⟩) (K + M) (K + M))).put (some 5) (.int .i64 0)) w9) : (Code.region id ops true).wp Tryd.prog Q a y := by
  have HR : Hid (ct1R ops) := R
  have hdf : a.defers = a.defers := rfl
  refine wp_region_held_drew (S := (fun z : World => (loadVar 26 ⟨bx, 9, none⟩).run Tryd.prog z = .ok (.agg #[.int .i64 (K : Int), .int .i64 (M : Int)]) z ∧ z.cell? ⟨c, 16, none⟩ = some (.slice p n cp))) (by kernel_rfl) (hS0) (fun hHeld => ?_)
  rw [R.size]
  clear R
  refine wpAnyH_takes HR.out.sel hQ hHeld [0, 1, 2, 3, 4, 5] 6 _ _ HR.out.may0 ?_
  refine wpTake_stepE ⟨some 7, Op.fieldAddr 42 (Operand.tmp 3) 9, 0, "", #[], none⟩ 7 (.pointer (some ⟨bx, 9, none⟩)) HR.out.o0 rfl (by rw [hsz]; decide) (wanted_none rfl) (fun z hS => ct1_0 c bx K M n cp t p _ z (fun _ => rfl) e3 hS) ?_
  intro a1 ha1 s1 f1 n1 k1
  replace hsz := s1.trans hsz
  replace hdf := f1.trans hdf
  replace e0 := (k1 0 (by decide)).trans e0
  replace e3 := (k1 3 (by decide)).trans e3
  have e7 := n1
  clear s1 f1 n1 k1
  refine wpTake_stepE ⟨some 8, Op.load 26 (Operand.tmp 7), 26, "", #[], none⟩ 8 (.agg #[.int .i64 (K : Int), .int .i64 (M : Int)]) HR.out.o1 rfl (by rw [hsz]; decide) (wanted_none rfl) (fun z hS => ct1_1 c bx K M n cp t p _ z (fun _ => rfl) e7 hS) ?_
  intro a2 ha2 s1 f1 n1 k1
  replace hsz := s1.trans hsz
  replace hdf := f1.trans hdf
  replace e0 := (k1 0 (by decide)).trans e0
  replace e3 := (k1 3 (by decide)).trans e3
  have e8 := n1
  clear s1 f1 n1 k1
  refine wpTake_stepE ⟨some 9, Op.move (Operand.tmp 0), 154, "", #[], none⟩ 9 (.pointer (some ⟨c, 16, none⟩)) HR.out.o2 rfl (by rw [hsz]; decide) (wanted_none rfl) (fun z hS => ct1_2 c bx K M n cp t p _ z (fun _ => rfl) e0 hS) ?_
  intro a3 ha3 s1 f1 n1 k1
  replace hsz := s1.trans hsz
  replace hdf := f1.trans hdf
  replace e0 := (k1 0 (by decide)).trans e0
  replace e3 := (k1 3 (by decide)).trans e3
  replace e8 := (k1 8 (by decide)).trans e8
  have e9 := n1
  clear s1 f1 n1 k1
  refine wpTake_stepE ⟨some 10, Op.nilCheck (Operand.tmp 9), 0, "", #[], none⟩ 10 (.pointer (some ⟨c, 16, none⟩)) HR.out.o3 rfl (by rw [hsz]; decide) (wanted_none rfl) (fun z hS => ct1_3 c bx K M n cp t p _ z (fun _ => rfl) e9 hS) ?_
  intro a4 ha4 s1 f1 n1 k1
  replace hsz := s1.trans hsz
  replace hdf := f1.trans hdf
  replace e0 := (k1 0 (by decide)).trans e0
  replace e3 := (k1 3 (by decide)).trans e3
  replace e8 := (k1 8 (by decide)).trans e8
  have e10 := n1
  clear s1 f1 n1 k1
  refine wpTake_stepE ⟨some 11, Op.fieldAddr 102 (Operand.tmp 10) 0, 0, "", #[], none⟩ 11 (.pointer (some ⟨c, 16, none⟩)) HR.out.o4 rfl (by rw [hsz]; decide) (wanted_none rfl) (fun z hS => ct1_4 c bx K M n cp t p _ z (fun _ => rfl) e10 hS) ?_
  intro a5 ha5 s1 f1 n1 k1
  replace hsz := s1.trans hsz
  replace hdf := f1.trans hdf
  replace e0 := (k1 0 (by decide)).trans e0
  replace e3 := (k1 3 (by decide)).trans e3
  replace e8 := (k1 8 (by decide)).trans e8
  have e11 := n1
  clear s1 f1 n1 k1
  refine wpTake_stepE ⟨some 12, Op.load 22 (Operand.tmp 11), 22, "", #[], none⟩ 12 (.slice p n cp) HR.out.o5 rfl (by rw [hsz]; decide) (wanted_none rfl) (fun z hS => ct1_5 c bx K M n cp t p _ z (fun _ => rfl) e11 hS) ?_
  intro a6 ha6 s1 f1 n1 k1
  replace hsz := s1.trans hsz
  replace hdf := f1.trans hdf
  replace e0 := (k1 0 (by decide)).trans e0
  replace e3 := (k1 3 (by decide)).trans e3
  replace e8 := (k1 8 (by decide)).trans e8
  have e12 := n1
  clear s1 f1 n1 k1
  refine wpTake_nil ?_
  refine wpAnyH_one ⟨some 13, Op.call { callee := Callee.value (Operand.func 101), args := #[Operand.tmp 8, Operand.tmp 12], argTypes := #[26, 22] }, 29, "", #[], none⟩ HR.out.r6 HR.out.o6 rfl (fun K' hK' => ?_)
  refine wp_enter (ct1_6 c bx K M n cp t p _ _ (fun _ => rfl) rfl e8 e12) (hc) ?_
  rintro e9 w9 ⟨t, rfl, hS9, hT⟩
  refine ⟨_, rfl, hK'.out _ _ (hS9) ?_⟩
  replace hHeld := hS9
  clear hK' K'
  show wpAnyH _ _ _ _ _ _ _ (Act.put a6 (some 13) (.tuple #[.slice (some ⟨t, 0, none⟩) (K + M) (K + M), .int .i64 0])) _
  obtain ⟨s1, f1, n1, k1⟩ := act_put a6 13 (.tuple #[.slice (some ⟨t, 0, none⟩) (K + M) (K + M), .int .i64 0]) (show 13 < _ by rw [hsz]; decide)
  obtain ⟨a7, ha7⟩ : ∃ x, x = Act.put a6 (some 13) (.tuple #[.slice (some ⟨t, 0, none⟩) (K + M) (K + M), .int .i64 0]) := ⟨_, rfl⟩
  rw [← ha7] at s1 f1 n1 k1 ⊢
  replace hsz := s1.trans hsz
  replace hdf := f1.trans hdf
  replace e0 := (k1 0 (by decide)).trans e0
  replace e3 := (k1 3 (by decide)).trans e3
  have e13 := n1
  clear s1 f1 n1 k1
  refine wpAnyH_takes HR.out.sel hQ hHeld [7, 8, 9, 10, 11] 0 _ _ HR.out.may1 ?_
  refine wpTake_stepE ⟨some 6, Op.move (Operand.tmp 13), 29, "", #[], none⟩ 6 (.tuple #[.slice (some ⟨t, 0, none⟩) (K + M) (K + M), .int .i64 0]) HR.out.o7 rfl (by rw [hsz]; decide) (wanted_none rfl) (fun z hS => ct1_7 c bx K M n cp t p _ z (fun _ => rfl) e13 hS) ?_
  intro a8 ha8 s1 f1 n1 k1
  replace hsz := s1.trans hsz
  replace hdf := f1.trans hdf
  replace e0 := (k1 0 (by decide)).trans e0
  replace e3 := (k1 3 (by decide)).trans e3
  have e6 := n1
  clear s1 f1 n1 k1
  refine wpTake_stepE ⟨some 14, Op.extract (Operand.tmp 6) 0, 27, "", #[], none⟩ 14 (.slice (some ⟨t, 0, none⟩) (K + M) (K + M)) HR.out.o8 rfl (by rw [hsz]; decide) (wanted_none rfl) (fun z hS => ct1_8 c bx K M n cp t p _ z (fun _ => rfl) e6 hS) ?_
  intro a9 ha9 s1 f1 n1 k1
  replace hsz := s1.trans hsz
  replace hdf := f1.trans hdf
  replace e0 := (k1 0 (by decide)).trans e0
  replace e3 := (k1 3 (by decide)).trans e3
  replace e6 := (k1 6 (by decide)).trans e6
  have e14 := n1
  clear s1 f1 n1 k1
  refine wpTake_stepE ⟨some 15, Op.extract (Operand.tmp 6) 1, 28, "", #[], none⟩ 15 (.int .i64 0) HR.out.o9 rfl (by rw [hsz]; decide) (wanted_none rfl) (fun z hS => ct1_9 c bx K M n cp t p _ z (fun _ => rfl) e6 hS) ?_
  intro a10 ha10 s1 f1 n1 k1
  replace hsz := s1.trans hsz
  replace hdf := f1.trans hdf
  replace e0 := (k1 0 (by decide)).trans e0
  replace e3 := (k1 3 (by decide)).trans e3
  replace e14 := (k1 14 (by decide)).trans e14
  have e15 := n1
  clear s1 f1 n1 k1
  refine wpTake_stepE ⟨some 4, Op.assign (Operand.tmp 14), 27, "", #[], none⟩ 4 (.slice (some ⟨t, 0, none⟩) (K + M) (K + M)) HR.out.o10 rfl (by rw [hsz]; decide) (wanted_none rfl) (fun z hS => ct1_10 c bx K M n cp t p _ z (fun _ => rfl) e14 hS) ?_
  intro a11 ha11 s1 f1 n1 k1
  replace hsz := s1.trans hsz
  replace hdf := f1.trans hdf
  replace e0 := (k1 0 (by decide)).trans e0
  replace e3 := (k1 3 (by decide)).trans e3
  replace e15 := (k1 15 (by decide)).trans e15
  have e4 := n1
  clear s1 f1 n1 k1
  refine wpTake_stepE ⟨some 5, Op.assign (Operand.tmp 15), 28, "", #[], none⟩ 5 (.int .i64 0) HR.out.o11 rfl (by rw [hsz]; decide) (wanted_none rfl) (fun z hS => ct1_11 c bx K M n cp t p _ z (fun _ => rfl) e15 hS) ?_
  intro a12 ha12 s1 f1 n1 k1
  replace hsz := s1.trans hsz
  replace hdf := f1.trans hdf
  replace e0 := (k1 0 (by decide)).trans e0
  replace e3 := (k1 3 (by decide)).trans e3
  replace e4 := (k1 4 (by decide)).trans e4
  clear s1 f1 n1 k1
  refine wpTake_nil ?_
  refine wpAnyH_done HR.out.fin ?_ _
  rw [ha12, ha11, ha10, ha9, ha8, ha7, ha6, ha5, ha4, ha3, ha2, ha1]
  exact hK _ _ hT
-- ct1: ⟨by kernel_rfl, by kernel_rfl, by kernel_rfl, by kernel_rfl, by kernel_rfl, by kernel_rfl, by kernel_rfl, by kernel_rfl, by kernel_rfl, by kernel_rfl, by kernel_rfl, by kernel_rfl, by kernel_rfl, by kernel_rfl, by kernel_rfl, by kernel_rfl, by kernel_rfl, by kernel_rfl⟩

theorem on1_0 (c bx sp : Nat) (mv : Array Value) (b : Bool) (ev : Operand → Value) (z : World) (ec : ∀ c, ev (.const c) = c) (e0 : ev (.tmp 0) = .pointer (some ⟨c, 0, none⟩)) (hS : z.cell? ⟨c, 17, none⟩ = some (.pointer (some ⟨sp, 0, none⟩)) ∧ (loadVar 45 ⟨bx, 0, none⟩).run Tryd.prog z = .ok (.agg mv) z) : (execOp ev ⟨some 5, Op.move (Operand.tmp 0), 83, "", #[], none⟩).run Tryd.prog z = .ok (.value (.pointer (some ⟨c, 0, none⟩))) z := by
  obtain ⟨sa, sb⟩ := hS
  go_simp
theorem on1_1 (c bx sp : Nat) (mv : Array Value) (b : Bool) (ev : Operand → Value) (z : World) (ec : ∀ c, ev (.const c) = c) (e5 : ev (.tmp 5) = .pointer (some ⟨c, 0, none⟩)) (hS : z.cell? ⟨c, 17, none⟩ = some (.pointer (some ⟨sp, 0, none⟩)) ∧ (loadVar 45 ⟨bx, 0, none⟩).run Tryd.prog z = .ok (.agg mv) z) : (execOp ev ⟨some 6, Op.nilCheck (Operand.tmp 5), 0, "", #[], none⟩).run Tryd.prog z = .ok (.value (.pointer (some ⟨c, 0, none⟩))) z := by
  obtain ⟨sa, sb⟩ := hS
  go_simp
theorem on1_2 (c bx sp : Nat) (mv : Array Value) (b : Bool) (ev : Operand → Value) (z : World) (ec : ∀ c, ev (.const c) = c) (e6 : ev (.tmp 6) = .pointer (some ⟨c, 0, none⟩)) (hS : z.cell? ⟨c, 17, none⟩ = some (.pointer (some ⟨sp, 0, none⟩)) ∧ (loadVar 45 ⟨bx, 0, none⟩).run Tryd.prog z = .ok (.agg mv) z) : (execOp ev ⟨some 7, Op.fieldAddr 106 (Operand.tmp 6) 5, 0, "", #[], none⟩).run Tryd.prog z = .ok (.value (.pointer (some ⟨c, 16, none⟩))) z := by
  obtain ⟨sa, sb⟩ := hS
  go_simp
theorem on1_3 (c bx sp : Nat) (mv : Array Value) (b : Bool) (ev : Operand → Value) (z : World) (ec : ∀ c, ev (.const c) = c) (e7 : ev (.tmp 7) = .pointer (some ⟨c, 16, none⟩)) (hS : z.cell? ⟨c, 17, none⟩ = some (.pointer (some ⟨sp, 0, none⟩)) ∧ (loadVar 45 ⟨bx, 0, none⟩).run Tryd.prog z = .ok (.agg mv) z) : (execOp ev ⟨some 8, Op.fieldAddr 102 (Operand.tmp 7) 1, 0, "", #[], none⟩).run Tryd.prog z = .ok (.value (.pointer (some ⟨c, 17, none⟩))) z := by
  obtain ⟨sa, sb⟩ := hS
  go_simp
theorem on1_4 (c bx sp : Nat) (mv : Array Value) (b : Bool) (ev : Operand → Value) (z : World) (ec : ∀ c, ev (.const c) = c) (e8 : ev (.tmp 8) = .pointer (some ⟨c, 17, none⟩)) (hS : z.cell? ⟨c, 17, none⟩ = some (.pointer (some ⟨sp, 0, none⟩)) ∧ (loadVar 45 ⟨bx, 0, none⟩).run Tryd.prog z = .ok (.agg mv) z) : (execOp ev ⟨some 9, Op.load 73 (Operand.tmp 8), 73, "", #[], none⟩).run Tryd.prog z = .ok (.value (.pointer (some ⟨sp, 0, none⟩))) z := by
  obtain ⟨sa, sb⟩ := hS
  go_simp
theorem on1_5 (c bx sp : Nat) (mv : Array Value) (b : Bool) (ev : Operand → Value) (z : World) (ec : ∀ c, ev (.const c) = c) (e3 : ev (.tmp 3) = .pointer (some ⟨bx, 0, none⟩)) (hS : z.cell? ⟨c, 17, none⟩ = some (.pointer (some ⟨sp, 0, none⟩)) ∧ (loadVar 45 ⟨bx, 0, none⟩).run Tryd.prog z = .ok (.agg mv) z) : (execOp ev ⟨some 10, Op.load 45 (Operand.tmp 3), 45, "", #[], none⟩).run Tryd.prog z = .ok (.value (.agg mv)) z := by
  exact exec_ldC e3 hS.2
set_option maxRecDepth 100000 in
theorem on1_6 (c bx sp : Nat) (mv : Array Value) (b : Bool) (ev : Operand → Value) (z : World) (ec : ∀ c, ev (.const c) = c) (ef : ev (.func 103) = .func (.func 103) #[] #[]) (e9 : ev (.tmp 9) = .pointer (some ⟨sp, 0, none⟩)) (e10 : ev (.tmp 10) = .agg mv) : (execOp ev ⟨some 11, Op.call { callee := Callee.value (Operand.func 103), args := #[Operand.tmp 9, Operand.tmp 10], argTypes := #[73, 45] }, 4, "", #[], none⟩).run Tryd.prog z = .ok (.enter 103 #[.pointer (some ⟨sp, 0, none⟩), .agg mv]) z :=
  enter_run _ ef (by simp only [List.map_toArray, List.map_cons, List.map_nil, ec, e9, e10]) (fun _ => by rfl)
structure on1R (ops : Array Oper) : Prop where
  size : ops.size = 7
  sel : Region.noSelect ops = true
  o0 : (ops[0]?).map bare = some ⟨some 5, Op.move (Operand.tmp 0), 83, "", #[], none⟩
  o1 : (ops[1]?).map bare = some ⟨some 6, Op.nilCheck (Operand.tmp 5), 0, "", #[], none⟩
  o2 : (ops[2]?).map bare = some ⟨some 7, Op.fieldAddr 106 (Operand.tmp 6) 5, 0, "", #[], none⟩
  o3 : (ops[3]?).map bare = some ⟨some 8, Op.fieldAddr 102 (Operand.tmp 7) 1, 0, "", #[], none⟩
  o4 : (ops[4]?).map bare = some ⟨some 9, Op.load 73 (Operand.tmp 8), 73, "", #[], none⟩
  o5 : (ops[5]?).map bare = some ⟨some 10, Op.load 45 (Operand.tmp 3), 45, "", #[], none⟩
  o6 : (ops[6]?).map bare = some ⟨some 11, Op.call { callee := Callee.value (Operand.func 103), args := #[Operand.tmp 9, Operand.tmp 10], argTypes := #[73, 45] }, 4, "", #[], none⟩
  may0 : takeB .any ops [0, 1, 2, 3, 4, 5] (Array.replicate 7 false) = true
  r6 : Region.ready .any ops (mark [0, 1, 2, 3, 4, 5] (Array.replicate 7 false)) = [6]
  fin : Region.ready .any ops ((mark [0, 1, 2, 3, 4, 5] (Array.replicate 7 false)).setIfInBounds 6 true) = []

set_option maxRecDepth 100000 in
set_option maxHeartbeats 3200000 in
theorem on1_region {ops : Array Oper} {id : Nat} {Q : Exit → Act → World → Prop} {a : Act} {y : World} (R : on1R ops) (c bx sp : Nat) (mv : Array Value) (b : Bool)
    (hQ : ∀ d v c a w, Q (.panic c) (a.put d v) w → Q (.panic c) a w) (hsz : a.tmps.size = 21) (e0 : a.eval (.tmp 0) = .pointer (some ⟨c, 0, none⟩)) (e3 : a.eval (.tmp 3) = .pointer (some ⟨bx, 0, none⟩)) (hS0 : (y.drew.cell? ⟨c, 17, none⟩ = some (.pointer (some ⟨sp, 0, none⟩)) ∧ (loadVar 45 ⟨bx, 0, none⟩).run Tryd.prog y.drew = .ok (.agg mv) y.drew)) (T : World → Prop) (hc : Calls Tryd.prog 103 #[.pointer (some ⟨sp, 0, none⟩), .agg mv] y.drew fun e w9 => e = .returned (.bool b) ∧ (w9.cell? ⟨c, 17, none⟩ = some (.pointer (some ⟨sp, 0, none⟩)) ∧ (loadVar 45 ⟨bx, 0, none⟩).run Tryd.prog w9 = .ok (.agg mv) w9) ∧ T w9)
    (hK : ∀ (w9 : World), T w9 → Q .normal (((((((a.put (some 5) (.pointer (some ⟨c, 0, none⟩))).put (some 6) (.pointer (some ⟨c, 0, none⟩))).put (some 7) (.pointer (some ⟨c, 16, none⟩))).put (some 8) (.pointer (some ⟨c, 17, none⟩))).put (some 9) (.pointer (some ⟨sp, 0, none⟩))).put (some 10) (.agg mv)).put (some 11) (.bool b)) w9) : (Code.region id ops true).wp Tryd.prog Q a y := by
  have HR : Hid (on1R ops) := R
  have hdf : a.defers = a.defers := rfl
  refine wp_region_held_drew (S := (fun z : World => z.cell? ⟨c, 17, none⟩ = some (.pointer (some ⟨sp, 0, none⟩)) ∧ (loadVar 45 ⟨bx, 0, none⟩).run Tryd.prog z = .ok (.agg mv) z)) (by kernel_rfl) (hS0) (fun hHeld => ?_)
  rw [R.size]
  clear R
  refine wpAnyH_takes HR.out.sel hQ hHeld [0, 1, 2, 3, 4, 5] 1 _ _ HR.out.may0 ?_
  refine wpTake_stepE ⟨some 5, Op.move (Operand.tmp 0), 83, "", #[], none⟩ 5 (.pointer (some ⟨c, 0, none⟩)) HR.out.o0 rfl (by rw [hsz]; decide) (wanted_none rfl) (fun z hS => on1_0 c bx sp mv b _ z (fun _ => rfl) e0 hS) ?_
  intro a1 ha1 s1 f1 n1 k1
  replace hsz := s1.trans hsz
  replace hdf := f1.trans hdf
  replace e0 := (k1 0 (by decide)).trans e0
  replace e3 := (k1 3 (by decide)).trans e3
  have e5 := n1
  clear s1 f1 n1 k1
  refine wpTake_stepE ⟨some 6, Op.nilCheck (Operand.tmp 5), 0, "", #[], none⟩ 6 (.pointer (some ⟨c, 0, none⟩)) HR.out.o1 rfl (by rw [hsz]; decide) (wanted_none rfl) (fun z hS => on1_1 c bx sp mv b _ z (fun _ => rfl) e5 hS) ?_
  intro a2 ha2 s1 f1 n1 k1
  replace hsz := s1.trans hsz
  replace hdf := f1.trans hdf
  replace e0 := (k1 0 (by decide)).trans e0
  replace e3 := (k1 3 (by decide)).trans e3
  have e6 := n1
  clear s1 f1 n1 k1
  refine wpTake_stepE ⟨some 7, Op.fieldAddr 106 (Operand.tmp 6) 5, 0, "", #[], none⟩ 7 (.pointer (some ⟨c, 16, none⟩)) HR.out.o2 rfl (by rw [hsz]; decide) (wanted_none rfl) (fun z hS => on1_2 c bx sp mv b _ z (fun _ => rfl) e6 hS) ?_
  intro a3 ha3 s1 f1 n1 k1
  replace hsz := s1.trans hsz
  replace hdf := f1.trans hdf
  replace e0 := (k1 0 (by decide)).trans e0
  replace e3 := (k1 3 (by decide)).trans e3
  have e7 := n1
  clear s1 f1 n1 k1
  refine wpTake_stepE ⟨some 8, Op.fieldAddr 102 (Operand.tmp 7) 1, 0, "", #[], none⟩ 8 (.pointer (some ⟨c, 17, none⟩)) HR.out.o3 rfl (by rw [hsz]; decide) (wanted_none rfl) (fun z hS => on1_3 c bx sp mv b _ z (fun _ => rfl) e7 hS) ?_
  intro a4 ha4 s1 f1 n1 k1
  replace hsz := s1.trans hsz
  replace hdf := f1.trans hdf
  replace e0 := (k1 0 (by decide)).trans e0
  replace e3 := (k1 3 (by decide)).trans e3
  have e8 := n1
  clear s1 f1 n1 k1
  refine wpTake_stepE ⟨some 9, Op.load 73 (Operand.tmp 8), 73, "", #[], none⟩ 9 (.pointer (some ⟨sp, 0, none⟩)) HR.out.o4 rfl (by rw [hsz]; decide) (wanted_none rfl) (fun z hS => on1_4 c bx sp mv b _ z (fun _ => rfl) e8 hS) ?_
  intro a5 ha5 s1 f1 n1 k1
  replace hsz := s1.trans hsz
  replace hdf := f1.trans hdf
  replace e0 := (k1 0 (by decide)).trans e0
  replace e3 := (k1 3 (by decide)).trans e3
  have e9 := n1
  clear s1 f1 n1 k1
  refine wpTake_stepE ⟨some 10, Op.load 45 (Operand.tmp 3), 45, "", #[], none⟩ 10 (.agg mv) HR.out.o5 rfl (by rw [hsz]; decide) (wanted_none rfl) (fun z hS => on1_5 c bx sp mv b _ z (fun _ => rfl) e3 hS) ?_
  intro a6 ha6 s1 f1 n1 k1
  replace hsz := s1.trans hsz
  replace hdf := f1.trans hdf
  replace e0 := (k1 0 (by decide)).trans e0
  replace e3 := (k1 3 (by decide)).trans e3
  replace e9 := (k1 9 (by decide)).trans e9
  have e10 := n1
  clear s1 f1 n1 k1
  refine wpTake_nil ?_
  refine wpAnyH_one ⟨some 11, Op.call { callee := Callee.value (Operand.func 103), args := #[Operand.tmp 9, Operand.tmp 10], argTypes := #[73, 45] }, 4, "", #[], none⟩ HR.out.r6 HR.out.o6 rfl (fun K' hK' => ?_)
  refine wp_enter (on1_6 c bx sp mv b _ _ (fun _ => rfl) rfl e9 e10) (hc) ?_
  rintro e9 w9 ⟨rfl, hS9, hT⟩
  refine ⟨_, rfl, hK'.out _ _ (hS9) ?_⟩
  replace hHeld := hS9
  clear hK' K'
  show wpAnyH _ _ _ _ _ _ _ (Act.put a6 (some 11) (.bool b)) _
  obtain ⟨s1, f1, n1, k1⟩ := act_put a6 11 (.bool b) (show 11 < _ by rw [hsz]; decide)
  obtain ⟨a7, ha7⟩ : ∃ x, x = Act.put a6 (some 11) (.bool b) := ⟨_, rfl⟩
  rw [← ha7] at s1 f1 n1 k1 ⊢
  replace hsz := s1.trans hsz
  replace hdf := f1.trans hdf
  replace e0 := (k1 0 (by decide)).trans e0
  replace e3 := (k1 3 (by decide)).trans e3
  clear s1 f1 n1 k1
  refine wpAnyH_done HR.out.fin ?_ _
  rw [ha7, ha6, ha5, ha4, ha3, ha2, ha1]
  exact hK _ hT
-- on1: ⟨by kernel_rfl, by kernel_rfl, by kernel_rfl, by kernel_rfl, by kernel_rfl, by kernel_rfl, by kernel_rfl, by kernel_rfl, by kernel_rfl, by kernel_rfl, by kernel_rfl, by kernel_rfl⟩

theorem wt1_0 (sp bx t i G gc ln lc : Nat) (bp : Option Addr) (bl : Int) (nv : Value) (mv : Array Value) (ev : Operand → Value) (z : World) (ec : ∀ c, ev (.const c) = c) (e3 : ev (.tmp 3) = .pointer (some ⟨bx, 0, none⟩)) (hS : z.cell? ⟨bx, 0, none⟩ = some (.int .i64 11) ∧ z.cell? ⟨bx, 6, none⟩ = some (.int .i64 (i : Int)) ∧ (loadVar 45 ⟨bx, 0, none⟩).run Tryd.prog z = .ok (.agg mv) z ∧ z.cell? ⟨sp, 0, none⟩ = some (.int .i64 bl) ∧ z.cell? ⟨sp, 1, none⟩ = some nv ∧ z.cell? ⟨sp, 2, none⟩ = some (.slice (some ⟨t, 0, none⟩) G gc) ∧ z.cell? ⟨t, i, none⟩ = some (.slice bp ln lc) ∧ (i : Int) < (G : Int) ∧ (0 : Int) < (ln : Int)) : (execOp ev ⟨some 5, Op.fieldAddr 45 (Operand.tmp 3) 0, 0, "", #[], none⟩).run Tryd.prog z = .ok (.value (.pointer (some ⟨bx, 0, none⟩))) z := by
  obtain ⟨sa, sb, sc, sd, se, sf, sg, sh, si⟩ := hS
  go_simp
theorem wt1_1 (sp bx t i G gc ln lc : Nat) (bp : Option Addr) (bl : Int) (nv : Value) (mv : Array Value) (ev : Operand → Value) (z : World) (ec : ∀ c, ev (.const c) = c) (e5 : ev (.tmp 5) = .pointer (some ⟨bx, 0, none⟩)) (hS : z.cell? ⟨bx, 0, none⟩ = some (.int .i64 11) ∧ z.cell? ⟨bx, 6, none⟩ = some (.int .i64 (i : Int)) ∧ (loadVar 45 ⟨bx, 0, none⟩).run Tryd.prog z = .ok (.agg mv) z ∧ z.cell? ⟨sp, 0, none⟩ = some (.int .i64 bl) ∧ z.cell? ⟨sp, 1, none⟩ = some nv ∧ z.cell? ⟨sp, 2, none⟩ = some (.slice (some ⟨t, 0, none⟩) G gc) ∧ z.cell? ⟨t, i, none⟩ = some (.slice bp ln lc) ∧ (i : Int) < (G : Int) ∧ (0 : Int) < (ln : Int)) : (execOp ev ⟨some 6, Op.load 3 (Operand.tmp 5), 3, "", #[], none⟩).run Tryd.prog z = .ok (.value (.int .i64 11)) z := by
  obtain ⟨sa, sb, sc, sd, se, sf, sg, sh, si⟩ := hS
  go_simp
theorem wt1_2 (sp bx t i G gc ln lc : Nat) (bp : Option Addr) (bl : Int) (nv : Value) (mv : Array Value) (ev : Operand → Value) (z : World) (ec : ∀ c, ev (.const c) = c) (e6 : ev (.tmp 6) = .int .i64 11) (hS : z.cell? ⟨bx, 0, none⟩ = some (.int .i64 11) ∧ z.cell? ⟨bx, 6, none⟩ = some (.int .i64 (i : Int)) ∧ (loadVar 45 ⟨bx, 0, none⟩).run Tryd.prog z = .ok (.agg mv) z ∧ z.cell? ⟨sp, 0, none⟩ = some (.int .i64 bl) ∧ z.cell? ⟨sp, 1, none⟩ = some nv ∧ z.cell? ⟨sp, 2, none⟩ = some (.slice (some ⟨t, 0, none⟩) G gc) ∧ z.cell? ⟨t, i, none⟩ = some (.slice bp ln lc) ∧ (i : Int) < (G : Int) ∧ (0 : Int) < (ln : Int)) : (execOp ev ⟨some 7, Op.binOp BinOp.eql 3 (Operand.tmp 6) (Operand.const (Value.int IntKind.i64 11)) 3, 4, "", #[], none⟩).run Tryd.prog z = .ok (.value (.bool true)) z := by
  obtain ⟨sa, sb, sc, sd, se, sf, sg, sh, si⟩ := hS
  go_simp
theorem wt1_3 (sp bx t i G gc ln lc : Nat) (bp : Option Addr) (bl : Int) (nv : Value) (mv : Array Value) (ev : Operand → Value) (z : World) (ec : ∀ c, ev (.const c) = c) (e7 : ev (.tmp 7) = .bool true) (hS : z.cell? ⟨bx, 0, none⟩ = some (.int .i64 11) ∧ z.cell? ⟨bx, 6, none⟩ = some (.int .i64 (i : Int)) ∧ (loadVar 45 ⟨bx, 0, none⟩).run Tryd.prog z = .ok (.agg mv) z ∧ z.cell? ⟨sp, 0, none⟩ = some (.int .i64 bl) ∧ z.cell? ⟨sp, 1, none⟩ = some nv ∧ z.cell? ⟨sp, 2, none⟩ = some (.slice (some ⟨t, 0, none⟩) G gc) ∧ z.cell? ⟨t, i, none⟩ = some (.slice bp ln lc) ∧ (i : Int) < (G : Int) ∧ (0 : Int) < (ln : Int)) : (execOp ev ⟨some 8, Op.move (Operand.tmp 7), 4, "", #[], none⟩).run Tryd.prog z = .ok (.value (.bool true)) z := by
  obtain ⟨sa, sb, sc, sd, se, sf, sg, sh, si⟩ := hS
  go_simp
theorem wt1_4 (sp bx t i G gc ln lc : Nat) (bp : Option Addr) (bl : Int) (nv : Value) (mv : Array Value) (ev : Operand → Value) (z : World) (ec : ∀ c, ev (.const c) = c) (e3 : ev (.tmp 3) = .pointer (some ⟨bx, 0, none⟩)) (hS : z.cell? ⟨bx, 0, none⟩ = some (.int .i64 11) ∧ z.cell? ⟨bx, 6, none⟩ = some (.int .i64 (i : Int)) ∧ (loadVar 45 ⟨bx, 0, none⟩).run Tryd.prog z = .ok (.agg mv) z ∧ z.cell? ⟨sp, 0, none⟩ = some (.int .i64 bl) ∧ z.cell? ⟨sp, 1, none⟩ = some nv ∧ z.cell? ⟨sp, 2, none⟩ = some (.slice (some ⟨t, 0, none⟩) G gc) ∧ z.cell? ⟨t, i, none⟩ = some (.slice bp ln lc) ∧ (i : Int) < (G : Int) ∧ (0 : Int) < (ln : Int)) : (execOp ev ⟨some 9, Op.load 45 (Operand.tmp 3), 45, "", #[], some (3, true)⟩).run Tryd.prog z = .ok (.value (.agg mv)) z := by
  exact exec_ldC e3 hS.2.2.1
theorem wt1_5 (sp bx t i G gc ln lc : Nat) (bp : Option Addr) (bl : Int) (nv : Value) (mv : Array Value) (ev : Operand → Value) (z : World) (ec : ∀ c, ev (.const c) = c) (e0 : ev (.tmp 0) = .pointer (some ⟨sp, 0, none⟩)) (hS : z.cell? ⟨bx, 0, none⟩ = some (.int .i64 11) ∧ z.cell? ⟨bx, 6, none⟩ = some (.int .i64 (i : Int)) ∧ (loadVar 45 ⟨bx, 0, none⟩).run Tryd.prog z = .ok (.agg mv) z ∧ z.cell? ⟨sp, 0, none⟩ = some (.int .i64 bl) ∧ z.cell? ⟨sp, 1, none⟩ = some nv ∧ z.cell? ⟨sp, 2, none⟩ = some (.slice (some ⟨t, 0, none⟩) G gc) ∧ z.cell? ⟨t, i, none⟩ = some (.slice bp ln lc) ∧ (i : Int) < (G : Int) ∧ (0 : Int) < (ln : Int)) : (execOp ev ⟨some 10, Op.move (Operand.tmp 0), 73, "", #[], some (3, true)⟩).run Tryd.prog z = .ok (.value (.pointer (some ⟨sp, 0, none⟩))) z := by
  obtain ⟨sa, sb, sc, sd, se, sf, sg, sh, si⟩ := hS
  go_simp
theorem wt1_6 (sp bx t i G gc ln lc : Nat) (bp : Option Addr) (bl : Int) (nv : Value) (mv : Array Value) (ev : Operand → Value) (z : World) (ec : ∀ c, ev (.const c) = c) (e10 : ev (.tmp 10) = .pointer (some ⟨sp, 0, none⟩)) (hS : z.cell? ⟨bx, 0, none⟩ = some (.int .i64 11) ∧ z.cell? ⟨bx, 6, none⟩ = some (.int .i64 (i : Int)) ∧ (loadVar 45 ⟨bx, 0, none⟩).run Tryd.prog z = .ok (.agg mv) z ∧ z.cell? ⟨sp, 0, none⟩ = some (.int .i64 bl) ∧ z.cell? ⟨sp, 1, none⟩ = some nv ∧ z.cell? ⟨sp, 2, none⟩ = some (.slice (some ⟨t, 0, none⟩) G gc) ∧ z.cell? ⟨t, i, none⟩ = some (.slice bp ln lc) ∧ (i : Int) < (G : Int) ∧ (0 : Int) < (ln : Int)) : (execOp ev ⟨some 11, Op.nilCheck (Operand.tmp 10), 0, "", #[], some (3, true)⟩).run Tryd.prog z = .ok (.value (.pointer (some ⟨sp, 0, none⟩))) z := by
  obtain ⟨sa, sb, sc, sd, se, sf, sg, sh, si⟩ := hS
  go_simp
theorem wt1_7 (sp bx t i G gc ln lc : Nat) (bp : Option Addr) (bl : Int) (nv : Value) (mv : Array Value) (ev : Operand → Value) (z : World) (ec : ∀ c, ev (.const c) = c) (e11 : ev (.tmp 11) = .pointer (some ⟨sp, 0, none⟩)) (hS : z.cell? ⟨bx, 0, none⟩ = some (.int .i64 11) ∧ z.cell? ⟨bx, 6, none⟩ = some (.int .i64 (i : Int)) ∧ (loadVar 45 ⟨bx, 0, none⟩).run Tryd.prog z = .ok (.agg mv) z ∧ z.cell? ⟨sp, 0, none⟩ = some (.int .i64 bl) ∧ z.cell? ⟨sp, 1, none⟩ = some nv ∧ z.cell? ⟨sp, 2, none⟩ = some (.slice (some ⟨t, 0, none⟩) G gc) ∧ z.cell? ⟨t, i, none⟩ = some (.slice bp ln lc) ∧ (i : Int) < (G : Int) ∧ (0 : Int) < (ln : Int)) : (execOp ev ⟨some 12, Op.fieldAddr 150 (Operand.tmp 11) 0, 0, "", #[], some (3, true)⟩).run Tryd.prog z = .ok (.value (.pointer (some ⟨sp, 0, none⟩))) z := by
  obtain ⟨sa, sb, sc, sd, se, sf, sg, sh, si⟩ := hS
  go_simp
theorem wt1_8 (sp bx t i G gc ln lc : Nat) (bp : Option Addr) (bl : Int) (nv : Value) (mv : Array Value) (ev : Operand → Value) (z : World) (ec : ∀ c, ev (.const c) = c) (e12 : ev (.tmp 12) = .pointer (some ⟨sp, 0, none⟩)) (hS : z.cell? ⟨bx, 0, none⟩ = some (.int .i64 11) ∧ z.cell? ⟨bx, 6, none⟩ = some (.int .i64 (i : Int)) ∧ (loadVar 45 ⟨bx, 0, none⟩).run Tryd.prog z = .ok (.agg mv) z ∧ z.cell? ⟨sp, 0, none⟩ = some (.int .i64 bl) ∧ z.cell? ⟨sp, 1, none⟩ = some nv ∧ z.cell? ⟨sp, 2, none⟩ = some (.slice (some ⟨t, 0, none⟩) G gc) ∧ z.cell? ⟨t, i, none⟩ = some (.slice bp ln lc) ∧ (i : Int) < (G : Int) ∧ (0 : Int) < (ln : Int)) : (execOp ev ⟨some 13, Op.load 3 (Operand.tmp 12), 3, "", #[], some (3, true)⟩).run Tryd.prog z = .ok (.value (.int .i64 bl)) z := by
  obtain ⟨sa, sb, sc, sd, se, sf, sg, sh, si⟩ := hS
  go_simp
theorem wt1_9 (sp bx t i G gc ln lc : Nat) (bp : Option Addr) (bl : Int) (nv : Value) (mv : Array Value) (ev : Operand → Value) (z : World) (ec : ∀ c, ev (.const c) = c) (e0 : ev (.tmp 0) = .pointer (some ⟨sp, 0, none⟩)) (hS : z.cell? ⟨bx, 0, none⟩ = some (.int .i64 11) ∧ z.cell? ⟨bx, 6, none⟩ = some (.int .i64 (i : Int)) ∧ (loadVar 45 ⟨bx, 0, none⟩).run Tryd.prog z = .ok (.agg mv) z ∧ z.cell? ⟨sp, 0, none⟩ = some (.int .i64 bl) ∧ z.cell? ⟨sp, 1, none⟩ = some nv ∧ z.cell? ⟨sp, 2, none⟩ = some (.slice (some ⟨t, 0, none⟩) G gc) ∧ z.cell? ⟨t, i, none⟩ = some (.slice bp ln lc) ∧ (i : Int) < (G : Int) ∧ (0 : Int) < (ln : Int)) : (execOp ev ⟨some 14, Op.move (Operand.tmp 0), 73, "", #[], some (3, true)⟩).run Tryd.prog z = .ok (.value (.pointer (some ⟨sp, 0, none⟩))) z := by
  obtain ⟨sa, sb, sc, sd, se, sf, sg, sh, si⟩ := hS
  go_simp
theorem wt1_10 (sp bx t i G gc ln lc : Nat) (bp : Option Addr) (bl : Int) (nv : Value) (mv : Array Value) (ev : Operand → Value) (z : World) (ec : ∀ c, ev (.const c) = c) (e14 : ev (.tmp 14) = .pointer (some ⟨sp, 0, none⟩)) (hS : z.cell? ⟨bx, 0, none⟩ = some (.int .i64 11) ∧ z.cell? ⟨bx, 6, none⟩ = some (.int .i64 (i : Int)) ∧ (loadVar 45 ⟨bx, 0, none⟩).run Tryd.prog z = .ok (.agg mv) z ∧ z.cell? ⟨sp, 0, none⟩ = some (.int .i64 bl) ∧ z.cell? ⟨sp, 1, none⟩ = some nv ∧ z.cell? ⟨sp, 2, none⟩ = some (.slice (some ⟨t, 0, none⟩) G gc) ∧ z.cell? ⟨t, i, none⟩ = some (.slice bp ln lc) ∧ (i : Int) < (G : Int) ∧ (0 : Int) < (ln : Int)) : (execOp ev ⟨some 15, Op.nilCheck (Operand.tmp 14), 0, "", #[], some (3, true)⟩).run Tryd.prog z = .ok (.value (.pointer (some ⟨sp, 0, none⟩))) z := by
  obtain ⟨sa, sb, sc, sd, se, sf, sg, sh, si⟩ := hS
  go_simp
theorem wt1_11 (sp bx t i G gc ln lc : Nat) (bp : Option Addr) (bl : Int) (nv : Value) (mv : Array Value) (ev : Operand → Value) (z : World) (ec : ∀ c, ev (.const c) = c) (e15 : ev (.tmp 15) = .pointer (some ⟨sp, 0, none⟩)) (hS : z.cell? ⟨bx, 0, none⟩ = some (.int .i64 11) ∧ z.cell? ⟨bx, 6, none⟩ = some (.int .i64 (i : Int)) ∧ (loadVar 45 ⟨bx, 0, none⟩).run Tryd.prog z = .ok (.agg mv) z ∧ z.cell? ⟨sp, 0, none⟩ = some (.int .i64 bl) ∧ z.cell? ⟨sp, 1, none⟩ = some nv ∧ z.cell? ⟨sp, 2, none⟩ = some (.slice (some ⟨t, 0, none⟩) G gc) ∧ z.cell? ⟨t, i, none⟩ = some (.slice bp ln lc) ∧ (i : Int) < (G : Int) ∧ (0 : Int) < (ln : Int)) : (execOp ev ⟨some 16, Op.fieldAddr 150 (Operand.tmp 15) 1, 0, "", #[], some (3, true)⟩).run Tryd.prog z = .ok (.value (.pointer (some ⟨sp, 1, none⟩))) z := by
  obtain ⟨sa, sb, sc, sd, se, sf, sg, sh, si⟩ := hS
  go_simp
theorem wt1_12 (sp bx t i G gc ln lc : Nat) (bp : Option Addr) (bl : Int) (nv : Value) (mv : Array Value) (ev : Operand → Value) (z : World) (ec : ∀ c, ev (.const c) = c) (e16 : ev (.tmp 16) = .pointer (some ⟨sp, 1, none⟩)) (hS : z.cell? ⟨bx, 0, none⟩ = some (.int .i64 11) ∧ z.cell? ⟨bx, 6, none⟩ = some (.int .i64 (i : Int)) ∧ (loadVar 45 ⟨bx, 0, none⟩).run Tryd.prog z = .ok (.agg mv) z ∧ z.cell? ⟨sp, 0, none⟩ = some (.int .i64 bl) ∧ z.cell? ⟨sp, 1, none⟩ = some nv ∧ z.cell? ⟨sp, 2, none⟩ = some (.slice (some ⟨t, 0, none⟩) G gc) ∧ z.cell? ⟨t, i, none⟩ = some (.slice bp ln lc) ∧ (i : Int) < (G : Int) ∧ (0 : Int) < (ln : Int)) : (execOp ev ⟨some 17, Op.load 23 (Operand.tmp 16), 23, "", #[], some (3, true)⟩).run Tryd.prog z = .ok (.value (nv)) z := by
  obtain ⟨sa, sb, sc, sd, se, sf, sg, sh, si⟩ := hS
  go_simp
set_option maxRecDepth 100000 in
theorem wt1_13 (sp bx t i G gc ln lc : Nat) (bp : Option Addr) (bl : Int) (nv : Value) (mv : Array Value) (ev : Operand → Value) (z : World) (ec : ∀ c, ev (.const c) = c) (ef : ev (.func 96) = .func (.func 96) #[] #[]) (e9 : ev (.tmp 9) = .agg mv) (e13 : ev (.tmp 13) = .int .i64 bl) (e17 : ev (.tmp 17) = nv) : (execOp ev ⟨some 18, Op.call { callee := Callee.value (Operand.func 96), args := #[Operand.tmp 9, Operand.tmp 13, Operand.tmp 17], argTypes := #[45, 3, 23] }, 4, "", #[], some (3, true)⟩).run Tryd.prog z = .ok (.enter 96 #[.agg mv, .int .i64 bl, nv]) z :=
  enter_run _ ef (by simp only [List.map_toArray, List.map_cons, List.map_nil, ec, e9, e13, e17]) (fun _ => by rfl)
theorem wt1_14 (sp bx t i G gc ln lc : Nat) (bp : Option Addr) (bl : Int) (nv : Value) (mv : Array Value) (ev : Operand → Value) (z : World) (ec : ∀ c, ev (.const c) = c) (e8 : ev (.tmp 8) = .bool true) (e18 : ev (.tmp 18) = .bool true) (hS : z.cell? ⟨bx, 0, none⟩ = some (.int .i64 11) ∧ z.cell? ⟨bx, 6, none⟩ = some (.int .i64 (i : Int)) ∧ (loadVar 45 ⟨bx, 0, none⟩).run Tryd.prog z = .ok (.agg mv) z ∧ z.cell? ⟨sp, 0, none⟩ = some (.int .i64 bl) ∧ z.cell? ⟨sp, 1, none⟩ = some nv ∧ z.cell? ⟨sp, 2, none⟩ = some (.slice (some ⟨t, 0, none⟩) G gc) ∧ z.cell? ⟨t, i, none⟩ = some (.slice bp ln lc) ∧ (i : Int) < (G : Int) ∧ (0 : Int) < (ln : Int)) : (execOp ev ⟨some 19, Op.pick (Operand.tmp 8) (Operand.tmp 18) (Operand.const (Value.bool false)), 4, "", #[], none⟩).run Tryd.prog z = .ok (.value (.bool true)) z := by
  obtain ⟨sa, sb, sc, sd, se, sf, sg, sh, si⟩ := hS
  go_simp
theorem wt1_15 (sp bx t i G gc ln lc : Nat) (bp : Option Addr) (bl : Int) (nv : Value) (mv : Array Value) (ev : Operand → Value) (z : World) (ec : ∀ c, ev (.const c) = c) (e19 : ev (.tmp 19) = .bool true) (hS : z.cell? ⟨bx, 0, none⟩ = some (.int .i64 11) ∧ z.cell? ⟨bx, 6, none⟩ = some (.int .i64 (i : Int)) ∧ (loadVar 45 ⟨bx, 0, none⟩).run Tryd.prog z = .ok (.agg mv) z ∧ z.cell? ⟨sp, 0, none⟩ = some (.int .i64 bl) ∧ z.cell? ⟨sp, 1, none⟩ = some nv ∧ z.cell? ⟨sp, 2, none⟩ = some (.slice (some ⟨t, 0, none⟩) G gc) ∧ z.cell? ⟨t, i, none⟩ = some (.slice bp ln lc) ∧ (i : Int) < (G : Int) ∧ (0 : Int) < (ln : Int)) : (execOp ev ⟨some 20, Op.move (Operand.tmp 19), 4, "", #[], none⟩).run Tryd.prog z = .ok (.value (.bool true)) z := by
  obtain ⟨sa, sb, sc, sd, se, sf, sg, sh, si⟩ := hS
  go_simp
theorem wt1_16 (sp bx t i G gc ln lc : Nat) (bp : Option Addr) (bl : Int) (nv : Value) (mv : Array Value) (ev : Operand → Value) (z : World) (ec : ∀ c, ev (.const c) = c) (e0 : ev (.tmp 0) = .pointer (some ⟨sp, 0, none⟩)) (hS : z.cell? ⟨bx, 0, none⟩ = some (.int .i64 11) ∧ z.cell? ⟨bx, 6, none⟩ = some (.int .i64 (i : Int)) ∧ (loadVar 45 ⟨bx, 0, none⟩).run Tryd.prog z = .ok (.agg mv) z ∧ z.cell? ⟨sp, 0, none⟩ = some (.int .i64 bl) ∧ z.cell? ⟨sp, 1, none⟩ = some nv ∧ z.cell? ⟨sp, 2, none⟩ = some (.slice (some ⟨t, 0, none⟩) G gc) ∧ z.cell? ⟨t, i, none⟩ = some (.slice bp ln lc) ∧ (i : Int) < (G : Int) ∧ (0 : Int) < (ln : Int)) : (execOp ev ⟨some 21, Op.move (Operand.tmp 0), 73, "", #[], some (15, true)⟩).run Tryd.prog z = .ok (.value (.pointer (some ⟨sp, 0, none⟩))) z := by
  obtain ⟨sa, sb, sc, sd, se, sf, sg, sh, si⟩ := hS
  go_simp
theorem wt1_17 (sp bx t i G gc ln lc : Nat) (bp : Option Addr) (bl : Int) (nv : Value) (mv : Array Value) (ev : Operand → Value) (z : World) (ec : ∀ c, ev (.const c) = c) (e21 : ev (.tmp 21) = .pointer (some ⟨sp, 0, none⟩)) (hS : z.cell? ⟨bx, 0, none⟩ = some (.int .i64 11) ∧ z.cell? ⟨bx, 6, none⟩ = some (.int .i64 (i : Int)) ∧ (loadVar 45 ⟨bx, 0, none⟩).run Tryd.prog z = .ok (.agg mv) z ∧ z.cell? ⟨sp, 0, none⟩ = some (.int .i64 bl) ∧ z.cell? ⟨sp, 1, none⟩ = some nv ∧ z.cell? ⟨sp, 2, none⟩ = some (.slice (some ⟨t, 0, none⟩) G gc) ∧ z.cell? ⟨t, i, none⟩ = some (.slice bp ln lc) ∧ (i : Int) < (G : Int) ∧ (0 : Int) < (ln : Int)) : (execOp ev ⟨some 22, Op.nilCheck (Operand.tmp 21), 0, "", #[], some (15, true)⟩).run Tryd.prog z = .ok (.value (.pointer (some ⟨sp, 0, none⟩))) z := by
  obtain ⟨sa, sb, sc, sd, se, sf, sg, sh, si⟩ := hS
  go_simp
theorem wt1_18 (sp bx t i G gc ln lc : Nat) (bp : Option Addr) (bl : Int) (nv : Value) (mv : Array Value) (ev : Operand → Value) (z : World) (ec : ∀ c, ev (.const c) = c) (e22 : ev (.tmp 22) = .pointer (some ⟨sp, 0, none⟩)) (hS : z.cell? ⟨bx, 0, none⟩ = some (.int .i64 11) ∧ z.cell? ⟨bx, 6, none⟩ = some (.int .i64 (i : Int)) ∧ (loadVar 45 ⟨bx, 0, none⟩).run Tryd.prog z = .ok (.agg mv) z ∧ z.cell? ⟨sp, 0, none⟩ = some (.int .i64 bl) ∧ z.cell? ⟨sp, 1, none⟩ = some nv ∧ z.cell? ⟨sp, 2, none⟩ = some (.slice (some ⟨t, 0, none⟩) G gc) ∧ z.cell? ⟨t, i, none⟩ = some (.slice bp ln lc) ∧ (i : Int) < (G : Int) ∧ (0 : Int) < (ln : Int)) : (execOp ev ⟨some 23, Op.fieldAddr 150 (Operand.tmp 22) 2, 0, "", #[], some (15, true)⟩).run Tryd.prog z = .ok (.value (.pointer (some ⟨sp, 2, none⟩))) z := by
  obtain ⟨sa, sb, sc, sd, se, sf, sg, sh, si⟩ := hS
  go_simp
theorem wt1_19 (sp bx t i G gc ln lc : Nat) (bp : Option Addr) (bl : Int) (nv : Value) (mv : Array Value) (ev : Operand → Value) (z : World) (ec : ∀ c, ev (.const c) = c) (e23 : ev (.tmp 23) = .pointer (some ⟨sp, 2, none⟩)) (hS : z.cell? ⟨bx, 0, none⟩ = some (.int .i64 11) ∧ z.cell? ⟨bx, 6, none⟩ = some (.int .i64 (i : Int)) ∧ (loadVar 45 ⟨bx, 0, none⟩).run Tryd.prog z = .ok (.agg mv) z ∧ z.cell? ⟨sp, 0, none⟩ = some (.int .i64 bl) ∧ z.cell? ⟨sp, 1, none⟩ = some nv ∧ z.cell? ⟨sp, 2, none⟩ = some (.slice (some ⟨t, 0, none⟩) G gc) ∧ z.cell? ⟨t, i, none⟩ = some (.slice bp ln lc) ∧ (i : Int) < (G : Int) ∧ (0 : Int) < (ln : Int)) : (execOp ev ⟨some 24, Op.load 27 (Operand.tmp 23), 27, "", #[], some (15, true)⟩).run Tryd.prog z = .ok (.value (.slice (some ⟨t, 0, none⟩) G gc)) z := by
  obtain ⟨sa, sb, sc, sd, se, sf, sg, sh, si⟩ := hS
  go_simp
theorem wt1_20 (sp bx t i G gc ln lc : Nat) (bp : Option Addr) (bl : Int) (nv : Value) (mv : Array Value) (ev : Operand → Value) (z : World) (ec : ∀ c, ev (.const c) = c) (e3 : ev (.tmp 3) = .pointer (some ⟨bx, 0, none⟩)) (hS : z.cell? ⟨bx, 0, none⟩ = some (.int .i64 11) ∧ z.cell? ⟨bx, 6, none⟩ = some (.int .i64 (i : Int)) ∧ (loadVar 45 ⟨bx, 0, none⟩).run Tryd.prog z = .ok (.agg mv) z ∧ z.cell? ⟨sp, 0, none⟩ = some (.int .i64 bl) ∧ z.cell? ⟨sp, 1, none⟩ = some nv ∧ z.cell? ⟨sp, 2, none⟩ = some (.slice (some ⟨t, 0, none⟩) G gc) ∧ z.cell? ⟨t, i, none⟩ = some (.slice bp ln lc) ∧ (i : Int) < (G : Int) ∧ (0 : Int) < (ln : Int)) : (execOp ev ⟨some 25, Op.fieldAddr 45 (Operand.tmp 3) 6, 0, "", #[], some (15, true)⟩).run Tryd.prog z = .ok (.value (.pointer (some ⟨bx, 6, none⟩))) z := by
  obtain ⟨sa, sb, sc, sd, se, sf, sg, sh, si⟩ := hS
  go_simp
theorem wt1_21 (sp bx t i G gc ln lc : Nat) (bp : Option Addr) (bl : Int) (nv : Value) (mv : Array Value) (ev : Operand → Value) (z : World) (ec : ∀ c, ev (.const c) = c) (e25 : ev (.tmp 25) = .pointer (some ⟨bx, 6, none⟩)) (hS : z.cell? ⟨bx, 0, none⟩ = some (.int .i64 11) ∧ z.cell? ⟨bx, 6, none⟩ = some (.int .i64 (i : Int)) ∧ (loadVar 45 ⟨bx, 0, none⟩).run Tryd.prog z = .ok (.agg mv) z ∧ z.cell? ⟨sp, 0, none⟩ = some (.int .i64 bl) ∧ z.cell? ⟨sp, 1, none⟩ = some nv ∧ z.cell? ⟨sp, 2, none⟩ = some (.slice (some ⟨t, 0, none⟩) G gc) ∧ z.cell? ⟨t, i, none⟩ = some (.slice bp ln lc) ∧ (i : Int) < (G : Int) ∧ (0 : Int) < (ln : Int)) : (execOp ev ⟨some 26, Op.load 3 (Operand.tmp 25), 3, "", #[], some (15, true)⟩).run Tryd.prog z = .ok (.value (.int .i64 (i : Int))) z := by
  obtain ⟨sa, sb, sc, sd, se, sf, sg, sh, si⟩ := hS
  go_simp
theorem wt1_22 (sp bx t i G gc ln lc : Nat) (bp : Option Addr) (bl : Int) (nv : Value) (mv : Array Value) (ev : Operand → Value) (z : World) (ec : ∀ c, ev (.const c) = c) (e24 : ev (.tmp 24) = .slice (some ⟨t, 0, none⟩) G gc) (e26 : ev (.tmp 26) = .int .i64 (i : Int)) (hS : z.cell? ⟨bx, 0, none⟩ = some (.int .i64 11) ∧ z.cell? ⟨bx, 6, none⟩ = some (.int .i64 (i : Int)) ∧ (loadVar 45 ⟨bx, 0, none⟩).run Tryd.prog z = .ok (.agg mv) z ∧ z.cell? ⟨sp, 0, none⟩ = some (.int .i64 bl) ∧ z.cell? ⟨sp, 1, none⟩ = some nv ∧ z.cell? ⟨sp, 2, none⟩ = some (.slice (some ⟨t, 0, none⟩) G gc) ∧ z.cell? ⟨t, i, none⟩ = some (.slice bp ln lc) ∧ (i : Int) < (G : Int) ∧ (0 : Int) < (ln : Int)) : (execOp ev ⟨some 27, Op.indexAddr 27 (Operand.tmp 24) (Operand.tmp 26), 0, "", #[], some (15, true)⟩).run Tryd.prog z = .ok (.value (.pointer (some ⟨t, i, none⟩))) z := by
  obtain ⟨sa, sb, sc, sd, se, sf, sg, sh, si⟩ := hS
  go_simp
theorem wt1_23 (sp bx t i G gc ln lc : Nat) (bp : Option Addr) (bl : Int) (nv : Value) (mv : Array Value) (ev : Operand → Value) (z : World) (ec : ∀ c, ev (.const c) = c) (e27 : ev (.tmp 27) = .pointer (some ⟨t, i, none⟩)) (hS : z.cell? ⟨bx, 0, none⟩ = some (.int .i64 11) ∧ z.cell? ⟨bx, 6, none⟩ = some (.int .i64 (i : Int)) ∧ (loadVar 45 ⟨bx, 0, none⟩).run Tryd.prog z = .ok (.agg mv) z ∧ z.cell? ⟨sp, 0, none⟩ = some (.int .i64 bl) ∧ z.cell? ⟨sp, 1, none⟩ = some nv ∧ z.cell? ⟨sp, 2, none⟩ = some (.slice (some ⟨t, 0, none⟩) G gc) ∧ z.cell? ⟨t, i, none⟩ = some (.slice bp ln lc) ∧ (i : Int) < (G : Int) ∧ (0 : Int) < (ln : Int)) : (execOp ev ⟨some 28, Op.load 22 (Operand.tmp 27), 22, "", #[], some (15, true)⟩).run Tryd.prog z = .ok (.value (.slice bp ln lc)) z := by
  obtain ⟨sa, sb, sc, sd, se, sf, sg, sh, si⟩ := hS
  go_simp
theorem wt1_24 (sp bx t i G gc ln lc : Nat) (bp : Option Addr) (bl : Int) (nv : Value) (mv : Array Value) (ev : Operand → Value) (z : World) (ec : ∀ c, ev (.const c) = c) (e28 : ev (.tmp 28) = .slice bp ln lc) (hS : z.cell? ⟨bx, 0, none⟩ = some (.int .i64 11) ∧ z.cell? ⟨bx, 6, none⟩ = some (.int .i64 (i : Int)) ∧ (loadVar 45 ⟨bx, 0, none⟩).run Tryd.prog z = .ok (.agg mv) z ∧ z.cell? ⟨sp, 0, none⟩ = some (.int .i64 bl) ∧ z.cell? ⟨sp, 1, none⟩ = some nv ∧ z.cell? ⟨sp, 2, none⟩ = some (.slice (some ⟨t, 0, none⟩) G gc) ∧ z.cell? ⟨t, i, none⟩ = some (.slice bp ln lc) ∧ (i : Int) < (G : Int) ∧ (0 : Int) < (ln : Int)) : (execOp ev ⟨some 29, Op.call { callee := Callee.builtin Builtin.len, args := #[Operand.tmp 28], argTypes := #[22] }, 3, "", #[], some (15, true)⟩).run Tryd.prog z = .ok (.value (.int .i64 (ln : Int))) z := by
  obtain ⟨sa, sb, sc, sd, se, sf, sg, sh, si⟩ := hS
  go_simp
theorem wt1_25 (sp bx t i G gc ln lc : Nat) (bp : Option Addr) (bl : Int) (nv : Value) (mv : Array Value) (ev : Operand → Value) (z : World) (ec : ∀ c, ev (.const c) = c) (e29 : ev (.tmp 29) = .int .i64 (ln : Int)) (hS : z.cell? ⟨bx, 0, none⟩ = some (.int .i64 11) ∧ z.cell? ⟨bx, 6, none⟩ = some (.int .i64 (i : Int)) ∧ (loadVar 45 ⟨bx, 0, none⟩).run Tryd.prog z = .ok (.agg mv) z ∧ z.cell? ⟨sp, 0, none⟩ = some (.int .i64 bl) ∧ z.cell? ⟨sp, 1, none⟩ = some nv ∧ z.cell? ⟨sp, 2, none⟩ = some (.slice (some ⟨t, 0, none⟩) G gc) ∧ z.cell? ⟨t, i, none⟩ = some (.slice bp ln lc) ∧ (i : Int) < (G : Int) ∧ (0 : Int) < (ln : Int)) : (execOp ev ⟨some 30, Op.binOp BinOp.gtr 3 (Operand.tmp 29) (Operand.const (Value.int IntKind.i64 0)) 3, 4, "", #[], some (15, true)⟩).run Tryd.prog z = .ok (.value (.bool true)) z := by
  obtain ⟨sa, sb, sc, sd, se, sf, sg, sh, si⟩ := hS
  have h9 : (ln : Int) > 0 := si
  go_simp
  omega
theorem wt1_26 (sp bx t i G gc ln lc : Nat) (bp : Option Addr) (bl : Int) (nv : Value) (mv : Array Value) (ev : Operand → Value) (z : World) (ec : ∀ c, ev (.const c) = c) (e20 : ev (.tmp 20) = .bool true) (e30 : ev (.tmp 30) = .bool true) (hS : z.cell? ⟨bx, 0, none⟩ = some (.int .i64 11) ∧ z.cell? ⟨bx, 6, none⟩ = some (.int .i64 (i : Int)) ∧ (loadVar 45 ⟨bx, 0, none⟩).run Tryd.prog z = .ok (.agg mv) z ∧ z.cell? ⟨sp, 0, none⟩ = some (.int .i64 bl) ∧ z.cell? ⟨sp, 1, none⟩ = some nv ∧ z.cell? ⟨sp, 2, none⟩ = some (.slice (some ⟨t, 0, none⟩) G gc) ∧ z.cell? ⟨t, i, none⟩ = some (.slice bp ln lc) ∧ (i : Int) < (G : Int) ∧ (0 : Int) < (ln : Int)) : (execOp ev ⟨some 31, Op.pick (Operand.tmp 20) (Operand.tmp 30) (Operand.const (Value.bool false)), 4, "", #[], none⟩).run Tryd.prog z = .ok (.value (.bool true)) z := by
  obtain ⟨sa, sb, sc, sd, se, sf, sg, sh, si⟩ := hS
  go_simp
theorem wt1_27 (sp bx t i G gc ln lc : Nat) (bp : Option Addr) (bl : Int) (nv : Value) (mv : Array Value) (ev : Operand → Value) (z : World) (ec : ∀ c, ev (.const c) = c) (e31 : ev (.tmp 31) = .bool true) (hS : z.cell? ⟨bx, 0, none⟩ = some (.int .i64 11) ∧ z.cell? ⟨bx, 6, none⟩ = some (.int .i64 (i : Int)) ∧ (loadVar 45 ⟨bx, 0, none⟩).run Tryd.prog z = .ok (.agg mv) z ∧ z.cell? ⟨sp, 0, none⟩ = some (.int .i64 bl) ∧ z.cell? ⟨sp, 1, none⟩ = some nv ∧ z.cell? ⟨sp, 2, none⟩ = some (.slice (some ⟨t, 0, none⟩) G gc) ∧ z.cell? ⟨t, i, none⟩ = some (.slice bp ln lc) ∧ (i : Int) < (G : Int) ∧ (0 : Int) < (ln : Int)) : (execOp ev ⟨some 4, Op.assign (Operand.tmp 31), 4, "", #[], none⟩).run Tryd.prog z = .ok (.value (.bool true)) z := by
  obtain ⟨sa, sb, sc, sd, se, sf, sg, sh, si⟩ := hS
  go_simp
structure wt1R (ops : Array Oper) : Prop where
  size : ops.size = 28
  sel : Region.noSelect ops = true
  o0 : (ops[0]?).map bare = some ⟨some 5, Op.fieldAddr 45 (Operand.tmp 3) 0, 0, "", #[], none⟩
  o1 : (ops[1]?).map bare = some ⟨some 6, Op.load 3 (Operand.tmp 5), 3, "", #[], none⟩
  o2 : (ops[2]?).map bare = some ⟨some 7, Op.binOp BinOp.eql 3 (Operand.tmp 6) (Operand.const (Value.int IntKind.i64 11)) 3, 4, "", #[], none⟩
  o3 : (ops[3]?).map bare = some ⟨some 8, Op.move (Operand.tmp 7), 4, "", #[], none⟩
  o4 : (ops[4]?).map bare = some ⟨some 9, Op.load 45 (Operand.tmp 3), 45, "", #[], some (3, true)⟩
  o5 : (ops[5]?).map bare = some ⟨some 10, Op.move (Operand.tmp 0), 73, "", #[], some (3, true)⟩
  o6 : (ops[6]?).map bare = some ⟨some 11, Op.nilCheck (Operand.tmp 10), 0, "", #[], some (3, true)⟩
  o7 : (ops[7]?).map bare = some ⟨some 12, Op.fieldAddr 150 (Operand.tmp 11) 0, 0, "", #[], some (3, true)⟩
  o8 : (ops[8]?).map bare = some ⟨some 13, Op.load 3 (Operand.tmp 12), 3, "", #[], some (3, true)⟩
  o9 : (ops[9]?).map bare = some ⟨some 14, Op.move (Operand.tmp 0), 73, "", #[], some (3, true)⟩
  o10 : (ops[10]?).map bare = some ⟨some 15, Op.nilCheck (Operand.tmp 14), 0, "", #[], some (3, true)⟩
  o11 : (ops[11]?).map bare = some ⟨some 16, Op.fieldAddr 150 (Operand.tmp 15) 1, 0, "", #[], some (3, true)⟩
  o12 : (ops[12]?).map bare = some ⟨some 17, Op.load 23 (Operand.tmp 16), 23, "", #[], some (3, true)⟩
  o13 : (ops[13]?).map bare = some ⟨some 18, Op.call { callee := Callee.value (Operand.func 96), args := #[Operand.tmp 9, Operand.tmp 13, Operand.tmp 17], argTypes := #[45, 3, 23] }, 4, "", #[], some (3, true)⟩
  o14 : (ops[14]?).map bare = some ⟨some 19, Op.pick (Operand.tmp 8) (Operand.tmp 18) (Operand.const (Value.bool false)), 4, "", #[], none⟩
  o15 : (ops[15]?).map bare = some ⟨some 20, Op.move (Operand.tmp 19), 4, "", #[], none⟩
  o16 : (ops[16]?).map bare = some ⟨some 21, Op.move (Operand.tmp 0), 73, "", #[], some (15, true)⟩
  o17 : (ops[17]?).map bare = some ⟨some 22, Op.nilCheck (Operand.tmp 21), 0, "", #[], some (15, true)⟩
  o18 : (ops[18]?).map bare = some ⟨some 23, Op.fieldAddr 150 (Operand.tmp 22) 2, 0, "", #[], some (15, true)⟩
  o19 : (ops[19]?).map bare = some ⟨some 24, Op.load 27 (Operand.tmp 23), 27, "", #[], some (15, true)⟩
  o20 : (ops[20]?).map bare = some ⟨some 25, Op.fieldAddr 45 (Operand.tmp 3) 6, 0, "", #[], some (15, true)⟩
  o21 : (ops[21]?).map bare = some ⟨some 26, Op.load 3 (Operand.tmp 25), 3, "", #[], some (15, true)⟩
  o22 : (ops[22]?).map bare = some ⟨some 27, Op.indexAddr 27 (Operand.tmp 24) (Operand.tmp 26), 0, "", #[], some (15, true)⟩
  o23 : (ops[23]?).map bare = some ⟨some 28, Op.load 22 (Operand.tmp 27), 22, "", #[], some (15, true)⟩
  o24 : (ops[24]?).map bare = some ⟨some 29, Op.call { callee := Callee.builtin Builtin.len, args := #[Operand.tmp 28], argTypes := #[22] }, 3, "", #[], some (15, true)⟩
  o25 : (ops[25]?).map bare = some ⟨some 30, Op.binOp BinOp.gtr 3 (Operand.tmp 29) (Operand.const (Value.int IntKind.i64 0)) 3, 4, "", #[], some (15, true)⟩
  o26 : (ops[26]?).map bare = some ⟨some 31, Op.pick (Operand.tmp 20) (Operand.tmp 30) (Operand.const (Value.bool false)), 4, "", #[], none⟩
  o27 : (ops[27]?).map bare = some ⟨some 4, Op.assign (Operand.tmp 31), 4, "", #[], none⟩
  may0 : takeB .any ops [0, 1, 2, 3, 4, 5, 6, 7, 8, 9, 10, 11, 12] (Array.replicate 28 false) = true
  r13 : Region.ready .any ops (mark [0, 1, 2, 3, 4, 5, 6, 7, 8, 9, 10, 11, 12] (Array.replicate 28 false)) = [13]
  may1 : takeB .any ops [14, 15, 16, 17, 18, 19, 20, 21, 22, 23, 24, 25, 26, 27] ((mark [0, 1, 2, 3, 4, 5, 6, 7, 8, 9, 10, 11, 12] (Array.replicate 28 false)).setIfInBounds 13 true) = true
  fin : Region.ready .any ops (mark [14, 15, 16, 17, 18, 19, 20, 21, 22, 23, 24, 25, 26, 27] ((mark [0, 1, 2, 3, 4, 5, 6, 7, 8, 9, 10, 11, 12] (Array.replicate 28 false)).setIfInBounds 13 true)) = []

set_option maxRecDepth 100000 in
set_option maxHeartbeats 3200000 in
theorem wt1_region {ops : Array Oper} {id : Nat} {Q : Exit → Act → World → Prop} {a : Act} {y : World} (R : wt1R ops) (sp bx t i G gc ln lc : Nat) (bp : Option Addr) (bl : Int) (nv : Value) (mv : Array Value)
    (hQ : ∀ d v c a w, Q (.panic c) (a.put d v) w → Q (.panic c) a w) (hsz : a.tmps.size = 32) (e0 : a.eval (.tmp 0) = .pointer (some ⟨sp, 0, none⟩)) (e3 : a.eval (.tmp 3) = .pointer (some ⟨bx, 0, none⟩)) (hS0 : (y.drew.cell? ⟨bx, 0, none⟩ = some (.int .i64 11) ∧ y.drew.cell? ⟨bx, 6, none⟩ = some (.int .i64 (i : Int)) ∧ (loadVar 45 ⟨bx, 0, none⟩).run Tryd.prog y.drew = .ok (.agg mv) y.drew ∧ y.drew.cell? ⟨sp, 0, none⟩ = some (.int .i64 bl) ∧ y.drew.cell? ⟨sp, 1, none⟩ = some nv ∧ y.drew.cell? ⟨sp, 2, none⟩ = some (.slice (some ⟨t, 0, none⟩) G gc) ∧ y.drew.cell? ⟨t, i, none⟩ = some (.slice bp ln lc) ∧ (i : Int) < (G : Int) ∧ (0 : Int) < (ln : Int))) (T : World → Prop) (hc : Calls Tryd.prog 96 #[.agg mv, .int .i64 bl, nv] y.drew fun e w9 => e = .returned (.bool true) ∧ (w9.cell? ⟨bx, 0, none⟩ = some (.int .i64 11) ∧ w9.cell? ⟨bx, 6, none⟩ = some (.int .i64 (i : Int)) ∧ (loadVar 45 ⟨bx, 0, none⟩).run Tryd.prog w9 = .ok (.agg mv) w9 ∧ w9.cell? ⟨sp, 0, none⟩ = some (.int .i64 bl) ∧ w9.cell? ⟨sp, 1, none⟩ = some nv ∧ w9.cell? ⟨sp, 2, none⟩ = some (.slice (some ⟨t, 0, none⟩) G gc) ∧ w9.cell? ⟨t, i, none⟩ = some (.slice bp ln lc) ∧ (i : Int) < (G : Int) ∧ (0 : Int) < (ln : Int)) ∧ T w9)
    (hK : ∀ (w9 : World), T w9 → Q .normal ((((((((((((((((((((((((((((a.put (some 5) (.pointer (some ⟨bx, 0, none⟩))).put (some 6) (.int .i64 11)).put (some 7) (.bool true)).put (some 8) (.bool true)).put (some 9) (.agg mv)).put (some 10) (.pointer (some ⟨sp, 0, none⟩))).put (some 11) (.pointer (some ⟨sp, 0, none⟩))).put (some 12) (.pointer (some ⟨sp, 0, none⟩))).put (some 13) (.int .i64 bl)).put (some 14) (.pointer (some ⟨sp, 0, none⟩))).put (some 15) (.pointer (some ⟨sp, 0, none⟩))).put (some 16) (.pointer (some ⟨sp, 1, none⟩))).put (some 17) (nv)).put (some 18) (.bool true)).put (some 19) (.bool true)).put (some 20) (.bool true)).put (some 21) (.pointer (some ⟨sp, 0, none⟩))).put (some 22) (.pointer (some ⟨sp, 0, none⟩))).put (some 23) (.pointer (some ⟨sp, 2, none⟩))).put (some 24) (.slice (some ⟨t, 0, none⟩) G gc)).put (some 25) (.pointer (some ⟨bx, 6, none⟩))).put (some 26) (.int .i64 (i : Int))).put (some 27) (.pointer (some ⟨t, i, none⟩))).put (some 28) (.slice bp ln lc)).put (some 29) (.int .i64 (ln : Int))).put (some 30) (.bool true)).put (some 31) (.bool true)).put (some 4) (.bool true)) w9) : (Code.region id ops true).wp Tryd.prog Q a y := by
  have HR : Hid (wt1R ops) := R
  have hdf : a.defers = a.defers := rfl
  refine wp_region_held_drew (S := (fun z : World => z.cell? ⟨bx, 0, none⟩ = some (.int .i64 11) ∧ z.cell? ⟨bx, 6, none⟩ = some (.int .i64 (i : Int)) ∧ (loadVar 45 ⟨bx, 0, none⟩).run Tryd.prog z = .ok (.agg mv) z ∧ z.cell? ⟨sp, 0, none⟩ = some (.int .i64 bl) ∧ z.cell? ⟨sp, 1, none⟩ = some nv ∧ z.cell? ⟨sp, 2, none⟩ = some (.slice (some ⟨t, 0, none⟩) G gc) ∧ z.cell? ⟨t, i, none⟩ = some (.slice bp ln lc) ∧ (i : Int) < (G : Int) ∧ (0 : Int) < (ln : Int))) (by kernel_rfl) (hS0) (fun hHeld => ?_)
  rw [R.size]
  clear R
  refine wpAnyH_takes HR.out.sel hQ hHeld [0, 1, 2, 3, 4, 5, 6, 7, 8, 9, 10, 11, 12] 15 _ _ HR.out.may0 ?_
  refine wpTake_stepE ⟨some 5, Op.fieldAddr 45 (Operand.tmp 3) 0, 0, "", #[], none⟩ 5 (.pointer (some ⟨bx, 0, none⟩)) HR.out.o0 rfl (by rw [hsz]; decide) (wanted_none rfl) (fun z hS => wt1_0 sp bx t i G gc ln lc bp bl nv mv _ z (fun _ => rfl) e3 hS) ?_
  intro a1 ha1 s1 f1 n1 k1
  replace hsz := s1.trans hsz
  replace hdf := f1.trans hdf
  replace e0 := (k1 0 (by decide)).trans e0
  replace e3 := (k1 3 (by decide)).trans e3
  have e5 := n1
  clear s1 f1 n1 k1
  refine wpTake_stepE ⟨some 6, Op.load 3 (Operand.tmp 5), 3, "", #[], none⟩ 6 (.int .i64 11) HR.out.o1 rfl (by rw [hsz]; decide) (wanted_none rfl) (fun z hS => wt1_1 sp bx t i G gc ln lc bp bl nv mv _ z (fun _ => rfl) e5 hS) ?_
  intro a2 ha2 s1 f1 n1 k1
  replace hsz := s1.trans hsz
  replace hdf := f1.trans hdf
  replace e0 := (k1 0 (by decide)).trans e0
  replace e3 := (k1 3 (by decide)).trans e3
  have e6 := n1
  clear s1 f1 n1 k1
  refine wpTake_stepE ⟨some 7, Op.binOp BinOp.eql 3 (Operand.tmp 6) (Operand.const (Value.int IntKind.i64 11)) 3, 4, "", #[], none⟩ 7 (.bool true) HR.out.o2 rfl (by rw [hsz]; decide) (wanted_none rfl) (fun z hS => wt1_2 sp bx t i G gc ln lc bp bl nv mv _ z (fun _ => rfl) e6 hS) ?_
  intro a3 ha3 s1 f1 n1 k1
  replace hsz := s1.trans hsz
  replace hdf := f1.trans hdf
  replace e0 := (k1 0 (by decide)).trans e0
  replace e3 := (k1 3 (by decide)).trans e3
  have e7 := n1
  clear s1 f1 n1 k1
  refine wpTake_stepE ⟨some 8, Op.move (Operand.tmp 7), 4, "", #[], none⟩ 8 (.bool true) HR.out.o3 rfl (by rw [hsz]; decide) (wanted_none rfl) (fun z hS => wt1_3 sp bx t i G gc ln lc bp bl nv mv _ z (fun _ => rfl) e7 hS) ?_
  intro a4 ha4 s1 f1 n1 k1
  replace hsz := s1.trans hsz
  replace hdf := f1.trans hdf
  replace e0 := (k1 0 (by decide)).trans e0
  replace e3 := (k1 3 (by decide)).trans e3
  have e8 := n1
  clear s1 f1 n1 k1
  refine wpTake_stepE ⟨some 9, Op.load 45 (Operand.tmp 3), 45, "", #[], some (3, true)⟩ 9 (.agg mv) HR.out.o4 rfl (by rw [hsz]; decide) (wanted_some rfl (yielded_of HR.out.o3 rfl e8 (by rw [hsz]; decide))) (fun z hS => wt1_4 sp bx t i G gc ln lc bp bl nv mv _ z (fun _ => rfl) e3 hS) ?_
  intro a5 ha5 s1 f1 n1 k1
  replace hsz := s1.trans hsz
  replace hdf := f1.trans hdf
  replace e0 := (k1 0 (by decide)).trans e0
  replace e3 := (k1 3 (by decide)).trans e3
  replace e8 := (k1 8 (by decide)).trans e8
  have e9 := n1
  clear s1 f1 n1 k1
  refine wpTake_stepE ⟨some 10, Op.move (Operand.tmp 0), 73, "", #[], some (3, true)⟩ 10 (.pointer (some ⟨sp, 0, none⟩)) HR.out.o5 rfl (by rw [hsz]; decide) (wanted_some rfl (yielded_of HR.out.o3 rfl e8 (by rw [hsz]; decide))) (fun z hS => wt1_5 sp bx t i G gc ln lc bp bl nv mv _ z (fun _ => rfl) e0 hS) ?_
  intro a6 ha6 s1 f1 n1 k1
  replace hsz := s1.trans hsz
  replace hdf := f1.trans hdf
  replace e0 := (k1 0 (by decide)).trans e0
  replace e3 := (k1 3 (by decide)).trans e3
  replace e8 := (k1 8 (by decide)).trans e8
  replace e9 := (k1 9 (by decide)).trans e9
  have e10 := n1
  clear s1 f1 n1 k1
  refine wpTake_stepE ⟨some 11, Op.nilCheck (Operand.tmp 10), 0, "", #[], some (3, true)⟩ 11 (.pointer (some ⟨sp, 0, none⟩)) HR.out.o6 rfl (by rw [hsz]; decide) (wanted_some rfl (yielded_of HR.out.o3 rfl e8 (by rw [hsz]; decide))) (fun z hS => wt1_6 sp bx t i G gc ln lc bp bl nv mv _ z (fun _ => rfl) e10 hS) ?_
  intro a7 ha7 s1 f1 n1 k1
  replace hsz := s1.trans hsz
  replace hdf := f1.trans hdf
  replace e0 := (k1 0 (by decide)).trans e0
  replace e3 := (k1 3 (by decide)).trans e3
  replace e8 := (k1 8 (by decide)).trans e8
  replace e9 := (k1 9 (by decide)).trans e9
  have e11 := n1
  clear s1 f1 n1 k1
  refine wpTake_stepE ⟨some 12, Op.fieldAddr 150 (Operand.tmp 11) 0, 0, "", #[], some (3, true)⟩ 12 (.pointer (some ⟨sp, 0, none⟩)) HR.out.o7 rfl (by rw [hsz]; decide) (wanted_some rfl (yielded_of HR.out.o3 rfl e8 (by rw [hsz]; decide))) (fun z hS => wt1_7 sp bx t i G gc ln lc bp bl nv mv _ z (fun _ => rfl) e11 hS) ?_
  intro a8 ha8 s1 f1 n1 k1
  replace hsz := s1.trans hsz
  replace hdf := f1.trans hdf
  replace e0 := (k1 0 (by decide)).trans e0
  replace e3 := (k1 3 (by decide)).trans e3
  replace e8 := (k1 8 (by decide)).trans e8
  replace e9 := (k1 9 (by decide)).trans e9
  have e12 := n1
  clear s1 f1 n1 k1
  refine wpTake_stepE ⟨some 13, Op.load 3 (Operand.tmp 12), 3, "", #[], some (3, true)⟩ 13 (.int .i64 bl) HR.out.o8 rfl (by rw [hsz]; decide) (wanted_some rfl (yielded_of HR.out.o3 rfl e8 (by rw [hsz]; decide))) (fun z hS => wt1_8 sp bx t i G gc ln lc bp bl nv mv _ z (fun _ => rfl) e12 hS) ?_
  intro a9 ha9 s1 f1 n1 k1
  replace hsz := s1.trans hsz
  replace hdf := f1.trans hdf
  replace e0 := (k1 0 (by decide)).trans e0
  replace e3 := (k1 3 (by decide)).trans e3
  replace e8 := (k1 8 (by decide)).trans e8
  replace e9 := (k1 9 (by decide)).trans e9
  have e13 := n1
  clear s1 f1 n1 k1
  refine wpTake_stepE ⟨some 14, Op.move (Operand.tmp 0), 73, "", #[], some (3, true)⟩ 14 (.pointer (some ⟨sp, 0, none⟩)) HR.out.o9 rfl (by rw [hsz]; decide) (wanted_some rfl (yielded_of HR.out.o3 rfl e8 (by rw [hsz]; decide))) (fun z hS => wt1_9 sp bx t i G gc ln lc bp bl nv mv _ z (fun _ => rfl) e0 hS) ?_
  intro a10 ha10 s1 f1 n1 k1
  replace hsz := s1.trans hsz
  replace hdf := f1.trans hdf
  replace e0 := (k1 0 (by decide)).trans e0
  replace e3 := (k1 3 (by decide)).trans e3
  replace e8 := (k1 8 (by decide)).trans e8
  replace e9 := (k1 9 (by decide)).trans e9
  replace e13 := (k1 13 (by decide)).trans e13
  have e14 := n1
  clear s1 f1 n1 k1
  refine wpTake_stepE ⟨some 15, Op.nilCheck (Operand.tmp 14), 0, "", #[], some (3, true)⟩ 15 (.pointer (some ⟨sp, 0, none⟩)) HR.out.o10 rfl (by rw [hsz]; decide) (wanted_some rfl (yielded_of HR.out.o3 rfl e8 (by rw [hsz]; decide))) (fun z hS => wt1_10 sp bx t i G gc ln lc bp bl nv mv _ z (fun _ => rfl) e14 hS) ?_
  intro a11 ha11 s1 f1 n1 k1
  replace hsz := s1.trans hsz
  replace hdf := f1.trans hdf
  replace e0 := (k1 0 (by decide)).trans e0
  replace e3 := (k1 3 (by decide)).trans e3
  replace e8 := (k1 8 (by decide)).trans e8
  replace e9 := (k1 9 (by decide)).trans e9
  replace e13 := (k1 13 (by decide)).trans e13
  have e15 := n1
  clear s1 f1 n1 k1
  refine wpTake_stepE ⟨some 16, Op.fieldAddr 150 (Operand.tmp 15) 1, 0, "", #[], some (3, true)⟩ 16 (.pointer (some ⟨sp, 1, none⟩)) HR.out.o11 rfl (by rw [hsz]; decide) (wanted_some rfl (yielded_of HR.out.o3 rfl e8 (by rw [hsz]; decide))) (fun z hS => wt1_11 sp bx t i G gc ln lc bp bl nv mv _ z (fun _ => rfl) e15 hS) ?_
  intro a12 ha12 s1 f1 n1 k1
  replace hsz := s1.trans hsz
  replace hdf := f1.trans hdf
  replace e0 := (k1 0 (by decide)).trans e0
  replace e3 := (k1 3 (by decide)).trans e3
  replace e8 := (k1 8 (by decide)).trans e8
  replace e9 := (k1 9 (by decide)).trans e9
  replace e13 := (k1 13 (by decide)).trans e13
  have e16 := n1
  clear s1 f1 n1 k1
  refine wpTake_stepE ⟨some 17, Op.load 23 (Operand.tmp 16), 23, "", #[], some (3, true)⟩ 17 (nv) HR.out.o12 rfl (by rw [hsz]; decide) (wanted_some rfl (yielded_of HR.out.o3 rfl e8 (by rw [hsz]; decide))) (fun z hS => wt1_12 sp bx t i G gc ln lc bp bl nv mv _ z (fun _ => rfl) e16 hS) ?_
  intro a13 ha13 s1 f1 n1 k1
  replace hsz := s1.trans hsz
  replace hdf := f1.trans hdf
  replace e0 := (k1 0 (by decide)).trans e0
  replace e3 := (k1 3 (by decide)).trans e3
  replace e8 := (k1 8 (by decide)).trans e8
  replace e9 := (k1 9 (by decide)).trans e9
  replace e13 := (k1 13 (by decide)).trans e13
  have e17 := n1
  clear s1 f1 n1 k1
  refine wpTake_nil ?_
  refine wpAnyH_oneG ⟨some 18, Op.call { callee := Callee.value (Operand.func 96), args := #[Operand.tmp 9, Operand.tmp 13, Operand.tmp 17], argTypes := #[45, 3, 23] }, 4, "", #[], some (3, true)⟩ HR.out.r13 HR.out.o13 (wanted_some rfl (yielded_of HR.out.o3 rfl e8 (by rw [hsz]; decide))) (fun K' hK' => ?_)
  refine wp_enter (wt1_13 sp bx t i G gc ln lc bp bl nv mv _ _ (fun _ => rfl) rfl e9 e13 e17) (hc) ?_
  rintro e9 w9 ⟨rfl, hS9, hT⟩
  refine ⟨_, rfl, hK'.out _ _ (hS9) ?_⟩
  replace hHeld := hS9
  clear hK' K'
  show wpAnyH _ _ _ _ _ _ _ (Act.put a13 (some 18) (.bool true)) _
  obtain ⟨s1, f1, n1, k1⟩ := act_put a13 18 (.bool true) (show 18 < _ by rw [hsz]; decide)
  obtain ⟨a14, ha14⟩ : ∃ x, x = Act.put a13 (some 18) (.bool true) := ⟨_, rfl⟩
  rw [← ha14] at s1 f1 n1 k1 ⊢
  replace hsz := s1.trans hsz
  replace hdf := f1.trans hdf
  replace e0 := (k1 0 (by decide)).trans e0
  replace e3 := (k1 3 (by decide)).trans e3
  replace e8 := (k1 8 (by decide)).trans e8
  have e18 := n1
  clear s1 f1 n1 k1
  refine wpAnyH_takes HR.out.sel hQ hHeld [14, 15, 16, 17, 18, 19, 20, 21, 22, 23, 24, 25, 26, 27] 0 _ _ HR.out.may1 ?_
  refine wpTake_stepE ⟨some 19, Op.pick (Operand.tmp 8) (Operand.tmp 18) (Operand.const (Value.bool false)), 4, "", #[], none⟩ 19 (.bool true) HR.out.o14 rfl (by rw [hsz]; decide) (wanted_none rfl) (fun z hS => wt1_14 sp bx t i G gc ln lc bp bl nv mv _ z (fun _ => rfl) e8 e18 hS) ?_
  intro a15 ha15 s1 f1 n1 k1
  replace hsz := s1.trans hsz
  replace hdf := f1.trans hdf
  replace e0 := (k1 0 (by decide)).trans e0
  replace e3 := (k1 3 (by decide)).trans e3
  have e19 := n1
  clear s1 f1 n1 k1
  refine wpTake_stepE ⟨some 20, Op.move (Operand.tmp 19), 4, "", #[], none⟩ 20 (.bool true) HR.out.o15 rfl (by rw [hsz]; decide) (wanted_none rfl) (fun z hS => wt1_15 sp bx t i G gc ln lc bp bl nv mv _ z (fun _ => rfl) e19 hS) ?_
  intro a16 ha16 s1 f1 n1 k1
  replace hsz := s1.trans hsz
  replace hdf := f1.trans hdf
  replace e0 := (k1 0 (by decide)).trans e0
  replace e3 := (k1 3 (by decide)).trans e3
  have e20 := n1
  clear s1 f1 n1 k1
  refine wpTake_stepE ⟨some 21, Op.move (Operand.tmp 0), 73, "", #[], some (15, true)⟩ 21 (.pointer (some ⟨sp, 0, none⟩)) HR.out.o16 rfl (by rw [hsz]; decide) (wanted_some rfl (yielded_of HR.out.o15 rfl e20 (by rw [hsz]; decide))) (fun z hS => wt1_16 sp bx t i G gc ln lc bp bl nv mv _ z (fun _ => rfl) e0 hS) ?_
  intro a17 ha17 s1 f1 n1 k1
  replace hsz := s1.trans hsz
  replace hdf := f1.trans hdf
  replace e3 := (k1 3 (by decide)).trans e3
  replace e20 := (k1 20 (by decide)).trans e20
  have e21 := n1
  clear s1 f1 n1 k1
  refine wpTake_stepE ⟨some 22, Op.nilCheck (Operand.tmp 21), 0, "", #[], some (15, true)⟩ 22 (.pointer (some ⟨sp, 0, none⟩)) HR.out.o17 rfl (by rw [hsz]; decide) (wanted_some rfl (yielded_of HR.out.o15 rfl e20 (by rw [hsz]; decide))) (fun z hS => wt1_17 sp bx t i G gc ln lc bp bl nv mv _ z (fun _ => rfl) e21 hS) ?_
  intro a18 ha18 s1 f1 n1 k1
  replace hsz := s1.trans hsz
  replace hdf := f1.trans hdf
  replace e3 := (k1 3 (by decide)).trans e3
  replace e20 := (k1 20 (by decide)).trans e20
  have e22 := n1
  clear s1 f1 n1 k1
  refine wpTake_stepE ⟨some 23, Op.fieldAddr 150 (Operand.tmp 22) 2, 0, "", #[], some (15, true)⟩ 23 (.pointer (some ⟨sp, 2, none⟩)) HR.out.o18 rfl (by rw [hsz]; decide) (wanted_some rfl (yielded_of HR.out.o15 rfl e20 (by rw [hsz]; decide))) (fun z hS => wt1_18 sp bx t i G gc ln lc bp bl nv mv _ z (fun _ => rfl) e22 hS) ?_
  intro a19 ha19 s1 f1 n1 k1
  replace hsz := s1.trans hsz
  replace hdf := f1.trans hdf
  replace e3 := (k1 3 (by decide)).trans e3
  replace e20 := (k1 20 (by decide)).trans e20
  have e23 := n1
  clear s1 f1 n1 k1
  refine wpTake_stepE ⟨some 24, Op.load 27 (Operand.tmp 23), 27, "", #[], some (15, true)⟩ 24 (.slice (some ⟨t, 0, none⟩) G gc) HR.out.o19 rfl (by rw [hsz]; decide) (wanted_some rfl (yielded_of HR.out.o15 rfl e20 (by rw [hsz]; decide))) (fun z hS => wt1_19 sp bx t i G gc ln lc bp bl nv mv _ z (fun _ => rfl) e23 hS) ?_
  intro a20 ha20 s1 f1 n1 k1
  replace hsz := s1.trans hsz
  replace hdf := f1.trans hdf
  replace e3 := (k1 3 (by decide)).trans e3
  replace e20 := (k1 20 (by decide)).trans e20
  have e24 := n1
  clear s1 f1 n1 k1
  refine wpTake_stepE ⟨some 25, Op.fieldAddr 45 (Operand.tmp 3) 6, 0, "", #[], some (15, true)⟩ 25 (.pointer (some ⟨bx, 6, none⟩)) HR.out.o20 rfl (by rw [hsz]; decide) (wanted_some rfl (yielded_of HR.out.o15 rfl e20 (by rw [hsz]; decide))) (fun z hS => wt1_20 sp bx t i G gc ln lc bp bl nv mv _ z (fun _ => rfl) e3 hS) ?_
  intro a21 ha21 s1 f1 n1 k1
  replace hsz := s1.trans hsz
  replace hdf := f1.trans hdf
  replace e20 := (k1 20 (by decide)).trans e20
  replace e24 := (k1 24 (by decide)).trans e24
  have e25 := n1
  clear s1 f1 n1 k1
  refine wpTake_stepE ⟨some 26, Op.load 3 (Operand.tmp 25), 3, "", #[], some (15, true)⟩ 26 (.int .i64 (i : Int)) HR.out.o21 rfl (by rw [hsz]; decide) (wanted_some rfl (yielded_of HR.out.o15 rfl e20 (by rw [hsz]; decide))) (fun z hS => wt1_21 sp bx t i G gc ln lc bp bl nv mv _ z (fun _ => rfl) e25 hS) ?_
  intro a22 ha22 s1 f1 n1 k1
  replace hsz := s1.trans hsz
  replace hdf := f1.trans hdf
  replace e20 := (k1 20 (by decide)).trans e20
  replace e24 := (k1 24 (by decide)).trans e24
  have e26 := n1
  clear s1 f1 n1 k1
  refine wpTake_stepE ⟨some 27, Op.indexAddr 27 (Operand.tmp 24) (Operand.tmp 26), 0, "", #[], some (15, true)⟩ 27 (.pointer (some ⟨t, i, none⟩)) HR.out.o22 rfl (by rw [hsz]; decide) (wanted_some rfl (yielded_of HR.out.o15 rfl e20 (by rw [hsz]; decide))) (fun z hS => wt1_22 sp bx t i G gc ln lc bp bl nv mv _ z (fun _ => rfl) e24 e26 hS) ?_
  intro a23 ha23 s1 f1 n1 k1
  replace hsz := s1.trans hsz
  replace hdf := f1.trans hdf
  replace e20 := (k1 20 (by decide)).trans e20
  have e27 := n1
  clear s1 f1 n1 k1
  refine wpTake_stepE ⟨some 28, Op.load 22 (Operand.tmp 27), 22, "", #[], some (15, true)⟩ 28 (.slice bp ln lc) HR.out.o23 rfl (by rw [hsz]; decide) (wanted_some rfl (yielded_of HR.out.o15 rfl e20 (by rw [hsz]; decide))) (fun z hS => wt1_23 sp bx t i G gc ln lc bp bl nv mv _ z (fun _ => rfl) e27 hS) ?_
  intro a24 ha24 s1 f1 n1 k1
  replace hsz := s1.trans hsz
  replace hdf := f1.trans hdf
  replace e20 := (k1 20 (by decide)).trans e20
  have e28 := n1
  clear s1 f1 n1 k1
  refine wpTake_stepE ⟨some 29, Op.call { callee := Callee.builtin Builtin.len, args := #[Operand.tmp 28], argTypes := #[22] }, 3, "", #[], some (15, true)⟩ 29 (.int .i64 (ln : Int)) HR.out.o24 rfl (by rw [hsz]; decide) (wanted_some rfl (yielded_of HR.out.o15 rfl e20 (by rw [hsz]; decide))) (fun z hS => wt1_24 sp bx t i G gc ln lc bp bl nv mv _ z (fun _ => rfl) e28 hS) ?_
  intro a25 ha25 s1 f1 n1 k1
  replace hsz := s1.trans hsz
  replace hdf := f1.trans hdf
  replace e20 := (k1 20 (by decide)).trans e20
  have e29 := n1
  clear s1 f1 n1 k1
  refine wpTake_stepE ⟨some 30, Op.binOp BinOp.gtr 3 (Operand.tmp 29) (Operand.const (Value.int IntKind.i64 0)) 3, 4, "", #[], some (15, true)⟩ 30 (.bool true) HR.out.o25 rfl (by rw [hsz]; decide) (wanted_some rfl (yielded_of HR.out.o15 rfl e20 (by rw [hsz]; decide))) (fun z hS => wt1_25 sp bx t i G gc ln lc bp bl nv mv _ z (fun _ => rfl) e29 hS) ?_
  intro a26 ha26 s1 f1 n1 k1
  replace hsz := s1.trans hsz
  replace hdf := f1.trans hdf
  replace e20 := (k1 20 (by decide)).trans e20
  have e30 := n1
  clear s1 f1 n1 k1
  refine wpTake_stepE ⟨some 31, Op.pick (Operand.tmp 20) (Operand.tmp 30) (Operand.const (Value.bool false)), 4, "", #[], none⟩ 31 (.bool true) HR.out.o26 rfl (by rw [hsz]; decide) (wanted_none rfl) (fun z hS => wt1_26 sp bx t i G gc ln lc bp bl nv mv _ z (fun _ => rfl) e20 e30 hS) ?_
  intro a27 ha27 s1 f1 n1 k1
  replace hsz := s1.trans hsz
  replace hdf := f1.trans hdf
  have e31 := n1
  clear s1 f1 n1 k1
  refine wpTake_stepE ⟨some 4, Op.assign (Operand.tmp 31), 4, "", #[], none⟩ 4 (.bool true) HR.out.o27 rfl (by rw [hsz]; decide) (wanted_none rfl) (fun z hS => wt1_27 sp bx t i G gc ln lc bp bl nv mv _ z (fun _ => rfl) e31 hS) ?_
  intro a28 ha28 s1 f1 n1 k1
  replace hsz := s1.trans hsz
  replace hdf := f1.trans hdf
  clear s1 f1 n1 k1
  refine wpTake_nil ?_
  refine wpAnyH_done HR.out.fin ?_ _
  rw [ha28, ha27, ha26, ha25, ha24, ha23, ha22, ha21, ha20, ha19, ha18, ha17, ha16, ha15, ha14, ha13, ha12, ha11, ha10, ha9, ha8, ha7, ha6, ha5, ha4, ha3, ha2, ha1]
  exact hK _ hT
-- wt1: ⟨by kernel_rfl, by kernel_rfl, by kernel_rfl, by kernel_rfl, by kernel_rfl, by kernel_rfl, by kernel_rfl, by kernel_rfl, by kernel_rfl, by kernel_rfl, by kernel_rfl, by kernel_rfl, by kernel_rfl, by kernel_rfl, by kernel_rfl, by kernel_rfl, by kernel_rfl, by kernel_rfl, by kernel_rfl, by kernel_rfl, by kernel_rfl, by kernel_rfl, by kernel_rfl, by kernel_rfl, by kernel_rfl, by kernel_rfl, by kernel_rfl, by kernel_rfl, by kernel_rfl, by kernel_rfl, by kernel_rfl, by kernel_rfl, by kernel_rfl, by kernel_rfl⟩

end Go.Proofs.YtmncocmeafcpfaaDoor
