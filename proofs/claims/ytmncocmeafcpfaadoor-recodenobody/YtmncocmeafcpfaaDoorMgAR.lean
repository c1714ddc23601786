/- Texts of this proof, joined: Ze, Ya, Yb, Zc. -/
import Derived.Test.YtmncocmeafcpfaaDoorMgAQ
import Derived.Test.YtmncocmeafcpfaaDoorMgAN
import Derived.Test.YtmncocmeafcpfaaDoorMgAP
import Derived.Lib.MinMax
import Derived.Handy
/- Drawn regions of puts (laid by scripts/mkze.py). -/
namespace Go.Proofs.YtmncocmeafcpfaaDoor
set_option linter.unusedVariables false
set_option linter.unusedSimpArgs false
open Go.RowKit Go.Deep

theorem cn5_s1 (c n : Nat) (v : Value) (ev : Operand → Value) (z : World) (e61 : ev (.tmp 61) = .pointer (some ⟨c, 10, none⟩)) (e55 : ev (.tmp 55) = .int .i64 (n : Int)) (hc : z.cell? ⟨c, 10, none⟩ = some v) (hf : z.frozen? ⟨c, 10, none⟩ = false) : (execOp ev ⟨none, Op.store 3 (Operand.tmp 61) (Operand.tmp 55), 0, "", #[], none⟩).run Tryd.prog z = .ok .skip (z.setCell ⟨c, 10, none⟩ (.int .i64 (n : Int))) := by go_simp
theorem cn5_s2 (c : Nat) (sm : Int) (v : Value) (ev : Operand → Value) (z : World) (e64 : ev (.tmp 64) = .pointer (some ⟨c, 11, none⟩)) (e58 : ev (.tmp 58) = .int .u32 sm) (hc : z.cell? ⟨c, 11, none⟩ = some v) (hf : z.frozen? ⟨c, 11, none⟩ = false) : (execOp ev ⟨none, Op.store 31 (Operand.tmp 64) (Operand.tmp 58), 0, "", #[], none⟩).run Tryd.prog z = .ok .skip (z.setCell ⟨c, 11, none⟩ (.int .u32 sm)) := by go_simp
theorem cn5_0 (bx c n cp : Nat) (p : Option Addr) (sm : Int) (v10 v11 : Value) (ev : Operand → Value) (z : World) (ec : ∀ c, ev (.const c) = c) (e10 : ev (.tmp 10) = .pointer (some ⟨c, 0, none⟩)) (hS : z.cell? ⟨bx, 3, none⟩ = some (.slice p n cp)) : (execOp ev ⟨some 51, Op.move (Operand.tmp 10), 83, "", #[], none⟩).run Tryd.prog z = .ok (.value (.pointer (some ⟨c, 0, none⟩))) z := by
  obtain sa := hS
  go_simp
theorem cn5_1 (bx c n cp : Nat) (p : Option Addr) (sm : Int) (v10 v11 : Value) (ev : Operand → Value) (z : World) (ec : ∀ c, ev (.const c) = c) (e10 : ev (.tmp 10) = .pointer (some ⟨c, 0, none⟩)) (hS : z.cell? ⟨bx, 3, none⟩ = some (.slice p n cp)) : (execOp ev ⟨some 52, Op.move (Operand.tmp 10), 83, "", #[], none⟩).run Tryd.prog z = .ok (.value (.pointer (some ⟨c, 0, none⟩))) z := by
  obtain sa := hS
  go_simp
theorem cn5_2 (bx c n cp : Nat) (p : Option Addr) (sm : Int) (v10 v11 : Value) (ev : Operand → Value) (z : World) (ec : ∀ c, ev (.const c) = c) (e5 : ev (.tmp 5) = .pointer (some ⟨bx, 0, none⟩)) (hS : z.cell? ⟨bx, 3, none⟩ = some (.slice p n cp)) : (execOp ev ⟨some 53, Op.fieldAddr 81 (Operand.tmp 5) 3, 0, "", #[], none⟩).run Tryd.prog z = .ok (.value (.pointer (some ⟨bx, 3, none⟩))) z := by
  obtain sa := hS
  go_simp
theorem cn5_3 (bx c n cp : Nat) (p : Option Addr) (sm : Int) (v10 v11 : Value) (ev : Operand → Value) (z : World) (ec : ∀ c, ev (.const c) = c) (e53 : ev (.tmp 53) = .pointer (some ⟨bx, 3, none⟩)) (hS : z.cell? ⟨bx, 3, none⟩ = some (.slice p n cp)) : (execOp ev ⟨some 54, Op.load 22 (Operand.tmp 53), 22, "", #[], none⟩).run Tryd.prog z = .ok (.value (.slice p n cp)) z := by
  obtain sa := hS
  go_simp
theorem cn5_4 (bx c n cp : Nat) (p : Option Addr) (sm : Int) (v10 v11 : Value) (ev : Operand → Value) (z : World) (ec : ∀ c, ev (.const c) = c) (e54 : ev (.tmp 54) = .slice p n cp) (hS : z.cell? ⟨bx, 3, none⟩ = some (.slice p n cp)) : (execOp ev ⟨some 55, Op.call { callee := Callee.builtin Builtin.len, args := #[Operand.tmp 54], argTypes := #[22] }, 3, "", #[], none⟩).run Tryd.prog z = .ok (.value (.int .i64 (n : Int))) z := by
  obtain sa := hS
  go_simp
theorem cn5_5 (bx c n cp : Nat) (p : Option Addr) (sm : Int) (v10 v11 : Value) (ev : Operand → Value) (z : World) (ec : ∀ c, ev (.const c) = c) (e5 : ev (.tmp 5) = .pointer (some ⟨bx, 0, none⟩)) (hS : z.cell? ⟨bx, 3, none⟩ = some (.slice p n cp)) : (execOp ev ⟨some 56, Op.fieldAddr 81 (Operand.tmp 5) 3, 0, "", #[], none⟩).run Tryd.prog z = .ok (.value (.pointer (some ⟨bx, 3, none⟩))) z := by
  obtain sa := hS
  go_simp
theorem cn5_6 (bx c n cp : Nat) (p : Option Addr) (sm : Int) (v10 v11 : Value) (ev : Operand → Value) (z : World) (ec : ∀ c, ev (.const c) = c) (e56 : ev (.tmp 56) = .pointer (some ⟨bx, 3, none⟩)) (hS : z.cell? ⟨bx, 3, none⟩ = some (.slice p n cp)) : (execOp ev ⟨some 57, Op.load 22 (Operand.tmp 56), 22, "", #[], none⟩).run Tryd.prog z = .ok (.value (.slice p n cp)) z := by
  obtain sa := hS
  go_simp
set_option maxRecDepth 100000 in
theorem cn5_7 (bx c n cp : Nat) (p : Option Addr) (sm : Int) (v10 v11 : Value) (ev : Operand → Value) (z : World) (ec : ∀ c, ev (.const c) = c) (ef : ev (.func 70) = .func (.func 70) #[] #[]) (e57 : ev (.tmp 57) = .slice p n cp) : (execOp ev ⟨some 58, Op.call { callee := Callee.value (Operand.func 70), args := #[Operand.tmp 57], argTypes := #[22] }, 31, "", #[], none⟩).run Tryd.prog z = .ok (.enter 70 #[.slice p n cp]) z :=
  enter_run _ ef (by simp only [List.map_toArray, List.map_cons, List.map_nil, ec, e57]) (fun _ => by rfl)
theorem cn5_8 (bx c n cp : Nat) (p : Option Addr) (sm : Int) (v10 v11 : Value) (ev : Operand → Value) (z : World) (ec : ∀ c, ev (.const c) = c) (e51 : ev (.tmp 51) = .pointer (some ⟨c, 0, none⟩)) (hS : z.cell? ⟨bx, 3, none⟩ = some (.slice p n cp)) : (execOp ev ⟨some 59, Op.nilCheck (Operand.tmp 51), 0, "", #[], none⟩).run Tryd.prog z = .ok (.value (.pointer (some ⟨c, 0, none⟩))) z := by
  obtain sa := hS
  go_simp
theorem cn5_9 (bx c n cp : Nat) (p : Option Addr) (sm : Int) (v10 v11 : Value) (ev : Operand → Value) (z : World) (ec : ∀ c, ev (.const c) = c) (e59 : ev (.tmp 59) = .pointer (some ⟨c, 0, none⟩)) (hS : z.cell? ⟨bx, 3, none⟩ = some (.slice p n cp)) : (execOp ev ⟨some 60, Op.fieldAddr 106 (Operand.tmp 59) 3, 0, "", #[], none⟩).run Tryd.prog z = .ok (.value (.pointer (some ⟨c, 3, none⟩))) z := by
  obtain sa := hS
  go_simp
theorem cn5_10 (bx c n cp : Nat) (p : Option Addr) (sm : Int) (v10 v11 : Value) (ev : Operand → Value) (z : World) (ec : ∀ c, ev (.const c) = c) (e60 : ev (.tmp 60) = .pointer (some ⟨c, 3, none⟩)) (hS : z.cell? ⟨bx, 3, none⟩ = some (.slice p n cp)) : (execOp ev ⟨some 61, Op.fieldAddr 42 (Operand.tmp 60) 7, 0, "", #[], none⟩).run Tryd.prog z = .ok (.value (.pointer (some ⟨c, 10, none⟩))) z := by
  obtain sa := hS
  go_simp
theorem cn5_12 (bx c n cp : Nat) (p : Option Addr) (sm : Int) (v10 v11 : Value) (ev : Operand → Value) (z : World) (ec : ∀ c, ev (.const c) = c) (e52 : ev (.tmp 52) = .pointer (some ⟨c, 0, none⟩)) (hS : z.cell? ⟨bx, 3, none⟩ = some (.slice p n cp)) : (execOp ev ⟨some 62, Op.nilCheck (Operand.tmp 52), 0, "", #[], none⟩).run Tryd.prog z = .ok (.value (.pointer (some ⟨c, 0, none⟩))) z := by
  obtain sa := hS
  go_simp
theorem cn5_13 (bx c n cp : Nat) (p : Option Addr) (sm : Int) (v10 v11 : Value) (ev : Operand → Value) (z : World) (ec : ∀ c, ev (.const c) = c) (e62 : ev (.tmp 62) = .pointer (some ⟨c, 0, none⟩)) (hS : z.cell? ⟨bx, 3, none⟩ = some (.slice p n cp)) : (execOp ev ⟨some 63, Op.fieldAddr 106 (Operand.tmp 62) 3, 0, "", #[], none⟩).run Tryd.prog z = .ok (.value (.pointer (some ⟨c, 3, none⟩))) z := by
  obtain sa := hS
  go_simp
theorem cn5_14 (bx c n cp : Nat) (p : Option Addr) (sm : Int) (v10 v11 : Value) (ev : Operand → Value) (z : World) (ec : ∀ c, ev (.const c) = c) (e63 : ev (.tmp 63) = .pointer (some ⟨c, 3, none⟩)) (hS : z.cell? ⟨bx, 3, none⟩ = some (.slice p n cp)) : (execOp ev ⟨some 64, Op.fieldAddr 42 (Operand.tmp 63) 8, 0, "", #[], none⟩).run Tryd.prog z = .ok (.value (.pointer (some ⟨c, 11, none⟩))) z := by
  obtain sa := hS
  go_simp
structure cn5R (ops : Array Oper) : Prop where
  size : ops.size = 16
  sel : Region.noSelect ops = true
  o0 : (ops[0]?).map bare = some ⟨some 51, Op.move (Operand.tmp 10), 83, "", #[], none⟩
  o1 : (ops[1]?).map bare = some ⟨some 52, Op.move (Operand.tmp 10), 83, "", #[], none⟩
  o2 : (ops[2]?).map bare = some ⟨some 53, Op.fieldAddr 81 (Operand.tmp 5) 3, 0, "", #[], none⟩
  o3 : (ops[3]?).map bare = some ⟨some 54, Op.load 22 (Operand.tmp 53), 22, "", #[], none⟩
  o4 : (ops[4]?).map bare = some ⟨some 55, Op.call { callee := Callee.builtin Builtin.len, args := #[Operand.tmp 54], argTypes := #[22] }, 3, "", #[], none⟩
  o5 : (ops[5]?).map bare = some ⟨some 56, Op.fieldAddr 81 (Operand.tmp 5) 3, 0, "", #[], none⟩
  o6 : (ops[6]?).map bare = some ⟨some 57, Op.load 22 (Operand.tmp 56), 22, "", #[], none⟩
  o7 : (ops[7]?).map bare = some ⟨some 58, Op.call { callee := Callee.value (Operand.func 70), args := #[Operand.tmp 57], argTypes := #[22] }, 31, "", #[], none⟩
  o8 : (ops[8]?).map bare = some ⟨some 59, Op.nilCheck (Operand.tmp 51), 0, "", #[], none⟩
  o9 : (ops[9]?).map bare = some ⟨some 60, Op.fieldAddr 106 (Operand.tmp 59) 3, 0, "", #[], none⟩
  o10 : (ops[10]?).map bare = some ⟨some 61, Op.fieldAddr 42 (Operand.tmp 60) 7, 0, "", #[], none⟩
  o11 : (ops[11]?).map bare = some ⟨none, Op.store 3 (Operand.tmp 61) (Operand.tmp 55), 0, "", #[], none⟩
  o12 : (ops[12]?).map bare = some ⟨some 62, Op.nilCheck (Operand.tmp 52), 0, "", #[], none⟩
  o13 : (ops[13]?).map bare = some ⟨some 63, Op.fieldAddr 106 (Operand.tmp 62) 3, 0, "", #[], none⟩
  o14 : (ops[14]?).map bare = some ⟨some 64, Op.fieldAddr 42 (Operand.tmp 63) 8, 0, "", #[], none⟩
  o15 : (ops[15]?).map bare = some ⟨none, Op.store 31 (Operand.tmp 64) (Operand.tmp 58), 0, "", #[], none⟩
  may0 : takeB .any ops [0, 1, 2, 3, 4, 5, 6] (Array.replicate 16 false) = true
  r7 : Region.ready .any ops (mark [0, 1, 2, 3, 4, 5, 6] (Array.replicate 16 false)) = [7]
  may1 : takeB .any ops [8, 9, 10] ((mark [0, 1, 2, 3, 4, 5, 6] (Array.replicate 16 false)).setIfInBounds 7 true) = true
  r11 : Region.ready .any ops (mark [8, 9, 10] ((mark [0, 1, 2, 3, 4, 5, 6] (Array.replicate 16 false)).setIfInBounds 7 true)) = [11]
  may2 : takeB .any ops [12, 13, 14] ((mark [8, 9, 10] ((mark [0, 1, 2, 3, 4, 5, 6] (Array.replicate 16 false)).setIfInBounds 7 true)).setIfInBounds 11 true) = true
  r15 : Region.ready .any ops (mark [12, 13, 14] ((mark [8, 9, 10] ((mark [0, 1, 2, 3, 4, 5, 6] (Array.replicate 16 false)).setIfInBounds 7 true)).setIfInBounds 11 true)) = [15]
  fin : Region.ready .any ops ((mark [12, 13, 14] ((mark [8, 9, 10] ((mark [0, 1, 2, 3, 4, 5, 6] (Array.replicate 16 false)).setIfInBounds 7 true)).setIfInBounds 11 true)).setIfInBounds 15 true) = []

set_option maxRecDepth 100000 in
set_option maxHeartbeats 3200000 in
theorem cn5_region {ops : Array Oper} {id : Nat} {Q : Exit → Act → World → Prop} {a : Act} {y : World} (R : cn5R ops) (bx c n cp : Nat) (p : Option Addr) (sm : Int) (v10 v11 : Value)
    (hQ : ∀ d v c a w, Q (.panic c) (a.put d v) w → Q (.panic c) a w) (hsz : a.tmps.size = 73) (e5 : a.eval (.tmp 5) = .pointer (some ⟨bx, 0, none⟩)) (e10 : a.eval (.tmp 10) = .pointer (some ⟨c, 0, none⟩)) (hS0 : (y.drew.cell? ⟨bx, 3, none⟩ = some (.slice p n cp))) (hS1 : ((y.drew.setCell ⟨c, 10, none⟩ (.int .i64 (n : Int))).cell? ⟨bx, 3, none⟩ = some (.slice p n cp))) (hS2 : (((y.drew.setCell ⟨c, 10, none⟩ (.int .i64 (n : Int))).setCell ⟨c, 11, none⟩ (.int .u32 sm)).cell? ⟨bx, 3, none⟩ = some (.slice p n cp))) (c10 : y.drew.cell? ⟨c, 10, none⟩ = some v10) (f10 : y.drew.frozen? ⟨c, 10, none⟩ = false) (c11 : (y.drew.setCell ⟨c, 10, none⟩ (.int .i64 (n : Int))).cell? ⟨c, 11, none⟩ = some v11) (f11 : (y.drew.setCell ⟨c, 10, none⟩ (.int .i64 (n : Int))).frozen? ⟨c, 11, none⟩ = false) (hc : Calls Tryd.prog 70 #[.slice p n cp] y.drew fun e w9 => e = .returned (.int .u32 sm) ∧ w9 = y.drew)
    (hK :  Q .normal ((((((((((((((a.put (some 51) (.pointer (some ⟨c, 0, none⟩))).put (some 52) (.pointer (some ⟨c, 0, none⟩))).put (some 53) (.pointer (some ⟨bx, 3, none⟩))).put (some 54) (.slice p n cp)).put (some 55) (.int .i64 (n : Int))).put (some 56) (.pointer (some ⟨bx, 3, none⟩))).put (some 57) (.slice p n cp)).put (some 58) (.int .u32 sm)).put (some 59) (.pointer (some ⟨c, 0, none⟩))).put (some 60) (.pointer (some ⟨c, 3, none⟩))).put (some 61) (.pointer (some ⟨c, 10, none⟩))).put (some 62) (.pointer (some ⟨c, 0, none⟩))).put (some 63) (.pointer (some ⟨c, 3, none⟩))).put (some 64) (.pointer (some ⟨c, 11, none⟩))) ((y.drew.setCell ⟨c, 10, none⟩ (.int .i64 (n : Int))).setCell ⟨c, 11, none⟩ (.int .u32 sm))) : (Code.region id ops true).wp Tryd.prog Q a y := by
  have HR : Hid (cn5R ops) := R
  have hdf : a.defers = a.defers := rfl
  refine wp_region_held_drew (S := (fun z : World => z.cell? ⟨bx, 3, none⟩ = some (.slice p n cp))) (by kernel_rfl) (hS0) (fun hHeld => ?_)
  rw [R.size]
  clear R
  refine wpAnyH_takes HR.out.sel hQ hHeld [0, 1, 2, 3, 4, 5, 6] 9 _ _ HR.out.may0 ?_
  refine wpTake_stepE ⟨some 51, Op.move (Operand.tmp 10), 83, "", #[], none⟩ 51 (.pointer (some ⟨c, 0, none⟩)) HR.out.o0 rfl (by rw [hsz]; decide) (wanted_none rfl) (fun z hS => cn5_0 bx c n cp p sm v10 v11 _ z (fun _ => rfl) e10 hS) ?_
  intro a1 ha1 s1 f1 n1 k1
  replace hsz := s1.trans hsz
  replace hdf := f1.trans hdf
  replace e5 := (k1 5 (by decide)).trans e5
  replace e10 := (k1 10 (by decide)).trans e10
  have e51 := n1
  clear s1 f1 n1 k1
  refine wpTake_stepE ⟨some 52, Op.move (Operand.tmp 10), 83, "", #[], none⟩ 52 (.pointer (some ⟨c, 0, none⟩)) HR.out.o1 rfl (by rw [hsz]; decide) (wanted_none rfl) (fun z hS => cn5_1 bx c n cp p sm v10 v11 _ z (fun _ => rfl) e10 hS) ?_
  intro a2 ha2 s1 f1 n1 k1
  replace hsz := s1.trans hsz
  replace hdf := f1.trans hdf
  replace e5 := (k1 5 (by decide)).trans e5
  replace e10 := (k1 10 (by decide)).trans e10
  replace e51 := (k1 51 (by decide)).trans e51
  have e52 := n1
  clear s1 f1 n1 k1
  refine wpTake_stepE ⟨some 53, Op.fieldAddr 81 (Operand.tmp 5) 3, 0, "", #[], none⟩ 53 (.pointer (some ⟨bx, 3, none⟩)) HR.out.o2 rfl (by rw [hsz]; decide) (wanted_none rfl) (fun z hS => cn5_2 bx c n cp p sm v10 v11 _ z (fun _ => rfl) e5 hS) ?_
  intro a3 ha3 s1 f1 n1 k1
  replace hsz := s1.trans hsz
  replace hdf := f1.trans hdf
  replace e5 := (k1 5 (by decide)).trans e5
  replace e10 := (k1 10 (by decide)).trans e10
  replace e51 := (k1 51 (by decide)).trans e51
  replace e52 := (k1 52 (by decide)).trans e52
  have e53 := n1
  clear s1 f1 n1 k1
  refine wpTake_stepE ⟨some 54, Op.load 22 (Operand.tmp 53), 22, "", #[], none⟩ 54 (.slice p n cp) HR.out.o3 rfl (by rw [hsz]; decide) (wanted_none rfl) (fun z hS => cn5_3 bx c n cp p sm v10 v11 _ z (fun _ => rfl) e53 hS) ?_
  intro a4 ha4 s1 f1 n1 k1
  replace hsz := s1.trans hsz
  replace hdf := f1.trans hdf
  replace e5 := (k1 5 (by decide)).trans e5
  replace e10 := (k1 10 (by decide)).trans e10
  replace e51 := (k1 51 (by decide)).trans e51
  replace e52 := (k1 52 (by decide)).trans e52
  have e54 := n1
  clear s1 f1 n1 k1
  refine wpTake_stepE ⟨some 55, Op.call { callee := Callee.builtin Builtin.len, args := #[Operand.tmp 54], argTypes := #[22] }, 3, "", #[], none⟩ 55 (.int .i64 (n : Int)) HR.out.o4 rfl (by rw [hsz]; decide) (wanted_none rfl) (fun z hS => cn5_4 bx c n cp p sm v10 v11 _ z (fun _ => rfl) e54 hS) ?_
  intro a5 ha5 s1 f1 n1 k1
  replace hsz := s1.trans hsz
  replace hdf := f1.trans hdf
  replace e5 := (k1 5 (by decide)).trans e5
  replace e10 := (k1 10 (by decide)).trans e10
  replace e51 := (k1 51 (by decide)).trans e51
  replace e52 := (k1 52 (by decide)).trans e52
  have e55 := n1
  clear s1 f1 n1 k1
  refine wpTake_stepE ⟨some 56, Op.fieldAddr 81 (Operand.tmp 5) 3, 0, "", #[], none⟩ 56 (.pointer (some ⟨bx, 3, none⟩)) HR.out.o5 rfl (by rw [hsz]; decide) (wanted_none rfl) (fun z hS => cn5_5 bx c n cp p sm v10 v11 _ z (fun _ => rfl) e5 hS) ?_
  intro a6 ha6 s1 f1 n1 k1
  replace hsz := s1.trans hsz
  replace hdf := f1.trans hdf
  replace e5 := (k1 5 (by decide)).trans e5
  replace e10 := (k1 10 (by decide)).trans e10
  replace e51 := (k1 51 (by decide)).trans e51
  replace e52 := (k1 52 (by decide)).trans e52
  replace e55 := (k1 55 (by decide)).trans e55
  have e56 := n1
  clear s1 f1 n1 k1
  refine wpTake_stepE ⟨some 57, Op.load 22 (Operand.tmp 56), 22, "", #[], none⟩ 57 (.slice p n cp) HR.out.o6 rfl (by rw [hsz]; decide) (wanted_none rfl) (fun z hS => cn5_6 bx c n cp p sm v10 v11 _ z (fun _ => rfl) e56 hS) ?_
  intro a7 ha7 s1 f1 n1 k1
  replace hsz := s1.trans hsz
  replace hdf := f1.trans hdf
  replace e5 := (k1 5 (by decide)).trans e5
  replace e10 := (k1 10 (by decide)).trans e10
  replace e51 := (k1 51 (by decide)).trans e51
  replace e52 := (k1 52 (by decide)).trans e52
  replace e55 := (k1 55 (by decide)).trans e55
  have e57 := n1
  clear s1 f1 n1 k1
  refine wpTake_nil ?_
  refine wpAnyH_one ⟨some 58, Op.call { callee := Callee.value (Operand.func 70), args := #[Operand.tmp 57], argTypes := #[22] }, 31, "", #[], none⟩ HR.out.r7 HR.out.o7 rfl (fun K' hK' => ?_)
  refine wp_enter (cn5_7 bx c n cp p sm v10 v11 _ _ (fun _ => rfl) rfl e57) (hc) ?_
  rintro e9 w9 ⟨rfl, rfl⟩
  refine ⟨_, rfl, hK'.out _ _ (hS0) ?_⟩
  replace hHeld := hS0
  clear hK' K'
  show wpAnyH _ _ _ _ _ _ _ (Act.put a7 (some 58) (.int .u32 sm)) _
  obtain ⟨s1, f1, n1, k1⟩ := act_put a7 58 (.int .u32 sm) (show 58 < _ by rw [hsz]; decide)
  obtain ⟨a8, ha8⟩ : ∃ x, x = Act.put a7 (some 58) (.int .u32 sm) := ⟨_, rfl⟩
  rw [← ha8] at s1 f1 n1 k1 ⊢
  replace hsz := s1.trans hsz
  replace hdf := f1.trans hdf
  replace e5 := (k1 5 (by decide)).trans e5
  replace e10 := (k1 10 (by decide)).trans e10
  replace e51 := (k1 51 (by decide)).trans e51
  replace e52 := (k1 52 (by decide)).trans e52
  replace e55 := (k1 55 (by decide)).trans e55
  have e58 := n1
  clear s1 f1 n1 k1
  refine wpAnyH_takes HR.out.sel hQ hHeld [8, 9, 10] 5 _ _ HR.out.may1 ?_
  refine wpTake_stepE ⟨some 59, Op.nilCheck (Operand.tmp 51), 0, "", #[], none⟩ 59 (.pointer (some ⟨c, 0, none⟩)) HR.out.o8 rfl (by rw [hsz]; decide) (wanted_none rfl) (fun z hS => cn5_8 bx c n cp p sm v10 v11 _ z (fun _ => rfl) e51 hS) ?_
  intro a9 ha9 s1 f1 n1 k1
  replace hsz := s1.trans hsz
  replace hdf := f1.trans hdf
  replace e5 := (k1 5 (by decide)).trans e5
  replace e10 := (k1 10 (by decide)).trans e10
  replace e52 := (k1 52 (by decide)).trans e52
  replace e55 := (k1 55 (by decide)).trans e55
  replace e58 := (k1 58 (by decide)).trans e58
  have e59 := n1
  clear s1 f1 n1 k1
  refine wpTake_stepE ⟨some 60, Op.fieldAddr 106 (Operand.tmp 59) 3, 0, "", #[], none⟩ 60 (.pointer (some ⟨c, 3, none⟩)) HR.out.o9 rfl (by rw [hsz]; decide) (wanted_none rfl) (fun z hS => cn5_9 bx c n cp p sm v10 v11 _ z (fun _ => rfl) e59 hS) ?_
  intro a10 ha10 s1 f1 n1 k1
  replace hsz := s1.trans hsz
  replace hdf := f1.trans hdf
  replace e5 := (k1 5 (by decide)).trans e5
  replace e10 := (k1 10 (by decide)).trans e10
  replace e52 := (k1 52 (by decide)).trans e52
  replace e55 := (k1 55 (by decide)).trans e55
  replace e58 := (k1 58 (by decide)).trans e58
  have e60 := n1
  clear s1 f1 n1 k1
  refine wpTake_stepE ⟨some 61, Op.fieldAddr 42 (Operand.tmp 60) 7, 0, "", #[], none⟩ 61 (.pointer (some ⟨c, 10, none⟩)) HR.out.o10 rfl (by rw [hsz]; decide) (wanted_none rfl) (fun z hS => cn5_10 bx c n cp p sm v10 v11 _ z (fun _ => rfl) e60 hS) ?_
  intro a11 ha11 s1 f1 n1 k1
  replace hsz := s1.trans hsz
  replace hdf := f1.trans hdf
  replace e5 := (k1 5 (by decide)).trans e5
  replace e10 := (k1 10 (by decide)).trans e10
  replace e52 := (k1 52 (by decide)).trans e52
  replace e55 := (k1 55 (by decide)).trans e55
  replace e58 := (k1 58 (by decide)).trans e58
  have e61 := n1
  clear s1 f1 n1 k1
  refine wpTake_nil ?_
  refine wpAnyH_skip ⟨none, Op.store 3 (Operand.tmp 61) (Operand.tmp 55), 0, "", #[], none⟩ (y.drew.setCell ⟨c, 10, none⟩ (.int .i64 (n : Int))) HR.out.r11 HR.out.o11 rfl rfl (cn5_s1 c n v10 _ _ e61 e55 c10 f10) (hS1) ?_
  replace hHeld := hS1
  refine wpAnyH_takes HR.out.sel hQ hHeld [12, 13, 14] 1 _ _ HR.out.may2 ?_
  refine wpTake_stepE ⟨some 62, Op.nilCheck (Operand.tmp 52), 0, "", #[], none⟩ 62 (.pointer (some ⟨c, 0, none⟩)) HR.out.o12 rfl (by rw [hsz]; decide) (wanted_none rfl) (fun z hS => cn5_12 bx c n cp p sm v10 v11 _ z (fun _ => rfl) e52 hS) ?_
  intro a12 ha12 s1 f1 n1 k1
  replace hsz := s1.trans hsz
  replace hdf := f1.trans hdf
  replace e5 := (k1 5 (by decide)).trans e5
  replace e10 := (k1 10 (by decide)).trans e10
  replace e58 := (k1 58 (by decide)).trans e58
  have e62 := n1
  clear s1 f1 n1 k1
  refine wpTake_stepE ⟨some 63, Op.fieldAddr 106 (Operand.tmp 62) 3, 0, "", #[], none⟩ 63 (.pointer (some ⟨c, 3, none⟩)) HR.out.o13 rfl (by rw [hsz]; decide) (wanted_none rfl) (fun z hS => cn5_13 bx c n cp p sm v10 v11 _ z (fun _ => rfl) e62 hS) ?_
  intro a13 ha13 s1 f1 n1 k1
  replace hsz := s1.trans hsz
  replace hdf := f1.trans hdf
  replace e5 := (k1 5 (by decide)).trans e5
  replace e10 := (k1 10 (by decide)).trans e10
  replace e58 := (k1 58 (by decide)).trans e58
  have e63 := n1
  clear s1 f1 n1 k1
  refine wpTake_stepE ⟨some 64, Op.fieldAddr 42 (Operand.tmp 63) 8, 0, "", #[], none⟩ 64 (.pointer (some ⟨c, 11, none⟩)) HR.out.o14 rfl (by rw [hsz]; decide) (wanted_none rfl) (fun z hS => cn5_14 bx c n cp p sm v10 v11 _ z (fun _ => rfl) e63 hS) ?_
  intro a14 ha14 s1 f1 n1 k1
  replace hsz := s1.trans hsz
  replace hdf := f1.trans hdf
  replace e5 := (k1 5 (by decide)).trans e5
  replace e10 := (k1 10 (by decide)).trans e10
  replace e58 := (k1 58 (by decide)).trans e58
  have e64 := n1
  clear s1 f1 n1 k1
  refine wpTake_nil ?_
  refine wpAnyH_skip ⟨none, Op.store 31 (Operand.tmp 64) (Operand.tmp 58), 0, "", #[], none⟩ ((y.drew.setCell ⟨c, 10, none⟩ (.int .i64 (n : Int))).setCell ⟨c, 11, none⟩ (.int .u32 sm)) HR.out.r15 HR.out.o15 rfl rfl (cn5_s2 c sm v11 _ _ e64 e58 c11 f11) (hS2) ?_
  replace hHeld := hS2
  refine wpAnyH_done HR.out.fin ?_ _
  rw [ha14, ha13, ha12, ha11, ha10, ha9, ha8, ha7, ha6, ha5, ha4, ha3, ha2, ha1]
  exact hK
-- cn5: ⟨by kernel_rfl, by kernel_rfl, by kernel_rfl, by kernel_rfl, by kernel_rfl, by kernel_rfl, by kernel_rfl, by kernel_rfl, by kernel_rfl, by kernel_rfl, by kernel_rfl, by kernel_rfl, by kernel_rfl, by kernel_rfl, by kernel_rfl, by kernel_rfl, by kernel_rfl, by kernel_rfl, by kernel_rfl, by kernel_rfl, by kernel_rfl, by kernel_rfl, by kernel_rfl, by kernel_rfl, by kernel_rfl⟩

theorem pl3_0 (c bx K M : Nat) (sz : Int) (nv : Value) (ev : Operand → Value) (z : World) (ec : ∀ c, ev (.const c) = c) (e0 : ev (.tmp 0) = .pointer (some ⟨c, 0, none⟩)) (hS : z.cell? ⟨c, 15, none⟩ = some (.bool false) ∧ z.cell? ⟨c, 4, none⟩ = some (.int .i64 1) ∧ z.cell? ⟨c, 10, none⟩ = some (.int .i64 sz) ∧ (loadVar 26 ⟨bx, 0, none⟩).run Tryd.prog z = .ok (.agg #[.int .i64 (K : Int), .int .i64 (M : Int)]) z) : (execOp ev ⟨some 10, Op.move (Operand.tmp 0), 83, "", #[], none⟩).run Tryd.prog z = .ok (.value (.pointer (some ⟨c, 0, none⟩))) z := by
  obtain ⟨sa, sb, sc, sd⟩ := hS
  go_simp
theorem pl3_1 (c bx K M : Nat) (sz : Int) (nv : Value) (ev : Operand → Value) (z : World) (ec : ∀ c, ev (.const c) = c) (e10 : ev (.tmp 10) = .pointer (some ⟨c, 0, none⟩)) (hS : z.cell? ⟨c, 15, none⟩ = some (.bool false) ∧ z.cell? ⟨c, 4, none⟩ = some (.int .i64 1) ∧ z.cell? ⟨c, 10, none⟩ = some (.int .i64 sz) ∧ (loadVar 26 ⟨bx, 0, none⟩).run Tryd.prog z = .ok (.agg #[.int .i64 (K : Int), .int .i64 (M : Int)]) z) : (execOp ev ⟨some 11, Op.nilCheck (Operand.tmp 10), 0, "", #[], none⟩).run Tryd.prog z = .ok (.value (.pointer (some ⟨c, 0, none⟩))) z := by
  obtain ⟨sa, sb, sc, sd⟩ := hS
  go_simp
theorem pl3_2 (c bx K M : Nat) (sz : Int) (nv : Value) (ev : Operand → Value) (z : World) (ec : ∀ c, ev (.const c) = c) (e11 : ev (.tmp 11) = .pointer (some ⟨c, 0, none⟩)) (hS : z.cell? ⟨c, 15, none⟩ = some (.bool false) ∧ z.cell? ⟨c, 4, none⟩ = some (.int .i64 1) ∧ z.cell? ⟨c, 10, none⟩ = some (.int .i64 sz) ∧ (loadVar 26 ⟨bx, 0, none⟩).run Tryd.prog z = .ok (.agg #[.int .i64 (K : Int), .int .i64 (M : Int)]) z) : (execOp ev ⟨some 12, Op.fieldAddr 106 (Operand.tmp 11) 4, 0, "", #[], none⟩).run Tryd.prog z = .ok (.value (.pointer (some ⟨c, 15, none⟩))) z := by
  obtain ⟨sa, sb, sc, sd⟩ := hS
  go_simp
theorem pl3_3 (c bx K M : Nat) (sz : Int) (nv : Value) (ev : Operand → Value) (z : World) (ec : ∀ c, ev (.const c) = c) (e12 : ev (.tmp 12) = .pointer (some ⟨c, 15, none⟩)) (hS : z.cell? ⟨c, 15, none⟩ = some (.bool false) ∧ z.cell? ⟨c, 4, none⟩ = some (.int .i64 1) ∧ z.cell? ⟨c, 10, none⟩ = some (.int .i64 sz) ∧ (loadVar 26 ⟨bx, 0, none⟩).run Tryd.prog z = .ok (.agg #[.int .i64 (K : Int), .int .i64 (M : Int)]) z) : (execOp ev ⟨some 13, Op.load 4 (Operand.tmp 12), 4, "", #[], none⟩).run Tryd.prog z = .ok (.value (.bool false)) z := by
  obtain ⟨sa, sb, sc, sd⟩ := hS
  go_simp
theorem pl3_4 (c bx K M : Nat) (sz : Int) (nv : Value) (ev : Operand → Value) (z : World) (ec : ∀ c, ev (.const c) = c) (e13 : ev (.tmp 13) = .bool false) (hS : z.cell? ⟨c, 15, none⟩ = some (.bool false) ∧ z.cell? ⟨c, 4, none⟩ = some (.int .i64 1) ∧ z.cell? ⟨c, 10, none⟩ = some (.int .i64 sz) ∧ (loadVar 26 ⟨bx, 0, none⟩).run Tryd.prog z = .ok (.agg #[.int .i64 (K : Int), .int .i64 (M : Int)]) z) : (execOp ev ⟨some 14, Op.move (Operand.tmp 13), 4, "", #[], none⟩).run Tryd.prog z = .ok (.value (.bool false)) z := by
  obtain ⟨sa, sb, sc, sd⟩ := hS
  go_simp
theorem pl3_5 (c bx K M : Nat) (sz : Int) (nv : Value) (ev : Operand → Value) (z : World) (ec : ∀ c, ev (.const c) = c) (e0 : ev (.tmp 0) = .pointer (some ⟨c, 0, none⟩)) (hS : z.cell? ⟨c, 15, none⟩ = some (.bool false) ∧ z.cell? ⟨c, 4, none⟩ = some (.int .i64 1) ∧ z.cell? ⟨c, 10, none⟩ = some (.int .i64 sz) ∧ (loadVar 26 ⟨bx, 0, none⟩).run Tryd.prog z = .ok (.agg #[.int .i64 (K : Int), .int .i64 (M : Int)]) z) : (execOp ev ⟨some 15, Op.move (Operand.tmp 0), 83, "", #[], some (4, false)⟩).run Tryd.prog z = .ok (.value (.pointer (some ⟨c, 0, none⟩))) z := by
  obtain ⟨sa, sb, sc, sd⟩ := hS
  go_simp
theorem pl3_6 (c bx K M : Nat) (sz : Int) (nv : Value) (ev : Operand → Value) (z : World) (ec : ∀ c, ev (.const c) = c) (e15 : ev (.tmp 15) = .pointer (some ⟨c, 0, none⟩)) (hS : z.cell? ⟨c, 15, none⟩ = some (.bool false) ∧ z.cell? ⟨c, 4, none⟩ = some (.int .i64 1) ∧ z.cell? ⟨c, 10, none⟩ = some (.int .i64 sz) ∧ (loadVar 26 ⟨bx, 0, none⟩).run Tryd.prog z = .ok (.agg #[.int .i64 (K : Int), .int .i64 (M : Int)]) z) : (execOp ev ⟨some 16, Op.nilCheck (Operand.tmp 15), 0, "", #[], some (4, false)⟩).run Tryd.prog z = .ok (.value (.pointer (some ⟨c, 0, none⟩))) z := by
  obtain ⟨sa, sb, sc, sd⟩ := hS
  go_simp
theorem pl3_7 (c bx K M : Nat) (sz : Int) (nv : Value) (ev : Operand → Value) (z : World) (ec : ∀ c, ev (.const c) = c) (e16 : ev (.tmp 16) = .pointer (some ⟨c, 0, none⟩)) (hS : z.cell? ⟨c, 15, none⟩ = some (.bool false) ∧ z.cell? ⟨c, 4, none⟩ = some (.int .i64 1) ∧ z.cell? ⟨c, 10, none⟩ = some (.int .i64 sz) ∧ (loadVar 26 ⟨bx, 0, none⟩).run Tryd.prog z = .ok (.agg #[.int .i64 (K : Int), .int .i64 (M : Int)]) z) : (execOp ev ⟨some 17, Op.fieldAddr 106 (Operand.tmp 16) 3, 0, "", #[], some (4, false)⟩).run Tryd.prog z = .ok (.value (.pointer (some ⟨c, 3, none⟩))) z := by
  obtain ⟨sa, sb, sc, sd⟩ := hS
  go_simp
theorem pl3_8 (c bx K M : Nat) (sz : Int) (nv : Value) (ev : Operand → Value) (z : World) (ec : ∀ c, ev (.const c) = c) (e17 : ev (.tmp 17) = .pointer (some ⟨c, 3, none⟩)) (hS : z.cell? ⟨c, 15, none⟩ = some (.bool false) ∧ z.cell? ⟨c, 4, none⟩ = some (.int .i64 1) ∧ z.cell? ⟨c, 10, none⟩ = some (.int .i64 sz) ∧ (loadVar 26 ⟨bx, 0, none⟩).run Tryd.prog z = .ok (.agg #[.int .i64 (K : Int), .int .i64 (M : Int)]) z) : (execOp ev ⟨some 18, Op.fieldAddr 42 (Operand.tmp 17) 1, 0, "", #[], some (4, false)⟩).run Tryd.prog z = .ok (.value (.pointer (some ⟨c, 4, none⟩))) z := by
  obtain ⟨sa, sb, sc, sd⟩ := hS
  go_simp
theorem pl3_9 (c bx K M : Nat) (sz : Int) (nv : Value) (ev : Operand → Value) (z : World) (ec : ∀ c, ev (.const c) = c) (e18 : ev (.tmp 18) = .pointer (some ⟨c, 4, none⟩)) (hS : z.cell? ⟨c, 15, none⟩ = some (.bool false) ∧ z.cell? ⟨c, 4, none⟩ = some (.int .i64 1) ∧ z.cell? ⟨c, 10, none⟩ = some (.int .i64 sz) ∧ (loadVar 26 ⟨bx, 0, none⟩).run Tryd.prog z = .ok (.agg #[.int .i64 (K : Int), .int .i64 (M : Int)]) z) : (execOp ev ⟨some 19, Op.load 3 (Operand.tmp 18), 3, "", #[], some (4, false)⟩).run Tryd.prog z = .ok (.value (.int .i64 1)) z := by
  obtain ⟨sa, sb, sc, sd⟩ := hS
  go_simp
theorem pl3_10 (c bx K M : Nat) (sz : Int) (nv : Value) (ev : Operand → Value) (z : World) (ec : ∀ c, ev (.const c) = c) (e19 : ev (.tmp 19) = .int .i64 1) (hS : z.cell? ⟨c, 15, none⟩ = some (.bool false) ∧ z.cell? ⟨c, 4, none⟩ = some (.int .i64 1) ∧ z.cell? ⟨c, 10, none⟩ = some (.int .i64 sz) ∧ (loadVar 26 ⟨bx, 0, none⟩).run Tryd.prog z = .ok (.agg #[.int .i64 (K : Int), .int .i64 (M : Int)]) z) : (execOp ev ⟨some 20, Op.binOp BinOp.neq 3 (Operand.tmp 19) (Operand.const (Value.int IntKind.i64 1)) 3, 4, "", #[], some (4, false)⟩).run Tryd.prog z = .ok (.value (.bool false)) z := by
  obtain ⟨sa, sb, sc, sd⟩ := hS
  go_simp
theorem pl3_11 (c bx K M : Nat) (sz : Int) (nv : Value) (ev : Operand → Value) (z : World) (ec : ∀ c, ev (.const c) = c) (e14 : ev (.tmp 14) = .bool false) (e20 : ev (.tmp 20) = .bool false) (hS : z.cell? ⟨c, 15, none⟩ = some (.bool false) ∧ z.cell? ⟨c, 4, none⟩ = some (.int .i64 1) ∧ z.cell? ⟨c, 10, none⟩ = some (.int .i64 sz) ∧ (loadVar 26 ⟨bx, 0, none⟩).run Tryd.prog z = .ok (.agg #[.int .i64 (K : Int), .int .i64 (M : Int)]) z) : (execOp ev ⟨some 21, Op.pick (Operand.tmp 14) (Operand.const (Value.bool true)) (Operand.tmp 20), 4, "", #[], none⟩).run Tryd.prog z = .ok (.value (.bool false)) z := by
  obtain ⟨sa, sb, sc, sd⟩ := hS
  go_simp
theorem pl3_12 (c bx K M : Nat) (sz : Int) (nv : Value) (ev : Operand → Value) (z : World) (ec : ∀ c, ev (.const c) = c) (e21 : ev (.tmp 21) = .bool false) (hS : z.cell? ⟨c, 15, none⟩ = some (.bool false) ∧ z.cell? ⟨c, 4, none⟩ = some (.int .i64 1) ∧ z.cell? ⟨c, 10, none⟩ = some (.int .i64 sz) ∧ (loadVar 26 ⟨bx, 0, none⟩).run Tryd.prog z = .ok (.agg #[.int .i64 (K : Int), .int .i64 (M : Int)]) z) : (execOp ev ⟨some 22, Op.move (Operand.tmp 21), 4, "", #[], none⟩).run Tryd.prog z = .ok (.value (.bool false)) z := by
  obtain ⟨sa, sb, sc, sd⟩ := hS
  go_simp
theorem pl3_13 (c bx K M : Nat) (sz : Int) (nv : Value) (ev : Operand → Value) (z : World) (ec : ∀ c, ev (.const c) = c) (e0 : ev (.tmp 0) = .pointer (some ⟨c, 0, none⟩)) (hS : z.cell? ⟨c, 15, none⟩ = some (.bool false) ∧ z.cell? ⟨c, 4, none⟩ = some (.int .i64 1) ∧ z.cell? ⟨c, 10, none⟩ = some (.int .i64 sz) ∧ (loadVar 26 ⟨bx, 0, none⟩).run Tryd.prog z = .ok (.agg #[.int .i64 (K : Int), .int .i64 (M : Int)]) z) : (execOp ev ⟨some 23, Op.move (Operand.tmp 0), 83, "", #[], some (12, false)⟩).run Tryd.prog z = .ok (.value (.pointer (some ⟨c, 0, none⟩))) z := by
  obtain ⟨sa, sb, sc, sd⟩ := hS
  go_simp
theorem pl3_14 (c bx K M : Nat) (sz : Int) (nv : Value) (ev : Operand → Value) (z : World) (ec : ∀ c, ev (.const c) = c) (e23 : ev (.tmp 23) = .pointer (some ⟨c, 0, none⟩)) (hS : z.cell? ⟨c, 15, none⟩ = some (.bool false) ∧ z.cell? ⟨c, 4, none⟩ = some (.int .i64 1) ∧ z.cell? ⟨c, 10, none⟩ = some (.int .i64 sz) ∧ (loadVar 26 ⟨bx, 0, none⟩).run Tryd.prog z = .ok (.agg #[.int .i64 (K : Int), .int .i64 (M : Int)]) z) : (execOp ev ⟨some 24, Op.nilCheck (Operand.tmp 23), 0, "", #[], some (12, false)⟩).run Tryd.prog z = .ok (.value (.pointer (some ⟨c, 0, none⟩))) z := by
  obtain ⟨sa, sb, sc, sd⟩ := hS
  go_simp
theorem pl3_15 (c bx K M : Nat) (sz : Int) (nv : Value) (ev : Operand → Value) (z : World) (ec : ∀ c, ev (.const c) = c) (e24 : ev (.tmp 24) = .pointer (some ⟨c, 0, none⟩)) (hS : z.cell? ⟨c, 15, none⟩ = some (.bool false) ∧ z.cell? ⟨c, 4, none⟩ = some (.int .i64 1) ∧ z.cell? ⟨c, 10, none⟩ = some (.int .i64 sz) ∧ (loadVar 26 ⟨bx, 0, none⟩).run Tryd.prog z = .ok (.agg #[.int .i64 (K : Int), .int .i64 (M : Int)]) z) : (execOp ev ⟨some 25, Op.fieldAddr 106 (Operand.tmp 24) 5, 0, "", #[], some (12, false)⟩).run Tryd.prog z = .ok (.value (.pointer (some ⟨c, 16, none⟩))) z := by
  obtain ⟨sa, sb, sc, sd⟩ := hS
  go_simp
set_option maxRecDepth 100000 in
theorem pl3_16 (c bx K M : Nat) (sz : Int) (nv : Value) (ev : Operand → Value) (z : World) (ec : ∀ c, ev (.const c) = c) (ef : ev (.func 72) = .func (.func 72) #[] #[]) (e25 : ev (.tmp 25) = .pointer (some ⟨c, 16, none⟩)) : (execOp ev ⟨some 26, Op.call { callee := Callee.value (Operand.func 72), args := #[Operand.tmp 25], argTypes := #[102] }, 4, "", #[], some (12, false)⟩).run Tryd.prog z = .ok (.enter 72 #[.pointer (some ⟨c, 16, none⟩)]) z :=
  enter_run _ ef (by simp only [List.map_toArray, List.map_cons, List.map_nil, ec, e25]) (fun _ => by rfl)
theorem pl3_17 (c bx K M : Nat) (sz : Int) (nv : Value) (ev : Operand → Value) (z : World) (ec : ∀ c, ev (.const c) = c) (e22 : ev (.tmp 22) = .bool false) (e26 : ev (.tmp 26) = .bool false) (hS : z.cell? ⟨c, 15, none⟩ = some (.bool false) ∧ z.cell? ⟨c, 4, none⟩ = some (.int .i64 1) ∧ z.cell? ⟨c, 10, none⟩ = some (.int .i64 sz) ∧ (loadVar 26 ⟨bx, 0, none⟩).run Tryd.prog z = .ok (.agg #[.int .i64 (K : Int), .int .i64 (M : Int)]) z) : (execOp ev ⟨some 27, Op.pick (Operand.tmp 22) (Operand.const (Value.bool true)) (Operand.tmp 26), 4, "", #[], none⟩).run Tryd.prog z = .ok (.value (.bool false)) z := by
  obtain ⟨sa, sb, sc, sd⟩ := hS
  go_simp
theorem pl3_18 (c bx K M : Nat) (sz : Int) (nv : Value) (ev : Operand → Value) (z : World) (ec : ∀ c, ev (.const c) = c) (e27 : ev (.tmp 27) = .bool false) (hS : z.cell? ⟨c, 15, none⟩ = some (.bool false) ∧ z.cell? ⟨c, 4, none⟩ = some (.int .i64 1) ∧ z.cell? ⟨c, 10, none⟩ = some (.int .i64 sz) ∧ (loadVar 26 ⟨bx, 0, none⟩).run Tryd.prog z = .ok (.agg #[.int .i64 (K : Int), .int .i64 (M : Int)]) z) : (execOp ev ⟨some 28, Op.move (Operand.tmp 27), 4, "", #[], none⟩).run Tryd.prog z = .ok (.value (.bool false)) z := by
  obtain ⟨sa, sb, sc, sd⟩ := hS
  go_simp
theorem pl3_19 (c bx K M : Nat) (sz : Int) (nv : Value) (ev : Operand → Value) (z : World) (ec : ∀ c, ev (.const c) = c) (e4 : ev (.tmp 4) = .pointer (some ⟨bx, 0, none⟩)) (hS : z.cell? ⟨c, 15, none⟩ = some (.bool false) ∧ z.cell? ⟨c, 4, none⟩ = some (.int .i64 1) ∧ z.cell? ⟨c, 10, none⟩ = some (.int .i64 sz) ∧ (loadVar 26 ⟨bx, 0, none⟩).run Tryd.prog z = .ok (.agg #[.int .i64 (K : Int), .int .i64 (M : Int)]) z) : (execOp ev ⟨some 29, Op.load 26 (Operand.tmp 4), 26, "", #[], some (18, false)⟩).run Tryd.prog z = .ok (.value (.agg #[.int .i64 (K : Int), .int .i64 (M : Int)])) z := by
  exact exec_ldC e4 hS.2.2.2
theorem pl3_20 (c bx K M : Nat) (sz : Int) (nv : Value) (ev : Operand → Value) (z : World) (ec : ∀ c, ev (.const c) = c) (e0 : ev (.tmp 0) = .pointer (some ⟨c, 0, none⟩)) (hS : z.cell? ⟨c, 15, none⟩ = some (.bool false) ∧ z.cell? ⟨c, 4, none⟩ = some (.int .i64 1) ∧ z.cell? ⟨c, 10, none⟩ = some (.int .i64 sz) ∧ (loadVar 26 ⟨bx, 0, none⟩).run Tryd.prog z = .ok (.agg #[.int .i64 (K : Int), .int .i64 (M : Int)]) z) : (execOp ev ⟨some 30, Op.move (Operand.tmp 0), 83, "", #[], some (18, false)⟩).run Tryd.prog z = .ok (.value (.pointer (some ⟨c, 0, none⟩))) z := by
  obtain ⟨sa, sb, sc, sd⟩ := hS
  go_simp
theorem pl3_21 (c bx K M : Nat) (sz : Int) (nv : Value) (ev : Operand → Value) (z : World) (ec : ∀ c, ev (.const c) = c) (e30 : ev (.tmp 30) = .pointer (some ⟨c, 0, none⟩)) (hS : z.cell? ⟨c, 15, none⟩ = some (.bool false) ∧ z.cell? ⟨c, 4, none⟩ = some (.int .i64 1) ∧ z.cell? ⟨c, 10, none⟩ = some (.int .i64 sz) ∧ (loadVar 26 ⟨bx, 0, none⟩).run Tryd.prog z = .ok (.agg #[.int .i64 (K : Int), .int .i64 (M : Int)]) z) : (execOp ev ⟨some 31, Op.nilCheck (Operand.tmp 30), 0, "", #[], some (18, false)⟩).run Tryd.prog z = .ok (.value (.pointer (some ⟨c, 0, none⟩))) z := by
  obtain ⟨sa, sb, sc, sd⟩ := hS
  go_simp
theorem pl3_22 (c bx K M : Nat) (sz : Int) (nv : Value) (ev : Operand → Value) (z : World) (ec : ∀ c, ev (.const c) = c) (e31 : ev (.tmp 31) = .pointer (some ⟨c, 0, none⟩)) (hS : z.cell? ⟨c, 15, none⟩ = some (.bool false) ∧ z.cell? ⟨c, 4, none⟩ = some (.int .i64 1) ∧ z.cell? ⟨c, 10, none⟩ = some (.int .i64 sz) ∧ (loadVar 26 ⟨bx, 0, none⟩).run Tryd.prog z = .ok (.agg #[.int .i64 (K : Int), .int .i64 (M : Int)]) z) : (execOp ev ⟨some 32, Op.fieldAddr 106 (Operand.tmp 31) 3, 0, "", #[], some (18, false)⟩).run Tryd.prog z = .ok (.value (.pointer (some ⟨c, 3, none⟩))) z := by
  obtain ⟨sa, sb, sc, sd⟩ := hS
  go_simp
theorem pl3_23 (c bx K M : Nat) (sz : Int) (nv : Value) (ev : Operand → Value) (z : World) (ec : ∀ c, ev (.const c) = c) (e32 : ev (.tmp 32) = .pointer (some ⟨c, 3, none⟩)) (hS : z.cell? ⟨c, 15, none⟩ = some (.bool false) ∧ z.cell? ⟨c, 4, none⟩ = some (.int .i64 1) ∧ z.cell? ⟨c, 10, none⟩ = some (.int .i64 sz) ∧ (loadVar 26 ⟨bx, 0, none⟩).run Tryd.prog z = .ok (.agg #[.int .i64 (K : Int), .int .i64 (M : Int)]) z) : (execOp ev ⟨some 33, Op.fieldAddr 42 (Operand.tmp 32) 7, 0, "", #[], some (18, false)⟩).run Tryd.prog z = .ok (.value (.pointer (some ⟨c, 10, none⟩))) z := by
  obtain ⟨sa, sb, sc, sd⟩ := hS
  go_simp
theorem pl3_24 (c bx K M : Nat) (sz : Int) (nv : Value) (ev : Operand → Value) (z : World) (ec : ∀ c, ev (.const c) = c) (e33 : ev (.tmp 33) = .pointer (some ⟨c, 10, none⟩)) (hS : z.cell? ⟨c, 15, none⟩ = some (.bool false) ∧ z.cell? ⟨c, 4, none⟩ = some (.int .i64 1) ∧ z.cell? ⟨c, 10, none⟩ = some (.int .i64 sz) ∧ (loadVar 26 ⟨bx, 0, none⟩).run Tryd.prog z = .ok (.agg #[.int .i64 (K : Int), .int .i64 (M : Int)]) z) : (execOp ev ⟨some 34, Op.load 3 (Operand.tmp 33), 3, "", #[], some (18, false)⟩).run Tryd.prog z = .ok (.value (.int .i64 sz)) z := by
  obtain ⟨sa, sb, sc, sd⟩ := hS
  go_simp
theorem pl3_25 (c bx K M : Nat) (sz : Int) (nv : Value) (ev : Operand → Value) (z : World) (ec : ∀ c, ev (.const c) = c) (e2 : ev (.tmp 2) = nv) (hS : z.cell? ⟨c, 15, none⟩ = some (.bool false) ∧ z.cell? ⟨c, 4, none⟩ = some (.int .i64 1) ∧ z.cell? ⟨c, 10, none⟩ = some (.int .i64 sz) ∧ (loadVar 26 ⟨bx, 0, none⟩).run Tryd.prog z = .ok (.agg #[.int .i64 (K : Int), .int .i64 (M : Int)]) z) : (execOp ev ⟨some 35, Op.move (Operand.tmp 2), 23, "", #[], some (18, false)⟩).run Tryd.prog z = .ok (.value (nv)) z := by
  obtain ⟨sa, sb, sc, sd⟩ := hS
  go_simp
set_option maxRecDepth 100000 in
theorem pl3_26 (c bx K M : Nat) (sz : Int) (nv : Value) (ev : Operand → Value) (z : World) (ec : ∀ c, ev (.const c) = c) (ef : ev (.func 57) = .func (.func 57) #[] #[]) (e29 : ev (.tmp 29) = .agg #[.int .i64 (K : Int), .int .i64 (M : Int)]) (e34 : ev (.tmp 34) = .int .i64 sz) (e35 : ev (.tmp 35) = nv) : (execOp ev ⟨some 36, Op.call { callee := Callee.value (Operand.func 57), args := #[Operand.tmp 29, Operand.tmp 34, Operand.tmp 35], argTypes := #[26, 3, 23] }, 4, "", #[], some (18, false)⟩).run Tryd.prog z = .ok (.enter 57 #[.agg #[.int .i64 (K : Int), .int .i64 (M : Int)], .int .i64 sz, nv]) z :=
  enter_run _ ef (by simp only [List.map_toArray, List.map_cons, List.map_nil, ec, e29, e34, e35]) (fun _ => by rfl)
theorem pl3_27 (c bx K M : Nat) (sz : Int) (nv : Value) (ev : Operand → Value) (z : World) (ec : ∀ c, ev (.const c) = c) (e36 : ev (.tmp 36) = .bool true) (hS : z.cell? ⟨c, 15, none⟩ = some (.bool false) ∧ z.cell? ⟨c, 4, none⟩ = some (.int .i64 1) ∧ z.cell? ⟨c, 10, none⟩ = some (.int .i64 sz) ∧ (loadVar 26 ⟨bx, 0, none⟩).run Tryd.prog z = .ok (.agg #[.int .i64 (K : Int), .int .i64 (M : Int)]) z) : (execOp ev ⟨some 37, Op.unOp UnOp.not 4 (Operand.tmp 36), 4, "", #[], some (18, false)⟩).run Tryd.prog z = .ok (.value (.bool false)) z := by
  obtain ⟨sa, sb, sc, sd⟩ := hS
  go_simp
theorem pl3_28 (c bx K M : Nat) (sz : Int) (nv : Value) (ev : Operand → Value) (z : World) (ec : ∀ c, ev (.const c) = c) (e28 : ev (.tmp 28) = .bool false) (e37 : ev (.tmp 37) = .bool false) (hS : z.cell? ⟨c, 15, none⟩ = some (.bool false) ∧ z.cell? ⟨c, 4, none⟩ = some (.int .i64 1) ∧ z.cell? ⟨c, 10, none⟩ = some (.int .i64 sz) ∧ (loadVar 26 ⟨bx, 0, none⟩).run Tryd.prog z = .ok (.agg #[.int .i64 (K : Int), .int .i64 (M : Int)]) z) : (execOp ev ⟨some 38, Op.pick (Operand.tmp 28) (Operand.const (Value.bool true)) (Operand.tmp 37), 4, "", #[], none⟩).run Tryd.prog z = .ok (.value (.bool false)) z := by
  obtain ⟨sa, sb, sc, sd⟩ := hS
  go_simp
structure pl3R (ops : Array Oper) : Prop where
  size : ops.size = 29
  sel : Region.noSelect ops = true
  o0 : (ops[0]?).map bare = some ⟨some 10, Op.move (Operand.tmp 0), 83, "", #[], none⟩
  o1 : (ops[1]?).map bare = some ⟨some 11, Op.nilCheck (Operand.tmp 10), 0, "", #[], none⟩
  o2 : (ops[2]?).map bare = some ⟨some 12, Op.fieldAddr 106 (Operand.tmp 11) 4, 0, "", #[], none⟩
  o3 : (ops[3]?).map bare = some ⟨some 13, Op.load 4 (Operand.tmp 12), 4, "", #[], none⟩
  o4 : (ops[4]?).map bare = some ⟨some 14, Op.move (Operand.tmp 13), 4, "", #[], none⟩
  o5 : (ops[5]?).map bare = some ⟨some 15, Op.move (Operand.tmp 0), 83, "", #[], some (4, false)⟩
  o6 : (ops[6]?).map bare = some ⟨some 16, Op.nilCheck (Operand.tmp 15), 0, "", #[], some (4, false)⟩
  o7 : (ops[7]?).map bare = some ⟨some 17, Op.fieldAddr 106 (Operand.tmp 16) 3, 0, "", #[], some (4, false)⟩
  o8 : (ops[8]?).map bare = some ⟨some 18, Op.fieldAddr 42 (Operand.tmp 17) 1, 0, "", #[], some (4, false)⟩
  o9 : (ops[9]?).map bare = some ⟨some 19, Op.load 3 (Operand.tmp 18), 3, "", #[], some (4, false)⟩
  o10 : (ops[10]?).map bare = some ⟨some 20, Op.binOp BinOp.neq 3 (Operand.tmp 19) (Operand.const (Value.int IntKind.i64 1)) 3, 4, "", #[], some (4, false)⟩
  o11 : (ops[11]?).map bare = some ⟨some 21, Op.pick (Operand.tmp 14) (Operand.const (Value.bool true)) (Operand.tmp 20), 4, "", #[], none⟩
  o12 : (ops[12]?).map bare = some ⟨some 22, Op.move (Operand.tmp 21), 4, "", #[], none⟩
  o13 : (ops[13]?).map bare = some ⟨some 23, Op.move (Operand.tmp 0), 83, "", #[], some (12, false)⟩
  o14 : (ops[14]?).map bare = some ⟨some 24, Op.nilCheck (Operand.tmp 23), 0, "", #[], some (12, false)⟩
  o15 : (ops[15]?).map bare = some ⟨some 25, Op.fieldAddr 106 (Operand.tmp 24) 5, 0, "", #[], some (12, false)⟩
  o16 : (ops[16]?).map bare = some ⟨some 26, Op.call { callee := Callee.value (Operand.func 72), args := #[Operand.tmp 25], argTypes := #[102] }, 4, "", #[], some (12, false)⟩
  o17 : (ops[17]?).map bare = some ⟨some 27, Op.pick (Operand.tmp 22) (Operand.const (Value.bool true)) (Operand.tmp 26), 4, "", #[], none⟩
  o18 : (ops[18]?).map bare = some ⟨some 28, Op.move (Operand.tmp 27), 4, "", #[], none⟩
  o19 : (ops[19]?).map bare = some ⟨some 29, Op.load 26 (Operand.tmp 4), 26, "", #[], some (18, false)⟩
  o20 : (ops[20]?).map bare = some ⟨some 30, Op.move (Operand.tmp 0), 83, "", #[], some (18, false)⟩
  o21 : (ops[21]?).map bare = some ⟨some 31, Op.nilCheck (Operand.tmp 30), 0, "", #[], some (18, false)⟩
  o22 : (ops[22]?).map bare = some ⟨some 32, Op.fieldAddr 106 (Operand.tmp 31) 3, 0, "", #[], some (18, false)⟩
  o23 : (ops[23]?).map bare = some ⟨some 33, Op.fieldAddr 42 (Operand.tmp 32) 7, 0, "", #[], some (18, false)⟩
  o24 : (ops[24]?).map bare = some ⟨some 34, Op.load 3 (Operand.tmp 33), 3, "", #[], some (18, false)⟩
  o25 : (ops[25]?).map bare = some ⟨some 35, Op.move (Operand.tmp 2), 23, "", #[], some (18, false)⟩
  o26 : (ops[26]?).map bare = some ⟨some 36, Op.call { callee := Callee.value (Operand.func 57), args := #[Operand.tmp 29, Operand.tmp 34, Operand.tmp 35], argTypes := #[26, 3, 23] }, 4, "", #[], some (18, false)⟩
  o27 : (ops[27]?).map bare = some ⟨some 37, Op.unOp UnOp.not 4 (Operand.tmp 36), 4, "", #[], some (18, false)⟩
  o28 : (ops[28]?).map bare = some ⟨some 38, Op.pick (Operand.tmp 28) (Operand.const (Value.bool true)) (Operand.tmp 37), 4, "", #[], none⟩
  may0 : takeB .any ops [0, 1, 2, 3, 4, 5, 6, 7, 8, 9, 10, 11, 12, 13, 14, 15] (Array.replicate 29 false) = true
  r16 : Region.ready .any ops (mark [0, 1, 2, 3, 4, 5, 6, 7, 8, 9, 10, 11, 12, 13, 14, 15] (Array.replicate 29 false)) = [16]
  may1 : takeB .any ops [17, 18, 19, 20, 21, 22, 23, 24, 25] ((mark [0, 1, 2, 3, 4, 5, 6, 7, 8, 9, 10, 11, 12, 13, 14, 15] (Array.replicate 29 false)).setIfInBounds 16 true) = true
  r26 : Region.ready .any ops (mark [17, 18, 19, 20, 21, 22, 23, 24, 25] ((mark [0, 1, 2, 3, 4, 5, 6, 7, 8, 9, 10, 11, 12, 13, 14, 15] (Array.replicate 29 false)).setIfInBounds 16 true)) = [26]
  may2 : takeB .any ops [27, 28] ((mark [17, 18, 19, 20, 21, 22, 23, 24, 25] ((mark [0, 1, 2, 3, 4, 5, 6, 7, 8, 9, 10, 11, 12, 13, 14, 15] (Array.replicate 29 false)).setIfInBounds 16 true)).setIfInBounds 26 true) = true
  fin : Region.ready .any ops (mark [27, 28] ((mark [17, 18, 19, 20, 21, 22, 23, 24, 25] ((mark [0, 1, 2, 3, 4, 5, 6, 7, 8, 9, 10, 11, 12, 13, 14, 15] (Array.replicate 29 false)).setIfInBounds 16 true)).setIfInBounds 26 true)) = []

set_option maxRecDepth 100000 in
set_option maxHeartbeats 3200000 in
theorem pl3_region {ops : Array Oper} {id : Nat} {Q : Exit → Act → World → Prop} {a : Act} {y : World} (R : pl3R ops) (c bx K M : Nat) (sz : Int) (nv : Value)
    (hQ : ∀ d v c a w, Q (.panic c) (a.put d v) w → Q (.panic c) a w) (hsz : a.tmps.size = 58) (e0 : a.eval (.tmp 0) = .pointer (some ⟨c, 0, none⟩)) (e2 : a.eval (.tmp 2) = nv) (e4 : a.eval (.tmp 4) = .pointer (some ⟨bx, 0, none⟩)) (hS0 : (y.drew.cell? ⟨c, 15, none⟩ = some (.bool false) ∧ y.drew.cell? ⟨c, 4, none⟩ = some (.int .i64 1) ∧ y.drew.cell? ⟨c, 10, none⟩ = some (.int .i64 sz) ∧ (loadVar 26 ⟨bx, 0, none⟩).run Tryd.prog y.drew = .ok (.agg #[.int .i64 (K : Int), .int .i64 (M : Int)]) y.drew)) (T : World → Prop) (hc : Calls Tryd.prog 72 #[.pointer (some ⟨c, 16, none⟩)] y.drew fun e w9 => e = .returned (.bool false) ∧ (w9.cell? ⟨c, 15, none⟩ = some (.bool false) ∧ w9.cell? ⟨c, 4, none⟩ = some (.int .i64 1) ∧ w9.cell? ⟨c, 10, none⟩ = some (.int .i64 sz) ∧ (loadVar 26 ⟨bx, 0, none⟩).run Tryd.prog w9 = .ok (.agg #[.int .i64 (K : Int), .int .i64 (M : Int)]) w9) ∧ Calls Tryd.prog 57 #[.agg #[.int .i64 (K : Int), .int .i64 (M : Int)], .int .i64 sz, nv] w9 fun e w9 => e = .returned (.bool true) ∧ (w9.cell? ⟨c, 15, none⟩ = some (.bool false) ∧ w9.cell? ⟨c, 4, none⟩ = some (.int .i64 1) ∧ w9.cell? ⟨c, 10, none⟩ = some (.int .i64 sz) ∧ (loadVar 26 ⟨bx, 0, none⟩).run Tryd.prog w9 = .ok (.agg #[.int .i64 (K : Int), .int .i64 (M : Int)]) w9) ∧ T w9)
    (hK : ∀ (w9 : World), T w9 → Q .normal (((((((((((((((((((((((((((((a.put (some 10) (.pointer (some ⟨c, 0, none⟩))).put (some 11) (.pointer (some ⟨c, 0, none⟩))).put (some 12) (.pointer (some ⟨c, 15, none⟩))).put (some 13) (.bool false)).put (some 14) (.bool false)).put (some 15) (.pointer (some ⟨c, 0, none⟩))).put (some 16) (.pointer (some ⟨c, 0, none⟩))).put (some 17) (.pointer (some ⟨c, 3, none⟩))).put (some 18) (.pointer (some ⟨c, 4, none⟩))).put (some 19) (.int .i64 1)).put (some 20) (.bool false)).put (some 21) (.bool false)).put (some 22) (.bool false)).put (some 23) (.pointer (some ⟨c, 0, none⟩))).put (some 24) (.pointer (some ⟨c, 0, none⟩))).put (some 25) (.pointer (some ⟨c, 16, none⟩))).put (some 26) (.bool false)).put (some 27) (.bool false)).put (some 28) (.bool false)).put (some 29) (.agg #[.int .i64 (K : Int), .int .i64 (M : Int)])).put (some 30) (.pointer (some ⟨c, 0, none⟩))).put (some 31) (.pointer (some ⟨c, 0, none⟩))).put (some 32) (.pointer (some ⟨c, 3, none⟩))).put (some 33) (.pointer (some ⟨c, 10, none⟩))).put (some 34) (.int .i64 sz)).put (some 35) (nv)).put (some 36) (.bool true)).put (some 37) (.bool false)).put (some 38) (.bool false)) w9) : (Code.region id ops true).wp Tryd.prog Q a y := by
  have HR : Hid (pl3R ops) := R
  have hdf : a.defers = a.defers := rfl
  refine wp_region_held_drew (S := (fun z : World => z.cell? ⟨c, 15, none⟩ = some (.bool false) ∧ z.cell? ⟨c, 4, none⟩ = some (.int .i64 1) ∧ z.cell? ⟨c, 10, none⟩ = some (.int .i64 sz) ∧ (loadVar 26 ⟨bx, 0, none⟩).run Tryd.prog z = .ok (.agg #[.int .i64 (K : Int), .int .i64 (M : Int)]) z)) (by kernel_rfl) (hS0) (fun hHeld => ?_)
  rw [R.size]
  clear R
  refine wpAnyH_takes HR.out.sel hQ hHeld [0, 1, 2, 3, 4, 5, 6, 7, 8, 9, 10, 11, 12, 13, 14, 15] 13 _ _ HR.out.may0 ?_
  refine wpTake_stepE ⟨some 10, Op.move (Operand.tmp 0), 83, "", #[], none⟩ 10 (.pointer (some ⟨c, 0, none⟩)) HR.out.o0 rfl (by rw [hsz]; decide) (wanted_none rfl) (fun z hS => pl3_0 c bx K M sz nv _ z (fun _ => rfl) e0 hS) ?_
  intro a1 ha1 s1 f1 n1 k1
  replace hsz := s1.trans hsz
  replace hdf := f1.trans hdf
  replace e0 := (k1 0 (by decide)).trans e0
  replace e2 := (k1 2 (by decide)).trans e2
  replace e4 := (k1 4 (by decide)).trans e4
  have e10 := n1
  clear s1 f1 n1 k1
  refine wpTake_stepE ⟨some 11, Op.nilCheck (Operand.tmp 10), 0, "", #[], none⟩ 11 (.pointer (some ⟨c, 0, none⟩)) HR.out.o1 rfl (by rw [hsz]; decide) (wanted_none rfl) (fun z hS => pl3_1 c bx K M sz nv _ z (fun _ => rfl) e10 hS) ?_
  intro a2 ha2 s1 f1 n1 k1
  replace hsz := s1.trans hsz
  replace hdf := f1.trans hdf
  replace e0 := (k1 0 (by decide)).trans e0
  replace e2 := (k1 2 (by decide)).trans e2
  replace e4 := (k1 4 (by decide)).trans e4
  have e11 := n1
  clear s1 f1 n1 k1
  refine wpTake_stepE ⟨some 12, Op.fieldAddr 106 (Operand.tmp 11) 4, 0, "", #[], none⟩ 12 (.pointer (some ⟨c, 15, none⟩)) HR.out.o2 rfl (by rw [hsz]; decide) (wanted_none rfl) (fun z hS => pl3_2 c bx K M sz nv _ z (fun _ => rfl) e11 hS) ?_
  intro a3 ha3 s1 f1 n1 k1
  replace hsz := s1.trans hsz
  replace hdf := f1.trans hdf
  replace e0 := (k1 0 (by decide)).trans e0
  replace e2 := (k1 2 (by decide)).trans e2
  replace e4 := (k1 4 (by decide)).trans e4
  have e12 := n1
  clear s1 f1 n1 k1
  refine wpTake_stepE ⟨some 13, Op.load 4 (Operand.tmp 12), 4, "", #[], none⟩ 13 (.bool false) HR.out.o3 rfl (by rw [hsz]; decide) (wanted_none rfl) (fun z hS => pl3_3 c bx K M sz nv _ z (fun _ => rfl) e12 hS) ?_
  intro a4 ha4 s1 f1 n1 k1
  replace hsz := s1.trans hsz
  replace hdf := f1.trans hdf
  replace e0 := (k1 0 (by decide)).trans e0
  replace e2 := (k1 2 (by decide)).trans e2
  replace e4 := (k1 4 (by decide)).trans e4
  have e13 := n1
  clear s1 f1 n1 k1
  refine wpTake_stepE ⟨some 14, Op.move (Operand.tmp 13), 4, "", #[], none⟩ 14 (.bool false) HR.out.o4 rfl (by rw [hsz]; decide) (wanted_none rfl) (fun z hS => pl3_4 c bx K M sz nv _ z (fun _ => rfl) e13 hS) ?_
  intro a5 ha5 s1 f1 n1 k1
  replace hsz := s1.trans hsz
  replace hdf := f1.trans hdf
  replace e0 := (k1 0 (by decide)).trans e0
  replace e2 := (k1 2 (by decide)).trans e2
  replace e4 := (k1 4 (by decide)).trans e4
  have e14 := n1
  clear s1 f1 n1 k1
  refine wpTake_stepE ⟨some 15, Op.move (Operand.tmp 0), 83, "", #[], some (4, false)⟩ 15 (.pointer (some ⟨c, 0, none⟩)) HR.out.o5 rfl (by rw [hsz]; decide) (wanted_some rfl (yielded_of HR.out.o4 rfl e14 (by rw [hsz]; decide))) (fun z hS => pl3_5 c bx K M sz nv _ z (fun _ => rfl) e0 hS) ?_
  intro a6 ha6 s1 f1 n1 k1
  replace hsz := s1.trans hsz
  replace hdf := f1.trans hdf
  replace e0 := (k1 0 (by decide)).trans e0
  replace e2 := (k1 2 (by decide)).trans e2
  replace e4 := (k1 4 (by decide)).trans e4
  replace e14 := (k1 14 (by decide)).trans e14
  have e15 := n1
  clear s1 f1 n1 k1
  refine wpTake_stepE ⟨some 16, Op.nilCheck (Operand.tmp 15), 0, "", #[], some (4, false)⟩ 16 (.pointer (some ⟨c, 0, none⟩)) HR.out.o6 rfl (by rw [hsz]; decide) (wanted_some rfl (yielded_of HR.out.o4 rfl e14 (by rw [hsz]; decide))) (fun z hS => pl3_6 c bx K M sz nv _ z (fun _ => rfl) e15 hS) ?_
  intro a7 ha7 s1 f1 n1 k1
  replace hsz := s1.trans hsz
  replace hdf := f1.trans hdf
  replace e0 := (k1 0 (by decide)).trans e0
  replace e2 := (k1 2 (by decide)).trans e2
  replace e4 := (k1 4 (by decide)).trans e4
  replace e14 := (k1 14 (by decide)).trans e14
  have e16 := n1
  clear s1 f1 n1 k1
  refine wpTake_stepE ⟨some 17, Op.fieldAddr 106 (Operand.tmp 16) 3, 0, "", #[], some (4, false)⟩ 17 (.pointer (some ⟨c, 3, none⟩)) HR.out.o7 rfl (by rw [hsz]; decide) (wanted_some rfl (yielded_of HR.out.o4 rfl e14 (by rw [hsz]; decide))) (fun z hS => pl3_7 c bx K M sz nv _ z (fun _ => rfl) e16 hS) ?_
  intro a8 ha8 s1 f1 n1 k1
  replace hsz := s1.trans hsz
  replace hdf := f1.trans hdf
  replace e0 := (k1 0 (by decide)).trans e0
  replace e2 := (k1 2 (by decide)).trans e2
  replace e4 := (k1 4 (by decide)).trans e4
  replace e14 := (k1 14 (by decide)).trans e14
  have e17 := n1
  clear s1 f1 n1 k1
  refine wpTake_stepE ⟨some 18, Op.fieldAddr 42 (Operand.tmp 17) 1, 0, "", #[], some (4, false)⟩ 18 (.pointer (some ⟨c, 4, none⟩)) HR.out.o8 rfl (by rw [hsz]; decide) (wanted_some rfl (yielded_of HR.out.o4 rfl e14 (by rw [hsz]; decide))) (fun z hS => pl3_8 c bx K M sz nv _ z (fun _ => rfl) e17 hS) ?_
  intro a9 ha9 s1 f1 n1 k1
  replace hsz := s1.trans hsz
  replace hdf := f1.trans hdf
  replace e0 := (k1 0 (by decide)).trans e0
  replace e2 := (k1 2 (by decide)).trans e2
  replace e4 := (k1 4 (by decide)).trans e4
  replace e14 := (k1 14 (by decide)).trans e14
  have e18 := n1
  clear s1 f1 n1 k1
  refine wpTake_stepE ⟨some 19, Op.load 3 (Operand.tmp 18), 3, "", #[], some (4, false)⟩ 19 (.int .i64 1) HR.out.o9 rfl (by rw [hsz]; decide) (wanted_some rfl (yielded_of HR.out.o4 rfl e14 (by rw [hsz]; decide))) (fun z hS => pl3_9 c bx K M sz nv _ z (fun _ => rfl) e18 hS) ?_
  intro a10 ha10 s1 f1 n1 k1
  replace hsz := s1.trans hsz
  replace hdf := f1.trans hdf
  replace e0 := (k1 0 (by decide)).trans e0
  replace e2 := (k1 2 (by decide)).trans e2
  replace e4 := (k1 4 (by decide)).trans e4
  replace e14 := (k1 14 (by decide)).trans e14
  have e19 := n1
  clear s1 f1 n1 k1
  refine wpTake_stepE ⟨some 20, Op.binOp BinOp.neq 3 (Operand.tmp 19) (Operand.const (Value.int IntKind.i64 1)) 3, 4, "", #[], some (4, false)⟩ 20 (.bool false) HR.out.o10 rfl (by rw [hsz]; decide) (wanted_some rfl (yielded_of HR.out.o4 rfl e14 (by rw [hsz]; decide))) (fun z hS => pl3_10 c bx K M sz nv _ z (fun _ => rfl) e19 hS) ?_
  intro a11 ha11 s1 f1 n1 k1
  replace hsz := s1.trans hsz
  replace hdf := f1.trans hdf
  replace e0 := (k1 0 (by decide)).trans e0
  replace e2 := (k1 2 (by decide)).trans e2
  replace e4 := (k1 4 (by decide)).trans e4
  replace e14 := (k1 14 (by decide)).trans e14
  have e20 := n1
  clear s1 f1 n1 k1
  refine wpTake_stepE ⟨some 21, Op.pick (Operand.tmp 14) (Operand.const (Value.bool true)) (Operand.tmp 20), 4, "", #[], none⟩ 21 (.bool false) HR.out.o11 rfl (by rw [hsz]; decide) (wanted_none rfl) (fun z hS => pl3_11 c bx K M sz nv _ z (fun _ => rfl) e14 e20 hS) ?_
  intro a12 ha12 s1 f1 n1 k1
  replace hsz := s1.trans hsz
  replace hdf := f1.trans hdf
  replace e0 := (k1 0 (by decide)).trans e0
  replace e2 := (k1 2 (by decide)).trans e2
  replace e4 := (k1 4 (by decide)).trans e4
  have e21 := n1
  clear s1 f1 n1 k1
  refine wpTake_stepE ⟨some 22, Op.move (Operand.tmp 21), 4, "", #[], none⟩ 22 (.bool false) HR.out.o12 rfl (by rw [hsz]; decide) (wanted_none rfl) (fun z hS => pl3_12 c bx K M sz nv _ z (fun _ => rfl) e21 hS) ?_
  intro a13 ha13 s1 f1 n1 k1
  replace hsz := s1.trans hsz
  replace hdf := f1.trans hdf
  replace e0 := (k1 0 (by decide)).trans e0
  replace e2 := (k1 2 (by decide)).trans e2
  replace e4 := (k1 4 (by decide)).trans e4
  have e22 := n1
  clear s1 f1 n1 k1
  refine wpTake_stepE ⟨some 23, Op.move (Operand.tmp 0), 83, "", #[], some (12, false)⟩ 23 (.pointer (some ⟨c, 0, none⟩)) HR.out.o13 rfl (by rw [hsz]; decide) (wanted_some rfl (yielded_of HR.out.o12 rfl e22 (by rw [hsz]; decide))) (fun z hS => pl3_13 c bx K M sz nv _ z (fun _ => rfl) e0 hS) ?_
  intro a14 ha14 s1 f1 n1 k1
  replace hsz := s1.trans hsz
  replace hdf := f1.trans hdf
  replace e0 := (k1 0 (by decide)).trans e0
  replace e2 := (k1 2 (by decide)).trans e2
  replace e4 := (k1 4 (by decide)).trans e4
  replace e22 := (k1 22 (by decide)).trans e22
  have e23 := n1
  clear s1 f1 n1 k1
  refine wpTake_stepE ⟨some 24, Op.nilCheck (Operand.tmp 23), 0, "", #[], some (12, false)⟩ 24 (.pointer (some ⟨c, 0, none⟩)) HR.out.o14 rfl (by rw [hsz]; decide) (wanted_some rfl (yielded_of HR.out.o12 rfl e22 (by rw [hsz]; decide))) (fun z hS => pl3_14 c bx K M sz nv _ z (fun _ => rfl) e23 hS) ?_
  intro a15 ha15 s1 f1 n1 k1
  replace hsz := s1.trans hsz
  replace hdf := f1.trans hdf
  replace e0 := (k1 0 (by decide)).trans e0
  replace e2 := (k1 2 (by decide)).trans e2
  replace e4 := (k1 4 (by decide)).trans e4
  replace e22 := (k1 22 (by decide)).trans e22
  have e24 := n1
  clear s1 f1 n1 k1
  refine wpTake_stepE ⟨some 25, Op.fieldAddr 106 (Operand.tmp 24) 5, 0, "", #[], some (12, false)⟩ 25 (.pointer (some ⟨c, 16, none⟩)) HR.out.o15 rfl (by rw [hsz]; decide) (wanted_some rfl (yielded_of HR.out.o12 rfl e22 (by rw [hsz]; decide))) (fun z hS => pl3_15 c bx K M sz nv _ z (fun _ => rfl) e24 hS) ?_
  intro a16 ha16 s1 f1 n1 k1
  replace hsz := s1.trans hsz
  replace hdf := f1.trans hdf
  replace e0 := (k1 0 (by decide)).trans e0
  replace e2 := (k1 2 (by decide)).trans e2
  replace e4 := (k1 4 (by decide)).trans e4
  replace e22 := (k1 22 (by decide)).trans e22
  have e25 := n1
  clear s1 f1 n1 k1
  refine wpTake_nil ?_
  refine wpAnyH_oneG ⟨some 26, Op.call { callee := Callee.value (Operand.func 72), args := #[Operand.tmp 25], argTypes := #[102] }, 4, "", #[], some (12, false)⟩ HR.out.r16 HR.out.o16 (wanted_some rfl (yielded_of HR.out.o12 rfl e22 (by rw [hsz]; decide))) (fun K' hK' => ?_)
  refine wp_enter (pl3_16 c bx K M sz nv _ _ (fun _ => rfl) rfl e25) (hc) ?_
  rintro e9 w9 ⟨rfl, hS9, hc2⟩
  refine ⟨_, rfl, hK'.out _ _ (hS9) ?_⟩
  replace hHeld := hS9
  clear hK' K'
  show wpAnyH _ _ _ _ _ _ _ (Act.put a16 (some 26) (.bool false)) _
  obtain ⟨s1, f1, n1, k1⟩ := act_put a16 26 (.bool false) (show 26 < _ by rw [hsz]; decide)
  obtain ⟨a17, ha17⟩ : ∃ x, x = Act.put a16 (some 26) (.bool false) := ⟨_, rfl⟩
  rw [← ha17] at s1 f1 n1 k1 ⊢
  replace hsz := s1.trans hsz
  replace hdf := f1.trans hdf
  replace e0 := (k1 0 (by decide)).trans e0
  replace e2 := (k1 2 (by decide)).trans e2
  replace e4 := (k1 4 (by decide)).trans e4
  replace e22 := (k1 22 (by decide)).trans e22
  have e26 := n1
  clear s1 f1 n1 k1
  refine wpAnyH_takes HR.out.sel hQ hHeld [17, 18, 19, 20, 21, 22, 23, 24, 25] 3 _ _ HR.out.may1 ?_
  refine wpTake_stepE ⟨some 27, Op.pick (Operand.tmp 22) (Operand.const (Value.bool true)) (Operand.tmp 26), 4, "", #[], none⟩ 27 (.bool false) HR.out.o17 rfl (by rw [hsz]; decide) (wanted_none rfl) (fun z hS => pl3_17 c bx K M sz nv _ z (fun _ => rfl) e22 e26 hS) ?_
  intro a18 ha18 s1 f1 n1 k1
  replace hsz := s1.trans hsz
  replace hdf := f1.trans hdf
  replace e0 := (k1 0 (by decide)).trans e0
  replace e2 := (k1 2 (by decide)).trans e2
  replace e4 := (k1 4 (by decide)).trans e4
  have e27 := n1
  clear s1 f1 n1 k1
  refine wpTake_stepE ⟨some 28, Op.move (Operand.tmp 27), 4, "", #[], none⟩ 28 (.bool false) HR.out.o18 rfl (by rw [hsz]; decide) (wanted_none rfl) (fun z hS => pl3_18 c bx K M sz nv _ z (fun _ => rfl) e27 hS) ?_
  intro a19 ha19 s1 f1 n1 k1
  replace hsz := s1.trans hsz
  replace hdf := f1.trans hdf
  replace e0 := (k1 0 (by decide)).trans e0
  replace e2 := (k1 2 (by decide)).trans e2
  replace e4 := (k1 4 (by decide)).trans e4
  have e28 := n1
  clear s1 f1 n1 k1
  refine wpTake_stepE ⟨some 29, Op.load 26 (Operand.tmp 4), 26, "", #[], some (18, false)⟩ 29 (.agg #[.int .i64 (K : Int), .int .i64 (M : Int)]) HR.out.o19 rfl (by rw [hsz]; decide) (wanted_some rfl (yielded_of HR.out.o18 rfl e28 (by rw [hsz]; decide))) (fun z hS => pl3_19 c bx K M sz nv _ z (fun _ => rfl) e4 hS) ?_
  intro a20 ha20 s1 f1 n1 k1
  replace hsz := s1.trans hsz
  replace hdf := f1.trans hdf
  replace e0 := (k1 0 (by decide)).trans e0
  replace e2 := (k1 2 (by decide)).trans e2
  replace e4 := (k1 4 (by decide)).trans e4
  replace e28 := (k1 28 (by decide)).trans e28
  have e29 := n1
  clear s1 f1 n1 k1
  refine wpTake_stepE ⟨some 30, Op.move (Operand.tmp 0), 83, "", #[], some (18, false)⟩ 30 (.pointer (some ⟨c, 0, none⟩)) HR.out.o20 rfl (by rw [hsz]; decide) (wanted_some rfl (yielded_of HR.out.o18 rfl e28 (by rw [hsz]; decide))) (fun z hS => pl3_20 c bx K M sz nv _ z (fun _ => rfl) e0 hS) ?_
  intro a21 ha21 s1 f1 n1 k1
  replace hsz := s1.trans hsz
  replace hdf := f1.trans hdf
  replace e0 := (k1 0 (by decide)).trans e0
  replace e2 := (k1 2 (by decide)).trans e2
  replace e4 := (k1 4 (by decide)).trans e4
  replace e28 := (k1 28 (by decide)).trans e28
  replace e29 := (k1 29 (by decide)).trans e29
  have e30 := n1
  clear s1 f1 n1 k1
  refine wpTake_stepE ⟨some 31, Op.nilCheck (Operand.tmp 30), 0, "", #[], some (18, false)⟩ 31 (.pointer (some ⟨c, 0, none⟩)) HR.out.o21 rfl (by rw [hsz]; decide) (wanted_some rfl (yielded_of HR.out.o18 rfl e28 (by rw [hsz]; decide))) (fun z hS => pl3_21 c bx K M sz nv _ z (fun _ => rfl) e30 hS) ?_
  intro a22 ha22 s1 f1 n1 k1
  replace hsz := s1.trans hsz
  replace hdf := f1.trans hdf
  replace e0 := (k1 0 (by decide)).trans e0
  replace e2 := (k1 2 (by decide)).trans e2
  replace e4 := (k1 4 (by decide)).trans e4
  replace e28 := (k1 28 (by decide)).trans e28
  replace e29 := (k1 29 (by decide)).trans e29
  have e31 := n1
  clear s1 f1 n1 k1
  refine wpTake_stepE ⟨some 32, Op.fieldAddr 106 (Operand.tmp 31) 3, 0, "", #[], some (18, false)⟩ 32 (.pointer (some ⟨c, 3, none⟩)) HR.out.o22 rfl (by rw [hsz]; decide) (wanted_some rfl (yielded_of HR.out.o18 rfl e28 (by rw [hsz]; decide))) (fun z hS => pl3_22 c bx K M sz nv _ z (fun _ => rfl) e31 hS) ?_
  intro a23 ha23 s1 f1 n1 k1
  replace hsz := s1.trans hsz
  replace hdf := f1.trans hdf
  replace e0 := (k1 0 (by decide)).trans e0
  replace e2 := (k1 2 (by decide)).trans e2
  replace e4 := (k1 4 (by decide)).trans e4
  replace e28 := (k1 28 (by decide)).trans e28
  replace e29 := (k1 29 (by decide)).trans e29
  have e32 := n1
  clear s1 f1 n1 k1
  refine wpTake_stepE ⟨some 33, Op.fieldAddr 42 (Operand.tmp 32) 7, 0, "", #[], some (18, false)⟩ 33 (.pointer (some ⟨c, 10, none⟩)) HR.out.o23 rfl (by rw [hsz]; decide) (wanted_some rfl (yielded_of HR.out.o18 rfl e28 (by rw [hsz]; decide))) (fun z hS => pl3_23 c bx K M sz nv _ z (fun _ => rfl) e32 hS) ?_
  intro a24 ha24 s1 f1 n1 k1
  replace hsz := s1.trans hsz
  replace hdf := f1.trans hdf
  replace e0 := (k1 0 (by decide)).trans e0
  replace e2 := (k1 2 (by decide)).trans e2
  replace e4 := (k1 4 (by decide)).trans e4
  replace e28 := (k1 28 (by decide)).trans e28
  replace e29 := (k1 29 (by decide)).trans e29
  have e33 := n1
  clear s1 f1 n1 k1
  refine wpTake_stepE ⟨some 34, Op.load 3 (Operand.tmp 33), 3, "", #[], some (18, false)⟩ 34 (.int .i64 sz) HR.out.o24 rfl (by rw [hsz]; decide) (wanted_some rfl (yielded_of HR.out.o18 rfl e28 (by rw [hsz]; decide))) (fun z hS => pl3_24 c bx K M sz nv _ z (fun _ => rfl) e33 hS) ?_
  intro a25 ha25 s1 f1 n1 k1
  replace hsz := s1.trans hsz
  replace hdf := f1.trans hdf
  replace e0 := (k1 0 (by decide)).trans e0
  replace e2 := (k1 2 (by decide)).trans e2
  replace e4 := (k1 4 (by decide)).trans e4
  replace e28 := (k1 28 (by decide)).trans e28
  replace e29 := (k1 29 (by decide)).trans e29
  have e34 := n1
  clear s1 f1 n1 k1
  refine wpTake_stepE ⟨some 35, Op.move (Operand.tmp 2), 23, "", #[], some (18, false)⟩ 35 (nv) HR.out.o25 rfl (by rw [hsz]; decide) (wanted_some rfl (yielded_of HR.out.o18 rfl e28 (by rw [hsz]; decide))) (fun z hS => pl3_25 c bx K M sz nv _ z (fun _ => rfl) e2 hS) ?_
  intro a26 ha26 s1 f1 n1 k1
  replace hsz := s1.trans hsz
  replace hdf := f1.trans hdf
  replace e0 := (k1 0 (by decide)).trans e0
  replace e2 := (k1 2 (by decide)).trans e2
  replace e4 := (k1 4 (by decide)).trans e4
  replace e28 := (k1 28 (by decide)).trans e28
  replace e29 := (k1 29 (by decide)).trans e29
  replace e34 := (k1 34 (by decide)).trans e34
  have e35 := n1
  clear s1 f1 n1 k1
  refine wpTake_nil ?_
  refine wpAnyH_oneG ⟨some 36, Op.call { callee := Callee.value (Operand.func 57), args := #[Operand.tmp 29, Operand.tmp 34, Operand.tmp 35], argTypes := #[26, 3, 23] }, 4, "", #[], some (18, false)⟩ HR.out.r26 HR.out.o26 (wanted_some rfl (yielded_of HR.out.o18 rfl e28 (by rw [hsz]; decide))) (fun K' hK' => ?_)
  refine wp_enter (pl3_26 c bx K M sz nv _ _ (fun _ => rfl) rfl e29 e34 e35) (hc2) ?_
  rintro e9 w9 ⟨rfl, hS9, hT⟩
  refine ⟨_, rfl, hK'.out _ _ (hS9) ?_⟩
  replace hHeld := hS9
  clear hK' K'
  show wpAnyH _ _ _ _ _ _ _ (Act.put a26 (some 36) (.bool true)) _
  obtain ⟨s1, f1, n1, k1⟩ := act_put a26 36 (.bool true) (show 36 < _ by rw [hsz]; decide)
  obtain ⟨a27, ha27⟩ : ∃ x, x = Act.put a26 (some 36) (.bool true) := ⟨_, rfl⟩
  rw [← ha27] at s1 f1 n1 k1 ⊢
  replace hsz := s1.trans hsz
  replace hdf := f1.trans hdf
  replace e0 := (k1 0 (by decide)).trans e0
  replace e2 := (k1 2 (by decide)).trans e2
  replace e4 := (k1 4 (by decide)).trans e4
  replace e28 := (k1 28 (by decide)).trans e28
  have e36 := n1
  clear s1 f1 n1 k1
  refine wpAnyH_takes HR.out.sel hQ hHeld [27, 28] 0 _ _ HR.out.may2 ?_
  refine wpTake_stepE ⟨some 37, Op.unOp UnOp.not 4 (Operand.tmp 36), 4, "", #[], some (18, false)⟩ 37 (.bool false) HR.out.o27 rfl (by rw [hsz]; decide) (wanted_some rfl (yielded_of HR.out.o18 rfl e28 (by rw [hsz]; decide))) (fun z hS => pl3_27 c bx K M sz nv _ z (fun _ => rfl) e36 hS) ?_
  intro a28 ha28 s1 f1 n1 k1
  replace hsz := s1.trans hsz
  replace hdf := f1.trans hdf
  replace e0 := (k1 0 (by decide)).trans e0
  replace e2 := (k1 2 (by decide)).trans e2
  replace e4 := (k1 4 (by decide)).trans e4
  replace e28 := (k1 28 (by decide)).trans e28
  have e37 := n1
  clear s1 f1 n1 k1
  refine wpTake_stepE ⟨some 38, Op.pick (Operand.tmp 28) (Operand.const (Value.bool true)) (Operand.tmp 37), 4, "", #[], none⟩ 38 (.bool false) HR.out.o28 rfl (by rw [hsz]; decide) (wanted_none rfl) (fun z hS => pl3_28 c bx K M sz nv _ z (fun _ => rfl) e28 e37 hS) ?_
  intro a29 ha29 s1 f1 n1 k1
  replace hsz := s1.trans hsz
  replace hdf := f1.trans hdf
  replace e0 := (k1 0 (by decide)).trans e0
  replace e2 := (k1 2 (by decide)).trans e2
  replace e4 := (k1 4 (by decide)).trans e4
  clear s1 f1 n1 k1
  refine wpTake_nil ?_
  refine wpAnyH_done HR.out.fin ?_ _
  rw [ha29, ha28, ha27, ha26, ha25, ha24, ha23, ha22, ha21, ha20, ha19, ha18, ha17, ha16, ha15, ha14, ha13, ha12, ha11, ha10, ha9, ha8, ha7, ha6, ha5, ha4, ha3, ha2, ha1]
  exact hK _ hT
-- pl3: ⟨by kernel_rfl, by kernel_rfl, by kernel_rfl, by kernel_rfl, by kernel_rfl, by kernel_rfl, by kernel_rfl, by kernel_rfl, by kernel_rfl, by kernel_rfl, by kernel_rfl, by kernel_rfl, by kernel_rfl, by kernel_rfl, by kernel_rfl, by kernel_rfl, by kernel_rfl, by kernel_rfl, by kernel_rfl, by kernel_rfl, by kernel_rfl, by kernel_rfl, by kernel_rfl, by kernel_rfl, by kernel_rfl, by kernel_rfl, by kernel_rfl, by kernel_rfl, by kernel_rfl, by kernel_rfl, by kernel_rfl, by kernel_rfl, by kernel_rfl, by kernel_rfl, by kernel_rfl, by kernel_rfl, by kernel_rfl⟩

theorem pl5_s1 (c K M : Nat) (va vb : Value) (ev : Operand → Value) (z : World) (e46 : ev (.tmp 46) = .pointer (some ⟨c, 12, none⟩)) (e41 : ev (.tmp 41) = .agg #[.int .i64 (K : Int), .int .i64 (M : Int)]) (hc : z.cell? ⟨c, 12, none⟩ = some va) (hf : z.frozen? ⟨c, 12, none⟩ = false) (hc2 : z.cell? ⟨c, 13, none⟩ = some vb) (hf2 : z.frozen? ⟨c, 13, none⟩ = false) : (execOp ev ⟨none, Op.store 26 (Operand.tmp 46) (Operand.tmp 41), 0, "", #[], none⟩).run Tryd.prog z = .ok .skip ((z.setCell ⟨c, 12, none⟩ (.int .i64 (K : Int))).setCell ⟨c, 13, none⟩ (.int .i64 (M : Int))) := by go_simp
theorem pl5_s2 (c G cq : Nat) (q : Option Addr) (va : Value) (ev : Operand → Value) (z : World) (e49 : ev (.tmp 49) = .pointer (some ⟨c, 14, none⟩)) (e43 : ev (.tmp 43) = .slice q G cq) (hc : z.cell? ⟨c, 14, none⟩ = some va) (hf : z.frozen? ⟨c, 14, none⟩ = false) : (execOp ev ⟨none, Op.store 23 (Operand.tmp 49) (Operand.tmp 43), 0, "", #[], none⟩).run Tryd.prog z = .ok .skip (z.setCell ⟨c, 14, none⟩ (.slice q G cq)) := by go_simp
theorem pl5_0 (c bx K M G cq : Nat) (q : Option Addr) (nv : Value) (ev : Operand → Value) (z : World) (ec : ∀ c, ev (.const c) = c) (e0 : ev (.tmp 0) = .pointer (some ⟨c, 0, none⟩)) (hS : (loadVar 26 ⟨bx, 0, none⟩).run Tryd.prog z = .ok (.agg #[.int .i64 (K : Int), .int .i64 (M : Int)]) z) : (execOp ev ⟨some 39, Op.move (Operand.tmp 0), 83, "", #[], none⟩).run Tryd.prog z = .ok (.value (.pointer (some ⟨c, 0, none⟩))) z := by
  obtain sa := hS
  go_simp
theorem pl5_1 (c bx K M G cq : Nat) (q : Option Addr) (nv : Value) (ev : Operand → Value) (z : World) (ec : ∀ c, ev (.const c) = c) (e0 : ev (.tmp 0) = .pointer (some ⟨c, 0, none⟩)) (hS : (loadVar 26 ⟨bx, 0, none⟩).run Tryd.prog z = .ok (.agg #[.int .i64 (K : Int), .int .i64 (M : Int)]) z) : (execOp ev ⟨some 40, Op.move (Operand.tmp 0), 83, "", #[], none⟩).run Tryd.prog z = .ok (.value (.pointer (some ⟨c, 0, none⟩))) z := by
  obtain sa := hS
  go_simp
theorem pl5_2 (c bx K M G cq : Nat) (q : Option Addr) (nv : Value) (ev : Operand → Value) (z : World) (ec : ∀ c, ev (.const c) = c) (e4 : ev (.tmp 4) = .pointer (some ⟨bx, 0, none⟩)) (hS : (loadVar 26 ⟨bx, 0, none⟩).run Tryd.prog z = .ok (.agg #[.int .i64 (K : Int), .int .i64 (M : Int)]) z) : (execOp ev ⟨some 41, Op.load 26 (Operand.tmp 4), 26, "", #[], none⟩).run Tryd.prog z = .ok (.value (.agg #[.int .i64 (K : Int), .int .i64 (M : Int)])) z := by
  exact exec_ldC e4 hS
theorem pl5_3 (c bx K M G cq : Nat) (q : Option Addr) (nv : Value) (ev : Operand → Value) (z : World) (ec : ∀ c, ev (.const c) = c) (e2 : ev (.tmp 2) = nv) (hS : (loadVar 26 ⟨bx, 0, none⟩).run Tryd.prog z = .ok (.agg #[.int .i64 (K : Int), .int .i64 (M : Int)]) z) : (execOp ev ⟨some 42, Op.move (Operand.tmp 2), 23, "", #[], none⟩).run Tryd.prog z = .ok (.value (nv)) z := by
  obtain sa := hS
  go_simp
set_option maxRecDepth 100000 in
theorem pl5_4 (c bx K M G cq : Nat) (q : Option Addr) (nv : Value) (ev : Operand → Value) (z : World) (ec : ∀ c, ev (.const c) = c) (ef : ev (.func 73) = .func (.func 73) #[] #[]) (e42 : ev (.tmp 42) = nv) : (execOp ev ⟨some 43, Op.call { callee := Callee.value (Operand.func 73), args := #[Operand.tmp 42], argTypes := #[23] }, 23, "", #[], none⟩).run Tryd.prog z = .ok (.enter 73 #[nv]) z :=
  enter_run _ ef (by simp only [List.map_toArray, List.map_cons, List.map_nil, ec, e42]) (fun _ => by rfl)
theorem pl5_5 (c bx K M G cq : Nat) (q : Option Addr) (nv : Value) (ev : Operand → Value) (z : World) (ec : ∀ c, ev (.const c) = c) (e39 : ev (.tmp 39) = .pointer (some ⟨c, 0, none⟩)) (hS : (loadVar 26 ⟨bx, 0, none⟩).run Tryd.prog z = .ok (.agg #[.int .i64 (K : Int), .int .i64 (M : Int)]) z) : (execOp ev ⟨some 44, Op.nilCheck (Operand.tmp 39), 0, "", #[], none⟩).run Tryd.prog z = .ok (.value (.pointer (some ⟨c, 0, none⟩))) z := by
  obtain sa := hS
  go_simp
theorem pl5_6 (c bx K M G cq : Nat) (q : Option Addr) (nv : Value) (ev : Operand → Value) (z : World) (ec : ∀ c, ev (.const c) = c) (e44 : ev (.tmp 44) = .pointer (some ⟨c, 0, none⟩)) (hS : (loadVar 26 ⟨bx, 0, none⟩).run Tryd.prog z = .ok (.agg #[.int .i64 (K : Int), .int .i64 (M : Int)]) z) : (execOp ev ⟨some 45, Op.fieldAddr 106 (Operand.tmp 44) 3, 0, "", #[], none⟩).run Tryd.prog z = .ok (.value (.pointer (some ⟨c, 3, none⟩))) z := by
  obtain sa := hS
  go_simp
theorem pl5_7 (c bx K M G cq : Nat) (q : Option Addr) (nv : Value) (ev : Operand → Value) (z : World) (ec : ∀ c, ev (.const c) = c) (e45 : ev (.tmp 45) = .pointer (some ⟨c, 3, none⟩)) (hS : (loadVar 26 ⟨bx, 0, none⟩).run Tryd.prog z = .ok (.agg #[.int .i64 (K : Int), .int .i64 (M : Int)]) z) : (execOp ev ⟨some 46, Op.fieldAddr 42 (Operand.tmp 45) 9, 0, "", #[], none⟩).run Tryd.prog z = .ok (.value (.pointer (some ⟨c, 12, none⟩))) z := by
  obtain sa := hS
  go_simp
theorem pl5_9 (c bx K M G cq : Nat) (q : Option Addr) (nv : Value) (ev : Operand → Value) (z : World) (ec : ∀ c, ev (.const c) = c) (e40 : ev (.tmp 40) = .pointer (some ⟨c, 0, none⟩)) (hS : (loadVar 26 ⟨bx, 0, none⟩).run Tryd.prog z = .ok (.agg #[.int .i64 (K : Int), .int .i64 (M : Int)]) z) : (execOp ev ⟨some 47, Op.nilCheck (Operand.tmp 40), 0, "", #[], none⟩).run Tryd.prog z = .ok (.value (.pointer (some ⟨c, 0, none⟩))) z := by
  obtain sa := hS
  go_simp
theorem pl5_10 (c bx K M G cq : Nat) (q : Option Addr) (nv : Value) (ev : Operand → Value) (z : World) (ec : ∀ c, ev (.const c) = c) (e47 : ev (.tmp 47) = .pointer (some ⟨c, 0, none⟩)) (hS : (loadVar 26 ⟨bx, 0, none⟩).run Tryd.prog z = .ok (.agg #[.int .i64 (K : Int), .int .i64 (M : Int)]) z) : (execOp ev ⟨some 48, Op.fieldAddr 106 (Operand.tmp 47) 3, 0, "", #[], none⟩).run Tryd.prog z = .ok (.value (.pointer (some ⟨c, 3, none⟩))) z := by
  obtain sa := hS
  go_simp
theorem pl5_11 (c bx K M G cq : Nat) (q : Option Addr) (nv : Value) (ev : Operand → Value) (z : World) (ec : ∀ c, ev (.const c) = c) (e48 : ev (.tmp 48) = .pointer (some ⟨c, 3, none⟩)) (hS : (loadVar 26 ⟨bx, 0, none⟩).run Tryd.prog z = .ok (.agg #[.int .i64 (K : Int), .int .i64 (M : Int)]) z) : (execOp ev ⟨some 49, Op.fieldAddr 42 (Operand.tmp 48) 10, 0, "", #[], none⟩).run Tryd.prog z = .ok (.value (.pointer (some ⟨c, 14, none⟩))) z := by
  obtain sa := hS
  go_simp
structure pl5R (ops : Array Oper) : Prop where
  size : ops.size = 13
  sel : Region.noSelect ops = true
  o0 : (ops[0]?).map bare = some ⟨some 39, Op.move (Operand.tmp 0), 83, "", #[], none⟩
  o1 : (ops[1]?).map bare = some ⟨some 40, Op.move (Operand.tmp 0), 83, "", #[], none⟩
  o2 : (ops[2]?).map bare = some ⟨some 41, Op.load 26 (Operand.tmp 4), 26, "", #[], none⟩
  o3 : (ops[3]?).map bare = some ⟨some 42, Op.move (Operand.tmp 2), 23, "", #[], none⟩
  o4 : (ops[4]?).map bare = some ⟨some 43, Op.call { callee := Callee.value (Operand.func 73), args := #[Operand.tmp 42], argTypes := #[23] }, 23, "", #[], none⟩
  o5 : (ops[5]?).map bare = some ⟨some 44, Op.nilCheck (Operand.tmp 39), 0, "", #[], none⟩
  o6 : (ops[6]?).map bare = some ⟨some 45, Op.fieldAddr 106 (Operand.tmp 44) 3, 0, "", #[], none⟩
  o7 : (ops[7]?).map bare = some ⟨some 46, Op.fieldAddr 42 (Operand.tmp 45) 9, 0, "", #[], none⟩
  o8 : (ops[8]?).map bare = some ⟨none, Op.store 26 (Operand.tmp 46) (Operand.tmp 41), 0, "", #[], none⟩
  o9 : (ops[9]?).map bare = some ⟨some 47, Op.nilCheck (Operand.tmp 40), 0, "", #[], none⟩
  o10 : (ops[10]?).map bare = some ⟨some 48, Op.fieldAddr 106 (Operand.tmp 47) 3, 0, "", #[], none⟩
  o11 : (ops[11]?).map bare = some ⟨some 49, Op.fieldAddr 42 (Operand.tmp 48) 10, 0, "", #[], none⟩
  o12 : (ops[12]?).map bare = some ⟨none, Op.store 23 (Operand.tmp 49) (Operand.tmp 43), 0, "", #[], none⟩
  may0 : takeB .any ops [0, 1, 2, 3] (Array.replicate 13 false) = true
  r4 : Region.ready .any ops (mark [0, 1, 2, 3] (Array.replicate 13 false)) = [4]
  may1 : takeB .any ops [5, 6, 7] ((mark [0, 1, 2, 3] (Array.replicate 13 false)).setIfInBounds 4 true) = true
  r8 : Region.ready .any ops (mark [5, 6, 7] ((mark [0, 1, 2, 3] (Array.replicate 13 false)).setIfInBounds 4 true)) = [8]
  may2 : takeB .any ops [9, 10, 11] ((mark [5, 6, 7] ((mark [0, 1, 2, 3] (Array.replicate 13 false)).setIfInBounds 4 true)).setIfInBounds 8 true) = true
  r12 : Region.ready .any ops (mark [9, 10, 11] ((mark [5, 6, 7] ((mark [0, 1, 2, 3] (Array.replicate 13 false)).setIfInBounds 4 true)).setIfInBounds 8 true)) = [12]
  fin : Region.ready .any ops ((mark [9, 10, 11] ((mark [5, 6, 7] ((mark [0, 1, 2, 3] (Array.replicate 13 false)).setIfInBounds 4 true)).setIfInBounds 8 true)).setIfInBounds 12 true) = []

set_option maxRecDepth 100000 in
set_option maxHeartbeats 3200000 in
theorem pl5_region {ops : Array Oper} {id : Nat} {Q : Exit → Act → World → Prop} {a : Act} {y : World} (R : pl5R ops) (c bx K M G cq : Nat) (q : Option Addr) (nv : Value)
    (hQ : ∀ d v c a w, Q (.panic c) (a.put d v) w → Q (.panic c) a w) (hsz : a.tmps.size = 58) (e0 : a.eval (.tmp 0) = .pointer (some ⟨c, 0, none⟩)) (e2 : a.eval (.tmp 2) = nv) (e4 : a.eval (.tmp 4) = .pointer (some ⟨bx, 0, none⟩)) (hS0 : ((loadVar 26 ⟨bx, 0, none⟩).run Tryd.prog y.drew = .ok (.agg #[.int .i64 (K : Int), .int .i64 (M : Int)]) y.drew)) (T : World → Prop) (hc : Calls Tryd.prog 73 #[nv] y.drew fun e w9 => ∃ (q : Option Addr) (cq : Nat) (va vb vc : Value), e = .returned (.slice q G cq) ∧ ((loadVar 26 ⟨bx, 0, none⟩).run Tryd.prog w9 = .ok (.agg #[.int .i64 (K : Int), .int .i64 (M : Int)]) w9) ∧ ((loadVar 26 ⟨bx, 0, none⟩).run Tryd.prog ((w9.setCell ⟨c, 12, none⟩ (.int .i64 (K : Int))).setCell ⟨c, 13, none⟩ (.int .i64 (M : Int))) = .ok (.agg #[.int .i64 (K : Int), .int .i64 (M : Int)]) ((w9.setCell ⟨c, 12, none⟩ (.int .i64 (K : Int))).setCell ⟨c, 13, none⟩ (.int .i64 (M : Int)))) ∧ ((loadVar 26 ⟨bx, 0, none⟩).run Tryd.prog (((w9.setCell ⟨c, 12, none⟩ (.int .i64 (K : Int))).setCell ⟨c, 13, none⟩ (.int .i64 (M : Int))).setCell ⟨c, 14, none⟩ (.slice q G cq)) = .ok (.agg #[.int .i64 (K : Int), .int .i64 (M : Int)]) (((w9.setCell ⟨c, 12, none⟩ (.int .i64 (K : Int))).setCell ⟨c, 13, none⟩ (.int .i64 (M : Int))).setCell ⟨c, 14, none⟩ (.slice q G cq))) ∧ w9.cell? ⟨c, 12, none⟩ = some va ∧ w9.frozen? ⟨c, 12, none⟩ = false ∧ w9.cell? ⟨c, 13, none⟩ = some vb ∧ w9.frozen? ⟨c, 13, none⟩ = false ∧ ((w9.setCell ⟨c, 12, none⟩ (.int .i64 (K : Int))).setCell ⟨c, 13, none⟩ (.int .i64 (M : Int))).cell? ⟨c, 14, none⟩ = some vc ∧ ((w9.setCell ⟨c, 12, none⟩ (.int .i64 (K : Int))).setCell ⟨c, 13, none⟩ (.int .i64 (M : Int))).frozen? ⟨c, 14, none⟩ = false ∧ T (((w9.setCell ⟨c, 12, none⟩ (.int .i64 (K : Int))).setCell ⟨c, 13, none⟩ (.int .i64 (M : Int))).setCell ⟨c, 14, none⟩ (.slice q G cq)))
    (hK : ∀ (q : Option Addr) (cq : Nat) (w9 : World), T (((w9.setCell ⟨c, 12, none⟩ (.int .i64 (K : Int))).setCell ⟨c, 13, none⟩ (.int .i64 (M : Int))).setCell ⟨c, 14, none⟩ (.slice q G cq)) → Q .normal (((((((((((a.put (some 39) (.pointer (some ⟨c, 0, none⟩))).put (some 40) (.pointer (some ⟨c, 0, none⟩))).put (some 41) (.agg #[.int .i64 (K : Int), .int .i64 (M : Int)])).put (some 42) (nv)).put (some 43) (.slice q G cq)).put (some 44) (.pointer (some ⟨c, 0, none⟩))).put (some 45) (.pointer (some ⟨c, 3, none⟩))).put (some 46) (.pointer (some ⟨c, 12, none⟩))).put (some 47) (.pointer (some ⟨c, 0, none⟩))).put (some 48) (.pointer (some ⟨c, 3, none⟩))).put (some 49) (.pointer (some ⟨c, 14, none⟩))) (((w9.setCell ⟨c, 12, none⟩ (.int .i64 (K : Int))).setCell ⟨c, 13, none⟩ (.int .i64 (M : Int))).setCell ⟨c, 14, none⟩ (.slice q G cq))) : (Code.region id ops true).wp Tryd.prog Q a y := by
  have HR : Hid (pl5R ops) := R
  have hdf : a.defers = a.defers := rfl
  refine wp_region_held_drew (S := (fun z : World => (loadVar 26 ⟨bx, 0, none⟩).run Tryd.prog z = .ok (.agg #[.int .i64 (K : Int), .int .i64 (M : Int)]) z)) (by kernel_rfl) (hS0) (fun hHeld => ?_)
  rw [R.size]
  clear R
  refine wpAnyH_takes HR.out.sel hQ hHeld [0, 1, 2, 3] 9 _ _ HR.out.may0 ?_
  refine wpTake_stepE ⟨some 39, Op.move (Operand.tmp 0), 83, "", #[], none⟩ 39 (.pointer (some ⟨c, 0, none⟩)) HR.out.o0 rfl (by rw [hsz]; decide) (wanted_none rfl) (fun z hS => pl5_0 c bx K M G cq q nv _ z (fun _ => rfl) e0 hS) ?_
  intro a1 ha1 s1 f1 n1 k1
  replace hsz := s1.trans hsz
  replace hdf := f1.trans hdf
  replace e0 := (k1 0 (by decide)).trans e0
  replace e2 := (k1 2 (by decide)).trans e2
  replace e4 := (k1 4 (by decide)).trans e4
  have e39 := n1
  clear s1 f1 n1 k1
  refine wpTake_stepE ⟨some 40, Op.move (Operand.tmp 0), 83, "", #[], none⟩ 40 (.pointer (some ⟨c, 0, none⟩)) HR.out.o1 rfl (by rw [hsz]; decide) (wanted_none rfl) (fun z hS => pl5_1 c bx K M G cq q nv _ z (fun _ => rfl) e0 hS) ?_
  intro a2 ha2 s1 f1 n1 k1
  replace hsz := s1.trans hsz
  replace hdf := f1.trans hdf
  replace e0 := (k1 0 (by decide)).trans e0
  replace e2 := (k1 2 (by decide)).trans e2
  replace e4 := (k1 4 (by decide)).trans e4
  replace e39 := (k1 39 (by decide)).trans e39
  have e40 := n1
  clear s1 f1 n1 k1
  refine wpTake_stepE ⟨some 41, Op.load 26 (Operand.tmp 4), 26, "", #[], none⟩ 41 (.agg #[.int .i64 (K : Int), .int .i64 (M : Int)]) HR.out.o2 rfl (by rw [hsz]; decide) (wanted_none rfl) (fun z hS => pl5_2 c bx K M G cq q nv _ z (fun _ => rfl) e4 hS) ?_
  intro a3 ha3 s1 f1 n1 k1
  replace hsz := s1.trans hsz
  replace hdf := f1.trans hdf
  replace e0 := (k1 0 (by decide)).trans e0
  replace e2 := (k1 2 (by decide)).trans e2
  replace e4 := (k1 4 (by decide)).trans e4
  replace e39 := (k1 39 (by decide)).trans e39
  replace e40 := (k1 40 (by decide)).trans e40
  have e41 := n1
  clear s1 f1 n1 k1
  refine wpTake_stepE ⟨some 42, Op.move (Operand.tmp 2), 23, "", #[], none⟩ 42 (nv) HR.out.o3 rfl (by rw [hsz]; decide) (wanted_none rfl) (fun z hS => pl5_3 c bx K M G cq q nv _ z (fun _ => rfl) e2 hS) ?_
  intro a4 ha4 s1 f1 n1 k1
  replace hsz := s1.trans hsz
  replace hdf := f1.trans hdf
  replace e0 := (k1 0 (by decide)).trans e0
  replace e2 := (k1 2 (by decide)).trans e2
  replace e4 := (k1 4 (by decide)).trans e4
  replace e39 := (k1 39 (by decide)).trans e39
  replace e40 := (k1 40 (by decide)).trans e40
  replace e41 := (k1 41 (by decide)).trans e41
  have e42 := n1
  clear s1 f1 n1 k1
  refine wpTake_nil ?_
  refine wpAnyH_one ⟨some 43, Op.call { callee := Callee.value (Operand.func 73), args := #[Operand.tmp 42], argTypes := #[23] }, 23, "", #[], none⟩ HR.out.r4 HR.out.o4 rfl (fun K' hK' => ?_)
  refine wp_enter (pl5_4 c bx K M G cq q nv _ _ (fun _ => rfl) rfl e42) (hc) ?_
  rintro e9 w9 ⟨q, cq, va, vb, vc, rfl, hS9, hSa, hSb, ca, fa, cb, fb, cc, fc, hT⟩
  refine ⟨_, rfl, hK'.out _ _ (hS9) ?_⟩
  replace hHeld := hS9
  clear hK' K'
  show wpAnyH _ _ _ _ _ _ _ (Act.put a4 (some 43) (.slice q G cq)) _
  obtain ⟨s1, f1, n1, k1⟩ := act_put a4 43 (.slice q G cq) (show 43 < _ by rw [hsz]; decide)
  obtain ⟨a5, ha5⟩ : ∃ x, x = Act.put a4 (some 43) (.slice q G cq) := ⟨_, rfl⟩
  rw [← ha5] at s1 f1 n1 k1 ⊢
  replace hsz := s1.trans hsz
  replace hdf := f1.trans hdf
  replace e0 := (k1 0 (by decide)).trans e0
  replace e2 := (k1 2 (by decide)).trans e2
  replace e4 := (k1 4 (by decide)).trans e4
  replace e39 := (k1 39 (by decide)).trans e39
  replace e40 := (k1 40 (by decide)).trans e40
  replace e41 := (k1 41 (by decide)).trans e41
  have e43 := n1
  clear s1 f1 n1 k1
  refine wpAnyH_takes HR.out.sel hQ hHeld [5, 6, 7] 5 _ _ HR.out.may1 ?_
  refine wpTake_stepE ⟨some 44, Op.nilCheck (Operand.tmp 39), 0, "", #[], none⟩ 44 (.pointer (some ⟨c, 0, none⟩)) HR.out.o5 rfl (by rw [hsz]; decide) (wanted_none rfl) (fun z hS => pl5_5 c bx K M G cq q nv _ z (fun _ => rfl) e39 hS) ?_
  intro a6 ha6 s1 f1 n1 k1
  replace hsz := s1.trans hsz
  replace hdf := f1.trans hdf
  replace e0 := (k1 0 (by decide)).trans e0
  replace e2 := (k1 2 (by decide)).trans e2
  replace e4 := (k1 4 (by decide)).trans e4
  replace e40 := (k1 40 (by decide)).trans e40
  replace e41 := (k1 41 (by decide)).trans e41
  replace e43 := (k1 43 (by decide)).trans e43
  have e44 := n1
  clear s1 f1 n1 k1
  refine wpTake_stepE ⟨some 45, Op.fieldAddr 106 (Operand.tmp 44) 3, 0, "", #[], none⟩ 45 (.pointer (some ⟨c, 3, none⟩)) HR.out.o6 rfl (by rw [hsz]; decide) (wanted_none rfl) (fun z hS => pl5_6 c bx K M G cq q nv _ z (fun _ => rfl) e44 hS) ?_
  intro a7 ha7 s1 f1 n1 k1
  replace hsz := s1.trans hsz
  replace hdf := f1.trans hdf
  replace e0 := (k1 0 (by decide)).trans e0
  replace e2 := (k1 2 (by decide)).trans e2
  replace e4 := (k1 4 (by decide)).trans e4
  replace e40 := (k1 40 (by decide)).trans e40
  replace e41 := (k1 41 (by decide)).trans e41
  replace e43 := (k1 43 (by decide)).trans e43
  have e45 := n1
  clear s1 f1 n1 k1
  refine wpTake_stepE ⟨some 46, Op.fieldAddr 42 (Operand.tmp 45) 9, 0, "", #[], none⟩ 46 (.pointer (some ⟨c, 12, none⟩)) HR.out.o7 rfl (by rw [hsz]; decide) (wanted_none rfl) (fun z hS => pl5_7 c bx K M G cq q nv _ z (fun _ => rfl) e45 hS) ?_
  intro a8 ha8 s1 f1 n1 k1
  replace hsz := s1.trans hsz
  replace hdf := f1.trans hdf
  replace e0 := (k1 0 (by decide)).trans e0
  replace e2 := (k1 2 (by decide)).trans e2
  replace e4 := (k1 4 (by decide)).trans e4
  replace e40 := (k1 40 (by decide)).trans e40
  replace e41 := (k1 41 (by decide)).trans e41
  replace e43 := (k1 43 (by decide)).trans e43
  have e46 := n1
  clear s1 f1 n1 k1
  refine wpTake_nil ?_
  refine wpAnyH_skip ⟨none, Op.store 26 (Operand.tmp 46) (Operand.tmp 41), 0, "", #[], none⟩ ((w9.setCell ⟨c, 12, none⟩ (.int .i64 (K : Int))).setCell ⟨c, 13, none⟩ (.int .i64 (M : Int))) HR.out.r8 HR.out.o8 rfl rfl (pl5_s1 c K M va vb _ _ e46 e41 ca fa cb fb) (hSa) ?_
  replace hHeld := hSa
  refine wpAnyH_takes HR.out.sel hQ hHeld [9, 10, 11] 1 _ _ HR.out.may2 ?_
  refine wpTake_stepE ⟨some 47, Op.nilCheck (Operand.tmp 40), 0, "", #[], none⟩ 47 (.pointer (some ⟨c, 0, none⟩)) HR.out.o9 rfl (by rw [hsz]; decide) (wanted_none rfl) (fun z hS => pl5_9 c bx K M G cq q nv _ z (fun _ => rfl) e40 hS) ?_
  intro a9 ha9 s1 f1 n1 k1
  replace hsz := s1.trans hsz
  replace hdf := f1.trans hdf
  replace e0 := (k1 0 (by decide)).trans e0
  replace e2 := (k1 2 (by decide)).trans e2
  replace e4 := (k1 4 (by decide)).trans e4
  replace e43 := (k1 43 (by decide)).trans e43
  have e47 := n1
  clear s1 f1 n1 k1
  refine wpTake_stepE ⟨some 48, Op.fieldAddr 106 (Operand.tmp 47) 3, 0, "", #[], none⟩ 48 (.pointer (some ⟨c, 3, none⟩)) HR.out.o10 rfl (by rw [hsz]; decide) (wanted_none rfl) (fun z hS => pl5_10 c bx K M G cq q nv _ z (fun _ => rfl) e47 hS) ?_
  intro a10 ha10 s1 f1 n1 k1
  replace hsz := s1.trans hsz
  replace hdf := f1.trans hdf
  replace e0 := (k1 0 (by decide)).trans e0
  replace e2 := (k1 2 (by decide)).trans e2
  replace e4 := (k1 4 (by decide)).trans e4
  replace e43 := (k1 43 (by decide)).trans e43
  have e48 := n1
  clear s1 f1 n1 k1
  refine wpTake_stepE ⟨some 49, Op.fieldAddr 42 (Operand.tmp 48) 10, 0, "", #[], none⟩ 49 (.pointer (some ⟨c, 14, none⟩)) HR.out.o11 rfl (by rw [hsz]; decide) (wanted_none rfl) (fun z hS => pl5_11 c bx K M G cq q nv _ z (fun _ => rfl) e48 hS) ?_
  intro a11 ha11 s1 f1 n1 k1
  replace hsz := s1.trans hsz
  replace hdf := f1.trans hdf
  replace e0 := (k1 0 (by decide)).trans e0
  replace e2 := (k1 2 (by decide)).trans e2
  replace e4 := (k1 4 (by decide)).trans e4
  replace e43 := (k1 43 (by decide)).trans e43
  have e49 := n1
  clear s1 f1 n1 k1
  refine wpTake_nil ?_
  refine wpAnyH_skip ⟨none, Op.store 23 (Operand.tmp 49) (Operand.tmp 43), 0, "", #[], none⟩ (((w9.setCell ⟨c, 12, none⟩ (.int .i64 (K : Int))).setCell ⟨c, 13, none⟩ (.int .i64 (M : Int))).setCell ⟨c, 14, none⟩ (.slice q G cq)) HR.out.r12 HR.out.o12 rfl rfl (pl5_s2 c G cq q vc _ _ e49 e43 cc fc) (hSb) ?_
  replace hHeld := hSb
  refine wpAnyH_done HR.out.fin ?_ _
  rw [ha11, ha10, ha9, ha8, ha7, ha6, ha5, ha4, ha3, ha2, ha1]
  exact hK _ _ _ hT
-- pl5: ⟨by kernel_rfl, by kernel_rfl, by kernel_rfl, by kernel_rfl, by kernel_rfl, by kernel_rfl, by kernel_rfl, by kernel_rfl, by kernel_rfl, by kernel_rfl, by kernel_rfl, by kernel_rfl, by kernel_rfl, by kernel_rfl, by kernel_rfl, by kernel_rfl, by kernel_rfl, by kernel_rfl, by kernel_rfl, by kernel_rfl, by kernel_rfl, by kernel_rfl⟩

theorem pl6_0 (c : Nat) (ca : Array Value) (ev : Operand → Value) (z : World) (ec : ∀ c, ev (.const c) = c) (e0 : ev (.tmp 0) = .pointer (some ⟨c, 0, none⟩)) (hS : (loadVar 42 ⟨c, 3, none⟩).run Tryd.prog z = .ok (.agg ca) z) : (execOp ev ⟨some 50, Op.move (Operand.tmp 0), 83, "", #[], none⟩).run Tryd.prog z = .ok (.value (.pointer (some ⟨c, 0, none⟩))) z := by
  obtain sa := hS
  go_simp
theorem pl6_1 (c : Nat) (ca : Array Value) (ev : Operand → Value) (z : World) (ec : ∀ c, ev (.const c) = c) (e50 : ev (.tmp 50) = .pointer (some ⟨c, 0, none⟩)) (hS : (loadVar 42 ⟨c, 3, none⟩).run Tryd.prog z = .ok (.agg ca) z) : (execOp ev ⟨some 51, Op.nilCheck (Operand.tmp 50), 0, "", #[], none⟩).run Tryd.prog z = .ok (.value (.pointer (some ⟨c, 0, none⟩))) z := by
  obtain sa := hS
  go_simp
theorem pl6_2 (c : Nat) (ca : Array Value) (ev : Operand → Value) (z : World) (ec : ∀ c, ev (.const c) = c) (e51 : ev (.tmp 51) = .pointer (some ⟨c, 0, none⟩)) (hS : (loadVar 42 ⟨c, 3, none⟩).run Tryd.prog z = .ok (.agg ca) z) : (execOp ev ⟨some 52, Op.fieldAddr 106 (Operand.tmp 51) 5, 0, "", #[], none⟩).run Tryd.prog z = .ok (.value (.pointer (some ⟨c, 16, none⟩))) z := by
  obtain sa := hS
  go_simp
theorem pl6_3 (c : Nat) (ca : Array Value) (ev : Operand → Value) (z : World) (ec : ∀ c, ev (.const c) = c) (e0 : ev (.tmp 0) = .pointer (some ⟨c, 0, none⟩)) (hS : (loadVar 42 ⟨c, 3, none⟩).run Tryd.prog z = .ok (.agg ca) z) : (execOp ev ⟨some 53, Op.move (Operand.tmp 0), 83, "", #[], none⟩).run Tryd.prog z = .ok (.value (.pointer (some ⟨c, 0, none⟩))) z := by
  obtain sa := hS
  go_simp
theorem pl6_4 (c : Nat) (ca : Array Value) (ev : Operand → Value) (z : World) (ec : ∀ c, ev (.const c) = c) (e53 : ev (.tmp 53) = .pointer (some ⟨c, 0, none⟩)) (hS : (loadVar 42 ⟨c, 3, none⟩).run Tryd.prog z = .ok (.agg ca) z) : (execOp ev ⟨some 54, Op.nilCheck (Operand.tmp 53), 0, "", #[], none⟩).run Tryd.prog z = .ok (.value (.pointer (some ⟨c, 0, none⟩))) z := by
  obtain sa := hS
  go_simp
theorem pl6_5 (c : Nat) (ca : Array Value) (ev : Operand → Value) (z : World) (ec : ∀ c, ev (.const c) = c) (e54 : ev (.tmp 54) = .pointer (some ⟨c, 0, none⟩)) (hS : (loadVar 42 ⟨c, 3, none⟩).run Tryd.prog z = .ok (.agg ca) z) : (execOp ev ⟨some 55, Op.fieldAddr 106 (Operand.tmp 54) 3, 0, "", #[], none⟩).run Tryd.prog z = .ok (.value (.pointer (some ⟨c, 3, none⟩))) z := by
  obtain sa := hS
  go_simp
theorem pl6_6 (c : Nat) (ca : Array Value) (ev : Operand → Value) (z : World) (ec : ∀ c, ev (.const c) = c) (e55 : ev (.tmp 55) = .pointer (some ⟨c, 3, none⟩)) (hS : (loadVar 42 ⟨c, 3, none⟩).run Tryd.prog z = .ok (.agg ca) z) : (execOp ev ⟨some 56, Op.load 42 (Operand.tmp 55), 42, "", #[], none⟩).run Tryd.prog z = .ok (.value (.agg ca)) z := by
  exact exec_ldC e55 hS
set_option maxRecDepth 100000 in
theorem pl6_7 (c : Nat) (ca : Array Value) (ev : Operand → Value) (z : World) (ec : ∀ c, ev (.const c) = c) (ef : ev (.func 74) = .func (.func 74) #[] #[]) (e52 : ev (.tmp 52) = .pointer (some ⟨c, 16, none⟩)) (e56 : ev (.tmp 56) = .agg ca) : (execOp ev ⟨some 57, Op.call { callee := Callee.value (Operand.func 74), args := #[Operand.tmp 52, Operand.tmp 56], argTypes := #[102, 42] }, 0, "", #[], none⟩).run Tryd.prog z = .ok (.enter 74 #[.pointer (some ⟨c, 16, none⟩), .agg ca]) z :=
  enter_run _ ef (by simp only [List.map_toArray, List.map_cons, List.map_nil, ec, e52, e56]) (fun _ => by rfl)
structure pl6R (ops : Array Oper) : Prop where
  size : ops.size = 8
  sel : Region.noSelect ops = true
  o0 : (ops[0]?).map bare = some ⟨some 50, Op.move (Operand.tmp 0), 83, "", #[], none⟩
  o1 : (ops[1]?).map bare = some ⟨some 51, Op.nilCheck (Operand.tmp 50), 0, "", #[], none⟩
  o2 : (ops[2]?).map bare = some ⟨some 52, Op.fieldAddr 106 (Operand.tmp 51) 5, 0, "", #[], none⟩
  o3 : (ops[3]?).map bare = some ⟨some 53, Op.move (Operand.tmp 0), 83, "", #[], none⟩
  o4 : (ops[4]?).map bare = some ⟨some 54, Op.nilCheck (Operand.tmp 53), 0, "", #[], none⟩
  o5 : (ops[5]?).map bare = some ⟨some 55, Op.fieldAddr 106 (Operand.tmp 54) 3, 0, "", #[], none⟩
  o6 : (ops[6]?).map bare = some ⟨some 56, Op.load 42 (Operand.tmp 55), 42, "", #[], none⟩
  o7 : (ops[7]?).map bare = some ⟨some 57, Op.call { callee := Callee.value (Operand.func 74), args := #[Operand.tmp 52, Operand.tmp 56], argTypes := #[102, 42] }, 0, "", #[], none⟩
  may0 : takeB .any ops [0, 1, 2, 3, 4, 5, 6] (Array.replicate 8 false) = true
  r7 : Region.ready .any ops (mark [0, 1, 2, 3, 4, 5, 6] (Array.replicate 8 false)) = [7]
  fin : Region.ready .any ops ((mark [0, 1, 2, 3, 4, 5, 6] (Array.replicate 8 false)).setIfInBounds 7 true) = []

set_option maxRecDepth 100000 in
set_option maxHeartbeats 3200000 in
theorem pl6_region {ops : Array Oper} {id : Nat} {Q : Exit → Act → World → Prop} {a : Act} {y : World} (R : pl6R ops) (c : Nat) (ca : Array Value)
    (hQ : ∀ d v c a w, Q (.panic c) (a.put d v) w → Q (.panic c) a w) (hsz : a.tmps.size = 58) (e0 : a.eval (.tmp 0) = .pointer (some ⟨c, 0, none⟩)) (hS0 : ((loadVar 42 ⟨c, 3, none⟩).run Tryd.prog y.drew = .ok (.agg ca) y.drew)) (T : World → Prop) (hc : Calls Tryd.prog 74 #[.pointer (some ⟨c, 16, none⟩), .agg ca] y.drew fun e w9 => e = .returned (.tuple #[]) ∧ ((loadVar 42 ⟨c, 3, none⟩).run Tryd.prog w9 = .ok (.agg ca) w9) ∧ T w9)
    (hK : ∀ (w9 : World), T w9 → Q .normal ((((((((a.put (some 50) (.pointer (some ⟨c, 0, none⟩))).put (some 51) (.pointer (some ⟨c, 0, none⟩))).put (some 52) (.pointer (some ⟨c, 16, none⟩))).put (some 53) (.pointer (some ⟨c, 0, none⟩))).put (some 54) (.pointer (some ⟨c, 0, none⟩))).put (some 55) (.pointer (some ⟨c, 3, none⟩))).put (some 56) (.agg ca)).put (some 57) (.tuple #[])) w9) : (Code.region id ops true).wp Tryd.prog Q a y := by
  have HR : Hid (pl6R ops) := R
  have hdf : a.defers = a.defers := rfl
  refine wp_region_held_drew (S := (fun z : World => (loadVar 42 ⟨c, 3, none⟩).run Tryd.prog z = .ok (.agg ca) z)) (by kernel_rfl) (hS0) (fun hHeld => ?_)
  rw [R.size]
  clear R
  refine wpAnyH_takes HR.out.sel hQ hHeld [0, 1, 2, 3, 4, 5, 6] 1 _ _ HR.out.may0 ?_
  refine wpTake_stepE ⟨some 50, Op.move (Operand.tmp 0), 83, "", #[], none⟩ 50 (.pointer (some ⟨c, 0, none⟩)) HR.out.o0 rfl (by rw [hsz]; decide) (wanted_none rfl) (fun z hS => pl6_0 c ca _ z (fun _ => rfl) e0 hS) ?_
  intro a1 ha1 s1 f1 n1 k1
  replace hsz := s1.trans hsz
  replace hdf := f1.trans hdf
  replace e0 := (k1 0 (by decide)).trans e0
  have e50 := n1
  clear s1 f1 n1 k1
  refine wpTake_stepE ⟨some 51, Op.nilCheck (Operand.tmp 50), 0, "", #[], none⟩ 51 (.pointer (some ⟨c, 0, none⟩)) HR.out.o1 rfl (by rw [hsz]; decide) (wanted_none rfl) (fun z hS => pl6_1 c ca _ z (fun _ => rfl) e50 hS) ?_
  intro a2 ha2 s1 f1 n1 k1
  replace hsz := s1.trans hsz
  replace hdf := f1.trans hdf
  replace e0 := (k1 0 (by decide)).trans e0
  have e51 := n1
  clear s1 f1 n1 k1
  refine wpTake_stepE ⟨some 52, Op.fieldAddr 106 (Operand.tmp 51) 5, 0, "", #[], none⟩ 52 (.pointer (some ⟨c, 16, none⟩)) HR.out.o2 rfl (by rw [hsz]; decide) (wanted_none rfl) (fun z hS => pl6_2 c ca _ z (fun _ => rfl) e51 hS) ?_
  intro a3 ha3 s1 f1 n1 k1
  replace hsz := s1.trans hsz
  replace hdf := f1.trans hdf
  replace e0 := (k1 0 (by decide)).trans e0
  have e52 := n1
  clear s1 f1 n1 k1
  refine wpTake_stepE ⟨some 53, Op.move (Operand.tmp 0), 83, "", #[], none⟩ 53 (.pointer (some ⟨c, 0, none⟩)) HR.out.o3 rfl (by rw [hsz]; decide) (wanted_none rfl) (fun z hS => pl6_3 c ca _ z (fun _ => rfl) e0 hS) ?_
  intro a4 ha4 s1 f1 n1 k1
  replace hsz := s1.trans hsz
  replace hdf := f1.trans hdf
  replace e52 := (k1 52 (by decide)).trans e52
  have e53 := n1
  clear s1 f1 n1 k1
  refine wpTake_stepE ⟨some 54, Op.nilCheck (Operand.tmp 53), 0, "", #[], none⟩ 54 (.pointer (some ⟨c, 0, none⟩)) HR.out.o4 rfl (by rw [hsz]; decide) (wanted_none rfl) (fun z hS => pl6_4 c ca _ z (fun _ => rfl) e53 hS) ?_
  intro a5 ha5 s1 f1 n1 k1
  replace hsz := s1.trans hsz
  replace hdf := f1.trans hdf
  replace e52 := (k1 52 (by decide)).trans e52
  have e54 := n1
  clear s1 f1 n1 k1
  refine wpTake_stepE ⟨some 55, Op.fieldAddr 106 (Operand.tmp 54) 3, 0, "", #[], none⟩ 55 (.pointer (some ⟨c, 3, none⟩)) HR.out.o5 rfl (by rw [hsz]; decide) (wanted_none rfl) (fun z hS => pl6_5 c ca _ z (fun _ => rfl) e54 hS) ?_
  intro a6 ha6 s1 f1 n1 k1
  replace hsz := s1.trans hsz
  replace hdf := f1.trans hdf
  replace e52 := (k1 52 (by decide)).trans e52
  have e55 := n1
  clear s1 f1 n1 k1
  refine wpTake_stepE ⟨some 56, Op.load 42 (Operand.tmp 55), 42, "", #[], none⟩ 56 (.agg ca) HR.out.o6 rfl (by rw [hsz]; decide) (wanted_none rfl) (fun z hS => pl6_6 c ca _ z (fun _ => rfl) e55 hS) ?_
  intro a7 ha7 s1 f1 n1 k1
  replace hsz := s1.trans hsz
  replace hdf := f1.trans hdf
  replace e52 := (k1 52 (by decide)).trans e52
  have e56 := n1
  clear s1 f1 n1 k1
  refine wpTake_nil ?_
  refine wpAnyH_one ⟨some 57, Op.call { callee := Callee.value (Operand.func 74), args := #[Operand.tmp 52, Operand.tmp 56], argTypes := #[102, 42] }, 0, "", #[], none⟩ HR.out.r7 HR.out.o7 rfl (fun K' hK' => ?_)
  refine wp_enter (pl6_7 c ca _ _ (fun _ => rfl) rfl e52 e56) (hc) ?_
  rintro e9 w9 ⟨rfl, hS9, hT⟩
  refine ⟨_, rfl, hK'.out _ _ (hS9) ?_⟩
  replace hHeld := hS9
  clear hK' K'
  show wpAnyH _ _ _ _ _ _ _ (Act.put a7 (some 57) (.tuple #[])) _
  obtain ⟨s1, f1, n1, k1⟩ := act_put a7 57 (.tuple #[]) (show 57 < _ by rw [hsz]; decide)
  obtain ⟨a8, ha8⟩ : ∃ x, x = Act.put a7 (some 57) (.tuple #[]) := ⟨_, rfl⟩
  rw [← ha8] at s1 f1 n1 k1 ⊢
  replace hsz := s1.trans hsz
  replace hdf := f1.trans hdf
  clear s1 f1 n1 k1
  refine wpAnyH_done HR.out.fin ?_ _
  rw [ha8, ha7, ha6, ha5, ha4, ha3, ha2, ha1]
  exact hK _ hT
-- pl6: ⟨by kernel_rfl, by kernel_rfl, by kernel_rfl, by kernel_rfl, by kernel_rfl, by kernel_rfl, by kernel_rfl, by kernel_rfl, by kernel_rfl, by kernel_rfl, by kernel_rfl, by kernel_rfl, by kernel_rfl⟩

theorem ct1_0 (c bx K M n cp t : Nat) (p : Option Addr) (ev : Operand → Value) (z : World) (ec : ∀ c, ev (.const c) = c) (e3 : ev (.tmp 3) = .pointer (some ⟨bx, 0, none⟩)) (hS : (loadVar 26 ⟨bx, 9, none⟩).run Tryd.prog z = .ok (.agg #[.int .i64 (K : Int), .int .i64 (M : Int)]) z ∧ z.cell? ⟨c, 16, none⟩ = some (.slice p n cp)) : (execOp ev ⟨some 7, Op.fieldAddr 42 (Operand.tmp 3) 9, 0, "", #[], none⟩).run Tryd.prog z = .ok (.value (.pointer (some ⟨bx, 9, none⟩))) z := by
  obtain ⟨sa, sb⟩ := hS
  go_simp
theorem ct1_1 (c bx K M n cp t : Nat) (p : Option Addr) (ev : Operand → Value) (z : World) (ec : ∀ c, ev (.const c) = c) (e7 : ev (.tmp 7) = .pointer (some ⟨bx, 9, none⟩)) (hS : (loadVar 26 ⟨bx, 9, none⟩).run Tryd.prog z = .ok (.agg #[.int .i64 (K : Int), .int .i64 (M : Int)]) z ∧ z.cell? ⟨c, 16, none⟩ = some (.slice p n cp)) : (execOp ev ⟨some 8, Op.load 26 (Operand.tmp 7), 26, "", #[], none⟩).run Tryd.prog z = .ok (.value (.agg #[.int .i64 (K : Int), .int .i64 (M : Int)])) z := by
  exact exec_ldC e7 hS.1
theorem ct1_2 (c bx K M n cp t : Nat) (p : Option Addr) (ev : Operand → Value) (z : World) (ec : ∀ c, ev (.const c) = c) (e0 : ev (.tmp 0) = .pointer (some ⟨c, 16, none⟩)) (hS : (loadVar 26 ⟨bx, 9, none⟩).run Tryd.prog z = .ok (.agg #[.int .i64 (K : Int), .int .i64 (M : Int)]) z ∧ z.cell? ⟨c, 16, none⟩ = some (.slice p n cp)) : (execOp ev ⟨some 9, Op.move (Operand.tmp 0), 154, "", #[], none⟩).run Tryd.prog z = .ok (.value (.pointer (some ⟨c, 16, none⟩))) z := by
  obtain ⟨sa, sb⟩ := hS
  go_simp
theorem ct1_3 (c bx K M n cp t : Nat) (p : Option Addr) (ev : Operand → Value) (z : World) (ec : ∀ c, ev (.const c) = c) (e9 : ev (.tmp 9) = .pointer (some ⟨c, 16, none⟩)) (hS : (loadVar 26 ⟨bx, 9, none⟩).run Tryd.prog z = .ok (.agg #[.int .i64 (K : Int), .int .i64 (M : Int)]) z ∧ z.cell? ⟨c, 16, none⟩ = some (.slice p n cp)) : (execOp ev ⟨some 10, Op.nilCheck (Operand.tmp 9), 0, "", #[], none⟩).run Tryd.prog z = .ok (.value (.pointer (some ⟨c, 16, none⟩))) z := by
  obtain ⟨sa, sb⟩ := hS
  go_simp
theorem ct1_4 (c bx K M n cp t : Nat) (p : Option Addr) (ev : Operand → Value) (z : World) (ec : ∀ c, ev (.const c) = c) (e10 : ev (.tmp 10) = .pointer (some ⟨c, 16, none⟩)) (hS : (loadVar 26 ⟨bx, 9, none⟩).run Tryd.prog z = .ok (.agg #[.int .i64 (K : Int), .int .i64 (M : Int)]) z ∧ z.cell? ⟨c, 16, none⟩ = some (.slice p n cp)) : (execOp ev ⟨some 11, Op.fieldAddr 102 (Operand.tmp 10) 0, 0, "", #[], none⟩).run Tryd.prog z = .ok (.value (.pointer (some ⟨c, 16, none⟩))) z := by
  obtain ⟨sa, sb⟩ := hS
  go_simp
theorem ct1_5 (c bx K M n cp t : Nat) (p : Option Addr) (ev : Operand → Value) (z : World) (ec : ∀ c, ev (.const c) = c) (e11 : ev (.tmp 11) = .pointer (some ⟨c, 16, none⟩)) (hS : (loadVar 26 ⟨bx, 9, none⟩).run Tryd.prog z = .ok (.agg #[.int .i64 (K : Int), .int .i64 (M : Int)]) z ∧ z.cell? ⟨c, 16, none⟩ = some (.slice p n cp)) : (execOp ev ⟨some 12, Op.load 22 (Operand.tmp 11), 22, "", #[], none⟩).run Tryd.prog z = .ok (.value (.slice p n cp)) z := by
  obtain ⟨sa, sb⟩ := hS
  go_simp
set_option maxRecDepth 100000 in
theorem ct1_6 (c bx K M n cp t : Nat) (p : Option Addr) (ev : Operand → Value) (z : World) (ec : ∀ c, ev (.const c) = c) (ef : ev (.func 101) = .func (.func 101) #[] #[]) (e8 : ev (.tmp 8) = .agg #[.int .i64 (K : Int), .int .i64 (M : Int)]) (e12 : ev (.tmp 12) = .slice p n cp) : (execOp ev ⟨some 13, Op.call { callee := Callee.value (Operand.func 101), args := #[Operand.tmp 8, Operand.tmp 12], argTypes := #[26, 22] }, 29, "", #[], none⟩).run Tryd.prog z = .ok (.enter 101 #[.agg #[.int .i64 (K : Int), .int .i64 (M : Int)], .slice p n cp]) z :=
  enter_run _ ef (by simp only [List.map_toArray, List.map_cons, List.map_nil, ec, e8, e12]) (fun _ => by rfl)
theorem ct1_7 (c bx K M n cp t : Nat) (p : Option Addr) (ev : Operand → Value) (z : World) (ec : ∀ c, ev (.const c) = c) (e13 : ev (.tmp 13) = .tuple #[.slice (some ⟨t, 0, none⟩) (K + M) (K + M), .int .i64 0]) (hS : (loadVar 26 ⟨bx, 9, none⟩).run Tryd.prog z = .ok (.agg #[.int .i64 (K : Int), .int .i64 (M : Int)]) z ∧ z.cell? ⟨c, 16, none⟩ = some (.slice p n cp)) : (execOp ev ⟨some 6, Op.move (Operand.tmp 13), 29, "", #[], none⟩).run Tryd.prog z = .ok (.value (.tuple #[.slice (some ⟨t, 0, none⟩) (K + M) (K + M), .int .i64 0])) z := by
  obtain ⟨sa, sb⟩ := hS
  go_simp
theorem ct1_8 (c bx K M n cp t : Nat) (p : Option Addr) (ev : Operand → Value) (z : World) (ec : ∀ c, ev (.const c) = c) (e6 : ev (.tmp 6) = .tuple #[.slice (some ⟨t, 0, none⟩) (K + M) (K + M), .int .i64 0]) (hS : (loadVar 26 ⟨bx, 9, none⟩).run Tryd.prog z = .ok (.agg #[.int .i64 (K : Int), .int .i64 (M : Int)]) z ∧ z.cell? ⟨c, 16, none⟩ = some (.slice p n cp)) : (execOp ev ⟨some 14, Op.extract (Operand.tmp 6) 0, 27, "", #[], none⟩).run Tryd.prog z = .ok (.value (.slice (some ⟨t, 0, none⟩) (K + M) (K + M))) z := by
  obtain ⟨sa, sb⟩ := hS
  go_simp
theorem ct1_9 (c bx K M n cp t : Nat) (p : Option Addr) (ev : Operand → Value) (z : World) (ec : ∀ c, ev (.const c) = c) (e6 : ev (.tmp 6) = .tuple #[.slice (some ⟨t, 0, none⟩) (K + M) (K + M), .int .i64 0]) (hS : (loadVar 26 ⟨bx, 9, none⟩).run Tryd.prog z = .ok (.agg #[.int .i64 (K : Int), .int .i64 (M : Int)]) z ∧ z.cell? ⟨c, 16, none⟩ = some (.slice p n cp)) : (execOp ev ⟨some 15, Op.extract (Operand.tmp 6) 1, 28, "", #[], none⟩).run Tryd.prog z = .ok (.value (.int .i64 0)) z := by
  obtain ⟨sa, sb⟩ := hS
  go_simp
theorem ct1_10 (c bx K M n cp t : Nat) (p : Option Addr) (ev : Operand → Value) (z : World) (ec : ∀ c, ev (.const c) = c) (e14 : ev (.tmp 14) = .slice (some ⟨t, 0, none⟩) (K + M) (K + M)) (hS : (loadVar 26 ⟨bx, 9, none⟩).run Tryd.prog z = .ok (.agg #[.int .i64 (K : Int), .int .i64 (M : Int)]) z ∧ z.cell? ⟨c, 16, none⟩ = some (.slice p n cp)) : (execOp ev ⟨some 4, Op.assign (Operand.tmp 14), 27, "", #[], none⟩).run Tryd.prog z = .ok (.value (.slice (some ⟨t, 0, none⟩) (K + M) (K + M))) z := by
  obtain ⟨sa, sb⟩ := hS
  go_simp
theorem ct1_11 (c bx K M n cp t : Nat) (p : Option Addr) (ev : Operand → Value) (z : World) (ec : ∀ c, ev (.const c) = c) (e15 : ev (.tmp 15) = .int .i64 0) (hS : (loadVar 26 ⟨bx, 9, none⟩).run Tryd.prog z = .ok (.agg #[.int .i64 (K : Int), .int .i64 (M : Int)]) z ∧ z.cell? ⟨c, 16, none⟩ = some (.slice p n cp)) : (execOp ev ⟨some 5, Op.assign (Operand.tmp 15), 28, "", #[], none⟩).run Tryd.prog z = .ok (.value (.int .i64 0)) z := by
  obtain ⟨sa, sb⟩ := hS
  go_simp
structure ct1R (ops : Array Oper) : Prop where
  size : ops.size = 12
  sel : Region.noSelect ops = true
  o0 : (ops[0]?).map bare = some ⟨some 7, Op.fieldAddr 42 (Operand.tmp 3) 9, 0, "", #[], none⟩
  o1 : (ops[1]?).map bare = some ⟨some 8, Op.load 26 (Operand.tmp 7), 26, "", #[], none⟩
  o2 : (ops[2]?).map bare = some ⟨some 9, Op.move (Operand.tmp 0), 154, "", #[], none⟩
  o3 : (ops[3]?).map bare = some ⟨some 10, Op.nilCheck (Operand.tmp 9), 0, "", #[], none⟩
  o4 : (ops[4]?).map bare = some ⟨some 11, Op.fieldAddr 102 (Operand.tmp 10) 0, 0, "", #[], none⟩
  o5 : (ops[5]?).map bare = some ⟨some 12, Op.load 22 (Operand.tmp 11), 22, "", #[], none⟩
  o6 : (ops[6]?).map bare = some ⟨some 13, Op.call { callee := Callee.value (Operand.func 101), args := #[Operand.tmp 8, Operand.tmp 12], argTypes := #[26, 22] }, 29, "", #[], none⟩
  o7 : (ops[7]?).map bare = some ⟨some 6, Op.move (Operand.tmp 13), 29, "", #[], none⟩
  o8 : (ops[8]?).map bare = some ⟨some 14, Op.extract (Operand.tmp 6) 0, 27, "", #[], none⟩
  o9 : (ops[9]?).map bare = some ⟨some 15, Op.extract (Operand.tmp 6) 1, 28, "", #[], none⟩
  o10 : (ops[10]?).map bare = some ⟨some 4, Op.assign (Operand.tmp 14), 27, "", #[], none⟩
  o11 : (ops[11]?).map bare = some ⟨some 5, Op.assign (Operand.tmp 15), 28, "", #[], none⟩
  may0 : takeB .any ops [0, 1, 2, 3, 4, 5] (Array.replicate 12 false) = true
  r6 : Region.ready .any ops (mark [0, 1, 2, 3, 4, 5] (Array.replicate 12 false)) = [6]
  may1 : takeB .any ops [7, 8, 9, 10, 11] ((mark [0, 1, 2, 3, 4, 5] (Array.replicate 12 false)).setIfInBounds 6 true) = true
  fin : Region.ready .any ops (mark [7, 8, 9, 10, 11] ((mark [0, 1, 2, 3, 4, 5] (Array.replicate 12 false)).setIfInBounds 6 true)) = []

set_option maxRecDepth 100000 in
set_option maxHeartbeats 3200000 in
theorem ct1_region {ops : Array Oper} {id : Nat} {Q : Exit → Act → World → Prop} {a : Act} {y : World} (R : ct1R ops) (c bx K M n cp t : Nat) (p : Option Addr)
    (hQ : ∀ d v c a w, Q (.panic c) (a.put d v) w → Q (.panic c) a w) (hsz : a.tmps.size = 28) (e0 : a.eval (.tmp 0) = .pointer (some ⟨c, 16, none⟩)) (e3 : a.eval (.tmp 3) = .pointer (some ⟨bx, 0, none⟩)) (hS0 : ((loadVar 26 ⟨bx, 9, none⟩).run Tryd.prog y.drew = .ok (.agg #[.int .i64 (K : Int), .int .i64 (M : Int)]) y.drew ∧ y.drew.cell? ⟨c, 16, none⟩ = some (.slice p n cp))) (T : Nat → World → Prop) (hc : Calls Tryd.prog 101 #[.agg #[.int .i64 (K : Int), .int .i64 (M : Int)], .slice p n cp] y.drew fun e w9 => ∃ t : Nat, e = .returned (.tuple #[.slice (some ⟨t, 0, none⟩) (K + M) (K + M), .int .i64 0]) ∧ ((loadVar 26 ⟨bx, 9, none⟩).run Tryd.prog w9 = .ok (.agg #[.int .i64 (K : Int), .int .i64 (M : Int)]) w9 ∧ w9.cell? ⟨c, 16, none⟩ = some (.slice p n cp)) ∧ T t w9)
    (hK : ∀ (t : Nat) (w9 : World), T t w9 → Q .normal ((((((((((((a.put (some 7) (.pointer (some ⟨bx, 9, none⟩))).put (some 8) (.agg #[.int .i64 (K : Int), .int .i64 (M : Int)])).put (some 9) (.pointer (some ⟨c, 16, none⟩))).put (some 10) (.pointer (some ⟨c, 16, none⟩))).put (some 11) (.pointer (some ⟨c, 16, none⟩))).put (some 12) (.slice p n cp)).put (some 13) (.tuple #[.slice (some ⟨t, 0, none⟩) (K + M) (K + M), .int .i64 0])).put (some 6) (.tuple #[.slice (some ⟨t, 0, none⟩) (K + M) (K + M), .int .i64 0])).put (some 14) (.slice (some ⟨t, 0, none⟩) (K + M) (K + M))).put (some 15) (.int .i64 0)).put (some 4) (.slice (some ⟨t, 0, none⟩) (K + M) (K + M))).put (some 5) (.int .i64 0)) w9) : (Code.region id ops true).wp Tryd.prog Q a y := by
  have HR : Hid (ct1R ops) := R
  have hdf : a.defers = a.defers := rfl
  refine wp_region_held_drew (S := (fun z : World => (loadVar 26 ⟨bx, 9, none⟩).run Tryd.prog z = .ok (.agg #[.int .i64 (K : Int), .int .i64 (M : Int)]) z ∧ z.cell? ⟨c, 16, none⟩ = some (.slice p n cp))) (by kernel_rfl) (hS0) (fun hHeld => ?_)
  rw [R.size]
  clear R
  refine wpAnyH_takes HR.out.sel hQ hHeld [0, 1, 2, 3, 4, 5] 6 _ _ HR.out.may0 ?_
  refine wpTake_stepE ⟨some 7, Op.fieldAddr 42 (Operand.tmp 3) 9, 0, "", #[], none⟩ 7 (.pointer (some ⟨bx, 9, none⟩)) HR.out.o0 rfl (by rw [hsz]; decide) (wanted_none rfl) (fun z hS => ct1_0 c bx K M n cp t p _ z (fun _ => rfl) e3 hS) ?_
  intro a1 ha1 s1 f1 n1 k1
  replace hsz := s1.trans hsz
  replace hdf := f1.trans hdf
  replace e0 := (k1 0 (by decide)).trans e0
  replace e3 := (k1 3 (by decide)).trans e3
  have e7 := n1
  clear s1 f1 n1 k1
  refine wpTake_stepE ⟨some 8, Op.load 26 (Operand.tmp 7), 26, "", #[], none⟩ 8 (.agg #[.int .i64 (K : Int), .int .i64 (M : Int)]) HR.out.o1 rfl (by rw [hsz]; decide) (wanted_none rfl) (fun z hS => ct1_1 c bx K M n cp t p _ z (fun _ => rfl) e7 hS) ?_
  intro a2 ha2 s1 f1 n1 k1
  replace hsz := s1.trans hsz
  replace hdf := f1.trans hdf
  replace e0 := (k1 0 (by decide)).trans e0
  replace e3 := (k1 3 (by decide)).trans e3
  have e8 := n1
  clear s1 f1 n1 k1
  refine wpTake_stepE ⟨some 9, Op.move (Operand.tmp 0), 154, "", #[], none⟩ 9 (.pointer (some ⟨c, 16, none⟩)) HR.out.o2 rfl (by rw [hsz]; decide) (wanted_none rfl) (fun z hS => ct1_2 c bx K M n cp t p _ z (fun _ => rfl) e0 hS) ?_
  intro a3 ha3 s1 f1 n1 k1
  replace hsz := s1.trans hsz
  replace hdf := f1.trans hdf
  replace e0 := (k1 0 (by decide)).trans e0
  replace e3 := (k1 3 (by decide)).trans e3
  replace e8 := (k1 8 (by decide)).trans e8
  have e9 := n1
  clear s1 f1 n1 k1
  refine wpTake_stepE ⟨some 10, Op.nilCheck (Operand.tmp 9), 0, "", #[], none⟩ 10 (.pointer (some ⟨c, 16, none⟩)) HR.out.o3 rfl (by rw [hsz]; decide) (wanted_none rfl) (fun z hS => ct1_3 c bx K M n cp t p _ z (fun _ => rfl) e9 hS) ?_
  intro a4 ha4 s1 f1 n1 k1
  replace hsz := s1.trans hsz
  replace hdf := f1.trans hdf
  replace e0 := (k1 0 (by decide)).trans e0
  replace e3 := (k1 3 (by decide)).trans e3
  replace e8 := (k1 8 (by decide)).trans e8
  have e10 := n1
  clear s1 f1 n1 k1
  refine wpTake_stepE ⟨some 11, Op.fieldAddr 102 (Operand.tmp 10) 0, 0, "", #[], none⟩ 11 (.pointer (some ⟨c, 16, none⟩)) HR.out.o4 rfl (by rw [hsz]; decide) (wanted_none rfl) (fun z hS => ct1_4 c bx K M n cp t p _ z (fun _ => rfl) e10 hS) ?_
  intro a5 ha5 s1 f1 n1 k1
  replace hsz := s1.trans hsz
  replace hdf := f1.trans hdf
  replace e0 := (k1 0 (by decide)).trans e0
  replace e3 := (k1 3 (by decide)).trans e3
  replace e8 := (k1 8 (by decide)).trans e8
  have e11 := n1
  clear s1 f1 n1 k1
  refine wpTake_stepE ⟨some 12, Op.load 22 (Operand.tmp 11), 22, "", #[], none⟩ 12 (.slice p n cp) HR.out.o5 rfl (by rw [hsz]; decide) (wanted_none rfl) (fun z hS => ct1_5 c bx K M n cp t p _ z (fun _ => rfl) e11 hS) ?_
  intro a6 ha6 s1 f1 n1 k1
  replace hsz := s1.trans hsz
  replace hdf := f1.trans hdf
  replace e0 := (k1 0 (by decide)).trans e0
  replace e3 := (k1 3 (by decide)).trans e3
  replace e8 := (k1 8 (by decide)).trans e8
  have e12 := n1
  clear s1 f1 n1 k1
  refine wpTake_nil ?_
  refine wpAnyH_one ⟨some 13, Op.call { callee := Callee.value (Operand.func 101), args := #[Operand.tmp 8, Operand.tmp 12], argTypes := #[26, 22] }, 29, "", #[], none⟩ HR.out.r6 HR.out.o6 rfl (fun K' hK' => ?_)
  refine wp_enter (ct1_6 c bx K M n cp t p _ _ (fun _ => rfl) rfl e8 e12) (hc) ?_
  rintro e9 w9 ⟨t, rfl, hS9, hT⟩
  refine ⟨_, rfl, hK'.out _ _ (hS9) ?_⟩
  replace hHeld := hS9
  clear hK' K'
  show wpAnyH _ _ _ _ _ _ _ (Act.put a6 (some 13) (.tuple #[.slice (some ⟨t, 0, none⟩) (K + M) (K + M), .int .i64 0])) _
  obtain ⟨s1, f1, n1, k1⟩ := act_put a6 13 (.tuple #[.slice (some ⟨t, 0, none⟩) (K + M) (K + M), .int .i64 0]) (show 13 < _ by rw [hsz]; decide)
  obtain ⟨a7, ha7⟩ : ∃ x, x = Act.put a6 (some 13) (.tuple #[.slice (some ⟨t, 0, none⟩) (K + M) (K + M), .int .i64 0]) := ⟨_, rfl⟩
  rw [← ha7] at s1 f1 n1 k1 ⊢
  replace hsz := s1.trans hsz
  replace hdf := f1.trans hdf
  replace e0 := (k1 0 (by decide)).trans e0
  replace e3 := (k1 3 (by decide)).trans e3
  have e13 := n1
  clear s1 f1 n1 k1
  refine wpAnyH_takes HR.out.sel hQ hHeld [7, 8, 9, 10, 11] 0 _ _ HR.out.may1 ?_
  refine wpTake_stepE ⟨some 6, Op.move (Operand.tmp 13), 29, "", #[], none⟩ 6 (.tuple #[.slice (some ⟨t, 0, none⟩) (K + M) (K + M), .int .i64 0]) HR.out.o7 rfl (by rw [hsz]; decide) (wanted_none rfl) (fun z hS => ct1_7 c bx K M n cp t p _ z (fun _ => rfl) e13 hS) ?_
  intro a8 ha8 s1 f1 n1 k1
  replace hsz := s1.trans hsz
  replace hdf := f1.trans hdf
  replace e0 := (k1 0 (by decide)).trans e0
  replace e3 := (k1 3 (by decide)).trans e3
  have e6 := n1
  clear s1 f1 n1 k1
  refine wpTake_stepE ⟨some 14, Op.extract (Operand.tmp 6) 0, 27, "", #[], none⟩ 14 (.slice (some ⟨t, 0, none⟩) (K + M) (K + M)) HR.out.o8 rfl (by rw [hsz]; decide) (wanted_none rfl) (fun z hS => ct1_8 c bx K M n cp t p _ z (fun _ => rfl) e6 hS) ?_
  intro a9 ha9 s1 f1 n1 k1
  replace hsz := s1.trans hsz
  replace hdf := f1.trans hdf
  replace e0 := (k1 0 (by decide)).trans e0
  replace e3 := (k1 3 (by decide)).trans e3
  replace e6 := (k1 6 (by decide)).trans e6
  have e14 := n1
  clear s1 f1 n1 k1
  refine wpTake_stepE ⟨some 15, Op.extract (Operand.tmp 6) 1, 28, "", #[], none⟩ 15 (.int .i64 0) HR.out.o9 rfl (by rw [hsz]; decide) (wanted_none rfl) (fun z hS => ct1_9 c bx K M n cp t p _ z (fun _ => rfl) e6 hS) ?_
  intro a10 ha10 s1 f1 n1 k1
  replace hsz := s1.trans hsz
  replace hdf := f1.trans hdf
  replace e0 := (k1 0 (by decide)).trans e0
  replace e3 := (k1 3 (by decide)).trans e3
  replace e14 := (k1 14 (by decide)).trans e14
  have e15 := n1
  clear s1 f1 n1 k1
  refine wpTake_stepE ⟨some 4, Op.assign (Operand.tmp 14), 27, "", #[], none⟩ 4 (.slice (some ⟨t, 0, none⟩) (K + M) (K + M)) HR.out.o10 rfl (by rw [hsz]; decide) (wanted_none rfl) (fun z hS => ct1_10 c bx K M n cp t p _ z (fun _ => rfl) e14 hS) ?_
  intro a11 ha11 s1 f1 n1 k1
  replace hsz := s1.trans hsz
  replace hdf := f1.trans hdf
  replace e0 := (k1 0 (by decide)).trans e0
  replace e3 := (k1 3 (by decide)).trans e3
  replace e15 := (k1 15 (by decide)).trans e15
  have e4 := n1
  clear s1 f1 n1 k1
  refine wpTake_stepE ⟨some 5, Op.assign (Operand.tmp 15), 28, "", #[], none⟩ 5 (.int .i64 0) HR.out.o11 rfl (by rw [hsz]; decide) (wanted_none rfl) (fun z hS => ct1_11 c bx K M n cp t p _ z (fun _ => rfl) e15 hS) ?_
  intro a12 ha12 s1 f1 n1 k1
  replace hsz := s1.trans hsz
  replace hdf := f1.trans hdf
  replace e0 := (k1 0 (by decide)).trans e0
  replace e3 := (k1 3 (by decide)).trans e3
  replace e4 := (k1 4 (by decide)).trans e4
  clear s1 f1 n1 k1
  refine wpTake_nil ?_
  refine wpAnyH_done HR.out.fin ?_ _
  rw [ha12, ha11, ha10, ha9, ha8, ha7, ha6, ha5, ha4, ha3, ha2, ha1]
  exact hK _ _ hT
-- ct1: ⟨by kernel_rfl, by kernel_rfl, by kernel_rfl, by kernel_rfl, by kernel_rfl, by kernel_rfl, by kernel_rfl, by kernel_rfl, by kernel_rfl, by kernel_rfl, by kernel_rfl, by kernel_rfl, by kernel_rfl, by kernel_rfl, by kernel_rfl, by kernel_rfl, by kernel_rfl, by kernel_rfl⟩

theorem on1_0 (c bx sp : Nat) (mv : Array Value) (b : Bool) (ev : Operand → Value) (z : World) (ec : ∀ c, ev (.const c) = c) (e0 : ev (.tmp 0) = .pointer (some ⟨c, 0, none⟩)) (hS : z.cell? ⟨c, 17, none⟩ = some (.pointer (some ⟨sp, 0, none⟩)) ∧ (loadVar 45 ⟨bx, 0, none⟩).run Tryd.prog z = .ok (.agg mv) z) : (execOp ev ⟨some 5, Op.move (Operand.tmp 0), 83, "", #[], none⟩).run Tryd.prog z = .ok (.value (.pointer (some ⟨c, 0, none⟩))) z := by
  obtain ⟨sa, sb⟩ := hS
  go_simp
theorem on1_1 (c bx sp : Nat) (mv : Array Value) (b : Bool) (ev : Operand → Value) (z : World) (ec : ∀ c, ev (.const c) = c) (e5 : ev (.tmp 5) = .pointer (some ⟨c, 0, none⟩)) (hS : z.cell? ⟨c, 17, none⟩ = some (.pointer (some ⟨sp, 0, none⟩)) ∧ (loadVar 45 ⟨bx, 0, none⟩).run Tryd.prog z = .ok (.agg mv) z) : (execOp ev ⟨some 6, Op.nilCheck (Operand.tmp 5), 0, "", #[], none⟩).run Tryd.prog z = .ok (.value (.pointer (some ⟨c, 0, none⟩))) z := by
  obtain ⟨sa, sb⟩ := hS
  go_simp
theorem on1_2 (c bx sp : Nat) (mv : Array Value) (b : Bool) (ev : Operand → Value) (z : World) (ec : ∀ c, ev (.const c) = c) (e6 : ev (.tmp 6) = .pointer (some ⟨c, 0, none⟩)) (hS : z.cell? ⟨c, 17, none⟩ = some (.pointer (some ⟨sp, 0, none⟩)) ∧ (loadVar 45 ⟨bx, 0, none⟩).run Tryd.prog z = .ok (.agg mv) z) : (execOp ev ⟨some 7, Op.fieldAddr 106 (Operand.tmp 6) 5, 0, "", #[], none⟩).run Tryd.prog z = .ok (.value (.pointer (some ⟨c, 16, none⟩))) z := by
  obtain ⟨sa, sb⟩ := hS
  go_simp
theorem on1_3 (c bx sp : Nat) (mv : Array Value) (b : Bool) (ev : Operand → Value) (z : World) (ec : ∀ c, ev (.const c) = c) (e7 : ev (.tmp 7) = .pointer (some ⟨c, 16, none⟩)) (hS : z.cell? ⟨c, 17, none⟩ = some (.pointer (some ⟨sp, 0, none⟩)) ∧ (loadVar 45 ⟨bx, 0, none⟩).run Tryd.prog z = .ok (.agg mv) z) : (execOp ev ⟨some 8, Op.fieldAddr 102 (Operand.tmp 7) 1, 0, "", #[], none⟩).run Tryd.prog z = .ok (.value (.pointer (some ⟨c, 17, none⟩))) z := by
  obtain ⟨sa, sb⟩ := hS
  go_simp
theorem on1_4 (c bx sp : Nat) (mv : Array Value) (b : Bool) (ev : Operand → Value) (z : World) (ec : ∀ c, ev (.const c) = c) (e8 : ev (.tmp 8) = .pointer (some ⟨c, 17, none⟩)) (hS : z.cell? ⟨c, 17, none⟩ = some (.pointer (some ⟨sp, 0, none⟩)) ∧ (loadVar 45 ⟨bx, 0, none⟩).run Tryd.prog z = .ok (.agg mv) z) : (execOp ev ⟨some 9, Op.load 73 (Operand.tmp 8), 73, "", #[], none⟩).run Tryd.prog z = .ok (.value (.pointer (some ⟨sp, 0, none⟩))) z := by
  obtain ⟨sa, sb⟩ := hS
  go_simp
theorem on1_5 (c bx sp : Nat) (mv : Array Value) (b : Bool) (ev : Operand → Value) (z : World) (ec : ∀ c, ev (.const c) = c) (e3 : ev (.tmp 3) = .pointer (some ⟨bx, 0, none⟩)) (hS : z.cell? ⟨c, 17, none⟩ = some (.pointer (some ⟨sp, 0, none⟩)) ∧ (loadVar 45 ⟨bx, 0, none⟩).run Tryd.prog z = .ok (.agg mv) z) : (execOp ev ⟨some 10, Op.load 45 (Operand.tmp 3), 45, "", #[], none⟩).run Tryd.prog z = .ok (.value (.agg mv)) z := by
  exact exec_ldC e3 hS.2
set_option maxRecDepth 100000 in
theorem on1_6 (c bx sp : Nat) (mv : Array Value) (b : Bool) (ev : Operand → Value) (z : World) (ec : ∀ c, ev (.const c) = c) (ef : ev (.func 103) = .func (.func 103) #[] #[]) (e9 : ev (.tmp 9) = .pointer (some ⟨sp, 0, none⟩)) (e10 : ev (.tmp 10) = .agg mv) : (execOp ev ⟨some 11, Op.call { callee := Callee.value (Operand.func 103), args := #[Operand.tmp 9, Operand.tmp 10], argTypes := #[73, 45] }, 4, "", #[], none⟩).run Tryd.prog z = .ok (.enter 103 #[.pointer (some ⟨sp, 0, none⟩), .agg mv]) z :=
  enter_run _ ef (by simp only [List.map_toArray, List.map_cons, List.map_nil, ec, e9, e10]) (fun _ => by rfl)
structure on1R (ops : Array Oper) : Prop where
  size : ops.size = 7
  sel : Region.noSelect ops = true
  o0 : (ops[0]?).map bare = some ⟨some 5, Op.move (Operand.tmp 0), 83, "", #[], none⟩
  o1 : (ops[1]?).map bare = some ⟨some 6, Op.nilCheck (Operand.tmp 5), 0, "", #[], none⟩
  o2 : (ops[2]?).map bare = some ⟨some 7, Op.fieldAddr 106 (Operand.tmp 6) 5, 0, "", #[], none⟩
  o3 : (ops[3]?).map bare = some ⟨some 8, Op.fieldAddr 102 (Operand.tmp 7) 1, 0, "", #[], none⟩
  o4 : (ops[4]?).map bare = some ⟨some 9, Op.load 73 (Operand.tmp 8), 73, "", #[], none⟩
  o5 : (ops[5]?).map bare = some ⟨some 10, Op.load 45 (Operand.tmp 3), 45, "", #[], none⟩
  o6 : (ops[6]?).map bare = some ⟨some 11, Op.call { callee := Callee.value (Operand.func 103), args := #[Operand.tmp 9, Operand.tmp 10], argTypes := #[73, 45] }, 4, "", #[], none⟩
  may0 : takeB .any ops [0, 1, 2, 3, 4, 5] (Array.replicate 7 false) = true
  r6 : Region.ready .any ops (mark [0, 1, 2, 3, 4, 5] (Array.replicate 7 false)) = [6]
  fin : Region.ready .any ops ((mark [0, 1, 2, 3, 4, 5] (Array.replicate 7 false)).setIfInBounds 6 true) = []

set_option maxRecDepth 100000 in
set_option maxHeartbeats 3200000 in
theorem on1_region {ops : Array Oper} {id : Nat} {Q : Exit → Act → World → Prop} {a : Act} {y : World} (R : on1R ops) (c bx sp : Nat) (mv : Array Value) (b : Bool)
    (hQ : ∀ d v c a w, Q (.panic c) (a.put d v) w → Q (.panic c) a w) (hsz : a.tmps.size = 21) (e0 : a.eval (.tmp 0) = .pointer (some ⟨c, 0, none⟩)) (e3 : a.eval (.tmp 3) = .pointer (some ⟨bx, 0, none⟩)) (hS0 : (y.drew.cell? ⟨c, 17, none⟩ = some (.pointer (some ⟨sp, 0, none⟩)) ∧ (loadVar 45 ⟨bx, 0, none⟩).run Tryd.prog y.drew = .ok (.agg mv) y.drew)) (T : World → Prop) (hc : Calls Tryd.prog 103 #[.pointer (some ⟨sp, 0, none⟩), .agg mv] y.drew fun e w9 => e = .returned (.bool b) ∧ (w9.cell? ⟨c, 17, none⟩ = some (.pointer (some ⟨sp, 0, none⟩)) ∧ (loadVar 45 ⟨bx, 0, none⟩).run Tryd.prog w9 = .ok (.agg mv) w9) ∧ T w9)
    (hK : ∀ (w9 : World), T w9 → Q .normal (((((((a.put (some 5) (.pointer (some ⟨c, 0, none⟩))).put (some 6) (.pointer (some ⟨c, 0, none⟩))).put (some 7) (.pointer (some ⟨c, 16, none⟩))).put (some 8) (.pointer (some ⟨c, 17, none⟩))).put (some 9) (.pointer (some ⟨sp, 0, none⟩))).put (some 10) (.agg mv)).put (some 11) (.bool b)) w9) : (Code.region id ops true).wp Tryd.prog Q a y := by
  have HR : Hid (on1R ops) := R
  have hdf : a.defers = a.defers := rfl
  refine wp_region_held_drew (S := (fun z : World => z.cell? ⟨c, 17, none⟩ = some (.pointer (some ⟨sp, 0, none⟩)) ∧ (loadVar 45 ⟨bx, 0, none⟩).run Tryd.prog z = .ok (.agg mv) z)) (by kernel_rfl) (hS0) (fun hHeld => ?_)
  rw [R.size]
  clear R
  refine wpAnyH_takes HR.out.sel hQ hHeld [0, 1, 2, 3, 4, 5] 1 _ _ HR.out.may0 ?_
  refine wpTake_stepE ⟨some 5, Op.move (Operand.tmp 0), 83, "", #[], none⟩ 5 (.pointer (some ⟨c, 0, none⟩)) HR.out.o0 rfl (by rw [hsz]; decide) (wanted_none rfl) (fun z hS => on1_0 c bx sp mv b _ z (fun _ => rfl) e0 hS) ?_
  intro a1 ha1 s1 f1 n1 k1
  replace hsz := s1.trans hsz
  replace hdf := f1.trans hdf
  replace e0 := (k1 0 (by decide)).trans e0
  replace e3 := (k1 3 (by decide)).trans e3
  have e5 := n1
  clear s1 f1 n1 k1
  refine wpTake_stepE ⟨some 6, Op.nilCheck (Operand.tmp 5), 0, "", #[], none⟩ 6 (.pointer (some ⟨c, 0, none⟩)) HR.out.o1 rfl (by rw [hsz]; decide) (wanted_none rfl) (fun z hS => on1_1 c bx sp mv b _ z (fun _ => rfl) e5 hS) ?_
  intro a2 ha2 s1 f1 n1 k1
  replace hsz := s1.trans hsz
  replace hdf := f1.trans hdf
  replace e0 := (k1 0 (by decide)).trans e0
  replace e3 := (k1 3 (by decide)).trans e3
  have e6 := n1
  clear s1 f1 n1 k1
  refine wpTake_stepE ⟨some 7, Op.fieldAddr 106 (Operand.tmp 6) 5, 0, "", #[], none⟩ 7 (.pointer (some ⟨c, 16, none⟩)) HR.out.o2 rfl (by rw [hsz]; decide) (wanted_none rfl) (fun z hS => on1_2 c bx sp mv b _ z (fun _ => rfl) e6 hS) ?_
  intro a3 ha3 s1 f1 n1 k1
  replace hsz := s1.trans hsz
  replace hdf := f1.trans hdf
  replace e0 := (k1 0 (by decide)).trans e0
  replace e3 := (k1 3 (by decide)).trans e3
  have e7 := n1
  clear s1 f1 n1 k1
  refine wpTake_stepE ⟨some 8, Op.fieldAddr 102 (Operand.tmp 7) 1, 0, "", #[], none⟩ 8 (.pointer (some ⟨c, 17, none⟩)) HR.out.o3 rfl (by rw [hsz]; decide) (wanted_none rfl) (fun z hS => on1_3 c bx sp mv b _ z (fun _ => rfl) e7 hS) ?_
  intro a4 ha4 s1 f1 n1 k1
  replace hsz := s1.trans hsz
  replace hdf := f1.trans hdf
  replace e0 := (k1 0 (by decide)).trans e0
  replace e3 := (k1 3 (by decide)).trans e3
  have e8 := n1
  clear s1 f1 n1 k1
  refine wpTake_stepE ⟨some 9, Op.load 73 (Operand.tmp 8), 73, "", #[], none⟩ 9 (.pointer (some ⟨sp, 0, none⟩)) HR.out.o4 rfl (by rw [hsz]; decide) (wanted_none rfl) (fun z hS => on1_4 c bx sp mv b _ z (fun _ => rfl) e8 hS) ?_
  intro a5 ha5 s1 f1 n1 k1
  replace hsz := s1.trans hsz
  replace hdf := f1.trans hdf
  replace e0 := (k1 0 (by decide)).trans e0
  replace e3 := (k1 3 (by decide)).trans e3
  have e9 := n1
  clear s1 f1 n1 k1
  refine wpTake_stepE ⟨some 10, Op.load 45 (Operand.tmp 3), 45, "", #[], none⟩ 10 (.agg mv) HR.out.o5 rfl (by rw [hsz]; decide) (wanted_none rfl) (fun z hS => on1_5 c bx sp mv b _ z (fun _ => rfl) e3 hS) ?_
  intro a6 ha6 s1 f1 n1 k1
  replace hsz := s1.trans hsz
  replace hdf := f1.trans hdf
  replace e0 := (k1 0 (by decide)).trans e0
  replace e3 := (k1 3 (by decide)).trans e3
  replace e9 := (k1 9 (by decide)).trans e9
  have e10 := n1
  clear s1 f1 n1 k1
  refine wpTake_nil ?_
  refine wpAnyH_one ⟨some 11, Op.call { callee := Callee.value (Operand.func 103), args := #[Operand.tmp 9, Operand.tmp 10], argTypes := #[73, 45] }, 4, "", #[], none⟩ HR.out.r6 HR.out.o6 rfl (fun K' hK' => ?_)
  refine wp_enter (on1_6 c bx sp mv b _ _ (fun _ => rfl) rfl e9 e10) (hc) ?_
  rintro e9 w9 ⟨rfl, hS9, hT⟩
  refine ⟨_, rfl, hK'.out _ _ (hS9) ?_⟩
  replace hHeld := hS9
  clear hK' K'
  show wpAnyH _ _ _ _ _ _ _ (Act.put a6 (some 11) (.bool b)) _
  obtain ⟨s1, f1, n1, k1⟩ := act_put a6 11 (.bool b) (show 11 < _ by rw [hsz]; decide)
  obtain ⟨a7, ha7⟩ : ∃ x, x = Act.put a6 (some 11) (.bool b) := ⟨_, rfl⟩
  rw [← ha7] at s1 f1 n1 k1 ⊢
  replace hsz := s1.trans hsz
  replace hdf := f1.trans hdf
  replace e0 := (k1 0 (by decide)).trans e0
  replace e3 := (k1 3 (by decide)).trans e3
  clear s1 f1 n1 k1
  refine wpAnyH_done HR.out.fin ?_ _
  rw [ha7, ha6, ha5, ha4, ha3, ha2, ha1]
  exact hK _ hT
-- on1: ⟨by kernel_rfl, by kernel_rfl, by kernel_rfl, by kernel_rfl, by kernel_rfl, by kernel_rfl, by kernel_rfl, by kernel_rfl, by kernel_rfl, by kernel_rfl, by kernel_rfl, by kernel_rfl⟩

theorem wt1_0 (sp bx t i G gc ln lc : Nat) (bp : Option Addr) (bl : Int) (nv : Value) (mv : Array Value) (ev : Operand → Value) (z : World) (ec : ∀ c, ev (.const c) = c) (e3 : ev (.tmp 3) = .pointer (some ⟨bx, 0, none⟩)) (hS : z.cell? ⟨bx, 0, none⟩ = some (.int .i64 11) ∧ z.cell? ⟨bx, 6, none⟩ = some (.int .i64 (i : Int)) ∧ (loadVar 45 ⟨bx, 0, none⟩).run Tryd.prog z = .ok (.agg mv) z ∧ z.cell? ⟨sp, 0, none⟩ = some (.int .i64 bl) ∧ z.cell? ⟨sp, 1, none⟩ = some nv ∧ z.cell? ⟨sp, 2, none⟩ = some (.slice (some ⟨t, 0, none⟩) G gc) ∧ z.cell? ⟨t, i, none⟩ = some (.slice bp ln lc) ∧ (i : Int) < (G : Int) ∧ (0 : Int) < (ln : Int)) : (execOp ev ⟨some 5, Op.fieldAddr 45 (Operand.tmp 3) 0, 0, "", #[], none⟩).run Tryd.prog z = .ok (.value (.pointer (some ⟨bx, 0, none⟩))) z := by
  obtain ⟨sa, sb, sc, sd, se, sf, sg, sh, si⟩ := hS
  go_simp
theorem wt1_1 (sp bx t i G gc ln lc : Nat) (bp : Option Addr) (bl : Int) (nv : Value) (mv : Array Value) (ev : Operand → Value) (z : World) (ec : ∀ c, ev (.const c) = c) (e5 : ev (.tmp 5) = .pointer (some ⟨bx, 0, none⟩)) (hS : z.cell? ⟨bx, 0, none⟩ = some (.int .i64 11) ∧ z.cell? ⟨bx, 6, none⟩ = some (.int .i64 (i : Int)) ∧ (loadVar 45 ⟨bx, 0, none⟩).run Tryd.prog z = .ok (.agg mv) z ∧ z.cell? ⟨sp, 0, none⟩ = some (.int .i64 bl) ∧ z.cell? ⟨sp, 1, none⟩ = some nv ∧ z.cell? ⟨sp, 2, none⟩ = some (.slice (some ⟨t, 0, none⟩) G gc) ∧ z.cell? ⟨t, i, none⟩ = some (.slice bp ln lc) ∧ (i : Int) < (G : Int) ∧ (0 : Int) < (ln : Int)) : (execOp ev ⟨some 6, Op.load 3 (Operand.tmp 5), 3, "", #[], none⟩).run Tryd.prog z = .ok (.value (.int .i64 11)) z := by
  obtain ⟨sa, sb, sc, sd, se, sf, sg, sh, si⟩ := hS
  go_simp
theorem wt1_2 (sp bx t i G gc ln lc : Nat) (bp : Option Addr) (bl : Int) (nv : Value) (mv : Array Value) (ev : Operand → Value) (z : World) (ec : ∀ c, ev (.const c) = c) (e6 : ev (.tmp 6) = .int .i64 11) (hS : z.cell? ⟨bx, 0, none⟩ = some (.int .i64 11) ∧ z.cell? ⟨bx, 6, none⟩ = some (.int .i64 (i : Int)) ∧ (loadVar 45 ⟨bx, 0, none⟩).run Tryd.prog z = .ok (.agg mv) z ∧ z.cell? ⟨sp, 0, none⟩ = some (.int .i64 bl) ∧ z.cell? ⟨sp, 1, none⟩ = some nv ∧ z.cell? ⟨sp, 2, none⟩ = some (.slice (some ⟨t, 0, none⟩) G gc) ∧ z.cell? ⟨t, i, none⟩ = some (.slice bp ln lc) ∧ (i : Int) < (G : Int) ∧ (0 : Int) < (ln : Int)) : (execOp ev ⟨some 7, Op.binOp BinOp.eql 3 (Operand.tmp 6) (Operand.const (Value.int IntKind.i64 11)) 3, 4, "", #[], none⟩).run Tryd.prog z = .ok (.value (.bool true)) z := by
  obtain ⟨sa, sb, sc, sd, se, sf, sg, sh, si⟩ := hS
  go_simp
theorem wt1_3 (sp bx t i G gc ln lc : Nat) (bp : Option Addr) (bl : Int) (nv : Value) (mv : Array Value) (ev : Operand → Value) (z : World) (ec : ∀ c, ev (.const c) = c) (e7 : ev (.tmp 7) = .bool true) (hS : z.cell? ⟨bx, 0, none⟩ = some (.int .i64 11) ∧ z.cell? ⟨bx, 6, none⟩ = some (.int .i64 (i : Int)) ∧ (loadVar 45 ⟨bx, 0, none⟩).run Tryd.prog z = .ok (.agg mv) z ∧ z.cell? ⟨sp, 0, none⟩ = some (.int .i64 bl) ∧ z.cell? ⟨sp, 1, none⟩ = some nv ∧ z.cell? ⟨sp, 2, none⟩ = some (.slice (some ⟨t, 0, none⟩) G gc) ∧ z.cell? ⟨t, i, none⟩ = some (.slice bp ln lc) ∧ (i : Int) < (G : Int) ∧ (0 : Int) < (ln : Int)) : (execOp ev ⟨some 8, Op.move (Operand.tmp 7), 4, "", #[], none⟩).run Tryd.prog z = .ok (.value (.bool true)) z := by
  obtain ⟨sa, sb, sc, sd, se, sf, sg, sh, si⟩ := hS
  go_simp
theorem wt1_4 (sp bx t i G gc ln lc : Nat) (bp : Option Addr) (bl : Int) (nv : Value) (mv : Array Value) (ev : Operand → Value) (z : World) (ec : ∀ c, ev (.const c) = c) (e3 : ev (.tmp 3) = .pointer (some ⟨bx, 0, none⟩)) (hS : z.cell? ⟨bx, 0, none⟩ = some (.int .i64 11) ∧ z.cell? ⟨bx, 6, none⟩ = some (.int .i64 (i : Int)) ∧ (loadVar 45 ⟨bx, 0, none⟩).run Tryd.prog z = .ok (.agg mv) z ∧ z.cell? ⟨sp, 0, none⟩ = some (.int .i64 bl) ∧ z.cell? ⟨sp, 1, none⟩ = some nv ∧ z.cell? ⟨sp, 2, none⟩ = some (.slice (some ⟨t, 0, none⟩) G gc) ∧ z.cell? ⟨t, i, none⟩ = some (.slice bp ln lc) ∧ (i : Int) < (G : Int) ∧ (0 : Int) < (ln : Int)) : (execOp ev ⟨some 9, Op.load 45 (Operand.tmp 3), 45, "", #[], some (3, true)⟩).run Tryd.prog z = .ok (.value (.agg mv)) z := by
  exact exec_ldC e3 hS.2.2.1
theorem wt1_5 (sp bx t i G gc ln lc : Nat) (bp : Option Addr) (bl : Int) (nv : Value) (mv : Array Value) (ev : Operand → Value) (z : World) (ec : ∀ c, ev (.const c) = c) (e0 : ev (.tmp 0) = .pointer (some ⟨sp, 0, none⟩)) (hS : z.cell? ⟨bx, 0, none⟩ = some (.int .i64 11) ∧ z.cell? ⟨bx, 6, none⟩ = some (.int .i64 (i : Int)) ∧ (loadVar 45 ⟨bx, 0, none⟩).run Tryd.prog z = .ok (.agg mv) z ∧ z.cell? ⟨sp, 0, none⟩ = some (.int .i64 bl) ∧ z.cell? ⟨sp, 1, none⟩ = some nv ∧ z.cell? ⟨sp, 2, none⟩ = some (.slice (some ⟨t, 0, none⟩) G gc) ∧ z.cell? ⟨t, i, none⟩ = some (.slice bp ln lc) ∧ (i : Int) < (G : Int) ∧ (0 : Int) < (ln : Int)) : (execOp ev ⟨some 10, Op.move (Operand.tmp 0), 73, "", #[], some (3, true)⟩).run Tryd.prog z = .ok (.value (.pointer (some ⟨sp, 0, none⟩))) z := by
  obtain ⟨sa, sb, sc, sd, se, sf, sg, sh, si⟩ := hS
  go_simp
theorem wt1_6 (sp bx t i G gc ln lc : Nat) (bp : Option Addr) (bl : Int) (nv : Value) (mv : Array Value) (ev : Operand → Value) (z : World) (ec : ∀ c, ev (.const c) = c) (e10 : ev (.tmp 10) = .pointer (some ⟨sp, 0, none⟩)) (hS : z.cell? ⟨bx, 0, none⟩ = some (.int .i64 11) ∧ z.cell? ⟨bx, 6, none⟩ = some (.int .i64 (i : Int)) ∧ (loadVar 45 ⟨bx, 0, none⟩).run Tryd.prog z = .ok (.agg mv) z ∧ z.cell? ⟨sp, 0, none⟩ = some (.int .i64 bl) ∧ z.cell? ⟨sp, 1, none⟩ = some nv ∧ z.cell? ⟨sp, 2, none⟩ = some (.slice (some ⟨t, 0, none⟩) G gc) ∧ z.cell? ⟨t, i, none⟩ = some (.slice bp ln lc) ∧ (i : Int) < (G : Int) ∧ (0 : Int) < (ln : Int)) : (execOp ev ⟨some 11, Op.nilCheck (Operand.tmp 10), 0, "", #[], some (3, true)⟩).run Tryd.prog z = .ok (.value (.pointer (some ⟨sp, 0, none⟩))) z := by
  obtain ⟨sa, sb, sc, sd, se, sf, sg, sh, si⟩ := hS
  go_simp
theorem wt1_7 (sp bx t i G gc ln lc : Nat) (bp : Option Addr) (bl : Int) (nv : Value) (mv : Array Value) (ev : Operand → Value) (z : World) (ec : ∀ c, ev (.const c) = c) (e11 : ev (.tmp 11) = .pointer (some ⟨sp, 0, none⟩)) (hS : z.cell? ⟨bx, 0, none⟩ = some (.int .i64 11) ∧ z.cell? ⟨bx, 6, none⟩ = some (.int .i64 (i : Int)) ∧ (loadVar 45 ⟨bx, 0, none⟩).run Tryd.prog z = .ok (.agg mv) z ∧ z.cell? ⟨sp, 0, none⟩ = some (.int .i64 bl) ∧ z.cell? ⟨sp, 1, none⟩ = some nv ∧ z.cell? ⟨sp, 2, none⟩ = some (.slice (some ⟨t, 0, none⟩) G gc) ∧ z.cell? ⟨t, i, none⟩ = some (.slice bp ln lc) ∧ (i : Int) < (G : Int) ∧ (0 : Int) < (ln : Int)) : (execOp ev ⟨some 12, Op.fieldAddr 150 (Operand.tmp 11) 0, 0, "", #[], some (3, true)⟩).run Tryd.prog z = .ok (.value (.pointer (some ⟨sp, 0, none⟩))) z := by
  obtain ⟨sa, sb, sc, sd, se, sf, sg, sh, si⟩ := hS
  go_simp
theorem wt1_8 (sp bx t i G gc ln lc : Nat) (bp : Option Addr) (bl : Int) (nv : Value) (mv : Array Value) (ev : Operand → Value) (z : World) (ec : ∀ c, ev (.const c) = c) (e12 : ev (.tmp 12) = .pointer (some ⟨sp, 0, none⟩)) (hS : z.cell? ⟨bx, 0, none⟩ = some (.int .i64 11) ∧ z.cell? ⟨bx, 6, none⟩ = some (.int .i64 (i : Int)) ∧ (loadVar 45 ⟨bx, 0, none⟩).run Tryd.prog z = .ok (.agg mv) z ∧ z.cell? ⟨sp, 0, none⟩ = some (.int .i64 bl) ∧ z.cell? ⟨sp, 1, none⟩ = some nv ∧ z.cell? ⟨sp, 2, none⟩ = some (.slice (some ⟨t, 0, none⟩) G gc) ∧ z.cell? ⟨t, i, none⟩ = some (.slice bp ln lc) ∧ (i : Int) < (G : Int) ∧ (0 : Int) < (ln : Int)) : (execOp ev ⟨some 13, Op.load 3 (Operand.tmp 12), 3, "", #[], some (3, true)⟩).run Tryd.prog z = .ok (.value (.int .i64 bl)) z := by
  obtain ⟨sa, sb, sc, sd, se, sf, sg, sh, si⟩ := hS
  go_simp
theorem wt1_9 (sp bx t i G gc ln lc : Nat) (bp : Option Addr) (bl : Int) (nv : Value) (mv : Array Value) (ev : Operand → Value) (z : World) (ec : ∀ c, ev (.const c) = c) (e0 : ev (.tmp 0) = .pointer (some ⟨sp, 0, none⟩)) (hS : z.cell? ⟨bx, 0, none⟩ = some (.int .i64 11) ∧ z.cell? ⟨bx, 6, none⟩ = some (.int .i64 (i : Int)) ∧ (loadVar 45 ⟨bx, 0, none⟩).run Tryd.prog z = .ok (.agg mv) z ∧ z.cell? ⟨sp, 0, none⟩ = some (.int .i64 bl) ∧ z.cell? ⟨sp, 1, none⟩ = some nv ∧ z.cell? ⟨sp, 2, none⟩ = some (.slice (some ⟨t, 0, none⟩) G gc) ∧ z.cell? ⟨t, i, none⟩ = some (.slice bp ln lc) ∧ (i : Int) < (G : Int) ∧ (0 : Int) < (ln : Int)) : (execOp ev ⟨some 14, Op.move (Operand.tmp 0), 73, "", #[], some (3, true)⟩).run Tryd.prog z = .ok (.value (.pointer (some ⟨sp, 0, none⟩))) z := by
  obtain ⟨sa, sb, sc, sd, se, sf, sg, sh, si⟩ := hS
  go_simp
theorem wt1_10 (sp bx t i G gc ln lc : Nat) (bp : Option Addr) (bl : Int) (nv : Value) (mv : Array Value) (ev : Operand → Value) (z : World) (ec : ∀ c, ev (.const c) = c) (e14 : ev (.tmp 14) = .pointer (some ⟨sp, 0, none⟩)) (hS : z.cell? ⟨bx, 0, none⟩ = some (.int .i64 11) ∧ z.cell? ⟨bx, 6, none⟩ = some (.int .i64 (i : Int)) ∧ (loadVar 45 ⟨bx, 0, none⟩).run Tryd.prog z = .ok (.agg mv) z ∧ z.cell? ⟨sp, 0, none⟩ = some (.int .i64 bl) ∧ z.cell? ⟨sp, 1, none⟩ = some nv ∧ z.cell? ⟨sp, 2, none⟩ = some (.slice (some ⟨t, 0, none⟩) G gc) ∧ z.cell? ⟨t, i, none⟩ = some (.slice bp ln lc) ∧ (i : Int) < (G : Int) ∧ (0 : Int) < (ln : Int)) : (execOp ev ⟨some 15, Op.nilCheck (Operand.tmp 14), 0, "", #[], some (3, true)⟩).run Tryd.prog z = .ok (.value (.pointer (some ⟨sp, 0, none⟩))) z := by
  obtain ⟨sa, sb, sc, sd, se, sf, sg, sh, si⟩ := hS
  go_simp
theorem wt1_11 (sp bx t i G gc ln lc : Nat) (bp : Option Addr) (bl : Int) (nv : Value) (mv : Array Value) (ev : Operand → Value) (z : World) (ec : ∀ c, ev (.const c) = c) (e15 : ev (.tmp 15) = .pointer (some ⟨sp, 0, none⟩)) (hS : z.cell? ⟨bx, 0, none⟩ = some (.int .i64 11) ∧ z.cell? ⟨bx, 6, none⟩ = some (.int .i64 (i : Int)) ∧ (loadVar 45 ⟨bx, 0, none⟩).run Tryd.prog z = .ok (.agg mv) z ∧ z.cell? ⟨sp, 0, none⟩ = some (.int .i64 bl) ∧ z.cell? ⟨sp, 1, none⟩ = some nv ∧ z.cell? ⟨sp, 2, none⟩ = some (.slice (some ⟨t, 0, none⟩) G gc) ∧ z.cell? ⟨t, i, none⟩ = some (.slice bp ln lc) ∧ (i : Int) < (G : Int) ∧ (0 : Int) < (ln : Int)) : (execOp ev ⟨some 16, Op.fieldAddr 150 (Operand.tmp 15) 1, 0, "", #[], some (3, true)⟩).run Tryd.prog z = .ok (.value (.pointer (some ⟨sp, 1, none⟩))) z := by
  obtain ⟨sa, sb, sc, sd, se, sf, sg, sh, si⟩ := hS
  go_simp
theorem wt1_12 (sp bx t i G gc ln lc : Nat) (bp : Option Addr) (bl : Int) (nv : Value) (mv : Array Value) (ev : Operand → Value) (z : World) (ec : ∀ c, ev (.const c) = c) (e16 : ev (.tmp 16) = .pointer (some ⟨sp, 1, none⟩)) (hS : z.cell? ⟨bx, 0, none⟩ = some (.int .i64 11) ∧ z.cell? ⟨bx, 6, none⟩ = some (.int .i64 (i : Int)) ∧ (loadVar 45 ⟨bx, 0, none⟩).run Tryd.prog z = .ok (.agg mv) z ∧ z.cell? ⟨sp, 0, none⟩ = some (.int .i64 bl) ∧ z.cell? ⟨sp, 1, none⟩ = some nv ∧ z.cell? ⟨sp, 2, none⟩ = some (.slice (some ⟨t, 0, none⟩) G gc) ∧ z.cell? ⟨t, i, none⟩ = some (.slice bp ln lc) ∧ (i : Int) < (G : Int) ∧ (0 : Int) < (ln : Int)) : (execOp ev ⟨some 17, Op.load 23 (Operand.tmp 16), 23, "", #[], some (3, true)⟩).run Tryd.prog z = .ok (.value (nv)) z := by
  obtain ⟨sa, sb, sc, sd, se, sf, sg, sh, si⟩ := hS
  go_simp
set_option maxRecDepth 100000 in
theorem wt1_13 (sp bx t i G gc ln lc : Nat) (bp : Option Addr) (bl : Int) (nv : Value) (mv : Array Value) (ev : Operand → Value) (z : World) (ec : ∀ c, ev (.const c) = c) (ef : ev (.func 96) = .func (.func 96) #[] #[]) (e9 : ev (.tmp 9) = .agg mv) (e13 : ev (.tmp 13) = .int .i64 bl) (e17 : ev (.tmp 17) = nv) : (execOp ev ⟨some 18, Op.call { callee := Callee.value (Operand.func 96), args := #[Operand.tmp 9, Operand.tmp 13, Operand.tmp 17], argTypes := #[45, 3, 23] }, 4, "", #[], some (3, true)⟩).run Tryd.prog z = .ok (.enter 96 #[.agg mv, .int .i64 bl, nv]) z :=
  enter_run _ ef (by simp only [List.map_toArray, List.map_cons, List.map_nil, ec, e9, e13, e17]) (fun _ => by rfl)
theorem wt1_14 (sp bx t i G gc ln lc : Nat) (bp : Option Addr) (bl : Int) (nv : Value) (mv : Array Value) (ev : Operand → Value) (z : World) (ec : ∀ c, ev (.const c) = c) (e8 : ev (.tmp 8) = .bool true) (e18 : ev (.tmp 18) = .bool true) (hS : z.cell? ⟨bx, 0, none⟩ = some (.int .i64 11) ∧ z.cell? ⟨bx, 6, none⟩ = some (.int .i64 (i : Int)) ∧ (loadVar 45 ⟨bx, 0, none⟩).run Tryd.prog z = .ok (.agg mv) z ∧ z.cell? ⟨sp, 0, none⟩ = some (.int .i64 bl) ∧ z.cell? ⟨sp, 1, none⟩ = some nv ∧ z.cell? ⟨sp, 2, none⟩ = some (.slice (some ⟨t, 0, none⟩) G gc) ∧ z.cell? ⟨t, i, none⟩ = some (.slice bp ln lc) ∧ (i : Int) < (G : Int) ∧ (0 : Int) < (ln : Int)) : (execOp ev ⟨some 19, Op.pick (Operand.tmp 8) (Operand.tmp 18) (Operand.const (Value.bool false)), 4, "", #[], none⟩).run Tryd.prog z = .ok (.value (.bool true)) z := by
  obtain ⟨sa, sb, sc, sd, se, sf, sg, sh, si⟩ := hS
  go_simp
theorem wt1_15 (sp bx t i G gc ln lc : Nat) (bp : Option Addr) (bl : Int) (nv : Value) (mv : Array Value) (ev : Operand → Value) (z : World) (ec : ∀ c, ev (.const c) = c) (e19 : ev (.tmp 19) = .bool true) (hS : z.cell? ⟨bx, 0, none⟩ = some (.int .i64 11) ∧ z.cell? ⟨bx, 6, none⟩ = some (.int .i64 (i : Int)) ∧ (loadVar 45 ⟨bx, 0, none⟩).run Tryd.prog z = .ok (.agg mv) z ∧ z.cell? ⟨sp, 0, none⟩ = some (.int .i64 bl) ∧ z.cell? ⟨sp, 1, none⟩ = some nv ∧ z.cell? ⟨sp, 2, none⟩ = some (.slice (some ⟨t, 0, none⟩) G gc) ∧ z.cell? ⟨t, i, none⟩ = some (.slice bp ln lc) ∧ (i : Int) < (G : Int) ∧ (0 : Int) < (ln : Int)) : (execOp ev ⟨some 20, Op.move (Operand.tmp 19), 4, "", #[], none⟩).run Tryd.prog z = .ok (.value (.bool true)) z := by
  obtain ⟨sa, sb, sc, sd, se, sf, sg, sh, si⟩ := hS
  go_simp
theorem wt1_16 (sp bx t i G gc ln lc : Nat) (bp : Option Addr) (bl : Int) (nv : Value) (mv : Array Value) (ev : Operand → Value) (z : World) (ec : ∀ c, ev (.const c) = c) (e0 : ev (.tmp 0) = .pointer (some ⟨sp, 0, none⟩)) (hS : z.cell? ⟨bx, 0, none⟩ = some (.int .i64 11) ∧ z.cell? ⟨bx, 6, none⟩ = some (.int .i64 (i : Int)) ∧ (loadVar 45 ⟨bx, 0, none⟩).run Tryd.prog z = .ok (.agg mv) z ∧ z.cell? ⟨sp, 0, none⟩ = some (.int .i64 bl) ∧ z.cell? ⟨sp, 1, none⟩ = some nv ∧ z.cell? ⟨sp, 2, none⟩ = some (.slice (some ⟨t, 0, none⟩) G gc) ∧ z.cell? ⟨t, i, none⟩ = some (.slice bp ln lc) ∧ (i : Int) < (G : Int) ∧ (0 : Int) < (ln : Int)) : (execOp ev ⟨some 21, Op.move (Operand.tmp 0), 73, "", #[], some (15, true)⟩).run Tryd.prog z = .ok (.value (.pointer (some ⟨sp, 0, none⟩))) z := by
  obtain ⟨sa, sb, sc, sd, se, sf, sg, sh, si⟩ := hS
  go_simp
theorem wt1_17 (sp bx t i G gc ln lc : Nat) (bp : Option Addr) (bl : Int) (nv : Value) (mv : Array Value) (ev : Operand → Value) (z : World) (ec : ∀ c, ev (.const c) = c) (e21 : ev (.tmp 21) = .pointer (some ⟨sp, 0, none⟩)) (hS : z.cell? ⟨bx, 0, none⟩ = some (.int .i64 11) ∧ z.cell? ⟨bx, 6, none⟩ = some (.int .i64 (i : Int)) ∧ (loadVar 45 ⟨bx, 0, none⟩).run Tryd.prog z = .ok (.agg mv) z ∧ z.cell? ⟨sp, 0, none⟩ = some (.int .i64 bl) ∧ z.cell? ⟨sp, 1, none⟩ = some nv ∧ z.cell? ⟨sp, 2, none⟩ = some (.slice (some ⟨t, 0, none⟩) G gc) ∧ z.cell? ⟨t, i, none⟩ = some (.slice bp ln lc) ∧ (i : Int) < (G : Int) ∧ (0 : Int) < (ln : Int)) : (execOp ev ⟨some 22, Op.nilCheck (Operand.tmp 21), 0, "", #[], some (15, true)⟩).run Tryd.prog z = .ok (.value (.pointer (some ⟨sp, 0, none⟩))) z := by
  obtain ⟨sa, sb, sc, sd, se, sf, sg, sh, si⟩ := hS
  go_simp
theorem wt1_18 (sp bx t i G gc ln lc : Nat) (bp : Option Addr) (bl : Int) (nv : Value) (mv : Array Value) (ev : Operand → Value) (z : World) (ec : ∀ c, ev (.const c) = c) (e22 : ev (.tmp 22) = .pointer (some ⟨sp, 0, none⟩)) (hS : z.cell? ⟨bx, 0, none⟩ = some (.int .i64 11) ∧ z.cell? ⟨bx, 6, none⟩ = some (.int .i64 (i : Int)) ∧ (loadVar 45 ⟨bx, 0, none⟩).run Tryd.prog z = .ok (.agg mv) z ∧ z.cell? ⟨sp, 0, none⟩ = some (.int .i64 bl) ∧ z.cell? ⟨sp, 1, none⟩ = some nv ∧ z.cell? ⟨sp, 2, none⟩ = some (.slice (some ⟨t, 0, none⟩) G gc) ∧ z.cell? ⟨t, i, none⟩ = some (.slice bp ln lc) ∧ (i : Int) < (G : Int) ∧ (0 : Int) < (ln : Int)) : (execOp ev ⟨some 23, Op.fieldAddr 150 (Operand.tmp 22) 2, 0, "", #[], some (15, true)⟩).run Tryd.prog z = .ok (.value (.pointer (some ⟨sp, 2, none⟩))) z := by
  obtain ⟨sa, sb, sc, sd, se, sf, sg, sh, si⟩ := hS
  go_simp
theorem wt1_19 (sp bx t i G gc ln lc : Nat) (bp : Option Addr) (bl : Int) (nv : Value) (mv : Array Value) (ev : Operand → Value) (z : World) (ec : ∀ c, ev (.const c) = c) (e23 : ev (.tmp 23) = .pointer (some ⟨sp, 2, none⟩)) (hS : z.cell? ⟨bx, 0, none⟩ = some (.int .i64 11) ∧ z.cell? ⟨bx, 6, none⟩ = some (.int .i64 (i : Int)) ∧ (loadVar 45 ⟨bx, 0, none⟩).run Tryd.prog z = .ok (.agg mv) z ∧ z.cell? ⟨sp, 0, none⟩ = some (.int .i64 bl) ∧ z.cell? ⟨sp, 1, none⟩ = some nv ∧ z.cell? ⟨sp, 2, none⟩ = some (.slice (some ⟨t, 0, none⟩) G gc) ∧ z.cell? ⟨t, i, none⟩ = some (.slice bp ln lc) ∧ (i : Int) < (G : Int) ∧ (0 : Int) < (ln : Int)) : (execOp ev ⟨some 24, Op.load 27 (Operand.tmp 23), 27, "", #[], some (15, true)⟩).run Tryd.prog z = .ok (.value (.slice (some ⟨t, 0, none⟩) G gc)) z := by
  obtain ⟨sa, sb, sc, sd, se, sf, sg, sh, si⟩ := hS
  go_simp
theorem wt1_20 (sp bx t i G gc ln lc : Nat) (bp : Option Addr) (bl : Int) (nv : Value) (mv : Array Value) (ev : Operand → Value) (z : World) (ec : ∀ c, ev (.const c) = c) (e3 : ev (.tmp 3) = .pointer (some ⟨bx, 0, none⟩)) (hS : z.cell? ⟨bx, 0, none⟩ = some (.int .i64 11) ∧ z.cell? ⟨bx, 6, none⟩ = some (.int .i64 (i : Int)) ∧ (loadVar 45 ⟨bx, 0, none⟩).run Tryd.prog z = .ok (.agg mv) z ∧ z.cell? ⟨sp, 0, none⟩ = some (.int .i64 bl) ∧ z.cell? ⟨sp, 1, none⟩ = some nv ∧ z.cell? ⟨sp, 2, none⟩ = some (.slice (some ⟨t, 0, none⟩) G gc) ∧ z.cell? ⟨t, i, none⟩ = some (.slice bp ln lc) ∧ (i : Int) < (G : Int) ∧ (0 : Int) < (ln : Int)) : (execOp ev ⟨some 25, Op.fieldAddr 45 (Operand.tmp 3) 6, 0, "", #[], some (15, true)⟩).run Tryd.prog z = .ok (.value (.pointer (some ⟨bx, 6, none⟩))) z := by
  obtain ⟨sa, sb, sc, sd, se, sf, sg, sh, si⟩ := hS
  go_simp
theorem wt1_21 (sp bx t i G gc ln lc : Nat) (bp : Option Addr) (bl : Int) (nv : Value) (mv : Array Value) (ev : Operand → Value) (z : World) (ec : ∀ c, ev (.const c) = c) (e25 : ev (.tmp 25) = .pointer (some ⟨bx, 6, none⟩)) (hS : z.cell? ⟨bx, 0, none⟩ = some (.int .i64 11) ∧ z.cell? ⟨bx, 6, none⟩ = some (.int .i64 (i : Int)) ∧ (loadVar 45 ⟨bx, 0, none⟩).run Tryd.prog z = .ok (.agg mv) z ∧ z.cell? ⟨sp, 0, none⟩ = some (.int .i64 bl) ∧ z.cell? ⟨sp, 1, none⟩ = some nv ∧ z.cell? ⟨sp, 2, none⟩ = some (.slice (some ⟨t, 0, none⟩) G gc) ∧ z.cell? ⟨t, i, none⟩ = some (.slice bp ln lc) ∧ (i : Int) < (G : Int) ∧ (0 : Int) < (ln : Int)) : (execOp ev ⟨some 26, Op.load 3 (Operand.tmp 25), 3, "", #[], some (15, true)⟩).run Tryd.prog z = .ok (.value (.int .i64 (i : Int))) z := by
  obtain ⟨sa, sb, sc, sd, se, sf, sg, sh, si⟩ := hS
  go_simp
theorem wt1_22 (sp bx t i G gc ln lc : Nat) (bp : Option Addr) (bl : Int) (nv : Value) (mv : Array Value) (ev : Operand → Value) (z : World) (ec : ∀ c, ev (.const c) = c) (e24 : ev (.tmp 24) = .slice (some ⟨t, 0, none⟩) G gc) (e26 : ev (.tmp 26) = .int .i64 (i : Int)) (hS : z.cell? ⟨bx, 0, none⟩ = some (.int .i64 11) ∧ z.cell? ⟨bx, 6, none⟩ = some (.int .i64 (i : Int)) ∧ (loadVar 45 ⟨bx, 0, none⟩).run Tryd.prog z = .ok (.agg mv) z ∧ z.cell? ⟨sp, 0, none⟩ = some (.int .i64 bl) ∧ z.cell? ⟨sp, 1, none⟩ = some nv ∧ z.cell? ⟨sp, 2, none⟩ = some (.slice (some ⟨t, 0, none⟩) G gc) ∧ z.cell? ⟨t, i, none⟩ = some (.slice bp ln lc) ∧ (i : Int) < (G : Int) ∧ (0 : Int) < (ln : Int)) : (execOp ev ⟨some 27, Op.indexAddr 27 (Operand.tmp 24) (Operand.tmp 26), 0, "", #[], some (15, true)⟩).run Tryd.prog z = .ok (.value (.pointer (some ⟨t, i, none⟩))) z := by
  obtain ⟨sa, sb, sc, sd, se, sf, sg, sh, si⟩ := hS
  go_simp
theorem wt1_23 (sp bx t i G gc ln lc : Nat) (bp : Option Addr) (bl : Int) (nv : Value) (mv : Array Value) (ev : Operand → Value) (z : World) (ec : ∀ c, ev (.const c) = c) (e27 : ev (.tmp 27) = .pointer (some ⟨t, i, none⟩)) (hS : z.cell? ⟨bx, 0, none⟩ = some (.int .i64 11) ∧ z.cell? ⟨bx, 6, none⟩ = some (.int .i64 (i : Int)) ∧ (loadVar 45 ⟨bx, 0, none⟩).run Tryd.prog z = .ok (.agg mv) z ∧ z.cell? ⟨sp, 0, none⟩ = some (.int .i64 bl) ∧ z.cell? ⟨sp, 1, none⟩ = some nv ∧ z.cell? ⟨sp, 2, none⟩ = some (.slice (some ⟨t, 0, none⟩) G gc) ∧ z.cell? ⟨t, i, none⟩ = some (.slice bp ln lc) ∧ (i : Int) < (G : Int) ∧ (0 : Int) < (ln : Int)) : (execOp ev ⟨some 28, Op.load 22 (Operand.tmp 27), 22, "", #[], some (15, true)⟩).run Tryd.prog z = .ok (.value (.slice bp ln lc)) z := by
  obtain ⟨sa, sb, sc, sd, se, sf, sg, sh, si⟩ := hS
  go_simp
theorem wt1_24 (sp bx t i G gc ln lc : Nat) (bp : Option Addr) (bl : Int) (nv : Value) (mv : Array Value) (ev : Operand → Value) (z : World) (ec : ∀ c, ev (.const c) = c) (e28 : ev (.tmp 28) = .slice bp ln lc) (hS : z.cell? ⟨bx, 0, none⟩ = some (.int .i64 11) ∧ z.cell? ⟨bx, 6, none⟩ = some (.int .i64 (i : Int)) ∧ (loadVar 45 ⟨bx, 0, none⟩).run Tryd.prog z = .ok (.agg mv) z ∧ z.cell? ⟨sp, 0, none⟩ = some (.int .i64 bl) ∧ z.cell? ⟨sp, 1, none⟩ = some nv ∧ z.cell? ⟨sp, 2, none⟩ = some (.slice (some ⟨t, 0, none⟩) G gc) ∧ z.cell? ⟨t, i, none⟩ = some (.slice bp ln lc) ∧ (i : Int) < (G : Int) ∧ (0 : Int) < (ln : Int)) : (execOp ev ⟨some 29, Op.call { callee := Callee.builtin Builtin.len, args := #[Operand.tmp 28], argTypes := #[22] }, 3, "", #[], some (15, true)⟩).run Tryd.prog z = .ok (.value (.int .i64 (ln : Int))) z := by
  obtain ⟨sa, sb, sc, sd, se, sf, sg, sh, si⟩ := hS
  go_simp
theorem wt1_25 (sp bx t i G gc ln lc : Nat) (bp : Option Addr) (bl : Int) (nv : Value) (mv : Array Value) (ev : Operand → Value) (z : World) (ec : ∀ c, ev (.const c) = c) (e29 : ev (.tmp 29) = .int .i64 (ln : Int)) (hS : z.cell? ⟨bx, 0, none⟩ = some (.int .i64 11) ∧ z.cell? ⟨bx, 6, none⟩ = some (.int .i64 (i : Int)) ∧ (loadVar 45 ⟨bx, 0, none⟩).run Tryd.prog z = .ok (.agg mv) z ∧ z.cell? ⟨sp, 0, none⟩ = some (.int .i64 bl) ∧ z.cell? ⟨sp, 1, none⟩ = some nv ∧ z.cell? ⟨sp, 2, none⟩ = some (.slice (some ⟨t, 0, none⟩) G gc) ∧ z.cell? ⟨t, i, none⟩ = some (.slice bp ln lc) ∧ (i : Int) < (G : Int) ∧ (0 : Int) < (ln : Int)) : (execOp ev ⟨some 30, Op.binOp BinOp.gtr 3 (Operand.tmp 29) (Operand.const (Value.int IntKind.i64 0)) 3, 4, "", #[], some (15, true)⟩).run Tryd.prog z = .ok (.value (.bool true)) z := by
  obtain ⟨sa, sb, sc, sd, se, sf, sg, sh, si⟩ := hS
  have h9 : (ln : Int) > 0 := si
  go_simp
  omega
theorem wt1_26 (sp bx t i G gc ln lc : Nat) (bp : Option Addr) (bl : Int) (nv : Value) (mv : Array Value) (ev : Operand → Value) (z : World) (ec : ∀ c, ev (.const c) = c) (e20 : ev (.tmp 20) = .bool true) (e30 : ev (.tmp 30) = .bool true) (hS : z.cell? ⟨bx, 0, none⟩ = some (.int .i64 11) ∧ z.cell? ⟨bx, 6, none⟩ = some (.int .i64 (i : Int)) ∧ (loadVar 45 ⟨bx, 0, none⟩).run Tryd.prog z = .ok (.agg mv) z ∧ z.cell? ⟨sp, 0, none⟩ = some (.int .i64 bl) ∧ z.cell? ⟨sp, 1, none⟩ = some nv ∧ z.cell? ⟨sp, 2, none⟩ = some (.slice (some ⟨t, 0, none⟩) G gc) ∧ z.cell? ⟨t, i, none⟩ = some (.slice bp ln lc) ∧ (i : Int) < (G : Int) ∧ (0 : Int) < (ln : Int)) : (execOp ev ⟨some 31, Op.pick (Operand.tmp 20) (Operand.tmp 30) (Operand.const (Value.bool false)), 4, "", #[], none⟩).run Tryd.prog z = .ok (.value (.bool true)) z := by
  obtain ⟨sa, sb, sc, sd, se, sf, sg, sh, si⟩ := hS
  go_simp
theorem wt1_27 (sp bx t i G gc ln lc : Nat) (bp : Option Addr) (bl : Int) (nv : Value) (mv : Array Value) (ev : Operand → Value) (z : World) (ec : ∀ c, ev (.const c) = c) (e31 : ev (.tmp 31) = .bool true) (hS : z.cell? ⟨bx, 0, none⟩ = some (.int .i64 11) ∧ z.cell? ⟨bx, 6, none⟩ = some (.int .i64 (i : Int)) ∧ (loadVar 45 ⟨bx, 0, none⟩).run Tryd.prog z = .ok (.agg mv) z ∧ z.cell? ⟨sp, 0, none⟩ = some (.int .i64 bl) ∧ z.cell? ⟨sp, 1, none⟩ = some nv ∧ z.cell? ⟨sp, 2, none⟩ = some (.slice (some ⟨t, 0, none⟩) G gc) ∧ z.cell? ⟨t, i, none⟩ = some (.slice bp ln lc) ∧ (i : Int) < (G : Int) ∧ (0 : Int) < (ln : Int)) : (execOp ev ⟨some 4, Op.assign (Operand.tmp 31), 4, "", #[], none⟩).run Tryd.prog z = .ok (.value (.bool true)) z := by
  obtain ⟨sa, sb, sc, sd, se, sf, sg, sh, si⟩ := hS
  go_simp
structure wt1R (ops : Array Oper) : Prop where
  size : ops.size = 28
  sel : Region.noSelect ops = true
  o0 : (ops[0]?).map bare = some ⟨some 5, Op.fieldAddr 45 (Operand.tmp 3) 0, 0, "", #[], none⟩
  o1 : (ops[1]?).map bare = some ⟨some 6, Op.load 3 (Operand.tmp 5), 3, "", #[], none⟩
  o2 : (ops[2]?).map bare = some ⟨some 7, Op.binOp BinOp.eql 3 (Operand.tmp 6) (Operand.const (Value.int IntKind.i64 11)) 3, 4, "", #[], none⟩
  o3 : (ops[3]?).map bare = some ⟨some 8, Op.move (Operand.tmp 7), 4, "", #[], none⟩
  o4 : (ops[4]?).map bare = some ⟨some 9, Op.load 45 (Operand.tmp 3), 45, "", #[], some (3, true)⟩
  o5 : (ops[5]?).map bare = some ⟨some 10, Op.move (Operand.tmp 0), 73, "", #[], some (3, true)⟩
  o6 : (ops[6]?).map bare = some ⟨some 11, Op.nilCheck (Operand.tmp 10), 0, "", #[], some (3, true)⟩
  o7 : (ops[7]?).map bare = some ⟨some 12, Op.fieldAddr 150 (Operand.tmp 11) 0, 0, "", #[], some (3, true)⟩
  o8 : (ops[8]?).map bare = some ⟨some 13, Op.load 3 (Operand.tmp 12), 3, "", #[], some (3, true)⟩
  o9 : (ops[9]?).map bare = some ⟨some 14, Op.move (Operand.tmp 0), 73, "", #[], some (3, true)⟩
  o10 : (ops[10]?).map bare = some ⟨some 15, Op.nilCheck (Operand.tmp 14), 0, "", #[], some (3, true)⟩
  o11 : (ops[11]?).map bare = some ⟨some 16, Op.fieldAddr 150 (Operand.tmp 15) 1, 0, "", #[], some (3, true)⟩
  o12 : (ops[12]?).map bare = some ⟨some 17, Op.load 23 (Operand.tmp 16), 23, "", #[], some (3, true)⟩
  o13 : (ops[13]?).map bare = some ⟨some 18, Op.call { callee := Callee.value (Operand.func 96), args := #[Operand.tmp 9, Operand.tmp 13, Operand.tmp 17], argTypes := #[45, 3, 23] }, 4, "", #[], some (3, true)⟩
  o14 : (ops[14]?).map bare = some ⟨some 19, Op.pick (Operand.tmp 8) (Operand.tmp 18) (Operand.const (Value.bool false)), 4, "", #[], none⟩
  o15 : (ops[15]?).map bare = some ⟨some 20, Op.move (Operand.tmp 19), 4, "", #[], none⟩
  o16 : (ops[16]?).map bare = some ⟨some 21, Op.move (Operand.tmp 0), 73, "", #[], some (15, true)⟩
  o17 : (ops[17]?).map bare = some ⟨some 22, Op.nilCheck (Operand.tmp 21), 0, "", #[], some (15, true)⟩
  o18 : (ops[18]?).map bare = some ⟨some 23, Op.fieldAddr 150 (Operand.tmp 22) 2, 0, "", #[], some (15, true)⟩
  o19 : (ops[19]?).map bare = some ⟨some 24, Op.load 27 (Operand.tmp 23), 27, "", #[], some (15, true)⟩
  o20 : (ops[20]?).map bare = some ⟨some 25, Op.fieldAddr 45 (Operand.tmp 3) 6, 0, "", #[], some (15, true)⟩
  o21 : (ops[21]?).map bare = some ⟨some 26, Op.load 3 (Operand.tmp 25), 3, "", #[], some (15, true)⟩
  o22 : (ops[22]?).map bare = some ⟨some 27, Op.indexAddr 27 (Operand.tmp 24) (Operand.tmp 26), 0, "", #[], some (15, true)⟩
  o23 : (ops[23]?).map bare = some ⟨some 28, Op.load 22 (Operand.tmp 27), 22, "", #[], some (15, true)⟩
  o24 : (ops[24]?).map bare = some ⟨some 29, Op.call { callee := Callee.builtin Builtin.len, args := #[Operand.tmp 28], argTypes := #[22] }, 3, "", #[], some (15, true)⟩
  o25 : (ops[25]?).map bare = some ⟨some 30, Op.binOp BinOp.gtr 3 (Operand.tmp 29) (Operand.const (Value.int IntKind.i64 0)) 3, 4, "", #[], some (15, true)⟩
  o26 : (ops[26]?).map bare = some ⟨some 31, Op.pick (Operand.tmp 20) (Operand.tmp 30) (Operand.const (Value.bool false)), 4, "", #[], none⟩
  o27 : (ops[27]?).map bare = some ⟨some 4, Op.assign (Operand.tmp 31), 4, "", #[], none⟩
  may0 : takeB .any ops [0, 1, 2, 3, 4, 5, 6, 7, 8, 9, 10, 11, 12] (Array.replicate 28 false) = true
  r13 : Region.ready .any ops (mark [0, 1, 2, 3, 4, 5, 6, 7, 8, 9, 10, 11, 12] (Array.replicate 28 false)) = [13]
  may1 : takeB .any ops [14, 15, 16, 17, 18, 19, 20, 21, 22, 23, 24, 25, 26, 27] ((mark [0, 1, 2, 3, 4, 5, 6, 7, 8, 9, 10, 11, 12] (Array.replicate 28 false)).setIfInBounds 13 true) = true
  fin : Region.ready .any ops (mark [14, 15, 16, 17, 18, 19, 20, 21, 22, 23, 24, 25, 26, 27] ((mark [0, 1, 2, 3, 4, 5, 6, 7, 8, 9, 10, 11, 12] (Array.replicate 28 false)).setIfInBounds 13 true)) = []

set_option maxRecDepth 100000 in
set_option maxHeartbeats 3200000 in
theorem wt1_region {ops : Array Oper} {id : Nat} {Q : Exit → Act → World → Prop} {a : Act} {y : World} (R : wt1R ops) (sp bx t i G gc ln lc : Nat) (bp : Option Addr) (bl : Int) (nv : Value) (mv : Array Value)
    (hQ : ∀ d v c a w, Q (.panic c) (a.put d v) w → Q (.panic c) a w) (hsz : a.tmps.size = 32) (e0 : a.eval (.tmp 0) = .pointer (some ⟨sp, 0, none⟩)) (e3 : a.eval (.tmp 3) = .pointer (some ⟨bx, 0, none⟩)) (hS0 : (y.drew.cell? ⟨bx, 0, none⟩ = some (.int .i64 11) ∧ y.drew.cell? ⟨bx, 6, none⟩ = some (.int .i64 (i : Int)) ∧ (loadVar 45 ⟨bx, 0, none⟩).run Tryd.prog y.drew = .ok (.agg mv) y.drew ∧ y.drew.cell? ⟨sp, 0, none⟩ = some (.int .i64 bl) ∧ y.drew.cell? ⟨sp, 1, none⟩ = some nv ∧ y.drew.cell? ⟨sp, 2, none⟩ = some (.slice (some ⟨t, 0, none⟩) G gc) ∧ y.drew.cell? ⟨t, i, none⟩ = some (.slice bp ln lc) ∧ (i : Int) < (G : Int) ∧ (0 : Int) < (ln : Int))) (T : World → Prop) (hc : Calls Tryd.prog 96 #[.agg mv, .int .i64 bl, nv] y.drew fun e w9 => e = .returned (.bool true) ∧ (w9.cell? ⟨bx, 0, none⟩ = some (.int .i64 11) ∧ w9.cell? ⟨bx, 6, none⟩ = some (.int .i64 (i : Int)) ∧ (loadVar 45 ⟨bx, 0, none⟩).run Tryd.prog w9 = .ok (.agg mv) w9 ∧ w9.cell? ⟨sp, 0, none⟩ = some (.int .i64 bl) ∧ w9.cell? ⟨sp, 1, none⟩ = some nv ∧ w9.cell? ⟨sp, 2, none⟩ = some (.slice (some ⟨t, 0, none⟩) G gc) ∧ w9.cell? ⟨t, i, none⟩ = some (.slice bp ln lc) ∧ (i : Int) < (G : Int) ∧ (0 : Int) < (ln : Int)) ∧ T w9)
    (hK : ∀ (w9 : World), T w9 → Q .normal ((((((((((((((((((((((((((((a.put (some 5) (.pointer (some ⟨bx, 0, none⟩))).put (some 6) (.int .i64 11)).put (some 7) (.bool true)).put (some 8) (.bool true)).put (some 9) (.agg mv)).put (some 10) (.pointer (some ⟨sp, 0, none⟩))).put (some 11) (.pointer (some ⟨sp, 0, none⟩))).put (some 12) (.pointer (some ⟨sp, 0, none⟩))).put (some 13) (.int .i64 bl)).put (some 14) (.pointer (some ⟨sp, 0, none⟩))).put (some 15) (.pointer (some ⟨sp, 0, none⟩))).put (some 16) (.pointer (some ⟨sp, 1, none⟩))).put (some 17) (nv)).put (some 18) (.bool true)).put (some 19) (.bool true)).put (some 20) (.bool true)).put (some 21) (.pointer (some ⟨sp, 0, none⟩))).put (some 22) (.pointer (some ⟨sp, 0, none⟩))).put (some 23) (.pointer (some ⟨sp, 2, none⟩))).put (some 24) (.slice (some ⟨t, 0, none⟩) G gc)).put (some 25) (.pointer (some ⟨bx, 6, none⟩))).put (some 26) (.int .i64 (i : Int))).put (some 27) (.pointer (some ⟨t, i, none⟩))).put (some 28) (.slice bp ln lc)).put (some 29) (.int .i64 (ln : Int))).put (some 30) (.bool true)).put (some 31) (.bool true)).put (some 4) (.bool true)) w9) : (Code.region id ops true).wp Tryd.prog Q a y := by
  have HR : Hid (wt1R ops) := R
  have hdf : a.defers = a.defers := rfl
  refine wp_region_held_drew (S := (fun z : World => z.cell? ⟨bx, 0, none⟩ = some (.int .i64 11) ∧ z.cell? ⟨bx, 6, none⟩ = some (.int .i64 (i : Int)) ∧ (loadVar 45 ⟨bx, 0, none⟩).run Tryd.prog z = .ok (.agg mv) z ∧ z.cell? ⟨sp, 0, none⟩ = some (.int .i64 bl) ∧ z.cell? ⟨sp, 1, none⟩ = some nv ∧ z.cell? ⟨sp, 2, none⟩ = some (.slice (some ⟨t, 0, none⟩) G gc) ∧ z.cell? ⟨t, i, none⟩ = some (.slice bp ln lc) ∧ (i : Int) < (G : Int) ∧ (0 : Int) < (ln : Int))) (by kernel_rfl) (hS0) (fun hHeld => ?_)
  rw [R.size]
  clear R
  refine wpAnyH_takes HR.out.sel hQ hHeld [0, 1, 2, 3, 4, 5, 6, 7, 8, 9, 10, 11, 12] 15 _ _ HR.out.may0 ?_
  refine wpTake_stepE ⟨some 5, Op.fieldAddr 45 (Operand.tmp 3) 0, 0, "", #[], none⟩ 5 (.pointer (some ⟨bx, 0, none⟩)) HR.out.o0 rfl (by rw [hsz]; decide) (wanted_none rfl) (fun z hS => wt1_0 sp bx t i G gc ln lc bp bl nv mv _ z (fun _ => rfl) e3 hS) ?_
  intro a1 ha1 s1 f1 n1 k1
  replace hsz := s1.trans hsz
  replace hdf := f1.trans hdf
  replace e0 := (k1 0 (by decide)).trans e0
  replace e3 := (k1 3 (by decide)).trans e3
  have e5 := n1
  clear s1 f1 n1 k1
  refine wpTake_stepE ⟨some 6, Op.load 3 (Operand.tmp 5), 3, "", #[], none⟩ 6 (.int .i64 11) HR.out.o1 rfl (by rw [hsz]; decide) (wanted_none rfl) (fun z hS => wt1_1 sp bx t i G gc ln lc bp bl nv mv _ z (fun _ => rfl) e5 hS) ?_
  intro a2 ha2 s1 f1 n1 k1
  replace hsz := s1.trans hsz
  replace hdf := f1.trans hdf
  replace e0 := (k1 0 (by decide)).trans e0
  replace e3 := (k1 3 (by decide)).trans e3
  have e6 := n1
  clear s1 f1 n1 k1
  refine wpTake_stepE ⟨some 7, Op.binOp BinOp.eql 3 (Operand.tmp 6) (Operand.const (Value.int IntKind.i64 11)) 3, 4, "", #[], none⟩ 7 (.bool true) HR.out.o2 rfl (by rw [hsz]; decide) (wanted_none rfl) (fun z hS => wt1_2 sp bx t i G gc ln lc bp bl nv mv _ z (fun _ => rfl) e6 hS) ?_
  intro a3 ha3 s1 f1 n1 k1
  replace hsz := s1.trans hsz
  replace hdf := f1.trans hdf
  replace e0 := (k1 0 (by decide)).trans e0
  replace e3 := (k1 3 (by decide)).trans e3
  have e7 := n1
  clear s1 f1 n1 k1
  refine wpTake_stepE ⟨some 8, Op.move (Operand.tmp 7), 4, "", #[], none⟩ 8 (.bool true) HR.out.o3 rfl (by rw [hsz]; decide) (wanted_none rfl) (fun z hS => wt1_3 sp bx t i G gc ln lc bp bl nv mv _ z (fun _ => rfl) e7 hS) ?_
  intro a4 ha4 s1 f1 n1 k1
  replace hsz := s1.trans hsz
  replace hdf := f1.trans hdf
  replace e0 := (k1 0 (by decide)).trans e0
  replace e3 := (k1 3 (by decide)).trans e3
  have e8 := n1
  clear s1 f1 n1 k1
  refine wpTake_stepE ⟨some 9, Op.load 45 (Operand.tmp 3), 45, "", #[], some (3, true)⟩ 9 (.agg mv) HR.out.o4 rfl (by rw [hsz]; decide) (wanted_some rfl (yielded_of HR.out.o3 rfl e8 (by rw [hsz]; decide))) (fun z hS => wt1_4 sp bx t i G gc ln lc bp bl nv mv _ z (fun _ => rfl) e3 hS) ?_
  intro a5 ha5 s1 f1 n1 k1
  replace hsz := s1.trans hsz
  replace hdf := f1.trans hdf
  replace e0 := (k1 0 (by decide)).trans e0
  replace e3 := (k1 3 (by decide)).trans e3
  replace e8 := (k1 8 (by decide)).trans e8
  have e9 := n1
  clear s1 f1 n1 k1
  refine wpTake_stepE ⟨some 10, Op.move (Operand.tmp 0), 73, "", #[], some (3, true)⟩ 10 (.pointer (some ⟨sp, 0, none⟩)) HR.out.o5 rfl (by rw [hsz]; decide) (wanted_some rfl (yielded_of HR.out.o3 rfl e8 (by rw [hsz]; decide))) (fun z hS => wt1_5 sp bx t i G gc ln lc bp bl nv mv _ z (fun _ => rfl) e0 hS) ?_
  intro a6 ha6 s1 f1 n1 k1
  replace hsz := s1.trans hsz
  replace hdf := f1.trans hdf
  replace e0 := (k1 0 (by decide)).trans e0
  replace e3 := (k1 3 (by decide)).trans e3
  replace e8 := (k1 8 (by decide)).trans e8
  replace e9 := (k1 9 (by decide)).trans e9
  have e10 := n1
  clear s1 f1 n1 k1
  refine wpTake_stepE ⟨some 11, Op.nilCheck (Operand.tmp 10), 0, "", #[], some (3, true)⟩ 11 (.pointer (some ⟨sp, 0, none⟩)) HR.out.o6 rfl (by rw [hsz]; decide) (wanted_some rfl (yielded_of HR.out.o3 rfl e8 (by rw [hsz]; decide))) (fun z hS => wt1_6 sp bx t i G gc ln lc bp bl nv mv _ z (fun _ => rfl) e10 hS) ?_
  intro a7 ha7 s1 f1 n1 k1
  replace hsz := s1.trans hsz
  replace hdf := f1.trans hdf
  replace e0 := (k1 0 (by decide)).trans e0
  replace e3 := (k1 3 (by decide)).trans e3
  replace e8 := (k1 8 (by decide)).trans e8
  replace e9 := (k1 9 (by decide)).trans e9
  have e11 := n1
  clear s1 f1 n1 k1
  refine wpTake_stepE ⟨some 12, Op.fieldAddr 150 (Operand.tmp 11) 0, 0, "", #[], some (3, true)⟩ 12 (.pointer (some ⟨sp, 0, none⟩)) HR.out.o7 rfl (by rw [hsz]; decide) (wanted_some rfl (yielded_of HR.out.o3 rfl e8 (by rw [hsz]; decide))) (fun z hS => wt1_7 sp bx t i G gc ln lc bp bl nv mv _ z (fun _ => rfl) e11 hS) ?_
  intro a8 ha8 s1 f1 n1 k1
  replace hsz := s1.trans hsz
  replace hdf := f1.trans hdf
  replace e0 := (k1 0 (by decide)).trans e0
  replace e3 := (k1 3 (by decide)).trans e3
  replace e8 := (k1 8 (by decide)).trans e8
  replace e9 := (k1 9 (by decide)).trans e9
  have e12 := n1
  clear s1 f1 n1 k1
  refine wpTake_stepE ⟨some 13, Op.load 3 (Operand.tmp 12), 3, "", #[], some (3, true)⟩ 13 (.int .i64 bl) HR.out.o8 rfl (by rw [hsz]; decide) (wanted_some rfl (yielded_of HR.out.o3 rfl e8 (by rw [hsz]; decide))) (fun z hS => wt1_8 sp bx t i G gc ln lc bp bl nv mv _ z (fun _ => rfl) e12 hS) ?_
  intro a9 ha9 s1 f1 n1 k1
  replace hsz := s1.trans hsz
  replace hdf := f1.trans hdf
  replace e0 := (k1 0 (by decide)).trans e0
  replace e3 := (k1 3 (by decide)).trans e3
  replace e8 := (k1 8 (by decide)).trans e8
  replace e9 := (k1 9 (by decide)).trans e9
  have e13 := n1
  clear s1 f1 n1 k1
  refine wpTake_stepE ⟨some 14, Op.move (Operand.tmp 0), 73, "", #[], some (3, true)⟩ 14 (.pointer (some ⟨sp, 0, none⟩)) HR.out.o9 rfl (by rw [hsz]; decide) (wanted_some rfl (yielded_of HR.out.o3 rfl e8 (by rw [hsz]; decide))) (fun z hS => wt1_9 sp bx t i G gc ln lc bp bl nv mv _ z (fun _ => rfl) e0 hS) ?_
  intro a10 ha10 s1 f1 n1 k1
  replace hsz := s1.trans hsz
  replace hdf := f1.trans hdf
  replace e0 := (k1 0 (by decide)).trans e0
  replace e3 := (k1 3 (by decide)).trans e3
  replace e8 := (k1 8 (by decide)).trans e8
  replace e9 := (k1 9 (by decide)).trans e9
  replace e13 := (k1 13 (by decide)).trans e13
  have e14 := n1
  clear s1 f1 n1 k1
  refine wpTake_stepE ⟨some 15, Op.nilCheck (Operand.tmp 14), 0, "", #[], some (3, true)⟩ 15 (.pointer (some ⟨sp, 0, none⟩)) HR.out.o10 rfl (by rw [hsz]; decide) (wanted_some rfl (yielded_of HR.out.o3 rfl e8 (by rw [hsz]; decide))) (fun z hS => wt1_10 sp bx t i G gc ln lc bp bl nv mv _ z (fun _ => rfl) e14 hS) ?_
  intro a11 ha11 s1 f1 n1 k1
  replace hsz := s1.trans hsz
  replace hdf := f1.trans hdf
  replace e0 := (k1 0 (by decide)).trans e0
  replace e3 := (k1 3 (by decide)).trans e3
  replace e8 := (k1 8 (by decide)).trans e8
  replace e9 := (k1 9 (by decide)).trans e9
  replace e13 := (k1 13 (by decide)).trans e13
  have e15 := n1
  clear s1 f1 n1 k1
  refine wpTake_stepE ⟨some 16, Op.fieldAddr 150 (Operand.tmp 15) 1, 0, "", #[], some (3, true)⟩ 16 (.pointer (some ⟨sp, 1, none⟩)) HR.out.o11 rfl (by rw [hsz]; decide) (wanted_some rfl (yielded_of HR.out.o3 rfl e8 (by rw [hsz]; decide))) (fun z hS => wt1_11 sp bx t i G gc ln lc bp bl nv mv _ z (fun _ => rfl) e15 hS) ?_
  intro a12 ha12 s1 f1 n1 k1
  replace hsz := s1.trans hsz
  replace hdf := f1.trans hdf
  replace e0 := (k1 0 (by decide)).trans e0
  replace e3 := (k1 3 (by decide)).trans e3
  replace e8 := (k1 8 (by decide)).trans e8
  replace e9 := (k1 9 (by decide)).trans e9
  replace e13 := (k1 13 (by decide)).trans e13
  have e16 := n1
  clear s1 f1 n1 k1
  refine wpTake_stepE ⟨some 17, Op.load 23 (Operand.tmp 16), 23, "", #[], some (3, true)⟩ 17 (nv) HR.out.o12 rfl (by rw [hsz]; decide) (wanted_some rfl (yielded_of HR.out.o3 rfl e8 (by rw [hsz]; decide))) (fun z hS => wt1_12 sp bx t i G gc ln lc bp bl nv mv _ z (fun _ => rfl) e16 hS) ?_
  intro a13 ha13 s1 f1 n1 k1
  replace hsz := s1.trans hsz
  replace hdf := f1.trans hdf
  replace e0 := (k1 0 (by decide)).trans e0
  replace e3 := (k1 3 (by decide)).trans e3
  replace e8 := (k1 8 (by decide)).trans e8
  replace e9 := (k1 9 (by decide)).trans e9
  replace e13 := (k1 13 (by decide)).trans e13
  have e17 := n1
  clear s1 f1 n1 k1
  refine wpTake_nil ?_
  refine wpAnyH_oneG ⟨some 18, Op.call { callee := Callee.value (Operand.func 96), args := #[Operand.tmp 9, Operand.tmp 13, Operand.tmp 17], argTypes := #[45, 3, 23] }, 4, "", #[], some (3, true)⟩ HR.out.r13 HR.out.o13 (wanted_some rfl (yielded_of HR.out.o3 rfl e8 (by rw [hsz]; decide))) (fun K' hK' => ?_)
  refine wp_enter (wt1_13 sp bx t i G gc ln lc bp bl nv mv _ _ (fun _ => rfl) rfl e9 e13 e17) (hc) ?_
  rintro e9 w9 ⟨rfl, hS9, hT⟩
  refine ⟨_, rfl, hK'.out _ _ (hS9) ?_⟩
  replace hHeld := hS9
  clear hK' K'
  show wpAnyH _ _ _ _ _ _ _ (Act.put a13 (some 18) (.bool true)) _
  obtain ⟨s1, f1, n1, k1⟩ := act_put a13 18 (.bool true) (show 18 < _ by rw [hsz]; decide)
  obtain ⟨a14, ha14⟩ : ∃ x, x = Act.put a13 (some 18) (.bool true) := ⟨_, rfl⟩
  rw [← ha14] at s1 f1 n1 k1 ⊢
  replace hsz := s1.trans hsz
  replace hdf := f1.trans hdf
  replace e0 := (k1 0 (by decide)).trans e0
  replace e3 := (k1 3 (by decide)).trans e3
  replace e8 := (k1 8 (by decide)).trans e8
  have e18 := n1
  clear s1 f1 n1 k1
  refine wpAnyH_takes HR.out.sel hQ hHeld [14, 15, 16, 17, 18, 19, 20, 21, 22, 23, 24, 25, 26, 27] 0 _ _ HR.out.may1 ?_
  refine wpTake_stepE ⟨some 19, Op.pick (Operand.tmp 8) (Operand.tmp 18) (Operand.const (Value.bool false)), 4, "", #[], none⟩ 19 (.bool true) HR.out.o14 rfl (by rw [hsz]; decide) (wanted_none rfl) (fun z hS => wt1_14 sp bx t i G gc ln lc bp bl nv mv _ z (fun _ => rfl) e8 e18 hS) ?_
  intro a15 ha15 s1 f1 n1 k1
  replace hsz := s1.trans hsz
  replace hdf := f1.trans hdf
  replace e0 := (k1 0 (by decide)).trans e0
  replace e3 := (k1 3 (by decide)).trans e3
  have e19 := n1
  clear s1 f1 n1 k1
  refine wpTake_stepE ⟨some 20, Op.move (Operand.tmp 19), 4, "", #[], none⟩ 20 (.bool true) HR.out.o15 rfl (by rw [hsz]; decide) (wanted_none rfl) (fun z hS => wt1_15 sp bx t i G gc ln lc bp bl nv mv _ z (fun _ => rfl) e19 hS) ?_
  intro a16 ha16 s1 f1 n1 k1
  replace hsz := s1.trans hsz
  replace hdf := f1.trans hdf
  replace e0 := (k1 0 (by decide)).trans e0
  replace e3 := (k1 3 (by decide)).trans e3
  have e20 := n1
  clear s1 f1 n1 k1
  refine wpTake_stepE ⟨some 21, Op.move (Operand.tmp 0), 73, "", #[], some (15, true)⟩ 21 (.pointer (some ⟨sp, 0, none⟩)) HR.out.o16 rfl (by rw [hsz]; decide) (wanted_some rfl (yielded_of HR.out.o15 rfl e20 (by rw [hsz]; decide))) (fun z hS => wt1_16 sp bx t i G gc ln lc bp bl nv mv _ z (fun _ => rfl) e0 hS) ?_
  intro a17 ha17 s1 f1 n1 k1
  replace hsz := s1.trans hsz
  replace hdf := f1.trans hdf
  replace e3 := (k1 3 (by decide)).trans e3
  replace e20 := (k1 20 (by decide)).trans e20
  have e21 := n1
  clear s1 f1 n1 k1
  refine wpTake_stepE ⟨some 22, Op.nilCheck (Operand.tmp 21), 0, "", #[], some (15, true)⟩ 22 (.pointer (some ⟨sp, 0, none⟩)) HR.out.o17 rfl (by rw [hsz]; decide) (wanted_some rfl (yielded_of HR.out.o15 rfl e20 (by rw [hsz]; decide))) (fun z hS => wt1_17 sp bx t i G gc ln lc bp bl nv mv _ z (fun _ => rfl) e21 hS) ?_
  intro a18 ha18 s1 f1 n1 k1
  replace hsz := s1.trans hsz
  replace hdf := f1.trans hdf
  replace e3 := (k1 3 (by decide)).trans e3
  replace e20 := (k1 20 (by decide)).trans e20
  have e22 := n1
  clear s1 f1 n1 k1
  refine wpTake_stepE ⟨some 23, Op.fieldAddr 150 (Operand.tmp 22) 2, 0, "", #[], some (15, true)⟩ 23 (.pointer (some ⟨sp, 2, none⟩)) HR.out.o18 rfl (by rw [hsz]; decide) (wanted_some rfl (yielded_of HR.out.o15 rfl e20 (by rw [hsz]; decide))) (fun z hS => wt1_18 sp bx t i G gc ln lc bp bl nv mv _ z (fun _ => rfl) e22 hS) ?_
  intro a19 ha19 s1 f1 n1 k1
  replace hsz := s1.trans hsz
  replace hdf := f1.trans hdf
  replace e3 := (k1 3 (by decide)).trans e3
  replace e20 := (k1 20 (by decide)).trans e20
  have e23 := n1
  clear s1 f1 n1 k1
  refine wpTake_stepE ⟨some 24, Op.load 27 (Operand.tmp 23), 27, "", #[], some (15, true)⟩ 24 (.slice (some ⟨t, 0, none⟩) G gc) HR.out.o19 rfl (by rw [hsz]; decide) (wanted_some rfl (yielded_of HR.out.o15 rfl e20 (by rw [hsz]; decide))) (fun z hS => wt1_19 sp bx t i G gc ln lc bp bl nv mv _ z (fun _ => rfl) e23 hS) ?_
  intro a20 ha20 s1 f1 n1 k1
  replace hsz := s1.trans hsz
  replace hdf := f1.trans hdf
  replace e3 := (k1 3 (by decide)).trans e3
  replace e20 := (k1 20 (by decide)).trans e20
  have e24 := n1
  clear s1 f1 n1 k1
  refine wpTake_stepE ⟨some 25, Op.fieldAddr 45 (Operand.tmp 3) 6, 0, "", #[], some (15, true)⟩ 25 (.pointer (some ⟨bx, 6, none⟩)) HR.out.o20 rfl (by rw [hsz]; decide) (wanted_some rfl (yielded_of HR.out.o15 rfl e20 (by rw [hsz]; decide))) (fun z hS => wt1_20 sp bx t i G gc ln lc bp bl nv mv _ z (fun _ => rfl) e3 hS) ?_
  intro a21 ha21 s1 f1 n1 k1
  replace hsz := s1.trans hsz
  replace hdf := f1.trans hdf
  replace e20 := (k1 20 (by decide)).trans e20
  replace e24 := (k1 24 (by decide)).trans e24
  have e25 := n1
  clear s1 f1 n1 k1
  refine wpTake_stepE ⟨some 26, Op.load 3 (Operand.tmp 25), 3, "", #[], some (15, true)⟩ 26 (.int .i64 (i : Int)) HR.out.o21 rfl (by rw [hsz]; decide) (wanted_some rfl (yielded_of HR.out.o15 rfl e20 (by rw [hsz]; decide))) (fun z hS => wt1_21 sp bx t i G gc ln lc bp bl nv mv _ z (fun _ => rfl) e25 hS) ?_
  intro a22 ha22 s1 f1 n1 k1
  replace hsz := s1.trans hsz
  replace hdf := f1.trans hdf
  replace e20 := (k1 20 (by decide)).trans e20
  replace e24 := (k1 24 (by decide)).trans e24
  have e26 := n1
  clear s1 f1 n1 k1
  refine wpTake_stepE ⟨some 27, Op.indexAddr 27 (Operand.tmp 24) (Operand.tmp 26), 0, "", #[], some (15, true)⟩ 27 (.pointer (some ⟨t, i, none⟩)) HR.out.o22 rfl (by rw [hsz]; decide) (wanted_some rfl (yielded_of HR.out.o15 rfl e20 (by rw [hsz]; decide))) (fun z hS => wt1_22 sp bx t i G gc ln lc bp bl nv mv _ z (fun _ => rfl) e24 e26 hS) ?_
  intro a23 ha23 s1 f1 n1 k1
  replace hsz := s1.trans hsz
  replace hdf := f1.trans hdf
  replace e20 := (k1 20 (by decide)).trans e20
  have e27 := n1
  clear s1 f1 n1 k1
  refine wpTake_stepE ⟨some 28, Op.load 22 (Operand.tmp 27), 22, "", #[], some (15, true)⟩ 28 (.slice bp ln lc) HR.out.o23 rfl (by rw [hsz]; decide) (wanted_some rfl (yielded_of HR.out.o15 rfl e20 (by rw [hsz]; decide))) (fun z hS => wt1_23 sp bx t i G gc ln lc bp bl nv mv _ z (fun _ => rfl) e27 hS) ?_
  intro a24 ha24 s1 f1 n1 k1
  replace hsz := s1.trans hsz
  replace hdf := f1.trans hdf
  replace e20 := (k1 20 (by decide)).trans e20
  have e28 := n1
  clear s1 f1 n1 k1
  refine wpTake_stepE ⟨some 29, Op.call { callee := Callee.builtin Builtin.len, args := #[Operand.tmp 28], argTypes := #[22] }, 3, "", #[], some (15, true)⟩ 29 (.int .i64 (ln : Int)) HR.out.o24 rfl (by rw [hsz]; decide) (wanted_some rfl (yielded_of HR.out.o15 rfl e20 (by rw [hsz]; decide))) (fun z hS => wt1_24 sp bx t i G gc ln lc bp bl nv mv _ z (fun _ => rfl) e28 hS) ?_
  intro a25 ha25 s1 f1 n1 k1
  replace hsz := s1.trans hsz
  replace hdf := f1.trans hdf
  replace e20 := (k1 20 (by decide)).trans e20
  have e29 := n1
  clear s1 f1 n1 k1
  refine wpTake_stepE ⟨some 30, Op.binOp BinOp.gtr 3 (Operand.tmp 29) (Operand.const (Value.int IntKind.i64 0)) 3, 4, "", #[], some (15, true)⟩ 30 (.bool true) HR.out.o25 rfl (by rw [hsz]; decide) (wanted_some rfl (yielded_of HR.out.o15 rfl e20 (by rw [hsz]; decide))) (fun z hS => wt1_25 sp bx t i G gc ln lc bp bl nv mv _ z (fun _ => rfl) e29 hS) ?_
  intro a26 ha26 s1 f1 n1 k1
  replace hsz := s1.trans hsz
  replace hdf := f1.trans hdf
  replace e20 := (k1 20 (by decide)).trans e20
  have e30 := n1
  clear s1 f1 n1 k1
  refine wpTake_stepE ⟨some 31, Op.pick (Operand.tmp 20) (Operand.tmp 30) (Operand.const (Value.bool false)), 4, "", #[], none⟩ 31 (.bool true) HR.out.o26 rfl (by rw [hsz]; decide) (wanted_none rfl) (fun z hS => wt1_26 sp bx t i G gc ln lc bp bl nv mv _ z (fun _ => rfl) e20 e30 hS) ?_
  intro a27 ha27 s1 f1 n1 k1
  replace hsz := s1.trans hsz
  replace hdf := f1.trans hdf
  have e31 := n1
  clear s1 f1 n1 k1
  refine wpTake_stepE ⟨some 4, Op.assign (Operand.tmp 31), 4, "", #[], none⟩ 4 (.bool true) HR.out.o27 rfl (by rw [hsz]; decide) (wanted_none rfl) (fun z hS => wt1_27 sp bx t i G gc ln lc bp bl nv mv _ z (fun _ => rfl) e31 hS) ?_
  intro a28 ha28 s1 f1 n1 k1
  replace hsz := s1.trans hsz
  replace hdf := f1.trans hdf
  clear s1 f1 n1 k1
  refine wpTake_nil ?_
  refine wpAnyH_done HR.out.fin ?_ _
  rw [ha28, ha27, ha26, ha25, ha24, ha23, ha22, ha21, ha20, ha19, ha18, ha17, ha16, ha15, ha14, ha13, ha12, ha11, ha10, ha9, ha8, ha7, ha6, ha5, ha4, ha3, ha2, ha1]
  exact hK _ hT
-- wt1: ⟨by kernel_rfl, by kernel_rfl, by kernel_rfl, by kernel_rfl, by kernel_rfl, by kernel_rfl, by kernel_rfl, by kernel_rfl, by kernel_rfl, by kernel_rfl, by kernel_rfl, by kernel_rfl, by kernel_rfl, by kernel_rfl, by kernel_rfl, by kernel_rfl, by kernel_rfl, by kernel_rfl, by kernel_rfl, by kernel_rfl, by kernel_rfl, by kernel_rfl, by kernel_rfl, by kernel_rfl, by kernel_rfl, by kernel_rfl, by kernel_rfl, by kernel_rfl, by kernel_rfl, by kernel_rfl, by kernel_rfl, by kernel_rfl, by kernel_rfl, by kernel_rfl⟩

end Go.Proofs.YtmncocmeafcpfaaDoor

/- Noughts appended onto bytes of one's own: append(s, make([]byte, n)...). -/
namespace Go.Proofs.YtmncocmeafcpfaaDoor
set_option linter.unusedVariables false
set_option linter.unusedSimpArgs false
open Go.RowKit Go.Deep

/-- so many noughts -/
def nou (m : Nat) : List Nat := List.replicate m 0
theorem nou_len (m : Nat) : (nou m).length = m := by simp [nou]
def nouS (m : Nat) : ByteArray := ⟨(List.replicate m (0 : UInt8)).toArray⟩
theorem nouS_size (m : Nat) : (nouS m).size = m := by simp [nouS, ByteArray.size]
theorem nouS_cells (m : Nat) : byteCells (nouS m) = vl (nou m) := by
  simp [byteCells, nouS, vl, nou]
theorem zeroCells_nou (m : Nat) : Builtin.zeroCells #[Value.int .u8 0] m = (vl (nou m)).toArray := by
  apply Array.ext
  · simp [Builtin.zeroCells, vl, nou]
  · intro i h1 h2
    simp [Builtin.zeroCells, vl, nou]
    rw [Nat.mod_one]
    rfl

set_option maxHeartbeats 800000 in
theorem append_nou_eq (w : World) (ty : TypeId) (p : Option Addr) (n c m : Nat) (hm : m ≤ 1000) (hn : n ≤ 1000) (hc : n ≤ c) :
    (Builtin.append_ #[22, 3] ty #[.slice p n c, .int .i64 m]).run Tryd.prog w = (Builtin.append_ #[22, 9] ty #[.slice p n c, .string (nouS m)]).run Tryd.prog w := by
  obtain ⟨ti, hi0, hz0, hz1, hz2⟩ := info_parts info5
  have hw : IntKind.i64.wrap (m : Int) = (m : Int) := by unfold IntKind.wrap; simp [IntKind.bits, IntKind.signed]; omega
  have h1 : ¬ ((m : Int) < 0) := by omega
  have h2 : ¬ (281474976710656 < (m : Int)) := by omega
  have h3 : ¬ (9223372036854775807 < (n : Int) + (m : Int)) := by omega
  have hf : ∀ w' : World, (Builtin.firstCells 1 m (.string (nouS m))).run Tryd.prog w' = .ok (vl (nou m)).toArray w' := fun w' => by
    have := firstCells_string (P := Tryd.prog) (nouS m) w'
    rw [nouS_size, nouS_cells] at this
    exact this
  have hzc := zeroCells_nou m
  have hai : ∀ w' : World, (asInt (.int .i64 (m : Int))).run Tryd.prog w' = .ok (m : Int) w' := fun _ => rfl
  have hai0 : ∀ w' : World, (asInt (.int .i64 0)).run Tryd.prog w' = .ok (0 : Int) w' := fun _ => rfl
  have hw0 : IntKind.i64.wrap 0 = 0 := rfl
  have hmx : max (m : Int) 0 = (m : Int) := by omega
  by_cases h0 : m = 0
  · subst h0
    simp [Builtin.append_, run_underlying Tryd.underlying22, run_underlying Tryd.underlying3, run_underlying Tryd.underlying9, sizeOf, typeInfo, hi0, hz0, hz1, hz2, Builtin.lenOf, nouS_size, hf, hc, hai0, hw0, nou, vl]
  · by_cases hr : n + m ≤ c
    · simp [Builtin.append_, run_underlying Tryd.underlying22, run_underlying Tryd.underlying3, run_underlying Tryd.underlying9, sizeOf, typeInfo, zeroValue, hr, hi0, hz0, hz1, hz2, hw, h1, h2, h3, Builtin.lenOf, nouS_size, hf, hai, h0, hzc, hmx, Value.cells]
    have h5 : Builtin.nextslicecap (n + m) c * 1 ≤ 281474976710656 := growslice_fits (by omega) (by omega)
    rw [Nat.mul_one] at h5
    have h6 : ¬ (281474976710656 < Builtin.nextslicecap (n + m) c) := by omega
    simp [Builtin.append_, run_underlying Tryd.underlying22, run_underlying Tryd.underlying3, run_underlying Tryd.underlying9, sizeOf, typeInfo, zeroValue, hr, h6, hi0, hz0, hz1, hz2, hw, h1, h2, h3, Builtin.lenOf, nouS_size, hf, hai, h0, hzc, hmx, Value.cells]

theorem run_append_nou (w : World) (ty : TypeId) (base : Nat) (v : Value) (xs : List Nat) (m : Nat) (hm : m ≤ 1000) (hx : xs.length ≤ 1000) (hown : Ow w base v xs) (hb : base ≤ w.heap.size) :
    ∃ v' w', (Builtin.append_ #[22, 3] ty #[v, .int .i64 m]).run Tryd.prog w = .ok v' w' ∧ Ow w' base v' (xs ++ nou m) ∧ w.grownBy w' v.ownBlock ∧ (v'.ownBlock = v.ownBlock ∨ v'.ownBlock = some w.heap.size) := by
  obtain ⟨ti, hi0, hz0, hz1, hz2⟩ := info_parts info5
  obtain ⟨v', w', hr, ho, hg, hk⟩ := run_append_own_src (P := Tryd.prog) w base 22 9 ty 5 ti (.int .u8 0) 1 1 Tryd.underlying22 hi0 hz0 hz1 hz2 rfl (by decide) v xs.length (vl xs) hown (.string (nouS m)) m (vl (nou m)) (by
    have := Src.ofString (P := Tryd.prog) w Tryd.underlying9 (nouS m)
    rw [nouS_size, nouS_cells] at this
    exact this) (by unfold maxLen; omega) (by omega) hb
  refine ⟨v', w', ?_, ?_, hg, hk⟩
  · have hv : ∃ p c, v = .slice p xs.length c ∧ xs.length ≤ c := by
      rcases hown.2 with ⟨e1, e2⟩ | ⟨g, cap, cur, rfl, _, _, hnc, _⟩
      · exact ⟨none, 0, by rw [e2, e1], by omega⟩
      · exact ⟨_, cap, rfl, hnc⟩
    obtain ⟨p, c, rfl, hc⟩ := hv
    rw [append_nou_eq w ty p xs.length c m hm hx hc]
    exact hr
  · show w'.ownsRow base 5 1 v' (xs ++ nou m).length (vl (xs ++ nou m))
    rw [List.length_append, nou_len, vl_append]
    exact ho
theorem wpList_append_nou {ops : Array Oper} {rest : List Oper} {o : Oper} {a : Act} {Q : Exit → Act → World → Prop} (w : World) (hgd : o.guard = none) (s y : Operand)
    (ho : o.op = .call { callee := .builtin .append, args := #[s, y], argTypes := #[22, 3] })
    (base : Nat) (v : Value) (xs : List Nat) (m : Nat) (hs : a.eval s = v) (hy : a.eval y = .int .i64 (m : Int)) (hm : m ≤ 1000) (hx : xs.length ≤ 1000) (hown : Ow w base v xs) (hb : base ≤ w.heap.size)
    (h : ∀ v' w', Ow w' base v' (xs ++ nou m) → Kp (fun b => v.ownBlock = some b) w w' → (v'.ownBlock = v.ownBlock ∨ v'.ownBlock = some w.heap.size) → wpList Tryd.prog ops Q rest (a.put o.dst v') w') :
    wpList Tryd.prog ops Q (o :: rest) a w := by
  refine wpList_plain hgd fun K hK => ?_
  obtain ⟨v', w', hr, h2, h3, h4⟩ := run_append_nou w o.type base v xs m hm hx hown hb
  unfold Oper.wp execOp
  simp only [ho, resolve, invoke, builtin, Sem.run_bind, Sem.run_pure, Result.andThen_ok, List.map_toArray, List.map_cons, List.map_nil, hs, hy, hr]
  exact hK _ _ (h v' w' h2 (grownBy_kp h3) h4)
end Go.Proofs.YtmncocmeafcpfaaDoor

/- Movers in memory; the calls of one whose blob has one shard. -/
namespace Go.Proofs.YtmncocmeafcpfaaDoor
set_option linter.unusedVariables false
set_option linter.unusedSimpArgs false
open Go.RowKit Go.Deep

abbrev code10 : Value := .agg #[.int .i64 1, .int .i64 0]

set_option maxRecDepth 100000 in
set_option maxHeartbeats 800000 in
theorem can10 (w : World) : Calls Tryd.prog 112 #[code10] w fun e w' => e = .returned (.bool true) ∧ Kp (fun _ => False) w w' := by
  go_enter Tryd.func112, Tryd.ntmps112
  go_wp2
  go_ret
  exact ⟨rfl, (Kp.refl _ _).alloc _⟩

set_option maxRecDepth 100000 in
set_option maxHeartbeats 800000 in
theorem length10 (w : World) : Calls Tryd.prog 95 #[code10, .int .i64 5] w fun e w' => e = .returned (.int .i64 8) ∧ Kp (fun _ => False) w w' := by
  have H : Hid (∀ z, Calls Tryd.prog 112 #[code10] z _) := fun z => can10 z
  have hl : Lv (w.alloc (.cells #[.int .i64 1, .int .i64 0] 26)) w.heap.size [.int .i64 1, .int .i64 0] := Lv.new w _ _
  have k0 : Kp (fun _ => False) w (w.alloc (.cells #[.int .i64 1, .int .i64 0] 26)) := (Kp.refl _ _).alloc _
  have c0 := hl.cell (j := 0) rfl
  have c1 := hl.cell (j := 1) rfl
  go_enter Tryd.func95, Tryd.ntmps95
  go_wp2_with (first
    | (at_builtin; fail)
    | (go_at_call 112; refine (H.out _).mono ?_; rintro e w1 ⟨rfl, k1⟩; have d0 := k1.cellv c0 id; have d1 := k1.cellv c1 id))
  go_ret
  exact ⟨rfl, k0.trans k1 (fun _ _ e => e)⟩

set_option maxRecDepth 100000 in
set_option maxHeartbeats 800000 in
theorem isNode_ok (n : Int) (w : World) : Calls Tryd.prog 48 #[.int .i64 n] w fun e w' => e = .returned (.bool (decide (0 ≤ n) && decide (n < 16))) ∧ w' = w := by
  by_cases h : 0 ≤ n
  · go_enter Tryd.func48, Tryd.ntmps48
    go_wp2
    go_ret
    exact ⟨by simp [h], rfl⟩
  · go_enter Tryd.func48, Tryd.ntmps48
    go_wp2
    go_ret
    exact ⟨by rw [decide_eq_false (show ¬ 0 ≤ n by omega)]; rfl, rfl⟩

set_option maxRecDepth 100000 in
set_option maxHeartbeats 800000 in
theorem fit10 (b o c : Nat) (w : World) (h3 : w.cell? ⟨b, o, none⟩ = some (.int .i64 3)) (hc : 1 ≤ c) : Calls Tryd.prog 57 #[code10, .int .i64 5, .slice (some ⟨b, o, none⟩) 1 c] w fun e w' => e = .returned (.bool true) ∧ Kp (fun _ => False) w w' := by
  have H1 : Hid (∀ z, Calls Tryd.prog 95 #[code10, .int .i64 5] z _) := fun z => length10 z
  have H2 : Hid (∀ z, Calls Tryd.prog 48 #[.int .i64 3] z _) := fun z => isNode_ok 3 z
  have hl : Lv (w.alloc (.cells #[.int .i64 1, .int .i64 0] 26)) w.heap.size [.int .i64 1, .int .i64 0] := Lv.new w _ _
  have k0 : Kp (fun _ => False) w (w.alloc (.cells #[.int .i64 1, .int .i64 0] 26)) := (Kp.refl _ _).alloc _
  have c0 := hl.cell (j := 0) rfl
  have c1 := hl.cell (j := 1) rfl
  have HC : Hid (1 ≤ c) := hc
  go_enter Tryd.func57, Tryd.ntmps57
  go_wp2
  go_step3
  go_wp2_with (go_at_call 95; refine (H1.out _).mono ?_; rintro e w1 ⟨rfl, k1⟩; have d0 := k1.cellv c0 id; have d1 := k1.cellv c1 id; have d3 := (k0.trans k1 (fun _ _ e => e)).cellv h3 id)
  go_step3
  go_wp2
  go_loopg [7, 28] 1 (fun gk f i wr => ∃ (k : Nat), k ≤ 1 ∧ gk = 1 - k ∧ f = .bool true ∧ i = .int .i64 k ∧ wr = w1)
  case atStart => exact ⟨0, by omega, rfl, rfl, rfl, rfl⟩
  case round =>
    obtain ⟨k, hk, rfl, rfl, rfl, rfl⟩ := hrel
    by_cases h : k = 0
    · subst h
      go_wp2_with (go_at_call 48; refine (H2.out _).mono ?_; rintro e w2 ⟨rfl, rfl⟩)
      go_loopg [7, 40] 0 (fun gk f i wr => gk = 0 ∧ f = .bool true ∧ i = .int .i64 0 ∧ wr = w2)
      case atStart => exact ⟨rfl, rfl, rfl, rfl⟩
      case round =>
        obtain ⟨rfl, rfl, rfl, rfl⟩ := hrel
        go_wp2
        go_roundg 0
        case rel => exact ⟨1, by omega, rfl, rfl, by go_num, rfl⟩
        case measure => omega
    · obtain rfl : k = 1 := by omega
      go_wp2
      rw [Exit.noGoto_ret]
      go_ret
      exact ⟨rfl, k0.trans k1 (fun _ _ e => e)⟩

/-- a blob, but its nodes -/
structure Bs0 where
  id : Int
  size : Int
  sum : Int
  k : Int
  m : Int
abbrev blobA (c : Bs0) (nv : Value) : Array Value := #[.int .i64 c.id, .int .i64 c.size, .int .u32 c.sum, .int .i64 c.k, .int .i64 c.m, nv]
abbrev zeroB : Array Value := #[.int .i64 0, .int .i64 0, .int .u32 0, .int .i64 0, .int .i64 0, .slice none 0 0]
theorem blob_one (c : Bs0) {v : Value} (hv : v.oneCell' = true) : (blobA c v).toList.toArray.all (·.oneCell') = true := all_oneCell_toArray (fun x hx => by
  simp only [List.mem_cons, List.not_mem_nil, or_false] at hx
  rcases hx with rfl | rfl | rfl | rfl | rfl | rfl <;> first | rfl | exact hv)
theorem szBlob : (Tryd.prog.info? 33).map (·.size) = some 6 := by kernel_rfl
theorem dsBlob : ∃ d, Tryd.prog.underlying 33 = some d ∧ d.isRow = true := ⟨_, Tryd.underlying33, rfl⟩

set_option maxRecDepth 100000 in
set_option maxHeartbeats 1600000 in
theorem cloneBlob_ok (c : Bs0) (Z : Nat → Prop) (p : Option Addr) (cap : Nat) (zs : List Int) (w : World) (h : Fl w Z p (zs.map encI)) (hn : Hid (zs.length * 8 ≤ 140737488355328)) :
    Calls Tryd.prog 89 #[.agg (blobA c (.slice p zs.length cap))] w fun e w' => ∃ q cq, e = .returned (.agg (blobA c (.slice q zs.length cq))) ∧ Kp (fun _ => False) w w' ∧ Fl w' (fun b => w.heap.size ≤ b ∧ b < w'.heap.size) q (zs.map encI) := by
  have H : Hid (∀ u, Kp (fun _ => False) w u → Calls _ _ _ u _) := fun u k => clone_ints Z p cap zs u (h.keep k (fun _ _ => id)) hn
  obtain ⟨n, hnn⟩ : ∃ n, n = zs.length := ⟨_, rfl⟩
  have HNN : Hid (n = zs.length) := hnn
  rw [← hnn] at H ⊢
  clear h hn hnn
  go_enter Tryd.func89, Tryd.ntmps89
  go_wp2_with fail
  obtain ⟨u, hu⟩ : ∃ x, x = (w.alloc (.cells (blobA c (.slice p n cap)) 33)).alloc (.cells zeroB 33) := ⟨_, rfl⟩
  have z1 : (w.alloc (.cells (blobA c (.slice p n cap)) 33)).heap.size = w.heap.size + 1 := by simp
  have HL1 : Hid (Lv u w.heap.size (blobA c (.slice p n cap)).toList) := by rw [hu]; exact (Lv.new w _ _).keep ((Kp.refl (fun _ => False) _).alloc _) id
  have HL2 : Hid (Lv u (w.heap.size + 1) zeroB.toList) := by rw [hu, ← z1]; exact Lv.new _ _ _
  have k0 : Kp (fun _ => False) w u := by rw [hu]; exact ((Kp.refl _ _).alloc _).alloc _
  have e0 : (w.alloc (.cells (blobA c (.slice p n cap)) 33)).alloc (.cells zeroB 33) = u := hu.symm
  rw [show ((w.alloc (.cells (blobA c (.slice p n cap)) 33)).alloc (.cells #[.int .i64 0, .int .i64 0, .int .u32 0, .int .i64 0, .int .i64 0, .slice none 0 0] 33)) = u from e0]
  clear e0 hu z1
  obtain ⟨g, hg⟩ : ∃ g, g = w.heap.size := ⟨_, rfl⟩
  obtain ⟨r, hr⟩ : ∃ r, r = w.heap.size + 1 := ⟨_, rfl⟩
  rw [← hg] at HL1
  rw [← hr] at HL2
  rw [← hr, ← hg]
  have HGR : Hid (w.heap.size ≤ g ∧ w.heap.size ≤ r ∧ g ≠ r ∧ g < u.heap.size ∧ r < u.heap.size) := by
    show _ ∧ _
    have h1 := HL1.out.lt (by simp)
    have h2 := HL2.out.lt (by decide)
    omega
  clear hg hr
  refine (H.out u k0).mono ?_
  rintro e w1 ⟨v, rfl, k1, hown⟩
  obtain ⟨q, cq, rfl, hfl⟩ := own_fl hown
  have HFl : Hid (Fl w1 (fun b => u.heap.size ≤ b ∧ b < w1.heap.size) q (zs.map encI)) := hfl
  have HL1a : Hid (Lv w1 g (blobA c (.slice p n cap)).toList) := HL1.out.keep k1 id
  have HL2a : Hid (Lv w1 r zeroB.toList) := HL2.out.keep k1 id
  have c5 : w1.cell? ⟨g, 5, none⟩ = some (.slice p n cap) := HL1a.out.cell (j := 5) rfl
  have f5 : w1.frozen? ⟨g, 5, none⟩ = false := HL1a.out.fz (show 5 < 6 by omega)
  have HF : Hid (Lv (w1.setCell ⟨g, 5, none⟩ (.slice q n cq)) g (blobA c (.slice q n cq)).toList ∧ Lv (w1.setCell ⟨g, 5, none⟩ (.slice q n cq)) r zeroB.toList ∧ Kp (fun b => b = g) w1 (w1.setCell ⟨g, 5, none⟩ (.slice q n cq))) := by
    have ks : Kp (fun b => b = g) w1 (w1.setCell ⟨g, 5, none⟩ (.slice q n cq)) := (Kp.refl (fun b => b = g) w1).setCell (fun _ => rfl) _
    exact ⟨HL1a.out.set1 5 _ (show 5 < 6 by omega), HL2a.out.keep ks (fun e => HGR.out.2.2.1 e.symm), ks⟩
  have HO : Hid ((blobA c (.slice q n cq)).toList.toArray.all (·.oneCell') = true) := blob_one _ rfl
  clear HL1 HL2 H hown hfl
  go_wp2_with (first
    | (refine wpList_load_all rfl 33 _ rfl 6 g (blobA c (.slice q n cq)).toList rfl HF.out.1 dsBlob szBlob rfl ?_)
    | (refine wpList_store_all rfl 33 _ _ rfl 6 r zeroB.toList (blobA c (.slice q n cq)).toList rfl rfl HF.out.2.1 szBlob rfl rfl HO.out ?_; intro w3 hl3 k3))
  refine bodyPost_ret (res_cell Tryd.results89 _ _ r _ rfl (hl3.load dsBlob szBlob rfl)) rfl ?_
  have kk : Kp (fun b => b = g ∨ b = r) w1 w3 := (HF.out.2.2.mono (fun _ _ e => Or.inl e)).trans k3 (fun _ _ e => Or.inr e)
  refine ⟨q, ⟨cq, rfl⟩, (k0.trans k1 (fun _ _ e => e)).trans kk (fun b hb e => by have := HGR.out; omega), ?_⟩
  refine (HFl.out.keep kk (fun b hb e => by have := HGR.out; omega)).mono (fun b hb => ⟨Nat.le_trans k0.size hb.1, Nat.lt_of_lt_of_le hb.2 kk.size⟩)
theorem infoBs : (Tryd.prog.info? 22).map (fun i => (i.zero, i.size, i.bytes)) = some (some (.slice none 0 0), 1, 24) := by kernel_rfl
theorem made1 : madeCells #[Value.slice none 0 0] 1 = #[Value.slice none 0 0] := by simp [madeCells]; exact ⟨0, rfl, rfl⟩
theorem make1 (w : World) : (Instr.makeSlice 27 (.int .i64 1) (.int .i64 1)).run Tryd.prog w = .ok (.slice (some ⟨w.heap.size, 0, none⟩) 1 1) (w.alloc (.cells #[.slice none 0 0] 22)) := by
  rw [← made1]
  exact run_make_row' (P := Tryd.prog) 27 22 (.slice none 0 0) 24 Tryd.underlying27 infoBs rfl .i64 .i64 1 (by omega) (by omega) w

/-- what a fetch of a blob has -/
abbrev fetA (c : Bs0) (nv cv : Value) (k : Int) : List Value := [.int .i64 c.id, .int .i64 c.size, .int .u32 c.sum, .int .i64 c.k, .int .i64 c.m, nv, cv, .int .i64 k]
abbrev b95 : Bs0 := ⟨9, 5, 0, 1, 0⟩

set_option maxRecDepth 100000 in
set_option maxHeartbeats 1600000 in
theorem newFetch10 (b o c : Nat) (w : World) (h3 : w.cell? ⟨b, o, none⟩ = some (.int .i64 3)) (hc : 1 ≤ c) : Calls Tryd.prog 47 #[.agg (blobA b95 (.slice (some ⟨b, o, none⟩) 1 c))] w fun e w' => ∃ f q oq cq g, e = .returned (.tuple #[.pointer (some ⟨f, 0, none⟩), .bool true]) ∧ Kp (fun _ => False) w w' ∧ w.heap.size ≤ f ∧ w.heap.size ≤ q ∧ w.heap.size ≤ g ∧ f ≠ g ∧ f ≠ q ∧ q ≠ g ∧ Lv w' f (fetA b95 (.slice (some ⟨q, oq, none⟩) 1 cq) (.slice (some ⟨g, 0, none⟩) 1 1) 0) ∧ Lv w' g [.slice none 0 0] ∧ w'.cell? ⟨q, oq, none⟩ = some (.int .i64 3) := by
  have H1 : Hid (∀ z, Kp (fun _ => False) w z → Calls Tryd.prog 57 #[code10, .int .i64 5, .slice (some ⟨b, o, none⟩) 1 c] z _) := fun z k => fit10 b o c z (k.cellv h3 id) hc
  have hf : Fl w (fun _ => True) (some ⟨b, o, none⟩) ([(3 : Int)].map encI) := fun j u hu => by
    match j with
    | 0 => simp at hu; subst hu; exact ⟨b, o, rfl, trivial, h3⟩
    | j + 1 => simp at hu
  have H2 : Hid (∀ z, Kp (fun _ => False) w z → Calls Tryd.prog 89 #[.agg (blobA b95 (.slice (some ⟨b, o, none⟩) 1 c))] z fun e w' => ∃ q cq, e = .returned (.agg (blobA b95 (.slice q 1 cq))) ∧ Kp (fun _ => False) z w' ∧ Fl w' (fun b => z.heap.size ≤ b ∧ b < w'.heap.size) q ([(3 : Int)].map encI)) := fun z k => cloneBlob_ok b95 _ _ c [3] z (hf.keep k (fun _ _ => id)) (by show _ ≤ _; decide)
  have hl : Lv (w.alloc (.cells (blobA b95 (.slice (some ⟨b, o, none⟩) 1 c)) 33)) w.heap.size (blobA b95 (.slice (some ⟨b, o, none⟩) 1 c)).toList := Lv.new w _ _
  have k0 : Kp (fun _ => False) w (w.alloc (.cells (blobA b95 (.slice (some ⟨b, o, none⟩) 1 c)) 33)) := (Kp.refl _ _).alloc _
  have c0 := hl.cell (j := 0) rfl
  have c1 := hl.cell (j := 1) rfl
  have c2 := hl.cell (j := 2) rfl
  have c3 := hl.cell (j := 3) rfl
  have c4 := hl.cell (j := 4) rfl
  have c5 := hl.cell (j := 5) rfl
  clear hf hl
  go_enter Tryd.func47, Tryd.ntmps47
  go_wp2_with (go_at_call 57; refine (H1.out _ k0).mono ?_; rintro e w1 ⟨rfl, k1⟩; have d0 := k1.cellv c0 id; have d1 := k1.cellv c1 id; have d2 := k1.cellv c2 id; have d3 := k1.cellv c3 id; have d4 := k1.cellv c4 id; have d5 := k1.cellv c5 id)
  have k01 := k0.trans k1 (fun _ _ e => e)
  have HKW : Hid (Kp (fun _ => False) w w1) := k01
  have hmk := make1
  have H3 : Hid (∀ z, Kp (fun _ => False) w1 z → Calls Tryd.prog 89 #[.agg (blobA b95 (.slice (some ⟨b, o, none⟩) 1 c))] z fun e w' => ∃ q oq cq, e = .returned (.agg (blobA b95 (.slice (some ⟨q, oq, none⟩) 1 cq))) ∧ Kp (fun _ => False) z w' ∧ z.heap.size ≤ q ∧ q < w'.heap.size ∧ w'.cell? ⟨q, oq, none⟩ = some (.int .i64 3) ∧ w'.cell? ⟨w.heap.size, 5, none⟩ = some (.slice (some ⟨b, o, none⟩) 1 c)) := fun z kz => by
    refine (H2.out z (k01.trans kz (fun _ _ e => e))).mono ?_
    rintro e w' ⟨q, cq, rfl, k2, f2⟩
    obtain ⟨q0, oq, rfl, hz, hc3⟩ := f2 0 _ rfl
    exact ⟨q0, oq, cq, rfl, k2, hz.1, hz.2, hc3, k2.cellv (kz.cellv d5 id) id⟩
  clear H1 H2
  have k1d := (Kp.refl (fun _ => False) w1).drew
  have k1e := ((Kp.refl (fun _ => False) w1).alloc (.cells #[.slice none 0 0] 22)).drew
  have k1f := (Kp.refl (fun _ => False) w1).alloc (.cells #[.slice none 0 0] 22)
  have b0 := k1f.cellv d0 id
  have b1 := k1f.cellv d1 id
  have b2 := k1f.cellv d2 id
  have b3 := k1f.cellv d3 id
  have b4 := k1f.cellv d4 id
  have b5 := k1f.cellv d5 id
  clear k1f
  go_region_with (go_at_call 89; refine (H3.out _ (by first | exact k1d | exact k1e)).mono ?_; rintro e w2 ⟨q, oq, cq, rfl, k2, hq, hq2, f2, e5⟩)
  all_goals go_wp2
  all_goals go_ret2
  all_goals clear b0 b1 b2 b3 b4 b5 d0 d1 d2 d3 d4 d5 c0 c1 c2 c3 c4 c5 e5
  all_goals have s1 := HKW.out.size
  all_goals have s2 := k2.size
  all_goals have q1 := hq
  all_goals simp only [World.size_alloc, World.size_drew] at s2 q1
  all_goals first
    | (refine ⟨_, q, oq, cq, _, rfl, (((HKW.out.drew).trans k2 (fun _ _ e => e)).alloc _).alloc _, ?_, ?_, ?_, ?_, ?_, ?_, (by have hh := Lv.new (w2.alloc (.cells #[.slice none 0 0] 22)) (fetA b95 (.slice (some ⟨q, oq, none⟩) 1 cq) (.slice (some ⟨w2.heap.size, 0, none⟩) 1 1) 0).toArray 143; rw [World.size_alloc] at hh; exact hh), (Lv.new _ _ _).keep ((Kp.refl (fun _ => False) _).alloc _) id, (((Kp.refl (fun _ => False) w2).alloc _).alloc _).cellv f2 id⟩ <;> omega)
    | (refine ⟨_, q, oq, cq, _, rfl, (((HKW.out.alloc _).drew).trans k2 (fun _ _ e => e)).alloc _, ?_, ?_, ?_, ?_, ?_, ?_, Lv.new _ _ _, (((Lv.new w1 #[.slice none 0 0] 22).keep ((Kp.refl (fun _ => False) _).drew) id).keep k2 id).keep ((Kp.refl (fun _ => False) _).alloc _) id, ((Kp.refl (fun _ => False) w2).alloc _).cellv f2 id⟩ <;> omega)
end Go.Proofs.YtmncocmeafcpfaaDoor

/- Calls of clients in memory; a delete, from its beginning to its end. -/
namespace Go.Proofs.YtmncocmeafcpfaaDoor
set_option linter.unusedVariables false
set_option linter.unusedSimpArgs false
open Go.RowKit Go.Deep

/-- a call, cell by cell -/
abbrev callA (self aid now : Int) (c : Cs0) (nv : Value) (dn : Bool) (wh st ft : Value) : List Value :=
  [.int .i64 self, .int .i64 aid, .int .i64 now, .int .i64 c.id, .int .i64 c.kind, .string c.key, .int .i64 c.blob, .int .i64 c.other, .int .i64 c.index, .int .i64 c.node, .int .i64 c.size, .int .u32 c.sum, .int .i64 c.k, .int .i64 c.m, nv, .bool dn, wh, st, ft]
theorem szCall : (Tryd.prog.info? 106).map (·.size) = some 19 := by kernel_rfl

set_option maxRecDepth 100000 in
set_option maxHeartbeats 400000 in
theorem cmade (b : Nat) (i : Int) (w : World) (hc : w.cell? ⟨b, 3, none⟩ = some (.int .i64 i)) (hi : 0 < i) : Calls Tryd.prog 71 #[.pointer (some ⟨b, 0, none⟩)] w fun e w' => e = .returned (.bool true) ∧ w' = w := by
  go_enter Tryd.func71, Tryd.ntmps71
  go_wp2
  go_ret
  exact ⟨by simp [hi], rfl⟩

set_option maxRecDepth 100000 in
set_option maxHeartbeats 400000 in
theorem copen (b : Nat) (i : Int) (dn : Bool) (w : World) (hc : w.cell? ⟨b, 3, none⟩ = some (.int .i64 i)) (hi : 0 < i) (hd : w.cell? ⟨b, 15, none⟩ = some (.bool dn)) : Calls Tryd.prog 75 #[.pointer (some ⟨b, 0, none⟩)] w fun e w' => e = .returned (.bool (!dn)) ∧ w' = w := by
  have H : Hid (Calls _ _ _ w _) := cmade b i w hc hi
  clear hc hi
  go_enter Tryd.func75, Tryd.ntmps75
  go_wp2_with (go_at_call 71; refine H.out.mono ?_; rintro e w1 ⟨rfl, hw1⟩; subst hw1)
  go_ret
  exact ⟨rfl, rfl⟩

set_option maxRecDepth 100000 in
set_option maxHeartbeats 400000 in
theorem cdone (b : Nat) (i : Int) (dn : Bool) (w : World) (hc : w.cell? ⟨b, 3, none⟩ = some (.int .i64 i)) (hi : 0 < i) (hd : w.cell? ⟨b, 15, none⟩ = some (.bool dn)) : Calls Tryd.prog 40 #[.pointer (some ⟨b, 0, none⟩)] w fun e w' => e = .returned (.bool dn) ∧ w' = w := by
  have H : Hid (Calls _ _ _ w _) := cmade b i w hc hi
  clear hc hi
  go_enter Tryd.func40, Tryd.ntmps40
  go_wp2_with (go_at_call 71; refine H.out.mono ?_; rintro e w1 ⟨rfl, hw1⟩; subst hw1)
  go_ret
  exact ⟨rfl, rfl⟩

set_option maxRecDepth 100000 in
set_option maxHeartbeats 400000 in
theorem placed_no (b o : Nat) (w : World) (hc : w.cell? ⟨b, o + 1, none⟩ = some (.pointer none)) : Calls Tryd.prog 72 #[.pointer (some ⟨b, o, none⟩)] w fun e w' => e = .returned (.bool false) ∧ w' = w := by
  go_enter Tryd.func72, Tryd.ntmps72
  go_wp2
  go_ret
  exact ⟨rfl, rfl⟩
set_option maxRecDepth 100000 in
set_option maxHeartbeats 400000 in
theorem placed_yes (b o p : Nat) (w : World) (hc : w.cell? ⟨b, o + 1, none⟩ = some (.pointer (some ⟨p, 0, none⟩))) : Calls Tryd.prog 72 #[.pointer (some ⟨b, o, none⟩)] w fun e w' => e = .returned (.bool true) ∧ w' = w := by
  go_enter Tryd.func72, Tryd.ntmps72
  go_wp2
  go_ret
  exact ⟨rfl, rfl⟩
set_option maxRecDepth 100000 in
set_option maxHeartbeats 400000 in
theorem known_no (b o : Nat) (w : World) (hc : w.cell? ⟨b, o, none⟩ = some (.pointer none)) : Calls Tryd.prog 77 #[.pointer (some ⟨b, o, none⟩)] w fun e w' => e = .returned (.bool false) ∧ w' = w := by
  go_enter Tryd.func77, Tryd.ntmps77
  go_wp2
  go_ret
  exact ⟨rfl, rfl⟩

set_option maxRecDepth 100000 in
set_option maxHeartbeats 400000 in
theorem slot_done (b : Nat) (i : Int) (w : World) (hc : w.cell? ⟨b, 3, none⟩ = some (.int .i64 i)) (hi : 0 < i) (hd : w.cell? ⟨b, 15, none⟩ = some (.bool true)) : Calls Tryd.prog 79 #[.pointer (some ⟨b, 0, none⟩)] w fun e w' => e = .returned (.bool false) ∧ w' = w := by
  have H : Hid (Calls Tryd.prog 75 #[.pointer (some ⟨b, 0, none⟩)] w fun e w' => e = .returned (.bool false) ∧ w' = w) := copen b i true w hc hi hd
  clear hc hi hd
  go_enter Tryd.func79, Tryd.ntmps79
  go_wp2_with (go_at_call 75; refine H.out.mono ?_; rintro e w1 ⟨rfl, hw1⟩; subst hw1)
  go_ret
  exact ⟨rfl, rfl⟩

set_option maxRecDepth 100000 in
set_option maxHeartbeats 400000 in
theorem slot_yes (b : Nat) (i k : Int) (w : World) (hc : w.cell? ⟨b, 3, none⟩ = some (.int .i64 i)) (hi : 0 < i) (hd : w.cell? ⟨b, 15, none⟩ = some (.bool false)) (hf : w.cell? ⟨b, 18, none⟩ = some (.pointer none)) (hk : w.cell? ⟨b, 4, none⟩ = some (.int .i64 k)) (hk1 : k ≠ 1) : Calls Tryd.prog 79 #[.pointer (some ⟨b, 0, none⟩)] w fun e w' => e = .returned (.bool true) ∧ w' = w := by
  have H : Hid (Calls Tryd.prog 75 #[.pointer (some ⟨b, 0, none⟩)] w fun e w' => e = .returned (.bool true) ∧ w' = w) := copen b i false w hc hi hd
  have H2 : Hid (Calls _ _ _ w _) := known_no b 18 w hf
  have hk2 : (k != 1) = true := by simpa using hk1
  clear hc hi hd hf
  go_enter Tryd.func79, Tryd.ntmps79
  go_wp2_with (first
    | (go_at_call 75; refine H.out.mono ?_; rintro e w1 ⟨rfl, hw1⟩; subst hw1)
    | (go_at_call 77; refine H2.out.mono ?_; rintro e w1 ⟨rfl, hw1⟩; subst hw1))
  go_ret
  exact ⟨rfl, rfl⟩

set_option maxRecDepth 100000 in
set_option maxHeartbeats 1600000 in
theorem tell_ok {w : World} {c : Nat} {self aid now : Int} {cm : Cs0} {nv : Value} {dn : Bool} {wh st ft : Value} (h : Lv w c (callA self aid now cm nv dn wh st ft)) (says : Int) (bp : Option Addr) (bn bc : Nat) :
    Calls Tryd.prog 81 #[.pointer (some ⟨c, 0, none⟩), .int .i64 says, .slice bp bn bc] w fun e w' => ∃ g, e = .returned (.slice (some ⟨g, 0, none⟩) 1 1) ∧ w.heap.size ≤ g ∧ Kp (fun b => b = c) w w' ∧ Lv w' c (callA self aid now cm nv true (.slice none 0 0) (.pointer none) (.pointer none)) ∧ Lv w' g [.int .i64 aid, .int .i64 says, .slice bp bn bc] := by
  have HL : Hid (Lv w c (callA self aid now cm nv dn wh st ft)) := h
  have c1 := h.cell (j := 1) rfl
  have c15 := h.cell (j := 15) rfl
  have c16 := h.cell (j := 16) rfl
  have c17 := h.cell (j := 17) rfl
  have c18 := h.cell (j := 18) rfl
  have f15 := h.fz (j := 15) (show 15 < 19 by omega)
  have f16 := h.fz (j := 16) (show 16 < 19 by omega)
  have f17 := h.fz (j := 17) (show 17 < 19 by omega)
  have f18 := h.fz (j := 18) (show 18 < 19 by omega)
  clear h
  go_enter Tryd.func81, Tryd.ntmps81
  go_wp2
  go_ret
  have l1 : Lv _ c (callA self aid now cm nv true wh st ft) := HL.out.set1 15 (.bool true) (show 15 < 19 by omega)
  have l2 : Lv _ c (callA self aid now cm nv true (.slice none 0 0) st ft) := l1.set1 16 (.slice none 0 0) (show 16 < 19 by omega)
  have l3 : Lv _ c (callA self aid now cm nv true (.slice none 0 0) (.pointer none) ft) := l2.set1 17 (.pointer none) (show 17 < 19 by omega)
  have l4 : Lv _ c (callA self aid now cm nv true (.slice none 0 0) (.pointer none) (.pointer none)) := l3.set1 18 (.pointer none) (show 18 < 19 by omega)
  have k4 : Kp (fun b => b = c) w ((((w.setCell ⟨c, 15, none⟩ (.bool true)).setCell ⟨c, 16, none⟩ (.slice none 0 0)).setCell ⟨c, 17, none⟩ (.pointer none)).setCell ⟨c, 18, none⟩ (.pointer none)) := ((((Kp.refl (fun b => b = c) w).setCell (fun _ => rfl) _).setCell (fun _ => rfl) _).setCell (fun _ => rfl) _).setCell (fun _ => rfl) _
  obtain ⟨u, hu⟩ : ∃ x, x = ((((w.setCell ⟨c, 15, none⟩ (.bool true)).setCell ⟨c, 16, none⟩ (.slice none 0 0)).setCell ⟨c, 17, none⟩ (.pointer none)).setCell ⟨c, 18, none⟩ (.pointer none)) := ⟨_, rfl⟩
  have hs : u.heap.size = w.heap.size := by rw [hu]; simp
  rw [← hu] at k4 l4 ⊢
  refine ⟨w.heap.size, rfl, Nat.le_refl _, k4.alloc _, l4.keep ((Kp.refl (fun _ => False) u).alloc _) id, ?_⟩
  rw [← hs]
  exact Lv.new u _ _

set_option maxRecDepth 100000 in
set_option maxHeartbeats 1600000 in
theorem says_done (c : Nat) (k : Int) (w : World) (hk : w.cell? ⟨c, 4, none⟩ = some (.int .i64 k)) (h2 : k ≠ 2) : Calls Tryd.prog 82 #[.pointer (some ⟨c, 0, none⟩), .int .i64 1] w fun e w' => e = .returned (.int .i64 1) ∧ Kp (fun _ => False) w w' := by
  have h2' : (k == 2) = false := by simpa using h2
  go_enter Tryd.func82, Tryd.ntmps82
  go_wp2
  go_quiet (fail)
  go_wp2
  go_ret
  exact ⟨rfl, (Kp.refl _ _).drewN _⟩

abbrev outDone : Value := .agg #[.int .i64 1, .int .i64 0, .int .i64 0, .int .u32 0, .int .i64 0, .int .i64 0, .slice none 0 0, .int .i64 0]
set_option maxRecDepth 100000 in
set_option maxHeartbeats 1600000 in
theorem applied_del {w : World} {c : Nat} {self aid now : Int} {cm : Cs0} {nv : Value} {wh st : Value} (h : Lv w c (callA self aid now cm nv false wh st (.pointer none))) (hi : 0 < cm.id) (hk : cm.kind = 3) :
    Calls Tryd.prog 37 #[.pointer (some ⟨c, 0, none⟩), outDone, .int .i64 1] w fun e w' => ∃ g, e = .returned (.slice (some ⟨g, 0, none⟩) 1 1) ∧ w.heap.size ≤ g ∧ Kp (fun b => b = c) w w' ∧ Lv w' c (callA self aid now cm nv true (.slice none 0 0) (.pointer none) (.pointer none)) ∧ Lv w' g [.int .i64 aid, .int .i64 1, .slice none 0 0] := by
  have HS : Hid (∀ u, Kp (fun _ => False) w u → Calls _ _ _ u _) := fun u k => slot_yes c cm.id cm.kind u ((h.keep k id).cell (j := 3) rfl) hi ((h.keep k id).cell (j := 15) rfl) ((h.keep k id).cell (j := 18) rfl) ((h.keep k id).cell (j := 4) rfl) (by omega)
  have HSa : Hid (∀ u, Kp (fun _ => False) w u → Calls _ _ _ u _) := fun u k => says_done c cm.kind u ((h.keep k id).cell (j := 4) rfl) (by omega)
  have HT : Hid (∀ u, Kp (fun _ => False) w u → Calls _ _ _ u _) := fun u k => tell_ok (h.keep k id) 1 none 0 0
  have c4 : (w.alloc (.cells #[.int .i64 1, .int .i64 0, .int .i64 0, .int .u32 0, .int .i64 0, .int .i64 0, .slice none 0 0, .int .i64 0] 87)).cell? ⟨c, 4, none⟩ = some (.int .i64 3) := by
    have := (h.keep ((Kp.refl (fun _ => False) w).alloc (.cells #[.int .i64 1, .int .i64 0, .int .i64 0, .int .u32 0, .int .i64 0, .int .i64 0, .slice none 0 0, .int .i64 0] 87)) id).cell (j := 4) rfl
    rw [hk] at this
    exact this
  have k0 : Kp (fun _ => False) w (w.alloc (.cells #[.int .i64 1, .int .i64 0, .int .i64 0, .int .u32 0, .int .i64 0, .int .i64 0, .slice none 0 0, .int .i64 0] 87)) := (Kp.refl _ _).alloc _
  have lo : Lv (w.alloc (.cells #[.int .i64 1, .int .i64 0, .int .i64 0, .int .u32 0, .int .i64 0, .int .i64 0, .slice none 0 0, .int .i64 0] 87)) w.heap.size [.int .i64 1, .int .i64 0, .int .i64 0, .int .u32 0, .int .i64 0, .int .i64 0, .slice none 0 0, .int .i64 0] := Lv.new w _ _
  have o0 := lo.cell (j := 0) rfl
  have HLo : Hid (Lv (w.alloc (.cells #[.int .i64 1, .int .i64 0, .int .i64 0, .int .u32 0, .int .i64 0, .int .i64 0, .slice none 0 0, .int .i64 0] 87)) w.heap.size [.int .i64 1, .int .i64 0, .int .i64 0, .int .u32 0, .int .i64 0, .int .i64 0, .slice none 0 0, .int .i64 0]) := lo
  obtain ⟨W0, hW0⟩ : ∃ x, x = w.alloc (.cells #[.int .i64 1, .int .i64 0, .int .i64 0, .int .u32 0, .int .i64 0, .int .i64 0, .slice none 0 0, .int .i64 0] 87) := ⟨_, rfl⟩
  have e0 : w.alloc (.cells #[.int .i64 1, .int .i64 0, .int .i64 0, .int .u32 0, .int .i64 0, .int .i64 0, .slice none 0 0, .int .i64 0] 87) = W0 := hW0.symm
  rw [e0] at c4 k0 o0 HLo
  clear h lo hk hW0
  go_enter Tryd.func37, Tryd.ntmps37
  go_wp2_with fail
  try rw [e0]
  clear e0
  refine (HS.out _ k0).mono ?_
  rintro e w1 ⟨rfl, hw1⟩
  obtain rfl := hw1.symm
  clear hw1
  go_wp2
  go_quiet (fail)
  go_wp2_with (first
    | (go_at_call 82; refine (HSa.out _ (by exact k0.drewN _)).mono ?_; rintro e w2 ⟨rfl, k2⟩; have kd2 : Kp (fun _ => False) w w2 := (k0.drewN _).trans k2 (fun _ _ e => e))
    | (go_at_call 81; refine (HT.out _ kd2).mono ?_; rintro e w3 ⟨g, rfl, hg, k3, l3, lg⟩))
  go_ret
  refine ⟨g, rfl, ?_, (kd2.mono (fun _ _ e => e.elim)).trans k3 (fun _ _ e => e), l3, lg⟩
  have := kd2.size
  omega

set_option maxRecDepth 100000 in
set_option maxHeartbeats 1600000 in
theorem told_same (aid says : Int) (p1 p2 : Option Addr) (n1 n2 c1 c2 : Nat) (xs : List Nat) (w : World) (h1 : Rb w p1 n1 xs) (h2 : Rb w p2 n2 xs) :
    Calls Tryd.prog 85 #[.agg #[.int .i64 aid, .int .i64 says, .slice p1 n1 c1], .agg #[.int .i64 aid, .int .i64 says, .slice p2 n2 c2]] w fun e w' => e = .returned (.bool true) ∧ Kp (fun _ => False) w w' := by
  have HB : Hid (∀ u, Kp (fun _ => False) w u → Calls _ _ _ u _) := fun u k => bytes_same p1 p2 n1 n2 c1 c2 xs u (h1.keep0 k) (h2.keep0 k)
  clear h1 h2
  have k0 : Kp (fun _ => False) w ((w.alloc (.cells #[.int .i64 aid, .int .i64 says, .slice p1 n1 c1] 96)).alloc (.cells #[.int .i64 aid, .int .i64 says, .slice p2 n2 c2] 96)) := ((Kp.refl _ _).alloc _).alloc _
  go_enter Tryd.func85, Tryd.ntmps85
  go_wp2_with (go_at_call 18; refine (HB.out _ k0).mono ?_; rintro e w1 ⟨rfl, hw1⟩; subst hw1)
  go_ret
  exact ⟨rfl, k0⟩

abbrev toldA (aid says : Int) (p : Option Addr) (n c : Nat) : List Value := [.int .i64 aid, .int .i64 says, .slice p n c]
theorem szTold : (Tryd.prog.info? 96).map (·.size) = some 3 := by kernel_rfl
theorem dsTold : ∃ d, Tryd.prog.underlying 96 = some d ∧ d.isRow = true := ⟨_, Tryd.underlying96, rfl⟩
theorem told_one (aid says : Int) (p : Option Addr) (n c : Nat) : (toldA aid says p n c).toArray.all (·.oneCell') = true := all_oneCell_toArray (fun x hx => by
  simp only [List.mem_cons, List.not_mem_nil, or_false] at hx
  rcases hx with rfl | rfl | rfl <;> rfl)
set_option maxRecDepth 100000 in
set_option maxHeartbeats 1600000 in
theorem eqf_told1 (aid says : Int) (p1 p2 : Option Addr) (n1 n2 d1 d2 : Nat) (xs : List Nat) (g1 g2 c1 c2 : Nat) (w : World) (h1 : Lv w g1 (toldA aid says p1 n1 d1)) (h2 : Lv w g2 (toldA aid says p2 n2 d2)) (r1 : Rb w p1 n1 xs) (r2 : Rb w p2 n2 xs) :
    Calls Tryd.prog 84 #[.slice (some ⟨g1, 0, none⟩) 1 c1, .slice (some ⟨g2, 0, none⟩) 1 c2, .func (.func 85) #[] #[]] w fun e w' => e = .returned (.bool true) ∧ Kp (fun _ => False) w w' := by
  have HSv : Hid (∀ u, Kp (fun _ => False) w u → Calls _ _ _ u _) := fun u k => told_same aid says p1 p2 n1 n2 d1 d2 xs u (r1.keep0 k) (r2.keep0 k)
  have HR1 : Hid (Lv w g1 (toldA aid says p1 n1 d1)) := h1
  have HR2 : Hid (∀ u, Kp (fun _ => False) w u → Lv u g2 (toldA aid says p2 n2 d2)) := fun u k => h2.keep k id
  have HO1 : Hid ((toldA aid says p1 n1 d1).toArray.all (·.oneCell') = true) := told_one _ _ _ _ _
  have HO2 : Hid ((toldA aid says p2 n2 d2).toArray.all (·.oneCell') = true) := told_one _ _ _ _ _
  clear h1 h2 r1 r2
  go_enter Tryd.func84, Tryd.ntmps84
  go_wp2
  go_loopg [17] 1 (fun gk i wr => ∃ k : Nat, k ≤ 1 ∧ gk = 1 - k ∧ i = .int .i64 k ∧ (k = 0 → wr = w) ∧ Kp (fun _ => False) w wr)
  case atStart => exact ⟨0, by omega, rfl, rfl, fun _ => rfl, Kp.refl _ _⟩
  case round =>
    obtain ⟨k, hk, rfl, rfl, h0, hK⟩ := hrel
    by_cases hk0 : k = 0
    · subst hk0
      obtain rfl := h0 rfl
      clear h0 hK
      go_wp2_with (first
        | (refine wpList_load_all rfl 96 _ rfl 3 g1 (toldA aid says p1 n1 d1) rfl HR1.out dsTold szTold rfl ?_)
        | (refine wpList_store_all rfl 96 _ _ rfl 3 wr.heap.size [.int .i64 0, .int .i64 0, .slice none 0 0] (toldA aid says p1 n1 d1) rfl rfl (by exact Lv.new wr _ _) szTold rfl rfl HO1.out ?_; intro u2 hl2 k2; have ku2 : Kp (fun _ => False) wr u2 := ((Kp.refl (fun _ => False) wr).alloc _).trans k2 (fun b hb e => by omega); have HR2' : Hid (Lv u2 g2 (toldA aid says p2 n2 d2)) := HR2.out u2 ku2; have HL2 : Hid (Lv u2 wr.heap.size (toldA aid says p1 n1 d1)) := hl2; clear hl2 k2)
        | (refine wpList_load_all rfl 96 _ rfl 3 g2 (toldA aid says p2 n2 d2) rfl HR2'.out dsTold szTold rfl ?_)
        | (refine wpList_store_all rfl 96 _ _ rfl 3 u2.heap.size [.int .i64 0, .int .i64 0, .slice none 0 0] (toldA aid says p2 n2 d2) rfl rfl (by exact Lv.new u2 _ _) szTold rfl rfl HO2.out ?_; intro u3 hl3 k3; have ku3 : Kp (fun _ => False) u2 u3 := ((Kp.refl (fun _ => False) u2).alloc _).trans k3 (fun b hb e => by omega); have HL3 : Hid (Lv u3 u2.heap.size (toldA aid says p2 n2 d2)) := hl3; have HL2' : Hid (Lv u3 wr.heap.size (toldA aid says p1 n1 d1)) := HL2.out.keep ku3 id; have kw3 := ku2.trans ku3 (fun _ _ e => e); clear hl3 k3)
        | (refine wpList_load_all rfl 96 _ rfl 3 wr.heap.size (toldA aid says p1 n1 d1) rfl HL2'.out dsTold szTold rfl ?_)
        | (refine wpList_load_all rfl 96 _ rfl 3 u2.heap.size (toldA aid says p2 n2 d2) rfl HL3.out dsTold szTold rfl ?_)
        | (go_at_call 85; refine (HSv.out _ kw3).mono ?_; rintro e u4 ⟨rfl, k4⟩))
      go_roundg 0
      case rel => exact ⟨1, by omega, rfl, by go_num, fun h => absurd h (by decide), kw3.trans k4 (fun _ _ e => e)⟩
      case measure => omega
    · obtain rfl : k = 1 := by omega
      go_wp2
      go_ret
      exact ⟨rfl, hK⟩

set_option maxRecDepth 100000 in
set_option maxHeartbeats 800000 in
theorem same_told1 (aid says : Int) (p1 p2 : Option Addr) (n1 n2 d1 d2 : Nat) (xs : List Nat) (g1 g2 c1 c2 : Nat) (w : World) (h1 : Lv w g1 (toldA aid says p1 n1 d1)) (h2 : Lv w g2 (toldA aid says p2 n2 d2)) (r1 : Rb w p1 n1 xs) (r2 : Rb w p2 n2 xs) :
    Calls Tryd.prog 43 #[.slice (some ⟨g1, 0, none⟩) 1 c1, .slice (some ⟨g2, 0, none⟩) 1 c2] w fun e w' => e = .returned (.bool true) ∧ Kp (fun _ => False) w w' := by
  have H : Hid (Calls _ _ _ w _) := eqf_told1 aid says p1 p2 n1 n2 d1 d2 xs g1 g2 c1 c2 w h1 h2 r1 r2
  clear h1 h2 r1 r2
  go_enter Tryd.func43, Tryd.ntmps43
  go_wp2_with (go_at_call 84; refine H.out.mono ?_; rintro e w1 ⟨rfl, k1⟩)
  go_ret
  exact ⟨rfl, k1⟩

set_option maxRecDepth 100000 in
set_option maxHeartbeats 800000 in
theorem may_del (w : World) : Calls Tryd.prog 68 #[.agg #[.int .i64 7, .int .i64 3, .string keyA, .slice none 0 0]] w fun e w' => e = .returned (.bool true) ∧ Kp (fun _ => False) w w' := by
  have H1 : Hid (∀ u, Calls _ _ _ u _) := fun u => cmdOf_del u
  have H2 : Hid (∀ u, Calls _ _ _ u _) := fun u => key_a u
  go_enter Tryd.func68, Tryd.ntmps68
  go_wp2_with (first
    | (go_at_call 69; refine (H1.out _).mono ?_; rintro e w1 ⟨rfl, hw1⟩; subst hw1)
    | (go_at_call 100; refine (H2.out _).mono ?_; rintro e w1 ⟨rfl, hw1⟩; subst hw1))
  go_ret
  exact ⟨rfl, (Kp.refl _ _).alloc _⟩

abbrev cmDel : Cs0 := ⟨5, 3, keyA, 0, 0, 0, 0, 0, 0, 0, 0⟩
abbrev askDel : Array Value := #[.int .i64 7, .int .i64 3, .string keyA, .slice none 0 0]
set_option maxRecDepth 100000 in
set_option maxHeartbeats 1600000 in
theorem new_del (w : World) : Calls Tryd.prog 34 #[.int .i64 1, .agg askDel, .int .i64 5, .int .i64 0] w fun e w' => ∃ c, e = .returned (.tuple #[.pointer (some ⟨c, 0, none⟩), .int .i64 0]) ∧ Kp (fun _ => False) w w' ∧ w.heap.size ≤ c ∧ Lv w' c (callA 1 7 0 cmDel (.slice none 0 0) false (.slice none 0 0) (.pointer none) (.pointer none)) := by
  have H1 : Hid (∀ u, Calls _ _ _ u _) := fun u => isNode_ok 1 u
  have H2 : Hid (∀ u, Calls _ _ _ u _) := fun u => may_del u
  have H3 : Hid (∀ u, Calls _ _ _ u _) := fun u => cmdOf_del u
  have k0 : Kp (fun _ => False) w (w.alloc (.cells askDel 81)) := (Kp.refl _ _).alloc _
  have HL : Hid (Lv (w.alloc (.cells askDel 81)) w.heap.size askDel.toList) := Lv.new w _ _
  go_enter Tryd.func34, Tryd.ntmps34
  go_wp2_with (first
    | (go_at_call 48; refine (H1.out _).mono ?_; rintro e w1 ⟨rfl, hw1⟩; subst hw1)
    | (go_at_call 68; refine (H2.out _).mono ?_; rintro e w1 ⟨rfl, k1⟩))
  have kd : Kp (fun _ => False) (w.alloc (.cells askDel 81)) w1.drew := k1.drew
  have l1 : Lv w1.drew w.heap.size askDel.toList := HL.out.keep kd id
  have ka : Kp (fun _ => False) w1.drew (w1.drew.alloc (.cells #[.int .i64 1, .int .i64 7, .int .i64 0, .int .i64 5, .int .i64 3, .string keyA, .int .i64 0, .int .i64 0, .int .i64 0, .int .i64 0, .int .i64 0, .int .u32 0, .int .i64 0, .int .i64 0, .slice none 0 0, .bool false, .slice none 0 0, .pointer none, .pointer none] 106)) := (Kp.refl _ _).alloc _
  have l2 := l1.keep ka id
  refine cn3_region ⟨by kernel_rfl, by kernel_rfl, by kernel_rfl, by kernel_rfl, by kernel_rfl, by kernel_rfl, by kernel_rfl, by kernel_rfl, by kernel_rfl, by kernel_rfl, by kernel_rfl, by kernel_rfl, by kernel_rfl, by kernel_rfl, by kernel_rfl, by kernel_rfl, by kernel_rfl, by kernel_rfl, by kernel_rfl, by kernel_rfl, by kernel_rfl, by kernel_rfl⟩ w.heap.size 1 7 3 3 5 0 keyA (fun d _ _ _ _ h => by cases d <;> exact h) (by rfl) (by rfl) (by rfl) (by rfl) (by rfl) ⟨l1.cell (j := 0) rfl, l1.cell (j := 1) rfl, l1.cell (j := 2) rfl⟩ ⟨l2.cell (j := 0) rfl, l2.cell (j := 1) rfl, l2.cell (j := 2) rfl⟩ (H3.out _) ?_
  simp only [Act.put, List.setIfInBounds_toArray, List.set_cons_succ, List.set_cons_zero]
  have d1 := l2.cell (j := 1) rfl
  have hl : Lv (w1.drew.alloc (.cells #[.int .i64 1, .int .i64 7, .int .i64 0, .int .i64 5, .int .i64 3, .string keyA, .int .i64 0, .int .i64 0, .int .i64 0, .int .i64 0, .int .i64 0, .int .u32 0, .int .i64 0, .int .i64 0, .slice none 0 0, .bool false, .slice none 0 0, .pointer none, .pointer none] 106)) w1.drew.heap.size (callA 1 7 0 cmDel (.slice none 0 0) false (.slice none 0 0) (.pointer none) (.pointer none)) := Lv.new w1.drew _ _
  have hk := (k0.trans kd (fun _ _ e => e)).trans ka (fun _ _ e => e)
  have hsz := (k0.trans kd (fun _ _ e => e)).size
  obtain ⟨z, hz⟩ : ∃ x, x = (w1.drew.alloc (.cells #[.int .i64 1, .int .i64 7, .int .i64 0, .int .i64 5, .int .i64 3, .string keyA, .int .i64 0, .int .i64 0, .int .i64 0, .int .i64 0, .int .i64 0, .int .u32 0, .int .i64 0, .int .i64 0, .slice none 0 0, .bool false, .slice none 0 0, .pointer none, .pointer none] 106)) := ⟨_, rfl⟩
  rw [← hz] at hl hk d1 ⊢
  have HH : Hid (Lv z w1.drew.heap.size (callA 1 7 0 cmDel (.slice none 0 0) false (.slice none 0 0) (.pointer none) (.pointer none)) ∧ Kp (fun _ => False) w z ∧ w.heap.size ≤ w1.drew.heap.size) := ⟨hl, hk, hsz⟩
  obtain ⟨g, hg⟩ : ∃ g, g = w1.drew.heap.size := ⟨_, rfl⟩
  rw [← hg] at HH ⊢
  clear hg hl hk hsz hz l2 ka l1 kd k1
  go_wp2
  go_ret2
  exact ⟨g, rfl, HH.out.2.1, HH.out.2.2, HH.out.1⟩

set_option maxRecDepth 100000 in
set_option maxHeartbeats 1600000 in
theorem cmd_yes {w : World} {c : Nat} {self aid now : Int} {cm : Cs0} {dn : Bool} {wh st ft : Value} (h : Lv w c (callA self aid now cm (.slice none 0 0) dn wh st ft)) (hs : ∀ u, Kp (fun _ => False) w u → Calls Tryd.prog 79 #[.pointer (some ⟨c, 0, none⟩)] u fun e w' => e = .returned (.bool true) ∧ w' = u) :
    Calls Tryd.prog 39 #[.pointer (some ⟨c, 0, none⟩)] w fun e w' => ∃ q cq, e = .returned (.tuple #[.agg (cmdA cm (.slice q 0 cq)), .bool true]) ∧ Kp (fun _ => False) w w' := by
  have k0 : Kp (fun _ => False) w (w.alloc (.cells zeroC 42)) := (Kp.refl _ _).alloc _
  have H : Hid (Calls Tryd.prog 79 #[.pointer (some ⟨c, 0, none⟩)] (w.alloc (.cells zeroC 42)) fun e w' => e = .returned (.bool true) ∧ w' = (w.alloc (.cells zeroC 42))) := hs _ k0
  have HL : Hid (Lv (w.alloc (.cells zeroC 42)) w.heap.size zeroC.toList) := Lv.new w _ _
  have lc := h.keep k0 id
  have HR : Hid ((w.alloc (.cells zeroC 42)).rangeAt c 3 (cmdA cm (.slice none 0 0)).toList) := fun j u hu => by
    have hj : j < 12 := by have := (List.getElem?_eq_some_iff.1 hu).1; simpa using this
    have := lc.r (3 + j) u (by rw [← hu]; rcases j with _ | _ | _ | _ | _ | _ | _ | _ | _ | _ | _ | _ | j <;> first | rfl | omega)
    rwa [Nat.zero_add] at this
  have HC : Hid (Calls _ _ _ (w.alloc (.cells zeroC 42)) _) := clone_cmd cm (fun _ => True) none 0 [] (w.alloc (.cells zeroC 42)) (fun j u hu => by simp at hu) (show _ ≤ _ by simp)
  obtain ⟨dc, hdc1, hdc2⟩ := dsCmd
  clear h hs lc
  go_enter Tryd.func39, Tryd.ntmps39
  go_wp2_with (first
    | (go_at_call 79; refine H.out.mono ?_; rintro e w1 ⟨rfl, hw1⟩; subst hw1)
    | (refine wpList_load_mid rfl 42 _ rfl c 3 rfl (cmdA cm (.slice none 0 0)).toList dc HR.out hdc1 hdc2 (by rw [szCmd]; rfl) ?_)
    | (go_at_call 83; refine HC.out.mono ?_; rintro e w2 ⟨q, cq, rfl, k2, hfl⟩; have HL2 : Hid (Lv w2 w.heap.size zeroC.toList) := HL.out.keep k2 id; have HO : Hid ((cmdA cm (.slice q 0 cq)).toList.toArray.all (·.oneCell') = true) := cmd_one cm rfl)
    | (refine wpList_store_all rfl 42 _ _ rfl 12 w.heap.size zeroC.toList (cmdA cm (.slice q 0 cq)).toList rfl rfl HL2.out szCmd rfl rfl HO.out ?_; intro w3 hl3 k3))
  refine bodyPost_ret (res_cell_tmp Tryd.results39 _ _ w.heap.size _ rfl (hl3.load ⟨dc, hdc1, hdc2⟩ szCmd rfl)) rfl ?_
  first | exact ⟨⟨q, cq, rfl⟩, (k0.trans k2 (fun _ _ e => e)).trans k3 (fun b hb e => by omega)⟩ | exact ⟨q, cq, rfl, (k0.trans k2 (fun _ _ e => e)).trans k3 (fun b hb e => by omega)⟩
end Go.Proofs.YtmncocmeafcpfaaDoor
