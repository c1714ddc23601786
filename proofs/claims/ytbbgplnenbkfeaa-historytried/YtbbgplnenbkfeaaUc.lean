/- Hearing (laid by scripts/mkuc.py). -/
import Derived.Test.YtbbgplnenbkfeaaUb
namespace Go.Proofs.Ytbbgplnenbkfeaa
set_option linter.unusedVariables false
set_option linter.unusedSimpArgs false
open Go.RowKit Go.Deep Go.Maps

theorem he_st10 (g off : Nat) (kd tt : Int) (pb : Option Addr) (nb cb : Nat) (u : Value) (ev : Operand → Value) (z : World) (e1 : ev (.tmp 26) = .pointer (some ⟨g, off + 6, none⟩)) (e2 : ev (.tmp 20) = .int .i64 tt)  (hc : z.cell? ⟨g, off + 6, none⟩ = some u) (hf : z.frozen? ⟨g, off + 6, none⟩ = false) : (execOp ev ⟨none, Op.store 3 (Operand.tmp 26) (Operand.tmp 20), 0, "", #[], none⟩).run Try.prog z = .ok .skip (z.setCell ⟨g, off + 6, none⟩ (.int .i64 tt)) := by go_simp
theorem he_st13 (g off : Nat) (kd tt : Int) (pb : Option Addr) (nb cb : Nat) (u : Value) (ev : Operand → Value) (z : World) (e1 : ev (.tmp 28) = .pointer (some ⟨g, off + 8, none⟩)) (e2 : ev (.tmp 22) = .int .i64 kd)  (hc : z.cell? ⟨g, off + 8, none⟩ = some u) (hf : z.frozen? ⟨g, off + 8, none⟩ = false) : (execOp ev ⟨none, Op.store 3 (Operand.tmp 28) (Operand.tmp 22), 0, "", #[], none⟩).run Try.prog z = .ok .skip (z.setCell ⟨g, off + 8, none⟩ (.int .i64 kd)) := by go_simp
theorem he_st16 (g off : Nat) (kd tt : Int) (pb : Option Addr) (nb cb : Nat) (u : Value) (ev : Operand → Value) (z : World) (e1 : ev (.tmp 30) = .pointer (some ⟨g, off + 9, none⟩)) (e2 : ev (.tmp 24) = .slice pb nb cb)  (hc : z.cell? ⟨g, off + 9, none⟩ = some u) (hf : z.frozen? ⟨g, off + 9, none⟩ = false) : (execOp ev ⟨none, Op.store 27 (Operand.tmp 30) (Operand.tmp 24), 0, "", #[], none⟩).run Try.prog z = .ok .skip (z.setCell ⟨g, off + 9, none⟩ (.slice pb nb cb)) := by go_simp
theorem he3_0 (bx g off : Nat) (kd tt : Int) (pb : Option Addr) (nb cb : Nat) (ev : Operand → Value) (z : World) (ec : ∀ c, ev (.const c) = c) (e0 : ev (.tmp 0) = .pointer (some ⟨g, off, none⟩)) (hS : z.cell? ⟨bx, 2, none⟩ = some (.int .i64 kd) ∧ z.cell? ⟨bx, 4, none⟩ = some (.slice pb nb cb)) : (execOp ev ⟨some 17, Op.move (Operand.tmp 0), 78, "", #[], none⟩).run Try.prog z = .ok (.value (.pointer (some ⟨g, off, none⟩))) z := by
  obtain ⟨s2, s4⟩ := hS
  go_simp
theorem he3_1 (bx g off : Nat) (kd tt : Int) (pb : Option Addr) (nb cb : Nat) (ev : Operand → Value) (z : World) (ec : ∀ c, ev (.const c) = c) (e0 : ev (.tmp 0) = .pointer (some ⟨g, off, none⟩)) (hS : z.cell? ⟨bx, 2, none⟩ = some (.int .i64 kd) ∧ z.cell? ⟨bx, 4, none⟩ = some (.slice pb nb cb)) : (execOp ev ⟨some 18, Op.move (Operand.tmp 0), 78, "", #[], none⟩).run Try.prog z = .ok (.value (.pointer (some ⟨g, off, none⟩))) z := by
  obtain ⟨s2, s4⟩ := hS
  go_simp
theorem he3_2 (bx g off : Nat) (kd tt : Int) (pb : Option Addr) (nb cb : Nat) (ev : Operand → Value) (z : World) (ec : ∀ c, ev (.const c) = c) (e0 : ev (.tmp 0) = .pointer (some ⟨g, off, none⟩)) (hS : z.cell? ⟨bx, 2, none⟩ = some (.int .i64 kd) ∧ z.cell? ⟨bx, 4, none⟩ = some (.slice pb nb cb)) : (execOp ev ⟨some 19, Op.move (Operand.tmp 0), 78, "", #[], none⟩).run Try.prog z = .ok (.value (.pointer (some ⟨g, off, none⟩))) z := by
  obtain ⟨s2, s4⟩ := hS
  go_simp
theorem he3_3 (bx g off : Nat) (kd tt : Int) (pb : Option Addr) (nb cb : Nat) (ev : Operand → Value) (z : World) (ec : ∀ c, ev (.const c) = c) (e2 : ev (.tmp 2) = .int .i64 tt) (hS : z.cell? ⟨bx, 2, none⟩ = some (.int .i64 kd) ∧ z.cell? ⟨bx, 4, none⟩ = some (.slice pb nb cb)) : (execOp ev ⟨some 20, Op.move (Operand.tmp 2), 3, "", #[], none⟩).run Try.prog z = .ok (.value (.int .i64 tt)) z := by
  obtain ⟨s2, s4⟩ := hS
  go_simp
theorem he3_4 (bx g off : Nat) (kd tt : Int) (pb : Option Addr) (nb cb : Nat) (ev : Operand → Value) (z : World) (ec : ∀ c, ev (.const c) = c) (e4 : ev (.tmp 4) = .pointer (some ⟨bx, 0, none⟩)) (hS : z.cell? ⟨bx, 2, none⟩ = some (.int .i64 kd) ∧ z.cell? ⟨bx, 4, none⟩ = some (.slice pb nb cb)) : (execOp ev ⟨some 21, Op.fieldAddr 29 (Operand.tmp 4) 2, 0, "", #[], none⟩).run Try.prog z = .ok (.value (.pointer (some ⟨bx, 2, none⟩))) z := by
  obtain ⟨s2, s4⟩ := hS
  go_simp
theorem he3_5 (bx g off : Nat) (kd tt : Int) (pb : Option Addr) (nb cb : Nat) (ev : Operand → Value) (z : World) (ec : ∀ c, ev (.const c) = c) (e21 : ev (.tmp 21) = .pointer (some ⟨bx, 2, none⟩)) (hS : z.cell? ⟨bx, 2, none⟩ = some (.int .i64 kd) ∧ z.cell? ⟨bx, 4, none⟩ = some (.slice pb nb cb)) : (execOp ev ⟨some 22, Op.load 3 (Operand.tmp 21), 3, "", #[], none⟩).run Try.prog z = .ok (.value (.int .i64 kd)) z := by
  obtain ⟨s2, s4⟩ := hS
  go_simp
theorem he3_6 (bx g off : Nat) (kd tt : Int) (pb : Option Addr) (nb cb : Nat) (ev : Operand → Value) (z : World) (ec : ∀ c, ev (.const c) = c) (e4 : ev (.tmp 4) = .pointer (some ⟨bx, 0, none⟩)) (hS : z.cell? ⟨bx, 2, none⟩ = some (.int .i64 kd) ∧ z.cell? ⟨bx, 4, none⟩ = some (.slice pb nb cb)) : (execOp ev ⟨some 23, Op.fieldAddr 29 (Operand.tmp 4) 4, 0, "", #[], none⟩).run Try.prog z = .ok (.value (.pointer (some ⟨bx, 4, none⟩))) z := by
  obtain ⟨s2, s4⟩ := hS
  go_simp
theorem he3_7 (bx g off : Nat) (kd tt : Int) (pb : Option Addr) (nb cb : Nat) (ev : Operand → Value) (z : World) (ec : ∀ c, ev (.const c) = c) (e23 : ev (.tmp 23) = .pointer (some ⟨bx, 4, none⟩)) (hS : z.cell? ⟨bx, 2, none⟩ = some (.int .i64 kd) ∧ z.cell? ⟨bx, 4, none⟩ = some (.slice pb nb cb)) : (execOp ev ⟨some 24, Op.load 27 (Operand.tmp 23), 27, "", #[], none⟩).run Try.prog z = .ok (.value (.slice pb nb cb)) z := by
  obtain ⟨s2, s4⟩ := hS
  go_simp
theorem he3_8 (bx g off : Nat) (kd tt : Int) (pb : Option Addr) (nb cb : Nat) (ev : Operand → Value) (z : World) (ec : ∀ c, ev (.const c) = c) (e17 : ev (.tmp 17) = .pointer (some ⟨g, off, none⟩)) (hS : z.cell? ⟨bx, 2, none⟩ = some (.int .i64 kd) ∧ z.cell? ⟨bx, 4, none⟩ = some (.slice pb nb cb)) : (execOp ev ⟨some 25, Op.nilCheck (Operand.tmp 17), 0, "", #[], none⟩).run Try.prog z = .ok (.value (.pointer (some ⟨g, off, none⟩))) z := by
  obtain ⟨s2, s4⟩ := hS
  go_simp
theorem he3_9 (bx g off : Nat) (kd tt : Int) (pb : Option Addr) (nb cb : Nat) (ev : Operand → Value) (z : World) (ec : ∀ c, ev (.const c) = c) (e25 : ev (.tmp 25) = .pointer (some ⟨g, off, none⟩)) (hS : z.cell? ⟨bx, 2, none⟩ = some (.int .i64 kd) ∧ z.cell? ⟨bx, 4, none⟩ = some (.slice pb nb cb)) : (execOp ev ⟨some 26, Op.fieldAddr 65 (Operand.tmp 25) 2, 0, "", #[], none⟩).run Try.prog z = .ok (.value (.pointer (some ⟨g, off + 6, none⟩))) z := by
  obtain ⟨s2, s4⟩ := hS
  go_simp
theorem he3_11 (bx g off : Nat) (kd tt : Int) (pb : Option Addr) (nb cb : Nat) (ev : Operand → Value) (z : World) (ec : ∀ c, ev (.const c) = c) (e18 : ev (.tmp 18) = .pointer (some ⟨g, off, none⟩)) (hS : z.cell? ⟨bx, 2, none⟩ = some (.int .i64 kd) ∧ z.cell? ⟨bx, 4, none⟩ = some (.slice pb nb cb)) : (execOp ev ⟨some 27, Op.nilCheck (Operand.tmp 18), 0, "", #[], none⟩).run Try.prog z = .ok (.value (.pointer (some ⟨g, off, none⟩))) z := by
  obtain ⟨s2, s4⟩ := hS
  go_simp
theorem he3_12 (bx g off : Nat) (kd tt : Int) (pb : Option Addr) (nb cb : Nat) (ev : Operand → Value) (z : World) (ec : ∀ c, ev (.const c) = c) (e27 : ev (.tmp 27) = .pointer (some ⟨g, off, none⟩)) (hS : z.cell? ⟨bx, 2, none⟩ = some (.int .i64 kd) ∧ z.cell? ⟨bx, 4, none⟩ = some (.slice pb nb cb)) : (execOp ev ⟨some 28, Op.fieldAddr 65 (Operand.tmp 27) 4, 0, "", #[], none⟩).run Try.prog z = .ok (.value (.pointer (some ⟨g, off + 8, none⟩))) z := by
  obtain ⟨s2, s4⟩ := hS
  go_simp
theorem he3_14 (bx g off : Nat) (kd tt : Int) (pb : Option Addr) (nb cb : Nat) (ev : Operand → Value) (z : World) (ec : ∀ c, ev (.const c) = c) (e19 : ev (.tmp 19) = .pointer (some ⟨g, off, none⟩)) (hS : z.cell? ⟨bx, 2, none⟩ = some (.int .i64 kd) ∧ z.cell? ⟨bx, 4, none⟩ = some (.slice pb nb cb)) : (execOp ev ⟨some 29, Op.nilCheck (Operand.tmp 19), 0, "", #[], none⟩).run Try.prog z = .ok (.value (.pointer (some ⟨g, off, none⟩))) z := by
  obtain ⟨s2, s4⟩ := hS
  go_simp
theorem he3_15 (bx g off : Nat) (kd tt : Int) (pb : Option Addr) (nb cb : Nat) (ev : Operand → Value) (z : World) (ec : ∀ c, ev (.const c) = c) (e29 : ev (.tmp 29) = .pointer (some ⟨g, off, none⟩)) (hS : z.cell? ⟨bx, 2, none⟩ = some (.int .i64 kd) ∧ z.cell? ⟨bx, 4, none⟩ = some (.slice pb nb cb)) : (execOp ev ⟨some 30, Op.fieldAddr 65 (Operand.tmp 29) 5, 0, "", #[], none⟩).run Try.prog z = .ok (.value (.pointer (some ⟨g, off + 9, none⟩))) z := by
  obtain ⟨s2, s4⟩ := hS
  go_simp
structure he3R (ops : Array Oper) : Prop where
  size : ops.size = 17
  sel : Region.noSelect ops = true
  o0 : (ops[0]?).map bare = some ⟨some 17, Op.move (Operand.tmp 0), 78, "", #[], none⟩
  o1 : (ops[1]?).map bare = some ⟨some 18, Op.move (Operand.tmp 0), 78, "", #[], none⟩
  o2 : (ops[2]?).map bare = some ⟨some 19, Op.move (Operand.tmp 0), 78, "", #[], none⟩
  o3 : (ops[3]?).map bare = some ⟨some 20, Op.move (Operand.tmp 2), 3, "", #[], none⟩
  o4 : (ops[4]?).map bare = some ⟨some 21, Op.fieldAddr 29 (Operand.tmp 4) 2, 0, "", #[], none⟩
  o5 : (ops[5]?).map bare = some ⟨some 22, Op.load 3 (Operand.tmp 21), 3, "", #[], none⟩
  o6 : (ops[6]?).map bare = some ⟨some 23, Op.fieldAddr 29 (Operand.tmp 4) 4, 0, "", #[], none⟩
  o7 : (ops[7]?).map bare = some ⟨some 24, Op.load 27 (Operand.tmp 23), 27, "", #[], none⟩
  o8 : (ops[8]?).map bare = some ⟨some 25, Op.nilCheck (Operand.tmp 17), 0, "", #[], none⟩
  o9 : (ops[9]?).map bare = some ⟨some 26, Op.fieldAddr 65 (Operand.tmp 25) 2, 0, "", #[], none⟩
  o10 : (ops[10]?).map bare = some ⟨none, Op.store 3 (Operand.tmp 26) (Operand.tmp 20), 0, "", #[], none⟩
  o11 : (ops[11]?).map bare = some ⟨some 27, Op.nilCheck (Operand.tmp 18), 0, "", #[], none⟩
  o12 : (ops[12]?).map bare = some ⟨some 28, Op.fieldAddr 65 (Operand.tmp 27) 4, 0, "", #[], none⟩
  o13 : (ops[13]?).map bare = some ⟨none, Op.store 3 (Operand.tmp 28) (Operand.tmp 22), 0, "", #[], none⟩
  o14 : (ops[14]?).map bare = some ⟨some 29, Op.nilCheck (Operand.tmp 19), 0, "", #[], none⟩
  o15 : (ops[15]?).map bare = some ⟨some 30, Op.fieldAddr 65 (Operand.tmp 29) 5, 0, "", #[], none⟩
  o16 : (ops[16]?).map bare = some ⟨none, Op.store 27 (Operand.tmp 30) (Operand.tmp 24), 0, "", #[], none⟩
  may0 : takeB .any ops [0, 1, 2, 3, 4, 5, 6, 7, 8, 9] (Array.replicate 17 false) = true
  r10 : Region.ready .any ops (mark [0, 1, 2, 3, 4, 5, 6, 7, 8, 9] (Array.replicate 17 false)) = [10]
  may1 : takeB .any ops [11, 12] ((mark [0, 1, 2, 3, 4, 5, 6, 7, 8, 9] (Array.replicate 17 false)).setIfInBounds 10 true) = true
  r13 : Region.ready .any ops (mark [11, 12] ((mark [0, 1, 2, 3, 4, 5, 6, 7, 8, 9] (Array.replicate 17 false)).setIfInBounds 10 true)) = [13]
  may2 : takeB .any ops [14, 15] ((mark [11, 12] ((mark [0, 1, 2, 3, 4, 5, 6, 7, 8, 9] (Array.replicate 17 false)).setIfInBounds 10 true)).setIfInBounds 13 true) = true
  r16 : Region.ready .any ops (mark [14, 15] ((mark [11, 12] ((mark [0, 1, 2, 3, 4, 5, 6, 7, 8, 9] (Array.replicate 17 false)).setIfInBounds 10 true)).setIfInBounds 13 true)) = [16]
  fin : Region.ready .any ops ((mark [14, 15] ((mark [11, 12] ((mark [0, 1, 2, 3, 4, 5, 6, 7, 8, 9] (Array.replicate 17 false)).setIfInBounds 10 true)).setIfInBounds 13 true)).setIfInBounds 16 true) = []

set_option maxRecDepth 100000 in
set_option maxHeartbeats 3200000 in
theorem he3_region {ops : Array Oper} {id : Nat} {Q : Exit → Act → World → Prop} {a : Act} {y : World} (R : he3R ops) (bx g off : Nat) (kd tt : Int) (pb : Option Addr) (nb cb : Nat)
    (hQ : ∀ d v c a w, Q (.panic c) (a.put d v) w → Q (.panic c) a w) (hsz : a.tmps.size = 31) (e0 : a.eval (.tmp 0) = .pointer (some ⟨g, off, none⟩)) (e2 : a.eval (.tmp 2) = .int .i64 tt) (e4 : a.eval (.tmp 4) = .pointer (some ⟨bx, 0, none⟩)) (hS0 : y.drew.cell? ⟨bx, 2, none⟩ = some (.int .i64 kd) ∧ y.drew.cell? ⟨bx, 4, none⟩ = some (.slice pb nb cb)) (hS1 : (y.drew.setCell ⟨g, off + 6, none⟩ (.int .i64 tt)).cell? ⟨bx, 2, none⟩ = some (.int .i64 kd) ∧ (y.drew.setCell ⟨g, off + 6, none⟩ (.int .i64 tt)).cell? ⟨bx, 4, none⟩ = some (.slice pb nb cb)) (hS2 : ((y.drew.setCell ⟨g, off + 6, none⟩ (.int .i64 tt)).setCell ⟨g, off + 8, none⟩ (.int .i64 kd)).cell? ⟨bx, 2, none⟩ = some (.int .i64 kd) ∧ ((y.drew.setCell ⟨g, off + 6, none⟩ (.int .i64 tt)).setCell ⟨g, off + 8, none⟩ (.int .i64 kd)).cell? ⟨bx, 4, none⟩ = some (.slice pb nb cb)) (hS3 : (((y.drew.setCell ⟨g, off + 6, none⟩ (.int .i64 tt)).setCell ⟨g, off + 8, none⟩ (.int .i64 kd)).setCell ⟨g, off + 9, none⟩ (.slice pb nb cb)).cell? ⟨bx, 2, none⟩ = some (.int .i64 kd) ∧ (((y.drew.setCell ⟨g, off + 6, none⟩ (.int .i64 tt)).setCell ⟨g, off + 8, none⟩ (.int .i64 kd)).setCell ⟨g, off + 9, none⟩ (.slice pb nb cb)).cell? ⟨bx, 4, none⟩ = some (.slice pb nb cb)) (v6 v8 v9 : Value) (c6 : y.drew.cell? ⟨g, off + 6, none⟩ = some v6) (f6 : y.drew.frozen? ⟨g, off + 6, none⟩ = false) (c8 : (y.drew.setCell ⟨g, off + 6, none⟩ (.int .i64 tt)).cell? ⟨g, off + 8, none⟩ = some v8) (f8 : (y.drew.setCell ⟨g, off + 6, none⟩ (.int .i64 tt)).frozen? ⟨g, off + 8, none⟩ = false) (c9 : ((y.drew.setCell ⟨g, off + 6, none⟩ (.int .i64 tt)).setCell ⟨g, off + 8, none⟩ (.int .i64 kd)).cell? ⟨g, off + 9, none⟩ = some v9) (f9 : ((y.drew.setCell ⟨g, off + 6, none⟩ (.int .i64 tt)).setCell ⟨g, off + 8, none⟩ (.int .i64 kd)).frozen? ⟨g, off + 9, none⟩ = false)
    (hK :  Q .normal ((((((((((((((a.put (some 17) (.pointer (some ⟨g, off, none⟩))).put (some 18) (.pointer (some ⟨g, off, none⟩))).put (some 19) (.pointer (some ⟨g, off, none⟩))).put (some 20) (.int .i64 tt)).put (some 21) (.pointer (some ⟨bx, 2, none⟩))).put (some 22) (.int .i64 kd)).put (some 23) (.pointer (some ⟨bx, 4, none⟩))).put (some 24) (.slice pb nb cb)).put (some 25) (.pointer (some ⟨g, off, none⟩))).put (some 26) (.pointer (some ⟨g, off + 6, none⟩))).put (some 27) (.pointer (some ⟨g, off, none⟩))).put (some 28) (.pointer (some ⟨g, off + 8, none⟩))).put (some 29) (.pointer (some ⟨g, off, none⟩))).put (some 30) (.pointer (some ⟨g, off + 9, none⟩))) (((y.drew.setCell ⟨g, off + 6, none⟩ (.int .i64 tt)).setCell ⟨g, off + 8, none⟩ (.int .i64 kd)).setCell ⟨g, off + 9, none⟩ (.slice pb nb cb))) : (Code.region id ops true).wp Try.prog Q a y := by
  have HR : Hid (he3R ops) := R
  have hdf : a.defers = a.defers := rfl
  refine wp_region_held_drew (S := (fun z : World => z.cell? ⟨bx, 2, none⟩ = some (.int .i64 kd) ∧ z.cell? ⟨bx, 4, none⟩ = some (.slice pb nb cb))) (by kernel_rfl) (hS0) (fun hHeld => ?_)
  rw [R.size]
  clear R
  refine wpAnyH_takes HR.out.sel hQ hHeld [0, 1, 2, 3, 4, 5, 6, 7, 8, 9] 7 _ _ HR.out.may0 ?_
  refine wpTake_stepE ⟨some 17, Op.move (Operand.tmp 0), 78, "", #[], none⟩ 17 (.pointer (some ⟨g, off, none⟩)) HR.out.o0 rfl (by rw [hsz]; decide) (wanted_none rfl) (fun z hS => he3_0 bx g off kd tt pb nb cb _ z (fun _ => rfl) e0 hS) ?_
  intro a1 ha1 s1 f1 n1 k1
  replace hsz := s1.trans hsz
  replace hdf := f1.trans hdf
  replace e0 := (k1 0 (by decide)).trans e0
  replace e2 := (k1 2 (by decide)).trans e2
  replace e4 := (k1 4 (by decide)).trans e4
  have e17 := n1
  clear s1 f1 n1 k1
  refine wpTake_stepE ⟨some 18, Op.move (Operand.tmp 0), 78, "", #[], none⟩ 18 (.pointer (some ⟨g, off, none⟩)) HR.out.o1 rfl (by rw [hsz]; decide) (wanted_none rfl) (fun z hS => he3_1 bx g off kd tt pb nb cb _ z (fun _ => rfl) e0 hS) ?_
  intro a2 ha2 s1 f1 n1 k1
  replace hsz := s1.trans hsz
  replace hdf := f1.trans hdf
  replace e0 := (k1 0 (by decide)).trans e0
  replace e2 := (k1 2 (by decide)).trans e2
  replace e4 := (k1 4 (by decide)).trans e4
  replace e17 := (k1 17 (by decide)).trans e17
  have e18 := n1
  clear s1 f1 n1 k1
  refine wpTake_stepE ⟨some 19, Op.move (Operand.tmp 0), 78, "", #[], none⟩ 19 (.pointer (some ⟨g, off, none⟩)) HR.out.o2 rfl (by rw [hsz]; decide) (wanted_none rfl) (fun z hS => he3_2 bx g off kd tt pb nb cb _ z (fun _ => rfl) e0 hS) ?_
  intro a3 ha3 s1 f1 n1 k1
  replace hsz := s1.trans hsz
  replace hdf := f1.trans hdf
  replace e2 := (k1 2 (by decide)).trans e2
  replace e4 := (k1 4 (by decide)).trans e4
  replace e17 := (k1 17 (by decide)).trans e17
  replace e18 := (k1 18 (by decide)).trans e18
  have e19 := n1
  clear s1 f1 n1 k1
  refine wpTake_stepE ⟨some 20, Op.move (Operand.tmp 2), 3, "", #[], none⟩ 20 (.int .i64 tt) HR.out.o3 rfl (by rw [hsz]; decide) (wanted_none rfl) (fun z hS => he3_3 bx g off kd tt pb nb cb _ z (fun _ => rfl) e2 hS) ?_
  intro a4 ha4 s1 f1 n1 k1
  replace hsz := s1.trans hsz
  replace hdf := f1.trans hdf
  replace e4 := (k1 4 (by decide)).trans e4
  replace e17 := (k1 17 (by decide)).trans e17
  replace e18 := (k1 18 (by decide)).trans e18
  replace e19 := (k1 19 (by decide)).trans e19
  have e20 := n1
  clear s1 f1 n1 k1
  refine wpTake_stepE ⟨some 21, Op.fieldAddr 29 (Operand.tmp 4) 2, 0, "", #[], none⟩ 21 (.pointer (some ⟨bx, 2, none⟩)) HR.out.o4 rfl (by rw [hsz]; decide) (wanted_none rfl) (fun z hS => he3_4 bx g off kd tt pb nb cb _ z (fun _ => rfl) e4 hS) ?_
  intro a5 ha5 s1 f1 n1 k1
  replace hsz := s1.trans hsz
  replace hdf := f1.trans hdf
  replace e4 := (k1 4 (by decide)).trans e4
  replace e17 := (k1 17 (by decide)).trans e17
  replace e18 := (k1 18 (by decide)).trans e18
  replace e19 := (k1 19 (by decide)).trans e19
  replace e20 := (k1 20 (by decide)).trans e20
  have e21 := n1
  clear s1 f1 n1 k1
  refine wpTake_stepE ⟨some 22, Op.load 3 (Operand.tmp 21), 3, "", #[], none⟩ 22 (.int .i64 kd) HR.out.o5 rfl (by rw [hsz]; decide) (wanted_none rfl) (fun z hS => he3_5 bx g off kd tt pb nb cb _ z (fun _ => rfl) e21 hS) ?_
  intro a6 ha6 s1 f1 n1 k1
  replace hsz := s1.trans hsz
  replace hdf := f1.trans hdf
  replace e4 := (k1 4 (by decide)).trans e4
  replace e17 := (k1 17 (by decide)).trans e17
  replace e18 := (k1 18 (by decide)).trans e18
  replace e19 := (k1 19 (by decide)).trans e19
  replace e20 := (k1 20 (by decide)).trans e20
  have e22 := n1
  clear s1 f1 n1 k1
  refine wpTake_stepE ⟨some 23, Op.fieldAddr 29 (Operand.tmp 4) 4, 0, "", #[], none⟩ 23 (.pointer (some ⟨bx, 4, none⟩)) HR.out.o6 rfl (by rw [hsz]; decide) (wanted_none rfl) (fun z hS => he3_6 bx g off kd tt pb nb cb _ z (fun _ => rfl) e4 hS) ?_
  intro a7 ha7 s1 f1 n1 k1
  replace hsz := s1.trans hsz
  replace hdf := f1.trans hdf
  replace e17 := (k1 17 (by decide)).trans e17
  replace e18 := (k1 18 (by decide)).trans e18
  replace e19 := (k1 19 (by decide)).trans e19
  replace e20 := (k1 20 (by decide)).trans e20
  replace e22 := (k1 22 (by decide)).trans e22
  have e23 := n1
  clear s1 f1 n1 k1
  refine wpTake_stepE ⟨some 24, Op.load 27 (Operand.tmp 23), 27, "", #[], none⟩ 24 (.slice pb nb cb) HR.out.o7 rfl (by rw [hsz]; decide) (wanted_none rfl) (fun z hS => he3_7 bx g off kd tt pb nb cb _ z (fun _ => rfl) e23 hS) ?_
  intro a8 ha8 s1 f1 n1 k1
  replace hsz := s1.trans hsz
  replace hdf := f1.trans hdf
  replace e17 := (k1 17 (by decide)).trans e17
  replace e18 := (k1 18 (by decide)).trans e18
  replace e19 := (k1 19 (by decide)).trans e19
  replace e20 := (k1 20 (by decide)).trans e20
  replace e22 := (k1 22 (by decide)).trans e22
  have e24 := n1
  clear s1 f1 n1 k1
  refine wpTake_stepE ⟨some 25, Op.nilCheck (Operand.tmp 17), 0, "", #[], none⟩ 25 (.pointer (some ⟨g, off, none⟩)) HR.out.o8 rfl (by rw [hsz]; decide) (wanted_none rfl) (fun z hS => he3_8 bx g off kd tt pb nb cb _ z (fun _ => rfl) e17 hS) ?_
  intro a9 ha9 s1 f1 n1 k1
  replace hsz := s1.trans hsz
  replace hdf := f1.trans hdf
  replace e18 := (k1 18 (by decide)).trans e18
  replace e19 := (k1 19 (by decide)).trans e19
  replace e20 := (k1 20 (by decide)).trans e20
  replace e22 := (k1 22 (by decide)).trans e22
  replace e24 := (k1 24 (by decide)).trans e24
  have e25 := n1
  clear s1 f1 n1 k1
  refine wpTake_stepE ⟨some 26, Op.fieldAddr 65 (Operand.tmp 25) 2, 0, "", #[], none⟩ 26 (.pointer (some ⟨g, off + 6, none⟩)) HR.out.o9 rfl (by rw [hsz]; decide) (wanted_none rfl) (fun z hS => he3_9 bx g off kd tt pb nb cb _ z (fun _ => rfl) e25 hS) ?_
  intro a10 ha10 s1 f1 n1 k1
  replace hsz := s1.trans hsz
  replace hdf := f1.trans hdf
  replace e18 := (k1 18 (by decide)).trans e18
  replace e19 := (k1 19 (by decide)).trans e19
  replace e20 := (k1 20 (by decide)).trans e20
  replace e22 := (k1 22 (by decide)).trans e22
  replace e24 := (k1 24 (by decide)).trans e24
  have e26 := n1
  clear s1 f1 n1 k1
  refine wpTake_nil ?_
  refine wpAnyH_skip ⟨none, Op.store 3 (Operand.tmp 26) (Operand.tmp 20), 0, "", #[], none⟩ (y.drew.setCell ⟨g, off + 6, none⟩ (.int .i64 tt)) HR.out.r10 HR.out.o10 rfl rfl (he_st10 g off kd tt pb nb cb v6 _ _ e26 e20 c6 f6) (hS1) ?_
  replace hHeld := hS1
  refine wpAnyH_takes HR.out.sel hQ hHeld [11, 12] 4 _ _ HR.out.may1 ?_
  refine wpTake_stepE ⟨some 27, Op.nilCheck (Operand.tmp 18), 0, "", #[], none⟩ 27 (.pointer (some ⟨g, off, none⟩)) HR.out.o11 rfl (by rw [hsz]; decide) (wanted_none rfl) (fun z hS => he3_11 bx g off kd tt pb nb cb _ z (fun _ => rfl) e18 hS) ?_
  intro a11 ha11 s1 f1 n1 k1
  replace hsz := s1.trans hsz
  replace hdf := f1.trans hdf
  replace e19 := (k1 19 (by decide)).trans e19
  replace e22 := (k1 22 (by decide)).trans e22
  replace e24 := (k1 24 (by decide)).trans e24
  have e27 := n1
  clear s1 f1 n1 k1
  refine wpTake_stepE ⟨some 28, Op.fieldAddr 65 (Operand.tmp 27) 4, 0, "", #[], none⟩ 28 (.pointer (some ⟨g, off + 8, none⟩)) HR.out.o12 rfl (by rw [hsz]; decide) (wanted_none rfl) (fun z hS => he3_12 bx g off kd tt pb nb cb _ z (fun _ => rfl) e27 hS) ?_
  intro a12 ha12 s1 f1 n1 k1
  replace hsz := s1.trans hsz
  replace hdf := f1.trans hdf
  replace e19 := (k1 19 (by decide)).trans e19
  replace e22 := (k1 22 (by decide)).trans e22
  replace e24 := (k1 24 (by decide)).trans e24
  have e28 := n1
  clear s1 f1 n1 k1
  refine wpTake_nil ?_
  refine wpAnyH_skip ⟨none, Op.store 3 (Operand.tmp 28) (Operand.tmp 22), 0, "", #[], none⟩ ((y.drew.setCell ⟨g, off + 6, none⟩ (.int .i64 tt)).setCell ⟨g, off + 8, none⟩ (.int .i64 kd)) HR.out.r13 HR.out.o13 rfl rfl (he_st13 g off kd tt pb nb cb v8 _ _ e28 e22 c8 f8) (hS2) ?_
  replace hHeld := hS2
  refine wpAnyH_takes HR.out.sel hQ hHeld [14, 15] 1 _ _ HR.out.may2 ?_
  refine wpTake_stepE ⟨some 29, Op.nilCheck (Operand.tmp 19), 0, "", #[], none⟩ 29 (.pointer (some ⟨g, off, none⟩)) HR.out.o14 rfl (by rw [hsz]; decide) (wanted_none rfl) (fun z hS => he3_14 bx g off kd tt pb nb cb _ z (fun _ => rfl) e19 hS) ?_
  intro a13 ha13 s1 f1 n1 k1
  replace hsz := s1.trans hsz
  replace hdf := f1.trans hdf
  replace e24 := (k1 24 (by decide)).trans e24
  have e29 := n1
  clear s1 f1 n1 k1
  refine wpTake_stepE ⟨some 30, Op.fieldAddr 65 (Operand.tmp 29) 5, 0, "", #[], none⟩ 30 (.pointer (some ⟨g, off + 9, none⟩)) HR.out.o15 rfl (by rw [hsz]; decide) (wanted_none rfl) (fun z hS => he3_15 bx g off kd tt pb nb cb _ z (fun _ => rfl) e29 hS) ?_
  intro a14 ha14 s1 f1 n1 k1
  replace hsz := s1.trans hsz
  replace hdf := f1.trans hdf
  replace e24 := (k1 24 (by decide)).trans e24
  have e30 := n1
  clear s1 f1 n1 k1
  refine wpTake_nil ?_
  refine wpAnyH_skip ⟨none, Op.store 27 (Operand.tmp 30) (Operand.tmp 24), 0, "", #[], none⟩ (((y.drew.setCell ⟨g, off + 6, none⟩ (.int .i64 tt)).setCell ⟨g, off + 8, none⟩ (.int .i64 kd)).setCell ⟨g, off + 9, none⟩ (.slice pb nb cb)) HR.out.r16 HR.out.o16 rfl rfl (he_st16 g off kd tt pb nb cb v9 _ _ e30 e24 c9 f9) (hS3) ?_
  replace hHeld := hS3
  refine wpAnyH_done HR.out.fin ?_ _
  rw [ha14, ha13, ha12, ha11, ha10, ha9, ha8, ha7, ha6, ha5, ha4, ha3, ha2, ha1]
  exact hK
-- R: ⟨by kernel_rfl, by kernel_rfl, by kernel_rfl, by kernel_rfl, by kernel_rfl, by kernel_rfl, by kernel_rfl, by kernel_rfl, by kernel_rfl, by kernel_rfl, by kernel_rfl, by kernel_rfl, by kernel_rfl, by kernel_rfl, by kernel_rfl, by kernel_rfl, by kernel_rfl, by kernel_rfl, by kernel_rfl, by kernel_rfl, by kernel_rfl, by kernel_rfl, by kernel_rfl, by kernel_rfl, by kernel_rfl, by kernel_rfl⟩

theorem own_put {w : World} {base g n cap sz : Nat} {e : TypeId} {xs : List Value} (h : w.ownsRow base e sz (.slice (some ⟨g, 0, none⟩) n cap) n xs) (j : Nat) (u : Value) (hj : j < xs.length) : (w.setCell ⟨g, j, none⟩ u).ownsRow base e sz (.slice (some ⟨g, 0, none⟩) n cap) n (xs.set j u) := by
  obtain ⟨h1, h2⟩ := h
  rcases h2 with ⟨h0, _⟩ | ⟨g', cap', cur, hv, hg, hh, hn, hcap, hsz, htake⟩
  · cases h0
  · cases hv
    refine ⟨by rw [List.length_set]; exact h1, .inr ⟨g, cap, cur.setIfInBounds j u, rfl, hg, ?_, hn, hcap, by simpa using hsz, ?_⟩⟩
    · exact heap_setCell_same w g j cur e u hh
    · rw [Array.toList_setIfInBounds, List.take_set, htake]
theorem own_fz {w : World} {base g n cap sz : Nat} {e : TypeId} {xs : List Value} (h : w.ownsRow base e sz (.slice (some ⟨g, 0, none⟩) n cap) n xs) (j : Nat) : w.frozen? ⟨g, j, none⟩ = false := by
  obtain ⟨h1, h2⟩ := h
  rcases h2 with ⟨h0, _⟩ | ⟨g', cap', cur, hv, hg, hh, hn, hcap, hsz, htake⟩
  · cases h0
  · cases hv
    exact frozen_of_row _ _ _ cur _ hh
theorem own_cl {w : World} {base g n cap sz : Nat} {e : TypeId} {xs : List Value} (h : w.ownsRow base e sz (.slice (some ⟨g, 0, none⟩) n cap) n xs) {j : Nat} {u : Value} (hj : xs[j]? = some u) : w.cell? ⟨g, j, none⟩ = some u := by
  have := h.cells (g := g) rfl j u hj
  rw [Addr.add_mid, Nat.zero_add] at this
  exact this
/-- a call that has heard -/
def hearP (c : Hc) (e : Ev) (tt : Int) : Hc := if e.kind != 4 && e.kind != 5 then { c with told := true, to := tt, says := e.kind, g := e.b } else { c with told := true }
theorem hflat_get : ∀ (l : List Hc) (k j : Nat) (c : Hc) (v : Value), l[k]? = some c → (hcell c)[j]? = some v → (hflat l)[k * 10 + j]? = some v
  | [], k, j, c, v, h, _ => by simp at h
  | x :: l, 0, j, c, v, h, hv => by
    simp at h
    subst h
    show (hcell x ++ hflat l)[0 * 10 + j]? = _
    have hj : j < 10 := by have := (List.getElem?_eq_some_iff.1 hv).1; simpa using this
    rw [Nat.zero_mul, Nat.zero_add, List.getElem?_append_left (by simpa using hj)]
    exact hv
  | x :: l, k + 1, j, c, v, h, hv => by
    have := hflat_get l k j c v (by simpa using h) hv
    show (hcell x ++ hflat l)[(k + 1) * 10 + j]? = _
    rw [List.getElem?_append_right (by simp; omega)]
    have e : (k + 1) * 10 + j - (hcell x).length = k * 10 + j := by simp; omega
    rw [e]
    exact this
theorem hflat_set : ∀ (l : List Hc) (k : Nat) (c d : Hc), l[k]? = some c → (hcell d)[0]? = (hcell c)[0]? → (hcell d)[1]? = (hcell c)[1]? → (hcell d)[2]? = (hcell c)[2]? → (hcell d)[3]? = (hcell c)[3]? → (hcell d)[4]? = (hcell c)[4]? → (hcell d)[5]? = (hcell c)[5]? → hflat (l.set k d) = ((((hflat l).set (k * 10 + 7) (.bool d.told)).set (k * 10 + 6) (.int .i64 d.to)).set (k * 10 + 8) (.int .i64 d.says)).set (k * 10 + 9) d.g.v
  | [], k, c, d, h, _, _, _, _, _, _ => by simp at h
  | x :: l, 0, c, d, h, h0, h1, h2, h3, h4, h5 => by
    simp at h
    subst h
    simp at h0 h1 h2 h3 h4 h5
    show hcell d ++ hflat l = ((((hcell x ++ hflat l).set (0 * 10 + 7) _).set (0 * 10 + 6) _).set (0 * 10 + 8) _).set (0 * 10 + 9) _
    simp [h0, h1, h2, h3, h4, h5]
  | x :: l, k + 1, c, d, h, h0, h1, h2, h3, h4, h5 => by
    have := hflat_set l k c d (by simpa using h) h0 h1 h2 h3 h4 h5
    show hcell x ++ hflat (l.set k d) = ((((hcell x ++ hflat l).set ((k + 1) * 10 + 7) _).set ((k + 1) * 10 + 6) _).set ((k + 1) * 10 + 8) _).set ((k + 1) * 10 + 9) _
    rw [this]
    have e : ∀ (m : List Value) (j : Nat) (v : Value), (hcell x ++ m).set ((k + 1) * 10 + j) v = hcell x ++ m.set (k * 10 + j) v := fun m j v => by
      rw [List.set_append_right _ _ (by simp; omega)]
      congr 2
      simp; omega
    rw [e, e, e, e]

set_option maxRecDepth 100000 in
set_option maxHeartbeats 3200000 in
theorem hear_ok (base g n cap k off : Nat) (cs : List Hc) (c : Hc) (e : Ev) (tt : Int) (w : World) (hk : cs[k]? = some c) (hoff : off = k * 10) (ho : w.ownsRow base 65 10 (.slice (some ⟨g, 0, none⟩) n cap) n (hflat cs)) (pb : Option Addr) (nb cb : Nat) (hb : e.b.v = .slice pb nb cb) :
    Calls Try.prog 29 #[.pointer (some ⟨g, off, none⟩), .agg (ecell e).toArray, .int .i64 tt] w fun r w' => r = .returned (.tuple #[]) ∧ Kp (fun b => b = g) w w' ∧ w'.ownsRow base 65 10 (.slice (some ⟨g, 0, none⟩) n cap) n (hflat (cs.set k (hearP c e tt))) := by
  have hglt : g < w.heap.size := (ownBlock_lt ho rfl).2
  have hkl : k < cs.length := (List.getElem?_eq_some_iff.1 hk).1
  have hfl := hflat_len cs
  obtain ⟨xa, hxa⟩ : ∃ xa, xa = (ecell e).toArray := ⟨_, rfl⟩
  rw [← hxa]
  obtain ⟨w1, hw1⟩ : ∃ w1, w1 = w.alloc (.cells xa 29) := ⟨_, rfl⟩
  have kk : Kp (fun _ => False) w w1 := by rw [hw1]; exact (Kp.refl _ _).alloc _
  have hL : Lv w1 w.heap.size xa.toList := by rw [hw1]; exact Lv.new w xa _
  obtain ⟨bx, hbx⟩ : ∃ bx, bx = w.heap.size := ⟨_, rfl⟩
  have hne : g ≠ bx := by omega
  rw [← hbx] at hL
  have o1 := ownsRow_keep ho kk (fun _ _ => id)
  have g7 := own_cl o1 (hflat_get cs k 7 c _ hk rfl)
  have g6 := own_cl o1 (hflat_get cs k 6 c _ hk rfl)
  have g8 := own_cl o1 (hflat_get cs k 8 c _ hk rfl)
  have g9 := own_cl o1 (hflat_get cs k 9 c _ hk rfl)
  rw [← hoff] at g7 g6 g8 g9
  have o2 := own_put o1 (off + 7) (.bool true) (by omega)
  obtain ⟨w2, hw2⟩ : ∃ w2, w2 = w1.setCell ⟨g, off + 7, none⟩ (.bool true) := ⟨_, rfl⟩
  have k2 : Kp (fun b => b = g) w1 w2 := by rw [hw2]; exact (Kp.refl (fun b => b = g) w1).setCell (fun _ => rfl) _
  rw [← hw2] at o2
  have hL2 : Lv w2 bx xa.toList := hL.keep k2 (fun e => hne e.symm)
  have c2 : w2.cell? ⟨bx, 2, none⟩ = some (.int .i64 e.kind) := hL2.cell (j := 2) (by rw [hxa]; rfl)
  have c4 : w2.cell? ⟨bx, 4, none⟩ = some e.b.v := hL2.cell (j := 4) (by rw [hxa]; rfl)
  have f7 := own_fz o1 (off + 7)
  have k02 : Kp (fun b => b = g) w w2 := (kk.mono (fun _ _ e => e.elim)).trans k2 (fun _ _ e => e)
  obtain ⟨kd, hkd⟩ : ∃ kd, kd = e.kind := ⟨_, rfl⟩
  have HKD : Hid (e.kind = kd) := hkd.symm
  rw [← hkd] at c2
  have HBV : Hid (e.b.v = .slice pb nb cb) := hb
  rw [hb] at c4
  have HHS : Hid (∀ d : Hc, d.e = c.e → d.fr = c.fr → hflat (cs.set k d) = ((((hflat cs).set (off + 7) (.bool d.told)).set (off + 6) (.int .i64 d.to)).set (off + 8) (.int .i64 d.says)).set (off + 9) d.g.v) := fun d e1 e2 => by
    rw [hoff]
    refine hflat_set cs k c d hk ?_ ?_ ?_ ?_ ?_ ?_ <;> simp [e1, e2]
  have HG : Hid ((hflat cs)[off + 6]? = some (.int .i64 c.to) ∧ (hflat cs)[off + 8]? = some (.int .i64 c.says) ∧ (hflat cs)[off + 9]? = some c.g.v ∧ off + 9 < (hflat cs).length) := by
    refine ⟨?_, ?_, ?_, by omega⟩ <;> rw [hoff] <;> exact hflat_get cs k _ c _ hk rfl
  have HO2 : Hid (w2.ownsRow base 65 10 (.slice (some ⟨g, 0, none⟩) n cap) n ((hflat cs).set (off + 7) (.bool true))) := o2
  have HK02 : Hid (Kp (fun b => b = g) w w2) := k02
  have HNE : Hid (g ≠ bx) := hne
  have HL2 : Hid (Lv w2 bx xa.toList) := hL2
  have HX : Hid (xa = (ecell e).toArray) := hxa
  clear hk hoff ho hglt hkl hfl hxa kk hL hne o1 g6 g8 g9 o2 k2 hL2 k02 hkd hb
  by_cases hq : kd = 4 ∨ kd = 5
  · have HP : Hid (hearP c e tt = { c with told := true }) := by
      show _ = _
      unfold hearP
      rw [HKD.out]
      rcases hq with rfl | rfl <;> simp
    have HF : Hid (hflat (cs.set k { c with told := true }) = (hflat cs).set (off + 7) (.bool true)) := by
      show _ = _
      rw [HHS.out { c with told := true } rfl rfl]
      obtain ⟨a6, a8, a9, al⟩ := HG.out
      have same : ∀ (l : List Value) (j : Nat) (v : Value), l[j]? = some v → l.set j v = l := fun l j v h => by
        obtain ⟨hj, he⟩ := List.getElem?_eq_some_iff.1 h
        rw [← he, List.set_getElem_self]
      show (((((hflat cs).set (off + 7) (.bool true)).set (off + 6) (.int .i64 c.to)).set (off + 8) (.int .i64 c.says)).set (off + 9) c.g.v) = _
      rw [same _ (off + 6) _ (by rw [List.getElem?_set_ne (by omega)]; exact a6), same _ (off + 8) _ (by rw [List.getElem?_set_ne (by omega)]; exact a8), same _ (off + 9) _ (by rw [List.getElem?_set_ne (by omega)]; exact a9)]
    rcases hq with rfl | rfl
    · go_enter Try.func29, Try.ntmps29
      rw [hbx] at c2 c4
      rw [hw1] at g7 f7 hw2
      rw [hw2] at c2 c4
      go_wp2
      go_end0
      rw [← hw2]
      exact ⟨rfl, HK02.out, by rw [HP.out, HF.out]; exact HO2.out⟩
    · go_enter Try.func29, Try.ntmps29
      rw [hbx] at c2 c4
      rw [hw1] at g7 f7 hw2
      rw [hw2] at c2 c4
      go_wp2
      go_end0
      rw [← hw2]
      exact ⟨rfl, HK02.out, by rw [HP.out, HF.out]; exact HO2.out⟩
  · have q4 : (kd == 4) = false := by simp; omega
    have q5 : (kd == 5) = false := by simp; omega
    have q4' : (kd != 4) = true := by simp; omega
    have q5' : (kd != 5) = true := by simp; omega
    have HP : Hid (hearP c e tt = { c with told := true, to := tt, says := e.kind, g := e.b }) := by
      show _ = _
      unfold hearP
      rw [HKD.out]
      simp [q4, q5]
      omega
    have HF : Hid (hflat (cs.set k { c with told := true, to := tt, says := e.kind, g := e.b }) = ((((hflat cs).set (off + 7) (.bool true)).set (off + 6) (.int .i64 tt)).set (off + 8) (.int .i64 kd)).set (off + 9) (.slice pb nb cb)) := by
      show _ = _
      rw [HHS.out { c with told := true, to := tt, says := e.kind, g := e.b } rfl rfl]
      rw [← HKD.out, ← HBV.out]
    have od := ownsRow_keep HO2.out ((Kp.refl (fun _ => False) w2).drew) (fun _ _ => id)
    have HLd : Hid (Lv w2.drew bx xa.toList) := HL2.out.keep ((Kp.refl (fun _ => False) w2).drew) id
    have p1 := own_put od (off + 6) (.int .i64 tt) (by rw [List.length_set]; have := HG.out.2.2.2; omega)
    have p2 := own_put p1 (off + 8) (.int .i64 kd) (by rw [List.length_set, List.length_set]; have := HG.out.2.2.2; omega)
    have p3 := own_put p2 (off + 9) (.slice pb nb cb) (by rw [List.length_set, List.length_set, List.length_set]; have := HG.out.2.2.2; omega)
    have i6 := own_cl od (j := off + 6) (u := .int .i64 c.to) (by rw [List.getElem?_set_ne (by omega)]; exact HG.out.1)
    have i8 := own_cl p1 (j := off + 8) (u := .int .i64 c.says) (by rw [List.getElem?_set_ne (by omega), List.getElem?_set_ne (by omega)]; exact HG.out.2.1)
    have i9 := own_cl p2 (j := off + 9) (u := c.g.v) (by rw [List.getElem?_set_ne (by omega), List.getElem?_set_ne (by omega), List.getElem?_set_ne (by omega)]; exact HG.out.2.2.1)
    have z6 := own_fz od (off + 6)
    have z8 := own_fz p1 (off + 8)
    have z9 := own_fz p2 (off + 9)
    have kp1 : Kp (fun b => b = g) w2.drew (w2.drew.setCell ⟨g, off + 6, none⟩ (.int .i64 tt)) := (Kp.refl (fun b => b = g) _).setCell (fun _ => rfl) _
    have kp2 := kp1.setCell (a := ⟨g, off + 8, none⟩) (fun _ => rfl) (.int .i64 kd)
    have kp3 := kp2.setCell (a := ⟨g, off + 9, none⟩) (fun _ => rfl) (.slice pb nb cb)
    have HS : Hid (∀ v, Kp (fun b => b = g) w2.drew v → v.cell? ⟨bx, 2, none⟩ = some (.int .i64 kd) ∧ v.cell? ⟨bx, 4, none⟩ = some (.slice pb nb cb)) := fun v kv => by
      have hv := HLd.out.keep kv (fun e => HNE.out e.symm)
      exact ⟨hv.cell (j := 2) (by rw [HX.out, ← HKD.out]; rfl), hv.cell (j := 4) (by rw [HX.out, ← HBV.out]; rfl)⟩
    have HRest : Hid (_ ∧ _ ∧ _ ∧ _ ∧ _ ∧ _ ∧ _ ∧ _ ∧ _ ∧ _) := ⟨p3, i6, i8, i9, z6, z8, z9, kp1, kp2, kp3⟩
    clear od p1 p2 p3 i6 i8 i9 z6 z8 z9 kp1 kp2 kp3 HHS HG hq
    go_enter Try.func29, Try.ntmps29
    rw [hbx] at c2 c4
    rw [hw1] at g7 f7 hw2
    rw [hw2] at c2 c4
    go_wp2_with fail
    rw [← hw2, ← hbx]
    obtain ⟨p3, i6, i8, i9, z6, z8, z9, kp1, kp2, kp3⟩ := HRest.out
    refine he3_region ⟨by kernel_rfl, by kernel_rfl, by kernel_rfl, by kernel_rfl, by kernel_rfl, by kernel_rfl, by kernel_rfl, by kernel_rfl, by kernel_rfl, by kernel_rfl, by kernel_rfl, by kernel_rfl, by kernel_rfl, by kernel_rfl, by kernel_rfl, by kernel_rfl, by kernel_rfl, by kernel_rfl, by kernel_rfl, by kernel_rfl, by kernel_rfl, by kernel_rfl, by kernel_rfl, by kernel_rfl, by kernel_rfl, by kernel_rfl⟩ bx g off kd tt pb nb cb (fun d _ _ _ _ h => by cases d <;> exact h) (by rfl) (by rfl) (by rfl) (by rfl) (HS.out _ (Kp.refl _ _)) (HS.out _ kp1) (HS.out _ kp2) (HS.out _ kp3) _ _ _ i6 z6 i8 z8 i9 z9 ?_
    simp only [Act.put, List.setIfInBounds_toArray, List.set_cons_succ, List.set_cons_zero]
    go_wp2
    go_end0
    refine ⟨rfl, (HK02.out.drew).trans kp3 (fun _ _ e => e), ?_⟩
    rw [HP.out, HF.out]
    exact p3
end Go.Proofs.Ytbbgplnenbkfeaa
