/- The drawn regions of read (laid by scripts/mkud.py). -/
import Derived.Test.YtbbgplnenbkfeaaUc
namespace Go.Proofs.Ytbbgplnenbkfeaa
set_option linter.unusedVariables false
set_option linter.unusedSimpArgs false
open Go.RowKit Go.Deep Go.Maps

theorem exec_ldr {ev : Operand → Value} {d : Option Tmp} {g : Option (Nat × Bool)} {ty ty2 : TypeId} {x : Operand} {v : Value} {b : Addr} {z : World} (he : ev x = .pointer (some b)) (hr : (loadVar ty b).run Try.prog z = .ok v z) : (execOp ev ⟨d, Op.load ty x, ty2, "", #[], g⟩).run Try.prog z = .ok (.value v) z := by
  unfold execOp
  simp only [he]
  simp [Instr.loadAt, Instr.sureAddr, hr]

theorem rd11_0 (ex g n cap i : Nat) (hi : (i : Int) < (n : Int)) (ea : Array Value) (r : Bool) (ev : Operand → Value) (z : World) (ec : ∀ c, ev (.const c) = c) (e7 : ev (.tmp 7) = .pointer (some ⟨ex, 0, none⟩)) (hS : z.cell? ⟨ex, 0, none⟩ = some (.bool true) ∧ (loadVar 29 ⟨ex, 0, none⟩).run Try.prog z = .ok (.agg ea) z) : (execOp ev ⟨some 49, Op.fieldAddr 29 (Operand.tmp 7) 0, 0, "", #[], none⟩).run Try.prog z = .ok (.value (.pointer (some ⟨ex, 0, none⟩))) z := by
  obtain ⟨s0, sl⟩ := hS
  go_simp
theorem rd11_1 (ex g n cap i : Nat) (hi : (i : Int) < (n : Int)) (ea : Array Value) (r : Bool) (ev : Operand → Value) (z : World) (ec : ∀ c, ev (.const c) = c) (e49 : ev (.tmp 49) = .pointer (some ⟨ex, 0, none⟩)) (hS : z.cell? ⟨ex, 0, none⟩ = some (.bool true) ∧ (loadVar 29 ⟨ex, 0, none⟩).run Try.prog z = .ok (.agg ea) z) : (execOp ev ⟨some 50, Op.load 4 (Operand.tmp 49), 4, "", #[], none⟩).run Try.prog z = .ok (.value (.bool true)) z := by
  obtain ⟨s0, sl⟩ := hS
  go_simp
theorem rd11_2 (ex g n cap i : Nat) (hi : (i : Int) < (n : Int)) (ea : Array Value) (r : Bool) (ev : Operand → Value) (z : World) (ec : ∀ c, ev (.const c) = c) (e50 : ev (.tmp 50) = .bool true) (hS : z.cell? ⟨ex, 0, none⟩ = some (.bool true) ∧ (loadVar 29 ⟨ex, 0, none⟩).run Try.prog z = .ok (.agg ea) z) : (execOp ev ⟨some 51, Op.move (Operand.tmp 50), 4, "", #[], none⟩).run Try.prog z = .ok (.value (.bool true)) z := by
  obtain ⟨s0, sl⟩ := hS
  go_simp
theorem rd11_3 (ex g n cap i : Nat) (hi : (i : Int) < (n : Int)) (ea : Array Value) (r : Bool) (ev : Operand → Value) (z : World) (ec : ∀ c, ev (.const c) = c) (e9 : ev (.tmp 9) = .bool true) (hS : z.cell? ⟨ex, 0, none⟩ = some (.bool true) ∧ (loadVar 29 ⟨ex, 0, none⟩).run Try.prog z = .ok (.agg ea) z) : (execOp ev ⟨some 52, Op.move (Operand.tmp 9), 4, "", #[], some (2, true)⟩).run Try.prog z = .ok (.value (.bool true)) z := by
  obtain ⟨s0, sl⟩ := hS
  go_simp
theorem rd11_4 (ex g n cap i : Nat) (hi : (i : Int) < (n : Int)) (ea : Array Value) (r : Bool) (ev : Operand → Value) (z : World) (ec : ∀ c, ev (.const c) = c) (e51 : ev (.tmp 51) = .bool true) (e52 : ev (.tmp 52) = .bool true) (hS : z.cell? ⟨ex, 0, none⟩ = some (.bool true) ∧ (loadVar 29 ⟨ex, 0, none⟩).run Try.prog z = .ok (.agg ea) z) : (execOp ev ⟨some 53, Op.pick (Operand.tmp 51) (Operand.tmp 52) (Operand.const (Value.bool false)), 4, "", #[], none⟩).run Try.prog z = .ok (.value (.bool true)) z := by
  obtain ⟨s0, sl⟩ := hS
  go_simp
theorem rd11_5 (ex g n cap i : Nat) (hi : (i : Int) < (n : Int)) (ea : Array Value) (r : Bool) (ev : Operand → Value) (z : World) (ec : ∀ c, ev (.const c) = c) (e53 : ev (.tmp 53) = .bool true) (hS : z.cell? ⟨ex, 0, none⟩ = some (.bool true) ∧ (loadVar 29 ⟨ex, 0, none⟩).run Try.prog z = .ok (.agg ea) z) : (execOp ev ⟨some 54, Op.move (Operand.tmp 53), 4, "", #[], none⟩).run Try.prog z = .ok (.value (.bool true)) z := by
  obtain ⟨s0, sl⟩ := hS
  go_simp
theorem rd11_6 (ex g n cap i : Nat) (hi : (i : Int) < (n : Int)) (ea : Array Value) (r : Bool) (ev : Operand → Value) (z : World) (ec : ∀ c, ev (.const c) = c) (e4 : ev (.tmp 4) = .slice (some ⟨g, 0, none⟩) n cap) (hS : z.cell? ⟨ex, 0, none⟩ = some (.bool true) ∧ (loadVar 29 ⟨ex, 0, none⟩).run Try.prog z = .ok (.agg ea) z) : (execOp ev ⟨some 55, Op.move (Operand.tmp 4), 41, "", #[], some (5, true)⟩).run Try.prog z = .ok (.value (.slice (some ⟨g, 0, none⟩) n cap)) z := by
  obtain ⟨s0, sl⟩ := hS
  go_simp
theorem rd11_7 (ex g n cap i : Nat) (hi : (i : Int) < (n : Int)) (ea : Array Value) (r : Bool) (ev : Operand → Value) (z : World) (ec : ∀ c, ev (.const c) = c) (e8 : ev (.tmp 8) = .int .i64 (i : Int)) (hS : z.cell? ⟨ex, 0, none⟩ = some (.bool true) ∧ (loadVar 29 ⟨ex, 0, none⟩).run Try.prog z = .ok (.agg ea) z) : (execOp ev ⟨some 56, Op.move (Operand.tmp 8), 3, "", #[], some (5, true)⟩).run Try.prog z = .ok (.value (.int .i64 (i : Int))) z := by
  obtain ⟨s0, sl⟩ := hS
  go_simp
theorem rd11_8 (ex g n cap i : Nat) (hi : (i : Int) < (n : Int)) (ea : Array Value) (r : Bool) (ev : Operand → Value) (z : World) (ec : ∀ c, ev (.const c) = c) (e55 : ev (.tmp 55) = .slice (some ⟨g, 0, none⟩) n cap) (e56 : ev (.tmp 56) = .int .i64 (i : Int)) (hS : z.cell? ⟨ex, 0, none⟩ = some (.bool true) ∧ (loadVar 29 ⟨ex, 0, none⟩).run Try.prog z = .ok (.agg ea) z) : (execOp ev ⟨some 57, Op.indexAddr 41 (Operand.tmp 55) (Operand.tmp 56), 0, "", #[], some (5, true)⟩).run Try.prog z = .ok (.value (.pointer (some ⟨g, i * 10, none⟩))) z := by
  obtain ⟨s0, sl⟩ := hS
  go_simp
theorem rd11_9 (ex g n cap i : Nat) (hi : (i : Int) < (n : Int)) (ea : Array Value) (r : Bool) (ev : Operand → Value) (z : World) (ec : ∀ c, ev (.const c) = c) (e7 : ev (.tmp 7) = .pointer (some ⟨ex, 0, none⟩)) (hS : z.cell? ⟨ex, 0, none⟩ = some (.bool true) ∧ (loadVar 29 ⟨ex, 0, none⟩).run Try.prog z = .ok (.agg ea) z) : (execOp ev ⟨some 58, Op.load 29 (Operand.tmp 7), 29, "", #[], some (5, true)⟩).run Try.prog z = .ok (.value (.agg ea)) z := by
  exact exec_ldr e7 hS.2
set_option maxRecDepth 100000 in
theorem rd11_10 (ex g n cap i : Nat) (hi : (i : Int) < (n : Int)) (ea : Array Value) (r : Bool) (ev : Operand → Value) (z : World) (ec : ∀ c, ev (.const c) = c) (ef : ev (.func 28) = .func (.func 28) #[] #[]) (e57 : ev (.tmp 57) = .pointer (some ⟨g, i * 10, none⟩)) (e58 : ev (.tmp 58) = .agg ea) : (execOp ev ⟨some 59, Op.call { callee := Callee.value (Operand.func 28), args := #[Operand.tmp 57, Operand.tmp 58], argTypes := #[65, 29] }, 4, "", #[], some (5, true)⟩).run Try.prog z = .ok (.enter 28 #[.pointer (some ⟨g, i * 10, none⟩), .agg ea]) z :=
  enter_run _ ef (by simp only [List.map_toArray, List.map_cons, List.map_nil, ec, e57, e58]) (fun _ => by rfl)
theorem rd11_11 (ex g n cap i : Nat) (hi : (i : Int) < (n : Int)) (ea : Array Value) (r : Bool) (ev : Operand → Value) (z : World) (ec : ∀ c, ev (.const c) = c) (e54 : ev (.tmp 54) = .bool true) (e59 : ev (.tmp 59) = .bool r) (hS : z.cell? ⟨ex, 0, none⟩ = some (.bool true) ∧ (loadVar 29 ⟨ex, 0, none⟩).run Try.prog z = .ok (.agg ea) z) : (execOp ev ⟨some 60, Op.pick (Operand.tmp 54) (Operand.tmp 59) (Operand.const (Value.bool false)), 4, "", #[], none⟩).run Try.prog z = .ok (.value (.bool r)) z := by
  obtain ⟨s0, sl⟩ := hS
  go_simp
theorem rd11_12 (ex g n cap i : Nat) (hi : (i : Int) < (n : Int)) (ea : Array Value) (r : Bool) (ev : Operand → Value) (z : World) (ec : ∀ c, ev (.const c) = c) (e60 : ev (.tmp 60) = .bool r) (hS : z.cell? ⟨ex, 0, none⟩ = some (.bool true) ∧ (loadVar 29 ⟨ex, 0, none⟩).run Try.prog z = .ok (.agg ea) z) : (execOp ev ⟨some 48, Op.assign (Operand.tmp 60), 4, "", #[], none⟩).run Try.prog z = .ok (.value (.bool r)) z := by
  obtain ⟨s0, sl⟩ := hS
  go_simp
structure rd11R (ops : Array Oper) : Prop where
  size : ops.size = 13
  sel : Region.noSelect ops = true
  o0 : (ops[0]?).map bare = some ⟨some 49, Op.fieldAddr 29 (Operand.tmp 7) 0, 0, "", #[], none⟩
  o1 : (ops[1]?).map bare = some ⟨some 50, Op.load 4 (Operand.tmp 49), 4, "", #[], none⟩
  o2 : (ops[2]?).map bare = some ⟨some 51, Op.move (Operand.tmp 50), 4, "", #[], none⟩
  o3 : (ops[3]?).map bare = some ⟨some 52, Op.move (Operand.tmp 9), 4, "", #[], some (2, true)⟩
  o4 : (ops[4]?).map bare = some ⟨some 53, Op.pick (Operand.tmp 51) (Operand.tmp 52) (Operand.const (Value.bool false)), 4, "", #[], none⟩
  o5 : (ops[5]?).map bare = some ⟨some 54, Op.move (Operand.tmp 53), 4, "", #[], none⟩
  o6 : (ops[6]?).map bare = some ⟨some 55, Op.move (Operand.tmp 4), 41, "", #[], some (5, true)⟩
  o7 : (ops[7]?).map bare = some ⟨some 56, Op.move (Operand.tmp 8), 3, "", #[], some (5, true)⟩
  o8 : (ops[8]?).map bare = some ⟨some 57, Op.indexAddr 41 (Operand.tmp 55) (Operand.tmp 56), 0, "", #[], some (5, true)⟩
  o9 : (ops[9]?).map bare = some ⟨some 58, Op.load 29 (Operand.tmp 7), 29, "", #[], some (5, true)⟩
  o10 : (ops[10]?).map bare = some ⟨some 59, Op.call { callee := Callee.value (Operand.func 28), args := #[Operand.tmp 57, Operand.tmp 58], argTypes := #[65, 29] }, 4, "", #[], some (5, true)⟩
  o11 : (ops[11]?).map bare = some ⟨some 60, Op.pick (Operand.tmp 54) (Operand.tmp 59) (Operand.const (Value.bool false)), 4, "", #[], none⟩
  o12 : (ops[12]?).map bare = some ⟨some 48, Op.assign (Operand.tmp 60), 4, "", #[], none⟩
  may0 : takeB .any ops [0, 1, 2, 3, 4, 5, 6, 7, 8, 9] (Array.replicate 13 false) = true
  r10 : Region.ready .any ops (mark [0, 1, 2, 3, 4, 5, 6, 7, 8, 9] (Array.replicate 13 false)) = [10]
  may1 : takeB .any ops [11, 12] ((mark [0, 1, 2, 3, 4, 5, 6, 7, 8, 9] (Array.replicate 13 false)).setIfInBounds 10 true) = true
  fin : Region.ready .any ops (mark [11, 12] ((mark [0, 1, 2, 3, 4, 5, 6, 7, 8, 9] (Array.replicate 13 false)).setIfInBounds 10 true)) = []

set_option maxRecDepth 100000 in
set_option maxHeartbeats 3200000 in
theorem rd11_region {ops : Array Oper} {id : Nat} {Q : Exit → Act → World → Prop} {a : Act} {y : World} (R : rd11R ops) (ex g n cap i : Nat) (hi : (i : Int) < (n : Int)) (ea : Array Value) (r : Bool)
    (hQ : ∀ d v c a w, Q (.panic c) (a.put d v) w → Q (.panic c) a w) (hsz : a.tmps.size = 69) (e4 : a.eval (.tmp 4) = .slice (some ⟨g, 0, none⟩) n cap) (e7 : a.eval (.tmp 7) = .pointer (some ⟨ex, 0, none⟩)) (e8 : a.eval (.tmp 8) = .int .i64 (i : Int)) (e9 : a.eval (.tmp 9) = .bool true) (hS0 : y.drew.cell? ⟨ex, 0, none⟩ = some (.bool true) ∧ (loadVar 29 ⟨ex, 0, none⟩).run Try.prog y.drew = .ok (.agg ea) y.drew) (T : World → Prop) (hc : Calls Try.prog 28 #[.pointer (some ⟨g, i * 10, none⟩), .agg ea] y.drew fun e w9 => e = .returned (.bool r) ∧ (w9.cell? ⟨ex, 0, none⟩ = some (.bool true) ∧ (loadVar 29 ⟨ex, 0, none⟩).run Try.prog w9 = .ok (.agg ea) w9) ∧ T w9)
    (hK : ∀ w9 : World, T w9 → Q .normal (((((((((((((a.put (some 49) (.pointer (some ⟨ex, 0, none⟩))).put (some 50) (.bool true)).put (some 51) (.bool true)).put (some 52) (.bool true)).put (some 53) (.bool true)).put (some 54) (.bool true)).put (some 55) (.slice (some ⟨g, 0, none⟩) n cap)).put (some 56) (.int .i64 (i : Int))).put (some 57) (.pointer (some ⟨g, i * 10, none⟩))).put (some 58) (.agg ea)).put (some 59) (.bool r)).put (some 60) (.bool r)).put (some 48) (.bool r)) w9) : (Code.region id ops true).wp Try.prog Q a y := by
  have HR : Hid (rd11R ops) := R
  have hdf : a.defers = a.defers := rfl
  refine wp_region_held_drew (S := (fun z : World => z.cell? ⟨ex, 0, none⟩ = some (.bool true) ∧ (loadVar 29 ⟨ex, 0, none⟩).run Try.prog z = .ok (.agg ea) z)) (by kernel_rfl) (hS0) (fun hHeld => ?_)
  rw [R.size]
  clear R
  refine wpAnyH_takes HR.out.sel hQ hHeld [0, 1, 2, 3, 4, 5, 6, 7, 8, 9] 3 _ _ HR.out.may0 ?_
  refine wpTake_stepE ⟨some 49, Op.fieldAddr 29 (Operand.tmp 7) 0, 0, "", #[], none⟩ 49 (.pointer (some ⟨ex, 0, none⟩)) HR.out.o0 rfl (by rw [hsz]; decide) (wanted_none rfl) (fun z hS => rd11_0 ex g n cap i hi ea r _ z (fun _ => rfl) e7 hS) ?_
  intro a1 ha1 s1 f1 n1 k1
  replace hsz := s1.trans hsz
  replace hdf := f1.trans hdf
  replace e4 := (k1 4 (by decide)).trans e4
  replace e7 := (k1 7 (by decide)).trans e7
  replace e8 := (k1 8 (by decide)).trans e8
  replace e9 := (k1 9 (by decide)).trans e9
  have e49 := n1
  clear s1 f1 n1 k1
  refine wpTake_stepE ⟨some 50, Op.load 4 (Operand.tmp 49), 4, "", #[], none⟩ 50 (.bool true) HR.out.o1 rfl (by rw [hsz]; decide) (wanted_none rfl) (fun z hS => rd11_1 ex g n cap i hi ea r _ z (fun _ => rfl) e49 hS) ?_
  intro a2 ha2 s1 f1 n1 k1
  replace hsz := s1.trans hsz
  replace hdf := f1.trans hdf
  replace e4 := (k1 4 (by decide)).trans e4
  replace e7 := (k1 7 (by decide)).trans e7
  replace e8 := (k1 8 (by decide)).trans e8
  replace e9 := (k1 9 (by decide)).trans e9
  have e50 := n1
  clear s1 f1 n1 k1
  refine wpTake_stepE ⟨some 51, Op.move (Operand.tmp 50), 4, "", #[], none⟩ 51 (.bool true) HR.out.o2 rfl (by rw [hsz]; decide) (wanted_none rfl) (fun z hS => rd11_2 ex g n cap i hi ea r _ z (fun _ => rfl) e50 hS) ?_
  intro a3 ha3 s1 f1 n1 k1
  replace hsz := s1.trans hsz
  replace hdf := f1.trans hdf
  replace e4 := (k1 4 (by decide)).trans e4
  replace e7 := (k1 7 (by decide)).trans e7
  replace e8 := (k1 8 (by decide)).trans e8
  replace e9 := (k1 9 (by decide)).trans e9
  have e51 := n1
  clear s1 f1 n1 k1
  refine wpTake_stepE ⟨some 52, Op.move (Operand.tmp 9), 4, "", #[], some (2, true)⟩ 52 (.bool true) HR.out.o3 rfl (by rw [hsz]; decide) (wanted_some rfl (yielded_of HR.out.o2 rfl e51 (by rw [hsz]; decide))) (fun z hS => rd11_3 ex g n cap i hi ea r _ z (fun _ => rfl) e9 hS) ?_
  intro a4 ha4 s1 f1 n1 k1
  replace hsz := s1.trans hsz
  replace hdf := f1.trans hdf
  replace e4 := (k1 4 (by decide)).trans e4
  replace e7 := (k1 7 (by decide)).trans e7
  replace e8 := (k1 8 (by decide)).trans e8
  replace e51 := (k1 51 (by decide)).trans e51
  have e52 := n1
  clear s1 f1 n1 k1
  refine wpTake_stepE ⟨some 53, Op.pick (Operand.tmp 51) (Operand.tmp 52) (Operand.const (Value.bool false)), 4, "", #[], none⟩ 53 (.bool true) HR.out.o4 rfl (by rw [hsz]; decide) (wanted_none rfl) (fun z hS => rd11_4 ex g n cap i hi ea r _ z (fun _ => rfl) e51 e52 hS) ?_
  intro a5 ha5 s1 f1 n1 k1
  replace hsz := s1.trans hsz
  replace hdf := f1.trans hdf
  replace e4 := (k1 4 (by decide)).trans e4
  replace e7 := (k1 7 (by decide)).trans e7
  replace e8 := (k1 8 (by decide)).trans e8
  have e53 := n1
  clear s1 f1 n1 k1
  refine wpTake_stepE ⟨some 54, Op.move (Operand.tmp 53), 4, "", #[], none⟩ 54 (.bool true) HR.out.o5 rfl (by rw [hsz]; decide) (wanted_none rfl) (fun z hS => rd11_5 ex g n cap i hi ea r _ z (fun _ => rfl) e53 hS) ?_
  intro a6 ha6 s1 f1 n1 k1
  replace hsz := s1.trans hsz
  replace hdf := f1.trans hdf
  replace e4 := (k1 4 (by decide)).trans e4
  replace e7 := (k1 7 (by decide)).trans e7
  replace e8 := (k1 8 (by decide)).trans e8
  have e54 := n1
  clear s1 f1 n1 k1
  refine wpTake_stepE ⟨some 55, Op.move (Operand.tmp 4), 41, "", #[], some (5, true)⟩ 55 (.slice (some ⟨g, 0, none⟩) n cap) HR.out.o6 rfl (by rw [hsz]; decide) (wanted_some rfl (yielded_of HR.out.o5 rfl e54 (by rw [hsz]; decide))) (fun z hS => rd11_6 ex g n cap i hi ea r _ z (fun _ => rfl) e4 hS) ?_
  intro a7 ha7 s1 f1 n1 k1
  replace hsz := s1.trans hsz
  replace hdf := f1.trans hdf
  replace e7 := (k1 7 (by decide)).trans e7
  replace e8 := (k1 8 (by decide)).trans e8
  replace e54 := (k1 54 (by decide)).trans e54
  have e55 := n1
  clear s1 f1 n1 k1
  refine wpTake_stepE ⟨some 56, Op.move (Operand.tmp 8), 3, "", #[], some (5, true)⟩ 56 (.int .i64 (i : Int)) HR.out.o7 rfl (by rw [hsz]; decide) (wanted_some rfl (yielded_of HR.out.o5 rfl e54 (by rw [hsz]; decide))) (fun z hS => rd11_7 ex g n cap i hi ea r _ z (fun _ => rfl) e8 hS) ?_
  intro a8 ha8 s1 f1 n1 k1
  replace hsz := s1.trans hsz
  replace hdf := f1.trans hdf
  replace e7 := (k1 7 (by decide)).trans e7
  replace e54 := (k1 54 (by decide)).trans e54
  replace e55 := (k1 55 (by decide)).trans e55
  have e56 := n1
  clear s1 f1 n1 k1
  refine wpTake_stepE ⟨some 57, Op.indexAddr 41 (Operand.tmp 55) (Operand.tmp 56), 0, "", #[], some (5, true)⟩ 57 (.pointer (some ⟨g, i * 10, none⟩)) HR.out.o8 rfl (by rw [hsz]; decide) (wanted_some rfl (yielded_of HR.out.o5 rfl e54 (by rw [hsz]; decide))) (fun z hS => rd11_8 ex g n cap i hi ea r _ z (fun _ => rfl) e55 e56 hS) ?_
  intro a9 ha9 s1 f1 n1 k1
  replace hsz := s1.trans hsz
  replace hdf := f1.trans hdf
  replace e7 := (k1 7 (by decide)).trans e7
  replace e54 := (k1 54 (by decide)).trans e54
  have e57 := n1
  clear s1 f1 n1 k1
  refine wpTake_stepE ⟨some 58, Op.load 29 (Operand.tmp 7), 29, "", #[], some (5, true)⟩ 58 (.agg ea) HR.out.o9 rfl (by rw [hsz]; decide) (wanted_some rfl (yielded_of HR.out.o5 rfl e54 (by rw [hsz]; decide))) (fun z hS => rd11_9 ex g n cap i hi ea r _ z (fun _ => rfl) e7 hS) ?_
  intro a10 ha10 s1 f1 n1 k1
  replace hsz := s1.trans hsz
  replace hdf := f1.trans hdf
  replace e54 := (k1 54 (by decide)).trans e54
  replace e57 := (k1 57 (by decide)).trans e57
  have e58 := n1
  clear s1 f1 n1 k1
  refine wpTake_nil ?_
  refine wpAnyH_oneG ⟨some 59, Op.call { callee := Callee.value (Operand.func 28), args := #[Operand.tmp 57, Operand.tmp 58], argTypes := #[65, 29] }, 4, "", #[], some (5, true)⟩ HR.out.r10 HR.out.o10 (wanted_some rfl (yielded_of HR.out.o5 rfl e54 (by rw [hsz]; decide))) (fun K' hK' => ?_)
  refine wp_enter (rd11_10 ex g n cap i hi ea r _ _ (fun _ => rfl) rfl e57 e58) (hc) ?_
  rintro e9 w9 ⟨rfl, hS9, hT⟩
  refine ⟨_, rfl, hK'.out _ _ (hS9) ?_⟩
  replace hHeld := hS9
  clear hK' K'
  show wpAnyH _ _ _ _ _ _ _ (Act.put a10 (some 59) (.bool r)) _
  obtain ⟨s1, f1, n1, k1⟩ := act_put a10 59 (.bool r) (show 59 < _ by rw [hsz]; decide)
  obtain ⟨a11, ha11⟩ : ∃ x, x = Act.put a10 (some 59) (.bool r) := ⟨_, rfl⟩
  rw [← ha11] at s1 f1 n1 k1 ⊢
  replace hsz := s1.trans hsz
  replace hdf := f1.trans hdf
  replace e54 := (k1 54 (by decide)).trans e54
  have e59 := n1
  clear s1 f1 n1 k1
  refine wpAnyH_takes HR.out.sel hQ hHeld [11, 12] 0 _ _ HR.out.may1 ?_
  refine wpTake_stepE ⟨some 60, Op.pick (Operand.tmp 54) (Operand.tmp 59) (Operand.const (Value.bool false)), 4, "", #[], none⟩ 60 (.bool r) HR.out.o11 rfl (by rw [hsz]; decide) (wanted_none rfl) (fun z hS => rd11_11 ex g n cap i hi ea r _ z (fun _ => rfl) e54 e59 hS) ?_
  intro a12 ha12 s1 f1 n1 k1
  replace hsz := s1.trans hsz
  replace hdf := f1.trans hdf
  have e60 := n1
  clear s1 f1 n1 k1
  refine wpTake_stepE ⟨some 48, Op.assign (Operand.tmp 60), 4, "", #[], none⟩ 48 (.bool r) HR.out.o12 rfl (by rw [hsz]; decide) (wanted_none rfl) (fun z hS => rd11_12 ex g n cap i hi ea r _ z (fun _ => rfl) e60 hS) ?_
  intro a13 ha13 s1 f1 n1 k1
  replace hsz := s1.trans hsz
  replace hdf := f1.trans hdf
  clear s1 f1 n1 k1
  refine wpTake_nil ?_
  refine wpAnyH_done HR.out.fin ?_ _
  rw [ha13, ha12, ha11, ha10, ha9, ha8, ha7, ha6, ha5, ha4, ha3, ha2, ha1]
  exact hK _ hT
-- R: ⟨by kernel_rfl, by kernel_rfl, by kernel_rfl, by kernel_rfl, by kernel_rfl, by kernel_rfl, by kernel_rfl, by kernel_rfl, by kernel_rfl, by kernel_rfl, by kernel_rfl, by kernel_rfl, by kernel_rfl, by kernel_rfl, by kernel_rfl, by kernel_rfl, by kernel_rfl, by kernel_rfl, by kernel_rfl⟩

theorem rd12_0 (ex g n cap i : Nat) (hi : (i : Int) < (n : Int)) (ea : Array Value) (tt : Int) (ev : Operand → Value) (z : World) (ec : ∀ c, ev (.const c) = c) (e4 : ev (.tmp 4) = .slice (some ⟨g, 0, none⟩) n cap) (hS : (loadVar 29 ⟨ex, 0, none⟩).run Try.prog z = .ok (.agg ea) z) : (execOp ev ⟨some 61, Op.move (Operand.tmp 4), 41, "", #[], none⟩).run Try.prog z = .ok (.value (.slice (some ⟨g, 0, none⟩) n cap)) z := by
  obtain sl := hS
  go_simp
theorem rd12_1 (ex g n cap i : Nat) (hi : (i : Int) < (n : Int)) (ea : Array Value) (tt : Int) (ev : Operand → Value) (z : World) (ec : ∀ c, ev (.const c) = c) (e8 : ev (.tmp 8) = .int .i64 (i : Int)) (hS : (loadVar 29 ⟨ex, 0, none⟩).run Try.prog z = .ok (.agg ea) z) : (execOp ev ⟨some 62, Op.move (Operand.tmp 8), 3, "", #[], none⟩).run Try.prog z = .ok (.value (.int .i64 (i : Int))) z := by
  obtain sl := hS
  go_simp
theorem rd12_2 (ex g n cap i : Nat) (hi : (i : Int) < (n : Int)) (ea : Array Value) (tt : Int) (ev : Operand → Value) (z : World) (ec : ∀ c, ev (.const c) = c) (e61 : ev (.tmp 61) = .slice (some ⟨g, 0, none⟩) n cap) (e62 : ev (.tmp 62) = .int .i64 (i : Int)) (hS : (loadVar 29 ⟨ex, 0, none⟩).run Try.prog z = .ok (.agg ea) z) : (execOp ev ⟨some 63, Op.indexAddr 41 (Operand.tmp 61) (Operand.tmp 62), 0, "", #[], none⟩).run Try.prog z = .ok (.value (.pointer (some ⟨g, i * 10, none⟩))) z := by
  obtain sl := hS
  go_simp
theorem rd12_3 (ex g n cap i : Nat) (hi : (i : Int) < (n : Int)) (ea : Array Value) (tt : Int) (ev : Operand → Value) (z : World) (ec : ∀ c, ev (.const c) = c) (e7 : ev (.tmp 7) = .pointer (some ⟨ex, 0, none⟩)) (hS : (loadVar 29 ⟨ex, 0, none⟩).run Try.prog z = .ok (.agg ea) z) : (execOp ev ⟨some 64, Op.load 29 (Operand.tmp 7), 29, "", #[], none⟩).run Try.prog z = .ok (.value (.agg ea)) z := by
  exact exec_ldr e7 hS
theorem rd12_4 (ex g n cap i : Nat) (hi : (i : Int) < (n : Int)) (ea : Array Value) (tt : Int) (ev : Operand → Value) (z : World) (ec : ∀ c, ev (.const c) = c) (e6 : ev (.tmp 6) = .int .i64 tt) (hS : (loadVar 29 ⟨ex, 0, none⟩).run Try.prog z = .ok (.agg ea) z) : (execOp ev ⟨some 65, Op.move (Operand.tmp 6), 3, "", #[], none⟩).run Try.prog z = .ok (.value (.int .i64 tt)) z := by
  obtain sl := hS
  go_simp
set_option maxRecDepth 100000 in
theorem rd12_5 (ex g n cap i : Nat) (hi : (i : Int) < (n : Int)) (ea : Array Value) (tt : Int) (ev : Operand → Value) (z : World) (ec : ∀ c, ev (.const c) = c) (ef : ev (.func 29) = .func (.func 29) #[] #[]) (e63 : ev (.tmp 63) = .pointer (some ⟨g, i * 10, none⟩)) (e64 : ev (.tmp 64) = .agg ea) (e65 : ev (.tmp 65) = .int .i64 tt) : (execOp ev ⟨some 66, Op.call { callee := Callee.value (Operand.func 29), args := #[Operand.tmp 63, Operand.tmp 64, Operand.tmp 65], argTypes := #[65, 29, 3] }, 0, "", #[], none⟩).run Try.prog z = .ok (.enter 29 #[.pointer (some ⟨g, i * 10, none⟩), .agg ea, .int .i64 tt]) z :=
  enter_run _ ef (by simp only [List.map_toArray, List.map_cons, List.map_nil, ec, e63, e64, e65]) (fun _ => by rfl)
structure rd12R (ops : Array Oper) : Prop where
  size : ops.size = 6
  sel : Region.noSelect ops = true
  o0 : (ops[0]?).map bare = some ⟨some 61, Op.move (Operand.tmp 4), 41, "", #[], none⟩
  o1 : (ops[1]?).map bare = some ⟨some 62, Op.move (Operand.tmp 8), 3, "", #[], none⟩
  o2 : (ops[2]?).map bare = some ⟨some 63, Op.indexAddr 41 (Operand.tmp 61) (Operand.tmp 62), 0, "", #[], none⟩
  o3 : (ops[3]?).map bare = some ⟨some 64, Op.load 29 (Operand.tmp 7), 29, "", #[], none⟩
  o4 : (ops[4]?).map bare = some ⟨some 65, Op.move (Operand.tmp 6), 3, "", #[], none⟩
  o5 : (ops[5]?).map bare = some ⟨some 66, Op.call { callee := Callee.value (Operand.func 29), args := #[Operand.tmp 63, Operand.tmp 64, Operand.tmp 65], argTypes := #[65, 29, 3] }, 0, "", #[], none⟩
  may0 : takeB .any ops [0, 1, 2, 3, 4] (Array.replicate 6 false) = true
  r5 : Region.ready .any ops (mark [0, 1, 2, 3, 4] (Array.replicate 6 false)) = [5]
  fin : Region.ready .any ops ((mark [0, 1, 2, 3, 4] (Array.replicate 6 false)).setIfInBounds 5 true) = []

set_option maxRecDepth 100000 in
set_option maxHeartbeats 3200000 in
theorem rd12_region {ops : Array Oper} {id : Nat} {Q : Exit → Act → World → Prop} {a : Act} {y : World} (R : rd12R ops) (ex g n cap i : Nat) (hi : (i : Int) < (n : Int)) (ea : Array Value) (tt : Int)
    (hQ : ∀ d v c a w, Q (.panic c) (a.put d v) w → Q (.panic c) a w) (hsz : a.tmps.size = 69) (e4 : a.eval (.tmp 4) = .slice (some ⟨g, 0, none⟩) n cap) (e6 : a.eval (.tmp 6) = .int .i64 tt) (e7 : a.eval (.tmp 7) = .pointer (some ⟨ex, 0, none⟩)) (e8 : a.eval (.tmp 8) = .int .i64 (i : Int)) (hS0 : (loadVar 29 ⟨ex, 0, none⟩).run Try.prog y.drew = .ok (.agg ea) y.drew) (T : World → Prop) (hc : Calls Try.prog 29 #[.pointer (some ⟨g, i * 10, none⟩), .agg ea, .int .i64 tt] y.drew fun e w9 => e = .returned (.tuple #[]) ∧ ((loadVar 29 ⟨ex, 0, none⟩).run Try.prog w9 = .ok (.agg ea) w9) ∧ T w9)
    (hK : ∀ w9 : World, T w9 → Q .normal ((((((a.put (some 61) (.slice (some ⟨g, 0, none⟩) n cap)).put (some 62) (.int .i64 (i : Int))).put (some 63) (.pointer (some ⟨g, i * 10, none⟩))).put (some 64) (.agg ea)).put (some 65) (.int .i64 tt)).put (some 66) (.tuple #[])) w9) : (Code.region id ops true).wp Try.prog Q a y := by
  have HR : Hid (rd12R ops) := R
  have hdf : a.defers = a.defers := rfl
  refine wp_region_held_drew (S := (fun z : World => (loadVar 29 ⟨ex, 0, none⟩).run Try.prog z = .ok (.agg ea) z)) (by kernel_rfl) (hS0) (fun hHeld => ?_)
  rw [R.size]
  clear R
  refine wpAnyH_takes HR.out.sel hQ hHeld [0, 1, 2, 3, 4] 1 _ _ HR.out.may0 ?_
  refine wpTake_stepE ⟨some 61, Op.move (Operand.tmp 4), 41, "", #[], none⟩ 61 (.slice (some ⟨g, 0, none⟩) n cap) HR.out.o0 rfl (by rw [hsz]; decide) (wanted_none rfl) (fun z hS => rd12_0 ex g n cap i hi ea tt _ z (fun _ => rfl) e4 hS) ?_
  intro a1 ha1 s1 f1 n1 k1
  replace hsz := s1.trans hsz
  replace hdf := f1.trans hdf
  replace e6 := (k1 6 (by decide)).trans e6
  replace e7 := (k1 7 (by decide)).trans e7
  replace e8 := (k1 8 (by decide)).trans e8
  have e61 := n1
  clear s1 f1 n1 k1
  refine wpTake_stepE ⟨some 62, Op.move (Operand.tmp 8), 3, "", #[], none⟩ 62 (.int .i64 (i : Int)) HR.out.o1 rfl (by rw [hsz]; decide) (wanted_none rfl) (fun z hS => rd12_1 ex g n cap i hi ea tt _ z (fun _ => rfl) e8 hS) ?_
  intro a2 ha2 s1 f1 n1 k1
  replace hsz := s1.trans hsz
  replace hdf := f1.trans hdf
  replace e6 := (k1 6 (by decide)).trans e6
  replace e7 := (k1 7 (by decide)).trans e7
  replace e61 := (k1 61 (by decide)).trans e61
  have e62 := n1
  clear s1 f1 n1 k1
  refine wpTake_stepE ⟨some 63, Op.indexAddr 41 (Operand.tmp 61) (Operand.tmp 62), 0, "", #[], none⟩ 63 (.pointer (some ⟨g, i * 10, none⟩)) HR.out.o2 rfl (by rw [hsz]; decide) (wanted_none rfl) (fun z hS => rd12_2 ex g n cap i hi ea tt _ z (fun _ => rfl) e61 e62 hS) ?_
  intro a3 ha3 s1 f1 n1 k1
  replace hsz := s1.trans hsz
  replace hdf := f1.trans hdf
  replace e6 := (k1 6 (by decide)).trans e6
  replace e7 := (k1 7 (by decide)).trans e7
  have e63 := n1
  clear s1 f1 n1 k1
  refine wpTake_stepE ⟨some 64, Op.load 29 (Operand.tmp 7), 29, "", #[], none⟩ 64 (.agg ea) HR.out.o3 rfl (by rw [hsz]; decide) (wanted_none rfl) (fun z hS => rd12_3 ex g n cap i hi ea tt _ z (fun _ => rfl) e7 hS) ?_
  intro a4 ha4 s1 f1 n1 k1
  replace hsz := s1.trans hsz
  replace hdf := f1.trans hdf
  replace e6 := (k1 6 (by decide)).trans e6
  replace e63 := (k1 63 (by decide)).trans e63
  have e64 := n1
  clear s1 f1 n1 k1
  refine wpTake_stepE ⟨some 65, Op.move (Operand.tmp 6), 3, "", #[], none⟩ 65 (.int .i64 tt) HR.out.o4 rfl (by rw [hsz]; decide) (wanted_none rfl) (fun z hS => rd12_4 ex g n cap i hi ea tt _ z (fun _ => rfl) e6 hS) ?_
  intro a5 ha5 s1 f1 n1 k1
  replace hsz := s1.trans hsz
  replace hdf := f1.trans hdf
  replace e63 := (k1 63 (by decide)).trans e63
  replace e64 := (k1 64 (by decide)).trans e64
  have e65 := n1
  clear s1 f1 n1 k1
  refine wpTake_nil ?_
  refine wpAnyH_one ⟨some 66, Op.call { callee := Callee.value (Operand.func 29), args := #[Operand.tmp 63, Operand.tmp 64, Operand.tmp 65], argTypes := #[65, 29, 3] }, 0, "", #[], none⟩ HR.out.r5 HR.out.o5 rfl (fun K' hK' => ?_)
  refine wp_enter (rd12_5 ex g n cap i hi ea tt _ _ (fun _ => rfl) rfl e63 e64 e65) (hc) ?_
  rintro e9 w9 ⟨rfl, hS9, hT⟩
  refine ⟨_, rfl, hK'.out _ _ (hS9) ?_⟩
  replace hHeld := hS9
  clear hK' K'
  show wpAnyH _ _ _ _ _ _ _ (Act.put a5 (some 66) (.tuple #[])) _
  obtain ⟨s1, f1, n1, k1⟩ := act_put a5 66 (.tuple #[]) (show 66 < _ by rw [hsz]; decide)
  obtain ⟨a6, ha6⟩ : ∃ x, x = Act.put a5 (some 66) (.tuple #[]) := ⟨_, rfl⟩
  rw [← ha6] at s1 f1 n1 k1 ⊢
  replace hsz := s1.trans hsz
  replace hdf := f1.trans hdf
  clear s1 f1 n1 k1
  refine wpAnyH_done HR.out.fin ?_ _
  rw [ha6, ha5, ha4, ha3, ha2, ha1]
  exact hK _ hT
-- R: ⟨by kernel_rfl, by kernel_rfl, by kernel_rfl, by kernel_rfl, by kernel_rfl, by kernel_rfl, by kernel_rfl, by kernel_rfl, by kernel_rfl, by kernel_rfl, by kernel_rfl⟩

end Go.Proofs.Ytbbgplnenbkfeaa
