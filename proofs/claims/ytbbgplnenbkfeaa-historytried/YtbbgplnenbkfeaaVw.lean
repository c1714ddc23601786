/- The drawn region of do (laid by scripts/mkvw.py). -/
import Derived.Test.YtbbgplnenbkfeaaVk
namespace Go.Proofs.Ytbbgplnenbkfeaa
set_option linter.unusedVariables false
set_option linter.unusedSimpArgs false
open Go.RowKit Go.Deep Go.Maps

theorem do_st (br : Nat) (nn : Int) (pn : Option Addr) (ln cn : Nat) (u1 u2 : Value) (ev : Operand → Value) (w9 : World) (e4 : ev (.tmp 4) = .pointer (some ⟨br, 0, none⟩)) (e45 : ev (.tmp 45) = .agg #[.int .i64 nn, .slice pn ln cn]) (hc0 : w9.cell? ⟨br, 0, none⟩ = some u1) (hc1 : (w9.setCell ⟨br, 0, none⟩ (.int .i64 nn)).cell? ⟨br, 1, none⟩ = some u2) (hf0 : w9.frozen? ⟨br, 0, none⟩ = false) (hf1 : (w9.setCell ⟨br, 0, none⟩ (.int .i64 nn)).frozen? ⟨br, 1, none⟩ = false) : (execOp ev ⟨none, Op.store 55 (Operand.tmp 4) (Operand.tmp 45), 0, "", #[], none⟩).run Try.prog w9 = .ok .skip ((w9.setCell ⟨br, 0, none⟩ (.int .i64 nn)).setCell ⟨br, 1, none⟩ (.slice pn ln cn)) := by go_simp
theorem dot_0 (bc bn br : Nat) (nn sv sy : Int) (pn : Option Addr) (ln cn : Nat) (xa : Array Value) (ev : Operand → Value) (z : World) (ec : ∀ c, ev (.const c) = c) (e7 : ev (.tmp 7) = .pointer (some ⟨bn, 0, none⟩)) (hS : (loadVar 55 ⟨bn, 0, none⟩).run Try.prog z = .ok (.agg #[.int .i64 nn, .slice pn ln cn]) z ∧ (loadVar 51 ⟨bc, 0, none⟩).run Try.prog z = .ok (.agg xa) z ∧ z.cell? ⟨bc, 3, none⟩ = some (.int .i64 sy)) : (execOp ev ⟨some 45, Op.load 55 (Operand.tmp 7), 55, "", #[], none⟩).run Try.prog z = .ok (.value (.agg #[.int .i64 nn, .slice pn ln cn])) z := by
  exact exec_ldr e7 hS.1
theorem dot_1 (bc bn br : Nat) (nn sv sy : Int) (pn : Option Addr) (ln cn : Nat) (xa : Array Value) (ev : Operand → Value) (z : World) (ec : ∀ c, ev (.const c) = c) (e3 : ev (.tmp 3) = .pointer (some ⟨bc, 0, none⟩)) (hS : (loadVar 55 ⟨bn, 0, none⟩).run Try.prog z = .ok (.agg #[.int .i64 nn, .slice pn ln cn]) z ∧ (loadVar 51 ⟨bc, 0, none⟩).run Try.prog z = .ok (.agg xa) z ∧ z.cell? ⟨bc, 3, none⟩ = some (.int .i64 sy)) : (execOp ev ⟨some 46, Op.load 51 (Operand.tmp 3), 51, "", #[], none⟩).run Try.prog z = .ok (.value (.agg xa)) z := by
  exact exec_ldr e3 hS.2.1
set_option maxRecDepth 100000 in
theorem dot_2 (bc bn br : Nat) (nn sv sy : Int) (pn : Option Addr) (ln cn : Nat) (xa : Array Value) (ev : Operand → Value) (z : World) (ec : ∀ c, ev (.const c) = c) (ef : ev (.func 37) = .func (.func 37) #[] #[]) (e46 : ev (.tmp 46) = .agg xa) : (execOp ev ⟨some 47, Op.call { callee := Callee.value (Operand.func 37), args := #[Operand.tmp 46], argTypes := #[51] }, 4, "", #[], none⟩).run Try.prog z = .ok (.enter 37 #[.agg xa]) z :=
  enter_run _ ef (by simp only [List.map_toArray, List.map_cons, List.map_nil, ec, e46]) (fun _ => by rfl)
theorem dot_3 (bc bn br : Nat) (nn sv sy : Int) (pn : Option Addr) (ln cn : Nat) (xa : Array Value) (ev : Operand → Value) (z : World) (ec : ∀ c, ev (.const c) = c) (e47 : ev (.tmp 47) = .bool true) (hS : (loadVar 55 ⟨bn, 0, none⟩).run Try.prog z = .ok (.agg #[.int .i64 nn, .slice pn ln cn]) z ∧ (loadVar 51 ⟨bc, 0, none⟩).run Try.prog z = .ok (.agg xa) z ∧ z.cell? ⟨bc, 3, none⟩ = some (.int .i64 sy)) : (execOp ev ⟨some 48, Op.unOp UnOp.not 4 (Operand.tmp 47), 4, "", #[], none⟩).run Try.prog z = .ok (.value (.bool false)) z := by
  clear hS
  go_simp
theorem dot_4 (bc bn br : Nat) (nn sv sy : Int) (pn : Option Addr) (ln cn : Nat) (xa : Array Value) (ev : Operand → Value) (z : World) (ec : ∀ c, ev (.const c) = c) (e48 : ev (.tmp 48) = .bool false) (hS : (loadVar 55 ⟨bn, 0, none⟩).run Try.prog z = .ok (.agg #[.int .i64 nn, .slice pn ln cn]) z ∧ (loadVar 51 ⟨bc, 0, none⟩).run Try.prog z = .ok (.agg xa) z ∧ z.cell? ⟨bc, 3, none⟩ = some (.int .i64 sy)) : (execOp ev ⟨some 49, Op.move (Operand.tmp 48), 4, "", #[], none⟩).run Try.prog z = .ok (.value (.bool false)) z := by
  obtain ⟨s1, s2, s3⟩ := hS
  go_simp
theorem dot_5 (bc bn br : Nat) (nn sv sy : Int) (pn : Option Addr) (ln cn : Nat) (xa : Array Value) (ev : Operand → Value) (z : World) (ec : ∀ c, ev (.const c) = c) (e3 : ev (.tmp 3) = .pointer (some ⟨bc, 0, none⟩)) (hS : (loadVar 55 ⟨bn, 0, none⟩).run Try.prog z = .ok (.agg #[.int .i64 nn, .slice pn ln cn]) z ∧ (loadVar 51 ⟨bc, 0, none⟩).run Try.prog z = .ok (.agg xa) z ∧ z.cell? ⟨bc, 3, none⟩ = some (.int .i64 sy)) : (execOp ev ⟨some 50, Op.fieldAddr 51 (Operand.tmp 3) 3, 0, "", #[], some (4, false)⟩).run Try.prog z = .ok (.value (.pointer (some ⟨bc, 3, none⟩))) z := by
  clear hS
  go_simp
theorem dot_6 (bc bn br : Nat) (nn sv sy : Int) (pn : Option Addr) (ln cn : Nat) (xa : Array Value) (ev : Operand → Value) (z : World) (ec : ∀ c, ev (.const c) = c) (e50 : ev (.tmp 50) = .pointer (some ⟨bc, 3, none⟩)) (hS : (loadVar 55 ⟨bn, 0, none⟩).run Try.prog z = .ok (.agg #[.int .i64 nn, .slice pn ln cn]) z ∧ (loadVar 51 ⟨bc, 0, none⟩).run Try.prog z = .ok (.agg xa) z ∧ z.cell? ⟨bc, 3, none⟩ = some (.int .i64 sy)) : (execOp ev ⟨some 51, Op.load 3 (Operand.tmp 50), 3, "", #[], some (4, false)⟩).run Try.prog z = .ok (.value (.int .i64 sy)) z := by
  have h := hS.2.2
  clear hS
  go_simp
theorem dot_7 (bc bn br : Nat) (nn sv sy : Int) (pn : Option Addr) (ln cn : Nat) (xa : Array Value) (ev : Operand → Value) (z : World) (ec : ∀ c, ev (.const c) = c) (e6 : ev (.tmp 6) = .int .i64 sv) (hS : (loadVar 55 ⟨bn, 0, none⟩).run Try.prog z = .ok (.agg #[.int .i64 nn, .slice pn ln cn]) z ∧ (loadVar 51 ⟨bc, 0, none⟩).run Try.prog z = .ok (.agg xa) z ∧ z.cell? ⟨bc, 3, none⟩ = some (.int .i64 sy)) : (execOp ev ⟨some 52, Op.move (Operand.tmp 6), 3, "", #[], some (4, false)⟩).run Try.prog z = .ok (.value (.int .i64 sv)) z := by
  obtain ⟨s1, s2, s3⟩ := hS
  go_simp
theorem dot_8 (bc bn br : Nat) (nn sv sy : Int) (pn : Option Addr) (ln cn : Nat) (xa : Array Value) (ev : Operand → Value) (z : World) (ec : ∀ c, ev (.const c) = c) (e51 : ev (.tmp 51) = .int .i64 sy) (e52 : ev (.tmp 52) = .int .i64 sv) (hS : (loadVar 55 ⟨bn, 0, none⟩).run Try.prog z = .ok (.agg #[.int .i64 nn, .slice pn ln cn]) z ∧ (loadVar 51 ⟨bc, 0, none⟩).run Try.prog z = .ok (.agg xa) z ∧ z.cell? ⟨bc, 3, none⟩ = some (.int .i64 sy)) : (execOp ev ⟨some 53, Op.binOp BinOp.eql 3 (Operand.tmp 51) (Operand.tmp 52) 3, 4, "", #[], some (4, false)⟩).run Try.prog z = .ok (.value (.bool (sy == sv))) z := by
  clear hS
  go_simp
theorem dot_9 (bc bn br : Nat) (nn sv sy : Int) (pn : Option Addr) (ln cn : Nat) (xa : Array Value) (ev : Operand → Value) (z : World) (ec : ∀ c, ev (.const c) = c) (e49 : ev (.tmp 49) = .bool false) (e53 : ev (.tmp 53) = .bool (sy == sv)) (hS : (loadVar 55 ⟨bn, 0, none⟩).run Try.prog z = .ok (.agg #[.int .i64 nn, .slice pn ln cn]) z ∧ (loadVar 51 ⟨bc, 0, none⟩).run Try.prog z = .ok (.agg xa) z ∧ z.cell? ⟨bc, 3, none⟩ = some (.int .i64 sy)) : (execOp ev ⟨some 54, Op.pick (Operand.tmp 49) (Operand.const (Value.bool true)) (Operand.tmp 53), 4, "", #[], none⟩).run Try.prog z = .ok (.value (.bool (sy == sv))) z := by
  clear hS
  go_simp
theorem dot_11 (bc bn br : Nat) (nn sv sy : Int) (pn : Option Addr) (ln cn : Nat) (xa : Array Value) (ev : Operand → Value) (z : World) (ec : ∀ c, ev (.const c) = c) (e54 : ev (.tmp 54) = .bool (sy == sv)) (hS : (loadVar 55 ⟨bn, 0, none⟩).run Try.prog z = .ok (.agg #[.int .i64 nn, .slice pn ln cn]) z ∧ (loadVar 51 ⟨bc, 0, none⟩).run Try.prog z = .ok (.agg xa) z ∧ z.cell? ⟨bc, 3, none⟩ = some (.int .i64 sy)) : (execOp ev ⟨some 5, Op.assign (Operand.tmp 54), 4, "", #[], none⟩).run Try.prog z = .ok (.value (.bool (sy == sv))) z := by
  obtain ⟨s1, s2, s3⟩ := hS
  go_simp
structure dotR (ops : Array Oper) : Prop where
  size : ops.size = 12
  sel : Region.noSelect ops = true
  o0 : (ops[0]?).map bare = some ⟨some 45, Op.load 55 (Operand.tmp 7), 55, "", #[], none⟩
  o1 : (ops[1]?).map bare = some ⟨some 46, Op.load 51 (Operand.tmp 3), 51, "", #[], none⟩
  o2 : (ops[2]?).map bare = some ⟨some 47, Op.call { callee := Callee.value (Operand.func 37), args := #[Operand.tmp 46], argTypes := #[51] }, 4, "", #[], none⟩
  o3 : (ops[3]?).map bare = some ⟨some 48, Op.unOp UnOp.not 4 (Operand.tmp 47), 4, "", #[], none⟩
  o4 : (ops[4]?).map bare = some ⟨some 49, Op.move (Operand.tmp 48), 4, "", #[], none⟩
  o5 : (ops[5]?).map bare = some ⟨some 50, Op.fieldAddr 51 (Operand.tmp 3) 3, 0, "", #[], some (4, false)⟩
  o6 : (ops[6]?).map bare = some ⟨some 51, Op.load 3 (Operand.tmp 50), 3, "", #[], some (4, false)⟩
  o7 : (ops[7]?).map bare = some ⟨some 52, Op.move (Operand.tmp 6), 3, "", #[], some (4, false)⟩
  o8 : (ops[8]?).map bare = some ⟨some 53, Op.binOp BinOp.eql 3 (Operand.tmp 51) (Operand.tmp 52) 3, 4, "", #[], some (4, false)⟩
  o9 : (ops[9]?).map bare = some ⟨some 54, Op.pick (Operand.tmp 49) (Operand.const (Value.bool true)) (Operand.tmp 53), 4, "", #[], none⟩
  o10 : (ops[10]?).map bare = some ⟨none, Op.store 55 (Operand.tmp 4) (Operand.tmp 45), 0, "", #[], none⟩
  o11 : (ops[11]?).map bare = some ⟨some 5, Op.assign (Operand.tmp 54), 4, "", #[], none⟩
  may0 : takeB .any ops [0, 1] (Array.replicate 12 false) = true
  r2 : Region.ready .any ops (mark [0, 1] (Array.replicate 12 false)) = [2]
  may1 : takeB .any ops [3, 4, 5, 6, 7, 8, 9] ((mark [0, 1] (Array.replicate 12 false)).setIfInBounds 2 true) = true
  r10 : Region.ready .any ops (mark [3, 4, 5, 6, 7, 8, 9] ((mark [0, 1] (Array.replicate 12 false)).setIfInBounds 2 true)) = [10]
  may2 : takeB .any ops [11] ((mark [3, 4, 5, 6, 7, 8, 9] ((mark [0, 1] (Array.replicate 12 false)).setIfInBounds 2 true)).setIfInBounds 10 true) = true
  fin : Region.ready .any ops (mark [11] ((mark [3, 4, 5, 6, 7, 8, 9] ((mark [0, 1] (Array.replicate 12 false)).setIfInBounds 2 true)).setIfInBounds 10 true)) = []

set_option maxRecDepth 100000 in
set_option maxHeartbeats 3200000 in
theorem dot_region {ops : Array Oper} {id : Nat} {Q : Exit → Act → World → Prop} {a : Act} {y : World} (R : dotR ops) (bc bn br : Nat) (nn sv sy : Int) (pn : Option Addr) (ln cn : Nat) (xa : Array Value)
    (hQ : ∀ d v c a w, Q (.panic c) (a.put d v) w → Q (.panic c) a w) (hsz : a.tmps.size = 55) (e3 : a.eval (.tmp 3) = .pointer (some ⟨bc, 0, none⟩)) (e4 : a.eval (.tmp 4) = .pointer (some ⟨br, 0, none⟩)) (e6 : a.eval (.tmp 6) = .int .i64 sv) (e7 : a.eval (.tmp 7) = .pointer (some ⟨bn, 0, none⟩)) (hS0 : (loadVar 55 ⟨bn, 0, none⟩).run Try.prog y.drew = .ok (.agg #[.int .i64 nn, .slice pn ln cn]) y.drew ∧ (loadVar 51 ⟨bc, 0, none⟩).run Try.prog y.drew = .ok (.agg xa) y.drew ∧ y.drew.cell? ⟨bc, 3, none⟩ = some (.int .i64 sy)) (T : World → Prop) (hc1 : Calls Try.prog 37 #[.agg xa] y.drew fun e w9 => e = .returned (.bool true) ∧ ((loadVar 55 ⟨bn, 0, none⟩).run Try.prog w9 = .ok (.agg #[.int .i64 nn, .slice pn ln cn]) w9 ∧ (loadVar 51 ⟨bc, 0, none⟩).run Try.prog w9 = .ok (.agg xa) w9 ∧ w9.cell? ⟨bc, 3, none⟩ = some (.int .i64 sy)) ∧ T w9) (hst : ∀ w9, T w9 → (∃ u1 u2, w9.cell? ⟨br, 0, none⟩ = some u1 ∧ (w9.setCell ⟨br, 0, none⟩ (.int .i64 nn)).cell? ⟨br, 1, none⟩ = some u2 ∧ w9.frozen? ⟨br, 0, none⟩ = false ∧ (w9.setCell ⟨br, 0, none⟩ (.int .i64 nn)).frozen? ⟨br, 1, none⟩ = false) ∧ ((loadVar 55 ⟨bn, 0, none⟩).run Try.prog ((w9.setCell ⟨br, 0, none⟩ (.int .i64 nn)).setCell ⟨br, 1, none⟩ (.slice pn ln cn)) = .ok (.agg #[.int .i64 nn, .slice pn ln cn]) ((w9.setCell ⟨br, 0, none⟩ (.int .i64 nn)).setCell ⟨br, 1, none⟩ (.slice pn ln cn)) ∧ (loadVar 51 ⟨bc, 0, none⟩).run Try.prog ((w9.setCell ⟨br, 0, none⟩ (.int .i64 nn)).setCell ⟨br, 1, none⟩ (.slice pn ln cn)) = .ok (.agg xa) ((w9.setCell ⟨br, 0, none⟩ (.int .i64 nn)).setCell ⟨br, 1, none⟩ (.slice pn ln cn)) ∧ ((w9.setCell ⟨br, 0, none⟩ (.int .i64 nn)).setCell ⟨br, 1, none⟩ (.slice pn ln cn)).cell? ⟨bc, 3, none⟩ = some (.int .i64 sy)))
    (hK : ∀ w9, T w9 → Q .normal (((((((((((a.put (some 45) (.agg #[.int .i64 nn, .slice pn ln cn])).put (some 46) (.agg xa)).put (some 47) (.bool true)).put (some 48) (.bool false)).put (some 49) (.bool false)).put (some 50) (.pointer (some ⟨bc, 3, none⟩))).put (some 51) (.int .i64 sy)).put (some 52) (.int .i64 sv)).put (some 53) (.bool (sy == sv))).put (some 54) (.bool (sy == sv))).put (some 5) (.bool (sy == sv))) ((w9.setCell ⟨br, 0, none⟩ (.int .i64 nn)).setCell ⟨br, 1, none⟩ (.slice pn ln cn))) : (Code.region id ops true).wp Try.prog Q a y := by
  have HR : Hid (dotR ops) := R
  have hdf : a.defers = a.defers := rfl
  refine wp_region_held_drew (S := (fun z : World => (loadVar 55 ⟨bn, 0, none⟩).run Try.prog z = .ok (.agg #[.int .i64 nn, .slice pn ln cn]) z ∧ (loadVar 51 ⟨bc, 0, none⟩).run Try.prog z = .ok (.agg xa) z ∧ z.cell? ⟨bc, 3, none⟩ = some (.int .i64 sy))) (by kernel_rfl) (hS0) (fun hHeld => ?_)
  rw [R.size]
  clear R
  refine wpAnyH_takes HR.out.sel hQ hHeld [0, 1] 10 _ _ HR.out.may0 ?_
  refine wpTake_stepE ⟨some 45, Op.load 55 (Operand.tmp 7), 55, "", #[], none⟩ 45 (.agg #[.int .i64 nn, .slice pn ln cn]) HR.out.o0 rfl (by rw [hsz]; decide) (wanted_none rfl) (fun z hS => dot_0 bc bn br nn sv sy pn ln cn xa _ z (fun _ => rfl) e7 hS) ?_
  intro a1 ha1 s1 f1 n1 k1
  replace hsz := s1.trans hsz
  replace hdf := f1.trans hdf
  replace e3 := (k1 3 (by decide)).trans e3
  replace e4 := (k1 4 (by decide)).trans e4
  replace e6 := (k1 6 (by decide)).trans e6
  have e45 := n1
  clear s1 f1 n1 k1
  refine wpTake_stepE ⟨some 46, Op.load 51 (Operand.tmp 3), 51, "", #[], none⟩ 46 (.agg xa) HR.out.o1 rfl (by rw [hsz]; decide) (wanted_none rfl) (fun z hS => dot_1 bc bn br nn sv sy pn ln cn xa _ z (fun _ => rfl) e3 hS) ?_
  intro a2 ha2 s1 f1 n1 k1
  replace hsz := s1.trans hsz
  replace hdf := f1.trans hdf
  replace e3 := (k1 3 (by decide)).trans e3
  replace e4 := (k1 4 (by decide)).trans e4
  replace e6 := (k1 6 (by decide)).trans e6
  replace e45 := (k1 45 (by decide)).trans e45
  have e46 := n1
  clear s1 f1 n1 k1
  refine wpTake_nil ?_
  refine wpAnyH_one ⟨some 47, Op.call { callee := Callee.value (Operand.func 37), args := #[Operand.tmp 46], argTypes := #[51] }, 4, "", #[], none⟩ HR.out.r2 HR.out.o2 rfl (fun K' hK' => ?_)
  refine wp_enter (dot_2 bc bn br nn sv sy pn ln cn xa _ _ (fun _ => rfl) rfl e46) (hc1) ?_
  rintro e9 w9 ⟨rfl, hS9, hT⟩
  refine ⟨_, rfl, hK'.out _ _ (hS9) ?_⟩
  replace hHeld := hS9
  clear hK' K'
  show wpAnyH _ _ _ _ _ _ _ (Act.put a2 (some 47) (.bool true)) _
  obtain ⟨s1, f1, n1, k1⟩ := act_put a2 47 (.bool true) (show 47 < _ by rw [hsz]; decide)
  obtain ⟨a3, ha3⟩ : ∃ x, x = Act.put a2 (some 47) (.bool true) := ⟨_, rfl⟩
  rw [← ha3] at s1 f1 n1 k1 ⊢
  replace hsz := s1.trans hsz
  replace hdf := f1.trans hdf
  replace e3 := (k1 3 (by decide)).trans e3
  replace e4 := (k1 4 (by decide)).trans e4
  replace e6 := (k1 6 (by decide)).trans e6
  replace e45 := (k1 45 (by decide)).trans e45
  have e47 := n1
  clear s1 f1 n1 k1
  obtain ⟨⟨u1, u2, q1, q2, q3, q4⟩, hS3⟩ := hst _ hT
  refine wpAnyH_takes HR.out.sel hQ hHeld [3, 4, 5, 6, 7, 8, 9] 2 _ _ HR.out.may1 ?_
  refine wpTake_stepE ⟨some 48, Op.unOp UnOp.not 4 (Operand.tmp 47), 4, "", #[], none⟩ 48 (.bool false) HR.out.o3 rfl (by rw [hsz]; decide) (wanted_none rfl) (fun z hS => dot_3 bc bn br nn sv sy pn ln cn xa _ z (fun _ => rfl) e47 hS) ?_
  intro a4 ha4 s1 f1 n1 k1
  replace hsz := s1.trans hsz
  replace hdf := f1.trans hdf
  replace e3 := (k1 3 (by decide)).trans e3
  replace e4 := (k1 4 (by decide)).trans e4
  replace e6 := (k1 6 (by decide)).trans e6
  replace e45 := (k1 45 (by decide)).trans e45
  have e48 := n1
  clear s1 f1 n1 k1
  refine wpTake_stepE ⟨some 49, Op.move (Operand.tmp 48), 4, "", #[], none⟩ 49 (.bool false) HR.out.o4 rfl (by rw [hsz]; decide) (wanted_none rfl) (fun z hS => dot_4 bc bn br nn sv sy pn ln cn xa _ z (fun _ => rfl) e48 hS) ?_
  intro a5 ha5 s1 f1 n1 k1
  replace hsz := s1.trans hsz
  replace hdf := f1.trans hdf
  replace e3 := (k1 3 (by decide)).trans e3
  replace e4 := (k1 4 (by decide)).trans e4
  replace e6 := (k1 6 (by decide)).trans e6
  replace e45 := (k1 45 (by decide)).trans e45
  have e49 := n1
  clear s1 f1 n1 k1
  refine wpTake_stepE ⟨some 50, Op.fieldAddr 51 (Operand.tmp 3) 3, 0, "", #[], some (4, false)⟩ 50 (.pointer (some ⟨bc, 3, none⟩)) HR.out.o5 rfl (by rw [hsz]; decide) (wanted_some rfl (yielded_of HR.out.o4 rfl e49 (by rw [hsz]; decide))) (fun z hS => dot_5 bc bn br nn sv sy pn ln cn xa _ z (fun _ => rfl) e3 hS) ?_
  intro a6 ha6 s1 f1 n1 k1
  replace hsz := s1.trans hsz
  replace hdf := f1.trans hdf
  replace e4 := (k1 4 (by decide)).trans e4
  replace e6 := (k1 6 (by decide)).trans e6
  replace e45 := (k1 45 (by decide)).trans e45
  replace e49 := (k1 49 (by decide)).trans e49
  have e50 := n1
  clear s1 f1 n1 k1
  refine wpTake_stepE ⟨some 51, Op.load 3 (Operand.tmp 50), 3, "", #[], some (4, false)⟩ 51 (.int .i64 sy) HR.out.o6 rfl (by rw [hsz]; decide) (wanted_some rfl (yielded_of HR.out.o4 rfl e49 (by rw [hsz]; decide))) (fun z hS => dot_6 bc bn br nn sv sy pn ln cn xa _ z (fun _ => rfl) e50 hS) ?_
  intro a7 ha7 s1 f1 n1 k1
  replace hsz := s1.trans hsz
  replace hdf := f1.trans hdf
  replace e4 := (k1 4 (by decide)).trans e4
  replace e6 := (k1 6 (by decide)).trans e6
  replace e45 := (k1 45 (by decide)).trans e45
  replace e49 := (k1 49 (by decide)).trans e49
  have e51 := n1
  clear s1 f1 n1 k1
  refine wpTake_stepE ⟨some 52, Op.move (Operand.tmp 6), 3, "", #[], some (4, false)⟩ 52 (.int .i64 sv) HR.out.o7 rfl (by rw [hsz]; decide) (wanted_some rfl (yielded_of HR.out.o4 rfl e49 (by rw [hsz]; decide))) (fun z hS => dot_7 bc bn br nn sv sy pn ln cn xa _ z (fun _ => rfl) e6 hS) ?_
  intro a8 ha8 s1 f1 n1 k1
  replace hsz := s1.trans hsz
  replace hdf := f1.trans hdf
  replace e4 := (k1 4 (by decide)).trans e4
  replace e45 := (k1 45 (by decide)).trans e45
  replace e49 := (k1 49 (by decide)).trans e49
  replace e51 := (k1 51 (by decide)).trans e51
  have e52 := n1
  clear s1 f1 n1 k1
  refine wpTake_stepE ⟨some 53, Op.binOp BinOp.eql 3 (Operand.tmp 51) (Operand.tmp 52) 3, 4, "", #[], some (4, false)⟩ 53 (.bool (sy == sv)) HR.out.o8 rfl (by rw [hsz]; decide) (wanted_some rfl (yielded_of HR.out.o4 rfl e49 (by rw [hsz]; decide))) (fun z hS => dot_8 bc bn br nn sv sy pn ln cn xa _ z (fun _ => rfl) e51 e52 hS) ?_
  intro a9 ha9 s1 f1 n1 k1
  replace hsz := s1.trans hsz
  replace hdf := f1.trans hdf
  replace e4 := (k1 4 (by decide)).trans e4
  replace e45 := (k1 45 (by decide)).trans e45
  replace e49 := (k1 49 (by decide)).trans e49
  have e53 := n1
  clear s1 f1 n1 k1
  refine wpTake_stepE ⟨some 54, Op.pick (Operand.tmp 49) (Operand.const (Value.bool true)) (Operand.tmp 53), 4, "", #[], none⟩ 54 (.bool (sy == sv)) HR.out.o9 rfl (by rw [hsz]; decide) (wanted_none rfl) (fun z hS => dot_9 bc bn br nn sv sy pn ln cn xa _ z (fun _ => rfl) e49 e53 hS) ?_
  intro a10 ha10 s1 f1 n1 k1
  replace hsz := s1.trans hsz
  replace hdf := f1.trans hdf
  replace e4 := (k1 4 (by decide)).trans e4
  replace e45 := (k1 45 (by decide)).trans e45
  have e54 := n1
  clear s1 f1 n1 k1
  refine wpTake_nil ?_
  refine wpAnyH_skip ⟨none, Op.store 55 (Operand.tmp 4) (Operand.tmp 45), 0, "", #[], none⟩ ((w9.setCell ⟨br, 0, none⟩ (.int .i64 nn)).setCell ⟨br, 1, none⟩ (.slice pn ln cn)) HR.out.r10 HR.out.o10 rfl rfl (do_st br nn pn ln cn u1 u2 _ _ e4 e45 q1 q2 q3 q4) (hS3) ?_
  replace hHeld := hS3
  refine wpAnyH_takes HR.out.sel hQ hHeld [11] 0 _ _ HR.out.may2 ?_
  refine wpTake_stepE ⟨some 5, Op.assign (Operand.tmp 54), 4, "", #[], none⟩ 5 (.bool (sy == sv)) HR.out.o11 rfl (by rw [hsz]; decide) (wanted_none rfl) (fun z hS => dot_11 bc bn br nn sv sy pn ln cn xa _ z (fun _ => rfl) e54 hS) ?_
  intro a11 ha11 s1 f1 n1 k1
  replace hsz := s1.trans hsz
  replace hdf := f1.trans hdf
  clear s1 f1 n1 k1
  refine wpTake_nil ?_
  refine wpAnyH_done HR.out.fin ?_ _
  rw [ha11, ha10, ha9, ha8, ha7, ha6, ha5, ha4, ha3, ha2, ha1]
  exact hK _ hT
-- R: ⟨by kernel_rfl, by kernel_rfl, by kernel_rfl, by kernel_rfl, by kernel_rfl, by kernel_rfl, by kernel_rfl, by kernel_rfl, by kernel_rfl, by kernel_rfl, by kernel_rfl, by kernel_rfl, by kernel_rfl, by kernel_rfl, by kernel_rfl, by kernel_rfl, by kernel_rfl, by kernel_rfl, by kernel_rfl, by kernel_rfl⟩

theorem dof_0 (bc bn br : Nat) (nn sv sy : Int) (pn : Option Addr) (ln cn : Nat) (xa : Array Value) (ev : Operand → Value) (z : World) (ec : ∀ c, ev (.const c) = c) (e7 : ev (.tmp 7) = .pointer (some ⟨bn, 0, none⟩)) (hS : (loadVar 55 ⟨bn, 0, none⟩).run Try.prog z = .ok (.agg #[.int .i64 nn, .slice pn ln cn]) z ∧ (loadVar 51 ⟨bc, 0, none⟩).run Try.prog z = .ok (.agg xa) z ∧ z.cell? ⟨bc, 3, none⟩ = some (.int .i64 sy)) : (execOp ev ⟨some 45, Op.load 55 (Operand.tmp 7), 55, "", #[], none⟩).run Try.prog z = .ok (.value (.agg #[.int .i64 nn, .slice pn ln cn])) z := by
  exact exec_ldr e7 hS.1
theorem dof_1 (bc bn br : Nat) (nn sv sy : Int) (pn : Option Addr) (ln cn : Nat) (xa : Array Value) (ev : Operand → Value) (z : World) (ec : ∀ c, ev (.const c) = c) (e3 : ev (.tmp 3) = .pointer (some ⟨bc, 0, none⟩)) (hS : (loadVar 55 ⟨bn, 0, none⟩).run Try.prog z = .ok (.agg #[.int .i64 nn, .slice pn ln cn]) z ∧ (loadVar 51 ⟨bc, 0, none⟩).run Try.prog z = .ok (.agg xa) z ∧ z.cell? ⟨bc, 3, none⟩ = some (.int .i64 sy)) : (execOp ev ⟨some 46, Op.load 51 (Operand.tmp 3), 51, "", #[], none⟩).run Try.prog z = .ok (.value (.agg xa)) z := by
  exact exec_ldr e3 hS.2.1
set_option maxRecDepth 100000 in
theorem dof_2 (bc bn br : Nat) (nn sv sy : Int) (pn : Option Addr) (ln cn : Nat) (xa : Array Value) (ev : Operand → Value) (z : World) (ec : ∀ c, ev (.const c) = c) (ef : ev (.func 37) = .func (.func 37) #[] #[]) (e46 : ev (.tmp 46) = .agg xa) : (execOp ev ⟨some 47, Op.call { callee := Callee.value (Operand.func 37), args := #[Operand.tmp 46], argTypes := #[51] }, 4, "", #[], none⟩).run Try.prog z = .ok (.enter 37 #[.agg xa]) z :=
  enter_run _ ef (by simp only [List.map_toArray, List.map_cons, List.map_nil, ec, e46]) (fun _ => by rfl)
theorem dof_3 (bc bn br : Nat) (nn sv sy : Int) (pn : Option Addr) (ln cn : Nat) (xa : Array Value) (ev : Operand → Value) (z : World) (ec : ∀ c, ev (.const c) = c) (e47 : ev (.tmp 47) = .bool false) (hS : (loadVar 55 ⟨bn, 0, none⟩).run Try.prog z = .ok (.agg #[.int .i64 nn, .slice pn ln cn]) z ∧ (loadVar 51 ⟨bc, 0, none⟩).run Try.prog z = .ok (.agg xa) z ∧ z.cell? ⟨bc, 3, none⟩ = some (.int .i64 sy)) : (execOp ev ⟨some 48, Op.unOp UnOp.not 4 (Operand.tmp 47), 4, "", #[], none⟩).run Try.prog z = .ok (.value (.bool true)) z := by
  clear hS
  go_simp
theorem dof_4 (bc bn br : Nat) (nn sv sy : Int) (pn : Option Addr) (ln cn : Nat) (xa : Array Value) (ev : Operand → Value) (z : World) (ec : ∀ c, ev (.const c) = c) (e48 : ev (.tmp 48) = .bool true) (hS : (loadVar 55 ⟨bn, 0, none⟩).run Try.prog z = .ok (.agg #[.int .i64 nn, .slice pn ln cn]) z ∧ (loadVar 51 ⟨bc, 0, none⟩).run Try.prog z = .ok (.agg xa) z ∧ z.cell? ⟨bc, 3, none⟩ = some (.int .i64 sy)) : (execOp ev ⟨some 49, Op.move (Operand.tmp 48), 4, "", #[], none⟩).run Try.prog z = .ok (.value (.bool true)) z := by
  obtain ⟨s1, s2, s3⟩ := hS
  go_simp
theorem dof_9 (bc bn br : Nat) (nn sv sy : Int) (pn : Option Addr) (ln cn : Nat) (xa : Array Value) (ev : Operand → Value) (z : World) (ec : ∀ c, ev (.const c) = c) (e49 : ev (.tmp 49) = .bool true) (e53 : ev (.tmp 53) = undef) (hS : (loadVar 55 ⟨bn, 0, none⟩).run Try.prog z = .ok (.agg #[.int .i64 nn, .slice pn ln cn]) z ∧ (loadVar 51 ⟨bc, 0, none⟩).run Try.prog z = .ok (.agg xa) z ∧ z.cell? ⟨bc, 3, none⟩ = some (.int .i64 sy)) : (execOp ev ⟨some 54, Op.pick (Operand.tmp 49) (Operand.const (Value.bool true)) (Operand.tmp 53), 4, "", #[], none⟩).run Try.prog z = .ok (.value (.bool true)) z := by
  clear hS
  go_simp
theorem dof_11 (bc bn br : Nat) (nn sv sy : Int) (pn : Option Addr) (ln cn : Nat) (xa : Array Value) (ev : Operand → Value) (z : World) (ec : ∀ c, ev (.const c) = c) (e54 : ev (.tmp 54) = .bool true) (hS : (loadVar 55 ⟨bn, 0, none⟩).run Try.prog z = .ok (.agg #[.int .i64 nn, .slice pn ln cn]) z ∧ (loadVar 51 ⟨bc, 0, none⟩).run Try.prog z = .ok (.agg xa) z ∧ z.cell? ⟨bc, 3, none⟩ = some (.int .i64 sy)) : (execOp ev ⟨some 5, Op.assign (Operand.tmp 54), 4, "", #[], none⟩).run Try.prog z = .ok (.value (.bool true)) z := by
  obtain ⟨s1, s2, s3⟩ := hS
  go_simp
structure dofR (ops : Array Oper) : Prop where
  size : ops.size = 12
  sel : Region.noSelect ops = true
  o0 : (ops[0]?).map bare = some ⟨some 45, Op.load 55 (Operand.tmp 7), 55, "", #[], none⟩
  o1 : (ops[1]?).map bare = some ⟨some 46, Op.load 51 (Operand.tmp 3), 51, "", #[], none⟩
  o2 : (ops[2]?).map bare = some ⟨some 47, Op.call { callee := Callee.value (Operand.func 37), args := #[Operand.tmp 46], argTypes := #[51] }, 4, "", #[], none⟩
  o3 : (ops[3]?).map bare = some ⟨some 48, Op.unOp UnOp.not 4 (Operand.tmp 47), 4, "", #[], none⟩
  o4 : (ops[4]?).map bare = some ⟨some 49, Op.move (Operand.tmp 48), 4, "", #[], none⟩
  o5 : (ops[5]?).map bare = some ⟨some 50, Op.fieldAddr 51 (Operand.tmp 3) 3, 0, "", #[], some (4, false)⟩
  o6 : (ops[6]?).map bare = some ⟨some 51, Op.load 3 (Operand.tmp 50), 3, "", #[], some (4, false)⟩
  o7 : (ops[7]?).map bare = some ⟨some 52, Op.move (Operand.tmp 6), 3, "", #[], some (4, false)⟩
  o8 : (ops[8]?).map bare = some ⟨some 53, Op.binOp BinOp.eql 3 (Operand.tmp 51) (Operand.tmp 52) 3, 4, "", #[], some (4, false)⟩
  o9 : (ops[9]?).map bare = some ⟨some 54, Op.pick (Operand.tmp 49) (Operand.const (Value.bool true)) (Operand.tmp 53), 4, "", #[], none⟩
  o10 : (ops[10]?).map bare = some ⟨none, Op.store 55 (Operand.tmp 4) (Operand.tmp 45), 0, "", #[], none⟩
  o11 : (ops[11]?).map bare = some ⟨some 5, Op.assign (Operand.tmp 54), 4, "", #[], none⟩
  may0 : takeB .any ops [0, 1] (Array.replicate 12 false) = true
  r2 : Region.ready .any ops (mark [0, 1] (Array.replicate 12 false)) = [2]
  may1 : takeB .any ops [3, 4, 5, 6, 7, 8, 9] ((mark [0, 1] (Array.replicate 12 false)).setIfInBounds 2 true) = true
  r10 : Region.ready .any ops (mark [3, 4, 5, 6, 7, 8, 9] ((mark [0, 1] (Array.replicate 12 false)).setIfInBounds 2 true)) = [10]
  may2 : takeB .any ops [11] ((mark [3, 4, 5, 6, 7, 8, 9] ((mark [0, 1] (Array.replicate 12 false)).setIfInBounds 2 true)).setIfInBounds 10 true) = true
  fin : Region.ready .any ops (mark [11] ((mark [3, 4, 5, 6, 7, 8, 9] ((mark [0, 1] (Array.replicate 12 false)).setIfInBounds 2 true)).setIfInBounds 10 true)) = []

set_option maxRecDepth 100000 in
set_option maxHeartbeats 3200000 in
theorem dof_region {ops : Array Oper} {id : Nat} {Q : Exit → Act → World → Prop} {a : Act} {y : World} (R : dofR ops) (bc bn br : Nat) (nn sv sy : Int) (pn : Option Addr) (ln cn : Nat) (xa : Array Value)
    (hQ : ∀ d v c a w, Q (.panic c) (a.put d v) w → Q (.panic c) a w) (hsz : a.tmps.size = 55) (e3 : a.eval (.tmp 3) = .pointer (some ⟨bc, 0, none⟩)) (e4 : a.eval (.tmp 4) = .pointer (some ⟨br, 0, none⟩)) (e6 : a.eval (.tmp 6) = .int .i64 sv) (e7 : a.eval (.tmp 7) = .pointer (some ⟨bn, 0, none⟩)) (hS0 : (loadVar 55 ⟨bn, 0, none⟩).run Try.prog y.drew = .ok (.agg #[.int .i64 nn, .slice pn ln cn]) y.drew ∧ (loadVar 51 ⟨bc, 0, none⟩).run Try.prog y.drew = .ok (.agg xa) y.drew ∧ y.drew.cell? ⟨bc, 3, none⟩ = some (.int .i64 sy)) (T : World → Prop) (hc1 : Calls Try.prog 37 #[.agg xa] y.drew fun e w9 => e = .returned (.bool false) ∧ ((loadVar 55 ⟨bn, 0, none⟩).run Try.prog w9 = .ok (.agg #[.int .i64 nn, .slice pn ln cn]) w9 ∧ (loadVar 51 ⟨bc, 0, none⟩).run Try.prog w9 = .ok (.agg xa) w9 ∧ w9.cell? ⟨bc, 3, none⟩ = some (.int .i64 sy)) ∧ T w9) (hst : ∀ w9, T w9 → (∃ u1 u2, w9.cell? ⟨br, 0, none⟩ = some u1 ∧ (w9.setCell ⟨br, 0, none⟩ (.int .i64 nn)).cell? ⟨br, 1, none⟩ = some u2 ∧ w9.frozen? ⟨br, 0, none⟩ = false ∧ (w9.setCell ⟨br, 0, none⟩ (.int .i64 nn)).frozen? ⟨br, 1, none⟩ = false) ∧ ((loadVar 55 ⟨bn, 0, none⟩).run Try.prog ((w9.setCell ⟨br, 0, none⟩ (.int .i64 nn)).setCell ⟨br, 1, none⟩ (.slice pn ln cn)) = .ok (.agg #[.int .i64 nn, .slice pn ln cn]) ((w9.setCell ⟨br, 0, none⟩ (.int .i64 nn)).setCell ⟨br, 1, none⟩ (.slice pn ln cn)) ∧ (loadVar 51 ⟨bc, 0, none⟩).run Try.prog ((w9.setCell ⟨br, 0, none⟩ (.int .i64 nn)).setCell ⟨br, 1, none⟩ (.slice pn ln cn)) = .ok (.agg xa) ((w9.setCell ⟨br, 0, none⟩ (.int .i64 nn)).setCell ⟨br, 1, none⟩ (.slice pn ln cn)) ∧ ((w9.setCell ⟨br, 0, none⟩ (.int .i64 nn)).setCell ⟨br, 1, none⟩ (.slice pn ln cn)).cell? ⟨bc, 3, none⟩ = some (.int .i64 sy)))
    (hK : ∀ w9, T w9 → Q .normal (((((((((((a.put (some 45) (.agg #[.int .i64 nn, .slice pn ln cn])).put (some 46) (.agg xa)).put (some 47) (.bool false)).put (some 48) (.bool true)).put (some 49) (.bool true)).put (some 50) (undef)).put (some 51) (undef)).put (some 52) (undef)).put (some 53) (undef)).put (some 54) (.bool true)).put (some 5) (.bool true)) ((w9.setCell ⟨br, 0, none⟩ (.int .i64 nn)).setCell ⟨br, 1, none⟩ (.slice pn ln cn))) : (Code.region id ops true).wp Try.prog Q a y := by
  have HR : Hid (dofR ops) := R
  have hdf : a.defers = a.defers := rfl
  refine wp_region_held_drew (S := (fun z : World => (loadVar 55 ⟨bn, 0, none⟩).run Try.prog z = .ok (.agg #[.int .i64 nn, .slice pn ln cn]) z ∧ (loadVar 51 ⟨bc, 0, none⟩).run Try.prog z = .ok (.agg xa) z ∧ z.cell? ⟨bc, 3, none⟩ = some (.int .i64 sy))) (by kernel_rfl) (hS0) (fun hHeld => ?_)
  rw [R.size]
  clear R
  refine wpAnyH_takes HR.out.sel hQ hHeld [0, 1] 10 _ _ HR.out.may0 ?_
  refine wpTake_stepE ⟨some 45, Op.load 55 (Operand.tmp 7), 55, "", #[], none⟩ 45 (.agg #[.int .i64 nn, .slice pn ln cn]) HR.out.o0 rfl (by rw [hsz]; decide) (wanted_none rfl) (fun z hS => dof_0 bc bn br nn sv sy pn ln cn xa _ z (fun _ => rfl) e7 hS) ?_
  intro a1 ha1 s1 f1 n1 k1
  replace hsz := s1.trans hsz
  replace hdf := f1.trans hdf
  replace e3 := (k1 3 (by decide)).trans e3
  replace e4 := (k1 4 (by decide)).trans e4
  replace e6 := (k1 6 (by decide)).trans e6
  have e45 := n1
  clear s1 f1 n1 k1
  refine wpTake_stepE ⟨some 46, Op.load 51 (Operand.tmp 3), 51, "", #[], none⟩ 46 (.agg xa) HR.out.o1 rfl (by rw [hsz]; decide) (wanted_none rfl) (fun z hS => dof_1 bc bn br nn sv sy pn ln cn xa _ z (fun _ => rfl) e3 hS) ?_
  intro a2 ha2 s1 f1 n1 k1
  replace hsz := s1.trans hsz
  replace hdf := f1.trans hdf
  replace e3 := (k1 3 (by decide)).trans e3
  replace e4 := (k1 4 (by decide)).trans e4
  replace e6 := (k1 6 (by decide)).trans e6
  replace e45 := (k1 45 (by decide)).trans e45
  have e46 := n1
  clear s1 f1 n1 k1
  refine wpTake_nil ?_
  refine wpAnyH_one ⟨some 47, Op.call { callee := Callee.value (Operand.func 37), args := #[Operand.tmp 46], argTypes := #[51] }, 4, "", #[], none⟩ HR.out.r2 HR.out.o2 rfl (fun K' hK' => ?_)
  refine wp_enter (dof_2 bc bn br nn sv sy pn ln cn xa _ _ (fun _ => rfl) rfl e46) (hc1) ?_
  rintro e9 w9 ⟨rfl, hS9, hT⟩
  refine ⟨_, rfl, hK'.out _ _ (hS9) ?_⟩
  replace hHeld := hS9
  clear hK' K'
  show wpAnyH _ _ _ _ _ _ _ (Act.put a2 (some 47) (.bool false)) _
  obtain ⟨s1, f1, n1, k1⟩ := act_put a2 47 (.bool false) (show 47 < _ by rw [hsz]; decide)
  obtain ⟨a3, ha3⟩ : ∃ x, x = Act.put a2 (some 47) (.bool false) := ⟨_, rfl⟩
  rw [← ha3] at s1 f1 n1 k1 ⊢
  replace hsz := s1.trans hsz
  replace hdf := f1.trans hdf
  replace e3 := (k1 3 (by decide)).trans e3
  replace e4 := (k1 4 (by decide)).trans e4
  replace e6 := (k1 6 (by decide)).trans e6
  replace e45 := (k1 45 (by decide)).trans e45
  have e47 := n1
  clear s1 f1 n1 k1
  obtain ⟨⟨u1, u2, q1, q2, q3, q4⟩, hS3⟩ := hst _ hT
  refine wpAnyH_takes HR.out.sel hQ hHeld [3, 4, 5, 6, 7, 8, 9] 2 _ _ HR.out.may1 ?_
  refine wpTake_stepE ⟨some 48, Op.unOp UnOp.not 4 (Operand.tmp 47), 4, "", #[], none⟩ 48 (.bool true) HR.out.o3 rfl (by rw [hsz]; decide) (wanted_none rfl) (fun z hS => dof_3 bc bn br nn sv sy pn ln cn xa _ z (fun _ => rfl) e47 hS) ?_
  intro a4 ha4 s1 f1 n1 k1
  replace hsz := s1.trans hsz
  replace hdf := f1.trans hdf
  replace e3 := (k1 3 (by decide)).trans e3
  replace e4 := (k1 4 (by decide)).trans e4
  replace e6 := (k1 6 (by decide)).trans e6
  replace e45 := (k1 45 (by decide)).trans e45
  have e48 := n1
  clear s1 f1 n1 k1
  refine wpTake_stepE ⟨some 49, Op.move (Operand.tmp 48), 4, "", #[], none⟩ 49 (.bool true) HR.out.o4 rfl (by rw [hsz]; decide) (wanted_none rfl) (fun z hS => dof_4 bc bn br nn sv sy pn ln cn xa _ z (fun _ => rfl) e48 hS) ?_
  intro a5 ha5 s1 f1 n1 k1
  replace hsz := s1.trans hsz
  replace hdf := f1.trans hdf
  replace e3 := (k1 3 (by decide)).trans e3
  replace e4 := (k1 4 (by decide)).trans e4
  replace e6 := (k1 6 (by decide)).trans e6
  replace e45 := (k1 45 (by decide)).trans e45
  have e49 := n1
  clear s1 f1 n1 k1
  refine wpTake_stepU ⟨some 50, Op.fieldAddr 51 (Operand.tmp 3) 3, 0, "", #[], some (4, false)⟩ 50 HR.out.o5 rfl (by rw [hsz]; decide) (wanted_not rfl (yielded_of HR.out.o4 rfl e49 (by rw [hsz]; decide))) ?_
  intro a6 ha6 s1 f1 n1 k1
  replace hsz := s1.trans hsz
  replace hdf := f1.trans hdf
  replace e4 := (k1 4 (by decide)).trans e4
  replace e6 := (k1 6 (by decide)).trans e6
  replace e45 := (k1 45 (by decide)).trans e45
  replace e49 := (k1 49 (by decide)).trans e49
  have e50 := n1
  clear s1 f1 n1 k1
  refine wpTake_stepU ⟨some 51, Op.load 3 (Operand.tmp 50), 3, "", #[], some (4, false)⟩ 51 HR.out.o6 rfl (by rw [hsz]; decide) (wanted_not rfl (yielded_of HR.out.o4 rfl e49 (by rw [hsz]; decide))) ?_
  intro a7 ha7 s1 f1 n1 k1
  replace hsz := s1.trans hsz
  replace hdf := f1.trans hdf
  replace e4 := (k1 4 (by decide)).trans e4
  replace e6 := (k1 6 (by decide)).trans e6
  replace e45 := (k1 45 (by decide)).trans e45
  replace e49 := (k1 49 (by decide)).trans e49
  have e51 := n1
  clear s1 f1 n1 k1
  refine wpTake_stepU ⟨some 52, Op.move (Operand.tmp 6), 3, "", #[], some (4, false)⟩ 52 HR.out.o7 rfl (by rw [hsz]; decide) (wanted_not rfl (yielded_of HR.out.o4 rfl e49 (by rw [hsz]; decide))) ?_
  intro a8 ha8 s1 f1 n1 k1
  replace hsz := s1.trans hsz
  replace hdf := f1.trans hdf
  replace e4 := (k1 4 (by decide)).trans e4
  replace e45 := (k1 45 (by decide)).trans e45
  replace e49 := (k1 49 (by decide)).trans e49
  replace e51 := (k1 51 (by decide)).trans e51
  have e52 := n1
  clear s1 f1 n1 k1
  refine wpTake_stepU ⟨some 53, Op.binOp BinOp.eql 3 (Operand.tmp 51) (Operand.tmp 52) 3, 4, "", #[], some (4, false)⟩ 53 HR.out.o8 rfl (by rw [hsz]; decide) (wanted_not rfl (yielded_of HR.out.o4 rfl e49 (by rw [hsz]; decide))) ?_
  intro a9 ha9 s1 f1 n1 k1
  replace hsz := s1.trans hsz
  replace hdf := f1.trans hdf
  replace e4 := (k1 4 (by decide)).trans e4
  replace e45 := (k1 45 (by decide)).trans e45
  replace e49 := (k1 49 (by decide)).trans e49
  have e53 := n1
  clear s1 f1 n1 k1
  refine wpTake_stepE ⟨some 54, Op.pick (Operand.tmp 49) (Operand.const (Value.bool true)) (Operand.tmp 53), 4, "", #[], none⟩ 54 (.bool true) HR.out.o9 rfl (by rw [hsz]; decide) (wanted_none rfl) (fun z hS => dof_9 bc bn br nn sv sy pn ln cn xa _ z (fun _ => rfl) e49 e53 hS) ?_
  intro a10 ha10 s1 f1 n1 k1
  replace hsz := s1.trans hsz
  replace hdf := f1.trans hdf
  replace e4 := (k1 4 (by decide)).trans e4
  replace e45 := (k1 45 (by decide)).trans e45
  have e54 := n1
  clear s1 f1 n1 k1
  refine wpTake_nil ?_
  refine wpAnyH_skip ⟨none, Op.store 55 (Operand.tmp 4) (Operand.tmp 45), 0, "", #[], none⟩ ((w9.setCell ⟨br, 0, none⟩ (.int .i64 nn)).setCell ⟨br, 1, none⟩ (.slice pn ln cn)) HR.out.r10 HR.out.o10 rfl rfl (do_st br nn pn ln cn u1 u2 _ _ e4 e45 q1 q2 q3 q4) (hS3) ?_
  replace hHeld := hS3
  refine wpAnyH_takes HR.out.sel hQ hHeld [11] 0 _ _ HR.out.may2 ?_
  refine wpTake_stepE ⟨some 5, Op.assign (Operand.tmp 54), 4, "", #[], none⟩ 5 (.bool true) HR.out.o11 rfl (by rw [hsz]; decide) (wanted_none rfl) (fun z hS => dof_11 bc bn br nn sv sy pn ln cn xa _ z (fun _ => rfl) e54 hS) ?_
  intro a11 ha11 s1 f1 n1 k1
  replace hsz := s1.trans hsz
  replace hdf := f1.trans hdf
  clear s1 f1 n1 k1
  refine wpTake_nil ?_
  refine wpAnyH_done HR.out.fin ?_ _
  rw [ha11, ha10, ha9, ha8, ha7, ha6, ha5, ha4, ha3, ha2, ha1]
  exact hK _ hT
-- R: ⟨by kernel_rfl, by kernel_rfl, by kernel_rfl, by kernel_rfl, by kernel_rfl, by kernel_rfl, by kernel_rfl, by kernel_rfl, by kernel_rfl, by kernel_rfl, by kernel_rfl, by kernel_rfl, by kernel_rfl, by kernel_rfl, by kernel_rfl, by kernel_rfl, by kernel_rfl, by kernel_rfl, by kernel_rfl, by kernel_rfl⟩

end Go.Proofs.Ytbbgplnenbkfeaa
