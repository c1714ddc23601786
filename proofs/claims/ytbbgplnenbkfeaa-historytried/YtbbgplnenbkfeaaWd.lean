/- HistoryTried (laid by scripts/mkwd.py). -/
import Derived.Test.YtbbgplnenbkfeaaWc
namespace Go.Proofs.Ytbbgplnenbkfeaa
set_option linter.unusedVariables false
set_option linter.unusedSimpArgs false
open Go.RowKit Go.Deep Go.Maps

theorem tr_0 (p : Option Addr) (n c m : Nat) (hm : (m : Int) = if (n : Int) < 11 then (n : Int) else 11) (hc : (m : Int) ≤ (c : Int)) (xb : Bool) (ev : Operand → Value) (z : World) (ec : ∀ c, ev (.const c) = c) (e0 : ev (.tmp 0) = .slice p n c) (hS : True) : (execOp ev ⟨some 3, Op.move (Operand.tmp 0), 22, "", #[], none⟩).run Try.prog z = .ok (.value (.slice p n c)) z := by
  obtain s1 := hS
  go_simp
theorem tr_1 (p : Option Addr) (n c m : Nat) (hm : (m : Int) = if (n : Int) < 11 then (n : Int) else 11) (hc : (m : Int) ≤ (c : Int)) (xb : Bool) (ev : Operand → Value) (z : World) (ec : ∀ c, ev (.const c) = c) (e0 : ev (.tmp 0) = .slice p n c) (hS : True) : (execOp ev ⟨some 4, Op.move (Operand.tmp 0), 22, "", #[], none⟩).run Try.prog z = .ok (.value (.slice p n c)) z := by
  obtain s1 := hS
  go_simp
theorem tr_2 (p : Option Addr) (n c m : Nat) (hm : (m : Int) = if (n : Int) < 11 then (n : Int) else 11) (hc : (m : Int) ≤ (c : Int)) (xb : Bool) (ev : Operand → Value) (z : World) (ec : ∀ c, ev (.const c) = c) (e4 : ev (.tmp 4) = .slice p n c) (hS : True) : (execOp ev ⟨some 5, Op.call { callee := Callee.builtin Builtin.len, args := #[Operand.tmp 4], argTypes := #[22] }, 3, "", #[], none⟩).run Try.prog z = .ok (.value (.int .i64 (n : Int))) z := by
  obtain s1 := hS
  go_simp
theorem tr_3 (p : Option Addr) (n c m : Nat) (hm : (m : Int) = if (n : Int) < 11 then (n : Int) else 11) (hc : (m : Int) ≤ (c : Int)) (xb : Bool) (ev : Operand → Value) (z : World) (ec : ∀ c, ev (.const c) = c) (e5 : ev (.tmp 5) = .int .i64 (n : Int)) (hS : True) : (execOp ev ⟨some 6, Op.call { callee := Callee.builtin Builtin.min, args := #[Operand.tmp 5, Operand.const (Value.int IntKind.i64 11)], argTypes := #[3, 3] }, 3, "", #[], none⟩).run Try.prog z = .ok (.value (.int .i64 (m : Int))) z := by
  clear hS hc
  have h2 : min (n : Int) 11 = (m : Int) := by rw [hm]; split <;> omega
  clear hm
  go_simp
theorem tr_4 (p : Option Addr) (n c m : Nat) (hm : (m : Int) = if (n : Int) < 11 then (n : Int) else 11) (hc : (m : Int) ≤ (c : Int)) (xb : Bool) (ev : Operand → Value) (z : World) (ec : ∀ c, ev (.const c) = c) (e3 : ev (.tmp 3) = .slice p n c) (e6 : ev (.tmp 6) = .int .i64 (m : Int)) (hS : True) : (execOp ev ⟨some 7, Op.slice 22 (Operand.tmp 3) none (some (Operand.tmp 6)) none, 22, "", #[], none⟩).run Try.prog z = .ok (.value (.slice p m c)) z := by
  clear hS hm
  go_simp
theorem tr_6 (p : Option Addr) (n c m : Nat) (hm : (m : Int) = if (n : Int) < 11 then (n : Int) else 11) (hc : (m : Int) ≤ (c : Int)) (xb : Bool) (ev : Operand → Value) (z : World) (ec : ∀ c, ev (.const c) = c) (e0 : ev (.tmp 0) = .slice p n c) (hS : True) : (execOp ev ⟨some 9, Op.move (Operand.tmp 0), 22, "", #[], none⟩).run Try.prog z = .ok (.value (.slice p n c)) z := by
  obtain s1 := hS
  go_simp
theorem tr_7 (p : Option Addr) (n c m : Nat) (hm : (m : Int) = if (n : Int) < 11 then (n : Int) else 11) (hc : (m : Int) ≤ (c : Int)) (xb : Bool) (ev : Operand → Value) (z : World) (ec : ∀ c, ev (.const c) = c) (e0 : ev (.tmp 0) = .slice p n c) (hS : True) : (execOp ev ⟨some 10, Op.move (Operand.tmp 0), 22, "", #[], none⟩).run Try.prog z = .ok (.value (.slice p n c)) z := by
  obtain s1 := hS
  go_simp
theorem tr_8 (p : Option Addr) (n c m : Nat) (hm : (m : Int) = if (n : Int) < 11 then (n : Int) else 11) (hc : (m : Int) ≤ (c : Int)) (xb : Bool) (ev : Operand → Value) (z : World) (ec : ∀ c, ev (.const c) = c) (e10 : ev (.tmp 10) = .slice p n c) (hS : True) : (execOp ev ⟨some 11, Op.call { callee := Callee.builtin Builtin.len, args := #[Operand.tmp 10], argTypes := #[22] }, 3, "", #[], none⟩).run Try.prog z = .ok (.value (.int .i64 (n : Int))) z := by
  obtain s1 := hS
  go_simp
theorem tr_9 (p : Option Addr) (n c m : Nat) (hm : (m : Int) = if (n : Int) < 11 then (n : Int) else 11) (hc : (m : Int) ≤ (c : Int)) (xb : Bool) (ev : Operand → Value) (z : World) (ec : ∀ c, ev (.const c) = c) (e11 : ev (.tmp 11) = .int .i64 (n : Int)) (hS : True) : (execOp ev ⟨some 12, Op.call { callee := Callee.builtin Builtin.min, args := #[Operand.tmp 11, Operand.const (Value.int IntKind.i64 11)], argTypes := #[3, 3] }, 3, "", #[], none⟩).run Try.prog z = .ok (.value (.int .i64 (m : Int))) z := by
  clear hS hc
  have h2 : min (n : Int) 11 = (m : Int) := by rw [hm]; split <;> omega
  clear hm
  go_simp
theorem tr_10 (p : Option Addr) (n c m : Nat) (hm : (m : Int) = if (n : Int) < 11 then (n : Int) else 11) (hc : (m : Int) ≤ (c : Int)) (xb : Bool) (ev : Operand → Value) (z : World) (ec : ∀ c, ev (.const c) = c) (e9 : ev (.tmp 9) = .slice p n c) (e12 : ev (.tmp 12) = .int .i64 (m : Int)) (hS : True) : (execOp ev ⟨some 13, Op.slice 22 (Operand.tmp 9) none (some (Operand.tmp 12)) none, 22, "", #[], none⟩).run Try.prog z = .ok (.value (.slice p m c)) z := by
  clear hS hm
  go_simp
set_option maxRecDepth 100000 in
theorem tr_5 (p : Option Addr) (n c m : Nat) (hm : (m : Int) = if (n : Int) < 11 then (n : Int) else 11) (hc : (m : Int) ≤ (c : Int)) (xb : Bool) (ev : Operand → Value) (z : World) (ec : ∀ c, ev (.const c) = c) (ef : ev (.func 12) = .func (.func 12) #[] #[]) (e7 : ev (.tmp 7) = .slice p m c) : (execOp ev ⟨some 8, Op.call { callee := Callee.value (Operand.func 12), args := #[Operand.tmp 7], argTypes := #[22] }, 4, "", #[], none⟩).run Try.prog z = .ok (.enter 12 #[.slice p m c]) z :=
  enter_run _ ef (by simp only [List.map_toArray, List.map_cons, List.map_nil, ec, e7]) (fun _ => by rfl)
set_option maxRecDepth 100000 in
theorem tr_11 (p : Option Addr) (n c m : Nat) (hm : (m : Int) = if (n : Int) < 11 then (n : Int) else 11) (hc : (m : Int) ≤ (c : Int)) (xb : Bool) (ev : Operand → Value) (z : World) (ec : ∀ c, ev (.const c) = c) (ef : ev (.func 14) = .func (.func 14) #[] #[]) (e13 : ev (.tmp 13) = .slice p m c) : (execOp ev ⟨some 14, Op.call { callee := Callee.value (Operand.func 14), args := #[Operand.tmp 13], argTypes := #[22] }, 4, "", #[], none⟩).run Try.prog z = .ok (.enter 14 #[.slice p m c]) z :=
  enter_run _ ef (by simp only [List.map_toArray, List.map_cons, List.map_nil, ec, e13]) (fun _ => by rfl)
theorem tr_12 (p : Option Addr) (n c m : Nat) (hm : (m : Int) = if (n : Int) < 11 then (n : Int) else 11) (hc : (m : Int) ≤ (c : Int)) (xb : Bool) (ev : Operand → Value) (z : World) (ec : ∀ c, ev (.const c) = c) (e8 : ev (.tmp 8) = .bool xb) (e14 : ev (.tmp 14) = .bool xb) (hS : True) : (execOp ev ⟨some 15, Op.binOp BinOp.eql 4 (Operand.tmp 8) (Operand.tmp 14) 4, 4, "", #[], none⟩).run Try.prog z = .ok (.value (.bool true)) z := by
  clear hS hm hc
  have hxx : (xb == xb) = true := by simp
  go_simp
theorem tr_13 (p : Option Addr) (n c m : Nat) (hm : (m : Int) = if (n : Int) < 11 then (n : Int) else 11) (hc : (m : Int) ≤ (c : Int)) (xb : Bool) (ev : Operand → Value) (z : World) (ec : ∀ c, ev (.const c) = c) (e15 : ev (.tmp 15) = .bool true) (hS : True) : (execOp ev ⟨some 2, Op.assign (Operand.tmp 15), 4, "", #[], none⟩).run Try.prog z = .ok (.value (.bool true)) z := by
  obtain s1 := hS
  go_simp
structure trR (ops : Array Oper) : Prop where
  size : ops.size = 14
  sel : Region.noSelect ops = true
  o0 : (ops[0]?).map bare = some ⟨some 3, Op.move (Operand.tmp 0), 22, "", #[], none⟩
  o1 : (ops[1]?).map bare = some ⟨some 4, Op.move (Operand.tmp 0), 22, "", #[], none⟩
  o2 : (ops[2]?).map bare = some ⟨some 5, Op.call { callee := Callee.builtin Builtin.len, args := #[Operand.tmp 4], argTypes := #[22] }, 3, "", #[], none⟩
  o3 : (ops[3]?).map bare = some ⟨some 6, Op.call { callee := Callee.builtin Builtin.min, args := #[Operand.tmp 5, Operand.const (Value.int IntKind.i64 11)], argTypes := #[3, 3] }, 3, "", #[], none⟩
  o4 : (ops[4]?).map bare = some ⟨some 7, Op.slice 22 (Operand.tmp 3) none (some (Operand.tmp 6)) none, 22, "", #[], none⟩
  o5 : (ops[5]?).map bare = some ⟨some 8, Op.call { callee := Callee.value (Operand.func 12), args := #[Operand.tmp 7], argTypes := #[22] }, 4, "", #[], none⟩
  o6 : (ops[6]?).map bare = some ⟨some 9, Op.move (Operand.tmp 0), 22, "", #[], none⟩
  o7 : (ops[7]?).map bare = some ⟨some 10, Op.move (Operand.tmp 0), 22, "", #[], none⟩
  o8 : (ops[8]?).map bare = some ⟨some 11, Op.call { callee := Callee.builtin Builtin.len, args := #[Operand.tmp 10], argTypes := #[22] }, 3, "", #[], none⟩
  o9 : (ops[9]?).map bare = some ⟨some 12, Op.call { callee := Callee.builtin Builtin.min, args := #[Operand.tmp 11, Operand.const (Value.int IntKind.i64 11)], argTypes := #[3, 3] }, 3, "", #[], none⟩
  o10 : (ops[10]?).map bare = some ⟨some 13, Op.slice 22 (Operand.tmp 9) none (some (Operand.tmp 12)) none, 22, "", #[], none⟩
  o11 : (ops[11]?).map bare = some ⟨some 14, Op.call { callee := Callee.value (Operand.func 14), args := #[Operand.tmp 13], argTypes := #[22] }, 4, "", #[], none⟩
  o12 : (ops[12]?).map bare = some ⟨some 15, Op.binOp BinOp.eql 4 (Operand.tmp 8) (Operand.tmp 14) 4, 4, "", #[], none⟩
  o13 : (ops[13]?).map bare = some ⟨some 2, Op.assign (Operand.tmp 15), 4, "", #[], none⟩
  may0 : takeB .any ops [0, 1, 2, 3, 4, 6, 7, 8, 9, 10] (Array.replicate 14 false) = true
  r5 : Region.ready .any ops (mark [0, 1, 2, 3, 4, 6, 7, 8, 9, 10] (Array.replicate 14 false)) = [5]
  r11 : Region.ready .any ops ((mark [0, 1, 2, 3, 4, 6, 7, 8, 9, 10] (Array.replicate 14 false)).setIfInBounds 5 true) = [11]
  may1 : takeB .any ops [12, 13] (((mark [0, 1, 2, 3, 4, 6, 7, 8, 9, 10] (Array.replicate 14 false)).setIfInBounds 5 true).setIfInBounds 11 true) = true
  fin : Region.ready .any ops (mark [12, 13] (((mark [0, 1, 2, 3, 4, 6, 7, 8, 9, 10] (Array.replicate 14 false)).setIfInBounds 5 true).setIfInBounds 11 true)) = []

set_option maxRecDepth 100000 in
set_option maxHeartbeats 3200000 in
theorem tr_region {ops : Array Oper} {id : Nat} {Q : Exit → Act → World → Prop} {a : Act} {y : World} (R : trR ops) (p : Option Addr) (n c m : Nat) (hm : (m : Int) = if (n : Int) < 11 then (n : Int) else 11) (hc : (m : Int) ≤ (c : Int)) (xb : Bool)
    (hQ : ∀ d v c a w, Q (.panic c) (a.put d v) w → Q (.panic c) a w) (hsz : a.tmps.size = 16) (e0 : a.eval (.tmp 0) = .slice p n c) (hS0 : True) (T : World → Prop) (hc1 : Calls Try.prog 12 #[.slice p m c] y.drew fun e w9 => e = .returned (.bool xb) ∧ Calls Try.prog 14 #[.slice p m c] w9 fun e8 w8 => e8 = .returned (.bool xb) ∧ T w8)
    (hK : ∀ (w8 : World), T w8 → Q .normal ((((((((((((((a.put (some 3) (.slice p n c)).put (some 4) (.slice p n c)).put (some 5) (.int .i64 (n : Int))).put (some 6) (.int .i64 (m : Int))).put (some 7) (.slice p m c)).put (some 9) (.slice p n c)).put (some 10) (.slice p n c)).put (some 11) (.int .i64 (n : Int))).put (some 12) (.int .i64 (m : Int))).put (some 13) (.slice p m c)).put (some 8) (.bool xb)).put (some 14) (.bool xb)).put (some 15) (.bool true)).put (some 2) (.bool true)) w8) : (Code.region id ops true).wp Try.prog Q a y := by
  have HR : Hid (trR ops) := R
  have hdf : a.defers = a.defers := rfl
  refine wp_region_held_drew (S := (fun z : World => True)) (by kernel_rfl) (hS0) (fun hHeld => ?_)
  rw [R.size]
  clear R
  refine wpAnyH_takes HR.out.sel hQ hHeld [0, 1, 2, 3, 4, 6, 7, 8, 9, 10] 4 _ _ HR.out.may0 ?_
  refine wpTake_stepE ⟨some 3, Op.move (Operand.tmp 0), 22, "", #[], none⟩ 3 (.slice p n c) HR.out.o0 rfl (by rw [hsz]; decide) (wanted_none rfl) (fun z hS => tr_0 p n c m hm hc xb _ z (fun _ => rfl) e0 hS) ?_
  intro a1 ha1 s1 f1 n1 k1
  replace hsz := s1.trans hsz
  replace hdf := f1.trans hdf
  replace e0 := (k1 0 (by decide)).trans e0
  have e3 := n1
  clear s1 f1 n1 k1
  refine wpTake_stepE ⟨some 4, Op.move (Operand.tmp 0), 22, "", #[], none⟩ 4 (.slice p n c) HR.out.o1 rfl (by rw [hsz]; decide) (wanted_none rfl) (fun z hS => tr_1 p n c m hm hc xb _ z (fun _ => rfl) e0 hS) ?_
  intro a2 ha2 s1 f1 n1 k1
  replace hsz := s1.trans hsz
  replace hdf := f1.trans hdf
  replace e0 := (k1 0 (by decide)).trans e0
  replace e3 := (k1 3 (by decide)).trans e3
  have e4 := n1
  clear s1 f1 n1 k1
  refine wpTake_stepE ⟨some 5, Op.call { callee := Callee.builtin Builtin.len, args := #[Operand.tmp 4], argTypes := #[22] }, 3, "", #[], none⟩ 5 (.int .i64 (n : Int)) HR.out.o2 rfl (by rw [hsz]; decide) (wanted_none rfl) (fun z hS => tr_2 p n c m hm hc xb _ z (fun _ => rfl) e4 hS) ?_
  intro a3 ha3 s1 f1 n1 k1
  replace hsz := s1.trans hsz
  replace hdf := f1.trans hdf
  replace e0 := (k1 0 (by decide)).trans e0
  replace e3 := (k1 3 (by decide)).trans e3
  have e5 := n1
  clear s1 f1 n1 k1
  refine wpTake_stepE ⟨some 6, Op.call { callee := Callee.builtin Builtin.min, args := #[Operand.tmp 5, Operand.const (Value.int IntKind.i64 11)], argTypes := #[3, 3] }, 3, "", #[], none⟩ 6 (.int .i64 (m : Int)) HR.out.o3 rfl (by rw [hsz]; decide) (wanted_none rfl) (fun z hS => tr_3 p n c m hm hc xb _ z (fun _ => rfl) e5 hS) ?_
  intro a4 ha4 s1 f1 n1 k1
  replace hsz := s1.trans hsz
  replace hdf := f1.trans hdf
  replace e0 := (k1 0 (by decide)).trans e0
  replace e3 := (k1 3 (by decide)).trans e3
  have e6 := n1
  clear s1 f1 n1 k1
  refine wpTake_stepE ⟨some 7, Op.slice 22 (Operand.tmp 3) none (some (Operand.tmp 6)) none, 22, "", #[], none⟩ 7 (.slice p m c) HR.out.o4 rfl (by rw [hsz]; decide) (wanted_none rfl) (fun z hS => tr_4 p n c m hm hc xb _ z (fun _ => rfl) e3 e6 hS) ?_
  intro a5 ha5 s1 f1 n1 k1
  replace hsz := s1.trans hsz
  replace hdf := f1.trans hdf
  replace e0 := (k1 0 (by decide)).trans e0
  have e7 := n1
  clear s1 f1 n1 k1
  refine wpTake_stepE ⟨some 9, Op.move (Operand.tmp 0), 22, "", #[], none⟩ 9 (.slice p n c) HR.out.o6 rfl (by rw [hsz]; decide) (wanted_none rfl) (fun z hS => tr_6 p n c m hm hc xb _ z (fun _ => rfl) e0 hS) ?_
  intro a6 ha6 s1 f1 n1 k1
  replace hsz := s1.trans hsz
  replace hdf := f1.trans hdf
  replace e0 := (k1 0 (by decide)).trans e0
  replace e7 := (k1 7 (by decide)).trans e7
  have e9 := n1
  clear s1 f1 n1 k1
  refine wpTake_stepE ⟨some 10, Op.move (Operand.tmp 0), 22, "", #[], none⟩ 10 (.slice p n c) HR.out.o7 rfl (by rw [hsz]; decide) (wanted_none rfl) (fun z hS => tr_7 p n c m hm hc xb _ z (fun _ => rfl) e0 hS) ?_
  intro a7 ha7 s1 f1 n1 k1
  replace hsz := s1.trans hsz
  replace hdf := f1.trans hdf
  replace e7 := (k1 7 (by decide)).trans e7
  replace e9 := (k1 9 (by decide)).trans e9
  have e10 := n1
  clear s1 f1 n1 k1
  refine wpTake_stepE ⟨some 11, Op.call { callee := Callee.builtin Builtin.len, args := #[Operand.tmp 10], argTypes := #[22] }, 3, "", #[], none⟩ 11 (.int .i64 (n : Int)) HR.out.o8 rfl (by rw [hsz]; decide) (wanted_none rfl) (fun z hS => tr_8 p n c m hm hc xb _ z (fun _ => rfl) e10 hS) ?_
  intro a8 ha8 s1 f1 n1 k1
  replace hsz := s1.trans hsz
  replace hdf := f1.trans hdf
  replace e7 := (k1 7 (by decide)).trans e7
  replace e9 := (k1 9 (by decide)).trans e9
  have e11 := n1
  clear s1 f1 n1 k1
  refine wpTake_stepE ⟨some 12, Op.call { callee := Callee.builtin Builtin.min, args := #[Operand.tmp 11, Operand.const (Value.int IntKind.i64 11)], argTypes := #[3, 3] }, 3, "", #[], none⟩ 12 (.int .i64 (m : Int)) HR.out.o9 rfl (by rw [hsz]; decide) (wanted_none rfl) (fun z hS => tr_9 p n c m hm hc xb _ z (fun _ => rfl) e11 hS) ?_
  intro a9 ha9 s1 f1 n1 k1
  replace hsz := s1.trans hsz
  replace hdf := f1.trans hdf
  replace e7 := (k1 7 (by decide)).trans e7
  replace e9 := (k1 9 (by decide)).trans e9
  have e12 := n1
  clear s1 f1 n1 k1
  refine wpTake_stepE ⟨some 13, Op.slice 22 (Operand.tmp 9) none (some (Operand.tmp 12)) none, 22, "", #[], none⟩ 13 (.slice p m c) HR.out.o10 rfl (by rw [hsz]; decide) (wanted_none rfl) (fun z hS => tr_10 p n c m hm hc xb _ z (fun _ => rfl) e9 e12 hS) ?_
  intro a10 ha10 s1 f1 n1 k1
  replace hsz := s1.trans hsz
  replace hdf := f1.trans hdf
  replace e7 := (k1 7 (by decide)).trans e7
  have e13 := n1
  clear s1 f1 n1 k1
  refine wpTake_nil ?_
  refine wpAnyH_one ⟨some 8, Op.call { callee := Callee.value (Operand.func 12), args := #[Operand.tmp 7], argTypes := #[22] }, 4, "", #[], none⟩ HR.out.r5 HR.out.o5 rfl (fun K' hK' => ?_)
  refine wp_enter (tr_5 p n c m hm hc xb _ _ (fun _ => rfl) rfl e7) (hc1) ?_
  rintro e9 w9 ⟨rfl, hc2⟩
  refine ⟨_, rfl, hK'.out _ _ (trivial) ?_⟩
  replace hHeld := trivial
  clear hK' K'
  show wpAnyH _ _ _ _ _ _ _ (Act.put a10 (some 8) (.bool xb)) _
  obtain ⟨s1, f1, n1, k1⟩ := act_put a10 8 (.bool xb) (show 8 < _ by rw [hsz]; decide)
  obtain ⟨a11, ha11⟩ : ∃ x, x = Act.put a10 (some 8) (.bool xb) := ⟨_, rfl⟩
  rw [← ha11] at s1 f1 n1 k1 ⊢
  replace hsz := s1.trans hsz
  replace hdf := f1.trans hdf
  replace e13 := (k1 13 (by decide)).trans e13
  have e8 := n1
  clear s1 f1 n1 k1
  refine wpAnyH_one ⟨some 14, Op.call { callee := Callee.value (Operand.func 14), args := #[Operand.tmp 13], argTypes := #[22] }, 4, "", #[], none⟩ HR.out.r11 HR.out.o11 rfl (fun K' hK' => ?_)
  refine wp_enter (tr_11 p n c m hm hc xb _ _ (fun _ => rfl) rfl e13) (hc2) ?_
  rintro e9 w9 ⟨rfl, hT⟩
  refine ⟨_, rfl, hK'.out _ _ (trivial) ?_⟩
  replace hHeld := trivial
  clear hK' K'
  show wpAnyH _ _ _ _ _ _ _ (Act.put a11 (some 14) (.bool xb)) _
  obtain ⟨s1, f1, n1, k1⟩ := act_put a11 14 (.bool xb) (show 14 < _ by rw [hsz]; decide)
  obtain ⟨a12, ha12⟩ : ∃ x, x = Act.put a11 (some 14) (.bool xb) := ⟨_, rfl⟩
  rw [← ha12] at s1 f1 n1 k1 ⊢
  replace hsz := s1.trans hsz
  replace hdf := f1.trans hdf
  replace e8 := (k1 8 (by decide)).trans e8
  have e14 := n1
  clear s1 f1 n1 k1
  refine wpAnyH_takes HR.out.sel hQ hHeld [12, 13] 0 _ _ HR.out.may1 ?_
  refine wpTake_stepE ⟨some 15, Op.binOp BinOp.eql 4 (Operand.tmp 8) (Operand.tmp 14) 4, 4, "", #[], none⟩ 15 (.bool true) HR.out.o12 rfl (by rw [hsz]; decide) (wanted_none rfl) (fun z hS => tr_12 p n c m hm hc xb _ z (fun _ => rfl) e8 e14 hS) ?_
  intro a13 ha13 s1 f1 n1 k1
  replace hsz := s1.trans hsz
  replace hdf := f1.trans hdf
  have e15 := n1
  clear s1 f1 n1 k1
  refine wpTake_stepE ⟨some 2, Op.assign (Operand.tmp 15), 4, "", #[], none⟩ 2 (.bool true) HR.out.o13 rfl (by rw [hsz]; decide) (wanted_none rfl) (fun z hS => tr_13 p n c m hm hc xb _ z (fun _ => rfl) e15 hS) ?_
  intro a14 ha14 s1 f1 n1 k1
  replace hsz := s1.trans hsz
  replace hdf := f1.trans hdf
  clear s1 f1 n1 k1
  refine wpTake_nil ?_
  refine wpAnyH_done HR.out.fin ?_ _
  rw [ha14, ha13, ha12, ha11, ha10, ha9, ha8, ha7, ha6, ha5, ha4, ha3, ha2, ha1]
  exact hK _ hT

set_option maxRecDepth 100000 in
set_option maxHeartbeats 6400000 in
theorem historyTried_walk (p : Option Addr) (n c : Nat) (es : List Ev) (w : World) (h : es.length = n ∧ Fl w (fun _ => True) p (eflat es) ∧ (∀ x ∈ es, x.ok w) ∧ (n : Int) ≤ 9223372036854775807 ∧ n ≤ c) :
    Calls Try.prog 4 #[.slice p n c] w fun e w' => e = .returned (.bool true) ∧ Kp (fun _ => False) w w' := by
  obtain ⟨m, hm⟩ : ∃ m : Nat, m = min n 11 := ⟨_, rfl⟩
  have hmn : m ≤ n ∧ m ≤ 11 := by omega
  have hl : (es.take m).length = m := by rw [List.length_take]; omega
  have hf : Fl w (fun _ => True) p (eflat (es.take m)) := by
    have hf := h.2.1
    rw [← List.take_append_drop m es, eflat_append] at hf
    exact fl_part2 hf
  have ho : ∀ e ∈ es.take m, e.ok w := fun e he => h.2.2.1 e (List.mem_of_mem_take he)
  have hmc : (m : Int) ≤ (c : Int) := by omega
  have hmi : (m : Int) = if (n : Int) < 11 then (n : Int) else 11 := by split <;> omega
  have HC : Hid (∀ u, Kp (fun _ => False) w u → Calls Try.prog 12 #[.slice p m c] u fun r w' => r = .returned (.bool (chk (es.take m))) ∧ Kp (fun _ => False) u w') := fun u ku => by
    have := check_ok (fun _ => True) p c (es.take m) u (hf.keep ku (fun _ _ => id)) (fun e he => (ho e he).keep ku) (by omega)
    rw [hl] at this
    exact this
  have HT : Hid (∀ u, Kp (fun _ => False) w u → Calls Try.prog 14 #[.slice p m c] u fun r w' => r = .returned (.bool (chk (es.take m))) ∧ Kp (fun _ => False) u w') := fun u ku => by
    have := rtried_ok rorder_ok (fun _ => True) p c (es.take m) u (hf.keep ku (fun _ _ => id)) (fun e he => (ho e he).keep ku) (by omega)
    rw [hl] at this
    exact this
  obtain ⟨b2, hb2⟩ : ∃ b, b = chk (es.take m) := ⟨_, rfl⟩
  rw [← hb2] at HC HT
  clear h hl hf ho hb2 hmn hm
  go_enter Try.func4, Try.ntmps4
  go_wp2_with fail
  have kd : Kp (fun _ => False) w w.drew := (Kp.refl _ _).drew
  refine tr_region ⟨by kernel_rfl, by kernel_rfl, by kernel_rfl, by kernel_rfl, by kernel_rfl, by kernel_rfl, by kernel_rfl, by kernel_rfl, by kernel_rfl, by kernel_rfl, by kernel_rfl, by kernel_rfl, by kernel_rfl, by kernel_rfl, by kernel_rfl, by kernel_rfl, by kernel_rfl, by kernel_rfl, by kernel_rfl, by kernel_rfl, by kernel_rfl⟩ p n c m hmi hmc b2 (fun d _ _ _ _ h => by cases d <;> exact h) (by rfl) (by rfl) trivial (fun z => Kp (fun _ => False) w z) ((HC.out _ kd).mono ?_) ?_
  · rintro e9 w9 ⟨rfl, k9⟩
    refine ⟨rfl, (HT.out w9 (kd.trans k9 (fun _ _ e => e))).mono ?_⟩
    rintro e8 w8 ⟨rfl, k8⟩
    exact ⟨rfl, (kd.trans k9 (fun _ _ e => e)).trans k8 (fun _ _ e => e)⟩
  · intro w8 k8
    simp only [Act.put, List.setIfInBounds_toArray, List.set_cons_succ, List.set_cons_zero]
    go_wp2
    go_ret
    exact ⟨rfl, k8⟩
end Go.Proofs.Ytbbgplnenbkfeaa
