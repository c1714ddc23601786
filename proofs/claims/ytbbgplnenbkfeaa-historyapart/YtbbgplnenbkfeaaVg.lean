/- The drawn region of HistoryBegins (laid by scripts/mkvg.py). -/
import Derived.Test.YtbbgplnenbkfeaaVc
namespace Go.Proofs.Ytbbgplnenbkfeaa
set_option linter.unusedVariables false
set_option linter.unusedSimpArgs false
open Go.RowKit Go.Deep Go.Maps

theorem bg_bs (p q : Option Addr) (n c m d : Nat) (ev : Operand → Value) (z : World) (e15 : ev (.tmp 15) = .slice p n c) (e18 : ev (.tmp 18) = .slice q m d) : (execOp ev ⟨some 19, Op.buildSlice 33 2 #[(0, Operand.tmp 15), (1, Operand.tmp 18)], 33, "", #[], none⟩).run Try.prog z = .ok (.value (.slice (some ⟨z.heap.size, 0, none⟩) 2 2)) (z.alloc (.cells #[.slice p n c, .slice q m d] 22)) := by go_simp
theorem bg_ln (p : Option Addr) (ev : Operand → Value) (z : World) (e19 : ev (.tmp 19) = .slice p 2 2) : (execOp ev ⟨some 20, Op.call { callee := Callee.builtin Builtin.len, args := #[Operand.tmp 19], argTypes := #[33] }, 3, "", #[], none⟩).run Try.prog z = .ok (.value (.int .i64 2)) z := by go_simp
theorem bg_0 (p : Option Addr) (n c m : Nat) (hm : (m : Int) = if (n : Int) < 30 then (n : Int) else 30) (hc : (m : Int) ≤ (c : Int)) (pa : Option Addr) (na ca : Nat) (lost : Int) (ev : Operand → Value) (z : World) (ec : ∀ c, ev (.const c) = c) (e0 : ev (.tmp 0) = .slice p n c) (hS : True) : (execOp ev ⟨some 11, Op.move (Operand.tmp 0), 22, "", #[], none⟩).run Try.prog z = .ok (.value (.slice p n c)) z := by
  obtain s1 := hS
  go_simp
theorem bg_1 (p : Option Addr) (n c m : Nat) (hm : (m : Int) = if (n : Int) < 30 then (n : Int) else 30) (hc : (m : Int) ≤ (c : Int)) (pa : Option Addr) (na ca : Nat) (lost : Int) (ev : Operand → Value) (z : World) (ec : ∀ c, ev (.const c) = c) (e0 : ev (.tmp 0) = .slice p n c) (hS : True) : (execOp ev ⟨some 12, Op.move (Operand.tmp 0), 22, "", #[], none⟩).run Try.prog z = .ok (.value (.slice p n c)) z := by
  obtain s1 := hS
  go_simp
theorem bg_2 (p : Option Addr) (n c m : Nat) (hm : (m : Int) = if (n : Int) < 30 then (n : Int) else 30) (hc : (m : Int) ≤ (c : Int)) (pa : Option Addr) (na ca : Nat) (lost : Int) (ev : Operand → Value) (z : World) (ec : ∀ c, ev (.const c) = c) (e12 : ev (.tmp 12) = .slice p n c) (hS : True) : (execOp ev ⟨some 13, Op.call { callee := Callee.builtin Builtin.len, args := #[Operand.tmp 12], argTypes := #[22] }, 3, "", #[], none⟩).run Try.prog z = .ok (.value (.int .i64 (n : Int))) z := by
  obtain s1 := hS
  go_simp
theorem bg_3 (p : Option Addr) (n c m : Nat) (hm : (m : Int) = if (n : Int) < 30 then (n : Int) else 30) (hc : (m : Int) ≤ (c : Int)) (pa : Option Addr) (na ca : Nat) (lost : Int) (ev : Operand → Value) (z : World) (ec : ∀ c, ev (.const c) = c) (e13 : ev (.tmp 13) = .int .i64 (n : Int)) (hS : True) : (execOp ev ⟨some 14, Op.call { callee := Callee.builtin Builtin.min, args := #[Operand.tmp 13, Operand.const (Value.int IntKind.i64 30)], argTypes := #[3, 3] }, 3, "", #[], none⟩).run Try.prog z = .ok (.value (.int .i64 (m : Int))) z := by
  clear hS hc
  have h2 : min (n : Int) 30 = (m : Int) := by rw [hm]; split <;> omega
  clear hm
  go_simp
theorem bg_4 (p : Option Addr) (n c m : Nat) (hm : (m : Int) = if (n : Int) < 30 then (n : Int) else 30) (hc : (m : Int) ≤ (c : Int)) (pa : Option Addr) (na ca : Nat) (lost : Int) (ev : Operand → Value) (z : World) (ec : ∀ c, ev (.const c) = c) (e11 : ev (.tmp 11) = .slice p n c) (e14 : ev (.tmp 14) = .int .i64 (m : Int)) (hS : True) : (execOp ev ⟨some 15, Op.slice 22 (Operand.tmp 11) none (some (Operand.tmp 14)) none, 22, "", #[], none⟩).run Try.prog z = .ok (.value (.slice p m c)) z := by
  clear hS hm
  go_simp
theorem bg_5 (p : Option Addr) (n c m : Nat) (hm : (m : Int) = if (n : Int) < 30 then (n : Int) else 30) (hc : (m : Int) ≤ (c : Int)) (pa : Option Addr) (na ca : Nat) (lost : Int) (ev : Operand → Value) (z : World) (ec : ∀ c, ev (.const c) = c) (e1 : ev (.tmp 1) = .slice pa na ca) (hS : True) : (execOp ev ⟨some 16, Op.move (Operand.tmp 1), 24, "", #[], none⟩).run Try.prog z = .ok (.value (.slice pa na ca)) z := by
  obtain s1 := hS
  go_simp
theorem bg_6 (p : Option Addr) (n c m : Nat) (hm : (m : Int) = if (n : Int) < 30 then (n : Int) else 30) (hc : (m : Int) ≤ (c : Int)) (pa : Option Addr) (na ca : Nat) (lost : Int) (ev : Operand → Value) (z : World) (ec : ∀ c, ev (.const c) = c) (e2 : ev (.tmp 2) = .int .u64 lost) (hS : True) : (execOp ev ⟨some 17, Op.move (Operand.tmp 2), 25, "", #[], none⟩).run Try.prog z = .ok (.value (.int .u64 lost)) z := by
  obtain s1 := hS
  go_simp
theorem bg_10 (p : Option Addr) (n c m : Nat) (hm : (m : Int) = if (n : Int) < 30 then (n : Int) else 30) (hc : (m : Int) ≤ (c : Int)) (pa : Option Addr) (na ca : Nat) (lost : Int) (ev : Operand → Value) (z : World) (ec : ∀ c, ev (.const c) = c)  (hS : True) : (execOp ev ⟨some 21, Op.move (Operand.const (Value.int IntKind.i64 0)), 3, "", #[], none⟩).run Try.prog z = .ok (.value (.int .i64 0)) z := by
  obtain s1 := hS
  go_simp
set_option maxRecDepth 100000 in
theorem bg_7 (p : Option Addr) (n c m : Nat) (hm : (m : Int) = if (n : Int) < 30 then (n : Int) else 30) (hc : (m : Int) ≤ (c : Int)) (pa : Option Addr) (na ca : Nat) (lost : Int) (ev : Operand → Value) (z : World) (ec : ∀ c, ev (.const c) = c) (ef : ev (.func 15) = .func (.func 15) #[] #[]) (e16 : ev (.tmp 16) = .slice pa na ca) (e17 : ev (.tmp 17) = .int .u64 lost) : (execOp ev ⟨some 18, Op.call { callee := Callee.value (Operand.func 15), args := #[Operand.tmp 16, Operand.tmp 17], argTypes := #[24, 25] }, 22, "", #[], none⟩).run Try.prog z = .ok (.enter 15 #[.slice pa na ca, .int .u64 lost]) z :=
  enter_run _ ef (by simp only [List.map_toArray, List.map_cons, List.map_nil, ec, e16, e17]) (fun _ => by rfl)
structure bgR (ops : Array Oper) : Prop where
  size : ops.size = 11
  sel : Region.noSelect ops = true
  o0 : (ops[0]?).map bare = some ⟨some 11, Op.move (Operand.tmp 0), 22, "", #[], none⟩
  o1 : (ops[1]?).map bare = some ⟨some 12, Op.move (Operand.tmp 0), 22, "", #[], none⟩
  o2 : (ops[2]?).map bare = some ⟨some 13, Op.call { callee := Callee.builtin Builtin.len, args := #[Operand.tmp 12], argTypes := #[22] }, 3, "", #[], none⟩
  o3 : (ops[3]?).map bare = some ⟨some 14, Op.call { callee := Callee.builtin Builtin.min, args := #[Operand.tmp 13, Operand.const (Value.int IntKind.i64 30)], argTypes := #[3, 3] }, 3, "", #[], none⟩
  o4 : (ops[4]?).map bare = some ⟨some 15, Op.slice 22 (Operand.tmp 11) none (some (Operand.tmp 14)) none, 22, "", #[], none⟩
  o5 : (ops[5]?).map bare = some ⟨some 16, Op.move (Operand.tmp 1), 24, "", #[], none⟩
  o6 : (ops[6]?).map bare = some ⟨some 17, Op.move (Operand.tmp 2), 25, "", #[], none⟩
  o7 : (ops[7]?).map bare = some ⟨some 18, Op.call { callee := Callee.value (Operand.func 15), args := #[Operand.tmp 16, Operand.tmp 17], argTypes := #[24, 25] }, 22, "", #[], none⟩
  o8 : (ops[8]?).map bare = some ⟨some 19, Op.buildSlice 33 2 #[(0, Operand.tmp 15), (1, Operand.tmp 18)], 33, "", #[], none⟩
  o9 : (ops[9]?).map bare = some ⟨some 20, Op.call { callee := Callee.builtin Builtin.len, args := #[Operand.tmp 19], argTypes := #[33] }, 3, "", #[], none⟩
  o10 : (ops[10]?).map bare = some ⟨some 21, Op.move (Operand.const (Value.int IntKind.i64 0)), 3, "", #[], none⟩
  may0 : takeB .any ops [0, 1, 2, 3, 4, 5, 6, 10] (Array.replicate 11 false) = true
  r7 : Region.ready .any ops (mark [0, 1, 2, 3, 4, 5, 6, 10] (Array.replicate 11 false)) = [7]
  r8 : Region.ready .any ops ((mark [0, 1, 2, 3, 4, 5, 6, 10] (Array.replicate 11 false)).setIfInBounds 7 true) = [8]
  r9 : Region.ready .any ops (((mark [0, 1, 2, 3, 4, 5, 6, 10] (Array.replicate 11 false)).setIfInBounds 7 true).setIfInBounds 8 true) = [9]
  fin : Region.ready .any ops ((((mark [0, 1, 2, 3, 4, 5, 6, 10] (Array.replicate 11 false)).setIfInBounds 7 true).setIfInBounds 8 true).setIfInBounds 9 true) = []

set_option maxRecDepth 100000 in
set_option maxHeartbeats 3200000 in
theorem bg_region {ops : Array Oper} {id : Nat} {Q : Exit → Act → World → Prop} {a : Act} {y : World} (R : bgR ops) (p : Option Addr) (n c m : Nat) (hm : (m : Int) = if (n : Int) < 30 then (n : Int) else 30) (hc : (m : Int) ≤ (c : Int)) (pa : Option Addr) (na ca : Nat) (lost : Int)
    (hQ : ∀ d v c a w, Q (.panic c) (a.put d v) w → Q (.panic c) a w) (hsz : a.tmps.size = 46) (e0 : a.eval (.tmp 0) = .slice p n c) (e1 : a.eval (.tmp 1) = .slice pa na ca) (e2 : a.eval (.tmp 2) = .int .u64 lost) (hS0 : True) (T : Option Addr → Nat → Nat → World → Prop) (hc1 : Calls Try.prog 15 #[.slice pa na ca, .int .u64 lost] y.drew fun e w9 => ∃ q n2 c2, e = .returned (.slice q n2 c2) ∧ T q n2 c2 w9)
    (hK : ∀ (q : Option Addr) (n2 c2 : Nat) (w9 : World), T q n2 c2 w9 → Q .normal (((((((((((a.put (some 11) (.slice p n c)).put (some 12) (.slice p n c)).put (some 13) (.int .i64 (n : Int))).put (some 14) (.int .i64 (m : Int))).put (some 15) (.slice p m c)).put (some 16) (.slice pa na ca)).put (some 17) (.int .u64 lost)).put (some 21) (.int .i64 0)).put (some 18) (.slice q n2 c2)).put (some 19) (.slice (some ⟨w9.heap.size, 0, none⟩) 2 2)).put (some 20) (.int .i64 2)) (w9.alloc (.cells #[.slice p m c, .slice q n2 c2] 22))) : (Code.region id ops true).wp Try.prog Q a y := by
  have HR : Hid (bgR ops) := R
  have hdf : a.defers = a.defers := rfl
  refine wp_region_held_drew (S := (fun z : World => True)) (by kernel_rfl) (hS0) (fun hHeld => ?_)
  rw [R.size]
  clear R
  refine wpAnyH_takes HR.out.sel hQ hHeld [0, 1, 2, 3, 4, 5, 6, 10] 3 _ _ HR.out.may0 ?_
  refine wpTake_stepE ⟨some 11, Op.move (Operand.tmp 0), 22, "", #[], none⟩ 11 (.slice p n c) HR.out.o0 rfl (by rw [hsz]; decide) (wanted_none rfl) (fun z hS => bg_0 p n c m hm hc pa na ca lost _ z (fun _ => rfl) e0 hS) ?_
  intro a1 ha1 s1 f1 n1 k1
  replace hsz := s1.trans hsz
  replace hdf := f1.trans hdf
  replace e0 := (k1 0 (by decide)).trans e0
  replace e1 := (k1 1 (by decide)).trans e1
  replace e2 := (k1 2 (by decide)).trans e2
  have e11 := n1
  clear s1 f1 n1 k1
  refine wpTake_stepE ⟨some 12, Op.move (Operand.tmp 0), 22, "", #[], none⟩ 12 (.slice p n c) HR.out.o1 rfl (by rw [hsz]; decide) (wanted_none rfl) (fun z hS => bg_1 p n c m hm hc pa na ca lost _ z (fun _ => rfl) e0 hS) ?_
  intro a2 ha2 s1 f1 n1 k1
  replace hsz := s1.trans hsz
  replace hdf := f1.trans hdf
  replace e1 := (k1 1 (by decide)).trans e1
  replace e2 := (k1 2 (by decide)).trans e2
  replace e11 := (k1 11 (by decide)).trans e11
  have e12 := n1
  clear s1 f1 n1 k1
  refine wpTake_stepE ⟨some 13, Op.call { callee := Callee.builtin Builtin.len, args := #[Operand.tmp 12], argTypes := #[22] }, 3, "", #[], none⟩ 13 (.int .i64 (n : Int)) HR.out.o2 rfl (by rw [hsz]; decide) (wanted_none rfl) (fun z hS => bg_2 p n c m hm hc pa na ca lost _ z (fun _ => rfl) e12 hS) ?_
  intro a3 ha3 s1 f1 n1 k1
  replace hsz := s1.trans hsz
  replace hdf := f1.trans hdf
  replace e1 := (k1 1 (by decide)).trans e1
  replace e2 := (k1 2 (by decide)).trans e2
  replace e11 := (k1 11 (by decide)).trans e11
  have e13 := n1
  clear s1 f1 n1 k1
  refine wpTake_stepE ⟨some 14, Op.call { callee := Callee.builtin Builtin.min, args := #[Operand.tmp 13, Operand.const (Value.int IntKind.i64 30)], argTypes := #[3, 3] }, 3, "", #[], none⟩ 14 (.int .i64 (m : Int)) HR.out.o3 rfl (by rw [hsz]; decide) (wanted_none rfl) (fun z hS => bg_3 p n c m hm hc pa na ca lost _ z (fun _ => rfl) e13 hS) ?_
  intro a4 ha4 s1 f1 n1 k1
  replace hsz := s1.trans hsz
  replace hdf := f1.trans hdf
  replace e1 := (k1 1 (by decide)).trans e1
  replace e2 := (k1 2 (by decide)).trans e2
  replace e11 := (k1 11 (by decide)).trans e11
  have e14 := n1
  clear s1 f1 n1 k1
  refine wpTake_stepE ⟨some 15, Op.slice 22 (Operand.tmp 11) none (some (Operand.tmp 14)) none, 22, "", #[], none⟩ 15 (.slice p m c) HR.out.o4 rfl (by rw [hsz]; decide) (wanted_none rfl) (fun z hS => bg_4 p n c m hm hc pa na ca lost _ z (fun _ => rfl) e11 e14 hS) ?_
  intro a5 ha5 s1 f1 n1 k1
  replace hsz := s1.trans hsz
  replace hdf := f1.trans hdf
  replace e1 := (k1 1 (by decide)).trans e1
  replace e2 := (k1 2 (by decide)).trans e2
  have e15 := n1
  clear s1 f1 n1 k1
  refine wpTake_stepE ⟨some 16, Op.move (Operand.tmp 1), 24, "", #[], none⟩ 16 (.slice pa na ca) HR.out.o5 rfl (by rw [hsz]; decide) (wanted_none rfl) (fun z hS => bg_5 p n c m hm hc pa na ca lost _ z (fun _ => rfl) e1 hS) ?_
  intro a6 ha6 s1 f1 n1 k1
  replace hsz := s1.trans hsz
  replace hdf := f1.trans hdf
  replace e2 := (k1 2 (by decide)).trans e2
  replace e15 := (k1 15 (by decide)).trans e15
  have e16 := n1
  clear s1 f1 n1 k1
  refine wpTake_stepE ⟨some 17, Op.move (Operand.tmp 2), 25, "", #[], none⟩ 17 (.int .u64 lost) HR.out.o6 rfl (by rw [hsz]; decide) (wanted_none rfl) (fun z hS => bg_6 p n c m hm hc pa na ca lost _ z (fun _ => rfl) e2 hS) ?_
  intro a7 ha7 s1 f1 n1 k1
  replace hsz := s1.trans hsz
  replace hdf := f1.trans hdf
  replace e15 := (k1 15 (by decide)).trans e15
  replace e16 := (k1 16 (by decide)).trans e16
  have e17 := n1
  clear s1 f1 n1 k1
  refine wpTake_stepE ⟨some 21, Op.move (Operand.const (Value.int IntKind.i64 0)), 3, "", #[], none⟩ 21 (.int .i64 0) HR.out.o10 rfl (by rw [hsz]; decide) (wanted_none rfl) (fun z hS => bg_10 p n c m hm hc pa na ca lost _ z (fun _ => rfl)  hS) ?_
  intro a8 ha8 s1 f1 n1 k1
  replace hsz := s1.trans hsz
  replace hdf := f1.trans hdf
  replace e15 := (k1 15 (by decide)).trans e15
  replace e16 := (k1 16 (by decide)).trans e16
  replace e17 := (k1 17 (by decide)).trans e17
  clear s1 f1 n1 k1
  refine wpTake_nil ?_
  refine wpAnyH_one ⟨some 18, Op.call { callee := Callee.value (Operand.func 15), args := #[Operand.tmp 16, Operand.tmp 17], argTypes := #[24, 25] }, 22, "", #[], none⟩ HR.out.r7 HR.out.o7 rfl (fun K' hK' => ?_)
  refine wp_enter (bg_7 p n c m hm hc pa na ca lost _ _ (fun _ => rfl) rfl e16 e17) (hc1) ?_
  rintro e9 w9 ⟨q, n2, c2, rfl, hT⟩
  refine ⟨_, rfl, hK'.out _ _ (trivial) ?_⟩
  replace hHeld := trivial
  clear hK' K'
  show wpAnyH _ _ _ _ _ _ _ (Act.put a8 (some 18) (.slice q n2 c2)) _
  obtain ⟨s1, f1, n1, k1⟩ := act_put a8 18 (.slice q n2 c2) (show 18 < _ by rw [hsz]; decide)
  obtain ⟨a9, ha9⟩ : ∃ x, x = Act.put a8 (some 18) (.slice q n2 c2) := ⟨_, rfl⟩
  rw [← ha9] at s1 f1 n1 k1 ⊢
  replace hsz := s1.trans hsz
  replace hdf := f1.trans hdf
  replace e15 := (k1 15 (by decide)).trans e15
  have e18 := n1
  clear s1 f1 n1 k1
  refine wpAnyH_run ⟨some 19, Op.buildSlice 33 2 #[(0, Operand.tmp 15), (1, Operand.tmp 18)], 33, "", #[], none⟩ _ (.slice (some ⟨w9.heap.size, 0, none⟩) 2 2) _ HR.out.r8 HR.out.o8 rfl rfl (bg_bs _ _ _ _ _ _ _ _ e15 e18) (trivial) ?_
  replace hHeld := trivial
  obtain ⟨s1, f1, n1, k1⟩ := act_put a9 19 (.slice (some ⟨w9.heap.size, 0, none⟩) 2 2) (show 19 < _ by rw [hsz]; decide)
  obtain ⟨a10, ha10⟩ : ∃ x, x = Act.put a9 (some 19) (.slice (some ⟨w9.heap.size, 0, none⟩) 2 2) := ⟨_, rfl⟩
  rw [← ha10] at s1 f1 n1 k1 ⊢
  replace hsz := s1.trans hsz
  replace hdf := f1.trans hdf
  have e19 := n1
  clear s1 f1 n1 k1
  refine wpAnyH_run ⟨some 20, Op.call { callee := Callee.builtin Builtin.len, args := #[Operand.tmp 19], argTypes := #[33] }, 3, "", #[], none⟩ _ (.int .i64 2) _ HR.out.r9 HR.out.o9 rfl rfl (bg_ln _ _ _ e19) (trivial) ?_
  replace hHeld := trivial
  obtain ⟨s1, f1, n1, k1⟩ := act_put a10 20 (.int .i64 2) (show 20 < _ by rw [hsz]; decide)
  obtain ⟨a11, ha11⟩ : ∃ x, x = Act.put a10 (some 20) (.int .i64 2) := ⟨_, rfl⟩
  rw [← ha11] at s1 f1 n1 k1 ⊢
  replace hsz := s1.trans hsz
  replace hdf := f1.trans hdf
  clear s1 f1 n1 k1
  refine wpAnyH_done HR.out.fin ?_ _
  rw [ha11, ha10, ha9, ha8, ha7, ha6, ha5, ha4, ha3, ha2, ha1]
  exact hK _ _ _ _ hT
-- R: ⟨by kernel_rfl, by kernel_rfl, by kernel_rfl, by kernel_rfl, by kernel_rfl, by kernel_rfl, by kernel_rfl, by kernel_rfl, by kernel_rfl, by kernel_rfl, by kernel_rfl, by kernel_rfl, by kernel_rfl, by kernel_rfl, by kernel_rfl, by kernel_rfl, by kernel_rfl, by kernel_rfl⟩

end Go.Proofs.Ytbbgplnenbkfeaa
