/- The document's members, turned by a seed: the last region (laid by scripts/mkhr.py). -/
import Derived.Test.YtneobpdbfbcnmaaQg
import Derived.Test.YtneobpdbfbcnmaaTh
namespace Go.Proofs.Ytneobpdbfbcnmaa
set_option linter.unusedVariables false
set_option linter.unusedSimpArgs false
open Go.RowKit Go.Deep

theorem slF (g n c b : Nat) (hbn : b < n) (hnc : n ≤ c) (w : World) : (Instr.slice 22 (.slice (some ⟨g, 0, none⟩) n c) (some (.int .i64 (b : Int))) none none).run Try.prog w = .ok (.slice (some ⟨g, b, none⟩) (n - b) (c - b)) w := by
  obtain ⟨ti, hi0, hz0, hz1, hz2⟩ := info_parts infoInt
  have h1 : b ≤ n := by omega
  have h2 : ¬ c = b := by omega
  simp [Instr.slice, Instr.sliceBounds, Instr.sliceBound, asIntOf, run_underlying Try.underlying22, sizeOf, typeInfo, hi0, hz1, h1, h2, Addr.add]
  by_cases e : b = 0 <;> simp [e]
theorem slT (g n c b : Nat) (hbn : b < n) (hnc : n ≤ c) (w : World) : (Instr.slice 22 (.slice (some ⟨g, 0, none⟩) n c) none (some (.int .i64 (b : Int))) none).run Try.prog w = .ok (.slice (some ⟨g, 0, none⟩) b c) w := by
  obtain ⟨ti, hi0, hz0, hz1, hz2⟩ := info_parts infoInt
  have h1 : b ≤ c := by omega
  simp [Instr.slice, Instr.sliceBounds, Instr.sliceBound, asIntOf, run_underlying Try.underlying22, sizeOf, typeInfo, hi0, hz1, h1, Addr.add]
theorem tu_bs (ev : Operand → Value) (z : World) : (execOp ev ⟨some 38, Op.buildSlice 22 0 #[], 22, "", #[], none⟩).run Try.prog z = .ok (.value (.slice (some ⟨z.heap.size, 0, none⟩) 0 0)) (z.alloc (.cells #[] 3)) := by go_simp
theorem tu_a1 (v x v9 : Value) (ev : Operand → Value) (z z2 : World) (e1 : ev (.tmp 38) = v) (e2 : ev (.tmp 41) = x) (hr : (Builtin.append_ #[22, 22] 22 #[v, x]).run Try.prog z = .ok v9 z2) : (execOp ev ⟨some 42, Op.call { callee := Callee.builtin Builtin.append, args := #[Operand.tmp 38, Operand.tmp 41], argTypes := #[22, 22] }, 22, "", #[], none⟩).run Try.prog z = .ok (.value v9) z2 := by
  unfold execOp
  simp only [resolve, invoke, builtin, Sem.run_bind, Sem.run_pure, Result.andThen_ok, List.map_toArray, List.map_cons, List.map_nil, e1, e2, hr]
theorem tu_a2 (v x v9 : Value) (ev : Operand → Value) (z z2 : World) (e1 : ev (.tmp 42) = v) (e2 : ev (.tmp 45) = x) (hr : (Builtin.append_ #[22, 22] 22 #[v, x]).run Try.prog z = .ok v9 z2) : (execOp ev ⟨some 46, Op.call { callee := Callee.builtin Builtin.append, args := #[Operand.tmp 42, Operand.tmp 45], argTypes := #[22, 22] }, 22, "", #[], none⟩).run Try.prog z = .ok (.value v9) z2 := by
  unfold execOp
  simp only [resolve, invoke, builtin, Sem.run_bind, Sem.run_pure, Result.andThen_ok, List.map_toArray, List.map_cons, List.map_nil, e1, e2, hr]
theorem tu_1 (g n c b q : Nat) (v2 v3 : Value) (w1 w2 w3 : World) (hbn : b < n) (hnc : n ≤ c) (ev : Operand → Value) (z : World) (ec : ∀ c, ev (.const c) = c) (e5 : ev (.tmp 5) = .slice (some ⟨g, 0, none⟩) n c) (hS : True) : (execOp ev ⟨some 39, Op.move (Operand.tmp 5), 22, "", #[], none⟩).run Try.prog z = .ok (.value (.slice (some ⟨g, 0, none⟩) n c)) z := by
  obtain _ := hS
  go_simp
theorem tu_2 (g n c b q : Nat) (v2 v3 : Value) (w1 w2 w3 : World) (hbn : b < n) (hnc : n ≤ c) (ev : Operand → Value) (z : World) (ec : ∀ c, ev (.const c) = c) (e9 : ev (.tmp 9) = .int .i64 (b : Int)) (hS : True) : (execOp ev ⟨some 40, Op.move (Operand.tmp 9), 3, "", #[], none⟩).run Try.prog z = .ok (.value (.int .i64 (b : Int))) z := by
  obtain _ := hS
  go_simp
theorem tu_3 (g n c b q : Nat) (v2 v3 : Value) (w1 w2 w3 : World) (hbn : b < n) (hnc : n ≤ c) (ev : Operand → Value) (z : World) (ec : ∀ c, ev (.const c) = c) (e39 : ev (.tmp 39) = .slice (some ⟨g, 0, none⟩) n c) (e40 : ev (.tmp 40) = .int .i64 (b : Int)) (hS : True) : (execOp ev ⟨some 41, Op.slice 22 (Operand.tmp 39) (some (Operand.tmp 40)) none none, 22, "", #[], none⟩).run Try.prog z = .ok (.value (.slice (some ⟨g, b, none⟩) (n - b) (c - b))) z := by
  have hs := slF g n c b hbn hnc
  go_simp
theorem tu_5 (g n c b q : Nat) (v2 v3 : Value) (w1 w2 w3 : World) (hbn : b < n) (hnc : n ≤ c) (ev : Operand → Value) (z : World) (ec : ∀ c, ev (.const c) = c) (e5 : ev (.tmp 5) = .slice (some ⟨g, 0, none⟩) n c) (hS : True) : (execOp ev ⟨some 43, Op.move (Operand.tmp 5), 22, "", #[], none⟩).run Try.prog z = .ok (.value (.slice (some ⟨g, 0, none⟩) n c)) z := by
  obtain _ := hS
  go_simp
theorem tu_6 (g n c b q : Nat) (v2 v3 : Value) (w1 w2 w3 : World) (hbn : b < n) (hnc : n ≤ c) (ev : Operand → Value) (z : World) (ec : ∀ c, ev (.const c) = c) (e9 : ev (.tmp 9) = .int .i64 (b : Int)) (hS : True) : (execOp ev ⟨some 44, Op.move (Operand.tmp 9), 3, "", #[], none⟩).run Try.prog z = .ok (.value (.int .i64 (b : Int))) z := by
  obtain _ := hS
  go_simp
theorem tu_7 (g n c b q : Nat) (v2 v3 : Value) (w1 w2 w3 : World) (hbn : b < n) (hnc : n ≤ c) (ev : Operand → Value) (z : World) (ec : ∀ c, ev (.const c) = c) (e43 : ev (.tmp 43) = .slice (some ⟨g, 0, none⟩) n c) (e44 : ev (.tmp 44) = .int .i64 (b : Int)) (hS : True) : (execOp ev ⟨some 45, Op.slice 22 (Operand.tmp 43) none (some (Operand.tmp 44)) none, 22, "", #[], none⟩).run Try.prog z = .ok (.value (.slice (some ⟨g, 0, none⟩) b c)) z := by
  have hs := slT g n c b hbn hnc
  go_simp
theorem tu_9 (g n c b q : Nat) (v2 v3 : Value) (w1 w2 w3 : World) (hbn : b < n) (hnc : n ≤ c) (ev : Operand → Value) (z : World) (ec : ∀ c, ev (.const c) = c) (e46 : ev (.tmp 46) = v3) (hS : True) : (execOp ev ⟨some 4, Op.assign (Operand.tmp 46), 22, "", #[], none⟩).run Try.prog z = .ok (.value (v3)) z := by
  obtain _ := hS
  go_simp
structure tuR (ops : Array Oper) : Prop where
  size : ops.size = 10
  sel : Region.noSelect ops = true
  o0 : (ops[0]?).map bare = some ⟨some 38, Op.buildSlice 22 0 #[], 22, "", #[], none⟩
  o1 : (ops[1]?).map bare = some ⟨some 39, Op.move (Operand.tmp 5), 22, "", #[], none⟩
  o2 : (ops[2]?).map bare = some ⟨some 40, Op.move (Operand.tmp 9), 3, "", #[], none⟩
  o3 : (ops[3]?).map bare = some ⟨some 41, Op.slice 22 (Operand.tmp 39) (some (Operand.tmp 40)) none none, 22, "", #[], none⟩
  o4 : (ops[4]?).map bare = some ⟨some 42, Op.call { callee := Callee.builtin Builtin.append, args := #[Operand.tmp 38, Operand.tmp 41], argTypes := #[22, 22] }, 22, "", #[], none⟩
  o5 : (ops[5]?).map bare = some ⟨some 43, Op.move (Operand.tmp 5), 22, "", #[], none⟩
  o6 : (ops[6]?).map bare = some ⟨some 44, Op.move (Operand.tmp 9), 3, "", #[], none⟩
  o7 : (ops[7]?).map bare = some ⟨some 45, Op.slice 22 (Operand.tmp 43) none (some (Operand.tmp 44)) none, 22, "", #[], none⟩
  o8 : (ops[8]?).map bare = some ⟨some 46, Op.call { callee := Callee.builtin Builtin.append, args := #[Operand.tmp 42, Operand.tmp 45], argTypes := #[22, 22] }, 22, "", #[], none⟩
  o9 : (ops[9]?).map bare = some ⟨some 4, Op.assign (Operand.tmp 46), 22, "", #[], none⟩
  may0 : takeB .any ops [1, 2, 3, 5, 6, 7] (Array.replicate 10 false) = true
  r0 : Region.ready .any ops (mark [1, 2, 3, 5, 6, 7] (Array.replicate 10 false)) = [0]
  r4 : Region.ready .any ops ((mark [1, 2, 3, 5, 6, 7] (Array.replicate 10 false)).setIfInBounds 0 true) = [4]
  r8 : Region.ready .any ops (((mark [1, 2, 3, 5, 6, 7] (Array.replicate 10 false)).setIfInBounds 0 true).setIfInBounds 4 true) = [8]
  may1 : takeB .any ops [9] ((((mark [1, 2, 3, 5, 6, 7] (Array.replicate 10 false)).setIfInBounds 0 true).setIfInBounds 4 true).setIfInBounds 8 true) = true
  fin : Region.ready .any ops (mark [9] ((((mark [1, 2, 3, 5, 6, 7] (Array.replicate 10 false)).setIfInBounds 0 true).setIfInBounds 4 true).setIfInBounds 8 true)) = []

set_option maxRecDepth 100000 in
set_option maxHeartbeats 3200000 in
theorem tu_region {ops : Array Oper} {id : Nat} {Q : Exit → Act → World → Prop} {a : Act} {y : World} (R : tuR ops) (g n c b q : Nat) (v2 v3 : Value) (w1 w2 w3 : World) (hbn : b < n) (hnc : n ≤ c)
    (hQ : ∀ d v c a w, Q (.panic c) (a.put d v) w → Q (.panic c) a w) (hsz : a.tmps.size = 47) (e5 : a.eval (.tmp 5) = .slice (some ⟨g, 0, none⟩) n c) (e9 : a.eval (.tmp 9) = .int .i64 (b : Int)) (hw1 : w1 = y.drew.alloc (.cells #[] 3)) (hq : q = y.drew.heap.size) (hap1 : (Builtin.append_ #[22, 22] 22 #[.slice (some ⟨q, 0, none⟩) 0 0, .slice (some ⟨g, b, none⟩) (n - b) (c - b)]).run Try.prog w1 = .ok v2 w2) (hap2 : (Builtin.append_ #[22, 22] 22 #[v2, .slice (some ⟨g, 0, none⟩) b c]).run Try.prog w2 = .ok v3 w3)
    (hK :  Q .normal ((((((((((a.put (some 39) (.slice (some ⟨g, 0, none⟩) n c)).put (some 40) (.int .i64 (b : Int))).put (some 41) (.slice (some ⟨g, b, none⟩) (n - b) (c - b))).put (some 43) (.slice (some ⟨g, 0, none⟩) n c)).put (some 44) (.int .i64 (b : Int))).put (some 45) (.slice (some ⟨g, 0, none⟩) b c)).put (some 38) (.slice (some ⟨q, 0, none⟩) 0 0)).put (some 42) (v2)).put (some 46) (v3)).put (some 4) (v3)) w3) : (Code.region id ops true).wp Try.prog Q a y := by
  have HR : Hid (tuR ops) := R
  have hdf : a.defers = a.defers := rfl
  have hS0 : True := trivial
  have HBS : Hid (∀ ev : Operand → Value, (execOp ev ⟨some 38, Op.buildSlice 22 0 #[], 22, "", #[], none⟩).run Try.prog y.drew = .ok (.value (.slice (some ⟨q, 0, none⟩) 0 0)) w1) := fun ev => by
    rw [hw1, hq]; exact tu_bs ev _
  clear hw1 hq
  refine wp_region_held_drew (S := (fun z : World => True)) (by kernel_rfl) (hS0) (fun hHeld => ?_)
  rw [R.size]
  clear R
  refine wpAnyH_takes HR.out.sel hQ hHeld [1, 2, 3, 5, 6, 7] 4 _ _ HR.out.may0 ?_
  refine wpTake_stepE ⟨some 39, Op.move (Operand.tmp 5), 22, "", #[], none⟩ 39 (.slice (some ⟨g, 0, none⟩) n c) HR.out.o1 rfl (by rw [hsz]; decide) (wanted_none rfl) (fun z hS => tu_1 g n c b q v2 v3 w1 w2 w3 hbn hnc _ z (fun _ => rfl) e5 hS) ?_
  intro a1 ha1 s1 f1 n1 k1
  replace hsz := s1.trans hsz
  replace hdf := f1.trans hdf
  replace e5 := (k1 5 (by decide)).trans e5
  replace e9 := (k1 9 (by decide)).trans e9
  have e39 := n1
  clear s1 f1 n1 k1
  refine wpTake_stepE ⟨some 40, Op.move (Operand.tmp 9), 3, "", #[], none⟩ 40 (.int .i64 (b : Int)) HR.out.o2 rfl (by rw [hsz]; decide) (wanted_none rfl) (fun z hS => tu_2 g n c b q v2 v3 w1 w2 w3 hbn hnc _ z (fun _ => rfl) e9 hS) ?_
  intro a2 ha2 s1 f1 n1 k1
  replace hsz := s1.trans hsz
  replace hdf := f1.trans hdf
  replace e5 := (k1 5 (by decide)).trans e5
  replace e9 := (k1 9 (by decide)).trans e9
  replace e39 := (k1 39 (by decide)).trans e39
  have e40 := n1
  clear s1 f1 n1 k1
  refine wpTake_stepE ⟨some 41, Op.slice 22 (Operand.tmp 39) (some (Operand.tmp 40)) none none, 22, "", #[], none⟩ 41 (.slice (some ⟨g, b, none⟩) (n - b) (c - b)) HR.out.o3 rfl (by rw [hsz]; decide) (wanted_none rfl) (fun z hS => tu_3 g n c b q v2 v3 w1 w2 w3 hbn hnc _ z (fun _ => rfl) e39 e40 hS) ?_
  intro a3 ha3 s1 f1 n1 k1
  replace hsz := s1.trans hsz
  replace hdf := f1.trans hdf
  replace e5 := (k1 5 (by decide)).trans e5
  replace e9 := (k1 9 (by decide)).trans e9
  have e41 := n1
  clear s1 f1 n1 k1
  refine wpTake_stepE ⟨some 43, Op.move (Operand.tmp 5), 22, "", #[], none⟩ 43 (.slice (some ⟨g, 0, none⟩) n c) HR.out.o5 rfl (by rw [hsz]; decide) (wanted_none rfl) (fun z hS => tu_5 g n c b q v2 v3 w1 w2 w3 hbn hnc _ z (fun _ => rfl) e5 hS) ?_
  intro a4 ha4 s1 f1 n1 k1
  replace hsz := s1.trans hsz
  replace hdf := f1.trans hdf
  replace e9 := (k1 9 (by decide)).trans e9
  replace e41 := (k1 41 (by decide)).trans e41
  have e43 := n1
  clear s1 f1 n1 k1
  refine wpTake_stepE ⟨some 44, Op.move (Operand.tmp 9), 3, "", #[], none⟩ 44 (.int .i64 (b : Int)) HR.out.o6 rfl (by rw [hsz]; decide) (wanted_none rfl) (fun z hS => tu_6 g n c b q v2 v3 w1 w2 w3 hbn hnc _ z (fun _ => rfl) e9 hS) ?_
  intro a5 ha5 s1 f1 n1 k1
  replace hsz := s1.trans hsz
  replace hdf := f1.trans hdf
  replace e41 := (k1 41 (by decide)).trans e41
  replace e43 := (k1 43 (by decide)).trans e43
  have e44 := n1
  clear s1 f1 n1 k1
  refine wpTake_stepE ⟨some 45, Op.slice 22 (Operand.tmp 43) none (some (Operand.tmp 44)) none, 22, "", #[], none⟩ 45 (.slice (some ⟨g, 0, none⟩) b c) HR.out.o7 rfl (by rw [hsz]; decide) (wanted_none rfl) (fun z hS => tu_7 g n c b q v2 v3 w1 w2 w3 hbn hnc _ z (fun _ => rfl) e43 e44 hS) ?_
  intro a6 ha6 s1 f1 n1 k1
  replace hsz := s1.trans hsz
  replace hdf := f1.trans hdf
  replace e41 := (k1 41 (by decide)).trans e41
  have e45 := n1
  clear s1 f1 n1 k1
  refine wpTake_nil ?_
  refine wpAnyH_run ⟨some 38, Op.buildSlice 22 0 #[], 22, "", #[], none⟩ _ (.slice (some ⟨q, 0, none⟩) 0 0) w1 HR.out.r0 HR.out.o0 rfl rfl (HBS.out _) (trivial) ?_
  replace hHeld := trivial
  obtain ⟨s1, f1, n1, k1⟩ := act_put a6 38 (.slice (some ⟨q, 0, none⟩) 0 0) (show 38 < _ by rw [hsz]; decide)
  obtain ⟨a7, ha7⟩ : ∃ x, x = Act.put a6 (some 38) (.slice (some ⟨q, 0, none⟩) 0 0) := ⟨_, rfl⟩
  rw [← ha7] at s1 f1 n1 k1 ⊢
  replace hsz := s1.trans hsz
  replace hdf := f1.trans hdf
  replace e41 := (k1 41 (by decide)).trans e41
  replace e45 := (k1 45 (by decide)).trans e45
  have e38 := n1
  clear s1 f1 n1 k1
  refine wpAnyH_run ⟨some 42, Op.call { callee := Callee.builtin Builtin.append, args := #[Operand.tmp 38, Operand.tmp 41], argTypes := #[22, 22] }, 22, "", #[], none⟩ _ (v2) w2 HR.out.r4 HR.out.o4 rfl rfl (tu_a1 _ _ _ _ _ _ e38 e41 hap1) (trivial) ?_
  replace hHeld := trivial
  obtain ⟨s1, f1, n1, k1⟩ := act_put a7 42 (v2) (show 42 < _ by rw [hsz]; decide)
  obtain ⟨a8, ha8⟩ : ∃ x, x = Act.put a7 (some 42) (v2) := ⟨_, rfl⟩
  rw [← ha8] at s1 f1 n1 k1 ⊢
  replace hsz := s1.trans hsz
  replace hdf := f1.trans hdf
  replace e45 := (k1 45 (by decide)).trans e45
  have e42 := n1
  clear s1 f1 n1 k1
  refine wpAnyH_run ⟨some 46, Op.call { callee := Callee.builtin Builtin.append, args := #[Operand.tmp 42, Operand.tmp 45], argTypes := #[22, 22] }, 22, "", #[], none⟩ _ (v3) w3 HR.out.r8 HR.out.o8 rfl rfl (tu_a2 _ _ _ _ _ _ e42 e45 hap2) (trivial) ?_
  replace hHeld := trivial
  obtain ⟨s1, f1, n1, k1⟩ := act_put a8 46 (v3) (show 46 < _ by rw [hsz]; decide)
  obtain ⟨a9, ha9⟩ : ∃ x, x = Act.put a8 (some 46) (v3) := ⟨_, rfl⟩
  rw [← ha9] at s1 f1 n1 k1 ⊢
  replace hsz := s1.trans hsz
  replace hdf := f1.trans hdf
  have e46 := n1
  clear s1 f1 n1 k1
  refine wpAnyH_takes HR.out.sel hQ hHeld [9] 0 _ _ HR.out.may1 ?_
  refine wpTake_stepE ⟨some 4, Op.assign (Operand.tmp 46), 22, "", #[], none⟩ 4 (v3) HR.out.o9 rfl (by rw [hsz]; decide) (wanted_none rfl) (fun z hS => tu_9 g n c b q v2 v3 w1 w2 w3 hbn hnc _ z (fun _ => rfl) e46 hS) ?_
  intro a10 ha10 s1 f1 n1 k1
  replace hsz := s1.trans hsz
  replace hdf := f1.trans hdf
  clear s1 f1 n1 k1
  refine wpTake_nil ?_
  refine wpAnyH_done HR.out.fin ?_ _
  rw [ha10, ha9, ha8, ha7, ha6, ha5, ha4, ha3, ha2, ha1]
  exact hK
-- R: ⟨by kernel_rfl, by kernel_rfl, by kernel_rfl, by kernel_rfl, by kernel_rfl, by kernel_rfl, by kernel_rfl, by kernel_rfl, by kernel_rfl, by kernel_rfl, by kernel_rfl, by kernel_rfl, by kernel_rfl, by kernel_rfl, by kernel_rfl, by kernel_rfl, by kernel_rfl, by kernel_rfl⟩

end Go.Proofs.Ytneobpdbfbcnmaa
