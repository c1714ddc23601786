/- Accept: the region that notes a vote (laid by scripts/mkvoj.py). -/
import Derived.Test.YtippipeebkkghaaGreatDoorVoi
import Derived.Test.YtippipeebkkghaaGreatDoorTh
namespace Go.Proofs.YtippipeebkkghaaGreatDoor
set_option linter.unusedVariables false
set_option linter.unusedSimpArgs false
open Go.RowKit Go.Deep Go.Maps

/-- append of bytes onto one's own, as a run -/
theorem append_ow {w : World} {base : Nat} {v : Value} {xs : List Nat} (hown : Ow w base v xs) (p : Option Addr) (m c : Nat) (ys : List Nat) (hr : Rb w p m ys) (hlen : xs.length + m ≤ 140737488355328) (hbase : base ≤ w.heap.size) :
    ∃ v' w', (Builtin.append_ #[75, 75] 75 #[v, .slice p m c]).run Tryz.prog w = .ok v' w' ∧ Ow w' base v' (xs ++ ys) ∧ Kp (fun b => v.ownBlock = some b) w w' := by
  obtain ⟨ti, hi0, hz0, hz1, hz2⟩ := info_parts info5
  obtain ⟨v', w', hrun, h2, h3, h4⟩ := run_append_own_src (P := Tryz.prog) w base 75 75 75 5 ti (.int .u8 0) 1 1 Tryz.underlying75 hi0 hz0 hz1 hz2 rfl (by decide) v xs.length (vl xs) hown _ m (vl ys) (hr.src c) (by unfold maxLen; omega) (by omega) hbase
  refine ⟨v', w', hrun, ?_, grownBy_kp h3⟩
  have e : (xs ++ ys).length = xs.length + m := by rw [List.length_append, hr.len]
  unfold Ow
  rw [e, vl_append]
  exact h2

theorem ac_ap (v x v2 : Value) (ev : Operand → Value) (z z2 : World) (e50 : ev (.tmp 50) = v) (e51 : ev (.tmp 51) = x) (hr : (Builtin.append_ #[75, 75] 75 #[v, x]).run Tryz.prog z = .ok v2 z2) : (execOp ev ⟨some 52, Op.call { callee := Callee.builtin Builtin.append, args := #[Operand.tmp 50, Operand.tmp 51], argTypes := #[75, 75] }, 75, "", #[], none⟩).run Tryz.prog z = .ok (.value v2) z2 := by
  unfold execOp
  simp only [resolve, invoke, builtin, Sem.run_bind, Sem.run_pure, Result.andThen_ok, List.map_toArray, List.map_cons, List.map_nil, e50, e51, hr]
theorem ac13_0 (ac sh qb : Nat) (bt sl : Int) (vc v1 v2 : Value) (ev : Operand → Value) (z : World) (ec : ∀ c, ev (.const c) = c) (e0 : ev (.tmp 0) = .pointer (some ⟨ac, 0, none⟩)) (hS : z.cell? ⟨ac, 0, none⟩ = some (.pointer (some ⟨sh, 0, none⟩)) ∧ z.cell? ⟨qb, 0, none⟩ = some (.int .i64 bt)) : (execOp ev ⟨some 44, Op.move (Operand.tmp 0), 39, "", #[], none⟩).run Tryz.prog z = .ok (.value (.pointer (some ⟨ac, 0, none⟩))) z := by
  obtain ⟨s1, s2⟩ := hS
  go_simp
theorem ac13_1 (ac sh qb : Nat) (bt sl : Int) (vc v1 v2 : Value) (ev : Operand → Value) (z : World) (ec : ∀ c, ev (.const c) = c) (e44 : ev (.tmp 44) = .pointer (some ⟨ac, 0, none⟩)) (hS : z.cell? ⟨ac, 0, none⟩ = some (.pointer (some ⟨sh, 0, none⟩)) ∧ z.cell? ⟨qb, 0, none⟩ = some (.int .i64 bt)) : (execOp ev ⟨some 45, Op.nilCheck (Operand.tmp 44), 0, "", #[], none⟩).run Tryz.prog z = .ok (.value (.pointer (some ⟨ac, 0, none⟩))) z := by
  obtain ⟨s1, s2⟩ := hS
  go_simp
theorem ac13_2 (ac sh qb : Nat) (bt sl : Int) (vc v1 v2 : Value) (ev : Operand → Value) (z : World) (ec : ∀ c, ev (.const c) = c) (e45 : ev (.tmp 45) = .pointer (some ⟨ac, 0, none⟩)) (hS : z.cell? ⟨ac, 0, none⟩ = some (.pointer (some ⟨sh, 0, none⟩)) ∧ z.cell? ⟨qb, 0, none⟩ = some (.int .i64 bt)) : (execOp ev ⟨some 46, Op.fieldAddr 73 (Operand.tmp 45) 0, 0, "", #[], none⟩).run Tryz.prog z = .ok (.value (.pointer (some ⟨ac, 0, none⟩))) z := by
  obtain ⟨s1, s2⟩ := hS
  go_simp
theorem ac13_3 (ac sh qb : Nat) (bt sl : Int) (vc v1 v2 : Value) (ev : Operand → Value) (z : World) (ec : ∀ c, ev (.const c) = c) (e46 : ev (.tmp 46) = .pointer (some ⟨ac, 0, none⟩)) (hS : z.cell? ⟨ac, 0, none⟩ = some (.pointer (some ⟨sh, 0, none⟩)) ∧ z.cell? ⟨qb, 0, none⟩ = some (.int .i64 bt)) : (execOp ev ⟨some 47, Op.load 51 (Operand.tmp 46), 51, "", #[], none⟩).run Tryz.prog z = .ok (.value (.pointer (some ⟨sh, 0, none⟩))) z := by
  obtain ⟨s1, s2⟩ := hS
  go_simp
theorem ac13_4 (ac sh qb : Nat) (bt sl : Int) (vc v1 v2 : Value) (ev : Operand → Value) (z : World) (ec : ∀ c, ev (.const c) = c) (e2 : ev (.tmp 2) = .int .i64 sl) (hS : z.cell? ⟨ac, 0, none⟩ = some (.pointer (some ⟨sh, 0, none⟩)) ∧ z.cell? ⟨qb, 0, none⟩ = some (.int .i64 bt)) : (execOp ev ⟨some 48, Op.move (Operand.tmp 2), 3, "", #[], none⟩).run Tryz.prog z = .ok (.value (.int .i64 sl)) z := by
  obtain ⟨s1, s2⟩ := hS
  go_simp
theorem ac13_5 (ac sh qb : Nat) (bt sl : Int) (vc v1 v2 : Value) (ev : Operand → Value) (z : World) (ec : ∀ c, ev (.const c) = c) (e13 : ev (.tmp 13) = .pointer (some ⟨qb, 0, none⟩)) (hS : z.cell? ⟨ac, 0, none⟩ = some (.pointer (some ⟨sh, 0, none⟩)) ∧ z.cell? ⟨qb, 0, none⟩ = some (.int .i64 bt)) : (execOp ev ⟨some 49, Op.load 68 (Operand.tmp 13), 68, "", #[], none⟩).run Tryz.prog z = .ok (.value (.agg #[.int .i64 bt])) z := by
  obtain ⟨s1, s2⟩ := hS
  go_simp
theorem ac13_7 (ac sh qb : Nat) (bt sl : Int) (vc v1 v2 : Value) (ev : Operand → Value) (z : World) (ec : ∀ c, ev (.const c) = c) (e11 : ev (.tmp 11) = vc) (hS : z.cell? ⟨ac, 0, none⟩ = some (.pointer (some ⟨sh, 0, none⟩)) ∧ z.cell? ⟨qb, 0, none⟩ = some (.int .i64 bt)) : (execOp ev ⟨some 51, Op.move (Operand.tmp 11), 75, "", #[], none⟩).run Tryz.prog z = .ok (.value (vc)) z := by
  obtain ⟨s1, s2⟩ := hS
  go_simp
set_option maxRecDepth 100000 in
theorem ac13_6 (ac sh qb : Nat) (bt sl : Int) (vc v1 v2 : Value) (ev : Operand → Value) (z : World) (ec : ∀ c, ev (.const c) = c) (ef : ev (.func 24) = .func (.func 24) #[] #[]) (e49 : ev (.tmp 49) = .agg #[.int .i64 bt]) : (execOp ev ⟨some 50, Op.call { callee := Callee.value (Operand.func 24), args := #[Operand.tmp 49], argTypes := #[68] }, 75, "", #[], none⟩).run Tryz.prog z = .ok (.enter 24 #[.agg #[.int .i64 bt]]) z :=
  enter_run _ ef (by simp only [List.map_toArray, List.map_cons, List.map_nil, ec, e49]) (fun _ => by rfl)
set_option maxRecDepth 100000 in
theorem ac13_9 (ac sh qb : Nat) (bt sl : Int) (vc v1 v2 : Value) (ev : Operand → Value) (z : World) (ec : ∀ c, ev (.const c) = c) (ef : ev (.func 23) = .func (.func 23) #[] #[]) (e47 : ev (.tmp 47) = .pointer (some ⟨sh, 0, none⟩)) (e48 : ev (.tmp 48) = .int .i64 sl) (e52 : ev (.tmp 52) = v2) : (execOp ev ⟨some 53, Op.call { callee := Callee.value (Operand.func 23), args := #[Operand.tmp 47, Operand.tmp 48, Operand.tmp 52], argTypes := #[51, 3, 75] }, 37, "", #[], none⟩).run Tryz.prog z = .ok (.enter 23 #[.pointer (some ⟨sh, 0, none⟩), .int .i64 sl, v2]) z :=
  enter_run _ ef (by simp only [List.map_toArray, List.map_cons, List.map_nil, ec, e47, e48, e52]) (fun _ => by rfl)
theorem ac13_10 (ac sh qb : Nat) (bt sl : Int) (vc v1 v2 : Value) (ev : Operand → Value) (z : World) (ec : ∀ c, ev (.const c) = c) (e53 : ev (.tmp 53) = .int .i64 0) (hS : z.cell? ⟨ac, 0, none⟩ = some (.pointer (some ⟨sh, 0, none⟩)) ∧ z.cell? ⟨qb, 0, none⟩ = some (.int .i64 bt)) : (execOp ev ⟨some 15, Op.assign (Operand.tmp 53), 37, "", #[], none⟩).run Tryz.prog z = .ok (.value (.int .i64 0)) z := by
  obtain ⟨s1, s2⟩ := hS
  go_simp
structure ac13R (ops : Array Oper) : Prop where
  size : ops.size = 11
  sel : Region.noSelect ops = true
  o0 : (ops[0]?).map bare = some ⟨some 44, Op.move (Operand.tmp 0), 39, "", #[], none⟩
  o1 : (ops[1]?).map bare = some ⟨some 45, Op.nilCheck (Operand.tmp 44), 0, "", #[], none⟩
  o2 : (ops[2]?).map bare = some ⟨some 46, Op.fieldAddr 73 (Operand.tmp 45) 0, 0, "", #[], none⟩
  o3 : (ops[3]?).map bare = some ⟨some 47, Op.load 51 (Operand.tmp 46), 51, "", #[], none⟩
  o4 : (ops[4]?).map bare = some ⟨some 48, Op.move (Operand.tmp 2), 3, "", #[], none⟩
  o5 : (ops[5]?).map bare = some ⟨some 49, Op.load 68 (Operand.tmp 13), 68, "", #[], none⟩
  o6 : (ops[6]?).map bare = some ⟨some 50, Op.call { callee := Callee.value (Operand.func 24), args := #[Operand.tmp 49], argTypes := #[68] }, 75, "", #[], none⟩
  o7 : (ops[7]?).map bare = some ⟨some 51, Op.move (Operand.tmp 11), 75, "", #[], none⟩
  o8 : (ops[8]?).map bare = some ⟨some 52, Op.call { callee := Callee.builtin Builtin.append, args := #[Operand.tmp 50, Operand.tmp 51], argTypes := #[75, 75] }, 75, "", #[], none⟩
  o9 : (ops[9]?).map bare = some ⟨some 53, Op.call { callee := Callee.value (Operand.func 23), args := #[Operand.tmp 47, Operand.tmp 48, Operand.tmp 52], argTypes := #[51, 3, 75] }, 37, "", #[], none⟩
  o10 : (ops[10]?).map bare = some ⟨some 15, Op.assign (Operand.tmp 53), 37, "", #[], none⟩
  may0 : takeB .any ops [0, 1, 2, 3, 4, 5, 7] (Array.replicate 11 false) = true
  r6 : Region.ready .any ops (mark [0, 1, 2, 3, 4, 5, 7] (Array.replicate 11 false)) = [6]
  r8 : Region.ready .any ops ((mark [0, 1, 2, 3, 4, 5, 7] (Array.replicate 11 false)).setIfInBounds 6 true) = [8]
  r9 : Region.ready .any ops (((mark [0, 1, 2, 3, 4, 5, 7] (Array.replicate 11 false)).setIfInBounds 6 true).setIfInBounds 8 true) = [9]
  may1 : takeB .any ops [10] ((((mark [0, 1, 2, 3, 4, 5, 7] (Array.replicate 11 false)).setIfInBounds 6 true).setIfInBounds 8 true).setIfInBounds 9 true) = true
  fin : Region.ready .any ops (mark [10] ((((mark [0, 1, 2, 3, 4, 5, 7] (Array.replicate 11 false)).setIfInBounds 6 true).setIfInBounds 8 true).setIfInBounds 9 true)) = []

set_option maxRecDepth 100000 in
set_option maxHeartbeats 3200000 in
theorem ac13_region {ops : Array Oper} {id : Nat} {Q : Exit → Act → World → Prop} {a : Act} {y : World} (R : ac13R ops) (ac sh qb : Nat) (bt sl : Int) (vc v1 v2 : Value)
    (hQ : ∀ d v c a w, Q (.panic c) (a.put d v) w → Q (.panic c) a w) (hsz : a.tmps.size = 65) (e0 : a.eval (.tmp 0) = .pointer (some ⟨ac, 0, none⟩)) (e2 : a.eval (.tmp 2) = .int .i64 sl) (e11 : a.eval (.tmp 11) = vc) (e13 : a.eval (.tmp 13) = .pointer (some ⟨qb, 0, none⟩)) (hS0 : y.drew.cell? ⟨ac, 0, none⟩ = some (.pointer (some ⟨sh, 0, none⟩)) ∧ y.drew.cell? ⟨qb, 0, none⟩ = some (.int .i64 bt)) (T : World → Prop) (hc : Calls Tryz.prog 24 #[.agg #[.int .i64 bt]] y.drew fun e w9 => ∃ v1 v2 w2, e = .returned v1 ∧ (w9.cell? ⟨ac, 0, none⟩ = some (.pointer (some ⟨sh, 0, none⟩)) ∧ w9.cell? ⟨qb, 0, none⟩ = some (.int .i64 bt)) ∧ (Builtin.append_ #[75, 75] 75 #[v1, vc]).run Tryz.prog w9 = .ok v2 w2 ∧ (w2.cell? ⟨ac, 0, none⟩ = some (.pointer (some ⟨sh, 0, none⟩)) ∧ w2.cell? ⟨qb, 0, none⟩ = some (.int .i64 bt)) ∧ (Calls Tryz.prog 23 #[.pointer (some ⟨sh, 0, none⟩), .int .i64 sl, v2] w2 fun e w9 => e = .returned (.int .i64 0) ∧ (w9.cell? ⟨ac, 0, none⟩ = some (.pointer (some ⟨sh, 0, none⟩)) ∧ w9.cell? ⟨qb, 0, none⟩ = some (.int .i64 bt)) ∧ T w9))
    (hK : ∀ (v1 v2 : Value) (w9 : World), T w9 → Q .normal (((((((((((a.put (some 44) (.pointer (some ⟨ac, 0, none⟩))).put (some 45) (.pointer (some ⟨ac, 0, none⟩))).put (some 46) (.pointer (some ⟨ac, 0, none⟩))).put (some 47) (.pointer (some ⟨sh, 0, none⟩))).put (some 48) (.int .i64 sl)).put (some 49) (.agg #[.int .i64 bt])).put (some 51) (vc)).put (some 50) (v1)).put (some 52) (v2)).put (some 53) (.int .i64 0)).put (some 15) (.int .i64 0)) w9) : (Code.region id ops true).wp Tryz.prog Q a y := by
  have HR : Hid (ac13R ops) := R
  have hdf : a.defers = a.defers := rfl
  refine wp_region_held_drew (S := (fun z : World => z.cell? ⟨ac, 0, none⟩ = some (.pointer (some ⟨sh, 0, none⟩)) ∧ z.cell? ⟨qb, 0, none⟩ = some (.int .i64 bt))) (by kernel_rfl) (hS0) (fun hHeld => ?_)
  rw [R.size]
  clear R
  refine wpAnyH_takes HR.out.sel hQ hHeld [0, 1, 2, 3, 4, 5, 7] 4 _ _ HR.out.may0 ?_
  refine wpTake_stepE ⟨some 44, Op.move (Operand.tmp 0), 39, "", #[], none⟩ 44 (.pointer (some ⟨ac, 0, none⟩)) HR.out.o0 rfl (by rw [hsz]; decide) (wanted_none rfl) (fun z hS => ac13_0 ac sh qb bt sl vc v1 v2 _ z (fun _ => rfl) e0 hS) ?_
  intro a1 ha1 s1 f1 n1 k1
  replace hsz := s1.trans hsz
  replace hdf := f1.trans hdf
  replace e2 := (k1 2 (by decide)).trans e2
  replace e11 := (k1 11 (by decide)).trans e11
  replace e13 := (k1 13 (by decide)).trans e13
  have e44 := n1
  clear s1 f1 n1 k1
  refine wpTake_stepE ⟨some 45, Op.nilCheck (Operand.tmp 44), 0, "", #[], none⟩ 45 (.pointer (some ⟨ac, 0, none⟩)) HR.out.o1 rfl (by rw [hsz]; decide) (wanted_none rfl) (fun z hS => ac13_1 ac sh qb bt sl vc v1 v2 _ z (fun _ => rfl) e44 hS) ?_
  intro a2 ha2 s1 f1 n1 k1
  replace hsz := s1.trans hsz
  replace hdf := f1.trans hdf
  replace e2 := (k1 2 (by decide)).trans e2
  replace e11 := (k1 11 (by decide)).trans e11
  replace e13 := (k1 13 (by decide)).trans e13
  have e45 := n1
  clear s1 f1 n1 k1
  refine wpTake_stepE ⟨some 46, Op.fieldAddr 73 (Operand.tmp 45) 0, 0, "", #[], none⟩ 46 (.pointer (some ⟨ac, 0, none⟩)) HR.out.o2 rfl (by rw [hsz]; decide) (wanted_none rfl) (fun z hS => ac13_2 ac sh qb bt sl vc v1 v2 _ z (fun _ => rfl) e45 hS) ?_
  intro a3 ha3 s1 f1 n1 k1
  replace hsz := s1.trans hsz
  replace hdf := f1.trans hdf
  replace e2 := (k1 2 (by decide)).trans e2
  replace e11 := (k1 11 (by decide)).trans e11
  replace e13 := (k1 13 (by decide)).trans e13
  have e46 := n1
  clear s1 f1 n1 k1
  refine wpTake_stepE ⟨some 47, Op.load 51 (Operand.tmp 46), 51, "", #[], none⟩ 47 (.pointer (some ⟨sh, 0, none⟩)) HR.out.o3 rfl (by rw [hsz]; decide) (wanted_none rfl) (fun z hS => ac13_3 ac sh qb bt sl vc v1 v2 _ z (fun _ => rfl) e46 hS) ?_
  intro a4 ha4 s1 f1 n1 k1
  replace hsz := s1.trans hsz
  replace hdf := f1.trans hdf
  replace e2 := (k1 2 (by decide)).trans e2
  replace e11 := (k1 11 (by decide)).trans e11
  replace e13 := (k1 13 (by decide)).trans e13
  have e47 := n1
  clear s1 f1 n1 k1
  refine wpTake_stepE ⟨some 48, Op.move (Operand.tmp 2), 3, "", #[], none⟩ 48 (.int .i64 sl) HR.out.o4 rfl (by rw [hsz]; decide) (wanted_none rfl) (fun z hS => ac13_4 ac sh qb bt sl vc v1 v2 _ z (fun _ => rfl) e2 hS) ?_
  intro a5 ha5 s1 f1 n1 k1
  replace hsz := s1.trans hsz
  replace hdf := f1.trans hdf
  replace e11 := (k1 11 (by decide)).trans e11
  replace e13 := (k1 13 (by decide)).trans e13
  replace e47 := (k1 47 (by decide)).trans e47
  have e48 := n1
  clear s1 f1 n1 k1
  refine wpTake_stepE ⟨some 49, Op.load 68 (Operand.tmp 13), 68, "", #[], none⟩ 49 (.agg #[.int .i64 bt]) HR.out.o5 rfl (by rw [hsz]; decide) (wanted_none rfl) (fun z hS => ac13_5 ac sh qb bt sl vc v1 v2 _ z (fun _ => rfl) e13 hS) ?_
  intro a6 ha6 s1 f1 n1 k1
  replace hsz := s1.trans hsz
  replace hdf := f1.trans hdf
  replace e11 := (k1 11 (by decide)).trans e11
  replace e47 := (k1 47 (by decide)).trans e47
  replace e48 := (k1 48 (by decide)).trans e48
  have e49 := n1
  clear s1 f1 n1 k1
  refine wpTake_stepE ⟨some 51, Op.move (Operand.tmp 11), 75, "", #[], none⟩ 51 (vc) HR.out.o7 rfl (by rw [hsz]; decide) (wanted_none rfl) (fun z hS => ac13_7 ac sh qb bt sl vc v1 v2 _ z (fun _ => rfl) e11 hS) ?_
  intro a7 ha7 s1 f1 n1 k1
  replace hsz := s1.trans hsz
  replace hdf := f1.trans hdf
  replace e47 := (k1 47 (by decide)).trans e47
  replace e48 := (k1 48 (by decide)).trans e48
  replace e49 := (k1 49 (by decide)).trans e49
  have e51 := n1
  clear s1 f1 n1 k1
  refine wpTake_nil ?_
  refine wpAnyH_one ⟨some 50, Op.call { callee := Callee.value (Operand.func 24), args := #[Operand.tmp 49], argTypes := #[68] }, 75, "", #[], none⟩ HR.out.r6 HR.out.o6 rfl (fun K' hK' => ?_)
  refine wp_enter (ac13_6 ac sh qb bt sl vc v1 v2 _ _ (fun _ => rfl) rfl e49) (hc) ?_
  rintro e9 w9 ⟨v1, v2, w2, rfl, hS9, hap, hS2, hNo⟩
  refine ⟨_, rfl, hK'.out _ _ (hS9) ?_⟩
  replace hHeld := hS9
  clear hK' K'
  show wpAnyH _ _ _ _ _ _ _ (Act.put a7 (some 50) (v1)) _
  obtain ⟨s1, f1, n1, k1⟩ := act_put a7 50 (v1) (show 50 < _ by rw [hsz]; decide)
  obtain ⟨a8, ha8⟩ : ∃ x, x = Act.put a7 (some 50) (v1) := ⟨_, rfl⟩
  rw [← ha8] at s1 f1 n1 k1 ⊢
  replace hsz := s1.trans hsz
  replace hdf := f1.trans hdf
  replace e47 := (k1 47 (by decide)).trans e47
  replace e48 := (k1 48 (by decide)).trans e48
  replace e51 := (k1 51 (by decide)).trans e51
  have e50 := n1
  clear s1 f1 n1 k1
  refine wpAnyH_run ⟨some 52, Op.call { callee := Callee.builtin Builtin.append, args := #[Operand.tmp 50, Operand.tmp 51], argTypes := #[75, 75] }, 75, "", #[], none⟩ _ (v2) w2 HR.out.r8 HR.out.o8 rfl rfl (ac_ap _ _ _ _ _ _ e50 e51 hap) (hS2) ?_
  replace hHeld := hS2
  obtain ⟨s1, f1, n1, k1⟩ := act_put a8 52 (v2) (show 52 < _ by rw [hsz]; decide)
  obtain ⟨a9, ha9⟩ : ∃ x, x = Act.put a8 (some 52) (v2) := ⟨_, rfl⟩
  rw [← ha9] at s1 f1 n1 k1 ⊢
  replace hsz := s1.trans hsz
  replace hdf := f1.trans hdf
  replace e47 := (k1 47 (by decide)).trans e47
  replace e48 := (k1 48 (by decide)).trans e48
  have e52 := n1
  clear s1 f1 n1 k1
  refine wpAnyH_one ⟨some 53, Op.call { callee := Callee.value (Operand.func 23), args := #[Operand.tmp 47, Operand.tmp 48, Operand.tmp 52], argTypes := #[51, 3, 75] }, 37, "", #[], none⟩ HR.out.r9 HR.out.o9 rfl (fun K' hK' => ?_)
  refine wp_enter (ac13_9 ac sh qb bt sl vc v1 v2 _ _ (fun _ => rfl) rfl e47 e48 e52) (hNo) ?_
  rintro e9 w9 ⟨rfl, hS8, hT⟩
  refine ⟨_, rfl, hK'.out _ _ (hS8) ?_⟩
  replace hHeld := hS8
  clear hK' K'
  show wpAnyH _ _ _ _ _ _ _ (Act.put a9 (some 53) (.int .i64 0)) _
  obtain ⟨s1, f1, n1, k1⟩ := act_put a9 53 (.int .i64 0) (show 53 < _ by rw [hsz]; decide)
  obtain ⟨a10, ha10⟩ : ∃ x, x = Act.put a9 (some 53) (.int .i64 0) := ⟨_, rfl⟩
  rw [← ha10] at s1 f1 n1 k1 ⊢
  replace hsz := s1.trans hsz
  replace hdf := f1.trans hdf
  have e53 := n1
  clear s1 f1 n1 k1
  refine wpAnyH_takes HR.out.sel hQ hHeld [10] 0 _ _ HR.out.may1 ?_
  refine wpTake_stepE ⟨some 15, Op.assign (Operand.tmp 53), 37, "", #[], none⟩ 15 (.int .i64 0) HR.out.o10 rfl (by rw [hsz]; decide) (wanted_none rfl) (fun z hS => ac13_10 ac sh qb bt sl vc v1 v2 _ z (fun _ => rfl) e53 hS) ?_
  intro a11 ha11 s1 f1 n1 k1
  replace hsz := s1.trans hsz
  replace hdf := f1.trans hdf
  clear s1 f1 n1 k1
  refine wpTake_nil ?_
  refine wpAnyH_done HR.out.fin ?_ _
  rw [ha11, ha10, ha9, ha8, ha7, ha6, ha5, ha4, ha3, ha2, ha1]
  exact hK _ _ _ hT

end Go.Proofs.YtippipeebkkghaaGreatDoor
