/- The document's Msg: its regions that draw their order (laid by scripts/mkpb1.py). -/
import Derived.Test.YtoepemgflbmlcaaDoorOn
import Derived.Test.YtoepemgflbmlcaaDoorOu
namespace Go.Proofs.YtoepemgflbmlcaaDoor
set_option linter.unusedVariables false
set_option linter.unusedSimpArgs false
open Go.RowKit Go.Deep

theorem xm8_a2 (v x v9 : Value) (ev : Operand → Value) (z z2 : World) (e1 : ev (.tmp 48) = v) (e2 : ev (.tmp 49) = x) (hr : (Builtin.append_ #[28, 28] 28 #[v, x]).run Tryd.prog z = .ok v9 z2) : (execOp ev ⟨some 50, Op.call { callee := Callee.builtin Builtin.append, args := #[Operand.tmp 48, Operand.tmp 49], argTypes := #[28, 28] }, 28, "", #[], none⟩).run Tryd.prog z = .ok (.value v9) z2 := by
  unfold execOp
  simp only [resolve, invoke, builtin, Sem.run_bind, Sem.run_pure, Result.andThen_ok, List.map_toArray, List.map_cons, List.map_nil, e1, e2, hr]
theorem xm8_a7 (v x v9 : Value) (ev : Operand → Value) (z z2 : World) (e1 : ev (.tmp 50) = v) (e2 : ev (.tmp 54) = x) (hr : (Builtin.append_ #[28, 28] 28 #[v, x]).run Tryd.prog z = .ok v9 z2) : (execOp ev ⟨some 55, Op.call { callee := Callee.builtin Builtin.append, args := #[Operand.tmp 50, Operand.tmp 54], argTypes := #[28, 28] }, 28, "", #[], none⟩).run Tryd.prog z = .ok (.value v9) z2 := by
  unfold execOp
  simp only [resolve, invoke, builtin, Sem.run_bind, Sem.run_pure, Result.andThen_ok, List.map_toArray, List.map_cons, List.map_nil, e1, e2, hr]
theorem xm8_as (v : Value) (ev : Operand → Value) (z : World) (e1 : ev (.tmp 55) = v) : (execOp ev ⟨some 4, Op.assign (Operand.tmp 55), 28, "", #[], none⟩).run Tryd.prog z = .ok (.value v) z := by
  go_simp
theorem xm8_0 (g : Nat) (pv : Option Addr) (n cap base : Nat) (v : Value) (xs : List Nat) (p5 : Option Addr) (m5 c5 : Nat) (ys : List Nat) (ev : Operand → Value) (z : World) (ec : ∀ c, ev (.const c) = c) (e4 : ev (.tmp 4) = v) (hS : z.cell? ⟨g, 22, none⟩ = some (.slice pv n cap)) : (execOp ev ⟨some 48, Op.move (Operand.tmp 4), 28, "", #[], none⟩).run Tryd.prog z = .ok (.value (v)) z := by
  obtain hc22 := hS
  go_simp
theorem xm8_1 (g : Nat) (pv : Option Addr) (n cap base : Nat) (v : Value) (xs : List Nat) (p5 : Option Addr) (m5 c5 : Nat) (ys : List Nat) (ev : Operand → Value) (z : World) (ec : ∀ c, ev (.const c) = c) (e5 : ev (.tmp 5) = .slice p5 m5 c5) (hS : z.cell? ⟨g, 22, none⟩ = some (.slice pv n cap)) : (execOp ev ⟨some 49, Op.move (Operand.tmp 5), 28, "", #[], none⟩).run Tryd.prog z = .ok (.value (.slice p5 m5 c5)) z := by
  obtain hc22 := hS
  go_simp
theorem xm8_3 (g : Nat) (pv : Option Addr) (n cap base : Nat) (v : Value) (xs : List Nat) (p5 : Option Addr) (m5 c5 : Nat) (ys : List Nat) (ev : Operand → Value) (z : World) (ec : ∀ c, ev (.const c) = c) (e1 : ev (.tmp 1) = .pointer (some ⟨g, 0, none⟩)) (hS : z.cell? ⟨g, 22, none⟩ = some (.slice pv n cap)) : (execOp ev ⟨some 51, Op.fieldAddr 40 (Operand.tmp 1) 11, 0, "", #[], none⟩).run Tryd.prog z = .ok (.value (.pointer (some ⟨g, 22, none⟩))) z := by
  obtain hc22 := hS
  go_simp
theorem xm8_4 (g : Nat) (pv : Option Addr) (n cap base : Nat) (v : Value) (xs : List Nat) (p5 : Option Addr) (m5 c5 : Nat) (ys : List Nat) (ev : Operand → Value) (z : World) (ec : ∀ c, ev (.const c) = c) (e51 : ev (.tmp 51) = .pointer (some ⟨g, 22, none⟩)) (hS : z.cell? ⟨g, 22, none⟩ = some (.slice pv n cap)) : (execOp ev ⟨some 52, Op.load 38 (Operand.tmp 51), 38, "", #[], none⟩).run Tryd.prog z = .ok (.value (.slice pv n cap)) z := by
  obtain hc22 := hS
  go_simp
theorem xm8_5 (g : Nat) (pv : Option Addr) (n cap base : Nat) (v : Value) (xs : List Nat) (p5 : Option Addr) (m5 c5 : Nat) (ys : List Nat) (ev : Operand → Value) (z : World) (ec : ∀ c, ev (.const c) = c) (e52 : ev (.tmp 52) = .slice pv n cap) (hS : z.cell? ⟨g, 22, none⟩ = some (.slice pv n cap)) : (execOp ev ⟨some 53, Op.call { callee := Callee.builtin Builtin.len, args := #[Operand.tmp 52], argTypes := #[38] }, 3, "", #[], none⟩).run Tryd.prog z = .ok (.value (.int .i64 (n : Int))) z := by
  obtain hc22 := hS
  go_simp
set_option maxRecDepth 100000 in
theorem xm8_6 (g : Nat) (pv : Option Addr) (n cap base : Nat) (v : Value) (xs : List Nat) (p5 : Option Addr) (m5 c5 : Nat) (ys : List Nat) (ev : Operand → Value) (z : World) (ec : ∀ c, ev (.const c) = c) (ef : ev (.func 27) = .func (.func 27) #[] #[]) (e53 : ev (.tmp 53) = .int .i64 (n : Int)) : (execOp ev ⟨some 54, Op.call { callee := Callee.value (Operand.func 27), args := #[Operand.tmp 53], argTypes := #[3] }, 28, "", #[], none⟩).run Tryd.prog z = .ok (.enter 27 #[.int .i64 (n : Int)]) z :=
  enter_run _ ef (by simp only [List.map_toArray, List.map_cons, List.map_nil, ec, e53]) (fun _ => by rfl)
structure xm8R (ops : Array Oper) : Prop where
  size : ops.size = 9
  sel : Region.noSelect ops = true
  o0 : (ops[0]?).map bare = some ⟨some 48, Op.move (Operand.tmp 4), 28, "", #[], none⟩
  o1 : (ops[1]?).map bare = some ⟨some 49, Op.move (Operand.tmp 5), 28, "", #[], none⟩
  o2 : (ops[2]?).map bare = some ⟨some 50, Op.call { callee := Callee.builtin Builtin.append, args := #[Operand.tmp 48, Operand.tmp 49], argTypes := #[28, 28] }, 28, "", #[], none⟩
  o3 : (ops[3]?).map bare = some ⟨some 51, Op.fieldAddr 40 (Operand.tmp 1) 11, 0, "", #[], none⟩
  o4 : (ops[4]?).map bare = some ⟨some 52, Op.load 38 (Operand.tmp 51), 38, "", #[], none⟩
  o5 : (ops[5]?).map bare = some ⟨some 53, Op.call { callee := Callee.builtin Builtin.len, args := #[Operand.tmp 52], argTypes := #[38] }, 3, "", #[], none⟩
  o6 : (ops[6]?).map bare = some ⟨some 54, Op.call { callee := Callee.value (Operand.func 27), args := #[Operand.tmp 53], argTypes := #[3] }, 28, "", #[], none⟩
  o7 : (ops[7]?).map bare = some ⟨some 55, Op.call { callee := Callee.builtin Builtin.append, args := #[Operand.tmp 50, Operand.tmp 54], argTypes := #[28, 28] }, 28, "", #[], none⟩
  o8 : (ops[8]?).map bare = some ⟨some 4, Op.assign (Operand.tmp 55), 28, "", #[], none⟩
  may0 : takeB .any ops [0, 1, 3, 4, 5] (Array.replicate 9 false) = true
  r2 : Region.ready .any ops (mark [0, 1, 3, 4, 5] (Array.replicate 9 false)) = [2]
  r6 : Region.ready .any ops ((mark [0, 1, 3, 4, 5] (Array.replicate 9 false)).setIfInBounds 2 true) = [6]
  r7 : Region.ready .any ops (((mark [0, 1, 3, 4, 5] (Array.replicate 9 false)).setIfInBounds 2 true).setIfInBounds 6 true) = [7]
  r8 : Region.ready .any ops ((((mark [0, 1, 3, 4, 5] (Array.replicate 9 false)).setIfInBounds 2 true).setIfInBounds 6 true).setIfInBounds 7 true) = [8]
  fin : Region.ready .any ops (((((mark [0, 1, 3, 4, 5] (Array.replicate 9 false)).setIfInBounds 2 true).setIfInBounds 6 true).setIfInBounds 7 true).setIfInBounds 8 true) = []

set_option maxRecDepth 100000 in
set_option maxHeartbeats 3200000 in
theorem xm8_region {ops : Array Oper} {rid : Nat} {Q : Exit → Act → World → Prop} {a : Act} {y : World} (R : xm8R ops) (g : Nat) (pv : Option Addr) (n cap base : Nat) (v : Value) (xs : List Nat) (p5 : Option Addr) (m5 c5 : Nat) (ys : List Nat)
    (hQ : ∀ d v c a w, Q (.panic c) (a.put d v) w → Q (.panic c) a w) (hsz : a.tmps.size = 89) (e4 : a.eval (.tmp 4) = v) (e5 : a.eval (.tmp 5) = .slice p5 m5 c5) (e1 : a.eval (.tmp 1) = .pointer (some ⟨g, 0, none⟩)) (hS : y.cell? ⟨g, 22, none⟩ = some (.slice pv n cap)) (hown : Ow y base v xs) (hrb : Rb y p5 m5 ys) (hg : g < base) (hbase : base ≤ y.heap.size) (hlen : xs.length + m5 ≤ 100000) (hn9 : n ≤ 1000)
    (hK : ∀ v3 v7 v8 w8, Ow w8 base v8 (xs ++ ys ++ numB n) → Kp (fun b => base ≤ b) y w8 → base ≤ w8.heap.size → Q .normal (((((((((a.put (some 48) (v)).put (some 49) (.slice p5 m5 c5)).put (some 51) (.pointer (some ⟨g, 22, none⟩))).put (some 52) (.slice pv n cap)).put (some 53) (.int .i64 (n : Int))).put (some 50) (v3)).put (some 54) (v7)).put (some 55) (v8)).put (some 4) (v8)) w8) : (Code.region rid ops true).wp Tryd.prog Q a y := by
  have HR : Hid (xm8R ops) := R
  have hdf : a.defers = a.defers := rfl
  have hS0 : y.drew.cell? ⟨g, 22, none⟩ = some (.slice pv n cap) := hS
  have hk0 : Kp (fun _ => False) y y.drew := (Kp.refl _ _).drew
  have hown0 : Ow y.drew base v xs := ownsRow_keep hown hk0 (fun _ _ => fun e => e)
  obtain ⟨v3, w3, hap3, o3, k3, b3⟩ := run_append_bytes y.drew base v xs hown0 p5 m5 c5 ys (hrb.keep0 hk0) (by omega) hbase
  have hgv : v.ownBlock ≠ some g := fun e => by have := (ownBlock_lt hown e).1; omega
  have hS3 : w3.cell? ⟨g, 22, none⟩ = some (.slice pv n cap) := k3.cellv hS hgv
  have hyl := hrb.len
  refine wp_region_held_drew (S := (fun z : World => z.cell? ⟨g, 22, none⟩ = some (.slice pv n cap))) (by kernel_rfl) (hS0) (fun hHeld => ?_)
  rw [R.size]
  clear R
  refine wpAnyH_takes HR.out.sel hQ hHeld [0, 1, 3, 4, 5] 4 _ _ HR.out.may0 ?_
  refine wpTake_stepE ⟨some 48, Op.move (Operand.tmp 4), 28, "", #[], none⟩ 48 (v) HR.out.o0 rfl (by rw [hsz]; decide) (wanted_none rfl) (fun z hS => xm8_0 g pv n cap base v xs p5 m5 c5 ys _ z (fun _ => rfl) e4 hS) ?_
  intro a1 ha1 s1 f1 n1 k1
  replace hsz := s1.trans hsz
  replace hdf := f1.trans hdf
  replace e5 := (k1 5 (by decide)).trans e5
  replace e1 := (k1 1 (by decide)).trans e1
  have e48 := n1
  clear s1 f1 n1 k1
  refine wpTake_stepE ⟨some 49, Op.move (Operand.tmp 5), 28, "", #[], none⟩ 49 (.slice p5 m5 c5) HR.out.o1 rfl (by rw [hsz]; decide) (wanted_none rfl) (fun z hS => xm8_1 g pv n cap base v xs p5 m5 c5 ys _ z (fun _ => rfl) e5 hS) ?_
  intro a2 ha2 s1 f1 n1 k1
  replace hsz := s1.trans hsz
  replace hdf := f1.trans hdf
  replace e1 := (k1 1 (by decide)).trans e1
  replace e48 := (k1 48 (by decide)).trans e48
  have e49 := n1
  clear s1 f1 n1 k1
  refine wpTake_stepE ⟨some 51, Op.fieldAddr 40 (Operand.tmp 1) 11, 0, "", #[], none⟩ 51 (.pointer (some ⟨g, 22, none⟩)) HR.out.o3 rfl (by rw [hsz]; decide) (wanted_none rfl) (fun z hS => xm8_3 g pv n cap base v xs p5 m5 c5 ys _ z (fun _ => rfl) e1 hS) ?_
  intro a3 ha3 s1 f1 n1 k1
  replace hsz := s1.trans hsz
  replace hdf := f1.trans hdf
  replace e48 := (k1 48 (by decide)).trans e48
  replace e49 := (k1 49 (by decide)).trans e49
  have e51 := n1
  clear s1 f1 n1 k1
  refine wpTake_stepE ⟨some 52, Op.load 38 (Operand.tmp 51), 38, "", #[], none⟩ 52 (.slice pv n cap) HR.out.o4 rfl (by rw [hsz]; decide) (wanted_none rfl) (fun z hS => xm8_4 g pv n cap base v xs p5 m5 c5 ys _ z (fun _ => rfl) e51 hS) ?_
  intro a4 ha4 s1 f1 n1 k1
  replace hsz := s1.trans hsz
  replace hdf := f1.trans hdf
  replace e48 := (k1 48 (by decide)).trans e48
  replace e49 := (k1 49 (by decide)).trans e49
  have e52 := n1
  clear s1 f1 n1 k1
  refine wpTake_stepE ⟨some 53, Op.call { callee := Callee.builtin Builtin.len, args := #[Operand.tmp 52], argTypes := #[38] }, 3, "", #[], none⟩ 53 (.int .i64 (n : Int)) HR.out.o5 rfl (by rw [hsz]; decide) (wanted_none rfl) (fun z hS => xm8_5 g pv n cap base v xs p5 m5 c5 ys _ z (fun _ => rfl) e52 hS) ?_
  intro a5 ha5 s1 f1 n1 k1
  replace hsz := s1.trans hsz
  replace hdf := f1.trans hdf
  replace e48 := (k1 48 (by decide)).trans e48
  replace e49 := (k1 49 (by decide)).trans e49
  have e53 := n1
  clear s1 f1 n1 k1
  refine wpTake_nil ?_
  refine wpAnyH_run ⟨some 50, Op.call { callee := Callee.builtin Builtin.append, args := #[Operand.tmp 48, Operand.tmp 49], argTypes := #[28, 28] }, 28, "", #[], none⟩ _ (v3) w3 HR.out.r2 HR.out.o2 rfl rfl (xm8_a2 _ _ _ _ _ _ e48 e49 hap3) (hS3) ?_
  replace hHeld := hS3
  obtain ⟨s1, f1, n1, k1⟩ := act_put a5 50 (v3) (show 50 < _ by rw [hsz]; decide)
  obtain ⟨a6, ha6⟩ : ∃ x, x = Act.put a5 (some 50) (v3) := ⟨_, rfl⟩
  rw [← ha6] at s1 f1 n1 k1 ⊢
  replace hsz := s1.trans hsz
  replace hdf := f1.trans hdf
  replace e53 := (k1 53 (by decide)).trans e53
  have e50 := n1
  clear s1 f1 n1 k1
  refine wpAnyH_one ⟨some 54, Op.call { callee := Callee.value (Operand.func 27), args := #[Operand.tmp 53], argTypes := #[3] }, 28, "", #[], none⟩ HR.out.r6 HR.out.o6 rfl (fun K' hK' => ?_)
  refine wp_enter (xm8_6 g pv n cap base v xs p5 m5 c5 ys _ _ (fun _ => rfl) rfl e53) (rnum_ok n (by omega) w3) ?_
  rintro e9 w9 ⟨v7, rfl, o7, k7⟩
  have hS7 : w9.cell? ⟨g, 22, none⟩ = some (.slice pv n cap) := k7.cellv hS3 (fun e => e)
  have o3b : Ow w9 base v3 (xs ++ ys) := ownsRow_keep o3 k7 (fun _ _ e => e)
  have hn63 : n < 9223372036854775808 := by omega
  obtain ⟨p7, c7, hv7, hrb7⟩ := o7.src (numB_byte hn63)
  have hl7 := numB_len hn63
  have k03 : base ≤ w9.heap.size := Nat.le_trans hbase (Nat.le_trans k3.size k7.size)
  obtain ⟨v8, w8, hap8, o8, k8, b8⟩ := run_append_bytes w9 base v3 (xs ++ ys) o3b p7 (numB n).length c7 (numB n) hrb7 (by rw [List.length_append]; omega) k03
  rw [← hv7] at hap8
  have hgv3 : v3.ownBlock ≠ some g := fun e => by have := (ownBlock_lt o3 e).1; omega
  have hS8 : w8.cell? ⟨g, 22, none⟩ = some (.slice pv n cap) := k8.cellv hS7 hgv3
  refine ⟨_, rfl, hK'.out _ _ (hS7) ?_⟩
  replace hHeld := hS7
  clear hK' K'
  show wpAnyH _ _ _ _ _ _ _ (Act.put a6 (some 54) (v7)) _
  obtain ⟨s1, f1, n1, k1⟩ := act_put a6 54 (v7) (show 54 < _ by rw [hsz]; decide)
  obtain ⟨a7, ha7⟩ : ∃ x, x = Act.put a6 (some 54) (v7) := ⟨_, rfl⟩
  rw [← ha7] at s1 f1 n1 k1 ⊢
  replace hsz := s1.trans hsz
  replace hdf := f1.trans hdf
  replace e50 := (k1 50 (by decide)).trans e50
  have e54 := n1
  clear s1 f1 n1 k1
  refine wpAnyH_run ⟨some 55, Op.call { callee := Callee.builtin Builtin.append, args := #[Operand.tmp 50, Operand.tmp 54], argTypes := #[28, 28] }, 28, "", #[], none⟩ _ (v8) w8 HR.out.r7 HR.out.o7 rfl rfl (xm8_a7 _ _ _ _ _ _ e50 e54 hap8) (hS8) ?_
  replace hHeld := hS8
  obtain ⟨s1, f1, n1, k1⟩ := act_put a7 55 (v8) (show 55 < _ by rw [hsz]; decide)
  obtain ⟨a8, ha8⟩ : ∃ x, x = Act.put a7 (some 55) (v8) := ⟨_, rfl⟩
  rw [← ha8] at s1 f1 n1 k1 ⊢
  replace hsz := s1.trans hsz
  replace hdf := f1.trans hdf
  have e55 := n1
  clear s1 f1 n1 k1
  refine wpAnyH_run ⟨some 4, Op.assign (Operand.tmp 55), 28, "", #[], none⟩ _ (v8) w8 HR.out.r8 HR.out.o8 rfl rfl (xm8_as _ _ _ e55) (hS8) ?_
  replace hHeld := hS8
  obtain ⟨s1, f1, n1, k1⟩ := act_put a8 4 (v8) (show 4 < _ by rw [hsz]; decide)
  obtain ⟨a9, ha9⟩ : ∃ x, x = Act.put a8 (some 4) (v8) := ⟨_, rfl⟩
  rw [← ha9] at s1 f1 n1 k1 ⊢
  replace hsz := s1.trans hsz
  replace hdf := f1.trans hdf
  clear s1 f1 n1 k1
  refine wpAnyH_done HR.out.fin ?_ _
  rw [ha9, ha8, ha7, ha6, ha5, ha4, ha3, ha2, ha1]
  exact hK v3 v7 v8 w8 o8 (((hk0.mono (fun _ _ e => e.elim)).trans (k3.mono (fun b _ e => (ownBlock_lt hown0 e).1)) (fun _ _ e => e)).trans ((k7.mono (S' := fun b => base ≤ b) (fun _ _ e => e.elim)).trans (k8.mono (fun b _ e => (ownBlock_lt o3b e).1)) (fun _ _ e => e)) (fun _ _ e => e)) (Nat.le_trans k03 k8.size)
theorem xm15_a5 (v x v9 : Value) (ev : Operand → Value) (z z2 : World) (e1 : ev (.tmp 80) = v) (e2 : ev (.tmp 84) = x) (hr : (Builtin.append_ #[28, 28] 28 #[v, x]).run Tryd.prog z = .ok v9 z2) : (execOp ev ⟨some 85, Op.call { callee := Callee.builtin Builtin.append, args := #[Operand.tmp 80, Operand.tmp 84], argTypes := #[28, 28] }, 28, "", #[], none⟩).run Tryd.prog z = .ok (.value v9) z2 := by
  unfold execOp
  simp only [resolve, invoke, builtin, Sem.run_bind, Sem.run_pure, Result.andThen_ok, List.map_toArray, List.map_cons, List.map_nil, e1, e2, hr]
theorem xm15_a8 (v x v9 : Value) (ev : Operand → Value) (z z2 : World) (e1 : ev (.tmp 85) = v) (e2 : ev (.tmp 87) = x) (hr : (Builtin.append_ #[28, 28] 28 #[v, x]).run Tryd.prog z = .ok v9 z2) : (execOp ev ⟨some 88, Op.call { callee := Callee.builtin Builtin.append, args := #[Operand.tmp 85, Operand.tmp 87], argTypes := #[28, 28] }, 28, "", #[], none⟩).run Tryd.prog z = .ok (.value v9) z2 := by
  unfold execOp
  simp only [resolve, invoke, builtin, Sem.run_bind, Sem.run_pure, Result.andThen_ok, List.map_toArray, List.map_cons, List.map_nil, e1, e2, hr]
theorem xm15_as (v : Value) (ev : Operand → Value) (z : World) (e1 : ev (.tmp 88) = v) : (execOp ev ⟨some 2, Op.assign (Operand.tmp 88), 28, "", #[], none⟩).run Tryd.prog z = .ok (.value v) z := by
  go_simp
theorem xm15_0 (g : Nat) (pb : Option Addr) (n cap base : Nat) (v : Value) (xs : List Nat) (ys : List Nat) (ev : Operand → Value) (z : World) (ec : ∀ c, ev (.const c) = c) (e4 : ev (.tmp 4) = v) (hS : z.cell? ⟨g, 23, none⟩ = some (.slice pb n cap)) : (execOp ev ⟨some 80, Op.move (Operand.tmp 4), 28, "", #[], none⟩).run Tryd.prog z = .ok (.value (v)) z := by
  obtain hc23 := hS
  go_simp
theorem xm15_1 (g : Nat) (pb : Option Addr) (n cap base : Nat) (v : Value) (xs : List Nat) (ys : List Nat) (ev : Operand → Value) (z : World) (ec : ∀ c, ev (.const c) = c) (e1 : ev (.tmp 1) = .pointer (some ⟨g, 0, none⟩)) (hS : z.cell? ⟨g, 23, none⟩ = some (.slice pb n cap)) : (execOp ev ⟨some 81, Op.fieldAddr 40 (Operand.tmp 1) 12, 0, "", #[], none⟩).run Tryd.prog z = .ok (.value (.pointer (some ⟨g, 23, none⟩))) z := by
  obtain hc23 := hS
  go_simp
theorem xm15_2 (g : Nat) (pb : Option Addr) (n cap base : Nat) (v : Value) (xs : List Nat) (ys : List Nat) (ev : Operand → Value) (z : World) (ec : ∀ c, ev (.const c) = c) (e81 : ev (.tmp 81) = .pointer (some ⟨g, 23, none⟩)) (hS : z.cell? ⟨g, 23, none⟩ = some (.slice pb n cap)) : (execOp ev ⟨some 82, Op.load 28 (Operand.tmp 81), 28, "", #[], none⟩).run Tryd.prog z = .ok (.value (.slice pb n cap)) z := by
  obtain hc23 := hS
  go_simp
theorem xm15_3 (g : Nat) (pb : Option Addr) (n cap base : Nat) (v : Value) (xs : List Nat) (ys : List Nat) (ev : Operand → Value) (z : World) (ec : ∀ c, ev (.const c) = c) (e82 : ev (.tmp 82) = .slice pb n cap) (hS : z.cell? ⟨g, 23, none⟩ = some (.slice pb n cap)) : (execOp ev ⟨some 83, Op.call { callee := Callee.builtin Builtin.len, args := #[Operand.tmp 82], argTypes := #[28] }, 3, "", #[], none⟩).run Tryd.prog z = .ok (.value (.int .i64 (n : Int))) z := by
  obtain hc23 := hS
  go_simp
theorem xm15_6 (g : Nat) (pb : Option Addr) (n cap base : Nat) (v : Value) (xs : List Nat) (ys : List Nat) (ev : Operand → Value) (z : World) (ec : ∀ c, ev (.const c) = c) (e1 : ev (.tmp 1) = .pointer (some ⟨g, 0, none⟩)) (hS : z.cell? ⟨g, 23, none⟩ = some (.slice pb n cap)) : (execOp ev ⟨some 86, Op.fieldAddr 40 (Operand.tmp 1) 12, 0, "", #[], none⟩).run Tryd.prog z = .ok (.value (.pointer (some ⟨g, 23, none⟩))) z := by
  obtain hc23 := hS
  go_simp
theorem xm15_7 (g : Nat) (pb : Option Addr) (n cap base : Nat) (v : Value) (xs : List Nat) (ys : List Nat) (ev : Operand → Value) (z : World) (ec : ∀ c, ev (.const c) = c) (e86 : ev (.tmp 86) = .pointer (some ⟨g, 23, none⟩)) (hS : z.cell? ⟨g, 23, none⟩ = some (.slice pb n cap)) : (execOp ev ⟨some 87, Op.load 28 (Operand.tmp 86), 28, "", #[], none⟩).run Tryd.prog z = .ok (.value (.slice pb n cap)) z := by
  obtain hc23 := hS
  go_simp
set_option maxRecDepth 100000 in
theorem xm15_4 (g : Nat) (pb : Option Addr) (n cap base : Nat) (v : Value) (xs : List Nat) (ys : List Nat) (ev : Operand → Value) (z : World) (ec : ∀ c, ev (.const c) = c) (ef : ev (.func 27) = .func (.func 27) #[] #[]) (e83 : ev (.tmp 83) = .int .i64 (n : Int)) : (execOp ev ⟨some 84, Op.call { callee := Callee.value (Operand.func 27), args := #[Operand.tmp 83], argTypes := #[3] }, 28, "", #[], none⟩).run Tryd.prog z = .ok (.enter 27 #[.int .i64 (n : Int)]) z :=
  enter_run _ ef (by simp only [List.map_toArray, List.map_cons, List.map_nil, ec, e83]) (fun _ => by rfl)
theorem xm15_9 (g : Nat) (pb : Option Addr) (n cap base : Nat) (v : Value) (xs : List Nat) (ys : List Nat) (v9 : Value) (ev : Operand → Value) (z : World) (ec : ∀ c, ev (.const c) = c) (e88 : ev (.tmp 88) = v9) (hS : z.cell? ⟨g, 23, none⟩ = some (.slice pb n cap)) : (execOp ev ⟨some 2, Op.assign (Operand.tmp 88), 28, "", #[], none⟩).run Tryd.prog z = .ok (.value (v9)) z := by
  obtain hc23 := hS
  go_simp
theorem xm15_10 (g : Nat) (pb : Option Addr) (n cap base : Nat) (v : Value) (xs : List Nat) (ys : List Nat) (ev : Operand → Value) (z : World) (ec : ∀ c, ev (.const c) = c)  (hS : z.cell? ⟨g, 23, none⟩ = some (.slice pb n cap)) : (execOp ev ⟨some 3, Op.assign (Operand.const (Value.int IntKind.i64 0)), 29, "", #[], none⟩).run Tryd.prog z = .ok (.value (.int .i64 0)) z := by
  obtain hc23 := hS
  go_simp
structure xm15R (ops : Array Oper) : Prop where
  size : ops.size = 11
  sel : Region.noSelect ops = true
  o0 : (ops[0]?).map bare = some ⟨some 80, Op.move (Operand.tmp 4), 28, "", #[], none⟩
  o1 : (ops[1]?).map bare = some ⟨some 81, Op.fieldAddr 40 (Operand.tmp 1) 12, 0, "", #[], none⟩
  o2 : (ops[2]?).map bare = some ⟨some 82, Op.load 28 (Operand.tmp 81), 28, "", #[], none⟩
  o3 : (ops[3]?).map bare = some ⟨some 83, Op.call { callee := Callee.builtin Builtin.len, args := #[Operand.tmp 82], argTypes := #[28] }, 3, "", #[], none⟩
  o4 : (ops[4]?).map bare = some ⟨some 84, Op.call { callee := Callee.value (Operand.func 27), args := #[Operand.tmp 83], argTypes := #[3] }, 28, "", #[], none⟩
  o5 : (ops[5]?).map bare = some ⟨some 85, Op.call { callee := Callee.builtin Builtin.append, args := #[Operand.tmp 80, Operand.tmp 84], argTypes := #[28, 28] }, 28, "", #[], none⟩
  o6 : (ops[6]?).map bare = some ⟨some 86, Op.fieldAddr 40 (Operand.tmp 1) 12, 0, "", #[], none⟩
  o7 : (ops[7]?).map bare = some ⟨some 87, Op.load 28 (Operand.tmp 86), 28, "", #[], none⟩
  o8 : (ops[8]?).map bare = some ⟨some 88, Op.call { callee := Callee.builtin Builtin.append, args := #[Operand.tmp 85, Operand.tmp 87], argTypes := #[28, 28] }, 28, "", #[], none⟩
  o9 : (ops[9]?).map bare = some ⟨some 2, Op.assign (Operand.tmp 88), 28, "", #[], none⟩
  o10 : (ops[10]?).map bare = some ⟨some 3, Op.assign (Operand.const (Value.int IntKind.i64 0)), 29, "", #[], none⟩
  may0 : takeB .any ops [0, 1, 2, 3, 6, 7] (Array.replicate 11 false) = true
  r4 : Region.ready .any ops (mark [0, 1, 2, 3, 6, 7] (Array.replicate 11 false)) = [4]
  r5 : Region.ready .any ops ((mark [0, 1, 2, 3, 6, 7] (Array.replicate 11 false)).setIfInBounds 4 true) = [5]
  r8 : Region.ready .any ops (((mark [0, 1, 2, 3, 6, 7] (Array.replicate 11 false)).setIfInBounds 4 true).setIfInBounds 5 true) = [8]
  may1 : takeB .any ops [9, 10] ((((mark [0, 1, 2, 3, 6, 7] (Array.replicate 11 false)).setIfInBounds 4 true).setIfInBounds 5 true).setIfInBounds 8 true) = true
  fin : Region.ready .any ops (mark [9, 10] ((((mark [0, 1, 2, 3, 6, 7] (Array.replicate 11 false)).setIfInBounds 4 true).setIfInBounds 5 true).setIfInBounds 8 true)) = []

set_option maxRecDepth 100000 in
set_option maxHeartbeats 3200000 in
theorem xm15_region {ops : Array Oper} {rid : Nat} {Q : Exit → Act → World → Prop} {a : Act} {y : World} (R : xm15R ops) (g : Nat) (pb : Option Addr) (n cap base : Nat) (v : Value) (xs : List Nat) (ys : List Nat)
    (hQ : ∀ d v c a w, Q (.panic c) (a.put d v) w → Q (.panic c) a w) (hsz : a.tmps.size = 89) (e4 : a.eval (.tmp 4) = v) (e1 : a.eval (.tmp 1) = .pointer (some ⟨g, 0, none⟩)) (hS : y.cell? ⟨g, 23, none⟩ = some (.slice pb n cap)) (hown : Ow y base v xs) (hrb : Rb y pb n ys) (hpb : ∀ a, pb = some a → 0 < n → v.ownBlock ≠ some a.block ∧ a.block < y.heap.size) (hg : g < base) (hbase : base ≤ y.heap.size) (hlen : xs.length ≤ 100000000) (hn9 : n ≤ 2000)
    (hK : ∀ v7 v8 v9 w10, Ow w10 base v9 (xs ++ numB n ++ ys) → Kp (fun b => base ≤ b) y w10 → base ≤ w10.heap.size → Q .normal (((((((((((a.put (some 80) (v)).put (some 81) (.pointer (some ⟨g, 23, none⟩))).put (some 82) (.slice pb n cap)).put (some 83) (.int .i64 (n : Int))).put (some 86) (.pointer (some ⟨g, 23, none⟩))).put (some 87) (.slice pb n cap)).put (some 84) (v7)).put (some 85) (v8)).put (some 88) (v9)).put (some 2) (v9)).put (some 3) (.int .i64 0)) w10) : (Code.region rid ops true).wp Tryd.prog Q a y := by
  have HR : Hid (xm15R ops) := R
  have hdf : a.defers = a.defers := rfl
  have hS0 : y.drew.cell? ⟨g, 23, none⟩ = some (.slice pb n cap) := hS
  have hk0 : Kp (fun _ => False) y y.drew := (Kp.refl _ _).drew
  have hown0 : Ow y.drew base v xs := ownsRow_keep hown hk0 (fun _ _ => fun e => e)
  have hgv : v.ownBlock ≠ some g := fun e => by have := (ownBlock_lt hown e).1; omega
  have hyl := hrb.len
  refine wp_region_held_drew (S := (fun z : World => z.cell? ⟨g, 23, none⟩ = some (.slice pb n cap))) (by kernel_rfl) (hS0) (fun hHeld => ?_)
  rw [R.size]
  clear R
  refine wpAnyH_takes HR.out.sel hQ hHeld [0, 1, 2, 3, 6, 7] 5 _ _ HR.out.may0 ?_
  refine wpTake_stepE ⟨some 80, Op.move (Operand.tmp 4), 28, "", #[], none⟩ 80 (v) HR.out.o0 rfl (by rw [hsz]; decide) (wanted_none rfl) (fun z hS => xm15_0 g pb n cap base v xs ys _ z (fun _ => rfl) e4 hS) ?_
  intro a1 ha1 s1 f1 n1 k1
  replace hsz := s1.trans hsz
  replace hdf := f1.trans hdf
  replace e1 := (k1 1 (by decide)).trans e1
  have e80 := n1
  clear s1 f1 n1 k1
  refine wpTake_stepE ⟨some 81, Op.fieldAddr 40 (Operand.tmp 1) 12, 0, "", #[], none⟩ 81 (.pointer (some ⟨g, 23, none⟩)) HR.out.o1 rfl (by rw [hsz]; decide) (wanted_none rfl) (fun z hS => xm15_1 g pb n cap base v xs ys _ z (fun _ => rfl) e1 hS) ?_
  intro a2 ha2 s1 f1 n1 k1
  replace hsz := s1.trans hsz
  replace hdf := f1.trans hdf
  replace e1 := (k1 1 (by decide)).trans e1
  replace e80 := (k1 80 (by decide)).trans e80
  have e81 := n1
  clear s1 f1 n1 k1
  refine wpTake_stepE ⟨some 82, Op.load 28 (Operand.tmp 81), 28, "", #[], none⟩ 82 (.slice pb n cap) HR.out.o2 rfl (by rw [hsz]; decide) (wanted_none rfl) (fun z hS => xm15_2 g pb n cap base v xs ys _ z (fun _ => rfl) e81 hS) ?_
  intro a3 ha3 s1 f1 n1 k1
  replace hsz := s1.trans hsz
  replace hdf := f1.trans hdf
  replace e1 := (k1 1 (by decide)).trans e1
  replace e80 := (k1 80 (by decide)).trans e80
  have e82 := n1
  clear s1 f1 n1 k1
  refine wpTake_stepE ⟨some 83, Op.call { callee := Callee.builtin Builtin.len, args := #[Operand.tmp 82], argTypes := #[28] }, 3, "", #[], none⟩ 83 (.int .i64 (n : Int)) HR.out.o3 rfl (by rw [hsz]; decide) (wanted_none rfl) (fun z hS => xm15_3 g pb n cap base v xs ys _ z (fun _ => rfl) e82 hS) ?_
  intro a4 ha4 s1 f1 n1 k1
  replace hsz := s1.trans hsz
  replace hdf := f1.trans hdf
  replace e1 := (k1 1 (by decide)).trans e1
  replace e80 := (k1 80 (by decide)).trans e80
  have e83 := n1
  clear s1 f1 n1 k1
  refine wpTake_stepE ⟨some 86, Op.fieldAddr 40 (Operand.tmp 1) 12, 0, "", #[], none⟩ 86 (.pointer (some ⟨g, 23, none⟩)) HR.out.o6 rfl (by rw [hsz]; decide) (wanted_none rfl) (fun z hS => xm15_6 g pb n cap base v xs ys _ z (fun _ => rfl) e1 hS) ?_
  intro a5 ha5 s1 f1 n1 k1
  replace hsz := s1.trans hsz
  replace hdf := f1.trans hdf
  replace e80 := (k1 80 (by decide)).trans e80
  replace e83 := (k1 83 (by decide)).trans e83
  have e86 := n1
  clear s1 f1 n1 k1
  refine wpTake_stepE ⟨some 87, Op.load 28 (Operand.tmp 86), 28, "", #[], none⟩ 87 (.slice pb n cap) HR.out.o7 rfl (by rw [hsz]; decide) (wanted_none rfl) (fun z hS => xm15_7 g pb n cap base v xs ys _ z (fun _ => rfl) e86 hS) ?_
  intro a6 ha6 s1 f1 n1 k1
  replace hsz := s1.trans hsz
  replace hdf := f1.trans hdf
  replace e80 := (k1 80 (by decide)).trans e80
  replace e83 := (k1 83 (by decide)).trans e83
  have e87 := n1
  clear s1 f1 n1 k1
  refine wpTake_nil ?_
  refine wpAnyH_one ⟨some 84, Op.call { callee := Callee.value (Operand.func 27), args := #[Operand.tmp 83], argTypes := #[3] }, 28, "", #[], none⟩ HR.out.r4 HR.out.o4 rfl (fun K' hK' => ?_)
  refine wp_enter (xm15_4 g pb n cap base v xs ys _ _ (fun _ => rfl) rfl e83) (rnum_ok n (by omega) y.drew) ?_
  rintro e9 w9 ⟨v7, rfl, o7, k7⟩
  have hS7 : w9.cell? ⟨g, 23, none⟩ = some (.slice pb n cap) := k7.cellv hS0 (fun e => e)
  have o3b : Ow w9 base v xs := ownsRow_keep hown0 k7 (fun _ _ e => e)
  have hn63 : n < 9223372036854775808 := by omega
  obtain ⟨p7, c7, hv7, hrb7⟩ := o7.src (numB_byte hn63)
  have hl7 := numB_len hn63
  have k03 : base ≤ w9.heap.size := Nat.le_trans hbase k7.size
  obtain ⟨v8, w8, hap8, o8, k8, b8⟩ := run_append_bytes w9 base v xs o3b p7 (numB n).length c7 (numB n) hrb7 (by omega) k03
  rw [← hv7] at hap8
  have hS8 : w8.cell? ⟨g, 23, none⟩ = some (.slice pb n cap) := k8.cellv hS7 hgv
  have hrb8 : Rb w8 pb n ys := ((hrb.keep0 hk0).keep0 k7).keepP k8 (fun a ha hp => (hpb a ha hp).1)
  obtain ⟨v9, w10, hap9, o9, k9, b9⟩ := run_append_bytes w8 base v8 (xs ++ numB n) o8 pb n cap ys hrb8 (by rw [List.length_append]; omega) (Nat.le_trans k03 k8.size)
  have hgv8 : v8.ownBlock ≠ some g := fun e => by have := (ownBlock_lt o8 e).1; omega
  have hS9 : w10.cell? ⟨g, 23, none⟩ = some (.slice pb n cap) := k9.cellv hS8 hgv8
  refine ⟨_, rfl, hK'.out _ _ (hS7) ?_⟩
  replace hHeld := hS7
  clear hK' K'
  show wpAnyH _ _ _ _ _ _ _ (Act.put a6 (some 84) (v7)) _
  obtain ⟨s1, f1, n1, k1⟩ := act_put a6 84 (v7) (show 84 < _ by rw [hsz]; decide)
  obtain ⟨a7, ha7⟩ : ∃ x, x = Act.put a6 (some 84) (v7) := ⟨_, rfl⟩
  rw [← ha7] at s1 f1 n1 k1 ⊢
  replace hsz := s1.trans hsz
  replace hdf := f1.trans hdf
  replace e80 := (k1 80 (by decide)).trans e80
  replace e87 := (k1 87 (by decide)).trans e87
  have e84 := n1
  clear s1 f1 n1 k1
  refine wpAnyH_run ⟨some 85, Op.call { callee := Callee.builtin Builtin.append, args := #[Operand.tmp 80, Operand.tmp 84], argTypes := #[28, 28] }, 28, "", #[], none⟩ _ (v8) w8 HR.out.r5 HR.out.o5 rfl rfl (xm15_a5 _ _ _ _ _ _ e80 e84 hap8) (hS8) ?_
  replace hHeld := hS8
  obtain ⟨s1, f1, n1, k1⟩ := act_put a7 85 (v8) (show 85 < _ by rw [hsz]; decide)
  obtain ⟨a8, ha8⟩ : ∃ x, x = Act.put a7 (some 85) (v8) := ⟨_, rfl⟩
  rw [← ha8] at s1 f1 n1 k1 ⊢
  replace hsz := s1.trans hsz
  replace hdf := f1.trans hdf
  replace e87 := (k1 87 (by decide)).trans e87
  have e85 := n1
  clear s1 f1 n1 k1
  refine wpAnyH_run ⟨some 88, Op.call { callee := Callee.builtin Builtin.append, args := #[Operand.tmp 85, Operand.tmp 87], argTypes := #[28, 28] }, 28, "", #[], none⟩ _ (v9) w10 HR.out.r8 HR.out.o8 rfl rfl (xm15_a8 _ _ _ _ _ _ e85 e87 hap9) (hS9) ?_
  replace hHeld := hS9
  obtain ⟨s1, f1, n1, k1⟩ := act_put a8 88 (v9) (show 88 < _ by rw [hsz]; decide)
  obtain ⟨a9, ha9⟩ : ∃ x, x = Act.put a8 (some 88) (v9) := ⟨_, rfl⟩
  rw [← ha9] at s1 f1 n1 k1 ⊢
  replace hsz := s1.trans hsz
  replace hdf := f1.trans hdf
  have e88 := n1
  clear s1 f1 n1 k1
  refine wpAnyH_takes HR.out.sel hQ hHeld [9, 10] 0 _ _ HR.out.may1 ?_
  refine wpTake_stepE ⟨some 2, Op.assign (Operand.tmp 88), 28, "", #[], none⟩ 2 (v9) HR.out.o9 rfl (by rw [hsz]; decide) (wanted_none rfl) (fun z hS => xm15_9 g pb n cap base v xs ys v9 _ z (fun _ => rfl) e88 hS) ?_
  intro a10 ha10 s1 f1 n1 k1
  replace hsz := s1.trans hsz
  replace hdf := f1.trans hdf
  clear s1 f1 n1 k1
  refine wpTake_stepE ⟨some 3, Op.assign (Operand.const (Value.int IntKind.i64 0)), 29, "", #[], none⟩ 3 (.int .i64 0) HR.out.o10 rfl (by rw [hsz]; decide) (wanted_none rfl) (fun z hS => xm15_10 g pb n cap base v xs ys _ z (fun _ => rfl)  hS) ?_
  intro a11 ha11 s1 f1 n1 k1
  replace hsz := s1.trans hsz
  replace hdf := f1.trans hdf
  clear s1 f1 n1 k1
  refine wpTake_nil ?_
  refine wpAnyH_done HR.out.fin ?_ _
  rw [ha11, ha10, ha9, ha8, ha7, ha6, ha5, ha4, ha3, ha2, ha1]
  exact hK v7 v8 v9 w10 o9 (((hk0.mono (fun _ _ e => e.elim)).trans (k7.mono (S' := fun b => base ≤ b) (fun _ _ e => e.elim)) (fun _ _ e => e)).trans ((k8.mono (fun b _ e => (ownBlock_lt o3b e).1)).trans (k9.mono (fun b _ e => (ownBlock_lt o8 e).1)) (fun _ _ e => e)) (fun _ _ e => e)) (Nat.le_trans k03 (Nat.le_trans k8.size k9.size))

end Go.Proofs.YtoepemgflbmlcaaDoor
