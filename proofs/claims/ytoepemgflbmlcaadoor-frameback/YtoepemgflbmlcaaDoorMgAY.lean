/- Texts of this proof, joined: Pb1, Nn. -/
import Derived.Test.YtoepemgflbmlcaaDoorMgAK
import Derived.Test.YtoepemgflbmlcaaDoorMgAX
import Derived.Test.YtoepemgflbmlcaaDoorMgAJ
import Derived.Deep.DeepCutAuto
/- The document's Msg: its regions that draw their order (laid by scripts/mkpb1.py). -/
namespace Go.Proofs.YtoepemgflbmlcaaDoor
set_option linter.unusedVariables false
set_option linter.unusedSimpArgs false
open Go.RowKit Go.Deep

theorem xm8_a2 (v x v9 : Value) (ev : Operand → Value) (z z2 : World) (e1 : ev (.tmp 48) = v) (e2 : ev (.tmp 49) = x) (hr : (Builtin.append_ #[28, 28] 28 #[v, x]).run Tryd.prog z = .ok v9 z2) : (execOp ev ⟨some 50, Op.call { callee := Callee.builtin Builtin.append, args := #[Operand.tmp 48, Operand.tmp 49], argTypes := #[28, 28] }, 28, "", #[], none⟩).run Tryd.prog z = .ok (.value v9) z2 := by
  unfold execOp
  simp only [resolve, invoke, builtin, Sem.run_bind, Sem.run_pure, Result.andThen_ok, List.map_toArray, List.map_cons, List.map_nil, e1, e2, hr]
theorem xm8_a7 (v x v9 : Value) (ev : Operand → Value) (z z2 : World) (e1 : ev (.tmp 50) = v) (e2 : ev (.tmp 54) = x) (hr : (Builtin.append_ #[28, 28] 28 #[v, x]).run Tryd.prog z = .ok v9 z2) : (execOp ev ⟨some 55, Op.call { callee := Callee.builtin Builtin.append, args := #[Operand.tmp 50, Operand.tmp 54], argTypes := #[28, 28] }, 28, "", #[], none⟩).run Tryd.prog z = .ok (.value v9) z2 := by
  unfold execOp
  simp only [resolve, invoke, builtin, Sem.run_bind, Sem.run_pure, Result.andThen_ok, List.map_toArray, List.map_cons, List.map_nil, e1, e2, hr]
theorem xm8_as (v : Value) (ev : Operand → Value) (z : World) (e1 : ev (.tmp 55) = v) : (execOp ev ⟨some 4, Op.assign (Operand.tmp 55), 28, "", #[], none⟩).run Tryd.prog z = .ok (.value v) z := by
  go_simp
theorem xm8_0 (g : Nat) (pv : Option Addr) (n cap base : Nat) (v : Value) (xs : List Nat) (p5 : Option Addr) (m5 c5 : Nat) (ys : List Nat) (ev : Operand → Value) (z : World) (ec : ∀ c, ev (.const c) = c) (e4 : ev (.tmp 4) = v) (hS : z.cell? ⟨g, 22, none⟩ = some (.slice pv n cap)) : (execOp ev ⟨some 48, Op.move (Operand.tmp 4), 28, "", #[], none⟩).run Tryd.prog z = .ok (.value (v)) z := by
  obtain hc22 := hS
  go_simp
theorem xm8_1 (g : Nat) (pv : Option Addr) (n cap base : Nat) (v : Value) (xs : List Nat) (p5 : Option Addr) (m5 c5 : Nat) (ys : List Nat) (ev : Operand → Value) (z : World) (ec : ∀ c, ev (.const c) = c) (e5 : ev (.tmp 5) = .slice p5 m5 c5) (hS : z.cell? ⟨g, 22, none⟩ = some (.slice pv n cap)) : (execOp ev ⟨some 49, Op.move (Operand.tmp 5), 28, "", #[], none⟩).run Tryd.prog z = .ok (.value (.slice p5 m5 c5)) z := by
  obtain hc22 := hS
  go_simp
theorem xm8_3 (g : Nat) (pv : Option Addr) (n cap base : Nat) (v : Value) (xs : List Nat) (p5 : Option Addr) (m5 c5 : Nat) (ys : List Nat) (ev : Operand → Value) (z : World) (ec : ∀ c, ev (.const c) = c) (e1 : ev (.tmp 1) = .pointer (some ⟨g, 0, none⟩)) (hS : z.cell? ⟨g, 22, none⟩ = some (.slice pv n cap)) : (execOp ev ⟨some 51, Op.fieldAddr 40 (Operand.tmp 1) 11, 0, "", #[], none⟩).run Tryd.prog z = .ok (.value (.pointer (some ⟨g, 22, none⟩))) z := by
  obtain hc22 := hS
  go_simp
theorem xm8_4 (g : Nat) (pv : Option Addr) (n cap base : Nat) (v : Value) (xs : List Nat) (p5 : Option Addr) (m5 c5 : Nat) (ys : List Nat) (ev : Operand → Value) (z : World) (ec : ∀ c, ev (.const c) = c) (e51 : ev (.tmp 51) = .pointer (some ⟨g, 22, none⟩)) (hS : z.cell? ⟨g, 22, none⟩ = some (.slice pv n cap)) : (execOp ev ⟨some 52, Op.load 38 (Operand.tmp 51), 38, "", #[], none⟩).run Tryd.prog z = .ok (.value (.slice pv n cap)) z := by
  obtain hc22 := hS
  go_simp
theorem xm8_5 (g : Nat) (pv : Option Addr) (n cap base : Nat) (v : Value) (xs : List Nat) (p5 : Option Addr) (m5 c5 : Nat) (ys : List Nat) (ev : Operand → Value) (z : World) (ec : ∀ c, ev (.const c) = c) (e52 : ev (.tmp 52) = .slice pv n cap) (hS : z.cell? ⟨g, 22, none⟩ = some (.slice pv n cap)) : (execOp ev ⟨some 53, Op.call { callee := Callee.builtin Builtin.len, args := #[Operand.tmp 52], argTypes := #[38] }, 3, "", #[], none⟩).run Tryd.prog z = .ok (.value (.int .i64 (n : Int))) z := by
  obtain hc22 := hS
  go_simp
set_option maxRecDepth 100000 in
theorem xm8_6 (g : Nat) (pv : Option Addr) (n cap base : Nat) (v : Value) (xs : List Nat) (p5 : Option Addr) (m5 c5 : Nat) (ys : List Nat) (ev : Operand → Value) (z : World) (ec : ∀ c, ev (.const c) = c) (ef : ev (.func 27) = .func (.func 27) #[] #[]) (e53 : ev (.tmp 53) = .int .i64 (n : Int)) : (execOp ev ⟨some 54, Op.call { callee := Callee.value (Operand.func 27), args := #[Operand.tmp 53], argTypes := #[3] }, 28, "", #[], none⟩).run Tryd.prog z = .ok (.enter 27 #[.int .i64 (n : Int)]) z :=
  enter_run _ ef (by simp only [List.map_toArray, List.map_cons, List.map_nil, ec, e53]) (fun _ => by rfl)
structure xm8R (ops : Array Oper) : Prop where
  size : ops.size = 9
  sel : Region.noSelect ops = true
  o0 : (ops[0]?).map bare = some ⟨some 48, Op.move (Operand.tmp 4), 28, "", #[], none⟩
  o1 : (ops[1]?).map bare = some ⟨some 49, Op.move (Operand.tmp 5), 28, "", #[], none⟩
  o2 : (ops[2]?).map bare = some ⟨some 50, Op.call { callee := Callee.builtin Builtin.append, args := #[Operand.tmp 48, Operand.tmp 49], argTypes := #[28, 28] }, 28, "", #[], none⟩
  o3 : (ops[3]?).map bare = some ⟨some 51, Op.fieldAddr 40 (Operand.tmp 1) 11, 0, "", #[], none⟩
  o4 : (ops[4]?).map bare = some ⟨some 52, Op.load 38 (Operand.tmp 51), 38, "", #[], none⟩
  o5 : (ops[5]?).map bare = some ⟨some 53, Op.call { callee := Callee.builtin Builtin.len, args := #[Operand.tmp 52], argTypes := #[38] }, 3, "", #[], none⟩
  o6 : (ops[6]?).map bare = some ⟨some 54, Op.call { callee := Callee.value (Operand.func 27), args := #[Operand.tmp 53], argTypes := #[3] }, 28, "", #[], none⟩
  o7 : (ops[7]?).map bare = some ⟨some 55, Op.call { callee := Callee.builtin Builtin.append, args := #[Operand.tmp 50, Operand.tmp 54], argTypes := #[28, 28] }, 28, "", #[], none⟩
  o8 : (ops[8]?).map bare = some ⟨some 4, Op.assign (Operand.tmp 55), 28, "", #[], none⟩
  may0 : takeB .any ops [0, 1, 3, 4, 5] (Array.replicate 9 false) = true
  r2 : Region.ready .any ops (mark [0, 1, 3, 4, 5] (Array.replicate 9 false)) = [2]
  r6 : Region.ready .any ops ((mark [0, 1, 3, 4, 5] (Array.replicate 9 false)).setIfInBounds 2 true) = [6]
  r7 : Region.ready .any ops (((mark [0, 1, 3, 4, 5] (Array.replicate 9 false)).setIfInBounds 2 true).setIfInBounds 6 true) = [7]
  r8 : Region.ready .any ops ((((mark [0, 1, 3, 4, 5] (Array.replicate 9 false)).setIfInBounds 2 true).setIfInBounds 6 true).setIfInBounds 7 true) = [8]
  fin : Region.ready .any ops (((((mark [0, 1, 3, 4, 5] (Array.replicate 9 false)).setIfInBounds 2 true).setIfInBounds 6 true).setIfInBounds 7 true).setIfInBounds 8 true) = []

set_option maxRecDepth 100000 in
set_option maxHeartbeats 3200000 in
theorem xm8_region {ops : Array Oper} {rid : Nat} {Q : Exit → Act → World → Prop} {a : Act} {y : World} (R : xm8R ops) (g : Nat) (pv : Option Addr) (n cap base : Nat) (v : Value) (xs : List Nat) (p5 : Option Addr) (m5 c5 : Nat) (ys : List Nat)
    (hQ : ∀ d v c a w, Q (.panic c) (a.put d v) w → Q (.panic c) a w) (hsz : a.tmps.size = 89) (e4 : a.eval (.tmp 4) = v) (e5 : a.eval (.tmp 5) = .slice p5 m5 c5) (e1 : a.eval (.tmp 1) = .pointer (some ⟨g, 0, none⟩)) (hS : y.cell? ⟨g, 22, none⟩ = some (.slice pv n cap)) (hown : Ow y base v xs) (hrb : Rb y p5 m5 ys) (hg : g < base) (hbase : base ≤ y.heap.size) (hlen : xs.length + m5 ≤ 100000) (hn9 : n ≤ 1000)
    (hK : ∀ v3 v7 v8 w8, Ow w8 base v8 (xs ++ ys ++ numB n) → Kp (fun b => base ≤ b) y w8 → base ≤ w8.heap.size → Q .normal (((((((((a.put (some 48) (v)).put (some 49) (.slice p5 m5 c5)).put (some 51) (.pointer (some ⟨g, 22, none⟩))).put (some 52) (.slice pv n cap)).put (some 53) (.int .i64 (n : Int))).put (some 50) (v3)).put (some 54) (v7)).put (some 55) (v8)).put (some 4) (v8)) w8) : (Code.region rid ops true).wp Tryd.prog Q a y := by
  have HR : Hid (xm8R ops) := R
  have hdf : a.defers = a.defers := rfl
  have hS0 : y.drew.cell? ⟨g, 22, none⟩ = some (.slice pv n cap) := hS
  have hk0 : Kp (fun _ => False) y y.drew := (Kp.refl _ _).drew
  have hown0 : Ow y.drew base v xs := ownsRow_keep hown hk0 (fun _ _ => fun e => e)
  obtain ⟨v3, w3, hap3, o3, k3, b3⟩ := run_append_bytes y.drew base v xs hown0 p5 m5 c5 ys (hrb.keep0 hk0) (by omega) hbase
  have hgv : v.ownBlock ≠ some g := fun e => by have := (ownBlock_lt hown e).1; omega
  have hS3 : w3.cell? ⟨g, 22, none⟩ = some (.slice pv n cap) := k3.cellv hS hgv
  have hyl := hrb.len
  refine wp_region_held_drew (S := (fun z : World => z.cell? ⟨g, 22, none⟩ = some (.slice pv n cap))) (by kernel_rfl) (hS0) (fun hHeld => ?_)
  rw [R.size]
  clear R
  refine wpAnyH_takes HR.out.sel hQ hHeld [0, 1, 3, 4, 5] 4 _ _ HR.out.may0 ?_
  refine wpTake_stepE ⟨some 48, Op.move (Operand.tmp 4), 28, "", #[], none⟩ 48 (v) HR.out.o0 rfl (by rw [hsz]; decide) (wanted_none rfl) (fun z hS => xm8_0 g pv n cap base v xs p5 m5 c5 ys _ z (fun _ => rfl) e4 hS) ?_
  intro a1 ha1 s1 f1 n1 k1
  replace hsz := s1.trans hsz
  replace hdf := f1.trans hdf
  replace e5 := (k1 5 (by decide)).trans e5
  replace e1 := (k1 1 (by decide)).trans e1
  have e48 := n1
  clear s1 f1 n1 k1
  refine wpTake_stepE ⟨some 49, Op.move (Operand.tmp 5), 28, "", #[], none⟩ 49 (.slice p5 m5 c5) HR.out.o1 rfl (by rw [hsz]; decide) (wanted_none rfl) (fun z hS => xm8_1 g pv n cap base v xs p5 m5 c5 ys _ z (fun _ => rfl) e5 hS) ?_
  intro a2 ha2 s1 f1 n1 k1
  replace hsz := s1.trans hsz
  replace hdf := f1.trans hdf
  replace e1 := (k1 1 (by decide)).trans e1
  replace e48 := (k1 48 (by decide)).trans e48
  have e49 := n1
  clear s1 f1 n1 k1
  refine wpTake_stepE ⟨some 51, Op.fieldAddr 40 (Operand.tmp 1) 11, 0, "", #[], none⟩ 51 (.pointer (some ⟨g, 22, none⟩)) HR.out.o3 rfl (by rw [hsz]; decide) (wanted_none rfl) (fun z hS => xm8_3 g pv n cap base v xs p5 m5 c5 ys _ z (fun _ => rfl) e1 hS) ?_
  intro a3 ha3 s1 f1 n1 k1
  replace hsz := s1.trans hsz
  replace hdf := f1.trans hdf
  replace e48 := (k1 48 (by decide)).trans e48
  replace e49 := (k1 49 (by decide)).trans e49
  have e51 := n1
  clear s1 f1 n1 k1
  refine wpTake_stepE ⟨some 52, Op.load 38 (Operand.tmp 51), 38, "", #[], none⟩ 52 (.slice pv n cap) HR.out.o4 rfl (by rw [hsz]; decide) (wanted_none rfl) (fun z hS => xm8_4 g pv n cap base v xs p5 m5 c5 ys _ z (fun _ => rfl) e51 hS) ?_
  intro a4 ha4 s1 f1 n1 k1
  replace hsz := s1.trans hsz
  replace hdf := f1.trans hdf
  replace e48 := (k1 48 (by decide)).trans e48
  replace e49 := (k1 49 (by decide)).trans e49
  have e52 := n1
  clear s1 f1 n1 k1
  refine wpTake_stepE ⟨some 53, Op.call { callee := Callee.builtin Builtin.len, args := #[Operand.tmp 52], argTypes := #[38] }, 3, "", #[], none⟩ 53 (.int .i64 (n : Int)) HR.out.o5 rfl (by rw [hsz]; decide) (wanted_none rfl) (fun z hS => xm8_5 g pv n cap base v xs p5 m5 c5 ys _ z (fun _ => rfl) e52 hS) ?_
  intro a5 ha5 s1 f1 n1 k1
  replace hsz := s1.trans hsz
  replace hdf := f1.trans hdf
  replace e48 := (k1 48 (by decide)).trans e48
  replace e49 := (k1 49 (by decide)).trans e49
  have e53 := n1
  clear s1 f1 n1 k1
  refine wpTake_nil ?_
  refine wpAnyH_run ⟨some 50, Op.call { callee := Callee.builtin Builtin.append, args := #[Operand.tmp 48, Operand.tmp 49], argTypes := #[28, 28] }, 28, "", #[], none⟩ _ (v3) w3 HR.out.r2 HR.out.o2 rfl rfl (xm8_a2 _ _ _ _ _ _ e48 e49 hap3) (hS3) ?_
  replace hHeld := hS3
  obtain ⟨s1, f1, n1, k1⟩ := act_put a5 50 (v3) (show 50 < _ by rw [hsz]; decide)
  obtain ⟨a6, ha6⟩ : ∃ x, x = Act.put a5 (some 50) (v3) := ⟨_, rfl⟩
  rw [← ha6] at s1 f1 n1 k1 ⊢
  replace hsz := s1.trans hsz
  replace hdf := f1.trans hdf
  replace e53 := (k1 53 (by decide)).trans e53
  have e50 := n1
  clear s1 f1 n1 k1
  refine wpAnyH_one ⟨some 54, Op.call { callee := Callee.value (Operand.func 27), args := #[Operand.tmp 53], argTypes := #[3] }, 28, "", #[], none⟩ HR.out.r6 HR.out.o6 rfl (fun K' hK' => ?_)
  refine wp_enter (xm8_6 g pv n cap base v xs p5 m5 c5 ys _ _ (fun _ => rfl) rfl e53) (rnum_ok n (by omega) w3) ?_
  rintro e9 w9 ⟨v7, rfl, o7, k7⟩
  have hS7 : w9.cell? ⟨g, 22, none⟩ = some (.slice pv n cap) := k7.cellv hS3 (fun e => e)
  have o3b : Ow w9 base v3 (xs ++ ys) := ownsRow_keep o3 k7 (fun _ _ e => e)
  have hn63 : n < 9223372036854775808 := by omega
  obtain ⟨p7, c7, hv7, hrb7⟩ := o7.src (numB_byte hn63)
  have hl7 := numB_len hn63
  have k03 : base ≤ w9.heap.size := Nat.le_trans hbase (Nat.le_trans k3.size k7.size)
  obtain ⟨v8, w8, hap8, o8, k8, b8⟩ := run_append_bytes w9 base v3 (xs ++ ys) o3b p7 (numB n).length c7 (numB n) hrb7 (by rw [List.length_append]; omega) k03
  rw [← hv7] at hap8
  have hgv3 : v3.ownBlock ≠ some g := fun e => by have := (ownBlock_lt o3 e).1; omega
  have hS8 : w8.cell? ⟨g, 22, none⟩ = some (.slice pv n cap) := k8.cellv hS7 hgv3
  refine ⟨_, rfl, hK'.out _ _ (hS7) ?_⟩
  replace hHeld := hS7
  clear hK' K'
  show wpAnyH _ _ _ _ _ _ _ (Act.put a6 (some 54) (v7)) _
  obtain ⟨s1, f1, n1, k1⟩ := act_put a6 54 (v7) (show 54 < _ by rw [hsz]; decide)
  obtain ⟨a7, ha7⟩ : ∃ x, x = Act.put a6 (some 54) (v7) := ⟨_, rfl⟩
  rw [← ha7] at s1 f1 n1 k1 ⊢
  replace hsz := s1.trans hsz
  replace hdf := f1.trans hdf
  replace e50 := (k1 50 (by decide)).trans e50
  have e54 := n1
  clear s1 f1 n1 k1
  refine wpAnyH_run ⟨some 55, Op.call { callee := Callee.builtin Builtin.append, args := #[Operand.tmp 50, Operand.tmp 54], argTypes := #[28, 28] }, 28, "", #[], none⟩ _ (v8) w8 HR.out.r7 HR.out.o7 rfl rfl (xm8_a7 _ _ _ _ _ _ e50 e54 hap8) (hS8) ?_
  replace hHeld := hS8
  obtain ⟨s1, f1, n1, k1⟩ := act_put a7 55 (v8) (show 55 < _ by rw [hsz]; decide)
  obtain ⟨a8, ha8⟩ : ∃ x, x = Act.put a7 (some 55) (v8) := ⟨_, rfl⟩
  rw [← ha8] at s1 f1 n1 k1 ⊢
  replace hsz := s1.trans hsz
  replace hdf := f1.trans hdf
  have e55 := n1
  clear s1 f1 n1 k1
  refine wpAnyH_run ⟨some 4, Op.assign (Operand.tmp 55), 28, "", #[], none⟩ _ (v8) w8 HR.out.r8 HR.out.o8 rfl rfl (xm8_as _ _ _ e55) (hS8) ?_
  replace hHeld := hS8
  obtain ⟨s1, f1, n1, k1⟩ := act_put a8 4 (v8) (show 4 < _ by rw [hsz]; decide)
  obtain ⟨a9, ha9⟩ : ∃ x, x = Act.put a8 (some 4) (v8) := ⟨_, rfl⟩
  rw [← ha9] at s1 f1 n1 k1 ⊢
  replace hsz := s1.trans hsz
  replace hdf := f1.trans hdf
  clear s1 f1 n1 k1
  refine wpAnyH_done HR.out.fin ?_ _
  rw [ha9, ha8, ha7, ha6, ha5, ha4, ha3, ha2, ha1]
  exact hK v3 v7 v8 w8 o8 (((hk0.mono (fun _ _ e => e.elim)).trans (k3.mono (fun b _ e => (ownBlock_lt hown0 e).1)) (fun _ _ e => e)).trans ((k7.mono (S' := fun b => base ≤ b) (fun _ _ e => e.elim)).trans (k8.mono (fun b _ e => (ownBlock_lt o3b e).1)) (fun _ _ e => e)) (fun _ _ e => e)) (Nat.le_trans k03 k8.size)
theorem xm15_a5 (v x v9 : Value) (ev : Operand → Value) (z z2 : World) (e1 : ev (.tmp 80) = v) (e2 : ev (.tmp 84) = x) (hr : (Builtin.append_ #[28, 28] 28 #[v, x]).run Tryd.prog z = .ok v9 z2) : (execOp ev ⟨some 85, Op.call { callee := Callee.builtin Builtin.append, args := #[Operand.tmp 80, Operand.tmp 84], argTypes := #[28, 28] }, 28, "", #[], none⟩).run Tryd.prog z = .ok (.value v9) z2 := by
  unfold execOp
  simp only [resolve, invoke, builtin, Sem.run_bind, Sem.run_pure, Result.andThen_ok, List.map_toArray, List.map_cons, List.map_nil, e1, e2, hr]
theorem xm15_a8 (v x v9 : Value) (ev : Operand → Value) (z z2 : World) (e1 : ev (.tmp 85) = v) (e2 : ev (.tmp 87) = x) (hr : (Builtin.append_ #[28, 28] 28 #[v, x]).run Tryd.prog z = .ok v9 z2) : (execOp ev ⟨some 88, Op.call { callee := Callee.builtin Builtin.append, args := #[Operand.tmp 85, Operand.tmp 87], argTypes := #[28, 28] }, 28, "", #[], none⟩).run Tryd.prog z = .ok (.value v9) z2 := by
  unfold execOp
  simp only [resolve, invoke, builtin, Sem.run_bind, Sem.run_pure, Result.andThen_ok, List.map_toArray, List.map_cons, List.map_nil, e1, e2, hr]
theorem xm15_as (v : Value) (ev : Operand → Value) (z : World) (e1 : ev (.tmp 88) = v) : (execOp ev ⟨some 2, Op.assign (Operand.tmp 88), 28, "", #[], none⟩).run Tryd.prog z = .ok (.value v) z := by
  go_simp
theorem xm15_0 (g : Nat) (pb : Option Addr) (n cap base : Nat) (v : Value) (xs : List Nat) (ys : List Nat) (ev : Operand → Value) (z : World) (ec : ∀ c, ev (.const c) = c) (e4 : ev (.tmp 4) = v) (hS : z.cell? ⟨g, 23, none⟩ = some (.slice pb n cap)) : (execOp ev ⟨some 80, Op.move (Operand.tmp 4), 28, "", #[], none⟩).run Tryd.prog z = .ok (.value (v)) z := by
  obtain hc23 := hS
  go_simp
theorem xm15_1 (g : Nat) (pb : Option Addr) (n cap base : Nat) (v : Value) (xs : List Nat) (ys : List Nat) (ev : Operand → Value) (z : World) (ec : ∀ c, ev (.const c) = c) (e1 : ev (.tmp 1) = .pointer (some ⟨g, 0, none⟩)) (hS : z.cell? ⟨g, 23, none⟩ = some (.slice pb n cap)) : (execOp ev ⟨some 81, Op.fieldAddr 40 (Operand.tmp 1) 12, 0, "", #[], none⟩).run Tryd.prog z = .ok (.value (.pointer (some ⟨g, 23, none⟩))) z := by
  obtain hc23 := hS
  go_simp
theorem xm15_2 (g : Nat) (pb : Option Addr) (n cap base : Nat) (v : Value) (xs : List Nat) (ys : List Nat) (ev : Operand → Value) (z : World) (ec : ∀ c, ev (.const c) = c) (e81 : ev (.tmp 81) = .pointer (some ⟨g, 23, none⟩)) (hS : z.cell? ⟨g, 23, none⟩ = some (.slice pb n cap)) : (execOp ev ⟨some 82, Op.load 28 (Operand.tmp 81), 28, "", #[], none⟩).run Tryd.prog z = .ok (.value (.slice pb n cap)) z := by
  obtain hc23 := hS
  go_simp
theorem xm15_3 (g : Nat) (pb : Option Addr) (n cap base : Nat) (v : Value) (xs : List Nat) (ys : List Nat) (ev : Operand → Value) (z : World) (ec : ∀ c, ev (.const c) = c) (e82 : ev (.tmp 82) = .slice pb n cap) (hS : z.cell? ⟨g, 23, none⟩ = some (.slice pb n cap)) : (execOp ev ⟨some 83, Op.call { callee := Callee.builtin Builtin.len, args := #[Operand.tmp 82], argTypes := #[28] }, 3, "", #[], none⟩).run Tryd.prog z = .ok (.value (.int .i64 (n : Int))) z := by
  obtain hc23 := hS
  go_simp
theorem xm15_6 (g : Nat) (pb : Option Addr) (n cap base : Nat) (v : Value) (xs : List Nat) (ys : List Nat) (ev : Operand → Value) (z : World) (ec : ∀ c, ev (.const c) = c) (e1 : ev (.tmp 1) = .pointer (some ⟨g, 0, none⟩)) (hS : z.cell? ⟨g, 23, none⟩ = some (.slice pb n cap)) : (execOp ev ⟨some 86, Op.fieldAddr 40 (Operand.tmp 1) 12, 0, "", #[], none⟩).run Tryd.prog z = .ok (.value (.pointer (some ⟨g, 23, none⟩))) z := by
  obtain hc23 := hS
  go_simp
theorem xm15_7 (g : Nat) (pb : Option Addr) (n cap base : Nat) (v : Value) (xs : List Nat) (ys : List Nat) (ev : Operand → Value) (z : World) (ec : ∀ c, ev (.const c) = c) (e86 : ev (.tmp 86) = .pointer (some ⟨g, 23, none⟩)) (hS : z.cell? ⟨g, 23, none⟩ = some (.slice pb n cap)) : (execOp ev ⟨some 87, Op.load 28 (Operand.tmp 86), 28, "", #[], none⟩).run Tryd.prog z = .ok (.value (.slice pb n cap)) z := by
  obtain hc23 := hS
  go_simp
set_option maxRecDepth 100000 in
theorem xm15_4 (g : Nat) (pb : Option Addr) (n cap base : Nat) (v : Value) (xs : List Nat) (ys : List Nat) (ev : Operand → Value) (z : World) (ec : ∀ c, ev (.const c) = c) (ef : ev (.func 27) = .func (.func 27) #[] #[]) (e83 : ev (.tmp 83) = .int .i64 (n : Int)) : (execOp ev ⟨some 84, Op.call { callee := Callee.value (Operand.func 27), args := #[Operand.tmp 83], argTypes := #[3] }, 28, "", #[], none⟩).run Tryd.prog z = .ok (.enter 27 #[.int .i64 (n : Int)]) z :=
  enter_run _ ef (by simp only [List.map_toArray, List.map_cons, List.map_nil, ec, e83]) (fun _ => by rfl)
theorem xm15_9 (g : Nat) (pb : Option Addr) (n cap base : Nat) (v : Value) (xs : List Nat) (ys : List Nat) (v9 : Value) (ev : Operand → Value) (z : World) (ec : ∀ c, ev (.const c) = c) (e88 : ev (.tmp 88) = v9) (hS : z.cell? ⟨g, 23, none⟩ = some (.slice pb n cap)) : (execOp ev ⟨some 2, Op.assign (Operand.tmp 88), 28, "", #[], none⟩).run Tryd.prog z = .ok (.value (v9)) z := by
  obtain hc23 := hS
  go_simp
theorem xm15_10 (g : Nat) (pb : Option Addr) (n cap base : Nat) (v : Value) (xs : List Nat) (ys : List Nat) (ev : Operand → Value) (z : World) (ec : ∀ c, ev (.const c) = c)  (hS : z.cell? ⟨g, 23, none⟩ = some (.slice pb n cap)) : (execOp ev ⟨some 3, Op.assign (Operand.const (Value.int IntKind.i64 0)), 29, "", #[], none⟩).run Tryd.prog z = .ok (.value (.int .i64 0)) z := by
  obtain hc23 := hS
  go_simp
structure xm15R (ops : Array Oper) : Prop where
  size : ops.size = 11
  sel : Region.noSelect ops = true
  o0 : (ops[0]?).map bare = some ⟨some 80, Op.move (Operand.tmp 4), 28, "", #[], none⟩
  o1 : (ops[1]?).map bare = some ⟨some 81, Op.fieldAddr 40 (Operand.tmp 1) 12, 0, "", #[], none⟩
  o2 : (ops[2]?).map bare = some ⟨some 82, Op.load 28 (Operand.tmp 81), 28, "", #[], none⟩
  o3 : (ops[3]?).map bare = some ⟨some 83, Op.call { callee := Callee.builtin Builtin.len, args := #[Operand.tmp 82], argTypes := #[28] }, 3, "", #[], none⟩
  o4 : (ops[4]?).map bare = some ⟨some 84, Op.call { callee := Callee.value (Operand.func 27), args := #[Operand.tmp 83], argTypes := #[3] }, 28, "", #[], none⟩
  o5 : (ops[5]?).map bare = some ⟨some 85, Op.call { callee := Callee.builtin Builtin.append, args := #[Operand.tmp 80, Operand.tmp 84], argTypes := #[28, 28] }, 28, "", #[], none⟩
  o6 : (ops[6]?).map bare = some ⟨some 86, Op.fieldAddr 40 (Operand.tmp 1) 12, 0, "", #[], none⟩
  o7 : (ops[7]?).map bare = some ⟨some 87, Op.load 28 (Operand.tmp 86), 28, "", #[], none⟩
  o8 : (ops[8]?).map bare = some ⟨some 88, Op.call { callee := Callee.builtin Builtin.append, args := #[Operand.tmp 85, Operand.tmp 87], argTypes := #[28, 28] }, 28, "", #[], none⟩
  o9 : (ops[9]?).map bare = some ⟨some 2, Op.assign (Operand.tmp 88), 28, "", #[], none⟩
  o10 : (ops[10]?).map bare = some ⟨some 3, Op.assign (Operand.const (Value.int IntKind.i64 0)), 29, "", #[], none⟩
  may0 : takeB .any ops [0, 1, 2, 3, 6, 7] (Array.replicate 11 false) = true
  r4 : Region.ready .any ops (mark [0, 1, 2, 3, 6, 7] (Array.replicate 11 false)) = [4]
  r5 : Region.ready .any ops ((mark [0, 1, 2, 3, 6, 7] (Array.replicate 11 false)).setIfInBounds 4 true) = [5]
  r8 : Region.ready .any ops (((mark [0, 1, 2, 3, 6, 7] (Array.replicate 11 false)).setIfInBounds 4 true).setIfInBounds 5 true) = [8]
  may1 : takeB .any ops [9, 10] ((((mark [0, 1, 2, 3, 6, 7] (Array.replicate 11 false)).setIfInBounds 4 true).setIfInBounds 5 true).setIfInBounds 8 true) = true
  fin : Region.ready .any ops (mark [9, 10] ((((mark [0, 1, 2, 3, 6, 7] (Array.replicate 11 false)).setIfInBounds 4 true).setIfInBounds 5 true).setIfInBounds 8 true)) = []

set_option maxRecDepth 100000 in
set_option maxHeartbeats 3200000 in
theorem xm15_region {ops : Array Oper} {rid : Nat} {Q : Exit → Act → World → Prop} {a : Act} {y : World} (R : xm15R ops) (g : Nat) (pb : Option Addr) (n cap base : Nat) (v : Value) (xs : List Nat) (ys : List Nat)
    (hQ : ∀ d v c a w, Q (.panic c) (a.put d v) w → Q (.panic c) a w) (hsz : a.tmps.size = 89) (e4 : a.eval (.tmp 4) = v) (e1 : a.eval (.tmp 1) = .pointer (some ⟨g, 0, none⟩)) (hS : y.cell? ⟨g, 23, none⟩ = some (.slice pb n cap)) (hown : Ow y base v xs) (hrb : Rb y pb n ys) (hpb : ∀ a, pb = some a → 0 < n → v.ownBlock ≠ some a.block ∧ a.block < y.heap.size) (hg : g < base) (hbase : base ≤ y.heap.size) (hlen : xs.length ≤ 100000000) (hn9 : n ≤ 2000)
    (hK : ∀ v7 v8 v9 w10, Ow w10 base v9 (xs ++ numB n ++ ys) → Kp (fun b => base ≤ b) y w10 → base ≤ w10.heap.size → Q .normal (((((((((((a.put (some 80) (v)).put (some 81) (.pointer (some ⟨g, 23, none⟩))).put (some 82) (.slice pb n cap)).put (some 83) (.int .i64 (n : Int))).put (some 86) (.pointer (some ⟨g, 23, none⟩))).put (some 87) (.slice pb n cap)).put (some 84) (v7)).put (some 85) (v8)).put (some 88) (v9)).put (some 2) (v9)).put (some 3) (.int .i64 0)) w10) : (Code.region rid ops true).wp Tryd.prog Q a y := by
  have HR : Hid (xm15R ops) := R
  have hdf : a.defers = a.defers := rfl
  have hS0 : y.drew.cell? ⟨g, 23, none⟩ = some (.slice pb n cap) := hS
  have hk0 : Kp (fun _ => False) y y.drew := (Kp.refl _ _).drew
  have hown0 : Ow y.drew base v xs := ownsRow_keep hown hk0 (fun _ _ => fun e => e)
  have hgv : v.ownBlock ≠ some g := fun e => by have := (ownBlock_lt hown e).1; omega
  have hyl := hrb.len
  refine wp_region_held_drew (S := (fun z : World => z.cell? ⟨g, 23, none⟩ = some (.slice pb n cap))) (by kernel_rfl) (hS0) (fun hHeld => ?_)
  rw [R.size]
  clear R
  refine wpAnyH_takes HR.out.sel hQ hHeld [0, 1, 2, 3, 6, 7] 5 _ _ HR.out.may0 ?_
  refine wpTake_stepE ⟨some 80, Op.move (Operand.tmp 4), 28, "", #[], none⟩ 80 (v) HR.out.o0 rfl (by rw [hsz]; decide) (wanted_none rfl) (fun z hS => xm15_0 g pb n cap base v xs ys _ z (fun _ => rfl) e4 hS) ?_
  intro a1 ha1 s1 f1 n1 k1
  replace hsz := s1.trans hsz
  replace hdf := f1.trans hdf
  replace e1 := (k1 1 (by decide)).trans e1
  have e80 := n1
  clear s1 f1 n1 k1
  refine wpTake_stepE ⟨some 81, Op.fieldAddr 40 (Operand.tmp 1) 12, 0, "", #[], none⟩ 81 (.pointer (some ⟨g, 23, none⟩)) HR.out.o1 rfl (by rw [hsz]; decide) (wanted_none rfl) (fun z hS => xm15_1 g pb n cap base v xs ys _ z (fun _ => rfl) e1 hS) ?_
  intro a2 ha2 s1 f1 n1 k1
  replace hsz := s1.trans hsz
  replace hdf := f1.trans hdf
  replace e1 := (k1 1 (by decide)).trans e1
  replace e80 := (k1 80 (by decide)).trans e80
  have e81 := n1
  clear s1 f1 n1 k1
  refine wpTake_stepE ⟨some 82, Op.load 28 (Operand.tmp 81), 28, "", #[], none⟩ 82 (.slice pb n cap) HR.out.o2 rfl (by rw [hsz]; decide) (wanted_none rfl) (fun z hS => xm15_2 g pb n cap base v xs ys _ z (fun _ => rfl) e81 hS) ?_
  intro a3 ha3 s1 f1 n1 k1
  replace hsz := s1.trans hsz
  replace hdf := f1.trans hdf
  replace e1 := (k1 1 (by decide)).trans e1
  replace e80 := (k1 80 (by decide)).trans e80
  have e82 := n1
  clear s1 f1 n1 k1
  refine wpTake_stepE ⟨some 83, Op.call { callee := Callee.builtin Builtin.len, args := #[Operand.tmp 82], argTypes := #[28] }, 3, "", #[], none⟩ 83 (.int .i64 (n : Int)) HR.out.o3 rfl (by rw [hsz]; decide) (wanted_none rfl) (fun z hS => xm15_3 g pb n cap base v xs ys _ z (fun _ => rfl) e82 hS) ?_
  intro a4 ha4 s1 f1 n1 k1
  replace hsz := s1.trans hsz
  replace hdf := f1.trans hdf
  replace e1 := (k1 1 (by decide)).trans e1
  replace e80 := (k1 80 (by decide)).trans e80
  have e83 := n1
  clear s1 f1 n1 k1
  refine wpTake_stepE ⟨some 86, Op.fieldAddr 40 (Operand.tmp 1) 12, 0, "", #[], none⟩ 86 (.pointer (some ⟨g, 23, none⟩)) HR.out.o6 rfl (by rw [hsz]; decide) (wanted_none rfl) (fun z hS => xm15_6 g pb n cap base v xs ys _ z (fun _ => rfl) e1 hS) ?_
  intro a5 ha5 s1 f1 n1 k1
  replace hsz := s1.trans hsz
  replace hdf := f1.trans hdf
  replace e80 := (k1 80 (by decide)).trans e80
  replace e83 := (k1 83 (by decide)).trans e83
  have e86 := n1
  clear s1 f1 n1 k1
  refine wpTake_stepE ⟨some 87, Op.load 28 (Operand.tmp 86), 28, "", #[], none⟩ 87 (.slice pb n cap) HR.out.o7 rfl (by rw [hsz]; decide) (wanted_none rfl) (fun z hS => xm15_7 g pb n cap base v xs ys _ z (fun _ => rfl) e86 hS) ?_
  intro a6 ha6 s1 f1 n1 k1
  replace hsz := s1.trans hsz
  replace hdf := f1.trans hdf
  replace e80 := (k1 80 (by decide)).trans e80
  replace e83 := (k1 83 (by decide)).trans e83
  have e87 := n1
  clear s1 f1 n1 k1
  refine wpTake_nil ?_
  refine wpAnyH_one ⟨some 84, Op.call { callee := Callee.value (Operand.func 27), args := #[Operand.tmp 83], argTypes := #[3] }, 28, "", #[], none⟩ HR.out.r4 HR.out.o4 rfl (fun K' hK' => ?_)
  refine wp_enter (xm15_4 g pb n cap base v xs ys _ _ (fun _ => rfl) rfl e83) (rnum_ok n (by omega) y.drew) ?_
  rintro e9 w9 ⟨v7, rfl, o7, k7⟩
  have hS7 : w9.cell? ⟨g, 23, none⟩ = some (.slice pb n cap) := k7.cellv hS0 (fun e => e)
  have o3b : Ow w9 base v xs := ownsRow_keep hown0 k7 (fun _ _ e => e)
  have hn63 : n < 9223372036854775808 := by omega
  obtain ⟨p7, c7, hv7, hrb7⟩ := o7.src (numB_byte hn63)
  have hl7 := numB_len hn63
  have k03 : base ≤ w9.heap.size := Nat.le_trans hbase k7.size
  obtain ⟨v8, w8, hap8, o8, k8, b8⟩ := run_append_bytes w9 base v xs o3b p7 (numB n).length c7 (numB n) hrb7 (by omega) k03
  rw [← hv7] at hap8
  have hS8 : w8.cell? ⟨g, 23, none⟩ = some (.slice pb n cap) := k8.cellv hS7 hgv
  have hrb8 : Rb w8 pb n ys := ((hrb.keep0 hk0).keep0 k7).keepP k8 (fun a ha hp => (hpb a ha hp).1)
  obtain ⟨v9, w10, hap9, o9, k9, b9⟩ := run_append_bytes w8 base v8 (xs ++ numB n) o8 pb n cap ys hrb8 (by rw [List.length_append]; omega) (Nat.le_trans k03 k8.size)
  have hgv8 : v8.ownBlock ≠ some g := fun e => by have := (ownBlock_lt o8 e).1; omega
  have hS9 : w10.cell? ⟨g, 23, none⟩ = some (.slice pb n cap) := k9.cellv hS8 hgv8
  refine ⟨_, rfl, hK'.out _ _ (hS7) ?_⟩
  replace hHeld := hS7
  clear hK' K'
  show wpAnyH _ _ _ _ _ _ _ (Act.put a6 (some 84) (v7)) _
  obtain ⟨s1, f1, n1, k1⟩ := act_put a6 84 (v7) (show 84 < _ by rw [hsz]; decide)
  obtain ⟨a7, ha7⟩ : ∃ x, x = Act.put a6 (some 84) (v7) := ⟨_, rfl⟩
  rw [← ha7] at s1 f1 n1 k1 ⊢
  replace hsz := s1.trans hsz
  replace hdf := f1.trans hdf
  replace e80 := (k1 80 (by decide)).trans e80
  replace e87 := (k1 87 (by decide)).trans e87
  have e84 := n1
  clear s1 f1 n1 k1
  refine wpAnyH_run ⟨some 85, Op.call { callee := Callee.builtin Builtin.append, args := #[Operand.tmp 80, Operand.tmp 84], argTypes := #[28, 28] }, 28, "", #[], none⟩ _ (v8) w8 HR.out.r5 HR.out.o5 rfl rfl (xm15_a5 _ _ _ _ _ _ e80 e84 hap8) (hS8) ?_
  replace hHeld := hS8
  obtain ⟨s1, f1, n1, k1⟩ := act_put a7 85 (v8) (show 85 < _ by rw [hsz]; decide)
  obtain ⟨a8, ha8⟩ : ∃ x, x = Act.put a7 (some 85) (v8) := ⟨_, rfl⟩
  rw [← ha8] at s1 f1 n1 k1 ⊢
  replace hsz := s1.trans hsz
  replace hdf := f1.trans hdf
  replace e87 := (k1 87 (by decide)).trans e87
  have e85 := n1
  clear s1 f1 n1 k1
  refine wpAnyH_run ⟨some 88, Op.call { callee := Callee.builtin Builtin.append, args := #[Operand.tmp 85, Operand.tmp 87], argTypes := #[28, 28] }, 28, "", #[], none⟩ _ (v9) w10 HR.out.r8 HR.out.o8 rfl rfl (xm15_a8 _ _ _ _ _ _ e85 e87 hap9) (hS9) ?_
  replace hHeld := hS9
  obtain ⟨s1, f1, n1, k1⟩ := act_put a8 88 (v9) (show 88 < _ by rw [hsz]; decide)
  obtain ⟨a9, ha9⟩ : ∃ x, x = Act.put a8 (some 88) (v9) := ⟨_, rfl⟩
  rw [← ha9] at s1 f1 n1 k1 ⊢
  replace hsz := s1.trans hsz
  replace hdf := f1.trans hdf
  have e88 := n1
  clear s1 f1 n1 k1
  refine wpAnyH_takes HR.out.sel hQ hHeld [9, 10] 0 _ _ HR.out.may1 ?_
  refine wpTake_stepE ⟨some 2, Op.assign (Operand.tmp 88), 28, "", #[], none⟩ 2 (v9) HR.out.o9 rfl (by rw [hsz]; decide) (wanted_none rfl) (fun z hS => xm15_9 g pb n cap base v xs ys v9 _ z (fun _ => rfl) e88 hS) ?_
  intro a10 ha10 s1 f1 n1 k1
  replace hsz := s1.trans hsz
  replace hdf := f1.trans hdf
  clear s1 f1 n1 k1
  refine wpTake_stepE ⟨some 3, Op.assign (Operand.const (Value.int IntKind.i64 0)), 29, "", #[], none⟩ 3 (.int .i64 0) HR.out.o10 rfl (by rw [hsz]; decide) (wanted_none rfl) (fun z hS => xm15_10 g pb n cap base v xs ys _ z (fun _ => rfl)  hS) ?_
  intro a11 ha11 s1 f1 n1 k1
  replace hsz := s1.trans hsz
  replace hdf := f1.trans hdf
  clear s1 f1 n1 k1
  refine wpTake_nil ?_
  refine wpAnyH_done HR.out.fin ?_ _
  rw [ha11, ha10, ha9, ha8, ha7, ha6, ha5, ha4, ha3, ha2, ha1]
  exact hK v7 v8 v9 w10 o9 (((hk0.mono (fun _ _ e => e.elim)).trans (k7.mono (S' := fun b => base ≤ b) (fun _ _ e => e.elim)) (fun _ _ e => e)).trans ((k8.mono (fun b _ e => (ownBlock_lt o3b e).1)).trans (k9.mono (fun b _ e => (ownBlock_lt o8 e).1)) (fun _ _ e => e)) (fun _ _ e => e)) (Nat.le_trans k03 (Nat.le_trans k8.size k9.size))

end Go.Proofs.YtoepemgflbmlcaaDoor

/- The document's MayCmd (laid by scripts/mknn.py). -/
namespace Go.Proofs.YtoepemgflbmlcaaDoor
set_option linter.unusedVariables false
set_option linter.unusedSimpArgs false
open Go.RowKit Go.Deep

def codeB (k m : Int) : Bool := decide (0 ≤ k) && (decide (k ≤ 255) && (decide (0 ≤ m) && decide (m ≤ 255)))
def restB (kind node : Int) (cB : Bool) (ks : Nat) (nB : Bool) : Bool := decide (0 ≤ kind) && (decide (kind ≤ 12) && (decide (0 ≤ node) && (decide (node ≤ 15) && (cB && (decide (ks ≤ 8) && nB)))))
theorem mayR_same (c : Cs0) (zs : List Int) : (upTo 1152921504606846976 [c.id, c.blob, c.other, c.index, c.size] && restB c.kind c.node (codeB c.k c.m) c.key.size (nodesB zs)) = mayC c zs := by
  unfold mayC restB codeB nodesB
  rw [Bool.eq_iff_iff]
  have e2 : upTo 255 [c.k, c.m] = true ↔ (0 ≤ c.k ∧ c.k ≤ 255) ∧ (0 ≤ c.m ∧ c.m ≤ 255) := by unfold upTo; simp
  have e1 : upTo 15 [c.node] = true ↔ 0 ≤ c.node ∧ c.node ≤ 15 := by unfold upTo; simp
  simp only [Bool.and_eq_true, decide_eq_true_eq, e2, e1]
  constructor
  · rintro ⟨h1, h2, h3, h4, h5, ⟨h6, h7, h8, h9⟩, h10, h11, h12⟩
    exact ⟨h10, h12, h2, h3, h1, ⟨⟨h6, h7⟩, h8, h9⟩, ⟨h4, h5⟩, h11⟩
  · rintro ⟨h10, h12, h2, h3, h1, ⟨⟨h6, h7⟩, h8, h9⟩, ⟨h4, h5⟩, h11⟩
    exact ⟨h1, h2, h3, h4, h5, ⟨h6, h7, h8, h9⟩, h10, h11, h12⟩

set_option maxRecDepth 100000 in
set_option maxHeartbeats 6400000 in
theorem rmayCmd_ok (c : Cs0) (Z : Nat → Prop) (p : Option Addr) (n cap : Nat) (zs : List Int) (w : World) (h : Fl w Z p (zs.map encI)) (hn : n = zs.length) (hn9 : n ≤ 1000000000000000) (hk9 : c.key.size ≤ 9223372036854775807) :
    Calls Tryd.prog 25 #[.agg (cmdA c (.slice p n cap))] w fun e w' => e = .returned (.bool (mayC c zs)) ∧ Kp (fun _ => False) w w' := by
  rw [← mayR_same]
  have HNo : Hid (∀ u, Kp (fun _ => False) w u → Calls Tryd.prog 53 #[.slice p n cap] u fun e w' => e = .returned (.bool (nodesB zs)) ∧ w' = u) := fun u ku => rnodes_ok Z p n cap zs u (h.keep ku (fun _ _ => id)) hn hn9
  have HFi : Hid (∀ z u, Calls _ _ _ u _) := rfine_ok
  obtain ⟨nB, hnB⟩ : ∃ b, b = nodesB zs := ⟨_, rfl⟩
  rw [← hnB] at HNo ⊢
  clear h hnB
  obtain ⟨idd, kind, key, blob, other, index, node, size, sum, kk, mm⟩ := c
  dsimp only at hk9 ⊢
  obtain ⟨cB, hcB⟩ : ∃ b, b = codeB kk mm := ⟨_, rfl⟩
  have HCB : Hid (cB = codeB kk mm) := hcB
  obtain ⟨R, hR⟩ : ∃ R, R = restB kind node cB key.size nB := ⟨_, rfl⟩
  have HR : Hid (R = restB kind node cB key.size nB) := hR
  rw [← hcB, ← hR]
  obtain ⟨zs5, hz5⟩ : ∃ l, l = [idd, blob, other, index, size] := ⟨_, rfl⟩
  have HZ5 : Hid (zs5 = [idd, blob, other, index, size]) := hz5
  rw [← hz5]
  clear hcB hR hz5
  have HK0 : Hid (Kp (fun _ => False) w (w.alloc (.cells (cmdA ⟨idd, kind, key, blob, other, index, node, size, sum, kk, mm⟩ (.slice p n cap)) 27))) := (Kp.refl _ _).alloc _
  have HL0 : Hid (Lv (w.alloc (.cells (cmdA ⟨idd, kind, key, blob, other, index, node, size, sum, kk, mm⟩ (.slice p n cap)) 27)) w.heap.size (cmdA ⟨idd, kind, key, blob, other, index, node, size, sum, kk, mm⟩ (.slice p n cap)).toList) := Lv.new w _ _
  have hks : (key.size : Int) ≤ 9223372036854775807 := by omega
  have hns : (n : Int) ≤ 1000000000000000 := by omega
  clear hn hn9 hk9
  go_enter Tryd.func25, Tryd.ntmps25
  go_upto_region 1 with fail
  obtain ⟨u0, hu0⟩ : ∃ x, x = w.alloc (.cells (cmdA ⟨idd, kind, key, blob, other, index, node, size, sum, kk, mm⟩ (.slice p n cap)) 27) := ⟨_, rfl⟩
  have hu0' := hu0.symm
  simp only [cmdA] at hu0'
  rw [hu0']
  rw [← hu0] at HK0 HL0
  clear hu0 hu0'
  obtain ⟨g, hg⟩ : ∃ x, x = w.heap.size := ⟨_, rfl⟩
  rw [← hg] at HL0 ⊢
  clear hg
  have c0 : u0.cell? ⟨g, 0, none⟩ = some (.int .i64 idd) := HL0.out.cell (j := 0) rfl
  have c1 : u0.cell? ⟨g, 1, none⟩ = some (.int .i64 kind) := HL0.out.cell (j := 1) rfl
  have c2 : u0.cell? ⟨g, 2, none⟩ = some (.string key) := HL0.out.cell (j := 2) rfl
  have c3 : u0.cell? ⟨g, 3, none⟩ = some (.int .i64 blob) := HL0.out.cell (j := 3) rfl
  have c4 : u0.cell? ⟨g, 4, none⟩ = some (.int .i64 other) := HL0.out.cell (j := 4) rfl
  have c5 : u0.cell? ⟨g, 5, none⟩ = some (.int .i64 index) := HL0.out.cell (j := 5) rfl
  have c6 : u0.cell? ⟨g, 6, none⟩ = some (.int .i64 node) := HL0.out.cell (j := 6) rfl
  have c7 : u0.cell? ⟨g, 7, none⟩ = some (.int .i64 size) := HL0.out.cell (j := 7) rfl
  have c9 : u0.cell? ⟨g, 9, none⟩ = some (.int .i64 kk) := HL0.out.cell (j := 9) rfl
  have c10 : u0.cell? ⟨g, 10, none⟩ = some (.int .i64 mm) := HL0.out.cell (j := 10) rfl
  have c11 : u0.cell? ⟨g, 11, none⟩ = some (.slice p n cap) := HL0.out.cell (j := 11) rfl
  have HK1 : Hid (Kp (fun _ => False) w (u0.alloc (.cells #[.int .i64 idd, .int .i64 blob, .int .i64 other, .int .i64 index, .int .i64 size] 3))) := HK0.out.alloc _
  have HL1 : Hid (Lv (u0.alloc (.cells #[.int .i64 idd, .int .i64 blob, .int .i64 other, .int .i64 index, .int .i64 size] 3)) g (cmdA ⟨idd, kind, key, blob, other, index, node, size, sum, kk, mm⟩ (.slice p n cap)).toList) := HL0.out.keep ((Kp.refl (fun _ => False) _).alloc _) id
  have HL2 : Hid (Lv (u0.alloc (.cells #[.int .i64 idd, .int .i64 blob, .int .i64 other, .int .i64 index, .int .i64 size] 3)) u0.heap.size [.int .i64 idd, .int .i64 blob, .int .i64 other, .int .i64 index, .int .i64 size]) := Lv.new u0 #[.int .i64 idd, .int .i64 blob, .int .i64 other, .int .i64 index, .int .i64 size] _
  go_upto_region 2 with fail
  obtain ⟨u1, hu1⟩ : ∃ x, x = u0.alloc (.cells #[.int .i64 idd, .int .i64 blob, .int .i64 other, .int .i64 index, .int .i64 size] 3) := ⟨_, rfl⟩
  rw [← hu1] at HK1 HL1 HL2 ⊢
  obtain ⟨g5, hg5⟩ : ∃ x, x = u0.heap.size := ⟨_, rfl⟩
  rw [← hg5] at HL2 ⊢
  clear hu1 hg5 c0 c1 c2 c3 c4 c5 c6 c7 c9 c10 c11
  have d1 : u1.cell? ⟨g, 1, none⟩ = some (.int .i64 kind) := HL1.out.cell (j := 1) rfl
  have d2 : u1.cell? ⟨g, 2, none⟩ = some (.string key) := HL1.out.cell (j := 2) rfl
  have d6 : u1.cell? ⟨g, 6, none⟩ = some (.int .i64 node) := HL1.out.cell (j := 6) rfl
  have d9 : u1.cell? ⟨g, 9, none⟩ = some (.int .i64 kk) := HL1.out.cell (j := 9) rfl
  have d10 : u1.cell? ⟨g, 10, none⟩ = some (.int .i64 mm) := HL1.out.cell (j := 10) rfl
  have d11 : u1.cell? ⟨g, 11, none⟩ = some (.slice p n cap) := HL1.out.cell (j := 11) rfl
  have HC5 : Hid (∀ (j : Nat) (z : Int), zs5[j]? = some z → u1.cell? ⟨g5, j, none⟩ = some (.int .i64 z)) := fun j z hz => by
    rw [HZ5.out] at hz
    exact HL2.out.cell (by
      have := congrArg (Option.map (Value.int .i64)) hz
      rw [← List.getElem?_map] at this
      exact this)
  have HL5 : Hid (zs5.length = 5) := by rw [HZ5.out]; rfl
  clear HZ5
  go_loopg [18] 5 (fun gk iv wz => ∃ k : Nat, k ≤ 5 ∧ gk = 5 - k ∧ iv = .int .i64 k ∧ u1 = wz ∧ Hid (∀ (i : Nat) (z : Int), i < k → zs5[i]? = some z → 0 ≤ z ∧ z ≤ 1152921504606846976))
  case atStart => exact ⟨0, Nat.zero_le _, rfl, rfl, rfl, fun i z hi => absurd hi (Nat.not_lt_zero _)⟩
  case round =>
    obtain ⟨k, hk, rfl, rfl, rfl, HT⟩ := hrel
    by_cases hlt : (k : Int) < 5
    · obtain ⟨z, hz⟩ : ∃ z, zs5[k]? = some z := ⟨_, List.getElem?_eq_getElem (by have := HL5.out; omega)⟩
      have hc' := HC5.out k z hz
      have HZ : Hid (zs5[k]? = some z) := hz
      clear hz
      go_wp2_with fail
      refine (HFi.out z u1).mono ?_
      rintro e9 w9 ⟨rfl, hw9⟩
      have hw8 := hw9.symm
      subst hw8
      clear hw9
      obtain ⟨fB, hfB⟩ : ∃ b, b = fineB z := ⟨_, rfl⟩
      have HFB : Hid (fB = fineB z) := hfB
      rw [← hfB]
      clear hfB
      cases fB with
      | false =>
        have HV : Hid (upTo 1152921504606846976 zs5 = false) := by
          show _ = _
          cases q : upTo 1152921504606846976 zs5 with
          | false => rfl
          | true =>
            have h1 := upTo_at.1 q k z HZ.out
            have h2 := HFB.out
            unfold fineB at h2
            rw [decide_eq_true h1] at h2
            cases h2
        go_wp2_with fail
        go_ret
        exact ⟨by rw [HV.out]; rfl, HK1.out⟩
      | true =>
        have HO : Hid (0 ≤ z ∧ z ≤ 1152921504606846976) := (by
          have h2 := HFB.out.symm
          unfold fineB at h2
          have h3 : 0 ≤ z ∧ z ≤ 1152921504606846976 := of_decide_eq_true h2
          exact h3)
        go_wp2_with fail
        go_roundg (5 - (k + 1))
        case rel =>
          refine ⟨k + 1, by omega, rfl, by first | rfl | go_num, rfl, fun i y hi hy => ?_⟩
          by_cases e : i = k
          · subst e
            rw [HZ.out] at hy
            cases hy
            exact HO.out
          · exact HT.out i y (by omega) hy
        case measure => omega
    · have HU : Hid (upTo 1152921504606846976 zs5 = true) := upTo_at.2 (fun i z hz => HT.out i z (by have := HL5.out; have := (List.getElem?_eq_some_iff.1 hz).1; omega) hz)
      clear HT HC5 HL5
      go_upto_region 7 with fail
      go_cut [5] (fun v wz => v = .bool cB ∧ u1 = wz)
      case first =>
        by_cases q0 : (0 : Int) ≤ kk
        · by_cases q1 : kk ≤ 255
          · by_cases q2 : (0 : Int) ≤ mm
            · by_cases q3 : mm ≤ 255
              · have HV : Hid (cB = true) := by
                  show _ = _
                  rw [HCB.out]
                  unfold codeB
                  rw [decide_eq_true (show (0 : Int) ≤ kk from by omega)]
                  rw [decide_eq_true (show kk ≤ 255 from by omega)]
                  rw [decide_eq_true (show (0 : Int) ≤ mm from by omega)]
                  rw [decide_eq_true (show mm ≤ 255 from by omega)]
                  simp
                go_wp2_with fail
                go_meet
                exact ⟨by rw [HV.out], rfl⟩
              · have HV : Hid (cB = false) := by
                  show _ = _
                  rw [HCB.out]
                  unfold codeB
                  rw [decide_eq_true (show (0 : Int) ≤ kk from by omega)]
                  rw [decide_eq_true (show kk ≤ 255 from by omega)]
                  rw [decide_eq_true (show (0 : Int) ≤ mm from by omega)]
                  rw [decide_eq_false (show ¬ mm ≤ 255 from by omega)]
                  simp
                go_wp2_with fail
                go_meet
                exact ⟨by rw [HV.out], rfl⟩
            · have HV : Hid (cB = false) := by
                show _ = _
                rw [HCB.out]
                unfold codeB
                rw [decide_eq_true (show (0 : Int) ≤ kk from by omega)]
                rw [decide_eq_true (show kk ≤ 255 from by omega)]
                rw [decide_eq_false (show ¬ (0 : Int) ≤ mm from by omega)]
                simp
              go_wp2_with fail
              go_meet
              exact ⟨by rw [HV.out], rfl⟩
          · have HV : Hid (cB = false) := by
              show _ = _
              rw [HCB.out]
              unfold codeB
              rw [decide_eq_true (show (0 : Int) ≤ kk from by omega)]
              rw [decide_eq_false (show ¬ kk ≤ 255 from by omega)]
              simp
            go_wp2_with fail
            go_meet
            exact ⟨by rw [HV.out], rfl⟩
        · have HV : Hid (cB = false) := by
            show _ = _
            rw [HCB.out]
            unfold codeB
            rw [decide_eq_false (show ¬ (0 : Int) ≤ kk from by omega)]
            simp
          go_wp2_with fail
          go_meet
          exact ⟨by rw [HV.out], rfl⟩
      case rest =>
        obtain ⟨rfl, rfl⟩ := hcut
        clear HCB
        by_cases r0 : (0 : Int) ≤ kind
        · by_cases r1 : kind ≤ 12
          · by_cases r2 : (0 : Int) ≤ node
            · by_cases r3 : node ≤ 15
              · cases cB with
                | true =>
                  by_cases r5 : (key.size : Int) ≤ 8
                  · go_wp2_with fail
                    refine (HNo.out u1 HK1.out).mono ?_
                    rintro e9 w9 ⟨rfl, hw9⟩
                    have hw8 := hw9.symm
                    subst hw8
                    clear hw9
                    cases nB with
                    | true =>
                      have HV : Hid (R = true) := by
                        show _ = _
                        rw [HR.out]
                        unfold restB
                        rw [decide_eq_true (show (0 : Int) ≤ kind from by omega)]
                        rw [decide_eq_true (show kind ≤ 12 from by omega)]
                        rw [decide_eq_true (show (0 : Int) ≤ node from by omega)]
                        rw [decide_eq_true (show node ≤ 15 from by omega)]
                        rw [decide_eq_true (show key.size ≤ 8 from by omega)]
                        simp
                      clear HR
                      go_wp2_with fail
                      go_ret
                      exact ⟨by rw [HU.out, HV.out]; rfl, HK1.out⟩
                    | false =>
                      have HV : Hid (R = false) := by
                        show _ = _
                        rw [HR.out]
                        unfold restB
                        rw [decide_eq_true (show (0 : Int) ≤ kind from by omega)]
                        rw [decide_eq_true (show kind ≤ 12 from by omega)]
                        rw [decide_eq_true (show (0 : Int) ≤ node from by omega)]
                        rw [decide_eq_true (show node ≤ 15 from by omega)]
                        rw [decide_eq_true (show key.size ≤ 8 from by omega)]
                        simp
                      clear HR
                      go_wp2_with fail
                      go_ret
                      exact ⟨by rw [HU.out, HV.out]; rfl, HK1.out⟩
                  · have HV : Hid (R = false) := by
                      show _ = _
                      rw [HR.out]
                      unfold restB
                      rw [decide_eq_true (show (0 : Int) ≤ kind from by omega)]
                      rw [decide_eq_true (show kind ≤ 12 from by omega)]
                      rw [decide_eq_true (show (0 : Int) ≤ node from by omega)]
                      rw [decide_eq_true (show node ≤ 15 from by omega)]
                      rw [decide_eq_false (show ¬ key.size ≤ 8 from by omega)]
                      simp
                    clear HR
                    go_wp2_with fail
                    go_ret
                    exact ⟨by rw [HU.out, HV.out]; rfl, HK1.out⟩
                | false =>
                  have HV : Hid (R = false) := by
                    show _ = _
                    rw [HR.out]
                    unfold restB
                    rw [decide_eq_true (show (0 : Int) ≤ kind from by omega)]
                    rw [decide_eq_true (show kind ≤ 12 from by omega)]
                    rw [decide_eq_true (show (0 : Int) ≤ node from by omega)]
                    rw [decide_eq_true (show node ≤ 15 from by omega)]
                    simp
                  clear HR
                  go_wp2_with fail
                  go_ret
                  exact ⟨by rw [HU.out, HV.out]; rfl, HK1.out⟩
              · have HV : Hid (R = false) := by
                  show _ = _
                  rw [HR.out]
                  unfold restB
                  rw [decide_eq_true (show (0 : Int) ≤ kind from by omega)]
                  rw [decide_eq_true (show kind ≤ 12 from by omega)]
                  rw [decide_eq_true (show (0 : Int) ≤ node from by omega)]
                  rw [decide_eq_false (show ¬ node ≤ 15 from by omega)]
                  simp
                clear HR
                go_wp2_with fail
                go_ret
                exact ⟨by rw [HU.out, HV.out]; rfl, HK1.out⟩
            · have HV : Hid (R = false) := by
                show _ = _
                rw [HR.out]
                unfold restB
                rw [decide_eq_true (show (0 : Int) ≤ kind from by omega)]
                rw [decide_eq_true (show kind ≤ 12 from by omega)]
                rw [decide_eq_false (show ¬ (0 : Int) ≤ node from by omega)]
                simp
              clear HR
              go_wp2_with fail
              go_ret
              exact ⟨by rw [HU.out, HV.out]; rfl, HK1.out⟩
          · have HV : Hid (R = false) := by
              show _ = _
              rw [HR.out]
              unfold restB
              rw [decide_eq_true (show (0 : Int) ≤ kind from by omega)]
              rw [decide_eq_false (show ¬ kind ≤ 12 from by omega)]
              simp
            clear HR
            go_wp2_with fail
            go_ret
            exact ⟨by rw [HU.out, HV.out]; rfl, HK1.out⟩
        · have HV : Hid (R = false) := by
            show _ = _
            rw [HR.out]
            unfold restB
            rw [decide_eq_false (show ¬ (0 : Int) ≤ kind from by omega)]
            simp
          clear HR
          go_wp2_with fail
          go_ret
          exact ⟨by rw [HU.out, HV.out]; rfl, HK1.out⟩
end Go.Proofs.YtoepemgflbmlcaaDoor
