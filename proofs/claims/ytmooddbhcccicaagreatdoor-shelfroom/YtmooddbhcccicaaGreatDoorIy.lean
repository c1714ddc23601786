/- Held: rows of what is held; the drawn region of Held (laid by scripts/mkiy.py). -/
import Derived.Test.YtmooddbhcccicaaGreatDoorIx
import Derived.Test.YtmooddbhcccicaaGreatDoorTh
namespace Go.Proofs.YtmooddbhcccicaaGreatDoor
set_option linter.unusedVariables false
set_option linter.unusedSimpArgs false
open Go.RowKit Go.Deep Go.Maps

theorem hd_bs (n i : Int) (pu : Option Addr) (l cu x : Nat) (ev : Operand → Value) (z : World) (hx : x = z.heap.size) (e32 : ev (.tmp 32) = .agg #[.int .i64 n, .int .i64 i, .slice pu l cu]) : (execOp ev ⟨some 33, Op.buildSlice 47 1 #[(0, Operand.tmp 32)], 47, "", #[], none⟩).run Tryz.prog z = .ok (.value (.slice (some ⟨x, 0, none⟩) 1 1)) (z.alloc (.cells #[.int .i64 n, .int .i64 i, .slice pu l cu] 97)) := by
  subst hx
  go_simp
theorem hd_ap (v x v2 : Value) (ev : Operand → Value) (z z2 : World) (e22 : ev (.tmp 22) = v) (e33 : ev (.tmp 33) = x) (hr : (Builtin.append_ #[47, 47] 47 #[v, x]).run Tryz.prog z = .ok v2 z2) : (execOp ev ⟨some 34, Op.call { callee := Callee.builtin Builtin.append, args := #[Operand.tmp 22, Operand.tmp 33], argTypes := #[47, 47] }, 47, "", #[], none⟩).run Tryz.prog z = .ok (.value v2) z2 := by
  unfold execOp
  simp only [resolve, invoke, builtin, Sem.run_bind, Sem.run_pure, Result.andThen_ok, List.map_toArray, List.map_cons, List.map_nil, e22, e33, hr]
theorem hd8_0 (q : Nat) (v : Value) (n i : Int) (p : Option Addr) (l cp : Nat) (pu : Option Addr) (cu : Nat) (v2 : Value) (xh : Nat) (ev : Operand → Value) (z : World) (ec : ∀ c, ev (.const c) = c) (e3 : ev (.tmp 3) = v) (hS : z.cell? ⟨q, 1, none⟩ = some (.int .i64 n) ∧ z.cell? ⟨q, 2, none⟩ = some (.int .i64 i) ∧ z.cell? ⟨q, 4, none⟩ = some (.slice p l cp)) : (execOp ev ⟨some 22, Op.move (Operand.tmp 3), 47, "", #[], none⟩).run Tryz.prog z = .ok (.value (v)) z := by
  obtain ⟨s1, s2, s4⟩ := hS
  go_simp
theorem hd8_1 (q : Nat) (v : Value) (n i : Int) (p : Option Addr) (l cp : Nat) (pu : Option Addr) (cu : Nat) (v2 : Value) (xh : Nat) (ev : Operand → Value) (z : World) (ec : ∀ c, ev (.const c) = c) (e5 : ev (.tmp 5) = .pointer (some ⟨q, 0, none⟩)) (hS : z.cell? ⟨q, 1, none⟩ = some (.int .i64 n) ∧ z.cell? ⟨q, 2, none⟩ = some (.int .i64 i) ∧ z.cell? ⟨q, 4, none⟩ = some (.slice p l cp)) : (execOp ev ⟨some 23, Op.fieldAddr 85 (Operand.tmp 5) 0, 0, "", #[], none⟩).run Tryz.prog z = .ok (.value (.pointer (some ⟨q, 0, none⟩))) z := by
  obtain ⟨s1, s2, s4⟩ := hS
  go_simp
theorem hd8_2 (q : Nat) (v : Value) (n i : Int) (p : Option Addr) (l cp : Nat) (pu : Option Addr) (cu : Nat) (v2 : Value) (xh : Nat) (ev : Operand → Value) (z : World) (ec : ∀ c, ev (.const c) = c) (e23 : ev (.tmp 23) = .pointer (some ⟨q, 0, none⟩)) (hS : z.cell? ⟨q, 1, none⟩ = some (.int .i64 n) ∧ z.cell? ⟨q, 2, none⟩ = some (.int .i64 i) ∧ z.cell? ⟨q, 4, none⟩ = some (.slice p l cp)) : (execOp ev ⟨some 24, Op.fieldAddr 83 (Operand.tmp 23) 1, 0, "", #[], none⟩).run Tryz.prog z = .ok (.value (.pointer (some ⟨q, 1, none⟩))) z := by
  obtain ⟨s1, s2, s4⟩ := hS
  go_simp
theorem hd8_3 (q : Nat) (v : Value) (n i : Int) (p : Option Addr) (l cp : Nat) (pu : Option Addr) (cu : Nat) (v2 : Value) (xh : Nat) (ev : Operand → Value) (z : World) (ec : ∀ c, ev (.const c) = c) (e24 : ev (.tmp 24) = .pointer (some ⟨q, 1, none⟩)) (hS : z.cell? ⟨q, 1, none⟩ = some (.int .i64 n) ∧ z.cell? ⟨q, 2, none⟩ = some (.int .i64 i) ∧ z.cell? ⟨q, 4, none⟩ = some (.slice p l cp)) : (execOp ev ⟨some 25, Op.load 3 (Operand.tmp 24), 3, "", #[], none⟩).run Tryz.prog z = .ok (.value (.int .i64 n)) z := by
  obtain ⟨s1, s2, s4⟩ := hS
  go_simp
theorem hd8_4 (q : Nat) (v : Value) (n i : Int) (p : Option Addr) (l cp : Nat) (pu : Option Addr) (cu : Nat) (v2 : Value) (xh : Nat) (ev : Operand → Value) (z : World) (ec : ∀ c, ev (.const c) = c) (e5 : ev (.tmp 5) = .pointer (some ⟨q, 0, none⟩)) (hS : z.cell? ⟨q, 1, none⟩ = some (.int .i64 n) ∧ z.cell? ⟨q, 2, none⟩ = some (.int .i64 i) ∧ z.cell? ⟨q, 4, none⟩ = some (.slice p l cp)) : (execOp ev ⟨some 26, Op.fieldAddr 85 (Operand.tmp 5) 0, 0, "", #[], none⟩).run Tryz.prog z = .ok (.value (.pointer (some ⟨q, 0, none⟩))) z := by
  obtain ⟨s1, s2, s4⟩ := hS
  go_simp
theorem hd8_5 (q : Nat) (v : Value) (n i : Int) (p : Option Addr) (l cp : Nat) (pu : Option Addr) (cu : Nat) (v2 : Value) (xh : Nat) (ev : Operand → Value) (z : World) (ec : ∀ c, ev (.const c) = c) (e26 : ev (.tmp 26) = .pointer (some ⟨q, 0, none⟩)) (hS : z.cell? ⟨q, 1, none⟩ = some (.int .i64 n) ∧ z.cell? ⟨q, 2, none⟩ = some (.int .i64 i) ∧ z.cell? ⟨q, 4, none⟩ = some (.slice p l cp)) : (execOp ev ⟨some 27, Op.fieldAddr 83 (Operand.tmp 26) 2, 0, "", #[], none⟩).run Tryz.prog z = .ok (.value (.pointer (some ⟨q, 2, none⟩))) z := by
  obtain ⟨s1, s2, s4⟩ := hS
  go_simp
theorem hd8_6 (q : Nat) (v : Value) (n i : Int) (p : Option Addr) (l cp : Nat) (pu : Option Addr) (cu : Nat) (v2 : Value) (xh : Nat) (ev : Operand → Value) (z : World) (ec : ∀ c, ev (.const c) = c) (e27 : ev (.tmp 27) = .pointer (some ⟨q, 2, none⟩)) (hS : z.cell? ⟨q, 1, none⟩ = some (.int .i64 n) ∧ z.cell? ⟨q, 2, none⟩ = some (.int .i64 i) ∧ z.cell? ⟨q, 4, none⟩ = some (.slice p l cp)) : (execOp ev ⟨some 28, Op.load 3 (Operand.tmp 27), 3, "", #[], none⟩).run Tryz.prog z = .ok (.value (.int .i64 i)) z := by
  obtain ⟨s1, s2, s4⟩ := hS
  go_simp
theorem hd8_7 (q : Nat) (v : Value) (n i : Int) (p : Option Addr) (l cp : Nat) (pu : Option Addr) (cu : Nat) (v2 : Value) (xh : Nat) (ev : Operand → Value) (z : World) (ec : ∀ c, ev (.const c) = c) (e5 : ev (.tmp 5) = .pointer (some ⟨q, 0, none⟩)) (hS : z.cell? ⟨q, 1, none⟩ = some (.int .i64 n) ∧ z.cell? ⟨q, 2, none⟩ = some (.int .i64 i) ∧ z.cell? ⟨q, 4, none⟩ = some (.slice p l cp)) : (execOp ev ⟨some 29, Op.fieldAddr 85 (Operand.tmp 5) 2, 0, "", #[], none⟩).run Tryz.prog z = .ok (.value (.pointer (some ⟨q, 4, none⟩))) z := by
  obtain ⟨s1, s2, s4⟩ := hS
  go_simp
theorem hd8_8 (q : Nat) (v : Value) (n i : Int) (p : Option Addr) (l cp : Nat) (pu : Option Addr) (cu : Nat) (v2 : Value) (xh : Nat) (ev : Operand → Value) (z : World) (ec : ∀ c, ev (.const c) = c) (e29 : ev (.tmp 29) = .pointer (some ⟨q, 4, none⟩)) (hS : z.cell? ⟨q, 1, none⟩ = some (.int .i64 n) ∧ z.cell? ⟨q, 2, none⟩ = some (.int .i64 i) ∧ z.cell? ⟨q, 4, none⟩ = some (.slice p l cp)) : (execOp ev ⟨some 30, Op.load 34 (Operand.tmp 29), 34, "", #[], none⟩).run Tryz.prog z = .ok (.value (.slice p l cp)) z := by
  obtain ⟨s1, s2, s4⟩ := hS
  go_simp
set_option maxRecDepth 100000 in
theorem hd8_9 (q : Nat) (v : Value) (n i : Int) (p : Option Addr) (l cp : Nat) (pu : Option Addr) (cu : Nat) (v2 : Value) (xh : Nat) (ev : Operand → Value) (z : World) (ec : ∀ c, ev (.const c) = c) (ef : ev (.func 13) = .func (.func 13) #[] #[]) (e30 : ev (.tmp 30) = .slice p l cp) : (execOp ev ⟨some 31, Op.call { callee := Callee.value (Operand.func 13), args := #[Operand.tmp 30], argTypes := #[34] }, 34, "", #[], none⟩).run Tryz.prog z = .ok (.enter 13 #[.slice p l cp]) z :=
  enter_run _ ef (by simp only [List.map_toArray, List.map_cons, List.map_nil, ec, e30]) (fun _ => by rfl)
theorem hd8_10 (q : Nat) (v : Value) (n i : Int) (p : Option Addr) (l cp : Nat) (pu : Option Addr) (cu : Nat) (v2 : Value) (xh : Nat) (ev : Operand → Value) (z : World) (ec : ∀ c, ev (.const c) = c) (e25 : ev (.tmp 25) = .int .i64 n) (e28 : ev (.tmp 28) = .int .i64 i) (e31 : ev (.tmp 31) = .slice pu l cu) (hS : z.cell? ⟨q, 1, none⟩ = some (.int .i64 n) ∧ z.cell? ⟨q, 2, none⟩ = some (.int .i64 i) ∧ z.cell? ⟨q, 4, none⟩ = some (.slice p l cp)) : (execOp ev ⟨some 32, Op.build 97 #[(0, Operand.tmp 25), (1, Operand.tmp 28), (2, Operand.tmp 31)], 97, "", #[], none⟩).run Tryz.prog z = .ok (.value (.agg #[.int .i64 n, .int .i64 i, .slice pu l cu])) z := by
  obtain ⟨s1, s2, s4⟩ := hS
  go_simp
theorem hd8_13 (q : Nat) (v : Value) (n i : Int) (p : Option Addr) (l cp : Nat) (pu : Option Addr) (cu : Nat) (v2 : Value) (xh : Nat) (ev : Operand → Value) (z : World) (ec : ∀ c, ev (.const c) = c) (e34 : ev (.tmp 34) = v2) (hS : z.cell? ⟨q, 1, none⟩ = some (.int .i64 n) ∧ z.cell? ⟨q, 2, none⟩ = some (.int .i64 i) ∧ z.cell? ⟨q, 4, none⟩ = some (.slice p l cp)) : (execOp ev ⟨some 3, Op.assign (Operand.tmp 34), 47, "", #[], none⟩).run Tryz.prog z = .ok (.value (v2)) z := by
  obtain ⟨s1, s2, s4⟩ := hS
  go_simp
structure hd8R (ops : Array Oper) : Prop where
  size : ops.size = 14
  sel : Region.noSelect ops = true
  o0 : (ops[0]?).map bare = some ⟨some 22, Op.move (Operand.tmp 3), 47, "", #[], none⟩
  o1 : (ops[1]?).map bare = some ⟨some 23, Op.fieldAddr 85 (Operand.tmp 5) 0, 0, "", #[], none⟩
  o2 : (ops[2]?).map bare = some ⟨some 24, Op.fieldAddr 83 (Operand.tmp 23) 1, 0, "", #[], none⟩
  o3 : (ops[3]?).map bare = some ⟨some 25, Op.load 3 (Operand.tmp 24), 3, "", #[], none⟩
  o4 : (ops[4]?).map bare = some ⟨some 26, Op.fieldAddr 85 (Operand.tmp 5) 0, 0, "", #[], none⟩
  o5 : (ops[5]?).map bare = some ⟨some 27, Op.fieldAddr 83 (Operand.tmp 26) 2, 0, "", #[], none⟩
  o6 : (ops[6]?).map bare = some ⟨some 28, Op.load 3 (Operand.tmp 27), 3, "", #[], none⟩
  o7 : (ops[7]?).map bare = some ⟨some 29, Op.fieldAddr 85 (Operand.tmp 5) 2, 0, "", #[], none⟩
  o8 : (ops[8]?).map bare = some ⟨some 30, Op.load 34 (Operand.tmp 29), 34, "", #[], none⟩
  o9 : (ops[9]?).map bare = some ⟨some 31, Op.call { callee := Callee.value (Operand.func 13), args := #[Operand.tmp 30], argTypes := #[34] }, 34, "", #[], none⟩
  o10 : (ops[10]?).map bare = some ⟨some 32, Op.build 97 #[(0, Operand.tmp 25), (1, Operand.tmp 28), (2, Operand.tmp 31)], 97, "", #[], none⟩
  o11 : (ops[11]?).map bare = some ⟨some 33, Op.buildSlice 47 1 #[(0, Operand.tmp 32)], 47, "", #[], none⟩
  o12 : (ops[12]?).map bare = some ⟨some 34, Op.call { callee := Callee.builtin Builtin.append, args := #[Operand.tmp 22, Operand.tmp 33], argTypes := #[47, 47] }, 47, "", #[], none⟩
  o13 : (ops[13]?).map bare = some ⟨some 3, Op.assign (Operand.tmp 34), 47, "", #[], none⟩
  may0 : takeB .any ops [0, 1, 2, 3, 4, 5, 6, 7, 8] (Array.replicate 14 false) = true
  r9 : Region.ready .any ops (mark [0, 1, 2, 3, 4, 5, 6, 7, 8] (Array.replicate 14 false)) = [9]
  may1 : takeB .any ops [10] ((mark [0, 1, 2, 3, 4, 5, 6, 7, 8] (Array.replicate 14 false)).setIfInBounds 9 true) = true
  r11 : Region.ready .any ops (mark [10] ((mark [0, 1, 2, 3, 4, 5, 6, 7, 8] (Array.replicate 14 false)).setIfInBounds 9 true)) = [11]
  r12 : Region.ready .any ops ((mark [10] ((mark [0, 1, 2, 3, 4, 5, 6, 7, 8] (Array.replicate 14 false)).setIfInBounds 9 true)).setIfInBounds 11 true) = [12]
  may2 : takeB .any ops [13] (((mark [10] ((mark [0, 1, 2, 3, 4, 5, 6, 7, 8] (Array.replicate 14 false)).setIfInBounds 9 true)).setIfInBounds 11 true).setIfInBounds 12 true) = true
  fin : Region.ready .any ops (mark [13] (((mark [10] ((mark [0, 1, 2, 3, 4, 5, 6, 7, 8] (Array.replicate 14 false)).setIfInBounds 9 true)).setIfInBounds 11 true).setIfInBounds 12 true)) = []

set_option maxRecDepth 100000 in
set_option maxHeartbeats 3200000 in
theorem hd8_region {ops : Array Oper} {id : Nat} {Q : Exit → Act → World → Prop} {a : Act} {y : World} (R : hd8R ops) (q : Nat) (v : Value) (n i : Int) (p : Option Addr) (l cp : Nat) (pu : Option Addr) (cu : Nat) (v2 : Value) (xh : Nat)
    (hQ : ∀ d v c a w, Q (.panic c) (a.put d v) w → Q (.panic c) a w) (hsz : a.tmps.size = 37) (e3 : a.eval (.tmp 3) = v) (e5 : a.eval (.tmp 5) = .pointer (some ⟨q, 0, none⟩)) (hS0 : y.drew.cell? ⟨q, 1, none⟩ = some (.int .i64 n) ∧ y.drew.cell? ⟨q, 2, none⟩ = some (.int .i64 i) ∧ y.drew.cell? ⟨q, 4, none⟩ = some (.slice p l cp)) (T : Value → World → Prop) (hc : Calls Tryz.prog 13 #[.slice p l cp] y.drew fun e w9 => ∃ pu cu xh v2 w2, e = .returned (.slice pu l cu) ∧ (w9.cell? ⟨q, 1, none⟩ = some (.int .i64 n) ∧ w9.cell? ⟨q, 2, none⟩ = some (.int .i64 i) ∧ w9.cell? ⟨q, 4, none⟩ = some (.slice p l cp)) ∧ xh = w9.heap.size ∧ ((w9.alloc (.cells #[.int .i64 n, .int .i64 i, .slice pu l cu] 97)).cell? ⟨q, 1, none⟩ = some (.int .i64 n) ∧ (w9.alloc (.cells #[.int .i64 n, .int .i64 i, .slice pu l cu] 97)).cell? ⟨q, 2, none⟩ = some (.int .i64 i) ∧ (w9.alloc (.cells #[.int .i64 n, .int .i64 i, .slice pu l cu] 97)).cell? ⟨q, 4, none⟩ = some (.slice p l cp)) ∧ (Builtin.append_ #[47, 47] 47 #[v, .slice (some ⟨xh, 0, none⟩) 1 1]).run Tryz.prog (w9.alloc (.cells #[.int .i64 n, .int .i64 i, .slice pu l cu] 97)) = .ok v2 w2 ∧ (w2.cell? ⟨q, 1, none⟩ = some (.int .i64 n) ∧ w2.cell? ⟨q, 2, none⟩ = some (.int .i64 i) ∧ w2.cell? ⟨q, 4, none⟩ = some (.slice p l cp)) ∧ T v2 w2)
    (hK : ∀ (pu : Option Addr) (cu xh : Nat) (v2 : Value) (w2 : World), T v2 w2 → Q .normal ((((((((((((((a.put (some 22) (v)).put (some 23) (.pointer (some ⟨q, 0, none⟩))).put (some 24) (.pointer (some ⟨q, 1, none⟩))).put (some 25) (.int .i64 n)).put (some 26) (.pointer (some ⟨q, 0, none⟩))).put (some 27) (.pointer (some ⟨q, 2, none⟩))).put (some 28) (.int .i64 i)).put (some 29) (.pointer (some ⟨q, 4, none⟩))).put (some 30) (.slice p l cp)).put (some 31) (.slice pu l cu)).put (some 32) (.agg #[.int .i64 n, .int .i64 i, .slice pu l cu])).put (some 33) (.slice (some ⟨xh, 0, none⟩) 1 1)).put (some 34) (v2)).put (some 3) (v2)) w2) : (Code.region id ops true).wp Tryz.prog Q a y := by
  have HR : Hid (hd8R ops) := R
  have hdf : a.defers = a.defers := rfl
  refine wp_region_held_drew (S := (fun z : World => z.cell? ⟨q, 1, none⟩ = some (.int .i64 n) ∧ z.cell? ⟨q, 2, none⟩ = some (.int .i64 i) ∧ z.cell? ⟨q, 4, none⟩ = some (.slice p l cp))) (by kernel_rfl) (hS0) (fun hHeld => ?_)
  rw [R.size]
  clear R
  refine wpAnyH_takes HR.out.sel hQ hHeld [0, 1, 2, 3, 4, 5, 6, 7, 8] 5 _ _ HR.out.may0 ?_
  refine wpTake_stepE ⟨some 22, Op.move (Operand.tmp 3), 47, "", #[], none⟩ 22 (v) HR.out.o0 rfl (by rw [hsz]; decide) (wanted_none rfl) (fun z hS => hd8_0 q v n i p l cp pu cu v2 xh _ z (fun _ => rfl) e3 hS) ?_
  intro a1 ha1 s1 f1 n1 k1
  replace hsz := s1.trans hsz
  replace hdf := f1.trans hdf
  replace e5 := (k1 5 (by decide)).trans e5
  have e22 := n1
  clear s1 f1 n1 k1
  refine wpTake_stepE ⟨some 23, Op.fieldAddr 85 (Operand.tmp 5) 0, 0, "", #[], none⟩ 23 (.pointer (some ⟨q, 0, none⟩)) HR.out.o1 rfl (by rw [hsz]; decide) (wanted_none rfl) (fun z hS => hd8_1 q v n i p l cp pu cu v2 xh _ z (fun _ => rfl) e5 hS) ?_
  intro a2 ha2 s1 f1 n1 k1
  replace hsz := s1.trans hsz
  replace hdf := f1.trans hdf
  replace e5 := (k1 5 (by decide)).trans e5
  replace e22 := (k1 22 (by decide)).trans e22
  have e23 := n1
  clear s1 f1 n1 k1
  refine wpTake_stepE ⟨some 24, Op.fieldAddr 83 (Operand.tmp 23) 1, 0, "", #[], none⟩ 24 (.pointer (some ⟨q, 1, none⟩)) HR.out.o2 rfl (by rw [hsz]; decide) (wanted_none rfl) (fun z hS => hd8_2 q v n i p l cp pu cu v2 xh _ z (fun _ => rfl) e23 hS) ?_
  intro a3 ha3 s1 f1 n1 k1
  replace hsz := s1.trans hsz
  replace hdf := f1.trans hdf
  replace e5 := (k1 5 (by decide)).trans e5
  replace e22 := (k1 22 (by decide)).trans e22
  have e24 := n1
  clear s1 f1 n1 k1
  refine wpTake_stepE ⟨some 25, Op.load 3 (Operand.tmp 24), 3, "", #[], none⟩ 25 (.int .i64 n) HR.out.o3 rfl (by rw [hsz]; decide) (wanted_none rfl) (fun z hS => hd8_3 q v n i p l cp pu cu v2 xh _ z (fun _ => rfl) e24 hS) ?_
  intro a4 ha4 s1 f1 n1 k1
  replace hsz := s1.trans hsz
  replace hdf := f1.trans hdf
  replace e5 := (k1 5 (by decide)).trans e5
  replace e22 := (k1 22 (by decide)).trans e22
  have e25 := n1
  clear s1 f1 n1 k1
  refine wpTake_stepE ⟨some 26, Op.fieldAddr 85 (Operand.tmp 5) 0, 0, "", #[], none⟩ 26 (.pointer (some ⟨q, 0, none⟩)) HR.out.o4 rfl (by rw [hsz]; decide) (wanted_none rfl) (fun z hS => hd8_4 q v n i p l cp pu cu v2 xh _ z (fun _ => rfl) e5 hS) ?_
  intro a5 ha5 s1 f1 n1 k1
  replace hsz := s1.trans hsz
  replace hdf := f1.trans hdf
  replace e5 := (k1 5 (by decide)).trans e5
  replace e22 := (k1 22 (by decide)).trans e22
  replace e25 := (k1 25 (by decide)).trans e25
  have e26 := n1
  clear s1 f1 n1 k1
  refine wpTake_stepE ⟨some 27, Op.fieldAddr 83 (Operand.tmp 26) 2, 0, "", #[], none⟩ 27 (.pointer (some ⟨q, 2, none⟩)) HR.out.o5 rfl (by rw [hsz]; decide) (wanted_none rfl) (fun z hS => hd8_5 q v n i p l cp pu cu v2 xh _ z (fun _ => rfl) e26 hS) ?_
  intro a6 ha6 s1 f1 n1 k1
  replace hsz := s1.trans hsz
  replace hdf := f1.trans hdf
  replace e5 := (k1 5 (by decide)).trans e5
  replace e22 := (k1 22 (by decide)).trans e22
  replace e25 := (k1 25 (by decide)).trans e25
  have e27 := n1
  clear s1 f1 n1 k1
  refine wpTake_stepE ⟨some 28, Op.load 3 (Operand.tmp 27), 3, "", #[], none⟩ 28 (.int .i64 i) HR.out.o6 rfl (by rw [hsz]; decide) (wanted_none rfl) (fun z hS => hd8_6 q v n i p l cp pu cu v2 xh _ z (fun _ => rfl) e27 hS) ?_
  intro a7 ha7 s1 f1 n1 k1
  replace hsz := s1.trans hsz
  replace hdf := f1.trans hdf
  replace e5 := (k1 5 (by decide)).trans e5
  replace e22 := (k1 22 (by decide)).trans e22
  replace e25 := (k1 25 (by decide)).trans e25
  have e28 := n1
  clear s1 f1 n1 k1
  refine wpTake_stepE ⟨some 29, Op.fieldAddr 85 (Operand.tmp 5) 2, 0, "", #[], none⟩ 29 (.pointer (some ⟨q, 4, none⟩)) HR.out.o7 rfl (by rw [hsz]; decide) (wanted_none rfl) (fun z hS => hd8_7 q v n i p l cp pu cu v2 xh _ z (fun _ => rfl) e5 hS) ?_
  intro a8 ha8 s1 f1 n1 k1
  replace hsz := s1.trans hsz
  replace hdf := f1.trans hdf
  replace e22 := (k1 22 (by decide)).trans e22
  replace e25 := (k1 25 (by decide)).trans e25
  replace e28 := (k1 28 (by decide)).trans e28
  have e29 := n1
  clear s1 f1 n1 k1
  refine wpTake_stepE ⟨some 30, Op.load 34 (Operand.tmp 29), 34, "", #[], none⟩ 30 (.slice p l cp) HR.out.o8 rfl (by rw [hsz]; decide) (wanted_none rfl) (fun z hS => hd8_8 q v n i p l cp pu cu v2 xh _ z (fun _ => rfl) e29 hS) ?_
  intro a9 ha9 s1 f1 n1 k1
  replace hsz := s1.trans hsz
  replace hdf := f1.trans hdf
  replace e22 := (k1 22 (by decide)).trans e22
  replace e25 := (k1 25 (by decide)).trans e25
  replace e28 := (k1 28 (by decide)).trans e28
  have e30 := n1
  clear s1 f1 n1 k1
  refine wpTake_nil ?_
  refine wpAnyH_one ⟨some 31, Op.call { callee := Callee.value (Operand.func 13), args := #[Operand.tmp 30], argTypes := #[34] }, 34, "", #[], none⟩ HR.out.r9 HR.out.o9 rfl (fun K' hK' => ?_)
  refine wp_enter (hd8_9 q v n i p l cp pu cu v2 xh _ _ (fun _ => rfl) rfl e30) (hc) ?_
  rintro e9 w9 ⟨pu, cu, xh, v2, w2, rfl, hS9, hx, hS1, hap, hS2, hT⟩
  refine ⟨_, rfl, hK'.out _ _ (hS9) ?_⟩
  replace hHeld := hS9
  clear hK' K'
  show wpAnyH _ _ _ _ _ _ _ (Act.put a9 (some 31) (.slice pu l cu)) _
  obtain ⟨s1, f1, n1, k1⟩ := act_put a9 31 (.slice pu l cu) (show 31 < _ by rw [hsz]; decide)
  obtain ⟨a10, ha10⟩ : ∃ x, x = Act.put a9 (some 31) (.slice pu l cu) := ⟨_, rfl⟩
  rw [← ha10] at s1 f1 n1 k1 ⊢
  replace hsz := s1.trans hsz
  replace hdf := f1.trans hdf
  replace e22 := (k1 22 (by decide)).trans e22
  replace e25 := (k1 25 (by decide)).trans e25
  replace e28 := (k1 28 (by decide)).trans e28
  have e31 := n1
  clear s1 f1 n1 k1
  refine wpAnyH_takes HR.out.sel hQ hHeld [10] 3 _ _ HR.out.may1 ?_
  refine wpTake_stepE ⟨some 32, Op.build 97 #[(0, Operand.tmp 25), (1, Operand.tmp 28), (2, Operand.tmp 31)], 97, "", #[], none⟩ 32 (.agg #[.int .i64 n, .int .i64 i, .slice pu l cu]) HR.out.o10 rfl (by rw [hsz]; decide) (wanted_none rfl) (fun z hS => hd8_10 q v n i p l cp pu cu v2 xh _ z (fun _ => rfl) e25 e28 e31 hS) ?_
  intro a11 ha11 s1 f1 n1 k1
  replace hsz := s1.trans hsz
  replace hdf := f1.trans hdf
  replace e22 := (k1 22 (by decide)).trans e22
  have e32 := n1
  clear s1 f1 n1 k1
  refine wpTake_nil ?_
  refine wpAnyH_run ⟨some 33, Op.buildSlice 47 1 #[(0, Operand.tmp 32)], 47, "", #[], none⟩ _ (.slice (some ⟨xh, 0, none⟩) 1 1) (w9.alloc (.cells #[.int .i64 n, .int .i64 i, .slice pu l cu] 97)) HR.out.r11 HR.out.o11 rfl rfl (hd_bs n i pu l cu xh _ _ hx e32) (hS1) ?_
  replace hHeld := hS1
  obtain ⟨s1, f1, n1, k1⟩ := act_put a11 33 (.slice (some ⟨xh, 0, none⟩) 1 1) (show 33 < _ by rw [hsz]; decide)
  obtain ⟨a12, ha12⟩ : ∃ x, x = Act.put a11 (some 33) (.slice (some ⟨xh, 0, none⟩) 1 1) := ⟨_, rfl⟩
  rw [← ha12] at s1 f1 n1 k1 ⊢
  replace hsz := s1.trans hsz
  replace hdf := f1.trans hdf
  replace e22 := (k1 22 (by decide)).trans e22
  have e33 := n1
  clear s1 f1 n1 k1
  refine wpAnyH_run ⟨some 34, Op.call { callee := Callee.builtin Builtin.append, args := #[Operand.tmp 22, Operand.tmp 33], argTypes := #[47, 47] }, 47, "", #[], none⟩ _ (v2) w2 HR.out.r12 HR.out.o12 rfl rfl (hd_ap _ _ _ _ _ _ e22 e33 hap) (hS2) ?_
  replace hHeld := hS2
  obtain ⟨s1, f1, n1, k1⟩ := act_put a12 34 (v2) (show 34 < _ by rw [hsz]; decide)
  obtain ⟨a13, ha13⟩ : ∃ x, x = Act.put a12 (some 34) (v2) := ⟨_, rfl⟩
  rw [← ha13] at s1 f1 n1 k1 ⊢
  replace hsz := s1.trans hsz
  replace hdf := f1.trans hdf
  have e34 := n1
  clear s1 f1 n1 k1
  refine wpAnyH_takes HR.out.sel hQ hHeld [13] 0 _ _ HR.out.may2 ?_
  refine wpTake_stepE ⟨some 3, Op.assign (Operand.tmp 34), 47, "", #[], none⟩ 3 (v2) HR.out.o13 rfl (by rw [hsz]; decide) (wanted_none rfl) (fun z hS => hd8_13 q v n i p l cp pu cu v2 xh _ z (fun _ => rfl) e34 hS) ?_
  intro a14 ha14 s1 f1 n1 k1
  replace hsz := s1.trans hsz
  replace hdf := f1.trans hdf
  clear s1 f1 n1 k1
  refine wpTake_nil ?_
  refine wpAnyH_done HR.out.fin ?_ _
  rw [ha14, ha13, ha12, ha11, ha10, ha9, ha8, ha7, ha6, ha5, ha4, ha3, ha2, ha1]
  exact hK _ _ _ _ _ hT
-- R: ⟨by kernel_rfl, by kernel_rfl, by kernel_rfl, by kernel_rfl, by kernel_rfl, by kernel_rfl, by kernel_rfl, by kernel_rfl, by kernel_rfl, by kernel_rfl, by kernel_rfl, by kernel_rfl, by kernel_rfl, by kernel_rfl, by kernel_rfl, by kernel_rfl, by kernel_rfl, by kernel_rfl, by kernel_rfl, by kernel_rfl, by kernel_rfl, by kernel_rfl, by kernel_rfl⟩

end Go.Proofs.YtmooddbhcccicaaGreatDoor
