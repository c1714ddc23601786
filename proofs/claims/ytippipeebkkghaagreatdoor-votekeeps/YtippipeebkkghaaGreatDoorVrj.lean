/- The reference's wal.Open: the region that reads a head (laid by scripts/mkvrj.py). -/
import Derived.Test.YtippipeebkkghaaGreatDoorVrb
namespace Go.Proofs.YtippipeebkkghaaGreatDoor
set_option linter.unusedVariables false
set_option linter.unusedSimpArgs false
open Go.RowKit Go.Deep Go.Maps

section
variable {P : Program} {md : Region.Mode} {ops : Array Oper} {Q : Exit → Act → World → Prop} {S : World → Prop}
/-- either of two operations may come up -/
theorem wpAnyH_two9 {i j fuel : Nat} {listed : Array Bool} {a : Act} {w : World} (o1 o2 : Oper) (hr : Region.ready md ops listed = [i, j]) (ho1 : (ops[i]?).map bare = some o1) (hg1 : o1.guard = none) (ho2 : (ops[j]?).map bare = some o2) (hg2 : o2.guard = none)
    (h1 : ∀ K' : Act → World → Prop, Shut (∀ a' w', S w' → wpAnyH P md ops Q S fuel (listed.setIfInBounds i true) a' w' → K' a' w') → Oper.wp P o1 a w K' Q)
    (h2 : ∀ K' : Act → World → Prop, Shut (∀ a' w', S w' → wpAnyH P md ops Q S fuel (listed.setIfInBounds j true) a' w' → K' a' w') → Oper.wp P o2 a w K' Q) : wpAnyH P md ops Q S (fuel + 1) listed a w := by
  obtain ⟨o1', ho1', rfl⟩ := Option.map_eq_some_iff.1 ho1
  obtain ⟨o2', ho2', rfl⟩ := Option.map_eq_some_iff.1 ho2
  refine wpAnyH_ready hr (by simp) (AllReadyH.cons ho1' (fun K' hK => ?_) (AllReadyH.cons ho2' (fun K' hK => ?_) AllReadyH.nil))
  · have hgo : o1'.guard = none := hg1
    rw [if_pos (by unfold Region.wanted; rw [hgo])]
    have := h1 K' (fun a' w' hS hW => hK.out a' w' hS (fun _ => hW))
    rwa [wp_bare] at this
  · have hgo : o2'.guard = none := hg2
    rw [if_pos (by unfold Region.wanted; rw [hgo])]
    have := h2 K' (fun a' w' hS hW => hK.out a' w' hS (fun _ => hW))
    rwa [wp_bare] at this
end

theorem xo11_0 (y0 : World) (x wx tw N cW bb oo cc j : Nat) (s9 : Int) (hjn : (j : Int) < (N : Int)) (ev : Operand → Value) (z : World) (ec : ∀ c, ev (.const c) = c) (e0 : ev (.tmp 0) = .pointer (some ⟨x, 0, none⟩)) (hS : Kp (fun _ => False) y0 z ∧ z.cell? ⟨x, 1, none⟩ = some (.slice (some ⟨tw, 0, none⟩) N cW) ∧ z.cell? ⟨tw, j, none⟩ = some (.slice (some ⟨bb, oo, none⟩) 64 cc)) : (execOp ev ⟨some 33, Op.move (Operand.tmp 0), 42, "", #[], none⟩).run Tryz.prog z = .ok (.value (.pointer (some ⟨x, 0, none⟩))) z := by
  obtain ⟨s0, s1, s2⟩ := hS
  clear s0
  go_simp
theorem xo11_1 (y0 : World) (x wx tw N cW bb oo cc j : Nat) (s9 : Int) (hjn : (j : Int) < (N : Int)) (ev : Operand → Value) (z : World) (ec : ∀ c, ev (.const c) = c) (e33 : ev (.tmp 33) = .pointer (some ⟨x, 0, none⟩)) (hS : Kp (fun _ => False) y0 z ∧ z.cell? ⟨x, 1, none⟩ = some (.slice (some ⟨tw, 0, none⟩) N cW) ∧ z.cell? ⟨tw, j, none⟩ = some (.slice (some ⟨bb, oo, none⟩) 64 cc)) : (execOp ev ⟨some 34, Op.nilCheck (Operand.tmp 33), 0, "", #[], none⟩).run Tryz.prog z = .ok (.value (.pointer (some ⟨x, 0, none⟩))) z := by
  obtain ⟨s0, s1, s2⟩ := hS
  clear s0
  go_simp
theorem xo11_2 (y0 : World) (x wx tw N cW bb oo cc j : Nat) (s9 : Int) (hjn : (j : Int) < (N : Int)) (ev : Operand → Value) (z : World) (ec : ∀ c, ev (.const c) = c) (e34 : ev (.tmp 34) = .pointer (some ⟨x, 0, none⟩)) (hS : Kp (fun _ => False) y0 z ∧ z.cell? ⟨x, 1, none⟩ = some (.slice (some ⟨tw, 0, none⟩) N cW) ∧ z.cell? ⟨tw, j, none⟩ = some (.slice (some ⟨bb, oo, none⟩) 64 cc)) : (execOp ev ⟨some 35, Op.fieldAddr 156 (Operand.tmp 34) 1, 0, "", #[], none⟩).run Tryz.prog z = .ok (.value (.pointer (some ⟨x, 1, none⟩))) z := by
  obtain ⟨s0, s1, s2⟩ := hS
  clear s0
  go_simp
theorem xo11_3 (y0 : World) (x wx tw N cW bb oo cc j : Nat) (s9 : Int) (hjn : (j : Int) < (N : Int)) (ev : Operand → Value) (z : World) (ec : ∀ c, ev (.const c) = c) (e35 : ev (.tmp 35) = .pointer (some ⟨x, 1, none⟩)) (hS : Kp (fun _ => False) y0 z ∧ z.cell? ⟨x, 1, none⟩ = some (.slice (some ⟨tw, 0, none⟩) N cW) ∧ z.cell? ⟨tw, j, none⟩ = some (.slice (some ⟨bb, oo, none⟩) 64 cc)) : (execOp ev ⟨some 36, Op.load 90 (Operand.tmp 35), 90, "", #[], none⟩).run Tryz.prog z = .ok (.value (.slice (some ⟨tw, 0, none⟩) N cW)) z := by
  obtain ⟨s0, s1, s2⟩ := hS
  clear s0
  go_simp
theorem xo11_4 (y0 : World) (x wx tw N cW bb oo cc j : Nat) (s9 : Int) (hjn : (j : Int) < (N : Int)) (ev : Operand → Value) (z : World) (ec : ∀ c, ev (.const c) = c) (e6 : ev (.tmp 6) = .int .i64 (j : Int)) (hS : Kp (fun _ => False) y0 z ∧ z.cell? ⟨x, 1, none⟩ = some (.slice (some ⟨tw, 0, none⟩) N cW) ∧ z.cell? ⟨tw, j, none⟩ = some (.slice (some ⟨bb, oo, none⟩) 64 cc)) : (execOp ev ⟨some 37, Op.move (Operand.tmp 6), 3, "", #[], none⟩).run Tryz.prog z = .ok (.value (.int .i64 (j : Int))) z := by
  obtain ⟨s0, s1, s2⟩ := hS
  clear s0
  go_simp
theorem xo11_5 (y0 : World) (x wx tw N cW bb oo cc j : Nat) (s9 : Int) (hjn : (j : Int) < (N : Int)) (ev : Operand → Value) (z : World) (ec : ∀ c, ev (.const c) = c) (e36 : ev (.tmp 36) = .slice (some ⟨tw, 0, none⟩) N cW) (e37 : ev (.tmp 37) = .int .i64 (j : Int)) (hS : Kp (fun _ => False) y0 z ∧ z.cell? ⟨x, 1, none⟩ = some (.slice (some ⟨tw, 0, none⟩) N cW) ∧ z.cell? ⟨tw, j, none⟩ = some (.slice (some ⟨bb, oo, none⟩) 64 cc)) : (execOp ev ⟨some 38, Op.indexAddr 90 (Operand.tmp 36) (Operand.tmp 37), 0, "", #[], none⟩).run Tryz.prog z = .ok (.value (.pointer (some ⟨tw, j, none⟩))) z := by
  obtain ⟨s0, s1, s2⟩ := hS
  clear s0
  go_simp
theorem xo11_6 (y0 : World) (x wx tw N cW bb oo cc j : Nat) (s9 : Int) (hjn : (j : Int) < (N : Int)) (ev : Operand → Value) (z : World) (ec : ∀ c, ev (.const c) = c) (e38 : ev (.tmp 38) = .pointer (some ⟨tw, j, none⟩)) (hS : Kp (fun _ => False) y0 z ∧ z.cell? ⟨x, 1, none⟩ = some (.slice (some ⟨tw, 0, none⟩) N cW) ∧ z.cell? ⟨tw, j, none⟩ = some (.slice (some ⟨bb, oo, none⟩) 64 cc)) : (execOp ev ⟨some 39, Op.load 75 (Operand.tmp 38), 75, "", #[], none⟩).run Tryz.prog z = .ok (.value (.slice (some ⟨bb, oo, none⟩) 64 cc)) z := by
  obtain ⟨s0, s1, s2⟩ := hS
  clear s0
  go_simp
theorem xo11_7 (y0 : World) (x wx tw N cW bb oo cc j : Nat) (s9 : Int) (hjn : (j : Int) < (N : Int)) (ev : Operand → Value) (z : World) (ec : ∀ c, ev (.const c) = c) (e6 : ev (.tmp 6) = .int .i64 (j : Int)) (hS : Kp (fun _ => False) y0 z ∧ z.cell? ⟨x, 1, none⟩ = some (.slice (some ⟨tw, 0, none⟩) N cW) ∧ z.cell? ⟨tw, j, none⟩ = some (.slice (some ⟨bb, oo, none⟩) 64 cc)) : (execOp ev ⟨some 40, Op.move (Operand.tmp 6), 3, "", #[], none⟩).run Tryz.prog z = .ok (.value (.int .i64 (j : Int))) z := by
  obtain ⟨s0, s1, s2⟩ := hS
  clear s0
  go_simp
theorem xo11_8 (y0 : World) (x wx tw N cW bb oo cc j : Nat) (s9 : Int) (hjn : (j : Int) < (N : Int)) (ev : Operand → Value) (z : World) (ec : ∀ c, ev (.const c) = c) (e5 : ev (.tmp 5) = .pointer (some ⟨wx, 0, none⟩)) (hS : Kp (fun _ => False) y0 z ∧ z.cell? ⟨x, 1, none⟩ = some (.slice (some ⟨tw, 0, none⟩) N cW) ∧ z.cell? ⟨tw, j, none⟩ = some (.slice (some ⟨bb, oo, none⟩) 64 cc)) : (execOp ev ⟨some 41, Op.move (Operand.tmp 5), 157, "", #[], none⟩).run Tryz.prog z = .ok (.value (.pointer (some ⟨wx, 0, none⟩))) z := by
  obtain ⟨s0, s1, s2⟩ := hS
  clear s0
  go_simp
theorem xo11_11 (y0 : World) (x wx tw N cW bb oo cc j : Nat) (s9 : Int) (hjn : (j : Int) < (N : Int)) (ev : Operand → Value) (z : World) (ec : ∀ c, ev (.const c) = c) (e43 : ev (.tmp 43) = .tuple #[.agg #[.int .i64 0, .int .i64 0, .int .i64 0, .int .i64 0], .bool false]) (hS : Kp (fun _ => False) y0 z ∧ z.cell? ⟨x, 1, none⟩ = some (.slice (some ⟨tw, 0, none⟩) N cW) ∧ z.cell? ⟨tw, j, none⟩ = some (.slice (some ⟨bb, oo, none⟩) 64 cc)) : (execOp ev ⟨some 32, Op.move (Operand.tmp 43), 221, "", #[], none⟩).run Tryz.prog z = .ok (.value (.tuple #[.agg #[.int .i64 0, .int .i64 0, .int .i64 0, .int .i64 0], .bool false])) z := by
  obtain ⟨s0, s1, s2⟩ := hS
  clear s0
  go_simp
theorem xo11_12 (y0 : World) (x wx tw N cW bb oo cc j : Nat) (s9 : Int) (hjn : (j : Int) < (N : Int)) (ev : Operand → Value) (z : World) (ec : ∀ c, ev (.const c) = c) (e32 : ev (.tmp 32) = .tuple #[.agg #[.int .i64 0, .int .i64 0, .int .i64 0, .int .i64 0], .bool false]) (hS : Kp (fun _ => False) y0 z ∧ z.cell? ⟨x, 1, none⟩ = some (.slice (some ⟨tw, 0, none⟩) N cW) ∧ z.cell? ⟨tw, j, none⟩ = some (.slice (some ⟨bb, oo, none⟩) 64 cc)) : (execOp ev ⟨some 44, Op.extract (Operand.tmp 32) 0, 218, "", #[], none⟩).run Tryz.prog z = .ok (.value (.agg #[.int .i64 0, .int .i64 0, .int .i64 0, .int .i64 0])) z := by
  obtain ⟨s0, s1, s2⟩ := hS
  clear s0
  go_simp
theorem xo11_13 (y0 : World) (x wx tw N cW bb oo cc j : Nat) (s9 : Int) (hjn : (j : Int) < (N : Int)) (ev : Operand → Value) (z : World) (ec : ∀ c, ev (.const c) = c) (e32 : ev (.tmp 32) = .tuple #[.agg #[.int .i64 0, .int .i64 0, .int .i64 0, .int .i64 0], .bool false]) (hS : Kp (fun _ => False) y0 z ∧ z.cell? ⟨x, 1, none⟩ = some (.slice (some ⟨tw, 0, none⟩) N cW) ∧ z.cell? ⟨tw, j, none⟩ = some (.slice (some ⟨bb, oo, none⟩) 64 cc)) : (execOp ev ⟨some 45, Op.extract (Operand.tmp 32) 1, 4, "", #[], none⟩).run Tryz.prog z = .ok (.value (.bool false)) z := by
  obtain ⟨s0, s1, s2⟩ := hS
  clear s0
  go_simp
theorem xo11_16 (y0 : World) (x wx tw N cW bb oo cc j : Nat) (s9 : Int) (hjn : (j : Int) < (N : Int)) (ev : Operand → Value) (z : World) (ec : ∀ c, ev (.const c) = c) (e45 : ev (.tmp 45) = .bool false) (hS : Kp (fun _ => False) y0 z ∧ z.cell? ⟨x, 1, none⟩ = some (.slice (some ⟨tw, 0, none⟩) N cW) ∧ z.cell? ⟨tw, j, none⟩ = some (.slice (some ⟨bb, oo, none⟩) 64 cc)) : (execOp ev ⟨some 8, Op.assign (Operand.tmp 45), 4, "", #[], none⟩).run Tryz.prog z = .ok (.value (.bool false)) z := by
  obtain ⟨s0, s1, s2⟩ := hS
  clear s0
  go_simp
set_option maxRecDepth 100000 in
theorem xo11_9 (x wx tw N cW bb oo cc j : Nat) (s9 : Int) (hjn : (j : Int) < (N : Int)) (ev : Operand → Value) (z : World) (ec : ∀ c, ev (.const c) = c) (ef : ev (.func 113) = .func (.func 113) #[] #[]) (e41 : ev (.tmp 41) = .pointer (some ⟨wx, 0, none⟩)) : (execOp ev ⟨some 42, Op.call { callee := Callee.value (Operand.func 113), args := #[Operand.tmp 41], argTypes := #[157] }, 3, "", #[], none⟩).run Tryz.prog z = .ok (.enter 113 #[.pointer (some ⟨wx, 0, none⟩)]) z :=
  enter_run _ ef (by simp only [List.map_toArray, List.map_cons, List.map_nil, ec, e41]) (fun _ => by rfl)
set_option maxRecDepth 100000 in
theorem xo11_10 (x wx tw N cW bb oo cc j : Nat) (s9 : Int) (hjn : (j : Int) < (N : Int)) (ev : Operand → Value) (z : World) (ec : ∀ c, ev (.const c) = c) (ef : ev (.func 112) = .func (.func 112) #[] #[]) (e39 : ev (.tmp 39) = .slice (some ⟨bb, oo, none⟩) 64 cc) (e40 : ev (.tmp 40) = .int .i64 (j : Int)) (e42 : ev (.tmp 42) = .int .i64 s9) : (execOp ev ⟨some 43, Op.call { callee := Callee.value (Operand.func 112), args := #[Operand.tmp 39, Operand.tmp 40, Operand.tmp 42], argTypes := #[75, 3, 3] }, 221, "", #[], none⟩).run Tryz.prog z = .ok (.enter 112 #[.slice (some ⟨bb, oo, none⟩) 64 cc, .int .i64 (j : Int), .int .i64 s9]) z :=
  enter_run _ ef (by simp only [List.map_toArray, List.map_cons, List.map_nil, ec, e39, e40, e42]) (fun _ => by rfl)
theorem xo11_14 (ev : Operand → Value) (z : World) : (execOp ev ⟨some 7, Op.alloc 218, 0, "", #[], none⟩).run Tryz.prog z = .ok (.value (.pointer (some ⟨z.heap.size, 0, none⟩))) (z.alloc (.cells #[.int .i64 0, .int .i64 0, .int .i64 0, .int .i64 0] 218)) := by
  go_simp
theorem xo11_15 (g : Nat) (ev : Operand → Value) (z : World) (e7 : ev (.tmp 7) = .pointer (some ⟨g, 0, none⟩)) (e44 : ev (.tmp 44) = .agg #[.int .i64 0, .int .i64 0, .int .i64 0, .int .i64 0]) (hl : Lv z g [.int .i64 0, .int .i64 0, .int .i64 0, .int .i64 0]) : (execOp ev ⟨none, Op.store 218 (Operand.tmp 7) (Operand.tmp 44), 0, "", #[], none⟩).run Tryz.prog z = .ok .skip (z.setCells g 0 [.int .i64 0, .int .i64 0, .int .i64 0, .int .i64 0]) := by
  unfold execOp
  simp only [e7, e44, run_storeAt_mid (P := Tryz.prog) z g 0 218 #[.int .i64 0, .int .i64 0, .int .i64 0, .int .i64 0] (fun j hj => hl.t j hj) szHd (hd_one 0 0 0 0), Sem.run_bind, Sem.run_pure, Result.andThen_ok]
structure xo11R (ops : Array Oper) : Prop where
  size : ops.size = 17
  sel : Region.noSelect ops = true
  o0 : (ops[0]?).map bare = some ⟨some 33, Op.move (Operand.tmp 0), 42, "", #[], none⟩
  o1 : (ops[1]?).map bare = some ⟨some 34, Op.nilCheck (Operand.tmp 33), 0, "", #[], none⟩
  o2 : (ops[2]?).map bare = some ⟨some 35, Op.fieldAddr 156 (Operand.tmp 34) 1, 0, "", #[], none⟩
  o3 : (ops[3]?).map bare = some ⟨some 36, Op.load 90 (Operand.tmp 35), 90, "", #[], none⟩
  o4 : (ops[4]?).map bare = some ⟨some 37, Op.move (Operand.tmp 6), 3, "", #[], none⟩
  o5 : (ops[5]?).map bare = some ⟨some 38, Op.indexAddr 90 (Operand.tmp 36) (Operand.tmp 37), 0, "", #[], none⟩
  o6 : (ops[6]?).map bare = some ⟨some 39, Op.load 75 (Operand.tmp 38), 75, "", #[], none⟩
  o7 : (ops[7]?).map bare = some ⟨some 40, Op.move (Operand.tmp 6), 3, "", #[], none⟩
  o8 : (ops[8]?).map bare = some ⟨some 41, Op.move (Operand.tmp 5), 157, "", #[], none⟩
  o9 : (ops[9]?).map bare = some ⟨some 42, Op.call { callee := Callee.value (Operand.func 113), args := #[Operand.tmp 41], argTypes := #[157] }, 3, "", #[], none⟩
  o10 : (ops[10]?).map bare = some ⟨some 43, Op.call { callee := Callee.value (Operand.func 112), args := #[Operand.tmp 39, Operand.tmp 40, Operand.tmp 42], argTypes := #[75, 3, 3] }, 221, "", #[], none⟩
  o11 : (ops[11]?).map bare = some ⟨some 32, Op.move (Operand.tmp 43), 221, "", #[], none⟩
  o12 : (ops[12]?).map bare = some ⟨some 44, Op.extract (Operand.tmp 32) 0, 218, "", #[], none⟩
  o13 : (ops[13]?).map bare = some ⟨some 45, Op.extract (Operand.tmp 32) 1, 4, "", #[], none⟩
  o14 : (ops[14]?).map bare = some ⟨some 7, Op.alloc 218, 0, "", #[], none⟩
  o15 : (ops[15]?).map bare = some ⟨none, Op.store 218 (Operand.tmp 7) (Operand.tmp 44), 0, "", #[], none⟩
  o16 : (ops[16]?).map bare = some ⟨some 8, Op.assign (Operand.tmp 45), 4, "", #[], none⟩
  may1 : takeB .any ops [0, 1, 2, 3, 4, 5, 6, 7, 8] (Array.replicate 17 false) = true
  r11 : Region.ready .any ops (mark [0, 1, 2, 3, 4, 5, 6, 7, 8] (Array.replicate 17 false)) = [9, 14]
  r13 : Region.ready .any ops ((mark [0, 1, 2, 3, 4, 5, 6, 7, 8] (Array.replicate 17 false)).setIfInBounds 9 true) = [10, 14]
  may15 : takeB .any ops [11, 12, 13] (((mark [0, 1, 2, 3, 4, 5, 6, 7, 8] (Array.replicate 17 false)).setIfInBounds 9 true).setIfInBounds 10 true) = true
  r19 : Region.ready .any ops (mark [11, 12, 13] (((mark [0, 1, 2, 3, 4, 5, 6, 7, 8] (Array.replicate 17 false)).setIfInBounds 9 true).setIfInBounds 10 true)) = [14]
  r21 : Region.ready .any ops ((mark [11, 12, 13] (((mark [0, 1, 2, 3, 4, 5, 6, 7, 8] (Array.replicate 17 false)).setIfInBounds 9 true).setIfInBounds 10 true)).setIfInBounds 14 true) = [15]
  may22 : takeB .any ops [16] (((mark [11, 12, 13] (((mark [0, 1, 2, 3, 4, 5, 6, 7, 8] (Array.replicate 17 false)).setIfInBounds 9 true).setIfInBounds 10 true)).setIfInBounds 14 true).setIfInBounds 15 true) = true
  r24 : Region.ready .any ops (mark [16] (((mark [11, 12, 13] (((mark [0, 1, 2, 3, 4, 5, 6, 7, 8] (Array.replicate 17 false)).setIfInBounds 9 true).setIfInBounds 10 true)).setIfInBounds 14 true).setIfInBounds 15 true)) = []
  r26 : Region.ready .any ops (((mark [0, 1, 2, 3, 4, 5, 6, 7, 8] (Array.replicate 17 false)).setIfInBounds 9 true).setIfInBounds 14 true) = [10]
  may28 : takeB .any ops [11, 12, 13] ((((mark [0, 1, 2, 3, 4, 5, 6, 7, 8] (Array.replicate 17 false)).setIfInBounds 9 true).setIfInBounds 14 true).setIfInBounds 10 true) = true
  r32 : Region.ready .any ops (mark [11, 12, 13] ((((mark [0, 1, 2, 3, 4, 5, 6, 7, 8] (Array.replicate 17 false)).setIfInBounds 9 true).setIfInBounds 14 true).setIfInBounds 10 true)) = [15]
  may33 : takeB .any ops [16] ((mark [11, 12, 13] ((((mark [0, 1, 2, 3, 4, 5, 6, 7, 8] (Array.replicate 17 false)).setIfInBounds 9 true).setIfInBounds 14 true).setIfInBounds 10 true)).setIfInBounds 15 true) = true
  r35 : Region.ready .any ops (mark [16] ((mark [11, 12, 13] ((((mark [0, 1, 2, 3, 4, 5, 6, 7, 8] (Array.replicate 17 false)).setIfInBounds 9 true).setIfInBounds 14 true).setIfInBounds 10 true)).setIfInBounds 15 true)) = []
  r37 : Region.ready .any ops ((mark [0, 1, 2, 3, 4, 5, 6, 7, 8] (Array.replicate 17 false)).setIfInBounds 14 true) = [9]
  r39 : Region.ready .any ops (((mark [0, 1, 2, 3, 4, 5, 6, 7, 8] (Array.replicate 17 false)).setIfInBounds 14 true).setIfInBounds 9 true) = [10]
  may41 : takeB .any ops [11, 12, 13] ((((mark [0, 1, 2, 3, 4, 5, 6, 7, 8] (Array.replicate 17 false)).setIfInBounds 14 true).setIfInBounds 9 true).setIfInBounds 10 true) = true
  r45 : Region.ready .any ops (mark [11, 12, 13] ((((mark [0, 1, 2, 3, 4, 5, 6, 7, 8] (Array.replicate 17 false)).setIfInBounds 14 true).setIfInBounds 9 true).setIfInBounds 10 true)) = [15]
  may46 : takeB .any ops [16] ((mark [11, 12, 13] ((((mark [0, 1, 2, 3, 4, 5, 6, 7, 8] (Array.replicate 17 false)).setIfInBounds 14 true).setIfInBounds 9 true).setIfInBounds 10 true)).setIfInBounds 15 true) = true
  r48 : Region.ready .any ops (mark [16] ((mark [11, 12, 13] ((((mark [0, 1, 2, 3, 4, 5, 6, 7, 8] (Array.replicate 17 false)).setIfInBounds 14 true).setIfInBounds 9 true).setIfInBounds 10 true)).setIfInBounds 15 true)) = []

set_option maxRecDepth 100000 in
set_option maxHeartbeats 6400000 in
theorem xo11_region {ops : Array Oper} {id : Nat} {Q : Exit → Act → World → Prop} {a : Act} {y y0 : World} (hy0 : y0 = y.drew) (R : xo11R ops) (x wx tw N cW bb oo cc j : Nat) (s9 : Int) (hjn : (j : Int) < (N : Int))
    (hQ : ∀ d v c a w, Q (.panic c) (a.put d v) w → Q (.panic c) a w) (hsz : a.tmps.size = 189) (e0 : a.eval (.tmp 0) = .pointer (some ⟨x, 0, none⟩)) (e5 : a.eval (.tmp 5) = .pointer (some ⟨wx, 0, none⟩)) (e6 : a.eval (.tmp 6) = .int .i64 (j : Int))
    (hS0 : y0.cell? ⟨x, 1, none⟩ = some (.slice (some ⟨tw, 0, none⟩) N cW) ∧ y0.cell? ⟨tw, j, none⟩ = some (.slice (some ⟨bb, oo, none⟩) 64 cc))
    (hsz9 : ∀ u, (Kp (fun _ => False) y0 u ∧ u.cell? ⟨x, 1, none⟩ = some (.slice (some ⟨tw, 0, none⟩) N cW) ∧ u.cell? ⟨tw, j, none⟩ = some (.slice (some ⟨bb, oo, none⟩) 64 cc)) → Calls Tryz.prog 113 #[.pointer (some ⟨wx, 0, none⟩)] u fun e w9 => e = .returned (.int .i64 s9) ∧ w9 = u)
    (hrd : ∀ u, (Kp (fun _ => False) y0 u ∧ u.cell? ⟨x, 1, none⟩ = some (.slice (some ⟨tw, 0, none⟩) N cW) ∧ u.cell? ⟨tw, j, none⟩ = some (.slice (some ⟨bb, oo, none⟩) 64 cc)) → Calls Tryz.prog 112 #[.slice (some ⟨bb, oo, none⟩) 64 cc, .int .i64 (j : Int), .int .i64 s9] u fun e w9 => e = .returned (.tuple #[.agg #[.int .i64 0, .int .i64 0, .int .i64 0, .int .i64 0], .bool false]) ∧ Kp (fun _ => False) u w9)
    (hK1 : ∀ (g : Nat) (w9 : World), Kp (fun _ => False) y0 w9 → Q .normal ((((((((((((((((a.put (some 33) (.pointer (some ⟨x, 0, none⟩))).put (some 34) (.pointer (some ⟨x, 0, none⟩))).put (some 35) (.pointer (some ⟨x, 1, none⟩))).put (some 36) (.slice (some ⟨tw, 0, none⟩) N cW)).put (some 37) (.int .i64 (j : Int))).put (some 38) (.pointer (some ⟨tw, j, none⟩))).put (some 39) (.slice (some ⟨bb, oo, none⟩) 64 cc)).put (some 40) (.int .i64 (j : Int))).put (some 41) (.pointer (some ⟨wx, 0, none⟩))).put (some 42) (.int .i64 s9)).put (some 43) (.tuple #[.agg #[.int .i64 0, .int .i64 0, .int .i64 0, .int .i64 0], .bool false])).put (some 32) (.tuple #[.agg #[.int .i64 0, .int .i64 0, .int .i64 0, .int .i64 0], .bool false])).put (some 44) (.agg #[.int .i64 0, .int .i64 0, .int .i64 0, .int .i64 0])).put (some 45) (.bool false)).put (some 7) (.pointer (some ⟨g, 0, none⟩))).put (some 8) (.bool false)) w9)
    (hK2 : ∀ (g : Nat) (w9 : World), Kp (fun _ => False) y0 w9 → Q .normal ((((((((((((((((a.put (some 33) (.pointer (some ⟨x, 0, none⟩))).put (some 34) (.pointer (some ⟨x, 0, none⟩))).put (some 35) (.pointer (some ⟨x, 1, none⟩))).put (some 36) (.slice (some ⟨tw, 0, none⟩) N cW)).put (some 37) (.int .i64 (j : Int))).put (some 38) (.pointer (some ⟨tw, j, none⟩))).put (some 39) (.slice (some ⟨bb, oo, none⟩) 64 cc)).put (some 40) (.int .i64 (j : Int))).put (some 41) (.pointer (some ⟨wx, 0, none⟩))).put (some 42) (.int .i64 s9)).put (some 7) (.pointer (some ⟨g, 0, none⟩))).put (some 43) (.tuple #[.agg #[.int .i64 0, .int .i64 0, .int .i64 0, .int .i64 0], .bool false])).put (some 32) (.tuple #[.agg #[.int .i64 0, .int .i64 0, .int .i64 0, .int .i64 0], .bool false])).put (some 44) (.agg #[.int .i64 0, .int .i64 0, .int .i64 0, .int .i64 0])).put (some 45) (.bool false)).put (some 8) (.bool false)) w9)
    (hK3 : ∀ (g : Nat) (w9 : World), Kp (fun _ => False) y0 w9 → Q .normal ((((((((((((((((a.put (some 33) (.pointer (some ⟨x, 0, none⟩))).put (some 34) (.pointer (some ⟨x, 0, none⟩))).put (some 35) (.pointer (some ⟨x, 1, none⟩))).put (some 36) (.slice (some ⟨tw, 0, none⟩) N cW)).put (some 37) (.int .i64 (j : Int))).put (some 38) (.pointer (some ⟨tw, j, none⟩))).put (some 39) (.slice (some ⟨bb, oo, none⟩) 64 cc)).put (some 40) (.int .i64 (j : Int))).put (some 41) (.pointer (some ⟨wx, 0, none⟩))).put (some 7) (.pointer (some ⟨g, 0, none⟩))).put (some 42) (.int .i64 s9)).put (some 43) (.tuple #[.agg #[.int .i64 0, .int .i64 0, .int .i64 0, .int .i64 0], .bool false])).put (some 32) (.tuple #[.agg #[.int .i64 0, .int .i64 0, .int .i64 0, .int .i64 0], .bool false])).put (some 44) (.agg #[.int .i64 0, .int .i64 0, .int .i64 0, .int .i64 0])).put (some 45) (.bool false)).put (some 8) (.bool false)) w9)
    : (Code.region id ops true).wp Tryz.prog Q a y := by
  have HR : Hid (xo11R ops) := R
  have hdf : a.defers = a.defers := rfl
  have hKS : ∀ u u', (Kp (fun _ => False) y0 u ∧ u.cell? ⟨x, 1, none⟩ = some (.slice (some ⟨tw, 0, none⟩) N cW) ∧ u.cell? ⟨tw, j, none⟩ = some (.slice (some ⟨bb, oo, none⟩) 64 cc)) → Kp (fun _ => False) u u' → (Kp (fun _ => False) y0 u' ∧ u'.cell? ⟨x, 1, none⟩ = some (.slice (some ⟨tw, 0, none⟩) N cW) ∧ u'.cell? ⟨tw, j, none⟩ = some (.slice (some ⟨bb, oo, none⟩) 64 cc)) := fun u u' h k => ⟨h.1.trans k (fun _ _ e => e), k.cellv h.2.1 (fun e => e), k.cellv h.2.2 (fun e => e)⟩
  have hKT : ∀ u g, (Kp (fun _ => False) y0 u ∧ u.cell? ⟨x, 1, none⟩ = some (.slice (some ⟨tw, 0, none⟩) N cW) ∧ u.cell? ⟨tw, j, none⟩ = some (.slice (some ⟨bb, oo, none⟩) 64 cc)) → y0.heap.size ≤ g → (Kp (fun _ => False) y0 (u.setCells g 0 [.int .i64 0, .int .i64 0, .int .i64 0, .int .i64 0]) ∧ (u.setCells g 0 [.int .i64 0, .int .i64 0, .int .i64 0, .int .i64 0]).cell? ⟨x, 1, none⟩ = some (.slice (some ⟨tw, 0, none⟩) N cW) ∧ (u.setCells g 0 [.int .i64 0, .int .i64 0, .int .i64 0, .int .i64 0]).cell? ⟨tw, j, none⟩ = some (.slice (some ⟨bb, oo, none⟩) 64 cc)) := fun u g h hg => by
    have k := kp_setCells g [.int .i64 0, .int .i64 0, .int .i64 0, .int .i64 0] 0 u
    have hx := World.block_lt_of_cell? _ _ hS0.1
    have ht := World.block_lt_of_cell? _ _ hS0.2
    have hx : x < y0.heap.size := hx
    have ht : tw < y0.heap.size := ht
    exact ⟨h.1.trans k (fun b hb e => by have e' : b = g := e; omega), k.cellv h.2.1 (fun e => by have e' : x = g := e; omega), k.cellv h.2.2 (fun e => by have e' : tw = g := e; omega)⟩
  refine wp_region_held_drew (S := (fun z : World => Kp (fun _ => False) y0 z ∧ z.cell? ⟨x, 1, none⟩ = some (.slice (some ⟨tw, 0, none⟩) N cW) ∧ z.cell? ⟨tw, j, none⟩ = some (.slice (some ⟨bb, oo, none⟩) 64 cc))) (by kernel_rfl) (by rw [← hy0]; exact ⟨Kp.refl _ _, hS0⟩) (fun hHeld => ?_)
  rw [R.size]
  rw [← hy0] at hHeld ⊢
  clear R hS0 hy0
  refine wpAnyH_takes HR.out.sel hQ hHeld [0, 1, 2, 3, 4, 5, 6, 7, 8] 8 _ _ HR.out.may1 ?_
  refine wpTake_stepE ⟨some 33, Op.move (Operand.tmp 0), 42, "", #[], none⟩ 33 (.pointer (some ⟨x, 0, none⟩)) HR.out.o0 rfl (by rw [hsz]; decide) (wanted_none rfl) (fun z hS => xo11_0 y0 x wx tw N cW bb oo cc j s9 hjn _ z (fun _ => rfl) e0 hS) ?_
  intro a2 ha2 s1 f1 n1 k1
  replace hsz := s1.trans hsz
  replace hdf := f1.trans hdf
  replace e5 := (k1 5 (by decide)).trans e5
  replace e6 := (k1 6 (by decide)).trans e6
  have e33 := n1
  clear s1 f1 n1 k1
  refine wpTake_stepE ⟨some 34, Op.nilCheck (Operand.tmp 33), 0, "", #[], none⟩ 34 (.pointer (some ⟨x, 0, none⟩)) HR.out.o1 rfl (by rw [hsz]; decide) (wanted_none rfl) (fun z hS => xo11_1 y0 x wx tw N cW bb oo cc j s9 hjn _ z (fun _ => rfl) e33 hS) ?_
  intro a3 ha3 s1 f1 n1 k1
  replace hsz := s1.trans hsz
  replace hdf := f1.trans hdf
  replace e5 := (k1 5 (by decide)).trans e5
  replace e6 := (k1 6 (by decide)).trans e6
  have e34 := n1
  clear s1 f1 n1 k1
  refine wpTake_stepE ⟨some 35, Op.fieldAddr 156 (Operand.tmp 34) 1, 0, "", #[], none⟩ 35 (.pointer (some ⟨x, 1, none⟩)) HR.out.o2 rfl (by rw [hsz]; decide) (wanted_none rfl) (fun z hS => xo11_2 y0 x wx tw N cW bb oo cc j s9 hjn _ z (fun _ => rfl) e34 hS) ?_
  intro a4 ha4 s1 f1 n1 k1
  replace hsz := s1.trans hsz
  replace hdf := f1.trans hdf
  replace e5 := (k1 5 (by decide)).trans e5
  replace e6 := (k1 6 (by decide)).trans e6
  have e35 := n1
  clear s1 f1 n1 k1
  refine wpTake_stepE ⟨some 36, Op.load 90 (Operand.tmp 35), 90, "", #[], none⟩ 36 (.slice (some ⟨tw, 0, none⟩) N cW) HR.out.o3 rfl (by rw [hsz]; decide) (wanted_none rfl) (fun z hS => xo11_3 y0 x wx tw N cW bb oo cc j s9 hjn _ z (fun _ => rfl) e35 hS) ?_
  intro a5 ha5 s1 f1 n1 k1
  replace hsz := s1.trans hsz
  replace hdf := f1.trans hdf
  replace e5 := (k1 5 (by decide)).trans e5
  replace e6 := (k1 6 (by decide)).trans e6
  have e36 := n1
  clear s1 f1 n1 k1
  refine wpTake_stepE ⟨some 37, Op.move (Operand.tmp 6), 3, "", #[], none⟩ 37 (.int .i64 (j : Int)) HR.out.o4 rfl (by rw [hsz]; decide) (wanted_none rfl) (fun z hS => xo11_4 y0 x wx tw N cW bb oo cc j s9 hjn _ z (fun _ => rfl) e6 hS) ?_
  intro a6 ha6 s1 f1 n1 k1
  replace hsz := s1.trans hsz
  replace hdf := f1.trans hdf
  replace e5 := (k1 5 (by decide)).trans e5
  replace e6 := (k1 6 (by decide)).trans e6
  replace e36 := (k1 36 (by decide)).trans e36
  have e37 := n1
  clear s1 f1 n1 k1
  refine wpTake_stepE ⟨some 38, Op.indexAddr 90 (Operand.tmp 36) (Operand.tmp 37), 0, "", #[], none⟩ 38 (.pointer (some ⟨tw, j, none⟩)) HR.out.o5 rfl (by rw [hsz]; decide) (wanted_none rfl) (fun z hS => xo11_5 y0 x wx tw N cW bb oo cc j s9 hjn _ z (fun _ => rfl) e36 e37 hS) ?_
  intro a7 ha7 s1 f1 n1 k1
  replace hsz := s1.trans hsz
  replace hdf := f1.trans hdf
  replace e5 := (k1 5 (by decide)).trans e5
  replace e6 := (k1 6 (by decide)).trans e6
  have e38 := n1
  clear s1 f1 n1 k1
  refine wpTake_stepE ⟨some 39, Op.load 75 (Operand.tmp 38), 75, "", #[], none⟩ 39 (.slice (some ⟨bb, oo, none⟩) 64 cc) HR.out.o6 rfl (by rw [hsz]; decide) (wanted_none rfl) (fun z hS => xo11_6 y0 x wx tw N cW bb oo cc j s9 hjn _ z (fun _ => rfl) e38 hS) ?_
  intro a8 ha8 s1 f1 n1 k1
  replace hsz := s1.trans hsz
  replace hdf := f1.trans hdf
  replace e5 := (k1 5 (by decide)).trans e5
  replace e6 := (k1 6 (by decide)).trans e6
  have e39 := n1
  clear s1 f1 n1 k1
  refine wpTake_stepE ⟨some 40, Op.move (Operand.tmp 6), 3, "", #[], none⟩ 40 (.int .i64 (j : Int)) HR.out.o7 rfl (by rw [hsz]; decide) (wanted_none rfl) (fun z hS => xo11_7 y0 x wx tw N cW bb oo cc j s9 hjn _ z (fun _ => rfl) e6 hS) ?_
  intro a9 ha9 s1 f1 n1 k1
  replace hsz := s1.trans hsz
  replace hdf := f1.trans hdf
  replace e5 := (k1 5 (by decide)).trans e5
  replace e39 := (k1 39 (by decide)).trans e39
  have e40 := n1
  clear s1 f1 n1 k1
  refine wpTake_stepE ⟨some 41, Op.move (Operand.tmp 5), 157, "", #[], none⟩ 41 (.pointer (some ⟨wx, 0, none⟩)) HR.out.o8 rfl (by rw [hsz]; decide) (wanted_none rfl) (fun z hS => xo11_8 y0 x wx tw N cW bb oo cc j s9 hjn _ z (fun _ => rfl) e5 hS) ?_
  intro a10 ha10 s1 f1 n1 k1
  replace hsz := s1.trans hsz
  replace hdf := f1.trans hdf
  replace e39 := (k1 39 (by decide)).trans e39
  replace e40 := (k1 40 (by decide)).trans e40
  have e41 := n1
  clear s1 f1 n1 k1
  refine wpTake_nil ?_
  refine wpAnyH_two9 ⟨some 42, Op.call { callee := Callee.value (Operand.func 113), args := #[Operand.tmp 41], argTypes := #[157] }, 3, "", #[], none⟩ ⟨some 7, Op.alloc 218, 0, "", #[], none⟩ HR.out.r11 HR.out.o9 rfl HR.out.o14 rfl (fun K' hK' => ?_) (fun K' hK' => ?_)
  · skip
    refine wp_enter (xo11_9 x wx tw N cW bb oo cc j s9 hjn _ _ (fun _ => rfl) rfl e41) (hsz9 _ hHeld) ?_
    rintro e9 w9 ⟨rfl, hw9⟩
    have hw8 := hw9.symm
    subst hw8
    clear hw9
    refine ⟨_, rfl, hK'.out _ _ hHeld ?_⟩
    clear hK' K'
    show wpAnyH _ _ _ _ _ _ _ (Act.put a10 (some 42) (.int .i64 s9)) _
    obtain ⟨s1, f1, n1, k1⟩ := act_put a10 42 (.int .i64 s9) (show 42 < _ by rw [hsz]; decide)
    obtain ⟨a12, ha12⟩ : ∃ x, x = Act.put a10 (some 42) (.int .i64 s9) := ⟨_, rfl⟩
    rw [← ha12] at s1 f1 n1 k1 ⊢
    replace hsz := s1.trans hsz
    replace hdf := f1.trans hdf
    replace e39 := (k1 39 (by decide)).trans e39
    replace e40 := (k1 40 (by decide)).trans e40
    have e42 := n1
    clear s1 f1 n1 k1
    refine wpAnyH_two9 ⟨some 43, Op.call { callee := Callee.value (Operand.func 112), args := #[Operand.tmp 39, Operand.tmp 40, Operand.tmp 42], argTypes := #[75, 3, 3] }, 221, "", #[], none⟩ ⟨some 7, Op.alloc 218, 0, "", #[], none⟩ HR.out.r13 HR.out.o10 rfl HR.out.o14 rfl (fun K' hK' => ?_) (fun K' hK' => ?_)
    · skip
      refine wp_enter (xo11_10 x wx tw N cW bb oo cc j s9 hjn _ _ (fun _ => rfl) rfl e39 e40 e42) (hrd _ hHeld) ?_
      rintro e9 w9 ⟨rfl, k9⟩
      have hH2 := hKS _ _ hHeld k9
      refine ⟨_, rfl, hK'.out _ _ hH2 ?_⟩
      replace hHeld := hH2
      clear hK' K' hH2
      show wpAnyH _ _ _ _ _ _ _ (Act.put a12 (some 43) (.tuple #[.agg #[.int .i64 0, .int .i64 0, .int .i64 0, .int .i64 0], .bool false])) _
      clear k9
      obtain ⟨s1, f1, n1, k1⟩ := act_put a12 43 (.tuple #[.agg #[.int .i64 0, .int .i64 0, .int .i64 0, .int .i64 0], .bool false]) (show 43 < _ by rw [hsz]; decide)
      obtain ⟨a14, ha14⟩ : ∃ x, x = Act.put a12 (some 43) (.tuple #[.agg #[.int .i64 0, .int .i64 0, .int .i64 0, .int .i64 0], .bool false]) := ⟨_, rfl⟩
      rw [← ha14] at s1 f1 n1 k1 ⊢
      replace hsz := s1.trans hsz
      replace hdf := f1.trans hdf
      have e43 := n1
      clear s1 f1 n1 k1
      refine wpAnyH_takes HR.out.sel hQ hHeld [11, 12, 13] 3 _ _ HR.out.may15 ?_
      refine wpTake_stepE ⟨some 32, Op.move (Operand.tmp 43), 221, "", #[], none⟩ 32 (.tuple #[.agg #[.int .i64 0, .int .i64 0, .int .i64 0, .int .i64 0], .bool false]) HR.out.o11 rfl (by rw [hsz]; decide) (wanted_none rfl) (fun z hS => xo11_11 y0 x wx tw N cW bb oo cc j s9 hjn _ z (fun _ => rfl) e43 hS) ?_
      intro a16 ha16 s1 f1 n1 k1
      replace hsz := s1.trans hsz
      replace hdf := f1.trans hdf
      have e32 := n1
      clear s1 f1 n1 k1
      refine wpTake_stepE ⟨some 44, Op.extract (Operand.tmp 32) 0, 218, "", #[], none⟩ 44 (.agg #[.int .i64 0, .int .i64 0, .int .i64 0, .int .i64 0]) HR.out.o12 rfl (by rw [hsz]; decide) (wanted_none rfl) (fun z hS => xo11_12 y0 x wx tw N cW bb oo cc j s9 hjn _ z (fun _ => rfl) e32 hS) ?_
      intro a17 ha17 s1 f1 n1 k1
      replace hsz := s1.trans hsz
      replace hdf := f1.trans hdf
      replace e32 := (k1 32 (by decide)).trans e32
      have e44 := n1
      clear s1 f1 n1 k1
      refine wpTake_stepE ⟨some 45, Op.extract (Operand.tmp 32) 1, 4, "", #[], none⟩ 45 (.bool false) HR.out.o13 rfl (by rw [hsz]; decide) (wanted_none rfl) (fun z hS => xo11_13 y0 x wx tw N cW bb oo cc j s9 hjn _ z (fun _ => rfl) e32 hS) ?_
      intro a18 ha18 s1 f1 n1 k1
      replace hsz := s1.trans hsz
      replace hdf := f1.trans hdf
      replace e44 := (k1 44 (by decide)).trans e44
      have e45 := n1
      clear s1 f1 n1 k1
      refine wpTake_nil ?_
      refine wpAnyH_one ⟨some 7, Op.alloc 218, 0, "", #[], none⟩ HR.out.r19 HR.out.o14 rfl (fun K' hK' => ?_)
      unfold Oper.wp
      rw [xo11_14, Oper.upon_value]
      have lg : Lv (w9.alloc (.cells #[.int .i64 0, .int .i64 0, .int .i64 0, .int .i64 0] 218)) w9.heap.size [.int .i64 0, .int .i64 0, .int .i64 0, .int .i64 0] := Lv.new _ _ _
      have kg : Kp (fun _ => False) y0 (w9.alloc (.cells #[.int .i64 0, .int .i64 0, .int .i64 0, .int .i64 0] 218)) := hHeld.1.alloc _
      have hH2 := hKS _ _ hHeld ((Kp.refl _ w9).alloc (.cells #[.int .i64 0, .int .i64 0, .int .i64 0, .int .i64 0] 218))
      obtain ⟨g, hg⟩ : ∃ g, g = w9.heap.size := ⟨_, rfl⟩
      have hge : y0.heap.size ≤ g := by rw [hg]; exact hHeld.1.size
      rw [← hg] at lg ⊢
      clear hg kg
      refine hK'.out _ _ hH2 ?_
      replace hHeld := hH2
      clear hK' K' hH2
      show wpAnyH _ _ _ _ _ _ _ (Act.put a18 (some 7) (.pointer (some ⟨g, 0, none⟩))) _
      obtain ⟨s1, f1, n1, k1⟩ := act_put a18 7 (.pointer (some ⟨g, 0, none⟩)) (show 7 < _ by rw [hsz]; decide)
      obtain ⟨a20, ha20⟩ : ∃ x, x = Act.put a18 (some 7) (.pointer (some ⟨g, 0, none⟩)) := ⟨_, rfl⟩
      rw [← ha20] at s1 f1 n1 k1 ⊢
      replace hsz := s1.trans hsz
      replace hdf := f1.trans hdf
      replace e44 := (k1 44 (by decide)).trans e44
      replace e45 := (k1 45 (by decide)).trans e45
      have e7 := n1
      clear s1 f1 n1 k1
      have hs15 := hKT _ g hHeld hge
      refine wpAnyH_skip ⟨none, Op.store 218 (Operand.tmp 7) (Operand.tmp 44), 0, "", #[], none⟩ _ HR.out.r21 HR.out.o15 rfl rfl (xo11_15 g _ _ e7 e44 lg) hs15 ?_
      replace hHeld := hs15
      refine wpAnyH_takes HR.out.sel hQ hHeld [16] 0 _ _ HR.out.may22 ?_
      refine wpTake_stepE ⟨some 8, Op.assign (Operand.tmp 45), 4, "", #[], none⟩ 8 (.bool false) HR.out.o16 rfl (by rw [hsz]; decide) (wanted_none rfl) (fun z hS => xo11_16 y0 x wx tw N cW bb oo cc j s9 hjn _ z (fun _ => rfl) e45 hS) ?_
      intro a23 ha23 s1 f1 n1 k1
      replace hsz := s1.trans hsz
      replace hdf := f1.trans hdf
      clear s1 f1 n1 k1
      refine wpTake_nil ?_
      refine wpAnyH_done HR.out.r24 ?_ _
      rw [ha23, ha20, ha18, ha17, ha16, ha14, ha12, ha10, ha9, ha8, ha7, ha6, ha5, ha4, ha3, ha2]
      exact hK1 g _ hHeld.1
    · skip
      unfold Oper.wp
      rw [xo11_14, Oper.upon_value]
      have lg : Lv (y0.alloc (.cells #[.int .i64 0, .int .i64 0, .int .i64 0, .int .i64 0] 218)) y0.heap.size [.int .i64 0, .int .i64 0, .int .i64 0, .int .i64 0] := Lv.new _ _ _
      have kg : Kp (fun _ => False) y0 (y0.alloc (.cells #[.int .i64 0, .int .i64 0, .int .i64 0, .int .i64 0] 218)) := hHeld.1.alloc _
      have hH2 := hKS _ _ hHeld ((Kp.refl _ y0).alloc (.cells #[.int .i64 0, .int .i64 0, .int .i64 0, .int .i64 0] 218))
      obtain ⟨g, hg⟩ : ∃ g, g = y0.heap.size := ⟨_, rfl⟩
      have hge : y0.heap.size ≤ g := by rw [hg]; exact hHeld.1.size
      rw [← hg] at lg ⊢
      clear hg kg
      refine hK'.out _ _ hH2 ?_
      replace hHeld := hH2
      clear hK' K' hH2
      show wpAnyH _ _ _ _ _ _ _ (Act.put a12 (some 7) (.pointer (some ⟨g, 0, none⟩))) _
      obtain ⟨s1, f1, n1, k1⟩ := act_put a12 7 (.pointer (some ⟨g, 0, none⟩)) (show 7 < _ by rw [hsz]; decide)
      obtain ⟨a25, ha25⟩ : ∃ x, x = Act.put a12 (some 7) (.pointer (some ⟨g, 0, none⟩)) := ⟨_, rfl⟩
      rw [← ha25] at s1 f1 n1 k1 ⊢
      replace hsz := s1.trans hsz
      replace hdf := f1.trans hdf
      replace e39 := (k1 39 (by decide)).trans e39
      replace e40 := (k1 40 (by decide)).trans e40
      replace e42 := (k1 42 (by decide)).trans e42
      have e7 := n1
      clear s1 f1 n1 k1
      refine wpAnyH_one ⟨some 43, Op.call { callee := Callee.value (Operand.func 112), args := #[Operand.tmp 39, Operand.tmp 40, Operand.tmp 42], argTypes := #[75, 3, 3] }, 221, "", #[], none⟩ HR.out.r26 HR.out.o10 rfl (fun K' hK' => ?_)
      refine wp_enter (xo11_10 x wx tw N cW bb oo cc j s9 hjn _ _ (fun _ => rfl) rfl e39 e40 e42) (hrd _ hHeld) ?_
      rintro e9 w9 ⟨rfl, k9⟩
      have hH2 := hKS _ _ hHeld k9
      refine ⟨_, rfl, hK'.out _ _ hH2 ?_⟩
      replace hHeld := hH2
      clear hK' K' hH2
      show wpAnyH _ _ _ _ _ _ _ (Act.put a25 (some 43) (.tuple #[.agg #[.int .i64 0, .int .i64 0, .int .i64 0, .int .i64 0], .bool false])) _
      replace lg := lg.keep k9 (fun e => e)
      clear k9
      obtain ⟨s1, f1, n1, k1⟩ := act_put a25 43 (.tuple #[.agg #[.int .i64 0, .int .i64 0, .int .i64 0, .int .i64 0], .bool false]) (show 43 < _ by rw [hsz]; decide)
      obtain ⟨a27, ha27⟩ : ∃ x, x = Act.put a25 (some 43) (.tuple #[.agg #[.int .i64 0, .int .i64 0, .int .i64 0, .int .i64 0], .bool false]) := ⟨_, rfl⟩
      rw [← ha27] at s1 f1 n1 k1 ⊢
      replace hsz := s1.trans hsz
      replace hdf := f1.trans hdf
      replace e7 := (k1 7 (by decide)).trans e7
      have e43 := n1
      clear s1 f1 n1 k1
      refine wpAnyH_takes HR.out.sel hQ hHeld [11, 12, 13] 2 _ _ HR.out.may28 ?_
      refine wpTake_stepE ⟨some 32, Op.move (Operand.tmp 43), 221, "", #[], none⟩ 32 (.tuple #[.agg #[.int .i64 0, .int .i64 0, .int .i64 0, .int .i64 0], .bool false]) HR.out.o11 rfl (by rw [hsz]; decide) (wanted_none rfl) (fun z hS => xo11_11 y0 x wx tw N cW bb oo cc j s9 hjn _ z (fun _ => rfl) e43 hS) ?_
      intro a29 ha29 s1 f1 n1 k1
      replace hsz := s1.trans hsz
      replace hdf := f1.trans hdf
      replace e7 := (k1 7 (by decide)).trans e7
      have e32 := n1
      clear s1 f1 n1 k1
      refine wpTake_stepE ⟨some 44, Op.extract (Operand.tmp 32) 0, 218, "", #[], none⟩ 44 (.agg #[.int .i64 0, .int .i64 0, .int .i64 0, .int .i64 0]) HR.out.o12 rfl (by rw [hsz]; decide) (wanted_none rfl) (fun z hS => xo11_12 y0 x wx tw N cW bb oo cc j s9 hjn _ z (fun _ => rfl) e32 hS) ?_
      intro a30 ha30 s1 f1 n1 k1
      replace hsz := s1.trans hsz
      replace hdf := f1.trans hdf
      replace e7 := (k1 7 (by decide)).trans e7
      replace e32 := (k1 32 (by decide)).trans e32
      have e44 := n1
      clear s1 f1 n1 k1
      refine wpTake_stepE ⟨some 45, Op.extract (Operand.tmp 32) 1, 4, "", #[], none⟩ 45 (.bool false) HR.out.o13 rfl (by rw [hsz]; decide) (wanted_none rfl) (fun z hS => xo11_13 y0 x wx tw N cW bb oo cc j s9 hjn _ z (fun _ => rfl) e32 hS) ?_
      intro a31 ha31 s1 f1 n1 k1
      replace hsz := s1.trans hsz
      replace hdf := f1.trans hdf
      replace e7 := (k1 7 (by decide)).trans e7
      replace e44 := (k1 44 (by decide)).trans e44
      have e45 := n1
      clear s1 f1 n1 k1
      refine wpTake_nil ?_
      have hs15 := hKT _ g hHeld hge
      refine wpAnyH_skip ⟨none, Op.store 218 (Operand.tmp 7) (Operand.tmp 44), 0, "", #[], none⟩ _ HR.out.r32 HR.out.o15 rfl rfl (xo11_15 g _ _ e7 e44 lg) hs15 ?_
      replace hHeld := hs15
      refine wpAnyH_takes HR.out.sel hQ hHeld [16] 0 _ _ HR.out.may33 ?_
      refine wpTake_stepE ⟨some 8, Op.assign (Operand.tmp 45), 4, "", #[], none⟩ 8 (.bool false) HR.out.o16 rfl (by rw [hsz]; decide) (wanted_none rfl) (fun z hS => xo11_16 y0 x wx tw N cW bb oo cc j s9 hjn _ z (fun _ => rfl) e45 hS) ?_
      intro a34 ha34 s1 f1 n1 k1
      replace hsz := s1.trans hsz
      replace hdf := f1.trans hdf
      clear s1 f1 n1 k1
      refine wpTake_nil ?_
      refine wpAnyH_done HR.out.r35 ?_ _
      rw [ha34, ha31, ha30, ha29, ha27, ha25, ha12, ha10, ha9, ha8, ha7, ha6, ha5, ha4, ha3, ha2]
      exact hK2 g _ hHeld.1
  · skip
    unfold Oper.wp
    rw [xo11_14, Oper.upon_value]
    have lg : Lv (y0.alloc (.cells #[.int .i64 0, .int .i64 0, .int .i64 0, .int .i64 0] 218)) y0.heap.size [.int .i64 0, .int .i64 0, .int .i64 0, .int .i64 0] := Lv.new _ _ _
    have kg : Kp (fun _ => False) y0 (y0.alloc (.cells #[.int .i64 0, .int .i64 0, .int .i64 0, .int .i64 0] 218)) := hHeld.1.alloc _
    have hH2 := hKS _ _ hHeld ((Kp.refl _ y0).alloc (.cells #[.int .i64 0, .int .i64 0, .int .i64 0, .int .i64 0] 218))
    obtain ⟨g, hg⟩ : ∃ g, g = y0.heap.size := ⟨_, rfl⟩
    have hge : y0.heap.size ≤ g := by rw [hg]; exact hHeld.1.size
    rw [← hg] at lg ⊢
    clear hg kg
    refine hK'.out _ _ hH2 ?_
    replace hHeld := hH2
    clear hK' K' hH2
    show wpAnyH _ _ _ _ _ _ _ (Act.put a10 (some 7) (.pointer (some ⟨g, 0, none⟩))) _
    obtain ⟨s1, f1, n1, k1⟩ := act_put a10 7 (.pointer (some ⟨g, 0, none⟩)) (show 7 < _ by rw [hsz]; decide)
    obtain ⟨a36, ha36⟩ : ∃ x, x = Act.put a10 (some 7) (.pointer (some ⟨g, 0, none⟩)) := ⟨_, rfl⟩
    rw [← ha36] at s1 f1 n1 k1 ⊢
    replace hsz := s1.trans hsz
    replace hdf := f1.trans hdf
    replace e39 := (k1 39 (by decide)).trans e39
    replace e40 := (k1 40 (by decide)).trans e40
    replace e41 := (k1 41 (by decide)).trans e41
    have e7 := n1
    clear s1 f1 n1 k1
    refine wpAnyH_one ⟨some 42, Op.call { callee := Callee.value (Operand.func 113), args := #[Operand.tmp 41], argTypes := #[157] }, 3, "", #[], none⟩ HR.out.r37 HR.out.o9 rfl (fun K' hK' => ?_)
    refine wp_enter (xo11_9 x wx tw N cW bb oo cc j s9 hjn _ _ (fun _ => rfl) rfl e41) (hsz9 _ hHeld) ?_
    rintro e9 w9 ⟨rfl, hw9⟩
    have hw8 := hw9.symm
    subst hw8
    clear hw9
    refine ⟨_, rfl, hK'.out _ _ hHeld ?_⟩
    clear hK' K'
    show wpAnyH _ _ _ _ _ _ _ (Act.put a36 (some 42) (.int .i64 s9)) _
    obtain ⟨s1, f1, n1, k1⟩ := act_put a36 42 (.int .i64 s9) (show 42 < _ by rw [hsz]; decide)
    obtain ⟨a38, ha38⟩ : ∃ x, x = Act.put a36 (some 42) (.int .i64 s9) := ⟨_, rfl⟩
    rw [← ha38] at s1 f1 n1 k1 ⊢
    replace hsz := s1.trans hsz
    replace hdf := f1.trans hdf
    replace e39 := (k1 39 (by decide)).trans e39
    replace e40 := (k1 40 (by decide)).trans e40
    replace e7 := (k1 7 (by decide)).trans e7
    have e42 := n1
    clear s1 f1 n1 k1
    refine wpAnyH_one ⟨some 43, Op.call { callee := Callee.value (Operand.func 112), args := #[Operand.tmp 39, Operand.tmp 40, Operand.tmp 42], argTypes := #[75, 3, 3] }, 221, "", #[], none⟩ HR.out.r39 HR.out.o10 rfl (fun K' hK' => ?_)
    refine wp_enter (xo11_10 x wx tw N cW bb oo cc j s9 hjn _ _ (fun _ => rfl) rfl e39 e40 e42) (hrd _ hHeld) ?_
    rintro e9 w9 ⟨rfl, k9⟩
    have hH2 := hKS _ _ hHeld k9
    refine ⟨_, rfl, hK'.out _ _ hH2 ?_⟩
    replace hHeld := hH2
    clear hK' K' hH2
    show wpAnyH _ _ _ _ _ _ _ (Act.put a38 (some 43) (.tuple #[.agg #[.int .i64 0, .int .i64 0, .int .i64 0, .int .i64 0], .bool false])) _
    replace lg := lg.keep k9 (fun e => e)
    clear k9
    obtain ⟨s1, f1, n1, k1⟩ := act_put a38 43 (.tuple #[.agg #[.int .i64 0, .int .i64 0, .int .i64 0, .int .i64 0], .bool false]) (show 43 < _ by rw [hsz]; decide)
    obtain ⟨a40, ha40⟩ : ∃ x, x = Act.put a38 (some 43) (.tuple #[.agg #[.int .i64 0, .int .i64 0, .int .i64 0, .int .i64 0], .bool false]) := ⟨_, rfl⟩
    rw [← ha40] at s1 f1 n1 k1 ⊢
    replace hsz := s1.trans hsz
    replace hdf := f1.trans hdf
    replace e7 := (k1 7 (by decide)).trans e7
    have e43 := n1
    clear s1 f1 n1 k1
    refine wpAnyH_takes HR.out.sel hQ hHeld [11, 12, 13] 2 _ _ HR.out.may41 ?_
    refine wpTake_stepE ⟨some 32, Op.move (Operand.tmp 43), 221, "", #[], none⟩ 32 (.tuple #[.agg #[.int .i64 0, .int .i64 0, .int .i64 0, .int .i64 0], .bool false]) HR.out.o11 rfl (by rw [hsz]; decide) (wanted_none rfl) (fun z hS => xo11_11 y0 x wx tw N cW bb oo cc j s9 hjn _ z (fun _ => rfl) e43 hS) ?_
    intro a42 ha42 s1 f1 n1 k1
    replace hsz := s1.trans hsz
    replace hdf := f1.trans hdf
    replace e7 := (k1 7 (by decide)).trans e7
    have e32 := n1
    clear s1 f1 n1 k1
    refine wpTake_stepE ⟨some 44, Op.extract (Operand.tmp 32) 0, 218, "", #[], none⟩ 44 (.agg #[.int .i64 0, .int .i64 0, .int .i64 0, .int .i64 0]) HR.out.o12 rfl (by rw [hsz]; decide) (wanted_none rfl) (fun z hS => xo11_12 y0 x wx tw N cW bb oo cc j s9 hjn _ z (fun _ => rfl) e32 hS) ?_
    intro a43 ha43 s1 f1 n1 k1
    replace hsz := s1.trans hsz
    replace hdf := f1.trans hdf
    replace e7 := (k1 7 (by decide)).trans e7
    replace e32 := (k1 32 (by decide)).trans e32
    have e44 := n1
    clear s1 f1 n1 k1
    refine wpTake_stepE ⟨some 45, Op.extract (Operand.tmp 32) 1, 4, "", #[], none⟩ 45 (.bool false) HR.out.o13 rfl (by rw [hsz]; decide) (wanted_none rfl) (fun z hS => xo11_13 y0 x wx tw N cW bb oo cc j s9 hjn _ z (fun _ => rfl) e32 hS) ?_
    intro a44 ha44 s1 f1 n1 k1
    replace hsz := s1.trans hsz
    replace hdf := f1.trans hdf
    replace e7 := (k1 7 (by decide)).trans e7
    replace e44 := (k1 44 (by decide)).trans e44
    have e45 := n1
    clear s1 f1 n1 k1
    refine wpTake_nil ?_
    have hs15 := hKT _ g hHeld hge
    refine wpAnyH_skip ⟨none, Op.store 218 (Operand.tmp 7) (Operand.tmp 44), 0, "", #[], none⟩ _ HR.out.r45 HR.out.o15 rfl rfl (xo11_15 g _ _ e7 e44 lg) hs15 ?_
    replace hHeld := hs15
    refine wpAnyH_takes HR.out.sel hQ hHeld [16] 0 _ _ HR.out.may46 ?_
    refine wpTake_stepE ⟨some 8, Op.assign (Operand.tmp 45), 4, "", #[], none⟩ 8 (.bool false) HR.out.o16 rfl (by rw [hsz]; decide) (wanted_none rfl) (fun z hS => xo11_16 y0 x wx tw N cW bb oo cc j s9 hjn _ z (fun _ => rfl) e45 hS) ?_
    intro a47 ha47 s1 f1 n1 k1
    replace hsz := s1.trans hsz
    replace hdf := f1.trans hdf
    clear s1 f1 n1 k1
    refine wpTake_nil ?_
    refine wpAnyH_done HR.out.r48 ?_ _
    rw [ha47, ha44, ha43, ha42, ha40, ha38, ha36, ha10, ha9, ha8, ha7, ha6, ha5, ha4, ha3, ha2]
    exact hK3 g _ hHeld.1

end Go.Proofs.YtippipeebkkghaaGreatDoor
