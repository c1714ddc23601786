/- Texts of this proof, joined: Yg, Yh, Yj, Yk. -/
import Derived.Test.YtmncocmeafcpfaaDoorMgAT
import Derived.Deep.RegionHeld3
import Derived.Deep.RegionHeldLaw
import Derived.Test.YtmncocmeafcpfaaDoorMgAP
/- Fetches: On of the one shard. -/
namespace Go.Proofs.YtmncocmeafcpfaaDoor
set_option linter.unusedVariables false
set_option linter.unusedSimpArgs false
open Go.RowKit Go.Deep

set_option maxRecDepth 100000 in
set_option maxHeartbeats 1600000 in
theorem lies_ok (q oq cq : Nat) (bv : Value) (w : World) (hq : w.cell? ⟨q, oq, none⟩ = some (.int .i64 3)) : Calls Tryd.prog 96 #[.agg (msgF 13 3 9 0 true bv), .int .i64 9, .slice (some ⟨q, oq, none⟩) 1 cq] w fun e w' => e = .returned (.bool true) ∧ Kp (fun _ => False) w w' := by
  have hl : Lv (w.alloc (.cells (msgF 13 3 9 0 true bv) 45)) w.heap.size (msgF 13 3 9 0 true bv).toList := Lv.new w _ _
  have k0 : Kp (fun _ => False) w (w.alloc (.cells (msgF 13 3 9 0 true bv) 45)) := (Kp.refl _ _).alloc _
  have q0 := k0.cellv hq id
  have x1 := hl.cell (j := 1) rfl
  have x5 := hl.cell (j := 5) rfl
  have x6 := hl.cell (j := 6) rfl
  clear hl
  go_enter Tryd.func96, Tryd.ntmps96
  go_wp2
  go_quiet (fail)
  go_wp2
  go_ret
  exact ⟨rfl, k0.drewN _⟩

/-- a whole struct is loaded, at a step of a region that draws its order -/
theorem step_load_all {ops : Array Oper} {o : Oper} {a : Act} {K : Act → World → Prop} {Q : Exit → Act → World → Prop} {E : Prop} (w : World) (hgd : o.guard = none) (ty : TypeId) (x : Operand) (ho : o.op = .load ty x)
    (n g : Nat) (cs : List Value) (hx : a.eval x = .pointer (some ⟨g, 0, none⟩)) (hL : Lv w g cs) (hd : ∃ d, Tryd.prog.underlying ty = some d ∧ d.isRow = true)
    (hi : (Tryd.prog.info? ty).map (·.size) = some n) (hn : cs.length = n) (h : K (a.put o.dst (.agg cs.toArray)) w) :
    if Region.wanted o (yielded ops a.tmps) = true then Oper.wp Tryd.prog o a w K Q else E := by
  have hw : Region.wanted o (yielded ops a.tmps) = true := by simp [Region.wanted, hgd]
  rw [if_pos hw]
  have hr := hL.load hd hi hn
  have hrun : (execOp a.eval o).run Tryd.prog w = .ok (.value (.agg cs.toArray)) w := by
    unfold execOp
    simp only [ho, hx]
    simp [Instr.loadAt, Instr.sureAddr, hr]
  unfold Oper.wp
  rw [hrun]
  exact h

section
variable {w : World} {f q oq cq g : Nat}

set_option maxRecDepth 100000 in
set_option maxHeartbeats 1600000 in
theorem flength_ok (cv : Value) (k : Int) (h : Lv w f (fetA b95 (.slice (some ⟨q, oq, none⟩) 1 cq) cv k)) : Calls Tryd.prog 55 #[.pointer (some ⟨f, 0, none⟩)] w fun e w' => e = .returned (.int .i64 8) ∧ Kp (fun _ => False) w w' := by
  have H : Hid (∀ z, Calls Tryd.prog 95 #[code10, .int .i64 5] z _) := fun z => length10 z
  have c1 := h.cell (j := 1) rfl
  have c3 := h.cell (j := 3) rfl
  have c4 := h.cell (j := 4) rfl
  have HSw : Hid (∀ z, Kp (fun _ => False) w z → z.cell? ⟨f, 1, none⟩ = some (.int .i64 5) ∧ z.cell? ⟨f, 3, none⟩ = some (.int .i64 1) ∧ z.cell? ⟨f, 4, none⟩ = some (.int .i64 0)) := fun z k => ⟨k.cellv c1 id, k.cellv c3 id, k.cellv c4 id⟩
  have kd : Kp (fun _ => False) w w.drew := (Kp.refl _ _).drew
  clear h
  go_enter Tryd.func55, Tryd.ntmps55
  go_wp2
  go_region_held3 (fun z => z.cell? ⟨f, 1, none⟩ = some (.int .i64 5) ∧ z.cell? ⟨f, 3, none⟩ = some (.int .i64 1) ∧ z.cell? ⟨f, 4, none⟩ = some (.int .i64 0))
    (first
      | exact HSw.out _ kd
      | exact HSw.out _ k2)
    (first | (go_at_call 95; refine (H.out _).mono ?_; rintro e w2 ⟨rfl, kk⟩; have k2 := kd.trans kk (fun _ _ e => e)))
  go_wp2
  go_ret
  exact ⟨rfl, k2⟩
end
end Go.Proofs.YtmncocmeafcpfaaDoor

/- Drawn regions of fetches and movers (laid by scripts/mkyh.py). -/
namespace Go.Proofs.YtmncocmeafcpfaaDoor
set_option linter.unusedVariables false
set_option linter.unusedSimpArgs false
open Go.RowKit Go.Deep

theorem exec_load {ev : Operand → Value} {d : Option Tmp} {ty ty2 : TypeId} {x : Operand} {v : Value} {b : Addr} {z : World} (he : ev x = .pointer (some b)) (hr : (loadVar ty b).run Tryd.prog z = .ok v z) : (execOp ev ⟨d, Op.load ty x, ty2, "", #[], none⟩).run Tryd.prog z = .ok (.value v) z := by
  unfold execOp
  simp only [he]
  simp [Instr.loadAt, Instr.sureAddr, hr]

theorem fo3_0 (bx f g q oq cq : Nat) (mv : Array Value) (ev : Operand → Value) (z : World) (ec : ∀ c, ev (.const c) = c) (e3 : ev (.tmp 3) = .pointer (some ⟨bx, 0, none⟩)) (hS : (loadVar 45 ⟨bx, 0, none⟩).run Tryd.prog z = .ok (.agg mv) z ∧ z.cell? ⟨bx, 6, none⟩ = some (.int .i64 0) ∧ z.cell? ⟨f, 0, none⟩ = some (.int .i64 9) ∧ z.cell? ⟨f, 5, none⟩ = some (.slice (some ⟨q, oq, none⟩) 1 cq) ∧ z.cell? ⟨f, 6, none⟩ = some (.slice (some ⟨g, 0, none⟩) 1 1) ∧ z.cell? ⟨g, 0, none⟩ = some (.slice none 0 0)) : (execOp ev ⟨some 21, Op.load 45 (Operand.tmp 3), 45, "", #[], none⟩).run Tryd.prog z = .ok (.value (.agg mv)) z := by
  exact exec_load e3 hS.1
theorem fo3_1 (bx f g q oq cq : Nat) (mv : Array Value) (ev : Operand → Value) (z : World) (ec : ∀ c, ev (.const c) = c) (e0 : ev (.tmp 0) = .pointer (some ⟨f, 0, none⟩)) (hS : (loadVar 45 ⟨bx, 0, none⟩).run Tryd.prog z = .ok (.agg mv) z ∧ z.cell? ⟨bx, 6, none⟩ = some (.int .i64 0) ∧ z.cell? ⟨f, 0, none⟩ = some (.int .i64 9) ∧ z.cell? ⟨f, 5, none⟩ = some (.slice (some ⟨q, oq, none⟩) 1 cq) ∧ z.cell? ⟨f, 6, none⟩ = some (.slice (some ⟨g, 0, none⟩) 1 1) ∧ z.cell? ⟨g, 0, none⟩ = some (.slice none 0 0)) : (execOp ev ⟨some 22, Op.move (Operand.tmp 0), 58, "", #[], none⟩).run Tryd.prog z = .ok (.value (.pointer (some ⟨f, 0, none⟩))) z := by
  obtain ⟨sl, s6, s0, s5, s6f, sg⟩ := hS
  go_simp
theorem fo3_2 (bx f g q oq cq : Nat) (mv : Array Value) (ev : Operand → Value) (z : World) (ec : ∀ c, ev (.const c) = c) (e22 : ev (.tmp 22) = .pointer (some ⟨f, 0, none⟩)) (hS : (loadVar 45 ⟨bx, 0, none⟩).run Tryd.prog z = .ok (.agg mv) z ∧ z.cell? ⟨bx, 6, none⟩ = some (.int .i64 0) ∧ z.cell? ⟨f, 0, none⟩ = some (.int .i64 9) ∧ z.cell? ⟨f, 5, none⟩ = some (.slice (some ⟨q, oq, none⟩) 1 cq) ∧ z.cell? ⟨f, 6, none⟩ = some (.slice (some ⟨g, 0, none⟩) 1 1) ∧ z.cell? ⟨g, 0, none⟩ = some (.slice none 0 0)) : (execOp ev ⟨some 23, Op.nilCheck (Operand.tmp 22), 0, "", #[], none⟩).run Tryd.prog z = .ok (.value (.pointer (some ⟨f, 0, none⟩))) z := by
  obtain ⟨sl, s6, s0, s5, s6f, sg⟩ := hS
  go_simp
theorem fo3_3 (bx f g q oq cq : Nat) (mv : Array Value) (ev : Operand → Value) (z : World) (ec : ∀ c, ev (.const c) = c) (e23 : ev (.tmp 23) = .pointer (some ⟨f, 0, none⟩)) (hS : (loadVar 45 ⟨bx, 0, none⟩).run Tryd.prog z = .ok (.agg mv) z ∧ z.cell? ⟨bx, 6, none⟩ = some (.int .i64 0) ∧ z.cell? ⟨f, 0, none⟩ = some (.int .i64 9) ∧ z.cell? ⟨f, 5, none⟩ = some (.slice (some ⟨q, oq, none⟩) 1 cq) ∧ z.cell? ⟨f, 6, none⟩ = some (.slice (some ⟨g, 0, none⟩) 1 1) ∧ z.cell? ⟨g, 0, none⟩ = some (.slice none 0 0)) : (execOp ev ⟨some 24, Op.fieldAddr 143 (Operand.tmp 23) 0, 0, "", #[], none⟩).run Tryd.prog z = .ok (.value (.pointer (some ⟨f, 0, none⟩))) z := by
  obtain ⟨sl, s6, s0, s5, s6f, sg⟩ := hS
  go_simp
theorem fo3_4 (bx f g q oq cq : Nat) (mv : Array Value) (ev : Operand → Value) (z : World) (ec : ∀ c, ev (.const c) = c) (e24 : ev (.tmp 24) = .pointer (some ⟨f, 0, none⟩)) (hS : (loadVar 45 ⟨bx, 0, none⟩).run Tryd.prog z = .ok (.agg mv) z ∧ z.cell? ⟨bx, 6, none⟩ = some (.int .i64 0) ∧ z.cell? ⟨f, 0, none⟩ = some (.int .i64 9) ∧ z.cell? ⟨f, 5, none⟩ = some (.slice (some ⟨q, oq, none⟩) 1 cq) ∧ z.cell? ⟨f, 6, none⟩ = some (.slice (some ⟨g, 0, none⟩) 1 1) ∧ z.cell? ⟨g, 0, none⟩ = some (.slice none 0 0)) : (execOp ev ⟨some 25, Op.fieldAddr 33 (Operand.tmp 24) 0, 0, "", #[], none⟩).run Tryd.prog z = .ok (.value (.pointer (some ⟨f, 0, none⟩))) z := by
  obtain ⟨sl, s6, s0, s5, s6f, sg⟩ := hS
  go_simp
theorem fo3_5 (bx f g q oq cq : Nat) (mv : Array Value) (ev : Operand → Value) (z : World) (ec : ∀ c, ev (.const c) = c) (e25 : ev (.tmp 25) = .pointer (some ⟨f, 0, none⟩)) (hS : (loadVar 45 ⟨bx, 0, none⟩).run Tryd.prog z = .ok (.agg mv) z ∧ z.cell? ⟨bx, 6, none⟩ = some (.int .i64 0) ∧ z.cell? ⟨f, 0, none⟩ = some (.int .i64 9) ∧ z.cell? ⟨f, 5, none⟩ = some (.slice (some ⟨q, oq, none⟩) 1 cq) ∧ z.cell? ⟨f, 6, none⟩ = some (.slice (some ⟨g, 0, none⟩) 1 1) ∧ z.cell? ⟨g, 0, none⟩ = some (.slice none 0 0)) : (execOp ev ⟨some 26, Op.load 3 (Operand.tmp 25), 3, "", #[], none⟩).run Tryd.prog z = .ok (.value (.int .i64 9)) z := by
  obtain ⟨sl, s6, s0, s5, s6f, sg⟩ := hS
  go_simp
theorem fo3_6 (bx f g q oq cq : Nat) (mv : Array Value) (ev : Operand → Value) (z : World) (ec : ∀ c, ev (.const c) = c) (e0 : ev (.tmp 0) = .pointer (some ⟨f, 0, none⟩)) (hS : (loadVar 45 ⟨bx, 0, none⟩).run Tryd.prog z = .ok (.agg mv) z ∧ z.cell? ⟨bx, 6, none⟩ = some (.int .i64 0) ∧ z.cell? ⟨f, 0, none⟩ = some (.int .i64 9) ∧ z.cell? ⟨f, 5, none⟩ = some (.slice (some ⟨q, oq, none⟩) 1 cq) ∧ z.cell? ⟨f, 6, none⟩ = some (.slice (some ⟨g, 0, none⟩) 1 1) ∧ z.cell? ⟨g, 0, none⟩ = some (.slice none 0 0)) : (execOp ev ⟨some 27, Op.move (Operand.tmp 0), 58, "", #[], none⟩).run Tryd.prog z = .ok (.value (.pointer (some ⟨f, 0, none⟩))) z := by
  obtain ⟨sl, s6, s0, s5, s6f, sg⟩ := hS
  go_simp
theorem fo3_7 (bx f g q oq cq : Nat) (mv : Array Value) (ev : Operand → Value) (z : World) (ec : ∀ c, ev (.const c) = c) (e27 : ev (.tmp 27) = .pointer (some ⟨f, 0, none⟩)) (hS : (loadVar 45 ⟨bx, 0, none⟩).run Tryd.prog z = .ok (.agg mv) z ∧ z.cell? ⟨bx, 6, none⟩ = some (.int .i64 0) ∧ z.cell? ⟨f, 0, none⟩ = some (.int .i64 9) ∧ z.cell? ⟨f, 5, none⟩ = some (.slice (some ⟨q, oq, none⟩) 1 cq) ∧ z.cell? ⟨f, 6, none⟩ = some (.slice (some ⟨g, 0, none⟩) 1 1) ∧ z.cell? ⟨g, 0, none⟩ = some (.slice none 0 0)) : (execOp ev ⟨some 28, Op.nilCheck (Operand.tmp 27), 0, "", #[], none⟩).run Tryd.prog z = .ok (.value (.pointer (some ⟨f, 0, none⟩))) z := by
  obtain ⟨sl, s6, s0, s5, s6f, sg⟩ := hS
  go_simp
theorem fo3_8 (bx f g q oq cq : Nat) (mv : Array Value) (ev : Operand → Value) (z : World) (ec : ∀ c, ev (.const c) = c) (e28 : ev (.tmp 28) = .pointer (some ⟨f, 0, none⟩)) (hS : (loadVar 45 ⟨bx, 0, none⟩).run Tryd.prog z = .ok (.agg mv) z ∧ z.cell? ⟨bx, 6, none⟩ = some (.int .i64 0) ∧ z.cell? ⟨f, 0, none⟩ = some (.int .i64 9) ∧ z.cell? ⟨f, 5, none⟩ = some (.slice (some ⟨q, oq, none⟩) 1 cq) ∧ z.cell? ⟨f, 6, none⟩ = some (.slice (some ⟨g, 0, none⟩) 1 1) ∧ z.cell? ⟨g, 0, none⟩ = some (.slice none 0 0)) : (execOp ev ⟨some 29, Op.fieldAddr 143 (Operand.tmp 28) 0, 0, "", #[], none⟩).run Tryd.prog z = .ok (.value (.pointer (some ⟨f, 0, none⟩))) z := by
  obtain ⟨sl, s6, s0, s5, s6f, sg⟩ := hS
  go_simp
theorem fo3_9 (bx f g q oq cq : Nat) (mv : Array Value) (ev : Operand → Value) (z : World) (ec : ∀ c, ev (.const c) = c) (e29 : ev (.tmp 29) = .pointer (some ⟨f, 0, none⟩)) (hS : (loadVar 45 ⟨bx, 0, none⟩).run Tryd.prog z = .ok (.agg mv) z ∧ z.cell? ⟨bx, 6, none⟩ = some (.int .i64 0) ∧ z.cell? ⟨f, 0, none⟩ = some (.int .i64 9) ∧ z.cell? ⟨f, 5, none⟩ = some (.slice (some ⟨q, oq, none⟩) 1 cq) ∧ z.cell? ⟨f, 6, none⟩ = some (.slice (some ⟨g, 0, none⟩) 1 1) ∧ z.cell? ⟨g, 0, none⟩ = some (.slice none 0 0)) : (execOp ev ⟨some 30, Op.fieldAddr 33 (Operand.tmp 29) 4, 0, "", #[], none⟩).run Tryd.prog z = .ok (.value (.pointer (some ⟨f, 5, none⟩))) z := by
  obtain ⟨sl, s6, s0, s5, s6f, sg⟩ := hS
  go_simp
theorem fo3_10 (bx f g q oq cq : Nat) (mv : Array Value) (ev : Operand → Value) (z : World) (ec : ∀ c, ev (.const c) = c) (e30 : ev (.tmp 30) = .pointer (some ⟨f, 5, none⟩)) (hS : (loadVar 45 ⟨bx, 0, none⟩).run Tryd.prog z = .ok (.agg mv) z ∧ z.cell? ⟨bx, 6, none⟩ = some (.int .i64 0) ∧ z.cell? ⟨f, 0, none⟩ = some (.int .i64 9) ∧ z.cell? ⟨f, 5, none⟩ = some (.slice (some ⟨q, oq, none⟩) 1 cq) ∧ z.cell? ⟨f, 6, none⟩ = some (.slice (some ⟨g, 0, none⟩) 1 1) ∧ z.cell? ⟨g, 0, none⟩ = some (.slice none 0 0)) : (execOp ev ⟨some 31, Op.load 23 (Operand.tmp 30), 23, "", #[], none⟩).run Tryd.prog z = .ok (.value (.slice (some ⟨q, oq, none⟩) 1 cq)) z := by
  obtain ⟨sl, s6, s0, s5, s6f, sg⟩ := hS
  go_simp
set_option maxRecDepth 100000 in
theorem fo3_11 (bx f g q oq cq : Nat) (mv : Array Value) (ev : Operand → Value) (z : World) (ef : ev (.func 96) = .func (.func 96) #[] #[]) (e21 : ev (.tmp 21) = .agg mv) (e26 : ev (.tmp 26) = .int .i64 9) (e31 : ev (.tmp 31) = .slice (some ⟨q, oq, none⟩) 1 cq) : (execOp ev ⟨some 32, Op.call { callee := Callee.value (Operand.func 96), args := #[Operand.tmp 21, Operand.tmp 26, Operand.tmp 31], argTypes := #[45, 3, 23] }, 4, "", #[], none⟩).run Tryd.prog z = .ok (.enter 96 #[.agg mv, .int .i64 9, .slice (some ⟨q, oq, none⟩) 1 cq]) z :=
  enter_run _ ef (by simp only [List.map_toArray, List.map_cons, List.map_nil, e21, e26, e31]) (fun _ => by rfl)
theorem fo3_12 (bx f g q oq cq : Nat) (mv : Array Value) (ev : Operand → Value) (z : World) (ec : ∀ c, ev (.const c) = c) (e32 : ev (.tmp 32) = .bool true) (hS : (loadVar 45 ⟨bx, 0, none⟩).run Tryd.prog z = .ok (.agg mv) z ∧ z.cell? ⟨bx, 6, none⟩ = some (.int .i64 0) ∧ z.cell? ⟨f, 0, none⟩ = some (.int .i64 9) ∧ z.cell? ⟨f, 5, none⟩ = some (.slice (some ⟨q, oq, none⟩) 1 cq) ∧ z.cell? ⟨f, 6, none⟩ = some (.slice (some ⟨g, 0, none⟩) 1 1) ∧ z.cell? ⟨g, 0, none⟩ = some (.slice none 0 0)) : (execOp ev ⟨some 33, Op.unOp UnOp.not 4 (Operand.tmp 32), 4, "", #[], none⟩).run Tryd.prog z = .ok (.value (.bool false)) z := by
  obtain ⟨sl, s6, s0, s5, s6f, sg⟩ := hS
  go_simp
theorem fo3_13 (bx f g q oq cq : Nat) (mv : Array Value) (ev : Operand → Value) (z : World) (ec : ∀ c, ev (.const c) = c) (e33 : ev (.tmp 33) = .bool false) (hS : (loadVar 45 ⟨bx, 0, none⟩).run Tryd.prog z = .ok (.agg mv) z ∧ z.cell? ⟨bx, 6, none⟩ = some (.int .i64 0) ∧ z.cell? ⟨f, 0, none⟩ = some (.int .i64 9) ∧ z.cell? ⟨f, 5, none⟩ = some (.slice (some ⟨q, oq, none⟩) 1 cq) ∧ z.cell? ⟨f, 6, none⟩ = some (.slice (some ⟨g, 0, none⟩) 1 1) ∧ z.cell? ⟨g, 0, none⟩ = some (.slice none 0 0)) : (execOp ev ⟨some 34, Op.move (Operand.tmp 33), 4, "", #[], none⟩).run Tryd.prog z = .ok (.value (.bool false)) z := by
  obtain ⟨sl, s6, s0, s5, s6f, sg⟩ := hS
  go_simp
theorem fo3_14 (bx f g q oq cq : Nat) (mv : Array Value) (ev : Operand → Value) (z : World) (ec : ∀ c, ev (.const c) = c) (e0 : ev (.tmp 0) = .pointer (some ⟨f, 0, none⟩)) (hS : (loadVar 45 ⟨bx, 0, none⟩).run Tryd.prog z = .ok (.agg mv) z ∧ z.cell? ⟨bx, 6, none⟩ = some (.int .i64 0) ∧ z.cell? ⟨f, 0, none⟩ = some (.int .i64 9) ∧ z.cell? ⟨f, 5, none⟩ = some (.slice (some ⟨q, oq, none⟩) 1 cq) ∧ z.cell? ⟨f, 6, none⟩ = some (.slice (some ⟨g, 0, none⟩) 1 1) ∧ z.cell? ⟨g, 0, none⟩ = some (.slice none 0 0)) : (execOp ev ⟨some 35, Op.move (Operand.tmp 0), 58, "", #[], some (13, false)⟩).run Tryd.prog z = .ok (.value (.pointer (some ⟨f, 0, none⟩))) z := by
  obtain ⟨sl, s6, s0, s5, s6f, sg⟩ := hS
  go_simp
theorem fo3_15 (bx f g q oq cq : Nat) (mv : Array Value) (ev : Operand → Value) (z : World) (ec : ∀ c, ev (.const c) = c) (e35 : ev (.tmp 35) = .pointer (some ⟨f, 0, none⟩)) (hS : (loadVar 45 ⟨bx, 0, none⟩).run Tryd.prog z = .ok (.agg mv) z ∧ z.cell? ⟨bx, 6, none⟩ = some (.int .i64 0) ∧ z.cell? ⟨f, 0, none⟩ = some (.int .i64 9) ∧ z.cell? ⟨f, 5, none⟩ = some (.slice (some ⟨q, oq, none⟩) 1 cq) ∧ z.cell? ⟨f, 6, none⟩ = some (.slice (some ⟨g, 0, none⟩) 1 1) ∧ z.cell? ⟨g, 0, none⟩ = some (.slice none 0 0)) : (execOp ev ⟨some 36, Op.nilCheck (Operand.tmp 35), 0, "", #[], some (13, false)⟩).run Tryd.prog z = .ok (.value (.pointer (some ⟨f, 0, none⟩))) z := by
  obtain ⟨sl, s6, s0, s5, s6f, sg⟩ := hS
  go_simp
theorem fo3_16 (bx f g q oq cq : Nat) (mv : Array Value) (ev : Operand → Value) (z : World) (ec : ∀ c, ev (.const c) = c) (e36 : ev (.tmp 36) = .pointer (some ⟨f, 0, none⟩)) (hS : (loadVar 45 ⟨bx, 0, none⟩).run Tryd.prog z = .ok (.agg mv) z ∧ z.cell? ⟨bx, 6, none⟩ = some (.int .i64 0) ∧ z.cell? ⟨f, 0, none⟩ = some (.int .i64 9) ∧ z.cell? ⟨f, 5, none⟩ = some (.slice (some ⟨q, oq, none⟩) 1 cq) ∧ z.cell? ⟨f, 6, none⟩ = some (.slice (some ⟨g, 0, none⟩) 1 1) ∧ z.cell? ⟨g, 0, none⟩ = some (.slice none 0 0)) : (execOp ev ⟨some 37, Op.fieldAddr 143 (Operand.tmp 36) 1, 0, "", #[], some (13, false)⟩).run Tryd.prog z = .ok (.value (.pointer (some ⟨f, 6, none⟩))) z := by
  obtain ⟨sl, s6, s0, s5, s6f, sg⟩ := hS
  go_simp
theorem fo3_17 (bx f g q oq cq : Nat) (mv : Array Value) (ev : Operand → Value) (z : World) (ec : ∀ c, ev (.const c) = c) (e37 : ev (.tmp 37) = .pointer (some ⟨f, 6, none⟩)) (hS : (loadVar 45 ⟨bx, 0, none⟩).run Tryd.prog z = .ok (.agg mv) z ∧ z.cell? ⟨bx, 6, none⟩ = some (.int .i64 0) ∧ z.cell? ⟨f, 0, none⟩ = some (.int .i64 9) ∧ z.cell? ⟨f, 5, none⟩ = some (.slice (some ⟨q, oq, none⟩) 1 cq) ∧ z.cell? ⟨f, 6, none⟩ = some (.slice (some ⟨g, 0, none⟩) 1 1) ∧ z.cell? ⟨g, 0, none⟩ = some (.slice none 0 0)) : (execOp ev ⟨some 38, Op.load 27 (Operand.tmp 37), 27, "", #[], some (13, false)⟩).run Tryd.prog z = .ok (.value (.slice (some ⟨g, 0, none⟩) 1 1)) z := by
  obtain ⟨sl, s6, s0, s5, s6f, sg⟩ := hS
  go_simp
theorem fo3_18 (bx f g q oq cq : Nat) (mv : Array Value) (ev : Operand → Value) (z : World) (ec : ∀ c, ev (.const c) = c) (e3 : ev (.tmp 3) = .pointer (some ⟨bx, 0, none⟩)) (hS : (loadVar 45 ⟨bx, 0, none⟩).run Tryd.prog z = .ok (.agg mv) z ∧ z.cell? ⟨bx, 6, none⟩ = some (.int .i64 0) ∧ z.cell? ⟨f, 0, none⟩ = some (.int .i64 9) ∧ z.cell? ⟨f, 5, none⟩ = some (.slice (some ⟨q, oq, none⟩) 1 cq) ∧ z.cell? ⟨f, 6, none⟩ = some (.slice (some ⟨g, 0, none⟩) 1 1) ∧ z.cell? ⟨g, 0, none⟩ = some (.slice none 0 0)) : (execOp ev ⟨some 39, Op.fieldAddr 45 (Operand.tmp 3) 6, 0, "", #[], some (13, false)⟩).run Tryd.prog z = .ok (.value (.pointer (some ⟨bx, 6, none⟩))) z := by
  obtain ⟨sl, s6, s0, s5, s6f, sg⟩ := hS
  go_simp
theorem fo3_19 (bx f g q oq cq : Nat) (mv : Array Value) (ev : Operand → Value) (z : World) (ec : ∀ c, ev (.const c) = c) (e39 : ev (.tmp 39) = .pointer (some ⟨bx, 6, none⟩)) (hS : (loadVar 45 ⟨bx, 0, none⟩).run Tryd.prog z = .ok (.agg mv) z ∧ z.cell? ⟨bx, 6, none⟩ = some (.int .i64 0) ∧ z.cell? ⟨f, 0, none⟩ = some (.int .i64 9) ∧ z.cell? ⟨f, 5, none⟩ = some (.slice (some ⟨q, oq, none⟩) 1 cq) ∧ z.cell? ⟨f, 6, none⟩ = some (.slice (some ⟨g, 0, none⟩) 1 1) ∧ z.cell? ⟨g, 0, none⟩ = some (.slice none 0 0)) : (execOp ev ⟨some 40, Op.load 3 (Operand.tmp 39), 3, "", #[], some (13, false)⟩).run Tryd.prog z = .ok (.value (.int .i64 0)) z := by
  obtain ⟨sl, s6, s0, s5, s6f, sg⟩ := hS
  go_simp
theorem fo3_20 (bx f g q oq cq : Nat) (mv : Array Value) (ev : Operand → Value) (z : World) (ec : ∀ c, ev (.const c) = c) (e38 : ev (.tmp 38) = .slice (some ⟨g, 0, none⟩) 1 1) (e40 : ev (.tmp 40) = .int .i64 0) (hS : (loadVar 45 ⟨bx, 0, none⟩).run Tryd.prog z = .ok (.agg mv) z ∧ z.cell? ⟨bx, 6, none⟩ = some (.int .i64 0) ∧ z.cell? ⟨f, 0, none⟩ = some (.int .i64 9) ∧ z.cell? ⟨f, 5, none⟩ = some (.slice (some ⟨q, oq, none⟩) 1 cq) ∧ z.cell? ⟨f, 6, none⟩ = some (.slice (some ⟨g, 0, none⟩) 1 1) ∧ z.cell? ⟨g, 0, none⟩ = some (.slice none 0 0)) : (execOp ev ⟨some 41, Op.indexAddr 27 (Operand.tmp 38) (Operand.tmp 40), 0, "", #[], some (13, false)⟩).run Tryd.prog z = .ok (.value (.pointer (some ⟨g, 0, none⟩))) z := by
  obtain ⟨sl, s6, s0, s5, s6f, sg⟩ := hS
  go_simp
theorem fo3_21 (bx f g q oq cq : Nat) (mv : Array Value) (ev : Operand → Value) (z : World) (ec : ∀ c, ev (.const c) = c) (e41 : ev (.tmp 41) = .pointer (some ⟨g, 0, none⟩)) (hS : (loadVar 45 ⟨bx, 0, none⟩).run Tryd.prog z = .ok (.agg mv) z ∧ z.cell? ⟨bx, 6, none⟩ = some (.int .i64 0) ∧ z.cell? ⟨f, 0, none⟩ = some (.int .i64 9) ∧ z.cell? ⟨f, 5, none⟩ = some (.slice (some ⟨q, oq, none⟩) 1 cq) ∧ z.cell? ⟨f, 6, none⟩ = some (.slice (some ⟨g, 0, none⟩) 1 1) ∧ z.cell? ⟨g, 0, none⟩ = some (.slice none 0 0)) : (execOp ev ⟨some 42, Op.load 22 (Operand.tmp 41), 22, "", #[], some (13, false)⟩).run Tryd.prog z = .ok (.value (.slice none 0 0)) z := by
  obtain ⟨sl, s6, s0, s5, s6f, sg⟩ := hS
  go_simp
theorem fo3_22 (bx f g q oq cq : Nat) (mv : Array Value) (ev : Operand → Value) (z : World) (ec : ∀ c, ev (.const c) = c) (e42 : ev (.tmp 42) = .slice none 0 0) (hS : (loadVar 45 ⟨bx, 0, none⟩).run Tryd.prog z = .ok (.agg mv) z ∧ z.cell? ⟨bx, 6, none⟩ = some (.int .i64 0) ∧ z.cell? ⟨f, 0, none⟩ = some (.int .i64 9) ∧ z.cell? ⟨f, 5, none⟩ = some (.slice (some ⟨q, oq, none⟩) 1 cq) ∧ z.cell? ⟨f, 6, none⟩ = some (.slice (some ⟨g, 0, none⟩) 1 1) ∧ z.cell? ⟨g, 0, none⟩ = some (.slice none 0 0)) : (execOp ev ⟨some 43, Op.call { callee := Callee.builtin Builtin.len, args := #[Operand.tmp 42], argTypes := #[22] }, 3, "", #[], some (13, false)⟩).run Tryd.prog z = .ok (.value (.int .i64 0)) z := by
  obtain ⟨sl, s6, s0, s5, s6f, sg⟩ := hS
  go_simp
theorem fo3_23 (bx f g q oq cq : Nat) (mv : Array Value) (ev : Operand → Value) (z : World) (ec : ∀ c, ev (.const c) = c) (e43 : ev (.tmp 43) = .int .i64 0) (hS : (loadVar 45 ⟨bx, 0, none⟩).run Tryd.prog z = .ok (.agg mv) z ∧ z.cell? ⟨bx, 6, none⟩ = some (.int .i64 0) ∧ z.cell? ⟨f, 0, none⟩ = some (.int .i64 9) ∧ z.cell? ⟨f, 5, none⟩ = some (.slice (some ⟨q, oq, none⟩) 1 cq) ∧ z.cell? ⟨f, 6, none⟩ = some (.slice (some ⟨g, 0, none⟩) 1 1) ∧ z.cell? ⟨g, 0, none⟩ = some (.slice none 0 0)) : (execOp ev ⟨some 44, Op.binOp BinOp.gtr 3 (Operand.tmp 43) (Operand.const (Value.int IntKind.i64 0)) 3, 4, "", #[], some (13, false)⟩).run Tryd.prog z = .ok (.value (.bool false)) z := by
  obtain ⟨sl, s6, s0, s5, s6f, sg⟩ := hS
  go_simp
theorem fo3_24 (bx f g q oq cq : Nat) (mv : Array Value) (ev : Operand → Value) (z : World) (ec : ∀ c, ev (.const c) = c) (e34 : ev (.tmp 34) = .bool false) (e44 : ev (.tmp 44) = .bool false) (hS : (loadVar 45 ⟨bx, 0, none⟩).run Tryd.prog z = .ok (.agg mv) z ∧ z.cell? ⟨bx, 6, none⟩ = some (.int .i64 0) ∧ z.cell? ⟨f, 0, none⟩ = some (.int .i64 9) ∧ z.cell? ⟨f, 5, none⟩ = some (.slice (some ⟨q, oq, none⟩) 1 cq) ∧ z.cell? ⟨f, 6, none⟩ = some (.slice (some ⟨g, 0, none⟩) 1 1) ∧ z.cell? ⟨g, 0, none⟩ = some (.slice none 0 0)) : (execOp ev ⟨some 45, Op.pick (Operand.tmp 34) (Operand.const (Value.bool true)) (Operand.tmp 44), 4, "", #[], none⟩).run Tryd.prog z = .ok (.value (.bool false)) z := by
  obtain ⟨sl, s6, s0, s5, s6f, sg⟩ := hS
  go_simp
structure fo3R (ops : Array Oper) : Prop where
  size : ops.size = 25
  sel : Region.noSelect ops = true
  o0 : (ops[0]?).map bare = some ⟨some 21, Op.load 45 (Operand.tmp 3), 45, "", #[], none⟩
  o1 : (ops[1]?).map bare = some ⟨some 22, Op.move (Operand.tmp 0), 58, "", #[], none⟩
  o2 : (ops[2]?).map bare = some ⟨some 23, Op.nilCheck (Operand.tmp 22), 0, "", #[], none⟩
  o3 : (ops[3]?).map bare = some ⟨some 24, Op.fieldAddr 143 (Operand.tmp 23) 0, 0, "", #[], none⟩
  o4 : (ops[4]?).map bare = some ⟨some 25, Op.fieldAddr 33 (Operand.tmp 24) 0, 0, "", #[], none⟩
  o5 : (ops[5]?).map bare = some ⟨some 26, Op.load 3 (Operand.tmp 25), 3, "", #[], none⟩
  o6 : (ops[6]?).map bare = some ⟨some 27, Op.move (Operand.tmp 0), 58, "", #[], none⟩
  o7 : (ops[7]?).map bare = some ⟨some 28, Op.nilCheck (Operand.tmp 27), 0, "", #[], none⟩
  o8 : (ops[8]?).map bare = some ⟨some 29, Op.fieldAddr 143 (Operand.tmp 28) 0, 0, "", #[], none⟩
  o9 : (ops[9]?).map bare = some ⟨some 30, Op.fieldAddr 33 (Operand.tmp 29) 4, 0, "", #[], none⟩
  o10 : (ops[10]?).map bare = some ⟨some 31, Op.load 23 (Operand.tmp 30), 23, "", #[], none⟩
  o11 : (ops[11]?).map bare = some ⟨some 32, Op.call { callee := Callee.value (Operand.func 96), args := #[Operand.tmp 21, Operand.tmp 26, Operand.tmp 31], argTypes := #[45, 3, 23] }, 4, "", #[], none⟩
  o12 : (ops[12]?).map bare = some ⟨some 33, Op.unOp UnOp.not 4 (Operand.tmp 32), 4, "", #[], none⟩
  o13 : (ops[13]?).map bare = some ⟨some 34, Op.move (Operand.tmp 33), 4, "", #[], none⟩
  o14 : (ops[14]?).map bare = some ⟨some 35, Op.move (Operand.tmp 0), 58, "", #[], some (13, false)⟩
  o15 : (ops[15]?).map bare = some ⟨some 36, Op.nilCheck (Operand.tmp 35), 0, "", #[], some (13, false)⟩
  o16 : (ops[16]?).map bare = some ⟨some 37, Op.fieldAddr 143 (Operand.tmp 36) 1, 0, "", #[], some (13, false)⟩
  o17 : (ops[17]?).map bare = some ⟨some 38, Op.load 27 (Operand.tmp 37), 27, "", #[], some (13, false)⟩
  o18 : (ops[18]?).map bare = some ⟨some 39, Op.fieldAddr 45 (Operand.tmp 3) 6, 0, "", #[], some (13, false)⟩
  o19 : (ops[19]?).map bare = some ⟨some 40, Op.load 3 (Operand.tmp 39), 3, "", #[], some (13, false)⟩
  o20 : (ops[20]?).map bare = some ⟨some 41, Op.indexAddr 27 (Operand.tmp 38) (Operand.tmp 40), 0, "", #[], some (13, false)⟩
  o21 : (ops[21]?).map bare = some ⟨some 42, Op.load 22 (Operand.tmp 41), 22, "", #[], some (13, false)⟩
  o22 : (ops[22]?).map bare = some ⟨some 43, Op.call { callee := Callee.builtin Builtin.len, args := #[Operand.tmp 42], argTypes := #[22] }, 3, "", #[], some (13, false)⟩
  o23 : (ops[23]?).map bare = some ⟨some 44, Op.binOp BinOp.gtr 3 (Operand.tmp 43) (Operand.const (Value.int IntKind.i64 0)) 3, 4, "", #[], some (13, false)⟩
  o24 : (ops[24]?).map bare = some ⟨some 45, Op.pick (Operand.tmp 34) (Operand.const (Value.bool true)) (Operand.tmp 44), 4, "", #[], none⟩
  may0 : takeB .any ops [0, 1, 2, 3, 4, 5, 6, 7, 8, 9, 10] (Array.replicate 25 false) = true
  r11 : Region.ready .any ops (mark [0, 1, 2, 3, 4, 5, 6, 7, 8, 9, 10] (Array.replicate 25 false)) = [11]
  may1 : takeB .any ops [12, 13, 14, 15, 16, 17, 18, 19, 20, 21, 22, 23, 24] ((mark [0, 1, 2, 3, 4, 5, 6, 7, 8, 9, 10] (Array.replicate 25 false)).setIfInBounds 11 true) = true
  fin : Region.ready .any ops (mark [12, 13, 14, 15, 16, 17, 18, 19, 20, 21, 22, 23, 24] ((mark [0, 1, 2, 3, 4, 5, 6, 7, 8, 9, 10] (Array.replicate 25 false)).setIfInBounds 11 true)) = []

set_option maxRecDepth 100000 in
set_option maxHeartbeats 3200000 in
theorem fo3_region {ops : Array Oper} {id : Nat} {Q : Exit → Act → World → Prop} {a : Act} {y : World} (R : fo3R ops) (bx f g q oq cq : Nat) (mv : Array Value)
    (hQ : ∀ d v c a w, Q (.panic c) (a.put d v) w → Q (.panic c) a w) (hsz : a.tmps.size = 63) (e0 : a.eval (.tmp 0) = .pointer (some ⟨f, 0, none⟩)) (e3 : a.eval (.tmp 3) = .pointer (some ⟨bx, 0, none⟩)) (hS0 : (loadVar 45 ⟨bx, 0, none⟩).run Tryd.prog y.drew = .ok (.agg mv) y.drew ∧ y.drew.cell? ⟨bx, 6, none⟩ = some (.int .i64 0) ∧ y.drew.cell? ⟨f, 0, none⟩ = some (.int .i64 9) ∧ y.drew.cell? ⟨f, 5, none⟩ = some (.slice (some ⟨q, oq, none⟩) 1 cq) ∧ y.drew.cell? ⟨f, 6, none⟩ = some (.slice (some ⟨g, 0, none⟩) 1 1) ∧ y.drew.cell? ⟨g, 0, none⟩ = some (.slice none 0 0)) (T : World → Prop) (hc : Calls Tryd.prog 96 #[.agg mv, .int .i64 9, .slice (some ⟨q, oq, none⟩) 1 cq] y.drew fun e w9 => e = .returned (.bool true) ∧ ((loadVar 45 ⟨bx, 0, none⟩).run Tryd.prog w9 = .ok (.agg mv) w9 ∧ w9.cell? ⟨bx, 6, none⟩ = some (.int .i64 0) ∧ w9.cell? ⟨f, 0, none⟩ = some (.int .i64 9) ∧ w9.cell? ⟨f, 5, none⟩ = some (.slice (some ⟨q, oq, none⟩) 1 cq) ∧ w9.cell? ⟨f, 6, none⟩ = some (.slice (some ⟨g, 0, none⟩) 1 1) ∧ w9.cell? ⟨g, 0, none⟩ = some (.slice none 0 0)) ∧ T w9)
    (hK : ∀ w9 : World, T w9 → Q .normal (((((((((((((((((((((((((a.put (some 21) (.agg mv)).put (some 22) (.pointer (some ⟨f, 0, none⟩))).put (some 23) (.pointer (some ⟨f, 0, none⟩))).put (some 24) (.pointer (some ⟨f, 0, none⟩))).put (some 25) (.pointer (some ⟨f, 0, none⟩))).put (some 26) (.int .i64 9)).put (some 27) (.pointer (some ⟨f, 0, none⟩))).put (some 28) (.pointer (some ⟨f, 0, none⟩))).put (some 29) (.pointer (some ⟨f, 0, none⟩))).put (some 30) (.pointer (some ⟨f, 5, none⟩))).put (some 31) (.slice (some ⟨q, oq, none⟩) 1 cq)).put (some 32) (.bool true)).put (some 33) (.bool false)).put (some 34) (.bool false)).put (some 35) (.pointer (some ⟨f, 0, none⟩))).put (some 36) (.pointer (some ⟨f, 0, none⟩))).put (some 37) (.pointer (some ⟨f, 6, none⟩))).put (some 38) (.slice (some ⟨g, 0, none⟩) 1 1)).put (some 39) (.pointer (some ⟨bx, 6, none⟩))).put (some 40) (.int .i64 0)).put (some 41) (.pointer (some ⟨g, 0, none⟩))).put (some 42) (.slice none 0 0)).put (some 43) (.int .i64 0)).put (some 44) (.bool false)).put (some 45) (.bool false)) w9) : (Code.region id ops true).wp Tryd.prog Q a y := by
  have HR : Hid (fo3R ops) := R
  have hdf : a.defers = a.defers := rfl
  refine wp_region_held_drew (S := (fun z : World => (loadVar 45 ⟨bx, 0, none⟩).run Tryd.prog z = .ok (.agg mv) z ∧ z.cell? ⟨bx, 6, none⟩ = some (.int .i64 0) ∧ z.cell? ⟨f, 0, none⟩ = some (.int .i64 9) ∧ z.cell? ⟨f, 5, none⟩ = some (.slice (some ⟨q, oq, none⟩) 1 cq) ∧ z.cell? ⟨f, 6, none⟩ = some (.slice (some ⟨g, 0, none⟩) 1 1) ∧ z.cell? ⟨g, 0, none⟩ = some (.slice none 0 0))) (by kernel_rfl) (hS0) (fun hHeld => ?_)
  rw [R.size]
  clear R
  refine wpAnyH_takes HR.out.sel hQ hHeld [0, 1, 2, 3, 4, 5, 6, 7, 8, 9, 10] 14 _ _ HR.out.may0 ?_
  refine wpTake_stepE ⟨some 21, Op.load 45 (Operand.tmp 3), 45, "", #[], none⟩ 21 (.agg mv) HR.out.o0 rfl (by rw [hsz]; decide) (wanted_none rfl) (fun z hS => fo3_0 bx f g q oq cq mv _ z (fun _ => rfl) e3 hS) ?_
  intro a1 ha1 s1 f1 n1 k1
  replace hsz := s1.trans hsz
  replace hdf := f1.trans hdf
  replace e0 := (k1 0 (by decide)).trans e0
  replace e3 := (k1 3 (by decide)).trans e3
  have e21 := n1
  clear s1 f1 n1 k1
  refine wpTake_stepE ⟨some 22, Op.move (Operand.tmp 0), 58, "", #[], none⟩ 22 (.pointer (some ⟨f, 0, none⟩)) HR.out.o1 rfl (by rw [hsz]; decide) (wanted_none rfl) (fun z hS => fo3_1 bx f g q oq cq mv _ z (fun _ => rfl) e0 hS) ?_
  intro a2 ha2 s1 f1 n1 k1
  replace hsz := s1.trans hsz
  replace hdf := f1.trans hdf
  replace e0 := (k1 0 (by decide)).trans e0
  replace e3 := (k1 3 (by decide)).trans e3
  replace e21 := (k1 21 (by decide)).trans e21
  have e22 := n1
  clear s1 f1 n1 k1
  refine wpTake_stepE ⟨some 23, Op.nilCheck (Operand.tmp 22), 0, "", #[], none⟩ 23 (.pointer (some ⟨f, 0, none⟩)) HR.out.o2 rfl (by rw [hsz]; decide) (wanted_none rfl) (fun z hS => fo3_2 bx f g q oq cq mv _ z (fun _ => rfl) e22 hS) ?_
  intro a3 ha3 s1 f1 n1 k1
  replace hsz := s1.trans hsz
  replace hdf := f1.trans hdf
  replace e0 := (k1 0 (by decide)).trans e0
  replace e3 := (k1 3 (by decide)).trans e3
  replace e21 := (k1 21 (by decide)).trans e21
  have e23 := n1
  clear s1 f1 n1 k1
  refine wpTake_stepE ⟨some 24, Op.fieldAddr 143 (Operand.tmp 23) 0, 0, "", #[], none⟩ 24 (.pointer (some ⟨f, 0, none⟩)) HR.out.o3 rfl (by rw [hsz]; decide) (wanted_none rfl) (fun z hS => fo3_3 bx f g q oq cq mv _ z (fun _ => rfl) e23 hS) ?_
  intro a4 ha4 s1 f1 n1 k1
  replace hsz := s1.trans hsz
  replace hdf := f1.trans hdf
  replace e0 := (k1 0 (by decide)).trans e0
  replace e3 := (k1 3 (by decide)).trans e3
  replace e21 := (k1 21 (by decide)).trans e21
  have e24 := n1
  clear s1 f1 n1 k1
  refine wpTake_stepE ⟨some 25, Op.fieldAddr 33 (Operand.tmp 24) 0, 0, "", #[], none⟩ 25 (.pointer (some ⟨f, 0, none⟩)) HR.out.o4 rfl (by rw [hsz]; decide) (wanted_none rfl) (fun z hS => fo3_4 bx f g q oq cq mv _ z (fun _ => rfl) e24 hS) ?_
  intro a5 ha5 s1 f1 n1 k1
  replace hsz := s1.trans hsz
  replace hdf := f1.trans hdf
  replace e0 := (k1 0 (by decide)).trans e0
  replace e3 := (k1 3 (by decide)).trans e3
  replace e21 := (k1 21 (by decide)).trans e21
  have e25 := n1
  clear s1 f1 n1 k1
  refine wpTake_stepE ⟨some 26, Op.load 3 (Operand.tmp 25), 3, "", #[], none⟩ 26 (.int .i64 9) HR.out.o5 rfl (by rw [hsz]; decide) (wanted_none rfl) (fun z hS => fo3_5 bx f g q oq cq mv _ z (fun _ => rfl) e25 hS) ?_
  intro a6 ha6 s1 f1 n1 k1
  replace hsz := s1.trans hsz
  replace hdf := f1.trans hdf
  replace e0 := (k1 0 (by decide)).trans e0
  replace e3 := (k1 3 (by decide)).trans e3
  replace e21 := (k1 21 (by decide)).trans e21
  have e26 := n1
  clear s1 f1 n1 k1
  refine wpTake_stepE ⟨some 27, Op.move (Operand.tmp 0), 58, "", #[], none⟩ 27 (.pointer (some ⟨f, 0, none⟩)) HR.out.o6 rfl (by rw [hsz]; decide) (wanted_none rfl) (fun z hS => fo3_6 bx f g q oq cq mv _ z (fun _ => rfl) e0 hS) ?_
  intro a7 ha7 s1 f1 n1 k1
  replace hsz := s1.trans hsz
  replace hdf := f1.trans hdf
  replace e0 := (k1 0 (by decide)).trans e0
  replace e3 := (k1 3 (by decide)).trans e3
  replace e21 := (k1 21 (by decide)).trans e21
  replace e26 := (k1 26 (by decide)).trans e26
  have e27 := n1
  clear s1 f1 n1 k1
  refine wpTake_stepE ⟨some 28, Op.nilCheck (Operand.tmp 27), 0, "", #[], none⟩ 28 (.pointer (some ⟨f, 0, none⟩)) HR.out.o7 rfl (by rw [hsz]; decide) (wanted_none rfl) (fun z hS => fo3_7 bx f g q oq cq mv _ z (fun _ => rfl) e27 hS) ?_
  intro a8 ha8 s1 f1 n1 k1
  replace hsz := s1.trans hsz
  replace hdf := f1.trans hdf
  replace e0 := (k1 0 (by decide)).trans e0
  replace e3 := (k1 3 (by decide)).trans e3
  replace e21 := (k1 21 (by decide)).trans e21
  replace e26 := (k1 26 (by decide)).trans e26
  have e28 := n1
  clear s1 f1 n1 k1
  refine wpTake_stepE ⟨some 29, Op.fieldAddr 143 (Operand.tmp 28) 0, 0, "", #[], none⟩ 29 (.pointer (some ⟨f, 0, none⟩)) HR.out.o8 rfl (by rw [hsz]; decide) (wanted_none rfl) (fun z hS => fo3_8 bx f g q oq cq mv _ z (fun _ => rfl) e28 hS) ?_
  intro a9 ha9 s1 f1 n1 k1
  replace hsz := s1.trans hsz
  replace hdf := f1.trans hdf
  replace e0 := (k1 0 (by decide)).trans e0
  replace e3 := (k1 3 (by decide)).trans e3
  replace e21 := (k1 21 (by decide)).trans e21
  replace e26 := (k1 26 (by decide)).trans e26
  have e29 := n1
  clear s1 f1 n1 k1
  refine wpTake_stepE ⟨some 30, Op.fieldAddr 33 (Operand.tmp 29) 4, 0, "", #[], none⟩ 30 (.pointer (some ⟨f, 5, none⟩)) HR.out.o9 rfl (by rw [hsz]; decide) (wanted_none rfl) (fun z hS => fo3_9 bx f g q oq cq mv _ z (fun _ => rfl) e29 hS) ?_
  intro a10 ha10 s1 f1 n1 k1
  replace hsz := s1.trans hsz
  replace hdf := f1.trans hdf
  replace e0 := (k1 0 (by decide)).trans e0
  replace e3 := (k1 3 (by decide)).trans e3
  replace e21 := (k1 21 (by decide)).trans e21
  replace e26 := (k1 26 (by decide)).trans e26
  have e30 := n1
  clear s1 f1 n1 k1
  refine wpTake_stepE ⟨some 31, Op.load 23 (Operand.tmp 30), 23, "", #[], none⟩ 31 (.slice (some ⟨q, oq, none⟩) 1 cq) HR.out.o10 rfl (by rw [hsz]; decide) (wanted_none rfl) (fun z hS => fo3_10 bx f g q oq cq mv _ z (fun _ => rfl) e30 hS) ?_
  intro a11 ha11 s1 f1 n1 k1
  replace hsz := s1.trans hsz
  replace hdf := f1.trans hdf
  replace e0 := (k1 0 (by decide)).trans e0
  replace e3 := (k1 3 (by decide)).trans e3
  replace e21 := (k1 21 (by decide)).trans e21
  replace e26 := (k1 26 (by decide)).trans e26
  have e31 := n1
  clear s1 f1 n1 k1
  refine wpTake_nil ?_
  refine wpAnyH_one ⟨some 32, Op.call { callee := Callee.value (Operand.func 96), args := #[Operand.tmp 21, Operand.tmp 26, Operand.tmp 31], argTypes := #[45, 3, 23] }, 4, "", #[], none⟩ HR.out.r11 HR.out.o11 rfl (fun K' hK' => ?_)
  refine wp_enter (fo3_11 bx f g q oq cq mv _ _ rfl e21 e26 e31) (hc) ?_
  rintro e9 w9 ⟨rfl, hS9, hT⟩
  refine ⟨_, rfl, hK'.out _ _ (hS9) ?_⟩
  replace hHeld := hS9
  clear hK' K'
  show wpAnyH _ _ _ _ _ _ _ (Act.put a11 (some 32) (.bool true)) _
  obtain ⟨s1, f1, n1, k1⟩ := act_put a11 32 (.bool true) (show 32 < _ by rw [hsz]; decide)
  obtain ⟨a12, ha12⟩ : ∃ x, x = Act.put a11 (some 32) (.bool true) := ⟨_, rfl⟩
  rw [← ha12] at s1 f1 n1 k1 ⊢
  replace hsz := s1.trans hsz
  replace hdf := f1.trans hdf
  replace e0 := (k1 0 (by decide)).trans e0
  replace e3 := (k1 3 (by decide)).trans e3
  have e32 := n1
  clear s1 f1 n1 k1
  refine wpAnyH_takes HR.out.sel hQ hHeld [12, 13, 14, 15, 16, 17, 18, 19, 20, 21, 22, 23, 24] 0 _ _ HR.out.may1 ?_
  refine wpTake_stepE ⟨some 33, Op.unOp UnOp.not 4 (Operand.tmp 32), 4, "", #[], none⟩ 33 (.bool false) HR.out.o12 rfl (by rw [hsz]; decide) (wanted_none rfl) (fun z hS => fo3_12 bx f g q oq cq mv _ z (fun _ => rfl) e32 hS) ?_
  intro a13 ha13 s1 f1 n1 k1
  replace hsz := s1.trans hsz
  replace hdf := f1.trans hdf
  replace e0 := (k1 0 (by decide)).trans e0
  replace e3 := (k1 3 (by decide)).trans e3
  have e33 := n1
  clear s1 f1 n1 k1
  refine wpTake_stepE ⟨some 34, Op.move (Operand.tmp 33), 4, "", #[], none⟩ 34 (.bool false) HR.out.o13 rfl (by rw [hsz]; decide) (wanted_none rfl) (fun z hS => fo3_13 bx f g q oq cq mv _ z (fun _ => rfl) e33 hS) ?_
  intro a14 ha14 s1 f1 n1 k1
  replace hsz := s1.trans hsz
  replace hdf := f1.trans hdf
  replace e0 := (k1 0 (by decide)).trans e0
  replace e3 := (k1 3 (by decide)).trans e3
  have e34 := n1
  clear s1 f1 n1 k1
  refine wpTake_stepE ⟨some 35, Op.move (Operand.tmp 0), 58, "", #[], some (13, false)⟩ 35 (.pointer (some ⟨f, 0, none⟩)) HR.out.o14 rfl (by rw [hsz]; decide) (wanted_some rfl (yielded_of HR.out.o13 rfl e34 (by rw [hsz]; decide))) (fun z hS => fo3_14 bx f g q oq cq mv _ z (fun _ => rfl) e0 hS) ?_
  intro a15 ha15 s1 f1 n1 k1
  replace hsz := s1.trans hsz
  replace hdf := f1.trans hdf
  replace e3 := (k1 3 (by decide)).trans e3
  replace e34 := (k1 34 (by decide)).trans e34
  have e35 := n1
  clear s1 f1 n1 k1
  refine wpTake_stepE ⟨some 36, Op.nilCheck (Operand.tmp 35), 0, "", #[], some (13, false)⟩ 36 (.pointer (some ⟨f, 0, none⟩)) HR.out.o15 rfl (by rw [hsz]; decide) (wanted_some rfl (yielded_of HR.out.o13 rfl e34 (by rw [hsz]; decide))) (fun z hS => fo3_15 bx f g q oq cq mv _ z (fun _ => rfl) e35 hS) ?_
  intro a16 ha16 s1 f1 n1 k1
  replace hsz := s1.trans hsz
  replace hdf := f1.trans hdf
  replace e3 := (k1 3 (by decide)).trans e3
  replace e34 := (k1 34 (by decide)).trans e34
  have e36 := n1
  clear s1 f1 n1 k1
  refine wpTake_stepE ⟨some 37, Op.fieldAddr 143 (Operand.tmp 36) 1, 0, "", #[], some (13, false)⟩ 37 (.pointer (some ⟨f, 6, none⟩)) HR.out.o16 rfl (by rw [hsz]; decide) (wanted_some rfl (yielded_of HR.out.o13 rfl e34 (by rw [hsz]; decide))) (fun z hS => fo3_16 bx f g q oq cq mv _ z (fun _ => rfl) e36 hS) ?_
  intro a17 ha17 s1 f1 n1 k1
  replace hsz := s1.trans hsz
  replace hdf := f1.trans hdf
  replace e3 := (k1 3 (by decide)).trans e3
  replace e34 := (k1 34 (by decide)).trans e34
  have e37 := n1
  clear s1 f1 n1 k1
  refine wpTake_stepE ⟨some 38, Op.load 27 (Operand.tmp 37), 27, "", #[], some (13, false)⟩ 38 (.slice (some ⟨g, 0, none⟩) 1 1) HR.out.o17 rfl (by rw [hsz]; decide) (wanted_some rfl (yielded_of HR.out.o13 rfl e34 (by rw [hsz]; decide))) (fun z hS => fo3_17 bx f g q oq cq mv _ z (fun _ => rfl) e37 hS) ?_
  intro a18 ha18 s1 f1 n1 k1
  replace hsz := s1.trans hsz
  replace hdf := f1.trans hdf
  replace e3 := (k1 3 (by decide)).trans e3
  replace e34 := (k1 34 (by decide)).trans e34
  have e38 := n1
  clear s1 f1 n1 k1
  refine wpTake_stepE ⟨some 39, Op.fieldAddr 45 (Operand.tmp 3) 6, 0, "", #[], some (13, false)⟩ 39 (.pointer (some ⟨bx, 6, none⟩)) HR.out.o18 rfl (by rw [hsz]; decide) (wanted_some rfl (yielded_of HR.out.o13 rfl e34 (by rw [hsz]; decide))) (fun z hS => fo3_18 bx f g q oq cq mv _ z (fun _ => rfl) e3 hS) ?_
  intro a19 ha19 s1 f1 n1 k1
  replace hsz := s1.trans hsz
  replace hdf := f1.trans hdf
  replace e34 := (k1 34 (by decide)).trans e34
  replace e38 := (k1 38 (by decide)).trans e38
  have e39 := n1
  clear s1 f1 n1 k1
  refine wpTake_stepE ⟨some 40, Op.load 3 (Operand.tmp 39), 3, "", #[], some (13, false)⟩ 40 (.int .i64 0) HR.out.o19 rfl (by rw [hsz]; decide) (wanted_some rfl (yielded_of HR.out.o13 rfl e34 (by rw [hsz]; decide))) (fun z hS => fo3_19 bx f g q oq cq mv _ z (fun _ => rfl) e39 hS) ?_
  intro a20 ha20 s1 f1 n1 k1
  replace hsz := s1.trans hsz
  replace hdf := f1.trans hdf
  replace e34 := (k1 34 (by decide)).trans e34
  replace e38 := (k1 38 (by decide)).trans e38
  have e40 := n1
  clear s1 f1 n1 k1
  refine wpTake_stepE ⟨some 41, Op.indexAddr 27 (Operand.tmp 38) (Operand.tmp 40), 0, "", #[], some (13, false)⟩ 41 (.pointer (some ⟨g, 0, none⟩)) HR.out.o20 rfl (by rw [hsz]; decide) (wanted_some rfl (yielded_of HR.out.o13 rfl e34 (by rw [hsz]; decide))) (fun z hS => fo3_20 bx f g q oq cq mv _ z (fun _ => rfl) e38 e40 hS) ?_
  intro a21 ha21 s1 f1 n1 k1
  replace hsz := s1.trans hsz
  replace hdf := f1.trans hdf
  replace e34 := (k1 34 (by decide)).trans e34
  have e41 := n1
  clear s1 f1 n1 k1
  refine wpTake_stepE ⟨some 42, Op.load 22 (Operand.tmp 41), 22, "", #[], some (13, false)⟩ 42 (.slice none 0 0) HR.out.o21 rfl (by rw [hsz]; decide) (wanted_some rfl (yielded_of HR.out.o13 rfl e34 (by rw [hsz]; decide))) (fun z hS => fo3_21 bx f g q oq cq mv _ z (fun _ => rfl) e41 hS) ?_
  intro a22 ha22 s1 f1 n1 k1
  replace hsz := s1.trans hsz
  replace hdf := f1.trans hdf
  replace e34 := (k1 34 (by decide)).trans e34
  have e42 := n1
  clear s1 f1 n1 k1
  refine wpTake_stepE ⟨some 43, Op.call { callee := Callee.builtin Builtin.len, args := #[Operand.tmp 42], argTypes := #[22] }, 3, "", #[], some (13, false)⟩ 43 (.int .i64 0) HR.out.o22 rfl (by rw [hsz]; decide) (wanted_some rfl (yielded_of HR.out.o13 rfl e34 (by rw [hsz]; decide))) (fun z hS => fo3_22 bx f g q oq cq mv _ z (fun _ => rfl) e42 hS) ?_
  intro a23 ha23 s1 f1 n1 k1
  replace hsz := s1.trans hsz
  replace hdf := f1.trans hdf
  replace e34 := (k1 34 (by decide)).trans e34
  have e43 := n1
  clear s1 f1 n1 k1
  refine wpTake_stepE ⟨some 44, Op.binOp BinOp.gtr 3 (Operand.tmp 43) (Operand.const (Value.int IntKind.i64 0)) 3, 4, "", #[], some (13, false)⟩ 44 (.bool false) HR.out.o23 rfl (by rw [hsz]; decide) (wanted_some rfl (yielded_of HR.out.o13 rfl e34 (by rw [hsz]; decide))) (fun z hS => fo3_23 bx f g q oq cq mv _ z (fun _ => rfl) e43 hS) ?_
  intro a24 ha24 s1 f1 n1 k1
  replace hsz := s1.trans hsz
  replace hdf := f1.trans hdf
  replace e34 := (k1 34 (by decide)).trans e34
  have e44 := n1
  clear s1 f1 n1 k1
  refine wpTake_stepE ⟨some 45, Op.pick (Operand.tmp 34) (Operand.const (Value.bool true)) (Operand.tmp 44), 4, "", #[], none⟩ 45 (.bool false) HR.out.o24 rfl (by rw [hsz]; decide) (wanted_none rfl) (fun z hS => fo3_24 bx f g q oq cq mv _ z (fun _ => rfl) e34 e44 hS) ?_
  intro a25 ha25 s1 f1 n1 k1
  replace hsz := s1.trans hsz
  replace hdf := f1.trans hdf
  clear s1 f1 n1 k1
  refine wpTake_nil ?_
  refine wpAnyH_done HR.out.fin ?_ _
  rw [ha25, ha24, ha23, ha22, ha21, ha20, ha19, ha18, ha17, ha16, ha15, ha14, ha13, ha12, ha11, ha10, ha9, ha8, ha7, ha6, ha5, ha4, ha3, ha2, ha1]
  exact hK _ hT
-- R: ⟨by kernel_rfl, by kernel_rfl, by kernel_rfl, by kernel_rfl, by kernel_rfl, by kernel_rfl, by kernel_rfl, by kernel_rfl, by kernel_rfl, by kernel_rfl, by kernel_rfl, by kernel_rfl, by kernel_rfl, by kernel_rfl, by kernel_rfl, by kernel_rfl, by kernel_rfl, by kernel_rfl, by kernel_rfl, by kernel_rfl, by kernel_rfl, by kernel_rfl, by kernel_rfl, by kernel_rfl, by kernel_rfl, by kernel_rfl, by kernel_rfl, by kernel_rfl, by kernel_rfl, by kernel_rfl, by kernel_rfl⟩

theorem fo5_st (g : Nat) (ps : Option Addr) (cs : Nat) (ev : Operand → Value) (z : World) (e55 : ev (.tmp 55) = .pointer (some ⟨g, 0, none⟩)) (e54 : ev (.tmp 54) = .slice ps 8 cs) (hc : z.cell? ⟨g, 0, none⟩ = some (.slice none 0 0)) (hf : z.frozen? ⟨g, 0, none⟩ = false) : (execOp ev ⟨none, Op.store 22 (Operand.tmp 55) (Operand.tmp 54), 0, "", #[], none⟩).run Tryd.prog z = .ok .skip (z.setCell ⟨g, 0, none⟩ (.slice ps 8 cs)) := by go_simp
theorem fo5_0 (bx f g : Nat) (pb : Option Addr) (c : Nat) (ev : Operand → Value) (z : World) (ec : ∀ c, ev (.const c) = c) (e0 : ev (.tmp 0) = .pointer (some ⟨f, 0, none⟩)) (hS : z.cell? ⟨f, 6, none⟩ = some (.slice (some ⟨g, 0, none⟩) 1 1) ∧ z.cell? ⟨bx, 6, none⟩ = some (.int .i64 0) ∧ z.cell? ⟨bx, 23, none⟩ = some (.slice pb 8 c)) : (execOp ev ⟨some 46, Op.move (Operand.tmp 0), 58, "", #[], none⟩).run Tryd.prog z = .ok (.value (.pointer (some ⟨f, 0, none⟩))) z := by
  obtain ⟨s6f, s6, s23⟩ := hS
  go_simp
theorem fo5_1 (bx f g : Nat) (pb : Option Addr) (c : Nat) (ev : Operand → Value) (z : World) (ec : ∀ c, ev (.const c) = c) (e46 : ev (.tmp 46) = .pointer (some ⟨f, 0, none⟩)) (hS : z.cell? ⟨f, 6, none⟩ = some (.slice (some ⟨g, 0, none⟩) 1 1) ∧ z.cell? ⟨bx, 6, none⟩ = some (.int .i64 0) ∧ z.cell? ⟨bx, 23, none⟩ = some (.slice pb 8 c)) : (execOp ev ⟨some 47, Op.nilCheck (Operand.tmp 46), 0, "", #[], none⟩).run Tryd.prog z = .ok (.value (.pointer (some ⟨f, 0, none⟩))) z := by
  obtain ⟨s6f, s6, s23⟩ := hS
  go_simp
theorem fo5_2 (bx f g : Nat) (pb : Option Addr) (c : Nat) (ev : Operand → Value) (z : World) (ec : ∀ c, ev (.const c) = c) (e47 : ev (.tmp 47) = .pointer (some ⟨f, 0, none⟩)) (hS : z.cell? ⟨f, 6, none⟩ = some (.slice (some ⟨g, 0, none⟩) 1 1) ∧ z.cell? ⟨bx, 6, none⟩ = some (.int .i64 0) ∧ z.cell? ⟨bx, 23, none⟩ = some (.slice pb 8 c)) : (execOp ev ⟨some 48, Op.fieldAddr 143 (Operand.tmp 47) 1, 0, "", #[], none⟩).run Tryd.prog z = .ok (.value (.pointer (some ⟨f, 6, none⟩))) z := by
  obtain ⟨s6f, s6, s23⟩ := hS
  go_simp
theorem fo5_3 (bx f g : Nat) (pb : Option Addr) (c : Nat) (ev : Operand → Value) (z : World) (ec : ∀ c, ev (.const c) = c) (e48 : ev (.tmp 48) = .pointer (some ⟨f, 6, none⟩)) (hS : z.cell? ⟨f, 6, none⟩ = some (.slice (some ⟨g, 0, none⟩) 1 1) ∧ z.cell? ⟨bx, 6, none⟩ = some (.int .i64 0) ∧ z.cell? ⟨bx, 23, none⟩ = some (.slice pb 8 c)) : (execOp ev ⟨some 49, Op.load 27 (Operand.tmp 48), 27, "", #[], none⟩).run Tryd.prog z = .ok (.value (.slice (some ⟨g, 0, none⟩) 1 1)) z := by
  obtain ⟨s6f, s6, s23⟩ := hS
  go_simp
theorem fo5_4 (bx f g : Nat) (pb : Option Addr) (c : Nat) (ev : Operand → Value) (z : World) (ec : ∀ c, ev (.const c) = c) (e3 : ev (.tmp 3) = .pointer (some ⟨bx, 0, none⟩)) (hS : z.cell? ⟨f, 6, none⟩ = some (.slice (some ⟨g, 0, none⟩) 1 1) ∧ z.cell? ⟨bx, 6, none⟩ = some (.int .i64 0) ∧ z.cell? ⟨bx, 23, none⟩ = some (.slice pb 8 c)) : (execOp ev ⟨some 50, Op.fieldAddr 45 (Operand.tmp 3) 6, 0, "", #[], none⟩).run Tryd.prog z = .ok (.value (.pointer (some ⟨bx, 6, none⟩))) z := by
  obtain ⟨s6f, s6, s23⟩ := hS
  go_simp
theorem fo5_5 (bx f g : Nat) (pb : Option Addr) (c : Nat) (ev : Operand → Value) (z : World) (ec : ∀ c, ev (.const c) = c) (e50 : ev (.tmp 50) = .pointer (some ⟨bx, 6, none⟩)) (hS : z.cell? ⟨f, 6, none⟩ = some (.slice (some ⟨g, 0, none⟩) 1 1) ∧ z.cell? ⟨bx, 6, none⟩ = some (.int .i64 0) ∧ z.cell? ⟨bx, 23, none⟩ = some (.slice pb 8 c)) : (execOp ev ⟨some 51, Op.load 3 (Operand.tmp 50), 3, "", #[], none⟩).run Tryd.prog z = .ok (.value (.int .i64 0)) z := by
  obtain ⟨s6f, s6, s23⟩ := hS
  go_simp
theorem fo5_6 (bx f g : Nat) (pb : Option Addr) (c : Nat) (ev : Operand → Value) (z : World) (ec : ∀ c, ev (.const c) = c) (e3 : ev (.tmp 3) = .pointer (some ⟨bx, 0, none⟩)) (hS : z.cell? ⟨f, 6, none⟩ = some (.slice (some ⟨g, 0, none⟩) 1 1) ∧ z.cell? ⟨bx, 6, none⟩ = some (.int .i64 0) ∧ z.cell? ⟨bx, 23, none⟩ = some (.slice pb 8 c)) : (execOp ev ⟨some 52, Op.fieldAddr 45 (Operand.tmp 3) 12, 0, "", #[], none⟩).run Tryd.prog z = .ok (.value (.pointer (some ⟨bx, 23, none⟩))) z := by
  obtain ⟨s6f, s6, s23⟩ := hS
  go_simp
theorem fo5_7 (bx f g : Nat) (pb : Option Addr) (c : Nat) (ev : Operand → Value) (z : World) (ec : ∀ c, ev (.const c) = c) (e52 : ev (.tmp 52) = .pointer (some ⟨bx, 23, none⟩)) (hS : z.cell? ⟨f, 6, none⟩ = some (.slice (some ⟨g, 0, none⟩) 1 1) ∧ z.cell? ⟨bx, 6, none⟩ = some (.int .i64 0) ∧ z.cell? ⟨bx, 23, none⟩ = some (.slice pb 8 c)) : (execOp ev ⟨some 53, Op.load 22 (Operand.tmp 52), 22, "", #[], none⟩).run Tryd.prog z = .ok (.value (.slice pb 8 c)) z := by
  obtain ⟨s6f, s6, s23⟩ := hS
  go_simp
set_option maxRecDepth 100000 in
theorem fo5_8 (bx f g : Nat) (pb : Option Addr) (c : Nat) (ev : Operand → Value) (z : World) (ef : ev (.func 17) = .func (.func 17) #[] #[]) (e53 : ev (.tmp 53) = .slice pb 8 c) : (execOp ev ⟨some 54, Op.call { callee := Callee.value (Operand.func 17), args := #[Operand.tmp 53], argTypes := #[22] }, 22, "", #[], none⟩).run Tryd.prog z = .ok (.enter 17 #[.slice pb 8 c]) z :=
  enter_run _ ef (by simp only [List.map_toArray, List.map_cons, List.map_nil, e53]) (fun _ => by rfl)
theorem fo5_9 (bx f g : Nat) (pb : Option Addr) (c : Nat) (ev : Operand → Value) (z : World) (ec : ∀ c, ev (.const c) = c) (e49 : ev (.tmp 49) = .slice (some ⟨g, 0, none⟩) 1 1) (e51 : ev (.tmp 51) = .int .i64 0) (hS : z.cell? ⟨f, 6, none⟩ = some (.slice (some ⟨g, 0, none⟩) 1 1) ∧ z.cell? ⟨bx, 6, none⟩ = some (.int .i64 0) ∧ z.cell? ⟨bx, 23, none⟩ = some (.slice pb 8 c)) : (execOp ev ⟨some 55, Op.indexAddr 27 (Operand.tmp 49) (Operand.tmp 51), 0, "", #[], none⟩).run Tryd.prog z = .ok (.value (.pointer (some ⟨g, 0, none⟩))) z := by
  obtain ⟨s6f, s6, s23⟩ := hS
  go_simp
structure fo5R (ops : Array Oper) : Prop where
  size : ops.size = 11
  sel : Region.noSelect ops = true
  o0 : (ops[0]?).map bare = some ⟨some 46, Op.move (Operand.tmp 0), 58, "", #[], none⟩
  o1 : (ops[1]?).map bare = some ⟨some 47, Op.nilCheck (Operand.tmp 46), 0, "", #[], none⟩
  o2 : (ops[2]?).map bare = some ⟨some 48, Op.fieldAddr 143 (Operand.tmp 47) 1, 0, "", #[], none⟩
  o3 : (ops[3]?).map bare = some ⟨some 49, Op.load 27 (Operand.tmp 48), 27, "", #[], none⟩
  o4 : (ops[4]?).map bare = some ⟨some 50, Op.fieldAddr 45 (Operand.tmp 3) 6, 0, "", #[], none⟩
  o5 : (ops[5]?).map bare = some ⟨some 51, Op.load 3 (Operand.tmp 50), 3, "", #[], none⟩
  o6 : (ops[6]?).map bare = some ⟨some 52, Op.fieldAddr 45 (Operand.tmp 3) 12, 0, "", #[], none⟩
  o7 : (ops[7]?).map bare = some ⟨some 53, Op.load 22 (Operand.tmp 52), 22, "", #[], none⟩
  o8 : (ops[8]?).map bare = some ⟨some 54, Op.call { callee := Callee.value (Operand.func 17), args := #[Operand.tmp 53], argTypes := #[22] }, 22, "", #[], none⟩
  o9 : (ops[9]?).map bare = some ⟨some 55, Op.indexAddr 27 (Operand.tmp 49) (Operand.tmp 51), 0, "", #[], none⟩
  o10 : (ops[10]?).map bare = some ⟨none, Op.store 22 (Operand.tmp 55) (Operand.tmp 54), 0, "", #[], none⟩
  may0 : takeB .any ops [0, 1, 2, 3, 4, 5, 6, 7] (Array.replicate 11 false) = true
  r8 : Region.ready .any ops (mark [0, 1, 2, 3, 4, 5, 6, 7] (Array.replicate 11 false)) = [8]
  may1 : takeB .any ops [9] ((mark [0, 1, 2, 3, 4, 5, 6, 7] (Array.replicate 11 false)).setIfInBounds 8 true) = true
  r10 : Region.ready .any ops (mark [9] ((mark [0, 1, 2, 3, 4, 5, 6, 7] (Array.replicate 11 false)).setIfInBounds 8 true)) = [10]
  fin : Region.ready .any ops ((mark [9] ((mark [0, 1, 2, 3, 4, 5, 6, 7] (Array.replicate 11 false)).setIfInBounds 8 true)).setIfInBounds 10 true) = []

set_option maxRecDepth 100000 in
set_option maxHeartbeats 3200000 in
theorem fo5_region {ops : Array Oper} {id : Nat} {Q : Exit → Act → World → Prop} {a : Act} {y : World} (R : fo5R ops) (bx f g : Nat) (pb : Option Addr) (c : Nat)
    (hQ : ∀ d v c a w, Q (.panic c) (a.put d v) w → Q (.panic c) a w) (hsz : a.tmps.size = 63) (e0 : a.eval (.tmp 0) = .pointer (some ⟨f, 0, none⟩)) (e3 : a.eval (.tmp 3) = .pointer (some ⟨bx, 0, none⟩)) (hS0 : y.drew.cell? ⟨f, 6, none⟩ = some (.slice (some ⟨g, 0, none⟩) 1 1) ∧ y.drew.cell? ⟨bx, 6, none⟩ = some (.int .i64 0) ∧ y.drew.cell? ⟨bx, 23, none⟩ = some (.slice pb 8 c)) (T : Option Addr → Nat → World → Prop) (hc : Calls Tryd.prog 17 #[.slice pb 8 c] y.drew fun e w9 => ∃ ps cs, e = .returned (.slice ps 8 cs) ∧ (w9.cell? ⟨f, 6, none⟩ = some (.slice (some ⟨g, 0, none⟩) 1 1) ∧ w9.cell? ⟨bx, 6, none⟩ = some (.int .i64 0) ∧ w9.cell? ⟨bx, 23, none⟩ = some (.slice pb 8 c)) ∧ ((w9.setCell ⟨g, 0, none⟩ (.slice ps 8 cs)).cell? ⟨f, 6, none⟩ = some (.slice (some ⟨g, 0, none⟩) 1 1) ∧ (w9.setCell ⟨g, 0, none⟩ (.slice ps 8 cs)).cell? ⟨bx, 6, none⟩ = some (.int .i64 0) ∧ (w9.setCell ⟨g, 0, none⟩ (.slice ps 8 cs)).cell? ⟨bx, 23, none⟩ = some (.slice pb 8 c)) ∧ w9.cell? ⟨g, 0, none⟩ = some (.slice none 0 0) ∧ w9.frozen? ⟨g, 0, none⟩ = false ∧ T ps cs w9)
    (hK : ∀ (ps : Option Addr) (cs : Nat) (w9 : World), T ps cs w9 → Q .normal ((((((((((a.put (some 46) (.pointer (some ⟨f, 0, none⟩))).put (some 47) (.pointer (some ⟨f, 0, none⟩))).put (some 48) (.pointer (some ⟨f, 6, none⟩))).put (some 49) (.slice (some ⟨g, 0, none⟩) 1 1)).put (some 50) (.pointer (some ⟨bx, 6, none⟩))).put (some 51) (.int .i64 0)).put (some 52) (.pointer (some ⟨bx, 23, none⟩))).put (some 53) (.slice pb 8 c)).put (some 54) (.slice ps 8 cs)).put (some 55) (.pointer (some ⟨g, 0, none⟩))) (w9.setCell ⟨g, 0, none⟩ (.slice ps 8 cs))) : (Code.region id ops true).wp Tryd.prog Q a y := by
  have HR : Hid (fo5R ops) := R
  have hdf : a.defers = a.defers := rfl
  refine wp_region_held_drew (S := (fun z : World => z.cell? ⟨f, 6, none⟩ = some (.slice (some ⟨g, 0, none⟩) 1 1) ∧ z.cell? ⟨bx, 6, none⟩ = some (.int .i64 0) ∧ z.cell? ⟨bx, 23, none⟩ = some (.slice pb 8 c))) (by kernel_rfl) (hS0) (fun hHeld => ?_)
  rw [R.size]
  clear R
  refine wpAnyH_takes HR.out.sel hQ hHeld [0, 1, 2, 3, 4, 5, 6, 7] 3 _ _ HR.out.may0 ?_
  refine wpTake_stepE ⟨some 46, Op.move (Operand.tmp 0), 58, "", #[], none⟩ 46 (.pointer (some ⟨f, 0, none⟩)) HR.out.o0 rfl (by rw [hsz]; decide) (wanted_none rfl) (fun z hS => fo5_0 bx f g pb c _ z (fun _ => rfl) e0 hS) ?_
  intro a1 ha1 s1 f1 n1 k1
  replace hsz := s1.trans hsz
  replace hdf := f1.trans hdf
  replace e3 := (k1 3 (by decide)).trans e3
  have e46 := n1
  clear s1 f1 n1 k1
  refine wpTake_stepE ⟨some 47, Op.nilCheck (Operand.tmp 46), 0, "", #[], none⟩ 47 (.pointer (some ⟨f, 0, none⟩)) HR.out.o1 rfl (by rw [hsz]; decide) (wanted_none rfl) (fun z hS => fo5_1 bx f g pb c _ z (fun _ => rfl) e46 hS) ?_
  intro a2 ha2 s1 f1 n1 k1
  replace hsz := s1.trans hsz
  replace hdf := f1.trans hdf
  replace e3 := (k1 3 (by decide)).trans e3
  have e47 := n1
  clear s1 f1 n1 k1
  refine wpTake_stepE ⟨some 48, Op.fieldAddr 143 (Operand.tmp 47) 1, 0, "", #[], none⟩ 48 (.pointer (some ⟨f, 6, none⟩)) HR.out.o2 rfl (by rw [hsz]; decide) (wanted_none rfl) (fun z hS => fo5_2 bx f g pb c _ z (fun _ => rfl) e47 hS) ?_
  intro a3 ha3 s1 f1 n1 k1
  replace hsz := s1.trans hsz
  replace hdf := f1.trans hdf
  replace e3 := (k1 3 (by decide)).trans e3
  have e48 := n1
  clear s1 f1 n1 k1
  refine wpTake_stepE ⟨some 49, Op.load 27 (Operand.tmp 48), 27, "", #[], none⟩ 49 (.slice (some ⟨g, 0, none⟩) 1 1) HR.out.o3 rfl (by rw [hsz]; decide) (wanted_none rfl) (fun z hS => fo5_3 bx f g pb c _ z (fun _ => rfl) e48 hS) ?_
  intro a4 ha4 s1 f1 n1 k1
  replace hsz := s1.trans hsz
  replace hdf := f1.trans hdf
  replace e3 := (k1 3 (by decide)).trans e3
  have e49 := n1
  clear s1 f1 n1 k1
  refine wpTake_stepE ⟨some 50, Op.fieldAddr 45 (Operand.tmp 3) 6, 0, "", #[], none⟩ 50 (.pointer (some ⟨bx, 6, none⟩)) HR.out.o4 rfl (by rw [hsz]; decide) (wanted_none rfl) (fun z hS => fo5_4 bx f g pb c _ z (fun _ => rfl) e3 hS) ?_
  intro a5 ha5 s1 f1 n1 k1
  replace hsz := s1.trans hsz
  replace hdf := f1.trans hdf
  replace e3 := (k1 3 (by decide)).trans e3
  replace e49 := (k1 49 (by decide)).trans e49
  have e50 := n1
  clear s1 f1 n1 k1
  refine wpTake_stepE ⟨some 51, Op.load 3 (Operand.tmp 50), 3, "", #[], none⟩ 51 (.int .i64 0) HR.out.o5 rfl (by rw [hsz]; decide) (wanted_none rfl) (fun z hS => fo5_5 bx f g pb c _ z (fun _ => rfl) e50 hS) ?_
  intro a6 ha6 s1 f1 n1 k1
  replace hsz := s1.trans hsz
  replace hdf := f1.trans hdf
  replace e3 := (k1 3 (by decide)).trans e3
  replace e49 := (k1 49 (by decide)).trans e49
  have e51 := n1
  clear s1 f1 n1 k1
  refine wpTake_stepE ⟨some 52, Op.fieldAddr 45 (Operand.tmp 3) 12, 0, "", #[], none⟩ 52 (.pointer (some ⟨bx, 23, none⟩)) HR.out.o6 rfl (by rw [hsz]; decide) (wanted_none rfl) (fun z hS => fo5_6 bx f g pb c _ z (fun _ => rfl) e3 hS) ?_
  intro a7 ha7 s1 f1 n1 k1
  replace hsz := s1.trans hsz
  replace hdf := f1.trans hdf
  replace e49 := (k1 49 (by decide)).trans e49
  replace e51 := (k1 51 (by decide)).trans e51
  have e52 := n1
  clear s1 f1 n1 k1
  refine wpTake_stepE ⟨some 53, Op.load 22 (Operand.tmp 52), 22, "", #[], none⟩ 53 (.slice pb 8 c) HR.out.o7 rfl (by rw [hsz]; decide) (wanted_none rfl) (fun z hS => fo5_7 bx f g pb c _ z (fun _ => rfl) e52 hS) ?_
  intro a8 ha8 s1 f1 n1 k1
  replace hsz := s1.trans hsz
  replace hdf := f1.trans hdf
  replace e49 := (k1 49 (by decide)).trans e49
  replace e51 := (k1 51 (by decide)).trans e51
  have e53 := n1
  clear s1 f1 n1 k1
  refine wpTake_nil ?_
  refine wpAnyH_one ⟨some 54, Op.call { callee := Callee.value (Operand.func 17), args := #[Operand.tmp 53], argTypes := #[22] }, 22, "", #[], none⟩ HR.out.r8 HR.out.o8 rfl (fun K' hK' => ?_)
  refine wp_enter (fo5_8 bx f g pb c _ _ rfl e53) (hc) ?_
  rintro e9 w9 ⟨ps, cs, rfl, hS9, hS10, hcg, hfg, hT⟩
  refine ⟨_, rfl, hK'.out _ _ (hS9) ?_⟩
  replace hHeld := hS9
  clear hK' K'
  show wpAnyH _ _ _ _ _ _ _ (Act.put a8 (some 54) (.slice ps 8 cs)) _
  obtain ⟨s1, f1, n1, k1⟩ := act_put a8 54 (.slice ps 8 cs) (show 54 < _ by rw [hsz]; decide)
  obtain ⟨a9, ha9⟩ : ∃ x, x = Act.put a8 (some 54) (.slice ps 8 cs) := ⟨_, rfl⟩
  rw [← ha9] at s1 f1 n1 k1 ⊢
  replace hsz := s1.trans hsz
  replace hdf := f1.trans hdf
  replace e49 := (k1 49 (by decide)).trans e49
  replace e51 := (k1 51 (by decide)).trans e51
  have e54 := n1
  clear s1 f1 n1 k1
  refine wpAnyH_takes HR.out.sel hQ hHeld [9] 1 _ _ HR.out.may1 ?_
  refine wpTake_stepE ⟨some 55, Op.indexAddr 27 (Operand.tmp 49) (Operand.tmp 51), 0, "", #[], none⟩ 55 (.pointer (some ⟨g, 0, none⟩)) HR.out.o9 rfl (by rw [hsz]; decide) (wanted_none rfl) (fun z hS => fo5_9 bx f g pb c _ z (fun _ => rfl) e49 e51 hS) ?_
  intro a10 ha10 s1 f1 n1 k1
  replace hsz := s1.trans hsz
  replace hdf := f1.trans hdf
  replace e54 := (k1 54 (by decide)).trans e54
  have e55 := n1
  clear s1 f1 n1 k1
  refine wpTake_nil ?_
  refine wpAnyH_skip ⟨none, Op.store 22 (Operand.tmp 55) (Operand.tmp 54), 0, "", #[], none⟩ (w9.setCell ⟨g, 0, none⟩ (.slice ps 8 cs)) HR.out.r10 HR.out.o10 rfl rfl (fo5_st g ps cs _ _ e55 e54 hcg hfg) (hS10) ?_
  replace hHeld := hS10
  refine wpAnyH_done HR.out.fin ?_ _
  rw [ha10, ha9, ha8, ha7, ha6, ha5, ha4, ha3, ha2, ha1]
  exact hK _ _ _ hT
-- R: ⟨by kernel_rfl, by kernel_rfl, by kernel_rfl, by kernel_rfl, by kernel_rfl, by kernel_rfl, by kernel_rfl, by kernel_rfl, by kernel_rfl, by kernel_rfl, by kernel_rfl, by kernel_rfl, by kernel_rfl, by kernel_rfl, by kernel_rfl, by kernel_rfl, by kernel_rfl, by kernel_rfl⟩

theorem fd1_0 (bx m f : Nat) (mv : Array Value) (ev : Operand → Value) (z : World) (ec : ∀ c, ev (.const c) = c) (e0 : ev (.tmp 0) = .pointer (some ⟨m, 0, none⟩)) (hS : (loadVar 45 ⟨bx, 0, none⟩).run Tryd.prog z = .ok (.agg mv) z ∧ z.cell? ⟨m, 5, none⟩ = some (.pointer (some ⟨f, 0, none⟩))) : (execOp ev ⟨some 8, Op.move (Operand.tmp 0), 34, "", #[], none⟩).run Tryd.prog z = .ok (.value (.pointer (some ⟨m, 0, none⟩))) z := by
  obtain ⟨sl, s5⟩ := hS
  go_simp
theorem fd1_1 (bx m f : Nat) (mv : Array Value) (ev : Operand → Value) (z : World) (ec : ∀ c, ev (.const c) = c) (e8 : ev (.tmp 8) = .pointer (some ⟨m, 0, none⟩)) (hS : (loadVar 45 ⟨bx, 0, none⟩).run Tryd.prog z = .ok (.agg mv) z ∧ z.cell? ⟨m, 5, none⟩ = some (.pointer (some ⟨f, 0, none⟩))) : (execOp ev ⟨some 9, Op.nilCheck (Operand.tmp 8), 0, "", #[], none⟩).run Tryd.prog z = .ok (.value (.pointer (some ⟨m, 0, none⟩))) z := by
  obtain ⟨sl, s5⟩ := hS
  go_simp
theorem fd1_2 (bx m f : Nat) (mv : Array Value) (ev : Operand → Value) (z : World) (ec : ∀ c, ev (.const c) = c) (e9 : ev (.tmp 9) = .pointer (some ⟨m, 0, none⟩)) (hS : (loadVar 45 ⟨bx, 0, none⟩).run Tryd.prog z = .ok (.agg mv) z ∧ z.cell? ⟨m, 5, none⟩ = some (.pointer (some ⟨f, 0, none⟩))) : (execOp ev ⟨some 10, Op.fieldAddr 60 (Operand.tmp 9) 3, 0, "", #[], none⟩).run Tryd.prog z = .ok (.value (.pointer (some ⟨m, 5, none⟩))) z := by
  obtain ⟨sl, s5⟩ := hS
  go_simp
theorem fd1_3 (bx m f : Nat) (mv : Array Value) (ev : Operand → Value) (z : World) (ec : ∀ c, ev (.const c) = c) (e10 : ev (.tmp 10) = .pointer (some ⟨m, 5, none⟩)) (hS : (loadVar 45 ⟨bx, 0, none⟩).run Tryd.prog z = .ok (.agg mv) z ∧ z.cell? ⟨m, 5, none⟩ = some (.pointer (some ⟨f, 0, none⟩))) : (execOp ev ⟨some 11, Op.load 58 (Operand.tmp 10), 58, "", #[], none⟩).run Tryd.prog z = .ok (.value (.pointer (some ⟨f, 0, none⟩))) z := by
  obtain ⟨sl, s5⟩ := hS
  go_simp
theorem fd1_4 (bx m f : Nat) (mv : Array Value) (ev : Operand → Value) (z : World) (ec : ∀ c, ev (.const c) = c) (e3 : ev (.tmp 3) = .pointer (some ⟨bx, 0, none⟩)) (hS : (loadVar 45 ⟨bx, 0, none⟩).run Tryd.prog z = .ok (.agg mv) z ∧ z.cell? ⟨m, 5, none⟩ = some (.pointer (some ⟨f, 0, none⟩))) : (execOp ev ⟨some 12, Op.load 45 (Operand.tmp 3), 45, "", #[], none⟩).run Tryd.prog z = .ok (.value (.agg mv)) z := by
  exact exec_load e3 hS.1
set_option maxRecDepth 100000 in
theorem fd1_5 (bx m f : Nat) (mv : Array Value) (ev : Operand → Value) (z : World) (ef : ev (.func 60) = .func (.func 60) #[] #[]) (e11 : ev (.tmp 11) = .pointer (some ⟨f, 0, none⟩)) (e12 : ev (.tmp 12) = .agg mv) : (execOp ev ⟨some 13, Op.call { callee := Callee.value (Operand.func 60), args := #[Operand.tmp 11, Operand.tmp 12], argTypes := #[58, 45] }, 4, "", #[], none⟩).run Tryd.prog z = .ok (.enter 60 #[.pointer (some ⟨f, 0, none⟩), .agg mv]) z :=
  enter_run _ ef (by simp only [List.map_toArray, List.map_cons, List.map_nil, e11, e12]) (fun _ => by rfl)
theorem fd1_6 (bx m f : Nat) (mv : Array Value) (ev : Operand → Value) (z : World) (ec : ∀ c, ev (.const c) = c) (e13 : ev (.tmp 13) = .bool true) (hS : (loadVar 45 ⟨bx, 0, none⟩).run Tryd.prog z = .ok (.agg mv) z ∧ z.cell? ⟨m, 5, none⟩ = some (.pointer (some ⟨f, 0, none⟩))) : (execOp ev ⟨some 14, Op.unOp UnOp.not 4 (Operand.tmp 13), 4, "", #[], none⟩).run Tryd.prog z = .ok (.value (.bool false)) z := by
  obtain ⟨sl, s5⟩ := hS
  go_simp
structure fd1R (ops : Array Oper) : Prop where
  size : ops.size = 7
  sel : Region.noSelect ops = true
  o0 : (ops[0]?).map bare = some ⟨some 8, Op.move (Operand.tmp 0), 34, "", #[], none⟩
  o1 : (ops[1]?).map bare = some ⟨some 9, Op.nilCheck (Operand.tmp 8), 0, "", #[], none⟩
  o2 : (ops[2]?).map bare = some ⟨some 10, Op.fieldAddr 60 (Operand.tmp 9) 3, 0, "", #[], none⟩
  o3 : (ops[3]?).map bare = some ⟨some 11, Op.load 58 (Operand.tmp 10), 58, "", #[], none⟩
  o4 : (ops[4]?).map bare = some ⟨some 12, Op.load 45 (Operand.tmp 3), 45, "", #[], none⟩
  o5 : (ops[5]?).map bare = some ⟨some 13, Op.call { callee := Callee.value (Operand.func 60), args := #[Operand.tmp 11, Operand.tmp 12], argTypes := #[58, 45] }, 4, "", #[], none⟩
  o6 : (ops[6]?).map bare = some ⟨some 14, Op.unOp UnOp.not 4 (Operand.tmp 13), 4, "", #[], none⟩
  may0 : takeB .any ops [0, 1, 2, 3, 4] (Array.replicate 7 false) = true
  r5 : Region.ready .any ops (mark [0, 1, 2, 3, 4] (Array.replicate 7 false)) = [5]
  may1 : takeB .any ops [6] ((mark [0, 1, 2, 3, 4] (Array.replicate 7 false)).setIfInBounds 5 true) = true
  fin : Region.ready .any ops (mark [6] ((mark [0, 1, 2, 3, 4] (Array.replicate 7 false)).setIfInBounds 5 true)) = []

set_option maxRecDepth 100000 in
set_option maxHeartbeats 3200000 in
theorem fd1_region {ops : Array Oper} {id : Nat} {Q : Exit → Act → World → Prop} {a : Act} {y : World} (R : fd1R ops) (bx m f : Nat) (mv : Array Value)
    (hQ : ∀ d v c a w, Q (.panic c) (a.put d v) w → Q (.panic c) a w) (hsz : a.tmps.size = 61) (e0 : a.eval (.tmp 0) = .pointer (some ⟨m, 0, none⟩)) (e3 : a.eval (.tmp 3) = .pointer (some ⟨bx, 0, none⟩)) (hS0 : (loadVar 45 ⟨bx, 0, none⟩).run Tryd.prog y.drew = .ok (.agg mv) y.drew ∧ y.drew.cell? ⟨m, 5, none⟩ = some (.pointer (some ⟨f, 0, none⟩))) (T : World → Prop) (hc : Calls Tryd.prog 60 #[.pointer (some ⟨f, 0, none⟩), .agg mv] y.drew fun e w9 => e = .returned (.bool true) ∧ ((loadVar 45 ⟨bx, 0, none⟩).run Tryd.prog w9 = .ok (.agg mv) w9 ∧ w9.cell? ⟨m, 5, none⟩ = some (.pointer (some ⟨f, 0, none⟩))) ∧ T w9)
    (hK : ∀ w9 : World, T w9 → Q .normal (((((((a.put (some 8) (.pointer (some ⟨m, 0, none⟩))).put (some 9) (.pointer (some ⟨m, 0, none⟩))).put (some 10) (.pointer (some ⟨m, 5, none⟩))).put (some 11) (.pointer (some ⟨f, 0, none⟩))).put (some 12) (.agg mv)).put (some 13) (.bool true)).put (some 14) (.bool false)) w9) : (Code.region id ops true).wp Tryd.prog Q a y := by
  have HR : Hid (fd1R ops) := R
  have hdf : a.defers = a.defers := rfl
  refine wp_region_held_drew (S := (fun z : World => (loadVar 45 ⟨bx, 0, none⟩).run Tryd.prog z = .ok (.agg mv) z ∧ z.cell? ⟨m, 5, none⟩ = some (.pointer (some ⟨f, 0, none⟩)))) (by kernel_rfl) (hS0) (fun hHeld => ?_)
  rw [R.size]
  clear R
  refine wpAnyH_takes HR.out.sel hQ hHeld [0, 1, 2, 3, 4] 2 _ _ HR.out.may0 ?_
  refine wpTake_stepE ⟨some 8, Op.move (Operand.tmp 0), 34, "", #[], none⟩ 8 (.pointer (some ⟨m, 0, none⟩)) HR.out.o0 rfl (by rw [hsz]; decide) (wanted_none rfl) (fun z hS => fd1_0 bx m f mv _ z (fun _ => rfl) e0 hS) ?_
  intro a1 ha1 s1 f1 n1 k1
  replace hsz := s1.trans hsz
  replace hdf := f1.trans hdf
  replace e3 := (k1 3 (by decide)).trans e3
  have e8 := n1
  clear s1 f1 n1 k1
  refine wpTake_stepE ⟨some 9, Op.nilCheck (Operand.tmp 8), 0, "", #[], none⟩ 9 (.pointer (some ⟨m, 0, none⟩)) HR.out.o1 rfl (by rw [hsz]; decide) (wanted_none rfl) (fun z hS => fd1_1 bx m f mv _ z (fun _ => rfl) e8 hS) ?_
  intro a2 ha2 s1 f1 n1 k1
  replace hsz := s1.trans hsz
  replace hdf := f1.trans hdf
  replace e3 := (k1 3 (by decide)).trans e3
  have e9 := n1
  clear s1 f1 n1 k1
  refine wpTake_stepE ⟨some 10, Op.fieldAddr 60 (Operand.tmp 9) 3, 0, "", #[], none⟩ 10 (.pointer (some ⟨m, 5, none⟩)) HR.out.o2 rfl (by rw [hsz]; decide) (wanted_none rfl) (fun z hS => fd1_2 bx m f mv _ z (fun _ => rfl) e9 hS) ?_
  intro a3 ha3 s1 f1 n1 k1
  replace hsz := s1.trans hsz
  replace hdf := f1.trans hdf
  replace e3 := (k1 3 (by decide)).trans e3
  have e10 := n1
  clear s1 f1 n1 k1
  refine wpTake_stepE ⟨some 11, Op.load 58 (Operand.tmp 10), 58, "", #[], none⟩ 11 (.pointer (some ⟨f, 0, none⟩)) HR.out.o3 rfl (by rw [hsz]; decide) (wanted_none rfl) (fun z hS => fd1_3 bx m f mv _ z (fun _ => rfl) e10 hS) ?_
  intro a4 ha4 s1 f1 n1 k1
  replace hsz := s1.trans hsz
  replace hdf := f1.trans hdf
  replace e3 := (k1 3 (by decide)).trans e3
  have e11 := n1
  clear s1 f1 n1 k1
  refine wpTake_stepE ⟨some 12, Op.load 45 (Operand.tmp 3), 45, "", #[], none⟩ 12 (.agg mv) HR.out.o4 rfl (by rw [hsz]; decide) (wanted_none rfl) (fun z hS => fd1_4 bx m f mv _ z (fun _ => rfl) e3 hS) ?_
  intro a5 ha5 s1 f1 n1 k1
  replace hsz := s1.trans hsz
  replace hdf := f1.trans hdf
  replace e11 := (k1 11 (by decide)).trans e11
  have e12 := n1
  clear s1 f1 n1 k1
  refine wpTake_nil ?_
  refine wpAnyH_one ⟨some 13, Op.call { callee := Callee.value (Operand.func 60), args := #[Operand.tmp 11, Operand.tmp 12], argTypes := #[58, 45] }, 4, "", #[], none⟩ HR.out.r5 HR.out.o5 rfl (fun K' hK' => ?_)
  refine wp_enter (fd1_5 bx m f mv _ _ rfl e11 e12) (hc) ?_
  rintro e9 w9 ⟨rfl, hS9, hT⟩
  refine ⟨_, rfl, hK'.out _ _ (hS9) ?_⟩
  replace hHeld := hS9
  clear hK' K'
  show wpAnyH _ _ _ _ _ _ _ (Act.put a5 (some 13) (.bool true)) _
  obtain ⟨s1, f1, n1, k1⟩ := act_put a5 13 (.bool true) (show 13 < _ by rw [hsz]; decide)
  obtain ⟨a6, ha6⟩ : ∃ x, x = Act.put a5 (some 13) (.bool true) := ⟨_, rfl⟩
  rw [← ha6] at s1 f1 n1 k1 ⊢
  replace hsz := s1.trans hsz
  replace hdf := f1.trans hdf
  have e13 := n1
  clear s1 f1 n1 k1
  refine wpAnyH_takes HR.out.sel hQ hHeld [6] 0 _ _ HR.out.may1 ?_
  refine wpTake_stepE ⟨some 14, Op.unOp UnOp.not 4 (Operand.tmp 13), 4, "", #[], none⟩ 14 (.bool false) HR.out.o6 rfl (by rw [hsz]; decide) (wanted_none rfl) (fun z hS => fd1_6 bx m f mv _ z (fun _ => rfl) e13 hS) ?_
  intro a7 ha7 s1 f1 n1 k1
  replace hsz := s1.trans hsz
  replace hdf := f1.trans hdf
  clear s1 f1 n1 k1
  refine wpTake_nil ?_
  refine wpAnyH_done HR.out.fin ?_ _
  rw [ha7, ha6, ha5, ha4, ha3, ha2, ha1]
  exact hK _ hT
-- R: ⟨by kernel_rfl, by kernel_rfl, by kernel_rfl, by kernel_rfl, by kernel_rfl, by kernel_rfl, by kernel_rfl, by kernel_rfl, by kernel_rfl, by kernel_rfl, by kernel_rfl, by kernel_rfl, by kernel_rfl⟩

end Go.Proofs.YtmncocmeafcpfaaDoor

/- Fetches and movers: On of the one shard. -/
namespace Go.Proofs.YtmncocmeafcpfaaDoor
set_option linter.unusedVariables false
set_option linter.unusedSimpArgs false
open Go.RowKit Go.Deep

section
variable {w : World} {f q oq cq g : Nat}

set_option maxRecDepth 100000 in
set_option maxHeartbeats 3200000 in
theorem fon_ok (pb : Option Addr) (c : Nat) (xs : List Nat) (hf : Lv w f (fetA b95 (.slice (some ⟨q, oq, none⟩) 1 cq) (.slice (some ⟨g, 0, none⟩) 1 1) 0)) (hg : Lv w g [.slice none 0 0]) (hq : w.cell? ⟨q, oq, none⟩ = some (.int .i64 3)) (hfg : f ≠ g) (hx : Rb w pb 8 xs) : Calls Tryd.prog 60 #[.pointer (some ⟨f, 0, none⟩), .agg (msgF 13 3 9 0 true (.slice pb 8 c))] w fun e w' => ∃ sv, e = .returned (.bool true) ∧ Kp (fun b => b = f ∨ b = g) w w' ∧ Ow w' w.heap.size sv xs ∧ Lv w' f (fetA b95 (.slice (some ⟨q, oq, none⟩) 1 cq) (.slice (some ⟨g, 0, none⟩) 1 1) 1) ∧ Lv w' g [sv] := by
  have hl : Lv (w.alloc (.cells (msgF 13 3 9 0 true (.slice pb 8 c)) 45)) w.heap.size (msgF 13 3 9 0 true (.slice pb 8 c)).toList := Lv.new w _ _
  have k0 : Kp (fun _ => False) w (w.alloc (.cells (msgF 13 3 9 0 true (.slice pb 8 c)) 45)) := (Kp.refl _ _).alloc _
  have HB : Hid (f < w.heap.size ∧ g < w.heap.size ∧ q < w.heap.size) := ⟨hf.lt (by simp), hg.lt (by simp), World.block_lt_of_cell? _ _ hq⟩
  have HL0 : Hid (∀ z, Kp (fun _ => False) (w.alloc (.cells (msgF 13 3 9 0 true (.slice pb 8 c)) 45)) z → Lv z w.heap.size (msgF 13 3 9 0 true (.slice pb 8 c)).toList ∧ Lv z f (fetA b95 (.slice (some ⟨q, oq, none⟩) 1 cq) (.slice (some ⟨g, 0, none⟩) 1 1) 0) ∧ Lv z g [.slice none 0 0] ∧ z.cell? ⟨q, oq, none⟩ = some (.int .i64 3) ∧ Rb z pb 8 xs) := fun z k => ⟨hl.keep k id, (hf.keep k0 id).keep k id, (hg.keep k0 id).keep k id, k.cellv (k0.cellv hq id) id, (hx.keep0 k0).keep0 k⟩
  have HLe : Hid (∀ z, Kp (fun _ => False) (w.alloc (.cells (msgF 13 3 9 0 true (.slice pb 8 c)) 45)) z → Calls _ _ _ z _) := fun z k => flength_ok (.slice (some ⟨g, 0, none⟩) 1 1) 0 (HL0.out z k).2.1
  have x0 := hl.cell (j := 0) rfl
  have x9 := hl.cell (j := 9) rfl
  have x23 := hl.cell (j := 23) rfl
  have HS1 : Hid (∀ z, Kp (fun _ => False) (w.alloc (.cells (msgF 13 3 9 0 true (.slice pb 8 c)) 45)) z → z.cell? ⟨w.heap.size, 0, none⟩ = some (.int .i64 13) ∧ z.cell? ⟨w.heap.size, 9, none⟩ = some (.bool true) ∧ z.cell? ⟨w.heap.size, 23, none⟩ = some (.slice pb 8 c)) := fun z k => ⟨k.cellv x0 id, k.cellv x9 id, k.cellv x23 id⟩
  have kd : Kp (fun _ => False) (w.alloc (.cells (msgF 13 3 9 0 true (.slice pb 8 c)) 45)) (w.alloc (.cells (msgF 13 3 9 0 true (.slice pb 8 c)) 45)).drew := (Kp.refl _ _).drew
  clear hl hf hg hq hx
  go_enter Tryd.func60, Tryd.ntmps60
  go_wp2
  go_region_held3 (fun z => z.cell? ⟨w.heap.size, 0, none⟩ = some (.int .i64 13) ∧ z.cell? ⟨w.heap.size, 9, none⟩ = some (.bool true) ∧ z.cell? ⟨w.heap.size, 23, none⟩ = some (.slice pb 8 c))
    (first
      | exact HS1.out _ kd
      | exact HS1.out _ k2)
    (first | (go_at_call 55; refine (HLe.out _ kd).mono ?_; rintro e w2 ⟨rfl, kk⟩; have k2 := kd.trans kk (fun _ _ e => e)))
  have hl2 := HL0.out w2 k2
  have HK2 : Hid (Kp (fun _ => False) w w2) := k0.trans k2 (fun _ _ e => e)
  have HL2 : Hid (∀ z, Kp (fun _ => False) w2 z → Lv z w.heap.size (msgF 13 3 9 0 true (.slice pb 8 c)).toList ∧ Lv z f (fetA b95 (.slice (some ⟨q, oq, none⟩) 1 cq) (.slice (some ⟨g, 0, none⟩) 1 1) 0) ∧ Lv z g [.slice none 0 0] ∧ z.cell? ⟨q, oq, none⟩ = some (.int .i64 3) ∧ Rb z pb 8 xs) := fun z k => ⟨hl2.1.keep k id, hl2.2.1.keep k id, hl2.2.2.1.keep k id, k.cellv hl2.2.2.2.1 id, hl2.2.2.2.2.keep0 k⟩
  have HLi : Hid (∀ z, Kp (fun _ => False) w2 z → Calls _ _ _ z _) := fun z k => lies_ok q oq cq (.slice pb 8 c) z (HL2.out z k).2.2.2.1
  have HS3 : Hid (∀ z, Kp (fun _ => False) w2 z → (loadVar 45 ⟨w.heap.size, 0, none⟩).run Tryd.prog z = .ok (.agg (msgF 13 3 9 0 true (.slice pb 8 c))) z ∧ z.cell? ⟨w.heap.size, 6, none⟩ = some (.int .i64 0) ∧ z.cell? ⟨f, 0, none⟩ = some (.int .i64 9) ∧ z.cell? ⟨f, 5, none⟩ = some (.slice (some ⟨q, oq, none⟩) 1 cq) ∧ z.cell? ⟨f, 6, none⟩ = some (.slice (some ⟨g, 0, none⟩) 1 1) ∧ z.cell? ⟨g, 0, none⟩ = some (.slice none 0 0)) := fun z k => by
    have h := HL2.out z k
    exact ⟨h.1.load dsMsg szMsg rfl, h.1.cell (j := 6) rfl, h.2.1.cell (j := 0) rfl, h.2.1.cell (j := 5) rfl, h.2.1.cell (j := 6) rfl, h.2.2.1.cell (j := 0) rfl⟩
  have kd2 : Kp (fun _ => False) w2 w2.drew := (Kp.refl _ _).drew
  have hc3 : Calls _ _ _ w2.drew _ := (HLi.out _ kd2).mono (R' := fun e w9 => e = .returned (.bool true) ∧ ((loadVar 45 ⟨w.heap.size, 0, none⟩).run Tryd.prog w9 = .ok (.agg (msgF 13 3 9 0 true (.slice pb 8 c))) w9 ∧ w9.cell? ⟨w.heap.size, 6, none⟩ = some (.int .i64 0) ∧ w9.cell? ⟨f, 0, none⟩ = some (.int .i64 9) ∧ w9.cell? ⟨f, 5, none⟩ = some (.slice (some ⟨q, oq, none⟩) 1 cq) ∧ w9.cell? ⟨f, 6, none⟩ = some (.slice (some ⟨g, 0, none⟩) 1 1) ∧ w9.cell? ⟨g, 0, none⟩ = some (.slice none 0 0)) ∧ Kp (fun _ => False) w2 w9) (fun e w9 h => ⟨h.1, HS3.out _ (kd2.trans h.2 (fun _ _ e => e)), kd2.trans h.2 (fun _ _ e => e)⟩)
  clear hl2 HL0 HS1 HLe x0 x9 x23 kd k2 kk k0
  go_wp2
  refine fo3_region ⟨by kernel_rfl, by kernel_rfl, by kernel_rfl, by kernel_rfl, by kernel_rfl, by kernel_rfl, by kernel_rfl, by kernel_rfl, by kernel_rfl, by kernel_rfl, by kernel_rfl, by kernel_rfl, by kernel_rfl, by kernel_rfl, by kernel_rfl, by kernel_rfl, by kernel_rfl, by kernel_rfl, by kernel_rfl, by kernel_rfl, by kernel_rfl, by kernel_rfl, by kernel_rfl, by kernel_rfl, by kernel_rfl, by kernel_rfl, by kernel_rfl, by kernel_rfl, by kernel_rfl, by kernel_rfl, by kernel_rfl⟩ w.heap.size f g q oq cq (msgF 13 3 9 0 true (.slice pb 8 c)) (fun d _ _ _ _ h => by cases d <;> exact h) (by rfl) (by rfl) (by rfl) (HS3.out _ kd2) (fun w9 => Kp (fun _ => False) w2 w9) hc3 ?_
  intro w3 k3
  clear hc3 HLi HS3
  simp only [Act.put, List.setIfInBounds_toArray, List.set_cons_succ, List.set_cons_zero]
  go_wp2
  have hl3 := HL2.out w3 k3
  have HK3 : Hid (Kp (fun _ => False) w w3) := HK2.out.trans k3 (fun _ _ e => e)
  have HS5 : Hid (∀ z, Kp (fun b => b = g) w3 z → z.cell? ⟨f, 6, none⟩ = some (.slice (some ⟨g, 0, none⟩) 1 1) ∧ z.cell? ⟨w.heap.size, 6, none⟩ = some (.int .i64 0) ∧ z.cell? ⟨w.heap.size, 23, none⟩ = some (.slice pb 8 c)) := fun z k => ⟨k.cellv (hl3.2.1.cell (j := 6) rfl) hfg, k.cellv (hl3.1.cell (j := 6) rfl) (fun e => by have := HB.out.2.1; have e' : w.heap.size = g := e; omega), k.cellv (hl3.1.cell (j := 23) rfl) (fun e => by have := HB.out.2.1; have e' : w.heap.size = g := e; omega)⟩
  have kd3 : Kp (fun _ => False) w3 w3.drew := (Kp.refl _ _).drew
  have hx8 : xs.length = 8 := hl3.2.2.2.2.len
  have hc5 : Calls _ _ _ w3.drew _ := (clone_any pb 8 c xs w3.drew (hl3.2.2.2.2.keep0 kd3) (by show _ ≤ _; decide)).mono (R' := fun e w9 => ∃ ps cs, e = .returned (.slice ps 8 cs) ∧ (w9.cell? ⟨f, 6, none⟩ = some (.slice (some ⟨g, 0, none⟩) 1 1) ∧ w9.cell? ⟨w.heap.size, 6, none⟩ = some (.int .i64 0) ∧ w9.cell? ⟨w.heap.size, 23, none⟩ = some (.slice pb 8 c)) ∧ ((w9.setCell ⟨g, 0, none⟩ (.slice ps 8 cs)).cell? ⟨f, 6, none⟩ = some (.slice (some ⟨g, 0, none⟩) 1 1) ∧ (w9.setCell ⟨g, 0, none⟩ (.slice ps 8 cs)).cell? ⟨w.heap.size, 6, none⟩ = some (.int .i64 0) ∧ (w9.setCell ⟨g, 0, none⟩ (.slice ps 8 cs)).cell? ⟨w.heap.size, 23, none⟩ = some (.slice pb 8 c)) ∧ w9.cell? ⟨g, 0, none⟩ = some (.slice none 0 0) ∧ w9.frozen? ⟨g, 0, none⟩ = false ∧ Kp (fun _ => False) w3 w9 ∧ Ow w9 w.heap.size (.slice ps 8 cs) xs) (fun e w9 h => by
    obtain ⟨v, rfl, k9, o9⟩ := h
    obtain ⟨ps, cs, rfl, _⟩ := o9.rb (fun x hx => hl3.2.2.2.2.byte x hx)
    have kz := kd3.trans k9 (fun _ _ e => e)
    have kg := Kp.mono (S' := fun b => b = g) kz (fun _ _ e => e.elim)
    have lg := hl3.2.2.1.keep kz id
    rw [hx8]
    refine ⟨ps, cs, rfl, HS5.out _ kg, HS5.out _ (kg.setCell (fun _ => rfl) _), lg.cell (j := 0) rfl, lg.fz (by simp), kz, ?_⟩
    rw [hx8] at o9
    have hz := HK3.out.size
    have o8 := ownsRow_base (base' := w.heap.size) o9 (by have : w3.drew.heap.size = w3.heap.size := rfl; omega)
    exact o8)
  have HF : Hid (∀ (ps : Option Addr) (cs : Nat) (w9 : World), Kp (fun _ => False) w3 w9 → Ow w9 w.heap.size (.slice ps 8 cs) xs → Lv (w9.setCell ⟨g, 0, none⟩ (.slice ps 8 cs)) f (fetA b95 (.slice (some ⟨q, oq, none⟩) 1 cq) (.slice (some ⟨g, 0, none⟩) 1 1) 0) ∧ Lv (w9.setCell ⟨g, 0, none⟩ (.slice ps 8 cs)) g [.slice ps 8 cs] ∧ Kp (fun b => b = f ∨ b = g) w (w9.setCell ⟨g, 0, none⟩ (.slice ps 8 cs)) ∧ Ow (w9.setCell ⟨g, 0, none⟩ (.slice ps 8 cs)) w.heap.size (.slice ps 8 cs) xs) := fun ps cs w9 k o => by
    have ks : Kp (fun b => b = g) w9 (w9.setCell ⟨g, 0, none⟩ (.slice ps 8 cs)) := (Kp.refl (fun b => b = g) w9).setCell (fun _ => rfl) _
    refine ⟨(hl3.2.1.keep k id).keep ks hfg, (hl3.2.2.1.keep k id).set1 0 _ (by simp), ?_, ownsRow_keep o ks (fun b hb e => ?_)⟩
    · exact ((HK3.out.trans k (fun _ _ e => e)).mono (fun _ _ e => e.elim)).trans ks (fun b _ e => Or.inr e)
    · have h1 := (ownBlock_lt o hb).1
      have h2 := HB.out.2.1
      have e' : b = g := e
      omega
  clear hl3 HL2 HK2 k3 hx8 HK3
  refine fo5_region ⟨by kernel_rfl, by kernel_rfl, by kernel_rfl, by kernel_rfl, by kernel_rfl, by kernel_rfl, by kernel_rfl, by kernel_rfl, by kernel_rfl, by kernel_rfl, by kernel_rfl, by kernel_rfl, by kernel_rfl, by kernel_rfl, by kernel_rfl, by kernel_rfl, by kernel_rfl, by kernel_rfl⟩ w.heap.size f g pb c (fun d _ _ _ _ h => by cases d <;> exact h) (by rfl) (by rfl) (by rfl) (HS5.out _ (kd3.mono (fun _ _ e => e.elim))) (fun ps cs w9 => Kp (fun _ => False) w3 w9 ∧ Ow w9 w.heap.size (.slice ps 8 cs) xs) hc5 ?_
  rintro ps cs w9 ⟨k9, o9⟩
  have hf := HF.out ps cs w9 k9 o9
  obtain ⟨w4, hw4⟩ : ∃ x, x = w9.setCell ⟨g, 0, none⟩ (.slice ps 8 cs) := ⟨_, rfl⟩
  rw [← hw4] at hf ⊢
  have c7 := hf.1.cell (j := 7) rfl
  have f7 := hf.1.fz (j := 7) (by simp)
  have HE : Hid (Lv w4 f (fetA b95 (.slice (some ⟨q, oq, none⟩) 1 cq) (.slice (some ⟨g, 0, none⟩) 1 1) 0) ∧ Lv w4 g [.slice ps 8 cs] ∧ Kp (fun b => b = f ∨ b = g) w w4 ∧ Ow w4 w.heap.size (.slice ps 8 cs) xs) := hf
  clear hc5 HF HS5 hw4 k9 o9 kd3 hf
  simp only [Act.put, List.setIfInBounds_toArray, List.set_cons_succ, List.set_cons_zero]
  go_wp2
  go_ret
  have he := HE.out
  have ks : Kp (fun b => b = f) w4 (w4.setCell ⟨f, 7, none⟩ (.int .i64 1)) := (Kp.refl (fun b => b = f) w4).setCell (fun _ => rfl) _
  refine ⟨.slice ps 8 cs, rfl, he.2.2.1.trans ks (fun b _ e => Or.inl e), ownsRow_keep he.2.2.2 ks (fun b hb e => ?_), he.1.set1 7 _ (by simp), he.2.1.keep ks (fun e => hfg e.symm)⟩
  have h1 := (ownBlock_lt he.2.2.2 hb).1
  have h2 := HB.out.1
  have e' : b = f := e
  omega

set_option maxRecDepth 100000 in
set_option maxHeartbeats 800000 in
theorem came_ok (cv : Value) (k : Int) (h : Lv w f (fetA b95 (.slice (some ⟨q, oq, none⟩) 1 cq) cv k)) : Calls Tryd.prog 91 #[.pointer (some ⟨f, 0, none⟩)] w fun e w' => e = .returned cv ∧ w' = w := by
  have c6 := h.cell (j := 6) rfl
  clear h
  go_enter Tryd.func91, Tryd.ntmps91
  go_wp2
  go_ret
  exact ⟨rfl, rfl⟩

set_option maxRecDepth 100000 in
set_option maxHeartbeats 800000 in
theorem has_ok {m : Nat} {p bl ix nd old : Int} {fp : Value} {fe : Int} (p0 ps : Option Addr) (n0 c0 n cs : Nat) (h : Lv w m (movA p bl ix nd old fp (.slice p0 n0 c0) fe)) (hfp : ∃ b, fp = .pointer b) : Calls Tryd.prog 56 #[.pointer (some ⟨m, 0, none⟩), .slice ps n cs] w fun e w' => e = .returned (.tuple #[]) ∧ Kp (fun b => b = m) w w' ∧ Lv w' m (movA 2 bl ix nd old (.pointer none) (.slice ps n cs) fe) := by
  obtain ⟨bp, rfl⟩ := hfp
  have h1 : Lv (w.setCell ⟨m, 0, none⟩ (.int .i64 2)) m (movA 2 bl ix nd old (.pointer bp) (.slice p0 n0 c0) fe) := h.set1 0 _ (by simp)
  have h2 : Lv ((w.setCell ⟨m, 0, none⟩ (.int .i64 2)).setCell ⟨m, 6, none⟩ (.slice ps n cs)) m (movA 2 bl ix nd old (.pointer bp) (.slice ps n cs) fe) := h1.set1 6 _ (by simp)
  have HF : Hid (Lv (((w.setCell ⟨m, 0, none⟩ (.int .i64 2)).setCell ⟨m, 6, none⟩ (.slice ps n cs)).setCell ⟨m, 5, none⟩ (.pointer none)) m (movA 2 bl ix nd old (.pointer none) (.slice ps n cs) fe)) := h2.set1 5 _ (by simp)
  have c0 := h.cell (j := 0) rfl
  have f0 := h.fz (j := 0) (by simp)
  have c6 := h1.cell (j := 6) rfl
  have f6 := h1.fz (j := 6) (by simp)
  have c5 := h2.cell (j := 5) rfl
  have f5 := h2.fz (j := 5) (by simp)
  clear h h1 h2
  go_enter Tryd.func56, Tryd.ntmps56
  go_wp2
  refine bodyPost_end (results_none rfl _ _ _) rfl ?_
  exact ⟨rfl, (((Kp.refl (fun b => b = m) _).setCell (fun _ => rfl) _).setCell (fun _ => rfl) _).setCell (fun _ => rfl) _, HF.out⟩

set_option maxRecDepth 100000 in
set_option maxHeartbeats 3200000 in
theorem fetched_ok {m base : Nat} (pb : Option Addr) (c : Nat) (xs : List Nat) (hM : Mn w base m f q oq cq g) (hx : Rb w pb 8 xs) : Calls Tryd.prog 50 #[.pointer (some ⟨m, 0, none⟩), .agg (msgF 13 3 9 0 true (.slice pb 8 c))] w fun e w' => ∃ ps cs, e = .returned (.bool true) ∧ Kp (fun b => b = m ∨ b = f ∨ b = g) w w' ∧ Ow w' w.heap.size (.slice ps 8 cs) xs ∧ Lv w' m (movA 2 9 0 0 3 (.pointer none) (.slice ps 8 cs) 0) := by
  have hl : Lv (w.alloc (.cells (msgF 13 3 9 0 true (.slice pb 8 c)) 45)) w.heap.size (msgF 13 3 9 0 true (.slice pb 8 c)).toList := Lv.new w _ _
  have k0 : Kp (fun _ => False) w (w.alloc (.cells (msgF 13 3 9 0 true (.slice pb 8 c)) 45)) := (Kp.refl _ _).alloc _
  obtain ⟨w0, hw0⟩ : ∃ x, x = w.alloc (.cells (msgF 13 3 9 0 true (.slice pb 8 c)) 45) := ⟨_, rfl⟩
  have hz0 : w0.heap.size = w.heap.size + 1 := by rw [hw0]; simp
  rw [← hw0] at hl k0
  have hap := hM.apart
  have lm := hM.lm.keep k0 id
  have HB : Hid (m < w.heap.size ∧ f < w.heap.size ∧ g < w.heap.size) := ⟨hM.lm.lt (by simp), hM.lf.lt (by simp), hM.lg.lt (by simp)⟩
  have kd : Kp (fun _ => False) w0 w0.drew := (Kp.refl _ _).drew
  have hS0 : (loadVar 45 ⟨w.heap.size, 0, none⟩).run Tryd.prog w0.drew = .ok (.agg (msgF 13 3 9 0 true (.slice pb 8 c))) w0.drew ∧ w0.drew.cell? ⟨m, 5, none⟩ = some (.pointer (some ⟨f, 0, none⟩)) := ⟨(hl.keep kd id).load dsMsg szMsg rfl, (lm.keep kd id).cell (j := 5) rfl⟩
  have hc1 : Calls _ _ _ w0.drew _ := (fon_ok pb c xs ((hM.lf.keep k0 id).keep kd id) ((hM.lg.keep k0 id).keep kd id) (kd.cellv (k0.cellv hM.lq id) id) hap.2.2.2.1 ((hx.keep0 k0).keep0 kd)).mono (R' := fun e w9 => e = .returned (.bool true) ∧ ((loadVar 45 ⟨w.heap.size, 0, none⟩).run Tryd.prog w9 = .ok (.agg (msgF 13 3 9 0 true (.slice pb 8 c))) w9 ∧ w9.cell? ⟨m, 5, none⟩ = some (.pointer (some ⟨f, 0, none⟩))) ∧ ∃ ps cs, Kp (fun b => b = f ∨ b = g) w0 w9 ∧ Ow w9 w0.heap.size (.slice ps 8 cs) xs ∧ Lv w9 f (fetA b95 (.slice (some ⟨q, oq, none⟩) 1 cq) (.slice (some ⟨g, 0, none⟩) 1 1) 1) ∧ Lv w9 g [.slice ps 8 cs]) (fun e w9 h => by
    obtain ⟨sv, rfl, k9, o9, l9, g9⟩ := h
    have hx8 : xs.length = 8 := hx.len
    obtain ⟨ps, cs, rfl, _⟩ := o9.rb (fun x hh => hx.byte x hh)
    rw [hx8] at o9 g9
    have kz : Kp (fun b => b = f ∨ b = g) w0 w9 := (kd.mono (fun _ _ e => e.elim)).trans k9 (fun _ _ e => e)
    have hb := HB.out
    have hbx := hl.keep kz (fun e => by rcases e with e | e <;> omega)
    have hmm := lm.keep kz (fun e => by rcases e with e | e; exact hap.1 e; exact hap.2.1 e)
    exact ⟨rfl, ⟨hbx.load dsMsg szMsg rfl, hmm.cell (j := 5) rfl⟩, ps, cs, kz, o9, l9, g9⟩)
  have HX : Hid (Lv w0 w.heap.size (msgF 13 3 9 0 true (.slice pb 8 c)).toList ∧ Lv w0 m (movA 1 9 0 0 3 (.pointer (some ⟨f, 0, none⟩)) (.slice none 0 0) 0) ∧ m ≠ f ∧ m ≠ g ∧ Kp (fun _ => False) w w0 ∧ w0.heap.size = w.heap.size + 1) := ⟨hl, lm, hap.1, hap.2.1, k0, hz0⟩
  clear hl lm hap hM hx k0 kd hz0
  go_enter Tryd.func50, Tryd.ntmps50
  go_wp2
  rw [show w.alloc (.cells (msgF 13 3 9 0 true (.slice pb 8 c)) 45) = w0 from hw0.symm]
  clear hw0
  refine fd1_region ⟨by kernel_rfl, by kernel_rfl, by kernel_rfl, by kernel_rfl, by kernel_rfl, by kernel_rfl, by kernel_rfl, by kernel_rfl, by kernel_rfl, by kernel_rfl, by kernel_rfl, by kernel_rfl, by kernel_rfl⟩ w.heap.size m f (msgF 13 3 9 0 true (.slice pb 8 c)) (fun d _ _ _ _ h => by cases d <;> exact h) (by rfl) (by rfl) (by rfl) hS0 (fun w9 => ∃ ps cs, Kp (fun b => b = f ∨ b = g) w0 w9 ∧ Ow w9 w0.heap.size (.slice ps 8 cs) xs ∧ Lv w9 f (fetA b95 (.slice (some ⟨q, oq, none⟩) 1 cq) (.slice (some ⟨g, 0, none⟩) 1 1) 1) ∧ Lv w9 g [.slice ps 8 cs]) hc1 ?_
  rintro w9 ⟨ps, cs, k9, o9, l9, g9⟩
  have hb := HB.out
  have hxx := HX.out
  have lx9 := hxx.1.keep k9 (fun e => by rcases e with e | e <;> omega)
  have lm9 := hxx.2.1.keep k9 (fun e => by rcases e with e | e; exact hxx.2.2.1 e; exact hxx.2.2.2.1 e)
  have x6 := lx9.cell (j := 6) rfl
  have m2 := lm9.cell (j := 2) rfl
  have m5 := lm9.cell (j := 5) rfl
  have g0 := g9.cell (j := 0) rfl
  have HCa : Hid (Calls _ _ _ w9 _) := came_ok (.slice (some ⟨g, 0, none⟩) 1 1) 1 l9
  have HHa : Hid (∀ z, Kp (fun _ => False) w9 z → Calls _ _ _ z _) := fun z k => has_ok none ps 0 0 8 cs (lm9.keep k id) ⟨_, rfl⟩
  have HO : Hid (Kp (fun b => b = f ∨ b = g) w0 w9 ∧ Ow w9 w0.heap.size (.slice ps 8 cs) xs) := ⟨k9, o9⟩
  clear hS0 hc1 hb hxx lx9 lm9 k9 o9 l9 g9
  simp only [Act.put, List.setIfInBounds_toArray, List.set_cons_succ, List.set_cons_zero]
  go_wp2_with (go_at_call 91; refine HCa.out.mono ?_; rintro e w10 ⟨rfl, hw10⟩; subst hw10)
  go_quiet (fail)
  have kq : Kp (fun _ => False) w10 (w10.drewN nq) := (Kp.refl _ _).drewN _
  have x6q := kq.cellv x6 id
  have g0q := kq.cellv g0 id
  go_wp2_with (go_at_call 56; refine (HHa.out _ kq).mono ?_; rintro e w11 ⟨rfl, k11, l11⟩)
  go_ret
  have hb := HB.out
  have hxx := HX.out
  have ho := HO.out
  have kk : Kp (fun b => b = m) w10 w11 := (kq.mono (fun _ _ e => e.elim)).trans k11 (fun _ _ e => e)
  refine ⟨ps, cs, rfl, ?_, ?_, l11⟩
  · exact ((hxx.2.2.2.2.1.mono (fun _ _ e => e.elim)).trans (Kp.mono (S' := fun b => b = m ∨ b = f ∨ b = g) ho.1 (fun _ _ e => Or.inr e)) (fun _ _ e => e)).trans kk (fun _ _ e => Or.inl e)
  · have o2 := ownsRow_keep ho.2 kk (fun b hb2 e => by
      have h1 := (ownBlock_lt ho.2 hb2).1
      have e' : b = m := e
      omega)
    exact ownsRow_base o2 (by omega)
end
end Go.Proofs.YtmncocmeafcpfaaDoor

/- Two lists of one message, the same, without lists: amphoraplain.SameMsgs. -/
namespace Go.Proofs.YtmncocmeafcpfaaDoor
set_option linter.unusedVariables false
set_option linter.unusedSimpArgs false
open Go.RowKit Go.Deep

abbrev nilA (s : Ms0) : Array Value := msgA s (.slice none 0 0) (.slice none 0 0) (.slice none 0 0)
theorem fl_nil (w : World) (Z : Nat → Prop) (p : Option Addr) : Fl w Z p [] := fun j u hu => by simp at hu
theorem mr_nil (w : World) (Z : Nat → Prop) (s : Ms0) : Mr w Z ⟨s, [], [], []⟩ (.agg (nilA s)) :=
  ⟨none, 0, none, 0, [], none, 0, rfl, fl_nil _ _ _, (show 0 * 8 ≤ 140737488355328 by decide), rfl, fl_nil _ _ _, (fun x hx => by cases hx), (show 0 * 136 ≤ 140737488355328 by decide), fl_nil _ _ _, (fun x hx => by cases hx), (show 0 ≤ 140737488355328 by decide)⟩

set_option maxRecDepth 100000 in
set_option maxHeartbeats 1600000 in
theorem eqf_msgs1 (s : Ms0) (g1 g2 c1 c2 : Nat) (w : World) (h1 : Lv w g1 (nilA s).toList) (h2 : Lv w g2 (nilA s).toList) :
    Calls Tryd.prog 53 #[.slice (some ⟨g1, 0, none⟩) 1 c1, .slice (some ⟨g2, 0, none⟩) 1 c2, .func (.func 31) #[] #[]] w fun e w' => e = .returned (.bool true) ∧ Kp (fun _ => False) w w' := by
  have HSv : Hid (∀ u, Calls _ _ _ u _) := fun u => same_msg (fun _ => True) (fun _ => True) ⟨s, [], [], []⟩ _ _ u (mr_nil u _ s) (mr_nil u _ s)
  have HR1 : Hid (Lv w g1 (nilA s).toList) := h1
  have HR2 : Hid (∀ u, Kp (fun _ => False) w u → Lv u g2 (nilA s).toList) := fun u k => h2.keep k id
  have HO : Hid ((nilA s).toList.toArray.all (·.oneCell') = true) := msg_one s rfl rfl rfl
  obtain ⟨L, hL⟩ : ∃ L, L = 1 := ⟨_, rfl⟩
  clear h1 h2
  go_enter Tryd.func53, Tryd.ntmps53
  go_wp2
  go_loopg [17] 1 (fun gk i wr => ∃ k : Nat, k ≤ 1 ∧ gk = 1 - k ∧ i = .int .i64 k ∧ (k = 0 → wr = w) ∧ Kp (fun _ => False) w wr)
  case atStart => exact ⟨0, by omega, rfl, rfl, fun _ => rfl, Kp.refl _ _⟩
  case round =>
    obtain ⟨k, hk, rfl, rfl, h0, hK⟩ := hrel
    by_cases hk0 : k = 0
    · subst hk0
      obtain rfl := h0 rfl
      clear h0 hK
      go_wp2_with (first
        | (refine wpList_load_all rfl 45 _ rfl 24 g1 (nilA s).toList rfl HR1.out dsMsg szMsg rfl ?_)
        | (refine wpList_store_all rfl 45 _ _ rfl 24 wr.heap.size zeroM.toList (nilA s).toList rfl rfl (by exact Lv.new wr _ _) szMsg rfl rfl HO.out ?_; intro u2 hl2 k2; have ku2 : Kp (fun _ => False) wr u2 := ((Kp.refl (fun _ => False) wr).alloc _).trans k2 (fun b hb e => by omega); have HR2' : Hid (Lv u2 g2 (nilA s).toList) := HR2.out u2 ku2; have HL2 : Hid (Lv u2 wr.heap.size (nilA s).toList) := hl2; clear hl2 k2)
        | (refine wpList_load_all rfl 45 _ rfl 24 g2 (nilA s).toList rfl HR2'.out dsMsg szMsg rfl ?_)
        | (refine wpList_store_all rfl 45 _ _ rfl 24 u2.heap.size zeroM.toList (nilA s).toList rfl rfl (by exact Lv.new u2 _ _) szMsg rfl rfl HO.out ?_; intro u3 hl3 k3; have ku3 : Kp (fun _ => False) u2 u3 := ((Kp.refl (fun _ => False) u2).alloc _).trans k3 (fun b hb e => by omega); have HL3 : Hid (Lv u3 u2.heap.size (nilA s).toList) := hl3; have HL2' : Hid (Lv u3 wr.heap.size (nilA s).toList) := HL2.out.keep ku3 id; have kw3 := ku2.trans ku3 (fun _ _ e => e); clear hl3 k3)
        | (refine wpList_load_all rfl 45 _ rfl 24 wr.heap.size (nilA s).toList rfl HL2'.out dsMsg szMsg rfl ?_)
        | (refine wpList_load_all rfl 45 _ rfl 24 u2.heap.size (nilA s).toList rfl HL3.out dsMsg szMsg rfl ?_)
        | (go_at_call 31; refine (HSv.out _).mono ?_; rintro e u4 ⟨rfl, k4⟩))
      go_roundg 0
      case rel => exact ⟨1, by omega, rfl, by go_num, fun h => absurd h (by decide), kw3.trans k4 (fun _ _ e => e)⟩
      case measure => omega
    · obtain rfl : k = 1 := by omega
      go_wp2
      go_ret
      exact ⟨rfl, hK⟩

set_option maxRecDepth 100000 in
set_option maxHeartbeats 800000 in
theorem same_msgs1 (s : Ms0) (g1 g2 c1 c2 : Nat) (w : World) (h1 : Lv w g1 (nilA s).toList) (h2 : Lv w g2 (nilA s).toList) :
    Calls Tryd.prog 23 #[.slice (some ⟨g1, 0, none⟩) 1 c1, .slice (some ⟨g2, 0, none⟩) 1 c2] w fun e w' => e = .returned (.bool true) ∧ Kp (fun _ => False) w w' := by
  have H : Hid (Calls _ _ _ w _) := eqf_msgs1 s g1 g2 c1 c2 w h1 h2
  clear h1 h2
  go_enter Tryd.func23, Tryd.ntmps23
  go_wp2_with (go_at_call 53; refine H.out.mono ?_; rintro e w1 ⟨rfl, k1⟩)
  go_ret
  exact ⟨rfl, k1⟩
end Go.Proofs.YtmncocmeafcpfaaDoor
