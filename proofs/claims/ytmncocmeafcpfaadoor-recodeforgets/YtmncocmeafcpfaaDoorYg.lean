/- Fetches: On of the one shard. -/
import Derived.Test.YtmncocmeafcpfaaDoorYe
import Derived.Deep.RegionHeld3
import Derived.Deep.RegionHeldLaw
namespace Go.Proofs.YtmncocmeafcpfaaDoor
set_option linter.unusedVariables false
set_option linter.unusedSimpArgs false
open Go.RowKit Go.Deep

set_option maxRecDepth 100000 in
set_option maxHeartbeats 1600000 in
theorem lies_ok (q oq cq : Nat) (bv : Value) (w : World) (hq : w.cell? ⟨q, oq, none⟩ = some (.int .i64 3)) : Calls Tryd.prog 96 #[.agg (msgF 13 3 9 0 true bv), .int .i64 9, .slice (some ⟨q, oq, none⟩) 1 cq] w fun e w' => e = .returned (.bool true) ∧ Kp (fun _ => False) w w' := by
  have hl : Lv (w.alloc (.cells (msgF 13 3 9 0 true bv) 45)) w.heap.size (msgF 13 3 9 0 true bv).toList := Lv.new w _ _
  have k0 : Kp (fun _ => False) w (w.alloc (.cells (msgF 13 3 9 0 true bv) 45)) := (Kp.refl _ _).alloc _
  have q0 := k0.cellv hq id
  have x1 := hl.cell (j := 1) rfl
  have x5 := hl.cell (j := 5) rfl
  have x6 := hl.cell (j := 6) rfl
  clear hl
  go_enter Tryd.func96, Tryd.ntmps96
  go_wp2
  go_quiet (fail)
  go_wp2
  go_ret
  exact ⟨rfl, k0.drewN _⟩

/-- a whole struct is loaded, at a step of a region that draws its order -/
theorem step_load_all {ops : Array Oper} {o : Oper} {a : Act} {K : Act → World → Prop} {Q : Exit → Act → World → Prop} {E : Prop} (w : World) (hgd : o.guard = none) (ty : TypeId) (x : Operand) (ho : o.op = .load ty x)
    (n g : Nat) (cs : List Value) (hx : a.eval x = .pointer (some ⟨g, 0, none⟩)) (hL : Lv w g cs) (hd : ∃ d, Tryd.prog.underlying ty = some d ∧ d.isRow = true)
    (hi : (Tryd.prog.info? ty).map (·.size) = some n) (hn : cs.length = n) (h : K (a.put o.dst (.agg cs.toArray)) w) :
    if Region.wanted o (yielded ops a.tmps) = true then Oper.wp Tryd.prog o a w K Q else E := by
  have hw : Region.wanted o (yielded ops a.tmps) = true := by simp [Region.wanted, hgd]
  rw [if_pos hw]
  have hr := hL.load hd hi hn
  have hrun : (execOp a.eval o).run Tryd.prog w = .ok (.value (.agg cs.toArray)) w := by
    unfold execOp
    simp only [ho, hx]
    simp [Instr.loadAt, Instr.sureAddr, hr]
  unfold Oper.wp
  rw [hrun]
  exact h

section
variable {w : World} {f q oq cq g : Nat}

set_option maxRecDepth 100000 in
set_option maxHeartbeats 1600000 in
theorem flength_ok (cv : Value) (k : Int) (h : Lv w f (fetA b95 (.slice (some ⟨q, oq, none⟩) 1 cq) cv k)) : Calls Tryd.prog 55 #[.pointer (some ⟨f, 0, none⟩)] w fun e w' => e = .returned (.int .i64 8) ∧ Kp (fun _ => False) w w' := by
  have H : Hid (∀ z, Calls Tryd.prog 95 #[code10, .int .i64 5] z _) := fun z => length10 z
  have c1 := h.cell (j := 1) rfl
  have c3 := h.cell (j := 3) rfl
  have c4 := h.cell (j := 4) rfl
  have HSw : Hid (∀ z, Kp (fun _ => False) w z → z.cell? ⟨f, 1, none⟩ = some (.int .i64 5) ∧ z.cell? ⟨f, 3, none⟩ = some (.int .i64 1) ∧ z.cell? ⟨f, 4, none⟩ = some (.int .i64 0)) := fun z k => ⟨k.cellv c1 id, k.cellv c3 id, k.cellv c4 id⟩
  have kd : Kp (fun _ => False) w w.drew := (Kp.refl _ _).drew
  clear h
  go_enter Tryd.func55, Tryd.ntmps55
  go_wp2
  go_region_held3 (fun z => z.cell? ⟨f, 1, none⟩ = some (.int .i64 5) ∧ z.cell? ⟨f, 3, none⟩ = some (.int .i64 1) ∧ z.cell? ⟨f, 4, none⟩ = some (.int .i64 0))
    (first
      | exact HSw.out _ kd
      | exact HSw.out _ k2)
    (first | (go_at_call 95; refine (H.out _).mono ?_; rintro e w2 ⟨rfl, kk⟩; have k2 := kd.trans kk (fun _ _ e => e)))
  go_wp2
  go_ret
  exact ⟨rfl, k2⟩
end
end Go.Proofs.YtmncocmeafcpfaaDoor
