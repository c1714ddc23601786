/- Drawn regions that clone bytes and append to the copies. -/
import Derived.Test.YtmooddbhcccicaaGreatDoorWo
import Derived.Test.YtmooddbhcccicaaGreatDoorAh
import Derived.Lib.MinMax
namespace Go.Proofs.YtmooddbhcccicaaGreatDoor
set_option linter.unusedVariables false
set_option linter.unusedSimpArgs false
open Go.RowKit Go.Deep

theorem step_runO {P : Program} {Q : Exit → Act → World → Prop} {o : Oper} {a : Act} {w w' : World} {d : Nat} {v : Value} {K : Act → World → Prop} (hd : o.dst = some d) (hrun : (execOp a.eval o).run P w = .ok (.value v) w') (hK : K (a.put (some d) v) w') : Oper.wp P o a w K Q := by
  unfold Oper.wp
  rw [hrun, Oper.upon_value, hd]
  exact hK
theorem slice_firstO (p : Option Addr) (n c r : Nat) (hr : r ≤ c) (w : World) :
    (Instr.slice 34 (.slice p n c) none (some (.int .i64 (r : Int))) none).run Tryz.prog w = .ok (.slice p r c) w := by
  have h : (Instr.slice 34 (.slice p n c) none (some (.int .i64 (r : Int))) none).run Tryz.prog w = .ok (.slice (if c = 0 then p else p.map (·.add (0 * 1))) (r - 0) (c - 0)) w := by
    obtain ⟨i, hi, hz⟩ := Option.map_eq_some_iff.1 info5
    simp only [Prod.mk.injEq] at hz
    obtain ⟨hz, hs, hb⟩ := hz
    have h2 : (0 : Int) ≤ r ∧ (r : Int) ≤ (c : Int) := by omega
    simp [Instr.slice, Instr.sliceBounds, Instr.sliceBound, asIntOf, run_underlying Tryz.underlying34, sizeOf, typeInfo, hi, hr]
  rw [h]
  cases p <;> simp [Addr.add]

/-- what an operation yields: a value that is known, or bytes of one's own -/
inductive Kd where
  | eq (u : Value)
  | ow (xs : List Nat)
def Kd.R (base : Nat) : Kd → Value → World → Prop
  | .eq u, v, _ => v = u
  | .ow xs, v, w => Ow w base v xs
def Kd.Bl : Kd → Value → Option Nat
  | .eq _, _ => none
  | .ow _, v => v.ownBlock
theorem Kd.keep {base : Nat} {kd : Kd} {v : Value} {w w' : World} {S : Nat → Prop} (h : kd.R base v w) (k : Kp S w w') (hS : ∀ g, kd.Bl v = some g → ¬ S g) : kd.R base v w' := by
  cases kd with
  | eq u => exact h
  | ow xs => exact ownsRow_keep (show Ow w base v xs from h) k hS
section
variable {Q : Exit → Act → World → Prop} {K : Act → World → Prop} {S : Nat → Prop} {base : Nat} {o : Oper} {a : Act} {w : World} {d : Nat} {kd : Kd}
/-- a step that does not touch the world -/
theorem owr_eq {X : Prop} {C : Nat → Prop} (hd : o.dst = some d) {v u : Value} (hkd : kd = .eq u) (hrun : (execOp a.eval o).run Tryz.prog w = .ok (.value v) w) (hv : v = u)
    (hK : Shut (∀ v w', Kp S w w' → kd.R base v w' → (∀ g, kd.Bl v = some g → C g ∨ (w.heap.size ≤ g ∧ g < w'.heap.size)) → K (a.put (some d) v) w')) : Oper.wp Tryz.prog o a w K Q := by
  subst hkd
  exact step_runO hd hrun (hK.out v w (Kp.refl _ _) hv (fun g hg => by cases hg))
/-- bytes.Clone -/
theorem owr_clone {C : Nat → Prop} (hd : o.dst = some d) (p : Option Addr) (n c : Nat) (xs : List Nat) (hkd : kd = .ow xs) (hrun : (execOp a.eval o).run Tryz.prog w = .ok (.enter 13 #[.slice p n c]) w) (hr : Rb w p n xs) (hn : n ≤ 140737488355328) (hb : base ≤ w.heap.size)
    (hK : Shut (∀ v w', Kp S w w' → kd.R base v w' → (∀ g, kd.Bl v = some g → C g ∨ (w.heap.size ≤ g ∧ g < w'.heap.size)) → K (a.put (some d) v) w')) : Oper.wp Tryz.prog o a w K Q := by
  subst hkd
  refine wp_enter hrun (clone_any p n c xs w hr hn) ?_
  rintro e9 w9 ⟨v, rfl, k9, o9⟩
  refine ⟨v, rfl, ?_⟩
  rw [hd]
  exact hK.out v w9 (k9.mono (fun _ _ e => e.elim)) (ownsRow_base o9 hb) (fun g hg => Or.inr (ownBlock_lt o9 hg))
/-- a slice of one byte -/
theorem owr_one {C : Nat → Prop} (hd : o.dst = some d) (x : Nat) (hkd : kd = .ow [x]) (hrun : (execOp a.eval o).run Tryz.prog w = .ok (.value (.slice (some ⟨w.heap.size, 0, none⟩) 1 1)) (w.alloc (.cells #[.int .u8 (x : Int)] 5))) (hb : base ≤ w.heap.size)
    (hK : Shut (∀ v w', Kp S w w' → kd.R base v w' → (∀ g, kd.Bl v = some g → C g ∨ (w.heap.size ≤ g ∧ g < w'.heap.size)) → K (a.put (some d) v) w')) : Oper.wp Tryz.prog o a w K Q := by
  subst hkd
  have ho : Ow (w.alloc (.cells #[.int .u8 (x : Int)] 5)) w.heap.size (.slice (some ⟨w.heap.size, 0, none⟩) 1 1) [x] := ⟨rfl, .inr ⟨w.heap.size, 1, #[.int .u8 (x : Int)], rfl, Nat.le_refl _, heap_alloc_new w _, Nat.le_refl _, by unfold maxLen; omega, rfl, rfl⟩⟩
  refine step_runO hd hrun (hK.out _ _ (Kp.mono (S := fun _ => False) ((Kp.refl _ _).alloc _) (fun _ _ e => False.elim e)) (ownsRow_base ho hb) (fun g hg => Or.inr (ownBlock_lt ho hg)))
/-- append -/
theorem owr_app {o : Oper} {C : Nat → Prop} (hd : o.dst = some d) (hgd : o.guard = none) (s y : Operand) (ho : o.op = .call { callee := .builtin .append, args := #[s, y], argTypes := #[34, 34] }) (xs ys : List Nat) (hkd : kd = .ow (xs ++ ys)) (v u : Value) (hs : a.eval s = v) (hy : a.eval y = u) (h1 : Ow w base v xs) (h2 : Ow w base u ys) (hyb : ∀ x ∈ ys, x < 256) (hlen : xs.length + ys.length ≤ 140737488355328) (hb : base ≤ w.heap.size) (hS : ∀ b, v.ownBlock = some b → S b ∧ C b)
    (hK : Shut (∀ v w', Kp S w w' → kd.R base v w' → (∀ g, kd.Bl v = some g → C g ∨ (w.heap.size ≤ g ∧ g < w'.heap.size)) → K (a.put (some d) v) w')) : Oper.wp Tryz.prog o a w K Q := by
  subst hkd
  obtain ⟨p, c, rfl, hc, hr, _⟩ := h2.rb hyb
  have h := step_append_bytes (ops := #[]) (E := True) (Q := Q) (K := K) (o := o) (a := a) w hgd s y ho base v xs hs h1 p ys.length c ys hy hr hlen hb (fun v' w' o' k' hb' => by
    rw [hd]
    refine hK.out v' w' (k'.mono (fun b _ e => (hS b e).1)) o' (fun g hg => ?_)
    rcases hb' with e | e
    · exact Or.inl (hS g (e ▸ hg)).2
    · refine Or.inr ?_
      have e2 : w.heap.size = g := Option.some.inj (e.symm.trans hg)
      have := (ownBlock_lt o' hg).2
      omega)
  rwa [if_pos (by simp [Region.wanted, hgd])] at h
/-- what is handed on -/
theorem owr_move {C : Nat → Prop} (hd : o.dst = some d) (xs : List Nat) (hkd : kd = .ow xs) (v : Value) (hrun : (execOp a.eval o).run Tryz.prog w = .ok (.value v) w) (h1 : Ow w base v xs) (hC : ∀ b, v.ownBlock = some b → C b)
    (hK : Shut (∀ v w', Kp S w w' → kd.R base v w' → (∀ g, kd.Bl v = some g → C g ∨ (w.heap.size ≤ g ∧ g < w'.heap.size)) → K (a.put (some d) v) w')) : Oper.wp Tryz.prog o a w K Q := by
  subst hkd
  exact step_runO hd hrun (hK.out v w (Kp.refl _ _) h1 (fun g hg => Or.inl (hC g hg)))
end
end Go.Proofs.YtmooddbhcccicaaGreatDoor
