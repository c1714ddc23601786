/- Both readers' cmd: the regions of their loops (laid by scripts/mkoc.py). -/
import Derived.Test.YtippipeebkkghaaGreatDoorOb
namespace Go.Proofs.YtippipeebkkghaaGreatDoor
set_option linter.unusedVariables false
set_option linter.unusedSimpArgs false
open Go.RowKit Go.Deep

def rcaV (r g base : Nat) (vN : Value) (zs : List Int) (Nz : Int → Prop) : Nat → Value
  | 0 => .pointer (some ⟨g, 11, none⟩)
  | 1 => vN
  | 2 => .pointer (some ⟨r, 0, none⟩)
  | 3 => .pointer (some ⟨r, 0, none⟩)
  | 4 => .pointer (some ⟨r, 0, none⟩)
  | 8 => .pointer (some ⟨g, 11, none⟩)
  | _ => undef
def rcaR (r g base : Nat) (vN : Value) (zs : List Int) (Nz : Int → Prop) (i : Nat) (v : Value) (w : World) : Prop := match i with
  | 5 => ∃ z, Nz z ∧ v = .int .i64 z
  | 6 => OneB base vN Nz v w
  | 7 => GotB base zs Nz v w
  | 9 => True
  | i => v = rcaV r g base vN zs Nz i
theorem rcaR_keep {S : Nat → Prop} (r g base : Nat) (vN : Value) (zs : List Int) (Nz : Int → Prop) {w w' : World} (k : Kp S w w') (hS : ∀ b, base ≤ b → vN.ownBlock ≠ some b → ¬ S b) (i : Nat) (v : Value) (h2 : i ≠ 7 ∨ ∀ b, base ≤ b → ¬ S b) (h : rcaR r g base vN zs Nz i v w) : rcaR r g base vN zs Nz i v w' := by
  unfold rcaR at h ⊢
  split at h
  · exact h
  · exact OneB.keep h k hS
  · rcases h2 with h2 | h2
    · exact absurd rfl h2
    · exact GotB.keep h k h2
  · trivial
  · exact h
def rcaD (k : Nat) : Nat := [69, 70, 71, 72, 73, 74, 75, 76, 77, 89].getD k 0
def rcaB (r g : Nat) (y2 : Value) (y66 : Value) (y67 : Value) (a : Act) : Prop := a.eval (.tmp 0) = .pointer (some ⟨r, 0, none⟩) ∧ a.eval (.tmp 2) = y2 ∧ a.eval (.tmp 3) = .pointer (some ⟨g, 0, none⟩) ∧ a.eval (.tmp 66) = y66 ∧ a.eval (.tmp 67) = y67 ∧ a.defers = []
theorem rcaD_ne : ∀ k, k < 10 → rcaD k ≠ 0 ∧ rcaD k ≠ 2 ∧ rcaD k ≠ 3 ∧ rcaD k ≠ 66 ∧ rcaD k ≠ 67 := by decide
theorem rcaB_put (r g : Nat) (y2 : Value) (y66 : Value) (y67 : Value) (k : Nat) (v : Value) (a : Act) (hk : k < 10) (h : rcaB r g y2 y66 y67 a) : rcaB r g y2 y66 y67 (a.put (some (rcaD k)) v) := by
  have hne := rcaD_ne k hk
  refine ⟨?_, ?_, ?_, ?_, ?_, h.2.2.2.2.2⟩
  · rw [← h.1]
    show (a.tmps.setIfInBounds (rcaD k) v).getD 0 undef = a.tmps.getD 0 undef
    simp [Array.getElem?_setIfInBounds_ne (hne.1)]
  · rw [← h.2.1]
    show (a.tmps.setIfInBounds (rcaD k) v).getD 2 undef = a.tmps.getD 2 undef
    simp [Array.getElem?_setIfInBounds_ne (hne.2.1)]
  · rw [← h.2.2.1]
    show (a.tmps.setIfInBounds (rcaD k) v).getD 3 undef = a.tmps.getD 3 undef
    simp [Array.getElem?_setIfInBounds_ne (hne.2.2.1)]
  · rw [← h.2.2.2.1]
    show (a.tmps.setIfInBounds (rcaD k) v).getD 66 undef = a.tmps.getD 66 undef
    simp [Array.getElem?_setIfInBounds_ne (hne.2.2.2.1)]
  · rw [← h.2.2.2.2.1]
    show (a.tmps.setIfInBounds (rcaD k) v).getD 67 undef = a.tmps.getD 67 undef
    simp [Array.getElem?_setIfInBounds_ne (hne.2.2.2.2)]
theorem rcaD_inj : ∀ i, i < 10 → ∀ j, j < 10 → rcaD i = rcaD j → i = j := by decide
def rcaT : List (Oper × List Nat) := [(⟨some 69, Op.fieldAddr 31 (Operand.tmp 3) 10, 0, "", #[], none⟩, []), (⟨some 70, Op.load 29 (Operand.tmp 69), 29, "", #[], none⟩, [0]), (⟨some 71, Op.move (Operand.tmp 0), 263, "", #[], none⟩, []), (⟨some 72, Op.nilCheck (Operand.tmp 71), 0, "", #[], none⟩, [2]), (⟨some 73, Op.fieldAddr 213 (Operand.tmp 72) 0, 0, "", #[], none⟩, [3]), (⟨some 74, Op.call { callee := Callee.value (Operand.func 154), args := #[Operand.tmp 73], argTypes := #[211] }, 3, "", #[], none⟩, [4]), (⟨some 75, Op.buildSlice 29 1 #[(0, Operand.tmp 74)], 29, "", #[], none⟩, [5]), (⟨some 76, Op.call { callee := Callee.builtin Builtin.append, args := #[Operand.tmp 70, Operand.tmp 75], argTypes := #[29, 29] }, 29, "", #[], none⟩, [1, 6, 5]), (⟨some 77, Op.fieldAddr 31 (Operand.tmp 3) 10, 0, "", #[], none⟩, [0, 1, 2, 3, 4, 5, 6, 7]), (⟨none, Op.store 29 (Operand.tmp 77) (Operand.tmp 76), 0, "", #[], none⟩, [8, 7, 7, 0, 1, 2, 3, 4, 5, 6, 7])]
def rcaC (Pre Post : World → Prop) (r g base : Nat) (vN : Value) (zs : List Int) (Nz : Int → Prop) (cs : List Value) (w0 : World) (y2 : Value) (y66 : Value) (y67 : Value) : Chn := { n := 80, B := rcaB r g y2 y66 y67, R := rcaR r g base vN zs Nz, D := rcaD, pos := posOf [5, 7, 9], N := 3, W := AW Pre Post (fun b => b = r ∨ b = g ∨ base ≤ b) g base 11 cs vN zs Nz w0, T := rcaT }
structure rcaH (Q : Exit → Act → World → Prop) (Pre Post : World → Prop) (r g base : Nat) (vN : Value) (zs : List Int) (Nz : Int → Prop) (cs : List Value) (w0 : World) (y2 : Value) (y66 : Value) (y67 : Value) : Prop where
  pre : ∀ w w', Kp (fun _ => False) w w' → Pre w → Pre w'
  post : ∀ w w', Kp (fun b => b = g ∨ base ≤ b) w w' → Post w → Post w'
  call : ∀ w, Pre w → Calls Tryz.prog 154 #[.pointer (some ⟨r, 0, none⟩)] w (fun e w' => Kp (fun b => b = r) w w' ∧ ((∃ z, Nz z ∧ e = .returned (.int .i64 z) ∧ Post w') ∨ ∃ c, e = .panicked c ∧ ∀ a, rcaB r g y2 y66 y67 a → Kp (fun b => b = r ∨ b = g ∨ base ≤ b) w0 w' → Q (.panic c) a w'))
  rb : r < base
  gb : g < base
  rg : r ≠ g
  len : zs.length ≤ 1000
  b0 : base ≤ w0.heap.size
  cl : 11 < cs.length
  cv : cs[11]? = some vN

theorem rcaD_mem : ∀ k, k < 10 → ∀ t, rcaD k = t → t < 80 → t ∈ [69, 70, 71, 72, 73, 74, 75, 76, 77] := by
  intro k hk t e ht
  subst e
  revert ht
  revert k
  decide
set_option maxRecDepth 100000 in
theorem rca_e0 (r g base : Nat) (vN : Value) (zs : List Int) (Nz : Int → Prop) (ev : Operand → Value) (z : World) (ec : ∀ c, ev (.const c) = c) (e3 : ev (.tmp 3) = .pointer (some ⟨g, 0, none⟩)) : (execOp ev ⟨some 69, Op.fieldAddr 31 (Operand.tmp 3) 10, 0, "", #[], none⟩).run Tryz.prog z = .ok (.value (.pointer (some ⟨g, 11, none⟩))) z := by
  go_simp
set_option maxRecDepth 100000 in
theorem rca_s0 {Q : Exit → Act → World → Prop} (Pre Post : World → Prop) (r g base : Nat) (vN : Value) (zs : List Int) (Nz : Int → Prop) (cs : List Value) (w0 : World) (y2 : Value) (y66 : Value) (y67 : Value) (H : rcaH Q Pre Post r g base vN zs Nz cs w0 y2 y66 y67) : (rcaC Pre Post r g base vN zs Nz cs w0 y2 y66 y67).Step Tryz.prog Q 0 ⟨some 69, Op.fieldAddr 31 (Operand.tmp 3) 10, 0, "", #[], none⟩ [] := by
  refine Chn.pure _ rfl rfl (show 69 < 80 by decide) (by decide) rfl ?_
  intro a w m hn hB hW hdm hup hd K hK
  have e3 : a.eval (.tmp 3) = .pointer (some ⟨g, 0, none⟩) := hB.2.2.1
  exact run_value (rca_e0 r g base vN zs Nz _ w (fun _ => rfl) e3) (hK.out _ w (Kp.refl _ _) rfl)
set_option maxRecDepth 100000 in
theorem rca_e1 (r g base : Nat) (vN : Value) (zs : List Int) (Nz : Int → Prop) (ev : Operand → Value) (z : World) (ec : ∀ c, ev (.const c) = c) (e69 : ev (.tmp 69) = .pointer (some ⟨g, 11, none⟩)) (hc : z.cell? ⟨g, 11, none⟩ = some vN) : (execOp ev ⟨some 70, Op.load 29 (Operand.tmp 69), 29, "", #[], none⟩).run Tryz.prog z = .ok (.value vN) z := by
  go_simp
set_option maxRecDepth 100000 in
theorem rca_s1 {Q : Exit → Act → World → Prop} (Pre Post : World → Prop) (r g base : Nat) (vN : Value) (zs : List Int) (Nz : Int → Prop) (cs : List Value) (w0 : World) (y2 : Value) (y66 : Value) (y67 : Value) (H : rcaH Q Pre Post r g base vN zs Nz cs w0 y2 y66 y67) : (rcaC Pre Post r g base vN zs Nz cs w0 y2 y66 y67).Step Tryz.prog Q 1 ⟨some 70, Op.load 29 (Operand.tmp 69), 29, "", #[], none⟩ [0] := by
  refine Chn.pure _ rfl rfl (show 70 < 80 by decide) (by decide) rfl ?_
  intro a w m hn hB hW hdm hup hd K hK
  have e69 : a.eval (.tmp 69) = .pointer (some ⟨g, 11, none⟩) := hd 0 (by decide)
  have hm : m ≤ 1 := hup 7 _ rfl (by decide) 1 rfl
  have hl : Lv w g cs := by
    match m, hm, hW with
    | 0, _, h => exact h.2.2.1
    | 1, _, h => exact h.2.2.1
  exact run_value (rca_e1 r g base vN zs Nz _ w (fun _ => rfl) e69 (hl.cell H.cv)) (hK.out _ w (Kp.refl _ _) rfl)
set_option maxRecDepth 100000 in
theorem rca_e2 (r g base : Nat) (vN : Value) (zs : List Int) (Nz : Int → Prop) (ev : Operand → Value) (z : World) (ec : ∀ c, ev (.const c) = c) (e0 : ev (.tmp 0) = .pointer (some ⟨r, 0, none⟩)) : (execOp ev ⟨some 71, Op.move (Operand.tmp 0), 263, "", #[], none⟩).run Tryz.prog z = .ok (.value (.pointer (some ⟨r, 0, none⟩))) z := by
  go_simp
set_option maxRecDepth 100000 in
theorem rca_s2 {Q : Exit → Act → World → Prop} (Pre Post : World → Prop) (r g base : Nat) (vN : Value) (zs : List Int) (Nz : Int → Prop) (cs : List Value) (w0 : World) (y2 : Value) (y66 : Value) (y67 : Value) (H : rcaH Q Pre Post r g base vN zs Nz cs w0 y2 y66 y67) : (rcaC Pre Post r g base vN zs Nz cs w0 y2 y66 y67).Step Tryz.prog Q 2 ⟨some 71, Op.move (Operand.tmp 0), 263, "", #[], none⟩ [] := by
  refine Chn.pure _ rfl rfl (show 71 < 80 by decide) (by decide) rfl ?_
  intro a w m hn hB hW hdm hup hd K hK
  have e0 : a.eval (.tmp 0) = .pointer (some ⟨r, 0, none⟩) := hB.1
  exact run_value (rca_e2 r g base vN zs Nz _ w (fun _ => rfl) e0) (hK.out _ w (Kp.refl _ _) rfl)
set_option maxRecDepth 100000 in
theorem rca_e3 (r g base : Nat) (vN : Value) (zs : List Int) (Nz : Int → Prop) (ev : Operand → Value) (z : World) (ec : ∀ c, ev (.const c) = c) (e71 : ev (.tmp 71) = .pointer (some ⟨r, 0, none⟩)) : (execOp ev ⟨some 72, Op.nilCheck (Operand.tmp 71), 0, "", #[], none⟩).run Tryz.prog z = .ok (.value (.pointer (some ⟨r, 0, none⟩))) z := by
  go_simp
set_option maxRecDepth 100000 in
theorem rca_s3 {Q : Exit → Act → World → Prop} (Pre Post : World → Prop) (r g base : Nat) (vN : Value) (zs : List Int) (Nz : Int → Prop) (cs : List Value) (w0 : World) (y2 : Value) (y66 : Value) (y67 : Value) (H : rcaH Q Pre Post r g base vN zs Nz cs w0 y2 y66 y67) : (rcaC Pre Post r g base vN zs Nz cs w0 y2 y66 y67).Step Tryz.prog Q 3 ⟨some 72, Op.nilCheck (Operand.tmp 71), 0, "", #[], none⟩ [2] := by
  refine Chn.pure _ rfl rfl (show 72 < 80 by decide) (by decide) rfl ?_
  intro a w m hn hB hW hdm hup hd K hK
  have e71 : a.eval (.tmp 71) = .pointer (some ⟨r, 0, none⟩) := hd 2 (by decide)
  exact run_value (rca_e3 r g base vN zs Nz _ w (fun _ => rfl) e71) (hK.out _ w (Kp.refl _ _) rfl)
set_option maxRecDepth 100000 in
theorem rca_e4 (r g base : Nat) (vN : Value) (zs : List Int) (Nz : Int → Prop) (ev : Operand → Value) (z : World) (ec : ∀ c, ev (.const c) = c) (e72 : ev (.tmp 72) = .pointer (some ⟨r, 0, none⟩)) : (execOp ev ⟨some 73, Op.fieldAddr 213 (Operand.tmp 72) 0, 0, "", #[], none⟩).run Tryz.prog z = .ok (.value (.pointer (some ⟨r, 0, none⟩))) z := by
  go_simp
set_option maxRecDepth 100000 in
theorem rca_s4 {Q : Exit → Act → World → Prop} (Pre Post : World → Prop) (r g base : Nat) (vN : Value) (zs : List Int) (Nz : Int → Prop) (cs : List Value) (w0 : World) (y2 : Value) (y66 : Value) (y67 : Value) (H : rcaH Q Pre Post r g base vN zs Nz cs w0 y2 y66 y67) : (rcaC Pre Post r g base vN zs Nz cs w0 y2 y66 y67).Step Tryz.prog Q 4 ⟨some 73, Op.fieldAddr 213 (Operand.tmp 72) 0, 0, "", #[], none⟩ [3] := by
  refine Chn.pure _ rfl rfl (show 73 < 80 by decide) (by decide) rfl ?_
  intro a w m hn hB hW hdm hup hd K hK
  have e72 : a.eval (.tmp 72) = .pointer (some ⟨r, 0, none⟩) := hd 3 (by decide)
  exact run_value (rca_e4 r g base vN zs Nz _ w (fun _ => rfl) e72) (hK.out _ w (Kp.refl _ _) rfl)
set_option maxRecDepth 100000 in
theorem rca_e5 (r g base : Nat) (vN : Value) (zs : List Int) (Nz : Int → Prop) (ev : Operand → Value) (z : World) (ec : ∀ c, ev (.const c) = c) (ef : ∀ f, ev (.func f) = .func (.func f) #[] #[]) (e73 : ev (.tmp 73) = .pointer (some ⟨r, 0, none⟩)) : (execOp ev ⟨some 74, Op.call { callee := Callee.value (Operand.func 154), args := #[Operand.tmp 73], argTypes := #[211] }, 3, "", #[], none⟩).run Tryz.prog z = .ok (.enter 154 #[.pointer (some ⟨r, 0, none⟩)]) z := enter_run _ (ef _) (by simp only [List.map_toArray, List.map_cons, List.map_nil, ec, ef, e73]) (fun _ => by rfl)
set_option maxRecDepth 100000 in
theorem rca_s5 {Q : Exit → Act → World → Prop} (Pre Post : World → Prop) (r g base : Nat) (vN : Value) (zs : List Int) (Nz : Int → Prop) (cs : List Value) (w0 : World) (y2 : Value) (y66 : Value) (y67 : Value) (H : rcaH Q Pre Post r g base vN zs Nz cs w0 y2 y66 y67) : (rcaC Pre Post r g base vN zs Nz cs w0 y2 y66 y67).Step Tryz.prog Q 5 ⟨some 74, Op.call { callee := Callee.value (Operand.func 154), args := #[Operand.tmp 73], argTypes := #[211] }, 3, "", #[], none⟩ [4] := by
  refine Chn.link _ 0 rfl (fun q hq => by omega) (show 0 < 3 by decide) (Or.inl ⟨rfl, show 74 < 80 by decide⟩) (by decide) rfl ?_
  intro a w hn hB hW hd K hK
  have e73 : a.eval (.tmp 73) = .pointer (some ⟨r, 0, none⟩) := hd 4 (by decide)
  obtain ⟨h1, h2, h3, h4⟩ := hW
  refine wp_enterP (rca_e5 r g base vN zs Nz _ w (fun _ => rfl) (fun _ => rfl) e73) (H.call w h1) ?_
  rintro e9 w9 ⟨k9, ⟨z, hz, rfl, hp⟩ | ⟨c, rfl, hp⟩⟩
  · refine Or.inl ⟨_, rfl, hK.out _ _ ⟨hp, h2.trans k9 (fun _ _ e => Or.inl e), h3.keep k9 (fun e => H.rg e.symm), ownsRow_keep h4 k9 (fun b hb e => by have := (ownBlock_lt h4 hb).1; have := H.rb; omega)⟩ (fun i u _ h => rcaR_keep r g base vN zs Nz k9 (fun b hb _ e => by have := H.rb; omega) i u (Or.inr (fun b hb e => by have := H.rb; omega)) h) ⟨z, hz, rfl⟩⟩
  · exact Or.inr ⟨_, rfl, hp a hB (h2.trans k9 (fun _ _ e => Or.inl e))⟩
set_option maxRecDepth 100000 in
theorem rca_e6 (r g base : Nat) (vN : Value) (zs : List Int) (Nz : Int → Prop) (ev : Operand → Value) (z : World) (ec : ∀ c, ev (.const c) = c) (x : Int) (e74 : ev (.tmp 74) = .int .i64 x) : (execOp ev ⟨some 75, Op.buildSlice 29 1 #[(0, Operand.tmp 74)], 29, "", #[], none⟩).run Tryz.prog z = .ok (.value (.slice (some ⟨z.heap.size, 0, none⟩) 1 1)) (z.alloc (.cells #[.int .i64 x] 3)) := by
  go_simp
set_option maxRecDepth 100000 in
theorem rca_s6 {Q : Exit → Act → World → Prop} (Pre Post : World → Prop) (r g base : Nat) (vN : Value) (zs : List Int) (Nz : Int → Prop) (cs : List Value) (w0 : World) (y2 : Value) (y66 : Value) (y67 : Value) (H : rcaH Q Pre Post r g base vN zs Nz cs w0 y2 y66 y67) : (rcaC Pre Post r g base vN zs Nz cs w0 y2 y66 y67).Step Tryz.prog Q 6 ⟨some 75, Op.buildSlice 29 1 #[(0, Operand.tmp 74)], 29, "", #[], none⟩ [5] := by
  refine Chn.pure _ rfl rfl (show 75 < 80 by decide) (by decide) rfl ?_
  intro a w m hn hB hW hdm hup hd K hK
  have hm : 0 < m := hdm 5 (by decide) 0 rfl
  have hu2 : m ≤ 1 := hup 7 _ rfl (by decide) 1 rfl
  have hW1 : Kp (fun b => b = r ∨ b = g ∨ base ≤ b) w0 w ∧ OwI w base vN zs := by
    match m, hm, hu2, hW with
    | 1, _, _, h => exact ⟨h.2.1, h.2.2.2⟩
  obtain ⟨x, hx, ex⟩ : ∃ z, Nz z ∧ a.eval (.tmp 74) = .int .i64 z := hd 5 (by decide)
  have ka : Kp (fun _ => False) w (w.alloc (.cells #[.int .i64 x] 3)) := (Kp.refl _ _).alloc _
  refine run_value (rca_e6 r g base vN zs Nz _ w (fun _ => rfl) x ex) (hK.out _ _ ka ⟨x, w.heap.size, hx, rfl, Nat.le_trans H.b0 hW1.1.size, fun e => ?_, ?_⟩)
  · have := (ownBlock_lt hW1.2 e).2
    omega
  · exact (Lv.new w #[.int .i64 x] 3).cell (j := 0) rfl
set_option maxRecDepth 100000 in
theorem rca_s7 {Q : Exit → Act → World → Prop} (Pre Post : World → Prop) (r g base : Nat) (vN : Value) (zs : List Int) (Nz : Int → Prop) (cs : List Value) (w0 : World) (y2 : Value) (y66 : Value) (y67 : Value) (H : rcaH Q Pre Post r g base vN zs Nz cs w0 y2 y66 y67) : (rcaC Pre Post r g base vN zs Nz cs w0 y2 y66 y67).Step Tryz.prog Q 7 ⟨some 76, Op.call { callee := Callee.builtin Builtin.append, args := #[Operand.tmp 70, Operand.tmp 75], argTypes := #[29, 29] }, 29, "", #[], none⟩ [1, 6, 5] := by
  refine Chn.link _ 1 rfl (prevOf 5 0 (by decide) rfl) (show 1 < 3 by decide) (Or.inl ⟨rfl, show 76 < 80 by decide⟩) (by decide) rfl ?_
  intro a w hn hB hW hd K hK
  have e70 : a.eval (.tmp 70) = vN := hd 1 (by decide)
  obtain ⟨x, b, hx, ex, hb1, hb2, hb3⟩ : OneB base vN Nz (a.eval (.tmp 75)) w := hd 6 (by decide)
  obtain ⟨h1, h2, h3, h4⟩ := hW
  refine wp_append_ints w (.tmp 70) (.tmp 75) rfl base vN zs e70 h4 (fun _ => True) (some ⟨b, 0, none⟩) 1 [x] ex (fun j u hj => ⟨b, 0, rfl, trivial, ?_⟩) (by have := H.len; simp only [List.length_singleton]; omega) (Nat.le_trans H.b0 h2.size) ?_
  · cases j with
    | zero =>
      cases hj
      exact hb3
    | succ j => cases hj
  · intro v' w' ho hk
    refine hK.out v' w' ⟨H.post _ _ (hk.mono (fun c _ e => Or.inr (ownBlock_lt h4 e).1)) h1, h2.trans hk (fun c _ e => Or.inr (Or.inr (ownBlock_lt h4 e).1)), h3.keep hk (fun e => by have := (ownBlock_lt h4 e).1; have := H.gb; omega)⟩ (fun i u hi h => rcaR_keep r g base vN zs Nz hk (fun c _ h1 h2 => h1 h2) i u (Or.inl hi) h) ⟨x, hx, ho⟩
set_option maxRecDepth 100000 in
theorem rca_e8 (r g base : Nat) (vN : Value) (zs : List Int) (Nz : Int → Prop) (ev : Operand → Value) (z : World) (ec : ∀ c, ev (.const c) = c) (e3 : ev (.tmp 3) = .pointer (some ⟨g, 0, none⟩)) : (execOp ev ⟨some 77, Op.fieldAddr 31 (Operand.tmp 3) 10, 0, "", #[], none⟩).run Tryz.prog z = .ok (.value (.pointer (some ⟨g, 11, none⟩))) z := by
  go_simp
set_option maxRecDepth 100000 in
theorem rca_s8 {Q : Exit → Act → World → Prop} (Pre Post : World → Prop) (r g base : Nat) (vN : Value) (zs : List Int) (Nz : Int → Prop) (cs : List Value) (w0 : World) (y2 : Value) (y66 : Value) (y67 : Value) (H : rcaH Q Pre Post r g base vN zs Nz cs w0 y2 y66 y67) : (rcaC Pre Post r g base vN zs Nz cs w0 y2 y66 y67).Step Tryz.prog Q 8 ⟨some 77, Op.fieldAddr 31 (Operand.tmp 3) 10, 0, "", #[], none⟩ [0, 1, 2, 3, 4, 5, 6, 7] := by
  refine Chn.pure _ rfl rfl (show 77 < 80 by decide) (by decide) rfl ?_
  intro a w m hn hB hW hdm hup hd K hK
  have e3 : a.eval (.tmp 3) = .pointer (some ⟨g, 0, none⟩) := hB.2.2.1
  exact run_value (rca_e8 r g base vN zs Nz _ w (fun _ => rfl) e3) (hK.out _ w (Kp.refl _ _) rfl)
set_option maxRecDepth 100000 in
theorem rca_e9 (r g base : Nat) (vN : Value) (zs : List Int) (Nz : Int → Prop) (ev : Operand → Value) (z : World) (ec : ∀ c, ev (.const c) = c) (e77 : ev (.tmp 77) = .pointer (some ⟨g, 11, none⟩)) (p : Option Addr) (n c : Nat) (e76 : ev (.tmp 76) = .slice p n c) {u : Value} (hu : z.cell? ⟨g, 11, none⟩ = some u) (hf : z.frozen? ⟨g, 11, none⟩ = false) : (execOp ev ⟨none, Op.store 29 (Operand.tmp 77) (Operand.tmp 76), 0, "", #[], none⟩).run Tryz.prog z = .ok .skip (z.setCell ⟨g, 11, none⟩ (.slice p n c)) := by
  go_simp
set_option maxRecDepth 100000 in
theorem rca_s9 {Q : Exit → Act → World → Prop} (Pre Post : World → Prop) (r g base : Nat) (vN : Value) (zs : List Int) (Nz : Int → Prop) (cs : List Value) (w0 : World) (y2 : Value) (y66 : Value) (y67 : Value) (H : rcaH Q Pre Post r g base vN zs Nz cs w0 y2 y66 y67) : (rcaC Pre Post r g base vN zs Nz cs w0 y2 y66 y67).Step Tryz.prog Q 9 ⟨none, Op.store 29 (Operand.tmp 77) (Operand.tmp 76), 0, "", #[], none⟩ [8, 7, 7, 0, 1, 2, 3, 4, 5, 6, 7] := by
  refine Chn.link _ 2 rfl (prevOf 7 1 (by decide) rfl) (show 2 < 3 by decide) (Or.inr ⟨rfl, show 80 ≤ 89 by decide, fun _ _ => trivial⟩) (by decide) rfl ?_
  intro a w hn hB hW hd K hK
  have e77 : a.eval (.tmp 77) = .pointer (some ⟨g, 11, none⟩) := hd 8 (by decide)
  obtain ⟨x, hx, ho⟩ : GotB base zs Nz (a.eval (.tmp 76)) w := hd 7 (by decide)
  obtain ⟨h1, h2, h3⟩ := hW
  obtain ⟨q, cap, ev, _⟩ := own_fl ho
  have ks : Kp (fun b => b = g) w (w.setCell ⟨g, 11, none⟩ (.slice q (zs ++ [x]).length cap)) := (by show Kp _ _ _; exact (Kp.refl (fun b => b = g) w).setCell (fun _ => rfl) _)
  refine run_skip rfl (rca_e9 r g base vN zs Nz _ w (fun _ => rfl) e77 q _ cap ev (h3.cell H.cv) (h3.fz H.cl)) (fun v => hK.out v _ ⟨H.post _ _ (ks.mono (fun _ _ e => Or.inl e)) h1, h2.trans ks (fun _ _ e => Or.inr (Or.inl e)), _, x, hx, ?_, h3.set1' 11 _ H.cl⟩ (fun i u hi h => rcaR_keep r g base vN zs Nz ks (fun c hc _ e => by have := H.gb; omega) i u (Or.inr (fun c hc e => by have := H.gb; omega)) h) trivial)
  rw [ev] at ho
  exact ownsRow_keep ho ks (fun c hc e => by have := (ownBlock_lt ho hc).1; have := H.gb; omega)
theorem rca_steps {Q : Exit → Act → World → Prop} (Pre Post : World → Prop) (r g base : Nat) (vN : Value) (zs : List Int) (Nz : Int → Prop) (cs : List Value) (w0 : World) (y2 : Value) (y66 : Value) (y67 : Value) (H : rcaH Q Pre Post r g base vN zs Nz cs w0 y2 y66 y67) : (rcaC Pre Post r g base vN zs Nz cs w0 y2 y66 y67).Steps Tryz.prog Q 0 rcaT := ⟨rca_s0 Pre Post r g base vN zs Nz cs w0 y2 y66 y67 H, rca_s1 Pre Post r g base vN zs Nz cs w0 y2 y66 y67 H, rca_s2 Pre Post r g base vN zs Nz cs w0 y2 y66 y67 H, rca_s3 Pre Post r g base vN zs Nz cs w0 y2 y66 y67 H, rca_s4 Pre Post r g base vN zs Nz cs w0 y2 y66 y67 H, rca_s5 Pre Post r g base vN zs Nz cs w0 y2 y66 y67 H, rca_s6 Pre Post r g base vN zs Nz cs w0 y2 y66 y67 H, rca_s7 Pre Post r g base vN zs Nz cs w0 y2 y66 y67 H, rca_s8 Pre Post r g base vN zs Nz cs w0 y2 y66 y67 H, rca_s9 Pre Post r g base vN zs Nz cs w0 y2 y66 y67 H, trivial⟩
/-- the region: one more number stands in the list, or it gives up -/
theorem rca_region {ops : Array Oper} {rid : Nat} {Q : Exit → Act → World → Prop} {a : Act} {y : World} (Pre Post : World → Prop) (r g base : Nat) (vN : Value) (zs : List Int) (Nz : Int → Prop) (cs : List Value) (y2 : Value) (y66 : Value) (y67 : Value) (hT : ops.toList.map (fun o => (bare o, deps o)) = rcaT) (hn : a.tmps.size = 80) (hB : rcaB r g y2 y66 y67 a)
    (H : rcaH Q Pre Post r g base vN zs Nz cs y.drew y2 y66 y67) (hp : Pre y) (hl : Lv y g cs) (ho : OwI y base vN zs)
    (hend : ∀ q69 q70 q71 q72 q73 q74 q75 q76 q77 w v z, Kp (fun b => b = r ∨ b = g ∨ base ≤ b) y w → Post w → Nz z → OwI w base v (zs ++ [z]) → Lv w g (cs.set 11 v) → Q .normal (((((((((a.put (some 69) q69).put (some 70) q70).put (some 71) q71).put (some 72) q72).put (some 73) q73).put (some 74) q74).put (some 75) q75).put (some 76) q76).put (some 77) q77) w) : (Code.region rid ops true).wp Tryz.prog Q a y := by
  have kd : Kp (fun b => b = r ∨ b = g ∨ base ≤ b) y y.drew := (Kp.refl _ _).drew
  have k0 : Kp (fun _ => False) y y.drew := (Kp.refl _ _).drew
  refine chain_region (rcaC Pre Post r g base vN zs Nz cs y.drew y2 y66 y67) (by kernel_rfl) hT hn hB (fun k v a hk _ h => rcaB_put r g y2 y66 y67 k v a hk h) (fun i j h1 h2 => rcaD_inj i h1 j h2) (fun i j p h1 h2 => posOf_inj _ i j p) (posOf_at [5, 7, 9] 10 (by decide) (by decide)) ?_ (fun m w w' hk h => AW.grow H.pre (fun w w' k h => H.post w w' (k.mono (fun _ _ e => e.elim)) h) hk h) (fun i v w w' hk h => rcaR_keep r g base vN zs Nz hk (fun _ _ _ e => e) i v (Or.inr (fun _ _ e => e)) h) (rca_steps Pre Post r g base vN zs Nz cs y.drew y2 y66 y67 H) ?_
  · exact ⟨H.pre _ _ k0 hp, Kp.refl _ _, hl.keep k0 (fun e => e), ownsRow_keep ho k0 (fun _ _ e => e)⟩
  · rintro a' w h1 h2 hfr ⟨h3, h4, v, z, h5, h6, h7⟩ _
    rw [act_puts a' [69, 70, 71, 72, 73, 74, 75, 76, 77] a (h1.trans hn.symm) (h2.2.2.2.2.2.trans hB.2.2.2.2.2.symm) (fun t ht => by
      rcases Nat.lt_or_ge t a'.tmps.size with hl | hl
      · exact hfr t (fun k hk e => ht (rcaD_mem k hk t e (Nat.lt_of_lt_of_eq hl h1)))
      · rw [eval_past a' t hl, eval_past a t (by have h9 : a.tmps.size = a'.tmps.size := hn.trans h1.symm; omega)])]
    exact hend (a'.eval (.tmp 69)) (a'.eval (.tmp 70)) (a'.eval (.tmp 71)) (a'.eval (.tmp 72)) (a'.eval (.tmp 73)) (a'.eval (.tmp 74)) (a'.eval (.tmp 75)) (a'.eval (.tmp 76)) (a'.eval (.tmp 77)) w v z (kd.trans h4 (fun _ _ e => e)) h3 h5 h6 h7

def xcaV (r g base : Nat) (vN : Value) (zs : List Int) (Nz : Int → Prop) : Nat → Value
  | 0 => .pointer (some ⟨g, 11, none⟩)
  | 1 => vN
  | 2 => .pointer (some ⟨r, 0, none⟩)
  | 6 => .pointer (some ⟨g, 11, none⟩)
  | _ => undef
def xcaR (r g base : Nat) (vN : Value) (zs : List Int) (Nz : Int → Prop) (i : Nat) (v : Value) (w : World) : Prop := match i with
  | 3 => ∃ z, Nz z ∧ v = .int .i64 z
  | 4 => OneB base vN Nz v w
  | 5 => GotB base zs Nz v w
  | 7 => True
  | i => v = xcaV r g base vN zs Nz i
theorem xcaR_keep {S : Nat → Prop} (r g base : Nat) (vN : Value) (zs : List Int) (Nz : Int → Prop) {w w' : World} (k : Kp S w w') (hS : ∀ b, base ≤ b → vN.ownBlock ≠ some b → ¬ S b) (i : Nat) (v : Value) (h2 : i ≠ 5 ∨ ∀ b, base ≤ b → ¬ S b) (h : xcaR r g base vN zs Nz i v w) : xcaR r g base vN zs Nz i v w' := by
  unfold xcaR at h ⊢
  split at h
  · exact h
  · exact OneB.keep h k hS
  · rcases h2 with h2 | h2
    · exact absurd rfl h2
    · exact GotB.keep h k h2
  · trivial
  · exact h
def xcaD (k : Nat) : Nat := [50, 51, 52, 53, 54, 55, 56, 76].getD k 0
def xcaB (r g : Nat) (y2 : Value) (y4 : Value) (y47 : Value) (y48 : Value) (a : Act) : Prop := a.eval (.tmp 0) = .pointer (some ⟨r, 0, none⟩) ∧ a.eval (.tmp 2) = y2 ∧ a.eval (.tmp 3) = .pointer (some ⟨g, 0, none⟩) ∧ a.eval (.tmp 4) = y4 ∧ a.eval (.tmp 47) = y47 ∧ a.eval (.tmp 48) = y48 ∧ a.defers = []
theorem xcaD_ne : ∀ k, k < 8 → xcaD k ≠ 0 ∧ xcaD k ≠ 2 ∧ xcaD k ≠ 3 ∧ xcaD k ≠ 4 ∧ xcaD k ≠ 47 ∧ xcaD k ≠ 48 := by decide
theorem xcaB_put (r g : Nat) (y2 : Value) (y4 : Value) (y47 : Value) (y48 : Value) (k : Nat) (v : Value) (a : Act) (hk : k < 8) (h : xcaB r g y2 y4 y47 y48 a) : xcaB r g y2 y4 y47 y48 (a.put (some (xcaD k)) v) := by
  have hne := xcaD_ne k hk
  refine ⟨?_, ?_, ?_, ?_, ?_, ?_, h.2.2.2.2.2.2⟩
  · rw [← h.1]
    show (a.tmps.setIfInBounds (xcaD k) v).getD 0 undef = a.tmps.getD 0 undef
    simp [Array.getElem?_setIfInBounds_ne (hne.1)]
  · rw [← h.2.1]
    show (a.tmps.setIfInBounds (xcaD k) v).getD 2 undef = a.tmps.getD 2 undef
    simp [Array.getElem?_setIfInBounds_ne (hne.2.1)]
  · rw [← h.2.2.1]
    show (a.tmps.setIfInBounds (xcaD k) v).getD 3 undef = a.tmps.getD 3 undef
    simp [Array.getElem?_setIfInBounds_ne (hne.2.2.1)]
  · rw [← h.2.2.2.1]
    show (a.tmps.setIfInBounds (xcaD k) v).getD 4 undef = a.tmps.getD 4 undef
    simp [Array.getElem?_setIfInBounds_ne (hne.2.2.2.1)]
  · rw [← h.2.2.2.2.1]
    show (a.tmps.setIfInBounds (xcaD k) v).getD 47 undef = a.tmps.getD 47 undef
    simp [Array.getElem?_setIfInBounds_ne (hne.2.2.2.2.1)]
  · rw [← h.2.2.2.2.2.1]
    show (a.tmps.setIfInBounds (xcaD k) v).getD 48 undef = a.tmps.getD 48 undef
    simp [Array.getElem?_setIfInBounds_ne (hne.2.2.2.2.2)]
theorem xcaD_inj : ∀ i, i < 8 → ∀ j, j < 8 → xcaD i = xcaD j → i = j := by decide
def xcaT : List (Oper × List Nat) := [(⟨some 50, Op.fieldAddr 31 (Operand.tmp 3) 10, 0, "", #[], none⟩, []), (⟨some 51, Op.load 29 (Operand.tmp 50), 29, "", #[], none⟩, [0]), (⟨some 52, Op.move (Operand.tmp 0), 166, "", #[], none⟩, []), (⟨some 53, Op.call { callee := Callee.value (Operand.func 74), args := #[Operand.tmp 52], argTypes := #[166] }, 3, "", #[], none⟩, [2]), (⟨some 54, Op.buildSlice 29 1 #[(0, Operand.tmp 53)], 29, "", #[], none⟩, [3]), (⟨some 55, Op.call { callee := Callee.builtin Builtin.append, args := #[Operand.tmp 51, Operand.tmp 54], argTypes := #[29, 29] }, 29, "", #[], none⟩, [1, 4, 3]), (⟨some 56, Op.fieldAddr 31 (Operand.tmp 3) 10, 0, "", #[], none⟩, [0, 1, 2, 3, 4, 5]), (⟨none, Op.store 29 (Operand.tmp 56) (Operand.tmp 55), 0, "", #[], none⟩, [6, 5, 5, 0, 1, 2, 3, 4, 5])]
def xcaC (Pre Post : World → Prop) (r g base : Nat) (vN : Value) (zs : List Int) (Nz : Int → Prop) (cs : List Value) (w0 : World) (y2 : Value) (y4 : Value) (y47 : Value) (y48 : Value) : Chn := { n := 69, B := xcaB r g y2 y4 y47 y48, R := xcaR r g base vN zs Nz, D := xcaD, pos := posOf [3, 5, 7], N := 3, W := AW Pre Post (fun b => b = r ∨ b = g ∨ base ≤ b) g base 11 cs vN zs Nz w0, T := xcaT }
structure xcaH (Q : Exit → Act → World → Prop) (Pre Post : World → Prop) (r g base : Nat) (vN : Value) (zs : List Int) (Nz : Int → Prop) (cs : List Value) (w0 : World) (y2 : Value) (y4 : Value) (y47 : Value) (y48 : Value) : Prop where
  pre : ∀ w w', Kp (fun _ => False) w w' → Pre w → Pre w'
  post : ∀ w w', Kp (fun b => b = g ∨ base ≤ b) w w' → Post w → Post w'
  call : ∀ w, Pre w → Calls Tryz.prog 74 #[.pointer (some ⟨r, 0, none⟩)] w (fun e w' => Kp (fun b => b = r) w w' ∧ ((∃ z, Nz z ∧ e = .returned (.int .i64 z) ∧ Post w') ∨ ∃ c, e = .panicked c ∧ ∀ a, xcaB r g y2 y4 y47 y48 a → Kp (fun b => b = r ∨ b = g ∨ base ≤ b) w0 w' → Q (.panic c) a w'))
  rb : r < base
  gb : g < base
  rg : r ≠ g
  len : zs.length ≤ 1000
  b0 : base ≤ w0.heap.size
  cl : 11 < cs.length
  cv : cs[11]? = some vN

theorem xcaD_mem : ∀ k, k < 8 → ∀ t, xcaD k = t → t < 69 → t ∈ [50, 51, 52, 53, 54, 55, 56] := by
  intro k hk t e ht
  subst e
  revert ht
  revert k
  decide
set_option maxRecDepth 100000 in
theorem xca_e0 (r g base : Nat) (vN : Value) (zs : List Int) (Nz : Int → Prop) (ev : Operand → Value) (z : World) (ec : ∀ c, ev (.const c) = c) (e3 : ev (.tmp 3) = .pointer (some ⟨g, 0, none⟩)) : (execOp ev ⟨some 50, Op.fieldAddr 31 (Operand.tmp 3) 10, 0, "", #[], none⟩).run Tryz.prog z = .ok (.value (.pointer (some ⟨g, 11, none⟩))) z := by
  go_simp
set_option maxRecDepth 100000 in
theorem xca_s0 {Q : Exit → Act → World → Prop} (Pre Post : World → Prop) (r g base : Nat) (vN : Value) (zs : List Int) (Nz : Int → Prop) (cs : List Value) (w0 : World) (y2 : Value) (y4 : Value) (y47 : Value) (y48 : Value) (H : xcaH Q Pre Post r g base vN zs Nz cs w0 y2 y4 y47 y48) : (xcaC Pre Post r g base vN zs Nz cs w0 y2 y4 y47 y48).Step Tryz.prog Q 0 ⟨some 50, Op.fieldAddr 31 (Operand.tmp 3) 10, 0, "", #[], none⟩ [] := by
  refine Chn.pure _ rfl rfl (show 50 < 69 by decide) (by decide) rfl ?_
  intro a w m hn hB hW hdm hup hd K hK
  have e3 : a.eval (.tmp 3) = .pointer (some ⟨g, 0, none⟩) := hB.2.2.1
  exact run_value (xca_e0 r g base vN zs Nz _ w (fun _ => rfl) e3) (hK.out _ w (Kp.refl _ _) rfl)
set_option maxRecDepth 100000 in
theorem xca_e1 (r g base : Nat) (vN : Value) (zs : List Int) (Nz : Int → Prop) (ev : Operand → Value) (z : World) (ec : ∀ c, ev (.const c) = c) (e50 : ev (.tmp 50) = .pointer (some ⟨g, 11, none⟩)) (hc : z.cell? ⟨g, 11, none⟩ = some vN) : (execOp ev ⟨some 51, Op.load 29 (Operand.tmp 50), 29, "", #[], none⟩).run Tryz.prog z = .ok (.value vN) z := by
  go_simp
set_option maxRecDepth 100000 in
theorem xca_s1 {Q : Exit → Act → World → Prop} (Pre Post : World → Prop) (r g base : Nat) (vN : Value) (zs : List Int) (Nz : Int → Prop) (cs : List Value) (w0 : World) (y2 : Value) (y4 : Value) (y47 : Value) (y48 : Value) (H : xcaH Q Pre Post r g base vN zs Nz cs w0 y2 y4 y47 y48) : (xcaC Pre Post r g base vN zs Nz cs w0 y2 y4 y47 y48).Step Tryz.prog Q 1 ⟨some 51, Op.load 29 (Operand.tmp 50), 29, "", #[], none⟩ [0] := by
  refine Chn.pure _ rfl rfl (show 51 < 69 by decide) (by decide) rfl ?_
  intro a w m hn hB hW hdm hup hd K hK
  have e50 : a.eval (.tmp 50) = .pointer (some ⟨g, 11, none⟩) := hd 0 (by decide)
  have hm : m ≤ 1 := hup 5 _ rfl (by decide) 1 rfl
  have hl : Lv w g cs := by
    match m, hm, hW with
    | 0, _, h => exact h.2.2.1
    | 1, _, h => exact h.2.2.1
  exact run_value (xca_e1 r g base vN zs Nz _ w (fun _ => rfl) e50 (hl.cell H.cv)) (hK.out _ w (Kp.refl _ _) rfl)
set_option maxRecDepth 100000 in
theorem xca_e2 (r g base : Nat) (vN : Value) (zs : List Int) (Nz : Int → Prop) (ev : Operand → Value) (z : World) (ec : ∀ c, ev (.const c) = c) (e0 : ev (.tmp 0) = .pointer (some ⟨r, 0, none⟩)) : (execOp ev ⟨some 52, Op.move (Operand.tmp 0), 166, "", #[], none⟩).run Tryz.prog z = .ok (.value (.pointer (some ⟨r, 0, none⟩))) z := by
  go_simp
set_option maxRecDepth 100000 in
theorem xca_s2 {Q : Exit → Act → World → Prop} (Pre Post : World → Prop) (r g base : Nat) (vN : Value) (zs : List Int) (Nz : Int → Prop) (cs : List Value) (w0 : World) (y2 : Value) (y4 : Value) (y47 : Value) (y48 : Value) (H : xcaH Q Pre Post r g base vN zs Nz cs w0 y2 y4 y47 y48) : (xcaC Pre Post r g base vN zs Nz cs w0 y2 y4 y47 y48).Step Tryz.prog Q 2 ⟨some 52, Op.move (Operand.tmp 0), 166, "", #[], none⟩ [] := by
  refine Chn.pure _ rfl rfl (show 52 < 69 by decide) (by decide) rfl ?_
  intro a w m hn hB hW hdm hup hd K hK
  have e0 : a.eval (.tmp 0) = .pointer (some ⟨r, 0, none⟩) := hB.1
  exact run_value (xca_e2 r g base vN zs Nz _ w (fun _ => rfl) e0) (hK.out _ w (Kp.refl _ _) rfl)
set_option maxRecDepth 100000 in
theorem xca_e3 (r g base : Nat) (vN : Value) (zs : List Int) (Nz : Int → Prop) (ev : Operand → Value) (z : World) (ec : ∀ c, ev (.const c) = c) (ef : ∀ f, ev (.func f) = .func (.func f) #[] #[]) (e52 : ev (.tmp 52) = .pointer (some ⟨r, 0, none⟩)) : (execOp ev ⟨some 53, Op.call { callee := Callee.value (Operand.func 74), args := #[Operand.tmp 52], argTypes := #[166] }, 3, "", #[], none⟩).run Tryz.prog z = .ok (.enter 74 #[.pointer (some ⟨r, 0, none⟩)]) z := enter_run _ (ef _) (by simp only [List.map_toArray, List.map_cons, List.map_nil, ec, ef, e52]) (fun _ => by rfl)
set_option maxRecDepth 100000 in
theorem xca_s3 {Q : Exit → Act → World → Prop} (Pre Post : World → Prop) (r g base : Nat) (vN : Value) (zs : List Int) (Nz : Int → Prop) (cs : List Value) (w0 : World) (y2 : Value) (y4 : Value) (y47 : Value) (y48 : Value) (H : xcaH Q Pre Post r g base vN zs Nz cs w0 y2 y4 y47 y48) : (xcaC Pre Post r g base vN zs Nz cs w0 y2 y4 y47 y48).Step Tryz.prog Q 3 ⟨some 53, Op.call { callee := Callee.value (Operand.func 74), args := #[Operand.tmp 52], argTypes := #[166] }, 3, "", #[], none⟩ [2] := by
  refine Chn.link _ 0 rfl (fun q hq => by omega) (show 0 < 3 by decide) (Or.inl ⟨rfl, show 53 < 69 by decide⟩) (by decide) rfl ?_
  intro a w hn hB hW hd K hK
  have e52 : a.eval (.tmp 52) = .pointer (some ⟨r, 0, none⟩) := hd 2 (by decide)
  obtain ⟨h1, h2, h3, h4⟩ := hW
  refine wp_enterP (xca_e3 r g base vN zs Nz _ w (fun _ => rfl) (fun _ => rfl) e52) (H.call w h1) ?_
  rintro e9 w9 ⟨k9, ⟨z, hz, rfl, hp⟩ | ⟨c, rfl, hp⟩⟩
  · refine Or.inl ⟨_, rfl, hK.out _ _ ⟨hp, h2.trans k9 (fun _ _ e => Or.inl e), h3.keep k9 (fun e => H.rg e.symm), ownsRow_keep h4 k9 (fun b hb e => by have := (ownBlock_lt h4 hb).1; have := H.rb; omega)⟩ (fun i u _ h => xcaR_keep r g base vN zs Nz k9 (fun b hb _ e => by have := H.rb; omega) i u (Or.inr (fun b hb e => by have := H.rb; omega)) h) ⟨z, hz, rfl⟩⟩
  · exact Or.inr ⟨_, rfl, hp a hB (h2.trans k9 (fun _ _ e => Or.inl e))⟩
set_option maxRecDepth 100000 in
theorem xca_e4 (r g base : Nat) (vN : Value) (zs : List Int) (Nz : Int → Prop) (ev : Operand → Value) (z : World) (ec : ∀ c, ev (.const c) = c) (x : Int) (e53 : ev (.tmp 53) = .int .i64 x) : (execOp ev ⟨some 54, Op.buildSlice 29 1 #[(0, Operand.tmp 53)], 29, "", #[], none⟩).run Tryz.prog z = .ok (.value (.slice (some ⟨z.heap.size, 0, none⟩) 1 1)) (z.alloc (.cells #[.int .i64 x] 3)) := by
  go_simp
set_option maxRecDepth 100000 in
theorem xca_s4 {Q : Exit → Act → World → Prop} (Pre Post : World → Prop) (r g base : Nat) (vN : Value) (zs : List Int) (Nz : Int → Prop) (cs : List Value) (w0 : World) (y2 : Value) (y4 : Value) (y47 : Value) (y48 : Value) (H : xcaH Q Pre Post r g base vN zs Nz cs w0 y2 y4 y47 y48) : (xcaC Pre Post r g base vN zs Nz cs w0 y2 y4 y47 y48).Step Tryz.prog Q 4 ⟨some 54, Op.buildSlice 29 1 #[(0, Operand.tmp 53)], 29, "", #[], none⟩ [3] := by
  refine Chn.pure _ rfl rfl (show 54 < 69 by decide) (by decide) rfl ?_
  intro a w m hn hB hW hdm hup hd K hK
  have hm : 0 < m := hdm 3 (by decide) 0 rfl
  have hu2 : m ≤ 1 := hup 5 _ rfl (by decide) 1 rfl
  have hW1 : Kp (fun b => b = r ∨ b = g ∨ base ≤ b) w0 w ∧ OwI w base vN zs := by
    match m, hm, hu2, hW with
    | 1, _, _, h => exact ⟨h.2.1, h.2.2.2⟩
  obtain ⟨x, hx, ex⟩ : ∃ z, Nz z ∧ a.eval (.tmp 53) = .int .i64 z := hd 3 (by decide)
  have ka : Kp (fun _ => False) w (w.alloc (.cells #[.int .i64 x] 3)) := (Kp.refl _ _).alloc _
  refine run_value (xca_e4 r g base vN zs Nz _ w (fun _ => rfl) x ex) (hK.out _ _ ka ⟨x, w.heap.size, hx, rfl, Nat.le_trans H.b0 hW1.1.size, fun e => ?_, ?_⟩)
  · have := (ownBlock_lt hW1.2 e).2
    omega
  · exact (Lv.new w #[.int .i64 x] 3).cell (j := 0) rfl
set_option maxRecDepth 100000 in
theorem xca_s5 {Q : Exit → Act → World → Prop} (Pre Post : World → Prop) (r g base : Nat) (vN : Value) (zs : List Int) (Nz : Int → Prop) (cs : List Value) (w0 : World) (y2 : Value) (y4 : Value) (y47 : Value) (y48 : Value) (H : xcaH Q Pre Post r g base vN zs Nz cs w0 y2 y4 y47 y48) : (xcaC Pre Post r g base vN zs Nz cs w0 y2 y4 y47 y48).Step Tryz.prog Q 5 ⟨some 55, Op.call { callee := Callee.builtin Builtin.append, args := #[Operand.tmp 51, Operand.tmp 54], argTypes := #[29, 29] }, 29, "", #[], none⟩ [1, 4, 3] := by
  refine Chn.link _ 1 rfl (prevOf 3 0 (by decide) rfl) (show 1 < 3 by decide) (Or.inl ⟨rfl, show 55 < 69 by decide⟩) (by decide) rfl ?_
  intro a w hn hB hW hd K hK
  have e51 : a.eval (.tmp 51) = vN := hd 1 (by decide)
  obtain ⟨x, b, hx, ex, hb1, hb2, hb3⟩ : OneB base vN Nz (a.eval (.tmp 54)) w := hd 4 (by decide)
  obtain ⟨h1, h2, h3, h4⟩ := hW
  refine wp_append_ints w (.tmp 51) (.tmp 54) rfl base vN zs e51 h4 (fun _ => True) (some ⟨b, 0, none⟩) 1 [x] ex (fun j u hj => ⟨b, 0, rfl, trivial, ?_⟩) (by have := H.len; simp only [List.length_singleton]; omega) (Nat.le_trans H.b0 h2.size) ?_
  · cases j with
    | zero =>
      cases hj
      exact hb3
    | succ j => cases hj
  · intro v' w' ho hk
    refine hK.out v' w' ⟨H.post _ _ (hk.mono (fun c _ e => Or.inr (ownBlock_lt h4 e).1)) h1, h2.trans hk (fun c _ e => Or.inr (Or.inr (ownBlock_lt h4 e).1)), h3.keep hk (fun e => by have := (ownBlock_lt h4 e).1; have := H.gb; omega)⟩ (fun i u hi h => xcaR_keep r g base vN zs Nz hk (fun c _ h1 h2 => h1 h2) i u (Or.inl hi) h) ⟨x, hx, ho⟩
set_option maxRecDepth 100000 in
theorem xca_e6 (r g base : Nat) (vN : Value) (zs : List Int) (Nz : Int → Prop) (ev : Operand → Value) (z : World) (ec : ∀ c, ev (.const c) = c) (e3 : ev (.tmp 3) = .pointer (some ⟨g, 0, none⟩)) : (execOp ev ⟨some 56, Op.fieldAddr 31 (Operand.tmp 3) 10, 0, "", #[], none⟩).run Tryz.prog z = .ok (.value (.pointer (some ⟨g, 11, none⟩))) z := by
  go_simp
set_option maxRecDepth 100000 in
theorem xca_s6 {Q : Exit → Act → World → Prop} (Pre Post : World → Prop) (r g base : Nat) (vN : Value) (zs : List Int) (Nz : Int → Prop) (cs : List Value) (w0 : World) (y2 : Value) (y4 : Value) (y47 : Value) (y48 : Value) (H : xcaH Q Pre Post r g base vN zs Nz cs w0 y2 y4 y47 y48) : (xcaC Pre Post r g base vN zs Nz cs w0 y2 y4 y47 y48).Step Tryz.prog Q 6 ⟨some 56, Op.fieldAddr 31 (Operand.tmp 3) 10, 0, "", #[], none⟩ [0, 1, 2, 3, 4, 5] := by
  refine Chn.pure _ rfl rfl (show 56 < 69 by decide) (by decide) rfl ?_
  intro a w m hn hB hW hdm hup hd K hK
  have e3 : a.eval (.tmp 3) = .pointer (some ⟨g, 0, none⟩) := hB.2.2.1
  exact run_value (xca_e6 r g base vN zs Nz _ w (fun _ => rfl) e3) (hK.out _ w (Kp.refl _ _) rfl)
set_option maxRecDepth 100000 in
theorem xca_e7 (r g base : Nat) (vN : Value) (zs : List Int) (Nz : Int → Prop) (ev : Operand → Value) (z : World) (ec : ∀ c, ev (.const c) = c) (e56 : ev (.tmp 56) = .pointer (some ⟨g, 11, none⟩)) (p : Option Addr) (n c : Nat) (e55 : ev (.tmp 55) = .slice p n c) {u : Value} (hu : z.cell? ⟨g, 11, none⟩ = some u) (hf : z.frozen? ⟨g, 11, none⟩ = false) : (execOp ev ⟨none, Op.store 29 (Operand.tmp 56) (Operand.tmp 55), 0, "", #[], none⟩).run Tryz.prog z = .ok .skip (z.setCell ⟨g, 11, none⟩ (.slice p n c)) := by
  go_simp
set_option maxRecDepth 100000 in
theorem xca_s7 {Q : Exit → Act → World → Prop} (Pre Post : World → Prop) (r g base : Nat) (vN : Value) (zs : List Int) (Nz : Int → Prop) (cs : List Value) (w0 : World) (y2 : Value) (y4 : Value) (y47 : Value) (y48 : Value) (H : xcaH Q Pre Post r g base vN zs Nz cs w0 y2 y4 y47 y48) : (xcaC Pre Post r g base vN zs Nz cs w0 y2 y4 y47 y48).Step Tryz.prog Q 7 ⟨none, Op.store 29 (Operand.tmp 56) (Operand.tmp 55), 0, "", #[], none⟩ [6, 5, 5, 0, 1, 2, 3, 4, 5] := by
  refine Chn.link _ 2 rfl (prevOf 5 1 (by decide) rfl) (show 2 < 3 by decide) (Or.inr ⟨rfl, show 69 ≤ 76 by decide, fun _ _ => trivial⟩) (by decide) rfl ?_
  intro a w hn hB hW hd K hK
  have e56 : a.eval (.tmp 56) = .pointer (some ⟨g, 11, none⟩) := hd 6 (by decide)
  obtain ⟨x, hx, ho⟩ : GotB base zs Nz (a.eval (.tmp 55)) w := hd 5 (by decide)
  obtain ⟨h1, h2, h3⟩ := hW
  obtain ⟨q, cap, ev, _⟩ := own_fl ho
  have ks : Kp (fun b => b = g) w (w.setCell ⟨g, 11, none⟩ (.slice q (zs ++ [x]).length cap)) := (by show Kp _ _ _; exact (Kp.refl (fun b => b = g) w).setCell (fun _ => rfl) _)
  refine run_skip rfl (xca_e7 r g base vN zs Nz _ w (fun _ => rfl) e56 q _ cap ev (h3.cell H.cv) (h3.fz H.cl)) (fun v => hK.out v _ ⟨H.post _ _ (ks.mono (fun _ _ e => Or.inl e)) h1, h2.trans ks (fun _ _ e => Or.inr (Or.inl e)), _, x, hx, ?_, h3.set1' 11 _ H.cl⟩ (fun i u hi h => xcaR_keep r g base vN zs Nz ks (fun c hc _ e => by have := H.gb; omega) i u (Or.inr (fun c hc e => by have := H.gb; omega)) h) trivial)
  rw [ev] at ho
  exact ownsRow_keep ho ks (fun c hc e => by have := (ownBlock_lt ho hc).1; have := H.gb; omega)
theorem xca_steps {Q : Exit → Act → World → Prop} (Pre Post : World → Prop) (r g base : Nat) (vN : Value) (zs : List Int) (Nz : Int → Prop) (cs : List Value) (w0 : World) (y2 : Value) (y4 : Value) (y47 : Value) (y48 : Value) (H : xcaH Q Pre Post r g base vN zs Nz cs w0 y2 y4 y47 y48) : (xcaC Pre Post r g base vN zs Nz cs w0 y2 y4 y47 y48).Steps Tryz.prog Q 0 xcaT := ⟨xca_s0 Pre Post r g base vN zs Nz cs w0 y2 y4 y47 y48 H, xca_s1 Pre Post r g base vN zs Nz cs w0 y2 y4 y47 y48 H, xca_s2 Pre Post r g base vN zs Nz cs w0 y2 y4 y47 y48 H, xca_s3 Pre Post r g base vN zs Nz cs w0 y2 y4 y47 y48 H, xca_s4 Pre Post r g base vN zs Nz cs w0 y2 y4 y47 y48 H, xca_s5 Pre Post r g base vN zs Nz cs w0 y2 y4 y47 y48 H, xca_s6 Pre Post r g base vN zs Nz cs w0 y2 y4 y47 y48 H, xca_s7 Pre Post r g base vN zs Nz cs w0 y2 y4 y47 y48 H, trivial⟩
/-- the region: one more number stands in the list, or it gives up -/
theorem xca_region {ops : Array Oper} {rid : Nat} {Q : Exit → Act → World → Prop} {a : Act} {y : World} (Pre Post : World → Prop) (r g base : Nat) (vN : Value) (zs : List Int) (Nz : Int → Prop) (cs : List Value) (y2 : Value) (y4 : Value) (y47 : Value) (y48 : Value) (hT : ops.toList.map (fun o => (bare o, deps o)) = xcaT) (hn : a.tmps.size = 69) (hB : xcaB r g y2 y4 y47 y48 a)
    (H : xcaH Q Pre Post r g base vN zs Nz cs y.drew y2 y4 y47 y48) (hp : Pre y) (hl : Lv y g cs) (ho : OwI y base vN zs)
    (hend : ∀ q50 q51 q52 q53 q54 q55 q56 w v z, Kp (fun b => b = r ∨ b = g ∨ base ≤ b) y w → Post w → Nz z → OwI w base v (zs ++ [z]) → Lv w g (cs.set 11 v) → Q .normal (((((((a.put (some 50) q50).put (some 51) q51).put (some 52) q52).put (some 53) q53).put (some 54) q54).put (some 55) q55).put (some 56) q56) w) : (Code.region rid ops true).wp Tryz.prog Q a y := by
  have kd : Kp (fun b => b = r ∨ b = g ∨ base ≤ b) y y.drew := (Kp.refl _ _).drew
  have k0 : Kp (fun _ => False) y y.drew := (Kp.refl _ _).drew
  refine chain_region (xcaC Pre Post r g base vN zs Nz cs y.drew y2 y4 y47 y48) (by kernel_rfl) hT hn hB (fun k v a hk _ h => xcaB_put r g y2 y4 y47 y48 k v a hk h) (fun i j h1 h2 => xcaD_inj i h1 j h2) (fun i j p h1 h2 => posOf_inj _ i j p) (posOf_at [3, 5, 7] 8 (by decide) (by decide)) ?_ (fun m w w' hk h => AW.grow H.pre (fun w w' k h => H.post w w' (k.mono (fun _ _ e => e.elim)) h) hk h) (fun i v w w' hk h => xcaR_keep r g base vN zs Nz hk (fun _ _ _ e => e) i v (Or.inr (fun _ _ e => e)) h) (xca_steps Pre Post r g base vN zs Nz cs y.drew y2 y4 y47 y48 H) ?_
  · exact ⟨H.pre _ _ k0 hp, Kp.refl _ _, hl.keep k0 (fun e => e), ownsRow_keep ho k0 (fun _ _ e => e)⟩
  · rintro a' w h1 h2 hfr ⟨h3, h4, v, z, h5, h6, h7⟩ _
    rw [act_puts a' [50, 51, 52, 53, 54, 55, 56] a (h1.trans hn.symm) (h2.2.2.2.2.2.2.trans hB.2.2.2.2.2.2.symm) (fun t ht => by
      rcases Nat.lt_or_ge t a'.tmps.size with hl | hl
      · exact hfr t (fun k hk e => ht (xcaD_mem k hk t e (Nat.lt_of_lt_of_eq hl h1)))
      · rw [eval_past a' t hl, eval_past a t (by have h9 : a.tmps.size = a'.tmps.size := hn.trans h1.symm; omega)])]
    exact hend (a'.eval (.tmp 50)) (a'.eval (.tmp 51)) (a'.eval (.tmp 52)) (a'.eval (.tmp 53)) (a'.eval (.tmp 54)) (a'.eval (.tmp 55)) (a'.eval (.tmp 56)) w v z (kd.trans h4 (fun _ _ e => e)) h3 h5 h6 h7

end Go.Proofs.YtippipeebkkghaaGreatDoor
