/- Texts of this proof, joined: Oa3, Oa4. -/
import Derived.Test.YtoepemgflbmlcaaDoorMgAP
/- x.f = append(x.f, call()...) of bytes, x.f nil, through a struct in a block of its own. -/
namespace Go.Proofs.YtoepemgflbmlcaaDoor
set_option linter.unusedVariables false
set_option linter.unusedSimpArgs false
open Go.RowKit Go.Deep

/-- bytes that lie somewhere apart from two blocks -/
def SomeB (r g : Nat) (bs : List Nat) (v : Value) (w : World) : Prop := ∃ p m c, v = .slice p m c ∧ Rb w p m bs ∧ ∀ a, p = some a → 0 < m → a.block ≠ r ∧ a.block ≠ g
theorem SomeB.keep {S : Nat → Prop} {r g : Nat} {bs : List Nat} {v : Value} {w w' : World} (h : SomeB r g bs v w) (k : Kp S w w') (hS : ∀ b, S b → b = r ∨ b = g) : SomeB r g bs v w' := by
  obtain ⟨p, m, c, h1, h2, h3⟩ := h
  exact ⟨p, m, c, h1, h2.keepP k (fun a ha hp e => by rcases hS _ e with q | q; exact (h3 a ha hp).1 q; exact (h3 a ha hp).2 q), h3⟩
theorem wp_append_nil {o : Oper} {a : Act} {K : Act → World → Prop} {Q : Exit → Act → World → Prop} (w : World) (s y : Operand)
    (ho : o.op = .call { callee := .builtin .append, args := #[s, y], argTypes := #[28, 28] })
    (base : Nat) (hs : a.eval s = .slice none 0 0) (p : Option Addr) (m c : Nat) (ys : List Nat) (hx : a.eval y = .slice p m c) (hr : Rb w p m ys)
    (hlen : ys.length ≤ 100000) (hbase : base ≤ w.heap.size)
    (h : ∀ v' w', Ow w' base v' ys → Kp (fun _ => False) w w' → K (a.put o.dst v') w') : Oper.wp Tryd.prog o a w K Q := by
  obtain ⟨ti, hi0, hz0, hz1, hz2⟩ := info_parts info5
  have hl := hr.len
  obtain ⟨v', w', hrun, h2, h3, h4⟩ := run_append_own_src (P := Tryd.prog) w base 28 28 o.type 5 ti (.int .u8 0) 1 1 Tryd.underlying28 hi0 hz0 hz1 hz2 rfl (by decide) (.slice none 0 0) 0 [] (World.ownsRow_nil _ _ _ _) _ m (vl ys) (hr.src c) (by unfold maxLen; omega) (by omega) hbase
  unfold Oper.wp execOp
  simp only [ho, resolve, invoke, builtin, Sem.run_bind, Sem.run_pure, Result.andThen_ok, List.map_toArray, List.map_cons, List.map_nil, hs, hx, hrun]
  refine h v' w' ?_ ((grownBy_kp h3).mono (fun b _ e => by simp [Value.ownBlock] at e))
  unfold Ow
  rw [hl]
  simpa using h2
/-- behind so many links: NC calls, the append, the store -/
def BW (NC : Nat) (W : Nat → World → Prop) (g f : Nat) (bs : List Nat) (cs : List Value) (w0 : World) (S : Nat → Prop) (m : Nat) (w : World) : Prop :=
  W (min m NC) w ∧ Kp S w0 w ∧ if m ≤ NC + 1 then Lv w g cs else ∃ v, Ow w w0.heap.size v bs ∧ Lv w g (cs.set f v)
section
variable {NC : Nat} {W : Nat → World → Prop} {g f : Nat} {bs : List Nat} {cs : List Value} {w0 : World} {S : Nat → Prop} {m : Nat} {w w' : World}
theorem BW.lv (h : BW NC W g f bs cs w0 S m w) (hm : m ≤ NC) : Lv w g cs := by
  have := h.2.2
  rwa [if_pos (by omega)] at this
theorem BW.at (h : BW NC W g f bs cs w0 S m w) (hm : m ≤ NC) : W m w ∧ Kp S w0 w ∧ Lv w g cs := by
  refine ⟨?_, h.2.1, h.lv hm⟩
  have := h.1
  rwa [Nat.min_eq_left hm] at this
theorem BW.mk (hm : m ≤ NC) (h1 : W m w) (h2 : Kp S w0 w) (h3 : Lv w g cs) : BW NC W g f bs cs w0 S m w := ⟨by rw [Nat.min_eq_left hm]; exact h1, h2, by rw [if_pos (by omega)]; exact h3⟩
theorem BW.app (h1 : W NC w) (h2 : Kp S w0 w) (h3 : Lv w g cs) : BW NC W g f bs cs w0 S (NC + 1) w := ⟨by rw [Nat.min_eq_right (by omega)]; exact h1, h2, by rw [if_pos (by omega)]; exact h3⟩
theorem BW.app_out (h : BW NC W g f bs cs w0 S (NC + 1) w) : W NC w ∧ Kp S w0 w ∧ Lv w g cs := by
  obtain ⟨h1, h2, h3⟩ := h
  rw [Nat.min_eq_right (by omega)] at h1
  rw [if_pos (by omega)] at h3
  exact ⟨h1, h2, h3⟩
theorem BW.fin {v : Value} (h1 : W NC w) (h2 : Kp S w0 w) (h3 : Ow w w0.heap.size v bs) (h4 : Lv w g (cs.set f v)) : BW NC W g f bs cs w0 S (NC + 1 + 1) w := ⟨by rw [Nat.min_eq_right (by omega)]; exact h1, h2, by rw [if_neg (by omega)]; exact ⟨v, h3, h4⟩⟩
theorem BW.out (h : BW NC W g f bs cs w0 S (NC + 2) w) : W NC w ∧ Kp S w0 w ∧ ∃ v, Ow w w0.heap.size v bs ∧ Lv w g (cs.set f v) := by
  obtain ⟨h1, h2, h3⟩ := h
  rw [Nat.min_eq_right (by omega)] at h1
  rw [if_neg (by omega)] at h3
  exact ⟨h1, h2, h3⟩
theorem BW.grow (hW : ∀ m w w', Kp (fun _ => False) w w' → W m w → W m w') (hk : Kp (fun _ => False) w w') (h : BW NC W g f bs cs w0 S m w) : BW NC W g f bs cs w0 S m w' := by
  obtain ⟨h1, h2, h3⟩ := h
  refine ⟨hW _ _ _ hk h1, h2.trans hk (fun _ _ e => e.elim), ?_⟩
  by_cases hm : m ≤ NC + 1
  · rw [if_pos hm] at h3 ⊢
    exact h3.keep hk (fun e => e)
  · rw [if_neg hm] at h3 ⊢
    obtain ⟨v, h4, h5⟩ := h3
    exact ⟨v, ownsRow_keep h4 hk (fun _ _ e => e), h5.keep hk (fun e => e)⟩
end
end Go.Proofs.YtoepemgflbmlcaaDoor

/- Both readers: the region of a message's bytes (laid by scripts/mkoa4.py). -/
namespace Go.Proofs.YtoepemgflbmlcaaDoor
set_option linter.unusedVariables false
set_option linter.unusedSimpArgs false
open Go.RowKit Go.Deep

def rmbV (r g nn : Nat) (bs : List Nat) : Nat → Value
  | 0 => .pointer (some ⟨g, 23, none⟩)
  | 1 => .slice none 0 0
  | 2 => .pointer (some ⟨r, 0, none⟩)
  | 3 => .pointer (some ⟨r, 0, none⟩)
  | 4 => .pointer (some ⟨r, 0, none⟩)
  | 5 => .pointer (some ⟨r, 0, none⟩)
  | 8 => .pointer (some ⟨g, 23, none⟩)
  | _ => undef
def rmbR (r g nn : Nat) (bs : List Nat) (B0 : Nat) (i : Nat) (v : Value) (w : World) : Prop := match i with
  | 6 => SomeB r g bs v w
  | 7 => Ow w B0 v bs
  | 9 => True
  | i => v = rmbV r g nn bs i
theorem rmbR_keep {S : Nat → Prop} (r g nn : Nat) (bs : List Nat) (B0 : Nat) {w w' : World} (k : Kp S w w') (hS : ∀ b, S b → b = r ∨ b = g) (hr : r < B0) (hg : g < B0) (i : Nat) (v : Value) (h : rmbR r g nn bs B0 i v w) : rmbR r g nn bs B0 i v w' := by
  unfold rmbR at h ⊢
  split at h
  · exact SomeB.keep h k hS
  · exact ownsRow_keep h k (fun b hb e => by have := (ownBlock_lt h hb).1; have := hS b e; omega)
  · trivial
  · exact h
def rmbD (k : Nat) : Nat := [84, 85, 86, 87, 88, 89, 90, 91, 92, 103].getD k 0
def rmbB (r g : Nat) (y2 : Value) (a : Act) : Prop := a.eval (.tmp 0) = .pointer (some ⟨r, 0, none⟩) ∧ a.eval (.tmp 2) = y2 ∧ a.eval (.tmp 3) = .pointer (some ⟨g, 0, none⟩) ∧ a.defers = []
theorem rmbD_ne : ∀ k, k < 10 → rmbD k ≠ 0 ∧ rmbD k ≠ 2 ∧ rmbD k ≠ 3 := by decide
theorem rmbB_put (r g : Nat) (y2 : Value) (k : Nat) (v : Value) (a : Act) (hk : k < 10) (h : rmbB r g y2 a) : rmbB r g y2 (a.put (some (rmbD k)) v) := by
  have hne := rmbD_ne k hk
  refine ⟨?_, ?_, ?_, h.2.2.2⟩
  · rw [← h.1]
    show (a.tmps.setIfInBounds (rmbD k) v).getD 0 undef = a.tmps.getD 0 undef
    simp [Array.getElem?_setIfInBounds_ne (hne.1)]
  · rw [← h.2.1]
    show (a.tmps.setIfInBounds (rmbD k) v).getD 2 undef = a.tmps.getD 2 undef
    simp [Array.getElem?_setIfInBounds_ne (hne.2.1)]
  · rw [← h.2.2.1]
    show (a.tmps.setIfInBounds (rmbD k) v).getD 3 undef = a.tmps.getD 3 undef
    simp [Array.getElem?_setIfInBounds_ne (hne.2.2)]
theorem rmbD_inj : ∀ i, i < 10 → ∀ j, j < 10 → rmbD i = rmbD j → i = j := by decide
def rmbT : List (Oper × List Nat) := [(⟨some 84, Op.fieldAddr 40 (Operand.tmp 3) 12, 0, "", #[], none⟩, []), (⟨some 85, Op.load 28 (Operand.tmp 84), 28, "", #[], none⟩, [0]), (⟨some 86, Op.move (Operand.tmp 0), 95, "", #[], none⟩, []), (⟨some 87, Op.nilCheck (Operand.tmp 86), 0, "", #[], none⟩, [2]), (⟨some 88, Op.fieldAddr 74 (Operand.tmp 87) 0, 0, "", #[], none⟩, [3]), (⟨some 89, Op.fieldAddr 59 (Operand.tmp 88) 0, 0, "", #[], none⟩, [4]), (⟨some 90, Op.call { callee := Callee.value (Operand.func 58), args := #[Operand.tmp 89, Operand.const (Value.int IntKind.i64 2000)], argTypes := #[57, 3] }, 28, "", #[], none⟩, [5]), (⟨some 91, Op.call { callee := Callee.builtin Builtin.append, args := #[Operand.tmp 85, Operand.tmp 90], argTypes := #[28, 28] }, 28, "", #[], none⟩, [1, 6, 6]), (⟨some 92, Op.fieldAddr 40 (Operand.tmp 3) 12, 0, "", #[], none⟩, [0, 1, 2, 3, 4, 5, 6, 7]), (⟨none, Op.store 28 (Operand.tmp 92) (Operand.tmp 91), 0, "", #[], none⟩, [8, 7, 7, 0, 1, 2, 3, 4, 5, 6, 7])]
def rmbC (W : Nat → World → Prop) (r g nn : Nat) (bs : List Nat) (cs : List Value) (w0 : World) (y2 : Value) : Chn := { n := 94, B := rmbB r g y2, R := rmbR r g nn bs w0.heap.size, D := rmbD, pos := posOf [6, 7, 9], N := 3, W := BW 1 W g 23 bs cs w0 (fun b => b = r ∨ b = g), T := rmbT }
structure rmbH (Q : Exit → Act → World → Prop) (W : Nat → World → Prop) (r g nn : Nat) (bs : List Nat) (cs : List Value) (w0 : World) (y2 : Value) : Prop where
  wk : ∀ m w w', Kp (fun b => b = g) w w' → W m w → W m w'
  call0 : ∀ w, W 0 w → Calls Tryd.prog 58 #[.pointer (some ⟨r, 0, none⟩), .int .i64 2000] w (fun e w' => Kp (fun b => b = r) w w' ∧ ((∃ v, e = .returned v ∧ SomeB r g bs v w' ∧ W 1 w') ∨ ∃ c, e = .panicked c ∧ ∀ a, rmbB r g y2 a → Kp (fun b => b = r ∨ b = g) w0 w' → Q (.panic c) a w'))
  rb : r < w0.heap.size
  gb : g < w0.heap.size
  rg : r ≠ g
  len : bs.length ≤ 100000
  cl : 23 < cs.length
  cv : cs[23]? = some (.slice none 0 0)

theorem rmbD_mem : ∀ k, k < 10 → ∀ t, rmbD k = t → t < 94 → t ∈ [84, 85, 86, 87, 88, 89, 90, 91, 92] := by
  intro k hk t e ht
  subst e
  revert ht
  revert k
  decide
set_option maxRecDepth 100000 in
theorem rmb_e0 (r g nn : Nat) (ev : Operand → Value) (z : World) (ec : ∀ c, ev (.const c) = c) (e3 : ev (.tmp 3) = .pointer (some ⟨g, 0, none⟩)) : (execOp ev ⟨some 84, Op.fieldAddr 40 (Operand.tmp 3) 12, 0, "", #[], none⟩).run Tryd.prog z = .ok (.value (.pointer (some ⟨g, 23, none⟩))) z := by
  go_simp
set_option maxRecDepth 100000 in
theorem rmb_s0 {Q : Exit → Act → World → Prop} (W : Nat → World → Prop) (r g nn : Nat) (bs : List Nat) (cs : List Value) (w0 : World) (y2 : Value) (H : rmbH Q W r g nn bs cs w0 y2) : (rmbC W r g nn bs cs w0 y2).Step Tryd.prog Q 0 ⟨some 84, Op.fieldAddr 40 (Operand.tmp 3) 12, 0, "", #[], none⟩ [] := by
  refine Chn.pure _ rfl rfl (show 84 < 94 by decide) (by decide) rfl ?_
  intro a w m hn hB hW hdm hup hd K hK
  have e3 : a.eval (.tmp 3) = .pointer (some ⟨g, 0, none⟩) := hB.2.2.1
  exact run_value (rmb_e0 r g nn _ w (fun _ => rfl) e3) (hK.out _ w (Kp.refl _ _) rfl)
set_option maxRecDepth 100000 in
theorem rmb_e1 (r g nn : Nat) (ev : Operand → Value) (z : World) (ec : ∀ c, ev (.const c) = c) (e84 : ev (.tmp 84) = .pointer (some ⟨g, 23, none⟩)) (hc : z.cell? ⟨g, 23, none⟩ = some (.slice none 0 0)) : (execOp ev ⟨some 85, Op.load 28 (Operand.tmp 84), 28, "", #[], none⟩).run Tryd.prog z = .ok (.value (.slice none 0 0)) z := by
  go_simp
set_option maxRecDepth 100000 in
theorem rmb_s1 {Q : Exit → Act → World → Prop} (W : Nat → World → Prop) (r g nn : Nat) (bs : List Nat) (cs : List Value) (w0 : World) (y2 : Value) (H : rmbH Q W r g nn bs cs w0 y2) : (rmbC W r g nn bs cs w0 y2).Step Tryd.prog Q 1 ⟨some 85, Op.load 28 (Operand.tmp 84), 28, "", #[], none⟩ [0] := by
  refine Chn.pure _ rfl rfl (show 85 < 94 by decide) (by decide) rfl ?_
  intro a w m hn hB hW hdm hup hd K hK
  have e84 : a.eval (.tmp 84) = .pointer (some ⟨g, 23, none⟩) := hd 0 (by decide)
  have hm : m ≤ 1 := hup 7 _ rfl (by decide) 1 rfl
  have hl : Lv w g cs := BW.lv hW hm
  exact run_value (rmb_e1 r g nn _ w (fun _ => rfl) e84 (hl.cell H.cv)) (hK.out _ w (Kp.refl _ _) rfl)
set_option maxRecDepth 100000 in
theorem rmb_e2 (r g nn : Nat) (ev : Operand → Value) (z : World) (ec : ∀ c, ev (.const c) = c) (e0 : ev (.tmp 0) = .pointer (some ⟨r, 0, none⟩)) : (execOp ev ⟨some 86, Op.move (Operand.tmp 0), 95, "", #[], none⟩).run Tryd.prog z = .ok (.value (.pointer (some ⟨r, 0, none⟩))) z := by
  go_simp
set_option maxRecDepth 100000 in
theorem rmb_s2 {Q : Exit → Act → World → Prop} (W : Nat → World → Prop) (r g nn : Nat) (bs : List Nat) (cs : List Value) (w0 : World) (y2 : Value) (H : rmbH Q W r g nn bs cs w0 y2) : (rmbC W r g nn bs cs w0 y2).Step Tryd.prog Q 2 ⟨some 86, Op.move (Operand.tmp 0), 95, "", #[], none⟩ [] := by
  refine Chn.pure _ rfl rfl (show 86 < 94 by decide) (by decide) rfl ?_
  intro a w m hn hB hW hdm hup hd K hK
  have e0 : a.eval (.tmp 0) = .pointer (some ⟨r, 0, none⟩) := hB.1
  exact run_value (rmb_e2 r g nn _ w (fun _ => rfl) e0) (hK.out _ w (Kp.refl _ _) rfl)
set_option maxRecDepth 100000 in
theorem rmb_e3 (r g nn : Nat) (ev : Operand → Value) (z : World) (ec : ∀ c, ev (.const c) = c) (e86 : ev (.tmp 86) = .pointer (some ⟨r, 0, none⟩)) : (execOp ev ⟨some 87, Op.nilCheck (Operand.tmp 86), 0, "", #[], none⟩).run Tryd.prog z = .ok (.value (.pointer (some ⟨r, 0, none⟩))) z := by
  go_simp
set_option maxRecDepth 100000 in
theorem rmb_s3 {Q : Exit → Act → World → Prop} (W : Nat → World → Prop) (r g nn : Nat) (bs : List Nat) (cs : List Value) (w0 : World) (y2 : Value) (H : rmbH Q W r g nn bs cs w0 y2) : (rmbC W r g nn bs cs w0 y2).Step Tryd.prog Q 3 ⟨some 87, Op.nilCheck (Operand.tmp 86), 0, "", #[], none⟩ [2] := by
  refine Chn.pure _ rfl rfl (show 87 < 94 by decide) (by decide) rfl ?_
  intro a w m hn hB hW hdm hup hd K hK
  have e86 : a.eval (.tmp 86) = .pointer (some ⟨r, 0, none⟩) := hd 2 (by decide)
  exact run_value (rmb_e3 r g nn _ w (fun _ => rfl) e86) (hK.out _ w (Kp.refl _ _) rfl)
set_option maxRecDepth 100000 in
theorem rmb_e4 (r g nn : Nat) (ev : Operand → Value) (z : World) (ec : ∀ c, ev (.const c) = c) (e87 : ev (.tmp 87) = .pointer (some ⟨r, 0, none⟩)) : (execOp ev ⟨some 88, Op.fieldAddr 74 (Operand.tmp 87) 0, 0, "", #[], none⟩).run Tryd.prog z = .ok (.value (.pointer (some ⟨r, 0, none⟩))) z := by
  go_simp
set_option maxRecDepth 100000 in
theorem rmb_s4 {Q : Exit → Act → World → Prop} (W : Nat → World → Prop) (r g nn : Nat) (bs : List Nat) (cs : List Value) (w0 : World) (y2 : Value) (H : rmbH Q W r g nn bs cs w0 y2) : (rmbC W r g nn bs cs w0 y2).Step Tryd.prog Q 4 ⟨some 88, Op.fieldAddr 74 (Operand.tmp 87) 0, 0, "", #[], none⟩ [3] := by
  refine Chn.pure _ rfl rfl (show 88 < 94 by decide) (by decide) rfl ?_
  intro a w m hn hB hW hdm hup hd K hK
  have e87 : a.eval (.tmp 87) = .pointer (some ⟨r, 0, none⟩) := hd 3 (by decide)
  exact run_value (rmb_e4 r g nn _ w (fun _ => rfl) e87) (hK.out _ w (Kp.refl _ _) rfl)
set_option maxRecDepth 100000 in
theorem rmb_e5 (r g nn : Nat) (ev : Operand → Value) (z : World) (ec : ∀ c, ev (.const c) = c) (e88 : ev (.tmp 88) = .pointer (some ⟨r, 0, none⟩)) : (execOp ev ⟨some 89, Op.fieldAddr 59 (Operand.tmp 88) 0, 0, "", #[], none⟩).run Tryd.prog z = .ok (.value (.pointer (some ⟨r, 0, none⟩))) z := by
  go_simp
set_option maxRecDepth 100000 in
theorem rmb_s5 {Q : Exit → Act → World → Prop} (W : Nat → World → Prop) (r g nn : Nat) (bs : List Nat) (cs : List Value) (w0 : World) (y2 : Value) (H : rmbH Q W r g nn bs cs w0 y2) : (rmbC W r g nn bs cs w0 y2).Step Tryd.prog Q 5 ⟨some 89, Op.fieldAddr 59 (Operand.tmp 88) 0, 0, "", #[], none⟩ [4] := by
  refine Chn.pure _ rfl rfl (show 89 < 94 by decide) (by decide) rfl ?_
  intro a w m hn hB hW hdm hup hd K hK
  have e88 : a.eval (.tmp 88) = .pointer (some ⟨r, 0, none⟩) := hd 4 (by decide)
  exact run_value (rmb_e5 r g nn _ w (fun _ => rfl) e88) (hK.out _ w (Kp.refl _ _) rfl)
set_option maxRecDepth 100000 in
theorem rmb_e6 (r g nn : Nat) (ev : Operand → Value) (z : World) (ec : ∀ c, ev (.const c) = c) (ef : ∀ f, ev (.func f) = .func (.func f) #[] #[]) (e89 : ev (.tmp 89) = .pointer (some ⟨r, 0, none⟩)) : (execOp ev ⟨some 90, Op.call { callee := Callee.value (Operand.func 58), args := #[Operand.tmp 89, Operand.const (Value.int IntKind.i64 2000)], argTypes := #[57, 3] }, 28, "", #[], none⟩).run Tryd.prog z = .ok (.enter 58 #[.pointer (some ⟨r, 0, none⟩), .int .i64 2000]) z := enter_run _ (ef _) (by simp only [List.map_toArray, List.map_cons, List.map_nil, ec, ef, e89]) (fun _ => by rfl)
set_option maxRecDepth 100000 in
theorem rmb_s6 {Q : Exit → Act → World → Prop} (W : Nat → World → Prop) (r g nn : Nat) (bs : List Nat) (cs : List Value) (w0 : World) (y2 : Value) (H : rmbH Q W r g nn bs cs w0 y2) : (rmbC W r g nn bs cs w0 y2).Step Tryd.prog Q 6 ⟨some 90, Op.call { callee := Callee.value (Operand.func 58), args := #[Operand.tmp 89, Operand.const (Value.int IntKind.i64 2000)], argTypes := #[57, 3] }, 28, "", #[], none⟩ [5] := by
  refine Chn.link _ 0 rfl (fun q hq => by omega) (show 0 < 3 by decide) (Or.inl ⟨rfl, show 90 < 94 by decide⟩) (by decide) rfl ?_
  intro a w hn hB hW hd K hK
  have e89 : a.eval (.tmp 89) = .pointer (some ⟨r, 0, none⟩) := hd 5 (by decide)
  obtain ⟨h1, h2, h3⟩ := BW.at (m := 0) hW (by decide)
  refine wp_enterP (rmb_e6 r g nn _ w (fun _ => rfl) (fun _ => rfl) e89) (H.call0 w h1) ?_
  rintro e9 w9 ⟨k9, ⟨v, rfl, hv, hp⟩ | ⟨c, rfl, hp⟩⟩
  · exact Or.inl ⟨_, rfl, hK.out _ _ (BW.mk (by decide) hp (h2.trans k9 (fun _ _ e => Or.inl e)) (h3.keep k9 (fun e => H.rg e.symm))) (fun i u _ h => rmbR_keep r g nn bs w0.heap.size k9 (fun b e => Or.inl e) H.rb H.gb i u h) hv⟩
  · exact Or.inr ⟨_, rfl, hp a hB (h2.trans k9 (fun _ _ e => Or.inl e))⟩
set_option maxRecDepth 100000 in
theorem rmb_s7 {Q : Exit → Act → World → Prop} (W : Nat → World → Prop) (r g nn : Nat) (bs : List Nat) (cs : List Value) (w0 : World) (y2 : Value) (H : rmbH Q W r g nn bs cs w0 y2) : (rmbC W r g nn bs cs w0 y2).Step Tryd.prog Q 7 ⟨some 91, Op.call { callee := Callee.builtin Builtin.append, args := #[Operand.tmp 85, Operand.tmp 90], argTypes := #[28, 28] }, 28, "", #[], none⟩ [1, 6, 6] := by
  refine Chn.link _ 1 rfl (prevOf 6 0 (by decide) rfl) (show 1 < 3 by decide) (Or.inl ⟨rfl, show 91 < 94 by decide⟩) (by decide) rfl ?_
  intro a w hn hB hW hd K hK
  have e85 : a.eval (.tmp 85) = .slice none 0 0 := hd 1 (by decide)
  obtain ⟨p, m, c, hv, hr, hz⟩ : SomeB r g bs (a.eval (.tmp 90)) w := hd 6 (by decide)
  obtain ⟨h1, h2, h3⟩ := BW.at (m := 1) hW (by decide)
  refine wp_append_nil w (.tmp 85) (.tmp 90) rfl w0.heap.size e85 p m c bs hv hr H.len h2.size ?_
  intro v' w' ho hk
  exact hK.out v' w' (BW.app (H.wk _ _ _ (hk.mono (fun _ _ e => e.elim)) h1) (h2.trans hk (fun _ _ e => e.elim)) (h3.keep hk (fun e => e))) (fun i u _ h => rmbR_keep r g nn bs w0.heap.size hk (fun b e => e.elim) H.rb H.gb i u h) ho
set_option maxRecDepth 100000 in
theorem rmb_e8 (r g nn : Nat) (ev : Operand → Value) (z : World) (ec : ∀ c, ev (.const c) = c) (e3 : ev (.tmp 3) = .pointer (some ⟨g, 0, none⟩)) : (execOp ev ⟨some 92, Op.fieldAddr 40 (Operand.tmp 3) 12, 0, "", #[], none⟩).run Tryd.prog z = .ok (.value (.pointer (some ⟨g, 23, none⟩))) z := by
  go_simp
set_option maxRecDepth 100000 in
theorem rmb_s8 {Q : Exit → Act → World → Prop} (W : Nat → World → Prop) (r g nn : Nat) (bs : List Nat) (cs : List Value) (w0 : World) (y2 : Value) (H : rmbH Q W r g nn bs cs w0 y2) : (rmbC W r g nn bs cs w0 y2).Step Tryd.prog Q 8 ⟨some 92, Op.fieldAddr 40 (Operand.tmp 3) 12, 0, "", #[], none⟩ [0, 1, 2, 3, 4, 5, 6, 7] := by
  refine Chn.pure _ rfl rfl (show 92 < 94 by decide) (by decide) rfl ?_
  intro a w m hn hB hW hdm hup hd K hK
  have e3 : a.eval (.tmp 3) = .pointer (some ⟨g, 0, none⟩) := hB.2.2.1
  exact run_value (rmb_e8 r g nn _ w (fun _ => rfl) e3) (hK.out _ w (Kp.refl _ _) rfl)
set_option maxRecDepth 100000 in
theorem rmb_e9 (r g nn : Nat) (ev : Operand → Value) (z : World) (ec : ∀ c, ev (.const c) = c) (e92 : ev (.tmp 92) = .pointer (some ⟨g, 23, none⟩)) (p : Option Addr) (n c : Nat) (e91 : ev (.tmp 91) = .slice p n c) {u : Value} (hu : z.cell? ⟨g, 23, none⟩ = some u) (hf : z.frozen? ⟨g, 23, none⟩ = false) : (execOp ev ⟨none, Op.store 28 (Operand.tmp 92) (Operand.tmp 91), 0, "", #[], none⟩).run Tryd.prog z = .ok .skip (z.setCell ⟨g, 23, none⟩ (.slice p n c)) := by
  go_simp
set_option maxRecDepth 100000 in
theorem rmb_s9 {Q : Exit → Act → World → Prop} (W : Nat → World → Prop) (r g nn : Nat) (bs : List Nat) (cs : List Value) (w0 : World) (y2 : Value) (H : rmbH Q W r g nn bs cs w0 y2) : (rmbC W r g nn bs cs w0 y2).Step Tryd.prog Q 9 ⟨none, Op.store 28 (Operand.tmp 92) (Operand.tmp 91), 0, "", #[], none⟩ [8, 7, 7, 0, 1, 2, 3, 4, 5, 6, 7] := by
  refine Chn.link _ 2 rfl (prevOf 7 1 (by decide) rfl) (show 2 < 3 by decide) (Or.inr ⟨rfl, show 94 ≤ 103 by decide, fun _ _ => trivial⟩) (by decide) rfl ?_
  intro a w hn hB hW hd K hK
  have e92 : a.eval (.tmp 92) = .pointer (some ⟨g, 23, none⟩) := hd 8 (by decide)
  have ho : Ow w w0.heap.size (a.eval (.tmp 91)) bs := hd 7 (by decide)
  obtain ⟨h1, h2, h3⟩ := BW.app_out hW
  obtain ⟨q, cap, ev, _⟩ := own_fl ho
  have ks : Kp (fun b => b = g) w (w.setCell ⟨g, 23, none⟩ (.slice q bs.length cap)) := (by show Kp _ _ _; exact (Kp.refl (fun b => b = g) w).setCell (fun _ => rfl) _)
  refine run_skip rfl (rmb_e9 r g nn _ w (fun _ => rfl) e92 q _ cap ev (h3.cell H.cv) (h3.fz H.cl)) (fun v => hK.out v _ (BW.fin (v := .slice q bs.length cap) (H.wk _ _ _ ks h1) (h2.trans ks (fun _ _ e => Or.inr e)) ?_ (h3.set1' 23 _ H.cl)) (fun i u _ h => rmbR_keep r g nn bs w0.heap.size ks (fun b e => Or.inr e) H.rb H.gb i u h) trivial)
  rw [ev] at ho
  exact ownsRow_keep ho ks (fun c hc e => by have := (ownBlock_lt ho hc).1; have := H.gb; omega)
theorem rmb_steps {Q : Exit → Act → World → Prop} (W : Nat → World → Prop) (r g nn : Nat) (bs : List Nat) (cs : List Value) (w0 : World) (y2 : Value) (H : rmbH Q W r g nn bs cs w0 y2) : (rmbC W r g nn bs cs w0 y2).Steps Tryd.prog Q 0 rmbT := ⟨rmb_s0 W r g nn bs cs w0 y2 H, rmb_s1 W r g nn bs cs w0 y2 H, rmb_s2 W r g nn bs cs w0 y2 H, rmb_s3 W r g nn bs cs w0 y2 H, rmb_s4 W r g nn bs cs w0 y2 H, rmb_s5 W r g nn bs cs w0 y2 H, rmb_s6 W r g nn bs cs w0 y2 H, rmb_s7 W r g nn bs cs w0 y2 H, rmb_s8 W r g nn bs cs w0 y2 H, rmb_s9 W r g nn bs cs w0 y2 H, trivial⟩
/-- the region: the bytes stand in the struct, or it gives up -/
theorem rmb_region {ops : Array Oper} {rid : Nat} {Q : Exit → Act → World → Prop} {a : Act} {y : World} (W : Nat → World → Prop) (r g nn : Nat) (bs : List Nat) (cs : List Value) (y2 : Value) (hT : ops.toList.map (fun o => (bare o, deps o)) = rmbT) (hn : a.tmps.size = 94) (hB : rmbB r g y2 a)
    (H : rmbH Q W r g nn bs cs y.drew y2) (hp : W 0 y) (hl : Lv y g cs)
    (hend : ∀ q84 q85 q86 q87 q88 q89 q90 q91 q92 w v, Kp (fun b => b = r ∨ b = g) y w → W 1 w → Ow w y.heap.size v bs → Lv w g (cs.set 23 v) → Q .normal (((((((((a.put (some 84) q84).put (some 85) q85).put (some 86) q86).put (some 87) q87).put (some 88) q88).put (some 89) q89).put (some 90) q90).put (some 91) q91).put (some 92) q92) w) : (Code.region rid ops true).wp Tryd.prog Q a y := by
  have kd : Kp (fun b => b = r ∨ b = g) y y.drew := (Kp.refl _ _).drew
  have k0 : Kp (fun _ => False) y y.drew := (Kp.refl _ _).drew
  refine chain_region (rmbC W r g nn bs cs y.drew y2) (by kernel_rfl) hT hn hB (fun k v a hk _ h => rmbB_put r g y2 k v a hk h) (fun i j h1 h2 => rmbD_inj i h1 j h2) (fun i j p h1 h2 => posOf_inj _ i j p) (posOf_at [6, 7, 9] 10 (by decide) (by decide)) ?_ (fun m w w' hk h => BW.grow (fun m w w' k h => H.wk m w w' (k.mono (fun _ _ e => e.elim)) h) hk h) (fun i v w w' hk h => rmbR_keep r g nn bs y.drew.heap.size hk (fun b e => e.elim) H.rb H.gb i v h) (rmb_steps W r g nn bs cs y.drew y2 H) ?_
  · exact BW.mk (by decide) (H.wk _ _ _ (k0.mono (fun _ _ e => e.elim)) hp) (Kp.refl _ _) (hl.keep k0 (fun e => e))
  · rintro a' w h1 h2 hfr hW _
    obtain ⟨h3, h4, v, h5, h6⟩ := BW.out hW
    rw [act_puts a' [84, 85, 86, 87, 88, 89, 90, 91, 92] a (h1.trans hn.symm) (h2.2.2.2.trans hB.2.2.2.symm) (fun t ht => by
      rcases Nat.lt_or_ge t a'.tmps.size with hl | hl
      · exact hfr t (fun k hk e => ht (rmbD_mem k hk t e (Nat.lt_of_lt_of_eq hl h1)))
      · rw [eval_past a' t hl, eval_past a t (by have h9 : a.tmps.size = a'.tmps.size := hn.trans h1.symm; omega)])]
    exact hend (a'.eval (.tmp 84)) (a'.eval (.tmp 85)) (a'.eval (.tmp 86)) (a'.eval (.tmp 87)) (a'.eval (.tmp 88)) (a'.eval (.tmp 89)) (a'.eval (.tmp 90)) (a'.eval (.tmp 91)) (a'.eval (.tmp 92)) w v (kd.trans h4 (fun _ _ e => e)) h3 h5 h6

def xmbV (r g nn : Nat) (bs : List Nat) : Nat → Value
  | 0 => .pointer (some ⟨g, 23, none⟩)
  | 1 => .slice none 0 0
  | 2 => .pointer (some ⟨r, 0, none⟩)
  | 3 => .pointer (some ⟨r, 0, none⟩)
  | 4 => .int .i64 (nn : Int)
  | 7 => .pointer (some ⟨g, 23, none⟩)
  | _ => undef
def xmbR (r g nn : Nat) (bs : List Nat) (B0 : Nat) (i : Nat) (v : Value) (w : World) : Prop := match i with
  | 5 => SomeB r g bs v w
  | 6 => Ow w B0 v bs
  | 8 => True
  | i => v = xmbV r g nn bs i
theorem xmbR_keep {S : Nat → Prop} (r g nn : Nat) (bs : List Nat) (B0 : Nat) {w w' : World} (k : Kp S w w') (hS : ∀ b, S b → b = r ∨ b = g) (hr : r < B0) (hg : g < B0) (i : Nat) (v : Value) (h : xmbR r g nn bs B0 i v w) : xmbR r g nn bs B0 i v w' := by
  unfold xmbR at h ⊢
  split at h
  · exact SomeB.keep h k hS
  · exact ownsRow_keep h k (fun b hb e => by have := (ownBlock_lt h hb).1; have := hS b e; omega)
  · trivial
  · exact h
def xmbD (k : Nat) : Nat := [80, 81, 82, 83, 84, 85, 86, 87, 115].getD k 0
def xmbB (r g : Nat) (y2 : Value) (a : Act) : Prop := a.eval (.tmp 2) = y2 ∧ a.eval (.tmp 4) = .pointer (some ⟨r, 0, none⟩) ∧ a.eval (.tmp 5) = .pointer (some ⟨g, 0, none⟩) ∧ a.defers = []
theorem xmbD_ne : ∀ k, k < 9 → xmbD k ≠ 2 ∧ xmbD k ≠ 4 ∧ xmbD k ≠ 5 := by decide
theorem xmbB_put (r g : Nat) (y2 : Value) (k : Nat) (v : Value) (a : Act) (hk : k < 9) (h : xmbB r g y2 a) : xmbB r g y2 (a.put (some (xmbD k)) v) := by
  have hne := xmbD_ne k hk
  refine ⟨?_, ?_, ?_, h.2.2.2⟩
  · rw [← h.1]
    show (a.tmps.setIfInBounds (xmbD k) v).getD 2 undef = a.tmps.getD 2 undef
    simp [Array.getElem?_setIfInBounds_ne (hne.1)]
  · rw [← h.2.1]
    show (a.tmps.setIfInBounds (xmbD k) v).getD 4 undef = a.tmps.getD 4 undef
    simp [Array.getElem?_setIfInBounds_ne (hne.2.1)]
  · rw [← h.2.2.1]
    show (a.tmps.setIfInBounds (xmbD k) v).getD 5 undef = a.tmps.getD 5 undef
    simp [Array.getElem?_setIfInBounds_ne (hne.2.2)]
theorem xmbD_inj : ∀ i, i < 9 → ∀ j, j < 9 → xmbD i = xmbD j → i = j := by decide
def xmbT : List (Oper × List Nat) := [(⟨some 80, Op.fieldAddr 40 (Operand.tmp 5) 12, 0, "", #[], none⟩, []), (⟨some 81, Op.load 28 (Operand.tmp 80), 28, "", #[], none⟩, [0]), (⟨some 82, Op.move (Operand.tmp 4), 64, "", #[], none⟩, []), (⟨some 83, Op.move (Operand.tmp 4), 64, "", #[], none⟩, []), (⟨some 84, Op.call { callee := Callee.value (Operand.func 46), args := #[Operand.tmp 83, Operand.const (Value.int IntKind.i64 2000)], argTypes := #[64, 3] }, 3, "", #[], none⟩, [3]), (⟨some 85, Op.call { callee := Callee.value (Operand.func 45), args := #[Operand.tmp 82, Operand.tmp 84], argTypes := #[64, 3] }, 28, "", #[], none⟩, [2, 4, 4]), (⟨some 86, Op.call { callee := Callee.builtin Builtin.append, args := #[Operand.tmp 81, Operand.tmp 85], argTypes := #[28, 28] }, 28, "", #[], none⟩, [1, 5, 5]), (⟨some 87, Op.fieldAddr 40 (Operand.tmp 5) 12, 0, "", #[], none⟩, [0, 1, 2, 3, 4, 5, 6]), (⟨none, Op.store 28 (Operand.tmp 87) (Operand.tmp 86), 0, "", #[], none⟩, [7, 6, 6, 0, 1, 2, 3, 4, 5, 6])]
def xmbC (W : Nat → World → Prop) (r g nn : Nat) (bs : List Nat) (cs : List Value) (w0 : World) (y2 : Value) : Chn := { n := 107, B := xmbB r g y2, R := xmbR r g nn bs w0.heap.size, D := xmbD, pos := posOf [4, 5, 6, 8], N := 4, W := BW 2 W g 23 bs cs w0 (fun b => b = r ∨ b = g), T := xmbT }
structure xmbH (Q : Exit → Act → World → Prop) (W : Nat → World → Prop) (r g nn : Nat) (bs : List Nat) (cs : List Value) (w0 : World) (y2 : Value) : Prop where
  wk : ∀ m w w', Kp (fun b => b = g) w w' → W m w → W m w'
  call0 : ∀ w, W 0 w → Calls Tryd.prog 46 #[.pointer (some ⟨r, 0, none⟩), .int .i64 2000] w (fun e w' => Kp (fun b => b = r) w w' ∧ e = .returned (.int .i64 (nn : Int)) ∧ W 1 w')
  call1 : ∀ w, W 1 w → Calls Tryd.prog 45 #[.pointer (some ⟨r, 0, none⟩), .int .i64 (nn : Int)] w (fun e w' => Kp (fun b => b = r) w w' ∧ ((∃ v, e = .returned v ∧ SomeB r g bs v w' ∧ W 2 w') ∨ ∃ c, e = .panicked c ∧ ∀ a, xmbB r g y2 a → Kp (fun b => b = r ∨ b = g) w0 w' → Q (.panic c) a w'))
  rb : r < w0.heap.size
  gb : g < w0.heap.size
  rg : r ≠ g
  len : bs.length ≤ 100000
  cl : 23 < cs.length
  cv : cs[23]? = some (.slice none 0 0)

theorem xmbD_mem : ∀ k, k < 9 → ∀ t, xmbD k = t → t < 107 → t ∈ [80, 81, 82, 83, 84, 85, 86, 87] := by
  intro k hk t e ht
  subst e
  revert ht
  revert k
  decide
set_option maxRecDepth 100000 in
theorem xmb_e0 (r g nn : Nat) (ev : Operand → Value) (z : World) (ec : ∀ c, ev (.const c) = c) (e5 : ev (.tmp 5) = .pointer (some ⟨g, 0, none⟩)) : (execOp ev ⟨some 80, Op.fieldAddr 40 (Operand.tmp 5) 12, 0, "", #[], none⟩).run Tryd.prog z = .ok (.value (.pointer (some ⟨g, 23, none⟩))) z := by
  go_simp
set_option maxRecDepth 100000 in
theorem xmb_s0 {Q : Exit → Act → World → Prop} (W : Nat → World → Prop) (r g nn : Nat) (bs : List Nat) (cs : List Value) (w0 : World) (y2 : Value) (H : xmbH Q W r g nn bs cs w0 y2) : (xmbC W r g nn bs cs w0 y2).Step Tryd.prog Q 0 ⟨some 80, Op.fieldAddr 40 (Operand.tmp 5) 12, 0, "", #[], none⟩ [] := by
  refine Chn.pure _ rfl rfl (show 80 < 107 by decide) (by decide) rfl ?_
  intro a w m hn hB hW hdm hup hd K hK
  have e5 : a.eval (.tmp 5) = .pointer (some ⟨g, 0, none⟩) := hB.2.2.1
  exact run_value (xmb_e0 r g nn _ w (fun _ => rfl) e5) (hK.out _ w (Kp.refl _ _) rfl)
set_option maxRecDepth 100000 in
theorem xmb_e1 (r g nn : Nat) (ev : Operand → Value) (z : World) (ec : ∀ c, ev (.const c) = c) (e80 : ev (.tmp 80) = .pointer (some ⟨g, 23, none⟩)) (hc : z.cell? ⟨g, 23, none⟩ = some (.slice none 0 0)) : (execOp ev ⟨some 81, Op.load 28 (Operand.tmp 80), 28, "", #[], none⟩).run Tryd.prog z = .ok (.value (.slice none 0 0)) z := by
  go_simp
set_option maxRecDepth 100000 in
theorem xmb_s1 {Q : Exit → Act → World → Prop} (W : Nat → World → Prop) (r g nn : Nat) (bs : List Nat) (cs : List Value) (w0 : World) (y2 : Value) (H : xmbH Q W r g nn bs cs w0 y2) : (xmbC W r g nn bs cs w0 y2).Step Tryd.prog Q 1 ⟨some 81, Op.load 28 (Operand.tmp 80), 28, "", #[], none⟩ [0] := by
  refine Chn.pure _ rfl rfl (show 81 < 107 by decide) (by decide) rfl ?_
  intro a w m hn hB hW hdm hup hd K hK
  have e80 : a.eval (.tmp 80) = .pointer (some ⟨g, 23, none⟩) := hd 0 (by decide)
  have hm : m ≤ 2 := hup 6 _ rfl (by decide) 2 rfl
  have hl : Lv w g cs := BW.lv hW hm
  exact run_value (xmb_e1 r g nn _ w (fun _ => rfl) e80 (hl.cell H.cv)) (hK.out _ w (Kp.refl _ _) rfl)
set_option maxRecDepth 100000 in
theorem xmb_e2 (r g nn : Nat) (ev : Operand → Value) (z : World) (ec : ∀ c, ev (.const c) = c) (e4 : ev (.tmp 4) = .pointer (some ⟨r, 0, none⟩)) : (execOp ev ⟨some 82, Op.move (Operand.tmp 4), 64, "", #[], none⟩).run Tryd.prog z = .ok (.value (.pointer (some ⟨r, 0, none⟩))) z := by
  go_simp
set_option maxRecDepth 100000 in
theorem xmb_s2 {Q : Exit → Act → World → Prop} (W : Nat → World → Prop) (r g nn : Nat) (bs : List Nat) (cs : List Value) (w0 : World) (y2 : Value) (H : xmbH Q W r g nn bs cs w0 y2) : (xmbC W r g nn bs cs w0 y2).Step Tryd.prog Q 2 ⟨some 82, Op.move (Operand.tmp 4), 64, "", #[], none⟩ [] := by
  refine Chn.pure _ rfl rfl (show 82 < 107 by decide) (by decide) rfl ?_
  intro a w m hn hB hW hdm hup hd K hK
  have e4 : a.eval (.tmp 4) = .pointer (some ⟨r, 0, none⟩) := hB.2.1
  exact run_value (xmb_e2 r g nn _ w (fun _ => rfl) e4) (hK.out _ w (Kp.refl _ _) rfl)
set_option maxRecDepth 100000 in
theorem xmb_e3 (r g nn : Nat) (ev : Operand → Value) (z : World) (ec : ∀ c, ev (.const c) = c) (e4 : ev (.tmp 4) = .pointer (some ⟨r, 0, none⟩)) : (execOp ev ⟨some 83, Op.move (Operand.tmp 4), 64, "", #[], none⟩).run Tryd.prog z = .ok (.value (.pointer (some ⟨r, 0, none⟩))) z := by
  go_simp
set_option maxRecDepth 100000 in
theorem xmb_s3 {Q : Exit → Act → World → Prop} (W : Nat → World → Prop) (r g nn : Nat) (bs : List Nat) (cs : List Value) (w0 : World) (y2 : Value) (H : xmbH Q W r g nn bs cs w0 y2) : (xmbC W r g nn bs cs w0 y2).Step Tryd.prog Q 3 ⟨some 83, Op.move (Operand.tmp 4), 64, "", #[], none⟩ [] := by
  refine Chn.pure _ rfl rfl (show 83 < 107 by decide) (by decide) rfl ?_
  intro a w m hn hB hW hdm hup hd K hK
  have e4 : a.eval (.tmp 4) = .pointer (some ⟨r, 0, none⟩) := hB.2.1
  exact run_value (xmb_e3 r g nn _ w (fun _ => rfl) e4) (hK.out _ w (Kp.refl _ _) rfl)
set_option maxRecDepth 100000 in
theorem xmb_e4 (r g nn : Nat) (ev : Operand → Value) (z : World) (ec : ∀ c, ev (.const c) = c) (ef : ∀ f, ev (.func f) = .func (.func f) #[] #[]) (e83 : ev (.tmp 83) = .pointer (some ⟨r, 0, none⟩)) : (execOp ev ⟨some 84, Op.call { callee := Callee.value (Operand.func 46), args := #[Operand.tmp 83, Operand.const (Value.int IntKind.i64 2000)], argTypes := #[64, 3] }, 3, "", #[], none⟩).run Tryd.prog z = .ok (.enter 46 #[.pointer (some ⟨r, 0, none⟩), .int .i64 2000]) z := enter_run _ (ef _) (by simp only [List.map_toArray, List.map_cons, List.map_nil, ec, ef, e83]) (fun _ => by rfl)
set_option maxRecDepth 100000 in
theorem xmb_s4 {Q : Exit → Act → World → Prop} (W : Nat → World → Prop) (r g nn : Nat) (bs : List Nat) (cs : List Value) (w0 : World) (y2 : Value) (H : xmbH Q W r g nn bs cs w0 y2) : (xmbC W r g nn bs cs w0 y2).Step Tryd.prog Q 4 ⟨some 84, Op.call { callee := Callee.value (Operand.func 46), args := #[Operand.tmp 83, Operand.const (Value.int IntKind.i64 2000)], argTypes := #[64, 3] }, 3, "", #[], none⟩ [3] := by
  refine Chn.link _ 0 rfl (fun q hq => by omega) (show 0 < 4 by decide) (Or.inl ⟨rfl, show 84 < 107 by decide⟩) (by decide) rfl ?_
  intro a w hn hB hW hd K hK
  have e83 : a.eval (.tmp 83) = .pointer (some ⟨r, 0, none⟩) := hd 3 (by decide)
  obtain ⟨h1, h2, h3⟩ := BW.at (m := 0) hW (by decide)
  refine wp_enterP (xmb_e4 r g nn _ w (fun _ => rfl) (fun _ => rfl) e83) (H.call0 w h1) ?_
  rintro e9 w9 ⟨k9, rfl, hp⟩
  exact Or.inl ⟨_, rfl, hK.out _ _ (BW.mk (by decide) hp (h2.trans k9 (fun _ _ e => Or.inl e)) (h3.keep k9 (fun e => H.rg e.symm))) (fun i u _ h => xmbR_keep r g nn bs w0.heap.size k9 (fun b e => Or.inl e) H.rb H.gb i u h) rfl⟩
set_option maxRecDepth 100000 in
theorem xmb_e5 (r g nn : Nat) (ev : Operand → Value) (z : World) (ec : ∀ c, ev (.const c) = c) (ef : ∀ f, ev (.func f) = .func (.func f) #[] #[]) (e82 : ev (.tmp 82) = .pointer (some ⟨r, 0, none⟩)) (e84 : ev (.tmp 84) = .int .i64 (nn : Int)) : (execOp ev ⟨some 85, Op.call { callee := Callee.value (Operand.func 45), args := #[Operand.tmp 82, Operand.tmp 84], argTypes := #[64, 3] }, 28, "", #[], none⟩).run Tryd.prog z = .ok (.enter 45 #[.pointer (some ⟨r, 0, none⟩), .int .i64 (nn : Int)]) z := enter_run _ (ef _) (by simp only [List.map_toArray, List.map_cons, List.map_nil, ec, ef, e82, e84]) (fun _ => by rfl)
set_option maxRecDepth 100000 in
theorem xmb_s5 {Q : Exit → Act → World → Prop} (W : Nat → World → Prop) (r g nn : Nat) (bs : List Nat) (cs : List Value) (w0 : World) (y2 : Value) (H : xmbH Q W r g nn bs cs w0 y2) : (xmbC W r g nn bs cs w0 y2).Step Tryd.prog Q 5 ⟨some 85, Op.call { callee := Callee.value (Operand.func 45), args := #[Operand.tmp 82, Operand.tmp 84], argTypes := #[64, 3] }, 28, "", #[], none⟩ [2, 4, 4] := by
  refine Chn.link _ 1 rfl (prevOf 4 0 (by decide) rfl) (show 1 < 4 by decide) (Or.inl ⟨rfl, show 85 < 107 by decide⟩) (by decide) rfl ?_
  intro a w hn hB hW hd K hK
  have e82 : a.eval (.tmp 82) = .pointer (some ⟨r, 0, none⟩) := hd 2 (by decide)
  have e84 : a.eval (.tmp 84) = .int .i64 (nn : Int) := hd 4 (by decide)
  obtain ⟨h1, h2, h3⟩ := BW.at (m := 1) hW (by decide)
  refine wp_enterP (xmb_e5 r g nn _ w (fun _ => rfl) (fun _ => rfl) e82 e84) (H.call1 w h1) ?_
  rintro e9 w9 ⟨k9, ⟨v, rfl, hv, hp⟩ | ⟨c, rfl, hp⟩⟩
  · exact Or.inl ⟨_, rfl, hK.out _ _ (BW.mk (by decide) hp (h2.trans k9 (fun _ _ e => Or.inl e)) (h3.keep k9 (fun e => H.rg e.symm))) (fun i u _ h => xmbR_keep r g nn bs w0.heap.size k9 (fun b e => Or.inl e) H.rb H.gb i u h) hv⟩
  · exact Or.inr ⟨_, rfl, hp a hB (h2.trans k9 (fun _ _ e => Or.inl e))⟩
set_option maxRecDepth 100000 in
theorem xmb_s6 {Q : Exit → Act → World → Prop} (W : Nat → World → Prop) (r g nn : Nat) (bs : List Nat) (cs : List Value) (w0 : World) (y2 : Value) (H : xmbH Q W r g nn bs cs w0 y2) : (xmbC W r g nn bs cs w0 y2).Step Tryd.prog Q 6 ⟨some 86, Op.call { callee := Callee.builtin Builtin.append, args := #[Operand.tmp 81, Operand.tmp 85], argTypes := #[28, 28] }, 28, "", #[], none⟩ [1, 5, 5] := by
  refine Chn.link _ 2 rfl (prevOf 5 1 (by decide) rfl) (show 2 < 4 by decide) (Or.inl ⟨rfl, show 86 < 107 by decide⟩) (by decide) rfl ?_
  intro a w hn hB hW hd K hK
  have e81 : a.eval (.tmp 81) = .slice none 0 0 := hd 1 (by decide)
  obtain ⟨p, m, c, hv, hr, hz⟩ : SomeB r g bs (a.eval (.tmp 85)) w := hd 5 (by decide)
  obtain ⟨h1, h2, h3⟩ := BW.at (m := 2) hW (by decide)
  refine wp_append_nil w (.tmp 81) (.tmp 85) rfl w0.heap.size e81 p m c bs hv hr H.len h2.size ?_
  intro v' w' ho hk
  exact hK.out v' w' (BW.app (H.wk _ _ _ (hk.mono (fun _ _ e => e.elim)) h1) (h2.trans hk (fun _ _ e => e.elim)) (h3.keep hk (fun e => e))) (fun i u _ h => xmbR_keep r g nn bs w0.heap.size hk (fun b e => e.elim) H.rb H.gb i u h) ho
set_option maxRecDepth 100000 in
theorem xmb_e7 (r g nn : Nat) (ev : Operand → Value) (z : World) (ec : ∀ c, ev (.const c) = c) (e5 : ev (.tmp 5) = .pointer (some ⟨g, 0, none⟩)) : (execOp ev ⟨some 87, Op.fieldAddr 40 (Operand.tmp 5) 12, 0, "", #[], none⟩).run Tryd.prog z = .ok (.value (.pointer (some ⟨g, 23, none⟩))) z := by
  go_simp
set_option maxRecDepth 100000 in
theorem xmb_s7 {Q : Exit → Act → World → Prop} (W : Nat → World → Prop) (r g nn : Nat) (bs : List Nat) (cs : List Value) (w0 : World) (y2 : Value) (H : xmbH Q W r g nn bs cs w0 y2) : (xmbC W r g nn bs cs w0 y2).Step Tryd.prog Q 7 ⟨some 87, Op.fieldAddr 40 (Operand.tmp 5) 12, 0, "", #[], none⟩ [0, 1, 2, 3, 4, 5, 6] := by
  refine Chn.pure _ rfl rfl (show 87 < 107 by decide) (by decide) rfl ?_
  intro a w m hn hB hW hdm hup hd K hK
  have e5 : a.eval (.tmp 5) = .pointer (some ⟨g, 0, none⟩) := hB.2.2.1
  exact run_value (xmb_e7 r g nn _ w (fun _ => rfl) e5) (hK.out _ w (Kp.refl _ _) rfl)
set_option maxRecDepth 100000 in
theorem xmb_e8 (r g nn : Nat) (ev : Operand → Value) (z : World) (ec : ∀ c, ev (.const c) = c) (e87 : ev (.tmp 87) = .pointer (some ⟨g, 23, none⟩)) (p : Option Addr) (n c : Nat) (e86 : ev (.tmp 86) = .slice p n c) {u : Value} (hu : z.cell? ⟨g, 23, none⟩ = some u) (hf : z.frozen? ⟨g, 23, none⟩ = false) : (execOp ev ⟨none, Op.store 28 (Operand.tmp 87) (Operand.tmp 86), 0, "", #[], none⟩).run Tryd.prog z = .ok .skip (z.setCell ⟨g, 23, none⟩ (.slice p n c)) := by
  go_simp
set_option maxRecDepth 100000 in
theorem xmb_s8 {Q : Exit → Act → World → Prop} (W : Nat → World → Prop) (r g nn : Nat) (bs : List Nat) (cs : List Value) (w0 : World) (y2 : Value) (H : xmbH Q W r g nn bs cs w0 y2) : (xmbC W r g nn bs cs w0 y2).Step Tryd.prog Q 8 ⟨none, Op.store 28 (Operand.tmp 87) (Operand.tmp 86), 0, "", #[], none⟩ [7, 6, 6, 0, 1, 2, 3, 4, 5, 6] := by
  refine Chn.link _ 3 rfl (prevOf 6 2 (by decide) rfl) (show 3 < 4 by decide) (Or.inr ⟨rfl, show 107 ≤ 115 by decide, fun _ _ => trivial⟩) (by decide) rfl ?_
  intro a w hn hB hW hd K hK
  have e87 : a.eval (.tmp 87) = .pointer (some ⟨g, 23, none⟩) := hd 7 (by decide)
  have ho : Ow w w0.heap.size (a.eval (.tmp 86)) bs := hd 6 (by decide)
  obtain ⟨h1, h2, h3⟩ := BW.app_out hW
  obtain ⟨q, cap, ev, _⟩ := own_fl ho
  have ks : Kp (fun b => b = g) w (w.setCell ⟨g, 23, none⟩ (.slice q bs.length cap)) := (by show Kp _ _ _; exact (Kp.refl (fun b => b = g) w).setCell (fun _ => rfl) _)
  refine run_skip rfl (xmb_e8 r g nn _ w (fun _ => rfl) e87 q _ cap ev (h3.cell H.cv) (h3.fz H.cl)) (fun v => hK.out v _ (BW.fin (v := .slice q bs.length cap) (H.wk _ _ _ ks h1) (h2.trans ks (fun _ _ e => Or.inr e)) ?_ (h3.set1' 23 _ H.cl)) (fun i u _ h => xmbR_keep r g nn bs w0.heap.size ks (fun b e => Or.inr e) H.rb H.gb i u h) trivial)
  rw [ev] at ho
  exact ownsRow_keep ho ks (fun c hc e => by have := (ownBlock_lt ho hc).1; have := H.gb; omega)
theorem xmb_steps {Q : Exit → Act → World → Prop} (W : Nat → World → Prop) (r g nn : Nat) (bs : List Nat) (cs : List Value) (w0 : World) (y2 : Value) (H : xmbH Q W r g nn bs cs w0 y2) : (xmbC W r g nn bs cs w0 y2).Steps Tryd.prog Q 0 xmbT := ⟨xmb_s0 W r g nn bs cs w0 y2 H, xmb_s1 W r g nn bs cs w0 y2 H, xmb_s2 W r g nn bs cs w0 y2 H, xmb_s3 W r g nn bs cs w0 y2 H, xmb_s4 W r g nn bs cs w0 y2 H, xmb_s5 W r g nn bs cs w0 y2 H, xmb_s6 W r g nn bs cs w0 y2 H, xmb_s7 W r g nn bs cs w0 y2 H, xmb_s8 W r g nn bs cs w0 y2 H, trivial⟩
/-- the region: the bytes stand in the struct, or it gives up -/
theorem xmb_region {ops : Array Oper} {rid : Nat} {Q : Exit → Act → World → Prop} {a : Act} {y : World} (W : Nat → World → Prop) (r g nn : Nat) (bs : List Nat) (cs : List Value) (y2 : Value) (hT : ops.toList.map (fun o => (bare o, deps o)) = xmbT) (hn : a.tmps.size = 107) (hB : xmbB r g y2 a)
    (H : xmbH Q W r g nn bs cs y.drew y2) (hp : W 0 y) (hl : Lv y g cs)
    (hend : ∀ q80 q81 q82 q83 q84 q85 q86 q87 w v, Kp (fun b => b = r ∨ b = g) y w → W 2 w → Ow w y.heap.size v bs → Lv w g (cs.set 23 v) → Q .normal ((((((((a.put (some 80) q80).put (some 81) q81).put (some 82) q82).put (some 83) q83).put (some 84) q84).put (some 85) q85).put (some 86) q86).put (some 87) q87) w) : (Code.region rid ops true).wp Tryd.prog Q a y := by
  have kd : Kp (fun b => b = r ∨ b = g) y y.drew := (Kp.refl _ _).drew
  have k0 : Kp (fun _ => False) y y.drew := (Kp.refl _ _).drew
  refine chain_region (xmbC W r g nn bs cs y.drew y2) (by kernel_rfl) hT hn hB (fun k v a hk _ h => xmbB_put r g y2 k v a hk h) (fun i j h1 h2 => xmbD_inj i h1 j h2) (fun i j p h1 h2 => posOf_inj _ i j p) (posOf_at [4, 5, 6, 8] 9 (by decide) (by decide)) ?_ (fun m w w' hk h => BW.grow (fun m w w' k h => H.wk m w w' (k.mono (fun _ _ e => e.elim)) h) hk h) (fun i v w w' hk h => xmbR_keep r g nn bs y.drew.heap.size hk (fun b e => e.elim) H.rb H.gb i v h) (xmb_steps W r g nn bs cs y.drew y2 H) ?_
  · exact BW.mk (by decide) (H.wk _ _ _ (k0.mono (fun _ _ e => e.elim)) hp) (Kp.refl _ _) (hl.keep k0 (fun e => e))
  · rintro a' w h1 h2 hfr hW _
    obtain ⟨h3, h4, v, h5, h6⟩ := BW.out hW
    rw [act_puts a' [80, 81, 82, 83, 84, 85, 86, 87] a (h1.trans hn.symm) (h2.2.2.2.trans hB.2.2.2.symm) (fun t ht => by
      rcases Nat.lt_or_ge t a'.tmps.size with hl | hl
      · exact hfr t (fun k hk e => ht (xmbD_mem k hk t e (Nat.lt_of_lt_of_eq hl h1)))
      · rw [eval_past a' t hl, eval_past a t (by have h9 : a.tmps.size = a'.tmps.size := hn.trans h1.symm; omega)])]
    exact hend (a'.eval (.tmp 80)) (a'.eval (.tmp 81)) (a'.eval (.tmp 82)) (a'.eval (.tmp 83)) (a'.eval (.tmp 84)) (a'.eval (.tmp 85)) (a'.eval (.tmp 86)) (a'.eval (.tmp 87)) w v (kd.trans h4 (fun _ _ e => e)) h3 h5 h6

end Go.Proofs.YtoepemgflbmlcaaDoor
