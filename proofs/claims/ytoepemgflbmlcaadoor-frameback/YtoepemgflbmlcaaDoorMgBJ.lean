/- Texts of this proof, joined: Oa1, Oa2. -/
import Derived.Test.YtoepemgflbmlcaaDoorMgAQ
import Derived.Test.YtoepemgflbmlcaaDoorMgAV
/- x.f = append(x.f, call()) of votes, through a struct in a block of its own. -/
namespace Go.Proofs.YtoepemgflbmlcaaDoor
set_option linter.unusedVariables false
set_option linter.unusedSimpArgs false
open Go.RowKit Go.Deep

/-- votes of one's own -/
abbrev OwV (w : World) (base : Nat) (v : Value) (l : List (Vo × Value)) : Prop := w.ownsRow base 72 14 v l.length (vflat l)
/-- a vote's cells, with its nodes -/
abbrev vcl (x : Vo) (q : Option Addr) (cap : Nat) : List Value := vcell x (.slice q x.nodes.length cap)
theorem wp_append_vote {o : Oper} {a : Act} {K : Act → World → Prop} {Q : Exit → Act → World → Prop} (w : World) (s y : Operand)
    (ho : o.op = .call { callee := .builtin .append, args := #[s, y], argTypes := #[38, 38] })
    (base : Nat) (v : Value) (l : List (Vo × Value)) (hs : a.eval s = v) (hown : OwV w base v l)
    (b : Nat) (x : Vo) (q : Option Addr) (cap : Nat) (hx : a.eval y = .slice (some ⟨b, 0, none⟩) 1 1) (hr : ∀ j u, (vcl x q cap)[j]? = some u → w.cell? ⟨b, j, none⟩ = some u)
    (hlen : l.length ≤ 100000) (hbase : base ≤ w.heap.size)
    (h : ∀ v' w', OwV w' base v' (l ++ [(x, .slice q x.nodes.length cap)]) → Kp (fun b => v.ownBlock = some b) w w' → (v'.ownBlock = v.ownBlock ∨ v'.ownBlock = some w.heap.size) → K (a.put o.dst v') w') : Oper.wp Tryd.prog o a w K Q := by
  obtain ⟨i, z, hi1, hi2, hi3, hi4, hi5⟩ := infoVote
  have hfl : Fl w (fun _ => True) (some ⟨b, 0, none⟩) (vcl x q cap) := fun j u hj => ⟨b, 0, rfl, trivial, by rw [Nat.zero_add]; exact hr j u hj⟩
  obtain ⟨v', w', hrun, h2, h3, h4⟩ := run_append_own_src (P := Tryd.prog) w base 38 38 o.type 72 i z 14 136 Tryd.underlying38 hi1 hi2 hi3 hi4 hi5 (by decide) v l.length (vflat l) hown (.slice (some ⟨b, 0, none⟩) 1 1) 1 (vcl x q cap) (hfl.src Tryd.underlying38 (by decide) rfl (fun u hu => (Array.all_eq_true_iff_forall_mem.1 (vcell_one x (nv := .slice q x.nodes.length cap) rfl)) u (by simpa using hu))) (by unfold maxLen; omega) (by omega) hbase
  unfold Oper.wp execOp
  simp only [ho, resolve, invoke, builtin, Sem.run_bind, Sem.run_pure, Result.andThen_ok, List.map_toArray, List.map_cons, List.map_nil, hs, hx, hrun]
  refine h v' w' ?_ (grownBy_kp h3) h4
  unfold OwV
  rw [List.length_append, vflat_append]
  have e : vflat [(x, Value.slice q x.nodes.length cap)] = vcl x q cap := by show vcell _ _ ++ [] = _; rw [List.append_nil]
  rw [e]
  exact h2
/-- one more vote behind those of l: its nodes lie in new blocks, apart from the row -/
def More (B0 base : Nat) (vN : Value) (l : List (Vo × Value)) (Nz : Vo → Prop) (v : Value) (w : World) : Prop := ∃ (x : Vo) (q : Option Addr) (cap h : Nat), Nz x ∧ OwV w base v (l ++ [(x, .slice q x.nodes.length cap)]) ∧ Fl w (fun b => B0 ≤ b ∧ b < h) q (x.nodes.map encI) ∧ B0 ≤ h ∧ h ≤ w.heap.size ∧ (v.ownBlock = vN.ownBlock ∨ ∃ j, v.ownBlock = some j ∧ h ≤ j)
def GotV (B0 : Nat) (Nz : Vo → Prop) (v : Value) (w : World) : Prop := ∃ (x : Vo) (q : Option Addr) (cap h : Nat), Nz x ∧ v = .agg (vcl x q cap).toArray ∧ Fl w (fun b => B0 ≤ b ∧ b < h) q (x.nodes.map encI) ∧ B0 ≤ h ∧ h ≤ w.heap.size
def OneV (B0 : Nat) (Nz : Vo → Prop) (v : Value) (w : World) : Prop := ∃ (x : Vo) (q : Option Addr) (cap h b : Nat), Nz x ∧ v = .slice (some ⟨b, 0, none⟩) 1 1 ∧ h ≤ b ∧ (∀ j u, (vcl x q cap)[j]? = some u → w.cell? ⟨b, j, none⟩ = some u) ∧ Fl w (fun b => B0 ≤ b ∧ b < h) q (x.nodes.map encI) ∧ B0 ≤ h ∧ h ≤ w.heap.size
theorem GotV.keep {S : Nat → Prop} {B0 : Nat} {Nz : Vo → Prop} {v : Value} {w w' : World} (h : GotV B0 Nz v w) (k : Kp S w w') (hS : ∀ b, B0 ≤ b → ¬ S b) : GotV B0 Nz v w' := by
  obtain ⟨x, q, cap, hh, h1, h2, h3, h4, h5⟩ := h
  exact ⟨x, q, cap, hh, h1, h2, h3.keep k (fun b hb => hS b hb.1), h4, Nat.le_trans h5 k.size⟩
theorem OneV.keep {S : Nat → Prop} {B0 : Nat} {Nz : Vo → Prop} {v : Value} {w w' : World} (h : OneV B0 Nz v w) (k : Kp S w w') (hS : ∀ b, B0 ≤ b → ¬ S b) : OneV B0 Nz v w' := by
  obtain ⟨x, q, cap, hh, b, h1, h2, h3, h4, h5, h6, h7⟩ := h
  exact ⟨x, q, cap, hh, b, h1, h2, h3, fun j u hj => k.cellv (h4 j u hj) (hS b (Nat.le_trans h6 h3)), h5.keep k (fun b hb => hS b hb.1), h6, Nat.le_trans h7 k.size⟩
theorem More.keep {S : Nat → Prop} {B0 base : Nat} {vN : Value} {l : List (Vo × Value)} {Nz : Vo → Prop} {v : Value} {w w' : World} (h : More B0 base vN l Nz v w) (k : Kp S w w') (hS : ∀ b, base ≤ b → ¬ S b) (hB : base ≤ B0) : More B0 base vN l Nz v w' := by
  obtain ⟨x, q, cap, hh, h1, h2, h3, h4, h5, h6⟩ := h
  exact ⟨x, q, cap, hh, h1, ownsRow_keep h2 k (fun b hb => hS b (ownBlock_lt h2 hb).1), h3.keep k (fun b hb => hS b (Nat.le_trans hB hb.1)), h4, Nat.le_trans h5 k.size, h6⟩
/-- behind so many links: the call, the append, the store -/
def VW (Pre Post : World → Prop) (S : Nat → Prop) (g base f : Nat) (cs : List Value) (vN : Value) (l : List (Vo × Value)) (Nz : Vo → Prop) (w0 : World) : Nat → World → Prop
  | 0, w => Pre w ∧ Kp S w0 w ∧ Lv w g cs ∧ OwV w base vN l
  | 1, w => Post w ∧ Kp S w0 w ∧ Lv w g cs ∧ OwV w base vN l
  | 2, w => Post w ∧ Kp S w0 w ∧ Lv w g cs
  | _, w => Post w ∧ Kp S w0 w ∧ ∃ v, More w0.heap.size base vN l Nz v w ∧ Lv w g (cs.set f v)
theorem VW.grow {Pre Post : World → Prop} {S : Nat → Prop} {g base f : Nat} {cs : List Value} {vN : Value} {l : List (Vo × Value)} {Nz : Vo → Prop} {w0 : World} {m : Nat} {w w' : World} (hPre : ∀ w w', Kp (fun _ => False) w w' → Pre w → Pre w') (hPost : ∀ w w', Kp (fun _ => False) w w' → Post w → Post w') (hB : base ≤ w0.heap.size) (hk : Kp (fun _ => False) w w') (h : VW Pre Post S g base f cs vN l Nz w0 m w) : VW Pre Post S g base f cs vN l Nz w0 m w' := by
  have t : ∀ {w0}, Kp S w0 w → Kp S w0 w' := fun k => k.trans hk (fun _ _ e => e.elim)
  match m, h with
  | 0, ⟨h1, h2, h3, h4⟩ => exact ⟨hPre _ _ hk h1, t h2, h3.keep hk (fun e => e), ownsRow_keep h4 hk (fun _ _ e => e)⟩
  | 1, ⟨h1, h2, h3, h4⟩ => exact ⟨hPost _ _ hk h1, t h2, h3.keep hk (fun e => e), ownsRow_keep h4 hk (fun _ _ e => e)⟩
  | 2, ⟨h1, h2, h3⟩ => exact ⟨hPost _ _ hk h1, t h2, h3.keep hk (fun e => e)⟩
  | n + 3, ⟨h1, h2, v, h3, h4⟩ => exact ⟨hPost _ _ hk h1, t h2, v, h3.keep hk (fun _ _ e => e) hB, h4.keep hk (fun e => e)⟩
end Go.Proofs.YtoepemgflbmlcaaDoor

/- msgReader.msg: its region of votes (laid by scripts/mkoa2.py). -/
namespace Go.Proofs.YtoepemgflbmlcaaDoor
set_option linter.unusedVariables false
set_option linter.unusedSimpArgs false
open Go.RowKit Go.Deep

def rmaV (r g base B0 : Nat) (vN : Value) (l : List (Vo × Value)) (Nz : Vo → Prop) : Nat → Value
  | 0 => .pointer (some ⟨g, 22, none⟩)
  | 1 => vN
  | 2 => .pointer (some ⟨r, 0, none⟩)
  | 6 => .pointer (some ⟨g, 22, none⟩)
  | _ => undef
def rmaR (r g base B0 : Nat) (vN : Value) (l : List (Vo × Value)) (Nz : Vo → Prop) (i : Nat) (v : Value) (w : World) : Prop := match i with
  | 3 => GotV B0 Nz v w
  | 4 => OneV B0 Nz v w
  | 5 => More B0 base vN l Nz v w
  | 7 => True
  | i => v = rmaV r g base B0 vN l Nz i
theorem rmaR_keep {S : Nat → Prop} (r g base B0 : Nat) (vN : Value) (l : List (Vo × Value)) (Nz : Vo → Prop) {w w' : World} (k : Kp S w w') (hB : base ≤ B0) (hS : ∀ b, B0 ≤ b → ¬ S b) (i : Nat) (v : Value) (h2 : i ≠ 5 ∨ ∀ b, base ≤ b → ¬ S b) (h : rmaR r g base B0 vN l Nz i v w) : rmaR r g base B0 vN l Nz i v w' := by
  unfold rmaR at h ⊢
  split at h
  · exact GotV.keep h k hS
  · exact OneV.keep h k hS
  · rcases h2 with h2 | h2
    · exact absurd rfl h2
    · exact More.keep h k h2 hB
  · trivial
  · exact h
def rmaD (k : Nat) : Nat := [76, 77, 78, 79, 80, 81, 82, 101].getD k 0
def rmaB (r g : Nat) (y2 : Value) (y73 : Value) (y74 : Value) (a : Act) : Prop := a.eval (.tmp 0) = .pointer (some ⟨r, 0, none⟩) ∧ a.eval (.tmp 2) = y2 ∧ a.eval (.tmp 3) = .pointer (some ⟨g, 0, none⟩) ∧ a.eval (.tmp 73) = y73 ∧ a.eval (.tmp 74) = y74 ∧ a.defers = []
theorem rmaD_ne : ∀ k, k < 8 → rmaD k ≠ 0 ∧ rmaD k ≠ 2 ∧ rmaD k ≠ 3 ∧ rmaD k ≠ 73 ∧ rmaD k ≠ 74 := by decide
theorem rmaB_put (r g : Nat) (y2 : Value) (y73 : Value) (y74 : Value) (k : Nat) (v : Value) (a : Act) (hk : k < 8) (h : rmaB r g y2 y73 y74 a) : rmaB r g y2 y73 y74 (a.put (some (rmaD k)) v) := by
  have hne := rmaD_ne k hk
  refine ⟨?_, ?_, ?_, ?_, ?_, h.2.2.2.2.2⟩
  · rw [← h.1]
    show (a.tmps.setIfInBounds (rmaD k) v).getD 0 undef = a.tmps.getD 0 undef
    simp [Array.getElem?_setIfInBounds_ne (hne.1)]
  · rw [← h.2.1]
    show (a.tmps.setIfInBounds (rmaD k) v).getD 2 undef = a.tmps.getD 2 undef
    simp [Array.getElem?_setIfInBounds_ne (hne.2.1)]
  · rw [← h.2.2.1]
    show (a.tmps.setIfInBounds (rmaD k) v).getD 3 undef = a.tmps.getD 3 undef
    simp [Array.getElem?_setIfInBounds_ne (hne.2.2.1)]
  · rw [← h.2.2.2.1]
    show (a.tmps.setIfInBounds (rmaD k) v).getD 73 undef = a.tmps.getD 73 undef
    simp [Array.getElem?_setIfInBounds_ne (hne.2.2.2.1)]
  · rw [← h.2.2.2.2.1]
    show (a.tmps.setIfInBounds (rmaD k) v).getD 74 undef = a.tmps.getD 74 undef
    simp [Array.getElem?_setIfInBounds_ne (hne.2.2.2.2)]
theorem rmaD_inj : ∀ i, i < 8 → ∀ j, j < 8 → rmaD i = rmaD j → i = j := by decide
def rmaT : List (Oper × List Nat) := [(⟨some 76, Op.fieldAddr 40 (Operand.tmp 3) 11, 0, "", #[], none⟩, []), (⟨some 77, Op.load 38 (Operand.tmp 76), 38, "", #[], none⟩, [0]), (⟨some 78, Op.move (Operand.tmp 0), 95, "", #[], none⟩, []), (⟨some 79, Op.call { callee := Callee.value (Operand.func 63), args := #[Operand.tmp 78], argTypes := #[95] }, 72, "", #[], none⟩, [2]), (⟨some 80, Op.buildSlice 38 1 #[(0, Operand.tmp 79)], 38, "", #[], none⟩, [3]), (⟨some 81, Op.call { callee := Callee.builtin Builtin.append, args := #[Operand.tmp 77, Operand.tmp 80], argTypes := #[38, 38] }, 38, "", #[], none⟩, [1, 4, 3]), (⟨some 82, Op.fieldAddr 40 (Operand.tmp 3) 11, 0, "", #[], none⟩, [0, 1, 2, 3, 4, 5]), (⟨none, Op.store 38 (Operand.tmp 82) (Operand.tmp 81), 0, "", #[], none⟩, [6, 5, 5, 0, 1, 2, 3, 4, 5])]
def rmaC (Pre Post : World → Prop) (r g base : Nat) (vN : Value) (l : List (Vo × Value)) (Nz : Vo → Prop) (cs : List Value) (w0 : World) (y2 : Value) (y73 : Value) (y74 : Value) : Chn := { n := 94, B := rmaB r g y2 y73 y74, R := rmaR r g base w0.heap.size vN l Nz, D := rmaD, pos := posOf [3, 5, 7], N := 3, W := VW Pre Post (fun b => b = r ∨ b = g ∨ vN.ownBlock = some b) g base 22 cs vN l Nz w0, T := rmaT }
structure rmaH (Q : Exit → Act → World → Prop) (Pre Post : World → Prop) (r g base : Nat) (vN : Value) (l : List (Vo × Value)) (Nz : Vo → Prop) (cs : List Value) (w0 : World) (y2 : Value) (y73 : Value) (y74 : Value) : Prop where
  pre : ∀ w w', Kp (fun _ => False) w w' → Pre w → Pre w'
  post : ∀ w w', Kp (fun b => b = g ∨ vN.ownBlock = some b) w w' → Post w → Post w'
  call : ∀ w, Pre w → w0.heap.size ≤ w.heap.size → Calls Tryd.prog 63 #[.pointer (some ⟨r, 0, none⟩)] w (fun e w' => Kp (fun b => b = r) w w' ∧ ((∃ x q cap, Nz x ∧ e = .returned (.agg (vcl x q cap).toArray) ∧ Fl w' (fun b => w.heap.size ≤ b ∧ b < w'.heap.size) q (x.nodes.map encI) ∧ Post w') ∨ ∃ c, e = .panicked c ∧ ∀ a, rmaB r g y2 y73 y74 a → Kp (fun b => b = r ∨ b = g ∨ vN.ownBlock = some b) w0 w' → Q (.panic c) a w'))
  rb : r < base
  gb : g < base
  rg : r ≠ g
  len : l.length ≤ 100000
  b0 : base ≤ w0.heap.size
  nb : ∀ b, vN.ownBlock = some b → b < w0.heap.size
  cl : 22 < cs.length
  cv : cs[22]? = some vN

theorem rmaD_mem : ∀ k, k < 8 → ∀ t, rmaD k = t → t < 94 → t ∈ [76, 77, 78, 79, 80, 81, 82] := by
  intro k hk t e ht
  subst e
  revert ht
  revert k
  decide
set_option maxRecDepth 100000 in
theorem rma_e0 (r g : Nat) (vN : Value) (ev : Operand → Value) (z : World) (ec : ∀ c, ev (.const c) = c) (e3 : ev (.tmp 3) = .pointer (some ⟨g, 0, none⟩)) : (execOp ev ⟨some 76, Op.fieldAddr 40 (Operand.tmp 3) 11, 0, "", #[], none⟩).run Tryd.prog z = .ok (.value (.pointer (some ⟨g, 22, none⟩))) z := by
  go_simp
set_option maxRecDepth 100000 in
theorem rma_s0 {Q : Exit → Act → World → Prop} (Pre Post : World → Prop) (r g base : Nat) (vN : Value) (l : List (Vo × Value)) (Nz : Vo → Prop) (cs : List Value) (w0 : World) (y2 : Value) (y73 : Value) (y74 : Value) (H : rmaH Q Pre Post r g base vN l Nz cs w0 y2 y73 y74) : (rmaC Pre Post r g base vN l Nz cs w0 y2 y73 y74).Step Tryd.prog Q 0 ⟨some 76, Op.fieldAddr 40 (Operand.tmp 3) 11, 0, "", #[], none⟩ [] := by
  refine Chn.pure _ rfl rfl (show 76 < 94 by decide) (by decide) rfl ?_
  intro a w m hn hB hW hdm hup hd K hK
  have e3 : a.eval (.tmp 3) = .pointer (some ⟨g, 0, none⟩) := hB.2.2.1
  exact run_value (rma_e0 r g vN _ w (fun _ => rfl) e3) (hK.out _ w (Kp.refl _ _) rfl)
set_option maxRecDepth 100000 in
theorem rma_e1 (r g : Nat) (vN : Value) (ev : Operand → Value) (z : World) (ec : ∀ c, ev (.const c) = c) (e76 : ev (.tmp 76) = .pointer (some ⟨g, 22, none⟩)) (hc : z.cell? ⟨g, 22, none⟩ = some vN) : (execOp ev ⟨some 77, Op.load 38 (Operand.tmp 76), 38, "", #[], none⟩).run Tryd.prog z = .ok (.value vN) z := by
  go_simp
set_option maxRecDepth 100000 in
theorem rma_s1 {Q : Exit → Act → World → Prop} (Pre Post : World → Prop) (r g base : Nat) (vN : Value) (l : List (Vo × Value)) (Nz : Vo → Prop) (cs : List Value) (w0 : World) (y2 : Value) (y73 : Value) (y74 : Value) (H : rmaH Q Pre Post r g base vN l Nz cs w0 y2 y73 y74) : (rmaC Pre Post r g base vN l Nz cs w0 y2 y73 y74).Step Tryd.prog Q 1 ⟨some 77, Op.load 38 (Operand.tmp 76), 38, "", #[], none⟩ [0] := by
  refine Chn.pure _ rfl rfl (show 77 < 94 by decide) (by decide) rfl ?_
  intro a w m hn hB hW hdm hup hd K hK
  have e76 : a.eval (.tmp 76) = .pointer (some ⟨g, 22, none⟩) := hd 0 (by decide)
  have hm : m ≤ 1 := hup 5 _ rfl (by decide) 1 rfl
  have hl : Lv w g cs := by
    match m, hm, hW with
    | 0, _, h => exact h.2.2.1
    | 1, _, h => exact h.2.2.1
  exact run_value (rma_e1 r g vN _ w (fun _ => rfl) e76 (hl.cell H.cv)) (hK.out _ w (Kp.refl _ _) rfl)
set_option maxRecDepth 100000 in
theorem rma_e2 (r g : Nat) (vN : Value) (ev : Operand → Value) (z : World) (ec : ∀ c, ev (.const c) = c) (e0 : ev (.tmp 0) = .pointer (some ⟨r, 0, none⟩)) : (execOp ev ⟨some 78, Op.move (Operand.tmp 0), 95, "", #[], none⟩).run Tryd.prog z = .ok (.value (.pointer (some ⟨r, 0, none⟩))) z := by
  go_simp
set_option maxRecDepth 100000 in
theorem rma_s2 {Q : Exit → Act → World → Prop} (Pre Post : World → Prop) (r g base : Nat) (vN : Value) (l : List (Vo × Value)) (Nz : Vo → Prop) (cs : List Value) (w0 : World) (y2 : Value) (y73 : Value) (y74 : Value) (H : rmaH Q Pre Post r g base vN l Nz cs w0 y2 y73 y74) : (rmaC Pre Post r g base vN l Nz cs w0 y2 y73 y74).Step Tryd.prog Q 2 ⟨some 78, Op.move (Operand.tmp 0), 95, "", #[], none⟩ [] := by
  refine Chn.pure _ rfl rfl (show 78 < 94 by decide) (by decide) rfl ?_
  intro a w m hn hB hW hdm hup hd K hK
  have e0 : a.eval (.tmp 0) = .pointer (some ⟨r, 0, none⟩) := hB.1
  exact run_value (rma_e2 r g vN _ w (fun _ => rfl) e0) (hK.out _ w (Kp.refl _ _) rfl)
set_option maxRecDepth 100000 in
theorem rma_e3 (r g : Nat) (vN : Value) (ev : Operand → Value) (z : World) (ec : ∀ c, ev (.const c) = c) (ef : ∀ f, ev (.func f) = .func (.func f) #[] #[]) (e78 : ev (.tmp 78) = .pointer (some ⟨r, 0, none⟩)) : (execOp ev ⟨some 79, Op.call { callee := Callee.value (Operand.func 63), args := #[Operand.tmp 78], argTypes := #[95] }, 72, "", #[], none⟩).run Tryd.prog z = .ok (.enter 63 #[.pointer (some ⟨r, 0, none⟩)]) z := enter_run _ (ef _) (by simp only [List.map_toArray, List.map_cons, List.map_nil, ec, ef, e78]) (fun _ => by rfl)
set_option maxRecDepth 100000 in
theorem rma_s3 {Q : Exit → Act → World → Prop} (Pre Post : World → Prop) (r g base : Nat) (vN : Value) (l : List (Vo × Value)) (Nz : Vo → Prop) (cs : List Value) (w0 : World) (y2 : Value) (y73 : Value) (y74 : Value) (H : rmaH Q Pre Post r g base vN l Nz cs w0 y2 y73 y74) : (rmaC Pre Post r g base vN l Nz cs w0 y2 y73 y74).Step Tryd.prog Q 3 ⟨some 79, Op.call { callee := Callee.value (Operand.func 63), args := #[Operand.tmp 78], argTypes := #[95] }, 72, "", #[], none⟩ [2] := by
  refine Chn.link _ 0 rfl (fun q hq => by omega) (show 0 < 3 by decide) (Or.inl ⟨rfl, show 79 < 94 by decide⟩) (by decide) rfl ?_
  intro a w hn hB hW hd K hK
  have e78 : a.eval (.tmp 78) = .pointer (some ⟨r, 0, none⟩) := hd 2 (by decide)
  obtain ⟨h1, h2, h3, h4⟩ := hW
  refine wp_enterP (rma_e3 r g vN _ w (fun _ => rfl) (fun _ => rfl) e78) (H.call w h1 h2.size) ?_
  rintro e9 w9 ⟨k9, ⟨x, q, cap, hx, rfl, hf, hp⟩ | ⟨c, rfl, hp⟩⟩
  · refine Or.inl ⟨_, rfl, hK.out _ _ ⟨hp, h2.trans k9 (fun _ _ e => Or.inl e), h3.keep k9 (fun e => H.rg e.symm), ownsRow_keep h4 k9 (fun b hb e => by have := (ownBlock_lt h4 hb).1; have := H.rb; omega)⟩ (fun i u _ h => rmaR_keep r g base w0.heap.size vN l Nz k9 H.b0 (fun b hb e => by have := H.rb; have := H.b0; omega) i u (Or.inr (fun b hb e => by have := H.rb; omega)) h) ⟨x, q, cap, w9.heap.size, hx, rfl, hf.mono (fun b hb => ⟨Nat.le_trans h2.size hb.1, hb.2⟩), Nat.le_trans h2.size k9.size, Nat.le_refl _⟩⟩
  · exact Or.inr ⟨_, rfl, hp a hB (h2.trans k9 (fun _ _ e => Or.inl e))⟩
set_option maxRecDepth 100000 in
theorem rma_e4 (r g : Nat) (vN : Value) (ev : Operand → Value) (z : World) (ec : ∀ c, ev (.const c) = c) (x : Vo) (q : Option Addr) (cap : Nat) (e79 : ev (.tmp 79) = .agg (vcl x q cap).toArray) : (execOp ev ⟨some 80, Op.buildSlice 38 1 #[(0, Operand.tmp 79)], 38, "", #[], none⟩).run Tryd.prog z = .ok (.value (.slice (some ⟨z.heap.size, 0, none⟩) 1 1)) (z.alloc (.cells (vcl x q cap).toArray 72)) := by
  go_simp
set_option maxRecDepth 100000 in
theorem rma_s4 {Q : Exit → Act → World → Prop} (Pre Post : World → Prop) (r g base : Nat) (vN : Value) (l : List (Vo × Value)) (Nz : Vo → Prop) (cs : List Value) (w0 : World) (y2 : Value) (y73 : Value) (y74 : Value) (H : rmaH Q Pre Post r g base vN l Nz cs w0 y2 y73 y74) : (rmaC Pre Post r g base vN l Nz cs w0 y2 y73 y74).Step Tryd.prog Q 4 ⟨some 80, Op.buildSlice 38 1 #[(0, Operand.tmp 79)], 38, "", #[], none⟩ [3] := by
  refine Chn.pure _ rfl rfl (show 80 < 94 by decide) (by decide) rfl ?_
  intro a w m hn hB hW hdm hup hd K hK
  obtain ⟨x, q, cap, h, hx, ex, hf, hb0, hh⟩ : GotV w0.heap.size Nz (a.eval (.tmp 79)) w := hd 3 (by decide)
  have ka : Kp (fun _ => False) w (w.alloc (.cells (vcl x q cap).toArray 72)) := (Kp.refl _ _).alloc _
  refine run_value (rma_e4 r g vN _ w (fun _ => rfl) x q cap ex) (hK.out _ _ ka ⟨x, q, cap, h, w.heap.size, hx, rfl, hh, fun j u hj => ?_, hf.keep ka (fun _ _ e => e), hb0, Nat.le_trans hh ka.size⟩)
  exact (Lv.new w (vcl x q cap).toArray 72).cell (by simpa using hj)
set_option maxRecDepth 100000 in
theorem rma_s5 {Q : Exit → Act → World → Prop} (Pre Post : World → Prop) (r g base : Nat) (vN : Value) (l : List (Vo × Value)) (Nz : Vo → Prop) (cs : List Value) (w0 : World) (y2 : Value) (y73 : Value) (y74 : Value) (H : rmaH Q Pre Post r g base vN l Nz cs w0 y2 y73 y74) : (rmaC Pre Post r g base vN l Nz cs w0 y2 y73 y74).Step Tryd.prog Q 5 ⟨some 81, Op.call { callee := Callee.builtin Builtin.append, args := #[Operand.tmp 77, Operand.tmp 80], argTypes := #[38, 38] }, 38, "", #[], none⟩ [1, 4, 3] := by
  refine Chn.link _ 1 rfl (prevOf 3 0 (by decide) rfl) (show 1 < 3 by decide) (Or.inl ⟨rfl, show 81 < 94 by decide⟩) (by decide) rfl ?_
  intro a w hn hB hW hd K hK
  have e77 : a.eval (.tmp 77) = vN := hd 1 (by decide)
  obtain ⟨x, q, cap, h, b, hx, ex, hb1, hb2, hf, hb0, hh⟩ : OneV w0.heap.size Nz (a.eval (.tmp 80)) w := hd 4 (by decide)
  obtain ⟨h1, h2, h3, h4⟩ := hW
  refine wp_append_vote w (.tmp 77) (.tmp 80) rfl base vN l e77 h4 b x q cap ex hb2 H.len (Nat.le_trans H.b0 h2.size) ?_
  intro v' w' ho hk hbl
  have hNb : ∀ c, w0.heap.size ≤ c → vN.ownBlock ≠ some c := fun c hc e => by have := H.nb c e; omega
  refine hK.out v' w' ⟨H.post _ _ (hk.mono (fun c _ e => Or.inr e)) h1, h2.trans hk (fun c _ e => Or.inr (Or.inr e)), h3.keep hk (fun e => by have := (ownBlock_lt h4 e).1; have := H.gb; omega)⟩ (fun i u hi hR => rmaR_keep r g base w0.heap.size vN l Nz hk H.b0 (fun c hc hS => absurd hS (fun e => hNb c hc e)) i u (Or.inl hi) hR) ⟨x, q, cap, h, hx, ho, hf.keep hk (fun c hc e => hNb c hc.1 e), hb0, Nat.le_trans hh hk.size, ?_⟩
  rcases hbl with e | e
  · exact Or.inl e
  · exact Or.inr ⟨_, e, hh⟩
set_option maxRecDepth 100000 in
theorem rma_e6 (r g : Nat) (vN : Value) (ev : Operand → Value) (z : World) (ec : ∀ c, ev (.const c) = c) (e3 : ev (.tmp 3) = .pointer (some ⟨g, 0, none⟩)) : (execOp ev ⟨some 82, Op.fieldAddr 40 (Operand.tmp 3) 11, 0, "", #[], none⟩).run Tryd.prog z = .ok (.value (.pointer (some ⟨g, 22, none⟩))) z := by
  go_simp
set_option maxRecDepth 100000 in
theorem rma_s6 {Q : Exit → Act → World → Prop} (Pre Post : World → Prop) (r g base : Nat) (vN : Value) (l : List (Vo × Value)) (Nz : Vo → Prop) (cs : List Value) (w0 : World) (y2 : Value) (y73 : Value) (y74 : Value) (H : rmaH Q Pre Post r g base vN l Nz cs w0 y2 y73 y74) : (rmaC Pre Post r g base vN l Nz cs w0 y2 y73 y74).Step Tryd.prog Q 6 ⟨some 82, Op.fieldAddr 40 (Operand.tmp 3) 11, 0, "", #[], none⟩ [0, 1, 2, 3, 4, 5] := by
  refine Chn.pure _ rfl rfl (show 82 < 94 by decide) (by decide) rfl ?_
  intro a w m hn hB hW hdm hup hd K hK
  have e3 : a.eval (.tmp 3) = .pointer (some ⟨g, 0, none⟩) := hB.2.2.1
  exact run_value (rma_e6 r g vN _ w (fun _ => rfl) e3) (hK.out _ w (Kp.refl _ _) rfl)
set_option maxRecDepth 100000 in
theorem rma_e7 (r g : Nat) (vN : Value) (ev : Operand → Value) (z : World) (ec : ∀ c, ev (.const c) = c) (e82 : ev (.tmp 82) = .pointer (some ⟨g, 22, none⟩)) (p : Option Addr) (n c : Nat) (e81 : ev (.tmp 81) = .slice p n c) {u : Value} (hu : z.cell? ⟨g, 22, none⟩ = some u) (hf : z.frozen? ⟨g, 22, none⟩ = false) : (execOp ev ⟨none, Op.store 38 (Operand.tmp 82) (Operand.tmp 81), 0, "", #[], none⟩).run Tryd.prog z = .ok .skip (z.setCell ⟨g, 22, none⟩ (.slice p n c)) := by
  go_simp
set_option maxRecDepth 100000 in
theorem rma_s7 {Q : Exit → Act → World → Prop} (Pre Post : World → Prop) (r g base : Nat) (vN : Value) (l : List (Vo × Value)) (Nz : Vo → Prop) (cs : List Value) (w0 : World) (y2 : Value) (y73 : Value) (y74 : Value) (H : rmaH Q Pre Post r g base vN l Nz cs w0 y2 y73 y74) : (rmaC Pre Post r g base vN l Nz cs w0 y2 y73 y74).Step Tryd.prog Q 7 ⟨none, Op.store 38 (Operand.tmp 82) (Operand.tmp 81), 0, "", #[], none⟩ [6, 5, 5, 0, 1, 2, 3, 4, 5] := by
  refine Chn.link _ 2 rfl (prevOf 5 1 (by decide) rfl) (show 2 < 3 by decide) (Or.inr ⟨rfl, show 94 ≤ 101 by decide, fun _ _ => trivial⟩) (by decide) rfl ?_
  intro a w hn hB hW hd K hK
  have e82 : a.eval (.tmp 82) = .pointer (some ⟨g, 22, none⟩) := hd 6 (by decide)
  have hM : More w0.heap.size base vN l Nz (a.eval (.tmp 81)) w := hd 5 (by decide)
  obtain ⟨x, q, cap, h, hx, ho, _⟩ := id hM
  obtain ⟨h1, h2, h3⟩ := hW
  obtain ⟨qr, cr, ev, _⟩ := own_fl ho
  have ks : Kp (fun b => b = g) w (w.setCell ⟨g, 22, none⟩ (.slice qr (l ++ [(x, Value.slice q x.nodes.length cap)]).length cr)) := (by show Kp _ _ _; exact (Kp.refl (fun b => b = g) w).setCell (fun _ => rfl) _)
  refine run_skip rfl (rma_e7 r g vN _ w (fun _ => rfl) e82 qr _ cr ev (h3.cell H.cv) (h3.fz H.cl)) (fun v => hK.out v _ ⟨H.post _ _ (ks.mono (fun _ _ e => Or.inl e)) h1, h2.trans ks (fun _ _ e => Or.inr (Or.inl e)), _, ?_, h3.set1' 22 _ H.cl⟩ (fun i u hi h => rmaR_keep r g base w0.heap.size vN l Nz ks H.b0 (fun c hc e => by have := H.gb; have := H.b0; omega) i u (Or.inr (fun c hc e => by have := H.gb; omega)) h) trivial)
  rw [ev] at hM
  exact hM.keep ks (fun c hc e => by have := H.gb; omega) H.b0
theorem rma_steps {Q : Exit → Act → World → Prop} (Pre Post : World → Prop) (r g base : Nat) (vN : Value) (l : List (Vo × Value)) (Nz : Vo → Prop) (cs : List Value) (w0 : World) (y2 : Value) (y73 : Value) (y74 : Value) (H : rmaH Q Pre Post r g base vN l Nz cs w0 y2 y73 y74) : (rmaC Pre Post r g base vN l Nz cs w0 y2 y73 y74).Steps Tryd.prog Q 0 rmaT := ⟨rma_s0 Pre Post r g base vN l Nz cs w0 y2 y73 y74 H, rma_s1 Pre Post r g base vN l Nz cs w0 y2 y73 y74 H, rma_s2 Pre Post r g base vN l Nz cs w0 y2 y73 y74 H, rma_s3 Pre Post r g base vN l Nz cs w0 y2 y73 y74 H, rma_s4 Pre Post r g base vN l Nz cs w0 y2 y73 y74 H, rma_s5 Pre Post r g base vN l Nz cs w0 y2 y73 y74 H, rma_s6 Pre Post r g base vN l Nz cs w0 y2 y73 y74 H, rma_s7 Pre Post r g base vN l Nz cs w0 y2 y73 y74 H, trivial⟩
/-- the region: one more vote stands in the list, or it gives up -/
theorem rma_region {ops : Array Oper} {rid : Nat} {Q : Exit → Act → World → Prop} {a : Act} {y : World} (Pre Post : World → Prop) (r g base : Nat) (vN : Value) (l : List (Vo × Value)) (Nz : Vo → Prop) (cs : List Value) (y2 : Value) (y73 : Value) (y74 : Value) (hT : ops.toList.map (fun o => (bare o, deps o)) = rmaT) (hn : a.tmps.size = 94) (hB : rmaB r g y2 y73 y74 a)
    (H : rmaH Q Pre Post r g base vN l Nz cs y.drew y2 y73 y74) (hp : Pre y) (hl : Lv y g cs) (ho : OwV y base vN l)
    (hend : ∀ q76 q77 q78 q79 q80 q81 q82 w v, Kp (fun b => b = r ∨ b = g ∨ vN.ownBlock = some b) y w → Post w → More y.heap.size base vN l Nz v w → Lv w g (cs.set 22 v) → Q .normal (((((((a.put (some 76) q76).put (some 77) q77).put (some 78) q78).put (some 79) q79).put (some 80) q80).put (some 81) q81).put (some 82) q82) w) : (Code.region rid ops true).wp Tryd.prog Q a y := by
  have kd : Kp (fun b => b = r ∨ b = g ∨ vN.ownBlock = some b) y y.drew := (Kp.refl _ _).drew
  have k0 : Kp (fun _ => False) y y.drew := (Kp.refl _ _).drew
  refine chain_region (rmaC Pre Post r g base vN l Nz cs y.drew y2 y73 y74) (by kernel_rfl) hT hn hB (fun k v a hk _ h => rmaB_put r g y2 y73 y74 k v a hk h) (fun i j h1 h2 => rmaD_inj i h1 j h2) (fun i j p h1 h2 => posOf_inj _ i j p) (posOf_at [3, 5, 7] 8 (by decide) (by decide)) ?_ (fun m w w' hk h => VW.grow H.pre (fun w w' k h => H.post w w' (k.mono (fun _ _ e => e.elim)) h) H.b0 hk h) (fun i v w w' hk h => rmaR_keep r g base y.drew.heap.size vN l Nz hk H.b0 (fun _ _ e => e) i v (Or.inr (fun _ _ e => e)) h) (rma_steps Pre Post r g base vN l Nz cs y.drew y2 y73 y74 H) ?_
  · exact ⟨H.pre _ _ k0 hp, Kp.refl _ _, hl.keep k0 (fun e => e), ownsRow_keep ho k0 (fun _ _ e => e)⟩
  · rintro a' w h1 h2 hfr ⟨h3, h4, v, h5, h6⟩ _
    rw [act_puts a' [76, 77, 78, 79, 80, 81, 82] a (h1.trans hn.symm) (h2.2.2.2.2.2.trans hB.2.2.2.2.2.symm) (fun t ht => by
      rcases Nat.lt_or_ge t a'.tmps.size with hl | hl
      · exact hfr t (fun k hk e => ht (rmaD_mem k hk t e (Nat.lt_of_lt_of_eq hl h1)))
      · rw [eval_past a' t hl, eval_past a t (by have h9 : a.tmps.size = a'.tmps.size := hn.trans h1.symm; omega)])]
    exact hend (a'.eval (.tmp 76)) (a'.eval (.tmp 77)) (a'.eval (.tmp 78)) (a'.eval (.tmp 79)) (a'.eval (.tmp 80)) (a'.eval (.tmp 81)) (a'.eval (.tmp 82)) w v (kd.trans h4 (fun _ _ e => e)) h3 h5 h6

end Go.Proofs.YtoepemgflbmlcaaDoor
