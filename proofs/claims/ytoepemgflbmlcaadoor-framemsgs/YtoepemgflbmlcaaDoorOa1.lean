/- x.f = append(x.f, call()) of votes, through a struct in a block of its own. -/
import Derived.Test.YtoepemgflbmlcaaDoorOb
import Derived.Test.YtoepemgflbmlcaaDoorQy
namespace Go.Proofs.YtoepemgflbmlcaaDoor
set_option linter.unusedVariables false
set_option linter.unusedSimpArgs false
open Go.RowKit Go.Deep

/-- votes of one's own -/
abbrev OwV (w : World) (base : Nat) (v : Value) (l : List (Vo × Value)) : Prop := w.ownsRow base 72 14 v l.length (vflat l)
/-- a vote's cells, with its nodes -/
abbrev vcl (x : Vo) (q : Option Addr) (cap : Nat) : List Value := vcell x (.slice q x.nodes.length cap)
theorem wp_append_vote {o : Oper} {a : Act} {K : Act → World → Prop} {Q : Exit → Act → World → Prop} (w : World) (s y : Operand)
    (ho : o.op = .call { callee := .builtin .append, args := #[s, y], argTypes := #[38, 38] })
    (base : Nat) (v : Value) (l : List (Vo × Value)) (hs : a.eval s = v) (hown : OwV w base v l)
    (b : Nat) (x : Vo) (q : Option Addr) (cap : Nat) (hx : a.eval y = .slice (some ⟨b, 0, none⟩) 1 1) (hr : ∀ j u, (vcl x q cap)[j]? = some u → w.cell? ⟨b, j, none⟩ = some u)
    (hlen : l.length ≤ 100000) (hbase : base ≤ w.heap.size)
    (h : ∀ v' w', OwV w' base v' (l ++ [(x, .slice q x.nodes.length cap)]) → Kp (fun b => v.ownBlock = some b) w w' → (v'.ownBlock = v.ownBlock ∨ v'.ownBlock = some w.heap.size) → K (a.put o.dst v') w') : Oper.wp Tryd.prog o a w K Q := by
  obtain ⟨i, z, hi1, hi2, hi3, hi4, hi5⟩ := infoVote
  have hfl : Fl w (fun _ => True) (some ⟨b, 0, none⟩) (vcl x q cap) := fun j u hj => ⟨b, 0, rfl, trivial, by rw [Nat.zero_add]; exact hr j u hj⟩
  obtain ⟨v', w', hrun, h2, h3, h4⟩ := run_append_own_src (P := Tryd.prog) w base 38 38 o.type 72 i z 14 136 Tryd.underlying38 hi1 hi2 hi3 hi4 hi5 (by decide) v l.length (vflat l) hown (.slice (some ⟨b, 0, none⟩) 1 1) 1 (vcl x q cap) (hfl.src Tryd.underlying38 (by decide) rfl (fun u hu => (Array.all_eq_true_iff_forall_mem.1 (vcell_one x (nv := .slice q x.nodes.length cap) rfl)) u (by simpa using hu))) (by unfold maxLen; omega) (by omega) hbase
  unfold Oper.wp execOp
  simp only [ho, resolve, invoke, builtin, Sem.run_bind, Sem.run_pure, Result.andThen_ok, List.map_toArray, List.map_cons, List.map_nil, hs, hx, hrun]
  refine h v' w' ?_ (grownBy_kp h3) h4
  unfold OwV
  rw [List.length_append, vflat_append]
  have e : vflat [(x, Value.slice q x.nodes.length cap)] = vcl x q cap := by show vcell _ _ ++ [] = _; rw [List.append_nil]
  rw [e]
  exact h2
/-- one more vote behind those of l: its nodes lie in new blocks, apart from the row -/
def More (B0 base : Nat) (vN : Value) (l : List (Vo × Value)) (Nz : Vo → Prop) (v : Value) (w : World) : Prop := ∃ (x : Vo) (q : Option Addr) (cap h : Nat), Nz x ∧ OwV w base v (l ++ [(x, .slice q x.nodes.length cap)]) ∧ Fl w (fun b => B0 ≤ b ∧ b < h) q (x.nodes.map encI) ∧ B0 ≤ h ∧ h ≤ w.heap.size ∧ (v.ownBlock = vN.ownBlock ∨ ∃ j, v.ownBlock = some j ∧ h ≤ j)
def GotV (B0 : Nat) (Nz : Vo → Prop) (v : Value) (w : World) : Prop := ∃ (x : Vo) (q : Option Addr) (cap h : Nat), Nz x ∧ v = .agg (vcl x q cap).toArray ∧ Fl w (fun b => B0 ≤ b ∧ b < h) q (x.nodes.map encI) ∧ B0 ≤ h ∧ h ≤ w.heap.size
def OneV (B0 : Nat) (Nz : Vo → Prop) (v : Value) (w : World) : Prop := ∃ (x : Vo) (q : Option Addr) (cap h b : Nat), Nz x ∧ v = .slice (some ⟨b, 0, none⟩) 1 1 ∧ h ≤ b ∧ (∀ j u, (vcl x q cap)[j]? = some u → w.cell? ⟨b, j, none⟩ = some u) ∧ Fl w (fun b => B0 ≤ b ∧ b < h) q (x.nodes.map encI) ∧ B0 ≤ h ∧ h ≤ w.heap.size
theorem GotV.keep {S : Nat → Prop} {B0 : Nat} {Nz : Vo → Prop} {v : Value} {w w' : World} (h : GotV B0 Nz v w) (k : Kp S w w') (hS : ∀ b, B0 ≤ b → ¬ S b) : GotV B0 Nz v w' := by
  obtain ⟨x, q, cap, hh, h1, h2, h3, h4, h5⟩ := h
  exact ⟨x, q, cap, hh, h1, h2, h3.keep k (fun b hb => hS b hb.1), h4, Nat.le_trans h5 k.size⟩
theorem OneV.keep {S : Nat → Prop} {B0 : Nat} {Nz : Vo → Prop} {v : Value} {w w' : World} (h : OneV B0 Nz v w) (k : Kp S w w') (hS : ∀ b, B0 ≤ b → ¬ S b) : OneV B0 Nz v w' := by
  obtain ⟨x, q, cap, hh, b, h1, h2, h3, h4, h5, h6, h7⟩ := h
  exact ⟨x, q, cap, hh, b, h1, h2, h3, fun j u hj => k.cellv (h4 j u hj) (hS b (Nat.le_trans h6 h3)), h5.keep k (fun b hb => hS b hb.1), h6, Nat.le_trans h7 k.size⟩
theorem More.keep {S : Nat → Prop} {B0 base : Nat} {vN : Value} {l : List (Vo × Value)} {Nz : Vo → Prop} {v : Value} {w w' : World} (h : More B0 base vN l Nz v w) (k : Kp S w w') (hS : ∀ b, base ≤ b → ¬ S b) (hB : base ≤ B0) : More B0 base vN l Nz v w' := by
  obtain ⟨x, q, cap, hh, h1, h2, h3, h4, h5, h6⟩ := h
  exact ⟨x, q, cap, hh, h1, ownsRow_keep h2 k (fun b hb => hS b (ownBlock_lt h2 hb).1), h3.keep k (fun b hb => hS b (Nat.le_trans hB hb.1)), h4, Nat.le_trans h5 k.size, h6⟩
/-- behind so many links: the call, the append, the store -/
def VW (Pre Post : World → Prop) (S : Nat → Prop) (g base f : Nat) (cs : List Value) (vN : Value) (l : List (Vo × Value)) (Nz : Vo → Prop) (w0 : World) : Nat → World → Prop
  | 0, w => Pre w ∧ Kp S w0 w ∧ Lv w g cs ∧ OwV w base vN l
  | 1, w => Post w ∧ Kp S w0 w ∧ Lv w g cs ∧ OwV w base vN l
  | 2, w => Post w ∧ Kp S w0 w ∧ Lv w g cs
  | _, w => Post w ∧ Kp S w0 w ∧ ∃ v, More w0.heap.size base vN l Nz v w ∧ Lv w g (cs.set f v)
theorem VW.grow {Pre Post : World → Prop} {S : Nat → Prop} {g base f : Nat} {cs : List Value} {vN : Value} {l : List (Vo × Value)} {Nz : Vo → Prop} {w0 : World} {m : Nat} {w w' : World} (hPre : ∀ w w', Kp (fun _ => False) w w' → Pre w → Pre w') (hPost : ∀ w w', Kp (fun _ => False) w w' → Post w → Post w') (hB : base ≤ w0.heap.size) (hk : Kp (fun _ => False) w w') (h : VW Pre Post S g base f cs vN l Nz w0 m w) : VW Pre Post S g base f cs vN l Nz w0 m w' := by
  have t : ∀ {w0}, Kp S w0 w → Kp S w0 w' := fun k => k.trans hk (fun _ _ e => e.elim)
  match m, h with
  | 0, ⟨h1, h2, h3, h4⟩ => exact ⟨hPre _ _ hk h1, t h2, h3.keep hk (fun e => e), ownsRow_keep h4 hk (fun _ _ e => e)⟩
  | 1, ⟨h1, h2, h3, h4⟩ => exact ⟨hPost _ _ hk h1, t h2, h3.keep hk (fun e => e), ownsRow_keep h4 hk (fun _ _ e => e)⟩
  | 2, ⟨h1, h2, h3⟩ => exact ⟨hPost _ _ hk h1, t h2, h3.keep hk (fun e => e)⟩
  | n + 3, ⟨h1, h2, v, h3, h4⟩ => exact ⟨hPost _ _ hk h1, t h2, v, h3.keep hk (fun _ _ e => e) hB, h4.keep hk (fun e => e)⟩
end Go.Proofs.YtoepemgflbmlcaaDoor
