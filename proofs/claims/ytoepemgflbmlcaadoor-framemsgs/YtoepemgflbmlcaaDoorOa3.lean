/- x.f = append(x.f, call()...) of bytes, x.f nil, through a struct in a block of its own. -/
import Derived.Test.YtoepemgflbmlcaaDoorNx
namespace Go.Proofs.YtoepemgflbmlcaaDoor
set_option linter.unusedVariables false
set_option linter.unusedSimpArgs false
open Go.RowKit Go.Deep

/-- bytes that lie somewhere apart from two blocks -/
def SomeB (r g : Nat) (bs : List Nat) (v : Value) (w : World) : Prop := ∃ p m c, v = .slice p m c ∧ Rb w p m bs ∧ ∀ a, p = some a → 0 < m → a.block ≠ r ∧ a.block ≠ g
theorem SomeB.keep {S : Nat → Prop} {r g : Nat} {bs : List Nat} {v : Value} {w w' : World} (h : SomeB r g bs v w) (k : Kp S w w') (hS : ∀ b, S b → b = r ∨ b = g) : SomeB r g bs v w' := by
  obtain ⟨p, m, c, h1, h2, h3⟩ := h
  exact ⟨p, m, c, h1, h2.keepP k (fun a ha hp e => by rcases hS _ e with q | q; exact (h3 a ha hp).1 q; exact (h3 a ha hp).2 q), h3⟩
theorem wp_append_nil {o : Oper} {a : Act} {K : Act → World → Prop} {Q : Exit → Act → World → Prop} (w : World) (s y : Operand)
    (ho : o.op = .call { callee := .builtin .append, args := #[s, y], argTypes := #[28, 28] })
    (base : Nat) (hs : a.eval s = .slice none 0 0) (p : Option Addr) (m c : Nat) (ys : List Nat) (hx : a.eval y = .slice p m c) (hr : Rb w p m ys)
    (hlen : ys.length ≤ 100000) (hbase : base ≤ w.heap.size)
    (h : ∀ v' w', Ow w' base v' ys → Kp (fun _ => False) w w' → K (a.put o.dst v') w') : Oper.wp Tryd.prog o a w K Q := by
  obtain ⟨ti, hi0, hz0, hz1, hz2⟩ := info_parts info5
  have hl := hr.len
  obtain ⟨v', w', hrun, h2, h3, h4⟩ := run_append_own_src (P := Tryd.prog) w base 28 28 o.type 5 ti (.int .u8 0) 1 1 Tryd.underlying28 hi0 hz0 hz1 hz2 rfl (by decide) (.slice none 0 0) 0 [] (World.ownsRow_nil _ _ _ _) _ m (vl ys) (hr.src c) (by unfold maxLen; omega) (by omega) hbase
  unfold Oper.wp execOp
  simp only [ho, resolve, invoke, builtin, Sem.run_bind, Sem.run_pure, Result.andThen_ok, List.map_toArray, List.map_cons, List.map_nil, hs, hx, hrun]
  refine h v' w' ?_ ((grownBy_kp h3).mono (fun b _ e => by simp [Value.ownBlock] at e))
  unfold Ow
  rw [hl]
  simpa using h2
/-- behind so many links: NC calls, the append, the store -/
def BW (NC : Nat) (W : Nat → World → Prop) (g f : Nat) (bs : List Nat) (cs : List Value) (w0 : World) (S : Nat → Prop) (m : Nat) (w : World) : Prop :=
  W (min m NC) w ∧ Kp S w0 w ∧ if m ≤ NC + 1 then Lv w g cs else ∃ v, Ow w w0.heap.size v bs ∧ Lv w g (cs.set f v)
section
variable {NC : Nat} {W : Nat → World → Prop} {g f : Nat} {bs : List Nat} {cs : List Value} {w0 : World} {S : Nat → Prop} {m : Nat} {w w' : World}
theorem BW.lv (h : BW NC W g f bs cs w0 S m w) (hm : m ≤ NC) : Lv w g cs := by
  have := h.2.2
  rwa [if_pos (by omega)] at this
theorem BW.at (h : BW NC W g f bs cs w0 S m w) (hm : m ≤ NC) : W m w ∧ Kp S w0 w ∧ Lv w g cs := by
  refine ⟨?_, h.2.1, h.lv hm⟩
  have := h.1
  rwa [Nat.min_eq_left hm] at this
theorem BW.mk (hm : m ≤ NC) (h1 : W m w) (h2 : Kp S w0 w) (h3 : Lv w g cs) : BW NC W g f bs cs w0 S m w := ⟨by rw [Nat.min_eq_left hm]; exact h1, h2, by rw [if_pos (by omega)]; exact h3⟩
theorem BW.app (h1 : W NC w) (h2 : Kp S w0 w) (h3 : Lv w g cs) : BW NC W g f bs cs w0 S (NC + 1) w := ⟨by rw [Nat.min_eq_right (by omega)]; exact h1, h2, by rw [if_pos (by omega)]; exact h3⟩
theorem BW.app_out (h : BW NC W g f bs cs w0 S (NC + 1) w) : W NC w ∧ Kp S w0 w ∧ Lv w g cs := by
  obtain ⟨h1, h2, h3⟩ := h
  rw [Nat.min_eq_right (by omega)] at h1
  rw [if_pos (by omega)] at h3
  exact ⟨h1, h2, h3⟩
theorem BW.fin {v : Value} (h1 : W NC w) (h2 : Kp S w0 w) (h3 : Ow w w0.heap.size v bs) (h4 : Lv w g (cs.set f v)) : BW NC W g f bs cs w0 S (NC + 1 + 1) w := ⟨by rw [Nat.min_eq_right (by omega)]; exact h1, h2, by rw [if_neg (by omega)]; exact ⟨v, h3, h4⟩⟩
theorem BW.out (h : BW NC W g f bs cs w0 S (NC + 2) w) : W NC w ∧ Kp S w0 w ∧ ∃ v, Ow w w0.heap.size v bs ∧ Lv w g (cs.set f v) := by
  obtain ⟨h1, h2, h3⟩ := h
  rw [Nat.min_eq_right (by omega)] at h1
  rw [if_neg (by omega)] at h3
  exact ⟨h1, h2, h3⟩
theorem BW.grow (hW : ∀ m w w', Kp (fun _ => False) w w' → W m w → W m w') (hk : Kp (fun _ => False) w w') (h : BW NC W g f bs cs w0 S m w) : BW NC W g f bs cs w0 S m w' := by
  obtain ⟨h1, h2, h3⟩ := h
  refine ⟨hW _ _ _ hk h1, h2.trans hk (fun _ _ e => e.elim), ?_⟩
  by_cases hm : m ≤ NC + 1
  · rw [if_pos hm] at h3 ⊢
    exact h3.keep hk (fun e => e)
  · rw [if_neg hm] at h3 ⊢
    obtain ⟨v, h4, h5⟩ := h3
    exact ⟨v, ownsRow_keep h4 hk (fun _ _ e => e), h5.keep hk (fun e => e)⟩
end
end Go.Proofs.YtoepemgflbmlcaaDoor
