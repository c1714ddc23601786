/- x.f = append(x.f, call()) of numbers, through a struct in a block of its own. -/
import Derived.Test.YtippipeebkkghaaGreatDoorNx
namespace Go.Proofs.YtippipeebkkghaaGreatDoor
set_option linter.unusedVariables false
set_option linter.unusedSimpArgs false
open Go.RowKit Go.Deep

/-- numbers of one's own -/
abbrev OwI (w : World) (base : Nat) (v : Value) (zs : List Int) : Prop := w.ownsRow base 3 1 v zs.length (zs.map encI)
theorem wp_append_ints {o : Oper} {a : Act} {K : Act → World → Prop} {Q : Exit → Act → World → Prop} (w : World) (s y : Operand)
    (ho : o.op = .call { callee := .builtin .append, args := #[s, y], argTypes := #[29, 29] })
    (base : Nat) (v : Value) (zs : List Int) (hs : a.eval s = v) (hown : OwI w base v zs)
    (Y : Nat → Prop) (p : Option Addr) (c : Nat) (ys : List Int) (hx : a.eval y = .slice p ys.length c) (hr : Fl w Y p (ys.map encI))
    (hlen : (zs.length + ys.length) * 8 ≤ 140737488355328) (hbase : base ≤ w.heap.size)
    (h : ∀ v' w', OwI w' base v' (zs ++ ys) → Kp (fun b => v.ownBlock = some b) w w' → K (a.put o.dst v') w') : Oper.wp Tryz.prog o a w K Q := by
  obtain ⟨ti, hi0, hz0, hz1, hz2⟩ := info_parts infoInt
  obtain ⟨v', w', hrun, h2, h3, h4⟩ := run_append_own_src (P := Tryz.prog) w base 29 29 o.type 3 ti (.int .i64 0) 1 8 Tryz.underlying29 hi0 hz0 hz1 hz2 rfl (by decide) v zs.length (zs.map encI) hown _ ys.length (ys.map encI) (hr.src (c := c) Tryz.underlying29 (by decide) (by simp) (fun u hu => by obtain ⟨z, _, rfl⟩ := List.mem_map.1 hu; rfl)) (by unfold maxLen; omega) hlen hbase
  unfold Oper.wp execOp
  simp only [ho, resolve, invoke, builtin, Sem.run_bind, Sem.run_pure, Result.andThen_ok, List.map_toArray, List.map_cons, List.map_nil, hs, hx, hrun]
  refine h v' w' ?_ (grownBy_kp h3)
  unfold OwI
  rw [List.length_append, List.map_append]
  exact h2
/-- behind so many links: the call, the append, the store -/
def AW (Pre Post : World → Prop) (S : Nat → Prop) (g base f : Nat) (cs : List Value) (vN : Value) (zs : List Int) (Nz : Int → Prop) (w0 : World) : Nat → World → Prop
  | 0, w => Pre w ∧ Kp S w0 w ∧ Lv w g cs ∧ OwI w base vN zs
  | 1, w => Post w ∧ Kp S w0 w ∧ Lv w g cs ∧ OwI w base vN zs
  | 2, w => Post w ∧ Kp S w0 w ∧ Lv w g cs
  | _, w => Post w ∧ Kp S w0 w ∧ ∃ v z, Nz z ∧ OwI w base v (zs ++ [z]) ∧ Lv w g (cs.set f v)
/-- the slice of the one number, made just now -/
def OneB (base : Nat) (vN : Value) (Nz : Int → Prop) (v : Value) (w : World) : Prop := ∃ z b, Nz z ∧ v = .slice (some ⟨b, 0, none⟩) 1 1 ∧ base ≤ b ∧ vN.ownBlock ≠ some b ∧ w.cell? ⟨b, 0, none⟩ = some (.int .i64 z)
def GotB (base : Nat) (zs : List Int) (Nz : Int → Prop) (v : Value) (w : World) : Prop := ∃ z, Nz z ∧ OwI w base v (zs ++ [z])
theorem OneB.keep {S : Nat → Prop} {base : Nat} {vN : Value} {Nz : Int → Prop} {v : Value} {w w' : World} (h : OneB base vN Nz v w) (k : Kp S w w') (hS : ∀ b, base ≤ b → vN.ownBlock ≠ some b → ¬ S b) : OneB base vN Nz v w' := by
  obtain ⟨z, b, h1, h2, h3, h4, h5⟩ := h
  exact ⟨z, b, h1, h2, h3, h4, k.cellv h5 (hS b h3 h4)⟩
theorem GotB.keep {S : Nat → Prop} {base : Nat} {zs : List Int} {Nz : Int → Prop} {v : Value} {w w' : World} (h : GotB base zs Nz v w) (k : Kp S w w') (hS : ∀ b, base ≤ b → ¬ S b) : GotB base zs Nz v w' := by
  obtain ⟨z, h1, h2⟩ := h
  exact ⟨z, h1, ownsRow_keep h2 k (fun b hb => hS b (ownBlock_lt h2 hb).1)⟩
theorem AW.grow {Pre Post : World → Prop} {S : Nat → Prop} {g base f : Nat} {cs : List Value} {vN : Value} {zs : List Int} {Nz : Int → Prop} {w0 : World} {m : Nat} {w w' : World} (hPre : ∀ w w', Kp (fun _ => False) w w' → Pre w → Pre w') (hPost : ∀ w w', Kp (fun _ => False) w w' → Post w → Post w') (hk : Kp (fun _ => False) w w') (h : AW Pre Post S g base f cs vN zs Nz w0 m w) : AW Pre Post S g base f cs vN zs Nz w0 m w' := by
  have t : ∀ {w0}, Kp S w0 w → Kp S w0 w' := fun k => k.trans hk (fun _ _ e => e.elim)
  match m, h with
  | 0, ⟨h1, h2, h3, h4⟩ => exact ⟨hPre _ _ hk h1, t h2, h3.keep hk (fun e => e), ownsRow_keep h4 hk (fun _ _ e => e)⟩
  | 1, ⟨h1, h2, h3, h4⟩ => exact ⟨hPost _ _ hk h1, t h2, h3.keep hk (fun e => e), ownsRow_keep h4 hk (fun _ _ e => e)⟩
  | 2, ⟨h1, h2, h3⟩ => exact ⟨hPost _ _ hk h1, t h2, h3.keep hk (fun e => e)⟩
  | n + 3, ⟨h1, h2, v, z, h3, h4, h5⟩ => exact ⟨hPost _ _ hk h1, t h2, v, z, h3, ownsRow_keep h4 hk (fun _ _ e => e), h5.keep hk (fun e => e)⟩
end Go.Proofs.YtippipeebkkghaaGreatDoor
