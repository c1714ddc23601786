/- Bytes of one's own, grown (out of Ng). -/
import Derived.Test.YtippipeebkkghaaGreatDoorNf
namespace Go.Proofs.YtippipeebkkghaaGreatDoor
set_option linter.unusedVariables false
set_option linter.unusedSimpArgs false
open Go.RowKit Go.Deep

theorem digs_get : ∀ (w n j : Nat), j < w → (digs w n)[j]? = some (n / 256 ^ (w - 1 - j) % 256)
  | 0, n, j, h => absurd h (Nat.not_lt_zero _)
  | w + 1, n, 0, _ => by simp [digs]
  | w + 1, n, j + 1, h => by
    show (_ :: digs w n)[j + 1]? = _
    rw [List.getElem?_cons_succ, digs_get w n j (by omega)]
    congr 4
    omega
theorem numW8 {n : Nat} (h : n < 9223372036854775808) : numW n ≤ 8 := numW_le (show n < 256 ^ 8 by have : (256 : Nat) ^ 8 = 18446744073709551616 := rfl; omega)
theorem numsB_len (l : List Nat) (h : ∀ n ∈ l, n < 9223372036854775808) : (numsB l).length ≤ 9 * l.length := by
  induction l with
  | nil => simp [numsB]
  | cons n l ih =>
    have h1 := ih (fun x hx => h x (List.mem_cons_of_mem _ hx))
    have h2 := numW8 (h n (List.mem_cons_self ..))
    have : numsB (n :: l) = numB n ++ numsB l := rfl
    rw [this, List.length_append, List.length_cons]
    have : (numB n).length = numW n + 1 := by show (_ :: digs _ _).length = _; rw [List.length_cons, digs_len]
    omega
theorem numsB_take {l : List Nat} {k n : Nat} (h : l[k]? = some n) : numsB (l.take (k + 1)) = numsB (l.take k) ++ numB n := by
  rw [List.take_add_one, h, numsB_append]
  show _ ++ numsB [n] = _
  rw [numsB_one]
/-- Ow, with what is told of its block: that of v, or a new one -/
structure Ap (w w' : World) (base : Nat) (v v' : Value) (xs : List Nat) : Prop where
  o : Ow w' base v' xs
  k : Kp (fun b => v.ownBlock = some b) w w'
  b : ∀ b, v'.ownBlock = some b → v.ownBlock = some b ∨ w.heap.size ≤ b
theorem Ap.refl {w : World} {base : Nat} {v : Value} {xs : List Nat} (h : Ow w base v xs) : Ap w w base v v xs := ⟨h, Kp.refl _ _, fun _ h => Or.inl h⟩
theorem Ap.trans {w w1 w2 : World} {base : Nat} {v v1 v2 : Value} {xs ys : List Nat} (h : Ap w w1 base v v1 xs) (k : Ap w1 w2 base v1 v2 ys) : Ap w w2 base v v2 ys :=
  ⟨k.o, h.k.trans k.k (fun b hb e => by
    rcases h.b b e with q | q
    · exact q
    · exact absurd hb (Nat.not_lt.2 q)), fun b hb => by
    rcases k.b b hb with e | e
    · exact h.b b e
    · exact Or.inr (Nat.le_trans h.k.size e)⟩
/-- a new block of one byte is put behind -/
theorem Ap.one {w w1 w2 : World} {base : Nat} {v v1 v2 : Value} {xs ys : List Nat} (h : Ap w w1 base v v1 xs) (ob : Obj) (ho : Ow w2 base v2 ys) (hk : Kp (fun b => v1.ownBlock = some b) (w1.alloc ob) w2) (hb : v2.ownBlock = v1.ownBlock ∨ v2.ownBlock = some (w1.alloc ob).heap.size) : Ap w w2 base v v2 ys := by
  refine h.trans ⟨ho, ((Kp.refl _ _).alloc _).trans hk (fun b hb e => e), fun b e => ?_⟩
  rcases hb with q | q
  · exact Or.inl (q ▸ e)
  · right
    rw [q] at e
    injection e with e
    rw [← e]
    simp
theorem rb_one (w : World) (x : Nat) (hx : x < 256) : Rb (w.alloc (.cells #[.int .u8 (x : Int)] 5)) (some ⟨w.heap.size, 0, none⟩) 1 [x] := by
  have hl := Lv.new w #[.int .u8 (x : Int)] 5
  refine ⟨rfl, fun y hy => ?_, fun j hj => ⟨w.heap.size, 0, rfl, ?_⟩⟩
  · rw [List.mem_singleton] at hy
    omega
  · have : j = 0 := by omega
    subst this
    exact hl.cell (j := 0) rfl
end Go.Proofs.YtippipeebkkghaaGreatDoor
