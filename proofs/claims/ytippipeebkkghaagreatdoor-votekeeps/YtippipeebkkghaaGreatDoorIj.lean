/- A shelf whole: its log and its stock; Fence. -/
import Derived.Test.YtippipeebkkghaaGreatDoorIi
namespace Go.Proofs.YtippipeebkkghaaGreatDoor
set_option linter.unusedVariables false
set_option linter.unusedSimpArgs false
open Go.RowKit Go.Deep Go.Maps

/-- what a call of a shelf may write -/
abbrev SW (sh mp g m gf : Nat) : Nat → Prop := fun x => x = m ∨ x = g ∨ x = gf ∨ x = sh ∨ x = mp
/-- a shelf, its log and its plate -/
structure Shf (w : World) (Z : Nat → Prop) (sh mp g bp d m gf s a b c e y : Nat) (dur : List Nat) (h : List Rc) : Prop where
  lg : ∃ q lt T, Lg w g bp d m gf s q a b c e lt y (h.map wrS) dur T
  sk : Sk w Z sh mp g h
  tu : Turns w
  ap : sh ≠ mp ∧ ¬ Z sh ∧ ¬ Z mp
  aq : ∀ x, (x = m ∨ x = g ∨ x = gf) → ¬ Z x ∧ x ≠ sh ∧ x ≠ mp
  ar : bp ≠ sh ∧ bp ≠ mp ∧ d ≠ sh ∧ d ≠ mp
  at_ : (0 : Nat) ≠ sh ∧ (0 : Nat) ≠ mp
section
variable {w : World} {Z : Nat → Prop} {sh mp g bp d m gf s a b c e y : Nat} {dur : List Nat} {h : List Rc}
theorem Shf.keep0 (x : Shf w Z sh mp g bp d m gf s a b c e y dur h) {w' : World} (k : Kp (fun _ => False) w w') : Shf w' Z sh mp g bp d m gf s a b c e y dur h := by
  obtain ⟨q, lt, T, hl⟩ := x.lg
  exact ⟨⟨q, lt, T, hl.keep0 k⟩, x.sk.keep k (fun e => e) (fun e => e) (fun _ _ e => e), x.tu.keep0 k, x.ap, x.aq, x.ar, x.at_⟩
theorem Shf.write (x : Shf w Z sh mp g bp d m gf s a b c e y dur h) (r : Rc) (p : Option Addr) (cp : Nat) (hr : Rb w p r.b.length r.b) (hg : GoodR r) (hn : h.length + 1 ≤ 1000) (hz : ∀ a, p = some a → Z a.block)
    (hroom : 2 * (secS r : Int) + (stS h).2 + (totW (h.map wrS) : Int) ≤ (s : Int)) (hfit : totW (h.map wrS) + secS r ≤ s) :
    Calls Tryz.prog 50 #[.pointer (some ⟨sh, 0, none⟩), rcV r p cp] w fun e9 w' => e9 = .returned (.int .i64 0) ∧ Kp (SW sh mp g m gf) w w' ∧ Shf w' Z sh mp g bp d m gf s a b c e y dur (h ++ [r]) := by
  obtain ⟨q, lt, T, hl⟩ := x.lg
  have h1 := behS_le (stS h).1 (stS h).2 r
  refine (swrite_ok hl x.sk r p cp hr hg hn hz x.ap x.aq x.ar (by omega) hfit x.tu).mono ?_
  rintro e9 w' ⟨rfl, k, sk, q', T', hl'⟩
  refine ⟨rfl, k, ⟨q', _, T', hl'⟩, sk, x.tu.keep k (fun e => ?_), x.ap, x.aq, x.ar, x.at_⟩
  rcases e with e | e | e | e | e
  · exact hl.lp.tm e
  · exact hl.lp.tg e
  · exact hl.lp.tf e
  · exact x.at_.1 e
  · exact x.at_.2 e
theorem rb_nil0 {w : World} : Rb w none 0 [] := ⟨rfl, fun x hx => absurd hx List.not_mem_nil, fun j hj => absurd hj (Nat.not_lt_zero _)⟩
theorem rz3 (w : World) (x y z : Int) (t : TypeId) : Rz (w.alloc (.cells #[.int .i64 x, .int .i64 y, .int .i64 z] t)) (some ⟨w.heap.size, 0, none⟩) [x, y, z] := fun j hj => by
  have hl := Lv.new w #[.int .i64 x, .int .i64 y, .int .i64 z] t
  refine ⟨w.heap.size, 0, rfl, ?_⟩
  rw [Nat.zero_add]
  match j, hj with
  | 0, _ => exact hl.cell (j := 0) rfl
  | 1, _ => exact hl.cell (j := 1) rfl
  | 2, _ => exact hl.cell (j := 2) rfl
theorem upTo3 {x y z : Nat} (hx : x ≤ 1152921504606846976) (hy : y ≤ 1152921504606846976) (hz : z ≤ 1152921504606846976) : upTo 1152921504606846976 [(x : Int), (y : Int), (z : Int)] = true := by
  unfold upTo
  simp
  omega

end
end Go.Proofs.YtippipeebkkghaaGreatDoor
