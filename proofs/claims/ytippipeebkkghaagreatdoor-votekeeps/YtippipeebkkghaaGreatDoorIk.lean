/- A shelf: Drop. -/
import Derived.Test.YtippipeebkkghaaGreatDoorIj
namespace Go.Proofs.YtippipeebkkghaaGreatDoor
set_option linter.unusedVariables false
set_option linter.unusedSimpArgs false
open Go.RowKit Go.Deep Go.Maps

theorem rz2 (w : World) (x y : Int) (t : TypeId) : Rz (w.alloc (.cells #[.int .i64 x, .int .i64 y] t)) (some ⟨w.heap.size, 0, none⟩) [x, y] := fun j hj => by
  have hl := Lv.new w #[.int .i64 x, .int .i64 y] t
  refine ⟨w.heap.size, 0, rfl, ?_⟩
  rw [Nat.zero_add]
  match j, hj with
  | 0, _ => exact hl.cell (j := 0) rfl
  | 1, _ => exact hl.cell (j := 1) rfl
theorem upTo2 {x y : Nat} (hx : x ≤ 1152921504606846976) (hy : y ≤ 1152921504606846976) : upTo 1152921504606846976 [(x : Int), (y : Int)] = true := by
  unfold upTo
  simp
  omega
section
variable {w : World} {Z : Nat → Prop} {sh mp g bp d m gf s a b c e y : Nat} {dur : List Nat} {h : List Rc}
/-- what a stock's map answers -/
theorem Sk.look (x : Sk w Z sh mp g h) (t : K3) (hw : wf3 t) : ∃ (a1 a2 a3 a4 : Int) (qq : Option Addr) (nn cc : Nat) (ok : Bool), (∀ z, Kp (fun _ => False) w z → (Instr.lookup 93 (.map (some mp)) (pv3 t) true).run Tryz.prog z = .ok (.tuple #[.agg #[.int .i64 a1, .int .i64 a2, .int .i64 a3, .int .i64 a4, .slice qq nn cc], .bool ok]) z) ∧
    ((ok = false ∧ (stS h).1 t = none) ∨ (ok = true ∧ ∃ o, (stS h).1 t = some o ∧ a1 = (o.k : Int) ∧ a2 = (o.n : Int) ∧ a3 = (o.i : Int) ∧ a4 = (o.e : Int) ∧ nn = o.b.length ∧ Rb w qq o.b.length o.b ∧ GoodR o ∧ ∀ a, qq = some a → Z a.block)) := by
  obtain ⟨c, T, hc1, hc2, hc3⟩ := x.m
  have hlk : ∀ z, Kp (fun _ => False) w z → (Instr.lookup 93 (.map (some mp)) (pv3 t) true).run Tryz.prog z = .ok (.tuple #[(T t).getD zRec, .bool (T t).isSome]) z := fun z k => look_px3_ok Tryz.underlying93 zeroRec (hc2.keep k id) hw
  cases hM : (stS h).1 t with
  | none =>
    rw [(hc3 _ hw).1 hM] at hlk
    exact ⟨0, 0, 0, 0, none, 0, 0, false, hlk, Or.inl ⟨rfl, rfl⟩⟩
  | some o =>
    obtain ⟨p2, cp2, b1, b2, b3⟩ := (hc3 _ hw).2 o hM
    rw [b1] at hlk
    exact ⟨o.k, o.n, o.i, o.e, p2, o.b.length, cp2, true, hlk, Or.inr ⟨rfl, o, rfl, rfl, rfl, rfl, rfl, rfl, b2, x.g o ((stS_bd x.g x.n).2.2 _ _ hM), b3⟩⟩

end
end Go.Proofs.YtippipeebkkghaaGreatDoor
