/- How a list of calls of a list of shards that wait comes in. -/
import Derived.Test.YtnpaoppfhffoiaaJb
import Derived.Test.YtnpaoppfhffoiaaFt
import Derived.Deep.Slices
namespace Go.Proofs.Ytnpaoppfhffoiaa
set_option linter.unusedVariables false
open Go.ChangeShapes Go.WideShapes Go.ChangeAt Go.RowKit Go.Deep

theorem cellsI6 : Try.prog.cellsOf 3 = 1 := by kernel_rfl
theorem cellsD6 : Try.prog.cellsOf 30 = 4 := by kernel_rfl
/-- v is so many calls -/
def Dz (w : World) (v : Value) (L : Nat) : Prop := ∃ p c, v = .slice p L c ∧ (L : Int) ≤ 9223372036854775807 ∧ ∀ r, r < L → ∃ (b o : Nat) (a0 a1 a2 a3 : Int), p = some ⟨b, o, none⟩ ∧ w.cell? ⟨b, o + r * 4, none⟩ = some (.int .i64 a0) ∧ w.cell? ⟨b, o + r * 4 + 1, none⟩ = some (.int .i64 a1) ∧ w.cell? ⟨b, o + r * 4 + 2, none⟩ = some (.int .i64 a2) ∧ w.cell? ⟨b, o + r * 4 + 3, none⟩ = some (.int .i64 a3) ∧ wf2 a1 a2

set_option maxRecDepth 100000 in
theorem dz_of_trod {H : Type} {enc : TypeId × Value → H} {W : World} {a : Option Addr} {len cap : Nat} {d : DataW H} {p : List MemPlace}
    (h : DataW.Trod enc Try.prog W 0 (fun _ => true) true 22 (.slice a len cap) d p) : Dz W (.slice a len cap) len := by
  obtain ⟨fuel, hf⟩ := h
  rcases open_slice Try.underlying22 hf with ⟨hcs, _⟩ | ⟨x, l, c, m, n, D, Pl, hcs, _, hl, hm, hmm, hx, hel⟩
  · simp [Value.cells] at hcs
    obtain ⟨rfl, rfl, rfl⟩ := hcs
    exact ⟨none, 0, rfl, by omega, fun r h => absurd h (Nat.not_lt_zero _)⟩
  · simp [Value.cells] at hcs
    obtain ⟨rfl, rfl, rfl⟩ := hcs
    have hmc : m = cap := by simpa using hmm
    obtain ⟨b, off, spot⟩ := x
    have hmx : cap ≤ 9223372036854775807 := by simpa [maxLen] using hm
    rw [cellsD6] at hel
    by_cases h0 : len = 0
    · subst h0
      exact ⟨some ⟨b, off, spot⟩, cap, rfl, by omega, fun r h => absurd h (Nat.not_lt_zero _)⟩
    have hspot : spot = none := by
      obtain ⟨cs', h1, _⟩ := hel 0 (by omega)
      obtain ⟨_, hlen, hcell⟩ := World.cells?_some h1
      have h00 := hcell 0 (by omega)
      rw [List.getElem?_eq_getElem (by omega)] at h00
      have := World.cell?_spot h00
      simpa [Addr.add] using this
    subst hspot
    refine ⟨some ⟨b, off, none⟩, cap, rfl, by omega, fun i hi => ?_⟩
    obtain ⟨cs', h1, h2⟩ := hel i (by omega)
    obtain ⟨_, hlen, hcell⟩ := World.cells?_some h1
    obtain ⟨xs, k, hk, hxy, _, hxl, hfd⟩ := DataW.trod_struct Try.underlying30 h2
    match xs, hxl, cs', hlen with
    | [y0, y1, y2, y3], _, [v0, v1, v2, v3], hlen =>
      have g0 := hfd 0 _ rfl
      have g1 := hfd 1 _ rfl
      have g2 := hfd 2 _ rfl
      have g3 := hfd 3 _ rfl
      simp [cellsI6] at g0 g1 g2 g3
      obtain ⟨a0, e0, _, _⟩ := DataW.trod_int Try.underlying3 g0
      obtain ⟨a1, e1, _, w1⟩ := DataW.trod_int Try.underlying3 g1
      obtain ⟨a2, e2, _, w2⟩ := DataW.trod_int Try.underlying3 g2
      obtain ⟨a3, e3, _, _⟩ := DataW.trod_int Try.underlying3 g3
      simp only [List.cons.injEq, and_true] at e0 e1 e2 e3
      subst e0 e1 e2 e3
      have cell : ∀ j, j < 4 → W.cell? ⟨b, off + i * 4 + j, none⟩ = [Value.int .i64 a0, .int .i64 a1, .int .i64 a2, .int .i64 a3][j]? := fun j hj => by
        have := hcell j hj
        rw [Addr.add_mid, Addr.add_mid] at this
        simpa using this
      exact ⟨b, off, a0, a1, a2, a3, rfl, cell 0 (by omega), cell 1 (by omega), cell 2 (by omega), cell 3 (by omega), w1, w2⟩
end Go.Proofs.Ytnpaoppfhffoiaa
