/- How a list of calls comes in. -/
import Derived.Test.YtfaaikblkakiaaaPl5
import Derived.Test.YtfaaikblkakiaaaFt
import Derived.Deep.Slices
import Derived.Deep.SlicePairs
namespace Go.Proofs.Ytfaaikblkakiaaa
open Go.ChangeShapes Go.WideShapes Go.ChangeAt Go.RowKit Go.Deep

theorem cellsI : Try.prog.cellsOf 3 = 1 := by kernel_rfl
theorem cellsB : Try.prog.cellsOf 32 = 1 := by kernel_rfl
theorem cellsN : Try.prog.cellsOf 33 = 1 := by kernel_rfl
theorem cellsDo : Try.prog.cellsOf 35 = 6 := by kernel_rfl
/-- bytes in a cell, read -/
theorem rb_of_cell {H : Type} {enc : TypeId × Value → H} {W : World} {v : Value} {k : Nat} {y : DataW H × List MemPlace} (h : DataW.trod enc Try.prog W 0 (fun _ => true) true k 32 [v] = some y) : ∃ p n c xs, v = .slice p n c ∧ Rb W p n xs := by
  rcases open_ints Try.underlying32 Try.underlying5 (by kernel_rfl) h with ⟨hcs, _⟩ | ⟨x, l, c, zs, hcs, hxx, hl, hm, hz, hDx, hcell, hwz⟩
  · have hv : v = .slice none 0 0 := by simpa using hcs
    exact ⟨none, 0, 0, [], hv, Rb.nil _ _⟩
  · have hv : v = .slice (some x) l c := by simpa using hcs
    have hz' : zs.length = c := by simpa using hz
    refine ⟨some x, l, c, (zs.take l).map Int.toNat, hv, by rw [List.length_map, List.length_take]; omega, fun y hy => ?_, fun j hj => ?_⟩
    · obtain ⟨z, hzm, rfl⟩ := List.mem_map.1 hy
      have := bounds_u8 (hwz z (List.mem_of_mem_take hzm))
      omega
    · obtain ⟨b, off, spot⟩ := x
      have hc := hcell j (by omega)
      have hspot : spot = none := by
        have := World.cell?_spot (hcell 0 (by omega))
        simpa [Addr.add] using this
      subst hspot
      refine ⟨b, off, rfl, ?_⟩
      rw [show (⟨b, off, none⟩ : Addr).add j = ⟨b, off + j, none⟩ from by by_cases e : j = 0 <;> simp [Addr.add, e]] at hc
      rw [hc]
      have hj' : j < zs.length := by omega
      have e : zs.getD j 0 = zs[j] := by rw [List.getD_eq_getElem?_getD, List.getElem?_eq_getElem hj']; rfl
      have := bounds_u8 (hwz zs[j] (List.getElem_mem hj'))
      have e2 : ((zs.take l).map Int.toNat).getD j 0 = zs[j].toNat := by
        rw [List.getD_eq_getElem?_getD, List.getElem?_map, List.getElem?_take_of_lt (by omega), List.getElem?_eq_getElem hj']; rfl
      rw [e, e2, Int.toNat_of_nonneg this.1]
theorem ints_of_cell {H : Type} {enc : TypeId × Value → H} {W : World} {v : Value} {k : Nat} {y : DataW H × List MemPlace} (h : DataW.trod enc Try.prog W 0 (fun _ => true) true k 33 [v] = some y) : ∃ p n c, v = .slice p n c := by
  rcases open_ints Try.underlying33 Try.underlying3 (by kernel_rfl) h with ⟨hcs, _⟩ | ⟨x, l, c, zs, hcs, _⟩
  · exact ⟨none, 0, 0, by simpa using hcs⟩
  · exact ⟨some x, l, c, by simpa using hcs⟩

set_option maxRecDepth 100000 in
set_option maxHeartbeats 800000 in
theorem dos_of_trod {H : Type} {enc : TypeId × Value → H} {W : World} {a : Option Addr} {len cap : Nat} {d : DataW H} {p : List MemPlace}
    (h : DataW.Trod enc Try.prog W 0 (fun _ => true) true 22 (.slice a len cap) d p) : Dos W (.slice a len cap) len := by
  obtain ⟨fuel, hf⟩ := h
  rcases open_slice Try.underlying22 hf with ⟨hcs, _⟩ | ⟨x, l, c, m, n, D, Pl, hcs, _, hl, hm, hmm, hx, hel⟩
  · simp [Value.cells] at hcs
    obtain ⟨rfl, rfl, rfl⟩ := hcs
    exact ⟨⟨none, 0, 0, 0, rfl, fun h => absurd h (Nat.lt_irrefl _), fun r h => absurd h (Nat.not_lt_zero _)⟩, by omega⟩
  · simp [Value.cells] at hcs
    obtain ⟨rfl, rfl, rfl⟩ := hcs
    have hmc : m = cap := by simpa using hmm
    obtain ⟨b, off, spot⟩ := x
    have hmx : cap ≤ 9223372036854775807 := by simpa [maxLen] using hm
    rw [cellsDo] at hel
    by_cases h0 : len = 0
    · subst h0
      exact ⟨⟨some ⟨b, off, spot⟩, 0, 0, cap, rfl, fun h => absurd h (Nat.lt_irrefl _), fun r h => absurd h (Nat.not_lt_zero _)⟩, by omega⟩
    have hspot : spot = none := by
      obtain ⟨cs', h1, _⟩ := hel 0 (by omega)
      obtain ⟨_, hlen, hcell⟩ := World.cells?_some h1
      have h00 := hcell 0 (by omega)
      rw [List.getElem?_eq_getElem (by omega)] at h00
      have := World.cell?_spot h00
      simpa [Addr.add] using this
    subst hspot
    have each : ∀ i, i < len → ∃ (op ii tn nn : Int) (p : Option Addr) (nb cb : Nat) (xs : List Nat) (pk : Option Addr) (nk ck : Nat),
        W.cell? ⟨b, off + i * 6, none⟩ = some (.int .i64 op) ∧ W.cell? ⟨b, off + i * 6 + 1, none⟩ = some (.int .i64 ii) ∧ W.cell? ⟨b, off + i * 6 + 2, none⟩ = some (.int .i64 tn) ∧ W.cell? ⟨b, off + i * 6 + 3, none⟩ = some (.int .i64 nn) ∧
        W.cell? ⟨b, off + i * 6 + 4, none⟩ = some (.slice p nb cb) ∧ W.cell? ⟨b, off + i * 6 + 5, none⟩ = some (.slice pk nk ck) ∧ Rb W p nb xs := fun i hi => by
      obtain ⟨cs', h1, h2⟩ := hel i (by omega)
      obtain ⟨_, hlen, hcell⟩ := World.cells?_some h1
      obtain ⟨xs, k, hk, hxy, _, hxl, hfd⟩ := DataW.trod_struct Try.underlying35 h2
      match xs, hxl, cs', hlen with
      | [y0, y1, y2, y3, y4, y5], _, [v0, v1, v2, v3, v4, v5], _ =>
        have g0 := hfd 0 _ rfl
        have g1 := hfd 1 _ rfl
        have g2 := hfd 2 _ rfl
        have g3 := hfd 3 _ rfl
        have g4 := hfd 4 _ rfl
        have g5 := hfd 5 _ rfl
        simp [cellsI, cellsB, cellsN] at g0 g1 g2 g3 g4 g5
        have a0 := hcell 0 (by omega)
        have a1 := hcell 1 (by omega)
        have a2 := hcell 2 (by omega)
        have a3 := hcell 3 (by omega)
        have a4 := hcell 4 (by omega)
        have a5 := hcell 5 (by omega)
        rw [add_add] at a0 a1 a2 a3 a4 a5
        obtain ⟨op, e0, _, _⟩ := DataW.trod_int Try.underlying3 g0
        obtain ⟨ii, e1, _, _⟩ := DataW.trod_int Try.underlying3 g1
        obtain ⟨tn, e2, _, _⟩ := DataW.trod_int Try.underlying3 g2
        obtain ⟨nn, e3, _, _⟩ := DataW.trod_int Try.underlying3 g3
        simp only [List.cons.injEq, and_true] at e0 e1 e2 e3
        subst e0 e1 e2 e3
        obtain ⟨p4, n4, c4, xs4, rfl, hrb⟩ := rb_of_cell g4
        obtain ⟨p5, n5, c5, rfl⟩ := ints_of_cell g5
        have hadd : ∀ j, (⟨b, off, none⟩ : Addr).add (i * 6 + j) = ⟨b, off + i * 6 + j, none⟩ := fun j => by rw [Addr.add_mid, ← Nat.add_assoc]
        rw [hadd] at a0 a1 a2 a3 a4 a5
        exact ⟨op, ii, tn, nn, p4, n4, c4, xs4, p5, n5, c5, by simpa using a0, by simpa using a1, by simpa using a2, by simpa using a3, by simpa using a4, by simpa using a5, hrb⟩
    exact ⟨⟨some ⟨b, off, none⟩, b, off, cap, rfl, fun _ => rfl, fun r hr => each r hr⟩, by omega⟩
end Go.Proofs.Ytfaaikblkakiaaa
