/- How numbers come in, as lists that the walks take. -/
import Derived.Test.YtneobpdbfbcnmaaFt
namespace Go.Proofs.Ytneobpdbfbcnmaa
open Go.ChangeShapes Go.WideShapes Go.ChangeAt Go.RowKit

/-- numbers lie there -/
def Iz (w : World) (p : Option Addr) (zs : List Int) : Prop := ∀ j, j < zs.length → ∃ b o, p = some ⟨b, o, none⟩ ∧ w.cell? ⟨b, o + j, none⟩ = some (.int .i64 (zs.getD j 0))
theorem Iz.keep {S : Nat → Prop} {w w' : World} {p : Option Addr} {zs : List Int} (h : Iz w p zs) (k : Kp S w w') (hS : ∀ a, p = some a → ¬ S a.block) : Iz w' p zs := fun j hj => by
  obtain ⟨b, o, e, hc⟩ := h j hj
  exact ⟨b, o, e, k.cellv hc (fun h => hS ⟨b, o, none⟩ e h)⟩
def Ints (w : World) (v : Value) (L : Nat) : Prop := ∃ p c zs, v = .slice p L c ∧ zs.length = L ∧ L ≤ c ∧ Iz w p zs ∧ L * 8 ≤ 140737488355328
theorem sized_ints {H : Type} {ts : List TypeId} {ds : List (DataW H)} {j : Nat} {elems spare : List (DataW H)} (h : (DataW.weightsEach Try.prog ts ds).all (· ≤ reachBytes) = true) (ht : ts[j]? = some 22) (hd : ds[j]? = some (.slice elems spare)) :
    (elems.length + spare.length) * 8 ≤ 140737488355328 := by
  have hr : reachBytes ≤ 140737488355328 := by have := reachBytes_lt; omega
  have b2 : Try.prog.bytesOf 3 = 8 := by kernel_rfl
  have := sized_slice h ht hd Try.underlying22
  rw [b2] at this; omega
theorem ints_of_trod {H : Type} {enc : TypeId × Value → H} {W : World} {a : Option Addr} {len cap : Nat} {d : DataW H} {p : List MemPlace}
    (h : DataW.Trod enc Try.prog W 0 (fun _ => true) true 22 (.slice a len cap) d p)
    (hw : ∀ elems spare, d = .slice elems spare → (elems.length + spare.length) * 8 ≤ 140737488355328) : Ints W (.slice a len cap) len := by
  obtain ⟨fuel, hf⟩ := h
  rcases open_ints Try.underlying22 Try.underlying3 (by kernel_rfl) hf with ⟨hcs, _⟩ | ⟨x, l, c, zs, hcs, hxx, hl, hm, hz, hDx, hcell, hwz⟩
  · simp [Value.cells] at hcs
    obtain ⟨rfl, rfl, rfl⟩ := hcs
    exact ⟨none, 0, [], rfl, rfl, Nat.le_refl _, fun j hj => absurd hj (Nat.not_lt_zero _), by omega⟩
  · simp [Value.cells] at hcs
    obtain ⟨rfl, rfl, rfl⟩ := hcs
    have hz' : zs.length = cap := by simpa using hz
    have hd := (Prod.mk.inj hDx).1
    have hlen := hw _ _ hd
    simp only [lits, List.length_map, List.length_take, List.length_drop] at hlen
    have hll : (zs.take len).length = len := by rw [List.length_take]; omega
    refine ⟨some x, cap, zs.take len, rfl, hll, hl, fun j hj => ?_, by omega⟩
    rw [hll] at hj
    obtain ⟨b, off, spot⟩ := x
    have hc := hcell j (by omega)
    have hspot : spot = none := by
      have := World.cell?_spot (hcell 0 (by omega))
      simpa [Addr.add] using this
    subst hspot
    refine ⟨b, off, rfl, ?_⟩
    rw [show (⟨b, off, none⟩ : Addr).add j = ⟨b, off + j, none⟩ from by by_cases e : j = 0 <;> simp [Addr.add, e]] at hc
    rw [hc, List.getD_eq_getElem?_getD, List.getD_eq_getElem?_getD, List.getElem?_take_of_lt hj]
end Go.Proofs.Ytneobpdbfbcnmaa
