/- The walk of a plate's Copy. -/
import Derived.Test.YtippipeebkkghaaGreatDoorPl4
import Derived.Deep.RegionHeld3
import Derived.Shelf.SlMaps.Clone
namespace Go.Proofs.YtippipeebkkghaaGreatDoor
open Go.RowKit Go.Deep Go.Maps

theorem Pt.allRb {w : World} {b d m n q : Nat} {dur : List Nat} {T : Nat → Option (List Nat)} (h : Pt w b d m n q dur T) : Rb w (some ⟨d, 0, none⟩) (n * 64) dur :=
  ⟨h.len, h.byte, fun j hj => ⟨d, 0, rfl, by rw [Nat.zero_add]; exact h.row.cell hj⟩⟩
theorem Dr.of_ow {w : World} {base n : Nat} {v : Value} {dur : List Nat} (h : Ow w base v dur) (hl : dur.length = n * 64) (hn : 1 ≤ n) : ∃ g cp, v = .slice (some ⟨g, 0, none⟩) (n * 64) cp ∧ n * 64 ≤ cp ∧ base ≤ g ∧ g < w.heap.size ∧ Dr w g n (fun j => dur.getD j 0) := by
  rcases h.2 with ⟨e1, e2⟩ | ⟨g, cap, cur, rfl, hb, hh, h1, h2, h3, h4⟩
  · omega
  · refine ⟨g, cap, by rw [hl], by omega, hb, (Array.getElem?_eq_some_iff.1 hh).1, cap, fun j => (cur[j]?).getD (.int .u8 0), by omega, cur, hh, by omega, fun j hj => ?_⟩
    dsimp only
    by_cases hjn : j < n * 64
    · rw [if_pos hjn]
      have h5 : (cur.toList.take (dur.length * 1))[j]? = (vl dur)[j]? := by rw [h4]
      rw [List.getElem?_take_of_lt (by omega), Array.getElem?_toList, vl_get (by omega)] at h5
      exact h5
    · rw [if_neg hjn, Array.getElem?_eq_getElem (by omega)]; rfl

end Go.Proofs.YtippipeebkkghaaGreatDoor
