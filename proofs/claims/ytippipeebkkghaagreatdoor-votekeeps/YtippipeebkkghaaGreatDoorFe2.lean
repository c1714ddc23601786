/- The walks of bytes.Equal, where both are the same, and of the verifier's Spoil. -/
import Derived.Test.YtippipeebkkghaaGreatDoorKb
namespace Go.Proofs.YtippipeebkkghaaGreatDoor
open Go.RowKit Go.Deep

set_option maxRecDepth 100000 in
set_option maxHeartbeats 800000 in
theorem bytesEqual_run (v1 v2 : Value) (b : ByteArray) (w : World) (h1 : (convert 75 9 v1).run Tryz.prog w = .ok (.string b) w) (h2 : (convert 75 9 v2).run Tryz.prog w = .ok (.string b) w) :
    Calls Tryz.prog 49 #[v1, v2] w fun e w' => e = .returned (.bool true) ∧ w' = w := by
  go_enter Tryz.func49, Tryz.ntmps49
  go_wp2
  go_ret
  exact ⟨rfl, rfl⟩
theorem equal_same (p1 p2 : Option Addr) (n1 n2 c1 c2 : Nat) (xs : List Nat) (w : World) (h1 : Rb w p1 n1 xs) (h2 : Rb w p2 n2 xs) :
    Calls Tryz.prog 49 #[.slice p1 n1 c1, .slice p2 n2 c2] w fun e w' => e = .returned (.bool true) ∧ w' = w :=
  bytesEqual_run _ _ _ w (convert_bytes p1 n1 c1 xs w h1) (convert_bytes p2 n2 c2 xs w h2)

/-- bytes that may be written over: nothing, or a row among the blocks from base on, none of them t -/
def Wt (w : World) (base t : Nat) (v : Value) : Prop := ∃ p n c, v = .slice p n c ∧ n ≤ 1000000000000000 ∧ (0 < n → ∃ g cap f, p = some ⟨g, 0, none⟩ ∧ base ≤ g ∧ g ≠ t ∧ n ≤ cap ∧ w.rowIs g 5 cap f ∧ ∀ j, j < n → ∃ z : Int, f j = .int .u8 z)
theorem Ow.wt {w : World} {base t : Nat} {v : Value} {xs : List Nat} (h : Ow w base v xs) (hl : xs.length ≤ 1000000000000000) (ht : ∀ g, v.ownBlock = some g → g ≠ t) : Wt w base t v := by
  rcases h.2 with ⟨rfl, h0⟩ | ⟨g, cap, cur, rfl, hb, hh, hn, _, hcs, htk⟩
  · exact ⟨none, 0, 0, rfl, by omega, fun h => by omega⟩
  · refine ⟨_, _, cap, rfl, hl, fun _ => ⟨g, cap, fun j => cur.getD j (.int .u8 0), rfl, hb, ht g rfl, hn, ⟨cur, hh, by omega, fun i hi => ?_⟩, fun j hj => ⟨((xs.getD j 0 : Nat) : Int), ?_⟩⟩⟩
    · show cur[i]? = some (cur.getD i (.int .u8 0))
      rw [Array.getD_eq_getD_getElem?, Array.getElem?_eq_getElem (by omega)]; rfl
    · have h1 : (cur.toList.take (xs.length * 1))[j]? = some (.int .u8 ((xs.getD j 0 : Nat) : Int)) := by rw [htk]; exact vl_get hj
      rw [List.getElem?_take_of_lt (by omega), Array.getElem?_toList] at h1
      show cur.getD j (.int .u8 0) = _
      rw [Array.getD_eq_getD_getElem?, h1]; rfl
theorem Wt.keep {w w' : World} {base t : Nat} {v : Value} (h : Wt w base t v) {g : Nat} {cap : Nat} {f : Nat → Value} (k : Kp (fun b => b = g) w w') (hr : w'.rowIs g 5 cap f) (hf : ∀ cap' f', w.rowIs g 5 cap' f' → cap' = cap ∧ ∀ j, j < cap → (∃ z : Int, f' j = .int .u8 z) → ∃ z : Int, f j = .int .u8 z) : Wt w' base t v := by
  obtain ⟨p, n, c, rfl, hn, h⟩ := h
  refine ⟨p, n, c, rfl, hn, fun h0 => ?_⟩
  obtain ⟨g', cap', f', rfl, hb, ht, hc, hR, hz⟩ := h h0
  by_cases e : g' = g
  · subst e
    obtain ⟨rfl, h2⟩ := hf _ _ hR
    exact ⟨g', cap', f, rfl, hb, ht, hc, hr, fun j hj => h2 j (by omega) (hz j hj)⟩
  · exact ⟨g', cap', f', rfl, hb, ht, hc, k.row hR e, hz⟩

end Go.Proofs.YtippipeebkkghaaGreatDoor
