/- The walks of matrix.noughts, addTimes and scale. -/
import Derived.Test.YtnccnicgmjcdpaaDoorMem
namespace Go.Proofs.YtnccnicgmjcdpaaDoor
open Go.RowKit Go.Deep

/-- the headers, when r rows are made -/
def heads (N C r : Nat) : Nat → Value := fun j => if j < r then .slice (some ⟨N + 1 + j, 0, none⟩) C C else .slice none 0 0
theorem heads_succ (N C r j : Nat) : heads N C (r + 1) j = if j = r then .slice (some ⟨N + 1 + r, 0, none⟩) C C else heads N C r j := by
  unfold heads
  by_cases e : j = r
  · subst e; rw [if_pos (by omega), if_pos rfl]
  · rw [if_neg e]
    by_cases h : j < r
    · rw [if_pos h, if_pos (by omega)]
    · rw [if_neg h, if_neg (by omega)]

set_option maxRecDepth 100000 in
set_option maxHeartbeats 800000 in
theorem noughts_any (R C : Nat) (w : World) (hR : (R : Int) ≤ 1000) (hC : (C : Int) ≤ 1000) :
    Calls Tryd.prog 37 #[.int .i64 R, .int .i64 C] w fun e w' =>
      e = .returned (.slice (some ⟨w.heap.size, 0, none⟩) R R) ∧ Kp (fun _ => False) w w' ∧ w'.heap.size = w.heap.size + 1 + R ∧ Mat w' w.heap.size (fun i => w.heap.size + 1 + i) R C (fun _ _ => 0) := by
  have hmk1 := run_make_row' (P := Tryd.prog) 26 24 (.slice none 0 0) 24 Tryd.underlying26 info42 rfl .i64 .i64 R (by omega) (by omega)
  go_enter Tryd.func37, Tryd.ntmps37
  go_wp2
  clear hmk1
  go_loopg [11] R (fun gk i wr => ∃ r : Nat, r ≤ R ∧ gk = R - r ∧ i = .int .i64 r ∧ Kp (fun _ => False) w wr ∧ wr.heap.size = w.heap.size + 1 + r ∧ wr.rowIs w.heap.size 24 R (heads w.heap.size C r) ∧ ∀ j, j < r → wr.rowIs (w.heap.size + 1 + j) 5 C (fun _ => .int .u8 0))
  case atStart => exact ⟨0, Nat.zero_le _, rfl, rfl, (Kp.refl _ _).alloc _, by simp, (World.rowIs_made w _ R 24).congr (fun j _ => by simp [heads]), fun j hj => absurd hj (Nat.not_lt_zero _)⟩
  case round =>
    obtain ⟨r, hr, rfl, rfl, hK, hz, hT, hD⟩ := hrel
    by_cases hlt : (r : Int) < (R : Int)
    · have hmk2 := run_make_row' (P := Tryd.prog) 24 5 (.int .u8 0) 1 Tryd.underlying24 info5 rfl .i64 .i64 C (by omega) (by omega)
      have hst1 : ∀ o, (wr.alloc o).cell? ⟨w.heap.size, r, none⟩ = some (heads w.heap.size C r r) := fun o => (hT.alloc o).cell (by omega)
      have hst2 : ∀ o, (wr.alloc o).frozen? ⟨w.heap.size, r, none⟩ = false := fun o => (hT.alloc o).frozen r
      go_wp2
      have hnew := World.rowIs_made wr (.int .u8 0) C 5
      rw [hz] at hnew
      clear hmk2 hst1 hst2
      go_roundg (R - (r + 1))
      case rel => exact ⟨r + 1, by omega, rfl, by go_num, (hK.alloc _).setCell (fun h => absurd h (Nat.lt_irrefl _)) _, by simp [hz]; omega,
        ((hT.alloc _).set r _).congr (fun j _ => by rw [heads_succ]), fun j hj => by
          by_cases e : j = r
          · subst e
            exact hnew.setOther (by show w.heap.size + 1 + j ≠ w.heap.size; omega) _
          · exact ((hD j (by omega)).alloc _).setOther (by show w.heap.size + 1 + j ≠ w.heap.size; omega) _⟩
      case measure => omega
    · have e : r = R := by omega
      subst e
      go_wp2
      go_ret
      exact ⟨rfl, hK, hz, hT.congr (fun j hj => by simp [heads, hj]), hD, fun i j _ _ h => by omega, fun i _ => by omega, fun _ _ => by omega⟩
end Go.Proofs.YtnccnicgmjcdpaaDoor
