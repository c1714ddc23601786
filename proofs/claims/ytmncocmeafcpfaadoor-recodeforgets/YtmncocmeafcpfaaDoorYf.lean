/- Movers: Asks of one whose shard is durable. -/
import Derived.Test.YtmncocmeafcpfaaDoorYe
import Derived.Deep.RegionHeld3
namespace Go.Proofs.YtmncocmeafcpfaaDoor
set_option linter.unusedVariables false
set_option linter.unusedSimpArgs false
open Go.RowKit Go.Deep


section
variable {w : World} {m : Nat} {fp sv : Value} {fe : Int}

set_option maxRecDepth 100000 in
set_option maxHeartbeats 3200000 in
theorem masks_fence (ep : Int) (h : Lv w m (movA 3 9 0 0 3 fp sv fe)) : Calls Tryd.prog 24 #[.pointer (some ⟨m, 0, none⟩), .int .i64 ep] w fun e w' => ∃ g, e = .returned (.slice (some ⟨g, 0, none⟩) 1 1) ∧ Kp (fun _ => False) w w' ∧ Lv w' g (msgA ⟨14, 0, 3, 0, 0, 9, 0, fe, 0, false, ⟨0, 0, ⟨#[]⟩, 0, 0, 0, 0, 0, 0, 0, 0⟩⟩ (.slice none 0 0) (.slice none 0 0) (.slice none 0 0)).toList := by
  have m0 := h.cell (j := 0) rfl
  have m1 := h.cell (j := 1) rfl
  have m2 := h.cell (j := 2) rfl
  have m3 := h.cell (j := 3) rfl
  have m4 := h.cell (j := 4) rfl
  have m7 := h.cell (j := 7) rfl
  have H1 : Hid (Calls _ _ _ _ _) := mphase_ok m 3 w m0
  have HSw : Hid (∀ z, Kp (fun _ => False) w z → z.cell? ⟨m, 1, none⟩ = some (.int .i64 9) ∧ z.cell? ⟨m, 2, none⟩ = some (.int .i64 0) ∧ z.cell? ⟨m, 3, none⟩ = some (.int .i64 0) ∧ z.cell? ⟨m, 4, none⟩ = some (.int .i64 3) ∧ z.cell? ⟨m, 7, none⟩ = some (.int .i64 fe)) := fun z k => ⟨k.cellv m1 id, k.cellv m2 id, k.cellv m3 id, k.cellv m4 id, k.cellv m7 id⟩
  clear h
  go_enter Tryd.func24, Tryd.ntmps24
  go_wp2_with (go_at_call 15; refine H1.out.mono ?_; rintro e w1 ⟨rfl, hw1⟩; subst hw1)
  have kd : Kp (fun _ => False) w1 w1.drew := (Kp.refl _ _).drew
  go_region_held3 (fun z => z.cell? ⟨m, 1, none⟩ = some (.int .i64 9) ∧ z.cell? ⟨m, 2, none⟩ = some (.int .i64 0) ∧ z.cell? ⟨m, 3, none⟩ = some (.int .i64 0) ∧ z.cell? ⟨m, 4, none⟩ = some (.int .i64 3) ∧ z.cell? ⟨m, 7, none⟩ = some (.int .i64 fe))
    (first
      | exact HSw.out _ kd
      | exact HSw.out _ (kd.alloc _))
    (fail)
  go_wp2
  go_ret
  exact ⟨_, rfl, (Kp.refl _ _).drew.alloc _, (Lv.new _ _ _).keep ((Kp.refl (fun _ => False) _).drew) id⟩

end
end Go.Proofs.YtmncocmeafcpfaaDoor
