/- Movers: On and Asks of one whose shard is durable. -/
import Derived.Test.YtmncocmeafcpfaaDoorYd
import Derived.Deep.RegionHeld3
namespace Go.Proofs.YtmncocmeafcpfaaDoor
set_option linter.unusedVariables false
set_option linter.unusedSimpArgs false
open Go.RowKit Go.Deep

/-- a message of which most is nought -/
abbrev msgF (kind src blob index : Int) (ok : Bool) (bv : Value) : Array Value := #[.int .i64 kind, .int .i64 src, .int .i64 0, .int .i64 0, .int .i64 0, .int .i64 blob, .int .i64 index, .int .i64 0, .int .i64 0, .bool ok,
  .int .i64 0, .int .i64 0, .string ⟨#[]⟩, .int .i64 0, .int .i64 0, .int .i64 0, .int .i64 0, .int .i64 0, .int .u32 0, .int .i64 0, .int .i64 0, .slice none 0 0, .slice none 0 0, bv]

section
variable {w : World} {m : Nat} {fp sv : Value} {fe : Int}

set_option maxRecDepth 100000 in
set_option maxHeartbeats 1600000 in
theorem mfenced_not (h : Lv w m (movA 3 9 0 0 3 fp sv fe)) : Calls Tryd.prog 51 #[.pointer (some ⟨m, 0, none⟩), .agg (msgF 15 3 9 0 false (.slice none 0 0))] w fun e w' => e = .returned (.bool false) ∧ Kp (fun _ => False) w w' := by
  have hl : Lv (w.alloc (.cells (msgF 15 3 9 0 false (.slice none 0 0)) 45)) w.heap.size (msgF 15 3 9 0 false (.slice none 0 0)).toList := Lv.new w _ _
  have k0 : Kp (fun _ => False) w (w.alloc (.cells (msgF 15 3 9 0 false (.slice none 0 0)) 45)) := (Kp.refl _ _).alloc _
  have h' := h.keep k0 id
  have m1 := h'.cell (j := 1) rfl
  have m2 := h'.cell (j := 2) rfl
  have m4 := h'.cell (j := 4) rfl
  have x0 := hl.cell (j := 0) rfl
  have x1 := hl.cell (j := 1) rfl
  have x5 := hl.cell (j := 5) rfl
  have x6 := hl.cell (j := 6) rfl
  have x9 := hl.cell (j := 9) rfl
  clear h h' hl
  go_enter Tryd.func51, Tryd.ntmps51
  go_wp2
  go_quiet (fail)
  go_wp2
  go_ret
  exact ⟨rfl, k0.drewN _⟩

set_option maxRecDepth 100000 in
set_option maxHeartbeats 1600000 in
theorem mfenced_other (h : Lv w m (movA 3 9 0 0 3 fp sv fe)) : Calls Tryd.prog 51 #[.pointer (some ⟨m, 0, none⟩), .agg (msgF 15 2 9 0 true (.slice none 0 0))] w fun e w' => e = .returned (.bool false) ∧ Kp (fun _ => False) w w' := by
  have hl : Lv (w.alloc (.cells (msgF 15 2 9 0 true (.slice none 0 0)) 45)) w.heap.size (msgF 15 2 9 0 true (.slice none 0 0)).toList := Lv.new w _ _
  have k0 : Kp (fun _ => False) w (w.alloc (.cells (msgF 15 2 9 0 true (.slice none 0 0)) 45)) := (Kp.refl _ _).alloc _
  have h' := h.keep k0 id
  have m1 := h'.cell (j := 1) rfl
  have m2 := h'.cell (j := 2) rfl
  have m4 := h'.cell (j := 4) rfl
  have x0 := hl.cell (j := 0) rfl
  have x1 := hl.cell (j := 1) rfl
  have x5 := hl.cell (j := 5) rfl
  have x6 := hl.cell (j := 6) rfl
  have x9 := hl.cell (j := 9) rfl
  clear h h' hl
  go_enter Tryd.func51, Tryd.ntmps51
  go_wp2
  go_quiet (fail)
  go_wp2
  go_ret
  exact ⟨rfl, k0.drewN _⟩

set_option maxRecDepth 100000 in
set_option maxHeartbeats 1600000 in
theorem mfenced_ok (h : Lv w m (movA 3 9 0 0 3 fp sv fe)) : Calls Tryd.prog 51 #[.pointer (some ⟨m, 0, none⟩), .agg (msgF 15 3 9 0 true (.slice none 0 0))] w fun e w' => e = .returned (.bool true) ∧ Kp (fun b => b = m) w w' ∧ Lv w' m (movA 4 9 0 0 3 fp sv fe) := by
  have hl : Lv (w.alloc (.cells (msgF 15 3 9 0 true (.slice none 0 0)) 45)) w.heap.size (msgF 15 3 9 0 true (.slice none 0 0)).toList := Lv.new w _ _
  have k0 : Kp (fun _ => False) w (w.alloc (.cells (msgF 15 3 9 0 true (.slice none 0 0)) 45)) := (Kp.refl _ _).alloc _
  have h' := h.keep k0 id
  have m0 := h'.cell (j := 0) rfl
  have m1 := h'.cell (j := 1) rfl
  have m2 := h'.cell (j := 2) rfl
  have m4 := h'.cell (j := 4) rfl
  have f0 := h'.fz (j := 0) (by simp)
  have x0 := hl.cell (j := 0) rfl
  have x1 := hl.cell (j := 1) rfl
  have x5 := hl.cell (j := 5) rfl
  have x6 := hl.cell (j := 6) rfl
  have x9 := hl.cell (j := 9) rfl
  have HL : Hid (Lv (w.alloc (.cells (msgF 15 3 9 0 true (.slice none 0 0)) 45)) m (movA 3 9 0 0 3 fp sv fe)) := h'
  clear h h' hl
  go_enter Tryd.func51, Tryd.ntmps51
  go_wp2
  go_quiet (fail)
  go_wp2
  go_ret
  refine ⟨rfl, Kp.setCell (S := fun b => b = m) ((k0.drewN _).mono (fun _ _ e => e.elim)) (fun _ => rfl) _, ?_⟩
  exact (HL.out.keep ((Kp.refl (fun _ => False) _).drewN _) id).set1 0 _ (by simp)

set_option maxRecDepth 100000 in
set_option maxHeartbeats 1600000 in
theorem mon_not (h : Lv w m (movA 3 9 0 0 3 fp sv fe)) : Calls Tryd.prog 16 #[.pointer (some ⟨m, 0, none⟩), .agg (msgF 15 3 9 0 false (.slice none 0 0))] w fun e w' => e = .returned (.bool false) ∧ Kp (fun _ => False) w w' := by
  have k0 : Kp (fun _ => False) w (w.alloc (.cells (msgF 15 3 9 0 false (.slice none 0 0)) 45)) := (Kp.refl _ _).alloc _
  have h' := h.keep k0 id
  have HX : Hid (Lv (w.alloc (.cells (msgF 15 3 9 0 false (.slice none 0 0)) 45)) w.heap.size (msgF 15 3 9 0 false (.slice none 0 0)).toList) := Lv.new w _ _
  have H1 : Hid (Calls _ _ _ _ _) := mphase_ok m 3 _ (h'.cell (j := 0) rfl)
  have H2 : Hid (Calls _ _ _ _ _) := mfenced_not h'
  clear h h'
  go_enter Tryd.func16, Tryd.ntmps16
  go_wp2_with (first | (refine wpList_load_all rfl 45 _ rfl 24 w.heap.size (msgF 15 3 9 0 false (.slice none 0 0)).toList rfl HX.out dsMsg szMsg rfl ?_) | (go_at_call 15; refine H1.out.mono ?_; rintro e w1 ⟨rfl, hw1⟩; subst hw1) | (go_at_call 51; refine H2.out.mono ?_; rintro e w2 ⟨rfl, k2⟩))
  go_ret
  exact ⟨rfl, k0.trans k2 (fun _ _ e => e)⟩

set_option maxRecDepth 100000 in
set_option maxHeartbeats 1600000 in
theorem mon_other (h : Lv w m (movA 3 9 0 0 3 fp sv fe)) : Calls Tryd.prog 16 #[.pointer (some ⟨m, 0, none⟩), .agg (msgF 15 2 9 0 true (.slice none 0 0))] w fun e w' => e = .returned (.bool false) ∧ Kp (fun _ => False) w w' := by
  have k0 : Kp (fun _ => False) w (w.alloc (.cells (msgF 15 2 9 0 true (.slice none 0 0)) 45)) := (Kp.refl _ _).alloc _
  have h' := h.keep k0 id
  have HX : Hid (Lv (w.alloc (.cells (msgF 15 2 9 0 true (.slice none 0 0)) 45)) w.heap.size (msgF 15 2 9 0 true (.slice none 0 0)).toList) := Lv.new w _ _
  have H1 : Hid (Calls _ _ _ _ _) := mphase_ok m 3 _ (h'.cell (j := 0) rfl)
  have H2 : Hid (Calls _ _ _ _ _) := mfenced_other h'
  clear h h'
  go_enter Tryd.func16, Tryd.ntmps16
  go_wp2_with (first | (refine wpList_load_all rfl 45 _ rfl 24 w.heap.size (msgF 15 2 9 0 true (.slice none 0 0)).toList rfl HX.out dsMsg szMsg rfl ?_) | (go_at_call 15; refine H1.out.mono ?_; rintro e w1 ⟨rfl, hw1⟩; subst hw1) | (go_at_call 51; refine H2.out.mono ?_; rintro e w2 ⟨rfl, k2⟩))
  go_ret
  exact ⟨rfl, k0.trans k2 (fun _ _ e => e)⟩

set_option maxRecDepth 100000 in
set_option maxHeartbeats 1600000 in
theorem mon_fenced (h : Lv w m (movA 3 9 0 0 3 fp sv fe)) : Calls Tryd.prog 16 #[.pointer (some ⟨m, 0, none⟩), .agg (msgF 15 3 9 0 true (.slice none 0 0))] w fun e w' => e = .returned (.bool true) ∧ Kp (fun b => b = m) w w' ∧ Lv w' m (movA 4 9 0 0 3 fp sv fe) := by
  have k0 : Kp (fun _ => False) w (w.alloc (.cells (msgF 15 3 9 0 true (.slice none 0 0)) 45)) := (Kp.refl _ _).alloc _
  have h' := h.keep k0 id
  have HX : Hid (Lv (w.alloc (.cells (msgF 15 3 9 0 true (.slice none 0 0)) 45)) w.heap.size (msgF 15 3 9 0 true (.slice none 0 0)).toList) := Lv.new w _ _
  have H1 : Hid (Calls _ _ _ _ _) := mphase_ok m 3 _ (h'.cell (j := 0) rfl)
  have H2 : Hid (Calls _ _ _ _ _) := mfenced_ok h'
  clear h h'
  go_enter Tryd.func16, Tryd.ntmps16
  go_wp2_with (first | (refine wpList_load_all rfl 45 _ rfl 24 w.heap.size (msgF 15 3 9 0 true (.slice none 0 0)).toList rfl HX.out dsMsg szMsg rfl ?_) | (go_at_call 15; refine H1.out.mono ?_; rintro e w1 ⟨rfl, hw1⟩; subst hw1) | (go_at_call 51; refine H2.out.mono ?_; rintro e w2 ⟨rfl, k2, l2⟩))
  go_ret
  exact ⟨rfl, (k0.mono (fun _ _ e => e.elim)).trans k2 (fun _ _ e => e), l2⟩

set_option maxRecDepth 100000 in
set_option maxHeartbeats 800000 in
theorem masks_done (ep : Int) (h : Lv w m (movA 4 9 0 0 3 fp sv fe)) : Calls Tryd.prog 24 #[.pointer (some ⟨m, 0, none⟩), .int .i64 ep] w fun e w' => e = .returned (.slice none 0 0) ∧ w' = w := by
  have H1 : Hid (Calls _ _ _ _ _) := mphase_ok m 4 w (h.cell (j := 0) rfl)
  clear h
  go_enter Tryd.func24, Tryd.ntmps24
  go_wp2_with (go_at_call 15; refine H1.out.mono ?_; rintro e w1 ⟨rfl, hw1⟩; subst hw1)
  go_ret
  exact ⟨rfl, rfl⟩
end
end Go.Proofs.YtmncocmeafcpfaaDoor
