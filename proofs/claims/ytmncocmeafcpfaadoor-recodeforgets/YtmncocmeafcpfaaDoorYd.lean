/- Movers: Phase, made, Skip, Stored, Shard; On and Asks of one whose shard is durable. -/
import Derived.Test.YtmncocmeafcpfaaDoorYc
namespace Go.Proofs.YtmncocmeafcpfaaDoor
set_option linter.unusedVariables false
set_option linter.unusedSimpArgs false
open Go.RowKit Go.Deep

set_option maxRecDepth 100000 in
set_option maxHeartbeats 800000 in
theorem mphase_ok (m : Nat) (p : Int) (w : World) (h : w.cell? ⟨m, 0, none⟩ = some (.int .i64 p)) : Calls Tryd.prog 15 #[.pointer (some ⟨m, 0, none⟩)] w fun e w' => e = .returned (.int .i64 p) ∧ w' = w := by
  go_enter Tryd.func15, Tryd.ntmps15
  go_wp2
  go_ret
  exact ⟨rfl, rfl⟩

set_option maxRecDepth 100000 in
set_option maxHeartbeats 800000 in
theorem mmade_ok (m : Nat) (p : Int) (w : World) (h : w.cell? ⟨m, 0, none⟩ = some (.int .i64 p)) (hp : p ≠ 0) : Calls Tryd.prog 52 #[.pointer (some ⟨m, 0, none⟩)] w fun e w' => e = .returned (.bool true) ∧ w' = w := by
  have H : Hid (Calls _ _ _ w _) := mphase_ok m p w h
  clear h
  go_enter Tryd.func52, Tryd.ntmps52
  go_wp2_with (go_at_call 15; refine H.out.mono ?_; rintro e w1 ⟨rfl, rfl⟩)
  go_ret
  exact ⟨by simp [hp], rfl⟩

section
variable {w : World} {m : Nat} {p bl ix nd old : Int} {fp sv : Value} {fe : Int}

set_option maxRecDepth 100000 in
set_option maxHeartbeats 800000 in
theorem mskip_no (h : Lv w m (movA p bl ix nd old fp sv fe)) (h0 : p ≠ 0) (h3 : p ≠ 3) : Calls Tryd.prog 21 #[.pointer (some ⟨m, 0, none⟩)] w fun e w' => e = .returned (.int .i64 1) ∧ w' = w := by
  have c0 := h.cell (j := 0) rfl
  have H : Hid (Calls _ _ _ w _) := mmade_ok m p w c0 h0
  clear h h0
  go_enter Tryd.func21, Tryd.ntmps21
  go_wp2_with (go_at_call 52; refine H.out.mono ?_; rintro e w1 ⟨rfl, rfl⟩)
  go_ret
  exact ⟨rfl, rfl⟩

set_option maxRecDepth 100000 in
set_option maxHeartbeats 800000 in
theorem mskip_ok (h : Lv w m (movA 3 bl ix nd old fp sv fe)) : Calls Tryd.prog 21 #[.pointer (some ⟨m, 0, none⟩)] w fun e w' => e = .returned (.int .i64 0) ∧ Kp (fun b => b = m) w w' ∧ Lv w' m (movA 4 bl ix nd old fp sv fe) := by
  have c0 := h.cell (j := 0) rfl
  have f0 := h.fz (j := 0) (by simp)
  have H : Hid (Calls _ _ _ w _) := mmade_ok m 3 w c0 (by decide)
  have HF : Hid (Lv (w.setCell ⟨m, 0, none⟩ (.int .i64 4)) m (movA 4 bl ix nd old fp sv fe)) := h.set1 0 _ (by simp)
  clear h
  go_enter Tryd.func21, Tryd.ntmps21
  go_wp2_with (go_at_call 52; refine H.out.mono ?_; rintro e w1 ⟨rfl, rfl⟩)
  go_ret
  exact ⟨rfl, (Kp.refl (fun b => b = m) _).setCell (fun _ => rfl) _, HF.out⟩

set_option maxRecDepth 100000 in
set_option maxHeartbeats 800000 in
theorem mstored_ok (ep : Int) (h : Lv w m (movA 2 bl ix nd old fp sv fe)) (he : 0 ≤ ep) (he2 : ep < 1000) : Calls Tryd.prog 22 #[.pointer (some ⟨m, 0, none⟩), .int .i64 ep] w fun e w' => e = .returned (.int .i64 0) ∧ Kp (fun b => b = m) w w' ∧ Lv w' m (movA 3 bl ix nd old fp sv (ep + 1)) := by
  have c0 := h.cell (j := 0) rfl
  have f0 := h.fz (j := 0) (by simp)
  have c7 := h.cell (j := 7) rfl
  have f7 := h.fz (j := 7) (by simp)
  have H : Hid (Calls _ _ _ w _) := mmade_ok m 2 w c0 (by decide)
  have hw : wrap64 (ep + 1) = ep + 1 := by unfold wrap64; omega
  have h1 : Lv (w.setCell ⟨m, 0, none⟩ (.int .i64 3)) m (movA 3 bl ix nd old fp sv fe) := h.set1 0 _ (by simp)
  have c7a := h1.cell (j := 7) rfl
  have f7a := h1.fz (j := 7) (by simp)
  have HF : Hid (Lv ((w.setCell ⟨m, 0, none⟩ (.int .i64 3)).setCell ⟨m, 7, none⟩ (.int .i64 (ep + 1))) m (movA 3 bl ix nd old fp sv (ep + 1))) := h1.set1 7 _ (by simp)
  clear h h1
  go_enter Tryd.func22, Tryd.ntmps22
  go_wp2_with (go_at_call 52; refine H.out.mono ?_; rintro e w1 ⟨rfl, rfl⟩)
  go_ret
  exact ⟨rfl, ((Kp.refl (fun b => b = m) _).setCell (fun _ => rfl) _).setCell (fun _ => rfl) _, HF.out⟩

set_option maxRecDepth 100000 in
set_option maxHeartbeats 800000 in
theorem mshard_ok (pb : Option Addr) (n c : Nat) (xs : List Nat) (h : Lv w m (movA p bl ix nd old fp (.slice pb n c) fe)) (h0 : p ≠ 0) (hb : Rb w pb n xs) (hn : Hid (n ≤ 140737488355328)) : Calls Tryd.prog 19 #[.pointer (some ⟨m, 0, none⟩)] w fun e w' => ∃ v, e = .returned v ∧ Kp (fun _ => False) w w' ∧ Ow w' w.heap.size v xs := by
  have c0 := h.cell (j := 0) rfl
  have c6 := h.cell (j := 6) rfl
  have H : Hid (Calls _ _ _ w _) := mmade_ok m p w c0 h0
  have HC : Hid (Calls _ _ _ w _) := clone_any pb n c xs w hb hn
  clear h h0 hb hn
  go_enter Tryd.func19, Tryd.ntmps19
  go_wp2_with (first | (go_at_call 52; refine H.out.mono ?_; rintro e w1 ⟨rfl, rfl⟩) | (go_at_call 17; refine HC.out.mono ?_; rintro e w2 ⟨v, rfl, k2, o2⟩))
  go_ret
  exact ⟨v, rfl, k2, o2⟩
end
end Go.Proofs.YtmncocmeafcpfaaDoor
