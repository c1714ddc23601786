/- The walks of frame.Unwrap and of the reference's Unwrap. -/
import Derived.Test.YtlgockombdjbpaaDoorFu
import Derived.Deep.RegionWith
namespace Go.Proofs.YtlgockombdjbpaaDoor
open Go.RowKit Go.Deep

def unB (xs : List Nat) : List Nat := if lkE xs = 0 then (xs.take (3 + lkN xs)).drop 3 else []
def unR (xs : List Nat) : List Nat := if lkE xs = 0 then xs.drop (3 + lkN xs + 4) else []
theorem lkE_zero {xs : List Nat} (h : lkE xs = 0) : lkN xs + 7 ≤ xs.length := by
  unfold lkE at h
  split at h
  · simp at h
  split at h
  · simp at h
  split at h
  · simp at h
  split at h
  · simp at h
  split at h
  · simp at h
  · omega
theorem Rb.world {w w' : World} {p : Option Addr} {n : Nat} {xs : List Nat} (h : Rb w p n xs) (hw : w'.heap = w.heap) : Rb w' p n xs :=
  ⟨h.len, h.byte, fun j hj => by obtain ⟨b, o, e, hc⟩ := h.cell j hj; exact ⟨b, o, e, by simpa [World.cell?, hw] using hc⟩⟩

set_option maxRecDepth 100000 in
set_option maxHeartbeats 1600000 in
theorem unwrap_any (p : Option Addr) (n c : Nat) (xs : List Nat) (w : World) (h : Rb w p n xs) (hc : n ≤ c) (hn : Hid (n ≤ 140737488355328)) (ht : Turns w) :
    Calls Tryd.prog 15 #[.slice p n c] w fun e w' => ∃ v1 v2, e = .returned (.tuple #[v1, v2, .int .i64 ((lkE xs : Nat) : Int)]) ∧ Kp (fun _ => False) w w' ∧ Ow w' w.heap.size v1 (unB xs) ∧ Ow w' w.heap.size v2 (unR xs) := by
  have HL : Hid (Calls _ _ _ w _) := look_any p n c xs w h hc (by have := hn.out; omega) ht
  by_cases hE : lkE xs = 0
  · have hlen := lkE_zero hE
    have hl := h.len
    have e1 : lkP xs = 3 + lkN xs := by unfold lkP; rw [if_pos hE]
    have e2 : unB xs = (xs.take (3 + lkN xs)).drop 3 := by unfold unB; rw [if_pos hE]
    have e3 : unR xs = xs.drop (3 + lkN xs + 4) := by unfold unR; rw [if_pos hE]
    rw [hE, e1] at HL
    rw [hE, e2, e3]
    obtain ⟨N, hN⟩ : ∃ N, N = lkN xs := ⟨_, rfl⟩
    rw [← hN] at HL hlen ⊢
    have s1 := slice_lh p n c 3 (3 + N) (by omega) (by omega)
    have s2 := slice_l p n c (3 + N + 4) (by omega)
    have r1 := h.part hc (l := 3) (r := 3 + N) (by omega) (by omega)
    have r2 := h.part hc (l := 3 + N + 4) (r := n) (by omega) (by omega)
    obtain ⟨p1, hp1⟩ : ∃ p1, p1 = if c = 3 then p else p.map (·.add (3 * 1)) := ⟨_, rfl⟩
    obtain ⟨p2, hp2⟩ : ∃ p2, p2 = if c = 3 + N + 4 then p else p.map (·.add ((3 + N + 4) * 1)) := ⟨_, rfl⟩
    rw [← hp1] at s1 r1
    rw [← hp2] at s2 r2
    rw [List.take_of_length_le (l := xs) (i := n) (by omega)] at r2
    have e3 : ((3 + N : Nat) : Int) = 3 + (N : Int) := by omega
    have e7 : ((3 + N + 4 : Nat) : Int) = 3 + (N : Int) + 4 := by omega
    have e33 : ((3 : Nat) : Int) = 3 := rfl
    have eN : 3 + N - 3 = N := by omega
    rw [eN] at s1 r1
    rw [e3, e33] at s1
    rw [e7] at s2
    rw [e3] at HL
    obtain ⟨L2, hL2⟩ : ∃ L2, L2 = n - (3 + N + 4) := ⟨_, rfl⟩
    obtain ⟨C2, hC2⟩ : ∃ C2, C2 = c - (3 + N + 4) := ⟨_, rfl⟩
    obtain ⟨C1, hC1⟩ : ∃ C1, C1 = c - 3 := ⟨_, rfl⟩
    have HL2 : Hid (L2 ≤ n) := by show _ ≤ _; omega
    rw [← hL2] at s2 r2
    rw [← hC2] at s2
    rw [← hC1] at s1
    clear hC1 hC2 hL2
    have hwr : IntKind.i64.wrap (3 + (N : Int) + 4) = 3 + (N : Int) + 4 := by rw [IntKind.wrap_i64]; have := hn.out; omega
    have HC1 : Hid (∀ cc w', Kp (fun _ => False) w w' → Calls Tryd.prog 8 #[.slice p1 N cc] w' fun e w'' => ∃ v, e = .returned v ∧ Kp (fun _ => False) w' w'' ∧ Ow w'' w'.heap.size v ((xs.take (3 + N)).drop 3)) :=
      fun cc w' k => clone_any p1 N cc _ w' (r1.keep0 k) (by have := hn.out; show _ ≤ _; omega)
    have HC2 : Hid (∀ cc w', Kp (fun _ => False) w w' → Calls Tryd.prog 8 #[.slice p2 L2 cc] w' fun e w'' => ∃ v, e = .returned v ∧ Kp (fun _ => False) w' w'' ∧ Ow w'' w'.heap.size v (xs.drop (3 + N + 4))) :=
      fun cc w' k => clone_any p2 L2 cc _ w' (r2.keep0 k) (by have := hn.out; have := HL2.out; show _ ≤ _; omega)
    clear r1 r2 hp1 hp2 e3 e7 e33 eN hN hlen hl h hE e1 e2 ht hc
    go_enter Tryd.func15, Tryd.ntmps15
    go_wp2_with fail
    refine HL.out.mono ?_
    rintro e w1 ⟨rfl, m, hw1⟩
    have k1 : Kp (fun _ => False) w w1 := by rw [hw1]; exact (Kp.refl _ _).drewN _
    clear hw1 HL
    go_wp2
    go_region_with
      (first
        | (go_at_call 8; have k3 := k2; refine (HC2.out _ _ k3).mono ?_; rintro e wb ⟨vb, rfl, kb, ob⟩)
        | (go_at_call 8; refine (HC1.out _ _ k1.drew).mono ?_; rintro e wa ⟨va, rfl, ka, oa⟩; have k2 := k1.drew.trans ka (fun _ _ e => e)))
    all_goals go_wp2
    all_goals go_ret3
    all_goals exact ⟨va, vb, rfl, k2.trans kb (fun _ _ e => e), ownsRow_base (ownsRow_keep oa kb (fun _ _ => id)) k1.size, ownsRow_base ob k2.size⟩
  · have e1 : lkP xs = 0 := by unfold lkP; rw [if_neg hE]
    have e2 : unB xs = [] := by unfold unB; rw [if_neg hE]
    have e3 : unR xs = [] := by unfold unR; rw [if_neg hE]
    rw [e1] at HL
    rw [e2, e3]
    obtain ⟨E, hEe⟩ : ∃ E, E = lkE xs := ⟨_, rfl⟩
    rw [← hEe] at HL hE ⊢
    have d1 : ((E : Int) != 0) = true := by rw [bne_iff_ne]; omega
    clear e1 e2 e3 hEe hE h ht
    go_enter Tryd.func15, Tryd.ntmps15
    go_wp2_with fail
    refine HL.out.mono ?_
    rintro e w1 ⟨rfl, m, hw1⟩
    have k1 : Kp (fun _ => False) w w1 := by rw [hw1]; exact (Kp.refl _ _).drewN _
    clear hw1 HL
    go_wp2
    go_ret3
    exact ⟨_, _, rfl, k1, World.ownsRow_nil _ _ _ _, World.ownsRow_nil _ _ _ _⟩
end Go.Proofs.YtlgockombdjbpaaDoor
