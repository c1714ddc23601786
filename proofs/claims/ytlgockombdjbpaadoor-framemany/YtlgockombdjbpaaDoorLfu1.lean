/- The walk of the law FrameUnwraps: what is in the frame at the beginning, and what stands behind, or the error, of any bytes. -/
import Derived.Test.YtlgockombdjbpaaDoorLfw1
import Derived.Test.YtlgockombdjbpaaDoorFq
namespace Go.Proofs.YtlgockombdjbpaaDoor
open Go.RowKit Go.Deep

theorem rowIs_two (w : World) (u v : Value) (t : TypeId) : (w.alloc (.cells #[u, v] t)).rowIs w.heap.size t 2 (fun i => if i = 0 then u else v) :=
  ⟨#[u, v], heap_alloc_new w _, rfl, fun i hi => (by
    have : i = 0 ∨ i = 1 := by omega
    rcases this with rfl | rfl <;> rfl)⟩
theorem unB_byte {xs : List Nat} (h : ∀ x ∈ xs, x < 256) : ∀ x ∈ unB xs, x < 256 := by
  unfold unB; split
  · intro x hx; exact h x (List.mem_of_mem_take (List.mem_of_mem_drop hx))
  · intro x hx; cases hx
theorem unR_byte {xs : List Nat} (h : ∀ x ∈ xs, x < 256) : ∀ x ∈ unR xs, x < 256 := by
  unfold unR; split
  · intro x hx; exact h x (List.mem_of_mem_drop hx)
  · intro x hx; cases hx
theorem unB_length (xs : List Nat) : (unB xs).length ≤ xs.length := by
  unfold unB; split
  · rw [List.length_drop, List.length_take]; omega
  · simp
theorem unR_length (xs : List Nat) : (unR xs).length ≤ xs.length := by
  unfold unR; split
  · rw [List.length_drop]; omega
  · simp

set_option maxRecDepth 100000 in
set_option maxHeartbeats 1600000 in
theorem frameUnwraps_walk (p : Option Addr) (n c : Nat) (xs : List Nat) (w : World) (h : Rb w p n xs) (hc : n ≤ c) (hn : Hid (n ≤ 140737488355328)) (ht : Turns w) :
    Calls Tryd.prog 4 #[.slice p n c] w fun e w' => e = .returned (.bool true) ∧ Kp (fun _ => False) w w' := by
  have HL : Hid (xs.length = n) := h.len
  go_enter Tryd.func4, Tryd.ntmps4
  go_wp2_with fail
  refine (clone_any p n c xs w h hn).mono ?_
  rintro e w1 ⟨v1, rfl, k1, o1⟩
  obtain ⟨p1, c1, rfl, hc1, r1, hb1⟩ := o1.rb h.byte
  go_wp2_with fail
  refine (unwrap_any p1 _ c1 xs w1 r1 hc1 (by rw [HL.out]; exact hn) (ht.keep0 k1)).mono ?_
  rintro e w2 ⟨v2, v2', rfl, k2, o2, o2'⟩
  have k12 := k1.trans k2 (fun _ _ e => e)
  go_wp2_with fail
  refine (refUnwrap_any p n c xs w2 (h.keep0 k12) hc hn).mono ?_
  rintro e w3 ⟨v3, v3', rfl, k3, o3, o3'⟩
  have k13 := k12.trans k3 (fun _ _ e => e)
  obtain ⟨p2, c2, rfl, hc2, r2, hb2⟩ := o2.rb (unB_byte h.byte)
  obtain ⟨p3, c3, rfl, hc3, r3, hb3⟩ := o3.rb (unB_byte h.byte)
  obtain ⟨p4, c4, rfl, hc4, r4, hb4⟩ := o2'.rb (unR_byte h.byte)
  obtain ⟨p5, c5, rfl, hc5, r5, hb5⟩ := o3'.rb (unR_byte h.byte)
  have HEq : Hid (Calls _ _ _ w3 _) := equal_same p2 p3 _ _ c2 c3 (unB xs) w3 (r2.keep0 k3) r3
  have HEr : Hid (Calls _ _ _ w3 _) := equal_same p4 p5 _ _ c4 c5 (unR xs) w3 (r4.keep0 k3) r5
  obtain ⟨L2, hL2⟩ : ∃ L, L = (unB xs).length := ⟨_, rfl⟩
  obtain ⟨L4, hL4⟩ : ∃ L, L = (unR xs).length := ⟨_, rfl⟩
  have HL2 : Hid (L2 = (unB xs).length) := hL2
  have HL4 : Hid (L4 = (unR xs).length) := hL4
  have O2 : Hid (Ow w2 w1.heap.size (.slice p2 L2 c2) (unB xs)) := by rw [hL2]; exact o2
  have O4 : Hid (Ow w2 w1.heap.size (.slice p4 L4 c4) (unR xs)) := by rw [hL4]; exact o2'
  rw [← hL2, ← hL4]
  rw [← hL2] at HEq
  rw [← hL4] at HEr
  have R1 : Hid (Rb w1 p1 xs.length xs) := r1
  clear o1 o2 o2' o3 o3' r2 r3 r4 r5 hb1 hb2 hb3 hb4 hb5 hL2 hL4 r1
  go_wp2_with (first
    | (have k9 := k99; go_at_call 11; refine HEr.out.mono ?_; rintro e w' ⟨rfl, rfl⟩)
    | (go_at_call 11; refine HEq.out.mono ?_; rintro e w' ⟨rfl, rfl⟩; have k99 := k13))
  have o2' : Ow (w'.alloc (.cells #[.slice p2 L2 c2, .slice p4 L4 c4] 22)) w1.heap.size (.slice p2 L2 c2) (unB xs) := World.ownsRow.alloc (ownsRow_keep O2.out k3 (fun _ _ => id)) _
  have o4' : Ow (w'.alloc (.cells #[.slice p2 L2 c2, .slice p4 L4 c4] 22)) w1.heap.size (.slice p4 L4 c4) (unR xs) := World.ownsRow.alloc (ownsRow_keep O4.out k3 (fun _ _ => id)) _
  have hx1 := unB_length xs
  have hx2 := unR_length xs
  have hw2 := Ow.wt (t := w'.heap.size) o2' (by have := hn.out; have := HL.out; omega) (fun g hg => by have := (ownBlock_lt O2.out hg).2; have := k3.size; omega)
  have hw4 := Ow.wt (t := w'.heap.size) o4' (by have := hn.out; have := HL.out; omega) (fun g hg => by have := (ownBlock_lt O4.out hg).2; have := k3.size; omega)
  have HSp : Hid (Calls _ _ _ _ _) := spoil_any w1.heap.size w'.heap.size 2 2 _ _ (rowIs_two w' (.slice p2 L2 c2) (.slice p4 L4 c4) _) (fun i _ => by
    by_cases e : i = 0
    · simp only [e, if_true]; exact hw2
    · simp only [e, if_false]; exact hw4) (by omega)
  refine HSp.out.mono ?_
  rintro e w4 ⟨rfl, k4⟩
  have k4' : Kp (fun b => w1.heap.size ≤ b) w' w4 := ((Kp.refl _ _).alloc _).trans k4 (fun _ _ e => e)
  have k14 : Kp (fun b => w1.heap.size ≤ b) w1 w4 := ((k2.trans k3 (fun _ _ e => e)).mono (fun _ _ e => e.elim)).trans k4' (fun _ _ e => e)
  have k14 := k14.fresh
  have k04 := k1.trans k14 (fun _ _ e => e)
  have HEq2 : Hid (Calls _ _ _ w4 _) := equal_same p1 p _ n c1 c xs w4 (R1.out.keep0 k14) (h.keep0 k04)
  have HWr : Hid (Calls _ _ _ w4 _) := frameWraps_walk none 0 0 [] w4 (Rb.nil _ _) (Nat.le_refl _) (Nat.zero_le _) (ht.keep0 k04)
  clear HSp hw2 hw4 o2' o4' HEq HEr h k4 k14 hx1 hx2
  go_wp2_with (first
    | (go_at_call 11; refine HEq2.out.mono ?_; rintro e w' ⟨rfl, rfl⟩)
    | (go_at_call 3; refine HWr.out.mono ?_; rintro e w5 ⟨rfl, k5⟩))
  go_ret
  exact ⟨rfl, k04.trans k5 (fun _ _ e => e)⟩
end Go.Proofs.YtlgockombdjbpaaDoor
