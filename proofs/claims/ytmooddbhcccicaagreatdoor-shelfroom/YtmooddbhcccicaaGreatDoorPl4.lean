/- A new plate; its image. -/
import Derived.Test.YtmooddbhcccicaaGreatDoorPl3
namespace Go.Proofs.YtmooddbhcccicaaGreatDoor
open Go.RowKit Go.Deep Go.Maps

set_option maxRecDepth 100000 in
set_option maxHeartbeats 400000 in
theorem isCount_ok (n : Nat) (w : World) (h1 : 1 ≤ (n : Int)) (h2 : (n : Int) ≤ 8192) : Calls Tryz.prog 59 #[.int .i64 (n : Int)] w fun e w' => e = .returned (.bool true) ∧ w' = w := by
  have d1 : 1 ≤ n := by omega
  have d2 : n ≤ 8192 := by omega
  go_enter Tryz.func59, Tryz.ntmps59
  go_wp2
  go_ret
  exact ⟨rfl, rfl⟩

set_option maxRecDepth 100000 in
set_option maxHeartbeats 400000 in
theorem blank_ok (n : Nat) (w : World) (h1 : 1 ≤ (n : Int)) (h2 : (n : Int) ≤ 8192) : Calls Tryz.prog 60 #[.int .i64 (n : Int)] w fun e w' => ∃ b d m, e = .returned (.pointer (some ⟨b, 0, none⟩)) ∧ Kp (fun _ => False) w w' ∧ w.heap.size ≤ b ∧ w.heap.size ≤ d ∧ w.heap.size ≤ m ∧ Pt w' b d m n 0 (List.replicate (n * 64) 0) (fun _ => none) := by
  have hmk : ∀ w : World, (Instr.makeSlice 34 (.int .i64 ((n : Int) * 64)) (.int .i64 ((n : Int) * 64))).run Tryz.prog w = .ok (.slice (some ⟨w.heap.size, 0, none⟩) (n * 64) (n * 64)) (w.alloc (.cells (madeCells #[.int .u8 0] (n * 64)) 5)) := fun w => by
    have := run_make_row' (P := Tryz.prog) 34 5 (.int .u8 0) 1 Tryz.underlying34 info5 rfl .i64 .i64 (n * 64) (by omega) (by omega) w
    rw [show ((n * 64 : Nat) : Int) = (n : Int) * 64 from by omega] at this
    exact this
  have hmm : ∀ (t : TypeId) (w : World), (Instr.makeMap t none).run Tryz.prog w = .ok (.map (some w.heap.size)) (w.alloc (.map #[] 0)) := fun _ _ => rfl
  go_enter Tryz.func60, Tryz.ntmps60
  go_wp2
  go_ret
  obtain ⟨w1, hw1⟩ : ∃ x, x = w.alloc (.cells (madeCells #[.int .u8 0] (n * 64)) 5) := ⟨_, rfl⟩
  obtain ⟨w2, hw2⟩ : ∃ x, x = w1.alloc (.map #[] 0) := ⟨_, rfl⟩
  have z1 : w1.heap.size = w.heap.size + 1 := by rw [hw1]; simp
  have z2 : w2.heap.size = w1.heap.size + 1 := by rw [hw2]; simp
  have k1 : Kp (fun _ => False) w w1 := by rw [hw1]; exact (Kp.refl _ _).alloc _
  have k2 : Kp (fun _ => False) w1 w2 := by rw [hw2]; exact (Kp.refl _ _).alloc _
  have r1 : w1.rowIs w.heap.size 5 (n * 64) (fun j => .int .u8 (((List.replicate (n * 64) 0).getD j 0 : Nat) : Int)) := by
    rw [hw1]
    exact (World.rowIs_made w (.int .u8 0) (n * 64) 5).congr (fun j hj => by rw [List.getD_eq_getElem?_getD, List.getElem?_replicate, if_pos hj]; rfl)
  have m2 : Mp w2 w1.heap.size n 0 (fun _ => none) := by rw [hw2]; exact Mp.made w1 n
  rw [← hw1, ← hw2]
  obtain ⟨cs, hcs⟩ : ∃ cs : Array Value, cs = #[.int .i64 (n : Int), .slice (some ⟨w.heap.size, 0, none⟩) (n * 64) (n * 64), .map (some (w.heap.size + 1)), .bool false] := ⟨_, rfl⟩
  rw [← hcs]
  obtain ⟨w3, hw3⟩ : ∃ x, x = w2.alloc (.cells cs 103) := ⟨_, rfl⟩
  have e2 : w2.heap.size = w.heap.size + 1 + 1 := by omega
  rw [← hw3]
  have k3 : Kp (fun _ => False) w2 w3 := by rw [hw3]; exact (Kp.refl _ _).alloc _
  have hh := heap_alloc_new w2 (.cells cs 103)
  rw [← hw3, e2] at hh
  have cc : ∀ j v, cs[j]? = some v → w3.cell? ⟨w.heap.size + 1 + 1, j, none⟩ = some v := fun j v hv => by
    rw [cell_of_row _ _ j cs _ (0, 0) hh]
    exact hv
  have ff : ∀ j, w3.frozen? ⟨w.heap.size + 1 + 1, j, none⟩ = false := fun j => frozen_of_row _ _ _ cs _ hh
  have hmm2 := m2.keep k3 id
  rw [z1] at hmm2
  refine ⟨_, w.heap.size, w.heap.size + 1, rfl, (k1.trans k2 (fun _ _ e => e)).trans k3 (fun _ _ e => e), by omega, Nat.le_refl _, by omega, cc 0 _ (by rw [hcs]; rfl), ⟨_, Nat.le_refl _, cc 1 _ (by rw [hcs]; rfl)⟩, cc 2 _ (by rw [hcs]; rfl), cc 3 _ (by rw [hcs]; rfl), ff, Dr.of_row (k3.row (k2.row r1 id) id), by simp, fun x hx => by rw [List.eq_of_mem_replicate hx]; omega, hmm2, by omega, by omega, by omega, by omega, by omega⟩

set_option maxRecDepth 100000 in
set_option maxHeartbeats 400000 in
theorem new_ok (n : Nat) (w : World) (h1 : 1 ≤ (n : Int)) (h2 : (n : Int) ≤ 8192) : Calls Tryz.prog 28 #[.int .i64 (n : Int)] w fun e w' => ∃ b d m, e = .returned (.tuple #[.pointer (some ⟨b, 0, none⟩), .int .i64 0]) ∧ Kp (fun _ => False) w w' ∧ w.heap.size ≤ b ∧ w.heap.size ≤ d ∧ w.heap.size ≤ m ∧ Pt w' b d m n 0 (List.replicate (n * 64) 0) (fun _ => none) := by
  have H1 : Hid (Calls _ _ _ w _) := isCount_ok n w h1 h2
  have H2 : Hid (Calls _ _ _ w _) := blank_ok n w h1 h2
  go_enter Tryz.func28, Tryz.ntmps28
  go_wp2_with (first
    | (go_at_call 59; refine H1.out.mono ?_; rintro e w' ⟨rfl, rfl⟩)
    | (go_at_call 60; refine H2.out.mono ?_; rintro e w1 ⟨b, d, m, rfl, k, hb, hd, hm, hP⟩))
  go_ret2
  exact ⟨b, d, m, rfl, k, hb, hd, hm, hP⟩

set_option maxRecDepth 100000 in
set_option maxHeartbeats 800000 in
theorem image_ok {w : World} {b d m n q : Nat} {dur : List Nat} {T : Nat → Option (List Nat)} (h : Pt w b d m n q dur T) :
    Calls Tryz.prog 69 #[.pointer (some ⟨b, 0, none⟩)] w fun e w' => ∃ t V, e = .returned (.slice (some ⟨t, 0, none⟩) n n) ∧ Kp (fun _ => False) w w' ∧ w.heap.size ≤ t ∧ w'.rowIs t 34 n V ∧ ∀ r, r < n → Ow w' (t + 1) (V r) ((dur.drop (r * 64)).take 64) := by
  have H : Hid (Calls _ _ _ w _) := state_ok h
  have c0 := h.c0
  have hn1 : 1 ≤ (n : Int) := by have := h.n1; omega
  have hn2 : (n : Int) ≤ 8192 := by have := h.n2; omega
  have hmk := run_make_row' (P := Tryz.prog) 22 34 (.slice none 0 0) 24 Tryz.underlying22 (by kernel_rfl) rfl .i64 .i64 n (by omega) (by omega)
  go_enter Tryz.func69, Tryz.ntmps69
  go_wp2_with (go_at_call 51; refine H.out.mono ?_; rintro e w' ⟨rfl, rfl⟩)
  obtain ⟨w0, hw0⟩ : ∃ x, x = w'.alloc (.cells (madeCells #[.slice none 0 0] n) 34) := ⟨_, rfl⟩
  have k0 : Kp (fun _ => False) w' w0 := by rw [hw0]; exact (Kp.refl _ _).alloc _
  have r0 : w0.rowIs w'.heap.size 34 n (fun _ => .slice none 0 0) := by rw [hw0]; exact World.rowIs_made w' (.slice none 0 0) n 34
  rw [← hw0]
  have HSe : Hid (∀ wq (i : Nat), Kp (fun _ => False) w' wq → (i : Int) < (n : Int) → Calls _ _ _ wq _) := fun wq i k' hi => sector_ok (h.keep k' id id id) i hi
  have HCl : Hid (∀ wq (i : Nat) c, Kp (fun _ => False) w' wq → (i : Int) < (n : Int) → Calls _ _ #[.slice _ _ c] wq _) := fun wq i c k' hi => clone_any (some ⟨d, i * 64, none⟩) 64 c _ wq ((h.durRb (i := i) (by omega)).keep0 k') (show 64 ≤ 140737488355328 by omega)
  have HDs : Hid (∀ i, i < n → Sec ((dur.drop (i * 64)).take 64)) := fun i hi => h.durSec hi
  clear hmk hw0 H h
  go_loopg [15] n (fun gk x wr => ∃ (r : Nat) (V : Nat → Value), r ≤ n ∧ gk = n - r ∧ x = .int .i64 r ∧ Kp (fun _ => False) w' wr ∧ wr.rowIs w'.heap.size 34 n V ∧ Hid (∀ j, j < r → Ow wr (w'.heap.size + 1) (V j) ((dur.drop (j * 64)).take 64)))
  case atStart => exact ⟨0, _, Nat.zero_le _, rfl, rfl, k0, r0, fun j hj => absurd hj (Nat.not_lt_zero _)⟩
  case round =>
    obtain ⟨r, V, hr, rfl, rfl, hK, hT, hO⟩ := hrel
    clear k0 r0
    by_cases hlt : (r : Int) < (n : Int)
    · have hzr := hT.lt
      have c0' := hT.cell (i := r) (by omega)
      have f0 := hT.frozen r
      have HT : Hid _ := hT
      have HK : Hid (Kp _ w' wr) := hK
      have cK := hK.cellv c0 id
      clear hT
      go_wp2_with (first
        | (go_at_call 61; refine (HSe.out _ r hK hlt).mono ?_; rintro e w2 ⟨rfl, hw2⟩; obtain rfl := hw2.symm)
        | (go_at_call 13; refine (HCl.out _ r _ hK hlt).mono ?_; rintro e w3 ⟨v3, rfl, k3, o3⟩; obtain ⟨p3, c3, ev, hc3, rb3, hb3⟩ := o3.rb (HDs.out r (by omega)).2; rw [(HDs.out r (by omega)).1] at ev; subst ev; have t3 := (k3.row HT.out id).cell (i := r) (by omega); have f3 := (k3.row HT.out id).frozen r))
      have HOw : Hid (∀ j, j < r + 1 → Ow (w3.setCell ⟨w'.heap.size, r, none⟩ (.slice p3 64 c3)) (w'.heap.size + 1) (if j = r then .slice p3 64 c3 else V j) ((dur.drop (j * 64)).take 64)) := fun j hj => by
        have ks : Kp (fun b => b = w'.heap.size) w3 (w3.setCell ⟨w'.heap.size, r, none⟩ (.slice p3 64 c3)) := (Kp.refl (fun b => b = w'.heap.size) w3).setCell (a := ⟨w'.heap.size, r, none⟩) (fun _ => rfl) _
        by_cases e : j = r
        · subst e
          rw [if_pos rfl]
          exact ownsRow_keep (ownsRow_base o3 (by omega)) ks (fun g hg e => by have := ownBlock_lt (ownsRow_base (base' := w'.heap.size + 1) o3 (by omega)) hg; omega)
        · rw [if_neg e]
          have hj' := hO.out j (by omega)
          exact ownsRow_keep (ownsRow_keep hj' k3 (fun _ _ => id)) ks (fun g hg e => by have := ownBlock_lt hj' hg; omega)
      have HK2 : Hid (Kp (fun _ => False) w' (w3.setCell ⟨w'.heap.size, r, none⟩ (.slice p3 64 c3))) := (hK.trans k3 (fun _ _ e => e)).setCell (a := ⟨w'.heap.size, r, none⟩) (fun e => by simp at e) _
      have HT2 : Hid _ := ((k3.row HT.out id).set r (.slice p3 64 c3))
      go_roundg (n - (r + 1))
      case rel => exact ⟨r + 1, _, by omega, rfl, by go_num, HK2.out, HT2.out, HOw.out⟩
      case measure => omega
    · have e : n = r := by omega
      subst e
      go_wp2
      go_ret
      exact ⟨_, rfl, hK, Nat.le_refl _, V, hT, hO.out⟩
end Go.Proofs.YtmooddbhcccicaaGreatDoor
