/- A new plate; its image. -/
import Derived.Test.YtippipeebkkghaaGreatDoorPl3
namespace Go.Proofs.YtippipeebkkghaaGreatDoor
open Go.RowKit Go.Deep Go.Maps

set_option maxRecDepth 100000 in
set_option maxHeartbeats 400000 in
theorem isCount_ok (n : Nat) (w : World) (h1 : 1 ≤ (n : Int)) (h2 : (n : Int) ≤ 8192) : Calls Tryz.prog 38 #[.int .i64 (n : Int)] w fun e w' => e = .returned (.bool true) ∧ w' = w := by
  have d1 : 1 ≤ n := by omega
  have d2 : n ≤ 8192 := by omega
  go_enter Tryz.func38, Tryz.ntmps38
  go_wp2
  go_ret
  exact ⟨rfl, rfl⟩

set_option maxRecDepth 100000 in
set_option maxHeartbeats 400000 in
theorem blank_ok (n : Nat) (w : World) (h1 : 1 ≤ (n : Int)) (h2 : (n : Int) ≤ 8192) : Calls Tryz.prog 39 #[.int .i64 (n : Int)] w fun e w' => ∃ b d m, e = .returned (.pointer (some ⟨b, 0, none⟩)) ∧ Kp (fun _ => False) w w' ∧ w.heap.size ≤ b ∧ w.heap.size ≤ d ∧ w.heap.size ≤ m ∧ Pt w' b d m n 0 (List.replicate (n * 64) 0) (fun _ => none) := by
  have hmk : ∀ w : World, (Instr.makeSlice 75 (.int .i64 ((n : Int) * 64)) (.int .i64 ((n : Int) * 64))).run Tryz.prog w = .ok (.slice (some ⟨w.heap.size, 0, none⟩) (n * 64) (n * 64)) (w.alloc (.cells (madeCells #[.int .u8 0] (n * 64)) 5)) := fun w => by
    have := run_make_row' (P := Tryz.prog) 75 5 (.int .u8 0) 1 Tryz.underlying75 info5 rfl .i64 .i64 (n * 64) (by omega) (by omega) w
    rw [show ((n * 64 : Nat) : Int) = (n : Int) * 64 from by omega] at this
    exact this
  have hmm : ∀ (t : TypeId) (w : World), (Instr.makeMap t none).run Tryz.prog w = .ok (.map (some w.heap.size)) (w.alloc (.map #[] 0)) := fun _ _ => rfl
  go_enter Tryz.func39, Tryz.ntmps39
  go_wp2
  go_ret
  obtain ⟨w1, hw1⟩ : ∃ x, x = w.alloc (.cells (madeCells #[.int .u8 0] (n * 64)) 5) := ⟨_, rfl⟩
  obtain ⟨w2, hw2⟩ : ∃ x, x = w1.alloc (.map #[] 0) := ⟨_, rfl⟩
  have z1 : w1.heap.size = w.heap.size + 1 := by rw [hw1]; simp
  have z2 : w2.heap.size = w1.heap.size + 1 := by rw [hw2]; simp
  have k1 : Kp (fun _ => False) w w1 := by rw [hw1]; exact (Kp.refl _ _).alloc _
  have k2 : Kp (fun _ => False) w1 w2 := by rw [hw2]; exact (Kp.refl _ _).alloc _
  have r1 : w1.rowIs w.heap.size 5 (n * 64) (fun j => .int .u8 (((List.replicate (n * 64) 0).getD j 0 : Nat) : Int)) := by
    rw [hw1]
    exact (World.rowIs_made w (.int .u8 0) (n * 64) 5).congr (fun j hj => by rw [List.getD_eq_getElem?_getD, List.getElem?_replicate, if_pos hj]; rfl)
  have m2 : Mp w2 w1.heap.size n 0 (fun _ => none) := by rw [hw2]; exact Mp.made w1 n
  rw [← hw1, ← hw2]
  obtain ⟨cs, hcs⟩ : ∃ cs : Array Value, cs = #[.int .i64 (n : Int), .slice (some ⟨w.heap.size, 0, none⟩) (n * 64) (n * 64), .map (some (w.heap.size + 1)), .bool false] := ⟨_, rfl⟩
  rw [← hcs]
  obtain ⟨w3, hw3⟩ : ∃ x, x = w2.alloc (.cells cs 83) := ⟨_, rfl⟩
  have e2 : w2.heap.size = w.heap.size + 1 + 1 := by omega
  rw [← hw3]
  have k3 : Kp (fun _ => False) w2 w3 := by rw [hw3]; exact (Kp.refl _ _).alloc _
  have hh := heap_alloc_new w2 (.cells cs 83)
  rw [← hw3, e2] at hh
  have cc : ∀ j v, cs[j]? = some v → w3.cell? ⟨w.heap.size + 1 + 1, j, none⟩ = some v := fun j v hv => by
    rw [cell_of_row _ _ j cs _ (0, 0) hh]
    exact hv
  have ff : ∀ j, w3.frozen? ⟨w.heap.size + 1 + 1, j, none⟩ = false := fun j => frozen_of_row _ _ _ cs _ hh
  have hmm2 := m2.keep k3 id
  rw [z1] at hmm2
  refine ⟨_, w.heap.size, w.heap.size + 1, rfl, (k1.trans k2 (fun _ _ e => e)).trans k3 (fun _ _ e => e), by omega, Nat.le_refl _, by omega, cc 0 _ (by rw [hcs]; rfl), ⟨_, Nat.le_refl _, cc 1 _ (by rw [hcs]; rfl)⟩, cc 2 _ (by rw [hcs]; rfl), cc 3 _ (by rw [hcs]; rfl), ff, Dr.of_row (k3.row (k2.row r1 id) id), by simp, fun x hx => by rw [List.eq_of_mem_replicate hx]; omega, hmm2, by omega, by omega, by omega, by omega, by omega⟩

set_option maxRecDepth 100000 in
set_option maxHeartbeats 400000 in
theorem new_ok (n : Nat) (w : World) (h1 : 1 ≤ (n : Int)) (h2 : (n : Int) ≤ 8192) : Calls Tryz.prog 14 #[.int .i64 (n : Int)] w fun e w' => ∃ b d m, e = .returned (.tuple #[.pointer (some ⟨b, 0, none⟩), .int .i64 0]) ∧ Kp (fun _ => False) w w' ∧ w.heap.size ≤ b ∧ w.heap.size ≤ d ∧ w.heap.size ≤ m ∧ Pt w' b d m n 0 (List.replicate (n * 64) 0) (fun _ => none) := by
  have H1 : Hid (Calls _ _ _ w _) := isCount_ok n w h1 h2
  have H2 : Hid (Calls _ _ _ w _) := blank_ok n w h1 h2
  go_enter Tryz.func14, Tryz.ntmps14
  go_wp2_with (first
    | (go_at_call 38; refine H1.out.mono ?_; rintro e w' ⟨rfl, rfl⟩)
    | (go_at_call 39; refine H2.out.mono ?_; rintro e w1 ⟨b, d, m, rfl, k, hb, hd, hm, hP⟩))
  go_ret2
  exact ⟨b, d, m, rfl, k, hb, hd, hm, hP⟩

end Go.Proofs.YtippipeebkkghaaGreatDoor
