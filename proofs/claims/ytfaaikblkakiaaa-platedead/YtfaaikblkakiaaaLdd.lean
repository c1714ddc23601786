/- The walk of the law PlateDead: a plate that has failed answers nothing any more. -/
import Derived.Test.YtfaaikblkakiaaaPd
import Derived.Test.YtfaaikblkakiaaaFd
namespace Go.Proofs.Ytfaaikblkakiaaa
open Go.RowKit Go.Deep Go.Maps

abbrev five60 : Array Value := #[.int .i64 60, .int .i64 60, .int .i64 60, .int .i64 60, .int .i64 60]
theorem five60_at (w : World) (t : TypeId) (j : Nat) (hj : j < 5) : (w.alloc (.cells five60 t)).cell? ⟨w.heap.size, j, none⟩ = some (.int .i64 60) := by
  have hh : (w.alloc (.cells five60 t)).heap[w.heap.size]? = _ := heap_alloc_new w _
  unfold World.cell?
  simp only [hh]
  have hj' : j = 0 ∨ j = 1 ∨ j = 2 ∨ j = 3 ∨ j = 4 := by omega
  rcases hj' with rfl | rfl | rfl | rfl | rfl <;> rfl

set_option maxRecDepth 100000 in
set_option maxHeartbeats 1600000 in
theorem plateDead_walk0 (v : Value) (L : Nat) (i : Int) (w : World) (h : Dos w v L) :
    Calls Try.prog 7 #[v, .int .i64 i] w fun e w' => e = .returned (.bool true) ∧ Kp (fun _ => False) w w' := by
  have H1 : Hid (Calls _ _ _ w _) := written_any v L w h
  go_enter Try.func7, Try.ntmps7
  go_wp2_with fail
  refine H1.out.mono ?_
  rintro e w1 ⟨b, d, m, q, t, wv, c, rfl, k1, hq, hb, hd, hm, ht, V, N, dur, T, hP, hN, hEq⟩
  have HF : Hid (Calls _ _ _ w1 _) := failed_ok hP
  have HFl : Hid (Calls _ _ _ w1 _) := fail_ok hP
  clear H1 hP hN hEq h
  go_wp2_with (first
    | (go_at_call 27; refine HF.out.mono ?_; rintro e w' ⟨rfl, hw⟩; obtain rfl := hw.symm)
    | (go_at_call 28; refine HFl.out.mono ?_; rintro e w2 ⟨rfl, k2, hD⟩))
  clear HF HFl
  have hz1 := k1.size
  have k02 : Kp (fun _ => False) w w2 := k1.trans k2 (fun x hx e => by omega)
  have hmk : ∀ w : World, (Instr.makeSlice 32 (.int .i64 64) (.int .i64 64)).run Try.prog w = .ok (.slice (some ⟨w.heap.size, 0, none⟩) 64 64) (w.alloc (.cells (madeCells #[.int .u8 0] 64) 5)) := fun w => run_make_row' (P := Try.prog) 32 5 (.int .u8 0) 1 Try.underlying32 info5 rfl .i64 .i64 64 (by omega) (by omega) w
  obtain ⟨w3, hw3⟩ : ∃ x, x = w2.alloc (.cells (madeCells #[.int .u8 0] 64) 5) := ⟨_, rfl⟩
  have k3 : Kp (fun _ => False) w2 w3 := by rw [hw3]; exact (Kp.refl _ _).alloc _
  obtain ⟨pv, hpv⟩ : ∃ pv : Value, pv = .pointer (some ⟨b, 0, none⟩) := ⟨_, rfl⟩
  have hD3 := hD.keep k3
  have H1 : Hid (Calls _ _ _ w2 _) := read_dead _ i w2 hD
  have H2 : Hid (∀ x, Calls _ _ _ w3 _) := fun x => write_dead _ i x w3 hD3
  have H3 : Hid (Calls _ _ _ w3 _) := sync_dead _ w3 hD3
  have H4 : Hid (Calls _ _ _ w3 _) := crash_dead _ (.slice none 0 0) i 5 w3 hD3
  have H5 : Hid (Calls _ _ _ w3 _) := fail_dead _ w3 hD3
  have HD3 : Hid (Dd w3 _) := hD3
  rw [hw3] at H2 H3 H4 H5
  clear hD hD3
  go_wp2_with (first
    | (go_at_call 29; refine H1.out.mono ?_; rintro e w' ⟨rfl, hw⟩; obtain rfl := hw.symm)
    | (go_at_call 30; refine (H2.out _).mono ?_; rintro e w' ⟨rfl, hw⟩; obtain rfl := hw.symm)
    | (go_at_call 26; refine H3.out.mono ?_; rintro e w' ⟨rfl, hw⟩; obtain rfl := hw.symm)
    | (go_at_call 24; refine H4.out.mono ?_; rintro e w' ⟨rfl, hw⟩; obtain rfl := hw.symm)
    | (go_at_call 28; refine H5.out.mono ?_; rintro e w' ⟨rfl, hw⟩; obtain rfl := hw.symm))
  clear H1 H2 H3 H4 H5
  rw [← hw3]
  have hz3 : w2.heap.size + 1 = w3.heap.size := by rw [hw3]; simp
  have HF : Hid (∀ j, j < 5 → (w3.alloc (.cells five60 24)).cell? ⟨w3.heap.size, j, none⟩ = some (.int .i64 60)) := fun j hj => five60_at w3 _ j hj
  rw [← hz3] at HF
  obtain ⟨w4, hw4⟩ : ∃ x, x = w3.alloc (.cells five60 24) := ⟨_, rfl⟩
  have k4 : Kp (fun _ => False) w3 w4 := by rw [hw4]; exact (Kp.refl _ _).alloc _
  have e4 : w3.alloc (.cells #[.int .i64 60, .int .i64 60, .int .i64 60, .int .i64 60, .int .i64 60] 24) = w4 := hw4.symm
  rw [e4]
  rw [← hw4] at HF
  have HD4 : Hid (Dd w4 _) := HD3.out.keep k4
  have k04 := (k02.trans k3 (fun _ _ e => e)).trans k4 (fun _ _ e => e)
  clear e4 hw4 HD3 hw3 hmk hz3 k3 k4 k02 k2 k1
  go_loopg [49] 5 (fun gk x wq => ∃ j : Nat, j ≤ 5 ∧ gk = 5 - j ∧ x = .int .i64 j ∧ wq = w4)
  case atStart => exact ⟨0, by omega, rfl, rfl, rfl⟩
  case round =>
    obtain ⟨j, hj, rfl, rfl, rfl⟩ := hrel
    by_cases hlj : (j : Int) < 5
    · have c2 := HF.out j (by omega)
      go_wp2
      go_roundg (5 - (j + 1))
      case rel => exact ⟨j + 1, by omega, rfl, by go_num, rfl⟩
      case measure => omega
    · have e : j = 5 := by omega
      subst e
      have H2 : Hid (Calls _ _ _ wr _) := image_dead _ wr HD4.out
      have H3 : Hid (Calls _ _ _ wr _) := dirty_dead _ wr HD4.out
      have H4 : Hid (Calls _ _ _ wr _) := copy_dead _ wr HD4.out
      have H5 : Hid (Calls _ _ _ wr _) := failed_dead _ wr HD4.out
      have H6 : Hid (∀ v w, Dd w v → Calls _ _ _ w _) := fun v w h => failed_dead v w h
      go_wp2_with (first
        | (go_at_call 25; refine H2.out.mono ?_; rintro e w' ⟨rfl, hw⟩; obtain rfl := hw.symm)
        | (go_at_call 22; refine H3.out.mono ?_; rintro e w' ⟨rfl, hw⟩; obtain rfl := hw.symm)
        | (go_at_call 12; refine H4.out.mono ?_; rintro e w5 ⟨v5, rfl, k5, hD5⟩)
        | (go_at_call 27; have _ := k5; refine (H6.out _ _ hD5).mono ?_; rintro e w' ⟨rfl, hw⟩; obtain rfl := hw.symm)
        | (go_at_call 27; refine H5.out.mono ?_; rintro e w' ⟨rfl, hw⟩; obtain rfl := hw.symm))
      go_ret
      exact ⟨rfl, k04.trans k5 (fun _ _ e => e)⟩
theorem plateDead_walk (v : Value) (L : Nat) (i : Int) (w : World) (h : Dos w v L) :
    Calls Try.prog 7 #[v, .int .i64 i] w fun e w' => e = .returned (.bool true) ∧ Kp (fun _ => False) w w' := plateDead_walk0 v L i w h
end Go.Proofs.Ytfaaikblkakiaaa
