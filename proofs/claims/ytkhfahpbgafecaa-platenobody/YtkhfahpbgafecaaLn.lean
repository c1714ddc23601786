/- The walk of the law PlateNobody: a plate that no call made. -/
import Derived.Test.YtkhfahpbgafecaaPn
namespace Go.Proofs.Ytkhfahpbgafecaa
open Go.RowKit Go.Deep

set_option maxRecDepth 100000 in
set_option maxHeartbeats 400000 in
theorem isCount_three (w : World) : Calls Try.prog 33 #[.int .i64 3] w fun e w' => e = .returned (.bool true) ∧ w' = w := by
  go_enter Try.func33, Try.ntmps33
  go_wp2
  go_ret
  exact ⟨rfl, rfl⟩

set_option maxRecDepth 100000 in
set_option maxHeartbeats 400000 in
theorem blank_three (w : World) : Calls Try.prog 34 #[.int .i64 3] w fun e w' => ∃ b, e = .returned (.pointer (some ⟨b, 0, none⟩)) ∧ w'.cell? ⟨b, 0, none⟩ = some (.int .i64 3) ∧ Kp (fun _ => False) w w' := by
  have hmk : ∀ w : World, (Instr.makeSlice 32 (.int .i64 192) (.int .i64 192)).run Try.prog w = .ok (.slice (some ⟨w.heap.size, 0, none⟩) 192 192) (w.alloc (.cells (madeCells #[.int .u8 0] 192) 5)) := fun w => run_make_row' (P := Try.prog) 32 5 (.int .u8 0) 1 Try.underlying32 info5 rfl .i64 .i64 192 (by omega) (by omega) w
  have hmm : ∀ (t : TypeId) (w : World), (Instr.makeMap t none).run Try.prog w = .ok (.map (some w.heap.size)) (w.alloc (.map #[] 0)) := fun _ _ => rfl
  go_enter Try.func34, Try.ntmps34
  go_wp2
  go_ret
  exact ⟨_, rfl, by go_simp, (((Kp.refl _ _).alloc _).alloc _).alloc _⟩

set_option maxRecDepth 100000 in
set_option maxHeartbeats 400000 in
theorem new_three (w : World) : Calls Try.prog 10 #[.int .i64 3] w fun e w' => ∃ b, e = .returned (.tuple #[.pointer (some ⟨b, 0, none⟩), .int .i64 0]) ∧ w'.cell? ⟨b, 0, none⟩ = some (.int .i64 3) ∧ Kp (fun _ => False) w w' := by
  go_enter Try.func10, Try.ntmps10
  go_wp2_with (first
    | (go_at_call 33; refine (isCount_three _).mono ?_; rintro e w' ⟨rfl, rfl⟩)
    | (go_at_call 34; refine (blank_three _).mono ?_; rintro e w1 ⟨b, rfl, hc, k⟩))
  go_ret2
  exact ⟨b, rfl, hc, k⟩

set_option maxRecDepth 100000 in
set_option maxHeartbeats 400000 in
theorem made_three (b : Nat) (w : World) (hc : w.cell? ⟨b, 0, none⟩ = some (.int .i64 3)) : Calls Try.prog 35 #[.pointer (some ⟨b, 0, none⟩)] w fun e w' => e = .returned (.bool true) ∧ w' = w := by
  go_enter Try.func35, Try.ntmps35
  go_wp2
  go_ret
  exact ⟨rfl, rfl⟩

set_option maxRecDepth 100000 in
set_option maxHeartbeats 400000 in
theorem sectors_three (b : Nat) (w : World) (hc : w.cell? ⟨b, 0, none⟩ = some (.int .i64 3)) : Calls Try.prog 20 #[.pointer (some ⟨b, 0, none⟩)] w fun e w' => e = .returned (.int .i64 3) ∧ w' = w := by
  have H : Hid (Calls _ _ _ w _) := made_three b w hc
  go_enter Try.func20, Try.ntmps20
  go_wp2_with (go_at_call 35; refine H.out.mono ?_; rintro e w' ⟨rfl, rfl⟩)
  go_ret
  exact ⟨rfl, rfl⟩

abbrev five2 : Array Value := #[.int .i64 2, .int .i64 2, .int .i64 2, .int .i64 2, .int .i64 2]
theorem five_at (w : World) (t : TypeId) (j : Nat) (hj : j < 5) : (w.alloc (.cells five2 t)).cell? ⟨w.heap.size, j, none⟩ = some (.int .i64 2) := by
  have hh : (w.alloc (.cells five2 t)).heap[w.heap.size]? = _ := heap_alloc_new w _
  unfold World.cell?
  simp only [hh]
  have hj' : j = 0 ∨ j = 1 ∨ j = 2 ∨ j = 3 ∨ j = 4 := by omega
  rcases hj' with rfl | rfl | rfl | rfl | rfl <;> rfl

set_option maxRecDepth 100000 in
set_option maxHeartbeats 1600000 in
theorem plateNobody_walk (i : Int) (w : World) :
    Calls Try.prog 8 #[.int .i64 i] w fun e w' => e = .returned (.bool true) ∧ Kp (fun _ => False) w w' := by
  go_enter Try.func8, Try.ntmps8
  go_wp2
  go_loopg [15] 2 (fun gk x wr => ∃ k : Nat, k ≤ 2 ∧ gk = 2 - k ∧ x = .int .i64 k ∧ Kp (fun _ => False) w wr ∧ Hid (∀ k, k < 2 → ∃ pv, wr.cell? ⟨w.heap.size + 1, k, none⟩ = some pv ∧ No wr pv))
  case atStart =>
    refine ⟨0, Nat.zero_le _, rfl, rfl, ((Kp.refl _ _).alloc _).alloc _, fun k hk => ?_⟩
    have hk' : k = 0 ∨ k = 1 := by omega
    rcases hk' with rfl | rfl
    · exact ⟨_, by go_simp, Or.inl rfl⟩
    · exact ⟨_, by go_simp, Or.inr ⟨w.heap.size, rfl, by go_simp⟩⟩
  case round =>
    obtain ⟨k, hk, rfl, rfl, hK, HN⟩ := hrel
    obtain ⟨wr0, rfl⟩ : ∃ x, x = wr := ⟨_, rfl⟩
    by_cases hlt : (k : Int) < 2
    · obtain ⟨pv, c1, hn⟩ := HN.out k (by omega)
      have H1 : Hid (Calls _ _ _ wr0 _) := read_no pv i wr0 hn
      have H2 : Hid (Calls _ _ _ wr0 _) := write_no pv i (.slice none 0 0) wr0 hn
      have H3 : Hid (Calls _ _ _ wr0 _) := sync_no pv wr0 hn
      have H4 : Hid (Calls _ _ _ wr0 _) := crash_no pv (.slice none 0 0) i 5 wr0 hn
      have H5 : Hid (Calls _ _ _ wr0 _) := fail_no pv wr0 hn
      have HNo : Hid (No wr0 pv) := hn
      clear hn
      go_wp2_with (first
        | (go_at_call 29; refine H1.out.mono ?_; rintro e w' ⟨rfl, rfl⟩)
        | (go_at_call 30; refine H2.out.mono ?_; rintro e w' ⟨rfl, rfl⟩)
        | (go_at_call 26; refine H3.out.mono ?_; rintro e w' ⟨rfl, rfl⟩)
        | (go_at_call 24; refine H4.out.mono ?_; rintro e w' ⟨rfl, rfl⟩)
        | (go_at_call 28; refine H5.out.mono ?_; rintro e w' ⟨rfl, rfl⟩))
      clear H1 H2 H3 H4 H5 c1
      have HF : Hid (∀ j, j < 5 → (w'.alloc (.cells five2 24)).cell? ⟨w'.heap.size, j, none⟩ = some (.int .i64 2)) := fun j hj => five_at w' _ j hj
      obtain ⟨w2, hw2⟩ : ∃ x, x = w'.alloc (.cells five2 24) := ⟨_, rfl⟩
      have k2 : Kp (fun _ => False) w' w2 := by rw [hw2]; exact (Kp.refl _ _).alloc _
      have e2 : w'.alloc (.cells #[.int .i64 2, .int .i64 2, .int .i64 2, .int .i64 2, .int .i64 2] 24) = w2 := hw2.symm
      rw [e2]
      rw [← hw2] at HF
      clear e2 hw2
      have HN2 : Hid (∀ k, k < 2 → ∃ pv, w2.cell? ⟨w.heap.size + 1, k, none⟩ = some pv ∧ No w2 pv) := fun k hk => by
        obtain ⟨pv, x1, x2⟩ := HN.out k hk
        exact ⟨pv, k2.cellv x1 id, x2.keep k2⟩
      have hK2 := hK.trans k2 (fun _ _ e => e)
      have HNo2 : Hid (No w2 pv) := HNo.out.keep k2
      clear HN HNo hK k2
      go_loopg [38] 5 (fun gk x wq => ∃ j : Nat, j ≤ 5 ∧ gk = 5 - j ∧ x = .int .i64 j ∧ wq = w2)
      case atStart => exact ⟨0, by omega, rfl, rfl, rfl⟩
      case round =>
        obtain ⟨j, hj, rfl, rfl, rfl⟩ := hrel
        by_cases hlj : (j : Int) < 5
        · have c2 := HF.out j (by omega)
          go_wp2
          go_roundg (5 - (j + 1))
          case rel => exact ⟨j + 1, by omega, rfl, by go_num, rfl⟩
          case measure => omega
        · have e : j = 5 := by omega
          subst e
          have H1 : Hid (Calls _ _ _ wr _) := sectors_no pv wr HNo2.out
          have H2 : Hid (Calls _ _ _ wr _) := image_no pv wr HNo2.out
          have H3 : Hid (Calls _ _ _ wr _) := dirty_no pv wr HNo2.out
          have H4 : Hid (Calls _ _ _ wr _) := copy_no pv wr HNo2.out
          have H5 : Hid (Calls _ _ _ wr _) := failed_no pv wr HNo2.out
          go_wp2_with (first
            | (go_at_call 20; refine H1.out.mono ?_; rintro e w' ⟨rfl, rfl⟩)
            | (go_at_call 25; refine H2.out.mono ?_; rintro e w' ⟨rfl, rfl⟩)
            | (go_at_call 22; refine H3.out.mono ?_; rintro e w' ⟨rfl, rfl⟩)
            | (go_at_call 12; refine H4.out.mono ?_; rintro e w' ⟨rfl, rfl⟩)
            | (go_at_call 27; refine H5.out.mono ?_; rintro e w' ⟨rfl, rfl⟩))
          go_roundg (2 - (k + 1))
          case rel => exact ⟨k + 1, by omega, rfl, by go_num, hK2, HN2.out⟩
          case measure => omega
    · have e : k = 2 := by omega
      subst e
      clear HN
      go_wp2_with fail
      refine (new_three _).mono ?_
      rintro e w1 ⟨b, rfl, hc, k1⟩
      have H1 : Hid (Calls _ _ _ w1 _) := sectors_three b w1 hc
      go_wp2_with (go_at_call 20; refine H1.out.mono ?_; rintro e w' ⟨rfl, rfl⟩)
      go_ret
      exact ⟨rfl, hK.trans k1 (fun _ _ e => e)⟩
end Go.Proofs.Ytkhfahpbgafecaa
