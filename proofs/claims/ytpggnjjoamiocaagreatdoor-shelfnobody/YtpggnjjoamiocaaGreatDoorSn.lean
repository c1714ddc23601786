/- A shelf that no call made: the walks of its methods, and of the law ShelfNobody. -/
import Derived.Test.YtpggnjjoamiocaaGreatDoorWn0
namespace Go.Proofs.YtpggnjjoamiocaaGreatDoor
open Go.RowKit Go.Deep

/-- v is a shelf that no call made -/
def Ns (w : World) (v : Value) : Prop := v = .pointer none ∨ ∃ b, v = .pointer (some ⟨b, 0, none⟩) ∧ w.cell? ⟨b, 0, none⟩ = some (.pointer none)
theorem Ns.keep {w w' : World} {v : Value} (h : Ns w v) (k : Kp (fun _ => False) w w') : Ns w' v := by
  rcases h with h | ⟨b, h, hc⟩
  · exact Or.inl h
  · exact Or.inr ⟨b, h, k.cellv hc id⟩

set_option maxRecDepth 100000 in
set_option maxHeartbeats 400000 in
theorem smade_no (v : Value) (w : World) (h : Ns w v) :
    Calls Tryz.prog 20 #[v] w fun e w' => e = .returned (.bool false) ∧ w' = w := by
  rcases h with rfl | ⟨b, rfl, hc⟩
  · go_enter Tryz.func20, Tryz.ntmps20
    go_wp2
    go_ret
    exact ⟨rfl, rfl⟩
  · go_enter Tryz.func20, Tryz.ntmps20
    go_wp2
    go_ret
    exact ⟨rfl, rfl⟩

set_option maxRecDepth 100000 in
set_option maxHeartbeats 400000 in
theorem asked_no (v x : Value) (w : World) (h : Ns w v) :
    Calls Tryz.prog 16 #[v, x] w fun e w' => e = .returned (.int .i64 2) ∧ w' = w := by
  have H : Hid (Calls _ _ _ w _) := smade_no v w h
  go_enter Tryz.func16, Tryz.ntmps16
  go_wp2_with (go_at_call 20; refine H.out.mono ?_; rintro e w' ⟨rfl, rfl⟩)
  go_ret
  exact ⟨rfl, rfl⟩

set_option maxRecDepth 100000 in
set_option maxHeartbeats 400000 in
theorem sfetch_no (v : Value) (i j k : Int) (w : World) (h : Ns w v) :
    Calls Tryz.prog 4 #[v, .int .i64 i, .int .i64 j, .int .i64 k] w fun e w' => e = .returned (.tuple #[.slice none 0 0, .int .i64 2]) ∧ Kp (fun _ => False) w w' := by
  have H : Hid (∀ x w', Kp (fun _ => False) w w' → Calls _ _ #[v, x] w' _) := fun x w' k => asked_no v x w' (h.keep k)
  go_enter Tryz.func4, Tryz.ntmps4
  go_wp2_with (go_at_call 16; refine (H.out _ _ (by exact (Kp.refl _ _).alloc _)).mono ?_; rintro e w' ⟨rfl, rfl⟩)
  go_ret2
  exact ⟨rfl, (Kp.refl _ _).alloc _⟩

set_option maxRecDepth 100000 in
set_option maxHeartbeats 400000 in
theorem sstore_no (v : Value) (i j k : Int) (x : Value) (w : World) (h : Ns w v) :
    Calls Tryz.prog 5 #[v, .int .i64 i, .int .i64 j, .int .i64 k, x] w fun e w' => e = .returned (.int .i64 2) ∧ Kp (fun _ => False) w w' := by
  have H : Hid (∀ x w', Kp (fun _ => False) w w' → Calls _ _ #[v, x] w' _) := fun x w' k => asked_no v x w' (h.keep k)
  go_enter Tryz.func5, Tryz.ntmps5
  go_wp2_with (go_at_call 16; refine (H.out _ _ (by exact (Kp.refl _ _).alloc _)).mono ?_; rintro e w' ⟨rfl, rfl⟩)
  go_ret
  exact ⟨rfl, (Kp.refl _ _).alloc _⟩

set_option maxRecDepth 100000 in
set_option maxHeartbeats 400000 in
theorem sdrop_no (v : Value) (i j : Int) (w : World) (h : Ns w v) :
    Calls Tryz.prog 6 #[v, .int .i64 i, .int .i64 j] w fun e w' => e = .returned (.int .i64 2) ∧ Kp (fun _ => False) w w' := by
  have H : Hid (∀ x w', Kp (fun _ => False) w w' → Calls _ _ #[v, x] w' _) := fun x w' k => asked_no v x w' (h.keep k)
  go_enter Tryz.func6, Tryz.ntmps6
  go_wp2_with (go_at_call 16; refine (H.out _ _ (by exact (Kp.refl _ _).alloc _)).mono ?_; rintro e w' ⟨rfl, rfl⟩)
  go_ret
  exact ⟨rfl, (Kp.refl _ _).alloc _⟩

set_option maxRecDepth 100000 in
set_option maxHeartbeats 400000 in
theorem sfence_no (v : Value) (i j k : Int) (w : World) (h : Ns w v) :
    Calls Tryz.prog 7 #[v, .int .i64 i, .int .i64 j, .int .i64 k] w fun e w' => e = .returned (.int .i64 2) ∧ Kp (fun _ => False) w w' := by
  have H : Hid (∀ x w', Kp (fun _ => False) w w' → Calls _ _ #[v, x] w' _) := fun x w' k => asked_no v x w' (h.keep k)
  go_enter Tryz.func7, Tryz.ntmps7
  go_wp2_with (go_at_call 16; refine (H.out _ _ (by exact (Kp.refl _ _).alloc _)).mono ?_; rintro e w' ⟨rfl, rfl⟩)
  go_ret
  exact ⟨rfl, (Kp.refl _ _).alloc _⟩

set_option maxRecDepth 100000 in
set_option maxHeartbeats 400000 in
theorem snote_no (v : Value) (i : Int) (x : Value) (w : World) (h : Ns w v) :
    Calls Tryz.prog 8 #[v, .int .i64 i, x] w fun e w' => e = .returned (.int .i64 2) ∧ Kp (fun _ => False) w w' := by
  have H : Hid (∀ x w', Kp (fun _ => False) w w' → Calls _ _ #[v, x] w' _) := fun x w' k => asked_no v x w' (h.keep k)
  go_enter Tryz.func8, Tryz.ntmps8
  go_wp2_with (go_at_call 16; refine (H.out _ _ (by exact (Kp.refl _ _).alloc _)).mono ?_; rintro e w' ⟨rfl, rfl⟩)
  go_ret
  exact ⟨rfl, (Kp.refl _ _).alloc _⟩

set_option maxRecDepth 100000 in
set_option maxHeartbeats 400000 in
theorem ssync_no (v : Value) (w : World) (h : Ns w v) :
    Calls Tryz.prog 9 #[v] w fun e w' => e = .returned (.int .i64 2) ∧ Kp (fun _ => False) w w' := by
  have H : Hid (Calls _ _ _ w _) := smade_no v w h
  go_enter Tryz.func9, Tryz.ntmps9
  go_wp2_with (go_at_call 20; refine H.out.mono ?_; rintro e w' ⟨rfl, rfl⟩)
  go_ret
  exact ⟨rfl, Kp.refl _ _⟩

set_option maxRecDepth 100000 in
set_option maxHeartbeats 400000 in
theorem snoted_no (v : Value) (i : Int) (w : World) (h : Ns w v) :
    Calls Tryz.prog 10 #[v, .int .i64 i] w fun e w' => e = .returned (.slice none 0 0) ∧ Kp (fun _ => False) w w' := by
  have H : Hid (Calls _ _ _ w _) := smade_no v w h
  go_enter Tryz.func10, Tryz.ntmps10
  go_wp2_with (go_at_call 20; refine H.out.mono ?_; rintro e w' ⟨rfl, rfl⟩)
  go_ret
  exact ⟨rfl, Kp.refl _ _⟩

set_option maxRecDepth 100000 in
set_option maxHeartbeats 400000 in
theorem snotes_no (v : Value) (w : World) (h : Ns w v) :
    Calls Tryz.prog 11 #[v] w fun e w' => e = .returned (.slice none 0 0) ∧ Kp (fun _ => False) w w' := by
  have H : Hid (Calls _ _ _ w _) := smade_no v w h
  go_enter Tryz.func11, Tryz.ntmps11
  go_wp2_with (go_at_call 20; refine H.out.mono ?_; rintro e w' ⟨rfl, rfl⟩)
  go_ret
  exact ⟨rfl, Kp.refl _ _⟩

set_option maxRecDepth 100000 in
set_option maxHeartbeats 400000 in
theorem sheld_no (v : Value) (w : World) (h : Ns w v) :
    Calls Tryz.prog 12 #[v] w fun e w' => e = .returned (.slice none 0 0) ∧ Kp (fun _ => False) w w' := by
  have H : Hid (Calls _ _ _ w _) := smade_no v w h
  go_enter Tryz.func12, Tryz.ntmps12
  go_wp2_with (go_at_call 20; refine H.out.mono ?_; rintro e w' ⟨rfl, rfl⟩)
  go_ret
  exact ⟨rfl, Kp.refl _ _⟩

set_option maxRecDepth 100000 in
set_option maxHeartbeats 400000 in
theorem slife_no (v : Value) (w : World) (h : Ns w v) :
    Calls Tryz.prog 13 #[v] w fun e w' => e = .returned (.int .i64 0) ∧ Kp (fun _ => False) w w' := by
  have H : Hid (Calls _ _ _ w _) := smade_no v w h
  go_enter Tryz.func13, Tryz.ntmps13
  go_wp2_with (go_at_call 20; refine H.out.mono ?_; rintro e w' ⟨rfl, rfl⟩)
  go_ret
  exact ⟨rfl, Kp.refl _ _⟩

set_option maxRecDepth 100000 in
set_option maxHeartbeats 400000 in
theorem sfenced_no (v : Value) (i j : Int) (w : World) (h : Ns w v) :
    Calls Tryz.prog 14 #[v, .int .i64 i, .int .i64 j] w fun e w' => e = .returned (.int .i64 0) ∧ Kp (fun _ => False) w w' := by
  have H : Hid (Calls _ _ _ w _) := smade_no v w h
  go_enter Tryz.func14, Tryz.ntmps14
  go_wp2_with (go_at_call 20; refine H.out.mono ?_; rintro e w' ⟨rfl, rfl⟩)
  go_ret
  exact ⟨rfl, Kp.refl _ _⟩

set_option maxRecDepth 100000 in
set_option maxHeartbeats 400000 in
theorem sopen_nil (w : World) :
    Calls Tryz.prog 15 #[.pointer none] w fun e w' => e = .returned (.tuple #[.pointer none, .int .i64 2]) ∧ w' = w := by
  have H : Hid (Calls _ _ _ w _) := wopen_no (.pointer none) w (Or.inl rfl)
  go_enter Tryz.func15, Tryz.ntmps15
  go_wp2_with (go_at_call 24; refine H.out.mono ?_; rintro e w' ⟨rfl, rfl⟩)
  go_ret2
  exact ⟨rfl, rfl⟩

abbrev six2 : Array Value := #[.int .i64 2, .int .i64 2, .int .i64 2, .int .i64 2, .int .i64 2, .int .i64 2]
theorem six_at (w : World) (t : TypeId) (j : Nat) (hj : j < 6) : (w.alloc (.cells six2 t)).cell? ⟨w.heap.size, j, none⟩ = some (.int .i64 2) := by
  have hh : (w.alloc (.cells six2 t)).heap[w.heap.size]? = _ := heap_alloc_new w _
  unfold World.cell?
  simp only [hh]
  have hj' : j = 0 ∨ j = 1 ∨ j = 2 ∨ j = 3 ∨ j = 4 ∨ j = 5 := by omega
  rcases hj' with rfl | rfl | rfl | rfl | rfl | rfl <;> rfl

set_option maxRecDepth 100000 in
set_option maxHeartbeats 1600000 in
theorem shelfNobody_walk0 (i j : Int) (x : Value) (w : World) :
    Calls Tryz.prog 3 #[.int .i64 i, .int .i64 j, x] w fun e w' => e = .returned (.bool true) ∧ Kp (fun _ => False) w w' := by
  go_enter Tryz.func3, Tryz.ntmps3
  go_wp2
  go_loopg [19] 2 (fun gk x wr => ∃ k : Nat, k ≤ 2 ∧ gk = 2 - k ∧ x = .int .i64 k ∧ Kp (fun _ => False) w wr ∧ Hid (∀ k, k < 2 → ∃ pv, wr.cell? ⟨w.heap.size + 1, k, none⟩ = some pv ∧ Ns wr pv))
  case atStart =>
    refine ⟨0, Nat.zero_le _, rfl, rfl, ((Kp.refl _ _).alloc _).alloc _, fun k hk => ?_⟩
    have hk' : k = 0 ∨ k = 1 := by omega
    rcases hk' with rfl | rfl
    · exact ⟨_, by go_simp, Or.inl rfl⟩
    · exact ⟨_, by go_simp, Or.inr ⟨w.heap.size, rfl, by go_simp⟩⟩
  case round =>
    obtain ⟨k, hk, rfl, rfl, hK, HN⟩ := hrel
    obtain ⟨wr0, rfl⟩ : ∃ x, x = wr := ⟨_, rfl⟩
    by_cases hlt : (k : Int) < 2
    · obtain ⟨pv, c1, hn⟩ := HN.out k (by omega)
      have H1 : Hid (∀ w', Kp (fun _ => False) wr0 w' → Calls _ _ _ w' _) := fun w' k' => sfetch_no pv i j 1 w' (hn.keep k')
      have H2 : Hid (∀ w', Kp (fun _ => False) wr0 w' → Calls _ _ _ w' _) := fun w' k' => sstore_no pv i j 1 x w' (hn.keep k')
      have H3 : Hid (∀ w', Kp (fun _ => False) wr0 w' → Calls _ _ _ w' _) := fun w' k' => sdrop_no pv i j w' (hn.keep k')
      have H4 : Hid (∀ w', Kp (fun _ => False) wr0 w' → Calls _ _ _ w' _) := fun w' k' => sfence_no pv i j 1 w' (hn.keep k')
      have H5 : Hid (∀ w', Kp (fun _ => False) wr0 w' → Calls _ _ _ w' _) := fun w' k' => snote_no pv i x w' (hn.keep k')
      have H6 : Hid (∀ w', Kp (fun _ => False) wr0 w' → Calls _ _ _ w' _) := fun w' k' => ssync_no pv w' (hn.keep k')
      have HNo : Hid (Ns wr0 pv) := hn
      have KK : Kp (fun _ => False) wr0 wr0 := Kp.refl _ _
      clear hn
      go_wp2_with (first
        | (go_at_call 4; refine (H1.out _ KK).mono ?_; rintro e w' ⟨rfl, k'⟩; have KK := KK.trans k' (fun _ _ e => e))
        | (go_at_call 5; refine (H2.out _ KK).mono ?_; rintro e w' ⟨rfl, k'⟩; have KK := KK.trans k' (fun _ _ e => e))
        | (go_at_call 6; refine (H3.out _ KK).mono ?_; rintro e w' ⟨rfl, k'⟩; have KK := KK.trans k' (fun _ _ e => e))
        | (go_at_call 7; refine (H4.out _ KK).mono ?_; rintro e w' ⟨rfl, k'⟩; have KK := KK.trans k' (fun _ _ e => e))
        | (go_at_call 8; refine (H5.out _ KK).mono ?_; rintro e w' ⟨rfl, k'⟩; have KK := KK.trans k' (fun _ _ e => e))
        | (go_at_call 9; refine (H6.out _ KK).mono ?_; rintro e w' ⟨rfl, k'⟩; have KK := KK.trans k' (fun _ _ e => e)))
      clear H1 H2 H3 H4 H5 H6 c1
      have HF : Hid (∀ j, j < 6 → (w'.alloc (.cells six2 31)).cell? ⟨w'.heap.size, j, none⟩ = some (.int .i64 2)) := fun j hj => six_at w' _ j hj
      obtain ⟨w2, hw2⟩ : ∃ x, x = w'.alloc (.cells six2 31) := ⟨_, rfl⟩
      have k2 : Kp (fun _ => False) wr0 w2 := by rw [hw2]; exact KK.alloc _
      have e2 : w'.alloc (.cells #[.int .i64 2, .int .i64 2, .int .i64 2, .int .i64 2, .int .i64 2, .int .i64 2] 31) = w2 := hw2.symm
      rw [e2]
      rw [← hw2] at HF
      clear e2 hw2
      have HN2 : Hid (∀ k, k < 2 → ∃ pv, w2.cell? ⟨w.heap.size + 1, k, none⟩ = some pv ∧ Ns w2 pv) := fun k hk => by
        obtain ⟨pv, x1, x2⟩ := HN.out k hk
        exact ⟨pv, k2.cellv x1 id, x2.keep k2⟩
      have hK2 := hK.trans k2 (fun _ _ e => e)
      have HNo2 : Hid (Ns w2 pv) := HNo.out.keep k2
      clear HN HNo hK k2
      go_loopg [52] 6 (fun gk x wq => ∃ j : Nat, j ≤ 6 ∧ gk = 6 - j ∧ x = .int .i64 j ∧ wq = w2)
      case atStart => exact ⟨0, by omega, rfl, rfl, rfl⟩
      case round =>
        obtain ⟨q, hq, rfl, rfl, rfl⟩ := hrel
        by_cases hlj : (q : Int) < 6
        · have c2 := HF.out q (by omega)
          go_wp2
          go_roundg (6 - (q + 1))
          case rel => exact ⟨q + 1, by omega, rfl, by go_num, rfl⟩
          case measure => omega
        · have e : q = 6 := by omega
          subst e
          have H1 : Hid (∀ w', Kp (fun _ => False) wr w' → Calls _ _ _ w' _) := fun w' k' => snoted_no pv i w' (HNo2.out.keep k')
          have H2 : Hid (∀ w', Kp (fun _ => False) wr w' → Calls _ _ _ w' _) := fun w' k' => snotes_no pv w' (HNo2.out.keep k')
          have H3 : Hid (∀ w', Kp (fun _ => False) wr w' → Calls _ _ _ w' _) := fun w' k' => sheld_no pv w' (HNo2.out.keep k')
          have H4 : Hid (∀ w', Kp (fun _ => False) wr w' → Calls _ _ _ w' _) := fun w' k' => slife_no pv w' (HNo2.out.keep k')
          have H5 : Hid (∀ w', Kp (fun _ => False) wr w' → Calls _ _ _ w' _) := fun w' k' => sfenced_no pv i j w' (HNo2.out.keep k')
          have KL : Kp (fun _ => False) wr wr := Kp.refl _ _
          go_wp2_with (first
            | (go_at_call 10; refine (H1.out _ KL).mono ?_; rintro e w' ⟨rfl, k'⟩; have KL := KL.trans k' (fun _ _ e => e))
            | (go_at_call 11; refine (H2.out _ KL).mono ?_; rintro e w' ⟨rfl, k'⟩; have KL := KL.trans k' (fun _ _ e => e))
            | (go_at_call 12; refine (H3.out _ KL).mono ?_; rintro e w' ⟨rfl, k'⟩; have KL := KL.trans k' (fun _ _ e => e))
            | (go_at_call 13; refine (H4.out _ KL).mono ?_; rintro e w' ⟨rfl, k'⟩; have KL := KL.trans k' (fun _ _ e => e))
            | (go_at_call 14; refine (H5.out _ KL).mono ?_; rintro e w' ⟨rfl, k'⟩; have KL := KL.trans k' (fun _ _ e => e)))
          go_roundg (2 - (k + 1))
          case rel =>
            refine ⟨k + 1, by omega, rfl, by go_num, hK2.trans KL (fun _ _ e => e), fun k hk => ?_⟩
            obtain ⟨pv, x1, x2⟩ := HN2.out k hk
            exact ⟨pv, KL.cellv x1 id, x2.keep KL⟩
          case measure => omega
    · have e : k = 2 := by omega
      subst e
      clear HN
      go_wp2_with (go_at_call 15; refine (sopen_nil _).mono ?_; rintro e w' ⟨rfl, rfl⟩)
      go_ret
      exact ⟨rfl, hK⟩
theorem shelfNobody_walk (i j : Int) (p : Option Addr) (n c : Nat) (xs : List Nat) (w : World) (_wi : (Lit.int .i64 i).wf = true) (_wj : (Lit.int .i64 j).wf = true) (_h : Rb w p n xs) (_hc : n ≤ c) (_hz : Hid (n ≤ 140737488355328)) (_ht : Turns w) :
    Calls Tryz.prog 3 #[.int .i64 i, .int .i64 j, .slice p n c] w fun e w' => e = .returned (.bool true) ∧ Kp (fun _ => False) w w' := shelfNobody_walk0 i j _ w
end Go.Proofs.YtpggnjjoamiocaaGreatDoor
