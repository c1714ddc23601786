/- A log that no call made: the walks of its methods, and of the law WalNobody. -/
import Derived.Test.YtpggnjjoamiocaaDoorPn
import Derived.Test.YtpggnjjoamiocaaDoorFs
namespace Go.Proofs.YtpggnjjoamiocaaDoor
open Go.RowKit Go.Deep

/-- v is a log that no call made -/
def Nw (w : World) (v : Value) : Prop := v = .pointer none ∨ ∃ b, v = .pointer (some ⟨b, 0, none⟩) ∧ w.cell? ⟨b, 0, none⟩ = some (.pointer none)
theorem Nw.keep {w w' : World} {v : Value} (h : Nw w v) (k : Kp (fun _ => False) w w') : Nw w' v := by
  rcases h with h | ⟨b, h, hc⟩
  · exact Or.inl h
  · exact Or.inr ⟨b, h, k.cellv hc id⟩

set_option maxRecDepth 100000 in
set_option maxHeartbeats 400000 in
theorem wmade_no (v : Value) (w : World) (h : Nw w v) :
    Calls Tryd.prog 11 #[v] w fun e w' => e = .returned (.bool false) ∧ w' = w := by
  rcases h with rfl | ⟨b, rfl, hc⟩
  · go_enter Tryd.func11, Tryd.ntmps11
    go_wp2
    go_ret
    exact ⟨rfl, rfl⟩
  · go_enter Tryd.func11, Tryd.ntmps11
    go_wp2
    go_ret
    exact ⟨rfl, rfl⟩

set_option maxRecDepth 100000 in
set_option maxHeartbeats 400000 in
theorem wappend_no (v : Value) (x : Value) (w : World) (h : Nw w v) :
    Calls Tryd.prog 4 #[v, x] w fun e w' => e = .returned (.tuple #[.int .i64 0, .int .i64 2]) ∧ w' = w := by
  have H : Hid (Calls _ _ _ w _) := wmade_no v w h
  go_enter Tryd.func4, Tryd.ntmps4
  go_wp2_with (go_at_call 11; refine H.out.mono ?_; rintro e w' ⟨rfl, rfl⟩)
  go_ret2
  exact ⟨rfl, rfl⟩

set_option maxRecDepth 100000 in
set_option maxHeartbeats 400000 in
theorem wsync_no (v : Value) (w : World) (h : Nw w v) :
    Calls Tryd.prog 5 #[v] w fun e w' => e = .returned (.int .i64 2) ∧ w' = w := by
  have H : Hid (Calls _ _ _ w _) := wmade_no v w h
  go_enter Tryd.func5, Tryd.ntmps5
  go_wp2_with (go_at_call 11; refine H.out.mono ?_; rintro e w' ⟨rfl, rfl⟩)
  go_ret
  exact ⟨rfl, rfl⟩

set_option maxRecDepth 100000 in
set_option maxHeartbeats 400000 in
theorem wcheckpoint_no (v : Value) (x : Value) (w : World) (h : Nw w v) :
    Calls Tryd.prog 6 #[v, x] w fun e w' => e = .returned (.int .i64 2) ∧ w' = w := by
  have H : Hid (Calls _ _ _ w _) := wmade_no v w h
  go_enter Tryd.func6, Tryd.ntmps6
  go_wp2_with (go_at_call 11; refine H.out.mono ?_; rintro e w' ⟨rfl, rfl⟩)
  go_ret
  exact ⟨rfl, rfl⟩

set_option maxRecDepth 100000 in
set_option maxHeartbeats 400000 in
theorem wlife_no (v : Value) (w : World) (h : Nw w v) :
    Calls Tryd.prog 7 #[v] w fun e w' => e = .returned (.int .i64 0) ∧ w' = w := by
  have H : Hid (Calls _ _ _ w _) := wmade_no v w h
  go_enter Tryd.func7, Tryd.ntmps7
  go_wp2_with (go_at_call 11; refine H.out.mono ?_; rintro e w' ⟨rfl, rfl⟩)
  go_ret
  exact ⟨rfl, rfl⟩

set_option maxRecDepth 100000 in
set_option maxHeartbeats 400000 in
theorem wlast_no (v : Value) (w : World) (h : Nw w v) :
    Calls Tryd.prog 8 #[v] w fun e w' => e = .returned (.int .i64 0) ∧ w' = w := by
  have H : Hid (Calls _ _ _ w _) := wmade_no v w h
  go_enter Tryd.func8, Tryd.ntmps8
  go_wp2_with (go_at_call 11; refine H.out.mono ?_; rintro e w' ⟨rfl, rfl⟩)
  go_ret
  exact ⟨rfl, rfl⟩

set_option maxRecDepth 100000 in
set_option maxHeartbeats 400000 in
theorem wroom_no (v : Value) (w : World) (h : Nw w v) :
    Calls Tryd.prog 9 #[v] w fun e w' => e = .returned (.int .i64 0) ∧ w' = w := by
  have H : Hid (Calls _ _ _ w _) := wmade_no v w h
  go_enter Tryd.func9, Tryd.ntmps9
  go_wp2_with (go_at_call 11; refine H.out.mono ?_; rintro e w' ⟨rfl, rfl⟩)
  go_ret
  exact ⟨rfl, rfl⟩

set_option maxRecDepth 100000 in
set_option maxHeartbeats 400000 in
theorem unfit_no (pv : Value) (w : World) (h : No w pv) :
    Calls Tryd.prog 18 #[pv] w fun e w' => e = .returned (.int .i64 2) ∧ w' = w := by
  have H : Hid (Calls _ _ _ w _) := sectors_no pv w h
  go_enter Tryd.func18, Tryd.ntmps18
  go_wp2_with (go_at_call 19; refine H.out.mono ?_; rintro e w' ⟨rfl, rfl⟩)
  go_ret
  exact ⟨rfl, rfl⟩

set_option maxRecDepth 100000 in
set_option maxHeartbeats 400000 in
theorem wopen_no (pv : Value) (w : World) (h : No w pv) :
    Calls Tryd.prog 10 #[pv] w fun e w' => e = .returned (.tuple #[.pointer none, .slice none 0 0, .int .i64 2]) ∧ w' = w := by
  have H : Hid (Calls _ _ _ w _) := unfit_no pv w h
  go_enter Tryd.func10, Tryd.ntmps10
  go_wp2_with (go_at_call 18; refine H.out.mono ?_; rintro e w' ⟨rfl, rfl⟩)
  go_ret3
  exact ⟨rfl, rfl⟩

abbrev three2 : Array Value := #[.int .i64 2, .int .i64 2, .int .i64 2]
theorem three_at (w : World) (t : TypeId) (j : Nat) (hj : j < 3) : (w.alloc (.cells three2 t)).cell? ⟨w.heap.size, j, none⟩ = some (.int .i64 2) := by
  have hh : (w.alloc (.cells three2 t)).heap[w.heap.size]? = _ := heap_alloc_new w _
  unfold World.cell?
  simp only [hh]
  have hj' : j = 0 ∨ j = 1 ∨ j = 2 := by omega
  rcases hj' with rfl | rfl | rfl <;> rfl

set_option maxRecDepth 100000 in
set_option maxHeartbeats 1600000 in
theorem walNobody_walk0 (x : Value) (w : World) :
    Calls Tryd.prog 3 #[x] w fun e w' => e = .returned (.bool true) ∧ Kp (fun _ => False) w w' := by
  go_enter Tryd.func3, Tryd.ntmps3
  go_wp2
  go_loopg [18] 2 (fun gk x wr => ∃ k : Nat, k ≤ 2 ∧ gk = 2 - k ∧ x = .int .i64 k ∧ Kp (fun _ => False) w wr ∧ Hid (∀ k, k < 2 → ∃ pv, wr.cell? ⟨w.heap.size + 1, k, none⟩ = some pv ∧ Nw wr pv))
  case atStart =>
    refine ⟨0, Nat.zero_le _, rfl, rfl, ((Kp.refl _ _).alloc _).alloc _, fun k hk => ?_⟩
    have hk' : k = 0 ∨ k = 1 := by omega
    rcases hk' with rfl | rfl
    · exact ⟨_, by go_simp, Or.inl rfl⟩
    · exact ⟨_, by go_simp, Or.inr ⟨w.heap.size, rfl, by go_simp⟩⟩
  case round =>
    obtain ⟨k, hk, rfl, rfl, hK, HN⟩ := hrel
    obtain ⟨wr0, rfl⟩ : ∃ x, x = wr := ⟨_, rfl⟩
    by_cases hlt : (k : Int) < 2
    · obtain ⟨pv, c1, hn⟩ := HN.out k (by omega)
      have H1 : Hid (Calls _ _ _ wr0 _) := wappend_no pv x wr0 hn
      have H2 : Hid (Calls _ _ _ wr0 _) := wsync_no pv wr0 hn
      have H3 : Hid (Calls _ _ _ wr0 _) := wcheckpoint_no pv (.slice none 0 0) wr0 hn
      have HNo : Hid (Nw wr0 pv) := hn
      clear hn
      go_wp2_with (first
        | (go_at_call 4; refine H1.out.mono ?_; rintro e w' ⟨rfl, rfl⟩)
        | (go_at_call 5; refine H2.out.mono ?_; rintro e w' ⟨rfl, rfl⟩)
        | (go_at_call 6; refine H3.out.mono ?_; rintro e w' ⟨rfl, rfl⟩))
      clear H1 H2 H3 c1
      have HF : Hid (∀ j, j < 3 → (w'.alloc (.cells three2 34)).cell? ⟨w'.heap.size, j, none⟩ = some (.int .i64 2)) := fun j hj => three_at w' _ j hj
      obtain ⟨w2, hw2⟩ : ∃ x, x = w'.alloc (.cells three2 34) := ⟨_, rfl⟩
      have k2 : Kp (fun _ => False) w' w2 := by rw [hw2]; exact (Kp.refl _ _).alloc _
      have e2 : w'.alloc (.cells #[.int .i64 2, .int .i64 2, .int .i64 2] 34) = w2 := hw2.symm
      rw [e2]
      rw [← hw2] at HF
      clear e2 hw2
      have HN2 : Hid (∀ k, k < 2 → ∃ pv, w2.cell? ⟨w.heap.size + 1, k, none⟩ = some pv ∧ Nw w2 pv) := fun k hk => by
        obtain ⟨pv, x1, x2⟩ := HN.out k hk
        exact ⟨pv, k2.cellv x1 id, x2.keep k2⟩
      have hK2 := hK.trans k2 (fun _ _ e => e)
      have HNo2 : Hid (Nw w2 pv) := HNo.out.keep k2
      clear HN HNo hK k2
      go_loopg [35] 3 (fun gk x wq => ∃ j : Nat, j ≤ 3 ∧ gk = 3 - j ∧ x = .int .i64 j ∧ wq = w2)
      case atStart => exact ⟨0, by omega, rfl, rfl, rfl⟩
      case round =>
        obtain ⟨j, hj, rfl, rfl, rfl⟩ := hrel
        by_cases hlj : (j : Int) < 3
        · have c2 := HF.out j (by omega)
          go_wp2
          go_roundg (3 - (j + 1))
          case rel => exact ⟨j + 1, by omega, rfl, by go_num, rfl⟩
          case measure => omega
        · have e : j = 3 := by omega
          subst e
          have H1 : Hid (Calls _ _ _ wr _) := wlife_no pv wr HNo2.out
          have H2 : Hid (Calls _ _ _ wr _) := wlast_no pv wr HNo2.out
          have H3 : Hid (Calls _ _ _ wr _) := wroom_no pv wr HNo2.out
          go_wp2_with (first
            | (go_at_call 7; refine H1.out.mono ?_; rintro e w' ⟨rfl, rfl⟩)
            | (go_at_call 8; refine H2.out.mono ?_; rintro e w' ⟨rfl, rfl⟩)
            | (go_at_call 9; refine H3.out.mono ?_; rintro e w' ⟨rfl, rfl⟩))
          go_roundg (2 - (k + 1))
          case rel => exact ⟨k + 1, by omega, rfl, by go_num, hK2, HN2.out⟩
          case measure => omega
    · have e : k = 2 := by omega
      subst e
      clear HN
      go_wp2
      go_loopg [58] 2 (fun gk x wr => ∃ k : Nat, k ≤ 2 ∧ gk = 2 - k ∧ x = .int .i64 k ∧ Kp (fun _ => False) w wr ∧ Hid (∀ k, k < 2 → ∃ pv, wr.cell? ⟨wr0.heap.size + 1, k, none⟩ = some pv ∧ No wr pv))
      case atStart =>
        refine ⟨0, Nat.zero_le _, rfl, rfl, (hK.alloc _).alloc _, fun k hk => ?_⟩
        have hk' : k = 0 ∨ k = 1 := by omega
        rcases hk' with rfl | rfl
        · exact ⟨_, by go_simp, Or.inl rfl⟩
        · exact ⟨_, by go_simp, Or.inr ⟨wr0.heap.size, rfl, by go_simp⟩⟩
      case round =>
        obtain ⟨k, hk, rfl, rfl, hK, HN⟩ := hrel
        by_cases hlt : (k : Int) < 2
        · obtain ⟨pv, c1, hn⟩ := HN.out k (by omega)
          have H1 : Hid (Calls _ _ _ wr _) := wopen_no pv wr hn
          have HN2 : Hid _ := HN.out
          clear hn HN
          go_wp2_with (go_at_call 10; refine H1.out.mono ?_; rintro e w' ⟨rfl, rfl⟩)
          go_roundg (2 - (k + 1))
          case rel => exact ⟨k + 1, by omega, rfl, by go_num, hK, HN2.out⟩
          case measure => omega
        · clear HN
          go_wp2
          go_ret
          exact ⟨rfl, hK⟩
theorem walNobody_walk (p : Option Addr) (n c : Nat) (xs : List Nat) (w : World) (_h : Rb w p n xs) (_hc : n ≤ c) (_hz : Hid (n ≤ 140737488355328)) (_ht : Turns w) :
    Calls Tryd.prog 3 #[.slice p n c] w fun e w' => e = .returned (.bool true) ∧ Kp (fun _ => False) w w' := walNobody_walk0 _ w
end Go.Proofs.YtpggnjjoamiocaaDoor
