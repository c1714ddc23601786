/- Calls of clients that no call made; what a key is. -/
import Derived.Test.YtmncocmeafcpfaaDoorQh
namespace Go.Proofs.YtmncocmeafcpfaaDoor
set_option linter.unusedVariables false
set_option linter.unusedSimpArgs false
open Go.RowKit Go.Deep

/-- v is a call that no call made -/
def Nk (w : World) (v : Value) : Prop := v = .pointer none ∨ ∃ b, v = .pointer (some ⟨b, 0, none⟩) ∧ w.cell? ⟨b, 3, none⟩ = some (.int .i64 0)
theorem Nk.keep {w w' : World} {v : Value} (h : Nk w v) (k : Kp (fun _ => False) w w') : Nk w' v := by
  rcases h with h | ⟨b, h, hc⟩
  · exact Or.inl h
  · exact Or.inr ⟨b, h, k.cellv hc id⟩

set_option maxRecDepth 100000 in
set_option maxHeartbeats 400000 in
theorem kmade (v : Value) (w : World) (h : Nk w v) : Calls Tryd.prog 71 #[v] w fun e w' => e = .returned (.bool false) ∧ w' = w := by
  rcases h with rfl | ⟨b, rfl, hc⟩
  · go_enter Tryd.func71, Tryd.ntmps71
    go_wp2
    go_ret
    exact ⟨rfl, rfl⟩
  · go_enter Tryd.func71, Tryd.ntmps71
    go_wp2
    go_ret
    exact ⟨rfl, rfl⟩

set_option maxRecDepth 100000 in
set_option maxHeartbeats 400000 in
theorem kopen (v : Value) (w : World) (h : Nk w v) : Calls Tryd.prog 75 #[v] w fun e w' => e = .returned (.bool false) ∧ w' = w := by
  have H : Hid (Calls _ _ _ w _) := kmade v w h
  clear h
  go_enter Tryd.func75, Tryd.ntmps75
  go_wp2_with (go_at_call 71; refine H.out.mono ?_; rintro e w1 ⟨rfl, hw1⟩; subst hw1)
  go_ret
  exact ⟨rfl, rfl⟩

set_option maxRecDepth 100000 in
set_option maxHeartbeats 400000 in
theorem kplace (v : Value) (c : Array Value) (nv : Value) (w : World) (h : Nk w v) : Calls Tryd.prog 35 #[v, .agg c, nv] w fun e w' => e = .returned (.int .i64 2) ∧ Kp (fun _ => False) w w' := by
  have H : Hid (∀ u, Kp (fun _ => False) w u → Calls _ _ _ u _) := fun u k => kmade v u (h.keep k)
  clear h
  go_enter Tryd.func35, Tryd.ntmps35
  go_wp2_with (go_at_call 71; refine (H.out _ (by exact (Kp.refl _ _).alloc _)).mono ?_; rintro e w1 ⟨rfl, hw1⟩; subst hw1)
  go_ret
  exact ⟨rfl, (Kp.refl _ _).alloc _⟩

set_option maxRecDepth 100000 in
set_option maxHeartbeats 400000 in
theorem kasks (v x : Value) (w : World) (h : Nk w v) : Calls Tryd.prog 41 #[v, x] w fun e w' => e = .returned (.slice none 0 0) ∧ w' = w := by
  have H : Hid (Calls _ _ _ w _) := kopen v w h
  clear h
  go_enter Tryd.func41, Tryd.ntmps41
  go_wp2_with (go_at_call 75; refine H.out.mono ?_; rintro e w1 ⟨rfl, hw1⟩; subst hw1)
  go_ret
  exact ⟨rfl, rfl⟩

set_option maxRecDepth 100000 in
set_option maxHeartbeats 400000 in
theorem kon (v : Value) (c : Array Value) (x : Value) (w : World) (h : Nk w v) : Calls Tryd.prog 36 #[v, .agg c, x] w fun e w' => e = .returned (.slice none 0 0) ∧ Kp (fun _ => False) w w' := by
  have H : Hid (∀ u, Kp (fun _ => False) w u → Calls _ _ _ u _) := fun u k => kopen v u (h.keep k)
  clear h
  go_enter Tryd.func36, Tryd.ntmps36
  go_wp2_with (go_at_call 75; refine (H.out _ (by exact (Kp.refl _ _).alloc _)).mono ?_; rintro e w1 ⟨rfl, hw1⟩; subst hw1)
  go_ret
  exact ⟨rfl, (Kp.refl _ _).alloc _⟩

set_option maxRecDepth 100000 in
set_option maxHeartbeats 400000 in
theorem kslot (v : Value) (w : World) (h : Nk w v) : Calls Tryd.prog 79 #[v] w fun e w' => e = .returned (.bool false) ∧ w' = w := by
  have H : Hid (Calls _ _ _ w _) := kopen v w h
  clear h
  go_enter Tryd.func79, Tryd.ntmps79
  go_wp2_with (go_at_call 75; refine H.out.mono ?_; rintro e w1 ⟨rfl, hw1⟩; subst hw1)
  go_ret
  exact ⟨rfl, rfl⟩

set_option maxRecDepth 100000 in
set_option maxHeartbeats 400000 in
theorem kapplied (v : Value) (c : Array Value) (x : Value) (w : World) (h : Nk w v) : Calls Tryd.prog 37 #[v, .agg c, x] w fun e w' => e = .returned (.slice none 0 0) ∧ Kp (fun _ => False) w w' := by
  have H : Hid (∀ u, Kp (fun _ => False) w u → Calls _ _ _ u _) := fun u k => kslot v u (h.keep k)
  clear h
  go_enter Tryd.func37, Tryd.ntmps37
  go_wp2_with (go_at_call 79; refine (H.out _ (by exact (Kp.refl _ _).alloc _)).mono ?_; rintro e w1 ⟨rfl, hw1⟩; subst hw1)
  go_ret
  exact ⟨rfl, (Kp.refl _ _).alloc _⟩

set_option maxRecDepth 100000 in
set_option maxHeartbeats 400000 in
theorem ktick (v x : Value) (w : World) (h : Nk w v) : Calls Tryd.prog 38 #[v, x] w fun e w' => e = .returned (.slice none 0 0) ∧ w' = w := by
  have H : Hid (Calls _ _ _ w _) := kopen v w h
  clear h
  go_enter Tryd.func38, Tryd.ntmps38
  go_wp2_with (go_at_call 75; refine H.out.mono ?_; rintro e w1 ⟨rfl, hw1⟩; subst hw1)
  go_ret
  exact ⟨rfl, rfl⟩

set_option maxRecDepth 100000 in
set_option maxHeartbeats 400000 in
theorem kdone (v : Value) (w : World) (h : Nk w v) : Calls Tryd.prog 40 #[v] w fun e w' => e = .returned (.bool false) ∧ w' = w := by
  have H : Hid (Calls _ _ _ w _) := kmade v w h
  clear h
  go_enter Tryd.func40, Tryd.ntmps40
  go_wp2_with (go_at_call 71; refine H.out.mono ?_; rintro e w1 ⟨rfl, hw1⟩; subst hw1)
  go_ret
  exact ⟨rfl, rfl⟩

theorem zeroC_one : zeroC.toList.toArray.all (·.oneCell') = true := cmd_one ⟨0, 0, ⟨#[]⟩, 0, 0, 0, 0, 0, 0, 0, 0⟩ (v := .slice none 0 0) rfl
set_option maxRecDepth 100000 in
set_option maxHeartbeats 800000 in
theorem cmd_none (v : Value) (w : World) (h : ∀ u, Kp (fun _ => False) w u → Calls Tryd.prog 79 #[v] u fun e w' => e = .returned (.bool false) ∧ w' = u) :
    Calls Tryd.prog 39 #[v] w fun e w' => e = .returned (.tuple #[.agg zeroC, .bool false]) ∧ Kp (fun _ => False) w w' := by
  have H : Hid (Calls Tryd.prog 79 #[v] (w.alloc (.cells zeroC 42)) fun e w' => e = .returned (.bool false) ∧ w' = (w.alloc (.cells zeroC 42))) := h _ ((Kp.refl _ _).alloc _)
  have HL : Hid (Lv (w.alloc (.cells zeroC 42)) w.heap.size zeroC.toList) := Lv.new w _ _
  have HO : Hid (zeroC.toList.toArray.all (·.oneCell') = true) := zeroC_one
  clear h
  go_enter Tryd.func39, Tryd.ntmps39
  go_wp2_with (first
    | (go_at_call 79; refine H.out.mono ?_; rintro e w1 ⟨rfl, hw1⟩; subst hw1)
    | (refine wpList_store_all rfl 42 _ _ rfl 12 w.heap.size zeroC.toList zeroC.toList rfl rfl HL.out szCmd rfl rfl HO.out ?_; intro w2 hl2 k2))
  refine bodyPost_ret (res_cell_tmp Tryd.results39 _ _ w.heap.size _ rfl (hl2.load dsCmd szCmd rfl)) rfl ?_
  exact ⟨rfl, ((Kp.refl (fun _ => False) w).alloc _).trans k2 (fun b hb e => by omega)⟩
theorem kcmd (v : Value) (w : World) (h : Nk w v) : Calls Tryd.prog 39 #[v] w fun e w' => e = .returned (.tuple #[.agg zeroC, .bool false]) ∧ Kp (fun _ => False) w w' :=
  cmd_none v w (fun u k => kslot v u (h.keep k))

set_option maxRecDepth 100000 in
set_option maxHeartbeats 800000 in
theorem cmdOf_put (w : World) : Calls Tryd.prog 69 #[.int .i64 1] w fun e w' => e = .returned (.int .i64 1) ∧ w' = w := by
  go_enter Tryd.func69, Tryd.ntmps69
  go_wp2
  go_ret
  exact ⟨rfl, rfl⟩
set_option maxRecDepth 100000 in
set_option maxHeartbeats 800000 in
theorem cmdOf_get (w : World) : Calls Tryd.prog 69 #[.int .i64 2] w fun e w' => e = .returned (.int .i64 2) ∧ w' = w := by
  go_enter Tryd.func69, Tryd.ntmps69
  go_wp2
  go_ret
  exact ⟨rfl, rfl⟩
set_option maxRecDepth 100000 in
set_option maxHeartbeats 800000 in
theorem cmdOf_del (w : World) : Calls Tryd.prog 69 #[.int .i64 3] w fun e w' => e = .returned (.int .i64 3) ∧ w' = w := by
  go_enter Tryd.func69, Tryd.ntmps69
  go_wp2
  go_ret
  exact ⟨rfl, rfl⟩

abbrev keyA : ByteArray := ⟨#[97]⟩
set_option maxRecDepth 100000 in
set_option maxHeartbeats 800000 in
theorem key_a (w : World) : Calls Tryd.prog 100 #[.string keyA] w fun e w' => e = .returned (.bool true) ∧ w' = w := by
  go_enter Tryd.func100, Tryd.ntmps100
  go_wp2
  go_loopg [7] 1 (fun gk i wr => ∃ (k : Nat), k ≤ 1 ∧ gk = 1 - k ∧ i = .int .i64 k ∧ wr = w)
  case atStart => exact ⟨0, by omega, rfl, rfl, rfl⟩
  case round =>
    obtain ⟨k, hk, rfl, rfl, rfl⟩ := hrel
    by_cases h : k = 0
    · subst h
      go_wp2
      go_roundg 0
      case rel => exact ⟨1, by omega, rfl, by go_num, rfl⟩
      case measure => omega
    · obtain rfl : k = 1 := by omega
      go_wp2
      go_ret
      exact ⟨rfl, rfl⟩
end Go.Proofs.YtmncocmeafcpfaaDoor
