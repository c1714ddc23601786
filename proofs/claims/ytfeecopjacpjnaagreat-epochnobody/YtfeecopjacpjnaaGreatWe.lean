/- Epochs' states that no call made. -/
import Derived.Test.YtfeecopjacpjnaaGreatMz
namespace Go.Proofs.YtfeecopjacpjnaaGreat
set_option linter.unusedVariables false
set_option linter.unusedSimpArgs false
open Go.RowKit Go.Deep

/-- v is a state that no call made -/
def Nz (w : World) (v : Value) : Prop := v = .pointer none ∨ ∃ b, v = .pointer (some ⟨b, 0, none⟩) ∧ w.cell? ⟨b, 0, none⟩ = some (.int .i64 0)
theorem Nz.keep {w w' : World} {v : Value} (h : Nz w v) (k : Kp (fun _ => False) w w') : Nz w' v := by
  rcases h with h | ⟨b, h, hc⟩
  · exact Or.inl h
  · exact Or.inr ⟨b, h, k.cellv hc id⟩

set_option maxRecDepth 100000 in
set_option maxHeartbeats 400000 in
theorem zmade (v : Value) (w : World) (h : Nz w v) : Calls Tryz.prog 21 #[v] w fun e w' => e = .returned (.bool false) ∧ w' = w := by
  rcases h with rfl | ⟨b, rfl, hc⟩
  · go_enter Tryz.func21, Tryz.ntmps21
    go_wp2
    go_ret
    exact ⟨rfl, rfl⟩
  · go_enter Tryz.func21, Tryz.ntmps21
    go_wp2
    go_ret
    exact ⟨rfl, rfl⟩

theorem szCodeZ : (Tryz.prog.info? 24).map (·.size) = some 2 := by kernel_rfl
theorem dsCodeZ : ∃ d, Tryz.prog.underlying 24 = some d ∧ d.isRow = true := ⟨_, Tryz.underlying24, rfl⟩
theorem szOutZ : (Tryz.prog.info? 43).map (·.size) = some 8 := by kernel_rfl
theorem dsOutZ : ∃ d, Tryz.prog.underlying 43 = some d ∧ d.isRow = true := ⟨_, Tryz.underlying43, rfl⟩
theorem szBlobZ : (Tryz.prog.info? 41).map (·.size) = some 6 := by kernel_rfl
theorem dsBlobZ : ∃ d, Tryz.prog.underlying 41 = some d ∧ d.isRow = true := ⟨_, Tryz.underlying41, rfl⟩

set_option maxRecDepth 100000 in
set_option maxHeartbeats 800000 in
theorem zm_Epoch (v : Value) (w : World) (h : Nz w v) : Calls Tryz.prog 8 #[v] w fun e w' => e = .returned (.int .i64 0) ∧ Kp (fun _ => False) w w' := by
  have H : Hid (∀ u, Kp (fun _ => False) w u → Calls Tryz.prog 21 #[v] u fun e w' => e = .returned (.bool false) ∧ w' = u) := fun u k => zmade v u (h.keep k)
  clear h
  go_enter Tryz.func8, Tryz.ntmps8
  go_wp2_with (go_at_call 21; refine (H.out _ (by first | exact Kp.refl _ _ | exact (Kp.refl _ _).alloc _ | exact ((Kp.refl _ _).alloc _).alloc _ | exact (((Kp.refl _ _).alloc _).alloc _).alloc _ | exact (Kp.refl _ _).drewN _)).mono ?_; rintro e9 w1 ⟨rfl, hw1⟩; subst hw1)
  go_ret
  exact ⟨rfl, (by first | exact Kp.refl _ _ | exact (Kp.refl _ _).alloc _ | exact ((Kp.refl _ _).alloc _).alloc _ | exact (((Kp.refl _ _).alloc _).alloc _).alloc _ | exact (Kp.refl _ _).drewN _)⟩

set_option maxRecDepth 100000 in
set_option maxHeartbeats 800000 in
theorem zm_Slot (v : Value) (w : World) (h : Nz w v) : Calls Tryz.prog 9 #[v] w fun e w' => e = .returned (.int .i64 0) ∧ Kp (fun _ => False) w w' := by
  have H : Hid (∀ u, Kp (fun _ => False) w u → Calls Tryz.prog 21 #[v] u fun e w' => e = .returned (.bool false) ∧ w' = u) := fun u k => zmade v u (h.keep k)
  clear h
  go_enter Tryz.func9, Tryz.ntmps9
  go_wp2_with (go_at_call 21; refine (H.out _ (by first | exact Kp.refl _ _ | exact (Kp.refl _ _).alloc _ | exact ((Kp.refl _ _).alloc _).alloc _ | exact (((Kp.refl _ _).alloc _).alloc _).alloc _ | exact (Kp.refl _ _).drewN _)).mono ?_; rintro e9 w1 ⟨rfl, hw1⟩; subst hw1)
  go_ret
  exact ⟨rfl, (by first | exact Kp.refl _ _ | exact (Kp.refl _ _).alloc _ | exact ((Kp.refl _ _).alloc _).alloc _ | exact (((Kp.refl _ _).alloc _).alloc _).alloc _ | exact (Kp.refl _ _).drewN _)⟩

set_option maxRecDepth 100000 in
set_option maxHeartbeats 800000 in
theorem zm_Voters (v : Value) (z : Int) (w : World) (h : Nz w v) : Calls Tryz.prog 10 #[v, .int .i64 z] w fun e w' => e = .returned (.slice none 0 0) ∧ Kp (fun _ => False) w w' := by
  have H : Hid (∀ u, Kp (fun _ => False) w u → Calls Tryz.prog 21 #[v] u fun e w' => e = .returned (.bool false) ∧ w' = u) := fun u k => zmade v u (h.keep k)
  rcases h with rfl | ⟨b, rfl, hc⟩
  · (try clear hc)
    go_enter Tryz.func10, Tryz.ntmps10
    go_wp2_with (go_at_call 21; refine (H.out _ (by first | exact Kp.refl _ _ | exact (Kp.refl _ _).alloc _ | exact ((Kp.refl _ _).alloc _).alloc _ | exact (((Kp.refl _ _).alloc _).alloc _).alloc _ | exact (Kp.refl _ _).drewN _)).mono ?_; rintro e9 w1 ⟨rfl, hw1⟩; subst hw1)
    go_ret
    exact ⟨rfl, (by first | exact Kp.refl _ _ | exact (Kp.refl _ _).alloc _ | exact ((Kp.refl _ _).alloc _).alloc _ | exact (((Kp.refl _ _).alloc _).alloc _).alloc _ | exact (Kp.refl _ _).drewN _)⟩
  · (try clear hc)
    go_enter Tryz.func10, Tryz.ntmps10
    go_wp2_with (go_at_call 21; refine (H.out _ (by first | exact Kp.refl _ _ | exact (Kp.refl _ _).alloc _ | exact ((Kp.refl _ _).alloc _).alloc _ | exact (((Kp.refl _ _).alloc _).alloc _).alloc _ | exact (Kp.refl _ _).drewN _)).mono ?_; rintro e9 w1 ⟨rfl, hw1⟩; subst hw1)
    go_ret
    exact ⟨rfl, (by first | exact Kp.refl _ _ | exact (Kp.refl _ _).alloc _ | exact ((Kp.refl _ _).alloc _).alloc _ | exact (((Kp.refl _ _).alloc _).alloc _).alloc _ | exact (Kp.refl _ _).drewN _)⟩

set_option maxRecDepth 100000 in
set_option maxHeartbeats 800000 in
theorem zm_Members (v : Value) (w : World) (h : Nz w v) : Calls Tryz.prog 11 #[v] w fun e w' => e = .returned (.slice none 0 0) ∧ Kp (fun _ => False) w w' := by
  have H : Hid (∀ u, Kp (fun _ => False) w u → Calls Tryz.prog 21 #[v] u fun e w' => e = .returned (.bool false) ∧ w' = u) := fun u k => zmade v u (h.keep k)
  clear h
  go_enter Tryz.func11, Tryz.ntmps11
  go_wp2_with (go_at_call 21; refine (H.out _ (by first | exact Kp.refl _ _ | exact (Kp.refl _ _).alloc _ | exact ((Kp.refl _ _).alloc _).alloc _ | exact (((Kp.refl _ _).alloc _).alloc _).alloc _ | exact (Kp.refl _ _).drewN _)).mono ?_; rintro e9 w1 ⟨rfl, hw1⟩; subst hw1)
  go_ret
  exact ⟨rfl, (by first | exact Kp.refl _ _ | exact (Kp.refl _ _).alloc _ | exact ((Kp.refl _ _).alloc _).alloc _ | exact (((Kp.refl _ _).alloc _).alloc _).alloc _ | exact (Kp.refl _ _).drewN _)⟩

set_option maxRecDepth 100000 in
set_option maxHeartbeats 800000 in
theorem zm_Keys (v : Value) (w : World) (h : Nz w v) : Calls Tryz.prog 12 #[v] w fun e w' => e = .returned (.slice none 0 0) ∧ Kp (fun _ => False) w w' := by
  have H : Hid (∀ u, Kp (fun _ => False) w u → Calls Tryz.prog 21 #[v] u fun e w' => e = .returned (.bool false) ∧ w' = u) := fun u k => zmade v u (h.keep k)
  clear h
  go_enter Tryz.func12, Tryz.ntmps12
  go_wp2_with (go_at_call 21; refine (H.out _ (by first | exact Kp.refl _ _ | exact (Kp.refl _ _).alloc _ | exact ((Kp.refl _ _).alloc _).alloc _ | exact (((Kp.refl _ _).alloc _).alloc _).alloc _ | exact (Kp.refl _ _).drewN _)).mono ?_; rintro e9 w1 ⟨rfl, hw1⟩; subst hw1)
  go_ret
  exact ⟨rfl, (by first | exact Kp.refl _ _ | exact (Kp.refl _ _).alloc _ | exact ((Kp.refl _ _).alloc _).alloc _ | exact (((Kp.refl _ _).alloc _).alloc _).alloc _ | exact (Kp.refl _ _).drewN _)⟩

set_option maxRecDepth 100000 in
set_option maxHeartbeats 800000 in
theorem zm_Moves (v : Value) (w : World) (h : Nz w v) : Calls Tryz.prog 13 #[v] w fun e w' => e = .returned (.slice none 0 0) ∧ Kp (fun _ => False) w w' := by
  have H : Hid (∀ u, Kp (fun _ => False) w u → Calls Tryz.prog 21 #[v] u fun e w' => e = .returned (.bool false) ∧ w' = u) := fun u k => zmade v u (h.keep k)
  clear h
  go_enter Tryz.func13, Tryz.ntmps13
  go_wp2_with (go_at_call 21; refine (H.out _ (by first | exact Kp.refl _ _ | exact (Kp.refl _ _).alloc _ | exact ((Kp.refl _ _).alloc _).alloc _ | exact (((Kp.refl _ _).alloc _).alloc _).alloc _ | exact (Kp.refl _ _).drewN _)).mono ?_; rintro e9 w1 ⟨rfl, hw1⟩; subst hw1)
  go_ret
  exact ⟨rfl, (by first | exact Kp.refl _ _ | exact (Kp.refl _ _).alloc _ | exact ((Kp.refl _ _).alloc _).alloc _ | exact (((Kp.refl _ _).alloc _).alloc _).alloc _ | exact (Kp.refl _ _).drewN _)⟩

set_option maxRecDepth 100000 in
set_option maxHeartbeats 800000 in
theorem zm_Recodes (v : Value) (w : World) (h : Nz w v) : Calls Tryz.prog 14 #[v] w fun e w' => e = .returned (.slice none 0 0) ∧ Kp (fun _ => False) w w' := by
  have H : Hid (∀ u, Kp (fun _ => False) w u → Calls Tryz.prog 21 #[v] u fun e w' => e = .returned (.bool false) ∧ w' = u) := fun u k => zmade v u (h.keep k)
  clear h
  go_enter Tryz.func14, Tryz.ntmps14
  go_wp2_with (go_at_call 21; refine (H.out _ (by first | exact Kp.refl _ _ | exact (Kp.refl _ _).alloc _ | exact ((Kp.refl _ _).alloc _).alloc _ | exact (((Kp.refl _ _).alloc _).alloc _).alloc _ | exact (Kp.refl _ _).drewN _)).mono ?_; rintro e9 w1 ⟨rfl, hw1⟩; subst hw1)
  go_ret
  exact ⟨rfl, (by first | exact Kp.refl _ _ | exact (Kp.refl _ _).alloc _ | exact ((Kp.refl _ _).alloc _).alloc _ | exact (((Kp.refl _ _).alloc _).alloc _).alloc _ | exact (Kp.refl _ _).drewN _)⟩

set_option maxRecDepth 100000 in
set_option maxHeartbeats 800000 in
theorem zm_Mine (v : Value) (z : Int) (w : World) (h : Nz w v) : Calls Tryz.prog 15 #[v, .int .i64 z] w fun e w' => e = .returned (.slice none 0 0) ∧ Kp (fun _ => False) w w' := by
  have H : Hid (∀ u, Kp (fun _ => False) w u → Calls Tryz.prog 21 #[v] u fun e w' => e = .returned (.bool false) ∧ w' = u) := fun u k => zmade v u (h.keep k)
  rcases h with rfl | ⟨b, rfl, hc⟩
  · (try clear hc)
    go_enter Tryz.func15, Tryz.ntmps15
    go_wp2_with (go_at_call 21; refine (H.out _ (by first | exact Kp.refl _ _ | exact (Kp.refl _ _).alloc _ | exact ((Kp.refl _ _).alloc _).alloc _ | exact (((Kp.refl _ _).alloc _).alloc _).alloc _ | exact (Kp.refl _ _).drewN _)).mono ?_; rintro e9 w1 ⟨rfl, hw1⟩; subst hw1)
    go_ret
    exact ⟨rfl, (by first | exact Kp.refl _ _ | exact (Kp.refl _ _).alloc _ | exact ((Kp.refl _ _).alloc _).alloc _ | exact (((Kp.refl _ _).alloc _).alloc _).alloc _ | exact (Kp.refl _ _).drewN _)⟩
  · (try clear hc)
    go_enter Tryz.func15, Tryz.ntmps15
    go_wp2_with (go_at_call 21; refine (H.out _ (by first | exact Kp.refl _ _ | exact (Kp.refl _ _).alloc _ | exact ((Kp.refl _ _).alloc _).alloc _ | exact (((Kp.refl _ _).alloc _).alloc _).alloc _ | exact (Kp.refl _ _).drewN _)).mono ?_; rintro e9 w1 ⟨rfl, hw1⟩; subst hw1)
    go_ret
    exact ⟨rfl, (by first | exact Kp.refl _ _ | exact (Kp.refl _ _).alloc _ | exact ((Kp.refl _ _).alloc _).alloc _ | exact (((Kp.refl _ _).alloc _).alloc _).alloc _ | exact (Kp.refl _ _).drewN _)⟩

set_option maxRecDepth 100000 in
set_option maxHeartbeats 800000 in
theorem zm_Failed (v : Value) (z : Int) (w : World) (h : Nz w v) : Calls Tryz.prog 16 #[v, .int .i64 z] w fun e w' => e = .returned (.bool false) ∧ Kp (fun _ => False) w w' := by
  have H : Hid (∀ u, Kp (fun _ => False) w u → Calls Tryz.prog 21 #[v] u fun e w' => e = .returned (.bool false) ∧ w' = u) := fun u k => zmade v u (h.keep k)
  clear h
  go_enter Tryz.func16, Tryz.ntmps16
  go_wp2_with (go_at_call 21; refine (H.out _ (by first | exact Kp.refl _ _ | exact (Kp.refl _ _).alloc _ | exact ((Kp.refl _ _).alloc _).alloc _ | exact (((Kp.refl _ _).alloc _).alloc _).alloc _ | exact (Kp.refl _ _).drewN _)).mono ?_; rintro e9 w1 ⟨rfl, hw1⟩; subst hw1)
  go_ret
  exact ⟨rfl, (by first | exact Kp.refl _ _ | exact (Kp.refl _ _).alloc _ | exact ((Kp.refl _ _).alloc _).alloc _ | exact (((Kp.refl _ _).alloc _).alloc _).alloc _ | exact (Kp.refl _ _).drewN _)⟩

set_option maxRecDepth 100000 in
set_option maxHeartbeats 800000 in
theorem zm_Copy (v : Value) (w : World) (h : Nz w v) : Calls Tryz.prog 17 #[v] w fun e w' => e = .returned (.pointer none) ∧ Kp (fun _ => False) w w' := by
  have H : Hid (∀ u, Kp (fun _ => False) w u → Calls Tryz.prog 21 #[v] u fun e w' => e = .returned (.bool false) ∧ w' = u) := fun u k => zmade v u (h.keep k)
  clear h
  go_enter Tryz.func17, Tryz.ntmps17
  go_wp2_with (go_at_call 21; refine (H.out _ (by first | exact Kp.refl _ _ | exact (Kp.refl _ _).alloc _ | exact ((Kp.refl _ _).alloc _).alloc _ | exact (((Kp.refl _ _).alloc _).alloc _).alloc _ | exact (Kp.refl _ _).drewN _)).mono ?_; rintro e9 w1 ⟨rfl, hw1⟩; subst hw1)
  go_ret
  exact ⟨rfl, (by first | exact Kp.refl _ _ | exact (Kp.refl _ _).alloc _ | exact ((Kp.refl _ _).alloc _).alloc _ | exact (((Kp.refl _ _).alloc _).alloc _).alloc _ | exact (Kp.refl _ _).drewN _)⟩

set_option maxRecDepth 100000 in
set_option maxHeartbeats 800000 in
theorem zm_Code (v : Value) (w : World) (h : Nz w v) : Calls Tryz.prog 19 #[v] w fun e w' => e = .returned (.agg #[.int .i64 0, .int .i64 0]) ∧ Kp (fun _ => False) w w' := by
  have H : Hid (∀ u, Kp (fun _ => False) w u → Calls Tryz.prog 21 #[v] u fun e w' => e = .returned (.bool false) ∧ w' = u) := fun u k => zmade v u (h.keep k)
  clear h
  have HL : Hid (Lv (w.alloc (.cells #[.int .i64 0, .int .i64 0] 24)) w.heap.size [.int .i64 0, .int .i64 0]) := (by have := Lv.new w #[.int .i64 0, .int .i64 0] 24; skip; exact this)
  have HK0 : Hid (Kp (fun _ => False) w (w.alloc (.cells #[.int .i64 0, .int .i64 0] 24))) := (by show Kp _ _ _; exact (by first | exact Kp.refl _ _ | exact (Kp.refl _ _).alloc _ | exact ((Kp.refl _ _).alloc _).alloc _ | exact (((Kp.refl _ _).alloc _).alloc _).alloc _ | exact (Kp.refl _ _).drewN _))
  go_enter Tryz.func19, Tryz.ntmps19
  go_wp2_with (first
    | (go_at_call 21; refine (H.out _ HK0.out).mono ?_; rintro e9 w1 ⟨rfl, hw1⟩; subst hw1)
    | (refine wpList_store_all rfl 24 _ _ rfl 2 w.heap.size [.int .i64 0, .int .i64 0] [.int .i64 0, .int .i64 0] rfl rfl HL.out szCodeZ rfl rfl rfl ?_; intro w2 hl2 k2))
  refine bodyPost_ret (res_cell Tryz.results19 _ _ w.heap.size _ rfl (HL.out.load dsCodeZ szCodeZ rfl)) rfl ?_
  exact ⟨rfl, HK0.out⟩

set_option maxRecDepth 100000 in
set_option maxHeartbeats 800000 in
theorem zm_Apply (v : Value) (c : Array Value) (w : World) (h : Nz w v) : Calls Tryz.prog 4 #[v, .agg c] w fun e w' => e = .returned (.tuple #[.agg #[.int .i64 0, .int .i64 0, .int .i64 0, .int .u32 0, .int .i64 0, .int .i64 0, .slice none 0 0, .int .i64 0], .int .i64 2]) ∧ Kp (fun _ => False) w w' := by
  have H : Hid (∀ u, Kp (fun _ => False) w u → Calls Tryz.prog 21 #[v] u fun e w' => e = .returned (.bool false) ∧ w' = u) := fun u k => zmade v u (h.keep k)
  clear h
  have HL : Hid (Lv ((w.alloc (.cells c 27)).alloc (.cells #[.int .i64 0, .int .i64 0, .int .i64 0, .int .u32 0, .int .i64 0, .int .i64 0, .slice none 0 0, .int .i64 0] 43)) (w.heap.size + 1) [.int .i64 0, .int .i64 0, .int .i64 0, .int .u32 0, .int .i64 0, .int .i64 0, .slice none 0 0, .int .i64 0]) := (by have := Lv.new (w.alloc (.cells c 27)) #[.int .i64 0, .int .i64 0, .int .i64 0, .int .u32 0, .int .i64 0, .int .i64 0, .slice none 0 0, .int .i64 0] 43; rw [show (w.alloc (.cells c 27)).heap.size = w.heap.size + 1 by simp] at this; exact this)
  have HK0 : Hid (Kp (fun _ => False) w ((w.alloc (.cells c 27)).alloc (.cells #[.int .i64 0, .int .i64 0, .int .i64 0, .int .u32 0, .int .i64 0, .int .i64 0, .slice none 0 0, .int .i64 0] 43))) := (by show Kp _ _ _; exact (by first | exact Kp.refl _ _ | exact (Kp.refl _ _).alloc _ | exact ((Kp.refl _ _).alloc _).alloc _ | exact (((Kp.refl _ _).alloc _).alloc _).alloc _ | exact (Kp.refl _ _).drewN _))
  go_enter Tryz.func4, Tryz.ntmps4
  go_wp2_with (first
    | (go_at_call 21; refine (H.out _ HK0.out).mono ?_; rintro e9 w1 ⟨rfl, hw1⟩; subst hw1)
    | (refine wpList_store_all rfl 43 _ _ rfl 8 (w.heap.size + 1) [.int .i64 0, .int .i64 0, .int .i64 0, .int .u32 0, .int .i64 0, .int .i64 0, .slice none 0 0, .int .i64 0] [.int .i64 0, .int .i64 0, .int .i64 0, .int .u32 0, .int .i64 0, .int .i64 0, .slice none 0 0, .int .i64 0] rfl rfl HL.out szOutZ rfl rfl rfl ?_; intro w2 hl2 k2))
  refine bodyPost_ret (res_cell_tmp Tryz.results4 _ _ (w.heap.size + 1) _ rfl (HL.out.load dsOutZ szOutZ rfl)) rfl ?_
  exact ⟨rfl, HK0.out⟩

set_option maxRecDepth 100000 in
set_option maxHeartbeats 800000 in
theorem zm_Blob (v : Value) (k : ByteArray) (w : World) (h : Nz w v) : Calls Tryz.prog 5 #[v, .string k] w fun e w' => e = .returned (.tuple #[.agg #[.int .i64 0, .int .i64 0, .int .u32 0, .int .i64 0, .int .i64 0, .slice none 0 0], .bool false]) ∧ Kp (fun _ => False) w w' := by
  have H : Hid (∀ u, Kp (fun _ => False) w u → Calls Tryz.prog 21 #[v] u fun e w' => e = .returned (.bool false) ∧ w' = u) := fun u k => zmade v u (h.keep k)
  clear h
  have HL : Hid (Lv (w.alloc (.cells #[.int .i64 0, .int .i64 0, .int .u32 0, .int .i64 0, .int .i64 0, .slice none 0 0] 41)) w.heap.size [.int .i64 0, .int .i64 0, .int .u32 0, .int .i64 0, .int .i64 0, .slice none 0 0]) := (by have := Lv.new w #[.int .i64 0, .int .i64 0, .int .u32 0, .int .i64 0, .int .i64 0, .slice none 0 0] 41; skip; exact this)
  have HK0 : Hid (Kp (fun _ => False) w (w.alloc (.cells #[.int .i64 0, .int .i64 0, .int .u32 0, .int .i64 0, .int .i64 0, .slice none 0 0] 41))) := (by show Kp _ _ _; exact (by first | exact Kp.refl _ _ | exact (Kp.refl _ _).alloc _ | exact ((Kp.refl _ _).alloc _).alloc _ | exact (((Kp.refl _ _).alloc _).alloc _).alloc _ | exact (Kp.refl _ _).drewN _))
  go_enter Tryz.func5, Tryz.ntmps5
  go_wp2_with (first
    | (go_at_call 21; refine (H.out _ HK0.out).mono ?_; rintro e9 w1 ⟨rfl, hw1⟩; subst hw1)
    | (refine wpList_store_all rfl 41 _ _ rfl 6 w.heap.size [.int .i64 0, .int .i64 0, .int .u32 0, .int .i64 0, .int .i64 0, .slice none 0 0] [.int .i64 0, .int .i64 0, .int .u32 0, .int .i64 0, .int .i64 0, .slice none 0 0] rfl rfl HL.out szBlobZ rfl rfl rfl ?_; intro w2 hl2 k2))
  refine bodyPost_ret (res_cell_tmp Tryz.results5 _ _ w.heap.size _ rfl (HL.out.load dsBlobZ szBlobZ rfl)) rfl ?_
  exact ⟨rfl, HK0.out⟩

set_option maxRecDepth 100000 in
set_option maxHeartbeats 800000 in
theorem zm_Find (v : Value) (z : Int) (w : World) (h : Nz w v) : Calls Tryz.prog 6 #[v, .int .i64 z] w fun e w' => e = .returned (.tuple #[.agg #[.int .i64 0, .int .i64 0, .int .u32 0, .int .i64 0, .int .i64 0, .slice none 0 0], .bool false]) ∧ Kp (fun _ => False) w w' := by
  have H : Hid (∀ u, Kp (fun _ => False) w u → Calls Tryz.prog 21 #[v] u fun e w' => e = .returned (.bool false) ∧ w' = u) := fun u k => zmade v u (h.keep k)
  clear h
  have HL : Hid (Lv (w.alloc (.cells #[.int .i64 0, .int .i64 0, .int .u32 0, .int .i64 0, .int .i64 0, .slice none 0 0] 41)) w.heap.size [.int .i64 0, .int .i64 0, .int .u32 0, .int .i64 0, .int .i64 0, .slice none 0 0]) := (by have := Lv.new w #[.int .i64 0, .int .i64 0, .int .u32 0, .int .i64 0, .int .i64 0, .slice none 0 0] 41; skip; exact this)
  have HK0 : Hid (Kp (fun _ => False) w (w.alloc (.cells #[.int .i64 0, .int .i64 0, .int .u32 0, .int .i64 0, .int .i64 0, .slice none 0 0] 41))) := (by show Kp _ _ _; exact (by first | exact Kp.refl _ _ | exact (Kp.refl _ _).alloc _ | exact ((Kp.refl _ _).alloc _).alloc _ | exact (((Kp.refl _ _).alloc _).alloc _).alloc _ | exact (Kp.refl _ _).drewN _))
  go_enter Tryz.func6, Tryz.ntmps6
  go_wp2_with (first
    | (go_at_call 21; refine (H.out _ HK0.out).mono ?_; rintro e9 w1 ⟨rfl, hw1⟩; subst hw1)
    | (refine wpList_store_all rfl 41 _ _ rfl 6 w.heap.size [.int .i64 0, .int .i64 0, .int .u32 0, .int .i64 0, .int .i64 0, .slice none 0 0] [.int .i64 0, .int .i64 0, .int .u32 0, .int .i64 0, .int .i64 0, .slice none 0 0] rfl rfl HL.out szBlobZ rfl rfl rfl ?_; intro w2 hl2 k2))
  refine bodyPost_ret (res_cell_tmp Tryz.results6 _ _ w.heap.size _ rfl (HL.out.load dsBlobZ szBlobZ rfl)) rfl ?_
  exact ⟨rfl, HK0.out⟩
-- METHODS
end Go.Proofs.YtfeecopjacpjnaaGreat
