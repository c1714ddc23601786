/- New plates: the program's and the reference's. -/
import Derived.Test.YtippipeebkkghaaGreatDoorPo
namespace Go.Proofs.YtippipeebkkghaaGreatDoor
open Go.RowKit Go.Deep Go.Maps

set_option maxRecDepth 100000 in
set_option maxHeartbeats 400000 in
theorem new_bad (i : Int) (w : World) (h : ¬ (1 ≤ i ∧ i ≤ 8192)) : Calls Tryz.prog 14 #[.int .i64 i] w fun e w' => e = .returned (.tuple #[.pointer none, .int .i64 1]) ∧ w' = w := by
  have H1 : Hid (Calls _ _ _ w _) := isCount_bad i w h
  clear h
  go_enter Tryz.func14, Tryz.ntmps14
  go_wp2_with (go_at_call 38; refine H1.out.mono ?_; rintro e w' ⟨rfl, hw⟩; obtain rfl := hw.symm)
  go_ret2
  exact ⟨rfl, rfl⟩

set_option maxRecDepth 100000 in
set_option maxHeartbeats 400000 in
theorem refNew_bad (i : Int) (w : World) (h : ¬ (1 ≤ i ∧ i ≤ 8192)) : Calls Tryz.prog 15 #[.int .i64 i] w fun e w' => e = .returned (.tuple #[.pointer none, .int .i64 1]) ∧ w' = w := by
  by_cases h1 : i < 1
  · clear h
    go_enter Tryz.func15, Tryz.ntmps15
    go_wp2
    go_ret2
    exact ⟨rfl, rfl⟩
  · have h2 : 8192 < i := by omega
    clear h
    go_enter Tryz.func15, Tryz.ntmps15
    go_wp2
    go_ret2
    exact ⟨rfl, rfl⟩

theorem secOf_zero {n r : Nat} (hr : r < n) : secOf (List.replicate (n * 64) 0) r = List.replicate 64 0 := by
  refine ext_getD ?_ (fun t ht => ?_)
  · rw [secOf_len (by simp) hr]; simp
  · rw [secOf_len (by simp) hr] at ht
    rw [secOf_get _ _ ht, List.getD_eq_getElem?_getD, List.getD_eq_getElem?_getD, List.getElem?_replicate, List.getElem?_replicate, if_pos (by omega), if_pos ht]

theorem made_ow (w : World) : Ow (w.alloc (.cells (madeCells #[.int .u8 0] 64) 5)) w.heap.size (.slice (some ⟨w.heap.size, 0, none⟩) 64 64) (List.replicate 64 0) := by
  have h1 : (List.replicate 64 0).length = 64 := by simp
  exact ⟨by rw [vl_length, h1], Or.inr ⟨w.heap.size, 64, madeCells #[.int .u8 0] 64, rfl, Nat.le_refl _, heap_alloc_new _ _, Nat.le_refl _, by unfold maxLen; omega, by kernel_rfl, by kernel_rfl⟩⟩

set_option maxRecDepth 100000 in
set_option maxHeartbeats 1600000 in
theorem refNew_ok {w : World} {n : Nat} {Y : Nat → Prop} (hY : ∀ z, Y z → z < w.heap.size) (hn1 : 1 ≤ (n : Int)) (hn2 : (n : Int) ≤ 8192) :
    Calls Tryz.prog 15 #[.int .i64 (n : Int)] w fun e w' => ∃ x tb tw td, e = .returned (.tuple #[.pointer (some ⟨x, 0, none⟩), .int .i64 0]) ∧ Kp (fun _ => False) w w' ∧ w.heap.size ≤ x ∧ w.heap.size ≤ tb ∧ w.heap.size ≤ tw ∧ w.heap.size ≤ td ∧ Rp w' x tb tw td n (fun _ => List.replicate 64 0) (fun _ => List.replicate 64 0) (fun _ => false) Y := by
  obtain ⟨ti, hi0, hz0, hz1, hz2⟩ := info_parts info42
  have hmk : ∀ w : World, (Instr.makeSlice 75 (.int .i64 64) (.int .i64 64)).run Tryz.prog w = .ok (.slice (some ⟨w.heap.size, 0, none⟩) 64 64) (w.alloc (.cells (madeCells #[.int .u8 0] 64) 5)) := fun w => run_make_row' (P := Tryz.prog) 75 5 (.int .u8 0) 1 Tryz.underlying75 info5 rfl .i64 .i64 64 (by omega) (by omega) w
  have HY : Hid _ := hY
  clear hY
  go_enter Tryz.func15, Tryz.ntmps15
  go_wp2
  go_loopg [4, 12] n (fun gk v i wr => ∃ (k : Nat) (v' : Value) (xs : List Value), k ≤ n ∧ gk = n - k ∧ i = .int .i64 k ∧ v' = v ∧ Kp (fun _ => False) w wr ∧ Hid (Gt wr w.heap.size v' k xs (fun _ => List.replicate 64 0)))
  case atStart => exact ⟨0, _, [], Nat.zero_le _, rfl, rfl, rfl, Kp.refl _ _, World.ownsRow_nil _ _ _ _, fun r hr => absurd hr (Nat.not_lt_zero _)⟩
  case round =>
    obtain ⟨k, v, xs, hk, rfl, rfl, rfl, hK, hG⟩ := hrel
    by_cases hlt : (k : Int) < (n : Int)
    · have hwz := hK.size
      have kq : Kp (fun _ => False) wr (wr.alloc (.cells (madeCells #[.int .u8 0] 64) 5)) := (Kp.refl _ _).alloc _
      have hs : (wr.alloc (.cells (madeCells #[.int .u8 0] 64) 5)).heap.size = wr.heap.size + 1 := by simp
      have HOq : Hid (Ow (wr.alloc (.cells (madeCells #[.int .u8 0] 64) 5)) wr.heap.size (.slice (some ⟨wr.heap.size, 0, none⟩) 64 64) (List.replicate 64 0)) := made_ow wr
      have hOq := ownsRow_keep hG.out.own kq (fun _ _ => id)
      have hxl : Hid (xs.length = k * 1) := hG.out.own.1
      have hO2 : ((wr.alloc (.cells (madeCells #[.int .u8 0] 64) 5)).alloc (.cells #[.slice (some ⟨wr.heap.size, 0, none⟩) 64 64] 75)).ownsRow w.heap.size 75 1 v k xs := hOq.alloc _
      have HC1 : Hid _ := cell_one_new (wr.alloc (.cells (madeCells #[.int .u8 0] 64) 5)) (.slice (some ⟨wr.heap.size, 0, none⟩) 64 64) 75
      rw [hs] at HC1
      go_wp2_with (at_builtin; go_must (refine wpList_append_own_at _ rfl _ _ 90 rfl w.heap.size 75 ti (.slice none 0 0) 1 24 Tryz.underlying90 hi0 hz0 hz1 hz2 rfl (by decide) _ _ _ rfl hO2 ⟨wr.heap.size + 1, 0, none⟩ 1 1 [.slice (some ⟨wr.heap.size, 0, none⟩) 64 64] rfl rfl HC1.out (fun x hx => by simp at hx; subst hx; rfl) (by unfold maxLen; omega) (by omega) (by simp; omega) ?_); intro v' w3 hown' hgrow3 hnil3 hblk3)
      have HK3 : Hid (Kp (fun _ => False) w w3) := Kp.trans ((hK.trans kq (fun _ _ e => e)).alloc _) (grownBy_kp hgrow3) (fun b hb e => by have := ownBlock_lt hOq e; omega)
      have HG3 : Hid (Gt w3 w.heap.size v' (k + 1) (xs ++ [.slice (some ⟨wr.heap.size, 0, none⟩) 64 64]) (fun _ => List.replicate 64 0)) := Gt.step hG.out (by have := hxl.out; omega) hwz kq HOq.out (fun x hx => by rw [List.eq_of_mem_replicate hx]; omega) ((Kp.refl _ _).alloc _) hown' hgrow3 hblk3
      clear hown' hgrow3 hnil3 hblk3 hG HOq hOq hO2 HC1 kq
      go_roundg (n - (k + 1))
      case rel => exact ⟨k + 1, v', _, by omega, rfl, by go_num, rfl, HK3.out, HG3.out⟩
      case measure => omega
    · have e : n = k := by omega
      subst e
      have hwz := hK.size
      obtain ⟨t, c, rfl, hc, hbt, hlt2, hT⟩ := Tr.of_gt (X := fun _ => False) hG.out (by omega) (fun r hr => by simp)
      have HOf : Hid (∀ c, Calls _ _ #[.slice (some ⟨t, 0, none⟩) _ c] wr _) := fun c => refOf_ok (c := c) (p := some ⟨t, 0, none⟩) (n := n) (N := fun _ => List.replicate 64 0) (Y := Y) (fun z e => Nat.lt_of_lt_of_le (HY.out z e) hwz) hn1 hn2 (fun r hr => by
        obtain ⟨_, bb, o, cc, e1, _, e2, _⟩ := (hT (fun _ _ _ e => e.elim)).at hr
        exact ⟨t, 0, rfl, some ⟨bb, o, none⟩, cc, by rw [Nat.zero_add]; exact e1, e2⟩)
      clear hG hT
      go_wp2_with (go_at_call 40; refine (HOf.out _).mono ?_; rintro e w3 ⟨x, tb, tw, td, rfl, k3, hx, htb, htw, htd, hR⟩)
      go_ret2
      exact ⟨x, tb, tw, td, rfl, hK.trans k3 (fun _ _ e => e), by omega, by omega, by omega, by omega, hR⟩
end Go.Proofs.YtippipeebkkghaaGreatDoor
