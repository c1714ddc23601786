/- The reference's log of a new plate. -/
import Derived.Test.YtippipeebkkghaaGreatDoorVrh
import Derived.Test.YtippipeebkkghaaGreatDoorVrj
namespace Go.Proofs.YtippipeebkkghaaGreatDoor
set_option linter.unusedVariables false
set_option linter.unusedSimpArgs false
open Go.RowKit Go.Deep Go.Maps

theorem Rp.fresh {w : World} {x tb tw td n : Nat} {Bf Wf : Nat → List Nat} {df : Nat → Bool} {Y Y' : Nat → Prop} (h : Rp w x tb tw td n Bf Wf df Y) (hY : ∀ z, z < w.heap.size → Y' z → Y z) : Rp w x tb tw td n Bf Wf df Y' := by
  have hX : ∀ z, z < w.heap.size → Xs x tb tw td Y' z → Xs x tb tw td Y z := fun z hz e => by
    rcases e with e | e | e | e | e
    · exact Or.inl e
    · exact Or.inr (Or.inl e)
    · exact Or.inr (Or.inr (Or.inl e))
    · exact Or.inr (Or.inr (Or.inr (Or.inl e)))
    · exact Or.inr (Or.inr (Or.inr (Or.inr (hY z hz e))))
  exact { h with B := h.B.fresh hX, W := h.W.fresh hX }

set_option maxRecDepth 100000 in
set_option maxHeartbeats 6400000 in
theorem xopen0_ok {w : World} {x tb tw td n : Nat} {df : Nat → Bool} {Y : Nat → Prop} (h : Rp w x tb tw td n (fun _ => List.replicate 64 0) (fun _ => List.replicate 64 0) df Y) (hY : ∀ z, Y z → z < w.heap.size) (hn6 : 6 ≤ n) :
    Calls Tryz.prog 70 #[.pointer (some ⟨x, 0, none⟩)] w fun e w' => ∃ wx, e = .returned (.tuple #[.pointer (some ⟨wx, 0, none⟩), .slice none 0 0, .int .i64 0]) ∧ Kp (fun z => z = tb ∨ z = tw ∨ z = td) w w' ∧ w.heap.size ≤ wx ∧ wx < w'.heap.size := by
  have hlt := h.lt
  obtain ⟨wx, hwx⟩ : ∃ y, y = w.heap.size := ⟨_, rfl⟩
  obtain ⟨w0, hw0⟩ : ∃ y, y = w.alloc (.cells #[.pointer (some ⟨x, 0, none⟩), .int .i64 0, .int .i64 0, .int .i64 0, .int .i64 0, .int .i64 0, .int .i64 0] 220) := ⟨_, rfl⟩
  have k0 : Kp (fun _ => False) w w0 := by rw [hw0]; exact (Kp.refl _ _).alloc _
  have l0 : Lv w0 wx [.pointer (some ⟨x, 0, none⟩), .int .i64 0, .int .i64 0, .int .i64 0, .int .i64 0, .int .i64 0, .int .i64 0] := by rw [hw0, hwx]; exact Lv.new _ _ _
  have r0 : Rp w0 x tb tw td n (fun _ => List.replicate 64 0) (fun _ => List.replicate 64 0) df (fun z => Y z ∨ z = wx) := (h.fresh (Y' := fun z => Y z ∨ z = wx) (fun z hz e => e.elim id (fun e => by omega))).keep k0 (fun _ e => e.elim) id id id id
  have HR0 : Hid (Rp w0 x tb tw td n (fun _ => List.replicate 64 0) (fun _ => List.replicate 64 0) df (fun z => Y z ∨ z = wx)) := r0
  have HL0 : Hid (Lv w0 wx [.pointer (some ⟨x, 0, none⟩), .int .i64 0, .int .i64 0, .int .i64 0, .int .i64 0, .int .i64 0, .int .i64 0]) := l0
  have HA : Hid (wx = w.heap.size ∧ (x < w.heap.size ∧ tb < w.heap.size ∧ tw < w.heap.size ∧ td < w.heap.size) ∧ (∀ z, Y z → z < w.heap.size) ∧ 6 ≤ n ∧ n ≤ 8192) := ⟨hwx, hlt, hY, hn6, h.n2⟩
  have HK0 : Hid (Kp (fun _ => False) w w0) := k0
  obtain ⟨cW, hcW, c1⟩ := h.c1
  have c3 : w.cell? ⟨x, 3, none⟩ = some (.bool false) := h.c3
  have HC1 : Hid (w0.cell? ⟨x, 1, none⟩ = some (.slice (some ⟨tw, 0, none⟩) n cW)) := k0.cellv c1 id
  have hn8 : (n : Int) ≤ 8192 := by have := h.n2; omega
  have hn7 : ¬ ((n : Int) < 6) := by omega
  have hn1 : (1 : Int) ≤ (n : Int) := by omega
  clear h hY hn6 hlt k0 l0 r0 hcW
  go_enter Tryz.func70, Tryz.ntmps70
  go_upto_region 8 with fail
  rw [← hw0, ← hwx]
  clear hw0 hwx c1 c3
  go_wp2_with fail
  go_loopg [29] 2 (fun gk iv wr => ∃ j : Nat, j ≤ 2 ∧ gk = 2 - j ∧ iv = .int .i64 (j : Int) ∧ Hid (Kp (fun _ => False) w0 wr))
  case atStart => exact ⟨0, Nat.zero_le _, rfl, rfl, Kp.refl _ _⟩
  case round =>
    obtain ⟨j, hj, rfl, rfl, HK⟩ := hrel
    by_cases hlt : j < 2
    · have hlt2 : (j : Int) < 2 := by omega
      have hjn : (j : Int) < (n : Int) := by have := HA.out.2.2.2.1; omega
      have HRr : Hid (Rp wr x tb tw td n (fun _ => List.replicate 64 0) (fun _ => List.replicate 64 0) df (fun z => Y z ∨ z = wx)) := HR0.out.keep HK.out (fun _ e => e.elim) id id id id
      obtain ⟨_, bb, oo, cc, t1, t2, t3, _⟩ := HRr.out.W.at (i := j) (by have := HA.out.2.2.2.1; omega)
      have HT : Hid (wr.cell? ⟨tw, j, none⟩ = some (.slice (some ⟨bb, oo, none⟩) 64 cc)) := t1
      have HSz : Hid (∀ u, Kp (fun _ => False) wr u → Calls Tryz.prog 113 #[.pointer (some ⟨wx, 0, none⟩)] u fun e w' => e = .returned (.int .i64 ((n : Int) - 2)) ∧ w' = u) := fun u k => xsize_ok (HRr.out.keep k (fun _ e => e.elim) id id id id) (((HL0.out.keep HK.out id).keep k id).cell (j := 0) rfl)
      have HRd : Hid (∀ u, Kp (fun _ => False) wr u → Calls Tryz.prog 112 #[.slice (some ⟨bb, oo, none⟩) 64 cc, .int .i64 (j : Int), .int .i64 ((n : Int) - 2)] u fun e w' => e = .returned (.tuple #[.agg #[.int .i64 0, .int .i64 0, .int .i64 0, .int .i64 0], .bool false]) ∧ Kp (fun _ => False) u w') := fun u k => readHead0_ok (t3.keep0 k) t2 _ _
      have hw1 : wrap64 ((j : Int) + 1) = ((j + 1 : Nat) : Int) := by unfold wrap64; omega
      have HJ : Hid (j < 2) := hlt
      have HTr : Hid (∀ u u' : World, Kp (fun _ => False) wr u → Kp (fun _ => False) u u' → Kp (fun _ => False) wr u') := fun u u' h1 h2 => h1.trans h2 (fun _ _ e => e)
      clear t1 t2 t3 hlt
      go_upto_region 11 with fail
      have kd : Kp (fun _ => False) wr wr.drew := (Kp.refl _ _).drew
      go_cut [7, 8] (fun v7 v8 wz => ∃ g, v7 = .pointer (some ⟨g, 0, none⟩) ∧ v8 = .bool false ∧ Hid (Kp (fun _ => False) wr wz))
      case first =>
        refine xo11_region (y0 := wr.drew) rfl ⟨by kernel_rfl, by kernel_rfl, by kernel_rfl, by kernel_rfl, by kernel_rfl, by kernel_rfl, by kernel_rfl, by kernel_rfl, by kernel_rfl, by kernel_rfl, by kernel_rfl, by kernel_rfl, by kernel_rfl, by kernel_rfl, by kernel_rfl, by kernel_rfl, by kernel_rfl, by kernel_rfl, by kernel_rfl, by kernel_rfl, by kernel_rfl, by kernel_rfl, by kernel_rfl, by kernel_rfl, by kernel_rfl, by kernel_rfl, by kernel_rfl, by kernel_rfl, by kernel_rfl, by kernel_rfl, by kernel_rfl, by kernel_rfl, by kernel_rfl, by kernel_rfl, by kernel_rfl, by kernel_rfl, by kernel_rfl, by kernel_rfl⟩ x wx tw n cW bb oo cc j ((n : Int) - 2) hjn (fun d _ _ _ _ h => by cases d <;> exact h) (by rfl) (by rfl) (by rfl) (by rfl) ⟨kd.cellv (HK.out.cellv HC1.out id) id, kd.cellv HT.out id⟩ (fun u hu => HSz.out u (kd.trans hu.1 (fun _ _ e => e))) (fun u hu => HRd.out u (kd.trans hu.1 (fun _ _ e => e))) ?_ ?_ ?_
        all_goals
          intro g w9 k9
          have HKg : Hid (Kp (fun _ => False) wr w9) := kd.trans k9 (fun _ _ e => e)
          simp only [Act.put, List.setIfInBounds_toArray, List.set_cons_succ, List.set_cons_zero]
          go_wp2_with fail
          go_meet
          exact ⟨g, rfl, rfl, HKg⟩
      case rest =>
        obtain ⟨g, rfl, rfl, HKc⟩ := hcut
        have HKn : Hid (Kp (fun _ => False) w0 wc) := HK.out.trans HKc.out (fun _ _ e => e)
        clear HKc HK HT HSz HRd HTr HRr kd
        go_upto_region 12 with fail
        go_region
        all_goals
          have HKn2 : Hid (Kp (fun _ => False) w0 wc.drew) := HKn.out.trans ((Kp.refl _ _).drew) (fun _ _ e => e)
          go_simp
          go_wp2_with fail
          go_roundg (2 - (j + 1))
          case rel => exact ⟨j + 1, HJ.out, rfl, by first | rw [hw1] | simp, HKn2.out⟩
          case measure => exact Nat.sub_lt_sub_left HJ.out (Nat.lt_succ_self j)
    · have hj2 : j = 2 := by omega
      subst hj2
      have hlt2 : ¬ ((2 : Int) < 2) := by omega
      have HLr : Hid (Lv wr wx [.pointer (some ⟨x, 0, none⟩), .int .i64 0, .int .i64 0, .int .i64 0, .int .i64 0, .int .i64 0, .int .i64 0]) := HL0.out.keep HK.out id
      have y1 : wr.cell? ⟨wx, 1, none⟩ = some (.int .i64 0) := HLr.out.cell (j := 1) rfl
      have y2 : wr.cell? ⟨x, 1, none⟩ = some (.slice (some ⟨tw, 0, none⟩) n cW) := HK.out.cellv HC1.out id
      clear hlt
      have HKr : Hid (Kp (fun _ => False) w0 wr) := HK.out
      clear HK
      go_wp2_with fail
      clear y1 y2
      go_loopg [73] n (fun gk iv wz => ∃ j : Nat, j ≤ n ∧ gk = n - j ∧ iv = .int .i64 (j : Int) ∧ Hid (Kp (fun _ => False) wr wz))
      case atStart => exact ⟨0, Nat.zero_le _, rfl, rfl, Kp.refl _ _⟩
      case round =>
        obtain ⟨j, hj, rfl, rfl, HK⟩ := hrel
        rename_i wy _
        by_cases hlt : j < n
        · have hjn : (j : Int) < (n : Int) := by omega
          obtain ⟨_, bb, oo, cc, t1, t2, t3, _⟩ := (HR0.out.keep (HKr.out.trans HK.out (fun _ _ e => e)) (fun _ e => e.elim) id id id id).W.at (i := j) hlt
          have HNg : Hid (Calls _ _ _ _ _) := xnought_ok (c := cc) t3
          have hw1 : wrap64 ((j : Int) + 1) = ((j + 1 : Nat) : Int) := by unfold wrap64; omega
          have HJ : Hid (j < n) := hlt
          clear t2 t3 hlt
          go_wp2_with fail
          refine HNg.out.mono ?_
          rintro e9 w9 ⟨rfl, k9⟩
          have HKn2 : Hid (Kp (fun _ => False) _ w9) := HK.out.trans k9 (fun _ _ e => e)
          clear k9 HNg HK t1
          go_wp2_with fail
          go_roundg (n - (j + 1))
          case rel => exact ⟨j + 1, HJ.out, rfl, by first | rw [hw1] | simp, HKn2.out⟩
          case measure => exact Nat.sub_lt_sub_left HJ.out (Nat.lt_succ_self j)
        · have hjn : j = n := by omega
          subst hjn
          have hlt3 : ¬ ((j : Int) < (j : Int)) := by omega
          have hA := HA.out
          obtain ⟨wq, hwq⟩ : ∃ y, y = wr := ⟨_, rfl⟩
          have kq : Kp (fun _ => False) w0 wr := HKr.out.trans HK.out (fun _ _ e => e)
          have lq := HL0.out.keep kq id
          have q5 : wr.cell? ⟨wx, 5, none⟩ = some (.int .i64 0) := lq.cell (j := 5) rfl
          have f5 : wr.frozen? ⟨wx, 5, none⟩ = false := lq.fz (show 5 < 7 by omega)
          have k5 : Kp (fun z => z = wx) wr (wr.setCell ⟨wx, 5, none⟩ (.int .i64 1)) := (Kp.refl (fun z => z = wx) wr).setCell (fun _ => rfl) _
          have l5 : Lv (wr.setCell ⟨wx, 5, none⟩ (.int .i64 1)) wx [.pointer (some ⟨x, 0, none⟩), .int .i64 0, .int .i64 0, .int .i64 0, .int .i64 0, .int .i64 1, .int .i64 0] := lq.set1 5 (.int .i64 1) (by show 5 < 7; omega)
          have r5 := (HR0.out.keep kq (fun _ e => e.elim) id id id id).keep k5 (fun z e => Or.inr e) (fun e => by have e' : x = wx := e; omega) (fun e => by have e' : tb = wx := e; omega) (fun e => by have e' : tw = wx := e; omega) (fun e => by have e' : td = wx := e; omega)
          have hz5 : w.heap.size < (wr.setCell ⟨wx, 5, none⟩ (.int .i64 1)).heap.size := by have h1 := l5.lt (by simp); omega
          have HHd : Hid (Calls _ _ _ (wr.setCell ⟨wx, 5, none⟩ (.int .i64 1)) _) := xhead_ok r5 (fun z e => by rcases e with e | e; exact Nat.lt_trans (hA.2.2.1 z e) hz5; omega) (by omega) (.int .i64 0) (.int .i64 0) (.int .i64 0) (.int .i64 0) (.int .i64 1) (.int .i64 0) l5 (Or.inr rfl) ⟨by omega, by omega, by omega, by omega⟩
          have HK5 : Hid (Kp (fun _ => False) w (wr.setCell ⟨wx, 5, none⟩ (.int .i64 1))) := (HK0.out.trans kq (fun _ _ e => e)).trans k5 (fun b hb e => by have e' : b = wx := e; omega)
          clear hwq kq lq k5 l5 r5 hz5 hA hlt
          go_wp2_with fail
          refine HHd.out.mono ?_
          rintro e9 w9 ⟨rfl, k9, _, l9⟩
          have HF : Hid (Kp (fun z => z = tb ∨ z = tw ∨ z = td) w w9 ∧ w.heap.size ≤ wx ∧ wx < w9.heap.size) := ⟨(HK5.out.mono (S' := fun z => z = tb ∨ z = tw ∨ z = td) (fun _ _ e => e.elim)).trans k9 (fun z hz e => by
            rcases e with e | e | e | e
            · exact Or.inl e
            · exact Or.inr (Or.inl e)
            · exact Or.inr (Or.inr e)
            · have := HA.out.1
              omega), by have := HA.out.1; omega, l9.lt (by simp)⟩
          clear k9 l9 HHd q5 f5
          go_wp2_with fail
          go_ret3
          exact ⟨wx, rfl, HF.out⟩
end Go.Proofs.YtippipeebkkghaaGreatDoor
