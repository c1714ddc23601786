/- The reference's log on a new plate: no head. -/
import Derived.Test.YtippipeebkkghaaGreatDoorVra
import Derived.Test.YtippipeebkkghaaGreatDoorVrc
import Derived.Test.YtippipeebkkghaaGreatDoorJrx
import Derived.Handy
namespace Go.Proofs.YtippipeebkkghaaGreatDoor
set_option linter.unusedVariables false
set_option linter.unusedSimpArgs false
open Go.RowKit Go.Deep Go.Maps

theorem szHd : (Tryz.prog.info? 218).map (·.size) = some 4 := by kernel_rfl
theorem dsHd : ∃ d, Tryz.prog.underlying 218 = some d ∧ d.isRow = true := ⟨_, Tryz.underlying218, rfl⟩
theorem hd_one (a b c d : Int) : (#[.int .i64 a, .int .i64 b, .int .i64 c, .int .i64 d] : Array Value).all (·.oneCell') = true := all_oneCell_toArray (cs := [.int .i64 a, .int .i64 b, .int .i64 c, .int .i64 d]) (fun v hv => by
  simp only [List.mem_cons, List.not_mem_nil, or_false] at hv
  rcases hv with rfl | rfl | rfl | rfl <;> rfl)
theorem rep0_part (l r : Nat) (hr : r ≤ 64) : (((List.replicate 64 0).take r).drop l) = List.replicate (r - l) 0 := by
  rw [List.take_replicate, List.drop_replicate, Nat.min_eq_left hr]

set_option maxRecDepth 100000 in
set_option maxHeartbeats 6400000 in
theorem readHead0_ok {w : World} {p : Option Addr} {c : Nat} (h : Rb w p 64 (List.replicate 64 0)) (hc : 64 ≤ c) (i size : Int) :
    Calls Tryz.prog 112 #[.slice p 64 c, .int .i64 i, .int .i64 size] w fun e w' => e = .returned (.tuple #[.agg #[.int .i64 0, .int .i64 0, .int .i64 0, .int .i64 0], .bool false]) ∧ Kp (fun _ => False) w w' := by
  obtain ⟨h0, hh0⟩ : ∃ y, y = w.heap.size := ⟨_, rfl⟩
  obtain ⟨w0, hw0⟩ : ∃ y, y = w.alloc (.cells #[.int .i64 0, .int .i64 0, .int .i64 0, .int .i64 0] 218) := ⟨_, rfl⟩
  have HK0 : Hid (Kp (fun _ => False) w w0) := by rw [hw0]; exact (Kp.refl _ _).alloc _
  have HL0 : Hid (Lv w0 h0 [.int .i64 0, .int .i64 0, .int .i64 0, .int .i64 0]) := by rw [hw0, hh0]; exact Lv.new _ _ _
  have HH : Hid (h0 = w.heap.size) := hh0
  have HR : Hid (Rb w0 p 64 (List.replicate 64 0)) := h.keep0 HK0.out
  have sl : ∀ (l r : Nat), l ≤ r → r ≤ 64 → ∀ z, (Instr.sliceAt 75 (.slice p 64 c) (some (.int .i64 (l : Int))) (some (.int .i64 (r : Int))) none).run Tryz.prog z = .ok (.slice (if c = l then p else p.map (·.add (l * 1))) (r - l) (c - l)) z := fun l r h1 h2 z => by
    have := slice_lh p 64 c l r h1 (by omega) z
    simp [Instr.sliceAt, run_underlying Tryz.underlying75, this]
  obtain ⟨q, hq⟩ : ∃ q : Nat → Option Addr, q = fun l => if c = l then p else p.map (·.add (l * 1)) := ⟨_, rfl⟩
  have s0 : ∀ z, (Instr.sliceAt 75 (.slice p 64 c) (some (.int .i64 1)) (some (.int .i64 9)) none).run Tryz.prog z = .ok (.slice (q 1) 8 (c - 1)) z := fun z => by rw [hq]; exact sl 1 9 (by omega) (by omega) z
  have s1 : ∀ z, (Instr.sliceAt 75 (.slice p 64 c) (some (.int .i64 9)) (some (.int .i64 17)) none).run Tryz.prog z = .ok (.slice (q 9) 8 (c - 9)) z := fun z => by rw [hq]; exact sl 9 17 (by omega) (by omega) z
  have s2 : ∀ z, (Instr.sliceAt 75 (.slice p 64 c) (some (.int .i64 17)) (some (.int .i64 25)) none).run Tryz.prog z = .ok (.slice (q 17) 8 (c - 17)) z := fun z => by rw [hq]; exact sl 17 25 (by omega) (by omega) z
  have s3 : ∀ z, (Instr.sliceAt 75 (.slice p 64 c) (some (.int .i64 25)) (some (.int .i64 33)) none).run Tryz.prog z = .ok (.slice (q 25) 8 (c - 25)) z := fun z => by rw [hq]; exact sl 25 33 (by omega) (by omega) z
  have HBg : Hid (∀ l, l + 8 ≤ 64 → ∀ u, Kp (fun _ => False) w0 u → Calls Tryz.prog 157 #[.slice (q l) 8 (c - l)] u fun e w' => e = .returned (.tuple #[.int .i64 0, .bool true]) ∧ w' = u) := fun l hl u k => by
    have hp := (HR.out.keep0 k).part hc (l := l) (r := l + 8) (by omega) hl
    rw [rep0_part l (l + 8) hl, show l + 8 - l = 8 by omega] at hp
    rw [hq]
    exact xbig0_ok hp (fun x hx => List.eq_of_mem_replicate hx) (by omega) (by omega)
  clear h hc sl hq
  go_enter Tryz.func112, Tryz.ntmps112
  go_upto_region 1 with fail
  rw [← hw0, ← hh0]
  clear hw0 hh0
  go_wp2_with fail
  go_loopg [8, 14] 4 (fun gk lv iv wr => ∃ (j : Nat) (v1 : Value), j ≤ 4 ∧ gk = 4 - j ∧ lv = v1 ∧ iv = .int .i64 (j : Int) ∧ Hid (Kp (fun _ => False) w0 wr ∧ Oi wr w0.heap.size v1 (List.replicate j 0)))
  case atStart => exact ⟨0, _, Nat.zero_le _, rfl, rfl, rfl, Kp.refl _ _, World.ownsRow_nil _ _ _ _⟩
  case round =>
    obtain ⟨j, v1, hj, rfl, hvv, rfl, HK⟩ := hrel
    have hv2 := hvv.symm
    subst hv2
    clear hvv
    by_cases hlt : j < 4
    · have hB : ∀ l, l + 8 ≤ 64 → Calls Tryz.prog 157 #[.slice (q l) 8 (c - l)] wr fun e w' => e = .returned (.tuple #[.int .i64 0, .bool true]) ∧ w' = wr := fun l hl => HBg.out l hl wr HK.out.1
      have HSz : Hid (w0.heap.size ≤ wr.heap.size) := HK.out.1.size
      rcases (by omega : j = 0 ∨ j = 1 ∨ j = 2 ∨ j = 3) with rfl | rfl | rfl | rfl
      · have HB : Hid (Calls _ _ _ wr _) := hB 1 (by omega)
        clear hB hlt
        go_wp2_with fail
        refine HB.out.mono ?_
        rintro e9 w9 ⟨rfl, hw9⟩
        have hw8 := hw9.symm
        subst hw8
        clear hw9 HB
        go_wp2_with (at_builtin; refine wpList_append_in _ rfl _ _ rfl w0.heap.size v1 (List.replicate 0 0) 0 wr.heap.size rfl (ownsRow_keep HK.out.2 ((Kp.refl (fun _ => False) _).alloc _) (fun _ _ e => e)) (by first | rfl | simp) ((Lv.new wr #[.int .i64 0] 3).cell (j := 0) rfl) (by decide) (Nat.le_trans HSz.out (by simp)) ?_; intro v9 w9 o9 k9)
        have HF9 : Hid (Kp (fun _ => False) w0 w9 ∧ Oi w9 w0.heap.size v9 (List.replicate (0 + 1) 0)) := ⟨(HK.out.1.trans ((Kp.refl (fun _ => False) _).alloc _) (fun _ _ e => e)).trans k9 (fun b hb e => by have := (ownBlock_lt HK.out.2 e).1; omega), o9⟩
        clear o9 k9 HK HSz
        go_roundg (4 - (0 + 1))
        case rel => exact ⟨0 + 1, v9, by omega, rfl, rfl, by first | rfl | simp, HF9.out⟩
        case measure => omega
      · have HB : Hid (Calls _ _ _ wr _) := hB 9 (by omega)
        clear hB hlt
        go_wp2_with fail
        refine HB.out.mono ?_
        rintro e9 w9 ⟨rfl, hw9⟩
        have hw8 := hw9.symm
        subst hw8
        clear hw9 HB
        go_wp2_with (at_builtin; refine wpList_append_in _ rfl _ _ rfl w0.heap.size v1 (List.replicate 1 0) 0 wr.heap.size rfl (ownsRow_keep HK.out.2 ((Kp.refl (fun _ => False) _).alloc _) (fun _ _ e => e)) (by first | rfl | simp) ((Lv.new wr #[.int .i64 0] 3).cell (j := 0) rfl) (by decide) (Nat.le_trans HSz.out (by simp)) ?_; intro v9 w9 o9 k9)
        have HF9 : Hid (Kp (fun _ => False) w0 w9 ∧ Oi w9 w0.heap.size v9 (List.replicate (1 + 1) 0)) := ⟨(HK.out.1.trans ((Kp.refl (fun _ => False) _).alloc _) (fun _ _ e => e)).trans k9 (fun b hb e => by have := (ownBlock_lt HK.out.2 e).1; omega), o9⟩
        clear o9 k9 HK HSz
        go_roundg (4 - (1 + 1))
        case rel => exact ⟨1 + 1, v9, by omega, rfl, rfl, by first | rfl | simp, HF9.out⟩
        case measure => omega
      · have HB : Hid (Calls _ _ _ wr _) := hB 17 (by omega)
        clear hB hlt
        go_wp2_with fail
        refine HB.out.mono ?_
        rintro e9 w9 ⟨rfl, hw9⟩
        have hw8 := hw9.symm
        subst hw8
        clear hw9 HB
        go_wp2_with (at_builtin; refine wpList_append_in _ rfl _ _ rfl w0.heap.size v1 (List.replicate 2 0) 0 wr.heap.size rfl (ownsRow_keep HK.out.2 ((Kp.refl (fun _ => False) _).alloc _) (fun _ _ e => e)) (by first | rfl | simp) ((Lv.new wr #[.int .i64 0] 3).cell (j := 0) rfl) (by decide) (Nat.le_trans HSz.out (by simp)) ?_; intro v9 w9 o9 k9)
        have HF9 : Hid (Kp (fun _ => False) w0 w9 ∧ Oi w9 w0.heap.size v9 (List.replicate (2 + 1) 0)) := ⟨(HK.out.1.trans ((Kp.refl (fun _ => False) _).alloc _) (fun _ _ e => e)).trans k9 (fun b hb e => by have := (ownBlock_lt HK.out.2 e).1; omega), o9⟩
        clear o9 k9 HK HSz
        go_roundg (4 - (2 + 1))
        case rel => exact ⟨2 + 1, v9, by omega, rfl, rfl, by first | rfl | simp, HF9.out⟩
        case measure => omega
      · have HB : Hid (Calls _ _ _ wr _) := hB 25 (by omega)
        clear hB hlt
        go_wp2_with fail
        refine HB.out.mono ?_
        rintro e9 w9 ⟨rfl, hw9⟩
        have hw8 := hw9.symm
        subst hw8
        clear hw9 HB
        go_wp2_with (at_builtin; refine wpList_append_in _ rfl _ _ rfl w0.heap.size v1 (List.replicate 3 0) 0 wr.heap.size rfl (ownsRow_keep HK.out.2 ((Kp.refl (fun _ => False) _).alloc _) (fun _ _ e => e)) (by first | rfl | simp) ((Lv.new wr #[.int .i64 0] 3).cell (j := 0) rfl) (by decide) (Nat.le_trans HSz.out (by simp)) ?_; intro v9 w9 o9 k9)
        have HF9 : Hid (Kp (fun _ => False) w0 w9 ∧ Oi w9 w0.heap.size v9 (List.replicate (3 + 1) 0)) := ⟨(HK.out.1.trans ((Kp.refl (fun _ => False) _).alloc _) (fun _ _ e => e)).trans k9 (fun b hb e => by have := (ownBlock_lt HK.out.2 e).1; omega), o9⟩
        clear o9 k9 HK HSz
        go_roundg (4 - (3 + 1))
        case rel => exact ⟨3 + 1, v9, by omega, rfl, rfl, by first | rfl | simp, HF9.out⟩
        case measure => omega
    · have hj4 : j = 4 := by omega
      subst hj4
      obtain ⟨q5, c5, rfl, hf⟩ := own_fl HK.out.2
      obtain ⟨g5, o5, rfl, _, y0⟩ := hf 0 (.int .i64 0) rfl
      obtain ⟨g6, o6, e6, _, y1⟩ := hf 1 (.int .i64 0) rfl
      cases e6
      obtain ⟨g6, o6, e6, _, y2⟩ := hf 2 (.int .i64 0) rfl
      cases e6
      obtain ⟨g6, o6, e6, _, y3⟩ := hf 3 (.int .i64 0) rfl
      cases e6
      rw [Nat.add_zero] at y0
      have HKr : Hid (Kp (fun _ => False) w0 wr) := HK.out.1
      clear hf HK s0 s1 s2 s3 HBg hlt
      go_wp2_with fail
      go_region
      all_goals
        obtain ⟨g9, hg9⟩ : ∃ y, y = wr.heap.size := ⟨_, rfl⟩
        obtain ⟨wz, hwz⟩ : ∃ y, y = (wr.alloc (.cells #[.int .i64 0, .int .i64 0, .int .i64 0, .int .i64 0] 218)).drew := ⟨_, rfl⟩
        have kz : Kp (fun _ => False) wr wz := by rw [hwz]; exact ((Kp.refl _ _).alloc _).drew
        have lz : Lv wz g9 [.int .i64 0, .int .i64 0, .int .i64 0, .int .i64 0] := by rw [hwz, hg9]; exact (Lv.new wr _ _).keep (S := fun _ => False) ((Kp.refl _ _).drew) id
        have HNe : Hid (¬ g9 = h0) := by have h1 := HL0.out.lt (by simp); have h2 := HKr.out.size; show ¬ _; omega
        have HKz : Hid (Kp (fun _ => False) w0 wz) := HKr.out.trans kz (fun _ _ e => e)
        have HLz : Hid (Lv wz g9 [.int .i64 0, .int .i64 0, .int .i64 0, .int .i64 0]) := lz
        have z0 : wz.cell? ⟨g9, 0, none⟩ = some (.int .i64 0) := lz.cell (j := 0) rfl
        rw [← hwz, ← hg9]
        clear hwz hg9 kz lz y0 y1 y2 y3
        go_simp
        go_upto_region 12 with fail
        have kd : Kp (fun _ => False) wz wz.drew := (Kp.refl _ _).drew
        have lz9 := HLz.out.keep kd id
        have lh9 := (HL0.out.keep HKz.out id).keep kd id
        have hne : ¬ g9 = h0 := HNe.out
        have hst := run_storeAt_mid (P := Tryz.prog) wz.drew h0 0 218 #[.int .i64 0, .int .i64 0, .int .i64 0, .int .i64 0] (fun j hj => by have := lh9.t j hj; exact this) szHd (hd_one 0 0 0 0)
        have k1 : Kp (fun b => b = h0) wz.drew (wz.drew.setCells h0 0 [.int .i64 0, .int .i64 0, .int .i64 0, .int .i64 0]) := kp_setCells h0 _ 0 _
        have l1 : Lv (wz.drew.setCells h0 0 [.int .i64 0, .int .i64 0, .int .i64 0, .int .i64 0]) h0 [.int .i64 0, .int .i64 0, .int .i64 0, .int .i64 0] := lh9.set 0 [.int .i64 0, .int .i64 0, .int .i64 0, .int .i64 0] (by simp)
        have lg1 := lz9.keep k1 hne
        refine rh12_region ⟨by kernel_rfl, by kernel_rfl, by kernel_rfl, by kernel_rfl, by kernel_rfl, by kernel_rfl, by kernel_rfl, by kernel_rfl, by kernel_rfl, by kernel_rfl, by kernel_rfl, by kernel_rfl, by kernel_rfl, by kernel_rfl, by kernel_rfl, by kernel_rfl, by kernel_rfl, by kernel_rfl⟩ g9 h0 p c 0 0 0 0 (wz.drew.setCells h0 0 [.int .i64 0, .int .i64 0, .int .i64 0, .int .i64 0]) (fun d _ _ _ _ h => by cases d <;> exact h) (by rfl) (by rfl) (by rfl) (by rfl) (by rfl) ⟨lz9.cell (j := 0) rfl, lz9.cell (j := 1) rfl, lz9.cell (j := 2) rfl, lz9.cell (j := 3) rfl⟩ hst ⟨lg1.cell (j := 0) rfl, lg1.cell (j := 1) rfl, lg1.cell (j := 2) rfl, lg1.cell (j := 3) rfl⟩ ?_
        have HF : Hid (Kp (fun _ => False) w (wz.drew.setCells h0 0 [.int .i64 0, .int .i64 0, .int .i64 0, .int .i64 0]) ∧ Lv (wz.drew.setCells h0 0 [.int .i64 0, .int .i64 0, .int .i64 0, .int .i64 0]) h0 [.int .i64 0, .int .i64 0, .int .i64 0, .int .i64 0]) := ⟨((HK0.out.trans HKz.out (fun _ _ e => e)).trans kd (fun _ _ e => e)).trans k1 (fun b hb e => by have e' : b = h0 := e; have := HH.out; omega), l1⟩
        clear kd lz9 lh9 hst k1 l1 lg1 z0
        simp only [Act.put, List.setIfInBounds_toArray, List.set_cons_succ, List.set_cons_zero]
        go_wp2_with fail
        refine bodyPost_ret (res_cell_tmp Tryz.results112 _ _ h0 _ rfl (HF.out.2.load dsHd szHd rfl)) rfl ?_
        exact ⟨rfl, HF.out.1⟩
end Go.Proofs.YtippipeebkkghaaGreatDoor
