/- What a sector says: headOf; whether it is right. -/
import Derived.Test.YtippipeebkkghaaGreatDoorAi
namespace Go.Proofs.YtippipeebkkghaaGreatDoor
set_option linter.unusedVariables false
set_option linter.unusedSimpArgs false
open Go.RowKit Go.Deep

/-- the number in the eight bytes from o on -/
def numAt (xs : List Nat) (o : Nat) : Int := i64Of (hfW ((xs.drop o).take 8))

set_option maxRecDepth 100000 in
set_option maxHeartbeats 800000 in
theorem headOf1_0 (r g q c : Nat) (xs : List Nat) (w : World) (hb : w.cell? ⟨r, 0, none⟩ = some (.slice (some ⟨g, q, none⟩) 64 c)) (hc : 64 ≤ c) (h : Rb w (some ⟨g, q, none⟩) 64 xs) :
    Calls Tryz.prog 178 #[.int .i64 0, .pointer (some ⟨r, 0, none⟩)] w fun e w' => e = .returned (.int .i64 (numAt xs 1)) ∧ Kp (fun _ => False) w w' := by
  obtain ⟨z, hz⟩ : ∃ z, z = numAt xs 1 := ⟨_, rfl⟩
  have HN : Hid (Calls Tryz.prog 179 #[.slice (some ⟨g, q + 1, none⟩) 8 (c - 1)] w fun e w' => e = .returned (.int .i64 z) ∧ Kp (fun _ => False) w w') := by
    rw [hz]
    exact numberOf_kp (h.mid (l := 1) (m := 8) (by omega)) (c - 1) (by omega)
  rw [← hz]
  clear hz
  have hs : ∀ w, (Instr.slice 75 (.slice (some ⟨g, q, none⟩) 64 c) (some (.int .i64 1)) (some (.int .i64 9)) none).run Tryz.prog w = .ok (.slice (some ⟨g, q + 1, none⟩) 8 (c - 1)) w := fun w => sliceLH g q 64 c 1 9 (by omega) (by omega) (by omega) w
  clear h
  go_enter Tryz.func178, Tryz.ntmps178
  go_wp2_with fail
  refine HN.out.mono ?_
  rintro e9 w1 ⟨rfl, k1⟩
  have HK : Hid (Kp (fun _ => False) w w1) := k1
  clear k1 HN
  go_wp2
  go_ret
  exact ⟨rfl, HK.out⟩

set_option maxRecDepth 100000 in
set_option maxHeartbeats 800000 in
theorem headOf1_1 (r g q c : Nat) (xs : List Nat) (w : World) (hb : w.cell? ⟨r, 0, none⟩ = some (.slice (some ⟨g, q, none⟩) 64 c)) (hc : 64 ≤ c) (h : Rb w (some ⟨g, q, none⟩) 64 xs) :
    Calls Tryz.prog 178 #[.int .i64 1, .pointer (some ⟨r, 0, none⟩)] w fun e w' => e = .returned (.int .i64 (numAt xs 9)) ∧ Kp (fun _ => False) w w' := by
  obtain ⟨z, hz⟩ : ∃ z, z = numAt xs 9 := ⟨_, rfl⟩
  have HN : Hid (Calls Tryz.prog 179 #[.slice (some ⟨g, q + 9, none⟩) 8 (c - 9)] w fun e w' => e = .returned (.int .i64 z) ∧ Kp (fun _ => False) w w') := by
    rw [hz]
    exact numberOf_kp (h.mid (l := 9) (m := 8) (by omega)) (c - 9) (by omega)
  rw [← hz]
  clear hz
  have hs : ∀ w, (Instr.slice 75 (.slice (some ⟨g, q, none⟩) 64 c) (some (.int .i64 9)) (some (.int .i64 17)) none).run Tryz.prog w = .ok (.slice (some ⟨g, q + 9, none⟩) 8 (c - 9)) w := fun w => sliceLH g q 64 c 9 17 (by omega) (by omega) (by omega) w
  clear h
  go_enter Tryz.func178, Tryz.ntmps178
  go_wp2_with fail
  refine HN.out.mono ?_
  rintro e9 w1 ⟨rfl, k1⟩
  have HK : Hid (Kp (fun _ => False) w w1) := k1
  clear k1 HN
  go_wp2
  go_ret
  exact ⟨rfl, HK.out⟩

set_option maxRecDepth 100000 in
set_option maxHeartbeats 800000 in
theorem headOf1_2 (r g q c : Nat) (xs : List Nat) (w : World) (hb : w.cell? ⟨r, 0, none⟩ = some (.slice (some ⟨g, q, none⟩) 64 c)) (hc : 64 ≤ c) (h : Rb w (some ⟨g, q, none⟩) 64 xs) :
    Calls Tryz.prog 178 #[.int .i64 2, .pointer (some ⟨r, 0, none⟩)] w fun e w' => e = .returned (.int .i64 (numAt xs 17)) ∧ Kp (fun _ => False) w w' := by
  obtain ⟨z, hz⟩ : ∃ z, z = numAt xs 17 := ⟨_, rfl⟩
  have HN : Hid (Calls Tryz.prog 179 #[.slice (some ⟨g, q + 17, none⟩) 8 (c - 17)] w fun e w' => e = .returned (.int .i64 z) ∧ Kp (fun _ => False) w w') := by
    rw [hz]
    exact numberOf_kp (h.mid (l := 17) (m := 8) (by omega)) (c - 17) (by omega)
  rw [← hz]
  clear hz
  have hs : ∀ w, (Instr.slice 75 (.slice (some ⟨g, q, none⟩) 64 c) (some (.int .i64 17)) (some (.int .i64 25)) none).run Tryz.prog w = .ok (.slice (some ⟨g, q + 17, none⟩) 8 (c - 17)) w := fun w => sliceLH g q 64 c 17 25 (by omega) (by omega) (by omega) w
  clear h
  go_enter Tryz.func178, Tryz.ntmps178
  go_wp2_with fail
  refine HN.out.mono ?_
  rintro e9 w1 ⟨rfl, k1⟩
  have HK : Hid (Kp (fun _ => False) w w1) := k1
  clear k1 HN
  go_wp2
  go_ret
  exact ⟨rfl, HK.out⟩

set_option maxRecDepth 100000 in
set_option maxHeartbeats 800000 in
theorem headOf1_3 (r g q c : Nat) (xs : List Nat) (w : World) (hb : w.cell? ⟨r, 0, none⟩ = some (.slice (some ⟨g, q, none⟩) 64 c)) (hc : 64 ≤ c) (h : Rb w (some ⟨g, q, none⟩) 64 xs) :
    Calls Tryz.prog 178 #[.int .i64 3, .pointer (some ⟨r, 0, none⟩)] w fun e w' => e = .returned (.int .i64 (numAt xs 25)) ∧ Kp (fun _ => False) w w' := by
  obtain ⟨z, hz⟩ : ∃ z, z = numAt xs 25 := ⟨_, rfl⟩
  have HN : Hid (Calls Tryz.prog 179 #[.slice (some ⟨g, q + 25, none⟩) 8 (c - 25)] w fun e w' => e = .returned (.int .i64 z) ∧ Kp (fun _ => False) w w') := by
    rw [hz]
    exact numberOf_kp (h.mid (l := 25) (m := 8) (by omega)) (c - 25) (by omega)
  rw [← hz]
  clear hz
  have hs : ∀ w, (Instr.slice 75 (.slice (some ⟨g, q, none⟩) 64 c) (some (.int .i64 25)) (some (.int .i64 33)) none).run Tryz.prog w = .ok (.slice (some ⟨g, q + 25, none⟩) 8 (c - 25)) w := fun w => sliceLH g q 64 c 25 33 (by omega) (by omega) (by omega) w
  clear h
  go_enter Tryz.func178, Tryz.ntmps178
  go_wp2_with fail
  refine HN.out.mono ?_
  rintro e9 w1 ⟨rfl, k1⟩
  have HK : Hid (Kp (fun _ => False) w w1) := k1
  clear k1 HN
  go_wp2
  go_ret
  exact ⟨rfl, HK.out⟩

theorem szHead : (Tryz.prog.info? 134).map (·.size) = some 4 := by kernel_rfl
theorem dsHead : ∃ d, Tryz.prog.underlying 134 = some d ∧ d.isRow = true := ⟨_, Tryz.underlying134, rfl⟩
set_option maxRecDepth 100000 in
set_option maxHeartbeats 1600000 in
theorem headOf_ok (g q c : Nat) (xs : List Nat) (w : World) (hc : 64 ≤ c) (h : Rb w (some ⟨g, q, none⟩) 64 xs) :
    Calls Tryz.prog 141 #[.slice (some ⟨g, q, none⟩) 64 c] w fun e w' => e = .returned (headV (numAt xs 1) (numAt xs 9) (numAt xs 17) (numAt xs 25)) ∧ Kp (fun _ => False) w w' := by
  have HR : Hid (Rb w (some ⟨g, q, none⟩) 64 xs) := h
  have HC : Hid (64 ≤ c) := hc
  clear h hc
  go_enter Tryz.func141, Tryz.ntmps141
  obtain ⟨z0, hz0⟩ : ∃ z, z = numAt xs 1 := ⟨_, rfl⟩
  obtain ⟨z1, hz1⟩ : ∃ z, z = numAt xs 9 := ⟨_, rfl⟩
  obtain ⟨z2, hz2⟩ : ∃ z, z = numAt xs 17 := ⟨_, rfl⟩
  obtain ⟨z3, hz3⟩ : ∃ z, z = numAt xs 25 := ⟨_, rfl⟩
  obtain ⟨r, hr⟩ : ∃ r, r = w.heap.size := ⟨_, rfl⟩
  obtain ⟨m, hm⟩ : ∃ m, m = w.heap.size + 1 := ⟨_, rfl⟩
  obtain ⟨w0, hw0⟩ : ∃ y, y = (w.alloc (.cells #[.slice (some ⟨g, q, none⟩) 64 c] 75)).alloc (.cells #[.int .i64 0, .int .i64 0, .int .i64 0, .int .i64 0] 134) := ⟨_, rfl⟩
  have zz : (w.alloc (.cells #[.slice (some ⟨g, q, none⟩) 64 c] 75)).heap.size = w.heap.size + 1 := by simp
  have HK0 : Hid (Kp (fun _ => False) w w0) := by rw [hw0]; exact ((Kp.refl _ _).alloc _).alloc _
  have HB0 : Hid (Lv w0 r [.slice (some ⟨g, q, none⟩) 64 c]) := by rw [hw0, hr]; exact (Lv.new w _ _).keep ((Kp.refl (fun _ => False) _).alloc _) id
  have HM0 : Hid (Lv w0 m [.int .i64 0, .int .i64 0, .int .i64 0, .int .i64 0]) := by rw [hw0, hm, ← zz]; exact Lv.new _ _ _
  have HC0 : Hid (∀ u, Kp (fun _ => False) w0 u → Calls Tryz.prog 178 #[.int .i64 0, .pointer (some ⟨r, 0, none⟩)] u fun e w' => e = .returned (.int .i64 z0) ∧ Kp (fun _ => False) u w') := fun u k => by rw [hz0]; exact headOf1_0 r g q c xs u (k.cellv (HB0.out.cell (j := 0) rfl) id) HC.out ((HR.out.keep0 HK0.out).keep0 k)
  have HC1 : Hid (∀ u, Kp (fun _ => False) w0 u → Calls Tryz.prog 178 #[.int .i64 1, .pointer (some ⟨r, 0, none⟩)] u fun e w' => e = .returned (.int .i64 z1) ∧ Kp (fun _ => False) u w') := fun u k => by rw [hz1]; exact headOf1_1 r g q c xs u (k.cellv (HB0.out.cell (j := 0) rfl) id) HC.out ((HR.out.keep0 HK0.out).keep0 k)
  have HC2 : Hid (∀ u, Kp (fun _ => False) w0 u → Calls Tryz.prog 178 #[.int .i64 2, .pointer (some ⟨r, 0, none⟩)] u fun e w' => e = .returned (.int .i64 z2) ∧ Kp (fun _ => False) u w') := fun u k => by rw [hz2]; exact headOf1_2 r g q c xs u (k.cellv (HB0.out.cell (j := 0) rfl) id) HC.out ((HR.out.keep0 HK0.out).keep0 k)
  have HC3 : Hid (∀ u, Kp (fun _ => False) w0 u → Calls Tryz.prog 178 #[.int .i64 3, .pointer (some ⟨r, 0, none⟩)] u fun e w' => e = .returned (.int .i64 z3) ∧ Kp (fun _ => False) u w') := fun u k => by rw [hz3]; exact headOf1_3 r g q c xs u (k.cellv (HB0.out.cell (j := 0) rfl) id) HC.out ((HR.out.keep0 HK0.out).keep0 k)
  rw [← hz0, ← hz1, ← hz2, ← hz3]
  clear hz0 hz1 hz2 hz3 HR HC zz
  go_wp2_with fail
  rw [← hw0, ← hm, ← hr]
  have HX9 : Hid (w.heap.size < m) := by show _ < _; omega
  clear hw0 hr hm
  refine (HC0.out w0 (Kp.refl _ _)).mono ?_
  rintro e9 w1 ⟨rfl, k1⟩
  have HK1 : Hid (Kp (fun _ => False) w0 w1) := k1
  clear k1
  go_wp2_with fail
  refine (HC1.out w1 HK1.out).mono ?_
  rintro e9 w2 ⟨rfl, k1⟩
  have HK2 : Hid (Kp (fun _ => False) w0 w2) := HK1.out.trans k1 (fun _ _ e => e)
  clear k1
  go_wp2_with fail
  refine (HC2.out w2 HK2.out).mono ?_
  rintro e9 w3 ⟨rfl, k1⟩
  have HK3 : Hid (Kp (fun _ => False) w0 w3) := HK2.out.trans k1 (fun _ _ e => e)
  clear k1
  go_wp2_with fail
  refine (HC3.out w3 HK3.out).mono ?_
  rintro e9 w4 ⟨rfl, k1⟩
  have HK4 : Hid (Kp (fun _ => False) w0 w4) := HK3.out.trans k1 (fun _ _ e => e)
  have HM4 : Hid (Lv w4 m [.int .i64 0, .int .i64 0, .int .i64 0, .int .i64 0]) := HM0.out.keep HK4.out id
  clear k1
  have c0 := HM4.out.cell (j := 0) rfl
  have c1 := HM4.out.cell (j := 1) rfl
  have c2 := HM4.out.cell (j := 2) rfl
  have c3 := HM4.out.cell (j := 3) rfl
  have f0 := HM4.out.fz (j := 0) (by decide)
  have f1 := HM4.out.fz (j := 1) (by decide)
  have f2 := HM4.out.fz (j := 2) (by decide)
  have f3 := HM4.out.fz (j := 3) (by decide)
  obtain ⟨w5, hw5⟩ : ∃ y, y = (((w4.setCell ⟨m, 0, none⟩ (.int .i64 z0)).setCell ⟨m, 1, none⟩ (.int .i64 z1)).setCell ⟨m, 2, none⟩ (.int .i64 z2)).setCell ⟨m, 3, none⟩ (.int .i64 z3) := ⟨_, rfl⟩
  have hl5 : Lv w5 m [.int .i64 z0, .int .i64 z1, .int .i64 z2, .int .i64 z3] := by
    rw [hw5]
    have a1 : Lv (w4.setCell ⟨m, 0, none⟩ (.int .i64 z0)) m [.int .i64 z0, .int .i64 0, .int .i64 0, .int .i64 0] := HM4.out.set1 0 (.int .i64 z0) (by decide)
    have a2 : Lv ((w4.setCell ⟨m, 0, none⟩ (.int .i64 z0)).setCell ⟨m, 1, none⟩ (.int .i64 z1)) m [.int .i64 z0, .int .i64 z1, .int .i64 0, .int .i64 0] := a1.set1 1 (.int .i64 z1) (by simp)
    have a3 : Lv (((w4.setCell ⟨m, 0, none⟩ (.int .i64 z0)).setCell ⟨m, 1, none⟩ (.int .i64 z1)).setCell ⟨m, 2, none⟩ (.int .i64 z2)) m [.int .i64 z0, .int .i64 z1, .int .i64 z2, .int .i64 0] := a2.set1 2 (.int .i64 z2) (by simp)
    exact a3.set1 3 (.int .i64 z3) (by simp)
  have k5 : Kp (fun b => b = m) w4 w5 := by rw [hw5]; exact ((kp_set.trans kp_set (fun _ _ e => e)).trans kp_set (fun _ _ e => e)).trans kp_set (fun _ _ e => e)
  have hld := hl5.load dsHead szHead rfl
  have HF : Hid (Kp (fun _ => False) w w5) := ((HK0.out.trans HK4.out (fun _ _ e => e))).trans (S := fun _ => False) k5 (fun b hb e => by have := HX9.out; omega)
  have HLd : Hid ((loadVar 134 ⟨m, 0, none⟩).run Tryz.prog w5 = .ok (headV z0 z1 z2 z3) w5) := hld
  clear hl5 k5 hld
  go_wp2
  rw [← hw5]
  refine bodyPost_ret (res_cell Tryz.results141 _ _ m _ rfl HLd.out) rfl ?_
  exact ⟨rfl, HF.out⟩
end Go.Proofs.YtippipeebkkghaaGreatDoor
