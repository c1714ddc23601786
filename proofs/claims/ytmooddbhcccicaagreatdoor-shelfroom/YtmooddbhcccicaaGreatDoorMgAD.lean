/- Texts of this proof, joined: Ai, Aj, Ak. -/
import Derived.Test.YtmooddbhcccicaaGreatDoorMgAC
/- A head's sector (laid by scripts/mkai.py). -/
namespace Go.Proofs.YtmooddbhcccicaaGreatDoor
set_option linter.unusedVariables false
set_option linter.unusedSimpArgs false
open Go.RowKit Go.Deep

/-- a head's parts, without the sum and the last byte -/
def hdP (a b c d : Nat) : List Nat := spl (spl (spl (spl ((nouW 64).set 0 104) 1 (big a 8)) 9 (big b 8)) 17 (big c 8)) 25 (big d 8)
def hdB (a b c d : Nat) : List Nat := sealB (hdP a b c d)
abbrev headV (a b c d : Int) : Value := .agg #[.int .i64 a, .int .i64 b, .int .i64 c, .int .i64 d]
theorem four0 (a b c d : Int) (w : World) : (Instr.index 289 (headV a b c d) (.int .i64 0)).run Tryz.prog w = .ok (.int .i64 a) w := by kernel_rfl
theorem four1 (a b c d : Int) (w : World) : (Instr.index 289 (headV a b c d) (.int .i64 1)).run Tryz.prog w = .ok (.int .i64 b) w := by kernel_rfl
theorem four2 (a b c d : Int) (w : World) : (Instr.index 289 (headV a b c d) (.int .i64 2)).run Tryz.prog w = .ok (.int .i64 c) w := by kernel_rfl
theorem four3 (a b c d : Int) (w : World) : (Instr.index 289 (headV a b c d) (.int .i64 3)).run Tryz.prog w = .ok (.int .i64 d) w := by kernel_rfl
theorem wrap_u64 {n : Nat} (h : n ≤ 1152921504606846976) : IntKind.u64.wrap (n : Int) = (n : Int) := by
  simp [IntKind.wrap, IntKind.bits, IntKind.signed]
  omega

set_option maxRecDepth 100000 in
set_option maxHeartbeats 1600000 in
theorem hsector_ok (a b c d : Nat) (w : World) (ha : a ≤ 1152921504606846976) (hb : b ≤ 1152921504606846976) (hc : c ≤ 1152921504606846976) (hd : d ≤ 1152921504606846976) (ht : Turns w) :
    Calls Tryz.prog 222 #[headV a b c d] w fun e w' => ∃ g, w.heap.size ≤ g ∧ e = .returned (.slice (some ⟨g, 0, none⟩) 64 64) ∧ Kp (fun _ => False) w w' ∧ Bk w' w.heap.size g 64 64 (hdB a b c d) := by
  have HA : Hid (a ≤ 1152921504606846976 ∧ b ≤ 1152921504606846976 ∧ c ≤ 1152921504606846976 ∧ d ≤ 1152921504606846976) := ⟨ha, hb, hc, hd⟩
  have wa := wrap_u64 ha
  have wb := wrap_u64 hb
  have wc := wrap_u64 hc
  have wd := wrap_u64 hd
  have i0 := four0 (a : Int) b c d
  have i1 := four1 (a : Int) b c d
  have i2 := four2 (a : Int) b c d
  have i3 := four3 (a : Int) b c d
  have HT : Hid (Turns w) := ht
  obtain ⟨h, hh⟩ : ∃ h, h = w.heap.size := ⟨_, rfl⟩
  obtain ⟨w0, hw0⟩ : ∃ y, y = w.alloc (.cells #[.int .i64 (a : Int), .int .i64 (b : Int), .int .i64 (c : Int), .int .i64 (d : Int)] 155) := ⟨_, rfl⟩
  have hL0 : Lv w0 h [.int .i64 (a : Int), .int .i64 (b : Int), .int .i64 (c : Int), .int .i64 (d : Int)] := by rw [hw0, hh]; exact Lv.new w _ _
  have k0 : Kp (fun _ => False) w w0 := by rw [hw0]; exact (Kp.refl _ _).alloc _
  have z0 : w0.heap.size = w.heap.size + 1 := by rw [hw0]; simp
  have HK0 : Hid (Kp (fun _ => False) w w0 ∧ w0.heap.size = w.heap.size + 1 ∧ h = w.heap.size) := ⟨k0, z0, hh⟩
  have HL0 : Hid (Lv w0 h [.int .i64 (a : Int), .int .i64 (b : Int), .int .i64 (c : Int), .int .i64 (d : Int)]) := hL0
  clear ha hb hc hd ht hL0 k0 z0
  go_enter Tryz.func222, Tryz.ntmps222
  go_upto_region 1 with fail
  rw [← hw0, ← hh]
  clear hw0 hh
  go_wp2_with fail
  refine (blankS_ok w0).mono ?_
  rintro e9 w1 ⟨g, hg, rfl, k1, x1⟩
  have HG : Hid (w.heap.size ≤ g ∧ g ≠ h ∧ Kp (fun _ => False) w w1) := ⟨by have := HK0.out; omega, by have := HK0.out; omega, HK0.out.1.trans k1 (fun _ _ e => e)⟩
  have HL1 : Hid (Lv w1 h [.int .i64 (a : Int), .int .i64 (b : Int), .int .i64 (c : Int), .int .i64 (d : Int)]) := HL0.out.keep k1 id
  have f0 := x1.fz 0
  have c0 := x1.cell (j := 0) (by omega)
  obtain ⟨w2, hw2⟩ : ∃ y, y = w1.setCell ⟨g, 0, none⟩ (.int .u8 104) := ⟨_, rfl⟩
  have x2 := x1.set (j := 0) (y := 104) (by omega) (by omega)
  have k2 : Kp (fun b => b = g) w1 w2 := by rw [hw2]; exact kp_set
  rw [show ((104 : Nat) : Int) = 104 from rfl, ← hw2] at x2
  have HB0 : Hid (Bk w2 w0.heap.size g 64 64 ((nouW 64).set 0 104)) := x2
  have HKa : Hid (Kp (fun b => b = g) w1 w2) := k2
  have hl2 : Lv w2 h [.int .i64 (a : Int), .int .i64 (b : Int), .int .i64 (c : Int), .int .i64 (d : Int)] := HL1.out.keep k2 (fun e => HG.out.2.1 e.symm)
  have q0 := hl2.cell (j := 0) rfl
  have q1 := hl2.cell (j := 1) rfl
  have q2 := hl2.cell (j := 2) rfl
  have q3 := hl2.cell (j := 3) rfl
  clear x1 x2 k1 k2 hg hl2 HL1
  go_upto_region 3 with fail
  rw [← hw2]
  clear hw2 f0 c0
  go_wp2
  refine wp_loop_rounds 5 ?_
  rw [rounds_succ]
  have s0 : ∀ w, (Instr.slice 34 (.slice (some ⟨g, 0, none⟩) 64 64) (some (.int .i64 1)) (some (.int .i64 9)) none).run Tryz.prog w = .ok (.slice (some ⟨g, 1, none⟩) 8 63) w := fun w => sliceLH g 0 64 64 1 9 (by omega) (by omega) (by omega) w
  go_wp2_with fail
  refine (putNumber_ok HB0.out 1 8 63 a (by omega) (by omega) (by omega) (by have := HA.out; omega)).mono ?_
  rintro e9 w3 ⟨rfl, k9, x9⟩
  have HB1 : Hid (Bk w3 w0.heap.size g 64 64 (spl ((nouW 64).set 0 104) 1 (big a 8))) := x9
  have HKb0 : Hid (Kp (fun b => b = g) w1 w3) := HKa.out.trans k9 (fun _ _ e => e)
  clear k9 x9 s0 HB0
  go_wp2_with fail
  rw [rounds_succ]
  have s1 : ∀ w, (Instr.slice 34 (.slice (some ⟨g, 0, none⟩) 64 64) (some (.int .i64 9)) (some (.int .i64 17)) none).run Tryz.prog w = .ok (.slice (some ⟨g, 9, none⟩) 8 55) w := fun w => sliceLH g 0 64 64 9 17 (by omega) (by omega) (by omega) w
  go_wp2_with fail
  refine (putNumber_ok HB1.out 9 8 55 b (by omega) (by omega) (by omega) (by have := HA.out; omega)).mono ?_
  rintro e9 w4 ⟨rfl, k9, x9⟩
  have HB2 : Hid (Bk w4 w0.heap.size g 64 64 (spl (spl ((nouW 64).set 0 104) 1 (big a 8)) 9 (big b 8))) := x9
  have HKb1 : Hid (Kp (fun b => b = g) w1 w4) := HKb0.out.trans k9 (fun _ _ e => e)
  clear k9 x9 s1 HB1
  go_wp2_with fail
  rw [rounds_succ]
  have s2 : ∀ w, (Instr.slice 34 (.slice (some ⟨g, 0, none⟩) 64 64) (some (.int .i64 17)) (some (.int .i64 25)) none).run Tryz.prog w = .ok (.slice (some ⟨g, 17, none⟩) 8 47) w := fun w => sliceLH g 0 64 64 17 25 (by omega) (by omega) (by omega) w
  go_wp2_with fail
  refine (putNumber_ok HB2.out 17 8 47 c (by omega) (by omega) (by omega) (by have := HA.out; omega)).mono ?_
  rintro e9 w5 ⟨rfl, k9, x9⟩
  have HB3 : Hid (Bk w5 w0.heap.size g 64 64 (spl (spl (spl ((nouW 64).set 0 104) 1 (big a 8)) 9 (big b 8)) 17 (big c 8))) := x9
  have HKb2 : Hid (Kp (fun b => b = g) w1 w5) := HKb1.out.trans k9 (fun _ _ e => e)
  clear k9 x9 s2 HB2
  go_wp2_with fail
  rw [rounds_succ]
  have s3 : ∀ w, (Instr.slice 34 (.slice (some ⟨g, 0, none⟩) 64 64) (some (.int .i64 25)) (some (.int .i64 33)) none).run Tryz.prog w = .ok (.slice (some ⟨g, 25, none⟩) 8 39) w := fun w => sliceLH g 0 64 64 25 33 (by omega) (by omega) (by omega) w
  go_wp2_with fail
  refine (putNumber_ok HB3.out 25 8 39 d (by omega) (by omega) (by omega) (by have := HA.out; omega)).mono ?_
  rintro e9 w6 ⟨rfl, k9, x9⟩
  have HB4 : Hid (Bk w6 w0.heap.size g 64 64 (spl (spl (spl (spl ((nouW 64).set 0 104) 1 (big a 8)) 9 (big b 8)) 17 (big c 8)) 25 (big d 8))) := x9
  have HKb3 : Hid (Kp (fun b => b = g) w1 w6) := HKb2.out.trans k9 (fun _ _ e => e)
  clear k9 x9 s3 HB3
  go_wp2_with fail
  rw [rounds_succ]
  have htw : Turns w6 := fun j hj => (HKb3.out.cellv (HG.out.2.2.cellv (HT.out j hj) id) (fun e => by
    have h1 := World.block_lt_of_cell? _ _ (HT.out j hj)
    have h2 := HG.out.1
    have e' : (0 : Nat) = g := e
    have h1' : (0 : Nat) < w.heap.size := h1
    omega))
  have HS : Hid (Calls _ _ _ w6 _) := seal_ok HB4.out htw 64 (by omega)
  clear htw
  go_wp2_with fail
  refine HS.out.mono ?_
  rintro e9 w7 ⟨rfl, k9, x9⟩
  have HF : Hid (Kp (fun _ => False) w w7 ∧ Bk w7 w.heap.size g 64 64 (hdB a b c d)) := by
    refine ⟨(HG.out.2.2.mono (fun _ _ e => e.elim)).trans (S := fun _ => False) (HKb3.out.trans k9 (fun _ _ e => e)) (fun b hb e => by have := HG.out.1; omega), ⟨x9.len, x9.byte, ownsRow_base x9.ow HK0.out.1.size⟩⟩
  have HG1 : Hid (w.heap.size ≤ g) := HG.out.1
  clear k9 x9 HS
  go_wp2
  go_ret
  exact ⟨g, HG1.out, rfl, HF.out⟩
end Go.Proofs.YtmooddbhcccicaaGreatDoor

/- What a sector says: headOf; whether it is right. -/
namespace Go.Proofs.YtmooddbhcccicaaGreatDoor
set_option linter.unusedVariables false
set_option linter.unusedSimpArgs false
open Go.RowKit Go.Deep

/-- the number in the eight bytes from o on -/
def numAt (xs : List Nat) (o : Nat) : Int := i64Of (hfW ((xs.drop o).take 8))

set_option maxRecDepth 100000 in
set_option maxHeartbeats 800000 in
theorem headOf1_0 (r g q c : Nat) (xs : List Nat) (w : World) (hb : w.cell? ⟨r, 0, none⟩ = some (.slice (some ⟨g, q, none⟩) 64 c)) (hc : 64 ≤ c) (h : Rb w (some ⟨g, q, none⟩) 64 xs) :
    Calls Tryz.prog 219 #[.int .i64 0, .pointer (some ⟨r, 0, none⟩)] w fun e w' => e = .returned (.int .i64 (numAt xs 1)) ∧ Kp (fun _ => False) w w' := by
  obtain ⟨z, hz⟩ : ∃ z, z = numAt xs 1 := ⟨_, rfl⟩
  have HN : Hid (Calls Tryz.prog 220 #[.slice (some ⟨g, q + 1, none⟩) 8 (c - 1)] w fun e w' => e = .returned (.int .i64 z) ∧ Kp (fun _ => False) w w') := by
    rw [hz]
    exact numberOf_kp (h.mid (l := 1) (m := 8) (by omega)) (c - 1) (by omega)
  rw [← hz]
  clear hz
  have hs : ∀ w, (Instr.slice 34 (.slice (some ⟨g, q, none⟩) 64 c) (some (.int .i64 1)) (some (.int .i64 9)) none).run Tryz.prog w = .ok (.slice (some ⟨g, q + 1, none⟩) 8 (c - 1)) w := fun w => sliceLH g q 64 c 1 9 (by omega) (by omega) (by omega) w
  clear h
  go_enter Tryz.func219, Tryz.ntmps219
  go_wp2_with fail
  refine HN.out.mono ?_
  rintro e9 w1 ⟨rfl, k1⟩
  have HK : Hid (Kp (fun _ => False) w w1) := k1
  clear k1 HN
  go_wp2
  go_ret
  exact ⟨rfl, HK.out⟩

set_option maxRecDepth 100000 in
set_option maxHeartbeats 800000 in
theorem headOf1_1 (r g q c : Nat) (xs : List Nat) (w : World) (hb : w.cell? ⟨r, 0, none⟩ = some (.slice (some ⟨g, q, none⟩) 64 c)) (hc : 64 ≤ c) (h : Rb w (some ⟨g, q, none⟩) 64 xs) :
    Calls Tryz.prog 219 #[.int .i64 1, .pointer (some ⟨r, 0, none⟩)] w fun e w' => e = .returned (.int .i64 (numAt xs 9)) ∧ Kp (fun _ => False) w w' := by
  obtain ⟨z, hz⟩ : ∃ z, z = numAt xs 9 := ⟨_, rfl⟩
  have HN : Hid (Calls Tryz.prog 220 #[.slice (some ⟨g, q + 9, none⟩) 8 (c - 9)] w fun e w' => e = .returned (.int .i64 z) ∧ Kp (fun _ => False) w w') := by
    rw [hz]
    exact numberOf_kp (h.mid (l := 9) (m := 8) (by omega)) (c - 9) (by omega)
  rw [← hz]
  clear hz
  have hs : ∀ w, (Instr.slice 34 (.slice (some ⟨g, q, none⟩) 64 c) (some (.int .i64 9)) (some (.int .i64 17)) none).run Tryz.prog w = .ok (.slice (some ⟨g, q + 9, none⟩) 8 (c - 9)) w := fun w => sliceLH g q 64 c 9 17 (by omega) (by omega) (by omega) w
  clear h
  go_enter Tryz.func219, Tryz.ntmps219
  go_wp2_with fail
  refine HN.out.mono ?_
  rintro e9 w1 ⟨rfl, k1⟩
  have HK : Hid (Kp (fun _ => False) w w1) := k1
  clear k1 HN
  go_wp2
  go_ret
  exact ⟨rfl, HK.out⟩

set_option maxRecDepth 100000 in
set_option maxHeartbeats 800000 in
theorem headOf1_2 (r g q c : Nat) (xs : List Nat) (w : World) (hb : w.cell? ⟨r, 0, none⟩ = some (.slice (some ⟨g, q, none⟩) 64 c)) (hc : 64 ≤ c) (h : Rb w (some ⟨g, q, none⟩) 64 xs) :
    Calls Tryz.prog 219 #[.int .i64 2, .pointer (some ⟨r, 0, none⟩)] w fun e w' => e = .returned (.int .i64 (numAt xs 17)) ∧ Kp (fun _ => False) w w' := by
  obtain ⟨z, hz⟩ : ∃ z, z = numAt xs 17 := ⟨_, rfl⟩
  have HN : Hid (Calls Tryz.prog 220 #[.slice (some ⟨g, q + 17, none⟩) 8 (c - 17)] w fun e w' => e = .returned (.int .i64 z) ∧ Kp (fun _ => False) w w') := by
    rw [hz]
    exact numberOf_kp (h.mid (l := 17) (m := 8) (by omega)) (c - 17) (by omega)
  rw [← hz]
  clear hz
  have hs : ∀ w, (Instr.slice 34 (.slice (some ⟨g, q, none⟩) 64 c) (some (.int .i64 17)) (some (.int .i64 25)) none).run Tryz.prog w = .ok (.slice (some ⟨g, q + 17, none⟩) 8 (c - 17)) w := fun w => sliceLH g q 64 c 17 25 (by omega) (by omega) (by omega) w
  clear h
  go_enter Tryz.func219, Tryz.ntmps219
  go_wp2_with fail
  refine HN.out.mono ?_
  rintro e9 w1 ⟨rfl, k1⟩
  have HK : Hid (Kp (fun _ => False) w w1) := k1
  clear k1 HN
  go_wp2
  go_ret
  exact ⟨rfl, HK.out⟩

set_option maxRecDepth 100000 in
set_option maxHeartbeats 800000 in
theorem headOf1_3 (r g q c : Nat) (xs : List Nat) (w : World) (hb : w.cell? ⟨r, 0, none⟩ = some (.slice (some ⟨g, q, none⟩) 64 c)) (hc : 64 ≤ c) (h : Rb w (some ⟨g, q, none⟩) 64 xs) :
    Calls Tryz.prog 219 #[.int .i64 3, .pointer (some ⟨r, 0, none⟩)] w fun e w' => e = .returned (.int .i64 (numAt xs 25)) ∧ Kp (fun _ => False) w w' := by
  obtain ⟨z, hz⟩ : ∃ z, z = numAt xs 25 := ⟨_, rfl⟩
  have HN : Hid (Calls Tryz.prog 220 #[.slice (some ⟨g, q + 25, none⟩) 8 (c - 25)] w fun e w' => e = .returned (.int .i64 z) ∧ Kp (fun _ => False) w w') := by
    rw [hz]
    exact numberOf_kp (h.mid (l := 25) (m := 8) (by omega)) (c - 25) (by omega)
  rw [← hz]
  clear hz
  have hs : ∀ w, (Instr.slice 34 (.slice (some ⟨g, q, none⟩) 64 c) (some (.int .i64 25)) (some (.int .i64 33)) none).run Tryz.prog w = .ok (.slice (some ⟨g, q + 25, none⟩) 8 (c - 25)) w := fun w => sliceLH g q 64 c 25 33 (by omega) (by omega) (by omega) w
  clear h
  go_enter Tryz.func219, Tryz.ntmps219
  go_wp2_with fail
  refine HN.out.mono ?_
  rintro e9 w1 ⟨rfl, k1⟩
  have HK : Hid (Kp (fun _ => False) w w1) := k1
  clear k1 HN
  go_wp2
  go_ret
  exact ⟨rfl, HK.out⟩

theorem szHead : (Tryz.prog.info? 155).map (·.size) = some 4 := by kernel_rfl
theorem dsHead : ∃ d, Tryz.prog.underlying 155 = some d ∧ d.isRow = true := ⟨_, Tryz.underlying155, rfl⟩
set_option maxRecDepth 100000 in
set_option maxHeartbeats 1600000 in
theorem headOf_ok (g q c : Nat) (xs : List Nat) (w : World) (hc : 64 ≤ c) (h : Rb w (some ⟨g, q, none⟩) 64 xs) :
    Calls Tryz.prog 191 #[.slice (some ⟨g, q, none⟩) 64 c] w fun e w' => e = .returned (headV (numAt xs 1) (numAt xs 9) (numAt xs 17) (numAt xs 25)) ∧ Kp (fun _ => False) w w' := by
  have HR : Hid (Rb w (some ⟨g, q, none⟩) 64 xs) := h
  have HC : Hid (64 ≤ c) := hc
  clear h hc
  go_enter Tryz.func191, Tryz.ntmps191
  obtain ⟨z0, hz0⟩ : ∃ z, z = numAt xs 1 := ⟨_, rfl⟩
  obtain ⟨z1, hz1⟩ : ∃ z, z = numAt xs 9 := ⟨_, rfl⟩
  obtain ⟨z2, hz2⟩ : ∃ z, z = numAt xs 17 := ⟨_, rfl⟩
  obtain ⟨z3, hz3⟩ : ∃ z, z = numAt xs 25 := ⟨_, rfl⟩
  obtain ⟨r, hr⟩ : ∃ r, r = w.heap.size := ⟨_, rfl⟩
  obtain ⟨m, hm⟩ : ∃ m, m = w.heap.size + 1 := ⟨_, rfl⟩
  obtain ⟨w0, hw0⟩ : ∃ y, y = (w.alloc (.cells #[.slice (some ⟨g, q, none⟩) 64 c] 34)).alloc (.cells #[.int .i64 0, .int .i64 0, .int .i64 0, .int .i64 0] 155) := ⟨_, rfl⟩
  have zz : (w.alloc (.cells #[.slice (some ⟨g, q, none⟩) 64 c] 34)).heap.size = w.heap.size + 1 := by simp
  have HK0 : Hid (Kp (fun _ => False) w w0) := by rw [hw0]; exact ((Kp.refl _ _).alloc _).alloc _
  have HB0 : Hid (Lv w0 r [.slice (some ⟨g, q, none⟩) 64 c]) := by rw [hw0, hr]; exact (Lv.new w _ _).keep ((Kp.refl (fun _ => False) _).alloc _) id
  have HM0 : Hid (Lv w0 m [.int .i64 0, .int .i64 0, .int .i64 0, .int .i64 0]) := by rw [hw0, hm, ← zz]; exact Lv.new _ _ _
  have HC0 : Hid (∀ u, Kp (fun _ => False) w0 u → Calls Tryz.prog 219 #[.int .i64 0, .pointer (some ⟨r, 0, none⟩)] u fun e w' => e = .returned (.int .i64 z0) ∧ Kp (fun _ => False) u w') := fun u k => by rw [hz0]; exact headOf1_0 r g q c xs u (k.cellv (HB0.out.cell (j := 0) rfl) id) HC.out ((HR.out.keep0 HK0.out).keep0 k)
  have HC1 : Hid (∀ u, Kp (fun _ => False) w0 u → Calls Tryz.prog 219 #[.int .i64 1, .pointer (some ⟨r, 0, none⟩)] u fun e w' => e = .returned (.int .i64 z1) ∧ Kp (fun _ => False) u w') := fun u k => by rw [hz1]; exact headOf1_1 r g q c xs u (k.cellv (HB0.out.cell (j := 0) rfl) id) HC.out ((HR.out.keep0 HK0.out).keep0 k)
  have HC2 : Hid (∀ u, Kp (fun _ => False) w0 u → Calls Tryz.prog 219 #[.int .i64 2, .pointer (some ⟨r, 0, none⟩)] u fun e w' => e = .returned (.int .i64 z2) ∧ Kp (fun _ => False) u w') := fun u k => by rw [hz2]; exact headOf1_2 r g q c xs u (k.cellv (HB0.out.cell (j := 0) rfl) id) HC.out ((HR.out.keep0 HK0.out).keep0 k)
  have HC3 : Hid (∀ u, Kp (fun _ => False) w0 u → Calls Tryz.prog 219 #[.int .i64 3, .pointer (some ⟨r, 0, none⟩)] u fun e w' => e = .returned (.int .i64 z3) ∧ Kp (fun _ => False) u w') := fun u k => by rw [hz3]; exact headOf1_3 r g q c xs u (k.cellv (HB0.out.cell (j := 0) rfl) id) HC.out ((HR.out.keep0 HK0.out).keep0 k)
  rw [← hz0, ← hz1, ← hz2, ← hz3]
  clear hz0 hz1 hz2 hz3 HR HC zz
  go_wp2_with fail
  rw [← hw0, ← hm, ← hr]
  have HX9 : Hid (w.heap.size < m) := by show _ < _; omega
  clear hw0 hr hm
  refine (HC0.out w0 (Kp.refl _ _)).mono ?_
  rintro e9 w1 ⟨rfl, k1⟩
  have HK1 : Hid (Kp (fun _ => False) w0 w1) := k1
  clear k1
  go_wp2_with fail
  refine (HC1.out w1 HK1.out).mono ?_
  rintro e9 w2 ⟨rfl, k1⟩
  have HK2 : Hid (Kp (fun _ => False) w0 w2) := HK1.out.trans k1 (fun _ _ e => e)
  clear k1
  go_wp2_with fail
  refine (HC2.out w2 HK2.out).mono ?_
  rintro e9 w3 ⟨rfl, k1⟩
  have HK3 : Hid (Kp (fun _ => False) w0 w3) := HK2.out.trans k1 (fun _ _ e => e)
  clear k1
  go_wp2_with fail
  refine (HC3.out w3 HK3.out).mono ?_
  rintro e9 w4 ⟨rfl, k1⟩
  have HK4 : Hid (Kp (fun _ => False) w0 w4) := HK3.out.trans k1 (fun _ _ e => e)
  have HM4 : Hid (Lv w4 m [.int .i64 0, .int .i64 0, .int .i64 0, .int .i64 0]) := HM0.out.keep HK4.out id
  clear k1
  have c0 := HM4.out.cell (j := 0) rfl
  have c1 := HM4.out.cell (j := 1) rfl
  have c2 := HM4.out.cell (j := 2) rfl
  have c3 := HM4.out.cell (j := 3) rfl
  have f0 := HM4.out.fz (j := 0) (by decide)
  have f1 := HM4.out.fz (j := 1) (by decide)
  have f2 := HM4.out.fz (j := 2) (by decide)
  have f3 := HM4.out.fz (j := 3) (by decide)
  obtain ⟨w5, hw5⟩ : ∃ y, y = (((w4.setCell ⟨m, 0, none⟩ (.int .i64 z0)).setCell ⟨m, 1, none⟩ (.int .i64 z1)).setCell ⟨m, 2, none⟩ (.int .i64 z2)).setCell ⟨m, 3, none⟩ (.int .i64 z3) := ⟨_, rfl⟩
  have hl5 : Lv w5 m [.int .i64 z0, .int .i64 z1, .int .i64 z2, .int .i64 z3] := by
    rw [hw5]
    have a1 : Lv (w4.setCell ⟨m, 0, none⟩ (.int .i64 z0)) m [.int .i64 z0, .int .i64 0, .int .i64 0, .int .i64 0] := HM4.out.set1 0 (.int .i64 z0) (by decide)
    have a2 : Lv ((w4.setCell ⟨m, 0, none⟩ (.int .i64 z0)).setCell ⟨m, 1, none⟩ (.int .i64 z1)) m [.int .i64 z0, .int .i64 z1, .int .i64 0, .int .i64 0] := a1.set1 1 (.int .i64 z1) (by simp)
    have a3 : Lv (((w4.setCell ⟨m, 0, none⟩ (.int .i64 z0)).setCell ⟨m, 1, none⟩ (.int .i64 z1)).setCell ⟨m, 2, none⟩ (.int .i64 z2)) m [.int .i64 z0, .int .i64 z1, .int .i64 z2, .int .i64 0] := a2.set1 2 (.int .i64 z2) (by simp)
    exact a3.set1 3 (.int .i64 z3) (by simp)
  have k5 : Kp (fun b => b = m) w4 w5 := by rw [hw5]; exact ((kp_set.trans kp_set (fun _ _ e => e)).trans kp_set (fun _ _ e => e)).trans kp_set (fun _ _ e => e)
  have hld := hl5.load dsHead szHead rfl
  have HF : Hid (Kp (fun _ => False) w w5) := ((HK0.out.trans HK4.out (fun _ _ e => e))).trans (S := fun _ => False) k5 (fun b hb e => by have := HX9.out; omega)
  have HLd : Hid ((loadVar 155 ⟨m, 0, none⟩).run Tryz.prog w5 = .ok (headV z0 z1 z2 z3) w5) := hld
  clear hl5 k5 hld
  go_wp2
  rw [← hw5]
  refine bodyPost_ret (res_cell Tryz.results191 _ _ m _ rfl HLd.out) rfl ?_
  exact ⟨rfl, HF.out⟩
end Go.Proofs.YtmooddbhcccicaaGreatDoor

/- Whether a sector is the head that it says. -/
namespace Go.Proofs.YtmooddbhcccicaaGreatDoor
set_option linter.unusedVariables false
set_option linter.unusedSimpArgs false
open Go.RowKit Go.Deep

def cntB (n : Int) : Bool := decide (1 ≤ n) && decide (n ≤ 1152921504606846976)
set_option maxRecDepth 100000 in
theorem counts_ok (n : Int) (w : World) : Calls Tryz.prog 221 #[.int .i64 n] w fun e w' => e = .returned (.bool (cntB n)) ∧ w' = w := by
  obtain ⟨a, ha⟩ : ∃ a, a = decide (1 ≤ n) := ⟨_, rfl⟩
  obtain ⟨b, hb⟩ : ∃ b, b = decide (n ≤ 1152921504606846976) := ⟨_, rfl⟩
  have e : cntB n = (a && b) := by rw [ha, hb]; rfl
  rw [e]
  cases a with
  | false =>
    have h1 : ¬ n ≥ 1 := of_decide_eq_false ha.symm
    clear ha hb e
    go_enter Tryz.func221, Tryz.ntmps221
    go_wp2
    go_ret
    exact ⟨rfl, rfl⟩
  | true =>
    have h1 : n ≥ 1 := of_decide_eq_true ha.symm
    cases b with
    | false =>
      have h2 : ¬ n ≤ 1152921504606846976 := of_decide_eq_false hb.symm
      clear ha hb e
      go_enter Tryz.func221, Tryz.ntmps221
      go_wp2
      go_ret
      exact ⟨rfl, rfl⟩
    | true =>
      have h2 : n ≤ 1152921504606846976 := of_decide_eq_true hb.symm
      clear ha hb e
      go_enter Tryz.func221, Tryz.ntmps221
      go_wp2
      go_ret
      exact ⟨rfl, rfl⟩

/-- whether the bytes are that head's, and it may stand there -/
def rightH (a b c d : Int) (xs : List Nat) (s n : Int) : Bool :=
  cntB a && (cntB b && (cntB d && (a.tmod 2 == s && (decide (0 ≤ c) && (decide (c < n) && decide (xs = hdB a.toNat b.toNat c.toNat d.toNat))))))

set_option maxRecDepth 100000 in
set_option maxHeartbeats 1600000 in
theorem hright_ok (a b c d : Int) (g q cp : Nat) (xs : List Nat) (s n : Int) (w : World) (h : Rb w (some ⟨g, q, none⟩) 64 xs) (ht : Turns w) (hn : n ≤ 1152921504606846976) :
    Calls Tryz.prog 192 #[headV a b c d, .slice (some ⟨g, q, none⟩) 64 cp, .int .i64 s, .int .i64 n] w fun e w' => e = .returned (.bool (rightH a b c d xs s n)) ∧ Kp (fun _ => False) w w' := by
  obtain ⟨b1, h1⟩ : ∃ x, x = cntB a := ⟨_, rfl⟩
  obtain ⟨b2, h2⟩ : ∃ x, x = cntB b := ⟨_, rfl⟩
  obtain ⟨b3, h3⟩ : ∃ x, x = cntB d := ⟨_, rfl⟩
  obtain ⟨b4, h4⟩ : ∃ x, x = (a.tmod 2 == s) := ⟨_, rfl⟩
  obtain ⟨b5, h5⟩ : ∃ x, x = decide (0 ≤ c) := ⟨_, rfl⟩
  obtain ⟨b6, h6⟩ : ∃ x, x = decide (c < n) := ⟨_, rfl⟩
  have HR : Hid (Rb w (some ⟨g, q, none⟩) 64 xs) := h
  have HT : Hid (Turns w) := ht
  have C1 : Hid (∀ u, Calls Tryz.prog 221 #[.int .i64 a] u fun e w' => e = .returned (.bool b1) ∧ w' = u) := fun u => by rw [h1]; exact counts_ok a u
  have C2 : Hid (∀ u, Calls Tryz.prog 221 #[.int .i64 b] u fun e w' => e = .returned (.bool b2) ∧ w' = u) := fun u => by rw [h2]; exact counts_ok b u
  have C3 : Hid (∀ u, Calls Tryz.prog 221 #[.int .i64 d] u fun e w' => e = .returned (.bool b3) ∧ w' = u) := fun u => by rw [h3]; exact counts_ok d u
  obtain ⟨r, hr⟩ : ∃ r, r = w.heap.size := ⟨_, rfl⟩
  obtain ⟨w0, hw0⟩ : ∃ y, y = w.alloc (.cells #[.int .i64 a, .int .i64 b, .int .i64 c, .int .i64 d] 155) := ⟨_, rfl⟩
  have HK0 : Hid (Kp (fun _ => False) w w0) := by rw [hw0]; exact (Kp.refl _ _).alloc _
  have HL0 : Hid (Lv w0 r [.int .i64 a, .int .i64 b, .int .i64 c, .int .i64 d]) := by rw [hw0, hr]; exact Lv.new w _ _
  have q0 := HL0.out.cell (j := 0) rfl
  have q1 := HL0.out.cell (j := 1) rfl
  have q2 := HL0.out.cell (j := 2) rfl
  have q3 := HL0.out.cell (j := 3) rfl
  have HE : Hid (rightH a b c d xs s n = (b1 && (b2 && (b3 && (b4 && (b5 && (b6 && decide (xs = hdB a.toNat b.toNat c.toNat d.toNat)))))))) := by rw [h1, h2, h3, h4, h5, h6]; rfl
  clear h ht
  cases b1 with
  | false =>
    rw [HE.out]
    simp only [Bool.false_and, Bool.true_and]
    clear h1 h2 h3 h4 h5 h6 HE
    go_enter Tryz.func192, Tryz.ntmps192
    go_upto_region 1 with fail
    rw [← hw0, ← hr]
    clear hw0 hr
    go_wp2_with fail
    refine (C1.out _).mono ?_
    rintro e9 w9 ⟨rfl, hw9⟩
    have hw8 := hw9.symm
    subst hw8
    clear hw9 C1
    go_wp2
    go_ret
    exact ⟨rfl, HK0.out⟩
  | true =>
    cases b2 with
    | false =>
      rw [HE.out]
      simp only [Bool.false_and, Bool.true_and]
      clear h1 h2 h3 h4 h5 h6 HE
      go_enter Tryz.func192, Tryz.ntmps192
      go_upto_region 1 with fail
      rw [← hw0, ← hr]
      clear hw0 hr
      go_wp2_with fail
      refine (C1.out _).mono ?_
      rintro e9 w9 ⟨rfl, hw9⟩
      have hw8 := hw9.symm
      subst hw8
      clear hw9 C1
      go_wp2_with fail
      refine (C2.out _).mono ?_
      rintro e9 w9 ⟨rfl, hw9⟩
      have hw8 := hw9.symm
      subst hw8
      clear hw9 C2
      go_wp2
      go_ret
      exact ⟨rfl, HK0.out⟩
    | true =>
      cases b3 with
      | false =>
        rw [HE.out]
        simp only [Bool.false_and, Bool.true_and]
        clear h1 h2 h3 h4 h5 h6 HE
        go_enter Tryz.func192, Tryz.ntmps192
        go_upto_region 1 with fail
        rw [← hw0, ← hr]
        clear hw0 hr
        go_wp2_with fail
        refine (C1.out _).mono ?_
        rintro e9 w9 ⟨rfl, hw9⟩
        have hw8 := hw9.symm
        subst hw8
        clear hw9 C1
        go_wp2_with fail
        refine (C2.out _).mono ?_
        rintro e9 w9 ⟨rfl, hw9⟩
        have hw8 := hw9.symm
        subst hw8
        clear hw9 C2
        go_wp2_with fail
        refine (C3.out _).mono ?_
        rintro e9 w9 ⟨rfl, hw9⟩
        have hw8 := hw9.symm
        subst hw8
        clear hw9 C3
        go_wp2
        go_ret
        exact ⟨rfl, HK0.out⟩
      | true =>
        cases b4 with
        | false =>
          rw [HE.out]
          simp only [Bool.false_and, Bool.true_and]
          have g4 : (a.tmod 2 == s) = false := h4.symm
          clear h1 h2 h3 h4 h5 h6 HE
          go_enter Tryz.func192, Tryz.ntmps192
          go_upto_region 1 with fail
          rw [← hw0, ← hr]
          clear hw0 hr
          go_wp2_with fail
          refine (C1.out _).mono ?_
          rintro e9 w9 ⟨rfl, hw9⟩
          have hw8 := hw9.symm
          subst hw8
          clear hw9 C1
          go_wp2_with fail
          refine (C2.out _).mono ?_
          rintro e9 w9 ⟨rfl, hw9⟩
          have hw8 := hw9.symm
          subst hw8
          clear hw9 C2
          go_wp2_with fail
          refine (C3.out _).mono ?_
          rintro e9 w9 ⟨rfl, hw9⟩
          have hw8 := hw9.symm
          subst hw8
          clear hw9 C3
          go_wp2
          go_ret
          exact ⟨rfl, HK0.out⟩
        | true =>
          cases b5 with
          | false =>
            rw [HE.out]
            simp only [Bool.false_and, Bool.true_and]
            have g4 : (a.tmod 2 == s) = true := h4.symm
            have g5 : ¬ c ≥ 0 := of_decide_eq_false h5.symm
            clear h1 h2 h3 h4 h5 h6 HE
            go_enter Tryz.func192, Tryz.ntmps192
            go_upto_region 1 with fail
            rw [← hw0, ← hr]
            clear hw0 hr
            go_wp2_with fail
            refine (C1.out _).mono ?_
            rintro e9 w9 ⟨rfl, hw9⟩
            have hw8 := hw9.symm
            subst hw8
            clear hw9 C1
            go_wp2_with fail
            refine (C2.out _).mono ?_
            rintro e9 w9 ⟨rfl, hw9⟩
            have hw8 := hw9.symm
            subst hw8
            clear hw9 C2
            go_wp2_with fail
            refine (C3.out _).mono ?_
            rintro e9 w9 ⟨rfl, hw9⟩
            have hw8 := hw9.symm
            subst hw8
            clear hw9 C3
            go_wp2
            go_ret
            exact ⟨rfl, HK0.out⟩
          | true =>
            cases b6 with
            | false =>
              rw [HE.out]
              simp only [Bool.false_and, Bool.true_and]
              have g4 : (a.tmod 2 == s) = true := h4.symm
              have g5 : c ≥ 0 := of_decide_eq_true h5.symm
              have g6 : ¬ c < n := of_decide_eq_false h6.symm
              clear h1 h2 h3 h4 h5 h6 HE
              go_enter Tryz.func192, Tryz.ntmps192
              go_upto_region 1 with fail
              rw [← hw0, ← hr]
              clear hw0 hr
              go_wp2_with fail
              refine (C1.out _).mono ?_
              rintro e9 w9 ⟨rfl, hw9⟩
              have hw8 := hw9.symm
              subst hw8
              clear hw9 C1
              go_wp2_with fail
              refine (C2.out _).mono ?_
              rintro e9 w9 ⟨rfl, hw9⟩
              have hw8 := hw9.symm
              subst hw8
              clear hw9 C2
              go_wp2_with fail
              refine (C3.out _).mono ?_
              rintro e9 w9 ⟨rfl, hw9⟩
              have hw8 := hw9.symm
              subst hw8
              clear hw9 C3
              go_wp2
              go_ret
              exact ⟨rfl, HK0.out⟩
            | true =>
              rw [HE.out]
              simp only [Bool.true_and]
              have e1 : 1 ≤ a ∧ a ≤ 1152921504606846976 := by
                have := h1.symm
                unfold cntB at this
                simpa using this
              have e2 : 1 ≤ b ∧ b ≤ 1152921504606846976 := by
                have := h2.symm
                unfold cntB at this
                simpa using this
              have e3 : 1 ≤ d ∧ d ≤ 1152921504606846976 := by
                have := h3.symm
                unfold cntB at this
                simpa using this
              have e5 : 0 ≤ c := of_decide_eq_true h5.symm
              have e6 : c < n := of_decide_eq_true h6.symm
              have HS : Hid (∀ u, Kp (fun _ => False) w0 u → Calls Tryz.prog 222 #[headV a b c d] u fun e w' => ∃ g, u.heap.size ≤ g ∧ e = .returned (.slice (some ⟨g, 0, none⟩) 64 64) ∧ Kp (fun _ => False) u w' ∧ Bk w' u.heap.size g 64 64 (hdB a.toNat b.toNat c.toNat d.toNat)) := fun u ku => by
                have := hsector_ok a.toNat b.toNat c.toNat d.toNat u (by omega) (by omega) (by omega) (by omega) (fun j hj => ku.cellv (HK0.out.cellv (HT.out j hj) id) id)
                rw [Int.toNat_of_nonneg (by omega), Int.toNat_of_nonneg (by omega), Int.toNat_of_nonneg e5, Int.toNat_of_nonneg (by omega)] at this
                exact this
              obtain ⟨ys, hys⟩ : ∃ ys, ys = hdB a.toNat b.toNat c.toNat d.toNat := ⟨_, rfl⟩
              rw [← hys] at HS ⊢
              clear e1 e2 e3 e5 e6 hys
              have g4 : (a.tmod 2 == s) = true := h4.symm
              have g5 : c ≥ 0 := of_decide_eq_true h5.symm
              have g6 : c < n := of_decide_eq_true h6.symm
              clear h1 h2 h3 h4 h5 h6 HE
              go_enter Tryz.func192, Tryz.ntmps192
              go_upto_region 1 with fail
              rw [← hw0, ← hr]
              clear hw0 hr
              go_wp2_with fail
              refine (C1.out _).mono ?_
              rintro e9 w9 ⟨rfl, hw9⟩
              have hw8 := hw9.symm
              subst hw8
              clear hw9 C1
              go_wp2_with fail
              refine (C2.out _).mono ?_
              rintro e9 w9 ⟨rfl, hw9⟩
              have hw8 := hw9.symm
              subst hw8
              clear hw9 C2
              go_wp2_with fail
              refine (C3.out _).mono ?_
              rintro e9 w9 ⟨rfl, hw9⟩
              have hw8 := hw9.symm
              subst hw8
              clear hw9 C3
              go_wp2_with fail
              refine (HS.out _ (Kp.refl _ _)).mono ?_
              rintro e9 w2 ⟨g2, _, rfl, k2, x2⟩
              have HK2 : Hid (Kp (fun _ => False) w w2) := HK0.out.trans k2 (fun _ _ e => e)
              have HQ : Hid (Calls _ _ _ w2 _) := equal_any cp 64 w2 (HR.out.keep0 HK2.out) x2.rb
              clear k2 x2 HS
              go_wp2_with fail
              refine HQ.out.mono ?_
              rintro e9 w9 ⟨rfl, hw9⟩
              have hw8 := hw9.symm
              subst hw8
              clear hw9 HQ
              obtain ⟨b7, h7⟩ : ∃ x, x = decide (xs = ys) := ⟨_, rfl⟩
              rw [← h7]
              have H7 : Hid (b7 = decide (xs = ys)) := h7
              clear h7
              go_wp2
              go_ret
              exact ⟨by show Ending.returned (.bool b7) = _; rw [H7.out], HK2.out⟩
end Go.Proofs.YtmooddbhcccicaaGreatDoor
