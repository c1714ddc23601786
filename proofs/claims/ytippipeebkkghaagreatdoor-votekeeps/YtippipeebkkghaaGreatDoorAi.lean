/- A head's sector (laid by scripts/mkai.py). -/
import Derived.Test.YtippipeebkkghaaGreatDoorAh
namespace Go.Proofs.YtippipeebkkghaaGreatDoor
set_option linter.unusedVariables false
set_option linter.unusedSimpArgs false
open Go.RowKit Go.Deep

/-- a head's parts, without the sum and the last byte -/
def hdP (a b c d : Nat) : List Nat := spl (spl (spl (spl ((nouW 64).set 0 104) 1 (big a 8)) 9 (big b 8)) 17 (big c 8)) 25 (big d 8)
def hdB (a b c d : Nat) : List Nat := sealB (hdP a b c d)
abbrev headV (a b c d : Int) : Value := .agg #[.int .i64 a, .int .i64 b, .int .i64 c, .int .i64 d]
theorem four0 (a b c d : Int) (w : World) : (Instr.index 306 (headV a b c d) (.int .i64 0)).run Tryz.prog w = .ok (.int .i64 a) w := by kernel_rfl
theorem four1 (a b c d : Int) (w : World) : (Instr.index 306 (headV a b c d) (.int .i64 1)).run Tryz.prog w = .ok (.int .i64 b) w := by kernel_rfl
theorem four2 (a b c d : Int) (w : World) : (Instr.index 306 (headV a b c d) (.int .i64 2)).run Tryz.prog w = .ok (.int .i64 c) w := by kernel_rfl
theorem four3 (a b c d : Int) (w : World) : (Instr.index 306 (headV a b c d) (.int .i64 3)).run Tryz.prog w = .ok (.int .i64 d) w := by kernel_rfl
theorem wrap_u64 {n : Nat} (h : n ≤ 1152921504606846976) : IntKind.u64.wrap (n : Int) = (n : Int) := by
  simp [IntKind.wrap, IntKind.bits, IntKind.signed]
  omega

set_option maxRecDepth 100000 in
set_option maxHeartbeats 1600000 in
theorem hsector_ok (a b c d : Nat) (w : World) (ha : a ≤ 1152921504606846976) (hb : b ≤ 1152921504606846976) (hc : c ≤ 1152921504606846976) (hd : d ≤ 1152921504606846976) (ht : Turns w) :
    Calls Tryz.prog 181 #[headV a b c d] w fun e w' => ∃ g, w.heap.size ≤ g ∧ e = .returned (.slice (some ⟨g, 0, none⟩) 64 64) ∧ Kp (fun _ => False) w w' ∧ Bk w' w.heap.size g 64 64 (hdB a b c d) := by
  have HA : Hid (a ≤ 1152921504606846976 ∧ b ≤ 1152921504606846976 ∧ c ≤ 1152921504606846976 ∧ d ≤ 1152921504606846976) := ⟨ha, hb, hc, hd⟩
  have wa := wrap_u64 ha
  have wb := wrap_u64 hb
  have wc := wrap_u64 hc
  have wd := wrap_u64 hd
  have i0 := four0 (a : Int) b c d
  have i1 := four1 (a : Int) b c d
  have i2 := four2 (a : Int) b c d
  have i3 := four3 (a : Int) b c d
  have HT : Hid (Turns w) := ht
  obtain ⟨h, hh⟩ : ∃ h, h = w.heap.size := ⟨_, rfl⟩
  obtain ⟨w0, hw0⟩ : ∃ y, y = w.alloc (.cells #[.int .i64 (a : Int), .int .i64 (b : Int), .int .i64 (c : Int), .int .i64 (d : Int)] 134) := ⟨_, rfl⟩
  have hL0 : Lv w0 h [.int .i64 (a : Int), .int .i64 (b : Int), .int .i64 (c : Int), .int .i64 (d : Int)] := by rw [hw0, hh]; exact Lv.new w _ _
  have k0 : Kp (fun _ => False) w w0 := by rw [hw0]; exact (Kp.refl _ _).alloc _
  have z0 : w0.heap.size = w.heap.size + 1 := by rw [hw0]; simp
  have HK0 : Hid (Kp (fun _ => False) w w0 ∧ w0.heap.size = w.heap.size + 1 ∧ h = w.heap.size) := ⟨k0, z0, hh⟩
  have HL0 : Hid (Lv w0 h [.int .i64 (a : Int), .int .i64 (b : Int), .int .i64 (c : Int), .int .i64 (d : Int)]) := hL0
  clear ha hb hc hd ht hL0 k0 z0
  go_enter Tryz.func181, Tryz.ntmps181
  go_upto_region 1 with fail
  rw [← hw0, ← hh]
  clear hw0 hh
  go_wp2_with fail
  refine (blankS_ok w0).mono ?_
  rintro e9 w1 ⟨g, hg, rfl, k1, x1⟩
  have HG : Hid (w.heap.size ≤ g ∧ g ≠ h ∧ Kp (fun _ => False) w w1) := ⟨by have := HK0.out; omega, by have := HK0.out; omega, HK0.out.1.trans k1 (fun _ _ e => e)⟩
  have HL1 : Hid (Lv w1 h [.int .i64 (a : Int), .int .i64 (b : Int), .int .i64 (c : Int), .int .i64 (d : Int)]) := HL0.out.keep k1 id
  have f0 := x1.fz 0
  have c0 := x1.cell (j := 0) (by omega)
  obtain ⟨w2, hw2⟩ : ∃ y, y = w1.setCell ⟨g, 0, none⟩ (.int .u8 104) := ⟨_, rfl⟩
  have x2 := x1.set (j := 0) (y := 104) (by omega) (by omega)
  have k2 : Kp (fun b => b = g) w1 w2 := by rw [hw2]; exact kp_set
  rw [show ((104 : Nat) : Int) = 104 from rfl, ← hw2] at x2
  have HB0 : Hid (Bk w2 w0.heap.size g 64 64 ((nouW 64).set 0 104)) := x2
  have HKa : Hid (Kp (fun b => b = g) w1 w2) := k2
  have hl2 : Lv w2 h [.int .i64 (a : Int), .int .i64 (b : Int), .int .i64 (c : Int), .int .i64 (d : Int)] := HL1.out.keep k2 (fun e => HG.out.2.1 e.symm)
  have q0 := hl2.cell (j := 0) rfl
  have q1 := hl2.cell (j := 1) rfl
  have q2 := hl2.cell (j := 2) rfl
  have q3 := hl2.cell (j := 3) rfl
  clear x1 x2 k1 k2 hg hl2 HL1
  go_upto_region 3 with fail
  rw [← hw2]
  clear hw2 f0 c0
  go_wp2
  refine wp_loop_rounds 5 ?_
  rw [rounds_succ]
  have s0 : ∀ w, (Instr.slice 75 (.slice (some ⟨g, 0, none⟩) 64 64) (some (.int .i64 1)) (some (.int .i64 9)) none).run Tryz.prog w = .ok (.slice (some ⟨g, 1, none⟩) 8 63) w := fun w => sliceLH g 0 64 64 1 9 (by omega) (by omega) (by omega) w
  go_wp2_with fail
  refine (putNumber_ok HB0.out 1 8 63 a (by omega) (by omega) (by omega) (by have := HA.out; omega)).mono ?_
  rintro e9 w3 ⟨rfl, k9, x9⟩
  have HB1 : Hid (Bk w3 w0.heap.size g 64 64 (spl ((nouW 64).set 0 104) 1 (big a 8))) := x9
  have HKb0 : Hid (Kp (fun b => b = g) w1 w3) := HKa.out.trans k9 (fun _ _ e => e)
  clear k9 x9 s0 HB0
  go_wp2_with fail
  rw [rounds_succ]
  have s1 : ∀ w, (Instr.slice 75 (.slice (some ⟨g, 0, none⟩) 64 64) (some (.int .i64 9)) (some (.int .i64 17)) none).run Tryz.prog w = .ok (.slice (some ⟨g, 9, none⟩) 8 55) w := fun w => sliceLH g 0 64 64 9 17 (by omega) (by omega) (by omega) w
  go_wp2_with fail
  refine (putNumber_ok HB1.out 9 8 55 b (by omega) (by omega) (by omega) (by have := HA.out; omega)).mono ?_
  rintro e9 w4 ⟨rfl, k9, x9⟩
  have HB2 : Hid (Bk w4 w0.heap.size g 64 64 (spl (spl ((nouW 64).set 0 104) 1 (big a 8)) 9 (big b 8))) := x9
  have HKb1 : Hid (Kp (fun b => b = g) w1 w4) := HKb0.out.trans k9 (fun _ _ e => e)
  clear k9 x9 s1 HB1
  go_wp2_with fail
  rw [rounds_succ]
  have s2 : ∀ w, (Instr.slice 75 (.slice (some ⟨g, 0, none⟩) 64 64) (some (.int .i64 17)) (some (.int .i64 25)) none).run Tryz.prog w = .ok (.slice (some ⟨g, 17, none⟩) 8 47) w := fun w => sliceLH g 0 64 64 17 25 (by omega) (by omega) (by omega) w
  go_wp2_with fail
  refine (putNumber_ok HB2.out 17 8 47 c (by omega) (by omega) (by omega) (by have := HA.out; omega)).mono ?_
  rintro e9 w5 ⟨rfl, k9, x9⟩
  have HB3 : Hid (Bk w5 w0.heap.size g 64 64 (spl (spl (spl ((nouW 64).set 0 104) 1 (big a 8)) 9 (big b 8)) 17 (big c 8))) := x9
  have HKb2 : Hid (Kp (fun b => b = g) w1 w5) := HKb1.out.trans k9 (fun _ _ e => e)
  clear k9 x9 s2 HB2
  go_wp2_with fail
  rw [rounds_succ]
  have s3 : ∀ w, (Instr.slice 75 (.slice (some ⟨g, 0, none⟩) 64 64) (some (.int .i64 25)) (some (.int .i64 33)) none).run Tryz.prog w = .ok (.slice (some ⟨g, 25, none⟩) 8 39) w := fun w => sliceLH g 0 64 64 25 33 (by omega) (by omega) (by omega) w
  go_wp2_with fail
  refine (putNumber_ok HB3.out 25 8 39 d (by omega) (by omega) (by omega) (by have := HA.out; omega)).mono ?_
  rintro e9 w6 ⟨rfl, k9, x9⟩
  have HB4 : Hid (Bk w6 w0.heap.size g 64 64 (spl (spl (spl (spl ((nouW 64).set 0 104) 1 (big a 8)) 9 (big b 8)) 17 (big c 8)) 25 (big d 8))) := x9
  have HKb3 : Hid (Kp (fun b => b = g) w1 w6) := HKb2.out.trans k9 (fun _ _ e => e)
  clear k9 x9 s3 HB3
  go_wp2_with fail
  rw [rounds_succ]
  have htw : Turns w6 := fun j hj => (HKb3.out.cellv (HG.out.2.2.cellv (HT.out j hj) id) (fun e => by
    have h1 := World.block_lt_of_cell? _ _ (HT.out j hj)
    have h2 := HG.out.1
    have e' : (0 : Nat) = g := e
    have h1' : (0 : Nat) < w.heap.size := h1
    omega))
  have HS : Hid (Calls _ _ _ w6 _) := seal_ok HB4.out htw 64 (by omega)
  clear htw
  go_wp2_with fail
  refine HS.out.mono ?_
  rintro e9 w7 ⟨rfl, k9, x9⟩
  have HF : Hid (Kp (fun _ => False) w w7 ∧ Bk w7 w.heap.size g 64 64 (hdB a b c d)) := by
    refine ⟨(HG.out.2.2.mono (fun _ _ e => e.elim)).trans (S := fun _ => False) (HKb3.out.trans k9 (fun _ _ e => e)) (fun b hb e => by have := HG.out.1; omega), ⟨x9.len, x9.byte, ownsRow_base x9.ow HK0.out.1.size⟩⟩
  have HG1 : Hid (w.heap.size ≤ g) := HG.out.1
  clear k9 x9 HS
  go_wp2
  go_ret
  exact ⟨g, HG1.out, rfl, HF.out⟩
end Go.Proofs.YtippipeebkkghaaGreatDoor
