/- Texts of this proof, joined: Aj, Ak. -/
import Derived.Test.YtblaabjjcanifaaGreatDoorMgAD
/- What a sector says: headOf; whether it is right. -/
namespace Go.Proofs.YtblaabjjcanifaaGreatDoor
set_option linter.unusedVariables false
set_option linter.unusedSimpArgs false
open Go.RowKit Go.Deep

/-- the number in the eight bytes from o on -/
def numAt (xs : List Nat) (o : Nat) : Int := i64Of (hfW ((xs.drop o).take 8))

set_option maxRecDepth 100000 in
set_option maxHeartbeats 800000 in
theorem headOf1_0 (r g q c : Nat) (xs : List Nat) (w : World) (hb : w.cell? ⟨r, 0, none⟩ = some (.slice (some ⟨g, q, none⟩) 64 c)) (hc : 64 ≤ c) (h : Rb w (some ⟨g, q, none⟩) 64 xs) :
    Calls Tryz.prog 92 #[.int .i64 0, .pointer (some ⟨r, 0, none⟩)] w fun e w' => e = .returned (.int .i64 (numAt xs 1)) ∧ Kp (fun _ => False) w w' := by
  obtain ⟨z, hz⟩ : ∃ z, z = numAt xs 1 := ⟨_, rfl⟩
  have HN : Hid (Calls Tryz.prog 93 #[.slice (some ⟨g, q + 1, none⟩) 8 (c - 1)] w fun e w' => e = .returned (.int .i64 z) ∧ Kp (fun _ => False) w w') := by
    rw [hz]
    exact numberOf_kp (h.mid (l := 1) (m := 8) (by omega)) (c - 1) (by omega)
  rw [← hz]
  clear hz
  have hs : ∀ w, (Instr.slice 22 (.slice (some ⟨g, q, none⟩) 64 c) (some (.int .i64 1)) (some (.int .i64 9)) none).run Tryz.prog w = .ok (.slice (some ⟨g, q + 1, none⟩) 8 (c - 1)) w := fun w => sliceLH g q 64 c 1 9 (by omega) (by omega) (by omega) w
  clear h
  go_enter Tryz.func92, Tryz.ntmps92
  go_wp2_with fail
  refine HN.out.mono ?_
  rintro e9 w1 ⟨rfl, k1⟩
  have HK : Hid (Kp (fun _ => False) w w1) := k1
  clear k1 HN
  go_wp2
  go_ret
  exact ⟨rfl, HK.out⟩

set_option maxRecDepth 100000 in
set_option maxHeartbeats 800000 in
theorem headOf1_1 (r g q c : Nat) (xs : List Nat) (w : World) (hb : w.cell? ⟨r, 0, none⟩ = some (.slice (some ⟨g, q, none⟩) 64 c)) (hc : 64 ≤ c) (h : Rb w (some ⟨g, q, none⟩) 64 xs) :
    Calls Tryz.prog 92 #[.int .i64 1, .pointer (some ⟨r, 0, none⟩)] w fun e w' => e = .returned (.int .i64 (numAt xs 9)) ∧ Kp (fun _ => False) w w' := by
  obtain ⟨z, hz⟩ : ∃ z, z = numAt xs 9 := ⟨_, rfl⟩
  have HN : Hid (Calls Tryz.prog 93 #[.slice (some ⟨g, q + 9, none⟩) 8 (c - 9)] w fun e w' => e = .returned (.int .i64 z) ∧ Kp (fun _ => False) w w') := by
    rw [hz]
    exact numberOf_kp (h.mid (l := 9) (m := 8) (by omega)) (c - 9) (by omega)
  rw [← hz]
  clear hz
  have hs : ∀ w, (Instr.slice 22 (.slice (some ⟨g, q, none⟩) 64 c) (some (.int .i64 9)) (some (.int .i64 17)) none).run Tryz.prog w = .ok (.slice (some ⟨g, q + 9, none⟩) 8 (c - 9)) w := fun w => sliceLH g q 64 c 9 17 (by omega) (by omega) (by omega) w
  clear h
  go_enter Tryz.func92, Tryz.ntmps92
  go_wp2_with fail
  refine HN.out.mono ?_
  rintro e9 w1 ⟨rfl, k1⟩
  have HK : Hid (Kp (fun _ => False) w w1) := k1
  clear k1 HN
  go_wp2
  go_ret
  exact ⟨rfl, HK.out⟩

set_option maxRecDepth 100000 in
set_option maxHeartbeats 800000 in
theorem headOf1_2 (r g q c : Nat) (xs : List Nat) (w : World) (hb : w.cell? ⟨r, 0, none⟩ = some (.slice (some ⟨g, q, none⟩) 64 c)) (hc : 64 ≤ c) (h : Rb w (some ⟨g, q, none⟩) 64 xs) :
    Calls Tryz.prog 92 #[.int .i64 2, .pointer (some ⟨r, 0, none⟩)] w fun e w' => e = .returned (.int .i64 (numAt xs 17)) ∧ Kp (fun _ => False) w w' := by
  obtain ⟨z, hz⟩ : ∃ z, z = numAt xs 17 := ⟨_, rfl⟩
  have HN : Hid (Calls Tryz.prog 93 #[.slice (some ⟨g, q + 17, none⟩) 8 (c - 17)] w fun e w' => e = .returned (.int .i64 z) ∧ Kp (fun _ => False) w w') := by
    rw [hz]
    exact numberOf_kp (h.mid (l := 17) (m := 8) (by omega)) (c - 17) (by omega)
  rw [← hz]
  clear hz
  have hs : ∀ w, (Instr.slice 22 (.slice (some ⟨g, q, none⟩) 64 c) (some (.int .i64 17)) (some (.int .i64 25)) none).run Tryz.prog w = .ok (.slice (some ⟨g, q + 17, none⟩) 8 (c - 17)) w := fun w => sliceLH g q 64 c 17 25 (by omega) (by omega) (by omega) w
  clear h
  go_enter Tryz.func92, Tryz.ntmps92
  go_wp2_with fail
  refine HN.out.mono ?_
  rintro e9 w1 ⟨rfl, k1⟩
  have HK : Hid (Kp (fun _ => False) w w1) := k1
  clear k1 HN
  go_wp2
  go_ret
  exact ⟨rfl, HK.out⟩

set_option maxRecDepth 100000 in
set_option maxHeartbeats 800000 in
theorem headOf1_3 (r g q c : Nat) (xs : List Nat) (w : World) (hb : w.cell? ⟨r, 0, none⟩ = some (.slice (some ⟨g, q, none⟩) 64 c)) (hc : 64 ≤ c) (h : Rb w (some ⟨g, q, none⟩) 64 xs) :
    Calls Tryz.prog 92 #[.int .i64 3, .pointer (some ⟨r, 0, none⟩)] w fun e w' => e = .returned (.int .i64 (numAt xs 25)) ∧ Kp (fun _ => False) w w' := by
  obtain ⟨z, hz⟩ : ∃ z, z = numAt xs 25 := ⟨_, rfl⟩
  have HN : Hid (Calls Tryz.prog 93 #[.slice (some ⟨g, q + 25, none⟩) 8 (c - 25)] w fun e w' => e = .returned (.int .i64 z) ∧ Kp (fun _ => False) w w') := by
    rw [hz]
    exact numberOf_kp (h.mid (l := 25) (m := 8) (by omega)) (c - 25) (by omega)
  rw [← hz]
  clear hz
  have hs : ∀ w, (Instr.slice 22 (.slice (some ⟨g, q, none⟩) 64 c) (some (.int .i64 25)) (some (.int .i64 33)) none).run Tryz.prog w = .ok (.slice (some ⟨g, q + 25, none⟩) 8 (c - 25)) w := fun w => sliceLH g q 64 c 25 33 (by omega) (by omega) (by omega) w
  clear h
  go_enter Tryz.func92, Tryz.ntmps92
  go_wp2_with fail
  refine HN.out.mono ?_
  rintro e9 w1 ⟨rfl, k1⟩
  have HK : Hid (Kp (fun _ => False) w w1) := k1
  clear k1 HN
  go_wp2
  go_ret
  exact ⟨rfl, HK.out⟩

theorem szHead : (Tryz.prog.info? 80).map (·.size) = some 4 := by kernel_rfl
theorem dsHead : ∃ d, Tryz.prog.underlying 80 = some d ∧ d.isRow = true := ⟨_, Tryz.underlying80, rfl⟩
set_option maxRecDepth 100000 in
set_option maxHeartbeats 1600000 in
theorem headOf_ok (g q c : Nat) (xs : List Nat) (w : World) (hc : 64 ≤ c) (h : Rb w (some ⟨g, q, none⟩) 64 xs) :
    Calls Tryz.prog 71 #[.slice (some ⟨g, q, none⟩) 64 c] w fun e w' => e = .returned (headV (numAt xs 1) (numAt xs 9) (numAt xs 17) (numAt xs 25)) ∧ Kp (fun _ => False) w w' := by
  have HR : Hid (Rb w (some ⟨g, q, none⟩) 64 xs) := h
  have HC : Hid (64 ≤ c) := hc
  clear h hc
  go_enter Tryz.func71, Tryz.ntmps71
  obtain ⟨z0, hz0⟩ : ∃ z, z = numAt xs 1 := ⟨_, rfl⟩
  obtain ⟨z1, hz1⟩ : ∃ z, z = numAt xs 9 := ⟨_, rfl⟩
  obtain ⟨z2, hz2⟩ : ∃ z, z = numAt xs 17 := ⟨_, rfl⟩
  obtain ⟨z3, hz3⟩ : ∃ z, z = numAt xs 25 := ⟨_, rfl⟩
  obtain ⟨r, hr⟩ : ∃ r, r = w.heap.size := ⟨_, rfl⟩
  obtain ⟨m, hm⟩ : ∃ m, m = w.heap.size + 1 := ⟨_, rfl⟩
  obtain ⟨w0, hw0⟩ : ∃ y, y = (w.alloc (.cells #[.slice (some ⟨g, q, none⟩) 64 c] 22)).alloc (.cells #[.int .i64 0, .int .i64 0, .int .i64 0, .int .i64 0] 80) := ⟨_, rfl⟩
  have zz : (w.alloc (.cells #[.slice (some ⟨g, q, none⟩) 64 c] 22)).heap.size = w.heap.size + 1 := by simp
  have HK0 : Hid (Kp (fun _ => False) w w0) := by rw [hw0]; exact ((Kp.refl _ _).alloc _).alloc _
  have HB0 : Hid (Lv w0 r [.slice (some ⟨g, q, none⟩) 64 c]) := by rw [hw0, hr]; exact (Lv.new w _ _).keep ((Kp.refl (fun _ => False) _).alloc _) id
  have HM0 : Hid (Lv w0 m [.int .i64 0, .int .i64 0, .int .i64 0, .int .i64 0]) := by rw [hw0, hm, ← zz]; exact Lv.new _ _ _
  have HC0 : Hid (∀ u, Kp (fun _ => False) w0 u → Calls Tryz.prog 92 #[.int .i64 0, .pointer (some ⟨r, 0, none⟩)] u fun e w' => e = .returned (.int .i64 z0) ∧ Kp (fun _ => False) u w') := fun u k => by rw [hz0]; exact headOf1_0 r g q c xs u (k.cellv (HB0.out.cell (j := 0) rfl) id) HC.out ((HR.out.keep0 HK0.out).keep0 k)
  have HC1 : Hid (∀ u, Kp (fun _ => False) w0 u → Calls Tryz.prog 92 #[.int .i64 1, .pointer (some ⟨r, 0, none⟩)] u fun e w' => e = .returned (.int .i64 z1) ∧ Kp (fun _ => False) u w') := fun u k => by rw [hz1]; exact headOf1_1 r g q c xs u (k.cellv (HB0.out.cell (j := 0) rfl) id) HC.out ((HR.out.keep0 HK0.out).keep0 k)
  have HC2 : Hid (∀ u, Kp (fun _ => False) w0 u → Calls Tryz.prog 92 #[.int .i64 2, .pointer (some ⟨r, 0, none⟩)] u fun e w' => e = .returned (.int .i64 z2) ∧ Kp (fun _ => False) u w') := fun u k => by rw [hz2]; exact headOf1_2 r g q c xs u (k.cellv (HB0.out.cell (j := 0) rfl) id) HC.out ((HR.out.keep0 HK0.out).keep0 k)
  have HC3 : Hid (∀ u, Kp (fun _ => False) w0 u → Calls Tryz.prog 92 #[.int .i64 3, .pointer (some ⟨r, 0, none⟩)] u fun e w' => e = .returned (.int .i64 z3) ∧ Kp (fun _ => False) u w') := fun u k => by rw [hz3]; exact headOf1_3 r g q c xs u (k.cellv (HB0.out.cell (j := 0) rfl) id) HC.out ((HR.out.keep0 HK0.out).keep0 k)
  rw [← hz0, ← hz1, ← hz2, ← hz3]
  clear hz0 hz1 hz2 hz3 HR HC zz
  go_wp2_with fail
  rw [← hw0, ← hm, ← hr]
  have HX9 : Hid (w.heap.size < m) := by show _ < _; omega
  clear hw0 hr hm
  refine (HC0.out w0 (Kp.refl _ _)).mono ?_
  rintro e9 w1 ⟨rfl, k1⟩
  have HK1 : Hid (Kp (fun _ => False) w0 w1) := k1
  clear k1
  go_wp2_with fail
  refine (HC1.out w1 HK1.out).mono ?_
  rintro e9 w2 ⟨rfl, k1⟩
  have HK2 : Hid (Kp (fun _ => False) w0 w2) := HK1.out.trans k1 (fun _ _ e => e)
  clear k1
  go_wp2_with fail
  refine (HC2.out w2 HK2.out).mono ?_
  rintro e9 w3 ⟨rfl, k1⟩
  have HK3 : Hid (Kp (fun _ => False) w0 w3) := HK2.out.trans k1 (fun _ _ e => e)
  clear k1
  go_wp2_with fail
  refine (HC3.out w3 HK3.out).mono ?_
  rintro e9 w4 ⟨rfl, k1⟩
  have HK4 : Hid (Kp (fun _ => False) w0 w4) := HK3.out.trans k1 (fun _ _ e => e)
  have HM4 : Hid (Lv w4 m [.int .i64 0, .int .i64 0, .int .i64 0, .int .i64 0]) := HM0.out.keep HK4.out id
  clear k1
  have c0 := HM4.out.cell (j := 0) rfl
  have c1 := HM4.out.cell (j := 1) rfl
  have c2 := HM4.out.cell (j := 2) rfl
  have c3 := HM4.out.cell (j := 3) rfl
  have f0 := HM4.out.fz (j := 0) (by decide)
  have f1 := HM4.out.fz (j := 1) (by decide)
  have f2 := HM4.out.fz (j := 2) (by decide)
  have f3 := HM4.out.fz (j := 3) (by decide)
  obtain ⟨w5, hw5⟩ : ∃ y, y = (((w4.setCell ⟨m, 0, none⟩ (.int .i64 z0)).setCell ⟨m, 1, none⟩ (.int .i64 z1)).setCell ⟨m, 2, none⟩ (.int .i64 z2)).setCell ⟨m, 3, none⟩ (.int .i64 z3) := ⟨_, rfl⟩
  have hl5 : Lv w5 m [.int .i64 z0, .int .i64 z1, .int .i64 z2, .int .i64 z3] := by
    rw [hw5]
    have a1 : Lv (w4.setCell ⟨m, 0, none⟩ (.int .i64 z0)) m [.int .i64 z0, .int .i64 0, .int .i64 0, .int .i64 0] := HM4.out.set1 0 (.int .i64 z0) (by decide)
    have a2 : Lv ((w4.setCell ⟨m, 0, none⟩ (.int .i64 z0)).setCell ⟨m, 1, none⟩ (.int .i64 z1)) m [.int .i64 z0, .int .i64 z1, .int .i64 0, .int .i64 0] := a1.set1 1 (.int .i64 z1) (by simp)
    have a3 : Lv (((w4.setCell ⟨m, 0, none⟩ (.int .i64 z0)).setCell ⟨m, 1, none⟩ (.int .i64 z1)).setCell ⟨m, 2, none⟩ (.int .i64 z2)) m [.int .i64 z0, .int .i64 z1, .int .i64 z2, .int .i64 0] := a2.set1 2 (.int .i64 z2) (by simp)
    exact a3.set1 3 (.int .i64 z3) (by simp)
  have k5 : Kp (fun b => b = m) w4 w5 := by rw [hw5]; exact ((kp_set.trans kp_set (fun _ _ e => e)).trans kp_set (fun _ _ e => e)).trans kp_set (fun _ _ e => e)
  have hld := hl5.load dsHead szHead rfl
  have HF : Hid (Kp (fun _ => False) w w5) := ((HK0.out.trans HK4.out (fun _ _ e => e))).trans (S := fun _ => False) k5 (fun b hb e => by have := HX9.out; omega)
  have HLd : Hid ((loadVar 80 ⟨m, 0, none⟩).run Tryz.prog w5 = .ok (headV z0 z1 z2 z3) w5) := hld
  clear hl5 k5 hld
  go_wp2
  rw [← hw5]
  refine bodyPost_ret (res_cell Tryz.results71 _ _ m _ rfl HLd.out) rfl ?_
  exact ⟨rfl, HF.out⟩
end Go.Proofs.YtblaabjjcanifaaGreatDoor

/- Whether a sector is the head that it says. -/
namespace Go.Proofs.YtblaabjjcanifaaGreatDoor
set_option linter.unusedVariables false
set_option linter.unusedSimpArgs false
open Go.RowKit Go.Deep

def cntB (n : Int) : Bool := decide (1 ≤ n) && decide (n ≤ 1152921504606846976)
set_option maxRecDepth 100000 in
theorem counts_ok (n : Int) (w : World) : Calls Tryz.prog 94 #[.int .i64 n] w fun e w' => e = .returned (.bool (cntB n)) ∧ w' = w := by
  obtain ⟨a, ha⟩ : ∃ a, a = decide (1 ≤ n) := ⟨_, rfl⟩
  obtain ⟨b, hb⟩ : ∃ b, b = decide (n ≤ 1152921504606846976) := ⟨_, rfl⟩
  have e : cntB n = (a && b) := by rw [ha, hb]; rfl
  rw [e]
  cases a with
  | false =>
    have h1 : ¬ n ≥ 1 := of_decide_eq_false ha.symm
    clear ha hb e
    go_enter Tryz.func94, Tryz.ntmps94
    go_wp2
    go_ret
    exact ⟨rfl, rfl⟩
  | true =>
    have h1 : n ≥ 1 := of_decide_eq_true ha.symm
    cases b with
    | false =>
      have h2 : ¬ n ≤ 1152921504606846976 := of_decide_eq_false hb.symm
      clear ha hb e
      go_enter Tryz.func94, Tryz.ntmps94
      go_wp2
      go_ret
      exact ⟨rfl, rfl⟩
    | true =>
      have h2 : n ≤ 1152921504606846976 := of_decide_eq_true hb.symm
      clear ha hb e
      go_enter Tryz.func94, Tryz.ntmps94
      go_wp2
      go_ret
      exact ⟨rfl, rfl⟩

/-- whether the bytes are that head's, and it may stand there -/
def rightH (a b c d : Int) (xs : List Nat) (s n : Int) : Bool :=
  cntB a && (cntB b && (cntB d && (a.tmod 2 == s && (decide (0 ≤ c) && (decide (c < n) && decide (xs = hdB a.toNat b.toNat c.toNat d.toNat))))))

set_option maxRecDepth 100000 in
set_option maxHeartbeats 1600000 in
theorem hright_ok (a b c d : Int) (g q cp : Nat) (xs : List Nat) (s n : Int) (w : World) (h : Rb w (some ⟨g, q, none⟩) 64 xs) (ht : Turns w) (hn : n ≤ 1152921504606846976) :
    Calls Tryz.prog 72 #[headV a b c d, .slice (some ⟨g, q, none⟩) 64 cp, .int .i64 s, .int .i64 n] w fun e w' => e = .returned (.bool (rightH a b c d xs s n)) ∧ Kp (fun _ => False) w w' := by
  obtain ⟨b1, h1⟩ : ∃ x, x = cntB a := ⟨_, rfl⟩
  obtain ⟨b2, h2⟩ : ∃ x, x = cntB b := ⟨_, rfl⟩
  obtain ⟨b3, h3⟩ : ∃ x, x = cntB d := ⟨_, rfl⟩
  obtain ⟨b4, h4⟩ : ∃ x, x = (a.tmod 2 == s) := ⟨_, rfl⟩
  obtain ⟨b5, h5⟩ : ∃ x, x = decide (0 ≤ c) := ⟨_, rfl⟩
  obtain ⟨b6, h6⟩ : ∃ x, x = decide (c < n) := ⟨_, rfl⟩
  have HR : Hid (Rb w (some ⟨g, q, none⟩) 64 xs) := h
  have HT : Hid (Turns w) := ht
  have C1 : Hid (∀ u, Calls Tryz.prog 94 #[.int .i64 a] u fun e w' => e = .returned (.bool b1) ∧ w' = u) := fun u => by rw [h1]; exact counts_ok a u
  have C2 : Hid (∀ u, Calls Tryz.prog 94 #[.int .i64 b] u fun e w' => e = .returned (.bool b2) ∧ w' = u) := fun u => by rw [h2]; exact counts_ok b u
  have C3 : Hid (∀ u, Calls Tryz.prog 94 #[.int .i64 d] u fun e w' => e = .returned (.bool b3) ∧ w' = u) := fun u => by rw [h3]; exact counts_ok d u
  obtain ⟨r, hr⟩ : ∃ r, r = w.heap.size := ⟨_, rfl⟩
  obtain ⟨w0, hw0⟩ : ∃ y, y = w.alloc (.cells #[.int .i64 a, .int .i64 b, .int .i64 c, .int .i64 d] 80) := ⟨_, rfl⟩
  have HK0 : Hid (Kp (fun _ => False) w w0) := by rw [hw0]; exact (Kp.refl _ _).alloc _
  have HL0 : Hid (Lv w0 r [.int .i64 a, .int .i64 b, .int .i64 c, .int .i64 d]) := by rw [hw0, hr]; exact Lv.new w _ _
  have q0 := HL0.out.cell (j := 0) rfl
  have q1 := HL0.out.cell (j := 1) rfl
  have q2 := HL0.out.cell (j := 2) rfl
  have q3 := HL0.out.cell (j := 3) rfl
  have HE : Hid (rightH a b c d xs s n = (b1 && (b2 && (b3 && (b4 && (b5 && (b6 && decide (xs = hdB a.toNat b.toNat c.toNat d.toNat)))))))) := by rw [h1, h2, h3, h4, h5, h6]; rfl
  clear h ht
  cases b1 with
  | false =>
    rw [HE.out]
    simp only [Bool.false_and, Bool.true_and]
    clear h1 h2 h3 h4 h5 h6 HE
    go_enter Tryz.func72, Tryz.ntmps72
    go_upto_region 1 with fail
    rw [← hw0, ← hr]
    clear hw0 hr
    go_wp2_with fail
    refine (C1.out _).mono ?_
    rintro e9 w9 ⟨rfl, hw9⟩
    have hw8 := hw9.symm
    subst hw8
    clear hw9 C1
    go_wp2
    go_ret
    exact ⟨rfl, HK0.out⟩
  | true =>
    cases b2 with
    | false =>
      rw [HE.out]
      simp only [Bool.false_and, Bool.true_and]
      clear h1 h2 h3 h4 h5 h6 HE
      go_enter Tryz.func72, Tryz.ntmps72
      go_upto_region 1 with fail
      rw [← hw0, ← hr]
      clear hw0 hr
      go_wp2_with fail
      refine (C1.out _).mono ?_
      rintro e9 w9 ⟨rfl, hw9⟩
      have hw8 := hw9.symm
      subst hw8
      clear hw9 C1
      go_wp2_with fail
      refine (C2.out _).mono ?_
      rintro e9 w9 ⟨rfl, hw9⟩
      have hw8 := hw9.symm
      subst hw8
      clear hw9 C2
      go_wp2
      go_ret
      exact ⟨rfl, HK0.out⟩
    | true =>
      cases b3 with
      | false =>
        rw [HE.out]
        simp only [Bool.false_and, Bool.true_and]
        clear h1 h2 h3 h4 h5 h6 HE
        go_enter Tryz.func72, Tryz.ntmps72
        go_upto_region 1 with fail
        rw [← hw0, ← hr]
        clear hw0 hr
        go_wp2_with fail
        refine (C1.out _).mono ?_
        rintro e9 w9 ⟨rfl, hw9⟩
        have hw8 := hw9.symm
        subst hw8
        clear hw9 C1
        go_wp2_with fail
        refine (C2.out _).mono ?_
        rintro e9 w9 ⟨rfl, hw9⟩
        have hw8 := hw9.symm
        subst hw8
        clear hw9 C2
        go_wp2_with fail
        refine (C3.out _).mono ?_
        rintro e9 w9 ⟨rfl, hw9⟩
        have hw8 := hw9.symm
        subst hw8
        clear hw9 C3
        go_wp2
        go_ret
        exact ⟨rfl, HK0.out⟩
      | true =>
        cases b4 with
        | false =>
          rw [HE.out]
          simp only [Bool.false_and, Bool.true_and]
          have g4 : (a.tmod 2 == s) = false := h4.symm
          clear h1 h2 h3 h4 h5 h6 HE
          go_enter Tryz.func72, Tryz.ntmps72
          go_upto_region 1 with fail
          rw [← hw0, ← hr]
          clear hw0 hr
          go_wp2_with fail
          refine (C1.out _).mono ?_
          rintro e9 w9 ⟨rfl, hw9⟩
          have hw8 := hw9.symm
          subst hw8
          clear hw9 C1
          go_wp2_with fail
          refine (C2.out _).mono ?_
          rintro e9 w9 ⟨rfl, hw9⟩
          have hw8 := hw9.symm
          subst hw8
          clear hw9 C2
          go_wp2_with fail
          refine (C3.out _).mono ?_
          rintro e9 w9 ⟨rfl, hw9⟩
          have hw8 := hw9.symm
          subst hw8
          clear hw9 C3
          go_wp2
          go_ret
          exact ⟨rfl, HK0.out⟩
        | true =>
          cases b5 with
          | false =>
            rw [HE.out]
            simp only [Bool.false_and, Bool.true_and]
            have g4 : (a.tmod 2 == s) = true := h4.symm
            have g5 : ¬ c ≥ 0 := of_decide_eq_false h5.symm
            clear h1 h2 h3 h4 h5 h6 HE
            go_enter Tryz.func72, Tryz.ntmps72
            go_upto_region 1 with fail
            rw [← hw0, ← hr]
            clear hw0 hr
            go_wp2_with fail
            refine (C1.out _).mono ?_
            rintro e9 w9 ⟨rfl, hw9⟩
            have hw8 := hw9.symm
            subst hw8
            clear hw9 C1
            go_wp2_with fail
            refine (C2.out _).mono ?_
            rintro e9 w9 ⟨rfl, hw9⟩
            have hw8 := hw9.symm
            subst hw8
            clear hw9 C2
            go_wp2_with fail
            refine (C3.out _).mono ?_
            rintro e9 w9 ⟨rfl, hw9⟩
            have hw8 := hw9.symm
            subst hw8
            clear hw9 C3
            go_wp2
            go_ret
            exact ⟨rfl, HK0.out⟩
          | true =>
            cases b6 with
            | false =>
              rw [HE.out]
              simp only [Bool.false_and, Bool.true_and]
              have g4 : (a.tmod 2 == s) = true := h4.symm
              have g5 : c ≥ 0 := of_decide_eq_true h5.symm
              have g6 : ¬ c < n := of_decide_eq_false h6.symm
              clear h1 h2 h3 h4 h5 h6 HE
              go_enter Tryz.func72, Tryz.ntmps72
              go_upto_region 1 with fail
              rw [← hw0, ← hr]
              clear hw0 hr
              go_wp2_with fail
              refine (C1.out _).mono ?_
              rintro e9 w9 ⟨rfl, hw9⟩
              have hw8 := hw9.symm
              subst hw8
              clear hw9 C1
              go_wp2_with fail
              refine (C2.out _).mono ?_
              rintro e9 w9 ⟨rfl, hw9⟩
              have hw8 := hw9.symm
              subst hw8
              clear hw9 C2
              go_wp2_with fail
              refine (C3.out _).mono ?_
              rintro e9 w9 ⟨rfl, hw9⟩
              have hw8 := hw9.symm
              subst hw8
              clear hw9 C3
              go_wp2
              go_ret
              exact ⟨rfl, HK0.out⟩
            | true =>
              rw [HE.out]
              simp only [Bool.true_and]
              have e1 : 1 ≤ a ∧ a ≤ 1152921504606846976 := by
                have := h1.symm
                unfold cntB at this
                simpa using this
              have e2 : 1 ≤ b ∧ b ≤ 1152921504606846976 := by
                have := h2.symm
                unfold cntB at this
                simpa using this
              have e3 : 1 ≤ d ∧ d ≤ 1152921504606846976 := by
                have := h3.symm
                unfold cntB at this
                simpa using this
              have e5 : 0 ≤ c := of_decide_eq_true h5.symm
              have e6 : c < n := of_decide_eq_true h6.symm
              have HS : Hid (∀ u, Kp (fun _ => False) w0 u → Calls Tryz.prog 95 #[headV a b c d] u fun e w' => ∃ g, u.heap.size ≤ g ∧ e = .returned (.slice (some ⟨g, 0, none⟩) 64 64) ∧ Kp (fun _ => False) u w' ∧ Bk w' u.heap.size g 64 64 (hdB a.toNat b.toNat c.toNat d.toNat)) := fun u ku => by
                have := hsector_ok a.toNat b.toNat c.toNat d.toNat u (by omega) (by omega) (by omega) (by omega) (fun j hj => ku.cellv (HK0.out.cellv (HT.out j hj) id) id)
                rw [Int.toNat_of_nonneg (by omega), Int.toNat_of_nonneg (by omega), Int.toNat_of_nonneg e5, Int.toNat_of_nonneg (by omega)] at this
                exact this
              obtain ⟨ys, hys⟩ : ∃ ys, ys = hdB a.toNat b.toNat c.toNat d.toNat := ⟨_, rfl⟩
              rw [← hys] at HS ⊢
              clear e1 e2 e3 e5 e6 hys
              have g4 : (a.tmod 2 == s) = true := h4.symm
              have g5 : c ≥ 0 := of_decide_eq_true h5.symm
              have g6 : c < n := of_decide_eq_true h6.symm
              clear h1 h2 h3 h4 h5 h6 HE
              go_enter Tryz.func72, Tryz.ntmps72
              go_upto_region 1 with fail
              rw [← hw0, ← hr]
              clear hw0 hr
              go_wp2_with fail
              refine (C1.out _).mono ?_
              rintro e9 w9 ⟨rfl, hw9⟩
              have hw8 := hw9.symm
              subst hw8
              clear hw9 C1
              go_wp2_with fail
              refine (C2.out _).mono ?_
              rintro e9 w9 ⟨rfl, hw9⟩
              have hw8 := hw9.symm
              subst hw8
              clear hw9 C2
              go_wp2_with fail
              refine (C3.out _).mono ?_
              rintro e9 w9 ⟨rfl, hw9⟩
              have hw8 := hw9.symm
              subst hw8
              clear hw9 C3
              go_wp2_with fail
              refine (HS.out _ (Kp.refl _ _)).mono ?_
              rintro e9 w2 ⟨g2, _, rfl, k2, x2⟩
              have HK2 : Hid (Kp (fun _ => False) w w2) := HK0.out.trans k2 (fun _ _ e => e)
              have HQ : Hid (Calls _ _ _ w2 _) := equal_any cp 64 w2 (HR.out.keep0 HK2.out) x2.rb
              clear k2 x2 HS
              go_wp2_with fail
              refine HQ.out.mono ?_
              rintro e9 w9 ⟨rfl, hw9⟩
              have hw8 := hw9.symm
              subst hw8
              clear hw9 HQ
              obtain ⟨b7, h7⟩ : ∃ x, x = decide (xs = ys) := ⟨_, rfl⟩
              rw [← h7]
              have H7 : Hid (b7 = decide (xs = ys)) := h7
              clear h7
              go_wp2
              go_ret
              exact ⟨by show Ending.returned (.bool b7) = _; rw [H7.out], HK2.out⟩
end Go.Proofs.YtblaabjjcanifaaGreatDoor
