/- What a record's sector says: pieceOf; whether it is right. -/
import Derived.Test.YtippipeebkkghaaGreatDoorAl
import Derived.Lib.MinMax
namespace Go.Proofs.YtippipeebkkghaaGreatDoor
set_option linter.unusedVariables false
set_option linter.unusedSimpArgs false
open Go.RowKit Go.Deep

/-- how many bytes a record's sector says to have -/
def cntP (xs : List Nat) : Nat := min (xs.getD 9 0) 40
/-- its bytes -/
def bytP (xs : List Nat) : List Nat := (xs.drop 12).take (cntP xs)
def fstP (xs : List Nat) : Bool := decide (xs.getD 10 0 = 1)
def lstP (xs : List Nat) : Bool := decide (xs.getD 11 0 = 1)
theorem szPiece : (Tryz.prog.info? 272).map (·.size) = some 4 := by kernel_rfl
theorem dsPiece : ∃ d, Tryz.prog.underlying 272 = some d ∧ d.isRow = true := ⟨_, Tryz.underlying272, rfl⟩

theorem min_40 (y : Nat) : min (y : Int) 40 = ((min y 40 : Nat) : Int) := by omega
theorem wrap_b9 {y : Nat} (h : y < 256) : IntKind.i64.wrap (y : Int) = (y : Int) := by rw [IntKind.wrap_i64]; omega
theorem wrap_n12i {n : Nat} (h : n ≤ 40) : IntKind.i64.wrap (12 + (n : Int)) = ((12 + n : Nat) : Int) := by rw [IntKind.wrap_i64]; omega
theorem wrap_n12 {n : Nat} (h : n ≤ 40) : wrap64 (12 + (n : Int)) = ((12 + n : Nat) : Int) := by unfold wrap64; omega
set_option maxRecDepth 100000 in
set_option maxHeartbeats 1600000 in
theorem pieceOf_ok (g q c : Nat) (xs : List Nat) (w : World) (hc : 64 ≤ c) (h : Rb w (some ⟨g, q, none⟩) 64 xs) :
    Calls Tryz.prog 214 #[.slice (some ⟨g, q, none⟩) 64 c] w fun e w' => e = .returned (pcV (numAt xs 1) (.slice (some ⟨g, q + 12, none⟩) (cntP xs) (c - 12)) (fstP xs) (lstP xs)) ∧ Kp (fun _ => False) w w' := by
  obtain ⟨z, hz⟩ : ∃ z, z = numAt xs 1 := ⟨_, rfl⟩
  obtain ⟨n, hn⟩ : ∃ n, n = cntP xs := ⟨_, rfl⟩
  obtain ⟨m, hm⟩ : ∃ m, m = w.heap.size := ⟨_, rfl⟩
  obtain ⟨w0, hw0⟩ : ∃ y, y = w.alloc (.cells #[.int .i64 0, .slice none 0 0, .bool false, .bool false] 272) := ⟨_, rfl⟩
  have k0 : Kp (fun _ => False) w w0 := by rw [hw0]; exact (Kp.refl _ _).alloc _
  have HM0 : Hid (Lv w0 m [.int .i64 0, .slice none 0 0, .bool false, .bool false]) := by rw [hw0, hm]; exact Lv.new w _ _
  have r0 : Rb w0 (some ⟨g, q, none⟩) 64 xs := h.keep0 k0
  have hcell : ∀ j, j < 64 → w0.cell? ⟨g, q + j, none⟩ = some (.int .u8 ((xs.getD j 0 : Nat) : Int)) := by
    obtain ⟨b, o, e, hcl⟩ := r0.pt (by omega)
    cases e
    exact hcl
  have hlt : ∀ j, xs.getD j 0 < 256 := r0.byteAt
  obtain ⟨y9, hy9⟩ : ∃ y, y = xs.getD 9 0 := ⟨_, rfl⟩
  obtain ⟨y10, hy10⟩ : ∃ y, y = xs.getD 10 0 := ⟨_, rfl⟩
  obtain ⟨y11, hy11⟩ : ∃ y, y = xs.getD 11 0 := ⟨_, rfl⟩
  have c9 := hcell 9 (by omega)
  have c10 := hcell 10 (by omega)
  have c11 := hcell 11 (by omega)
  rw [← hy9] at c9
  rw [← hy10] at c10
  rw [← hy11] at c11
  have hmin : min (y9 : Int) 40 = (n : Int) := by rw [hn]; unfold cntP; rw [← hy9]; exact min_40 y9
  have hy9l : y9 < 256 := by rw [hy9]; exact hlt 9
  have hn40 : n ≤ 40 := by rw [hn]; unfold cntP; exact Nat.min_le_right _ _
  obtain ⟨N, hN⟩ : ∃ N, N = 12 + n := ⟨_, rfl⟩
  have s1 : ∀ w, (Instr.slice 75 (.slice (some ⟨g, q, none⟩) 64 c) (some (.int .i64 1)) (some (.int .i64 9)) none).run Tryz.prog w = .ok (.slice (some ⟨g, q + 1, none⟩) 8 (c - 1)) w := fun w => sliceLH g q 64 c 1 9 (by omega) (by omega) (by omega) w
  have s2 : ∀ w, (Instr.slice 75 (.slice (some ⟨g, q, none⟩) 64 c) (some (.int .i64 12)) (some (.int .i64 (N : Int))) none).run Tryz.prog w = .ok (.slice (some ⟨g, q + 12, none⟩) n (c - 12)) w := fun w => by
    have := sliceLH g q 64 c 12 N (by omega) (by omega) (by omega) w
    rw [show N - 12 = n by omega] at this
    exact this
  have HN : Hid (∀ u, Kp (fun _ => False) w0 u → Calls Tryz.prog 179 #[.slice (some ⟨g, q + 1, none⟩) 8 (c - 1)] u fun e w' => e = .returned (.int .i64 z) ∧ w' = u) := fun u k => by
    rw [hz]
    exact numberOf_ok ((r0.keep0 k).mid (l := 1) (m := 8) (by omega)) (c - 1) (by omega)
  obtain ⟨b10, hb10⟩ : ∃ b, b = fstP xs := ⟨_, rfl⟩
  obtain ⟨b11, hb11⟩ : ∃ b, b = lstP xs := ⟨_, rfl⟩
  have e10 : ((y10 : Int) == 1) = b10 := by
    rw [hb10]; unfold fstP; rw [← hy10]
    by_cases e : y10 = 1
    · subst e; rfl
    · rw [decide_eq_false e]; rw [beq_eq_false_iff_ne]; omega
  have e11 : ((y11 : Int) == 1) = b11 := by
    rw [hb11]; unfold lstP; rw [← hy11]
    by_cases e : y11 = 1
    · subst e; rfl
    · rw [decide_eq_false e]; rw [beq_eq_false_iff_ne]; omega
  have HK0 : Hid (Kp (fun _ => False) w w0 ∧ w.heap.size ≤ m) := ⟨k0, by omega⟩
  have hw9 := wrap_b9 hy9l
  have hwn : wrap64 (12 + (n : Int)) = (N : Int) := by rw [hN]; exact wrap_n12 hn40
  have hwn2 : IntKind.i64.wrap (12 + (n : Int)) = (N : Int) := by rw [hN]; exact wrap_n12i hn40
  rw [← hz, ← hn, ← hb10, ← hb11]
  clear hz hn hb10 hb11 hy9 hy10 hy11 hcell hlt r0 h k0 hn40 hy9l hN
  go_enter Tryz.func214, Tryz.ntmps214
  go_upto_region 1 with fail
  rw [← hw0, ← hm]
  clear hw0 hm
  go_upto_region 2 with fail
  refine wp_region_still_tail 16 (by kernel_rfl) (by kernel_rfl) ?_
  obtain ⟨w2, hw2⟩ : ∃ x, x = { w0 with drawn := w0.drawn + 1 } := ⟨_, rfl⟩
  have kd : Kp (fun _ => False) w0 w2 := by rw [hw2]; exact (Kp.refl _ _).drew
  have HN2 : Hid (Calls _ _ _ w2 _) := HN.out w2 kd
  have d10 := kd.cellv c10 id
  have d11 := kd.cellv c11 id
  have hlm : Lv w2 m [.int .i64 0, .slice none 0 0, .bool false, .bool false] := HM0.out.keep kd id
  have HM2 : Hid (Lv w2 m [.int .i64 0, .slice none 0 0, .bool false, .bool false]) := hlm
  have HK2 : Hid (Kp (fun _ => False) w w2) := HK0.out.1.trans kd (fun _ _ e => e)
  rw [← hw2]
  clear hw2 c10 c11 c9 kd hlm HM0 HN
  simp only [List.take_succ_cons, List.take_zero, List.drop_succ_cons, List.drop_zero]
  iterate 2 still_step
  still_call (HN2.out)
  iterate 13 still_step
  refine wpStill_nil ?_
  have c0 := HM2.out.cell (j := 0) rfl
  have c1 := HM2.out.cell (j := 1) rfl
  have c2 := HM2.out.cell (j := 2) rfl
  have c3 := HM2.out.cell (j := 3) rfl
  have f0 := HM2.out.fz (j := 0) (by decide)
  have f1 := HM2.out.fz (j := 1) (by decide)
  have f2 := HM2.out.fz (j := 2) (by decide)
  have f3 := HM2.out.fz (j := 3) (by decide)
  obtain ⟨sv, hsv⟩ : ∃ sv : Value, sv = .slice (some ⟨g, q + 12, none⟩) n (c - 12) := ⟨_, rfl⟩
  obtain ⟨w5, hw5⟩ : ∃ y, y = (((w2.setCell ⟨m, 0, none⟩ (.int .i64 z)).setCell ⟨m, 1, none⟩ sv).setCell ⟨m, 2, none⟩ (.bool b10)).setCell ⟨m, 3, none⟩ (.bool b11) := ⟨_, rfl⟩
  have hl5 : Lv w5 m [.int .i64 z, sv, .bool b10, .bool b11] := by
    rw [hw5]
    have a1 : Lv (w2.setCell ⟨m, 0, none⟩ (.int .i64 z)) m [.int .i64 z, .slice none 0 0, .bool false, .bool false] := HM2.out.set1 0 (.int .i64 z) (by decide)
    have a2 : Lv ((w2.setCell ⟨m, 0, none⟩ (.int .i64 z)).setCell ⟨m, 1, none⟩ sv) m [.int .i64 z, sv, .bool false, .bool false] := a1.set1 1 sv (by simp)
    have a3 : Lv (((w2.setCell ⟨m, 0, none⟩ (.int .i64 z)).setCell ⟨m, 1, none⟩ sv).setCell ⟨m, 2, none⟩ (.bool b10)) m [.int .i64 z, sv, .bool b10, .bool false] := a2.set1 2 (.bool b10) (by simp)
    exact a3.set1 3 (.bool b11) (by simp)
  have k5 : Kp (fun b => b = m) w2 w5 := by rw [hw5]; exact ((kp_set.trans kp_set (fun _ _ e => e)).trans kp_set (fun _ _ e => e)).trans kp_set (fun _ _ e => e)
  have HF : Hid (Kp (fun _ => False) w w5) := HK2.out.trans (S := fun _ => False) k5 (fun b hb e => by have := HK0.out.2; omega)
  have HLd : Hid ((loadVar 272 ⟨m, 0, none⟩).run Tryz.prog w5 = .ok (pcV z sv b10 b11) w5) := hl5.load dsPiece szPiece rfl
  rw [hsv] at hw5 HLd
  clear hl5 k5 hsv
  go_wp2
  rw [← hw5]
  refine bodyPost_ret (res_cell Tryz.results214 _ _ m _ rfl HLd.out) rfl ?_
  exact ⟨rfl, HF.out⟩

/-- whether the bytes xs are the piece's sector, and a record may have it -/
def rightP (z : Int) (ys : List Nat) (f l : Bool) (xs : List Nat) : Bool := decide (1 ≤ ys.length) && ((l || decide (ys.length = 40)) && decide (xs = pcB (u64Of z) ys f l))

set_option maxRecDepth 100000 in
set_option maxHeartbeats 1600000 in
theorem pright_ok (z : Int) (p : Option Addr) (n c : Nat) (ys : List Nat) (f l : Bool) (q : Option Addr) (cq : Nat) (xs : List Nat) (w : World) (h : Rb w p n ys) (hn : (n : Int) ≤ 40) (hx : Rb w q 64 xs) (ht : Turns w) :
    Calls Tryz.prog 215 #[pcV z (.slice p n c) f l, .slice q 64 cq] w fun e w' => e = .returned (.bool (rightP z ys f l xs)) ∧ Kp (fun _ => False) w w' := by
  obtain ⟨r, hr⟩ : ∃ r, r = w.heap.size := ⟨_, rfl⟩
  obtain ⟨w0, hw0⟩ : ∃ y, y = w.alloc (.cells #[.int .i64 z, .slice p n c, .bool f, .bool l] 272) := ⟨_, rfl⟩
  have HL0 : Hid (Lv w0 r [.int .i64 z, .slice p n c, .bool f, .bool l]) := by rw [hw0, hr]; exact Lv.new w _ _
  have HK0 : Hid (Kp (fun _ => False) w w0) := by rw [hw0]; exact (Kp.refl _ _).alloc _
  have q0 := HL0.out.cell (j := 0) rfl
  have q1 := HL0.out.cell (j := 1) rfl
  have q2 := HL0.out.cell (j := 2) rfl
  have q3 := HL0.out.cell (j := 3) rfl
  have hlen : ys.length = n := h.len
  have HS : Hid (0 < n → Calls Tryz.prog 169 #[pcV z (.slice p n c) f l] w0 fun e w' => ∃ g, w0.heap.size ≤ g ∧ e = .returned (.slice (some ⟨g, 0, none⟩) 64 64) ∧ Kp (fun _ => False) w0 w' ∧ Bk w' w0.heap.size g 64 64 (pcB (u64Of z) ys f l)) := fun h0 => psector_ok z p n c ys f l w0 (h.keep0 HK0.out) h0 hn (fun j hj => HK0.out.cellv (ht j hj) id)
  have HX : Hid (Rb w q 64 xs) := hx
  obtain ⟨b1, hb1⟩ : ∃ b, b = decide (1 ≤ n) := ⟨_, rfl⟩
  obtain ⟨b2, hb2⟩ : ∃ b, b = decide (n = 40) := ⟨_, rfl⟩
  obtain ⟨P, hP⟩ : ∃ P, P = pcB (u64Of z) ys f l := ⟨_, rfl⟩
  have HE : Hid (rightP z ys f l xs = (b1 && ((l || b2) && decide (xs = P)))) := by show _ = _; rw [hb1, hb2, hP]; unfold rightP; rw [hlen]
  rw [HE.out]
  rw [← hP] at HS
  clear h hx ht hP hlen hn HE
  cases b1 with
  | false =>
    have h1 : ¬ (n : Int) ≥ 1 := by have := of_decide_eq_false hb1.symm; omega
    simp only [Bool.false_and]
    clear hb1 hb2 HS HX
    go_enter Tryz.func215, Tryz.ntmps215
    go_upto_region 1 with fail
    rw [← hw0, ← hr]
    clear hw0 hr
    go_wp2
    go_ret
    exact ⟨rfl, HK0.out⟩
  | true =>
    have h1' : 1 ≤ n := of_decide_eq_true hb1.symm
    have h1 : (n : Int) ≥ 1 := by omega
    have HS2 := HS.out (by omega)
    have HS3 : Hid (Calls _ _ _ w0 _) := HS2
    simp only [Bool.true_and]
    clear hb1 HS HS2 h1'
    have h2 : ((n : Int) == 40) = b2 := by
      rw [hb2]
      by_cases e : n = 40
      · subst e; rfl
      · rw [decide_eq_false e, beq_eq_false_iff_ne]; omega
    clear hb2
    cases l with
    | false =>
      cases b2 with
      | false =>
        simp only [Bool.false_or, Bool.false_and]
        clear HS3 HX
        go_enter Tryz.func215, Tryz.ntmps215
        go_upto_region 1 with fail
        rw [← hw0, ← hr]
        clear hw0 hr
        go_wp2
        go_ret
        exact ⟨rfl, HK0.out⟩
      | true =>
        simp only [Bool.false_or, Bool.true_and]
        go_enter Tryz.func215, Tryz.ntmps215
        go_upto_region 1 with fail
        rw [← hw0, ← hr]
        clear hw0 hr
        go_wp2_with fail
        refine HS3.out.mono ?_
        rintro e9 w2 ⟨g2, _, rfl, k2, x2⟩
        have HK2 : Hid (Kp (fun _ => False) w w2) := HK0.out.trans k2 (fun _ _ e => e)
        have HQ : Hid (Calls _ _ _ w2 _) := equal_any cq 64 w2 (HX.out.keep0 HK2.out) x2.rb
        clear k2 x2 HS3
        go_wp2_with fail
        refine HQ.out.mono ?_
        rintro e9 w9 ⟨rfl, hw9⟩
        have hw8 := hw9.symm
        subst hw8
        clear hw9 HQ
        obtain ⟨b7, h7⟩ : ∃ x, x = decide (xs = P) := ⟨_, rfl⟩
        rw [← h7]
        have H7 : Hid (b7 = decide (xs = P)) := h7
        clear h7
        go_wp2
        go_ret
        exact ⟨by show Ending.returned (.bool b7) = _; rw [H7.out], HK2.out⟩
    | true =>
      simp only [Bool.true_or, Bool.true_and]
      go_enter Tryz.func215, Tryz.ntmps215
      go_upto_region 1 with fail
      rw [← hw0, ← hr]
      clear hw0 hr
      go_wp2_with fail
      refine HS3.out.mono ?_
      rintro e9 w2 ⟨g2, _, rfl, k2, x2⟩
      have HK2 : Hid (Kp (fun _ => False) w w2) := HK0.out.trans k2 (fun _ _ e => e)
      have HQ : Hid (Calls _ _ _ w2 _) := equal_any cq 64 w2 (HX.out.keep0 HK2.out) x2.rb
      clear k2 x2 HS3
      go_wp2_with fail
      refine HQ.out.mono ?_
      rintro e9 w9 ⟨rfl, hw9⟩
      have hw8 := hw9.symm
      subst hw8
      clear hw9 HQ
      obtain ⟨b7, h7⟩ : ∃ x, x = decide (xs = P) := ⟨_, rfl⟩
      rw [← h7]
      have H7 : Hid (b7 = decide (xs = P)) := h7
      clear h7
      go_wp2
      go_ret
      exact ⟨by show Ending.returned (.bool b7) = _; rw [H7.out], HK2.out⟩
end Go.Proofs.YtippipeebkkghaaGreatDoor
