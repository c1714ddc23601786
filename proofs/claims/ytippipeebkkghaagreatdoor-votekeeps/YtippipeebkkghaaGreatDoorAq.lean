/- The head that counts: newest. -/
import Derived.Test.YtippipeebkkghaaGreatDoorAo
import Derived.Test.YtippipeebkkghaaGreatDoorAp2
namespace Go.Proofs.YtippipeebkkghaaGreatDoor
set_option linter.unusedVariables false
set_option linter.unusedSimpArgs false
open Go.RowKit Go.Deep

structure H4 where
  (a b c d : Int)
abbrev H4.cells (x : H4) : List Value := [.int .i64 x.a, .int .i64 x.b, .int .i64 x.c, .int .i64 x.d]
/-- what a sector says -/
def sayH (xs : List Nat) : H4 := ⟨numAt xs 1, numAt xs 9, numAt xs 17, numAt xs 25⟩
/-- whether it counts in sector i -/
def okH (xs : List Nat) (i : Nat) (s : Int) : Bool := rightH (sayH xs).a (sayH xs).b (sayH xs).c (sayH xs).d xs i s
def stepH (dur : List Nat) (T : Nat → Option (List Nat)) (s : Int) (A : H4) (i : Nat) : H4 := if (okH (nowOf dur T i) i s && decide (A.a < (sayH (nowOf dur T i)).a)) = true then sayH (nowOf dur T i) else A
def newH (dur : List Nat) (T : Nat → Option (List Nat)) (s : Int) : Nat → H4
  | 0 => ⟨0, 0, 0, 0⟩
  | i + 1 => stepH dur T s (newH dur T s i) i
def NewRes (A : H4) (e : Ending) : Prop := if A.a = 0 then e = .returned (.tuple #[headV 0 0 0 0, flt 0 70]) else e = .returned (.tuple #[headV A.a A.b A.c A.d, .nilIface])

theorem lv_set4 {w : World} {m : Nat} {x0 x1 x2 x3 : Value} (h : Lv w m [x0, x1, x2, x3]) (y0 y1 y2 y3 : Value) :
    Lv ((((w.setCell ⟨m, 0, none⟩ y0).setCell ⟨m, 1, none⟩ y1).setCell ⟨m, 2, none⟩ y2).setCell ⟨m, 3, none⟩ y3) m [y0, y1, y2, y3] ∧ Kp (fun b => b = m) w ((((w.setCell ⟨m, 0, none⟩ y0).setCell ⟨m, 1, none⟩ y1).setCell ⟨m, 2, none⟩ y2).setCell ⟨m, 3, none⟩ y3) := by
  have a1 : Lv (w.setCell ⟨m, 0, none⟩ y0) m [y0, x1, x2, x3] := h.set1 0 y0 (by simp)
  have a2 : Lv ((w.setCell ⟨m, 0, none⟩ y0).setCell ⟨m, 1, none⟩ y1) m [y0, y1, x2, x3] := a1.set1 1 y1 (by simp)
  have a3 : Lv (((w.setCell ⟨m, 0, none⟩ y0).setCell ⟨m, 1, none⟩ y1).setCell ⟨m, 2, none⟩ y2) m [y0, y1, y2, x3] := a2.set1 2 y2 (by simp)
  exact ⟨a3.set1 3 y3 (by simp), ((kp_set.trans kp_set (fun _ _ e => e)).trans kp_set (fun _ _ e => e)).trans kp_set (fun _ _ e => e)⟩

set_option maxRecDepth 100000 in
set_option maxHeartbeats 3200000 in
theorem newest_ok {w : World} {bp d m n q : Nat} {dur : List Nat} {T : Nat → Option (List Nat)} (h : Pt w bp d m n q dur T) (s : Int) (hs : s ≤ 1152921504606846976) (hn2 : 2 ≤ n) (ht : Turns w) :
    Calls Tryz.prog 92 #[ringV bp s] w fun e w' => NewRes (newH dur T s 2) e ∧ Kp (fun _ => False) w w' := by
  obtain ⟨Z, hZ0⟩ : ∃ Z, Z = newH dur T s 2 := ⟨_, rfl⟩
  have HZ : Hid (Z = newH dur T s 2) := hZ0
  rw [← hZ0]
  clear hZ0
  have HP : Hid (Pt w bp d m n q dur T) := h
  have HT : Hid (Turns w) := ht
  have HN : Hid (2 ≤ n ∧ s ≤ 1152921504606846976) := ⟨hn2, hs⟩
  obtain ⟨r, hr⟩ : ∃ r, r = w.heap.size := ⟨_, rfl⟩
  obtain ⟨r2, hr2⟩ : ∃ r2, r2 = w.heap.size + 1 := ⟨_, rfl⟩
  obtain ⟨r4, hr4⟩ : ∃ r4, r4 = w.heap.size + 1 + 1 := ⟨_, rfl⟩
  obtain ⟨w0, hw0⟩ : ∃ y, y = ((w.alloc (.cells #[.pointer (some ⟨bp, 0, none⟩), .int .i64 s] 132)).alloc (.cells #[.int .i64 0, .int .i64 0, .int .i64 0, .int .i64 0] 134)).alloc (.cells #[.int .i64 0, .int .i64 0, .int .i64 0, .int .i64 0] 134) := ⟨_, rfl⟩
  have z1 : (w.alloc (.cells #[.pointer (some ⟨bp, 0, none⟩), .int .i64 s] 132)).heap.size = w.heap.size + 1 := by simp
  have z2 : ((w.alloc (.cells #[.pointer (some ⟨bp, 0, none⟩), .int .i64 s] 132)).alloc (.cells #[.int .i64 0, .int .i64 0, .int .i64 0, .int .i64 0] 134)).heap.size = w.heap.size + 1 + 1 := by simp
  have HK0 : Hid (Kp (fun _ => False) w w0) := by rw [hw0]; exact (((Kp.refl _ _).alloc _).alloc _).alloc _
  have HL0 : Hid (Lv w0 r [.pointer (some ⟨bp, 0, none⟩), .int .i64 s]) := by rw [hw0, hr]; exact (Lv.new w _ _).keep (((Kp.refl (fun _ => False) _).alloc _).alloc _) id
  have HR0 : Hid (Lv w0 r2 (H4.cells ⟨0, 0, 0, 0⟩)) := by rw [hw0, hr2, ← z1]; exact (Lv.new _ _ _).keep ((Kp.refl (fun _ => False) _).alloc _) id
  have HV0 : Hid (Lv w0 r4 (H4.cells ⟨0, 0, 0, 0⟩)) := by rw [hw0, hr4, ← z2]; exact Lv.new _ _ _
  have HG : Hid (w.heap.size ≤ r ∧ r < r2 ∧ r2 < r4 ∧ r4 < w0.heap.size) := ⟨by omega, by omega, by omega, HV0.out.lt (by decide)⟩
  have hnn := nil_neq
  clear z1 z2 h hs hn2 ht
  go_enter Tryz.func92, Tryz.ntmps92
  go_wp2_with fail
  rw [← hw0, ← hr4, ← hr2, ← hr]
  clear hw0 hr hr2 hr4
  go_loopg [9] 2 (fun gk iv wr => ∃ (i : Nat) (A : H4), i ≤ 2 ∧ gk = 2 - i ∧ iv = .int .i64 i ∧ Hid (Kp (fun _ => False) w wr ∧ Kp (fun b => b = r4) w0 wr) ∧ Hid (Lv wr r4 A.cells ∧ A = newH dur T s i))
  case atStart => exact ⟨0, ⟨0, 0, 0, 0⟩, Nat.zero_le _, rfl, rfl, ⟨HK0.out, Kp.refl _ _⟩, ⟨HV0.out, rfl⟩⟩
  case round =>
    obtain ⟨i, A, hi, rfl, rfl, HK, HV⟩ := hrel
    have hlr : Lv wr r [.pointer (some ⟨bp, 0, none⟩), .int .i64 s] := HL0.out.keep HK.out.2 (fun e => by have := HG.out; omega)
    have q0 := hlr.cell (j := 0) rfl
    have q1 := hlr.cell (j := 1) rfl
    by_cases hlt : i < 2
    · have hlt2 : (i : Int) < 2 := by omega
      have HR : Hid (Calls _ _ _ wr _) := rread_ok (HP.out.keep0 HK.out.1) s i (by have := HN.out; omega)
      obtain ⟨X, hX⟩ : ∃ X, X = nowOf dur T i := ⟨_, rfl⟩
      rw [← hX] at HR
      obtain ⟨Y, hY⟩ : ∃ Y, Y = sayH X := ⟨_, rfl⟩
      have HST : Hid (newH dur T s (i + 1) = if (okH X i s && decide (A.a < Y.a)) = true then Y else A) := by
        show stepH dur T s (newH dur T s i) i = _
        unfold stepH
        rw [← HV.out.2, ← hX, hY]
      have HY : Hid (Y = sayH X) := hY
      clear hX hY hlr
      go_wp2_with fail
      refine HR.out.mono ?_
      rintro e9 w1 ⟨g, c, hg, hc, rfl, k1, rb1⟩
      have HK1 : Hid (Kp (fun _ => False) w w1 ∧ Kp (fun b => b = r4) w0 w1) := ⟨HK.out.1.trans k1 (fun _ _ e => e), HK.out.2.trans k1 (fun _ _ e => e.elim)⟩
      have HB1 : Hid (Rb w1 (some ⟨g, 0, none⟩) 64 X ∧ 64 ≤ c) := ⟨rb1, hc⟩
      have HV1 : Hid (Lv w1 r4 A.cells) := HV.out.1.keep k1 id
      clear k1 rb1 hg hc HR q0 q1
      go_wp2_with fail
      have HH : Hid (Calls _ _ _ w1 _) := headOf_ok g 0 c X w1 HB1.out.2 HB1.out.1
      refine HH.out.mono ?_
      rintro e9 w2 ⟨rfl, k2⟩
      have HYe : Hid (Y = ⟨numAt X 1, numAt X 9, numAt X 17, numAt X 25⟩) := HY.out
      obtain ⟨ya, yb, yc, yd⟩ := Y
      have hYe := HYe.out
      injection hYe with e1 e2 e3 e4
      rw [← e1, ← e2, ← e3, ← e4]
      have HOk : Hid (∀ u, Kp (fun _ => False) w1 u → Calls Tryz.prog 142 #[headV ya yb yc yd, .slice (some ⟨g, 0, none⟩) 64 c, .int .i64 (i : Int), .int .i64 s] u fun e w' => e = .returned (.bool (okH X i s)) ∧ Kp (fun _ => False) u w') := fun u k => by
        have := hright_ok ya yb yc yd g 0 c X (i : Int) s u (HB1.out.1.keep0 k) (fun j hj => k.cellv (HK1.out.1.cellv (HT.out j hj) id) id) HN.out.2
        unfold okH
        rw [← HY.out]
        exact this
      obtain ⟨t8, ht8⟩ : ∃ t8, t8 = w2.heap.size := ⟨_, rfl⟩
      obtain ⟨w3, hw3⟩ : ∃ y, y = w2.alloc (.cells #[.int .i64 ya, .int .i64 yb, .int .i64 yc, .int .i64 yd] 134) := ⟨_, rfl⟩
      have k23 : Kp (fun _ => False) w2 w3 := by rw [hw3]; exact (Kp.refl _ _).alloc _
      have HL8 : Hid (Lv w3 t8 (H4.cells ⟨ya, yb, yc, yd⟩)) := by rw [hw3, ht8]; exact Lv.new _ _ _
      have HK13 : Hid (Kp (fun _ => False) w1 w3) := k2.trans k23 (fun _ _ e => e)
      have HV3 : Hid (Lv w3 r4 A.cells) := HV1.out.keep HK13.out id
      have hlr : Lv w3 r [.pointer (some ⟨bp, 0, none⟩), .int .i64 s] := (HL0.out.keep HK1.out.2 (fun e => by have := HG.out; omega)).keep HK13.out id
      have q1 := hlr.cell (j := 1) rfl
      have p0 := HL8.out.cell (j := 0) rfl
      have p1 := HL8.out.cell (j := 1) rfl
      have p2 := HL8.out.cell (j := 2) rfl
      have p3 := HL8.out.cell (j := 3) rfl
      have HC : Hid (Calls _ _ _ w3 _) := HOk.out w3 HK13.out
      clear e1 e2 e3 e4 HYe k2 k23 hlr HOk HH HB1 HV1
      go_upto_region 9 with fail
      rw [← hw3, ← ht8]
      clear hw3 ht8
      go_wp2_with fail
      refine HC.out.mono ?_
      rintro e9 w4 ⟨rfl, k4⟩
      have HK4 : Hid (Kp (fun _ => False) w w4 ∧ Kp (fun b => b = r4) w0 w4) := ⟨(HK1.out.1.trans HK13.out (fun _ _ e => e)).trans k4 (fun _ _ e => e), (HK1.out.2.trans HK13.out (fun _ _ e => e.elim)).trans k4 (fun _ _ e => e.elim)⟩
      have HV4 : Hid (Lv w4 r4 A.cells) := HV3.out.keep k4 id
      have HL4 : Hid (Lv w4 t8 (H4.cells ⟨ya, yb, yc, yd⟩)) := HL8.out.keep k4 id
      clear k4 HC HV3 HL8 q1 p0 p1 p2 p3
      obtain ⟨B, hB⟩ : ∃ B, B = okH X i s := ⟨_, rfl⟩
      have HB : Hid (B = okH X i s) := hB
      rw [← hB]
      clear hB
      obtain ⟨aa, ab, ac, ad⟩ := A
      have p0 := HL4.out.cell (j := 0) rfl
      have v0 := HV4.out.cell (j := 0) rfl
      cases B with
      | false =>
        have HD : Hid ((okH X i s && decide (aa < ya)) = false) := by show _ = _; rw [← HB.out]; rfl
        go_wp2
        go_roundg (2 - (i + 1))
        case rel => exact ⟨i + 1, ⟨aa, ab, ac, ad⟩, by omega, rfl, by simp, HK4.out, ⟨HV4.out, by rw [HST.out, HD.out]; rfl⟩⟩
        case measure => omega
      | true =>
        by_cases hgt : aa < ya
        · have hg2 : ya > aa := hgt
          have HD : Hid ((okH X i s && decide (aa < ya)) = true) := by show _ = _; rw [← HB.out, decide_eq_true hgt]; rfl
          have p1 := HL4.out.cell (j := 1) rfl
          have p2 := HL4.out.cell (j := 2) rfl
          have p3 := HL4.out.cell (j := 3) rfl
          have v1 := HV4.out.cell (j := 1) rfl
          have v2 := HV4.out.cell (j := 2) rfl
          have v3 := HV4.out.cell (j := 3) rfl
          have f0 := HV4.out.fz (j := 0) (show 0 < 4 by decide)
          have f1 := HV4.out.fz (j := 1) (show 1 < 4 by decide)
          have f2 := HV4.out.fz (j := 2) (show 2 < 4 by decide)
          have f3 := HV4.out.fz (j := 3) (show 3 < 4 by decide)
          have HS : Hid (_ ∧ _) := lv_set4 HV4.out (.int .i64 ya) (.int .i64 yb) (.int .i64 yc) (.int .i64 yd)
          clear hgt
          go_wp2
          go_roundg (2 - (i + 1))
          case rel => exact ⟨i + 1, ⟨ya, yb, yc, yd⟩, by omega, rfl, by simp, ⟨HK4.out.1.trans HS.out.2 (fun b hb e => by have := HG.out; omega), HK4.out.2.trans HS.out.2 (fun _ _ e => e)⟩, ⟨HS.out.1, by rw [HST.out, HD.out]; rfl⟩⟩
          case measure => omega
        · have hg2 : ¬ ya > aa := hgt
          have HD : Hid ((okH X i s && decide (aa < ya)) = false) := by show _ = _; rw [decide_eq_false hgt, Bool.and_false]
          clear hgt
          go_wp2
          go_roundg (2 - (i + 1))
          case rel => exact ⟨i + 1, ⟨aa, ab, ac, ad⟩, by omega, rfl, by simp, HK4.out, ⟨HV4.out, by rw [HST.out, HD.out]; rfl⟩⟩
          case measure => omega
    · have hi2 : i = 2 := by omega
      subst hi2
      obtain ⟨aa, ab, ac, ad⟩ := A
      have hZ : Z = ⟨aa, ab, ac, ad⟩ := HZ.out.trans HV.out.2.symm
      subst hZ
      have v0 := HV.out.1.cell (j := 0) rfl
      have v1 := HV.out.1.cell (j := 1) rfl
      have v2 := HV.out.1.cell (j := 2) rfl
      have v3 := HV.out.1.cell (j := 3) rfl
      have HR2 : Hid (Lv wr r2 (H4.cells ⟨0, 0, 0, 0⟩)) := HR0.out.keep HK.out.2 (fun e => by have := HG.out; omega)
      have u0 := HR2.out.cell (j := 0) rfl
      have u1 := HR2.out.cell (j := 1) rfl
      have u2 := HR2.out.cell (j := 2) rfl
      have u3 := HR2.out.cell (j := 3) rfl
      have f0 := HR2.out.fz (j := 0) (show 0 < 4 by decide)
      have f1 := HR2.out.fz (j := 1) (show 1 < 4 by decide)
      have f2 := HR2.out.fz (j := 2) (show 2 < 4 by decide)
      have f3 := HR2.out.fz (j := 3) (show 3 < 4 by decide)
      clear hlr q0 q1
      by_cases h0 : aa = 0
      · have h0b : (aa == 0) = true := by rw [beq_iff_eq]; exact h0
        have HN9 : Hid (∀ e, e = .returned (.tuple #[headV 0 0 0 0, flt 0 70]) → NewRes ⟨aa, ab, ac, ad⟩ e) := fun e he => by unfold NewRes; rw [if_pos h0]; exact he
        have HFl : Hid (∀ u, Calls Tryz.prog 94 #[.int .i64 0, .int .i64 70] u fun e w' => e = .returned (flt 0 70) ∧ w' = u) := fun u => fault_flt 0 70 (by decide) u
        have HS : Hid (∀ u, Kp (fun _ => False) wr u → u = wr → _ ∧ _) := fun u _ hu => by subst hu; exact lv_set4 HR2.out (.int .i64 0) (.int .i64 0) (.int .i64 0) (.int .i64 0)
        clear h0
        go_wp2_with fail
        refine (HFl.out _).mono ?_
        rintro e9 w9 ⟨rfl, hw9⟩
        have hw8 := hw9.symm
        subst hw8
        clear hw9 HFl
        obtain ⟨w5, hw5⟩ : ∃ y, y = (((wr.setCell ⟨r2, 0, none⟩ (.int .i64 0)).setCell ⟨r2, 1, none⟩ (.int .i64 0)).setCell ⟨r2, 2, none⟩ (.int .i64 0)).setCell ⟨r2, 3, none⟩ (.int .i64 0) := ⟨_, rfl⟩
        have hs5 := HS.out wr (Kp.refl _ _) rfl
        rw [← hw5] at hs5
        have HLd : Hid ((loadVar 134 ⟨r2, 0, none⟩).run Tryz.prog w5 = .ok (headV 0 0 0 0) w5) := hs5.1.load dsHead szHead rfl
        have HF : Hid (Kp (fun _ => False) w w5) := HK.out.1.trans hs5.2 (fun b hb e => by have := HG.out; omega)
        clear hs5 HS
        go_wp2
        rw [← hw5]
        refine bodyPost_ret (res_cell_tmp Tryz.results92 _ _ r2 _ rfl HLd.out) rfl ?_
        exact ⟨HN9.out _ rfl, HF.out⟩
      · have h0b : (aa == 0) = false := by rw [beq_eq_false_iff_ne]; exact h0
        have HN9 : Hid (∀ e, e = .returned (.tuple #[headV aa ab ac ad, .nilIface]) → NewRes ⟨aa, ab, ac, ad⟩ e) := fun e he => by unfold NewRes; rw [if_neg h0]; exact he
        have HS : Hid (_ ∧ _) := lv_set4 HR2.out (.int .i64 aa) (.int .i64 ab) (.int .i64 ac) (.int .i64 ad)
        obtain ⟨w5, hw5⟩ : ∃ y, y = (((wr.setCell ⟨r2, 0, none⟩ (.int .i64 aa)).setCell ⟨r2, 1, none⟩ (.int .i64 ab)).setCell ⟨r2, 2, none⟩ (.int .i64 ac)).setCell ⟨r2, 3, none⟩ (.int .i64 ad) := ⟨_, rfl⟩
        have hs5 := HS.out
        rw [← hw5] at hs5
        have HLd : Hid ((loadVar 134 ⟨r2, 0, none⟩).run Tryz.prog w5 = .ok (headV aa ab ac ad) w5) := hs5.1.load dsHead szHead rfl
        have HF : Hid (Kp (fun _ => False) w w5) := HK.out.1.trans hs5.2 (fun b hb e => by have := HG.out; omega)
        clear h0 hs5
        go_wp2
        rw [← hw5]
        refine bodyPost_ret (res_cell_tmp Tryz.results92 _ _ r2 _ rfl HLd.out) rfl ?_
        exact ⟨HN9.out _ rfl, HF.out⟩
end Go.Proofs.YtippipeebkkghaaGreatDoor
