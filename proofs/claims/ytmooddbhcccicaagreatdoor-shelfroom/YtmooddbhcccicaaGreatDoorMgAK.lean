/- Texts of this proof, joined: Aq, Ar, As. -/
import Derived.Test.YtmooddbhcccicaaGreatDoorMgAI
import Derived.Test.YtmooddbhcccicaaGreatDoorMgAJ
/- The head that counts: newest. -/
namespace Go.Proofs.YtmooddbhcccicaaGreatDoor
set_option linter.unusedVariables false
set_option linter.unusedSimpArgs false
open Go.RowKit Go.Deep

structure H4 where
  (a b c d : Int)
abbrev H4.cells (x : H4) : List Value := [.int .i64 x.a, .int .i64 x.b, .int .i64 x.c, .int .i64 x.d]
/-- what a sector says -/
def sayH (xs : List Nat) : H4 := ⟨numAt xs 1, numAt xs 9, numAt xs 17, numAt xs 25⟩
/-- whether it counts in sector i -/
def okH (xs : List Nat) (i : Nat) (s : Int) : Bool := rightH (sayH xs).a (sayH xs).b (sayH xs).c (sayH xs).d xs i s
def stepH (dur : List Nat) (T : Nat → Option (List Nat)) (s : Int) (A : H4) (i : Nat) : H4 := if (okH (nowOf dur T i) i s && decide (A.a < (sayH (nowOf dur T i)).a)) = true then sayH (nowOf dur T i) else A
def newH (dur : List Nat) (T : Nat → Option (List Nat)) (s : Int) : Nat → H4
  | 0 => ⟨0, 0, 0, 0⟩
  | i + 1 => stepH dur T s (newH dur T s i) i
def NewRes (A : H4) (e : Ending) : Prop := if A.a = 0 then e = .returned (.tuple #[headV 0 0 0 0, flt 0 70]) else e = .returned (.tuple #[headV A.a A.b A.c A.d, .nilIface])

theorem lv_set4 {w : World} {m : Nat} {x0 x1 x2 x3 : Value} (h : Lv w m [x0, x1, x2, x3]) (y0 y1 y2 y3 : Value) :
    Lv ((((w.setCell ⟨m, 0, none⟩ y0).setCell ⟨m, 1, none⟩ y1).setCell ⟨m, 2, none⟩ y2).setCell ⟨m, 3, none⟩ y3) m [y0, y1, y2, y3] ∧ Kp (fun b => b = m) w ((((w.setCell ⟨m, 0, none⟩ y0).setCell ⟨m, 1, none⟩ y1).setCell ⟨m, 2, none⟩ y2).setCell ⟨m, 3, none⟩ y3) := by
  have a1 : Lv (w.setCell ⟨m, 0, none⟩ y0) m [y0, x1, x2, x3] := h.set1 0 y0 (by simp)
  have a2 : Lv ((w.setCell ⟨m, 0, none⟩ y0).setCell ⟨m, 1, none⟩ y1) m [y0, y1, x2, x3] := a1.set1 1 y1 (by simp)
  have a3 : Lv (((w.setCell ⟨m, 0, none⟩ y0).setCell ⟨m, 1, none⟩ y1).setCell ⟨m, 2, none⟩ y2) m [y0, y1, y2, x3] := a2.set1 2 y2 (by simp)
  exact ⟨a3.set1 3 y3 (by simp), ((kp_set.trans kp_set (fun _ _ e => e)).trans kp_set (fun _ _ e => e)).trans kp_set (fun _ _ e => e)⟩

set_option maxRecDepth 100000 in
set_option maxHeartbeats 3200000 in
theorem newest_ok {w : World} {bp d m n q : Nat} {dur : List Nat} {T : Nat → Option (List Nat)} (h : Pt w bp d m n q dur T) (s : Int) (hs : s ≤ 1152921504606846976) (hn2 : 2 ≤ n) (ht : Turns w) :
    Calls Tryz.prog 140 #[ringV bp s] w fun e w' => NewRes (newH dur T s 2) e ∧ Kp (fun _ => False) w w' := by
  obtain ⟨Z, hZ0⟩ : ∃ Z, Z = newH dur T s 2 := ⟨_, rfl⟩
  have HZ : Hid (Z = newH dur T s 2) := hZ0
  rw [← hZ0]
  clear hZ0
  have HP : Hid (Pt w bp d m n q dur T) := h
  have HT : Hid (Turns w) := ht
  have HN : Hid (2 ≤ n ∧ s ≤ 1152921504606846976) := ⟨hn2, hs⟩
  obtain ⟨r, hr⟩ : ∃ r, r = w.heap.size := ⟨_, rfl⟩
  obtain ⟨r2, hr2⟩ : ∃ r2, r2 = w.heap.size + 1 := ⟨_, rfl⟩
  obtain ⟨r4, hr4⟩ : ∃ r4, r4 = w.heap.size + 1 + 1 := ⟨_, rfl⟩
  obtain ⟨w0, hw0⟩ : ∃ y, y = ((w.alloc (.cells #[.pointer (some ⟨bp, 0, none⟩), .int .i64 s] 153)).alloc (.cells #[.int .i64 0, .int .i64 0, .int .i64 0, .int .i64 0] 155)).alloc (.cells #[.int .i64 0, .int .i64 0, .int .i64 0, .int .i64 0] 155) := ⟨_, rfl⟩
  have z1 : (w.alloc (.cells #[.pointer (some ⟨bp, 0, none⟩), .int .i64 s] 153)).heap.size = w.heap.size + 1 := by simp
  have z2 : ((w.alloc (.cells #[.pointer (some ⟨bp, 0, none⟩), .int .i64 s] 153)).alloc (.cells #[.int .i64 0, .int .i64 0, .int .i64 0, .int .i64 0] 155)).heap.size = w.heap.size + 1 + 1 := by simp
  have HK0 : Hid (Kp (fun _ => False) w w0) := by rw [hw0]; exact (((Kp.refl _ _).alloc _).alloc _).alloc _
  have HL0 : Hid (Lv w0 r [.pointer (some ⟨bp, 0, none⟩), .int .i64 s]) := by rw [hw0, hr]; exact (Lv.new w _ _).keep (((Kp.refl (fun _ => False) _).alloc _).alloc _) id
  have HR0 : Hid (Lv w0 r2 (H4.cells ⟨0, 0, 0, 0⟩)) := by rw [hw0, hr2, ← z1]; exact (Lv.new _ _ _).keep ((Kp.refl (fun _ => False) _).alloc _) id
  have HV0 : Hid (Lv w0 r4 (H4.cells ⟨0, 0, 0, 0⟩)) := by rw [hw0, hr4, ← z2]; exact Lv.new _ _ _
  have HG : Hid (w.heap.size ≤ r ∧ r < r2 ∧ r2 < r4 ∧ r4 < w0.heap.size) := ⟨by omega, by omega, by omega, HV0.out.lt (by decide)⟩
  have hnn := nil_neq
  clear z1 z2 h hs hn2 ht
  go_enter Tryz.func140, Tryz.ntmps140
  go_wp2_with fail
  rw [← hw0, ← hr4, ← hr2, ← hr]
  clear hw0 hr hr2 hr4
  go_loopg [9] 2 (fun gk iv wr => ∃ (i : Nat) (A : H4), i ≤ 2 ∧ gk = 2 - i ∧ iv = .int .i64 i ∧ Hid (Kp (fun _ => False) w wr ∧ Kp (fun b => b = r4) w0 wr) ∧ Hid (Lv wr r4 A.cells ∧ A = newH dur T s i))
  case atStart => exact ⟨0, ⟨0, 0, 0, 0⟩, Nat.zero_le _, rfl, rfl, ⟨HK0.out, Kp.refl _ _⟩, ⟨HV0.out, rfl⟩⟩
  case round =>
    obtain ⟨i, A, hi, rfl, rfl, HK, HV⟩ := hrel
    have hlr : Lv wr r [.pointer (some ⟨bp, 0, none⟩), .int .i64 s] := HL0.out.keep HK.out.2 (fun e => by have := HG.out; omega)
    have q0 := hlr.cell (j := 0) rfl
    have q1 := hlr.cell (j := 1) rfl
    by_cases hlt : i < 2
    · have hlt2 : (i : Int) < 2 := by omega
      have HR : Hid (Calls _ _ _ wr _) := rread_ok (HP.out.keep0 HK.out.1) s i (by have := HN.out; omega)
      obtain ⟨X, hX⟩ : ∃ X, X = nowOf dur T i := ⟨_, rfl⟩
      rw [← hX] at HR
      obtain ⟨Y, hY⟩ : ∃ Y, Y = sayH X := ⟨_, rfl⟩
      have HST : Hid (newH dur T s (i + 1) = if (okH X i s && decide (A.a < Y.a)) = true then Y else A) := by
        show stepH dur T s (newH dur T s i) i = _
        unfold stepH
        rw [← HV.out.2, ← hX, hY]
      have HY : Hid (Y = sayH X) := hY
      clear hX hY hlr
      go_wp2_with fail
      refine HR.out.mono ?_
      rintro e9 w1 ⟨g, c, hg, hc, rfl, k1, rb1⟩
      have HK1 : Hid (Kp (fun _ => False) w w1 ∧ Kp (fun b => b = r4) w0 w1) := ⟨HK.out.1.trans k1 (fun _ _ e => e), HK.out.2.trans k1 (fun _ _ e => e.elim)⟩
      have HB1 : Hid (Rb w1 (some ⟨g, 0, none⟩) 64 X ∧ 64 ≤ c) := ⟨rb1, hc⟩
      have HV1 : Hid (Lv w1 r4 A.cells) := HV.out.1.keep k1 id
      clear k1 rb1 hg hc HR q0 q1
      go_wp2_with fail
      have HH : Hid (Calls _ _ _ w1 _) := headOf_ok g 0 c X w1 HB1.out.2 HB1.out.1
      refine HH.out.mono ?_
      rintro e9 w2 ⟨rfl, k2⟩
      have HYe : Hid (Y = ⟨numAt X 1, numAt X 9, numAt X 17, numAt X 25⟩) := HY.out
      obtain ⟨ya, yb, yc, yd⟩ := Y
      have hYe := HYe.out
      injection hYe with e1 e2 e3 e4
      rw [← e1, ← e2, ← e3, ← e4]
      have HOk : Hid (∀ u, Kp (fun _ => False) w1 u → Calls Tryz.prog 192 #[headV ya yb yc yd, .slice (some ⟨g, 0, none⟩) 64 c, .int .i64 (i : Int), .int .i64 s] u fun e w' => e = .returned (.bool (okH X i s)) ∧ Kp (fun _ => False) u w') := fun u k => by
        have := hright_ok ya yb yc yd g 0 c X (i : Int) s u (HB1.out.1.keep0 k) (fun j hj => k.cellv (HK1.out.1.cellv (HT.out j hj) id) id) HN.out.2
        unfold okH
        rw [← HY.out]
        exact this
      obtain ⟨t8, ht8⟩ : ∃ t8, t8 = w2.heap.size := ⟨_, rfl⟩
      obtain ⟨w3, hw3⟩ : ∃ y, y = w2.alloc (.cells #[.int .i64 ya, .int .i64 yb, .int .i64 yc, .int .i64 yd] 155) := ⟨_, rfl⟩
      have k23 : Kp (fun _ => False) w2 w3 := by rw [hw3]; exact (Kp.refl _ _).alloc _
      have HL8 : Hid (Lv w3 t8 (H4.cells ⟨ya, yb, yc, yd⟩)) := by rw [hw3, ht8]; exact Lv.new _ _ _
      have HK13 : Hid (Kp (fun _ => False) w1 w3) := k2.trans k23 (fun _ _ e => e)
      have HV3 : Hid (Lv w3 r4 A.cells) := HV1.out.keep HK13.out id
      have hlr : Lv w3 r [.pointer (some ⟨bp, 0, none⟩), .int .i64 s] := (HL0.out.keep HK1.out.2 (fun e => by have := HG.out; omega)).keep HK13.out id
      have q1 := hlr.cell (j := 1) rfl
      have p0 := HL8.out.cell (j := 0) rfl
      have p1 := HL8.out.cell (j := 1) rfl
      have p2 := HL8.out.cell (j := 2) rfl
      have p3 := HL8.out.cell (j := 3) rfl
      have HC : Hid (Calls _ _ _ w3 _) := HOk.out w3 HK13.out
      clear e1 e2 e3 e4 HYe k2 k23 hlr HOk HH HB1 HV1
      go_upto_region 9 with fail
      rw [← hw3, ← ht8]
      clear hw3 ht8
      go_wp2_with fail
      refine HC.out.mono ?_
      rintro e9 w4 ⟨rfl, k4⟩
      have HK4 : Hid (Kp (fun _ => False) w w4 ∧ Kp (fun b => b = r4) w0 w4) := ⟨(HK1.out.1.trans HK13.out (fun _ _ e => e)).trans k4 (fun _ _ e => e), (HK1.out.2.trans HK13.out (fun _ _ e => e.elim)).trans k4 (fun _ _ e => e.elim)⟩
      have HV4 : Hid (Lv w4 r4 A.cells) := HV3.out.keep k4 id
      have HL4 : Hid (Lv w4 t8 (H4.cells ⟨ya, yb, yc, yd⟩)) := HL8.out.keep k4 id
      clear k4 HC HV3 HL8 q1 p0 p1 p2 p3
      obtain ⟨B, hB⟩ : ∃ B, B = okH X i s := ⟨_, rfl⟩
      have HB : Hid (B = okH X i s) := hB
      rw [← hB]
      clear hB
      obtain ⟨aa, ab, ac, ad⟩ := A
      have p0 := HL4.out.cell (j := 0) rfl
      have v0 := HV4.out.cell (j := 0) rfl
      cases B with
      | false =>
        have HD : Hid ((okH X i s && decide (aa < ya)) = false) := by show _ = _; rw [← HB.out]; rfl
        go_wp2
        go_roundg (2 - (i + 1))
        case rel => exact ⟨i + 1, ⟨aa, ab, ac, ad⟩, by omega, rfl, by simp, HK4.out, ⟨HV4.out, by rw [HST.out, HD.out]; rfl⟩⟩
        case measure => omega
      | true =>
        by_cases hgt : aa < ya
        · have hg2 : ya > aa := hgt
          have HD : Hid ((okH X i s && decide (aa < ya)) = true) := by show _ = _; rw [← HB.out, decide_eq_true hgt]; rfl
          have p1 := HL4.out.cell (j := 1) rfl
          have p2 := HL4.out.cell (j := 2) rfl
          have p3 := HL4.out.cell (j := 3) rfl
          have v1 := HV4.out.cell (j := 1) rfl
          have v2 := HV4.out.cell (j := 2) rfl
          have v3 := HV4.out.cell (j := 3) rfl
          have f0 := HV4.out.fz (j := 0) (show 0 < 4 by decide)
          have f1 := HV4.out.fz (j := 1) (show 1 < 4 by decide)
          have f2 := HV4.out.fz (j := 2) (show 2 < 4 by decide)
          have f3 := HV4.out.fz (j := 3) (show 3 < 4 by decide)
          have HS : Hid (_ ∧ _) := lv_set4 HV4.out (.int .i64 ya) (.int .i64 yb) (.int .i64 yc) (.int .i64 yd)
          clear hgt
          go_wp2
          go_roundg (2 - (i + 1))
          case rel => exact ⟨i + 1, ⟨ya, yb, yc, yd⟩, by omega, rfl, by simp, ⟨HK4.out.1.trans HS.out.2 (fun b hb e => by have := HG.out; omega), HK4.out.2.trans HS.out.2 (fun _ _ e => e)⟩, ⟨HS.out.1, by rw [HST.out, HD.out]; rfl⟩⟩
          case measure => omega
        · have hg2 : ¬ ya > aa := hgt
          have HD : Hid ((okH X i s && decide (aa < ya)) = false) := by show _ = _; rw [decide_eq_false hgt, Bool.and_false]
          clear hgt
          go_wp2
          go_roundg (2 - (i + 1))
          case rel => exact ⟨i + 1, ⟨aa, ab, ac, ad⟩, by omega, rfl, by simp, HK4.out, ⟨HV4.out, by rw [HST.out, HD.out]; rfl⟩⟩
          case measure => omega
    · have hi2 : i = 2 := by omega
      subst hi2
      obtain ⟨aa, ab, ac, ad⟩ := A
      have hZ : Z = ⟨aa, ab, ac, ad⟩ := HZ.out.trans HV.out.2.symm
      subst hZ
      have v0 := HV.out.1.cell (j := 0) rfl
      have v1 := HV.out.1.cell (j := 1) rfl
      have v2 := HV.out.1.cell (j := 2) rfl
      have v3 := HV.out.1.cell (j := 3) rfl
      have HR2 : Hid (Lv wr r2 (H4.cells ⟨0, 0, 0, 0⟩)) := HR0.out.keep HK.out.2 (fun e => by have := HG.out; omega)
      have u0 := HR2.out.cell (j := 0) rfl
      have u1 := HR2.out.cell (j := 1) rfl
      have u2 := HR2.out.cell (j := 2) rfl
      have u3 := HR2.out.cell (j := 3) rfl
      have f0 := HR2.out.fz (j := 0) (show 0 < 4 by decide)
      have f1 := HR2.out.fz (j := 1) (show 1 < 4 by decide)
      have f2 := HR2.out.fz (j := 2) (show 2 < 4 by decide)
      have f3 := HR2.out.fz (j := 3) (show 3 < 4 by decide)
      clear hlr q0 q1
      by_cases h0 : aa = 0
      · have h0b : (aa == 0) = true := by rw [beq_iff_eq]; exact h0
        have HN9 : Hid (∀ e, e = .returned (.tuple #[headV 0 0 0 0, flt 0 70]) → NewRes ⟨aa, ab, ac, ad⟩ e) := fun e he => by unfold NewRes; rw [if_pos h0]; exact he
        have HFl : Hid (∀ u, Calls Tryz.prog 136 #[.int .i64 0, .int .i64 70] u fun e w' => e = .returned (flt 0 70) ∧ w' = u) := fun u => fault_flt 0 70 (by decide) u
        have HS : Hid (∀ u, Kp (fun _ => False) wr u → u = wr → _ ∧ _) := fun u _ hu => by subst hu; exact lv_set4 HR2.out (.int .i64 0) (.int .i64 0) (.int .i64 0) (.int .i64 0)
        clear h0
        go_wp2_with fail
        refine (HFl.out _).mono ?_
        rintro e9 w9 ⟨rfl, hw9⟩
        have hw8 := hw9.symm
        subst hw8
        clear hw9 HFl
        obtain ⟨w5, hw5⟩ : ∃ y, y = (((wr.setCell ⟨r2, 0, none⟩ (.int .i64 0)).setCell ⟨r2, 1, none⟩ (.int .i64 0)).setCell ⟨r2, 2, none⟩ (.int .i64 0)).setCell ⟨r2, 3, none⟩ (.int .i64 0) := ⟨_, rfl⟩
        have hs5 := HS.out wr (Kp.refl _ _) rfl
        rw [← hw5] at hs5
        have HLd : Hid ((loadVar 155 ⟨r2, 0, none⟩).run Tryz.prog w5 = .ok (headV 0 0 0 0) w5) := hs5.1.load dsHead szHead rfl
        have HF : Hid (Kp (fun _ => False) w w5) := HK.out.1.trans hs5.2 (fun b hb e => by have := HG.out; omega)
        clear hs5 HS
        go_wp2
        rw [← hw5]
        refine bodyPost_ret (res_cell_tmp Tryz.results140 _ _ r2 _ rfl HLd.out) rfl ?_
        exact ⟨HN9.out _ rfl, HF.out⟩
      · have h0b : (aa == 0) = false := by rw [beq_eq_false_iff_ne]; exact h0
        have HN9 : Hid (∀ e, e = .returned (.tuple #[headV aa ab ac ad, .nilIface]) → NewRes ⟨aa, ab, ac, ad⟩ e) := fun e he => by unfold NewRes; rw [if_neg h0]; exact he
        have HS : Hid (_ ∧ _) := lv_set4 HR2.out (.int .i64 aa) (.int .i64 ab) (.int .i64 ac) (.int .i64 ad)
        obtain ⟨w5, hw5⟩ : ∃ y, y = (((wr.setCell ⟨r2, 0, none⟩ (.int .i64 aa)).setCell ⟨r2, 1, none⟩ (.int .i64 ab)).setCell ⟨r2, 2, none⟩ (.int .i64 ac)).setCell ⟨r2, 3, none⟩ (.int .i64 ad) := ⟨_, rfl⟩
        have hs5 := HS.out
        rw [← hw5] at hs5
        have HLd : Hid ((loadVar 155 ⟨r2, 0, none⟩).run Tryz.prog w5 = .ok (headV aa ab ac ad) w5) := hs5.1.load dsHead szHead rfl
        have HF : Hid (Kp (fun _ => False) w w5) := HK.out.1.trans hs5.2 (fun b hb e => by have := HG.out; omega)
        clear h0 hs5
        go_wp2
        rw [← hw5]
        refine bodyPost_ret (res_cell_tmp Tryz.results140 _ _ r2 _ rfl HLd.out) rfl ?_
        exact ⟨HN9.out _ rfl, HF.out⟩
end Go.Proofs.YtmooddbhcccicaaGreatDoor

/- A log in memory: turn; a sector of noughts; a plate that may have a ring. -/
namespace Go.Proofs.YtmooddbhcccicaaGreatDoor
set_option linter.unusedVariables false
set_option linter.unusedSimpArgs false
open Go.RowKit Go.Deep

/-- the log at block g -/
abbrev walC (b : Nat) (s : Int) (A : H4) (fv : Value) (last : Int) : List Value := [.pointer (some ⟨b, 0, none⟩), .int .i64 s, .int .i64 A.a, .int .i64 A.b, .int .i64 A.c, .int .i64 A.d, fv, .int .i64 last]

set_option maxRecDepth 100000 in
set_option maxHeartbeats 800000 in
theorem isBlank_ok (g q c : Nat) (xs : List Nat) (w : World) (h : Rb w (some ⟨g, q, none⟩) 64 xs) :
    Calls Tryz.prog 193 #[.slice (some ⟨g, q, none⟩) 64 c] w fun e w' => e = .returned (.bool (decide (xs = nouW 64))) ∧ Kp (fun _ => False) w w' := by
  have HR : Hid (Rb w (some ⟨g, q, none⟩) 64 xs) := h
  clear h
  go_enter Tryz.func193, Tryz.ntmps193
  go_wp2_with fail
  refine (blankS_ok w).mono ?_
  rintro e9 w1 ⟨g1, _, rfl, k1, x1⟩
  have HK : Hid (Kp (fun _ => False) w w1) := k1
  have HQ : Hid (Calls _ _ _ w1 _) := equal_any c 64 w1 (HR.out.keep0 k1) x1.rb
  clear k1 x1
  go_wp2_with fail
  refine HQ.out.mono ?_
  rintro e9 w9 ⟨rfl, hw9⟩
  have hw8 := hw9.symm
  subst hw8
  clear hw9 HQ
  obtain ⟨b7, h7⟩ : ∃ x, x = decide (xs = nouW 64) := ⟨_, rfl⟩
  rw [← h7]
  have H7 : Hid (b7 = decide (xs = nouW 64)) := h7
  clear h7
  go_wp2
  go_ret
  exact ⟨by show Ending.returned (.bool b7) = _; rw [H7.out], HK.out⟩

set_option maxRecDepth 100000 in
theorem sectors_ok {w : World} {b d m n q : Nat} {dur : List Nat} {T : Nat → Option (List Nat)} (h : Pt w b d m n q dur T) :
    Calls Tryz.prog 65 #[.pointer (some ⟨b, 0, none⟩)] w fun e w' => e = .returned (.int .i64 (n : Int)) ∧ w' = w := by
  have HM : Hid (Calls _ _ _ w _) := made_ok h
  have c0 := h.c0
  clear h
  go_enter Tryz.func65, Tryz.ntmps65
  go_wp2_with fail
  refine HM.out.mono ?_
  rintro e9 w9 ⟨rfl, hw9⟩
  have hw8 := hw9.symm
  subst hw8
  clear hw9 HM
  go_wp2
  go_ret
  exact ⟨rfl, rfl⟩

set_option maxRecDepth 100000 in
theorem failedW_ok {w : World} {b d m n q : Nat} {dur : List Nat} {T : Nat → Option (List Nat)} (h : Pt w b d m n q dur T) :
    Calls Tryz.prog 66 #[.pointer (some ⟨b, 0, none⟩)] w fun e w' => e = .returned (.bool false) ∧ w' = w := by
  have HM : Hid (Calls _ _ _ w _) := state_ok h
  clear h
  go_enter Tryz.func66, Tryz.ntmps66
  go_wp2_with fail
  refine HM.out.mono ?_
  rintro e9 w9 ⟨rfl, hw9⟩
  have hw8 := hw9.symm
  subst hw8
  clear hw9 HM
  go_wp2
  go_ret
  exact ⟨rfl, rfl⟩

set_option maxRecDepth 100000 in
set_option maxHeartbeats 800000 in
theorem unfit_ok {w : World} {b d m n q : Nat} {dur : List Nat} {T : Nat → Option (List Nat)} (h : Pt w b d m n q dur T) (h6 : 6 ≤ n) :
    Calls Tryz.prog 100 #[.pointer (some ⟨b, 0, none⟩)] w fun e w' => e = .returned (.int .i64 0) ∧ w' = w := by
  have HS : Hid (Calls _ _ _ w _) := sectors_ok h
  have HF : Hid (Calls _ _ _ w _) := failedW_ok h
  have h0 : ((n : Int) == 0) = false := by rw [beq_eq_false_iff_ne]; omega
  have h1 : ¬ ((n : Int) < 6) := by omega
  clear h h6
  go_enter Tryz.func100, Tryz.ntmps100
  go_wp2_with fail
  refine HS.out.mono ?_
  rintro e9 w9 ⟨rfl, hw9⟩
  have hw8 := hw9.symm
  subst hw8
  clear hw9
  go_wp2_with fail
  refine HF.out.mono ?_
  rintro e9 w9 ⟨rfl, hw9⟩
  have hw8 := hw9.symm
  subst hw8
  clear hw9
  go_wp2_with fail
  refine HS.out.mono ?_
  rintro e9 w9 ⟨rfl, hw9⟩
  have hw8 := hw9.symm
  subst hw8
  clear hw9
  go_wp2
  go_ret
  exact ⟨rfl, rfl⟩

theorem lv_head {w : World} {m : Nat} {x0 x1 x2 x3 x4 x5 x6 x7 : Value} (h : Lv w m [x0, x1, x2, x3, x4, x5, x6, x7]) (y2 y3 y4 y5 : Value) :
    Lv ((((w.setCell ⟨m, 2, none⟩ y2).setCell ⟨m, 3, none⟩ y3).setCell ⟨m, 4, none⟩ y4).setCell ⟨m, 5, none⟩ y5) m [x0, x1, y2, y3, y4, y5, x6, x7] ∧ Kp (fun b => b = m) w ((((w.setCell ⟨m, 2, none⟩ y2).setCell ⟨m, 3, none⟩ y3).setCell ⟨m, 4, none⟩ y4).setCell ⟨m, 5, none⟩ y5) := by
  have a1 : Lv (w.setCell ⟨m, 2, none⟩ y2) m [x0, x1, y2, x3, x4, x5, x6, x7] := h.set1 2 y2 (by simp)
  have a2 : Lv ((w.setCell ⟨m, 2, none⟩ y2).setCell ⟨m, 3, none⟩ y3) m [x0, x1, y2, y3, x4, x5, x6, x7] := a1.set1 3 y3 (by simp)
  have a3 : Lv (((w.setCell ⟨m, 2, none⟩ y2).setCell ⟨m, 3, none⟩ y3).setCell ⟨m, 4, none⟩ y4) m [x0, x1, y2, y3, y4, x5, x6, x7] := a2.set1 4 y4 (by simp)
  exact ⟨a3.set1 5 y5 (by simp), ((kp_set.trans kp_set (fun _ _ e => e)).trans kp_set (fun _ _ e => e)).trans kp_set (fun _ _ e => e)⟩

set_option maxRecDepth 100000 in
set_option maxHeartbeats 1600000 in
theorem turn_ok {w : World} {g bp d m n q : Nat} {dur : List Nat} {T : Nat → Option (List Nat)} (h : Pt w bp d m n q dur T) (hq : (q : Int) < 9223372036854775807) (hn2 : 2 ≤ n) (s : Int) (A : H4) (fv : Value) (last : Int) (hl : Lv w g (walC bp s A fv last)) (hgd : g ≠ d) (hgm : g ≠ m) (hgb : bp ≠ g) (a b c e : Nat) (ha : a ≤ 1152921504606846976) (hb : b ≤ 1152921504606846976) (hc : c ≤ 1152921504606846976) (he : e ≤ 1152921504606846976) (ht : Turns w) :
    Calls Tryz.prog 162 #[.pointer (some ⟨g, 0, none⟩), headV a b c e] w fun e9 w' => e9 = .returned .nilIface ∧ Kp (fun x => x = d ∨ x = m ∨ x = g) w w' ∧ Pt w' bp d m n 0 (wrHead dur T n (a % 2) (hdB a b c e)) (fun _ => none) ∧ Lv w' g (walC bp s ⟨a, b, c, e⟩ fv last) := by
  obtain ⟨aa, ab, ac, ad⟩ := A
  have HBG : Hid (bp ≠ g) := hgb
  obtain ⟨r, hr⟩ : ∃ r, r = w.heap.size := ⟨_, rfl⟩
  obtain ⟨w0, hw0⟩ : ∃ y, y = w.alloc (.cells #[.int .i64 (a : Int), .int .i64 (b : Int), .int .i64 (c : Int), .int .i64 (e : Int)] 155) := ⟨_, rfl⟩
  have HK0 : Hid (Kp (fun _ => False) w w0) := by rw [hw0]; exact (Kp.refl _ _).alloc _
  have HH0 : Hid (Lv w0 r (H4.cells ⟨a, b, c, e⟩)) := by rw [hw0, hr]; exact Lv.new _ _ _
  have HL0 : Hid (Lv w0 g (walC bp s ⟨aa, ab, ac, ad⟩ fv last)) := hl.keep HK0.out id
  have HG : Hid (g < w.heap.size ∧ r = w.heap.size ∧ g ≠ d ∧ g ≠ m ∧ d < w.heap.size ∧ m < w.heap.size) := ⟨hl.lt (by simp), hr, hgd, hgm, h.row.lt, h.mp.lt⟩
  have HW : Hid (∀ u, Kp (fun _ => False) w u → Calls Tryz.prog 199 #[ringV bp s, headV a b c e] u fun e9 w' => e9 = .returned .nilIface ∧ Kp (fun x => x = d ∨ x = m) u w' ∧ Pt w' bp d m n 0 (wrHead dur T n (a % 2) (hdB a b c e)) (fun _ => none)) := fun u k => writeHead_ok (h.keep0 k) hq hn2 s a b c e ha hb hc he (fun j hj => k.cellv (ht j hj) id)
  have p0 := HH0.out.cell (j := 0) rfl
  have p1 := HH0.out.cell (j := 1) rfl
  have p2 := HH0.out.cell (j := 2) rfl
  have p3 := HH0.out.cell (j := 3) rfl
  have v0 := HL0.out.cell (j := 0) rfl
  have v1 := HL0.out.cell (j := 1) rfl
  have hnn := nil_neq
  have kd := HK0.out.drew
  clear h hq hn2 hl ha hb hc he ht hgd hgm hgb
  go_enter Tryz.func162, Tryz.ntmps162
  go_upto_region 1 with fail
  rw [← hw0, ← hr]
  clear hw0 hr
  go_region_with (go_at_call 199; refine (HW.out _ kd).mono ?_; rintro e9 w1 ⟨rfl, k1, pt1⟩)
  all_goals
    have HK1 : Hid (Kp (fun x => x = d ∨ x = m ∨ x = g) w w1) := (kd.mono (fun _ _ e => e.elim)).trans k1 (fun _ _ e => e.elim Or.inl (fun e => Or.inr (Or.inl e)))
    have HK01 : Hid (Kp (fun x => x = d ∨ x = m) w0 w1) := ((Kp.refl (fun _ => False) w0).drew.mono (fun _ _ e => e.elim)).trans k1 (fun _ _ e => e)
    have HL1 : Hid (Lv w1 g (walC bp s ⟨aa, ab, ac, ad⟩ fv last)) := HL0.out.keep HK01.out (fun e => by have := HG.out; omega)
    have HH1 : Lv w1 r (H4.cells ⟨a, b, c, e⟩) := HH0.out.keep HK01.out (fun e => by have := HG.out; omega)
    have HP1 : Hid (Pt w1 bp d m n 0 (wrHead dur T n (a % 2) (hdB a b c e)) (fun _ => none)) := pt1
    clear p0 p1 p2 p3 v0 v1 k1 pt1 kd
    have p0 := HH1.cell (j := 0) rfl
    have p1 := HH1.cell (j := 1) rfl
    have p2 := HH1.cell (j := 2) rfl
    have p3 := HH1.cell (j := 3) rfl
    have v2 := HL1.out.cell (j := 2) rfl
    have v3 := HL1.out.cell (j := 3) rfl
    have v4 := HL1.out.cell (j := 4) rfl
    have v5 := HL1.out.cell (j := 5) rfl
    have f2 := HL1.out.fz (j := 2) (show 2 < 8 by decide)
    have f3 := HL1.out.fz (j := 3) (show 3 < 8 by decide)
    have f4 := HL1.out.fz (j := 4) (show 4 < 8 by decide)
    have f5 := HL1.out.fz (j := 5) (show 5 < 8 by decide)
    have HS : Hid (_ ∧ _) := lv_head HL1.out (.int .i64 (a : Int)) (.int .i64 (b : Int)) (.int .i64 (c : Int)) (.int .i64 (e : Int))
    obtain ⟨w5, hw5⟩ : ∃ y, y = (((w1.setCell ⟨g, 2, none⟩ (.int .i64 (a : Int))).setCell ⟨g, 3, none⟩ (.int .i64 (b : Int))).setCell ⟨g, 4, none⟩ (.int .i64 (c : Int))).setCell ⟨g, 5, none⟩ (.int .i64 (e : Int)) := ⟨_, rfl⟩
    have hs5 := HS.out
    rw [← hw5] at hs5
    have HF : Hid (Kp (fun x => x = d ∨ x = m ∨ x = g) w w5 ∧ Pt w5 bp d m n 0 (wrHead dur T n (a % 2) (hdB a b c e)) (fun _ => none) ∧ Lv w5 g (walC bp s ⟨a, b, c, e⟩ fv last)) := ⟨HK1.out.trans hs5.2 (fun _ _ e => Or.inr (Or.inr e)), HP1.out.keep hs5.2 HBG.out (fun e => by have := HG.out; omega) (fun e => by have := HG.out; omega), hs5.1⟩
    clear hs5 HH1
    go_simp
    go_wp2
    rw [← hw5]
    go_ret
    exact ⟨rfl, HF.out⟩
end Go.Proofs.YtmooddbhcccicaaGreatDoor

/- A log of a new plate: begin, open, Open. -/
namespace Go.Proofs.YtmooddbhcccicaaGreatDoor
set_option linter.unusedVariables false
set_option linter.unusedSimpArgs false
open Go.RowKit Go.Deep

set_option maxRecDepth 100000 in
set_option maxHeartbeats 3200000 in
theorem begin_ok {w : World} {g bp d m n q s : Nat} {dur : List Nat} {T : Nat → Option (List Nat)} (h : Pt w bp d m n q dur T) (hq : (q : Int) < 9223372036854775807) (hs : n = 2 + s) (hall : ∀ i, i < n → nowOf dur T i = nouW 64) (A : H4) (fv : Value) (last : Int) (hl : Lv w g (walC bp s A fv last)) (hgd : g ≠ d) (hgm : g ≠ m) (hgb : bp ≠ g) (hgt : g ≠ 0) (ht : Turns w) :
    Calls Tryz.prog 141 #[.pointer (some ⟨g, 0, none⟩)] w fun e9 w' => e9 = .returned .nilIface ∧ Kp (fun x => x = d ∨ x = m ∨ x = g) w w' ∧ Pt w' bp d m n 0 (wrHead dur T n 1 (hdB 1 1 0 1)) (fun _ => none) ∧ ∃ gf cap l, w.heap.size ≤ gf ∧ Lv w' g (walC bp s ⟨1, 1, 0, 1⟩ (.slice (some ⟨gf, 0, none⟩) s cap) last) ∧ w'.ownsRow 0 3 1 (.slice (some ⟨gf, 0, none⟩) s cap) s (nls l) ∧ Free l 0 s := by
  obtain ⟨aa, ab, ac, ad⟩ := A
  have HP : Hid (Pt w bp d m n q dur T) := h
  have HL : Hid (Lv w g (walC bp s ⟨aa, ab, ac, ad⟩ fv last)) := hl
  have HT : Hid (Turns w) := ht
  have HA : Hid (∀ i, i < n → nowOf dur T i = nouW 64) := hall
  have HG : Hid (g < w.heap.size ∧ g ≠ d ∧ g ≠ m ∧ bp ≠ g ∧ d < w.heap.size ∧ m < w.heap.size ∧ (q : Int) < 9223372036854775807) := ⟨hl.lt (by simp), hgd, hgm, hgb, h.row.lt, h.mp.lt, hq⟩
  have HGt : Hid (g ≠ 0) := hgt
  have HN : Hid (n = 2 + s ∧ n ≤ 8192) := ⟨hs, h.n2⟩
  have v0 := hl.cell (j := 0) rfl
  have v1 := hl.cell (j := 1) rfl
  have HWn : Hid (wrap64 (2 + (s : Int)) = (n : Int)) := by have := h.n2; show _ = _; unfold wrap64; omega
  have hnn := nil_neq
  clear h hl ht hall hgd hgm hgb hq hs hgt
  go_enter Tryz.func141, Tryz.ntmps141
  go_wp2_with fail
  rw [show wrap64 ((2 : Int) + (s : Int)) = (n : Int) from HWn.out]
  go_loopg [12] n (fun gk iv wr => ∃ i : Nat, i ≤ n ∧ gk = n - i ∧ iv = .int .i64 i ∧ Hid (Kp (fun _ => False) w wr))
  case atStart => exact ⟨0, Nat.zero_le _, rfl, rfl, Kp.refl _ _⟩
  case round =>
    obtain ⟨i, hi, rfl, rfl, HK⟩ := hrel
    clear v0 v1
    have hlr : Lv wr g (walC bp s ⟨aa, ab, ac, ad⟩ fv last) := HL.out.keep HK.out id
    have v0 := hlr.cell (j := 0) rfl
    have v1 := hlr.cell (j := 1) rfl
    by_cases hlt : i < n
    · have hlt2 : (i : Int) < (n : Int) := by omega
      have HR : Hid (Calls _ _ _ wr _) := rread_ok (HP.out.keep0 HK.out) s i (by omega)
      rw [HA.out i hlt] at HR
      have hwi : wrap64 ((i : Int) + 1) = ((i + 1 : Nat) : Int) := by have := HN.out; unfold wrap64; omega
      clear hlr
      go_wp2_with fail
      refine HR.out.mono ?_
      rintro e9 w1 ⟨g1, c1, hg, hc, rfl, k1, rb1⟩
      have HK1 : Hid (Kp (fun _ => False) w w1) := HK.out.trans k1 (fun _ _ e => e)
      have HB : Hid (Calls _ _ _ w1 _) := isBlank_ok g1 0 c1 (nouW 64) w1 rb1
      rw [decide_eq_true rfl] at HB
      clear k1 rb1 hg hc HR v0 v1
      go_wp2_with fail
      refine HB.out.mono ?_
      rintro e9 w2 ⟨rfl, k2⟩
      have HK2 : Hid (Kp (fun _ => False) w w2) := HK1.out.trans k2 (fun _ _ e => e)
      clear k2 HB
      go_wp2
      go_roundg (n - (i + 1))
      case rel => exact ⟨i + 1, by omega, rfl, by first | rw [hwi] | simp, HK2⟩
      case measure => omega
    · have hin : i = n := by omega
      subst hin
      have hlt2 : ¬ ((i : Int) < (i : Int)) := by omega
      have HF : Hid (Calls _ _ _ wr _) := placesFrom_ok 0 s wr (by have := HN.out; omega) (by decide)
      have HLr : Hid (Lv wr g (walC bp s ⟨aa, ab, ac, ad⟩ fv last)) := hlr
      clear hlr
      go_wp2_with fail
      refine HF.out.mono ?_
      rintro e9 w1 ⟨gf, cap, l, hgf, rfl, k1, ow1, fr1⟩
      have hl1 : Lv w1 g (walC bp s ⟨aa, ab, ac, ad⟩ fv last) := HLr.out.keep k1 id
      have hl2 := hl1.set1 6 (.slice (some ⟨gf, 0, none⟩) s cap) (by simp)
      have v6 := hl1.cell (j := 6) rfl
      have f6 := hl1.fz (j := 6) (show 6 < 8 by decide)
      obtain ⟨w2, hw2⟩ : ∃ y, y = w1.setCell ⟨g, 6, none⟩ (.slice (some ⟨gf, 0, none⟩) s cap) := ⟨_, rfl⟩
      rw [← hw2] at hl2
      have HL2 : Hid (Lv w2 g (walC bp s ⟨aa, ab, ac, ad⟩ (.slice (some ⟨gf, 0, none⟩) s cap) last)) := hl2
      have k12 : Kp (fun x => x = g) w1 w2 := by rw [hw2]; exact kp_set
      have HGf : Hid (w.heap.size ≤ gf ∧ Free l 0 s) := ⟨by have := HK.out.size; omega, fr1⟩
      have HO2 : Hid (w2.ownsRow 0 3 1 (.slice (some ⟨gf, 0, none⟩) s cap) s (nls l)) := ownsRow_keep ow1 k12 (fun g' e e2 => by have e' : some gf = some g' := e; injection e' with e'; have := HG.out.1; have := HGf.out.1; omega)
      have HK2 : Hid (Kp (fun x => x = g) w w2) := ((HK.out.trans k1 (fun _ _ e => e)).mono (fun _ _ e => e.elim)).trans k12 (fun _ _ e => e)
      have HP2 : Hid (Pt w2 bp d m i q dur T) := HP.out.keep HK2.out HG.out.2.2.2.1 (fun e => HG.out.2.1 e.symm) (fun e => HG.out.2.2.1 e.symm)
      have HTn : Hid (Calls Tryz.prog 162 #[.pointer (some ⟨g, 0, none⟩), headV 1 1 0 1] w2 fun e9 w' => e9 = .returned .nilIface ∧ Kp (fun x => x = d ∨ x = m ∨ x = g) w2 w' ∧ Pt w' bp d m i 0 (wrHead dur T i 1 (hdB 1 1 0 1)) (fun _ => none) ∧ Lv w' g (walC bp s ⟨1, 1, 0, 1⟩ (.slice (some ⟨gf, 0, none⟩) s cap) last)) :=
        turn_ok HP2.out HG.out.2.2.2.2.2.2 (by have := HN.out; omega) s _ _ last HL2.out HG.out.2.1 HG.out.2.2.1 HG.out.2.2.2.1 1 1 0 1 (by decide) (by decide) (by decide) (by decide) (fun j hj => HK2.out.cellv (HT.out j hj) (fun e => HGt.out e.symm))
      clear hl1 hl2 k1 ow1 fr1 hgf k12 HL2
      go_wp2_with fail
      rw [← hw2]
      clear hw2 v6 f6
      refine HTn.out.mono ?_
      rintro e9 w3 ⟨rfl, k3, p3, l3⟩
      have HF3 : Hid (Kp (fun x => x = d ∨ x = m ∨ x = g) w w3 ∧ Pt w3 bp d m i 0 (wrHead dur T i 1 (hdB 1 1 0 1)) (fun _ => none) ∧ Lv w3 g (walC bp s ⟨1, 1, 0, 1⟩ (.slice (some ⟨gf, 0, none⟩) s cap) last) ∧ w3.ownsRow 0 3 1 (.slice (some ⟨gf, 0, none⟩) s cap) s (nls l)) :=
        ⟨(HK2.out.mono (fun _ _ e => Or.inr (Or.inr e))).trans k3 (fun _ _ e => e), p3, l3, ownsRow_keep HO2.out k3 (fun g' e e2 => by have e' : some gf = some g' := e; injection e' with e'; have := HG.out; have := HGf.out.1; omega)⟩
      clear k3 p3 l3 HTn
      go_wp2
      go_ret
      exact ⟨rfl, HF3.out.1, HF3.out.2.1, gf, cap, l, HGf.out.1, HF3.out.2.2.1, HF3.out.2.2.2, HGf.out.2⟩
theorem hf_nou : ∀ k, hfW (nouW k) = 0
  | 0 => rfl
  | k + 1 => by
    rw [show nouW (k + 1) = nouW k ++ [0] from List.replicate_succ', hfW_snoc, hf_nou k]
theorem numAt_nou (o : Nat) : numAt (nouW 64) o = 0 := by
  unfold numAt nouW
  rw [List.drop_replicate, List.take_replicate]
  rw [hf_nou]
  rfl
theorem newH_nou {dur : List Nat} {T : Nat → Option (List Nat)} {s : Int} (h : ∀ i, i < 2 → nowOf dur T i = nouW 64) : newH dur T s 2 = ⟨0, 0, 0, 0⟩ := by
  have h1 : ∀ i A, i < 2 → stepH dur T s A i = A := fun i A hi => by
    unfold stepH okH rightH sayH
    rw [h i hi, numAt_nou, numAt_nou, numAt_nou, numAt_nou]
    rfl
  show stepH dur T s (stepH dur T s ⟨0, 0, 0, 0⟩ 0) 1 = _
  rw [h1 0 _ (by omega), h1 1 _ (by omega)]

set_option maxRecDepth 100000 in
set_option maxHeartbeats 1600000 in
theorem openNew_ok {w : World} {g bp d m n q s : Nat} {dur : List Nat} {T : Nat → Option (List Nat)} (h : Pt w bp d m n q dur T) (hq : (q : Int) < 9223372036854775807) (hs : n = 2 + s) (hall : ∀ i, i < n → nowOf dur T i = nouW 64) (A : H4) (fv : Value) (last : Int) (hl : Lv w g (walC bp s A fv last)) (hgd : g ≠ d) (hgm : g ≠ m) (hgb : bp ≠ g) (hgt : g ≠ 0) (ht : Turns w) :
    Calls Tryz.prog 101 #[.pointer (some ⟨g, 0, none⟩)] w fun e9 w' => e9 = .returned (.tuple #[.slice none 0 0, .nilIface]) ∧ Kp (fun x => x = d ∨ x = m ∨ x = g) w w' ∧ Pt w' bp d m n 0 (wrHead dur T n 1 (hdB 1 1 0 1)) (fun _ => none) ∧ ∃ gf cap l, w.heap.size ≤ gf ∧ Lv w' g (walC bp s ⟨1, 1, 0, 1⟩ (.slice (some ⟨gf, 0, none⟩) s cap) last) ∧ w'.ownsRow 0 3 1 (.slice (some ⟨gf, 0, none⟩) s cap) s (nls l) ∧ Free l 0 s := by
  have HW : Hid (Calls Tryz.prog 140 #[ringV bp s] w fun e w' => e = .returned (.tuple #[headV 0 0 0 0, flt 0 70]) ∧ Kp (fun _ => False) w w') := (newest_ok h s (by have := h.n2; omega) (by omega) ht).mono fun e w' ⟨he, hk⟩ => ⟨by
    rw [newH_nou (fun i hi => hall i (by omega))] at he
    unfold NewRes at he
    rw [if_pos rfl] at he
    exact he, hk⟩
  have HB : Hid (∀ u, Kp (fun _ => False) w u → Calls Tryz.prog 141 #[.pointer (some ⟨g, 0, none⟩)] u fun e9 w' => e9 = .returned .nilIface ∧ Kp (fun x => x = d ∨ x = m ∨ x = g) u w' ∧ Pt w' bp d m n 0 (wrHead dur T n 1 (hdB 1 1 0 1)) (fun _ => none) ∧ ∃ gf cap l, u.heap.size ≤ gf ∧ Lv w' g (walC bp s ⟨1, 1, 0, 1⟩ (.slice (some ⟨gf, 0, none⟩) s cap) last) ∧ w'.ownsRow 0 3 1 (.slice (some ⟨gf, 0, none⟩) s cap) s (nls l) ∧ Free l 0 s) := fun u k => begin_ok (h.keep0 k) hq hs hall A fv last (hl.keep k id) hgd hgm hgb hgt (fun j hj => k.cellv (ht j hj) id)
  have HI : Hid (∀ u, Calls Tryz.prog 57 #[flt 0 70, eno 70] u fun e w' => e = .returned (.bool true) ∧ Kp (fun _ => False) u w') := fun u => is_flt 0 70 70 u
  obtain ⟨aa, ab, ac, ad⟩ := A
  have v0 := hl.cell (j := 0) rfl
  have v1 := hl.cell (j := 1) rfl
  clear h hl ht hall hgd hgm hgb hq hs hgt
  go_enter Tryz.func101, Tryz.ntmps101
  go_wp2_with fail
  refine HW.out.mono ?_
  rintro e9 w1 ⟨rfl, k1⟩
  have HK1 : Hid (Kp (fun _ => False) w w1) := k1
  clear k1 HW v0 v1
  go_upto_region 2 with fail
  obtain ⟨w2, hw2⟩ : ∃ y, y = w1.alloc (.cells #[.int .i64 0, .int .i64 0, .int .i64 0, .int .i64 0] 155) := ⟨_, rfl⟩
  have HK2 : Hid (Kp (fun _ => False) w w2) := HK1.out.trans (S' := fun _ => False) (by rw [hw2]; exact (Kp.refl _ _).alloc _) (fun _ _ e => e)
  try rw [← hw2]
  clear hw2
  go_wp2_with fail
  refine (HI.out _).mono ?_
  rintro e9 w3 ⟨rfl, k3⟩
  have HK3 : Hid (Kp (fun _ => False) w w3) := HK2.out.trans k3 (fun _ _ e => e)
  clear k3 HI
  go_wp2_with fail
  refine (HB.out w3 HK3.out).mono ?_
  rintro e9 w4 ⟨rfl, k4, p4, gf, cap, l, hgf, l4, o4, f4⟩
  have HF : Hid (Kp (fun x => x = d ∨ x = m ∨ x = g) w w4 ∧ Pt w4 bp d m n 0 (wrHead dur T n 1 (hdB 1 1 0 1)) (fun _ => none) ∧ Lv w4 g (walC bp s ⟨1, 1, 0, 1⟩ (.slice (some ⟨gf, 0, none⟩) s cap) last) ∧ w4.ownsRow 0 3 1 (.slice (some ⟨gf, 0, none⟩) s cap) s (nls l) ∧ Free l 0 s ∧ w.heap.size ≤ gf) := ⟨(HK3.out.mono (fun _ _ e => e.elim)).trans k4 (fun _ _ e => e), p4, l4, o4, f4, by have := HK3.out.size; omega⟩
  clear k4 p4 hgf l4 o4 f4 HB
  go_wp2
  go_ret2
  exact ⟨rfl, HF.out.1, HF.out.2.1, gf, cap, l, HF.out.2.2.2.2.2, HF.out.2.2.1, HF.out.2.2.2.1, HF.out.2.2.2.2.1⟩
end Go.Proofs.YtmooddbhcccicaaGreatDoor
