/- A log in memory: turn; a sector of noughts; a plate that may have a ring. -/
import Derived.Test.YtippipeebkkghaaGreatDoorAq
namespace Go.Proofs.YtippipeebkkghaaGreatDoor
set_option linter.unusedVariables false
set_option linter.unusedSimpArgs false
open Go.RowKit Go.Deep

/-- the log at block g -/
abbrev walC (b : Nat) (s : Int) (A : H4) (fv : Value) (last : Int) : List Value := [.pointer (some ⟨b, 0, none⟩), .int .i64 s, .int .i64 A.a, .int .i64 A.b, .int .i64 A.c, .int .i64 A.d, fv, .int .i64 last]

set_option maxRecDepth 100000 in
set_option maxHeartbeats 800000 in
theorem isBlank_ok (g q c : Nat) (xs : List Nat) (w : World) (h : Rb w (some ⟨g, q, none⟩) 64 xs) :
    Calls Tryz.prog 143 #[.slice (some ⟨g, q, none⟩) 64 c] w fun e w' => e = .returned (.bool (decide (xs = nouW 64))) ∧ Kp (fun _ => False) w w' := by
  have HR : Hid (Rb w (some ⟨g, q, none⟩) 64 xs) := h
  clear h
  go_enter Tryz.func143, Tryz.ntmps143
  go_wp2_with fail
  refine (blankS_ok w).mono ?_
  rintro e9 w1 ⟨g1, _, rfl, k1, x1⟩
  have HK : Hid (Kp (fun _ => False) w w1) := k1
  have HQ : Hid (Calls _ _ _ w1 _) := equal_any c 64 w1 (HR.out.keep0 k1) x1.rb
  clear k1 x1
  go_wp2_with fail
  refine HQ.out.mono ?_
  rintro e9 w9 ⟨rfl, hw9⟩
  have hw8 := hw9.symm
  subst hw8
  clear hw9 HQ
  obtain ⟨b7, h7⟩ : ∃ x, x = decide (xs = nouW 64) := ⟨_, rfl⟩
  rw [← h7]
  have H7 : Hid (b7 = decide (xs = nouW 64)) := h7
  clear h7
  go_wp2
  go_ret
  exact ⟨by show Ending.returned (.bool b7) = _; rw [H7.out], HK.out⟩

set_option maxRecDepth 100000 in
theorem sectors_ok {w : World} {b d m n q : Nat} {dur : List Nat} {T : Nat → Option (List Nat)} (h : Pt w b d m n q dur T) :
    Calls Tryz.prog 59 #[.pointer (some ⟨b, 0, none⟩)] w fun e w' => e = .returned (.int .i64 (n : Int)) ∧ w' = w := by
  have HM : Hid (Calls _ _ _ w _) := made_ok h
  have c0 := h.c0
  clear h
  go_enter Tryz.func59, Tryz.ntmps59
  go_wp2_with fail
  refine HM.out.mono ?_
  rintro e9 w9 ⟨rfl, hw9⟩
  have hw8 := hw9.symm
  subst hw8
  clear hw9 HM
  go_wp2
  go_ret
  exact ⟨rfl, rfl⟩

set_option maxRecDepth 100000 in
theorem failedW_ok {w : World} {b d m n q : Nat} {dur : List Nat} {T : Nat → Option (List Nat)} (h : Pt w b d m n q dur T) :
    Calls Tryz.prog 91 #[.pointer (some ⟨b, 0, none⟩)] w fun e w' => e = .returned (.bool false) ∧ w' = w := by
  have HM : Hid (Calls _ _ _ w _) := state_ok h
  clear h
  go_enter Tryz.func91, Tryz.ntmps91
  go_wp2_with fail
  refine HM.out.mono ?_
  rintro e9 w9 ⟨rfl, hw9⟩
  have hw8 := hw9.symm
  subst hw8
  clear hw9 HM
  go_wp2
  go_ret
  exact ⟨rfl, rfl⟩

set_option maxRecDepth 100000 in
set_option maxHeartbeats 800000 in
theorem unfit_ok {w : World} {b d m n q : Nat} {dur : List Nat} {T : Nat → Option (List Nat)} (h : Pt w b d m n q dur T) (h6 : 6 ≤ n) :
    Calls Tryz.prog 58 #[.pointer (some ⟨b, 0, none⟩)] w fun e w' => e = .returned (.int .i64 0) ∧ w' = w := by
  have HS : Hid (Calls _ _ _ w _) := sectors_ok h
  have HF : Hid (Calls _ _ _ w _) := failedW_ok h
  have h0 : ((n : Int) == 0) = false := by rw [beq_eq_false_iff_ne]; omega
  have h1 : ¬ ((n : Int) < 6) := by omega
  clear h h6
  go_enter Tryz.func58, Tryz.ntmps58
  go_wp2_with fail
  refine HS.out.mono ?_
  rintro e9 w9 ⟨rfl, hw9⟩
  have hw8 := hw9.symm
  subst hw8
  clear hw9
  go_wp2_with fail
  refine HF.out.mono ?_
  rintro e9 w9 ⟨rfl, hw9⟩
  have hw8 := hw9.symm
  subst hw8
  clear hw9
  go_wp2_with fail
  refine HS.out.mono ?_
  rintro e9 w9 ⟨rfl, hw9⟩
  have hw8 := hw9.symm
  subst hw8
  clear hw9
  go_wp2
  go_ret
  exact ⟨rfl, rfl⟩

theorem lv_head {w : World} {m : Nat} {x0 x1 x2 x3 x4 x5 x6 x7 : Value} (h : Lv w m [x0, x1, x2, x3, x4, x5, x6, x7]) (y2 y3 y4 y5 : Value) :
    Lv ((((w.setCell ⟨m, 2, none⟩ y2).setCell ⟨m, 3, none⟩ y3).setCell ⟨m, 4, none⟩ y4).setCell ⟨m, 5, none⟩ y5) m [x0, x1, y2, y3, y4, y5, x6, x7] ∧ Kp (fun b => b = m) w ((((w.setCell ⟨m, 2, none⟩ y2).setCell ⟨m, 3, none⟩ y3).setCell ⟨m, 4, none⟩ y4).setCell ⟨m, 5, none⟩ y5) := by
  have a1 : Lv (w.setCell ⟨m, 2, none⟩ y2) m [x0, x1, y2, x3, x4, x5, x6, x7] := h.set1 2 y2 (by simp)
  have a2 : Lv ((w.setCell ⟨m, 2, none⟩ y2).setCell ⟨m, 3, none⟩ y3) m [x0, x1, y2, y3, x4, x5, x6, x7] := a1.set1 3 y3 (by simp)
  have a3 : Lv (((w.setCell ⟨m, 2, none⟩ y2).setCell ⟨m, 3, none⟩ y3).setCell ⟨m, 4, none⟩ y4) m [x0, x1, y2, y3, y4, x5, x6, x7] := a2.set1 4 y4 (by simp)
  exact ⟨a3.set1 5 y5 (by simp), ((kp_set.trans kp_set (fun _ _ e => e)).trans kp_set (fun _ _ e => e)).trans kp_set (fun _ _ e => e)⟩

set_option maxRecDepth 100000 in
set_option maxHeartbeats 1600000 in
theorem turn_ok {w : World} {g bp d m n q : Nat} {dur : List Nat} {T : Nat → Option (List Nat)} (h : Pt w bp d m n q dur T) (hq : (q : Int) < 9223372036854775807) (hn2 : 2 ≤ n) (s : Int) (A : H4) (fv : Value) (last : Int) (hl : Lv w g (walC bp s A fv last)) (hgd : g ≠ d) (hgm : g ≠ m) (hgb : bp ≠ g) (a b c e : Nat) (ha : a ≤ 1152921504606846976) (hb : b ≤ 1152921504606846976) (hc : c ≤ 1152921504606846976) (he : e ≤ 1152921504606846976) (ht : Turns w) :
    Calls Tryz.prog 145 #[.pointer (some ⟨g, 0, none⟩), headV a b c e] w fun e9 w' => e9 = .returned .nilIface ∧ Kp (fun x => x = d ∨ x = m ∨ x = g) w w' ∧ Pt w' bp d m n 0 (wrHead dur T n (a % 2) (hdB a b c e)) (fun _ => none) ∧ Lv w' g (walC bp s ⟨a, b, c, e⟩ fv last) := by
  obtain ⟨aa, ab, ac, ad⟩ := A
  have HBG : Hid (bp ≠ g) := hgb
  obtain ⟨r, hr⟩ : ∃ r, r = w.heap.size := ⟨_, rfl⟩
  obtain ⟨w0, hw0⟩ : ∃ y, y = w.alloc (.cells #[.int .i64 (a : Int), .int .i64 (b : Int), .int .i64 (c : Int), .int .i64 (e : Int)] 134) := ⟨_, rfl⟩
  have HK0 : Hid (Kp (fun _ => False) w w0) := by rw [hw0]; exact (Kp.refl _ _).alloc _
  have HH0 : Hid (Lv w0 r (H4.cells ⟨a, b, c, e⟩)) := by rw [hw0, hr]; exact Lv.new _ _ _
  have HL0 : Hid (Lv w0 g (walC bp s ⟨aa, ab, ac, ad⟩ fv last)) := hl.keep HK0.out id
  have HG : Hid (g < w.heap.size ∧ r = w.heap.size ∧ g ≠ d ∧ g ≠ m ∧ d < w.heap.size ∧ m < w.heap.size) := ⟨hl.lt (by simp), hr, hgd, hgm, h.row.lt, h.mp.lt⟩
  have HW : Hid (∀ u, Kp (fun _ => False) w u → Calls Tryz.prog 184 #[ringV bp s, headV a b c e] u fun e9 w' => e9 = .returned .nilIface ∧ Kp (fun x => x = d ∨ x = m) u w' ∧ Pt w' bp d m n 0 (wrHead dur T n (a % 2) (hdB a b c e)) (fun _ => none)) := fun u k => writeHead_ok (h.keep0 k) hq hn2 s a b c e ha hb hc he (fun j hj => k.cellv (ht j hj) id)
  have p0 := HH0.out.cell (j := 0) rfl
  have p1 := HH0.out.cell (j := 1) rfl
  have p2 := HH0.out.cell (j := 2) rfl
  have p3 := HH0.out.cell (j := 3) rfl
  have v0 := HL0.out.cell (j := 0) rfl
  have v1 := HL0.out.cell (j := 1) rfl
  have hnn := nil_neq
  have kd := HK0.out.drew
  clear h hq hn2 hl ha hb hc he ht hgd hgm hgb
  go_enter Tryz.func145, Tryz.ntmps145
  go_upto_region 1 with fail
  rw [← hw0, ← hr]
  clear hw0 hr
  go_region_with (go_at_call 184; refine (HW.out _ kd).mono ?_; rintro e9 w1 ⟨rfl, k1, pt1⟩)
  all_goals
    have HK1 : Hid (Kp (fun x => x = d ∨ x = m ∨ x = g) w w1) := (kd.mono (fun _ _ e => e.elim)).trans k1 (fun _ _ e => e.elim Or.inl (fun e => Or.inr (Or.inl e)))
    have HK01 : Hid (Kp (fun x => x = d ∨ x = m) w0 w1) := ((Kp.refl (fun _ => False) w0).drew.mono (fun _ _ e => e.elim)).trans k1 (fun _ _ e => e)
    have HL1 : Hid (Lv w1 g (walC bp s ⟨aa, ab, ac, ad⟩ fv last)) := HL0.out.keep HK01.out (fun e => by have := HG.out; omega)
    have HH1 : Lv w1 r (H4.cells ⟨a, b, c, e⟩) := HH0.out.keep HK01.out (fun e => by have := HG.out; omega)
    have HP1 : Hid (Pt w1 bp d m n 0 (wrHead dur T n (a % 2) (hdB a b c e)) (fun _ => none)) := pt1
    clear p0 p1 p2 p3 v0 v1 k1 pt1 kd
    have p0 := HH1.cell (j := 0) rfl
    have p1 := HH1.cell (j := 1) rfl
    have p2 := HH1.cell (j := 2) rfl
    have p3 := HH1.cell (j := 3) rfl
    have v2 := HL1.out.cell (j := 2) rfl
    have v3 := HL1.out.cell (j := 3) rfl
    have v4 := HL1.out.cell (j := 4) rfl
    have v5 := HL1.out.cell (j := 5) rfl
    have f2 := HL1.out.fz (j := 2) (show 2 < 8 by decide)
    have f3 := HL1.out.fz (j := 3) (show 3 < 8 by decide)
    have f4 := HL1.out.fz (j := 4) (show 4 < 8 by decide)
    have f5 := HL1.out.fz (j := 5) (show 5 < 8 by decide)
    have HS : Hid (_ ∧ _) := lv_head HL1.out (.int .i64 (a : Int)) (.int .i64 (b : Int)) (.int .i64 (c : Int)) (.int .i64 (e : Int))
    obtain ⟨w5, hw5⟩ : ∃ y, y = (((w1.setCell ⟨g, 2, none⟩ (.int .i64 (a : Int))).setCell ⟨g, 3, none⟩ (.int .i64 (b : Int))).setCell ⟨g, 4, none⟩ (.int .i64 (c : Int))).setCell ⟨g, 5, none⟩ (.int .i64 (e : Int)) := ⟨_, rfl⟩
    have hs5 := HS.out
    rw [← hw5] at hs5
    have HF : Hid (Kp (fun x => x = d ∨ x = m ∨ x = g) w w5 ∧ Pt w5 bp d m n 0 (wrHead dur T n (a % 2) (hdB a b c e)) (fun _ => none) ∧ Lv w5 g (walC bp s ⟨a, b, c, e⟩ fv last)) := ⟨HK1.out.trans hs5.2 (fun _ _ e => Or.inr (Or.inr e)), HP1.out.keep hs5.2 HBG.out (fun e => by have := HG.out; omega) (fun e => by have := HG.out; omega), hs5.1⟩
    clear hs5 HH1
    go_simp
    go_wp2
    rw [← hw5]
    go_ret
    exact ⟨rfl, HF.out⟩
end Go.Proofs.YtippipeebkkghaaGreatDoor
