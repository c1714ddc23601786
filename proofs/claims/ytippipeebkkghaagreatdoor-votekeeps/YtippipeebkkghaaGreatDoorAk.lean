/- Whether a sector is the head that it says. -/
import Derived.Test.YtippipeebkkghaaGreatDoorAj
namespace Go.Proofs.YtippipeebkkghaaGreatDoor
set_option linter.unusedVariables false
set_option linter.unusedSimpArgs false
open Go.RowKit Go.Deep

def cntB (n : Int) : Bool := decide (1 ≤ n) && decide (n ≤ 1152921504606846976)
set_option maxRecDepth 100000 in
theorem counts_ok (n : Int) (w : World) : Calls Tryz.prog 180 #[.int .i64 n] w fun e w' => e = .returned (.bool (cntB n)) ∧ w' = w := by
  obtain ⟨a, ha⟩ : ∃ a, a = decide (1 ≤ n) := ⟨_, rfl⟩
  obtain ⟨b, hb⟩ : ∃ b, b = decide (n ≤ 1152921504606846976) := ⟨_, rfl⟩
  have e : cntB n = (a && b) := by rw [ha, hb]; rfl
  rw [e]
  cases a with
  | false =>
    have h1 : ¬ n ≥ 1 := of_decide_eq_false ha.symm
    clear ha hb e
    go_enter Tryz.func180, Tryz.ntmps180
    go_wp2
    go_ret
    exact ⟨rfl, rfl⟩
  | true =>
    have h1 : n ≥ 1 := of_decide_eq_true ha.symm
    cases b with
    | false =>
      have h2 : ¬ n ≤ 1152921504606846976 := of_decide_eq_false hb.symm
      clear ha hb e
      go_enter Tryz.func180, Tryz.ntmps180
      go_wp2
      go_ret
      exact ⟨rfl, rfl⟩
    | true =>
      have h2 : n ≤ 1152921504606846976 := of_decide_eq_true hb.symm
      clear ha hb e
      go_enter Tryz.func180, Tryz.ntmps180
      go_wp2
      go_ret
      exact ⟨rfl, rfl⟩

/-- whether the bytes are that head's, and it may stand there -/
def rightH (a b c d : Int) (xs : List Nat) (s n : Int) : Bool :=
  cntB a && (cntB b && (cntB d && (a.tmod 2 == s && (decide (0 ≤ c) && (decide (c < n) && decide (xs = hdB a.toNat b.toNat c.toNat d.toNat))))))

set_option maxRecDepth 100000 in
set_option maxHeartbeats 1600000 in
theorem hright_ok (a b c d : Int) (g q cp : Nat) (xs : List Nat) (s n : Int) (w : World) (h : Rb w (some ⟨g, q, none⟩) 64 xs) (ht : Turns w) (hn : n ≤ 1152921504606846976) :
    Calls Tryz.prog 142 #[headV a b c d, .slice (some ⟨g, q, none⟩) 64 cp, .int .i64 s, .int .i64 n] w fun e w' => e = .returned (.bool (rightH a b c d xs s n)) ∧ Kp (fun _ => False) w w' := by
  obtain ⟨b1, h1⟩ : ∃ x, x = cntB a := ⟨_, rfl⟩
  obtain ⟨b2, h2⟩ : ∃ x, x = cntB b := ⟨_, rfl⟩
  obtain ⟨b3, h3⟩ : ∃ x, x = cntB d := ⟨_, rfl⟩
  obtain ⟨b4, h4⟩ : ∃ x, x = (a.tmod 2 == s) := ⟨_, rfl⟩
  obtain ⟨b5, h5⟩ : ∃ x, x = decide (0 ≤ c) := ⟨_, rfl⟩
  obtain ⟨b6, h6⟩ : ∃ x, x = decide (c < n) := ⟨_, rfl⟩
  have HR : Hid (Rb w (some ⟨g, q, none⟩) 64 xs) := h
  have HT : Hid (Turns w) := ht
  have C1 : Hid (∀ u, Calls Tryz.prog 180 #[.int .i64 a] u fun e w' => e = .returned (.bool b1) ∧ w' = u) := fun u => by rw [h1]; exact counts_ok a u
  have C2 : Hid (∀ u, Calls Tryz.prog 180 #[.int .i64 b] u fun e w' => e = .returned (.bool b2) ∧ w' = u) := fun u => by rw [h2]; exact counts_ok b u
  have C3 : Hid (∀ u, Calls Tryz.prog 180 #[.int .i64 d] u fun e w' => e = .returned (.bool b3) ∧ w' = u) := fun u => by rw [h3]; exact counts_ok d u
  obtain ⟨r, hr⟩ : ∃ r, r = w.heap.size := ⟨_, rfl⟩
  obtain ⟨w0, hw0⟩ : ∃ y, y = w.alloc (.cells #[.int .i64 a, .int .i64 b, .int .i64 c, .int .i64 d] 134) := ⟨_, rfl⟩
  have HK0 : Hid (Kp (fun _ => False) w w0) := by rw [hw0]; exact (Kp.refl _ _).alloc _
  have HL0 : Hid (Lv w0 r [.int .i64 a, .int .i64 b, .int .i64 c, .int .i64 d]) := by rw [hw0, hr]; exact Lv.new w _ _
  have q0 := HL0.out.cell (j := 0) rfl
  have q1 := HL0.out.cell (j := 1) rfl
  have q2 := HL0.out.cell (j := 2) rfl
  have q3 := HL0.out.cell (j := 3) rfl
  have HE : Hid (rightH a b c d xs s n = (b1 && (b2 && (b3 && (b4 && (b5 && (b6 && decide (xs = hdB a.toNat b.toNat c.toNat d.toNat)))))))) := by rw [h1, h2, h3, h4, h5, h6]; rfl
  clear h ht
  cases b1 with
  | false =>
    rw [HE.out]
    simp only [Bool.false_and, Bool.true_and]
    clear h1 h2 h3 h4 h5 h6 HE
    go_enter Tryz.func142, Tryz.ntmps142
    go_upto_region 1 with fail
    rw [← hw0, ← hr]
    clear hw0 hr
    go_wp2_with fail
    refine (C1.out _).mono ?_
    rintro e9 w9 ⟨rfl, hw9⟩
    have hw8 := hw9.symm
    subst hw8
    clear hw9 C1
    go_wp2
    go_ret
    exact ⟨rfl, HK0.out⟩
  | true =>
    cases b2 with
    | false =>
      rw [HE.out]
      simp only [Bool.false_and, Bool.true_and]
      clear h1 h2 h3 h4 h5 h6 HE
      go_enter Tryz.func142, Tryz.ntmps142
      go_upto_region 1 with fail
      rw [← hw0, ← hr]
      clear hw0 hr
      go_wp2_with fail
      refine (C1.out _).mono ?_
      rintro e9 w9 ⟨rfl, hw9⟩
      have hw8 := hw9.symm
      subst hw8
      clear hw9 C1
      go_wp2_with fail
      refine (C2.out _).mono ?_
      rintro e9 w9 ⟨rfl, hw9⟩
      have hw8 := hw9.symm
      subst hw8
      clear hw9 C2
      go_wp2
      go_ret
      exact ⟨rfl, HK0.out⟩
    | true =>
      cases b3 with
      | false =>
        rw [HE.out]
        simp only [Bool.false_and, Bool.true_and]
        clear h1 h2 h3 h4 h5 h6 HE
        go_enter Tryz.func142, Tryz.ntmps142
        go_upto_region 1 with fail
        rw [← hw0, ← hr]
        clear hw0 hr
        go_wp2_with fail
        refine (C1.out _).mono ?_
        rintro e9 w9 ⟨rfl, hw9⟩
        have hw8 := hw9.symm
        subst hw8
        clear hw9 C1
        go_wp2_with fail
        refine (C2.out _).mono ?_
        rintro e9 w9 ⟨rfl, hw9⟩
        have hw8 := hw9.symm
        subst hw8
        clear hw9 C2
        go_wp2_with fail
        refine (C3.out _).mono ?_
        rintro e9 w9 ⟨rfl, hw9⟩
        have hw8 := hw9.symm
        subst hw8
        clear hw9 C3
        go_wp2
        go_ret
        exact ⟨rfl, HK0.out⟩
      | true =>
        cases b4 with
        | false =>
          rw [HE.out]
          simp only [Bool.false_and, Bool.true_and]
          have g4 : (a.tmod 2 == s) = false := h4.symm
          clear h1 h2 h3 h4 h5 h6 HE
          go_enter Tryz.func142, Tryz.ntmps142
          go_upto_region 1 with fail
          rw [← hw0, ← hr]
          clear hw0 hr
          go_wp2_with fail
          refine (C1.out _).mono ?_
          rintro e9 w9 ⟨rfl, hw9⟩
          have hw8 := hw9.symm
          subst hw8
          clear hw9 C1
          go_wp2_with fail
          refine (C2.out _).mono ?_
          rintro e9 w9 ⟨rfl, hw9⟩
          have hw8 := hw9.symm
          subst hw8
          clear hw9 C2
          go_wp2_with fail
          refine (C3.out _).mono ?_
          rintro e9 w9 ⟨rfl, hw9⟩
          have hw8 := hw9.symm
          subst hw8
          clear hw9 C3
          go_wp2
          go_ret
          exact ⟨rfl, HK0.out⟩
        | true =>
          cases b5 with
          | false =>
            rw [HE.out]
            simp only [Bool.false_and, Bool.true_and]
            have g4 : (a.tmod 2 == s) = true := h4.symm
            have g5 : ¬ c ≥ 0 := of_decide_eq_false h5.symm
            clear h1 h2 h3 h4 h5 h6 HE
            go_enter Tryz.func142, Tryz.ntmps142
            go_upto_region 1 with fail
            rw [← hw0, ← hr]
            clear hw0 hr
            go_wp2_with fail
            refine (C1.out _).mono ?_
            rintro e9 w9 ⟨rfl, hw9⟩
            have hw8 := hw9.symm
            subst hw8
            clear hw9 C1
            go_wp2_with fail
            refine (C2.out _).mono ?_
            rintro e9 w9 ⟨rfl, hw9⟩
            have hw8 := hw9.symm
            subst hw8
            clear hw9 C2
            go_wp2_with fail
            refine (C3.out _).mono ?_
            rintro e9 w9 ⟨rfl, hw9⟩
            have hw8 := hw9.symm
            subst hw8
            clear hw9 C3
            go_wp2
            go_ret
            exact ⟨rfl, HK0.out⟩
          | true =>
            cases b6 with
            | false =>
              rw [HE.out]
              simp only [Bool.false_and, Bool.true_and]
              have g4 : (a.tmod 2 == s) = true := h4.symm
              have g5 : c ≥ 0 := of_decide_eq_true h5.symm
              have g6 : ¬ c < n := of_decide_eq_false h6.symm
              clear h1 h2 h3 h4 h5 h6 HE
              go_enter Tryz.func142, Tryz.ntmps142
              go_upto_region 1 with fail
              rw [← hw0, ← hr]
              clear hw0 hr
              go_wp2_with fail
              refine (C1.out _).mono ?_
              rintro e9 w9 ⟨rfl, hw9⟩
              have hw8 := hw9.symm
              subst hw8
              clear hw9 C1
              go_wp2_with fail
              refine (C2.out _).mono ?_
              rintro e9 w9 ⟨rfl, hw9⟩
              have hw8 := hw9.symm
              subst hw8
              clear hw9 C2
              go_wp2_with fail
              refine (C3.out _).mono ?_
              rintro e9 w9 ⟨rfl, hw9⟩
              have hw8 := hw9.symm
              subst hw8
              clear hw9 C3
              go_wp2
              go_ret
              exact ⟨rfl, HK0.out⟩
            | true =>
              rw [HE.out]
              simp only [Bool.true_and]
              have e1 : 1 ≤ a ∧ a ≤ 1152921504606846976 := by
                have := h1.symm
                unfold cntB at this
                simpa using this
              have e2 : 1 ≤ b ∧ b ≤ 1152921504606846976 := by
                have := h2.symm
                unfold cntB at this
                simpa using this
              have e3 : 1 ≤ d ∧ d ≤ 1152921504606846976 := by
                have := h3.symm
                unfold cntB at this
                simpa using this
              have e5 : 0 ≤ c := of_decide_eq_true h5.symm
              have e6 : c < n := of_decide_eq_true h6.symm
              have HS : Hid (∀ u, Kp (fun _ => False) w0 u → Calls Tryz.prog 181 #[headV a b c d] u fun e w' => ∃ g, u.heap.size ≤ g ∧ e = .returned (.slice (some ⟨g, 0, none⟩) 64 64) ∧ Kp (fun _ => False) u w' ∧ Bk w' u.heap.size g 64 64 (hdB a.toNat b.toNat c.toNat d.toNat)) := fun u ku => by
                have := hsector_ok a.toNat b.toNat c.toNat d.toNat u (by omega) (by omega) (by omega) (by omega) (fun j hj => ku.cellv (HK0.out.cellv (HT.out j hj) id) id)
                rw [Int.toNat_of_nonneg (by omega), Int.toNat_of_nonneg (by omega), Int.toNat_of_nonneg e5, Int.toNat_of_nonneg (by omega)] at this
                exact this
              obtain ⟨ys, hys⟩ : ∃ ys, ys = hdB a.toNat b.toNat c.toNat d.toNat := ⟨_, rfl⟩
              rw [← hys] at HS ⊢
              clear e1 e2 e3 e5 e6 hys
              have g4 : (a.tmod 2 == s) = true := h4.symm
              have g5 : c ≥ 0 := of_decide_eq_true h5.symm
              have g6 : c < n := of_decide_eq_true h6.symm
              clear h1 h2 h3 h4 h5 h6 HE
              go_enter Tryz.func142, Tryz.ntmps142
              go_upto_region 1 with fail
              rw [← hw0, ← hr]
              clear hw0 hr
              go_wp2_with fail
              refine (C1.out _).mono ?_
              rintro e9 w9 ⟨rfl, hw9⟩
              have hw8 := hw9.symm
              subst hw8
              clear hw9 C1
              go_wp2_with fail
              refine (C2.out _).mono ?_
              rintro e9 w9 ⟨rfl, hw9⟩
              have hw8 := hw9.symm
              subst hw8
              clear hw9 C2
              go_wp2_with fail
              refine (C3.out _).mono ?_
              rintro e9 w9 ⟨rfl, hw9⟩
              have hw8 := hw9.symm
              subst hw8
              clear hw9 C3
              go_wp2_with fail
              refine (HS.out _ (Kp.refl _ _)).mono ?_
              rintro e9 w2 ⟨g2, _, rfl, k2, x2⟩
              have HK2 : Hid (Kp (fun _ => False) w w2) := HK0.out.trans k2 (fun _ _ e => e)
              have HQ : Hid (Calls _ _ _ w2 _) := equal_any cp 64 w2 (HR.out.keep0 HK2.out) x2.rb
              clear k2 x2 HS
              go_wp2_with fail
              refine HQ.out.mono ?_
              rintro e9 w9 ⟨rfl, hw9⟩
              have hw8 := hw9.symm
              subst hw8
              clear hw9 HQ
              obtain ⟨b7, h7⟩ : ∃ x, x = decide (xs = ys) := ⟨_, rfl⟩
              rw [← h7]
              have H7 : Hid (b7 = decide (xs = ys)) := h7
              clear h7
              go_wp2
              go_ret
              exact ⟨by show Ending.returned (.bool b7) = _; rw [H7.out], HK2.out⟩
end Go.Proofs.YtippipeebkkghaaGreatDoor
