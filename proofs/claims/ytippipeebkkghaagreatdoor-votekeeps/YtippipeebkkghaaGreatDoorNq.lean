/- frame's cursor: upTo, number, done. -/
import Derived.Test.YtippipeebkkghaaGreatDoorNp
import Derived.Test.YtippipeebkkghaaGreatDoorFu
namespace Go.Proofs.YtippipeebkkghaaGreatDoor
set_option linter.unusedVariables false
set_option linter.unusedSimpArgs false
set_option linter.unnecessarySimpa false
open Go.RowKit Go.Deep

theorem hf_val (xs : List Nat) : hf xs = valB xs := rfl
theorem need_noB (pv : Value) (w : World) (b : Bool) (hb : b = false) : Calls Tryz.prog 109 #[pv, .bool b] w fun e w' => e = .panicked gaveUp ∧ w' = w := by
  subst hb
  exact need_no pv w
theorem need_yesB (pv : Value) (w : World) (b : Bool) (hb : b = true) : Calls Tryz.prog 109 #[pv, .bool b] w fun e w' => (∃ v, e = .returned v) ∧ w' = w := by
  subst hb
  exact need_yes pv w
/-- what upTo answers -/
def UpRes (Z : Nat → Prop) (r most : Nat) (xs : List Nat) (w : World) (e : Ending) (w' : World) : Prop := match rdNum most xs with
  | some (n, t) => e = .returned (.int .i64 (n : Int)) ∧ Cu Z w' r t
  | none => e = .panicked gaveUp

set_option maxRecDepth 100000 in
set_option maxHeartbeats 3200000 in
theorem upTo_ok {Z : Nat → Prop} (r most : Nat) (xs : List Nat) (w : World) (h : Cu Z w r xs) (hm : most ≤ 1152921504606846976) (hb : ∀ x ∈ xs, x < 256) : Calls Tryz.prog 155 #[.pointer (some ⟨r, 0, none⟩), .int .i64 most] w fun e w' => UpRes Z r most xs w e w' ∧ Kp (fun b => b = r) w w' := by
  have HNy : Hid (∀ u, Calls _ _ _ u _) := need_yes (.pointer (some ⟨r, 0, none⟩))
  have HNn : Hid (∀ u b, b = false → Calls _ _ _ u _) := need_noB (.pointer (some ⟨r, 0, none⟩))
  have HNb : Hid (∀ u b, b = true → Calls _ _ _ u _) := need_yesB (.pointer (some ⟨r, 0, none⟩))
  have hmi : (most : Int) ≤ 1152921504606846976 := by omega
  cases xs with
  | nil =>
    have HT : Hid (Calls _ _ _ w _) := take_no r 1 [] w h (by decide)
    clear h hb hm
    go_enter Tryz.func155, Tryz.ntmps155
    go_wp2_with fail
    refine HT.out.mono ?_
    rintro e9 w9 ⟨rfl, hw9⟩
    have hw8 := hw9.symm
    subst hw8
    exact ⟨rfl, rfl, Kp.refl _ _⟩
  | cons x t =>
    have hx : x < 256 := hb x (List.mem_cons_self ..)
    have HT : Hid (Calls _ _ _ w _) := take_yes r 1 (x :: t) w h (by simp)
    have HB : Hid (∀ y ∈ t, y < 256) := fun y hy => hb y (List.mem_cons_of_mem _ hy)
    have HM : Hid (most ≤ 1152921504606846976) := hm
    have hxi : (x : Int) < 256 := by omega
    clear h hb hm
    go_enter Tryz.func155, Tryz.ntmps155
    go_wp2_with fail
    refine HT.out.mono ?_
    rintro e9 w1 ⟨q1, rfl, r1, c1, k1, _⟩
    obtain ⟨b1, o1, rfl, hc1⟩ := r1.cell 0 (by decide)
    have hc1' : w1.cell? ⟨b1, o1, none⟩ = some (.int .u8 (x : Int)) := hc1
    have HC1 : Hid (Cu Z w1 r t) := c1
    have HK1 : Hid (Kp (fun b => b = r) w w1) := k1
    clear HT r1 hc1 c1 k1
    by_cases h8 : x ≤ 8
    · have h8i : (x : Int) ≤ 8 := by omega
      go_wp2_with fail
      refine (HNy.out w1).mono ?_
      rintro e9 w9 ⟨⟨v9, rfl⟩, hw9⟩
      have hw8 := hw9.symm
      subst hw8
      clear hw9
      by_cases hl : x ≤ t.length
      · have HT2 : Hid (Calls _ _ _ w1 _) := take_yes r x t w1 HC1.out hl
        go_wp2_with fail
        refine HT2.out.mono ?_
        rintro e9 w2 ⟨q2, rfl, r2, c2, k2, _⟩
        have HR2 : Hid (Rb w2 q2 x (t.take x)) := r2
        have HC2 : Hid (Cu Z w2 r (t.drop x)) := c2
        have HK2 : Hid (Kp (fun b => b = r) w w2) := HK1.out.trans k2 (fun _ _ e => e)
        clear HT2 r2 c2 k2 hc1'
        obtain ⟨V, hV⟩ : ∃ V, V = valB (t.take x) := ⟨_, rfl⟩
        have HVe : Hid (V = valB (t.take x)) := hV
        have hV64 : V < 18446744073709551616 := by
          have h9 := valB_lt (t.take x) (fun y hy => HB.out y (List.mem_of_mem_take hy))
          have h10 : (t.take x).length ≤ 8 := by rw [List.length_take]; omega
          have h11 : 256 ^ (t.take x).length ≤ 256 ^ 8 := Nat.pow_le_pow_right (by decide) h10
          have h12 : (256 : Nat) ^ 8 = 18446744073709551616 := rfl
          omega
        have hV64i : (V : Int) < 18446744073709551616 := by omega
        have HH : Hid (∀ u, Rb u q2 x (t.take x) → Calls Tryz.prog 197 #[.slice q2 x x] u fun e w' => e = .returned (.int .u64 (V : Int)) ∧ w' = u) := fun u hu => by
          have := highest_any q2 x x (t.take x) u hu h8i
          rw [hf_val, ← hV] at this
          exact this
        clear hV
        by_cases h0 : x = 0
        · subst h0
          have HHd : Hid ((t.take 0).head? ≠ some 0) := fun h => (by cases h)
          go_wp2_with fail
          refine (HNb.out w2 _ (by first | rfl | simp)).mono ?_
          rintro e9 w9 ⟨⟨v9, rfl⟩, hw9⟩
          have hw8 := hw9.symm
          subst hw8
          clear hw9
          go_wp2_with fail
          refine (HH.out w2 HR2.out).mono ?_
          rintro e9 w9 ⟨rfl, hw9⟩
          have hw8 := hw9.symm
          subst hw8
          clear hw9
          by_cases hv : V ≤ most
          · have hvi : (V : Int) ≤ (most : Int) := by omega
            have HV : Hid (rdNum most (0 :: t) = some (V, t.drop 0)) := by
              show _ = _
              rw [rdNum_cons, if_pos ⟨h8, hl, HHd.out, by rw [← HVe.out]; exact hv⟩, ← HVe.out]
            go_wp2_with fail
            refine (HNb.out w2 _ (by simpa using hvi)).mono ?_
            rintro e9 w9 ⟨⟨v8, rfl⟩, hw9⟩
            have hw8 := hw9.symm
            subst hw8
            clear hw9
            have hvm : (V : Int) ≤ 1152921504606846976 := by have := HM.out; omega
            go_wp2_with fail
            go_ret
            refine ⟨?_, HK2.out⟩
            unfold UpRes
            rw [HV.out]
            exact ⟨by first | rfl | go_num, HC2.out⟩
          · have hvi : ¬ (V : Int) ≤ (most : Int) := by omega
            have HV : Hid (rdNum most (0 :: t) = none) := by
              show _ = _
              rw [rdNum_cons, if_neg (fun h => hv (by rw [HVe.out]; exact h.2.2.2))]
            go_wp2_with fail
            refine (HNn.out w2 _ (by simpa using hvi)).mono ?_
            rintro e9 w9 ⟨rfl, hw9⟩
            have hw8 := hw9.symm
            subst hw8
            refine ⟨rfl, ?_, HK2.out⟩
            unfold UpRes
            rw [HV.out]
        · have h0i : ¬ (x : Int) = 0 := by omega
          have h0b : ((x : Int) == 0) = false := by simpa using h0i
          obtain ⟨b2, o2, rfl, hc2⟩ := HR2.out.cell 0 (by omega)
          obtain ⟨d0, hd0⟩ : ∃ d, d = (t.take x).getD 0 0 := ⟨_, rfl⟩
          have hc2' : w2.cell? ⟨b2, o2, none⟩ = some (.int .u8 (d0 : Int)) := by rw [hd0]; exact hc2
          have HD0 : Hid ((t.take x).head? = some d0) := by
            show _ = _
            have h9 : 0 < (t.take x).length := by rw [List.length_take]; omega
            rw [hd0, List.head?_eq_getElem?, List.getD_eq_getElem?_getD, List.getElem?_eq_getElem h9]
            rfl
          clear hc2 hd0
          by_cases hd : d0 = 0
          · subst hd
            have HV : Hid (rdNum most (x :: t) = none) := by
              show _ = _
              rw [rdNum_cons, if_neg (fun h => h.2.2.1 HD0.out)]
            go_wp2_with fail
            refine (HNn.out w2 _ (by first | rfl | simp)).mono ?_
            rintro e9 w9 ⟨rfl, hw9⟩
            have hw8 := hw9.symm
            subst hw8
            refine ⟨rfl, ?_, HK2.out⟩
            unfold UpRes
            rw [HV.out]
          · have HHd : Hid ((t.take x).head? ≠ some 0) := fun h => by rw [HD0.out] at h; injection h with h; exact hd h
            have hdi : ((d0 : Int) != 0) = true := by simp; omega
            go_wp2_with fail
            refine (HNb.out w2 _ (by first | rfl | simpa using hdi | simp; omega)).mono ?_
            rintro e9 w9 ⟨⟨v9, rfl⟩, hw9⟩
            have hw8 := hw9.symm
            subst hw8
            clear hw9
            go_wp2_with fail
            refine (HH.out w2 HR2.out).mono ?_
            rintro e9 w9 ⟨rfl, hw9⟩
            have hw8 := hw9.symm
            subst hw8
            clear hw9
            by_cases hv : V ≤ most
            · have hvi : (V : Int) ≤ (most : Int) := by omega
              have HV : Hid (rdNum most (x :: t) = some (V, t.drop x)) := by
                show _ = _
                rw [rdNum_cons, if_pos ⟨h8, hl, HHd.out, by rw [← HVe.out]; exact hv⟩, ← HVe.out]
              go_wp2_with fail
              refine (HNb.out w2 _ (by simpa using hvi)).mono ?_
              rintro e9 w9 ⟨⟨v8, rfl⟩, hw9⟩
              have hw8 := hw9.symm
              subst hw8
              clear hw9
              have hvm : (V : Int) ≤ 1152921504606846976 := by have := HM.out; omega
              go_wp2_with fail
              go_ret
              refine ⟨?_, HK2.out⟩
              unfold UpRes
              rw [HV.out]
              exact ⟨by first | rfl | go_num, HC2.out⟩
            · have hvi : ¬ (V : Int) ≤ (most : Int) := by omega
              have HV : Hid (rdNum most (x :: t) = none) := by
                show _ = _
                rw [rdNum_cons, if_neg (fun h => hv (by rw [HVe.out]; exact h.2.2.2))]
              go_wp2_with fail
              refine (HNn.out w2 _ (by simpa using hvi)).mono ?_
              rintro e9 w9 ⟨rfl, hw9⟩
              have hw8 := hw9.symm
              subst hw8
              refine ⟨rfl, ?_, HK2.out⟩
              unfold UpRes
              rw [HV.out]
      · have HT2 : Hid (Calls _ _ _ w1 _) := take_no r x t w1 HC1.out (by omega)
        have HV : Hid (rdNum most (x :: t) = none) := by show _ = _; rw [rdNum_cons, if_neg (fun h => hl h.2.1)]
        go_wp2_with fail
        refine HT2.out.mono ?_
        rintro e9 w9 ⟨rfl, hw9⟩
        have hw8 := hw9.symm
        subst hw8
        refine ⟨rfl, ?_, HK1.out⟩
        unfold UpRes
        rw [HV.out]
    · have h8i : ¬ (x : Int) ≤ 8 := by omega
      have HV : Hid (rdNum most (x :: t) = none) := by show _ = _; rw [rdNum_cons, if_neg (fun h => h8 h.1)]
      go_wp2_with fail
      refine (HNn.out w1 _ (by simpa using h8i)).mono ?_
      rintro e9 w9 ⟨rfl, hw9⟩
      have hw8 := hw9.symm
      subst hw8
      refine ⟨rfl, ?_, HK1.out⟩
      unfold UpRes
      rw [HV.out]
end Go.Proofs.YtippipeebkkghaaGreatDoor
