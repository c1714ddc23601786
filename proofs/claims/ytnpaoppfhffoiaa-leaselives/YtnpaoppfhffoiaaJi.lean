/- Heaps: down, of shards that wait. -/
import Derived.Test.YtnpaoppfhffoiaaJg
namespace Go.Proofs.Ytnpaoppfhffoiaa
set_option linter.unusedVariables false
open Go.RowKit Go.Deep Go.Maps

/-- which of the two below i, of n, is to be held against it -/
def kidW (l : List Wt) (i n : Nat) : Nat := if 2 * i + 2 < n ∧ (l.getD (2 * i + 2) wt0).t < (l.getD (2 * i + 1) wt0).t then 2 * i + 2 else 2 * i + 1
/-- the one at i goes down, among the first n; and where it comes to -/
def downW : Nat → List Wt → Nat → Nat → List Wt × Nat
  | 0, l, i, _ => (l, i)
  | f + 1, l, i, n => if n ≤ 2 * i + 1 then (l, i) else if (l.getD (kidW l i n) wt0).t < (l.getD i wt0).t then downW f (swW l i (kidW l i n)) (kidW l i n) n else (l, i)
theorem downW_succ (f : Nat) (l : List Wt) (i n : Nat) : downW (f + 1) l i n = if n ≤ 2 * i + 1 then (l, i) else if (l.getD (kidW l i n) wt0).t < (l.getD i wt0).t then downW f (swW l i (kidW l i n)) (kidW l i n) n else (l, i) := rfl
theorem kidW_le (l : List Wt) (i n : Nat) : i < kidW l i n ∧ (¬ n ≤ 2 * i + 1 → kidW l i n < n) := by
  unfold kidW
  by_cases h : 2 * i + 2 < n ∧ (l.getD (2 * i + 2) wt0).t < (l.getD (2 * i + 1) wt0).t
  · rw [if_pos h]; omega
  · rw [if_neg h]; omega
theorem downW_fuel : ∀ f f' l i n, n ≤ i + f → n ≤ i + f' → downW f l i n = downW f' l i n
  | 0, 0, _, _, _, _, _ => rfl
  | 0, f' + 1, l, i, n, h, _ => by rw [downW_succ, if_pos (by omega)]; rfl
  | f + 1, 0, l, i, n, _, h => by rw [downW_succ, if_pos (by omega)]; rfl
  | f + 1, f' + 1, l, i, n, h, h' => by
    rw [downW_succ, downW_succ]
    by_cases e : n ≤ 2 * i + 1
    · rw [if_pos e, if_pos e]
    · rw [if_neg e, if_neg e]
      by_cases e2 : (l.getD (kidW l i n) wt0).t < (l.getD i wt0).t
      · rw [if_pos e2, if_pos e2]
        have := (kidW_le l i n).1
        exact downW_fuel f f' _ _ _ (by omega) (by omega)
      · rw [if_neg e2, if_neg e2]


set_option maxRecDepth 100000 in
set_option maxHeartbeats 3200000 in
theorem wdown {w : World} {h mb : Nat} {v : Value} {l : List Wt} (x : Hw w h mb v l) (i0 n : Nat) (hi0 : i0 ≤ n) (hn : n < l.length) (hl : l.length ≤ 1000) :
    Calls Try.prog 54 #[.iface 52 (.pointer (some ⟨h, 0, none⟩)), .int .i64 i0, .int .i64 n] w fun e w' => e = .returned (.bool (decide (i0 < (downW l.length l i0 n).2))) ∧ Kp (Hs h mb v) w w' ∧ Hw w' h mb v (downW l.length l i0 n).1 := by
  have HX : Hid (Hw w h mb v l) := x
  have HL : Hid (n < l.length ∧ l.length ≤ 1000 ∧ i0 ≤ n) := ⟨hn, hl, hi0⟩
  obtain ⟨r, hr⟩ : ∃ r, r = downW l.length l i0 n := ⟨_, rfl⟩
  rw [← hr]
  clear x hn hl hi0
  go_enter Try.func54, Try.ntmps54
  go_wp2
  go_loopg [7] (n + 1 - i0) (fun gk iv wr => ∃ (i : Nat) (m : List Wt), i ≤ n ∧ gk = n + 1 - i ∧ iv = .int .i64 i ∧ Hid (Kp (Hs h mb v) w wr) ∧ Hid (Hw wr h mb v m) ∧ Hid (m.length = l.length ∧ r = downW l.length m i n))
  case atStart => exact ⟨i0, l, HL.out.2.2, rfl, rfl, Kp.refl _ _, HX, ⟨rfl, hr⟩⟩
  case round =>
    obtain ⟨i, m, hi, rfl, rfl, HK, HM, HR⟩ := hrel
    clear hr
    have HI : Hid (m.length ≤ 1000 ∧ n < m.length ∧ i ≤ n) := by show _ ∧ _; have h1 := HR.out.1; have h2 := HL.out; omega
    obtain ⟨p, hp⟩ : ∃ p, p = 2 * i := ⟨_, rfl⟩
    obtain ⟨j1, hj1⟩ : ∃ j1, j1 = 2 * i + 1 := ⟨_, rfl⟩
    obtain ⟨j2, hj2⟩ : ∃ j2, j2 = 2 * i + 2 := ⟨_, rfl⟩
    have hw1 : wrap64 (2 * (i : Int)) = (p : Int) := by have := HI.out; unfold wrap64; omega
    have hw2 : wrap64 ((p : Int) + 1) = (j1 : Int) := by have := HI.out; unfold wrap64; omega
    have hw3 : wrap64 ((j1 : Int) + 1) = (j2 : Int) := by have := HI.out; unfold wrap64; omega
    have HJ : Hid (j1 = 2 * i + 1 ∧ j2 = 2 * i + 2) := ⟨hj1, hj2⟩
    clear hp
    by_cases hge : n ≤ j1
    · have hge2 : (j1 : Int) ≥ (n : Int) := by omega
      have HRm : Hid (r = (m, i)) := by
        show r = (m, i)
        rw [HR.out.2, downW_fuel _ (l.length + 1) _ _ _ (by have := HL.out; omega) (by have := HL.out; omega), downW_succ, if_pos (by have := HJ.out; omega)]
      clear hj1 hj2
      go_wp2
      go_ret
      exact ⟨by rw [HRm.out]; simp, HK.out, by rw [HRm.out]; exact HM.out⟩
    · have hlt1 : (j1 : Int) < (n : Int) := by omega
      have hnn : ¬ ((j1 : Int) < 0) := by omega
      have HSt : Hid (r = (if (m.getD (kidW m i n) wt0).t < (m.getD i wt0).t then downW l.length (swW m i (kidW m i n)) (kidW m i n) n else (m, i))) := by
        show r = _
        rw [HR.out.2, downW_fuel _ (l.length + 1) _ _ _ (by have := HL.out; omega) (by have := HL.out; omega), downW_succ, if_neg (by have := HJ.out; omega)]
      have hj1n : j1 < n := by omega
      clear hge hj1 hj2
      by_cases h2n : j2 < n
      · have h2i : (j2 : Int) < (n : Int) := by omega
        have hs1 := mLessW (.pointer (some ⟨h, 0, none⟩)) wr
        have HE : Hid (Calls _ _ _ wr _) := wless_ok HM.out j2 j1 (by have := HI.out; omega) (by have := HI.out; omega)
        obtain ⟨d, hd⟩ : ∃ d, d = decide ((m.getD j2 wt0).t < (m.getD j1 wt0).t) := ⟨_, rfl⟩
        have HD : Hid (d = decide ((m.getD j2 wt0).t < (m.getD j1 wt0).t)) := hd
        rw [← hd] at HE
        clear hd
        go_wp2_with fail
        refine HE.out.mono ?_
        rintro e w1 ⟨rfl, k1⟩
        have HM1 : Hid (Hw w1 h mb v m) := HM.out.keep0 k1
        have HK1 : Hid (Kp (Hs h mb v) w w1) := HK.out.trans k1 (fun _ _ e => e.elim)
        clear HE k1 hs1
        cases d with
        | true =>
          have HKd : Hid (kidW m i n = j2) := by
            show kidW m i n = j2
            unfold kidW
            rw [← HJ.out.1, ← HJ.out.2]
            rw [if_pos ⟨h2n, of_decide_eq_true HD.out.symm⟩]
          have HKl : Hid (j2 < n ∧ i < j2) := by show _ ∧ _; have := HJ.out; omega
          have hs9 := mLessW (.pointer (some ⟨h, 0, none⟩)) w1
          have HE9 : Hid (Calls _ _ _ w1 _) := wless_ok HM1.out j2 i (by have := HI.out; have := HKl.out; omega) (by have := HI.out; omega)
          obtain ⟨d9, hd9⟩ : ∃ d, d = decide ((m.getD j2 wt0).t < (m.getD i wt0).t) := ⟨_, rfl⟩
          have HD9 : Hid (d9 = decide ((m.getD j2 wt0).t < (m.getD i wt0).t)) := hd9
          rw [← hd9] at HE9
          clear hd9
          go_wp2_with fail
          refine HE9.out.mono ?_
          rintro e w9 ⟨rfl, k9⟩
          have HM9 : Hid (Hw w9 h mb v m) := HM1.out.keep0 k9
          have HK9 : Hid (Kp (Hs h mb v) w w9) := HK1.out.trans k9 (fun _ _ e => e.elim)
          clear HE9 k9 hs9
          cases d9 with
          | false =>
            have HRm : Hid (r = (m, i)) := by
              show r = (m, i)
              rw [HSt.out, HKd.out, if_neg (of_decide_eq_false HD9.out.symm)]
            go_wp2
            go_ret
            exact ⟨by rw [HRm.out]; simp, HK9.out, by rw [HRm.out]; exact HM9.out⟩
          | true =>
            have hs8 := mSwapW (.pointer (some ⟨h, 0, none⟩)) w9
            have HE8 : Hid (Calls _ _ _ w9 _) := wswap_ok HM9.out i j2 (by have := HI.out; omega) (by have := HI.out; have := HKl.out; omega) HI.out.1
            have HRn : Hid (r = downW l.length (swW m i j2) j2 n) := by
              show r = _
              rw [HSt.out, HKd.out, if_pos (of_decide_eq_true HD9.out.symm)]
            go_wp2_with fail
            refine HE8.out.mono ?_
            rintro e w8 ⟨rfl, k8, h8⟩
            have HM8 : Hid (Hw w8 h mb v (swW m i j2)) := h8
            have HK8 : Hid (Kp (Hs h mb v) w w8) := HK9.out.trans k8 (fun b _ e => e)
            clear HE8 h8 k8 hs8
            go_wp2
            go_roundg (n + 1 - j2)
            case rel => exact ⟨j2, swW m i j2, by have := HKl.out; omega, rfl, rfl, HK8, HM8, ⟨by rw [swW_len]; exact HR.out.1, HRn.out⟩⟩
            case measure => have := HKl.out; omega
        | false =>
          have HKd : Hid (kidW m i n = j1) := by
            show kidW m i n = j1
            unfold kidW
            rw [← HJ.out.1, ← HJ.out.2]
            rw [if_neg (fun e => of_decide_eq_false HD.out.symm e.2)]
          have HKl : Hid (j1 < n ∧ i < j1) := by show _ ∧ _; have := HJ.out; omega
          have hs9 := mLessW (.pointer (some ⟨h, 0, none⟩)) w1
          have HE9 : Hid (Calls _ _ _ w1 _) := wless_ok HM1.out j1 i (by have := HI.out; have := HKl.out; omega) (by have := HI.out; omega)
          obtain ⟨d9, hd9⟩ : ∃ d, d = decide ((m.getD j1 wt0).t < (m.getD i wt0).t) := ⟨_, rfl⟩
          have HD9 : Hid (d9 = decide ((m.getD j1 wt0).t < (m.getD i wt0).t)) := hd9
          rw [← hd9] at HE9
          clear hd9
          go_wp2_with fail
          refine HE9.out.mono ?_
          rintro e w9 ⟨rfl, k9⟩
          have HM9 : Hid (Hw w9 h mb v m) := HM1.out.keep0 k9
          have HK9 : Hid (Kp (Hs h mb v) w w9) := HK1.out.trans k9 (fun _ _ e => e.elim)
          clear HE9 k9 hs9
          cases d9 with
          | false =>
            have HRm : Hid (r = (m, i)) := by
              show r = (m, i)
              rw [HSt.out, HKd.out, if_neg (of_decide_eq_false HD9.out.symm)]
            go_wp2
            go_ret
            exact ⟨by rw [HRm.out]; simp, HK9.out, by rw [HRm.out]; exact HM9.out⟩
          | true =>
            have hs8 := mSwapW (.pointer (some ⟨h, 0, none⟩)) w9
            have HE8 : Hid (Calls _ _ _ w9 _) := wswap_ok HM9.out i j1 (by have := HI.out; omega) (by have := HI.out; have := HKl.out; omega) HI.out.1
            have HRn : Hid (r = downW l.length (swW m i j1) j1 n) := by
              show r = _
              rw [HSt.out, HKd.out, if_pos (of_decide_eq_true HD9.out.symm)]
            go_wp2_with fail
            refine HE8.out.mono ?_
            rintro e w8 ⟨rfl, k8, h8⟩
            have HM8 : Hid (Hw w8 h mb v (swW m i j1)) := h8
            have HK8 : Hid (Kp (Hs h mb v) w w8) := HK9.out.trans k8 (fun b _ e => e)
            clear HE8 h8 k8 hs8
            go_wp2
            go_roundg (n + 1 - j1)
            case rel => exact ⟨j1, swW m i j1, by have := HKl.out; omega, rfl, rfl, HK8, HM8, ⟨by rw [swW_len]; exact HR.out.1, HRn.out⟩⟩
            case measure => have := HKl.out; omega
      · have h2i : ¬ ((j2 : Int) < (n : Int)) := by omega
        have HKd : Hid (kidW m i n = j1) := by
          show kidW m i n = j1
          unfold kidW
          rw [← HJ.out.1, ← HJ.out.2]
          rw [if_neg (fun e => h2n e.1)]
        have HKl : Hid (j1 < n ∧ i < j1) := by show _ ∧ _; have := HJ.out; omega
        have hs9 := mLessW (.pointer (some ⟨h, 0, none⟩)) wr
        have HE9 : Hid (Calls _ _ _ wr _) := wless_ok HM.out j1 i (by have := HI.out; have := HKl.out; omega) (by have := HI.out; omega)
        obtain ⟨d9, hd9⟩ : ∃ d, d = decide ((m.getD j1 wt0).t < (m.getD i wt0).t) := ⟨_, rfl⟩
        have HD9 : Hid (d9 = decide ((m.getD j1 wt0).t < (m.getD i wt0).t)) := hd9
        rw [← hd9] at HE9
        clear hd9
        go_wp2_with fail
        refine HE9.out.mono ?_
        rintro e w9 ⟨rfl, k9⟩
        have HM9 : Hid (Hw w9 h mb v m) := HM.out.keep0 k9
        have HK9 : Hid (Kp (Hs h mb v) w w9) := HK.out.trans k9 (fun _ _ e => e.elim)
        clear HE9 k9 hs9
        cases d9 with
        | false =>
          have HRm : Hid (r = (m, i)) := by
            show r = (m, i)
            rw [HSt.out, HKd.out, if_neg (of_decide_eq_false HD9.out.symm)]
          go_wp2
          go_ret
          exact ⟨by rw [HRm.out]; simp, HK9.out, by rw [HRm.out]; exact HM9.out⟩
        | true =>
          have hs8 := mSwapW (.pointer (some ⟨h, 0, none⟩)) w9
          have HE8 : Hid (Calls _ _ _ w9 _) := wswap_ok HM9.out i j1 (by have := HI.out; omega) (by have := HI.out; have := HKl.out; omega) HI.out.1
          have HRn : Hid (r = downW l.length (swW m i j1) j1 n) := by
            show r = _
            rw [HSt.out, HKd.out, if_pos (of_decide_eq_true HD9.out.symm)]
          go_wp2_with fail
          refine HE8.out.mono ?_
          rintro e w8 ⟨rfl, k8, h8⟩
          have HM8 : Hid (Hw w8 h mb v (swW m i j1)) := h8
          have HK8 : Hid (Kp (Hs h mb v) w w8) := HK9.out.trans k8 (fun b _ e => e)
          clear HE8 h8 k8 hs8
          go_wp2
          go_roundg (n + 1 - j1)
          case rel => exact ⟨j1, swW m i j1, by have := HKl.out; omega, rfl, rfl, HK8, HM8, ⟨by rw [swW_len]; exact HR.out.1, HRn.out⟩⟩
          case measure => have := HKl.out; omega
end Go.Proofs.Ytnpaoppfhffoiaa
