/- Heaps: down; Push and Pop; left, take. -/
import Derived.Test.YtneobpdbfbcnmaaHe
namespace Go.Proofs.Ytneobpdbfbcnmaa
set_option linter.unusedVariables false
open Go.RowKit Go.Deep

theorem kid_le (ld : Nat → Nat) (l : List Nat) (i n : Nat) : i < kid ld l i n ∧ (¬ n ≤ 2 * i + 1 → kid ld l i n < n) := by
  unfold kid
  by_cases h : 2 * i + 2 < n ∧ ld (l.getD (2 * i + 2) 0) < ld (l.getD (2 * i + 1) 0)
  · rw [if_pos h]; omega
  · rw [if_neg h]; omega
theorem downF_fuel (ld : Nat → Nat) : ∀ f f' l i n, n ≤ i + f → n ≤ i + f' → downF ld f l i n = downF ld f' l i n
  | 0, 0, _, _, _, _, _ => rfl
  | 0, f' + 1, l, i, n, h, _ => by rw [downF_succ, if_pos (by omega)]; rfl
  | f + 1, 0, l, i, n, _, h => by rw [downF_succ, if_pos (by omega)]; rfl
  | f + 1, f' + 1, l, i, n, h, h' => by
    rw [downF_succ, downF_succ]
    by_cases e : n ≤ 2 * i + 1
    · rw [if_pos e, if_pos e]
    · rw [if_neg e, if_neg e]
      by_cases e2 : ld (l.getD (kid ld l i n) 0) < ld (l.getD i 0)
      · rw [if_pos e2, if_pos e2]
        have := (kid_le ld l i n).1
        exact downF_fuel ld f f' _ _ _ (by omega) (by omega)
      · rw [if_neg e2, if_neg e2]

set_option maxRecDepth 100000 in
set_option maxHeartbeats 3200000 in
theorem hdown {w : World} {base h g cap : Nat} {nd : Nat → Int} {ld : Nat → Nat} {l : List Nat} (x : Hp w base h g cap nd ld l) (n : Nat) (hn : n < l.length) (hl : l.length ≤ 100) :
    Calls Try.prog 50 #[.iface 51 (.pointer (some ⟨h, 0, none⟩)), .int .i64 0, .int .i64 n] w fun e w' => (∃ b : Bool, e = .returned (.bool b)) ∧ Kp (fun b => b = h ∨ b = g) w w' ∧ Hp w' base h g cap nd ld (downF ld l.length l 0 n) := by
  have HX : Hid (Hp w base h g cap nd ld l) := x
  have HL : Hid (n < l.length ∧ l.length ≤ 100) := ⟨hn, hl⟩
  obtain ⟨r, hr⟩ : ∃ r, r = downF ld l.length l 0 n := ⟨_, rfl⟩
  rw [← hr]
  clear x hn hl
  go_enter Try.func50, Try.ntmps50
  go_wp2
  go_loopg [7] (n + 1) (fun gk iv wr => ∃ (i : Nat) (m : List Nat), i ≤ n ∧ gk = n + 1 - i ∧ iv = .int .i64 i ∧ Hid (Kp (fun b => b = h ∨ b = g) w wr) ∧ Hid (Hp wr base h g cap nd ld m) ∧ Hid (m.length = l.length ∧ r = downF ld l.length m i n))
  case atStart => exact ⟨0, l, Nat.zero_le _, rfl, rfl, Kp.refl _ _, HX, ⟨rfl, hr⟩⟩
  case round =>
    obtain ⟨i, m, hi, rfl, rfl, HK, HM, HR⟩ := hrel
    clear hr
    have HI : Hid (m.length ≤ 100 ∧ n < m.length ∧ i ≤ n) := by show _ ∧ _; have h1 := HR.out.1; have h2 := HL.out; omega
    obtain ⟨p, hp⟩ : ∃ p, p = 2 * i := ⟨_, rfl⟩
    obtain ⟨j1, hj1⟩ : ∃ j1, j1 = 2 * i + 1 := ⟨_, rfl⟩
    obtain ⟨j2, hj2⟩ : ∃ j2, j2 = 2 * i + 2 := ⟨_, rfl⟩
    have hw1 : wrap64 (2 * (i : Int)) = (p : Int) := by have := HI.out; unfold wrap64; omega
    have hw2 : wrap64 ((p : Int) + 1) = (j1 : Int) := by have := HI.out; unfold wrap64; omega
    have hw3 : wrap64 ((j1 : Int) + 1) = (j2 : Int) := by have := HI.out; unfold wrap64; omega
    have HJ : Hid (j1 = 2 * i + 1 ∧ j2 = 2 * i + 2) := ⟨hj1, hj2⟩
    clear hp
    by_cases hge : n ≤ j1
    · have hge2 : (j1 : Int) ≥ (n : Int) := by omega
      have HRm : Hid (r = m) := by
        show r = m
        rw [HR.out.2, downF_fuel ld _ (l.length + 1) _ _ _ (by have := HL.out; omega) (by have := HL.out; omega), downF_succ, if_pos (by have := HJ.out; omega)]
      clear hj1 hj2
      go_wp2
      go_ret
      exact ⟨⟨_, rfl⟩, HK.out, by rw [HRm.out]; exact HM.out⟩
    · have hlt1 : (j1 : Int) < (n : Int) := by omega
      have hnn : ¬ ((j1 : Int) < 0) := by omega
      have HSt : Hid (r = (if ld (m.getD (kid ld m i n) 0) < ld (m.getD i 0) then downF ld l.length (swp m i (kid ld m i n)) (kid ld m i n) n else m)) := by
        show r = _
        rw [HR.out.2, downF_fuel ld _ (l.length + 1) _ _ _ (by have := HL.out; omega) (by have := HL.out; omega), downF_succ, if_neg (by have := HJ.out; omega)]
      have hj1n : j1 < n := by omega
      clear hge hj1 hj2
      by_cases h2n : j2 < n
      · have h2i : (j2 : Int) < (n : Int) := by omega
        have hs1 := mLess HM.out.c0
        have HE : Hid (Calls _ _ _ wr _) := hless HM.out j2 j1 (by have := HI.out; omega) (by have := HI.out; omega)
        obtain ⟨d, hd⟩ : ∃ d, d = decide (ld (m.getD j2 0) < ld (m.getD j1 0)) := ⟨_, rfl⟩
        have HD : Hid (d = decide (ld (m.getD j2 0) < ld (m.getD j1 0))) := hd
        rw [← hd] at HE
        clear hd
        go_wp2_with fail
        refine HE.out.mono ?_
        rintro e w1 ⟨rfl, k1⟩
        have HM1 : Hid (Hp w1 base h g cap nd ld m) := HM.out.keep0 k1
        have HK1 : Hid (Kp (fun b => b = h ∨ b = g) w w1) := HK.out.trans k1 (fun _ _ e => e.elim)
        clear HE k1 hs1
        cases d with
        | true =>
          have HKd : Hid (kid ld m i n = j2) := by
            show kid ld m i n = j2
            unfold kid
            rw [← HJ.out.1, ← HJ.out.2]
            rw [if_pos ⟨h2n, of_decide_eq_true HD.out.symm⟩]
          have HKl : Hid (j2 < n ∧ i < j2) := by show _ ∧ _; have := HJ.out; omega
          have hs9 := mLess HM1.out.c0
          have HE9 : Hid (Calls _ _ _ w1 _) := hless HM1.out j2 i (by have := HI.out; have := HKl.out; omega) (by have := HI.out; omega)
          obtain ⟨d9, hd9⟩ : ∃ d, d = decide (ld (m.getD j2 0) < ld (m.getD i 0)) := ⟨_, rfl⟩
          have HD9 : Hid (d9 = decide (ld (m.getD j2 0) < ld (m.getD i 0))) := hd9
          rw [← hd9] at HE9
          clear hd9
          go_wp2_with fail
          refine HE9.out.mono ?_
          rintro e w9 ⟨rfl, k9⟩
          have HM9 : Hid (Hp w9 base h g cap nd ld m) := HM1.out.keep0 k9
          have HK9 : Hid (Kp (fun b => b = h ∨ b = g) w w9) := HK1.out.trans k9 (fun _ _ e => e.elim)
          clear HE9 k9 hs9
          cases d9 with
          | false =>
            have HRm : Hid (r = m) := by
              show r = m
              rw [HSt.out, HKd.out, if_neg (of_decide_eq_false HD9.out.symm)]
            go_wp2
            go_ret
            exact ⟨⟨_, rfl⟩, HK9.out, by rw [HRm.out]; exact HM9.out⟩
          | true =>
            have hs8 := mSwap HM9.out.c0
            have HE8 : Hid (Calls _ _ _ w9 _) := hswap HM9.out i j2 (by have := HI.out; omega) (by have := HI.out; have := HKl.out; omega)
            have HRn : Hid (r = downF ld l.length (swp m i j2) j2 n) := by
              show r = _
              rw [HSt.out, HKd.out, if_pos (of_decide_eq_true HD9.out.symm)]
            go_wp2_with fail
            refine HE8.out.mono ?_
            rintro e w8 ⟨rfl, k8, h8⟩
            have HM8 : Hid (Hp w8 base h g cap nd ld (swp m i j2)) := h8
            have HK8 : Hid (Kp (fun b => b = h ∨ b = g) w w8) := HK9.out.trans k8 (fun b _ e => Or.inr e)
            clear HE8 h8 k8 hs8
            go_wp2
            go_roundg (n + 1 - j2)
            case rel => exact ⟨j2, swp m i j2, by have := HKl.out; omega, rfl, rfl, HK8, HM8, ⟨by rw [swp_len]; exact HR.out.1, HRn.out⟩⟩
            case measure => have := HKl.out; omega
        | false =>
          have HKd : Hid (kid ld m i n = j1) := by
            show kid ld m i n = j1
            unfold kid
            rw [← HJ.out.1, ← HJ.out.2]
            rw [if_neg (fun e => of_decide_eq_false HD.out.symm e.2)]
          have HKl : Hid (j1 < n ∧ i < j1) := by show _ ∧ _; have := HJ.out; omega
          have hs9 := mLess HM1.out.c0
          have HE9 : Hid (Calls _ _ _ w1 _) := hless HM1.out j1 i (by have := HI.out; have := HKl.out; omega) (by have := HI.out; omega)
          obtain ⟨d9, hd9⟩ : ∃ d, d = decide (ld (m.getD j1 0) < ld (m.getD i 0)) := ⟨_, rfl⟩
          have HD9 : Hid (d9 = decide (ld (m.getD j1 0) < ld (m.getD i 0))) := hd9
          rw [← hd9] at HE9
          clear hd9
          go_wp2_with fail
          refine HE9.out.mono ?_
          rintro e w9 ⟨rfl, k9⟩
          have HM9 : Hid (Hp w9 base h g cap nd ld m) := HM1.out.keep0 k9
          have HK9 : Hid (Kp (fun b => b = h ∨ b = g) w w9) := HK1.out.trans k9 (fun _ _ e => e.elim)
          clear HE9 k9 hs9
          cases d9 with
          | false =>
            have HRm : Hid (r = m) := by
              show r = m
              rw [HSt.out, HKd.out, if_neg (of_decide_eq_false HD9.out.symm)]
            go_wp2
            go_ret
            exact ⟨⟨_, rfl⟩, HK9.out, by rw [HRm.out]; exact HM9.out⟩
          | true =>
            have hs8 := mSwap HM9.out.c0
            have HE8 : Hid (Calls _ _ _ w9 _) := hswap HM9.out i j1 (by have := HI.out; omega) (by have := HI.out; have := HKl.out; omega)
            have HRn : Hid (r = downF ld l.length (swp m i j1) j1 n) := by
              show r = _
              rw [HSt.out, HKd.out, if_pos (of_decide_eq_true HD9.out.symm)]
            go_wp2_with fail
            refine HE8.out.mono ?_
            rintro e w8 ⟨rfl, k8, h8⟩
            have HM8 : Hid (Hp w8 base h g cap nd ld (swp m i j1)) := h8
            have HK8 : Hid (Kp (fun b => b = h ∨ b = g) w w8) := HK9.out.trans k8 (fun b _ e => Or.inr e)
            clear HE8 h8 k8 hs8
            go_wp2
            go_roundg (n + 1 - j1)
            case rel => exact ⟨j1, swp m i j1, by have := HKl.out; omega, rfl, rfl, HK8, HM8, ⟨by rw [swp_len]; exact HR.out.1, HRn.out⟩⟩
            case measure => have := HKl.out; omega
      · have h2i : ¬ ((j2 : Int) < (n : Int)) := by omega
        have HKd : Hid (kid ld m i n = j1) := by
          show kid ld m i n = j1
          unfold kid
          rw [← HJ.out.1, ← HJ.out.2]
          rw [if_neg (fun e => h2n e.1)]
        have HKl : Hid (j1 < n ∧ i < j1) := by show _ ∧ _; have := HJ.out; omega
        have hs9 := mLess HM.out.c0
        have HE9 : Hid (Calls _ _ _ wr _) := hless HM.out j1 i (by have := HI.out; have := HKl.out; omega) (by have := HI.out; omega)
        obtain ⟨d9, hd9⟩ : ∃ d, d = decide (ld (m.getD j1 0) < ld (m.getD i 0)) := ⟨_, rfl⟩
        have HD9 : Hid (d9 = decide (ld (m.getD j1 0) < ld (m.getD i 0))) := hd9
        rw [← hd9] at HE9
        clear hd9
        go_wp2_with fail
        refine HE9.out.mono ?_
        rintro e w9 ⟨rfl, k9⟩
        have HM9 : Hid (Hp w9 base h g cap nd ld m) := HM.out.keep0 k9
        have HK9 : Hid (Kp (fun b => b = h ∨ b = g) w w9) := HK.out.trans k9 (fun _ _ e => e.elim)
        clear HE9 k9 hs9
        cases d9 with
        | false =>
          have HRm : Hid (r = m) := by
            show r = m
            rw [HSt.out, HKd.out, if_neg (of_decide_eq_false HD9.out.symm)]
          go_wp2
          go_ret
          exact ⟨⟨_, rfl⟩, HK9.out, by rw [HRm.out]; exact HM9.out⟩
        | true =>
          have hs8 := mSwap HM9.out.c0
          have HE8 : Hid (Calls _ _ _ w9 _) := hswap HM9.out i j1 (by have := HI.out; omega) (by have := HI.out; have := HKl.out; omega)
          have HRn : Hid (r = downF ld l.length (swp m i j1) j1 n) := by
            show r = _
            rw [HSt.out, HKd.out, if_pos (of_decide_eq_true HD9.out.symm)]
          go_wp2_with fail
          refine HE8.out.mono ?_
          rintro e w8 ⟨rfl, k8, h8⟩
          have HM8 : Hid (Hp w8 base h g cap nd ld (swp m i j1)) := h8
          have HK8 : Hid (Kp (fun b => b = h ∨ b = g) w w8) := HK9.out.trans k8 (fun b _ e => Or.inr e)
          clear HE8 h8 k8 hs8
          go_wp2
          go_roundg (n + 1 - j1)
          case rel => exact ⟨j1, swp m i j1, by have := HKl.out; omega, rfl, rfl, HK8, HM8, ⟨by rw [swp_len]; exact HR.out.1, HRn.out⟩⟩
          case measure => have := HKl.out; omega
end Go.Proofs.Ytneobpdbfbcnmaa
