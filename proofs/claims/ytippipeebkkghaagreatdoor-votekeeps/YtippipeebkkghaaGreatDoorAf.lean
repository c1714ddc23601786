/- A heap of numbers: down (laid by scripts/mkad.py). -/
import Derived.Test.YtippipeebkkghaaGreatDoorAe
namespace Go.Proofs.YtippipeebkkghaaGreatDoor
set_option linter.unusedVariables false
open Go.RowKit Go.Deep

set_option maxRecDepth 100000 in
set_option maxHeartbeats 3200000 in
theorem idown {w : World} {h o g cap : Nat} {pre post : List Value} {l : List Nat} (x : Ip w h o g cap pre post l) (n : Nat) (hn : n < l.length) (hl : l.length ≤ 10000) :
    Calls Tryz.prog 210 #[.iface 275 (.pointer (some ⟨h, o, none⟩)), .int .i64 0, .int .i64 n] w fun e w' => (∃ b : Bool, e = .returned (.bool b)) ∧ Kp (fun b => b = h ∨ b = g) w w' ∧ Ip w' h o g cap pre post (dnI l.length l 0 n) := by
  have HX : Hid (Ip w h o g cap pre post l) := x
  have HL : Hid (n < l.length ∧ l.length ≤ 10000) := ⟨hn, hl⟩
  obtain ⟨r, hr⟩ : ∃ r, r = dnI l.length l 0 n := ⟨_, rfl⟩
  rw [← hr]
  clear x hn hl
  go_enter Tryz.func210, Tryz.ntmps210
  go_wp2
  go_loopg [7] (n + 1) (fun gk iv wr => ∃ (i : Nat) (m : List Nat), i ≤ n ∧ gk = n + 1 - i ∧ iv = .int .i64 i ∧ Hid (Kp (fun b => b = h ∨ b = g) w wr) ∧ Hid (Ip wr h o g cap pre post m) ∧ Hid (m.length = l.length ∧ r = dnI l.length m i n))
  case atStart => exact ⟨0, l, Nat.zero_le _, rfl, rfl, Kp.refl _ _, HX, ⟨rfl, hr⟩⟩
  case round =>
    obtain ⟨i, m, hi, rfl, rfl, HK, HM, HR⟩ := hrel
    clear hr
    have HI : Hid (m.length ≤ 10000 ∧ n < m.length ∧ i ≤ n) := by show _ ∧ _; have h1 := HR.out.1; have h2 := HL.out; omega
    obtain ⟨p, hp⟩ : ∃ p, p = 2 * i := ⟨_, rfl⟩
    obtain ⟨j1, hj1⟩ : ∃ j1, j1 = 2 * i + 1 := ⟨_, rfl⟩
    obtain ⟨j2, hj2⟩ : ∃ j2, j2 = 2 * i + 2 := ⟨_, rfl⟩
    have hw1 : wrap64 (2 * (i : Int)) = (p : Int) := by have := HI.out; unfold wrap64; omega
    have hw2 : wrap64 ((p : Int) + 1) = (j1 : Int) := by have := HI.out; unfold wrap64; omega
    have hw3 : wrap64 ((j1 : Int) + 1) = (j2 : Int) := by have := HI.out; unfold wrap64; omega
    have HJ : Hid (j1 = 2 * i + 1 ∧ j2 = 2 * i + 2) := ⟨hj1, hj2⟩
    clear hp
    by_cases hge : n ≤ j1
    · have hge2 : (j1 : Int) ≥ (n : Int) := by omega
      have HRm : Hid (r = m) := by
        show r = m
        rw [HR.out.2, dnI_fuel _ (l.length + 1) _ _ _ (by have := HL.out; omega) (by have := HL.out; omega), dnI_succ, if_pos (by have := HJ.out; omega)]
      clear hj1 hj2
      go_wp2
      go_ret
      exact ⟨⟨_, rfl⟩, HK.out, by rw [HRm.out]; exact HM.out⟩
    · have hlt1 : (j1 : Int) < (n : Int) := by omega
      have hnn : ¬ ((j1 : Int) < 0) := by omega
      have HSt : Hid (r = (if (m.getD (kidI m i n) 0) < (m.getD i 0) then dnI l.length (swI m i (kidI m i n)) (kidI m i n) n else m)) := by
        show r = _
        rw [HR.out.2, dnI_fuel _ (l.length + 1) _ _ _ (by have := HL.out; omega) (by have := HL.out; omega), dnI_succ, if_neg (by have := HJ.out; omega)]
      have hj1n : j1 < n := by omega
      clear hge hj1 hj2
      by_cases h2n : j2 < n
      · have h2i : (j2 : Int) < (n : Int) := by omega
        have hs1 := mLessI HM.out.c0
        have HE : Hid (Calls _ _ _ wr _) := iless HM.out j2 j1 (by have := HI.out; omega) (by have := HI.out; omega)
        obtain ⟨d, hd⟩ : ∃ d, d = decide ((m.getD j2 0) < (m.getD j1 0)) := ⟨_, rfl⟩
        have HD : Hid (d = decide ((m.getD j2 0) < (m.getD j1 0))) := hd
        rw [← hd] at HE
        clear hd
        go_wp2_with fail
        refine HE.out.mono ?_
        rintro e w1 ⟨rfl, k1⟩
        have HM1 : Hid (Ip w1 h o g cap pre post m) := HM.out.keep0 k1
        have HK1 : Hid (Kp (fun b => b = h ∨ b = g) w w1) := HK.out.trans k1 (fun _ _ e => e.elim)
        clear HE k1 hs1
        cases d with
        | true =>
          have HKd : Hid (kidI m i n = j2) := by
            show kidI m i n = j2
            unfold kidI
            rw [← HJ.out.1, ← HJ.out.2]
            rw [if_pos ⟨h2n, of_decide_eq_true HD.out.symm⟩]
          have HKl : Hid (j2 < n ∧ i < j2) := by show _ ∧ _; have := HJ.out; omega
          have hs9 := mLessI HM1.out.c0
          have HE9 : Hid (Calls _ _ _ w1 _) := iless HM1.out j2 i (by have := HI.out; have := HKl.out; omega) (by have := HI.out; omega)
          obtain ⟨d9, hd9⟩ : ∃ d, d = decide ((m.getD j2 0) < (m.getD i 0)) := ⟨_, rfl⟩
          have HD9 : Hid (d9 = decide ((m.getD j2 0) < (m.getD i 0))) := hd9
          rw [← hd9] at HE9
          clear hd9
          go_wp2_with fail
          refine HE9.out.mono ?_
          rintro e w9 ⟨rfl, k9⟩
          have HM9 : Hid (Ip w9 h o g cap pre post m) := HM1.out.keep0 k9
          have HK9 : Hid (Kp (fun b => b = h ∨ b = g) w w9) := HK1.out.trans k9 (fun _ _ e => e.elim)
          clear HE9 k9 hs9
          cases d9 with
          | false =>
            have HRm : Hid (r = m) := by
              show r = m
              rw [HSt.out, HKd.out, if_neg (of_decide_eq_false HD9.out.symm)]
            go_wp2
            go_ret
            exact ⟨⟨_, rfl⟩, HK9.out, by rw [HRm.out]; exact HM9.out⟩
          | true =>
            have hs8 := mSwapI HM9.out.c0
            have HE8 : Hid (Calls _ _ _ w9 _) := iswap HM9.out i j2 (by have := HI.out; omega) (by have := HI.out; have := HKl.out; omega)
            have HRn : Hid (r = dnI l.length (swI m i j2) j2 n) := by
              show r = _
              rw [HSt.out, HKd.out, if_pos (of_decide_eq_true HD9.out.symm)]
            go_wp2_with fail
            refine HE8.out.mono ?_
            rintro e w8 ⟨rfl, k8, h8⟩
            have HM8 : Hid (Ip w8 h o g cap pre post (swI m i j2)) := h8
            have HK8 : Hid (Kp (fun b => b = h ∨ b = g) w w8) := HK9.out.trans k8 (fun b _ e => Or.inr e)
            clear HE8 h8 k8 hs8
            go_wp2
            go_roundg (n + 1 - j2)
            case rel => exact ⟨j2, swI m i j2, by have := HKl.out; omega, rfl, rfl, HK8, HM8, ⟨by rw [swI_len]; exact HR.out.1, HRn.out⟩⟩
            case measure => have := HKl.out; omega
        | false =>
          have HKd : Hid (kidI m i n = j1) := by
            show kidI m i n = j1
            unfold kidI
            rw [← HJ.out.1, ← HJ.out.2]
            rw [if_neg (fun e => of_decide_eq_false HD.out.symm e.2)]
          have HKl : Hid (j1 < n ∧ i < j1) := by show _ ∧ _; have := HJ.out; omega
          have hs9 := mLessI HM1.out.c0
          have HE9 : Hid (Calls _ _ _ w1 _) := iless HM1.out j1 i (by have := HI.out; have := HKl.out; omega) (by have := HI.out; omega)
          obtain ⟨d9, hd9⟩ : ∃ d, d = decide ((m.getD j1 0) < (m.getD i 0)) := ⟨_, rfl⟩
          have HD9 : Hid (d9 = decide ((m.getD j1 0) < (m.getD i 0))) := hd9
          rw [← hd9] at HE9
          clear hd9
          go_wp2_with fail
          refine HE9.out.mono ?_
          rintro e w9 ⟨rfl, k9⟩
          have HM9 : Hid (Ip w9 h o g cap pre post m) := HM1.out.keep0 k9
          have HK9 : Hid (Kp (fun b => b = h ∨ b = g) w w9) := HK1.out.trans k9 (fun _ _ e => e.elim)
          clear HE9 k9 hs9
          cases d9 with
          | false =>
            have HRm : Hid (r = m) := by
              show r = m
              rw [HSt.out, HKd.out, if_neg (of_decide_eq_false HD9.out.symm)]
            go_wp2
            go_ret
            exact ⟨⟨_, rfl⟩, HK9.out, by rw [HRm.out]; exact HM9.out⟩
          | true =>
            have hs8 := mSwapI HM9.out.c0
            have HE8 : Hid (Calls _ _ _ w9 _) := iswap HM9.out i j1 (by have := HI.out; omega) (by have := HI.out; have := HKl.out; omega)
            have HRn : Hid (r = dnI l.length (swI m i j1) j1 n) := by
              show r = _
              rw [HSt.out, HKd.out, if_pos (of_decide_eq_true HD9.out.symm)]
            go_wp2_with fail
            refine HE8.out.mono ?_
            rintro e w8 ⟨rfl, k8, h8⟩
            have HM8 : Hid (Ip w8 h o g cap pre post (swI m i j1)) := h8
            have HK8 : Hid (Kp (fun b => b = h ∨ b = g) w w8) := HK9.out.trans k8 (fun b _ e => Or.inr e)
            clear HE8 h8 k8 hs8
            go_wp2
            go_roundg (n + 1 - j1)
            case rel => exact ⟨j1, swI m i j1, by have := HKl.out; omega, rfl, rfl, HK8, HM8, ⟨by rw [swI_len]; exact HR.out.1, HRn.out⟩⟩
            case measure => have := HKl.out; omega
      · have h2i : ¬ ((j2 : Int) < (n : Int)) := by omega
        have HKd : Hid (kidI m i n = j1) := by
          show kidI m i n = j1
          unfold kidI
          rw [← HJ.out.1, ← HJ.out.2]
          rw [if_neg (fun e => h2n e.1)]
        have HKl : Hid (j1 < n ∧ i < j1) := by show _ ∧ _; have := HJ.out; omega
        have hs9 := mLessI HM.out.c0
        have HE9 : Hid (Calls _ _ _ wr _) := iless HM.out j1 i (by have := HI.out; have := HKl.out; omega) (by have := HI.out; omega)
        obtain ⟨d9, hd9⟩ : ∃ d, d = decide ((m.getD j1 0) < (m.getD i 0)) := ⟨_, rfl⟩
        have HD9 : Hid (d9 = decide ((m.getD j1 0) < (m.getD i 0))) := hd9
        rw [← hd9] at HE9
        clear hd9
        go_wp2_with fail
        refine HE9.out.mono ?_
        rintro e w9 ⟨rfl, k9⟩
        have HM9 : Hid (Ip w9 h o g cap pre post m) := HM.out.keep0 k9
        have HK9 : Hid (Kp (fun b => b = h ∨ b = g) w w9) := HK.out.trans k9 (fun _ _ e => e.elim)
        clear HE9 k9 hs9
        cases d9 with
        | false =>
          have HRm : Hid (r = m) := by
            show r = m
            rw [HSt.out, HKd.out, if_neg (of_decide_eq_false HD9.out.symm)]
          go_wp2
          go_ret
          exact ⟨⟨_, rfl⟩, HK9.out, by rw [HRm.out]; exact HM9.out⟩
        | true =>
          have hs8 := mSwapI HM9.out.c0
          have HE8 : Hid (Calls _ _ _ w9 _) := iswap HM9.out i j1 (by have := HI.out; omega) (by have := HI.out; have := HKl.out; omega)
          have HRn : Hid (r = dnI l.length (swI m i j1) j1 n) := by
            show r = _
            rw [HSt.out, HKd.out, if_pos (of_decide_eq_true HD9.out.symm)]
          go_wp2_with fail
          refine HE8.out.mono ?_
          rintro e w8 ⟨rfl, k8, h8⟩
          have HM8 : Hid (Ip w8 h o g cap pre post (swI m i j1)) := h8
          have HK8 : Hid (Kp (fun b => b = h ∨ b = g) w w8) := HK9.out.trans k8 (fun b _ e => Or.inr e)
          clear HE8 h8 k8 hs8
          go_wp2
          go_roundg (n + 1 - j1)
          case rel => exact ⟨j1, swI m i j1, by have := HKl.out; omega, rfl, rfl, HK8, HM8, ⟨by rw [swI_len]; exact HR.out.1, HRn.out⟩⟩
          case measure => have := HKl.out; omega
end Go.Proofs.YtippipeebkkghaaGreatDoor
