/- Texts of this proof, joined: Af, Ag, Ap2. -/
import Derived.Test.YtmooddbhcccicaaGreatDoorMgAI
import Derived.Deep.LoopGhost
/- A heap of numbers: down (laid by scripts/mkad.py). -/
namespace Go.Proofs.YtmooddbhcccicaaGreatDoor
set_option linter.unusedVariables false
open Go.RowKit Go.Deep

set_option maxRecDepth 100000 in
set_option maxHeartbeats 3200000 in
theorem idown {w : World} {h o g cap : Nat} {pre post : List Value} {l : List Nat} (x : Ip w h o g cap pre post l) (n : Nat) (hn : n < l.length) (hl : l.length ≤ 10000) :
    Calls Tryz.prog 209 #[.iface 235 (.pointer (some ⟨h, o, none⟩)), .int .i64 0, .int .i64 n] w fun e w' => (∃ b : Bool, e = .returned (.bool b)) ∧ Kp (fun b => b = h ∨ b = g) w w' ∧ Ip w' h o g cap pre post (dnI l.length l 0 n) := by
  have HX : Hid (Ip w h o g cap pre post l) := x
  have HL : Hid (n < l.length ∧ l.length ≤ 10000) := ⟨hn, hl⟩
  obtain ⟨r, hr⟩ : ∃ r, r = dnI l.length l 0 n := ⟨_, rfl⟩
  rw [← hr]
  clear x hn hl
  go_enter Tryz.func209, Tryz.ntmps209
  go_wp2
  go_loopg [7] (n + 1) (fun gk iv wr => ∃ (i : Nat) (m : List Nat), i ≤ n ∧ gk = n + 1 - i ∧ iv = .int .i64 i ∧ Hid (Kp (fun b => b = h ∨ b = g) w wr) ∧ Hid (Ip wr h o g cap pre post m) ∧ Hid (m.length = l.length ∧ r = dnI l.length m i n))
  case atStart => exact ⟨0, l, Nat.zero_le _, rfl, rfl, Kp.refl _ _, HX, ⟨rfl, hr⟩⟩
  case round =>
    obtain ⟨i, m, hi, rfl, rfl, HK, HM, HR⟩ := hrel
    clear hr
    have HI : Hid (m.length ≤ 10000 ∧ n < m.length ∧ i ≤ n) := by show _ ∧ _; have h1 := HR.out.1; have h2 := HL.out; omega
    obtain ⟨p, hp⟩ : ∃ p, p = 2 * i := ⟨_, rfl⟩
    obtain ⟨j1, hj1⟩ : ∃ j1, j1 = 2 * i + 1 := ⟨_, rfl⟩
    obtain ⟨j2, hj2⟩ : ∃ j2, j2 = 2 * i + 2 := ⟨_, rfl⟩
    have hw1 : wrap64 (2 * (i : Int)) = (p : Int) := by have := HI.out; unfold wrap64; omega
    have hw2 : wrap64 ((p : Int) + 1) = (j1 : Int) := by have := HI.out; unfold wrap64; omega
    have hw3 : wrap64 ((j1 : Int) + 1) = (j2 : Int) := by have := HI.out; unfold wrap64; omega
    have HJ : Hid (j1 = 2 * i + 1 ∧ j2 = 2 * i + 2) := ⟨hj1, hj2⟩
    clear hp
    by_cases hge : n ≤ j1
    · have hge2 : (j1 : Int) ≥ (n : Int) := by omega
      have HRm : Hid (r = m) := by
        show r = m
        rw [HR.out.2, dnI_fuel _ (l.length + 1) _ _ _ (by have := HL.out; omega) (by have := HL.out; omega), dnI_succ, if_pos (by have := HJ.out; omega)]
      clear hj1 hj2
      go_wp2
      go_ret
      exact ⟨⟨_, rfl⟩, HK.out, by rw [HRm.out]; exact HM.out⟩
    · have hlt1 : (j1 : Int) < (n : Int) := by omega
      have hnn : ¬ ((j1 : Int) < 0) := by omega
      have HSt : Hid (r = (if (m.getD (kidI m i n) 0) < (m.getD i 0) then dnI l.length (swI m i (kidI m i n)) (kidI m i n) n else m)) := by
        show r = _
        rw [HR.out.2, dnI_fuel _ (l.length + 1) _ _ _ (by have := HL.out; omega) (by have := HL.out; omega), dnI_succ, if_neg (by have := HJ.out; omega)]
      have hj1n : j1 < n := by omega
      clear hge hj1 hj2
      by_cases h2n : j2 < n
      · have h2i : (j2 : Int) < (n : Int) := by omega
        have hs1 := mLessI HM.out.c0
        have HE : Hid (Calls _ _ _ wr _) := iless HM.out j2 j1 (by have := HI.out; omega) (by have := HI.out; omega)
        obtain ⟨d, hd⟩ : ∃ d, d = decide ((m.getD j2 0) < (m.getD j1 0)) := ⟨_, rfl⟩
        have HD : Hid (d = decide ((m.getD j2 0) < (m.getD j1 0))) := hd
        rw [← hd] at HE
        clear hd
        go_wp2_with fail
        refine HE.out.mono ?_
        rintro e w1 ⟨rfl, k1⟩
        have HM1 : Hid (Ip w1 h o g cap pre post m) := HM.out.keep0 k1
        have HK1 : Hid (Kp (fun b => b = h ∨ b = g) w w1) := HK.out.trans k1 (fun _ _ e => e.elim)
        clear HE k1 hs1
        cases d with
        | true =>
          have HKd : Hid (kidI m i n = j2) := by
            show kidI m i n = j2
            unfold kidI
            rw [← HJ.out.1, ← HJ.out.2]
            rw [if_pos ⟨h2n, of_decide_eq_true HD.out.symm⟩]
          have HKl : Hid (j2 < n ∧ i < j2) := by show _ ∧ _; have := HJ.out; omega
          have hs9 := mLessI HM1.out.c0
          have HE9 : Hid (Calls _ _ _ w1 _) := iless HM1.out j2 i (by have := HI.out; have := HKl.out; omega) (by have := HI.out; omega)
          obtain ⟨d9, hd9⟩ : ∃ d, d = decide ((m.getD j2 0) < (m.getD i 0)) := ⟨_, rfl⟩
          have HD9 : Hid (d9 = decide ((m.getD j2 0) < (m.getD i 0))) := hd9
          rw [← hd9] at HE9
          clear hd9
          go_wp2_with fail
          refine HE9.out.mono ?_
          rintro e w9 ⟨rfl, k9⟩
          have HM9 : Hid (Ip w9 h o g cap pre post m) := HM1.out.keep0 k9
          have HK9 : Hid (Kp (fun b => b = h ∨ b = g) w w9) := HK1.out.trans k9 (fun _ _ e => e.elim)
          clear HE9 k9 hs9
          cases d9 with
          | false =>
            have HRm : Hid (r = m) := by
              show r = m
              rw [HSt.out, HKd.out, if_neg (of_decide_eq_false HD9.out.symm)]
            go_wp2
            go_ret
            exact ⟨⟨_, rfl⟩, HK9.out, by rw [HRm.out]; exact HM9.out⟩
          | true =>
            have hs8 := mSwapI HM9.out.c0
            have HE8 : Hid (Calls _ _ _ w9 _) := iswap HM9.out i j2 (by have := HI.out; omega) (by have := HI.out; have := HKl.out; omega)
            have HRn : Hid (r = dnI l.length (swI m i j2) j2 n) := by
              show r = _
              rw [HSt.out, HKd.out, if_pos (of_decide_eq_true HD9.out.symm)]
            go_wp2_with fail
            refine HE8.out.mono ?_
            rintro e w8 ⟨rfl, k8, h8⟩
            have HM8 : Hid (Ip w8 h o g cap pre post (swI m i j2)) := h8
            have HK8 : Hid (Kp (fun b => b = h ∨ b = g) w w8) := HK9.out.trans k8 (fun b _ e => Or.inr e)
            clear HE8 h8 k8 hs8
            go_wp2
            go_roundg (n + 1 - j2)
            case rel => exact ⟨j2, swI m i j2, by have := HKl.out; omega, rfl, rfl, HK8, HM8, ⟨by rw [swI_len]; exact HR.out.1, HRn.out⟩⟩
            case measure => have := HKl.out; omega
        | false =>
          have HKd : Hid (kidI m i n = j1) := by
            show kidI m i n = j1
            unfold kidI
            rw [← HJ.out.1, ← HJ.out.2]
            rw [if_neg (fun e => of_decide_eq_false HD.out.symm e.2)]
          have HKl : Hid (j1 < n ∧ i < j1) := by show _ ∧ _; have := HJ.out; omega
          have hs9 := mLessI HM1.out.c0
          have HE9 : Hid (Calls _ _ _ w1 _) := iless HM1.out j1 i (by have := HI.out; have := HKl.out; omega) (by have := HI.out; omega)
          obtain ⟨d9, hd9⟩ : ∃ d, d = decide ((m.getD j1 0) < (m.getD i 0)) := ⟨_, rfl⟩
          have HD9 : Hid (d9 = decide ((m.getD j1 0) < (m.getD i 0))) := hd9
          rw [← hd9] at HE9
          clear hd9
          go_wp2_with fail
          refine HE9.out.mono ?_
          rintro e w9 ⟨rfl, k9⟩
          have HM9 : Hid (Ip w9 h o g cap pre post m) := HM1.out.keep0 k9
          have HK9 : Hid (Kp (fun b => b = h ∨ b = g) w w9) := HK1.out.trans k9 (fun _ _ e => e.elim)
          clear HE9 k9 hs9
          cases d9 with
          | false =>
            have HRm : Hid (r = m) := by
              show r = m
              rw [HSt.out, HKd.out, if_neg (of_decide_eq_false HD9.out.symm)]
            go_wp2
            go_ret
            exact ⟨⟨_, rfl⟩, HK9.out, by rw [HRm.out]; exact HM9.out⟩
          | true =>
            have hs8 := mSwapI HM9.out.c0
            have HE8 : Hid (Calls _ _ _ w9 _) := iswap HM9.out i j1 (by have := HI.out; omega) (by have := HI.out; have := HKl.out; omega)
            have HRn : Hid (r = dnI l.length (swI m i j1) j1 n) := by
              show r = _
              rw [HSt.out, HKd.out, if_pos (of_decide_eq_true HD9.out.symm)]
            go_wp2_with fail
            refine HE8.out.mono ?_
            rintro e w8 ⟨rfl, k8, h8⟩
            have HM8 : Hid (Ip w8 h o g cap pre post (swI m i j1)) := h8
            have HK8 : Hid (Kp (fun b => b = h ∨ b = g) w w8) := HK9.out.trans k8 (fun b _ e => Or.inr e)
            clear HE8 h8 k8 hs8
            go_wp2
            go_roundg (n + 1 - j1)
            case rel => exact ⟨j1, swI m i j1, by have := HKl.out; omega, rfl, rfl, HK8, HM8, ⟨by rw [swI_len]; exact HR.out.1, HRn.out⟩⟩
            case measure => have := HKl.out; omega
      · have h2i : ¬ ((j2 : Int) < (n : Int)) := by omega
        have HKd : Hid (kidI m i n = j1) := by
          show kidI m i n = j1
          unfold kidI
          rw [← HJ.out.1, ← HJ.out.2]
          rw [if_neg (fun e => h2n e.1)]
        have HKl : Hid (j1 < n ∧ i < j1) := by show _ ∧ _; have := HJ.out; omega
        have hs9 := mLessI HM.out.c0
        have HE9 : Hid (Calls _ _ _ wr _) := iless HM.out j1 i (by have := HI.out; have := HKl.out; omega) (by have := HI.out; omega)
        obtain ⟨d9, hd9⟩ : ∃ d, d = decide ((m.getD j1 0) < (m.getD i 0)) := ⟨_, rfl⟩
        have HD9 : Hid (d9 = decide ((m.getD j1 0) < (m.getD i 0))) := hd9
        rw [← hd9] at HE9
        clear hd9
        go_wp2_with fail
        refine HE9.out.mono ?_
        rintro e w9 ⟨rfl, k9⟩
        have HM9 : Hid (Ip w9 h o g cap pre post m) := HM.out.keep0 k9
        have HK9 : Hid (Kp (fun b => b = h ∨ b = g) w w9) := HK.out.trans k9 (fun _ _ e => e.elim)
        clear HE9 k9 hs9
        cases d9 with
        | false =>
          have HRm : Hid (r = m) := by
            show r = m
            rw [HSt.out, HKd.out, if_neg (of_decide_eq_false HD9.out.symm)]
          go_wp2
          go_ret
          exact ⟨⟨_, rfl⟩, HK9.out, by rw [HRm.out]; exact HM9.out⟩
        | true =>
          have hs8 := mSwapI HM9.out.c0
          have HE8 : Hid (Calls _ _ _ w9 _) := iswap HM9.out i j1 (by have := HI.out; omega) (by have := HI.out; have := HKl.out; omega)
          have HRn : Hid (r = dnI l.length (swI m i j1) j1 n) := by
            show r = _
            rw [HSt.out, HKd.out, if_pos (of_decide_eq_true HD9.out.symm)]
          go_wp2_with fail
          refine HE8.out.mono ?_
          rintro e w8 ⟨rfl, k8, h8⟩
          have HM8 : Hid (Ip w8 h o g cap pre post (swI m i j1)) := h8
          have HK8 : Hid (Kp (fun b => b = h ∨ b = g) w w8) := HK9.out.trans k8 (fun b _ e => Or.inr e)
          clear HE8 h8 k8 hs8
          go_wp2
          go_roundg (n + 1 - j1)
          case rel => exact ⟨j1, swI m i j1, by have := HKl.out; omega, rfl, rfl, HK8, HM8, ⟨by rw [swI_len]; exact HR.out.1, HRn.out⟩⟩
          case measure => have := HKl.out; omega
end Go.Proofs.YtmooddbhcccicaaGreatDoor

/- A heap of numbers: heap.Push, heap.Pop (laid by scripts/mkad.py). -/
namespace Go.Proofs.YtmooddbhcccicaaGreatDoor
set_option linter.unusedVariables false
open Go.RowKit Go.Deep

set_option maxRecDepth 100000 in
set_option maxHeartbeats 1600000 in
theorem heapPushI {w : World} {h o g cap : Nat} {pre post : List Value} {l : List Nat} (x : Ip w h o g cap pre post l) (k : Nat) (hl : l.length ≤ 9000) :
    Calls Tryz.prog 200 #[.iface 235 (.pointer (some ⟨h, o, none⟩)), .iface 3 (.int .i64 (k : Int))] w fun e w' => e = .returned (.tuple #[]) ∧ Kp (fun b => b = h ∨ b = g) w w' ∧ ∃ g' cap', (g' = g ∨ w.heap.size ≤ g') ∧ Ip w' h o g' cap' pre post (pushI l k) := by
  have HE : Hid (Calls _ _ _ w _) := ipushm x k (by omega)
  have HL : Hid (l.length ≤ 9000) := hl
  obtain ⟨av, hav⟩ : ∃ av : Value, av = .iface 3 (.int .i64 (k : Int)) := ⟨_, rfl⟩
  rw [← hav] at HE ⊢
  have h1 := mPushI (.pointer (some ⟨h, o, none⟩)) w
  clear x hl hav
  go_enter Tryz.func200, Tryz.ntmps200
  go_wp2_with fail
  refine HE.out.mono ?_
  rintro e w1 ⟨rfl, k1, g', cap', hg9, h2⟩
  have HK1 : Hid (Kp (fun b => b = h ∨ b = g) w w1) := k1
  have HG9 : Hid ((g' = g ∨ w.heap.size ≤ g')) := hg9
  have HX1 : Hid (Ip w1 h o g' cap' pre post (l ++ [k])) := h2
  have h3 := mLenI h2.c0
  have HE2 : Hid (Calls _ _ _ w1 _) := ilen (some ⟨g', 0, none⟩) (l ++ [k]).length cap' w1
  have hlen : (l ++ [k]).length = l.length + 1 := by rw [List.length_append]; rfl
  rw [hlen] at h3 HE2
  have hw1 : wrap64 (((l.length + 1 : Nat) : Int) - 1) = (l.length : Int) := by have := HL.out; unfold wrap64; omega
  have HU : Hid (Calls _ _ _ w1 _) := iup h2 l.length (by rw [hlen]; omega) (by rw [hlen]; have := HL.out; omega)
  obtain ⟨n, hn⟩ : ∃ n, n = l.length := ⟨_, rfl⟩
  have HP : Hid (upI (n + 1) (l ++ [k]) n = pushI l k) := by show upI (n + 1) (l ++ [k]) n = pushI l k; unfold pushI; rw [hn]
  rw [← hn] at h3 HE2 hw1 HU
  have hw2 : wrap64 (n : Int) = (n : Int) := by have := HL.out; unfold wrap64; omega
  have hw3 : wrap64 ((n : Int) + 1 - 1) = (n : Int) := by have := HL.out; unfold wrap64; omega
  clear k1 h2 h1 HE hlen hn hg9
  go_wp2_with fail
  refine HE2.out.mono ?_
  rintro e w2 ⟨rfl, hw2⟩
  obtain rfl := hw2
  clear h3 HE2
  go_wp2_with fail
  refine HU.out.mono ?_
  rintro e w3 ⟨rfl, k3, h3⟩
  have HF : Hid (Kp (fun b => b = h ∨ b = g) w w3 ∧ Ip w3 h o g' cap' pre post (pushI l k)) := ⟨HK1.out.trans k3 (fun b hb e => e.elim Or.inl (fun e => HG9.out.elim (fun e2 => Or.inr (e.trans e2)) (fun e2 => absurd hb (by omega)))), by rw [← HP.out]; exact h3⟩
  clear h3 k3 HU
  go_wp2
  go_end0
  exact ⟨rfl, HF.out.1, g', cap', HG9.out, HF.out.2⟩

set_option maxRecDepth 100000 in
set_option maxHeartbeats 1600000 in
theorem heapPopI {w : World} {h o g cap : Nat} {pre post : List Value} {l : List Nat} (x : Ip w h o g cap pre post l) (hl : 0 < l.length ∧ l.length ≤ 9000) :
    Calls Tryz.prog 169 #[.iface 235 (.pointer (some ⟨h, o, none⟩))] w fun e w' => e = .returned (.iface 3 (.int .i64 ((popIX l : Nat) : Int))) ∧ Kp (fun b => b = h ∨ b = g) w w' ∧ Ip w' h o g cap pre post (popIL l) := by
  obtain ⟨n, hn⟩ : ∃ n, l.length = n + 1 := ⟨l.length - 1, by omega⟩
  have HX : Hid (Ip w h o g cap pre post l) := x
  have HN : Hid (l.length = n + 1 ∧ n < 9000) := ⟨hn, by omega⟩
  have h1 := mLenI x.c0
  have HE1 : Hid (Calls _ _ _ w _) := ilen (some ⟨g, 0, none⟩) l.length cap w
  have h2 := mSwapI x.c0
  have HE2 : Hid (Calls _ _ _ w _) := iswap x 0 n (by omega) (by omega)
  rw [hn] at h1 HE1 h2 HE2
  have hw1 : wrap64 (((n + 1 : Nat) : Int) - 1) = (n : Int) := by unfold wrap64; omega
  have hw2 : wrap64 (n : Int) = (n : Int) := by unfold wrap64; omega
  have hw3 : wrap64 ((n : Int) + 1 - 1) = (n : Int) := by unfold wrap64; omega
  obtain ⟨m, hm⟩ : ∃ m, m = swI l 0 n := ⟨_, rfl⟩
  rw [← hm] at HE2
  obtain ⟨s, hs⟩ : ∃ s, s = dnI (n + 1) m 0 n := ⟨_, rfl⟩
  have HS : Hid (popIX l = s.getD n 0 ∧ popIL l = s.take n ∧ m.length = n + 1 ∧ s = dnI m.length m 0 n ∧ s.length = n + 1) := by
    have hml : m.length = n + 1 := by rw [hm, swI_len, hn]
    have hsk : sunkI l = s := by unfold sunkI; rw [hn, hs, hm, Nat.add_sub_cancel]
    refine ⟨?_, ?_, hml, by rw [hml]; exact hs, by rw [hs, dnI_len, hml]⟩
    · unfold popIX; rw [hsk, hn, Nat.add_sub_cancel]
    · unfold popIL; rw [hsk, hn, Nat.add_sub_cancel]
  rw [HS.out.1, HS.out.2.1]
  clear x hl hn hm hs
  go_enter Tryz.func169, Tryz.ntmps169
  go_wp2_with fail
  refine HE1.out.mono ?_
  rintro e w0 ⟨rfl, hw0⟩
  obtain rfl := hw0
  clear h1 HE1
  go_wp2_with fail
  refine HE2.out.mono ?_
  rintro e w1 ⟨rfl, k1, x1⟩
  have HK1 : Hid (Kp (fun b => b = h ∨ b = g) w0 w1) := k1.mono (fun b _ e => Or.inr e)
  have HE3 : Hid (Calls _ _ _ w1 _) := idown x1 n (by have := HS.out.2.2.1; omega) (by have := HS.out.2.2.1; have := HN.out; omega)
  rw [← HS.out.2.2.2.1] at HE3
  clear h2 HE2 k1 x1
  go_wp2_with fail
  refine HE3.out.mono ?_
  rintro e w2 ⟨⟨bb, rfl⟩, k2, x2⟩
  have HK2 : Hid (Kp (fun b => b = h ∨ b = g) w0 w2) := HK1.out.trans k2 (fun _ _ e => e)
  have h3 := mPopI (.pointer (some ⟨h, o, none⟩)) w2
  have HE4 : Hid (Calls _ _ _ w2 _) := ipopm x2 n HS.out.2.2.2.2 (by have := HN.out; omega)
  clear HE3 k2 x2
  go_wp2_with fail
  refine HE4.out.mono ?_
  rintro e w3 ⟨rfl, k3, x3⟩
  have HF : Hid (Kp (fun b => b = h ∨ b = g) w0 w3 ∧ Ip w3 h o g cap pre post (s.take n)) := ⟨HK2.out.trans k3 (fun _ _ e => e), x3⟩
  clear HE4 k3 x3 h3
  go_wp2
  go_ret
  exact ⟨rfl, HF.out⟩

end Go.Proofs.YtmooddbhcccicaaGreatDoor

/- So many places from one on. -/
namespace Go.Proofs.YtmooddbhcccicaaGreatDoor
set_option linter.unusedVariables false
set_option linter.unusedSimpArgs false
open Go.RowKit Go.Deep

theorem infoP3 : (Tryz.prog.info? 3).map (fun i => (i.zero, i.size, i.bytes)) = some (some (.int .i64 0), 1, 8) := by kernel_rfl
set_option maxRecDepth 100000 in
theorem make_places (n : Nat) (hn : n ≤ 1000000) (w : World) : (Instr.makeSlice 156 (.int .i64 0) (.int .i64 (n : Int))).run Tryz.prog w = .ok (.slice (some ⟨w.heap.size, 0, none⟩) 0 n) (w.alloc (.cells (madeCells #[.int .i64 0] n) 3)) := by
  obtain ⟨i, hi, hz⟩ := Option.map_eq_some_iff.1 infoP3
  simp only [Prod.mk.injEq] at hz
  obtain ⟨hz, hs, hb⟩ := hz
  have hr := run_make (P := Tryz.prog) w 156 3 i (.int .i64 0) Tryz.underlying156 hi hz .i64 .i64 0 (n : Int) (by omega) (by omega) (by rw [hb]; omega) (by omega)
  rw [hr]
  simp only [hs, Int.toNat_natCast]
  congr 4
  simp
/-- a heap of the k places from e on -/
def Free (l : List Nat) (e k : Nat) : Prop := l.Perm (List.range' e k) ∧ HpdI l l.length
theorem Free.len {l : List Nat} {e k : Nat} (h : Free l e k) : l.length = k := by rw [h.1.length_eq, List.length_range']
theorem Free.nil (e : Nat) : Free [] e 0 := ⟨List.Perm.refl _, fun k _ hk => absurd hk (Nat.not_lt_zero _)⟩
theorem Free.push {l : List Nat} {e k : Nat} (h : Free l e k) : Free (pushI l (e + k)) e (k + 1) := by
  obtain ⟨h1, h2⟩ := pushI_heap h.2 (e + k)
  refine ⟨h2.trans ?_, h1⟩
  rw [List.range'_concat]
  simpa using h.1.append_right [e + k]
/-- the least one comes out, and the others stay -/
theorem Free.pop {l : List Nat} {e k : Nat} (h : Free l e (k + 1)) : l.getD 0 0 = e ∧ popIX l = e ∧ Free (popIL l) (e + 1) k := by
  have hl : l.length = k + 1 := h.len
  obtain ⟨p1, p2, p3, p4⟩ := popI_heap h.2 (by omega)
  have hm : ∀ x ∈ l, e ≤ x := fun x hx => by
    have := h.1.mem_iff.1 hx
    rw [List.mem_range'_1] at this
    exact this.1
  have he : l.getD 0 0 = e := by
    have h1 : l.getD 0 0 ∈ l := by
      rw [List.getD_eq_getElem?_getD, List.getElem?_eq_getElem (by omega : 0 < l.length)]
      exact List.getElem_mem _
    have h2 : e ∈ l := h.1.mem_iff.2 (by rw [List.mem_range'_1]; omega)
    obtain ⟨j, hj, hje⟩ := List.getElem_of_mem h2
    have h3 := h.2.top j hj
    have h4 : tmI l j = e := by unfold tmI; rw [List.getD_eq_getElem?_getD, List.getElem?_eq_getElem hj]; exact hje
    have h5 : tmI l 0 = l.getD 0 0 := rfl
    have := hm _ h1
    omega
  refine ⟨he, p1.trans he, ?_, p2⟩
  have h6 : (popIL l ++ [e]).Perm (List.range' e (k + 1)) := by
    have := p3.trans h.1
    rw [p1, he] at this
    exact this
  have h7 : (e :: popIL l).Perm (e :: List.range' (e + 1) k) := by
    refine List.Perm.trans ?_ h6
    exact (List.perm_append_singleton e (popIL l)).symm
  exact h7.cons_inv

set_option maxRecDepth 100000 in
set_option maxHeartbeats 1600000 in
theorem placesFrom_ok (e k : Nat) (w : World) (hk : (k : Int) ≤ 8192) (he : (e : Int) ≤ 1000000000000000000) :
    Calls Tryz.prog 163 #[.int .i64 (e : Int), .int .i64 (k : Int)] w fun e9 w' => ∃ g cap l, w.heap.size ≤ g ∧ e9 = .returned (.slice (some ⟨g, 0, none⟩) k cap) ∧ Kp (fun _ => False) w w' ∧ w'.ownsRow 0 3 1 (.slice (some ⟨g, 0, none⟩) k cap) k (nls l) ∧ Free l e k := by
  have hmk := make_places k (by omega)
  obtain ⟨h, hh⟩ : ∃ h, h = w.heap.size + 1 := ⟨_, rfl⟩
  obtain ⟨w0, hw0⟩ : ∃ y, y = (w.alloc (.cells (madeCells #[.int .i64 0] k) 3)).alloc (.cells #[.slice (some ⟨w.heap.size, 0, none⟩) 0 k] 156) := ⟨_, rfl⟩
  have zz : (w.alloc (.cells (madeCells #[.int .i64 0] k) 3)).heap.size = w.heap.size + 1 := by simp
  have HK0 : Hid (Kp (fun _ => False) w w0) := by rw [hw0]; exact ((Kp.refl _ _).alloc _).alloc _
  have HI0 : Hid (Ip w0 h 0 w.heap.size k [] [] []) := by
    refine ⟨?_, rfl, ?_, by omega⟩
    · rw [hw0, hh, ← zz]; exact Lv.new _ _ _
    · rw [hw0]
      exact (World.ownsRow_made w _ k (Nat.zero_le _) (by unfold maxLen; omega) (by simp [madeCells])).alloc _
  have HH : Hid (w.heap.size < h) := by show _ < _; omega
  have HN : Hid (k ≤ 8192 ∧ (e : Int) ≤ 1000000000000000000) := ⟨by omega, he⟩
  go_enter Tryz.func163, Tryz.ntmps163
  go_wp2_with fail
  rw [← hw0, ← hh]
  clear hw0 hh zz hmk
  go_loopg [10] k (fun gk iv wr => ∃ (i : Nat) (g c : Nat) (l : List Nat), i ≤ k ∧ gk = k - i ∧ iv = .int .i64 i ∧ Hid (Kp (fun _ => False) w wr) ∧ Hid (Ip wr h 0 g c [] [] l ∧ Free l e i ∧ w.heap.size ≤ g ∧ w.heap.size < h))
  case atStart => exact ⟨0, w.heap.size, k, [], Nat.zero_le _, rfl, rfl, HK0, ⟨HI0.out, Free.nil e, Nat.le_refl _, HH.out⟩⟩
  case round =>
    obtain ⟨i, g, c, l, hi, rfl, rfl, HK, HI⟩ := hrel
    by_cases hlt : i < k
    · have hlt2 : (i : Int) < (k : Int) := by omega
      obtain ⟨v, hv⟩ : ∃ v, v = e + i := ⟨_, rfl⟩
      have HP : Hid (Calls _ _ _ wr _) := heapPushI HI.out.1 v (by rw [HI.out.2.1.len]; have := HN.out; omega)
      have HV : Hid (v = e + i) := hv
      have hwi : wrap64 ((i : Int) + 1) = ((i + 1 : Nat) : Int) := by have := HN.out; unfold wrap64; omega
      clear hv
      go_wp2_with fail
      rw [show ((e : Int) + (i : Int)) = (v : Int) by have := HV.out; omega]
      refine HP.out.mono ?_
      rintro e9 w1 ⟨rfl, k1, g', c', hg', x1⟩
      have HK1 : Hid (Kp (fun _ => False) w w1) := HK.out.trans k1 (fun b hb e9 => by have := HI.out.2.2; omega)
      have HI1 : Hid (Ip w1 h 0 g' c' [] [] (pushI l v) ∧ Free (pushI l v) e (i + 1) ∧ w.heap.size ≤ g' ∧ w.heap.size < h) := ⟨x1, by rw [HV.out]; exact HI.out.2.1.push, by have := HI.out.2.2; have := HK.out.size; omega, HI.out.2.2.2⟩
      clear k1 x1 hg' HP
      go_wp2
      go_roundg (k - (i + 1))
      case rel => exact ⟨i + 1, g', c', pushI l v, by omega, rfl, by first | rw [hwi] | simp, HK1, HI1⟩
      case measure => omega
    · have hik : i = k := by omega
      subst hik
      have hlt2 : ¬ ((i : Int) < (i : Int)) := by omega
      have c0 := HI.out.1.c0
      have hln := HI.out.2.1.len
      rw [hln] at c0
      have HF : Hid (wr.ownsRow 0 3 1 (.slice (some ⟨g, 0, none⟩) i c) i (nls l)) := by
        have := HI.out.1.ow
        rw [hln] at this
        exact this
      clear hln
      go_wp2
      go_ret
      exact ⟨g, HI.out.2.2.1, c, rfl, HK.out, l, HF.out, HI.out.2.1⟩
end Go.Proofs.YtmooddbhcccicaaGreatDoor
