/- Texts of this proof, joined: MgAN, MgAO, MgAP. -/
import Derived.Test.YtmooddbhcccicaaGreatDoorMgAM
import Derived.Deep.LoopGhost
/- Texts of this proof, joined: Ae, Af. -/
/- A heap of numbers: Pop of its own; up (laid by scripts/mkad.py). -/
namespace Go.Proofs.YtmooddbhcccicaaGreatDoor
set_option linter.unusedVariables false
open Go.RowKit Go.Deep

set_option maxRecDepth 100000 in
set_option maxHeartbeats 1600000 in
theorem ipopm {w : World} {h o g cap : Nat} {pre post : List Value} {l : List Nat} (x : Ip w h o g cap pre post l) (n : Nat) (hl : l.length = n + 1) (hn : n ≤ 10000) :
    Calls Tryz.prog 268 #[.pointer (some ⟨h, o, none⟩)] w fun e w' => e = .returned (.iface 3 (.int .i64 ((l.getD n 0 : Nat) : Int))) ∧ Kp (fun b => b = h ∨ b = g) w w' ∧ Ip w' h o g cap pre post (l.take n) := by
  have cc := x.cn (j := n) (by omega)
  have HX : Hid (Ip w h o g cap pre post l) := x
  obtain ⟨a, ha⟩ : ∃ a, a = l.getD n 0 := ⟨_, rfl⟩
  rw [← ha] at cc
  rw [← ha]
  have c0 := x.c0
  rw [hl] at c0
  have f0 : w.frozen? ⟨h, o, none⟩ = false := x.fz
  have hcap : n + 1 ≤ cap := by have := x.capLe; omega
  have hw1 : wrap64 (((n + 1 : Nat) : Int) - 1) = (n : Int) := by unfold wrap64; omega
  have hhw : h < w.heap.size := x.hb
  have hgw : g < w.heap.size := x.gb
  have HF : Hid (Kp (fun b => b = h ∨ b = g) w (w.setCell ⟨h, o, none⟩ (.slice (some ⟨g, 0, none⟩) n cap)) ∧ Ip (w.setCell ⟨h, o, none⟩ (.slice (some ⟨g, 0, none⟩) n cap)) h o g cap pre post (l.take n)) := by
    have ks : Kp (fun b => b = h) w (w.setCell ⟨h, o, none⟩ (.slice (some ⟨g, 0, none⟩) n cap)) := (Kp.refl (fun b => b = h) w).setCell (fun _ => rfl) _
    have hlt : (l.take n).length = n := by rw [List.length_take]; omega
    refine ⟨ks.mono (fun b _ e => Or.inl e), ⟨?_, x.ol, ?_, x.ne⟩⟩
    · rw [hlt]
      exact x.lset _
    · rw [hlt, ← nls_take]
      have h3 := own_subI (k := n) x.ow (by omega)
      rw [Nat.mul_one] at h3
      exact ownsRow_keep h3 ks (fun g0 e e2 => by have e' : some g = some g0 := e; injection e' with e'; exact x.ne (by omega))
  clear x ha hl
  go_enter Tryz.func268, Tryz.ntmps268
  go_wp2
  go_ret
  exact ⟨rfl, HF.out⟩

set_option maxRecDepth 100000 in
set_option maxHeartbeats 1600000 in
theorem iup {w : World} {h o g cap : Nat} {pre post : List Value} {l : List Nat} (x : Ip w h o g cap pre post l) (j : Nat) (hj : j < l.length) (hl : l.length ≤ 10000) :
    Calls Tryz.prog 225 #[.iface 235 (.pointer (some ⟨h, o, none⟩)), .int .i64 j] w fun e w' => e = .returned (.tuple #[]) ∧ Kp (fun b => b = h ∨ b = g) w w' ∧ Ip w' h o g cap pre post (upI (j + 1) l j) := by
  have HX : Hid (Ip w h o g cap pre post l) := x
  have HL : Hid (j < l.length ∧ l.length ≤ 10000) := ⟨hj, hl⟩
  obtain ⟨r, hr⟩ : ∃ r, r = upI (j + 1) l j := ⟨_, rfl⟩
  rw [← hr]
  clear x hj hl
  go_enter Tryz.func225, Tryz.ntmps225
  go_wp2
  go_loopg [1] (j + 1) (fun gk jv wr => ∃ (i : Nat) (m : List Nat), i ≤ j ∧ gk = i + 1 ∧ jv = .int .i64 i ∧ Hid (Kp (fun b => b = h ∨ b = g) w wr) ∧ Hid (Ip wr h o g cap pre post m) ∧ Hid (m.length = l.length ∧ r = upI (i + 1) m i))
  case atStart => exact ⟨j, l, Nat.le_refl _, rfl, rfl, Kp.refl _ _, HX, ⟨rfl, hr⟩⟩
  case round =>
    obtain ⟨i, m, hi, rfl, rfl, HK, HM, HR⟩ := hrel
    clear hr
    by_cases h0 : i = 0
    · subst h0
      have HRm : Hid (r = m) := HR.out.2
      go_wp2
      go_end0
      exact ⟨rfl, HK.out, by rw [HRm.out]; exact HM.out⟩
    · have HI : Hid (i < m.length ∧ (i - 1) / 2 < m.length ∧ m.length ≤ 10000) := by show _ ∧ _; have h1 := HR.out.1; have h2 := HL.out; omega
      have hw1 : wrap64 ((i : Int) - 1) = ((i - 1 : Nat) : Int) := by have := HI.out; unfold wrap64; omega
      have hq : ((i - 1 : Nat) : Int).tdiv 2 = (((i - 1) / 2 : Nat) : Int) := by
        rw [Int.tdiv_eq_ediv_of_nonneg (by omega)]; omega
      obtain ⟨q, hqq⟩ : ∃ q, q = (i - 1) / 2 := ⟨_, rfl⟩
      rw [← hqq] at hq
      have hwq : wrap64 ((q : Int)) = (q : Int) := by have := HI.out; unfold wrap64; omega
      have hne : ¬ ((q : Int) = (i : Int)) := by omega
      have HQ : Hid (q = (i - 1) / 2) := hqq
      have hs1 := mLessI HM.out.c0
      have HE : Hid (Calls _ _ _ wr _) := iless HM.out i q HI.out.1 (by rw [hqq]; exact HI.out.2.1)
      obtain ⟨d, hd⟩ : ∃ d, d = decide ((m.getD i 0) < (m.getD q 0)) := ⟨_, rfl⟩
      have HD : Hid (d = decide ((m.getD i 0) < (m.getD q 0))) := hd
      rw [← hd] at HE
      clear hd hqq
      go_wp2_with fail
      refine HE.out.mono ?_
      rintro e w1 ⟨rfl, k1⟩
      have HM1 : Hid (Ip w1 h o g cap pre post m) := HM.out.keep0 k1
      have HK1 : Hid (Kp (fun b => b = h ∨ b = g) w w1) := HK.out.trans k1 (fun _ _ e => e.elim)
      clear HE k1 hs1
      cases d with
      | false =>
        have HRm : Hid (r = m) := by
          have h1 := HR.out.2
          have h2 : ¬ ((m.getD i 0) < (m.getD q 0)) := of_decide_eq_false HD.out.symm
          show r = m
          rw [h1, upI_succ, if_neg h0, ← HQ.out, if_neg h2]
        go_wp2
        go_end0
        exact ⟨rfl, HK1.out, by rw [HRm.out]; exact HM1.out⟩
      | true =>
        have hs2 := mSwapI HM1.out.c0
        have HE2 : Hid (Calls _ _ _ w1 _) := iswap HM1.out q i (by rw [HQ.out]; exact HI.out.2.1) HI.out.1
        have HRn : Hid (r = upI i (swI m q i) q) := by
          have h1 := HR.out.2
          have h2 : (m.getD i 0) < (m.getD q 0) := of_decide_eq_true HD.out.symm
          show r = _
          rw [h1, upI_succ, if_neg h0, ← HQ.out, if_pos h2]
        go_wp2_with fail
        refine HE2.out.mono ?_
        rintro e w2 ⟨rfl, k2, h2⟩
        have HM2 : Hid (Ip w2 h o g cap pre post (swI m q i)) := h2
        have HK2 : Hid (Kp (fun b => b = h ∨ b = g) w w2) := HK1.out.trans k2 (fun b _ e => Or.inr e)
        clear HE2 h2 k2 hs2
        go_wp2
        go_roundg (q + 1)
        case rel => exact ⟨q, swI m q i, by have := HQ.out; omega, rfl, rfl, HK2, HM2, ⟨by rw [swI_len]; exact HR.out.1, by rw [HRn.out]; exact upI_fuel _ _ _ _ (by have := HQ.out; omega) (by omega)⟩⟩
        case measure => have := HQ.out; omega
end Go.Proofs.YtmooddbhcccicaaGreatDoor

/- A heap of numbers: down (laid by scripts/mkad.py). -/
namespace Go.Proofs.YtmooddbhcccicaaGreatDoor
set_option linter.unusedVariables false
open Go.RowKit Go.Deep

set_option maxRecDepth 100000 in
set_option maxHeartbeats 3200000 in
theorem idown {w : World} {h o g cap : Nat} {pre post : List Value} {l : List Nat} (x : Ip w h o g cap pre post l) (n : Nat) (hn : n < l.length) (hl : l.length ≤ 10000) :
    Calls Tryz.prog 209 #[.iface 235 (.pointer (some ⟨h, o, none⟩)), .int .i64 0, .int .i64 n] w fun e w' => (∃ b : Bool, e = .returned (.bool b)) ∧ Kp (fun b => b = h ∨ b = g) w w' ∧ Ip w' h o g cap pre post (dnI l.length l 0 n) := by
  have HX : Hid (Ip w h o g cap pre post l) := x
  have HL : Hid (n < l.length ∧ l.length ≤ 10000) := ⟨hn, hl⟩
  obtain ⟨r, hr⟩ : ∃ r, r = dnI l.length l 0 n := ⟨_, rfl⟩
  rw [← hr]
  clear x hn hl
  go_enter Tryz.func209, Tryz.ntmps209
  go_wp2
  go_loopg [7] (n + 1) (fun gk iv wr => ∃ (i : Nat) (m : List Nat), i ≤ n ∧ gk = n + 1 - i ∧ iv = .int .i64 i ∧ Hid (Kp (fun b => b = h ∨ b = g) w wr) ∧ Hid (Ip wr h o g cap pre post m) ∧ Hid (m.length = l.length ∧ r = dnI l.length m i n))
  case atStart => exact ⟨0, l, Nat.zero_le _, rfl, rfl, Kp.refl _ _, HX, ⟨rfl, hr⟩⟩
  case round =>
    obtain ⟨i, m, hi, rfl, rfl, HK, HM, HR⟩ := hrel
    clear hr
    have HI : Hid (m.length ≤ 10000 ∧ n < m.length ∧ i ≤ n) := by show _ ∧ _; have h1 := HR.out.1; have h2 := HL.out; omega
    obtain ⟨p, hp⟩ : ∃ p, p = 2 * i := ⟨_, rfl⟩
    obtain ⟨j1, hj1⟩ : ∃ j1, j1 = 2 * i + 1 := ⟨_, rfl⟩
    obtain ⟨j2, hj2⟩ : ∃ j2, j2 = 2 * i + 2 := ⟨_, rfl⟩
    have hw1 : wrap64 (2 * (i : Int)) = (p : Int) := by have := HI.out; unfold wrap64; omega
    have hw2 : wrap64 ((p : Int) + 1) = (j1 : Int) := by have := HI.out; unfold wrap64; omega
    have hw3 : wrap64 ((j1 : Int) + 1) = (j2 : Int) := by have := HI.out; unfold wrap64; omega
    have HJ : Hid (j1 = 2 * i + 1 ∧ j2 = 2 * i + 2) := ⟨hj1, hj2⟩
    clear hp
    by_cases hge : n ≤ j1
    · have hge2 : (j1 : Int) ≥ (n : Int) := by omega
      have HRm : Hid (r = m) := by
        show r = m
        rw [HR.out.2, dnI_fuel _ (l.length + 1) _ _ _ (by have := HL.out; omega) (by have := HL.out; omega), dnI_succ, if_pos (by have := HJ.out; omega)]
      clear hj1 hj2
      go_wp2
      go_ret
      exact ⟨⟨_, rfl⟩, HK.out, by rw [HRm.out]; exact HM.out⟩
    · have hlt1 : (j1 : Int) < (n : Int) := by omega
      have hnn : ¬ ((j1 : Int) < 0) := by omega
      have HSt : Hid (r = (if (m.getD (kidI m i n) 0) < (m.getD i 0) then dnI l.length (swI m i (kidI m i n)) (kidI m i n) n else m)) := by
        show r = _
        rw [HR.out.2, dnI_fuel _ (l.length + 1) _ _ _ (by have := HL.out; omega) (by have := HL.out; omega), dnI_succ, if_neg (by have := HJ.out; omega)]
      have hj1n : j1 < n := by omega
      clear hge hj1 hj2
      by_cases h2n : j2 < n
      · have h2i : (j2 : Int) < (n : Int) := by omega
        have hs1 := mLessI HM.out.c0
        have HE : Hid (Calls _ _ _ wr _) := iless HM.out j2 j1 (by have := HI.out; omega) (by have := HI.out; omega)
        obtain ⟨d, hd⟩ : ∃ d, d = decide ((m.getD j2 0) < (m.getD j1 0)) := ⟨_, rfl⟩
        have HD : Hid (d = decide ((m.getD j2 0) < (m.getD j1 0))) := hd
        rw [← hd] at HE
        clear hd
        go_wp2_with fail
        refine HE.out.mono ?_
        rintro e w1 ⟨rfl, k1⟩
        have HM1 : Hid (Ip w1 h o g cap pre post m) := HM.out.keep0 k1
        have HK1 : Hid (Kp (fun b => b = h ∨ b = g) w w1) := HK.out.trans k1 (fun _ _ e => e.elim)
        clear HE k1 hs1
        cases d with
        | true =>
          have HKd : Hid (kidI m i n = j2) := by
            show kidI m i n = j2
            unfold kidI
            rw [← HJ.out.1, ← HJ.out.2]
            rw [if_pos ⟨h2n, of_decide_eq_true HD.out.symm⟩]
          have HKl : Hid (j2 < n ∧ i < j2) := by show _ ∧ _; have := HJ.out; omega
          have hs9 := mLessI HM1.out.c0
          have HE9 : Hid (Calls _ _ _ w1 _) := iless HM1.out j2 i (by have := HI.out; have := HKl.out; omega) (by have := HI.out; omega)
          obtain ⟨d9, hd9⟩ : ∃ d, d = decide ((m.getD j2 0) < (m.getD i 0)) := ⟨_, rfl⟩
          have HD9 : Hid (d9 = decide ((m.getD j2 0) < (m.getD i 0))) := hd9
          rw [← hd9] at HE9
          clear hd9
          go_wp2_with fail
          refine HE9.out.mono ?_
          rintro e w9 ⟨rfl, k9⟩
          have HM9 : Hid (Ip w9 h o g cap pre post m) := HM1.out.keep0 k9
          have HK9 : Hid (Kp (fun b => b = h ∨ b = g) w w9) := HK1.out.trans k9 (fun _ _ e => e.elim)
          clear HE9 k9 hs9
          cases d9 with
          | false =>
            have HRm : Hid (r = m) := by
              show r = m
              rw [HSt.out, HKd.out, if_neg (of_decide_eq_false HD9.out.symm)]
            go_wp2
            go_ret
            exact ⟨⟨_, rfl⟩, HK9.out, by rw [HRm.out]; exact HM9.out⟩
          | true =>
            have hs8 := mSwapI HM9.out.c0
            have HE8 : Hid (Calls _ _ _ w9 _) := iswap HM9.out i j2 (by have := HI.out; omega) (by have := HI.out; have := HKl.out; omega)
            have HRn : Hid (r = dnI l.length (swI m i j2) j2 n) := by
              show r = _
              rw [HSt.out, HKd.out, if_pos (of_decide_eq_true HD9.out.symm)]
            go_wp2_with fail
            refine HE8.out.mono ?_
            rintro e w8 ⟨rfl, k8, h8⟩
            have HM8 : Hid (Ip w8 h o g cap pre post (swI m i j2)) := h8
            have HK8 : Hid (Kp (fun b => b = h ∨ b = g) w w8) := HK9.out.trans k8 (fun b _ e => Or.inr e)
            clear HE8 h8 k8 hs8
            go_wp2
            go_roundg (n + 1 - j2)
            case rel => exact ⟨j2, swI m i j2, by have := HKl.out; omega, rfl, rfl, HK8, HM8, ⟨by rw [swI_len]; exact HR.out.1, HRn.out⟩⟩
            case measure => have := HKl.out; omega
        | false =>
          have HKd : Hid (kidI m i n = j1) := by
            show kidI m i n = j1
            unfold kidI
            rw [← HJ.out.1, ← HJ.out.2]
            rw [if_neg (fun e => of_decide_eq_false HD.out.symm e.2)]
          have HKl : Hid (j1 < n ∧ i < j1) := by show _ ∧ _; have := HJ.out; omega
          have hs9 := mLessI HM1.out.c0
          have HE9 : Hid (Calls _ _ _ w1 _) := iless HM1.out j1 i (by have := HI.out; have := HKl.out; omega) (by have := HI.out; omega)
          obtain ⟨d9, hd9⟩ : ∃ d, d = decide ((m.getD j1 0) < (m.getD i 0)) := ⟨_, rfl⟩
          have HD9 : Hid (d9 = decide ((m.getD j1 0) < (m.getD i 0))) := hd9
          rw [← hd9] at HE9
          clear hd9
          go_wp2_with fail
          refine HE9.out.mono ?_
          rintro e w9 ⟨rfl, k9⟩
          have HM9 : Hid (Ip w9 h o g cap pre post m) := HM1.out.keep0 k9
          have HK9 : Hid (Kp (fun b => b = h ∨ b = g) w w9) := HK1.out.trans k9 (fun _ _ e => e.elim)
          clear HE9 k9 hs9
          cases d9 with
          | false =>
            have HRm : Hid (r = m) := by
              show r = m
              rw [HSt.out, HKd.out, if_neg (of_decide_eq_false HD9.out.symm)]
            go_wp2
            go_ret
            exact ⟨⟨_, rfl⟩, HK9.out, by rw [HRm.out]; exact HM9.out⟩
          | true =>
            have hs8 := mSwapI HM9.out.c0
            have HE8 : Hid (Calls _ _ _ w9 _) := iswap HM9.out i j1 (by have := HI.out; omega) (by have := HI.out; have := HKl.out; omega)
            have HRn : Hid (r = dnI l.length (swI m i j1) j1 n) := by
              show r = _
              rw [HSt.out, HKd.out, if_pos (of_decide_eq_true HD9.out.symm)]
            go_wp2_with fail
            refine HE8.out.mono ?_
            rintro e w8 ⟨rfl, k8, h8⟩
            have HM8 : Hid (Ip w8 h o g cap pre post (swI m i j1)) := h8
            have HK8 : Hid (Kp (fun b => b = h ∨ b = g) w w8) := HK9.out.trans k8 (fun b _ e => Or.inr e)
            clear HE8 h8 k8 hs8
            go_wp2
            go_roundg (n + 1 - j1)
            case rel => exact ⟨j1, swI m i j1, by have := HKl.out; omega, rfl, rfl, HK8, HM8, ⟨by rw [swI_len]; exact HR.out.1, HRn.out⟩⟩
            case measure => have := HKl.out; omega
      · have h2i : ¬ ((j2 : Int) < (n : Int)) := by omega
        have HKd : Hid (kidI m i n = j1) := by
          show kidI m i n = j1
          unfold kidI
          rw [← HJ.out.1, ← HJ.out.2]
          rw [if_neg (fun e => h2n e.1)]
        have HKl : Hid (j1 < n ∧ i < j1) := by show _ ∧ _; have := HJ.out; omega
        have hs9 := mLessI HM.out.c0
        have HE9 : Hid (Calls _ _ _ wr _) := iless HM.out j1 i (by have := HI.out; have := HKl.out; omega) (by have := HI.out; omega)
        obtain ⟨d9, hd9⟩ : ∃ d, d = decide ((m.getD j1 0) < (m.getD i 0)) := ⟨_, rfl⟩
        have HD9 : Hid (d9 = decide ((m.getD j1 0) < (m.getD i 0))) := hd9
        rw [← hd9] at HE9
        clear hd9
        go_wp2_with fail
        refine HE9.out.mono ?_
        rintro e w9 ⟨rfl, k9⟩
        have HM9 : Hid (Ip w9 h o g cap pre post m) := HM.out.keep0 k9
        have HK9 : Hid (Kp (fun b => b = h ∨ b = g) w w9) := HK.out.trans k9 (fun _ _ e => e.elim)
        clear HE9 k9 hs9
        cases d9 with
        | false =>
          have HRm : Hid (r = m) := by
            show r = m
            rw [HSt.out, HKd.out, if_neg (of_decide_eq_false HD9.out.symm)]
          go_wp2
          go_ret
          exact ⟨⟨_, rfl⟩, HK9.out, by rw [HRm.out]; exact HM9.out⟩
        | true =>
          have hs8 := mSwapI HM9.out.c0
          have HE8 : Hid (Calls _ _ _ w9 _) := iswap HM9.out i j1 (by have := HI.out; omega) (by have := HI.out; have := HKl.out; omega)
          have HRn : Hid (r = dnI l.length (swI m i j1) j1 n) := by
            show r = _
            rw [HSt.out, HKd.out, if_pos (of_decide_eq_true HD9.out.symm)]
          go_wp2_with fail
          refine HE8.out.mono ?_
          rintro e w8 ⟨rfl, k8, h8⟩
          have HM8 : Hid (Ip w8 h o g cap pre post (swI m i j1)) := h8
          have HK8 : Hid (Kp (fun b => b = h ∨ b = g) w w8) := HK9.out.trans k8 (fun b _ e => Or.inr e)
          clear HE8 h8 k8 hs8
          go_wp2
          go_roundg (n + 1 - j1)
          case rel => exact ⟨j1, swI m i j1, by have := HKl.out; omega, rfl, rfl, HK8, HM8, ⟨by rw [swI_len]; exact HR.out.1, HRn.out⟩⟩
          case measure => have := HKl.out; omega
end Go.Proofs.YtmooddbhcccicaaGreatDoor

/- Texts of this proof, joined: Ag, Ap2. -/
/- A heap of numbers: heap.Push, heap.Pop (laid by scripts/mkad.py). -/
namespace Go.Proofs.YtmooddbhcccicaaGreatDoor
set_option linter.unusedVariables false
open Go.RowKit Go.Deep

set_option maxRecDepth 100000 in
set_option maxHeartbeats 1600000 in
theorem heapPushI {w : World} {h o g cap : Nat} {pre post : List Value} {l : List Nat} (x : Ip w h o g cap pre post l) (k : Nat) (hl : l.length ≤ 9000) :
    Calls Tryz.prog 200 #[.iface 235 (.pointer (some ⟨h, o, none⟩)), .iface 3 (.int .i64 (k : Int))] w fun e w' => e = .returned (.tuple #[]) ∧ Kp (fun b => b = h ∨ b = g) w w' ∧ ∃ g' cap', (g' = g ∨ w.heap.size ≤ g') ∧ Ip w' h o g' cap' pre post (pushI l k) := by
  have HE : Hid (Calls _ _ _ w _) := ipushm x k (by omega)
  have HL : Hid (l.length ≤ 9000) := hl
  obtain ⟨av, hav⟩ : ∃ av : Value, av = .iface 3 (.int .i64 (k : Int)) := ⟨_, rfl⟩
  rw [← hav] at HE ⊢
  have h1 := mPushI (.pointer (some ⟨h, o, none⟩)) w
  clear x hl hav
  go_enter Tryz.func200, Tryz.ntmps200
  go_wp2_with fail
  refine HE.out.mono ?_
  rintro e w1 ⟨rfl, k1, g', cap', hg9, h2⟩
  have HK1 : Hid (Kp (fun b => b = h ∨ b = g) w w1) := k1
  have HG9 : Hid ((g' = g ∨ w.heap.size ≤ g')) := hg9
  have HX1 : Hid (Ip w1 h o g' cap' pre post (l ++ [k])) := h2
  have h3 := mLenI h2.c0
  have HE2 : Hid (Calls _ _ _ w1 _) := ilen (some ⟨g', 0, none⟩) (l ++ [k]).length cap' w1
  have hlen : (l ++ [k]).length = l.length + 1 := by rw [List.length_append]; rfl
  rw [hlen] at h3 HE2
  have hw1 : wrap64 (((l.length + 1 : Nat) : Int) - 1) = (l.length : Int) := by have := HL.out; unfold wrap64; omega
  have HU : Hid (Calls _ _ _ w1 _) := iup h2 l.length (by rw [hlen]; omega) (by rw [hlen]; have := HL.out; omega)
  obtain ⟨n, hn⟩ : ∃ n, n = l.length := ⟨_, rfl⟩
  have HP : Hid (upI (n + 1) (l ++ [k]) n = pushI l k) := by show upI (n + 1) (l ++ [k]) n = pushI l k; unfold pushI; rw [hn]
  rw [← hn] at h3 HE2 hw1 HU
  have hw2 : wrap64 (n : Int) = (n : Int) := by have := HL.out; unfold wrap64; omega
  have hw3 : wrap64 ((n : Int) + 1 - 1) = (n : Int) := by have := HL.out; unfold wrap64; omega
  clear k1 h2 h1 HE hlen hn hg9
  go_wp2_with fail
  refine HE2.out.mono ?_
  rintro e w2 ⟨rfl, hw2⟩
  obtain rfl := hw2
  clear h3 HE2
  go_wp2_with fail
  refine HU.out.mono ?_
  rintro e w3 ⟨rfl, k3, h3⟩
  have HF : Hid (Kp (fun b => b = h ∨ b = g) w w3 ∧ Ip w3 h o g' cap' pre post (pushI l k)) := ⟨HK1.out.trans k3 (fun b hb e => e.elim Or.inl (fun e => HG9.out.elim (fun e2 => Or.inr (e.trans e2)) (fun e2 => absurd hb (by omega)))), by rw [← HP.out]; exact h3⟩
  clear h3 k3 HU
  go_wp2
  go_end0
  exact ⟨rfl, HF.out.1, g', cap', HG9.out, HF.out.2⟩

set_option maxRecDepth 100000 in
set_option maxHeartbeats 1600000 in
theorem heapPopI {w : World} {h o g cap : Nat} {pre post : List Value} {l : List Nat} (x : Ip w h o g cap pre post l) (hl : 0 < l.length ∧ l.length ≤ 9000) :
    Calls Tryz.prog 169 #[.iface 235 (.pointer (some ⟨h, o, none⟩))] w fun e w' => e = .returned (.iface 3 (.int .i64 ((popIX l : Nat) : Int))) ∧ Kp (fun b => b = h ∨ b = g) w w' ∧ Ip w' h o g cap pre post (popIL l) := by
  obtain ⟨n, hn⟩ : ∃ n, l.length = n + 1 := ⟨l.length - 1, by omega⟩
  have HX : Hid (Ip w h o g cap pre post l) := x
  have HN : Hid (l.length = n + 1 ∧ n < 9000) := ⟨hn, by omega⟩
  have h1 := mLenI x.c0
  have HE1 : Hid (Calls _ _ _ w _) := ilen (some ⟨g, 0, none⟩) l.length cap w
  have h2 := mSwapI x.c0
  have HE2 : Hid (Calls _ _ _ w _) := iswap x 0 n (by omega) (by omega)
  rw [hn] at h1 HE1 h2 HE2
  have hw1 : wrap64 (((n + 1 : Nat) : Int) - 1) = (n : Int) := by unfold wrap64; omega
  have hw2 : wrap64 (n : Int) = (n : Int) := by unfold wrap64; omega
  have hw3 : wrap64 ((n : Int) + 1 - 1) = (n : Int) := by unfold wrap64; omega
  obtain ⟨m, hm⟩ : ∃ m, m = swI l 0 n := ⟨_, rfl⟩
  rw [← hm] at HE2
  obtain ⟨s, hs⟩ : ∃ s, s = dnI (n + 1) m 0 n := ⟨_, rfl⟩
  have HS : Hid (popIX l = s.getD n 0 ∧ popIL l = s.take n ∧ m.length = n + 1 ∧ s = dnI m.length m 0 n ∧ s.length = n + 1) := by
    have hml : m.length = n + 1 := by rw [hm, swI_len, hn]
    have hsk : sunkI l = s := by unfold sunkI; rw [hn, hs, hm, Nat.add_sub_cancel]
    refine ⟨?_, ?_, hml, by rw [hml]; exact hs, by rw [hs, dnI_len, hml]⟩
    · unfold popIX; rw [hsk, hn, Nat.add_sub_cancel]
    · unfold popIL; rw [hsk, hn, Nat.add_sub_cancel]
  rw [HS.out.1, HS.out.2.1]
  clear x hl hn hm hs
  go_enter Tryz.func169, Tryz.ntmps169
  go_wp2_with fail
  refine HE1.out.mono ?_
  rintro e w0 ⟨rfl, hw0⟩
  obtain rfl := hw0
  clear h1 HE1
  go_wp2_with fail
  refine HE2.out.mono ?_
  rintro e w1 ⟨rfl, k1, x1⟩
  have HK1 : Hid (Kp (fun b => b = h ∨ b = g) w0 w1) := k1.mono (fun b _ e => Or.inr e)
  have HE3 : Hid (Calls _ _ _ w1 _) := idown x1 n (by have := HS.out.2.2.1; omega) (by have := HS.out.2.2.1; have := HN.out; omega)
  rw [← HS.out.2.2.2.1] at HE3
  clear h2 HE2 k1 x1
  go_wp2_with fail
  refine HE3.out.mono ?_
  rintro e w2 ⟨⟨bb, rfl⟩, k2, x2⟩
  have HK2 : Hid (Kp (fun b => b = h ∨ b = g) w0 w2) := HK1.out.trans k2 (fun _ _ e => e)
  have h3 := mPopI (.pointer (some ⟨h, o, none⟩)) w2
  have HE4 : Hid (Calls _ _ _ w2 _) := ipopm x2 n HS.out.2.2.2.2 (by have := HN.out; omega)
  clear HE3 k2 x2
  go_wp2_with fail
  refine HE4.out.mono ?_
  rintro e w3 ⟨rfl, k3, x3⟩
  have HF : Hid (Kp (fun b => b = h ∨ b = g) w0 w3 ∧ Ip w3 h o g cap pre post (s.take n)) := ⟨HK2.out.trans k3 (fun _ _ e => e), x3⟩
  clear HE4 k3 x3 h3
  go_wp2
  go_ret
  exact ⟨rfl, HF.out⟩

end Go.Proofs.YtmooddbhcccicaaGreatDoor

/- So many places from one on. -/
namespace Go.Proofs.YtmooddbhcccicaaGreatDoor
set_option linter.unusedVariables false
set_option linter.unusedSimpArgs false
open Go.RowKit Go.Deep

theorem infoP3 : (Tryz.prog.info? 3).map (fun i => (i.zero, i.size, i.bytes)) = some (some (.int .i64 0), 1, 8) := by kernel_rfl
set_option maxRecDepth 100000 in
theorem make_places (n : Nat) (hn : n ≤ 1000000) (w : World) : (Instr.makeSlice 156 (.int .i64 0) (.int .i64 (n : Int))).run Tryz.prog w = .ok (.slice (some ⟨w.heap.size, 0, none⟩) 0 n) (w.alloc (.cells (madeCells #[.int .i64 0] n) 3)) := by
  obtain ⟨i, hi, hz⟩ := Option.map_eq_some_iff.1 infoP3
  simp only [Prod.mk.injEq] at hz
  obtain ⟨hz, hs, hb⟩ := hz
  have hr := run_make (P := Tryz.prog) w 156 3 i (.int .i64 0) Tryz.underlying156 hi hz .i64 .i64 0 (n : Int) (by omega) (by omega) (by rw [hb]; omega) (by omega)
  rw [hr]
  simp only [hs, Int.toNat_natCast]
  congr 4
  simp
/-- a heap of the k places from e on -/
def Free (l : List Nat) (e k : Nat) : Prop := l.Perm (List.range' e k) ∧ HpdI l l.length
theorem Free.len {l : List Nat} {e k : Nat} (h : Free l e k) : l.length = k := by rw [h.1.length_eq, List.length_range']
theorem Free.nil (e : Nat) : Free [] e 0 := ⟨List.Perm.refl _, fun k _ hk => absurd hk (Nat.not_lt_zero _)⟩
theorem Free.push {l : List Nat} {e k : Nat} (h : Free l e k) : Free (pushI l (e + k)) e (k + 1) := by
  obtain ⟨h1, h2⟩ := pushI_heap h.2 (e + k)
  refine ⟨h2.trans ?_, h1⟩
  rw [List.range'_concat]
  simpa using h.1.append_right [e + k]
/-- the least one comes out, and the others stay -/
theorem Free.pop {l : List Nat} {e k : Nat} (h : Free l e (k + 1)) : l.getD 0 0 = e ∧ popIX l = e ∧ Free (popIL l) (e + 1) k := by
  have hl : l.length = k + 1 := h.len
  obtain ⟨p1, p2, p3, p4⟩ := popI_heap h.2 (by omega)
  have hm : ∀ x ∈ l, e ≤ x := fun x hx => by
    have := h.1.mem_iff.1 hx
    rw [List.mem_range'_1] at this
    exact this.1
  have he : l.getD 0 0 = e := by
    have h1 : l.getD 0 0 ∈ l := by
      rw [List.getD_eq_getElem?_getD, List.getElem?_eq_getElem (by omega : 0 < l.length)]
      exact List.getElem_mem _
    have h2 : e ∈ l := h.1.mem_iff.2 (by rw [List.mem_range'_1]; omega)
    obtain ⟨j, hj, hje⟩ := List.getElem_of_mem h2
    have h3 := h.2.top j hj
    have h4 : tmI l j = e := by unfold tmI; rw [List.getD_eq_getElem?_getD, List.getElem?_eq_getElem hj]; exact hje
    have h5 : tmI l 0 = l.getD 0 0 := rfl
    have := hm _ h1
    omega
  refine ⟨he, p1.trans he, ?_, p2⟩
  have h6 : (popIL l ++ [e]).Perm (List.range' e (k + 1)) := by
    have := p3.trans h.1
    rw [p1, he] at this
    exact this
  have h7 : (e :: popIL l).Perm (e :: List.range' (e + 1) k) := by
    refine List.Perm.trans ?_ h6
    exact (List.perm_append_singleton e (popIL l)).symm
  exact h7.cons_inv

set_option maxRecDepth 100000 in
set_option maxHeartbeats 1600000 in
theorem placesFrom_ok (e k : Nat) (w : World) (hk : (k : Int) ≤ 8192) (he : (e : Int) ≤ 1000000000000000000) :
    Calls Tryz.prog 163 #[.int .i64 (e : Int), .int .i64 (k : Int)] w fun e9 w' => ∃ g cap l, w.heap.size ≤ g ∧ e9 = .returned (.slice (some ⟨g, 0, none⟩) k cap) ∧ Kp (fun _ => False) w w' ∧ w'.ownsRow 0 3 1 (.slice (some ⟨g, 0, none⟩) k cap) k (nls l) ∧ Free l e k := by
  have hmk := make_places k (by omega)
  obtain ⟨h, hh⟩ : ∃ h, h = w.heap.size + 1 := ⟨_, rfl⟩
  obtain ⟨w0, hw0⟩ : ∃ y, y = (w.alloc (.cells (madeCells #[.int .i64 0] k) 3)).alloc (.cells #[.slice (some ⟨w.heap.size, 0, none⟩) 0 k] 156) := ⟨_, rfl⟩
  have zz : (w.alloc (.cells (madeCells #[.int .i64 0] k) 3)).heap.size = w.heap.size + 1 := by simp
  have HK0 : Hid (Kp (fun _ => False) w w0) := by rw [hw0]; exact ((Kp.refl _ _).alloc _).alloc _
  have HI0 : Hid (Ip w0 h 0 w.heap.size k [] [] []) := by
    refine ⟨?_, rfl, ?_, by omega⟩
    · rw [hw0, hh, ← zz]; exact Lv.new _ _ _
    · rw [hw0]
      exact (World.ownsRow_made w _ k (Nat.zero_le _) (by unfold maxLen; omega) (by simp [madeCells])).alloc _
  have HH : Hid (w.heap.size < h) := by show _ < _; omega
  have HN : Hid (k ≤ 8192 ∧ (e : Int) ≤ 1000000000000000000) := ⟨by omega, he⟩
  go_enter Tryz.func163, Tryz.ntmps163
  go_wp2_with fail
  rw [← hw0, ← hh]
  clear hw0 hh zz hmk
  go_loopg [10] k (fun gk iv wr => ∃ (i : Nat) (g c : Nat) (l : List Nat), i ≤ k ∧ gk = k - i ∧ iv = .int .i64 i ∧ Hid (Kp (fun _ => False) w wr) ∧ Hid (Ip wr h 0 g c [] [] l ∧ Free l e i ∧ w.heap.size ≤ g ∧ w.heap.size < h))
  case atStart => exact ⟨0, w.heap.size, k, [], Nat.zero_le _, rfl, rfl, HK0, ⟨HI0.out, Free.nil e, Nat.le_refl _, HH.out⟩⟩
  case round =>
    obtain ⟨i, g, c, l, hi, rfl, rfl, HK, HI⟩ := hrel
    by_cases hlt : i < k
    · have hlt2 : (i : Int) < (k : Int) := by omega
      obtain ⟨v, hv⟩ : ∃ v, v = e + i := ⟨_, rfl⟩
      have HP : Hid (Calls _ _ _ wr _) := heapPushI HI.out.1 v (by rw [HI.out.2.1.len]; have := HN.out; omega)
      have HV : Hid (v = e + i) := hv
      have hwi : wrap64 ((i : Int) + 1) = ((i + 1 : Nat) : Int) := by have := HN.out; unfold wrap64; omega
      clear hv
      go_wp2_with fail
      rw [show ((e : Int) + (i : Int)) = (v : Int) by have := HV.out; omega]
      refine HP.out.mono ?_
      rintro e9 w1 ⟨rfl, k1, g', c', hg', x1⟩
      have HK1 : Hid (Kp (fun _ => False) w w1) := HK.out.trans k1 (fun b hb e9 => by have := HI.out.2.2; omega)
      have HI1 : Hid (Ip w1 h 0 g' c' [] [] (pushI l v) ∧ Free (pushI l v) e (i + 1) ∧ w.heap.size ≤ g' ∧ w.heap.size < h) := ⟨x1, by rw [HV.out]; exact HI.out.2.1.push, by have := HI.out.2.2; have := HK.out.size; omega, HI.out.2.2.2⟩
      clear k1 x1 hg' HP
      go_wp2
      go_roundg (k - (i + 1))
      case rel => exact ⟨i + 1, g', c', pushI l v, by omega, rfl, by first | rw [hwi] | simp, HK1, HI1⟩
      case measure => omega
    · have hik : i = k := by omega
      subst hik
      have hlt2 : ¬ ((i : Int) < (i : Int)) := by omega
      have c0 := HI.out.1.c0
      have hln := HI.out.2.1.len
      rw [hln] at c0
      have HF : Hid (wr.ownsRow 0 3 1 (.slice (some ⟨g, 0, none⟩) i c) i (nls l)) := by
        have := HI.out.1.ow
        rw [hln] at this
        exact this
      clear hln
      go_wp2
      go_ret
      exact ⟨g, HI.out.2.2.1, c, rfl, HK.out, l, HF.out, HI.out.2.1⟩
end Go.Proofs.YtmooddbhcccicaaGreatDoor

/- Texts of this proof, joined: Aq, Ar. -/
/- The head that counts: newest. -/
namespace Go.Proofs.YtmooddbhcccicaaGreatDoor
set_option linter.unusedVariables false
set_option linter.unusedSimpArgs false
open Go.RowKit Go.Deep

structure H4 where
  (a b c d : Int)
abbrev H4.cells (x : H4) : List Value := [.int .i64 x.a, .int .i64 x.b, .int .i64 x.c, .int .i64 x.d]
/-- what a sector says -/
def sayH (xs : List Nat) : H4 := ⟨numAt xs 1, numAt xs 9, numAt xs 17, numAt xs 25⟩
/-- whether it counts in sector i -/
def okH (xs : List Nat) (i : Nat) (s : Int) : Bool := rightH (sayH xs).a (sayH xs).b (sayH xs).c (sayH xs).d xs i s
def stepH (dur : List Nat) (T : Nat → Option (List Nat)) (s : Int) (A : H4) (i : Nat) : H4 := if (okH (nowOf dur T i) i s && decide (A.a < (sayH (nowOf dur T i)).a)) = true then sayH (nowOf dur T i) else A
def newH (dur : List Nat) (T : Nat → Option (List Nat)) (s : Int) : Nat → H4
  | 0 => ⟨0, 0, 0, 0⟩
  | i + 1 => stepH dur T s (newH dur T s i) i
def NewRes (A : H4) (e : Ending) : Prop := if A.a = 0 then e = .returned (.tuple #[headV 0 0 0 0, flt 0 70]) else e = .returned (.tuple #[headV A.a A.b A.c A.d, .nilIface])

theorem lv_set4 {w : World} {m : Nat} {x0 x1 x2 x3 : Value} (h : Lv w m [x0, x1, x2, x3]) (y0 y1 y2 y3 : Value) :
    Lv ((((w.setCell ⟨m, 0, none⟩ y0).setCell ⟨m, 1, none⟩ y1).setCell ⟨m, 2, none⟩ y2).setCell ⟨m, 3, none⟩ y3) m [y0, y1, y2, y3] ∧ Kp (fun b => b = m) w ((((w.setCell ⟨m, 0, none⟩ y0).setCell ⟨m, 1, none⟩ y1).setCell ⟨m, 2, none⟩ y2).setCell ⟨m, 3, none⟩ y3) := by
  have a1 : Lv (w.setCell ⟨m, 0, none⟩ y0) m [y0, x1, x2, x3] := h.set1 0 y0 (by simp)
  have a2 : Lv ((w.setCell ⟨m, 0, none⟩ y0).setCell ⟨m, 1, none⟩ y1) m [y0, y1, x2, x3] := a1.set1 1 y1 (by simp)
  have a3 : Lv (((w.setCell ⟨m, 0, none⟩ y0).setCell ⟨m, 1, none⟩ y1).setCell ⟨m, 2, none⟩ y2) m [y0, y1, y2, x3] := a2.set1 2 y2 (by simp)
  exact ⟨a3.set1 3 y3 (by simp), ((kp_set.trans kp_set (fun _ _ e => e)).trans kp_set (fun _ _ e => e)).trans kp_set (fun _ _ e => e)⟩

set_option maxRecDepth 100000 in
set_option maxHeartbeats 3200000 in
theorem newest_ok {w : World} {bp d m n q : Nat} {dur : List Nat} {T : Nat → Option (List Nat)} (h : Pt w bp d m n q dur T) (s : Int) (hs : s ≤ 1152921504606846976) (hn2 : 2 ≤ n) (ht : Turns w) :
    Calls Tryz.prog 140 #[ringV bp s] w fun e w' => NewRes (newH dur T s 2) e ∧ Kp (fun _ => False) w w' := by
  obtain ⟨Z, hZ0⟩ : ∃ Z, Z = newH dur T s 2 := ⟨_, rfl⟩
  have HZ : Hid (Z = newH dur T s 2) := hZ0
  rw [← hZ0]
  clear hZ0
  have HP : Hid (Pt w bp d m n q dur T) := h
  have HT : Hid (Turns w) := ht
  have HN : Hid (2 ≤ n ∧ s ≤ 1152921504606846976) := ⟨hn2, hs⟩
  obtain ⟨r, hr⟩ : ∃ r, r = w.heap.size := ⟨_, rfl⟩
  obtain ⟨r2, hr2⟩ : ∃ r2, r2 = w.heap.size + 1 := ⟨_, rfl⟩
  obtain ⟨r4, hr4⟩ : ∃ r4, r4 = w.heap.size + 1 + 1 := ⟨_, rfl⟩
  obtain ⟨w0, hw0⟩ : ∃ y, y = ((w.alloc (.cells #[.pointer (some ⟨bp, 0, none⟩), .int .i64 s] 153)).alloc (.cells #[.int .i64 0, .int .i64 0, .int .i64 0, .int .i64 0] 155)).alloc (.cells #[.int .i64 0, .int .i64 0, .int .i64 0, .int .i64 0] 155) := ⟨_, rfl⟩
  have z1 : (w.alloc (.cells #[.pointer (some ⟨bp, 0, none⟩), .int .i64 s] 153)).heap.size = w.heap.size + 1 := by simp
  have z2 : ((w.alloc (.cells #[.pointer (some ⟨bp, 0, none⟩), .int .i64 s] 153)).alloc (.cells #[.int .i64 0, .int .i64 0, .int .i64 0, .int .i64 0] 155)).heap.size = w.heap.size + 1 + 1 := by simp
  have HK0 : Hid (Kp (fun _ => False) w w0) := by rw [hw0]; exact (((Kp.refl _ _).alloc _).alloc _).alloc _
  have HL0 : Hid (Lv w0 r [.pointer (some ⟨bp, 0, none⟩), .int .i64 s]) := by rw [hw0, hr]; exact (Lv.new w _ _).keep (((Kp.refl (fun _ => False) _).alloc _).alloc _) id
  have HR0 : Hid (Lv w0 r2 (H4.cells ⟨0, 0, 0, 0⟩)) := by rw [hw0, hr2, ← z1]; exact (Lv.new _ _ _).keep ((Kp.refl (fun _ => False) _).alloc _) id
  have HV0 : Hid (Lv w0 r4 (H4.cells ⟨0, 0, 0, 0⟩)) := by rw [hw0, hr4, ← z2]; exact Lv.new _ _ _
  have HG : Hid (w.heap.size ≤ r ∧ r < r2 ∧ r2 < r4 ∧ r4 < w0.heap.size) := ⟨by omega, by omega, by omega, HV0.out.lt (by decide)⟩
  have hnn := nil_neq
  clear z1 z2 h hs hn2 ht
  go_enter Tryz.func140, Tryz.ntmps140
  go_wp2_with fail
  rw [← hw0, ← hr4, ← hr2, ← hr]
  clear hw0 hr hr2 hr4
  go_loopg [9] 2 (fun gk iv wr => ∃ (i : Nat) (A : H4), i ≤ 2 ∧ gk = 2 - i ∧ iv = .int .i64 i ∧ Hid (Kp (fun _ => False) w wr ∧ Kp (fun b => b = r4) w0 wr) ∧ Hid (Lv wr r4 A.cells ∧ A = newH dur T s i))
  case atStart => exact ⟨0, ⟨0, 0, 0, 0⟩, Nat.zero_le _, rfl, rfl, ⟨HK0.out, Kp.refl _ _⟩, ⟨HV0.out, rfl⟩⟩
  case round =>
    obtain ⟨i, A, hi, rfl, rfl, HK, HV⟩ := hrel
    have hlr : Lv wr r [.pointer (some ⟨bp, 0, none⟩), .int .i64 s] := HL0.out.keep HK.out.2 (fun e => by have := HG.out; omega)
    have q0 := hlr.cell (j := 0) rfl
    have q1 := hlr.cell (j := 1) rfl
    by_cases hlt : i < 2
    · have hlt2 : (i : Int) < 2 := by omega
      have HR : Hid (Calls _ _ _ wr _) := rread_ok (HP.out.keep0 HK.out.1) s i (by have := HN.out; omega)
      obtain ⟨X, hX⟩ : ∃ X, X = nowOf dur T i := ⟨_, rfl⟩
      rw [← hX] at HR
      obtain ⟨Y, hY⟩ : ∃ Y, Y = sayH X := ⟨_, rfl⟩
      have HST : Hid (newH dur T s (i + 1) = if (okH X i s && decide (A.a < Y.a)) = true then Y else A) := by
        show stepH dur T s (newH dur T s i) i = _
        unfold stepH
        rw [← HV.out.2, ← hX, hY]
      have HY : Hid (Y = sayH X) := hY
      clear hX hY hlr
      go_wp2_with fail
      refine HR.out.mono ?_
      rintro e9 w1 ⟨g, c, hg, hc, rfl, k1, rb1⟩
      have HK1 : Hid (Kp (fun _ => False) w w1 ∧ Kp (fun b => b = r4) w0 w1) := ⟨HK.out.1.trans k1 (fun _ _ e => e), HK.out.2.trans k1 (fun _ _ e => e.elim)⟩
      have HB1 : Hid (Rb w1 (some ⟨g, 0, none⟩) 64 X ∧ 64 ≤ c) := ⟨rb1, hc⟩
      have HV1 : Hid (Lv w1 r4 A.cells) := HV.out.1.keep k1 id
      clear k1 rb1 hg hc HR q0 q1
      go_wp2_with fail
      have HH : Hid (Calls _ _ _ w1 _) := headOf_ok g 0 c X w1 HB1.out.2 HB1.out.1
      refine HH.out.mono ?_
      rintro e9 w2 ⟨rfl, k2⟩
      have HYe : Hid (Y = ⟨numAt X 1, numAt X 9, numAt X 17, numAt X 25⟩) := HY.out
      obtain ⟨ya, yb, yc, yd⟩ := Y
      have hYe := HYe.out
      injection hYe with e1 e2 e3 e4
      rw [← e1, ← e2, ← e3, ← e4]
      have HOk : Hid (∀ u, Kp (fun _ => False) w1 u → Calls Tryz.prog 192 #[headV ya yb yc yd, .slice (some ⟨g, 0, none⟩) 64 c, .int .i64 (i : Int), .int .i64 s] u fun e w' => e = .returned (.bool (okH X i s)) ∧ Kp (fun _ => False) u w') := fun u k => by
        have := hright_ok ya yb yc yd g 0 c X (i : Int) s u (HB1.out.1.keep0 k) (fun j hj => k.cellv (HK1.out.1.cellv (HT.out j hj) id) id) HN.out.2
        unfold okH
        rw [← HY.out]
        exact this
      obtain ⟨t8, ht8⟩ : ∃ t8, t8 = w2.heap.size := ⟨_, rfl⟩
      obtain ⟨w3, hw3⟩ : ∃ y, y = w2.alloc (.cells #[.int .i64 ya, .int .i64 yb, .int .i64 yc, .int .i64 yd] 155) := ⟨_, rfl⟩
      have k23 : Kp (fun _ => False) w2 w3 := by rw [hw3]; exact (Kp.refl _ _).alloc _
      have HL8 : Hid (Lv w3 t8 (H4.cells ⟨ya, yb, yc, yd⟩)) := by rw [hw3, ht8]; exact Lv.new _ _ _
      have HK13 : Hid (Kp (fun _ => False) w1 w3) := k2.trans k23 (fun _ _ e => e)
      have HV3 : Hid (Lv w3 r4 A.cells) := HV1.out.keep HK13.out id
      have hlr : Lv w3 r [.pointer (some ⟨bp, 0, none⟩), .int .i64 s] := (HL0.out.keep HK1.out.2 (fun e => by have := HG.out; omega)).keep HK13.out id
      have q1 := hlr.cell (j := 1) rfl
      have p0 := HL8.out.cell (j := 0) rfl
      have p1 := HL8.out.cell (j := 1) rfl
      have p2 := HL8.out.cell (j := 2) rfl
      have p3 := HL8.out.cell (j := 3) rfl
      have HC : Hid (Calls _ _ _ w3 _) := HOk.out w3 HK13.out
      clear e1 e2 e3 e4 HYe k2 k23 hlr HOk HH HB1 HV1
      go_upto_region 9 with fail
      rw [← hw3, ← ht8]
      clear hw3 ht8
      go_wp2_with fail
      refine HC.out.mono ?_
      rintro e9 w4 ⟨rfl, k4⟩
      have HK4 : Hid (Kp (fun _ => False) w w4 ∧ Kp (fun b => b = r4) w0 w4) := ⟨(HK1.out.1.trans HK13.out (fun _ _ e => e)).trans k4 (fun _ _ e => e), (HK1.out.2.trans HK13.out (fun _ _ e => e.elim)).trans k4 (fun _ _ e => e.elim)⟩
      have HV4 : Hid (Lv w4 r4 A.cells) := HV3.out.keep k4 id
      have HL4 : Hid (Lv w4 t8 (H4.cells ⟨ya, yb, yc, yd⟩)) := HL8.out.keep k4 id
      clear k4 HC HV3 HL8 q1 p0 p1 p2 p3
      obtain ⟨B, hB⟩ : ∃ B, B = okH X i s := ⟨_, rfl⟩
      have HB : Hid (B = okH X i s) := hB
      rw [← hB]
      clear hB
      obtain ⟨aa, ab, ac, ad⟩ := A
      have p0 := HL4.out.cell (j := 0) rfl
      have v0 := HV4.out.cell (j := 0) rfl
      cases B with
      | false =>
        have HD : Hid ((okH X i s && decide (aa < ya)) = false) := by show _ = _; rw [← HB.out]; rfl
        go_wp2
        go_roundg (2 - (i + 1))
        case rel => exact ⟨i + 1, ⟨aa, ab, ac, ad⟩, by omega, rfl, by simp, HK4.out, ⟨HV4.out, by rw [HST.out, HD.out]; rfl⟩⟩
        case measure => omega
      | true =>
        by_cases hgt : aa < ya
        · have hg2 : ya > aa := hgt
          have HD : Hid ((okH X i s && decide (aa < ya)) = true) := by show _ = _; rw [← HB.out, decide_eq_true hgt]; rfl
          have p1 := HL4.out.cell (j := 1) rfl
          have p2 := HL4.out.cell (j := 2) rfl
          have p3 := HL4.out.cell (j := 3) rfl
          have v1 := HV4.out.cell (j := 1) rfl
          have v2 := HV4.out.cell (j := 2) rfl
          have v3 := HV4.out.cell (j := 3) rfl
          have f0 := HV4.out.fz (j := 0) (show 0 < 4 by decide)
          have f1 := HV4.out.fz (j := 1) (show 1 < 4 by decide)
          have f2 := HV4.out.fz (j := 2) (show 2 < 4 by decide)
          have f3 := HV4.out.fz (j := 3) (show 3 < 4 by decide)
          have HS : Hid (_ ∧ _) := lv_set4 HV4.out (.int .i64 ya) (.int .i64 yb) (.int .i64 yc) (.int .i64 yd)
          clear hgt
          go_wp2
          go_roundg (2 - (i + 1))
          case rel => exact ⟨i + 1, ⟨ya, yb, yc, yd⟩, by omega, rfl, by simp, ⟨HK4.out.1.trans HS.out.2 (fun b hb e => by have := HG.out; omega), HK4.out.2.trans HS.out.2 (fun _ _ e => e)⟩, ⟨HS.out.1, by rw [HST.out, HD.out]; rfl⟩⟩
          case measure => omega
        · have hg2 : ¬ ya > aa := hgt
          have HD : Hid ((okH X i s && decide (aa < ya)) = false) := by show _ = _; rw [decide_eq_false hgt, Bool.and_false]
          clear hgt
          go_wp2
          go_roundg (2 - (i + 1))
          case rel => exact ⟨i + 1, ⟨aa, ab, ac, ad⟩, by omega, rfl, by simp, HK4.out, ⟨HV4.out, by rw [HST.out, HD.out]; rfl⟩⟩
          case measure => omega
    · have hi2 : i = 2 := by omega
      subst hi2
      obtain ⟨aa, ab, ac, ad⟩ := A
      have hZ : Z = ⟨aa, ab, ac, ad⟩ := HZ.out.trans HV.out.2.symm
      subst hZ
      have v0 := HV.out.1.cell (j := 0) rfl
      have v1 := HV.out.1.cell (j := 1) rfl
      have v2 := HV.out.1.cell (j := 2) rfl
      have v3 := HV.out.1.cell (j := 3) rfl
      have HR2 : Hid (Lv wr r2 (H4.cells ⟨0, 0, 0, 0⟩)) := HR0.out.keep HK.out.2 (fun e => by have := HG.out; omega)
      have u0 := HR2.out.cell (j := 0) rfl
      have u1 := HR2.out.cell (j := 1) rfl
      have u2 := HR2.out.cell (j := 2) rfl
      have u3 := HR2.out.cell (j := 3) rfl
      have f0 := HR2.out.fz (j := 0) (show 0 < 4 by decide)
      have f1 := HR2.out.fz (j := 1) (show 1 < 4 by decide)
      have f2 := HR2.out.fz (j := 2) (show 2 < 4 by decide)
      have f3 := HR2.out.fz (j := 3) (show 3 < 4 by decide)
      clear hlr q0 q1
      by_cases h0 : aa = 0
      · have h0b : (aa == 0) = true := by rw [beq_iff_eq]; exact h0
        have HN9 : Hid (∀ e, e = .returned (.tuple #[headV 0 0 0 0, flt 0 70]) → NewRes ⟨aa, ab, ac, ad⟩ e) := fun e he => by unfold NewRes; rw [if_pos h0]; exact he
        have HFl : Hid (∀ u, Calls Tryz.prog 136 #[.int .i64 0, .int .i64 70] u fun e w' => e = .returned (flt 0 70) ∧ w' = u) := fun u => fault_flt 0 70 (by decide) u
        have HS : Hid (∀ u, Kp (fun _ => False) wr u → u = wr → _ ∧ _) := fun u _ hu => by subst hu; exact lv_set4 HR2.out (.int .i64 0) (.int .i64 0) (.int .i64 0) (.int .i64 0)
        clear h0
        go_wp2_with fail
        refine (HFl.out _).mono ?_
        rintro e9 w9 ⟨rfl, hw9⟩
        have hw8 := hw9.symm
        subst hw8
        clear hw9 HFl
        obtain ⟨w5, hw5⟩ : ∃ y, y = (((wr.setCell ⟨r2, 0, none⟩ (.int .i64 0)).setCell ⟨r2, 1, none⟩ (.int .i64 0)).setCell ⟨r2, 2, none⟩ (.int .i64 0)).setCell ⟨r2, 3, none⟩ (.int .i64 0) := ⟨_, rfl⟩
        have hs5 := HS.out wr (Kp.refl _ _) rfl
        rw [← hw5] at hs5
        have HLd : Hid ((loadVar 155 ⟨r2, 0, none⟩).run Tryz.prog w5 = .ok (headV 0 0 0 0) w5) := hs5.1.load dsHead szHead rfl
        have HF : Hid (Kp (fun _ => False) w w5) := HK.out.1.trans hs5.2 (fun b hb e => by have := HG.out; omega)
        clear hs5 HS
        go_wp2
        rw [← hw5]
        refine bodyPost_ret (res_cell_tmp Tryz.results140 _ _ r2 _ rfl HLd.out) rfl ?_
        exact ⟨HN9.out _ rfl, HF.out⟩
      · have h0b : (aa == 0) = false := by rw [beq_eq_false_iff_ne]; exact h0
        have HN9 : Hid (∀ e, e = .returned (.tuple #[headV aa ab ac ad, .nilIface]) → NewRes ⟨aa, ab, ac, ad⟩ e) := fun e he => by unfold NewRes; rw [if_neg h0]; exact he
        have HS : Hid (_ ∧ _) := lv_set4 HR2.out (.int .i64 aa) (.int .i64 ab) (.int .i64 ac) (.int .i64 ad)
        obtain ⟨w5, hw5⟩ : ∃ y, y = (((wr.setCell ⟨r2, 0, none⟩ (.int .i64 aa)).setCell ⟨r2, 1, none⟩ (.int .i64 ab)).setCell ⟨r2, 2, none⟩ (.int .i64 ac)).setCell ⟨r2, 3, none⟩ (.int .i64 ad) := ⟨_, rfl⟩
        have hs5 := HS.out
        rw [← hw5] at hs5
        have HLd : Hid ((loadVar 155 ⟨r2, 0, none⟩).run Tryz.prog w5 = .ok (headV aa ab ac ad) w5) := hs5.1.load dsHead szHead rfl
        have HF : Hid (Kp (fun _ => False) w w5) := HK.out.1.trans hs5.2 (fun b hb e => by have := HG.out; omega)
        clear h0 hs5
        go_wp2
        rw [← hw5]
        refine bodyPost_ret (res_cell_tmp Tryz.results140 _ _ r2 _ rfl HLd.out) rfl ?_
        exact ⟨HN9.out _ rfl, HF.out⟩
end Go.Proofs.YtmooddbhcccicaaGreatDoor

/- A log in memory: turn; a sector of noughts; a plate that may have a ring. -/
namespace Go.Proofs.YtmooddbhcccicaaGreatDoor
set_option linter.unusedVariables false
set_option linter.unusedSimpArgs false
open Go.RowKit Go.Deep

/-- the log at block g -/
abbrev walC (b : Nat) (s : Int) (A : H4) (fv : Value) (last : Int) : List Value := [.pointer (some ⟨b, 0, none⟩), .int .i64 s, .int .i64 A.a, .int .i64 A.b, .int .i64 A.c, .int .i64 A.d, fv, .int .i64 last]

set_option maxRecDepth 100000 in
set_option maxHeartbeats 800000 in
theorem isBlank_ok (g q c : Nat) (xs : List Nat) (w : World) (h : Rb w (some ⟨g, q, none⟩) 64 xs) :
    Calls Tryz.prog 193 #[.slice (some ⟨g, q, none⟩) 64 c] w fun e w' => e = .returned (.bool (decide (xs = nouW 64))) ∧ Kp (fun _ => False) w w' := by
  have HR : Hid (Rb w (some ⟨g, q, none⟩) 64 xs) := h
  clear h
  go_enter Tryz.func193, Tryz.ntmps193
  go_wp2_with fail
  refine (blankS_ok w).mono ?_
  rintro e9 w1 ⟨g1, _, rfl, k1, x1⟩
  have HK : Hid (Kp (fun _ => False) w w1) := k1
  have HQ : Hid (Calls _ _ _ w1 _) := equal_any c 64 w1 (HR.out.keep0 k1) x1.rb
  clear k1 x1
  go_wp2_with fail
  refine HQ.out.mono ?_
  rintro e9 w9 ⟨rfl, hw9⟩
  have hw8 := hw9.symm
  subst hw8
  clear hw9 HQ
  obtain ⟨b7, h7⟩ : ∃ x, x = decide (xs = nouW 64) := ⟨_, rfl⟩
  rw [← h7]
  have H7 : Hid (b7 = decide (xs = nouW 64)) := h7
  clear h7
  go_wp2
  go_ret
  exact ⟨by show Ending.returned (.bool b7) = _; rw [H7.out], HK.out⟩

set_option maxRecDepth 100000 in
theorem sectors_ok {w : World} {b d m n q : Nat} {dur : List Nat} {T : Nat → Option (List Nat)} (h : Pt w b d m n q dur T) :
    Calls Tryz.prog 65 #[.pointer (some ⟨b, 0, none⟩)] w fun e w' => e = .returned (.int .i64 (n : Int)) ∧ w' = w := by
  have HM : Hid (Calls _ _ _ w _) := made_ok h
  have c0 := h.c0
  clear h
  go_enter Tryz.func65, Tryz.ntmps65
  go_wp2_with fail
  refine HM.out.mono ?_
  rintro e9 w9 ⟨rfl, hw9⟩
  have hw8 := hw9.symm
  subst hw8
  clear hw9 HM
  go_wp2
  go_ret
  exact ⟨rfl, rfl⟩

set_option maxRecDepth 100000 in
theorem failedW_ok {w : World} {b d m n q : Nat} {dur : List Nat} {T : Nat → Option (List Nat)} (h : Pt w b d m n q dur T) :
    Calls Tryz.prog 66 #[.pointer (some ⟨b, 0, none⟩)] w fun e w' => e = .returned (.bool false) ∧ w' = w := by
  have HM : Hid (Calls _ _ _ w _) := state_ok h
  clear h
  go_enter Tryz.func66, Tryz.ntmps66
  go_wp2_with fail
  refine HM.out.mono ?_
  rintro e9 w9 ⟨rfl, hw9⟩
  have hw8 := hw9.symm
  subst hw8
  clear hw9 HM
  go_wp2
  go_ret
  exact ⟨rfl, rfl⟩

set_option maxRecDepth 100000 in
set_option maxHeartbeats 800000 in
theorem unfit_ok {w : World} {b d m n q : Nat} {dur : List Nat} {T : Nat → Option (List Nat)} (h : Pt w b d m n q dur T) (h6 : 6 ≤ n) :
    Calls Tryz.prog 100 #[.pointer (some ⟨b, 0, none⟩)] w fun e w' => e = .returned (.int .i64 0) ∧ w' = w := by
  have HS : Hid (Calls _ _ _ w _) := sectors_ok h
  have HF : Hid (Calls _ _ _ w _) := failedW_ok h
  have h0 : ((n : Int) == 0) = false := by rw [beq_eq_false_iff_ne]; omega
  have h1 : ¬ ((n : Int) < 6) := by omega
  clear h h6
  go_enter Tryz.func100, Tryz.ntmps100
  go_wp2_with fail
  refine HS.out.mono ?_
  rintro e9 w9 ⟨rfl, hw9⟩
  have hw8 := hw9.symm
  subst hw8
  clear hw9
  go_wp2_with fail
  refine HF.out.mono ?_
  rintro e9 w9 ⟨rfl, hw9⟩
  have hw8 := hw9.symm
  subst hw8
  clear hw9
  go_wp2_with fail
  refine HS.out.mono ?_
  rintro e9 w9 ⟨rfl, hw9⟩
  have hw8 := hw9.symm
  subst hw8
  clear hw9
  go_wp2
  go_ret
  exact ⟨rfl, rfl⟩

theorem lv_head {w : World} {m : Nat} {x0 x1 x2 x3 x4 x5 x6 x7 : Value} (h : Lv w m [x0, x1, x2, x3, x4, x5, x6, x7]) (y2 y3 y4 y5 : Value) :
    Lv ((((w.setCell ⟨m, 2, none⟩ y2).setCell ⟨m, 3, none⟩ y3).setCell ⟨m, 4, none⟩ y4).setCell ⟨m, 5, none⟩ y5) m [x0, x1, y2, y3, y4, y5, x6, x7] ∧ Kp (fun b => b = m) w ((((w.setCell ⟨m, 2, none⟩ y2).setCell ⟨m, 3, none⟩ y3).setCell ⟨m, 4, none⟩ y4).setCell ⟨m, 5, none⟩ y5) := by
  have a1 : Lv (w.setCell ⟨m, 2, none⟩ y2) m [x0, x1, y2, x3, x4, x5, x6, x7] := h.set1 2 y2 (by simp)
  have a2 : Lv ((w.setCell ⟨m, 2, none⟩ y2).setCell ⟨m, 3, none⟩ y3) m [x0, x1, y2, y3, x4, x5, x6, x7] := a1.set1 3 y3 (by simp)
  have a3 : Lv (((w.setCell ⟨m, 2, none⟩ y2).setCell ⟨m, 3, none⟩ y3).setCell ⟨m, 4, none⟩ y4) m [x0, x1, y2, y3, y4, x5, x6, x7] := a2.set1 4 y4 (by simp)
  exact ⟨a3.set1 5 y5 (by simp), ((kp_set.trans kp_set (fun _ _ e => e)).trans kp_set (fun _ _ e => e)).trans kp_set (fun _ _ e => e)⟩

set_option maxRecDepth 100000 in
set_option maxHeartbeats 1600000 in
theorem turn_ok {w : World} {g bp d m n q : Nat} {dur : List Nat} {T : Nat → Option (List Nat)} (h : Pt w bp d m n q dur T) (hq : (q : Int) < 9223372036854775807) (hn2 : 2 ≤ n) (s : Int) (A : H4) (fv : Value) (last : Int) (hl : Lv w g (walC bp s A fv last)) (hgd : g ≠ d) (hgm : g ≠ m) (hgb : bp ≠ g) (a b c e : Nat) (ha : a ≤ 1152921504606846976) (hb : b ≤ 1152921504606846976) (hc : c ≤ 1152921504606846976) (he : e ≤ 1152921504606846976) (ht : Turns w) :
    Calls Tryz.prog 162 #[.pointer (some ⟨g, 0, none⟩), headV a b c e] w fun e9 w' => e9 = .returned .nilIface ∧ Kp (fun x => x = d ∨ x = m ∨ x = g) w w' ∧ Pt w' bp d m n 0 (wrHead dur T n (a % 2) (hdB a b c e)) (fun _ => none) ∧ Lv w' g (walC bp s ⟨a, b, c, e⟩ fv last) := by
  obtain ⟨aa, ab, ac, ad⟩ := A
  have HBG : Hid (bp ≠ g) := hgb
  obtain ⟨r, hr⟩ : ∃ r, r = w.heap.size := ⟨_, rfl⟩
  obtain ⟨w0, hw0⟩ : ∃ y, y = w.alloc (.cells #[.int .i64 (a : Int), .int .i64 (b : Int), .int .i64 (c : Int), .int .i64 (e : Int)] 155) := ⟨_, rfl⟩
  have HK0 : Hid (Kp (fun _ => False) w w0) := by rw [hw0]; exact (Kp.refl _ _).alloc _
  have HH0 : Hid (Lv w0 r (H4.cells ⟨a, b, c, e⟩)) := by rw [hw0, hr]; exact Lv.new _ _ _
  have HL0 : Hid (Lv w0 g (walC bp s ⟨aa, ab, ac, ad⟩ fv last)) := hl.keep HK0.out id
  have HG : Hid (g < w.heap.size ∧ r = w.heap.size ∧ g ≠ d ∧ g ≠ m ∧ d < w.heap.size ∧ m < w.heap.size) := ⟨hl.lt (by simp), hr, hgd, hgm, h.row.lt, h.mp.lt⟩
  have HW : Hid (∀ u, Kp (fun _ => False) w u → Calls Tryz.prog 199 #[ringV bp s, headV a b c e] u fun e9 w' => e9 = .returned .nilIface ∧ Kp (fun x => x = d ∨ x = m) u w' ∧ Pt w' bp d m n 0 (wrHead dur T n (a % 2) (hdB a b c e)) (fun _ => none)) := fun u k => writeHead_ok (h.keep0 k) hq hn2 s a b c e ha hb hc he (fun j hj => k.cellv (ht j hj) id)
  have p0 := HH0.out.cell (j := 0) rfl
  have p1 := HH0.out.cell (j := 1) rfl
  have p2 := HH0.out.cell (j := 2) rfl
  have p3 := HH0.out.cell (j := 3) rfl
  have v0 := HL0.out.cell (j := 0) rfl
  have v1 := HL0.out.cell (j := 1) rfl
  have hnn := nil_neq
  have kd := HK0.out.drew
  clear h hq hn2 hl ha hb hc he ht hgd hgm hgb
  go_enter Tryz.func162, Tryz.ntmps162
  go_upto_region 1 with fail
  rw [← hw0, ← hr]
  clear hw0 hr
  go_region_with (go_at_call 199; refine (HW.out _ kd).mono ?_; rintro e9 w1 ⟨rfl, k1, pt1⟩)
  all_goals
    have HK1 : Hid (Kp (fun x => x = d ∨ x = m ∨ x = g) w w1) := (kd.mono (fun _ _ e => e.elim)).trans k1 (fun _ _ e => e.elim Or.inl (fun e => Or.inr (Or.inl e)))
    have HK01 : Hid (Kp (fun x => x = d ∨ x = m) w0 w1) := ((Kp.refl (fun _ => False) w0).drew.mono (fun _ _ e => e.elim)).trans k1 (fun _ _ e => e)
    have HL1 : Hid (Lv w1 g (walC bp s ⟨aa, ab, ac, ad⟩ fv last)) := HL0.out.keep HK01.out (fun e => by have := HG.out; omega)
    have HH1 : Lv w1 r (H4.cells ⟨a, b, c, e⟩) := HH0.out.keep HK01.out (fun e => by have := HG.out; omega)
    have HP1 : Hid (Pt w1 bp d m n 0 (wrHead dur T n (a % 2) (hdB a b c e)) (fun _ => none)) := pt1
    clear p0 p1 p2 p3 v0 v1 k1 pt1 kd
    have p0 := HH1.cell (j := 0) rfl
    have p1 := HH1.cell (j := 1) rfl
    have p2 := HH1.cell (j := 2) rfl
    have p3 := HH1.cell (j := 3) rfl
    have v2 := HL1.out.cell (j := 2) rfl
    have v3 := HL1.out.cell (j := 3) rfl
    have v4 := HL1.out.cell (j := 4) rfl
    have v5 := HL1.out.cell (j := 5) rfl
    have f2 := HL1.out.fz (j := 2) (show 2 < 8 by decide)
    have f3 := HL1.out.fz (j := 3) (show 3 < 8 by decide)
    have f4 := HL1.out.fz (j := 4) (show 4 < 8 by decide)
    have f5 := HL1.out.fz (j := 5) (show 5 < 8 by decide)
    have HS : Hid (_ ∧ _) := lv_head HL1.out (.int .i64 (a : Int)) (.int .i64 (b : Int)) (.int .i64 (c : Int)) (.int .i64 (e : Int))
    obtain ⟨w5, hw5⟩ : ∃ y, y = (((w1.setCell ⟨g, 2, none⟩ (.int .i64 (a : Int))).setCell ⟨g, 3, none⟩ (.int .i64 (b : Int))).setCell ⟨g, 4, none⟩ (.int .i64 (c : Int))).setCell ⟨g, 5, none⟩ (.int .i64 (e : Int)) := ⟨_, rfl⟩
    have hs5 := HS.out
    rw [← hw5] at hs5
    have HF : Hid (Kp (fun x => x = d ∨ x = m ∨ x = g) w w5 ∧ Pt w5 bp d m n 0 (wrHead dur T n (a % 2) (hdB a b c e)) (fun _ => none) ∧ Lv w5 g (walC bp s ⟨a, b, c, e⟩ fv last)) := ⟨HK1.out.trans hs5.2 (fun _ _ e => Or.inr (Or.inr e)), HP1.out.keep hs5.2 HBG.out (fun e => by have := HG.out; omega) (fun e => by have := HG.out; omega), hs5.1⟩
    clear hs5 HH1
    go_simp
    go_wp2
    rw [← hw5]
    go_ret
    exact ⟨rfl, HF.out⟩
end Go.Proofs.YtmooddbhcccicaaGreatDoor
