/- A heap of numbers: Pop of its own; up (laid by scripts/mkad.py). -/
import Derived.Test.YtippipeebkkghaaGreatDoorAd
namespace Go.Proofs.YtippipeebkkghaaGreatDoor
set_option linter.unusedVariables false
open Go.RowKit Go.Deep

set_option maxRecDepth 100000 in
set_option maxHeartbeats 1600000 in
theorem ipopm {w : World} {h o g cap : Nat} {pre post : List Value} {l : List Nat} (x : Ip w h o g cap pre post l) (n : Nat) (hl : l.length = n + 1) (hn : n ≤ 10000) :
    Calls Tryz.prog 262 #[.pointer (some ⟨h, o, none⟩)] w fun e w' => e = .returned (.iface 3 (.int .i64 ((l.getD n 0 : Nat) : Int))) ∧ Kp (fun b => b = h ∨ b = g) w w' ∧ Ip w' h o g cap pre post (l.take n) := by
  have cc := x.cn (j := n) (by omega)
  have HX : Hid (Ip w h o g cap pre post l) := x
  obtain ⟨a, ha⟩ : ∃ a, a = l.getD n 0 := ⟨_, rfl⟩
  rw [← ha] at cc
  rw [← ha]
  have c0 := x.c0
  rw [hl] at c0
  have f0 : w.frozen? ⟨h, o, none⟩ = false := x.fz
  have hcap : n + 1 ≤ cap := by have := x.capLe; omega
  have hw1 : wrap64 (((n + 1 : Nat) : Int) - 1) = (n : Int) := by unfold wrap64; omega
  have hhw : h < w.heap.size := x.hb
  have hgw : g < w.heap.size := x.gb
  have HF : Hid (Kp (fun b => b = h ∨ b = g) w (w.setCell ⟨h, o, none⟩ (.slice (some ⟨g, 0, none⟩) n cap)) ∧ Ip (w.setCell ⟨h, o, none⟩ (.slice (some ⟨g, 0, none⟩) n cap)) h o g cap pre post (l.take n)) := by
    have ks : Kp (fun b => b = h) w (w.setCell ⟨h, o, none⟩ (.slice (some ⟨g, 0, none⟩) n cap)) := (Kp.refl (fun b => b = h) w).setCell (fun _ => rfl) _
    have hlt : (l.take n).length = n := by rw [List.length_take]; omega
    refine ⟨ks.mono (fun b _ e => Or.inl e), ⟨?_, x.ol, ?_, x.ne⟩⟩
    · rw [hlt]
      exact x.lset _
    · rw [hlt, ← nls_take]
      have h3 := own_subI (k := n) x.ow (by omega)
      rw [Nat.mul_one] at h3
      exact ownsRow_keep h3 ks (fun g0 e e2 => by have e' : some g = some g0 := e; injection e' with e'; exact x.ne (by omega))
  clear x ha hl
  go_enter Tryz.func262, Tryz.ntmps262
  go_wp2
  go_ret
  exact ⟨rfl, HF.out⟩

set_option maxRecDepth 100000 in
set_option maxHeartbeats 1600000 in
theorem iup {w : World} {h o g cap : Nat} {pre post : List Value} {l : List Nat} (x : Ip w h o g cap pre post l) (j : Nat) (hj : j < l.length) (hl : l.length ≤ 10000) :
    Calls Tryz.prog 213 #[.iface 275 (.pointer (some ⟨h, o, none⟩)), .int .i64 j] w fun e w' => e = .returned (.tuple #[]) ∧ Kp (fun b => b = h ∨ b = g) w w' ∧ Ip w' h o g cap pre post (upI (j + 1) l j) := by
  have HX : Hid (Ip w h o g cap pre post l) := x
  have HL : Hid (j < l.length ∧ l.length ≤ 10000) := ⟨hj, hl⟩
  obtain ⟨r, hr⟩ : ∃ r, r = upI (j + 1) l j := ⟨_, rfl⟩
  rw [← hr]
  clear x hj hl
  go_enter Tryz.func213, Tryz.ntmps213
  go_wp2
  go_loopg [1] (j + 1) (fun gk jv wr => ∃ (i : Nat) (m : List Nat), i ≤ j ∧ gk = i + 1 ∧ jv = .int .i64 i ∧ Hid (Kp (fun b => b = h ∨ b = g) w wr) ∧ Hid (Ip wr h o g cap pre post m) ∧ Hid (m.length = l.length ∧ r = upI (i + 1) m i))
  case atStart => exact ⟨j, l, Nat.le_refl _, rfl, rfl, Kp.refl _ _, HX, ⟨rfl, hr⟩⟩
  case round =>
    obtain ⟨i, m, hi, rfl, rfl, HK, HM, HR⟩ := hrel
    clear hr
    by_cases h0 : i = 0
    · subst h0
      have HRm : Hid (r = m) := HR.out.2
      go_wp2
      go_end0
      exact ⟨rfl, HK.out, by rw [HRm.out]; exact HM.out⟩
    · have HI : Hid (i < m.length ∧ (i - 1) / 2 < m.length ∧ m.length ≤ 10000) := by show _ ∧ _; have h1 := HR.out.1; have h2 := HL.out; omega
      have hw1 : wrap64 ((i : Int) - 1) = ((i - 1 : Nat) : Int) := by have := HI.out; unfold wrap64; omega
      have hq : ((i - 1 : Nat) : Int).tdiv 2 = (((i - 1) / 2 : Nat) : Int) := by
        rw [Int.tdiv_eq_ediv_of_nonneg (by omega)]; omega
      obtain ⟨q, hqq⟩ : ∃ q, q = (i - 1) / 2 := ⟨_, rfl⟩
      rw [← hqq] at hq
      have hwq : wrap64 ((q : Int)) = (q : Int) := by have := HI.out; unfold wrap64; omega
      have hne : ¬ ((q : Int) = (i : Int)) := by omega
      have HQ : Hid (q = (i - 1) / 2) := hqq
      have hs1 := mLessI HM.out.c0
      have HE : Hid (Calls _ _ _ wr _) := iless HM.out i q HI.out.1 (by rw [hqq]; exact HI.out.2.1)
      obtain ⟨d, hd⟩ : ∃ d, d = decide ((m.getD i 0) < (m.getD q 0)) := ⟨_, rfl⟩
      have HD : Hid (d = decide ((m.getD i 0) < (m.getD q 0))) := hd
      rw [← hd] at HE
      clear hd hqq
      go_wp2_with fail
      refine HE.out.mono ?_
      rintro e w1 ⟨rfl, k1⟩
      have HM1 : Hid (Ip w1 h o g cap pre post m) := HM.out.keep0 k1
      have HK1 : Hid (Kp (fun b => b = h ∨ b = g) w w1) := HK.out.trans k1 (fun _ _ e => e.elim)
      clear HE k1 hs1
      cases d with
      | false =>
        have HRm : Hid (r = m) := by
          have h1 := HR.out.2
          have h2 : ¬ ((m.getD i 0) < (m.getD q 0)) := of_decide_eq_false HD.out.symm
          show r = m
          rw [h1, upI_succ, if_neg h0, ← HQ.out, if_neg h2]
        go_wp2
        go_end0
        exact ⟨rfl, HK1.out, by rw [HRm.out]; exact HM1.out⟩
      | true =>
        have hs2 := mSwapI HM1.out.c0
        have HE2 : Hid (Calls _ _ _ w1 _) := iswap HM1.out q i (by rw [HQ.out]; exact HI.out.2.1) HI.out.1
        have HRn : Hid (r = upI i (swI m q i) q) := by
          have h1 := HR.out.2
          have h2 : (m.getD i 0) < (m.getD q 0) := of_decide_eq_true HD.out.symm
          show r = _
          rw [h1, upI_succ, if_neg h0, ← HQ.out, if_pos h2]
        go_wp2_with fail
        refine HE2.out.mono ?_
        rintro e w2 ⟨rfl, k2, h2⟩
        have HM2 : Hid (Ip w2 h o g cap pre post (swI m q i)) := h2
        have HK2 : Hid (Kp (fun b => b = h ∨ b = g) w w2) := HK1.out.trans k2 (fun b _ e => Or.inr e)
        clear HE2 h2 k2 hs2
        go_wp2
        go_roundg (q + 1)
        case rel => exact ⟨q, swI m q i, by have := HQ.out; omega, rfl, rfl, HK2, HM2, ⟨by rw [swI_len]; exact HR.out.1, by rw [HRn.out]; exact upI_fuel _ _ _ _ (by have := HQ.out; omega) (by omega)⟩⟩
        case measure => have := HQ.out; omega
end Go.Proofs.YtippipeebkkghaaGreatDoor
