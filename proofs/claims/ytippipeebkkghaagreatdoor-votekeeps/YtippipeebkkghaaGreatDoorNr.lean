/- frame's cursor: number, text, done. -/
import Derived.Test.YtippipeebkkghaaGreatDoorNq
namespace Go.Proofs.YtippipeebkkghaaGreatDoor
set_option linter.unusedVariables false
set_option linter.unusedSimpArgs false
set_option linter.unnecessarySimpa false
open Go.RowKit Go.Deep

set_option maxRecDepth 100000 in
set_option maxHeartbeats 800000 in
theorem number_ok {Z : Nat → Prop} (r : Nat) (xs : List Nat) (w : World) (h : Cu Z w r xs) (hb : ∀ x ∈ xs, x < 256) : Calls Tryz.prog 154 #[.pointer (some ⟨r, 0, none⟩)] w fun e w' => UpRes Z r 1152921504606846976 xs w e w' ∧ Kp (fun b => b = r) w w' := by
  have H : Hid (Calls _ _ _ w _) := upTo_ok r 1152921504606846976 xs w h (Nat.le_refl _) hb
  clear h hb
  go_enter Tryz.func154, Tryz.ntmps154
  go_wp2_with fail
  refine H.out.mono ?_
  rintro e9 w9 ⟨hu, k9⟩
  unfold UpRes at hu
  have HK : Hid (Kp (fun b => b = r) w w9) := k9
  clear k9 H
  cases hq : rdNum 1152921504606846976 xs with
  | none =>
    rw [hq] at hu
    have he : e9 = .panicked gaveUp := hu
    subst he
    refine ⟨rfl, ?_, HK.out⟩
    unfold UpRes
    rw [hq]
  | some p =>
    obtain ⟨n, t⟩ := p
    rw [hq] at hu
    obtain ⟨he, hc⟩ := hu
    subst he
    have HQ : Hid (rdNum 1152921504606846976 xs = some (n, t)) := hq
    have HC : Hid (Cu Z w9 r t) := hc
    clear hq hc
    go_wp2_with fail
    go_ret
    refine ⟨?_, HK.out⟩
    unfold UpRes
    rw [HQ.out]
    exact ⟨rfl, HC.out⟩

set_option maxRecDepth 100000 in
set_option maxHeartbeats 800000 in
theorem done_ok {Z : Nat → Prop} (r : Nat) (xs : List Nat) (w : World) (h : Cu Z w r xs) : Calls Tryz.prog 110 #[.pointer (some ⟨r, 0, none⟩)] w fun e w' => e = .returned (.bool xs.isEmpty) ∧ w' = w := by
  obtain ⟨q, m, c, h1, h2, h3, h4, h5, h6⟩ := h
  have hm := h5.len
  by_cases h0 : m = 0
  · subst h0
    have HV : Hid (xs.isEmpty = true) := by show _ = _; rw [List.eq_nil_of_length_eq_zero hm]; rfl
    clear h5 h6 hm h2 h3 h4
    go_enter Tryz.func110, Tryz.ntmps110
    go_wp2_with fail
    go_ret
    exact ⟨by rw [HV.out]; rfl, rfl⟩
  · have hb : ((m : Int) == 0) = false := by simpa using (show ¬ (m : Int) = 0 by omega)
    have HV : Hid (xs.isEmpty = false) := by
      show _ = _
      cases xs with
      | nil => exact absurd hm.symm h0
      | cons x l => rfl
    clear h5 h6 hm h2 h3 h4
    go_enter Tryz.func110, Tryz.ntmps110
    go_wp2_with fail
    go_ret
    exact ⟨by rw [HV.out]; rfl, rfl⟩

/-- what text answers -/
def TxRes (Z : Nat → Prop) (r most : Nat) (xs : List Nat) (e : Ending) (w' : World) : Prop := match rdText most xs with
  | some (s, t) => ∃ q, e = .returned (.slice q s.length s.length) ∧ Rb w' q s.length s ∧ Cu Z w' r t ∧ ∀ a, q = some a → 0 < s.length → a.block ≠ r ∧ Z a.block
  | none => e = .panicked gaveUp

set_option maxRecDepth 100000 in
set_option maxHeartbeats 800000 in
theorem text_ok {Z : Nat → Prop} (r most : Nat) (xs : List Nat) (w : World) (h : Cu Z w r xs) (hm : most ≤ 1152921504606846976) (hb : ∀ x ∈ xs, x < 256) : Calls Tryz.prog 156 #[.pointer (some ⟨r, 0, none⟩), .int .i64 most] w fun e w' => TxRes Z r most xs e w' ∧ Kp (fun b => b = r) w w' := by
  have H : Hid (Calls _ _ _ w _) := upTo_ok r most xs w h hm hb
  clear h hb hm
  go_enter Tryz.func156, Tryz.ntmps156
  go_wp2_with fail
  refine H.out.mono ?_
  rintro e9 w9 ⟨hu, k9⟩
  unfold UpRes at hu
  have HK : Hid (Kp (fun b => b = r) w w9) := k9
  clear k9 H
  cases hq : rdNum most xs with
  | none =>
    rw [hq] at hu
    have he : e9 = .panicked gaveUp := hu
    subst he
    refine ⟨rfl, ?_, HK.out⟩
    unfold TxRes rdText
    rw [hq]
  | some p =>
    obtain ⟨n, t⟩ := p
    rw [hq] at hu
    obtain ⟨he, hc⟩ := hu
    subst he
    have HQ : Hid (rdNum most xs = some (n, t)) := hq
    by_cases hn : n ≤ t.length
    · have H2 : Hid (Calls _ _ _ w9 _) := take_yes r n t w9 hc hn
      have HV : Hid (rdText most xs = some (t.take n, t.drop n) ∧ (t.take n).length = n) := by
        refine ⟨?_, by rw [List.length_take]; omega⟩
        unfold rdText
        rw [HQ.out]
        dsimp only
        rw [if_pos hn]
      clear hq hc
      go_wp2_with fail
      refine H2.out.mono ?_
      rintro e9 w2 ⟨q, rfl, r2, c2, k2, z2⟩
      have HR : Hid (Rb w2 q n (t.take n) ∧ Cu Z w2 r (t.drop n) ∧ ∀ a, q = some a → 0 < n → a.block ≠ r ∧ Z a.block) := ⟨r2, c2, z2⟩
      have HK2 : Hid (Kp (fun b => b = r) w w2) := HK.out.trans k2 (fun _ _ e => e)
      clear r2 c2 k2 z2 H2
      go_wp2_with fail
      go_ret
      refine ⟨?_, HK2.out⟩
      unfold TxRes
      rw [HV.out.1]
      dsimp only
      rw [HV.out.2]
      exact ⟨q, rfl, HR.out.1, HR.out.2.1, HR.out.2.2⟩
    · have H2 : Hid (Calls _ _ _ w9 _) := take_no r n t w9 hc (by omega)
      have HV : Hid (rdText most xs = none) := by
        show _ = _
        unfold rdText
        rw [HQ.out]
        dsimp only
        rw [if_neg hn]
      clear hq hc
      go_wp2_with fail
      refine H2.out.mono ?_
      rintro e9 w2 ⟨rfl, hw2⟩
      have hw8 := hw2.symm
      subst hw8
      refine ⟨rfl, ?_, HK.out⟩
      unfold TxRes
      rw [HV.out]
end Go.Proofs.YtippipeebkkghaaGreatDoor
