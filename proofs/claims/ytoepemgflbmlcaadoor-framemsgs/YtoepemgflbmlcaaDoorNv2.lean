/- The document's Reader: list. -/
import Derived.Test.YtoepemgflbmlcaaDoorNu2
namespace Go.Proofs.YtoepemgflbmlcaaDoor
set_option linter.unusedVariables false
set_option linter.unusedSimpArgs false
set_option linter.unnecessarySimpa false
open Go.RowKit Go.Deep

theorem rdNum_less {most : Nat} (hm : most ≤ 1152921504606846976) (xs : List Nat) : rdNum most xs = (rdNum 1152921504606846976 xs).bind (fun p => if p.1 ≤ most then some p else none) := by
  cases xs with
  | nil => rfl
  | cons w t =>
    rw [rdNum_cons, rdNum_cons]
    by_cases h : w ≤ 8 ∧ w ≤ t.length ∧ (t.take w).head? ≠ some 0 ∧ valB (t.take w) ≤ 1152921504606846976
    · rw [if_pos h]
      show _ = if valB (t.take w) ≤ most then _ else _
      by_cases h2 : valB (t.take w) ≤ most
      · rw [if_pos h2, if_pos ⟨h.1, h.2.1, h.2.2.1, h2⟩]
      · rw [if_neg h2, if_neg (fun q => h2 q.2.2.2)]
    · rw [if_neg h, if_neg (fun q => h ⟨q.1, q.2.1, q.2.2.1, Nat.le_trans q.2.2.2 hm⟩)]
      rfl
/-- what the Reader's list answers -/
def RlRes (Z : Nat → Prop) (r most : Nat) (st : Option (List Nat)) (e : Ending) (w' : World) : Prop := match st.bind (rdNum most) with
  | some (n, t) => e = .returned (.int .i64 (n : Int)) ∧ Ru Z w' r (some t)
  | none => e = .returned (.int .i64 0) ∧ Ru Z w' r none

set_option maxRecDepth 100000 in
set_option maxHeartbeats 1600000 in
theorem rlist_ok {Z : Nat → Prop} (r most : Nat) (st : Option (List Nat)) (w : World) (h : Ru Z w r st) (hm : most ≤ 1152921504606846976) (hb : ∀ xs, st = some xs → ∀ x ∈ xs, x < 256) : Calls Tryd.prog 46 #[.pointer (some ⟨r, 0, none⟩), .int .i64 most] w fun e w' => RlRes Z r most st e w' ∧ Kp (fun b => b = r) w w' := by
  have H : Hid (Calls _ _ _ w _) := readNum_ok r st w h hb
  have HM : Hid (most ≤ 1152921504606846976) := hm
  have HL : Hid (st.bind (rdNum most) = (st.bind (rdNum 1152921504606846976)).bind (fun p => if p.1 ≤ most then some p else none)) := by
    show _ = _
    cases st with
    | none => rfl
    | some xs => exact rdNum_less hm xs
  clear h hm hb
  go_enter Tryd.func46, Tryd.ntmps46
  go_wp2_with fail
  refine H.out.mono ?_
  rintro e9 w1 ⟨hu, k1⟩
  have HK1 : Hid (Kp (fun b => b = r) w w1) := k1
  unfold RnRes at hu
  clear k1 H
  cases hq : st.bind (rdNum 1152921504606846976) with
  | none =>
    rw [hq] at hu
    obtain ⟨⟨z, he⟩, hru⟩ := hu
    subst he
    have HV : Hid (st.bind (rdNum most) = none) := by show _ = _; rw [HL.out, hq]; rfl
    have HB : Hid _ := hru.bad
    have hb1 : w1.cell? ⟨r, 1, none⟩ = some (.bool true) := hru.b
    have hf1 : w1.frozen? ⟨r, 1, none⟩ = false := hru.f
    clear hru hq HL
    go_wp2_with fail
    go_ret
    refine ⟨?_, HK1.out.trans HB.out.2 (fun _ _ e => e)⟩
    unfold RlRes
    rw [HV.out]
    exact ⟨rfl, HB.out.1⟩
  | some p =>
    obtain ⟨n, t⟩ := p
    rw [hq] at hu
    obtain ⟨he, hru⟩ := hu
    subst he
    have HB : Hid _ := hru.bad
    have HU : Hid (Ru Z w1 r (some t)) := hru
    have hb1 : w1.cell? ⟨r, 1, none⟩ = some (.bool false) := hru.b
    have hf1 : w1.frozen? ⟨r, 1, none⟩ = false := hru.f
    by_cases hn : n ≤ most
    · have hni : ¬ (most : Int) < (n : Int) := by omega
      have HV : Hid (st.bind (rdNum most) = some (n, t)) := by
        show _ = _
        rw [HL.out, hq]
        show (if n ≤ most then _ else _) = _
        rw [if_pos hn]
      clear hru hq HL
      go_wp2_with fail
      go_ret
      refine ⟨?_, HK1.out⟩
      unfold RlRes
      rw [HV.out]
      exact ⟨rfl, HU.out⟩
    · have hni : (most : Int) < (n : Int) := by omega
      have HV : Hid (st.bind (rdNum most) = none) := by
        show _ = _
        rw [HL.out, hq]
        show (if n ≤ most then _ else _) = _
        rw [if_neg hn]
      clear hru hq HL
      go_wp2_with fail
      go_ret
      refine ⟨?_, HK1.out.trans HB.out.2 (fun _ _ e => e)⟩
      unfold RlRes
      rw [HV.out]
      exact ⟨rfl, HB.out.1⟩
end Go.Proofs.YtoepemgflbmlcaaDoor
