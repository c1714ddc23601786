/- frame's cursor: take of what is there. -/
import Derived.Test.YtippipeebkkghaaGreatDoorNo
namespace Go.Proofs.YtippipeebkkghaaGreatDoor
set_option linter.unusedVariables false
set_option linter.unusedSimpArgs false
open Go.RowKit Go.Deep

set_option maxRecDepth 100000 in
set_option maxHeartbeats 1600000 in
theorem take_yes {Z : Nat → Prop} (r n : Nat) (xs : List Nat) (w : World) (h : Cu Z w r xs) (hn : n ≤ xs.length) : Calls Tryz.prog 196 #[.pointer (some ⟨r, 0, none⟩), .int .i64 n] w fun e w' => ∃ q, e = .returned (.slice q n n) ∧ Rb w' q n (xs.take n) ∧ Cu Z w' r (xs.drop n) ∧ Kp (fun b => b = r) w w' ∧ ∀ a, q = some a → 0 < n → a.block ≠ r ∧ Z a.block := by
  obtain ⟨q, m, c, h1, h2, h3, h4, h5, h6⟩ := h
  have hm := h5.len
  have hd2 : (n : Int) ≤ (m : Int) := by omega
  have hc : (m : Int) ≤ (c : Int) := by omega
  have hc2 : (n : Int) ≤ (c : Int) := by omega
  have HN : Hid (∀ u, Calls _ _ _ u _) := need_yes (.pointer (some ⟨r, 0, none⟩))
  have HP : Hid (∀ q2, (q2 = if c = n then q else q.map (·.add (n * 1))) → Rb (w.setCell ⟨r, 0, none⟩ (.slice q2 (m - n) (c - n))) q n (xs.take n) ∧ Cu Z (w.setCell ⟨r, 0, none⟩ (.slice q2 (m - n) (c - n))) r (xs.drop n) ∧ Kp (fun b => b = r) w (w.setCell ⟨r, 0, none⟩ (.slice q2 (m - n) (c - n)))) := fun q2 hq2 => by
    have k1 : Kp (fun b => b = r) w (w.setCell ⟨r, 0, none⟩ (.slice q2 (m - n) (c - n))) := (by show Kp _ _ _; exact (Kp.refl (fun b => b = r) w).setCell (fun _ => rfl) _)
    have p2 := h5.part h3 (l := n) (r := m) (by omega) (Nat.le_refl _)
    rw [List.take_of_length_le (by omega)] at p2
    have hq6 : ∀ a, q2 = some a → 0 < m - n → a.block ≠ r ∧ Z a.block := fun a ha hpos => by
      rw [hq2] at ha
      by_cases e : c = n
      · rw [if_pos e] at ha
        exact h6 a ha (by omega)
      · rw [if_neg e] at ha
        cases q with
        | none => cases ha
        | some a' =>
          have e2 : a'.add (n * 1) = a := Option.some.inj ha
          rw [← e2]
          have e3 : (a'.add (n * 1)).block = a'.block := by first | rfl | (simp [Addr.add]; done) | (unfold Addr.add; split <;> rfl)
          rw [e3]
          exact h6 a' rfl (by omega)
    have hr1 : Rb w q n (xs.take n) := ⟨by rw [List.length_take]; omega, fun x hx => h5.byte x (List.mem_of_mem_take hx), fun j hj => by
      obtain ⟨b, o, e1, e2⟩ := h5.cell j (by omega)
      refine ⟨b, o, e1, ?_⟩
      rw [e2]
      congr 3
      rw [List.getD_eq_getElem?_getD, List.getD_eq_getElem?_getD, List.getElem?_take_of_lt hj]⟩
    refine ⟨hr1.keepP k1 (fun a ha hpos e => (h6 a ha (by omega)).1 e), ⟨q2, m - n, c - n, ?_, ?_, by omega, by omega, ?_, hq6⟩, k1⟩
    · exact World.cell?_setCell_same _ _ _ (by rw [h1])
    · simpa using h2
    · rw [← hq2] at p2
      exact p2.keepP k1 (fun a ha hpos e => (hq6 a ha hpos).1 e)
  have HQ6 : Hid (∀ a, q = some a → 0 < n → a.block ≠ r ∧ Z a.block) := fun a ha hp => h6 a ha (by omega)
  clear h5 h6 hm
  go_enter Tryz.func196, Tryz.ntmps196
  cases q with
  | none =>
    have hP := HP.out none (by split <;> rfl)
    go_wp2_with (go_at_call 109; refine (HN.out _).mono ?_; rintro e9 w9 ⟨⟨v9, rfl⟩, hw9⟩; have hw8 := hw9.symm; subst hw8; clear hw9)
    go_ret
    exact ⟨none, rfl, hP.1, hP.2.1, hP.2.2, HQ6.out⟩
  | some a =>
    by_cases e : c = n
    · have hP := HP.out (some a) (by rw [if_pos e])
      have HP2 : Hid _ := hP
      clear hP HP
      subst e
      have hcc : (c : Int) - (c : Int) = 0 := by omega
      go_wp2_with (go_at_call 109; refine (HN.out _).mono ?_; rintro e9 w9 ⟨⟨v9, rfl⟩, hw9⟩; have hw8 := hw9.symm; subst hw8; clear hw9)
      have e0 : m - c = 0 := by omega
      rw [e0, Nat.sub_self] at HP2
      go_ret
      exact ⟨some a, rfl, HP2.out.1, HP2.out.2.1, HP2.out.2.2, HQ6.out⟩
    · have hP := HP.out (some (a.add (n * 1))) (by rw [if_neg e]; rfl)
      have HP2 : Hid _ := hP
      clear hP HP
      go_wp2_with (go_at_call 109; refine (HN.out _).mono ?_; rintro e9 w9 ⟨⟨v9, rfl⟩, hw9⟩; have hw8 := hw9.symm; subst hw8; clear hw9)
      rw [Nat.mul_one] at HP2
      go_ret
      exact ⟨some a, rfl, HP2.out.1, HP2.out.2.1, HP2.out.2.2, HQ6.out⟩
end Go.Proofs.YtippipeebkkghaaGreatDoor
