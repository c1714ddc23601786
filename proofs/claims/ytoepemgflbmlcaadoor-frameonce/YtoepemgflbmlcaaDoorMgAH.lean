/- Texts of this proof, joined: Nr, Ns2. -/
import Derived.Test.YtoepemgflbmlcaaDoorMgAG
/- frame's cursor: number, text, done. -/
namespace Go.Proofs.YtoepemgflbmlcaaDoor
set_option linter.unusedVariables false
set_option linter.unusedSimpArgs false
set_option linter.unnecessarySimpa false
open Go.RowKit Go.Deep

set_option maxRecDepth 100000 in
set_option maxHeartbeats 800000 in
theorem number_ok {Z : Nat → Prop} (r : Nat) (xs : List Nat) (w : World) (h : Cu Z w r xs) (hb : ∀ x ∈ xs, x < 256) : Calls Tryd.prog 56 #[.pointer (some ⟨r, 0, none⟩)] w fun e w' => UpRes Z r 1152921504606846976 xs w e w' ∧ Kp (fun b => b = r) w w' := by
  have H : Hid (Calls _ _ _ w _) := upTo_ok r 1152921504606846976 xs w h (Nat.le_refl _) hb
  clear h hb
  go_enter Tryd.func56, Tryd.ntmps56
  go_wp2_with fail
  refine H.out.mono ?_
  rintro e9 w9 ⟨hu, k9⟩
  unfold UpRes at hu
  have HK : Hid (Kp (fun b => b = r) w w9) := k9
  clear k9 H
  cases hq : rdNum 1152921504606846976 xs with
  | none =>
    rw [hq] at hu
    have he : e9 = .panicked gaveUp := hu
    subst he
    refine ⟨rfl, ?_, HK.out⟩
    unfold UpRes
    rw [hq]
  | some p =>
    obtain ⟨n, t⟩ := p
    rw [hq] at hu
    obtain ⟨he, hc⟩ := hu
    subst he
    have HQ : Hid (rdNum 1152921504606846976 xs = some (n, t)) := hq
    have HC : Hid (Cu Z w9 r t) := hc
    clear hq hc
    go_wp2_with fail
    go_ret
    refine ⟨?_, HK.out⟩
    unfold UpRes
    rw [HQ.out]
    exact ⟨rfl, HC.out⟩

set_option maxRecDepth 100000 in
set_option maxHeartbeats 800000 in
theorem done_ok {Z : Nat → Prop} (r : Nat) (xs : List Nat) (w : World) (h : Cu Z w r xs) : Calls Tryd.prog 32 #[.pointer (some ⟨r, 0, none⟩)] w fun e w' => e = .returned (.bool xs.isEmpty) ∧ w' = w := by
  obtain ⟨q, m, c, h1, h2, h3, h4, h5, h6⟩ := h
  have hm := h5.len
  by_cases h0 : m = 0
  · subst h0
    have HV : Hid (xs.isEmpty = true) := by show _ = _; rw [List.eq_nil_of_length_eq_zero hm]; rfl
    clear h5 h6 hm h2 h3 h4
    go_enter Tryd.func32, Tryd.ntmps32
    go_wp2_with fail
    go_ret
    exact ⟨by rw [HV.out]; rfl, rfl⟩
  · have hb : ((m : Int) == 0) = false := by simpa using (show ¬ (m : Int) = 0 by omega)
    have HV : Hid (xs.isEmpty = false) := by
      show _ = _
      cases xs with
      | nil => exact absurd hm.symm h0
      | cons x l => rfl
    clear h5 h6 hm h2 h3 h4
    go_enter Tryd.func32, Tryd.ntmps32
    go_wp2_with fail
    go_ret
    exact ⟨by rw [HV.out]; rfl, rfl⟩

/-- what text answers -/
def TxRes (Z : Nat → Prop) (r most : Nat) (xs : List Nat) (e : Ending) (w' : World) : Prop := match rdText most xs with
  | some (s, t) => ∃ q, e = .returned (.slice q s.length s.length) ∧ Rb w' q s.length s ∧ Cu Z w' r t ∧ ∀ a, q = some a → 0 < s.length → a.block ≠ r ∧ Z a.block
  | none => e = .panicked gaveUp

set_option maxRecDepth 100000 in
set_option maxHeartbeats 800000 in
theorem text_ok {Z : Nat → Prop} (r most : Nat) (xs : List Nat) (w : World) (h : Cu Z w r xs) (hm : most ≤ 1152921504606846976) (hb : ∀ x ∈ xs, x < 256) : Calls Tryd.prog 58 #[.pointer (some ⟨r, 0, none⟩), .int .i64 most] w fun e w' => TxRes Z r most xs e w' ∧ Kp (fun b => b = r) w w' := by
  have H : Hid (Calls _ _ _ w _) := upTo_ok r most xs w h hm hb
  clear h hb hm
  go_enter Tryd.func58, Tryd.ntmps58
  go_wp2_with fail
  refine H.out.mono ?_
  rintro e9 w9 ⟨hu, k9⟩
  unfold UpRes at hu
  have HK : Hid (Kp (fun b => b = r) w w9) := k9
  clear k9 H
  cases hq : rdNum most xs with
  | none =>
    rw [hq] at hu
    have he : e9 = .panicked gaveUp := hu
    subst he
    refine ⟨rfl, ?_, HK.out⟩
    unfold TxRes rdText
    rw [hq]
  | some p =>
    obtain ⟨n, t⟩ := p
    rw [hq] at hu
    obtain ⟨he, hc⟩ := hu
    subst he
    have HQ : Hid (rdNum most xs = some (n, t)) := hq
    by_cases hn : n ≤ t.length
    · have H2 : Hid (Calls _ _ _ w9 _) := take_yes r n t w9 hc hn
      have HV : Hid (rdText most xs = some (t.take n, t.drop n) ∧ (t.take n).length = n) := by
        refine ⟨?_, by rw [List.length_take]; omega⟩
        unfold rdText
        rw [HQ.out]
        dsimp only
        rw [if_pos hn]
      clear hq hc
      go_wp2_with fail
      refine H2.out.mono ?_
      rintro e9 w2 ⟨q, rfl, r2, c2, k2, z2⟩
      have HR : Hid (Rb w2 q n (t.take n) ∧ Cu Z w2 r (t.drop n) ∧ ∀ a, q = some a → 0 < n → a.block ≠ r ∧ Z a.block) := ⟨r2, c2, z2⟩
      have HK2 : Hid (Kp (fun b => b = r) w w2) := HK.out.trans k2 (fun _ _ e => e)
      clear r2 c2 k2 z2 H2
      go_wp2_with fail
      go_ret
      refine ⟨?_, HK2.out⟩
      unfold TxRes
      rw [HV.out.1]
      dsimp only
      rw [HV.out.2]
      exact ⟨q, rfl, HR.out.1, HR.out.2.1, HR.out.2.2⟩
    · have H2 : Hid (Calls _ _ _ w9 _) := take_no r n t w9 hc (by omega)
      have HV : Hid (rdText most xs = none) := by
        show _ = _
        unfold rdText
        rw [HQ.out]
        dsimp only
        rw [if_neg hn]
      clear hq hc
      go_wp2_with fail
      refine H2.out.mono ?_
      rintro e9 w2 ⟨rfl, hw2⟩
      have hw8 := hw2.symm
      subst hw8
      refine ⟨rfl, ?_, HK.out⟩
      unfold TxRes
      rw [HV.out]
end Go.Proofs.YtoepemgflbmlcaaDoor

/- The document's Reader: Take. -/
namespace Go.Proofs.YtoepemgflbmlcaaDoor
set_option linter.unusedVariables false
set_option linter.unusedSimpArgs false
set_option linter.unnecessarySimpa false
open Go.RowKit Go.Deep

/-- block r is a Reader: bad, or with xs left -/
structure Ru (Z : Nat → Prop) (w : World) (r : Nat) (st : Option (List Nat)) : Prop where
  c : ∃ q m c, w.cell? ⟨r, 0, none⟩ = some (.slice q m c) ∧ w.frozen? ⟨r, 0, none⟩ = false ∧ m ≤ c ∧ (c : Int) ≤ 9223372036854775807 ∧ ∀ xs, st = some xs → Rb w q m xs ∧ ∀ a, q = some a → 0 < m → a.block ≠ r ∧ Z a.block
  b : w.cell? ⟨r, 1, none⟩ = some (.bool st.isNone)
  f : w.frozen? ⟨r, 1, none⟩ = false
/-- it is bad from here on -/
theorem Ru.bad {Z : Nat → Prop} {w : World} {r : Nat} {st : Option (List Nat)} (h : Ru Z w r st) : Ru Z (w.setCell ⟨r, 1, none⟩ (.bool true)) r none ∧ Kp (fun b => b = r) w (w.setCell ⟨r, 1, none⟩ (.bool true)) := by
  obtain ⟨⟨q, m, c, h1, h2, h3, h4, h5⟩, hb, hf⟩ := h
  refine ⟨⟨⟨q, m, c, ?_, by simpa using h2, h3, h4, fun xs e => (by cases e)⟩, World.cell?_setCell_same _ _ _ (by rw [hb]), by simpa using hf⟩, (by show Kp _ _ _; exact (Kp.refl (fun b => b = r) w).setCell (fun _ => rfl) _)⟩
  rw [World.cell?_setCell_other _ _ _ _ (by simp)]
  exact h1
/-- what Take answers -/
def TkRes (Z : Nat → Prop) (r n : Nat) (st : Option (List Nat)) (e : Ending) (w' : World) : Prop := match st with
  | some xs => if n ≤ xs.length then ∃ q c, e = .returned (.slice q n c) ∧ n ≤ c ∧ Rb w' q n (xs.take n) ∧ Ru Z w' r (some (xs.drop n)) ∧ (∀ a, q = some a → 0 < n → a.block ≠ r ∧ Z a.block) else e = .returned (.slice none 0 0) ∧ Ru Z w' r none
  | none => e = .returned (.slice none 0 0) ∧ Ru Z w' r none

set_option maxRecDepth 100000 in
set_option maxHeartbeats 1600000 in
theorem rtake_bad {Z : Nat → Prop} (r n : Nat) (st : Option (List Nat)) (w : World) (h : Ru Z w r st) (hs : ∀ xs, st = some xs → xs.length < n) : Calls Tryd.prog 45 #[.pointer (some ⟨r, 0, none⟩), .int .i64 n] w fun e w' => TkRes Z r n st e w' ∧ Kp (fun b => b = r) w w' := by
  have HB : Hid _ := h.bad
  obtain ⟨⟨q, m, c, h1, h2, h3, h4, h5⟩, hb, hf⟩ := h
  have hn0 : ¬ (n : Int) < 0 := by omega
  have hc : (m : Int) ≤ (c : Int) := by omega
  cases st with
  | none =>
    have hb' : w.cell? ⟨r, 1, none⟩ = some (.bool true) := hb
    clear h5 hs hb
    go_enter Tryd.func45, Tryd.ntmps45
    go_wp2_with fail
    go_ret
    exact ⟨⟨rfl, HB.out.1⟩, HB.out.2⟩
  | some xs =>
    have hb' : w.cell? ⟨r, 1, none⟩ = some (.bool false) := hb
    have hl := hs xs rfl
    have hm := (h5 xs rfl).1.len
    have hgt : (m : Int) < (n : Int) := by omega
    have HNl : Hid (¬ n ≤ xs.length) := (by show ¬ _; omega)
    clear h5 hs hb hl hm
    go_enter Tryd.func45, Tryd.ntmps45
    go_wp2_with fail
    go_ret
    refine ⟨?_, HB.out.2⟩
    show if n ≤ xs.length then _ else _
    rw [if_neg HNl.out]
    exact ⟨rfl, HB.out.1⟩

set_option maxRecDepth 100000 in
set_option maxHeartbeats 1600000 in
theorem rtake_yes {Z : Nat → Prop} (r n : Nat) (xs : List Nat) (w : World) (h : Ru Z w r (some xs)) (hn : n ≤ xs.length) : Calls Tryd.prog 45 #[.pointer (some ⟨r, 0, none⟩), .int .i64 n] w fun e w' => (∃ q c, e = .returned (.slice q n c) ∧ n ≤ c ∧ Rb w' q n (xs.take n) ∧ Ru Z w' r (some (xs.drop n)) ∧ ∀ a, q = some a → 0 < n → a.block ≠ r ∧ Z a.block) ∧ Kp (fun b => b = r) w w' := by
  obtain ⟨⟨q, m, c, h1, h2, h3, h4, h56⟩, hb, hf⟩ := h
  obtain ⟨h5, h6⟩ := h56 xs rfl
  have hb' : w.cell? ⟨r, 1, none⟩ = some (.bool false) := hb
  have hm := h5.len
  have hd2 : ¬ (m : Int) < (n : Int) := by omega
  have hd3 : (n : Int) ≤ (m : Int) := by omega
  have hn0 : ¬ (n : Int) < 0 := by omega
  have hc : (m : Int) ≤ (c : Int) := by omega
  have hc2 : (n : Int) ≤ (c : Int) := by omega
  have HP : Hid (∀ q2, (q2 = if c = n then q else q.map (·.add (n * 1))) → Rb (w.setCell ⟨r, 0, none⟩ (.slice q2 (m - n) (c - n))) q n (xs.take n) ∧ Ru Z (w.setCell ⟨r, 0, none⟩ (.slice q2 (m - n) (c - n))) r (some (xs.drop n)) ∧ Kp (fun b => b = r) w (w.setCell ⟨r, 0, none⟩ (.slice q2 (m - n) (c - n)))) := fun q2 hq2 => by
    have k1 : Kp (fun b => b = r) w (w.setCell ⟨r, 0, none⟩ (.slice q2 (m - n) (c - n))) := (by show Kp _ _ _; exact (Kp.refl (fun b => b = r) w).setCell (fun _ => rfl) _)
    have p2 := h5.part h3 (l := n) (r := m) (by omega) (Nat.le_refl _)
    rw [List.take_of_length_le (by omega)] at p2
    have hq6 : ∀ a, q2 = some a → 0 < m - n → a.block ≠ r ∧ Z a.block := fun a ha hpos => by
      rw [hq2] at ha
      by_cases e : c = n
      · rw [if_pos e] at ha
        exact h6 a ha (by omega)
      · rw [if_neg e] at ha
        cases q with
        | none => cases ha
        | some a' =>
          have e2 : a'.add (n * 1) = a := Option.some.inj ha
          rw [← e2]
          have e3 : (a'.add (n * 1)).block = a'.block := by first | rfl | (simp [Addr.add]; done) | (unfold Addr.add; split <;> rfl)
          rw [e3]
          exact h6 a' rfl (by omega)
    have hr1 : Rb w q n (xs.take n) := ⟨by rw [List.length_take]; omega, fun x hx => h5.byte x (List.mem_of_mem_take hx), fun j hj => by
      obtain ⟨b, o, e1, e2⟩ := h5.cell j (by omega)
      refine ⟨b, o, e1, ?_⟩
      rw [e2]
      congr 3
      rw [List.getD_eq_getElem?_getD, List.getD_eq_getElem?_getD, List.getElem?_take_of_lt hj]⟩
    refine ⟨hr1.keepP k1 (fun a ha hpos e => (h6 a ha (by omega)).1 e), ⟨⟨q2, m - n, c - n, World.cell?_setCell_same _ _ _ (by rw [h1]), by simpa using h2, by omega, by omega, fun ys e => ?_⟩, ?_, by simpa using hf⟩, k1⟩
    · cases e
      rw [← hq2] at p2
      exact ⟨p2.keepP k1 (fun a ha hpos e => (hq6 a ha hpos).1 e), hq6⟩
    · rw [World.cell?_setCell_other _ _ _ _ (by simp)]
      exact hb
  have HL : Hid (n ≤ c) := (by show _ ≤ _; omega)
  have HQ6 : Hid (∀ a, q = some a → 0 < n → a.block ≠ r ∧ Z a.block) := fun a ha hp => h6 a ha (by omega)
  clear h5 h6 h56 hm hb
  go_enter Tryd.func45, Tryd.ntmps45
  cases q with
  | none =>
    have HP2 : Hid _ := HP.out none (by split <;> rfl)
    clear HP
    go_wp2_with fail
    go_ret
    exact ⟨⟨none, c, rfl, HL.out, HP2.out.1, HP2.out.2.1, HQ6.out⟩, HP2.out.2.2⟩
  | some a =>
    by_cases e : c = n
    · have HP2 : Hid _ := HP.out (some a) (by rw [if_pos e])
      clear HP
      subst e
      have hcc : (c : Int) - (c : Int) = 0 := by omega
      go_wp2_with fail
      have e0 : m - c = 0 := by omega
      rw [e0, Nat.sub_self] at HP2
      go_ret
      exact ⟨⟨some a, c, rfl, HL.out, HP2.out.1, HP2.out.2.1, HQ6.out⟩, HP2.out.2.2⟩
    · have HP2 : Hid _ := HP.out (some (a.add (n * 1))) (by rw [if_neg e]; rfl)
      clear HP
      go_wp2_with fail
      rw [Nat.mul_one] at HP2
      go_ret
      exact ⟨⟨some a, c, rfl, HL.out, HP2.out.1, HP2.out.2.1, HQ6.out⟩, HP2.out.2.2⟩
theorem rtake_ok {Z : Nat → Prop} (r n : Nat) (st : Option (List Nat)) (w : World) (h : Ru Z w r st) : Calls Tryd.prog 45 #[.pointer (some ⟨r, 0, none⟩), .int .i64 n] w fun e w' => TkRes Z r n st e w' ∧ Kp (fun b => b = r) w w' := by
  cases st with
  | none => exact rtake_bad r n none w h (fun xs e => (by cases e))
  | some xs =>
    by_cases hn : n ≤ xs.length
    · refine (rtake_yes r n xs w h hn).mono ?_
      rintro e w' ⟨h1, h2⟩
      refine ⟨?_, h2⟩
      show if n ≤ xs.length then _ else _
      rw [if_pos hn]
      exact h1
    · exact rtake_bad r n (some xs) w h (fun ys e => by cases e; omega)
end Go.Proofs.YtoepemgflbmlcaaDoor
