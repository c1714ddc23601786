/- Texts of this proof, joined: Ns2, Nt2. -/
import Derived.Test.YtoepemgflbmlcaaDoorMgAN
/- The document's Reader: Take. -/
namespace Go.Proofs.YtoepemgflbmlcaaDoor
set_option linter.unusedVariables false
set_option linter.unusedSimpArgs false
set_option linter.unnecessarySimpa false
open Go.RowKit Go.Deep

/-- block r is a Reader: bad, or with xs left -/
structure Ru (Z : Nat → Prop) (w : World) (r : Nat) (st : Option (List Nat)) : Prop where
  c : ∃ q m c, w.cell? ⟨r, 0, none⟩ = some (.slice q m c) ∧ w.frozen? ⟨r, 0, none⟩ = false ∧ m ≤ c ∧ (c : Int) ≤ 9223372036854775807 ∧ ∀ xs, st = some xs → Rb w q m xs ∧ ∀ a, q = some a → 0 < m → a.block ≠ r ∧ Z a.block
  b : w.cell? ⟨r, 1, none⟩ = some (.bool st.isNone)
  f : w.frozen? ⟨r, 1, none⟩ = false
/-- it is bad from here on -/
theorem Ru.bad {Z : Nat → Prop} {w : World} {r : Nat} {st : Option (List Nat)} (h : Ru Z w r st) : Ru Z (w.setCell ⟨r, 1, none⟩ (.bool true)) r none ∧ Kp (fun b => b = r) w (w.setCell ⟨r, 1, none⟩ (.bool true)) := by
  obtain ⟨⟨q, m, c, h1, h2, h3, h4, h5⟩, hb, hf⟩ := h
  refine ⟨⟨⟨q, m, c, ?_, by simpa using h2, h3, h4, fun xs e => (by cases e)⟩, World.cell?_setCell_same _ _ _ (by rw [hb]), by simpa using hf⟩, (by show Kp _ _ _; exact (Kp.refl (fun b => b = r) w).setCell (fun _ => rfl) _)⟩
  rw [World.cell?_setCell_other _ _ _ _ (by simp)]
  exact h1
/-- what Take answers -/
def TkRes (Z : Nat → Prop) (r n : Nat) (st : Option (List Nat)) (e : Ending) (w' : World) : Prop := match st with
  | some xs => if n ≤ xs.length then ∃ q c, e = .returned (.slice q n c) ∧ n ≤ c ∧ Rb w' q n (xs.take n) ∧ Ru Z w' r (some (xs.drop n)) ∧ (∀ a, q = some a → 0 < n → a.block ≠ r ∧ Z a.block) else e = .returned (.slice none 0 0) ∧ Ru Z w' r none
  | none => e = .returned (.slice none 0 0) ∧ Ru Z w' r none

set_option maxRecDepth 100000 in
set_option maxHeartbeats 1600000 in
theorem rtake_bad {Z : Nat → Prop} (r n : Nat) (st : Option (List Nat)) (w : World) (h : Ru Z w r st) (hs : ∀ xs, st = some xs → xs.length < n) : Calls Tryd.prog 45 #[.pointer (some ⟨r, 0, none⟩), .int .i64 n] w fun e w' => TkRes Z r n st e w' ∧ Kp (fun b => b = r) w w' := by
  have HB : Hid _ := h.bad
  obtain ⟨⟨q, m, c, h1, h2, h3, h4, h5⟩, hb, hf⟩ := h
  have hn0 : ¬ (n : Int) < 0 := by omega
  have hc : (m : Int) ≤ (c : Int) := by omega
  cases st with
  | none =>
    have hb' : w.cell? ⟨r, 1, none⟩ = some (.bool true) := hb
    clear h5 hs hb
    go_enter Tryd.func45, Tryd.ntmps45
    go_wp2_with fail
    go_ret
    exact ⟨⟨rfl, HB.out.1⟩, HB.out.2⟩
  | some xs =>
    have hb' : w.cell? ⟨r, 1, none⟩ = some (.bool false) := hb
    have hl := hs xs rfl
    have hm := (h5 xs rfl).1.len
    have hgt : (m : Int) < (n : Int) := by omega
    have HNl : Hid (¬ n ≤ xs.length) := (by show ¬ _; omega)
    clear h5 hs hb hl hm
    go_enter Tryd.func45, Tryd.ntmps45
    go_wp2_with fail
    go_ret
    refine ⟨?_, HB.out.2⟩
    show if n ≤ xs.length then _ else _
    rw [if_neg HNl.out]
    exact ⟨rfl, HB.out.1⟩

set_option maxRecDepth 100000 in
set_option maxHeartbeats 1600000 in
theorem rtake_yes {Z : Nat → Prop} (r n : Nat) (xs : List Nat) (w : World) (h : Ru Z w r (some xs)) (hn : n ≤ xs.length) : Calls Tryd.prog 45 #[.pointer (some ⟨r, 0, none⟩), .int .i64 n] w fun e w' => (∃ q c, e = .returned (.slice q n c) ∧ n ≤ c ∧ Rb w' q n (xs.take n) ∧ Ru Z w' r (some (xs.drop n)) ∧ ∀ a, q = some a → 0 < n → a.block ≠ r ∧ Z a.block) ∧ Kp (fun b => b = r) w w' := by
  obtain ⟨⟨q, m, c, h1, h2, h3, h4, h56⟩, hb, hf⟩ := h
  obtain ⟨h5, h6⟩ := h56 xs rfl
  have hb' : w.cell? ⟨r, 1, none⟩ = some (.bool false) := hb
  have hm := h5.len
  have hd2 : ¬ (m : Int) < (n : Int) := by omega
  have hd3 : (n : Int) ≤ (m : Int) := by omega
  have hn0 : ¬ (n : Int) < 0 := by omega
  have hc : (m : Int) ≤ (c : Int) := by omega
  have hc2 : (n : Int) ≤ (c : Int) := by omega
  have HP : Hid (∀ q2, (q2 = if c = n then q else q.map (·.add (n * 1))) → Rb (w.setCell ⟨r, 0, none⟩ (.slice q2 (m - n) (c - n))) q n (xs.take n) ∧ Ru Z (w.setCell ⟨r, 0, none⟩ (.slice q2 (m - n) (c - n))) r (some (xs.drop n)) ∧ Kp (fun b => b = r) w (w.setCell ⟨r, 0, none⟩ (.slice q2 (m - n) (c - n)))) := fun q2 hq2 => by
    have k1 : Kp (fun b => b = r) w (w.setCell ⟨r, 0, none⟩ (.slice q2 (m - n) (c - n))) := (by show Kp _ _ _; exact (Kp.refl (fun b => b = r) w).setCell (fun _ => rfl) _)
    have p2 := h5.part h3 (l := n) (r := m) (by omega) (Nat.le_refl _)
    rw [List.take_of_length_le (by omega)] at p2
    have hq6 : ∀ a, q2 = some a → 0 < m - n → a.block ≠ r ∧ Z a.block := fun a ha hpos => by
      rw [hq2] at ha
      by_cases e : c = n
      · rw [if_pos e] at ha
        exact h6 a ha (by omega)
      · rw [if_neg e] at ha
        cases q with
        | none => cases ha
        | some a' =>
          have e2 : a'.add (n * 1) = a := Option.some.inj ha
          rw [← e2]
          have e3 : (a'.add (n * 1)).block = a'.block := by first | rfl | (simp [Addr.add]; done) | (unfold Addr.add; split <;> rfl)
          rw [e3]
          exact h6 a' rfl (by omega)
    have hr1 : Rb w q n (xs.take n) := ⟨by rw [List.length_take]; omega, fun x hx => h5.byte x (List.mem_of_mem_take hx), fun j hj => by
      obtain ⟨b, o, e1, e2⟩ := h5.cell j (by omega)
      refine ⟨b, o, e1, ?_⟩
      rw [e2]
      congr 3
      rw [List.getD_eq_getElem?_getD, List.getD_eq_getElem?_getD, List.getElem?_take_of_lt hj]⟩
    refine ⟨hr1.keepP k1 (fun a ha hpos e => (h6 a ha (by omega)).1 e), ⟨⟨q2, m - n, c - n, World.cell?_setCell_same _ _ _ (by rw [h1]), by simpa using h2, by omega, by omega, fun ys e => ?_⟩, ?_, by simpa using hf⟩, k1⟩
    · cases e
      rw [← hq2] at p2
      exact ⟨p2.keepP k1 (fun a ha hpos e => (hq6 a ha hpos).1 e), hq6⟩
    · rw [World.cell?_setCell_other _ _ _ _ (by simp)]
      exact hb
  have HL : Hid (n ≤ c) := (by show _ ≤ _; omega)
  have HQ6 : Hid (∀ a, q = some a → 0 < n → a.block ≠ r ∧ Z a.block) := fun a ha hp => h6 a ha (by omega)
  clear h5 h6 h56 hm hb
  go_enter Tryd.func45, Tryd.ntmps45
  cases q with
  | none =>
    have HP2 : Hid _ := HP.out none (by split <;> rfl)
    clear HP
    go_wp2_with fail
    go_ret
    exact ⟨⟨none, c, rfl, HL.out, HP2.out.1, HP2.out.2.1, HQ6.out⟩, HP2.out.2.2⟩
  | some a =>
    by_cases e : c = n
    · have HP2 : Hid _ := HP.out (some a) (by rw [if_pos e])
      clear HP
      subst e
      have hcc : (c : Int) - (c : Int) = 0 := by omega
      go_wp2_with fail
      have e0 : m - c = 0 := by omega
      rw [e0, Nat.sub_self] at HP2
      go_ret
      exact ⟨⟨some a, c, rfl, HL.out, HP2.out.1, HP2.out.2.1, HQ6.out⟩, HP2.out.2.2⟩
    · have HP2 : Hid _ := HP.out (some (a.add (n * 1))) (by rw [if_neg e]; rfl)
      clear HP
      go_wp2_with fail
      rw [Nat.mul_one] at HP2
      go_ret
      exact ⟨⟨some a, c, rfl, HL.out, HP2.out.1, HP2.out.2.1, HQ6.out⟩, HP2.out.2.2⟩
theorem rtake_ok {Z : Nat → Prop} (r n : Nat) (st : Option (List Nat)) (w : World) (h : Ru Z w r st) : Calls Tryd.prog 45 #[.pointer (some ⟨r, 0, none⟩), .int .i64 n] w fun e w' => TkRes Z r n st e w' ∧ Kp (fun b => b = r) w w' := by
  cases st with
  | none => exact rtake_bad r n none w h (fun xs e => (by cases e))
  | some xs =>
    by_cases hn : n ≤ xs.length
    · refine (rtake_yes r n xs w h hn).mono ?_
      rintro e w' ⟨h1, h2⟩
      refine ⟨?_, h2⟩
      show if n ≤ xs.length then _ else _
      rw [if_pos hn]
      exact h1
    · exact rtake_bad r n (some xs) w h (fun ys e => by cases e; omega)
end Go.Proofs.YtoepemgflbmlcaaDoor

/- The document's Reader: Num, where it fails early. -/
namespace Go.Proofs.YtoepemgflbmlcaaDoor
set_option linter.unusedVariables false
set_option linter.unusedSimpArgs false
set_option linter.unnecessarySimpa false
open Go.RowKit Go.Deep

/-- what the Reader's Num answers -/
def RnRes (Z : Nat → Prop) (r : Nat) (st : Option (List Nat)) (e : Ending) (w' : World) : Prop := match st.bind (rdNum 1152921504606846976) with
  | some (n, t) => e = .returned (.int .i64 (n : Int)) ∧ Ru Z w' r (some t)
  | none => (∃ z, e = .returned (.int .i64 z)) ∧ Ru Z w' r none

set_option maxRecDepth 100000 in
set_option maxHeartbeats 1600000 in
/-- nothing is left, or it is bad already -/
theorem rnum_early {Z : Nat → Prop} (r : Nat) (st : Option (List Nat)) (w : World) (h : Ru Z w r st) (hs : ∀ xs, st = some xs → xs = []) : Calls Tryd.prog 44 #[.pointer (some ⟨r, 0, none⟩)] w fun e w' => RnRes Z r st e w' ∧ Kp (fun b => b = r) w w' := by
  have HT : Hid (Calls _ _ _ w _) := rtake_bad r 1 st w h (fun xs e => by rw [hs xs e]; decide)
  have HV : Hid (st.bind (rdNum 1152921504606846976) = none) := by
    show _ = _
    cases st with
    | none => rfl
    | some xs => rw [hs xs rfl]; rfl
  have HTk : Hid (∀ e w', TkRes Z r 1 st e w' → e = .returned (.slice none 0 0) ∧ Ru Z w' r none) := fun e w' ht => by
    unfold TkRes at ht
    cases st with
    | none => exact ht
    | some xs =>
      have := hs xs rfl
      subst this
      exact ht
  clear h hs
  go_enter Tryd.func44, Tryd.ntmps44
  go_wp2_with fail
  refine HT.out.mono ?_
  rintro e9 w1 ⟨ht, k1⟩
  obtain ⟨he, hru⟩ := HTk.out _ _ ht
  subst he
  have HB : Hid _ := hru.bad
  have hb1 : w1.cell? ⟨r, 1, none⟩ = some (.bool true) := hru.b
  have hf1 : w1.frozen? ⟨r, 1, none⟩ = false := hru.f
  have HK1 : Hid (Kp (fun b => b = r) w w1) := k1
  clear ht k1 hru HT HTk
  go_wp2_with fail
  go_ret
  refine ⟨?_, HK1.out.trans HB.out.2 (fun _ _ e => e)⟩
  unfold RnRes
  rw [HV.out]
  exact ⟨⟨_, rfl⟩, HB.out.1⟩

set_option maxRecDepth 100000 in
set_option maxHeartbeats 1600000 in
/-- too wide, or not all there -/
theorem rnum_wide {Z : Nat → Prop} (r x : Nat) (t : List Nat) (w : World) (h : Ru Z w r (some (x :: t))) (hx : x < 256) (hw : 8 < x ∨ t.length < x) : Calls Tryd.prog 44 #[.pointer (some ⟨r, 0, none⟩)] w fun e w' => RnRes Z r (some (x :: t)) e w' ∧ Kp (fun b => b = r) w w' := by
  have HT : Hid (Calls _ _ _ w _) := rtake_yes r 1 (x :: t) w h (by simp)
  have HV : Hid ((some (x :: t)).bind (rdNum 1152921504606846976) = none) := by
    show rdNum _ (x :: t) = none
    rw [rdNum_cons, if_neg (fun h => by omega)]
  have hxi : (x : Int) < 256 := by omega
  clear h
  go_enter Tryd.func44, Tryd.ntmps44
  go_wp2_with fail
  refine HT.out.mono ?_
  rintro e9 w1 ⟨⟨q1, c1, rfl, hc1, r1, hru, _⟩, k1⟩
  obtain ⟨b1, o1, rfl, hcl⟩ := r1.cell 0 (by decide)
  have hcl' : w1.cell? ⟨b1, o1, none⟩ = some (.int .u8 (x : Int)) := hcl
  have HRu : Hid (Ru Z w1 r (some t)) := hru
  have HK1 : Hid (Kp (fun b => b = r) w w1) := k1
  have hb1 : w1.cell? ⟨r, 1, none⟩ = some (.bool false) := hru.b
  have hf1 : w1.frozen? ⟨r, 1, none⟩ = false := hru.f
  clear HT r1 hcl hru k1
  by_cases h8 : 8 < x
  · have h8i : (8 : Int) < (x : Int) := by omega
    have HB : Hid _ := HRu.out.bad
    go_wp2_with fail
    go_ret
    refine ⟨?_, HK1.out.trans HB.out.2 (fun _ _ e => e)⟩
    unfold RnRes
    rw [HV.out]
    exact ⟨⟨_, rfl⟩, HB.out.1⟩
  · have h8i : ¬ (8 : Int) < (x : Int) := by omega
    have HT2 : Hid (Calls _ _ _ w1 _) := rtake_bad r x (some t) w1 HRu.out (fun ys e => by cases e; omega)
    have HNl : Hid (¬ x ≤ t.length) := (by show ¬ _; omega)
    go_wp2_with fail
    refine HT2.out.mono ?_
    rintro e9 w2 ⟨ht, k2⟩
    have ht2 : if x ≤ t.length then _ else _ := ht
    rw [if_neg HNl.out] at ht2
    obtain ⟨he, hru2⟩ := ht2
    subst he
    have HR2 : Hid (Ru Z w2 r none) := hru2
    have HK2 : Hid (Kp (fun b => b = r) w w2) := HK1.out.trans k2 (fun _ _ e => e)
    clear ht k2 hru2 HT2 hcl' hb1 hf1
    go_wp2_with fail
    go_loopg [5, 31] 0 (fun gk nv iv wz => gk = 0 ∧ nv = .int .i64 0 ∧ iv = .int .i64 0 ∧ w2 = wz)
    case atStart => exact ⟨rfl, rfl, rfl, rfl⟩
    case round =>
      obtain ⟨-, rfl, rfl, rfl⟩ := hrel
      go_wp2_with fail
      go_ret
      refine ⟨?_, HK2.out⟩
      unfold RnRes
      rw [HV.out]
      exact ⟨⟨_, rfl⟩, HR2.out⟩
end Go.Proofs.YtoepemgflbmlcaaDoor
