/- The document's Reader: Num, where it fails early. -/
import Derived.Test.YtoepemgflbmlcaaDoorNs2
namespace Go.Proofs.YtoepemgflbmlcaaDoor
set_option linter.unusedVariables false
set_option linter.unusedSimpArgs false
set_option linter.unnecessarySimpa false
open Go.RowKit Go.Deep

/-- what the Reader's Num answers -/
def RnRes (Z : Nat → Prop) (r : Nat) (st : Option (List Nat)) (e : Ending) (w' : World) : Prop := match st.bind (rdNum 1152921504606846976) with
  | some (n, t) => e = .returned (.int .i64 (n : Int)) ∧ Ru Z w' r (some t)
  | none => (∃ z, e = .returned (.int .i64 z)) ∧ Ru Z w' r none

set_option maxRecDepth 100000 in
set_option maxHeartbeats 1600000 in
/-- nothing is left, or it is bad already -/
theorem rnum_early {Z : Nat → Prop} (r : Nat) (st : Option (List Nat)) (w : World) (h : Ru Z w r st) (hs : ∀ xs, st = some xs → xs = []) : Calls Tryd.prog 44 #[.pointer (some ⟨r, 0, none⟩)] w fun e w' => RnRes Z r st e w' ∧ Kp (fun b => b = r) w w' := by
  have HT : Hid (Calls _ _ _ w _) := rtake_bad r 1 st w h (fun xs e => by rw [hs xs e]; decide)
  have HV : Hid (st.bind (rdNum 1152921504606846976) = none) := by
    show _ = _
    cases st with
    | none => rfl
    | some xs => rw [hs xs rfl]; rfl
  have HTk : Hid (∀ e w', TkRes Z r 1 st e w' → e = .returned (.slice none 0 0) ∧ Ru Z w' r none) := fun e w' ht => by
    unfold TkRes at ht
    cases st with
    | none => exact ht
    | some xs =>
      have := hs xs rfl
      subst this
      exact ht
  clear h hs
  go_enter Tryd.func44, Tryd.ntmps44
  go_wp2_with fail
  refine HT.out.mono ?_
  rintro e9 w1 ⟨ht, k1⟩
  obtain ⟨he, hru⟩ := HTk.out _ _ ht
  subst he
  have HB : Hid _ := hru.bad
  have hb1 : w1.cell? ⟨r, 1, none⟩ = some (.bool true) := hru.b
  have hf1 : w1.frozen? ⟨r, 1, none⟩ = false := hru.f
  have HK1 : Hid (Kp (fun b => b = r) w w1) := k1
  clear ht k1 hru HT HTk
  go_wp2_with fail
  go_ret
  refine ⟨?_, HK1.out.trans HB.out.2 (fun _ _ e => e)⟩
  unfold RnRes
  rw [HV.out]
  exact ⟨⟨_, rfl⟩, HB.out.1⟩

set_option maxRecDepth 100000 in
set_option maxHeartbeats 1600000 in
/-- too wide, or not all there -/
theorem rnum_wide {Z : Nat → Prop} (r x : Nat) (t : List Nat) (w : World) (h : Ru Z w r (some (x :: t))) (hx : x < 256) (hw : 8 < x ∨ t.length < x) : Calls Tryd.prog 44 #[.pointer (some ⟨r, 0, none⟩)] w fun e w' => RnRes Z r (some (x :: t)) e w' ∧ Kp (fun b => b = r) w w' := by
  have HT : Hid (Calls _ _ _ w _) := rtake_yes r 1 (x :: t) w h (by simp)
  have HV : Hid ((some (x :: t)).bind (rdNum 1152921504606846976) = none) := by
    show rdNum _ (x :: t) = none
    rw [rdNum_cons, if_neg (fun h => by omega)]
  have hxi : (x : Int) < 256 := by omega
  clear h
  go_enter Tryd.func44, Tryd.ntmps44
  go_wp2_with fail
  refine HT.out.mono ?_
  rintro e9 w1 ⟨⟨q1, c1, rfl, hc1, r1, hru, _⟩, k1⟩
  obtain ⟨b1, o1, rfl, hcl⟩ := r1.cell 0 (by decide)
  have hcl' : w1.cell? ⟨b1, o1, none⟩ = some (.int .u8 (x : Int)) := hcl
  have HRu : Hid (Ru Z w1 r (some t)) := hru
  have HK1 : Hid (Kp (fun b => b = r) w w1) := k1
  have hb1 : w1.cell? ⟨r, 1, none⟩ = some (.bool false) := hru.b
  have hf1 : w1.frozen? ⟨r, 1, none⟩ = false := hru.f
  clear HT r1 hcl hru k1
  by_cases h8 : 8 < x
  · have h8i : (8 : Int) < (x : Int) := by omega
    have HB : Hid _ := HRu.out.bad
    go_wp2_with fail
    go_ret
    refine ⟨?_, HK1.out.trans HB.out.2 (fun _ _ e => e)⟩
    unfold RnRes
    rw [HV.out]
    exact ⟨⟨_, rfl⟩, HB.out.1⟩
  · have h8i : ¬ (8 : Int) < (x : Int) := by omega
    have HT2 : Hid (Calls _ _ _ w1 _) := rtake_bad r x (some t) w1 HRu.out (fun ys e => by cases e; omega)
    have HNl : Hid (¬ x ≤ t.length) := (by show ¬ _; omega)
    go_wp2_with fail
    refine HT2.out.mono ?_
    rintro e9 w2 ⟨ht, k2⟩
    have ht2 : if x ≤ t.length then _ else _ := ht
    rw [if_neg HNl.out] at ht2
    obtain ⟨he, hru2⟩ := ht2
    subst he
    have HR2 : Hid (Ru Z w2 r none) := hru2
    have HK2 : Hid (Kp (fun b => b = r) w w2) := HK1.out.trans k2 (fun _ _ e => e)
    clear ht k2 hru2 HT2 hcl' hb1 hf1
    go_wp2_with fail
    go_loopg [5, 31] 0 (fun gk nv iv wz => gk = 0 ∧ nv = .int .i64 0 ∧ iv = .int .i64 0 ∧ w2 = wz)
    case atStart => exact ⟨rfl, rfl, rfl, rfl⟩
    case round =>
      obtain ⟨-, rfl, rfl, rfl⟩ := hrel
      go_wp2_with fail
      go_ret
      refine ⟨?_, HK2.out⟩
      unfold RnRes
      rw [HV.out]
      exact ⟨⟨_, rfl⟩, HR2.out⟩
end Go.Proofs.YtoepemgflbmlcaaDoor
