/- frame's cursor: truth; the votes' reading, plain. -/
import Derived.Test.YtoepemgflbmlcaaDoorOe
import Derived.Test.YtoepemgflbmlcaaDoorOr
import Derived.Test.YtoepemgflbmlcaaDoorOs
namespace Go.Proofs.YtoepemgflbmlcaaDoor
set_option linter.unusedVariables false
set_option linter.unusedSimpArgs false
set_option linter.unnecessarySimpa false
open Go.RowKit Go.Deep

/-- what truth answers -/
def TrRes (Z : Nat → Prop) (r : Nat) (xs : List Nat) (e : Ending) (w' : World) : Prop := match rdTruth xs with
  | some (b, t) => e = .returned (.bool b) ∧ Cu Z w' r t
  | none => e = .panicked gaveUp

set_option maxRecDepth 100000 in
set_option maxHeartbeats 1600000 in
theorem truth_ok {Z : Nat → Prop} (r : Nat) (xs : List Nat) (w : World) (h : Cu Z w r xs) (hb : ∀ x ∈ xs, x < 256) : Calls Tryd.prog 62 #[.pointer (some ⟨r, 0, none⟩)] w fun e w' => TrRes Z r xs e w' ∧ Kp (fun b => b = r) w w' := by
  have HNn : Hid (∀ u b, b = false → Calls _ _ _ u _) := need_noB (.pointer (some ⟨r, 0, none⟩))
  have HNb : Hid (∀ u b, b = true → Calls _ _ _ u _) := need_yesB (.pointer (some ⟨r, 0, none⟩))
  cases xs with
  | nil =>
    have HT : Hid (Calls _ _ _ w _) := take_no r 1 [] w h (by decide)
    clear h hb
    go_enter Tryd.func62, Tryd.ntmps62
    go_wp2_with fail
    refine HT.out.mono ?_
    rintro e9 w9 ⟨rfl, hw9⟩
    have hw8 := hw9.symm
    subst hw8
    exact ⟨rfl, rfl, Kp.refl _ _⟩
  | cons x t =>
    have hx : x < 256 := hb x (List.mem_cons_self ..)
    have HT : Hid (Calls _ _ _ w _) := take_yes r 1 (x :: t) w h (by simp)
    have hxi : (x : Int) < 256 := by omega
    clear h hb
    go_enter Tryd.func62, Tryd.ntmps62
    go_wp2_with fail
    refine HT.out.mono ?_
    rintro e9 w1 ⟨q1, rfl, r1, c1, k1, _⟩
    obtain ⟨b1, o1, rfl, hc1⟩ := r1.cell 0 (by decide)
    have hc1' : w1.cell? ⟨b1, o1, none⟩ = some (.int .u8 (x : Int)) := hc1
    have HC1 : Hid (Cu Z w1 r t) := c1
    have HK1 : Hid (Kp (fun b => b = r) w w1) := k1
    clear HT r1 hc1 c1 k1
    by_cases h1 : x ≤ 1
    · have h1i : (x : Int) ≤ 1 := by omega
      have HV : Hid (rdTruth (x :: t) = some (x == 1, t)) := by
        show (if x ≤ 1 then some (x == 1, t) else none) = _
        rw [if_pos h1]
      go_wp2_with fail
      refine (HNb.out w1 _ (by first | rfl | simpa using h1i)).mono ?_
      rintro e9 w9 ⟨⟨v9, rfl⟩, hw9⟩
      have hw8 := hw9.symm
      subst hw8
      clear hw9
      rcases (show x = 0 ∨ x = 1 by omega) with e | e
      · subst e
        go_wp2_with fail
        go_ret
        refine ⟨?_, HK1.out⟩
        unfold TrRes
        rw [HV.out]
        exact ⟨rfl, HC1.out⟩
      · subst e
        go_wp2_with fail
        go_ret
        refine ⟨?_, HK1.out⟩
        unfold TrRes
        rw [HV.out]
        exact ⟨rfl, HC1.out⟩
    · have h1i : ¬ (x : Int) ≤ 1 := by omega
      have HV : Hid (rdTruth (x :: t) = none) := by
        show (if x ≤ 1 then some (x == 1, t) else none) = _
        rw [if_neg h1]
      go_wp2_with fail
      refine (HNn.out w1 _ (by simpa using h1i)).mono ?_
      rintro e9 w9 ⟨rfl, hw9⟩
      have hw8 := hw9.symm
      subst hw8
      refine ⟨rfl, ?_, HK1.out⟩
      unfold TrRes
      rw [HV.out]
/-- a vote as the program has it -/
def voOf (v : Vp) : Vo := ⟨v.slot, v.ballot, csOf v.c, intsOf v.c.nodes⟩
/-- what vote answers -/
def VtRes (Z : Nat → Prop) (r : Nat) (xs : List Nat) (w : World) (e : Ending) (w' : World) : Prop := match rdVote xs with
  | some (v, t) => ∃ q cap, e = .returned (.agg (vcell (voOf v) (.slice q v.c.nodes.length cap)).toArray) ∧ Fl w' (fun b => w.heap.size ≤ b ∧ b < w'.heap.size) q ((intsOf v.c.nodes).map encI) ∧ Cu Z w' r t
  | none => e = .panicked gaveUp
theorem rdVote_yes {xs t1 t2 : List Nat} {c : Cp} (h1 : seqN xs 2 = some t1) (h2 : rdCmd t1 = some (c, t2)) : rdVote xs = some (⟨seqV xs 0, seqV xs 1, c⟩, t2) := by
  unfold rdVote
  rw [seqN_nums 2 xs t1 h1]
  show (rdCmd t1).bind _ = _
  rw [h2]
  rfl
theorem rdVote_no1 {xs : List Nat} (h1 : seqN xs 2 = none) : rdVote xs = none := by
  unfold rdVote
  rw [nums_seqN 2 xs h1]
  rfl
theorem rdVote_no2 {xs t1 : List Nat} (h1 : seqN xs 2 = some t1) (h2 : rdCmd t1 = none) : rdVote xs = none := by
  unfold rdVote
  rw [seqN_nums 2 xs t1 h1]
  show (rdCmd t1).bind _ = _
  rw [h2]
  rfl
end Go.Proofs.YtoepemgflbmlcaaDoor
