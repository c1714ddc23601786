/- The document's chain: are two commands the same (laid by scripts/mkxe.py). -/
import Derived.Test.YtjbgpbafgpdciaaCb
import Derived.Test.YtjbgpbafgpdciaaXe1
import Derived.Test.YtjbgpbafgpdciaaXe2
import Derived.Test.YtjbgpbafgpdciaaXe3
import Derived.Test.YtjbgpbafgpdciaaXe4
import Derived.Test.YtjbgpbafgpdciaaXe5
import Derived.Test.YtjbgpbafgpdciaaXe6
namespace Go.Proofs.Ytjbgpbafgpdciaa
set_option linter.unusedVariables false
set_option linter.unusedSimpArgs false
open Go.RowKit Go.Deep Go.Maps

theorem xsame_ok (c d : Cs0) (Z1 Z2 : Nat → Prop) (xs ys : List Int) (nv mv : Value) (w : World) (h1 : Ni w Z1 xs nv) (h2 : Ni w Z2 ys mv) :
    Calls Try.prog 26 #[.agg (cmdA c nv), .agg (cmdA d mv)] w fun e w' => ∃ b : Bool, e = .returned (.bool b) ∧ (b = true ↔ c = d ∧ xs = ys) ∧ Kp (fun _ => False) w w' := by
  obtain ⟨p1, c1, rfl, f1, l1⟩ := h1
  obtain ⟨p2, c2, rfl, f2, l2⟩ := h2
  have no : ∀ {e : Ending} {w' : World}, ¬ (c = d ∧ xs = ys) → e = .returned (.bool false) ∧ Kp (fun _ => False) w w' → ∃ b : Bool, e = .returned (.bool b) ∧ (b = true ↔ c = d ∧ xs = ys) ∧ Kp (fun _ => False) w w' := fun hn h => ⟨false, h.1, ⟨fun e => (by cases e), fun e => (hn e).elim⟩, h.2⟩
  by_cases hlm : (xs.length : Int) = (ys.length : Int)
  · have hlm' : xs.length = ys.length := by omega
    obtain ⟨L, hL⟩ : ∃ L, L = xs.length := ⟨_, rfl⟩
    have hL2 : L = ys.length := by omega
    rw [← hL, ← hL2]
    have HL : Hid (L = xs.length ∧ L = ys.length ∧ L * 8 ≤ 140737488355328) := ⟨hL, hL2, by rw [hL]; exact l1⟩
    by_cases hxy : xs = ys
    · obtain ⟨fa0, fa1, fa2, fa3, fa4, fa5, fa6, fa7, fa8, fa9, fa10⟩ := c
      obtain ⟨fb0, fb1, fb2, fb3, fb4, fb5, fb6, fb7, fb8, fb9, fb10⟩ := d
      by_cases e0 : fa0 = fb0
      rotate_left
      · exact (xs_f0 _ _ _ _ _ _ _ _ _ _ _ _ _ _ _ _ _ _ _ _ _ _ Z1 Z2 p1 p2 L c1 c2 xs ys w f1 f2 HL e0 hxy).mono fun e w' h => no (fun hh => e0 (by injection hh.1)) h
      subst e0
      by_cases e1 : fa1 = fb1
      rotate_left
      · exact (xs_f1 _ _ _ _ _ _ _ _ _ _ _ _ _ _ _ _ _ _ _ _ _ Z1 Z2 p1 p2 L c1 c2 xs ys w f1 f2 HL e1 hxy).mono fun e w' h => no (fun hh => e1 (by injection hh.1)) h
      subst e1
      by_cases e2 : fa2.toList = fb2.toList
      rotate_left
      · exact (xs_f2 _ _ _ _ _ _ _ _ _ _ _ _ _ _ _ _ _ _ _ _ Z1 Z2 p1 p2 L c1 c2 xs ys w f1 f2 HL e2 hxy).mono fun e w' h => no (fun hh => e2 (by injection hh.1 with _ _ h2; rw [h2])) h
      obtain rfl := key_inj e2
      by_cases e3 : fa3 = fb3
      rotate_left
      · exact (xs_f3 _ _ _ _ _ _ _ _ _ _ _ _ _ _ _ _ _ _ _ Z1 Z2 p1 p2 L c1 c2 xs ys w f1 f2 HL e3 hxy).mono fun e w' h => no (fun hh => e3 (by injection hh.1)) h
      subst e3
      by_cases e4 : fa4 = fb4
      rotate_left
      · exact (xs_f4 _ _ _ _ _ _ _ _ _ _ _ _ _ _ _ _ _ _ Z1 Z2 p1 p2 L c1 c2 xs ys w f1 f2 HL e4 hxy).mono fun e w' h => no (fun hh => e4 (by injection hh.1)) h
      subst e4
      by_cases e5 : fa5 = fb5
      rotate_left
      · exact (xs_f5 _ _ _ _ _ _ _ _ _ _ _ _ _ _ _ _ _ Z1 Z2 p1 p2 L c1 c2 xs ys w f1 f2 HL e5 hxy).mono fun e w' h => no (fun hh => e5 (by injection hh.1)) h
      subst e5
      by_cases e6 : fa6 = fb6
      rotate_left
      · exact (xs_f6 _ _ _ _ _ _ _ _ _ _ _ _ _ _ _ _ Z1 Z2 p1 p2 L c1 c2 xs ys w f1 f2 HL e6 hxy).mono fun e w' h => no (fun hh => e6 (by injection hh.1)) h
      subst e6
      by_cases e7 : fa7 = fb7
      rotate_left
      · exact (xs_f7 _ _ _ _ _ _ _ _ _ _ _ _ _ _ _ Z1 Z2 p1 p2 L c1 c2 xs ys w f1 f2 HL e7 hxy).mono fun e w' h => no (fun hh => e7 (by injection hh.1)) h
      subst e7
      by_cases e8 : fa8 = fb8
      rotate_left
      · exact (xs_f8 _ _ _ _ _ _ _ _ _ _ _ _ _ _ Z1 Z2 p1 p2 L c1 c2 xs ys w f1 f2 HL e8 hxy).mono fun e w' h => no (fun hh => e8 (by injection hh.1)) h
      subst e8
      by_cases e9 : fa9 = fb9
      rotate_left
      · exact (xs_f9 _ _ _ _ _ _ _ _ _ _ _ _ _ Z1 Z2 p1 p2 L c1 c2 xs ys w f1 f2 HL e9 hxy).mono fun e w' h => no (fun hh => e9 (by injection hh.1)) h
      subst e9
      by_cases e10 : fa10 = fb10
      rotate_left
      · exact (xs_f10 _ _ _ _ _ _ _ _ _ _ _ _ Z1 Z2 p1 p2 L c1 c2 xs ys w f1 f2 HL e10 hxy).mono fun e w' h => no (fun hh => e10 (by injection hh.1)) h
      subst e10
      exact (xs_f11 _ _ _ _ _ _ _ _ _ _ _ Z1 Z2 p1 p2 L c1 c2 xs ys w f1 f2 HL hxy).mono fun e w' h => ⟨true, h.1, ⟨fun _ => ⟨rfl, hxy⟩, fun _ => rfl⟩, h.2⟩
    · exact (xs_lists c d Z1 Z2 p1 p2 L c1 c2 xs ys w f1 f2 HL hxy).mono fun e w' h => no (fun hh => hxy hh.2) h
  · exact (xs_len c d p1 p2 _ _ c1 c2 w hlm).mono fun e w' h => no (fun hh => hlm (by rw [hh.2])) h
end Go.Proofs.Ytjbgpbafgpdciaa
