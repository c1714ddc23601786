/- Sync of a log. -/
import Derived.Test.YtippipeebkkghaaGreatDoorAx
namespace Go.Proofs.YtippipeebkkghaaGreatDoor
set_option linter.unusedVariables false
set_option linter.unusedSimpArgs false
open Go.RowKit Go.Deep

set_option maxRecDepth 100000 in
set_option maxHeartbeats 800000 in
theorem wsync_ok {w : World} {g bp d m n q s gf e k : Nat} {dur : List Nat} {T : Nat → Option (List Nat)} {A : H4} {last : Int} (hP : Pt w bp d m n q dur T) (hW : Wl w g bp s gf A last e k) (hne : g ≠ d ∧ g ≠ m ∧ gf ≠ d ∧ gf ≠ m) :
    Calls Tryz.prog 45 #[.pointer (some ⟨g, 0, none⟩)] w fun e9 w' => e9 = .returned (.int .i64 0) ∧ Kp (fun x => x = d ∨ x = m) w w' ∧ Pt w' bp d m n 0 (durAll dur T n) (fun _ => none) ∧ Wl w' g bp s gf A last e k := by
  obtain ⟨capz, lz, ipz, frz⟩ := hW.ip
  have v0 : w.cell? ⟨g, 0, none⟩ = some (.pointer (some ⟨bp, 0, none⟩)) := ipz.lv.cell (j := 0) rfl
  have v1 : w.cell? ⟨g, 1, none⟩ = some (.int .i64 (s : Int)) := ipz.lv.cell (j := 1) rfl
  have HM : Hid (Calls _ _ _ w _) := wmade_ok v0
  have HS : Hid (Calls _ _ _ w _) := rsync_ok hP s
  have HW : Hid (Wl w g bp s gf A last e k) := hW
  have HNe : Hid (g ≠ d ∧ g ≠ m ∧ gf ≠ d ∧ gf ≠ m) := hne
  clear ipz frz hW hP hne
  go_enter Tryz.func45, Tryz.ntmps45
  go_wp2_with fail
  refine HM.out.mono ?_
  rintro e9 w9 ⟨rfl, hw9⟩
  have hw8 := hw9.symm
  subst hw8
  clear hw9 HM
  go_wp2_with fail
  refine HS.out.mono ?_
  rintro e9 w2 ⟨rfl, k2, p2⟩
  have HF : Hid (Kp (fun x => x = d ∨ x = m) w w2 ∧ Pt w2 bp d m n 0 (durAll dur T n) (fun _ => none) ∧ Wl w2 g bp s gf A last e k) := ⟨k2, p2, HW.out.keep k2 (fun e => e.elim HNe.out.1 HNe.out.2.1) (fun e => e.elim HNe.out.2.2.1 HNe.out.2.2.2)⟩
  clear k2 p2 HS
  go_wp2_with fail
  refine (number_nil w2).mono ?_
  rintro e9 w9 ⟨rfl, hw9⟩
  have hw8 := hw9.symm
  subst hw8
  clear hw9
  go_wp2
  go_ret
  exact ⟨rfl, HF.out⟩
end Go.Proofs.YtippipeebkkghaaGreatDoor
