/- A shelf of a new plate: Open. -/
import Derived.Test.YtippipeebkkghaaGreatDoorIm
import Derived.Test.YtippipeebkkghaaGreatDoorBo
import Derived.Handy
namespace Go.Proofs.YtippipeebkkghaaGreatDoor
set_option linter.unusedVariables false
set_option linter.unusedSimpArgs false
open Go.RowKit Go.Deep Go.Maps

set_option maxRecDepth 100000 in
theorem replay0_ok (sh : Nat) (w : World) : Calls Tryz.prog 30 #[.pointer (some ⟨sh, 0, none⟩), .slice none 0 0] w fun e w' => e = .returned .nilIface ∧ w' = w := by
  go_enter Tryz.func30, Tryz.ntmps30
  go_wp2
  go_rounds 1
  go_ret
  exact ⟨rfl, rfl⟩

theorem Sk.new (w : World) (Z : Nat → Prop) (g mp : Nat) (hm : Px3 w mp 0 (fun _ => none)) : Sk (w.alloc (.cells #[.pointer (some ⟨g, 0, none⟩), .map (some mp), .int .i64 0] 97)) Z w.heap.size mp g [] :=
  ⟨Lv.new w _ _, ⟨0, fun _ => none, Nat.le_refl _, hm.keep (S := fun _ => False) ((Kp.refl _ _).alloc _) id, fun x _ => ⟨fun _ => rfl, fun o ho => by rw [stS_nil] at ho; cases ho⟩⟩, fun r hr => absurd hr List.not_mem_nil, Nat.zero_le _⟩

set_option maxRecDepth 100000 in
set_option maxHeartbeats 1600000 in
theorem sopen_new {w : World} {bp d m s : Nat} (h : Pt w bp d m (2 + s) 0 (List.replicate ((2 + s) * 64) 0) (fun _ => none)) (hs : 4 ≤ s ∧ s ≤ 8190) (ht : Turns w) (htd : ¬ 0 = d ∧ ¬ 0 = m) :
    Calls Tryz.prog 10 #[.pointer (some ⟨bp, 0, none⟩)] w fun e9 w' => ∃ sh mp g gf dur, e9 = .returned (.tuple #[.pointer (some ⟨sh, 0, none⟩), .int .i64 0]) ∧ Kp (fun x => x = d ∨ x = m) w w' ∧ (w.heap.size ≤ sh ∧ w.heap.size ≤ mp ∧ w.heap.size ≤ g ∧ w.heap.size ≤ gf) ∧ Shf w' (fun x => w'.heap.size ≤ x) sh mp g bp d m gf s 1 1 0 1 0 dur [] := by
  have HO : Hid (Calls _ _ _ w _) := OpenNew_ok (s := s) h (by decide) rfl (by omega) (fun i hi => nowOf_new (2 + s) i hi) ht
  have HT : Hid (Turns w) := ht
  have HTd : Hid ((¬ (0 : Nat) = d ∧ ¬ (0 : Nat) = m) ∧ (0 : Nat) < w.heap.size ∧ bp < w.heap.size ∧ d < w.heap.size ∧ m < w.heap.size ∧ 4 ≤ s) := ⟨htd, World.block_lt_of_cell? _ _ (ht 0 (by decide)), h.lt, h.row.lt, h.mp.lt, hs.1⟩
  have HR : Hid (∀ sh u, Calls _ _ _ u _) := fun sh u => replay0_ok sh u
  have HIs : Hid (∀ u, Calls Tryz.prog 31 #[.nilIface, eno 70] u fun e w' => e = .returned (.bool false) ∧ w' = u) := fun u => is_nil 70 u
  have hmm : ∀ (t : TypeId) (w : World), (Instr.makeMap t none).run Tryz.prog w = .ok (.map (some w.heap.size)) (w.alloc (.map #[] 0)) := fun _ _ => rfl
  clear h hs ht htd
  go_enter Tryz.func10, Tryz.ntmps10
  go_wp2_with fail
  refine HO.out.mono ?_
  rintro e9 w2 ⟨g, gf, rfl, k2, p2, hg, hgf, l2⟩
  obtain ⟨mp, hmp⟩ : ∃ x, x = w2.heap.size := ⟨_, rfl⟩
  obtain ⟨w3, hw3⟩ : ∃ y, y = w2.alloc (.map #[] 0) := ⟨_, rfl⟩
  have hm3 : Px3 w3 mp 0 (fun _ => none) := by rw [hw3, hmp]; exact Px3.made w2
  have k3 : Kp (fun _ => False) w2 w3 := by rw [hw3]; exact (Kp.refl _ _).alloc _
  obtain ⟨sh, hsh⟩ : ∃ x, x = w3.heap.size := ⟨_, rfl⟩
  obtain ⟨w4, hw4⟩ : ∃ y, y = w3.alloc (.cells #[.pointer (some ⟨g, 0, none⟩), .map (some mp), .int .i64 0] 97) := ⟨_, rfl⟩
  have s4 : Sk w4 (fun x => w4.heap.size ≤ x) sh mp g [] := by rw [hw4, hsh]; exact Sk.new w3 _ g mp hm3
  have k4 : Kp (fun _ => False) w3 w4 := by rw [hw4]; exact (Kp.refl _ _).alloc _
  have hz : w3.heap.size = w2.heap.size + 1 ∧ w4.heap.size = w3.heap.size + 1 := ⟨by rw [hw3]; simp, by rw [hw4]; simp⟩
  have HF : Hid (Kp (fun x => x = d ∨ x = m) w w4 ∧ (w.heap.size ≤ sh ∧ w.heap.size ≤ mp ∧ w.heap.size ≤ g ∧ w.heap.size ≤ gf) ∧ Shf w4 (fun x => w4.heap.size ≤ x) sh mp g bp d m gf s 1 1 0 1 0 (wrHead (List.replicate ((2 + s) * 64) 0) (fun _ => none) (2 + s) 1 (hdB 1 1 0 1)) []) := by
    obtain ⟨⟨t1, t2⟩, t3, t4, t5, t6, t7⟩ := HTd.out
    have k24 : Kp (fun _ => False) w2 w4 := k3.trans k4 (fun _ _ e => e)
    have z1 := k2.size
    have z2 := l2.gl
    have z3 := l2.fl
    have hLg : Lg w2 g bp d m gf s 0 1 1 0 1 0 0 [] (wrHead (List.replicate ((2 + s) * 64) 0) (fun _ => none) (2 + s) 1 (hdB 1 1 0 1)) (fun _ => none) := ⟨p2, l2, logN_new rfl (by omega), DirtW.none _, Nat.le_refl _, rfl, by omega, by omega, ⟨by omega, by omega⟩, ⟨by omega, by omega⟩, ⟨by omega, by have := p2.n2; omega⟩, ⟨by omega, by omega, by omega, by omega, by omega, by omega, by omega, by omega, t1, t2⟩, Nat.le_refl _, fun _ _ => rfl⟩
    refine ⟨k2.trans (k24.mono (fun _ _ e => e.elim)) (fun _ _ e => e), ⟨by omega, by omega, by omega, by omega⟩, ⟨⟨0, 0, fun _ => none, hLg.keep0 k24⟩, s4, ?_, ⟨by omega, by omega, by omega⟩, fun x hx => ?_, ⟨by omega, by omega, by omega, by omega⟩, ⟨by omega, by omega⟩⟩⟩
    · exact (fun j hj => k24.cellv ((k2.cellv (HT.out j hj) (fun e => by rcases e with e | e; exact t1 e; exact t2 e))) id)
    · rcases hx with rfl | rfl | rfl <;> exact ⟨by omega, by omega, by omega⟩
  clear k2 p2 l2 hm3 k3 s4 k4 hz hg hgf HO
  go_wp2_with fail
  have hsh1 : mp + 1 = sh := by rw [hsh, hw3, hmp]; simp
  rw [← hmp, ← hw3, hsh1, ← hw4]
  clear hmp hw3 hsh hsh1 hw4
  refine (HR.out sh w4).mono ?_
  rintro e9 w9 ⟨rfl, hw9⟩
  have hw8 := hw9.symm
  subst hw8
  clear hw9
  go_wp2_with fail
  refine (HIs.out _).mono ?_
  rintro e9 w9 ⟨rfl, hw9⟩
  have hw8 := hw9.symm
  subst hw8
  clear hw9
  go_wp2_with fail
  go_ret2
  exact ⟨sh, mp, g, gf, _, rfl, HF.out⟩
end Go.Proofs.YtippipeebkkghaaGreatDoor
