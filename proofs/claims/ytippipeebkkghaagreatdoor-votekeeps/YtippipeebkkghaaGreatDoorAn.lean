/- A ring's plate: read, write, sync, sector. -/
import Derived.Test.YtippipeebkkghaaGreatDoorAm
import Derived.Test.YtippipeebkkghaaGreatDoorAa
import Derived.Test.YtippipeebkkghaaGreatDoorPl4
namespace Go.Proofs.YtippipeebkkghaaGreatDoor
set_option linter.unusedVariables false
set_option linter.unusedSimpArgs false
open Go.RowKit Go.Deep

abbrev ringV (b : Nat) (s : Int) : Value := .agg #[.pointer (some ⟨b, 0, none⟩), .int .i64 s]
theorem Pt.keep0 {w w' : World} {b d m n q : Nat} {dur : List Nat} {T : Nat → Option (List Nat)} (h : Pt w b d m n q dur T) (k : Kp (fun _ => False) w w') : Pt w' b d m n q dur T := h.keep k id id id

set_option maxRecDepth 100000 in
set_option maxHeartbeats 800000 in
theorem rread_ok {w : World} {b d m n q : Nat} {dur : List Nat} {T : Nat → Option (List Nat)} (h : Pt w b d m n q dur T) (s : Int) (i : Nat) (hi : (i : Int) < (n : Int)) :
    Calls Tryz.prog 140 #[ringV b s, .int .i64 (i : Int)] w fun e w' => ∃ g c, w.heap.size ≤ g ∧ 64 ≤ c ∧ e = .returned (.tuple #[.slice (some ⟨g, 0, none⟩) 64 c, .nilIface]) ∧ Kp (fun _ => False) w w' ∧ Rb w' (some ⟨g, 0, none⟩) 64 (nowOf dur T i) := by
  obtain ⟨r, hr⟩ : ∃ r, r = w.heap.size := ⟨_, rfl⟩
  obtain ⟨w0, hw0⟩ : ∃ y, y = w.alloc (.cells #[.pointer (some ⟨b, 0, none⟩), .int .i64 s] 132) := ⟨_, rfl⟩
  have HL0 : Lv w0 r [.pointer (some ⟨b, 0, none⟩), .int .i64 s] := by rw [hw0, hr]; exact Lv.new w _ _
  have q0 := HL0.cell (j := 0) rfl
  have HK0 : Hid (Kp (fun _ => False) w w0) := by rw [hw0]; exact (Kp.refl _ _).alloc _
  have HR : Hid (Calls _ _ _ w0 _) := read_ok (h.keep0 HK0.out) i hi
  clear h hi HL0
  go_enter Tryz.func140, Tryz.ntmps140
  go_upto_region 1 with fail
  rw [← hw0, ← hr]
  clear hw0 hr
  go_wp2_with fail
  refine HR.out.mono ?_
  rintro e9 w1 ⟨v, rfl, k1, o1, s1⟩
  have HK1 : Hid (Kp (fun _ => False) w w1) := HK0.out.trans k1 (fun _ _ e => e)
  obtain ⟨g, c, rfl, hg, hc, rb⟩ : ∃ g c, v = .slice (some ⟨g, 0, none⟩) 64 c ∧ w.heap.size ≤ g ∧ 64 ≤ c ∧ Rb w1 (some ⟨g, 0, none⟩) 64 (nowOf dur T i) := by
    rcases o1.2 with ⟨rfl, h0⟩ | ⟨g, cap, cur, rfl, hb, hh, hn, _, hcs, htk⟩
    · have := s1.1; omega
    · obtain ⟨p, c, e, h1, h2, h3⟩ := o1.rb s1.2
      have e' := e
      simp only [Value.slice.injEq] at e'
      obtain ⟨rfl, _, rfl⟩ := e'
      have := HK0.out.size
      rw [s1.1] at h1 h2
      exact ⟨g, cap, by rw [s1.1], by omega, h1, h2⟩
  have HF : Hid (w.heap.size ≤ g ∧ 64 ≤ c ∧ Rb w1 (some ⟨g, 0, none⟩) 64 (nowOf dur T i)) := ⟨hg, hc, rb⟩
  clear k1 o1 s1 HR hg hc rb
  go_wp2_with fail
  refine (fault_nil _ w1).mono ?_
  rintro e9 w9 ⟨rfl, hw9⟩
  have hw8 := hw9.symm
  subst hw8
  clear hw9
  go_wp2
  go_ret2
  exact ⟨g, c, HF.out.1, HF.out.2.1, rfl, HK1.out, HF.out.2.2⟩

set_option maxRecDepth 100000 in
set_option maxHeartbeats 800000 in
theorem rwrite_ok {w : World} {b d m n q : Nat} {dur : List Nat} {T : Nat → Option (List Nat)} (h : Pt w b d m n q dur T) (hq : (q : Int) < 9223372036854775807) (s : Int) (i : Nat) (hi : (i : Int) < (n : Int)) (g o c : Nat) (xs : List Nat) (hx : Rb w (some ⟨g, o, none⟩) 64 xs) :
    Calls Tryz.prog 167 #[ringV b s, .int .i64 (i : Int), .slice (some ⟨g, o, none⟩) 64 c] w fun e w' => e = .returned .nilIface ∧ Kp (fun x => x = m) w w' ∧ Pt w' b d m n (q + 1) dur (fun j => if j = i then some xs else T j) := by
  obtain ⟨r, hr⟩ : ∃ r, r = w.heap.size := ⟨_, rfl⟩
  obtain ⟨w0, hw0⟩ : ∃ y, y = w.alloc (.cells #[.pointer (some ⟨b, 0, none⟩), .int .i64 s] 132) := ⟨_, rfl⟩
  have HL0 : Lv w0 r [.pointer (some ⟨b, 0, none⟩), .int .i64 s] := by rw [hw0, hr]; exact Lv.new w _ _
  have q0 := HL0.cell (j := 0) rfl
  have HK0 : Hid (Kp (fun _ => False) w w0) := by rw [hw0]; exact (Kp.refl _ _).alloc _
  have HR : Hid (Calls _ _ _ w0 _) := write_ok (h.keep0 HK0.out) hq i hi g o c xs (hx.keep0 HK0.out)
  clear h hi HL0 hx hq
  go_enter Tryz.func167, Tryz.ntmps167
  go_upto_region 1 with fail
  rw [← hw0, ← hr]
  clear hw0 hr
  go_wp2_with fail
  refine HR.out.mono ?_
  rintro e9 w1 ⟨rfl, k1, p1⟩
  have HF : Hid (Kp (fun x => x = m) w w1 ∧ Pt w1 b d m n (q + 1) dur (fun j => if j = i then some xs else T j)) := ⟨(HK0.out.mono (fun _ _ e => e.elim)).trans k1 (fun _ _ e => e), p1⟩
  clear k1 p1 HR
  go_wp2_with fail
  refine (fault_nil _ w1).mono ?_
  rintro e9 w9 ⟨rfl, hw9⟩
  have hw8 := hw9.symm
  subst hw8
  clear hw9
  go_wp2
  go_ret
  exact ⟨rfl, HF.out⟩

set_option maxRecDepth 100000 in
set_option maxHeartbeats 800000 in
theorem rsync_ok {w : World} {b d m n q : Nat} {dur : List Nat} {T : Nat → Option (List Nat)} (h : Pt w b d m n q dur T) (s : Int) :
    Calls Tryz.prog 77 #[ringV b s] w fun e w' => e = .returned .nilIface ∧ Kp (fun x => x = d ∨ x = m) w w' ∧ Pt w' b d m n 0 (durAll dur T n) (fun _ => none) := by
  obtain ⟨r, hr⟩ : ∃ r, r = w.heap.size := ⟨_, rfl⟩
  obtain ⟨w0, hw0⟩ : ∃ y, y = w.alloc (.cells #[.pointer (some ⟨b, 0, none⟩), .int .i64 s] 132) := ⟨_, rfl⟩
  have HL0 : Lv w0 r [.pointer (some ⟨b, 0, none⟩), .int .i64 s] := by rw [hw0, hr]; exact Lv.new w _ _
  have q0 := HL0.cell (j := 0) rfl
  have HK0 : Hid (Kp (fun _ => False) w w0) := by rw [hw0]; exact (Kp.refl _ _).alloc _
  have HR : Hid (Calls _ _ _ w0 _) := sync_ok (h.keep0 HK0.out)
  clear h HL0
  go_enter Tryz.func77, Tryz.ntmps77
  go_upto_region 1 with fail
  rw [← hw0, ← hr]
  clear hw0 hr
  go_wp2_with fail
  refine HR.out.mono ?_
  rintro e9 w1 ⟨rfl, k1, p1⟩
  have HF : Hid (Kp (fun x => x = d ∨ x = m) w w1 ∧ Pt w1 b d m n 0 (durAll dur T n) (fun _ => none)) := ⟨(HK0.out.mono (fun _ _ e => e.elim)).trans k1 (fun _ _ e => e), p1⟩
  clear k1 p1 HR
  go_wp2_with fail
  refine (fault_nil _ w1).mono ?_
  rintro e9 w9 ⟨rfl, hw9⟩
  have hw8 := hw9.symm
  subst hw8
  clear hw9
  go_wp2
  go_ret
  exact ⟨rfl, HF.out⟩

set_option maxRecDepth 100000 in
set_option maxHeartbeats 800000 in
theorem rsector_ok (b s p : Nat) (w : World) (hs : 1 ≤ s) (hs2 : (s : Int) ≤ 8192) (hp : (p : Int) ≤ 1000000000000000000) :
    Calls Tryz.prog 168 #[ringV b (s : Int), .int .i64 (p : Int)] w fun e w' => e = .returned (.int .i64 ((2 + p % s : Nat) : Int)) ∧ Kp (fun _ => False) w w' := by
  obtain ⟨r, hr⟩ : ∃ r, r = w.heap.size := ⟨_, rfl⟩
  obtain ⟨w0, hw0⟩ : ∃ y, y = w.alloc (.cells #[.pointer (some ⟨b, 0, none⟩), .int .i64 (s : Int)] 132) := ⟨_, rfl⟩
  have HL0 : Lv w0 r [.pointer (some ⟨b, 0, none⟩), .int .i64 (s : Int)] := by rw [hw0, hr]; exact Lv.new w _ _
  have q1 := HL0.cell (j := 1) rfl
  have HK0 : Hid (Kp (fun _ => False) w w0) := by rw [hw0]; exact (Kp.refl _ _).alloc _
  obtain ⟨k, hk⟩ : ∃ k, k = p % s := ⟨_, rfl⟩
  have hkl : k < s := by rw [hk]; exact Nat.mod_lt _ hs
  have hm1 : (p : Int).tmod (s : Int) = (k : Int) := by rw [hk, Int.tmod_eq_emod_of_nonneg (by omega)]; norm_cast
  have hs0 : ((s : Int) == 0) = false := by rw [beq_eq_false_iff_ne]; omega
  have hs1 : ¬ (s : Int) = 0 := by omega
  have hw1 : wrap64 (k : Int) = (k : Int) := by unfold wrap64; omega
  have hw2 : wrap64 (2 + (k : Int)) = 2 + (k : Int) := by unfold wrap64; omega
  rw [← hk]
  clear HL0 hk
  go_enter Tryz.func168, Tryz.ntmps168
  go_upto_region 1 with fail
  rw [← hw0, ← hr]
  clear hw0 hr
  go_wp2
  go_ret
  exact ⟨by simp, HK0.out⟩
end Go.Proofs.YtippipeebkkghaaGreatDoor
