/- The walk of the law PlateReads: what was written last is read, durable or not; what is read is memory of its own. -/
import Derived.Test.YtfaaikblkakiaaaPl5
import Derived.Test.YtfaaikblkakiaaaFd
import Derived.Test.YtfaaikblkakiaaaFe2
namespace Go.Proofs.Ytfaaikblkakiaaa
open Go.RowKit Go.Deep Go.Maps

set_option maxRecDepth 100000 in
set_option maxHeartbeats 800000 in
theorem read_out {w : World} {b d m n q : Nat} {dur : List Nat} {T : Nat → Option (List Nat)} (h : Pt w b d m n q dur T) (i : Int) (hi : ¬ (0 ≤ i ∧ i < (n : Int))) :
    Calls Try.prog 29 #[.pointer (some ⟨b, 0, none⟩), .int .i64 i] w fun e w' => e = .returned (.tuple #[.slice none 0 0, .int .i64 1]) ∧ w' = w := by
  have H : Hid (Calls _ _ _ w _) := has_out h i hi
  clear h
  go_enter Try.func29, Try.ntmps29
  go_wp2_with (go_at_call 53; refine H.out.mono ?_; rintro e w' ⟨rfl, rfl⟩)
  go_ret2
  exact ⟨rfl, rfl⟩

set_option maxRecDepth 100000 in
set_option maxHeartbeats 1600000 in
theorem plateReads_walk0 (v : Value) (L : Nat) (i : Int) (w : World) (h : Dos w v L) :
    Calls Try.prog 9 #[v, .int .i64 i] w fun e w' => e = .returned (.bool true) ∧ Kp (fun _ => False) w w' := by
  have H1 : Hid (Calls _ _ _ w _) := written_any v L w h
  have HM : Hid (_ = _) := m6_eq i
  have hm6 := m6_lt i
  go_enter Try.func9, Try.ntmps9
  go_wp2_with fail
  refine H1.out.mono ?_
  rintro e w1 ⟨b, d, m, q, t, wv, c, rfl, k1, hq, hb, hd, hm, ht, V, N, dur, T, hP, hN, hEq⟩
  obtain ⟨bb, o, cc, hV, hRb, hbt, hbd, hbm, hbb⟩ := hN.row (m6 i) (by omega)
  have hz1 := k1.size
  have hbl : bb < w1.heap.size := by obtain ⟨b', o', e, hc⟩ := hRb.cell 0 (by omega); cases e; exact World.block_lt_of_cell? _ _ hc
  rw [hEq (m6 i) (by omega)] at hRb
  have tc := hN.top.cell (i := m6 i) (by omega)
  rw [hV] at tc
  have HR : Hid (∀ w', Kp (fun _ => False) w1 w' → Calls _ _ _ w' _) := fun w' k' => read_ok (hP.keep k' id id id) (m6 i) hm6
  have HR6 : Hid (∀ w', Kp (fun _ => False) w1 w' → Calls _ _ _ w' _) := fun w' k' => read_out (hP.keep k' id id id) 6 (by omega)
  have HRb : Hid (Rb w1 (some ⟨bb, o, none⟩) 64 (nowOf dur T (m6 i))) := hRb
  clear H1 hRb hV hEq hP hN h
  obtain ⟨j, hj⟩ : ∃ j, j = m6 i := ⟨_, rfl⟩
  rw [← hj] at tc HR HRb hm6
  have HJ : Hid (j = m6 i) := hj
  clear hj
  go_wp2_with fail
  rw [HM.out, ← HJ.out]
  refine (HR.out _ (Kp.refl _ _)).mono ?_
  rintro e w2 ⟨v2, rfl, k2, o2, hsec⟩
  obtain ⟨p2, c2, ev, hc2, rb2, hb2⟩ := o2.rb hsec.2
  rw [hsec.1] at ev rb2
  subst ev
  have tc2 := k2.cellv tc id
  have HEq : Hid (Calls _ _ _ w2 _) := equal_same p2 (some ⟨bb, o, none⟩) 64 64 c2 cc _ w2 rb2 (HRb.out.keep0 k2)
  have HO2 : Hid _ := o2
  have HS : Hid (Sec _) := hsec
  clear o2 hb2 rb2 HM hsec
  go_wp2_with (go_at_call 31; refine HEq.out.mono ?_; rintro e w' ⟨rfl, rfl⟩)
  obtain ⟨w3, hw3⟩ : ∃ x, x = w'.alloc (.cells #[.slice p2 64 c2] 32) := ⟨_, rfl⟩
  have k3 : Kp (fun _ => False) w' w3 := by rw [hw3]; exact (Kp.refl _ _).alloc _
  have r3 : w3.rowIs w'.heap.size 32 1 (fun _ => .slice p2 64 c2) := by
    rw [hw3]
    exact ⟨_, blk_alloc_new _ _, rfl, fun i hi => by
      obtain rfl : i = 0 := by omega
      rfl⟩
  have HSp : Hid (Calls _ _ _ w3 _) := spoil_any w1.heap.size w'.heap.size 1 1 (fun _ => .slice p2 64 c2) w3 r3 (fun _ _ => Ow.wt (xs := nowOf dur T j) (ownsRow_keep HO2.out k3 (fun _ _ => id)) (by rw [HS.out.1]; omega) (fun g hg e => by have := (ownBlock_lt HO2.out hg).2; omega)) (by omega)
  rw [← hw3]
  refine HSp.out.mono ?_
  rintro e w4 ⟨rfl, k4⟩
  have k13 := k2.trans k3 (fun _ _ e => e)
  have k14 : Kp (fun _ => False) w1 w4 := k13.trans k4 (fun b hb e => by omega)
  have tc4 := k14.cellv tc id
  clear HSp HO2 HEq hw3 r3 tc2 HS
  go_wp2_with fail
  refine (HR.out _ k14).mono ?_
  rintro e w5 ⟨v5, rfl, k5, o5, hsec5⟩
  obtain ⟨p5, c5, ev, hc5, rb5, hb5⟩ := o5.rb hsec5.2
  rw [hsec5.1] at ev rb5
  subst ev
  have k15 := k14.trans k5 (fun _ _ e => e)
  have tc5 := k15.cellv tc id
  have HEq : Hid (Calls _ _ _ w5 _) := equal_same p5 (some ⟨bb, o, none⟩) 64 64 c5 cc _ w5 rb5 (HRb.out.keep0 k15)
  clear o5 hb5 rb5 hsec5 tc4
  go_wp2_with (first
    | (go_at_call 29; refine (HR6.out _ k15).mono ?_; rintro e w' ⟨rfl, hw'⟩; obtain rfl := hw'.symm)
    | (go_at_call 31; refine HEq.out.mono ?_; rintro e w' ⟨rfl, hw'⟩; obtain rfl := hw'.symm))
  go_ret
  exact ⟨rfl, k1.trans k15 (fun _ _ e => e)⟩
theorem plateReads_walk (v : Value) (L : Nat) (i : Int) (w : World) (h : Dos w v L) :
    Calls Try.prog 9 #[v, .int .i64 i] w fun e w' => e = .returned (.bool true) ∧ Kp (fun _ => False) w w' := plateReads_walk0 v L i w h
end Go.Proofs.Ytfaaikblkakiaaa
