/- The document's chain: are two commands the same (laid by scripts/mkxe.py). -/
import Derived.Test.YtjbgpbafgpdciaaCb
namespace Go.Proofs.Ytjbgpbafgpdciaa
set_option linter.unusedVariables false
set_option linter.unusedSimpArgs false
open Go.RowKit Go.Deep Go.Maps

set_option maxRecDepth 100000 in
set_option maxHeartbeats 3200000 in
theorem xs_len (c d : Cs0) (p1 p2 : Option Addr) (L M c1 c2 : Nat) (w : World) (hlm : ¬ (L : Int) = (M : Int)) :
    Calls Try.prog 26 #[.agg (cmdA c (.slice p1 L c1)), .agg (cmdA d (.slice p2 M c2))] w fun e w' => e = .returned (.bool false) ∧ Kp (fun _ => False) w w' := by
  have k0 : Kp (fun _ => False) w ((w.alloc (.cells (cmdA c (.slice p1 L c1)) 34)).alloc (.cells (cmdA d (.slice p2 M c2)) 34)) := ((Kp.refl _ _).alloc _).alloc _
  have lx : Lv ((w.alloc (.cells (cmdA c (.slice p1 L c1)) 34)).alloc (.cells (cmdA d (.slice p2 M c2)) 34)) w.heap.size (cmdA c (.slice p1 L c1)).toList := (Lv.new w _ _).keep ((Kp.refl (fun _ => False) _).alloc _) id
  have ly : Lv ((w.alloc (.cells (cmdA c (.slice p1 L c1)) 34)).alloc (.cells (cmdA d (.slice p2 M c2)) 34)) (w.heap.size + 1) (cmdA d (.slice p2 M c2)).toList := by
    have hh := Lv.new (w.alloc (.cells (cmdA c (.slice p1 L c1)) 34)) (cmdA d (.slice p2 M c2)) 34
    have s1 : (w.alloc (.cells (cmdA c (.slice p1 L c1)) 34)).heap.size = w.heap.size + 1 := by simp
    rw [s1] at hh
    exact hh
  have x11 := lx.cell (j := 11) rfl
  have y11 := ly.cell (j := 11) rfl
  clear lx ly
  go_enter Try.func26, Try.ntmps26
  go_wp2
  go_ret
  exact ⟨rfl, k0⟩

set_option maxRecDepth 100000 in
set_option maxHeartbeats 3200000 in
theorem xs_lists (c d : Cs0) (Z1 Z2 : Nat → Prop) (p1 p2 : Option Addr) (L c1 c2 : Nat) (xs ys : List Int) (w : World) (f1 : Fl w Z1 p1 (xs.map encI)) (f2 : Fl w Z2 p2 (ys.map encI)) (HL : Hid (L = xs.length ∧ L = ys.length ∧ L * 8 ≤ 140737488355328)) (HNe : Hid (xs ≠ ys)) :
    Calls Try.prog 26 #[.agg (cmdA c (.slice p1 L c1)), .agg (cmdA d (.slice p2 L c2))] w fun e w' => e = .returned (.bool false) ∧ Kp (fun _ => False) w w' := by
  have k0 : Kp (fun _ => False) w ((w.alloc (.cells (cmdA c (.slice p1 L c1)) 34)).alloc (.cells (cmdA d (.slice p2 L c2)) 34)) := ((Kp.refl _ _).alloc _).alloc _
  have lx : Lv ((w.alloc (.cells (cmdA c (.slice p1 L c1)) 34)).alloc (.cells (cmdA d (.slice p2 L c2)) 34)) w.heap.size (cmdA c (.slice p1 L c1)).toList := (Lv.new w _ _).keep ((Kp.refl (fun _ => False) _).alloc _) id
  have ly : Lv ((w.alloc (.cells (cmdA c (.slice p1 L c1)) 34)).alloc (.cells (cmdA d (.slice p2 L c2)) 34)) (w.heap.size + 1) (cmdA d (.slice p2 L c2)).toList := by
    have hh := Lv.new (w.alloc (.cells (cmdA c (.slice p1 L c1)) 34)) (cmdA d (.slice p2 L c2)) 34
    have s1 : (w.alloc (.cells (cmdA c (.slice p1 L c1)) 34)).heap.size = w.heap.size + 1 := by simp
    rw [s1] at hh
    exact hh
  have x11 := lx.cell (j := 11) rfl
  have y11 := ly.cell (j := 11) rfl
  have HA : Hid (∀ z, Kp (fun _ => False) ((w.alloc (.cells (cmdA c (.slice p1 L c1)) 34)).alloc (.cells (cmdA d (.slice p2 L c2)) 34)) z → Kp (fun _ => False) w z ∧ Lv z w.heap.size (cmdA c (.slice p1 L c1)).toList ∧ Lv z (w.heap.size + 1) (cmdA d (.slice p2 L c2)).toList ∧ Fl z Z1 p1 (xs.map encI) ∧ Fl z Z2 p2 (ys.map encI)) := fun z k => ⟨k0.trans k (fun _ _ e => e), lx.keep k id, ly.keep k id, (f1.keep k0 (fun _ _ => id)).keep k (fun _ _ => id), (f2.keep k0 (fun _ _ => id)).keep k (fun _ _ => id)⟩
  clear f1 f2 lx ly
  go_enter Try.func26, Try.ntmps26
  go_wp2
  clear x11 y11
  obtain ⟨W0, hW0⟩ : ∃ x, x = ((w.alloc (.cells (cmdA c (.slice p1 L c1)) 34)).alloc (.cells (cmdA d (.slice p2 L c2)) 34)) := ⟨_, rfl⟩
  rw [← hW0] at HA k0 ⊢
  clear hW0
  go_loopg [16] L (fun gk i wr => ∃ k : Nat, k ≤ L ∧ gk = L - k ∧ i = .int .i64 k ∧ Hid (Kp (fun _ => False) W0 wr) ∧ Hid (xs.take k = ys.take k))
  case atStart => exact ⟨0, Nat.zero_le _, rfl, rfl, Kp.refl _ _, rfl⟩
  case round =>
    obtain ⟨k, hk, rfl, rfl, HK, HTk⟩ := hrel
    obtain ⟨kw, lx, ly, f1, f2⟩ := HA.out wr HK.out
    by_cases hlt : (k : Int) < (L : Int)
    · have hkl : k < xs.length := by have := HL.out; omega
      have hkm : k < ys.length := by have := HL.out; omega
      have hg : (xs.map encI)[k]? = some (encI xs[k]) := by rw [List.getElem?_map, List.getElem?_eq_getElem hkl]; rfl
      have hg2 : (ys.map encI)[k]? = some (encI ys[k]) := by rw [List.getElem?_map, List.getElem?_eq_getElem hkm]; rfl
      have x11 := lx.cell (j := 11) rfl
      have y11 := ly.cell (j := 11) rfl
      obtain ⟨b1, o1, rfl, _, e1⟩ := f1 k _ hg
      obtain ⟨b2, o2, rfl, _, e2⟩ := f2 k _ hg2
      have HK1 : Hid (wrap64 ((k : Int) + 1) = ((k + 1 : Nat) : Int)) := wrapV' k L hk HL.out.2.2
      obtain ⟨z, hz⟩ : ∃ z, z = xs[k] := ⟨_, rfl⟩
      obtain ⟨y, hy⟩ : ∃ y, y = ys[k] := ⟨_, rfl⟩
      rw [← hz] at e1
      rw [← hy] at e2
      have HT : Hid (xs.take (k + 1) = xs.take k ++ [z] ∧ ys.take (k + 1) = ys.take k ++ [y]) := ⟨by rw [hz, List.take_succ_eq_append_getElem hkl], by rw [hy, List.take_succ_eq_append_getElem hkm]⟩
      clear hg hg2 hz hy lx ly f1 f2
      by_cases hzy : z = y
      · subst hzy
        go_wp2
        go_quiet (fail)
        go_wp2
        go_roundg (L - (k + 1))
        case rel => exact ⟨k + 1, by omega, rfl, by first | rfl | rw [HK1.out], HK.out.drewN _, by rw [HT.out.1, HT.out.2, HTk.out]; rfl⟩
        case measure => omega
      · go_wp2
        go_quiet (fail)
        go_wp2
        go_ret
        exact ⟨rfl, kw.drewN _⟩
    · exfalso
      have h3 := HTk.out
      have h4 := HL.out
      rw [List.take_of_length_le (by omega), List.take_of_length_le (by omega)] at h3
      exact HNe.out h3
end Go.Proofs.Ytjbgpbafgpdciaa
