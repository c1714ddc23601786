/- The document's chain: are two commands the same (laid by scripts/mkxe.py). -/
import Derived.Test.YtjbgpbafgpdciaaCb
namespace Go.Proofs.Ytjbgpbafgpdciaa
set_option linter.unusedVariables false
set_option linter.unusedSimpArgs false
open Go.RowKit Go.Deep Go.Maps

set_option maxRecDepth 100000 in
set_option maxHeartbeats 3200000 in
theorem xs_f9 (fa0 : Int) (fa1 : Int) (fa2 : ByteArray) (fa3 : Int) (fa4 : Int) (fa5 : Int) (fa6 : Int) (fa7 : Int) (fa8 : Int) (fa9 : Int) (fa10 : Int) (fb9 : Int) (fb10 : Int) (Z1 Z2 : Nat → Prop) (p1 p2 : Option Addr) (L c1 c2 : Nat) (xs ys : List Int) (w : World) (f1 : Fl w Z1 p1 (xs.map encI)) (f2 : Fl w Z2 p2 (ys.map encI)) (HL : Hid (L = xs.length ∧ L = ys.length ∧ L * 8 ≤ 140737488355328)) (hne : ¬ fa9 = fb9) (HE : Hid (xs = ys)) :
    Calls Try.prog 26 #[.agg (cmdA ⟨fa0, fa1, fa2, fa3, fa4, fa5, fa6, fa7, fa8, fa9, fa10⟩ (.slice p1 L c1)), .agg (cmdA ⟨fa0, fa1, fa2, fa3, fa4, fa5, fa6, fa7, fa8, fb9, fb10⟩ (.slice p2 L c2))] w fun e w' => e = .returned (.bool false) ∧ Kp (fun _ => False) w w' := by
  have k0 : Kp (fun _ => False) w ((w.alloc (.cells (cmdA ⟨fa0, fa1, fa2, fa3, fa4, fa5, fa6, fa7, fa8, fa9, fa10⟩ (.slice p1 L c1)) 34)).alloc (.cells (cmdA ⟨fa0, fa1, fa2, fa3, fa4, fa5, fa6, fa7, fa8, fb9, fb10⟩ (.slice p2 L c2)) 34)) := ((Kp.refl _ _).alloc _).alloc _
  have lx : Lv ((w.alloc (.cells (cmdA ⟨fa0, fa1, fa2, fa3, fa4, fa5, fa6, fa7, fa8, fa9, fa10⟩ (.slice p1 L c1)) 34)).alloc (.cells (cmdA ⟨fa0, fa1, fa2, fa3, fa4, fa5, fa6, fa7, fa8, fb9, fb10⟩ (.slice p2 L c2)) 34)) w.heap.size (cmdA ⟨fa0, fa1, fa2, fa3, fa4, fa5, fa6, fa7, fa8, fa9, fa10⟩ (.slice p1 L c1)).toList := (Lv.new w _ _).keep ((Kp.refl (fun _ => False) _).alloc _) id
  have ly : Lv ((w.alloc (.cells (cmdA ⟨fa0, fa1, fa2, fa3, fa4, fa5, fa6, fa7, fa8, fa9, fa10⟩ (.slice p1 L c1)) 34)).alloc (.cells (cmdA ⟨fa0, fa1, fa2, fa3, fa4, fa5, fa6, fa7, fa8, fb9, fb10⟩ (.slice p2 L c2)) 34)) (w.heap.size + 1) (cmdA ⟨fa0, fa1, fa2, fa3, fa4, fa5, fa6, fa7, fa8, fb9, fb10⟩ (.slice p2 L c2)).toList := by
    have hh := Lv.new (w.alloc (.cells (cmdA ⟨fa0, fa1, fa2, fa3, fa4, fa5, fa6, fa7, fa8, fa9, fa10⟩ (.slice p1 L c1)) 34)) (cmdA ⟨fa0, fa1, fa2, fa3, fa4, fa5, fa6, fa7, fa8, fb9, fb10⟩ (.slice p2 L c2)) 34
    have s1 : (w.alloc (.cells (cmdA ⟨fa0, fa1, fa2, fa3, fa4, fa5, fa6, fa7, fa8, fa9, fa10⟩ (.slice p1 L c1)) 34)).heap.size = w.heap.size + 1 := by simp
    rw [s1] at hh
    exact hh
  have x11 := lx.cell (j := 11) rfl
  have y11 := ly.cell (j := 11) rfl
  have HA : Hid (∀ z, Kp (fun _ => False) ((w.alloc (.cells (cmdA ⟨fa0, fa1, fa2, fa3, fa4, fa5, fa6, fa7, fa8, fa9, fa10⟩ (.slice p1 L c1)) 34)).alloc (.cells (cmdA ⟨fa0, fa1, fa2, fa3, fa4, fa5, fa6, fa7, fa8, fb9, fb10⟩ (.slice p2 L c2)) 34)) z → Kp (fun _ => False) w z ∧ Lv z w.heap.size (cmdA ⟨fa0, fa1, fa2, fa3, fa4, fa5, fa6, fa7, fa8, fa9, fa10⟩ (.slice p1 L c1)).toList ∧ Lv z (w.heap.size + 1) (cmdA ⟨fa0, fa1, fa2, fa3, fa4, fa5, fa6, fa7, fa8, fb9, fb10⟩ (.slice p2 L c2)).toList ∧ Fl z Z1 p1 (xs.map encI) ∧ Fl z Z2 p2 (ys.map encI)) := fun z k => ⟨k0.trans k (fun _ _ e => e), lx.keep k id, ly.keep k id, (f1.keep k0 (fun _ _ => id)).keep k (fun _ _ => id), (f2.keep k0 (fun _ _ => id)).keep k (fun _ _ => id)⟩
  clear f1 f2 lx ly
  go_enter Try.func26, Try.ntmps26
  go_wp2
  clear x11 y11
  obtain ⟨W0, hW0⟩ : ∃ x, x = ((w.alloc (.cells (cmdA ⟨fa0, fa1, fa2, fa3, fa4, fa5, fa6, fa7, fa8, fa9, fa10⟩ (.slice p1 L c1)) 34)).alloc (.cells (cmdA ⟨fa0, fa1, fa2, fa3, fa4, fa5, fa6, fa7, fa8, fb9, fb10⟩ (.slice p2 L c2)) 34)) := ⟨_, rfl⟩
  rw [← hW0] at HA k0 ⊢
  clear hW0
  go_loopg [16] L (fun gk i wr => ∃ k : Nat, k ≤ L ∧ gk = L - k ∧ i = .int .i64 k ∧ Hid (Kp (fun _ => False) W0 wr) ∧ Hid (xs.take k = ys.take k))
  case atStart => exact ⟨0, Nat.zero_le _, rfl, rfl, Kp.refl _ _, rfl⟩
  case round =>
    obtain ⟨k, hk, rfl, rfl, HK, HTk⟩ := hrel
    obtain ⟨kw, lx, ly, f1, f2⟩ := HA.out wr HK.out
    by_cases hlt : (k : Int) < (L : Int)
    · have hkl : k < xs.length := by have := HL.out; omega
      have hkm : k < ys.length := by have := HL.out; omega
      have hg : (xs.map encI)[k]? = some (encI xs[k]) := by rw [List.getElem?_map, List.getElem?_eq_getElem hkl]; rfl
      have hg2 : (ys.map encI)[k]? = some (encI ys[k]) := by rw [List.getElem?_map, List.getElem?_eq_getElem hkm]; rfl
      have x11 := lx.cell (j := 11) rfl
      have y11 := ly.cell (j := 11) rfl
      obtain ⟨b1, o1, rfl, _, e1⟩ := f1 k _ hg
      obtain ⟨b2, o2, rfl, _, e2⟩ := f2 k _ hg2
      have HK1 : Hid (wrap64 ((k : Int) + 1) = ((k + 1 : Nat) : Int)) := wrapV' k L hk HL.out.2.2
      obtain ⟨z, hz⟩ : ∃ z, z = xs[k] := ⟨_, rfl⟩
      obtain ⟨y, hy⟩ : ∃ y, y = ys[k] := ⟨_, rfl⟩
      rw [← hz] at e1
      rw [← hy] at e2
      have HT : Hid (xs.take (k + 1) = xs.take k ++ [z] ∧ ys.take (k + 1) = ys.take k ++ [y]) := ⟨by rw [hz, List.take_succ_eq_append_getElem hkl], by rw [hy, List.take_succ_eq_append_getElem hkm]⟩
      have hzy : z = y := by rw [hz, hy]; simp only [HE.out]
      clear hg hg2 hz hy lx ly f1 f2
      subst hzy
      go_wp2
      go_quiet (fail)
      go_wp2
      go_roundg (L - (k + 1))
      case rel => exact ⟨k + 1, by omega, rfl, by first | rfl | rw [HK1.out], HK.out.drewN _, by rw [HT.out.1, HT.out.2, HTk.out]; rfl⟩
      case measure => omega
    · have HKW : Hid (Kp (fun _ => False) w wr) := kw
      have x0 := lx.cell (j := 0) rfl
      have y0 := ly.cell (j := 0) rfl
      have x1 := lx.cell (j := 1) rfl
      have y1 := ly.cell (j := 1) rfl
      have x2 := lx.cell (j := 2) rfl
      have y2 := ly.cell (j := 2) rfl
      have x3 := lx.cell (j := 3) rfl
      have y3 := ly.cell (j := 3) rfl
      have x4 := lx.cell (j := 4) rfl
      have y4 := ly.cell (j := 4) rfl
      have x5 := lx.cell (j := 5) rfl
      have y5 := ly.cell (j := 5) rfl
      have x6 := lx.cell (j := 6) rfl
      have y6 := ly.cell (j := 6) rfl
      have x7 := lx.cell (j := 7) rfl
      have y7 := ly.cell (j := 7) rfl
      have x8 := lx.cell (j := 8) rfl
      have y8 := ly.cell (j := 8) rfl
      have x9 := lx.cell (j := 9) rfl
      have y9 := ly.cell (j := 9) rfl
      have x10 := lx.cell (j := 10) rfl
      have y10 := ly.cell (j := 10) rfl
      clear lx ly f1 f2 HA kw HTk HK
      go_wp2
      go_ret
      exact ⟨rfl, HKW.out⟩

set_option maxRecDepth 100000 in
set_option maxHeartbeats 3200000 in
theorem xs_f10 (fa0 : Int) (fa1 : Int) (fa2 : ByteArray) (fa3 : Int) (fa4 : Int) (fa5 : Int) (fa6 : Int) (fa7 : Int) (fa8 : Int) (fa9 : Int) (fa10 : Int) (fb10 : Int) (Z1 Z2 : Nat → Prop) (p1 p2 : Option Addr) (L c1 c2 : Nat) (xs ys : List Int) (w : World) (f1 : Fl w Z1 p1 (xs.map encI)) (f2 : Fl w Z2 p2 (ys.map encI)) (HL : Hid (L = xs.length ∧ L = ys.length ∧ L * 8 ≤ 140737488355328)) (hne : ¬ fa10 = fb10) (HE : Hid (xs = ys)) :
    Calls Try.prog 26 #[.agg (cmdA ⟨fa0, fa1, fa2, fa3, fa4, fa5, fa6, fa7, fa8, fa9, fa10⟩ (.slice p1 L c1)), .agg (cmdA ⟨fa0, fa1, fa2, fa3, fa4, fa5, fa6, fa7, fa8, fa9, fb10⟩ (.slice p2 L c2))] w fun e w' => e = .returned (.bool false) ∧ Kp (fun _ => False) w w' := by
  have k0 : Kp (fun _ => False) w ((w.alloc (.cells (cmdA ⟨fa0, fa1, fa2, fa3, fa4, fa5, fa6, fa7, fa8, fa9, fa10⟩ (.slice p1 L c1)) 34)).alloc (.cells (cmdA ⟨fa0, fa1, fa2, fa3, fa4, fa5, fa6, fa7, fa8, fa9, fb10⟩ (.slice p2 L c2)) 34)) := ((Kp.refl _ _).alloc _).alloc _
  have lx : Lv ((w.alloc (.cells (cmdA ⟨fa0, fa1, fa2, fa3, fa4, fa5, fa6, fa7, fa8, fa9, fa10⟩ (.slice p1 L c1)) 34)).alloc (.cells (cmdA ⟨fa0, fa1, fa2, fa3, fa4, fa5, fa6, fa7, fa8, fa9, fb10⟩ (.slice p2 L c2)) 34)) w.heap.size (cmdA ⟨fa0, fa1, fa2, fa3, fa4, fa5, fa6, fa7, fa8, fa9, fa10⟩ (.slice p1 L c1)).toList := (Lv.new w _ _).keep ((Kp.refl (fun _ => False) _).alloc _) id
  have ly : Lv ((w.alloc (.cells (cmdA ⟨fa0, fa1, fa2, fa3, fa4, fa5, fa6, fa7, fa8, fa9, fa10⟩ (.slice p1 L c1)) 34)).alloc (.cells (cmdA ⟨fa0, fa1, fa2, fa3, fa4, fa5, fa6, fa7, fa8, fa9, fb10⟩ (.slice p2 L c2)) 34)) (w.heap.size + 1) (cmdA ⟨fa0, fa1, fa2, fa3, fa4, fa5, fa6, fa7, fa8, fa9, fb10⟩ (.slice p2 L c2)).toList := by
    have hh := Lv.new (w.alloc (.cells (cmdA ⟨fa0, fa1, fa2, fa3, fa4, fa5, fa6, fa7, fa8, fa9, fa10⟩ (.slice p1 L c1)) 34)) (cmdA ⟨fa0, fa1, fa2, fa3, fa4, fa5, fa6, fa7, fa8, fa9, fb10⟩ (.slice p2 L c2)) 34
    have s1 : (w.alloc (.cells (cmdA ⟨fa0, fa1, fa2, fa3, fa4, fa5, fa6, fa7, fa8, fa9, fa10⟩ (.slice p1 L c1)) 34)).heap.size = w.heap.size + 1 := by simp
    rw [s1] at hh
    exact hh
  have x11 := lx.cell (j := 11) rfl
  have y11 := ly.cell (j := 11) rfl
  have HA : Hid (∀ z, Kp (fun _ => False) ((w.alloc (.cells (cmdA ⟨fa0, fa1, fa2, fa3, fa4, fa5, fa6, fa7, fa8, fa9, fa10⟩ (.slice p1 L c1)) 34)).alloc (.cells (cmdA ⟨fa0, fa1, fa2, fa3, fa4, fa5, fa6, fa7, fa8, fa9, fb10⟩ (.slice p2 L c2)) 34)) z → Kp (fun _ => False) w z ∧ Lv z w.heap.size (cmdA ⟨fa0, fa1, fa2, fa3, fa4, fa5, fa6, fa7, fa8, fa9, fa10⟩ (.slice p1 L c1)).toList ∧ Lv z (w.heap.size + 1) (cmdA ⟨fa0, fa1, fa2, fa3, fa4, fa5, fa6, fa7, fa8, fa9, fb10⟩ (.slice p2 L c2)).toList ∧ Fl z Z1 p1 (xs.map encI) ∧ Fl z Z2 p2 (ys.map encI)) := fun z k => ⟨k0.trans k (fun _ _ e => e), lx.keep k id, ly.keep k id, (f1.keep k0 (fun _ _ => id)).keep k (fun _ _ => id), (f2.keep k0 (fun _ _ => id)).keep k (fun _ _ => id)⟩
  clear f1 f2 lx ly
  go_enter Try.func26, Try.ntmps26
  go_wp2
  clear x11 y11
  obtain ⟨W0, hW0⟩ : ∃ x, x = ((w.alloc (.cells (cmdA ⟨fa0, fa1, fa2, fa3, fa4, fa5, fa6, fa7, fa8, fa9, fa10⟩ (.slice p1 L c1)) 34)).alloc (.cells (cmdA ⟨fa0, fa1, fa2, fa3, fa4, fa5, fa6, fa7, fa8, fa9, fb10⟩ (.slice p2 L c2)) 34)) := ⟨_, rfl⟩
  rw [← hW0] at HA k0 ⊢
  clear hW0
  go_loopg [16] L (fun gk i wr => ∃ k : Nat, k ≤ L ∧ gk = L - k ∧ i = .int .i64 k ∧ Hid (Kp (fun _ => False) W0 wr) ∧ Hid (xs.take k = ys.take k))
  case atStart => exact ⟨0, Nat.zero_le _, rfl, rfl, Kp.refl _ _, rfl⟩
  case round =>
    obtain ⟨k, hk, rfl, rfl, HK, HTk⟩ := hrel
    obtain ⟨kw, lx, ly, f1, f2⟩ := HA.out wr HK.out
    by_cases hlt : (k : Int) < (L : Int)
    · have hkl : k < xs.length := by have := HL.out; omega
      have hkm : k < ys.length := by have := HL.out; omega
      have hg : (xs.map encI)[k]? = some (encI xs[k]) := by rw [List.getElem?_map, List.getElem?_eq_getElem hkl]; rfl
      have hg2 : (ys.map encI)[k]? = some (encI ys[k]) := by rw [List.getElem?_map, List.getElem?_eq_getElem hkm]; rfl
      have x11 := lx.cell (j := 11) rfl
      have y11 := ly.cell (j := 11) rfl
      obtain ⟨b1, o1, rfl, _, e1⟩ := f1 k _ hg
      obtain ⟨b2, o2, rfl, _, e2⟩ := f2 k _ hg2
      have HK1 : Hid (wrap64 ((k : Int) + 1) = ((k + 1 : Nat) : Int)) := wrapV' k L hk HL.out.2.2
      obtain ⟨z, hz⟩ : ∃ z, z = xs[k] := ⟨_, rfl⟩
      obtain ⟨y, hy⟩ : ∃ y, y = ys[k] := ⟨_, rfl⟩
      rw [← hz] at e1
      rw [← hy] at e2
      have HT : Hid (xs.take (k + 1) = xs.take k ++ [z] ∧ ys.take (k + 1) = ys.take k ++ [y]) := ⟨by rw [hz, List.take_succ_eq_append_getElem hkl], by rw [hy, List.take_succ_eq_append_getElem hkm]⟩
      have hzy : z = y := by rw [hz, hy]; simp only [HE.out]
      clear hg hg2 hz hy lx ly f1 f2
      subst hzy
      go_wp2
      go_quiet (fail)
      go_wp2
      go_roundg (L - (k + 1))
      case rel => exact ⟨k + 1, by omega, rfl, by first | rfl | rw [HK1.out], HK.out.drewN _, by rw [HT.out.1, HT.out.2, HTk.out]; rfl⟩
      case measure => omega
    · have HKW : Hid (Kp (fun _ => False) w wr) := kw
      have x0 := lx.cell (j := 0) rfl
      have y0 := ly.cell (j := 0) rfl
      have x1 := lx.cell (j := 1) rfl
      have y1 := ly.cell (j := 1) rfl
      have x2 := lx.cell (j := 2) rfl
      have y2 := ly.cell (j := 2) rfl
      have x3 := lx.cell (j := 3) rfl
      have y3 := ly.cell (j := 3) rfl
      have x4 := lx.cell (j := 4) rfl
      have y4 := ly.cell (j := 4) rfl
      have x5 := lx.cell (j := 5) rfl
      have y5 := ly.cell (j := 5) rfl
      have x6 := lx.cell (j := 6) rfl
      have y6 := ly.cell (j := 6) rfl
      have x7 := lx.cell (j := 7) rfl
      have y7 := ly.cell (j := 7) rfl
      have x8 := lx.cell (j := 8) rfl
      have y8 := ly.cell (j := 8) rfl
      have x9 := lx.cell (j := 9) rfl
      have y9 := ly.cell (j := 9) rfl
      have x10 := lx.cell (j := 10) rfl
      have y10 := ly.cell (j := 10) rfl
      clear lx ly f1 f2 HA kw HTk HK
      go_wp2
      go_ret
      exact ⟨rfl, HKW.out⟩

end Go.Proofs.Ytjbgpbafgpdciaa
