/- The walk of matrix.bringPivot. -/
import Derived.Test.YtmncocmeafcpfaaDoorMfM8
import Derived.RegionTactic
import Derived.BigRegion
namespace Go.Proofs.YtmncocmeafcpfaaDoor.Mf
open Go.RowKit Go.Deep

theorem inv_none (b : Nat) (w : World) (h : b = 0) (hp : Pows w) : Calls Tryd.prog 136 #[.int .u8 ((b : Nat) : Int)] w fun e w' => e = .returned (.tuple #[.int .u8 0, .int .i64 1]) ∧ ∃ n, w' = w.drewN n := by
  have := inv_gen b w (by omega) hp
  rw [show iq b = 0 from if_pos h, show de b = 1 from if_pos h] at this
  exact this
theorem inv_some (b : Nat) (w : World) (hb : b < 256) (h : b ≠ 0) (hp : Pows w) : Calls Tryd.prog 136 #[.int .u8 ((b : Nat) : Int)] w fun e w' => e = .returned (.tuple #[.int .u8 (Gf.inv b), .int .i64 0]) ∧ ∃ n, w' = w.drewN n := by
  have := inv_gen b w (by omega) hp
  rw [show iq b = Gf.inv b from if_neg h, show de b = 0 from if_neg h] at this
  exact this

/-- the rows' blocks behind the exchange -/
def exch (B : Nat → Nat) (i j : Nat) : Nat → Nat := fun r => if r = i then B j else if r = j then B i else B r

/-- what the exchange of two headers leaves -/
theorem exch_top {w : World} {t n C i j : Nat} {B : Nat → Nat} (h : w.rowIs t 22 n (fun r => .slice (some ⟨B r, 0, none⟩) C C)) :
    ((w.setCell ⟨t, i, none⟩ (.slice (some ⟨B j, 0, none⟩) C C)).setCell ⟨t, j, none⟩ (.slice (some ⟨B i, 0, none⟩) C C)).rowIs t 22 n (fun r => .slice (some ⟨exch B i j r, 0, none⟩) C C) := by
  refine ((h.set i _).set j _).congr (fun r _ => ?_)
  unfold exch
  by_cases e1 : r = j
  · rw [if_pos e1]
    by_cases e2 : r = i
    · rw [if_pos e2, ← e1, ← e2]
    · rw [if_neg e2, if_pos e1]
  · rw [if_neg e1]
    by_cases e2 : r = i
    · rw [if_pos e2, if_pos e2]
    · rw [if_neg e2, if_neg e2, if_neg e1]
theorem exch_inj {B : Nat → Nat} {i j n : Nat} (hi : i < n) (hj : j < n) (h : ∀ a b, a < n → b < n → B a = B b → a = b) (a b : Nat) (ha : a < n) (hb : b < n) (e : exch B i j a = exch B i j b) : a = b := by
  unfold exch at e
  by_cases a1 : a = i <;> by_cases b1 : b = i
  · omega
  · rw [if_pos a1, if_neg b1] at e
    by_cases b2 : b = j
    · rw [if_pos b2] at e; have := h _ _ hj hi e; omega
    · rw [if_neg b2] at e; have := h _ _ hj hb e; omega
  · rw [if_neg a1, if_pos b1] at e
    by_cases a2 : a = j
    · rw [if_pos a2] at e; have := h _ _ hi hj e; omega
    · rw [if_neg a2] at e; have := h _ _ ha hj e; omega
  · rw [if_neg a1, if_neg b1] at e
    by_cases a2 : a = j <;> by_cases b2 : b = j
    · omega
    · rw [if_pos a2, if_neg b2] at e; have := h _ _ hi hb e; omega
    · rw [if_neg a2, if_pos b2] at e; have := h _ _ ha hi e; omega
    · rw [if_neg a2, if_neg b2] at e; exact h _ _ ha hb e
theorem exch_mem (B : Nat → Nat) {i j n r : Nat} (hi : i < n) (hj : j < n) (hr : r < n) : ∃ q, q < n ∧ exch B i j r = B q := by
  unfold exch
  by_cases e1 : r = i
  · rw [if_pos e1]; exact ⟨j, hj, rfl⟩
  · rw [if_neg e1]
    by_cases e2 : r = j
    · rw [if_pos e2]; exact ⟨i, hi, rfl⟩
    · rw [if_neg e2]; exact ⟨r, hr, rfl⟩

set_option maxRecDepth 100000 in
set_option maxHeartbeats 1600000 in
theorem bringPivot_none (t : Nat) (B : Nat → Nat) (n C i : Nat) (W : Nat → Nat → Nat) (w : World) (hM : Mat w t B n C W) (hi : (i : Int) < (n : Int)) (hC : (n : Int) ≤ (C : Int)) (hn : (n : Int) ≤ 255) (hp : Pows w) (hno : NoPiv W n i) :
    Calls Tryd.prog 141 #[.slice (some ⟨t, 0, none⟩) n n, .int .i64 i] w fun e w' => e = .returned (.bool false) ∧ ∃ m, w' = w.drewN m := by
  have HN : Hid (NoPiv W n i) := hno
  clear hno
  go_enter Tryd.func141, Tryd.ntmps141
  go_wp2
  go_loopg [5] (n - i) (fun gk x wr => ∃ k : Nat, i ≤ k ∧ k ≤ n ∧ gk = n - k ∧ x = .int .i64 k ∧ ∃ m, wr = w.drewN m)
  case atStart => exact ⟨i, Nat.le_refl _, by omega, rfl, rfl, 0, rfl⟩
  case round =>
    obtain ⟨k, hk1, hk, rfl, rfl, m, rfl⟩ := hrel
    by_cases hlt : (k : Int) < (n : Int)
    · have e1 := hM.top.cell (i := k) (by omega)
      have e2 := (hM.row k (by omega)).cell (i := i) (by omega)
      simp only [By] at e2
      have HZ : Hid (W k i = 0) := HN.out k hk1 (by omega)
      have hiC : (i : Int) < (C : Int) := by omega
      go_wp2_with (go_at_call 136; refine (inv_none (W k i) _ HZ.out (hp.drewN _)).mono ?_; rintro e w' ⟨rfl, m2, rfl⟩)
      go_roundg (n - (k + 1))
      case rel => exact ⟨k + 1, by omega, by omega, rfl, by go_num, _, rfl⟩
      case measure => omega
    · go_wp2
      go_ret
      exact ⟨rfl, m, rfl⟩

/-- the world behind the exchange of the headers i and k -/
abbrev exchW (w : World) (t C i k : Nat) (B : Nat → Nat) (m : Nat) : World :=
  ((w.drewN m).setCell ⟨t, i, none⟩ (.slice (some ⟨B k, 0, none⟩) C C)).setCell ⟨t, k, none⟩ (.slice (some ⟨B i, 0, none⟩) C C)
theorem exchW_row {w : World} {t C i k : Nat} {B : Nat → Nat} {m b : Nat} {T : TypeId} {N : Nat} {f : Nat → Value} (h : w.rowIs b T N f) (hb : b ≠ t) : (exchW w t C i k B m).rowIs b T N f :=
  (((rowIs_drewN h m).setOther (by exact hb) _).setOther (by exact hb) _)
theorem exchW_pows {w : World} (h : Pows w) (t C i k : Nat) (B : Nat → Nat) (m : Nat) (ht : t ≠ 1) : Pows (exchW w t C i k B m) :=
  ((h.drewN m).setCell _ _ (by exact ht)).setCell _ _ (by exact ht)
theorem brought_end {w w2 : World} {t n C i k m : Nat} {B : Nat → Nat} {W : Nat → Nat → Nat} (hM : Mat w t B n C W) (hi : i < n) (hk : k < n) (hK2 : Kp (fun b => b = B k) (exchW w t C i k B m) w2) (hz2 : w2.heap.size = (exchW w t C i k B m).heap.size)
    (hR2 : w2.rowIs (B k) 5 C (By (timesRow (W k) (Gf.inv (W k i)) C))) :
    Kp (fun b => b = t ∨ ∃ r, r < n ∧ b = B r) w w2 ∧ w2.heap.size = w.heap.size ∧ Mat w2 t (exch B i k) n C (brought W i k) := by
  have hz : w2.heap.size = w.heap.size := by rw [hz2]; simp [exchW]
  refine ⟨Kp.trans (S' := fun b => b = B k) ((((Kp.refl _ w).drewN m).setCell (fun _ => Or.inl rfl) _).setCell (fun _ => Or.inl rfl) _) hK2 (fun b _ e => Or.inr ⟨k, hk, e⟩), hz,
    hK2.row (exch_top (w := w.drewN m) (rowIs_drewN hM.top m)) (fun e => hM.ne k hk e.symm), fun r hr => ?_, exch_inj hi hk hM.inj, fun r hr => ?_, brought_lt hM.byte i k⟩
  · unfold exch
    by_cases e1 : r = i
    · rw [if_pos e1]
      refine hR2.congr (fun c hc => ?_)
      simp only [By, timesRow, brought]
      rw [if_pos hc, if_pos e1]
    · rw [if_neg e1]
      by_cases e2 : r = k
      · rw [if_pos e2]
        refine (hK2.row (exchW_row (hM.row i hi) (hM.ne i hi)) (fun e => e1 (by have := hM.inj i k hi hk e; omega))).congr (fun c _ => ?_)
        simp only [By, brought]
        rw [if_neg e1, if_pos e2]
      · rw [if_neg e2]
        refine (hK2.row (exchW_row (hM.row r hr) (hM.ne r hr)) (fun e => e2 (hM.inj r k hr hk e))).congr (fun c _ => ?_)
        simp only [By, brought]
        rw [if_neg e1, if_neg e2]
  · obtain ⟨q, hq, e⟩ := exch_mem B hi hk hr
    rw [e]; exact hM.ne q hq

set_option maxRecDepth 100000 in
set_option maxHeartbeats 1600000 in
theorem bringPivot_some (t : Nat) (B : Nat → Nat) (n C i j : Nat) (W : Nat → Nat → Nat) (w : World) (hM : Mat w t B n C W) (hi : (i : Int) < (n : Int)) (hC : (n : Int) ≤ (C : Int)) (hcb : (C : Int) ≤ 100000) (hp : Pows w) (hpv : Piv W n i j)
    (ht : t ≠ 1) (hB : ∀ r, r < n → B r ≠ 1) :
    Calls Tryd.prog 141 #[.slice (some ⟨t, 0, none⟩) n n, .int .i64 i] w fun e w' =>
      e = .returned (.bool true) ∧ Kp (fun b => b = t ∨ ∃ r, r < n ∧ b = B r) w w' ∧ w'.heap.size = w.heap.size ∧ Mat w' t (exch B i j) n C (brought W i j) := by
  have HP : Hid (Piv W n i j) := hpv
  obtain ⟨p1, p2⟩ : i ≤ j ∧ j < n := ⟨hpv.1, hpv.2.1⟩
  clear hpv
  go_enter Tryd.func141, Tryd.ntmps141
  go_wp2
  go_loopg [5] (n - i) (fun gk x wr => ∃ k : Nat, i ≤ k ∧ k ≤ j ∧ gk = n - k ∧ x = .int .i64 k ∧ ∃ m, wr = w.drewN m)
  case atStart => exact ⟨i, Nat.le_refl _, p1, rfl, rfl, 0, rfl⟩
  case round =>
    obtain ⟨k, hk1, hk, rfl, rfl, m, rfl⟩ := hrel
    have hkn : (k : Int) < (n : Int) := by omega
    have e1 := hM.top.cell (i := k) (by omega)
    have e2 := (hM.row k (by omega)).cell (i := i) (by omega)
    simp only [By] at e2
    have hiC : (i : Int) < (C : Int) := by omega
    by_cases hlt : k < j
    · have HZ : Hid (W k i = 0) := HP.out.2.2.2 k hk1 hlt
      go_wp2_with (go_at_call 136; refine (inv_none (W k i) _ HZ.out (hp.drewN _)).mono ?_; rintro e w' ⟨rfl, m2, rfl⟩)
      go_roundg (n - (k + 1))
      case rel => exact ⟨k + 1, by omega, by omega, rfl, by go_num, _, rfl⟩
      case measure => omega
    · have hkj : k = j := by omega
      subst hkj
      have HZ : Hid (W k i ≠ 0) := HP.out.2.2.1
      have l1 := hM.byte k i
      have l2 := Gf.inv_lt (W k i) l1
      have e3 := hM.top.cell (i := i) (by omega)
      have e4 := hM.top.frozen i
      have e5 := hM.top.frozen k
      by_cases hik : i = k
      · subst hik
        go_wp2_with (go_at_call 136; refine (inv_some (W i i) _ l1 HZ.out (hp.drewN _)).mono ?_; rintro e w' ⟨rfl, m2, rfl⟩)
        go_region
        go_wp2_with fail
        refine (scale_any (B i) C C (W i) (Gf.inv (W i i)) (exchW w t C i i B _) (hM.byte i) (by omega) (exchW_row (hM.row i (by omega)) (hM.ne i (by omega))) (exchW_pows hp _ _ _ _ _ _ ht) (hB i (by omega)) (by omega)).mono ?_
        rintro e w2 ⟨rfl, hK2, hz2, hR2⟩
        have hend := brought_end hM (by omega) (by omega) hK2 hz2 hR2
        have HE : Hid (_ ∧ _) := hend
        clear hend hK2 hz2 hR2
        go_wp2
        go_ret
        exact ⟨rfl, HE.out⟩
      · have hne : ¬ k = i := fun e => hik e.symm
        go_wp2_with (go_at_call 136; refine (inv_some (W k i) _ l1 HZ.out (hp.drewN _)).mono ?_; rintro e w' ⟨rfl, m2, rfl⟩)
        go_region
        go_wp2_with fail
        refine (scale_any (B k) C C (W k) (Gf.inv (W k i)) (exchW w t C i k B _) (hM.byte k) (by omega) (exchW_row (hM.row k (by omega)) (hM.ne k (by omega))) (exchW_pows hp _ _ _ _ _ _ ht) (hB k (by omega)) (by omega)).mono ?_
        rintro e w2 ⟨rfl, hK2, hz2, hR2⟩
        have hend := brought_end hM (by omega) (by omega) hK2 hz2 hR2
        have HE : Hid (_ ∧ _) := hend
        clear hend hK2 hz2 hR2
        go_wp2
        go_ret
        exact ⟨rfl, HE.out⟩
end Go.Proofs.YtmncocmeafcpfaaDoor.Mf
