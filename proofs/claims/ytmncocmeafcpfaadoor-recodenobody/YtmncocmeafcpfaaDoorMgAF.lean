/- Texts of this proof, joined: MfM9, MfM12, MfR3, MfM10. -/
import Derived.Test.YtmncocmeafcpfaaDoorMgAE
import Derived.RegionTactic
import Derived.BigRegion
import Derived.Test.YtmncocmeafcpfaaDoorMgAB
import Derived.Test.YtmncocmeafcpfaaDoorMgAD
/- The walk of matrix.bringPivot. -/
namespace Go.Proofs.YtmncocmeafcpfaaDoor.Mf
open Go.RowKit Go.Deep

theorem inv_none (b : Nat) (w : World) (h : b = 0) (hp : Pows w) : Calls Tryd.prog 136 #[.int .u8 ((b : Nat) : Int)] w fun e w' => e = .returned (.tuple #[.int .u8 0, .int .i64 1]) ∧ ∃ n, w' = w.drewN n := by
  have := inv_gen b w (by omega) hp
  rw [show iq b = 0 from if_pos h, show de b = 1 from if_pos h] at this
  exact this
theorem inv_some (b : Nat) (w : World) (hb : b < 256) (h : b ≠ 0) (hp : Pows w) : Calls Tryd.prog 136 #[.int .u8 ((b : Nat) : Int)] w fun e w' => e = .returned (.tuple #[.int .u8 (Gf.inv b), .int .i64 0]) ∧ ∃ n, w' = w.drewN n := by
  have := inv_gen b w (by omega) hp
  rw [show iq b = Gf.inv b from if_neg h, show de b = 0 from if_neg h] at this
  exact this

/-- the rows' blocks behind the exchange -/
def exch (B : Nat → Nat) (i j : Nat) : Nat → Nat := fun r => if r = i then B j else if r = j then B i else B r

/-- what the exchange of two headers leaves -/
theorem exch_top {w : World} {t n C i j : Nat} {B : Nat → Nat} (h : w.rowIs t 22 n (fun r => .slice (some ⟨B r, 0, none⟩) C C)) :
    ((w.setCell ⟨t, i, none⟩ (.slice (some ⟨B j, 0, none⟩) C C)).setCell ⟨t, j, none⟩ (.slice (some ⟨B i, 0, none⟩) C C)).rowIs t 22 n (fun r => .slice (some ⟨exch B i j r, 0, none⟩) C C) := by
  refine ((h.set i _).set j _).congr (fun r _ => ?_)
  unfold exch
  by_cases e1 : r = j
  · rw [if_pos e1]
    by_cases e2 : r = i
    · rw [if_pos e2, ← e1, ← e2]
    · rw [if_neg e2, if_pos e1]
  · rw [if_neg e1]
    by_cases e2 : r = i
    · rw [if_pos e2, if_pos e2]
    · rw [if_neg e2, if_neg e2, if_neg e1]
theorem exch_inj {B : Nat → Nat} {i j n : Nat} (hi : i < n) (hj : j < n) (h : ∀ a b, a < n → b < n → B a = B b → a = b) (a b : Nat) (ha : a < n) (hb : b < n) (e : exch B i j a = exch B i j b) : a = b := by
  unfold exch at e
  by_cases a1 : a = i <;> by_cases b1 : b = i
  · omega
  · rw [if_pos a1, if_neg b1] at e
    by_cases b2 : b = j
    · rw [if_pos b2] at e; have := h _ _ hj hi e; omega
    · rw [if_neg b2] at e; have := h _ _ hj hb e; omega
  · rw [if_neg a1, if_pos b1] at e
    by_cases a2 : a = j
    · rw [if_pos a2] at e; have := h _ _ hi hj e; omega
    · rw [if_neg a2] at e; have := h _ _ ha hj e; omega
  · rw [if_neg a1, if_neg b1] at e
    by_cases a2 : a = j <;> by_cases b2 : b = j
    · omega
    · rw [if_pos a2, if_neg b2] at e; have := h _ _ hi hb e; omega
    · rw [if_neg a2, if_pos b2] at e; have := h _ _ ha hi e; omega
    · rw [if_neg a2, if_neg b2] at e; exact h _ _ ha hb e
theorem exch_mem (B : Nat → Nat) {i j n r : Nat} (hi : i < n) (hj : j < n) (hr : r < n) : ∃ q, q < n ∧ exch B i j r = B q := by
  unfold exch
  by_cases e1 : r = i
  · rw [if_pos e1]; exact ⟨j, hj, rfl⟩
  · rw [if_neg e1]
    by_cases e2 : r = j
    · rw [if_pos e2]; exact ⟨i, hi, rfl⟩
    · rw [if_neg e2]; exact ⟨r, hr, rfl⟩

set_option maxRecDepth 100000 in
set_option maxHeartbeats 1600000 in
theorem bringPivot_none (t : Nat) (B : Nat → Nat) (n C i : Nat) (W : Nat → Nat → Nat) (w : World) (hM : Mat w t B n C W) (hi : (i : Int) < (n : Int)) (hC : (n : Int) ≤ (C : Int)) (hn : (n : Int) ≤ 255) (hp : Pows w) (hno : NoPiv W n i) :
    Calls Tryd.prog 141 #[.slice (some ⟨t, 0, none⟩) n n, .int .i64 i] w fun e w' => e = .returned (.bool false) ∧ ∃ m, w' = w.drewN m := by
  have HN : Hid (NoPiv W n i) := hno
  clear hno
  go_enter Tryd.func141, Tryd.ntmps141
  go_wp2
  go_loopg [5] (n - i) (fun gk x wr => ∃ k : Nat, i ≤ k ∧ k ≤ n ∧ gk = n - k ∧ x = .int .i64 k ∧ ∃ m, wr = w.drewN m)
  case atStart => exact ⟨i, Nat.le_refl _, by omega, rfl, rfl, 0, rfl⟩
  case round =>
    obtain ⟨k, hk1, hk, rfl, rfl, m, rfl⟩ := hrel
    by_cases hlt : (k : Int) < (n : Int)
    · have e1 := hM.top.cell (i := k) (by omega)
      have e2 := (hM.row k (by omega)).cell (i := i) (by omega)
      simp only [By] at e2
      have HZ : Hid (W k i = 0) := HN.out k hk1 (by omega)
      have hiC : (i : Int) < (C : Int) := by omega
      go_wp2_with (go_at_call 136; refine (inv_none (W k i) _ HZ.out (hp.drewN _)).mono ?_; rintro e w' ⟨rfl, m2, rfl⟩)
      go_roundg (n - (k + 1))
      case rel => exact ⟨k + 1, by omega, by omega, rfl, by go_num, _, rfl⟩
      case measure => omega
    · go_wp2
      go_ret
      exact ⟨rfl, m, rfl⟩

/-- the world behind the exchange of the headers i and k -/
abbrev exchW (w : World) (t C i k : Nat) (B : Nat → Nat) (m : Nat) : World :=
  ((w.drewN m).setCell ⟨t, i, none⟩ (.slice (some ⟨B k, 0, none⟩) C C)).setCell ⟨t, k, none⟩ (.slice (some ⟨B i, 0, none⟩) C C)
theorem exchW_row {w : World} {t C i k : Nat} {B : Nat → Nat} {m b : Nat} {T : TypeId} {N : Nat} {f : Nat → Value} (h : w.rowIs b T N f) (hb : b ≠ t) : (exchW w t C i k B m).rowIs b T N f :=
  (((rowIs_drewN h m).setOther (by exact hb) _).setOther (by exact hb) _)
theorem exchW_pows {w : World} (h : Pows w) (t C i k : Nat) (B : Nat → Nat) (m : Nat) (ht : t ≠ 1) : Pows (exchW w t C i k B m) :=
  ((h.drewN m).setCell _ _ (by exact ht)).setCell _ _ (by exact ht)
theorem brought_end {w w2 : World} {t n C i k m : Nat} {B : Nat → Nat} {W : Nat → Nat → Nat} (hM : Mat w t B n C W) (hi : i < n) (hk : k < n) (hK2 : Kp (fun b => b = B k) (exchW w t C i k B m) w2) (hz2 : w2.heap.size = (exchW w t C i k B m).heap.size)
    (hR2 : w2.rowIs (B k) 5 C (By (timesRow (W k) (Gf.inv (W k i)) C))) :
    Kp (fun b => b = t ∨ ∃ r, r < n ∧ b = B r) w w2 ∧ w2.heap.size = w.heap.size ∧ Mat w2 t (exch B i k) n C (brought W i k) := by
  have hz : w2.heap.size = w.heap.size := by rw [hz2]; simp [exchW]
  refine ⟨Kp.trans (S' := fun b => b = B k) ((((Kp.refl _ w).drewN m).setCell (fun _ => Or.inl rfl) _).setCell (fun _ => Or.inl rfl) _) hK2 (fun b _ e => Or.inr ⟨k, hk, e⟩), hz,
    hK2.row (exch_top (w := w.drewN m) (rowIs_drewN hM.top m)) (fun e => hM.ne k hk e.symm), fun r hr => ?_, exch_inj hi hk hM.inj, fun r hr => ?_, brought_lt hM.byte i k⟩
  · unfold exch
    by_cases e1 : r = i
    · rw [if_pos e1]
      refine hR2.congr (fun c hc => ?_)
      simp only [By, timesRow, brought]
      rw [if_pos hc, if_pos e1]
    · rw [if_neg e1]
      by_cases e2 : r = k
      · rw [if_pos e2]
        refine (hK2.row (exchW_row (hM.row i hi) (hM.ne i hi)) (fun e => e1 (by have := hM.inj i k hi hk e; omega))).congr (fun c _ => ?_)
        simp only [By, brought]
        rw [if_neg e1, if_pos e2]
      · rw [if_neg e2]
        refine (hK2.row (exchW_row (hM.row r hr) (hM.ne r hr)) (fun e => e2 (hM.inj r k hr hk e))).congr (fun c _ => ?_)
        simp only [By, brought]
        rw [if_neg e1, if_neg e2]
  · obtain ⟨q, hq, e⟩ := exch_mem B hi hk hr
    rw [e]; exact hM.ne q hq

set_option maxRecDepth 100000 in
set_option maxHeartbeats 1600000 in
theorem bringPivot_some (t : Nat) (B : Nat → Nat) (n C i j : Nat) (W : Nat → Nat → Nat) (w : World) (hM : Mat w t B n C W) (hi : (i : Int) < (n : Int)) (hC : (n : Int) ≤ (C : Int)) (hcb : (C : Int) ≤ 100000) (hp : Pows w) (hpv : Piv W n i j)
    (ht : t ≠ 1) (hB : ∀ r, r < n → B r ≠ 1) :
    Calls Tryd.prog 141 #[.slice (some ⟨t, 0, none⟩) n n, .int .i64 i] w fun e w' =>
      e = .returned (.bool true) ∧ Kp (fun b => b = t ∨ ∃ r, r < n ∧ b = B r) w w' ∧ w'.heap.size = w.heap.size ∧ Mat w' t (exch B i j) n C (brought W i j) := by
  have HP : Hid (Piv W n i j) := hpv
  obtain ⟨p1, p2⟩ : i ≤ j ∧ j < n := ⟨hpv.1, hpv.2.1⟩
  clear hpv
  go_enter Tryd.func141, Tryd.ntmps141
  go_wp2
  go_loopg [5] (n - i) (fun gk x wr => ∃ k : Nat, i ≤ k ∧ k ≤ j ∧ gk = n - k ∧ x = .int .i64 k ∧ ∃ m, wr = w.drewN m)
  case atStart => exact ⟨i, Nat.le_refl _, p1, rfl, rfl, 0, rfl⟩
  case round =>
    obtain ⟨k, hk1, hk, rfl, rfl, m, rfl⟩ := hrel
    have hkn : (k : Int) < (n : Int) := by omega
    have e1 := hM.top.cell (i := k) (by omega)
    have e2 := (hM.row k (by omega)).cell (i := i) (by omega)
    simp only [By] at e2
    have hiC : (i : Int) < (C : Int) := by omega
    by_cases hlt : k < j
    · have HZ : Hid (W k i = 0) := HP.out.2.2.2 k hk1 hlt
      go_wp2_with (go_at_call 136; refine (inv_none (W k i) _ HZ.out (hp.drewN _)).mono ?_; rintro e w' ⟨rfl, m2, rfl⟩)
      go_roundg (n - (k + 1))
      case rel => exact ⟨k + 1, by omega, by omega, rfl, by go_num, _, rfl⟩
      case measure => omega
    · have hkj : k = j := by omega
      subst hkj
      have HZ : Hid (W k i ≠ 0) := HP.out.2.2.1
      have l1 := hM.byte k i
      have l2 := Gf.inv_lt (W k i) l1
      have e3 := hM.top.cell (i := i) (by omega)
      have e4 := hM.top.frozen i
      have e5 := hM.top.frozen k
      by_cases hik : i = k
      · subst hik
        go_wp2_with (go_at_call 136; refine (inv_some (W i i) _ l1 HZ.out (hp.drewN _)).mono ?_; rintro e w' ⟨rfl, m2, rfl⟩)
        go_region
        go_wp2_with fail
        refine (scale_any (B i) C C (W i) (Gf.inv (W i i)) (exchW w t C i i B _) (hM.byte i) (by omega) (exchW_row (hM.row i (by omega)) (hM.ne i (by omega))) (exchW_pows hp _ _ _ _ _ _ ht) (hB i (by omega)) (by omega)).mono ?_
        rintro e w2 ⟨rfl, hK2, hz2, hR2⟩
        have hend := brought_end hM (by omega) (by omega) hK2 hz2 hR2
        have HE : Hid (_ ∧ _) := hend
        clear hend hK2 hz2 hR2
        go_wp2
        go_ret
        exact ⟨rfl, HE.out⟩
      · have hne : ¬ k = i := fun e => hik e.symm
        go_wp2_with (go_at_call 136; refine (inv_some (W k i) _ l1 HZ.out (hp.drewN _)).mono ?_; rintro e w' ⟨rfl, m2, rfl⟩)
        go_region
        go_wp2_with fail
        refine (scale_any (B k) C C (W k) (Gf.inv (W k i)) (exchW w t C i k B _) (hM.byte k) (by omega) (exchW_row (hM.row k (by omega)) (hM.ne k (by omega))) (exchW_pows hp _ _ _ _ _ _ ht) (hB k (by omega)) (by omega)).mono ?_
        rintro e w2 ⟨rfl, hK2, hz2, hR2⟩
        have hend := brought_end hM (by omega) (by omega) hK2 hz2 hR2
        have HE : Hid (_ ∧ _) := hend
        clear hend hK2 hz2 hR2
        go_wp2
        go_ret
        exact ⟨rfl, HE.out⟩
end Go.Proofs.YtmncocmeafcpfaaDoor.Mf

/- The walks of matrix.isCode and matrix.Generator. -/
namespace Go.Proofs.YtmncocmeafcpfaaDoor.Mf
open Go.RowKit Go.Deep

set_option maxRecDepth 100000 in
set_option maxHeartbeats 800000 in
theorem isCode_yes (K M : Int) (w : World) (h1 : 1 ≤ K) (h2 : 0 ≤ M) (h3 : M ≤ 255 - K) :
    Calls Tryd.prog 134 #[.agg #[.int .i64 K, .int .i64 M]] w fun e w' => e = .returned (.bool true) ∧ Kp (fun _ => False) w w' := by
  have d1 : decide (1 ≤ K) = true := by simp; omega
  have d2 : decide (0 ≤ M) = true := by simp; omega
  have d3 : decide (M ≤ 255 - K) = true := by simp; omega
  go_enter Tryd.func134, Tryd.ntmps134
  go_wp2
  go_ret
  exact ⟨rfl, (Kp.refl _ _).alloc _⟩

/-- the rows of the code's matrix, when those up to r are filled, and c of the next -/
def genAt (K r c : Nat) : Nat → Nat → Nat := fun i j => if i < K then ones K i j else if i < r then Gf.inv (i ^^^ j) else if i = r ∧ j < c then Gf.inv (i ^^^ j) else 0
theorem genAt_lt (K r c i j : Nat) : genAt K r c i j < 256 := by
  unfold genAt; split
  · exact ones_lt _ _ _
  · split
    · exact Gf.mul_lt _ _
    · split
      · exact Gf.mul_lt _ _
      · omega

theorem genAt_start (K i j : Nat) : ones K i j = genAt K K 0 i j := by
  unfold genAt
  by_cases h : i < K
  · rw [if_pos h]
  · rw [if_neg h, if_neg h, if_neg (by omega)]
    unfold ones
    rw [if_neg (by omega)]
theorem genAt_next (K r i j : Nat) (hj : j < K) : genAt K r K i j = genAt K (r + 1) 0 i j := by
  unfold genAt
  by_cases h : i < K
  · rw [if_pos h, if_pos h]
  · rw [if_neg h, if_neg h]
    by_cases h2 : i < r
    · rw [if_pos h2, if_pos (by omega)]
    · rw [if_neg h2]
      by_cases e : i = r
      · rw [if_pos ⟨e, hj⟩, if_pos (by omega)]
      · rw [if_neg (by omega), if_neg (by omega), if_neg (by omega)]
theorem genAt_here (K r c j : Nat) (h : K ≤ r) : genAt K r (c + 1) r j = if j = c then Gf.inv (r ^^^ c) else genAt K r c r j := by
  have h1 : ¬ r < K := by omega
  have h2 : ¬ r < r := by omega
  unfold genAt
  simp only [if_neg h1, if_neg h2, true_and]
  by_cases e : j = c
  · subst e; rw [if_pos (by omega), if_pos rfl]
  · rw [if_neg e]
    by_cases h2 : j < c
    · rw [if_pos (by omega), if_pos h2]
    · rw [if_neg (by omega), if_neg h2]
theorem genAt_other (K r c i j : Nat) (h : i ≠ r) : genAt K r c i j = genAt K r (c + 1) i j := by
  unfold genAt
  rw [if_neg (c := i = r ∧ j < c) (by omega), if_neg (c := i = r ∧ j < c + 1) (by omega)]
theorem genAt_end (K M i j : Nat) (hi : i < K + M) : genAt K (K + M) 0 i j = gen K i j := by
  unfold genAt gen
  by_cases h : i < K
  · rw [if_pos h, if_pos h]
  · rw [if_neg h, if_neg h, if_pos hi]

set_option maxRecDepth 100000 in
set_option maxHeartbeats 3200000 in
theorem generator_yes (K M : Nat) (w : World) (h1 : 1 ≤ (K : Int)) (h3 : (M : Int) ≤ 255 - (K : Int)) (hp : Pows w) :
    Calls Tryd.prog 122 #[.agg #[.int .i64 K, .int .i64 M]] w fun e w' =>
      ∃ t B, e = .returned (.tuple #[.slice (some ⟨t, 0, none⟩) (K + M) (K + M), .int .i64 0]) ∧ Kp (fun _ => False) w w' ∧ Mat w' t B (K + M) K (gen K) := by
  have hgl := hp.lt
  go_enter Tryd.func122, Tryd.ntmps122
  go_wp2_with fail
  refine (isCode_yes K M _ h1 (by omega) h3).mono ?_
  rintro e w1 ⟨rfl, k1⟩
  obtain ⟨wa, hwa⟩ : ∃ x, x = w.alloc (.cells #[.int .i64 (K : Int), .int .i64 (M : Int)] 26) := ⟨_, rfl⟩
  have q1 : wa.cell? ⟨w.heap.size, 0, none⟩ = some (.int .i64 (K : Int)) := by rw [hwa]; go_simp
  have q2 : wa.cell? ⟨w.heap.size, 1, none⟩ = some (.int .i64 (M : Int)) := by rw [hwa]; go_simp
  have k0 : Kp (fun _ => False) w wa := by rw [hwa]; exact (Kp.refl _ _).alloc _
  rw [← hwa] at k1
  have r1 := k1.cellv q1 id
  have r2 := k1.cellv q2 id
  have kk := k0.trans k1 (fun _ _ e => e)
  have hp1 := kk.pows hp id
  have hsz := kk.size
  clear q1 q2 k0 hwa
  go_wp2_with fail
  rw [show (K : Int) + (M : Int) = ((K + M : Nat) : Int) from by simp]
  refine (onesAbove_any (K + M) K w1 (by omega) (by omega)).mono ?_
  rintro e w2 ⟨rfl, k2, hz2, hM2⟩
  have s1 := k2.cellv r1 id
  have s2 := k2.cellv r2 id
  go_wp2
  go_loopg [5] M (fun gk x wr => ∃ i : Nat, K ≤ i ∧ i ≤ K + M ∧ gk = K + M - i ∧ x = .int .i64 i ∧ Kp (fun _ => False) w1 wr ∧ Mat wr w1.heap.size (fun i => w1.heap.size + 1 + i) (K + M) K (genAt K i 0))
  case atStart => exact ⟨K, Nat.le_refl _, by omega, by omega, rfl, k2, hM2.top, fun i hi => (hM2.row i hi).congr (fun j _ => by simp only [By]; rw [genAt_start]), hM2.inj, hM2.ne, genAt_lt _ _ _⟩
  case round =>
    obtain ⟨i, hi1, hi2, rfl, rfl, hK, hM⟩ := hrel
    clear k2 hz2 hM2 s1 s2
    have s1 := hK.cellv r1 id
    have s2 := hK.cellv r2 id
    by_cases hlt : (i : Int) < (K : Int) + (M : Int)
    · go_wp2
      go_loopg [31] K (fun gk x wq => ∃ c : Nat, c ≤ K ∧ gk = K - c ∧ x = .int .i64 c ∧ Kp (fun _ => False) w1 wq ∧ Mat wq w1.heap.size (fun i => w1.heap.size + 1 + i) (K + M) K (genAt K i c))
      case atStart => exact ⟨0, Nat.zero_le _, rfl, rfl, hK, hM⟩
      case round =>
        obtain ⟨c, hc, rfl, rfl, hK2, hM2⟩ := hrel
        clear hK hM s1 s2
        by_cases hlc : (c : Int) < (K : Int)
        · have e1 := hM2.top.cell (i := i) (by omega)
          have e2 := (hM2.row i (by omega)).cell (i := c) (by omega)
          have e3 := (hM2.row i (by omega)).frozen c
          have hb1 : (i : Int) < 256 := by omega
          have hb2 : (c : Int) < 256 := by omega
          have hx := xor8 (show i < 256 by omega) (show c < 256 by omega)
          have hx0 : i ^^^ c ≠ 0 := xor_ne (by omega)
          have HX : Hid (i ^^^ c ≠ 0) := hx0
          have hpr := hK2.pows hp1 id
          have hw1 : IntKind.u8.wrap (i : Int) = (i : Int) := by rw [IntKind.wrap_u8']; omega
          have hw2 : IntKind.u8.wrap (c : Int) = (c : Int) := by rw [IntKind.wrap_u8']; omega
          simp only [By] at e2
          clear hx0
          go_wp2
          go_region_with
            (first
              | (go_at_call 137; refine (add_nat i c _ hb1 hb2).mono ?_; rintro e w' ⟨rfl, rfl⟩)
              | (go_at_call 136; refine (inv_some (i ^^^ c) _ hx HX.out (by exact hpr.heap rfl)).mono ?_; rintro e w' ⟨rfl, m, rfl⟩))
          all_goals
            go_wp2
            go_roundg (K - (c + 1))
            case rel => exact ⟨c + 1, by omega, rfl, by go_num, (hK2.drewN _).setCell (fun h => absurd h (by show ¬ w1.heap.size + 1 + i < w1.heap.size; omega)) _,
              (rowIs_drewN hM2.top _).setOther (by show w1.heap.size ≠ w1.heap.size + 1 + i; omega) _, fun r hr => by
                by_cases e : r = i
                · subst e
                  exact ((rowIs_drewN (hM2.row r hr) _).set c _).congr (fun j _ => by
                    simp only [By]
                    rw [genAt_here _ _ _ _ hi1]
                    split <;> rfl)
                · exact ((rowIs_drewN (hM2.row r hr) _).setOther (by show w1.heap.size + 1 + r ≠ w1.heap.size + 1 + i; omega) _).congr (fun j _ => by simp only [By]; rw [genAt_other _ _ _ _ _ e]), hM2.inj, hM2.ne, genAt_lt _ _ _⟩
            case measure => omega
        · have e : c = K := by omega
          subst e
          have s1 := hK2.cellv r1 id
          have s2 := hK2.cellv r2 id
          go_wp2
          go_roundg (c + M - (i + 1))
          case rel => exact ⟨i + 1, by omega, by omega, rfl, by go_num, hK2, hM2.top, fun r hr => (hM2.row r hr).congr (fun j hj => by simp only [By]; rw [genAt_next _ _ _ _ hj]), hM2.inj, hM2.ne, genAt_lt _ _ _⟩
          case measure => omega
    · have e : i = K + M := by omega
      subst e
      go_wp2
      go_ret2
      exact ⟨_, rfl, kk.trans hK (fun _ _ e => e), _, hM.top, fun r hr => (hM.row r hr).congr (fun j _ => by simp only [By]; rw [genAt_end _ _ _ _ hr]), hM.inj, hM.ne, gen_lt K⟩
end Go.Proofs.YtmncocmeafcpfaaDoor.Mf

/- The walk of reed.Encode. -/
namespace Go.Proofs.YtmncocmeafcpfaaDoor.Mf
open Go.RowKit Go.Deep

theorem thereTo_all {L : Nat → Nat} {k : Nat} (h : ∀ r, r < k → 0 < L r) : thereTo L k = List.range k := by
  unfold thereTo
  exact List.filter_eq_self.2 (fun r hr => by simpa using h r (List.mem_range.1 hr))
theorem len0_all {L : Nat → Nat} {k n : Nat} (hn : 0 < n) (hk : 0 < k) (h : ∀ r, r < k → L r = n) : len0 L k = n := by
  unfold len0
  rw [thereTo_all (fun r hr => by rw [h r hr]; exact hn)]
  have : (List.range k).headD 0 = 0 := by
    cases k with
    | zero => omega
    | succ k => rw [List.range_succ_eq_map]; rfl
  rw [this, h 0 hk]
theorem alike_all {L : Nat → Nat} {k n : Nat} (hn : 0 < n) (hk : 0 < k) (h : ∀ r, r < k → L r = n) : alikeTo L k k = true :=
  decide_eq_true (fun r hr => Or.inr (by rw [h r hr, len0_all hn hk h]))

set_option maxRecDepth 100000 in
set_option maxHeartbeats 1600000 in
theorem encode_yes (K M n : Nat) (s : Sh) (w : World) (hs : Rd w s) (hG : s.G = K) (hL : ∀ r, r < K → s.L r = n) (h1 : 1 ≤ (K : Int)) (h3 : (M : Int) ≤ 255 - (K : Int)) (hp : Pows w) (hn : (n : Int) ≤ 1000000) (hn1 : 1 ≤ (n : Int)) :
    Calls Tryd.prog 118 #[.agg #[.int .i64 K, .int .i64 M], .slice s.g K s.cap] w fun e w' =>
      ∃ t B, e = .returned (.tuple #[.slice (some ⟨t, 0, none⟩) (K + M) (K + M), .int .i64 0]) ∧ Kp (fun _ => False) w w' ∧ w.heap.size ≤ t ∧ (∀ i, i < K + M → w.heap.size ≤ B i) ∧ Mat w' t B (K + M) n (enc K s.M) := by
  subst hG
  obtain ⟨wa, hwa⟩ : ∃ x, x = w.alloc (.cells #[.int .i64 (s.G : Int), .int .i64 (M : Int)] 26) := ⟨_, rfl⟩
  have q1 : wa.cell? ⟨w.heap.size, 0, none⟩ = some (.int .i64 (s.G : Int)) := by rw [hwa]; go_simp
  have q2 : wa.cell? ⟨w.heap.size, 1, none⟩ = some (.int .i64 (M : Int)) := by rw [hwa]; go_simp
  have k0 : Kp (fun _ => False) w wa := by rw [hwa]; exact (Kp.refl _ _).alloc _
  have HC : Hid (Calls _ _ _ wa _) := can_yes s.G M wa h1 (by omega) h3
  have HL : Hid (∀ r, r < s.G → s.L r = n) := hL
  have hnn : ((s.G : Int) != (s.G : Int)) = false := bne_self_eq_false _
  clear hL
  go_enter Tryd.func118, Tryd.ntmps118
  go_wp2_with fail
  rw [← hwa]
  refine HC.out.mono ?_
  rintro e w1 ⟨rfl, k1⟩
  have r1 := k1.cellv q1 id
  have r2 := k1.cellv q2 id
  have kk := k0.trans k1 (fun _ _ e => e)
  clear HC q1 q2 k0 k1 hwa
  have HK : Hid (Calls _ _ _ w1 _) := look_any s w1 (hs.keep kk) (by omega) h1
  rw [alike_all (by omega) (by omega) HL.out, thereTo_all (L := s.L) (k := s.G) (fun r hr => by rw [HL.out r hr]; omega)] at HK
  go_wp2_with fail
  refine HK.out.mono ?_
  rintro e w2 ⟨v, rfl, k2, pa, ba, cv, rfl, _, _⟩
  rw [List.length_range]
  have s1 := k2.cellv r1 id
  have s2 := k2.cellv r2 id
  have kk2 := kk.trans k2 (fun _ _ e => e)
  clear HK r1 r2
  have HG : Hid (Calls _ _ _ w2 _) := generator_yes s.G M w2 h1 h3 (kk2.pows hp id)
  go_wp2_with fail
  refine HG.out.mono ?_
  rintro e w3 ⟨t, B, rfl, k3, hM⟩
  have kk3 := kk2.trans k3 (fun _ _ e => e)
  clear HG
  have HA : Hid (Calls _ _ _ w3 _) := mixAll_any (ofMat t B (s.G + M) s.G (gen s.G)) s n w3 hM.rd (hs.keep kk3) (fun _ _ => rfl) HL.out (by show ((s.G + M : Nat) : Int) ≤ 1000; omega) (by show 1 ≤ ((s.G + M : Nat) : Int); omega) (by omega) h1 (kk3.pows hp id) hn hn1
  go_wp2_with fail
  refine HA.out.mono ?_
  rintro e w4 ⟨B', rfl, hP⟩
  go_wp2
  go_ret2
  have hz := kk3.size
  refine ⟨_, B', rfl, kk3.trans hP.kept (fun _ _ e => e), by omega, fun i hi => by have := hP.lo i hi; omega, hP.mat (fun i j => prodTo_lt _ _ _ _ _)⟩
end Go.Proofs.YtmncocmeafcpfaaDoor.Mf

/- The walk of matrix.Invert on a square matrix: the inverse that elimination finds, or the error. -/
namespace Go.Proofs.YtmncocmeafcpfaaDoor.Mf
open Go.RowKit Go.Deep

/-- a pivot is found, or there is none -/
theorem piv_or (W : Nat → Nat → Nat) (n i : Nat) : (∃ j, Piv W n i j) ∨ NoPiv W n i := by
  have key : ∀ k, (∃ j, Piv W n i j) ∨ ∀ j, i ≤ j → j < k → j < n → W j i = 0 := by
    intro k
    induction k with
    | zero => exact Or.inr (fun j _ h => by omega)
    | succ k ih =>
      rcases ih with h | h
      · exact Or.inl h
      · by_cases hk : i ≤ k ∧ k < n ∧ W k i ≠ 0
        · exact Or.inl ⟨k, hk.1, hk.2.1, hk.2.2, fun j h1 h2 => h j h1 h2 (by omega)⟩
        · refine Or.inr (fun j h1 h2 h3 => ?_)
          by_cases e : j = k
          · subst e
            by_cases e0 : W j i = 0
            · exact e0
            · exact absurd ⟨h1, h3, e0⟩ hk
          · exact h j h1 (by omega) h3
  rcases key n with h | h
  · exact Or.inl h
  · exact Or.inr (fun j h1 h2 => h j h1 h2 h2)

/-- what stands in memory when i columns are done -/
structure Elim (w wr : World) (t n i : Nat) (A : Nat → Nat → Nat) (B : Nat → Nat) (W : Nat → Nat → Nat) : Prop where
  kept : Kp (fun _ => False) w wr
  mat : Mat wr t B n (2 * n) W
  el : El A n i W
  top : w.heap.size ≤ t
  lo : ∀ r, r < n → w.heap.size ≤ B r
theorem Elim.step {w wr w2 w3 : World} {t n i j : Nat} {A : Nat → Nat → Nat} {B : Nat → Nat} {W : Nat → Nat → Nat} (h : Elim w wr t n i A B W) (hi : i < n) (p : Piv W n i j)
    (k2 : Kp (fun b => b = t ∨ ∃ r, r < n ∧ b = B r) wr w2) (k3 : Kp (fun b => ∃ r, r < n ∧ b = exch B i j r) w2 w3) (m3 : Mat w3 t (exch B i j) n (2 * n) (cleared (brought W i j) i)) :
    Elim w w3 t n (i + 1) A (exch B i j) (cleared (brought W i j) i) := by
  have lo : ∀ r, r < n → w.heap.size ≤ exch B i j r := fun r hr => by
    obtain ⟨q, hq, e⟩ := exch_mem B hi p.2.1 hr
    rw [e]; exact h.lo q hq
  refine ⟨(h.kept.trans k2 (fun b hb e => ?_)).trans k3 (fun b hb e => ?_), m3, h.el.step hi p, h.top, lo⟩
  · rcases e with e | ⟨r, hr, e⟩
    · have := h.top; omega
    · have := h.lo r hr; omega
  · obtain ⟨r, hr, e⟩ := e
    have := lo r hr; omega

set_option maxRecDepth 100000 in
set_option maxHeartbeats 3200000 in
theorem invert_any (s : Sh) (n : Nat) (w : World) (hs : Rd w s) (hG : s.G = n) (hL : ∀ r, r < n → s.L r = n) (h1 : 1 ≤ (n : Int)) (h2 : (n : Int) ≤ 255) (hp : Pows w) :
    Calls Tryd.prog 124 #[.slice s.g n s.cap] w fun e w' =>
      Kp (fun _ => False) w w' ∧ ((e = .returned (.tuple #[.slice none 0 0, .int .i64 20]) ∧ ∃ i W, i < n ∧ El s.M n i W ∧ NoPiv W n i) ∨
        ∃ t B W, e = .returned (.tuple #[.slice (some ⟨t, 0, none⟩) n n, .int .i64 0]) ∧ El s.M n n W ∧ Mat w' t B n n (right W n)) := by
  have HS : Hid (Calls _ _ _ w _) := isMatrix_any s w hs
  have HB : Hid (Calls _ _ _ w _) := besideOnes_any s n w hs hG hL h1 h2
  have ms : isM s = true := decide_eq_true ⟨by omega, by omega, by rw [hL 0 (by omega)]; omega, by rw [hL 0 (by omega)]; omega, fun r hr => by rw [hL r (by omega), hL 0 (by omega)]⟩
  rw [ms, hG] at HS
  have c1 := hs.hd 0 (by omega)
  rw [hL 0 (by omega)] at c1
  rw [hs.at0 (by omega)] at HS HB ⊢
  simp only [Nat.add_zero] at c1
  have hgl : 1 < w.heap.size := hp.lt
  have HN := run_make_row' (P := Tryd.prog) 27 22 (.slice none 0 0) 24 Tryd.underlying27 info42 rfl .i64 .i64 n (by omega) (by omega)
  clear ms hG hL
  go_enter Tryd.func124, Tryd.ntmps124
  go_wp2_with fail
  refine HS.out.mono ?_
  rintro e w' ⟨rfl, hw⟩
  obtain rfl := hw.symm
  go_wp2_with fail
  refine HB.out.mono ?_
  rintro e w1 ⟨rfl, hK1, hM1⟩
  have hE0 : Elim w w1 w.heap.size n 0 s.M (fun i => w.heap.size + 1 + i) (wide s.M n) := ⟨hK1, hM1, .start, Nat.le_refl _, fun r _ => by omega⟩
  clear HS HB c1 hK1 hM1
  go_wp2
  go_loopg [25] n (fun gk x wr => ∃ (i : Nat) (B : Nat → Nat) (W : Nat → Nat → Nat), i ≤ n ∧ gk = n - i ∧ x = .int .i64 i ∧ Elim w wr w.heap.size n i s.M B W)
  case atStart => exact ⟨0, _, _, Nat.zero_le _, rfl, rfl, hE0⟩
  case round =>
    obtain ⟨i, B, W, hi, rfl, rfl, hE⟩ := hrel
    clear hE0
    by_cases hlt : (i : Int) < (n : Int)
    · have hpr := hE.kept.pows hp id
      have hBp : ∀ r, r < n → B r ≠ 1 := fun r hr e => by have := hE.lo r hr; omega
      rcases piv_or W n i with ⟨j, hpv⟩ | hno
      · have HPv : Hid (Piv W n i j) := hpv
        have HBr : Hid (Calls _ _ _ wr _) := bringPivot_some w.heap.size B n (2 * n) i j W wr hE.mat hlt (by omega) (by omega) hpr hpv (by omega) hBp
        clear hpv
        go_wp2_with fail
        refine HBr.out.mono ?_
        rintro e w2 ⟨rfl, hK2, hz2, hM2⟩
        have hex : ∀ r, r < n → exch B i j r ≠ 1 := fun r hr => by
          obtain ⟨q, hq, e⟩ := exch_mem B (show i < n by omega) HPv.out.2.1 hr
          rw [e]; exact hBp q hq
        have hp2 : Pows w2 := hK2.pows hpr (fun e => by
          rcases e with e | ⟨r, hr, e⟩
          · omega
          · exact hBp r hr e.symm)
        have HC : Hid (Calls _ _ _ w2 _) := clearColumn_any w.heap.size (exch B i j) n (2 * n) i _ w2 hM2 hlt (by omega) (by omega) hp2 hex
        clear HBr hex
        go_wp2_with fail
        refine HC.out.mono ?_
        rintro e w3 ⟨rfl, hK3, hz3, hM3⟩
        have hE3 := hE.step (by omega) HPv.out hK2 hK3 hM3
        clear HC hK2 hz2 hM2 hK3 hz3 hM3 hE
        go_wp2
        go_roundg (n - (i + 1))
        case rel => exact ⟨i + 1, _, _, by omega, rfl, by go_num, hE3⟩
        case measure => omega
      · have HBr : Hid (Calls _ _ _ wr _) := bringPivot_none w.heap.size B n (2 * n) i W wr hE.mat hlt (by omega) h2 hpr hno
        have HNo : Hid (NoPiv W n i) := hno
        clear hno
        go_wp2_with fail
        refine HBr.out.mono ?_
        rintro e w2 ⟨rfl, m, rfl⟩
        go_wp2
        go_ret2
        exact ⟨hE.kept.drewN m, Or.inl ⟨rfl, i, W, by omega, hE.el, HNo.out⟩⟩
    · have e : n = i := by omega
      subst e
      obtain ⟨wr0, rfl⟩ : ∃ x, x = wr := ⟨_, rfl⟩
      have hP0 := Part.start wr0 n n (right W n)
      go_wp2
      clear HN
      go_loopg [41] n (fun gk x wq => ∃ (r : Nat) (B' : Nat → Nat), r ≤ n ∧ gk = n - r ∧ x = .int .i64 r ∧ Part wr0 wq wr0.heap.size n n r B' (right W n))
      case atStart => exact ⟨0, _, Nat.zero_le _, rfl, rfl, hP0⟩
      case round =>
        obtain ⟨r, B', hr, rfl, rfl, hP⟩ := hrel
        clear hP0
        by_cases hlr : (r : Int) < (n : Int)
        · have f1 := hP.kept.cellv (hE.mat.top.cell (i := r) (by omega)) id
          have hrow := hE.mat.row r (by omega)
          have hcp : Hid (∀ c, Calls _ _ #[.slice (some ⟨B r, n, none⟩) n c] wr _) := fun c => copyRow_any (some ⟨B r, n, none⟩) (B r) n n c (right W n r) wr (fun _ _ => rfl) (fun k hk => by
            have := hP.kept.cellv (hrow.cell (i := n + k) (by omega)) id
            exact this) (by omega)
          have g2 : ∀ w2, Kp (fun _ => False) wr w2 → w2.frozen? ⟨wr0.heap.size, r, none⟩ = false ∧ w2.cell? ⟨wr0.heap.size, r, none⟩ = some (heads2 B' n r r) := fun w2 k => ⟨(k.row hP.top id).frozen r, (k.row hP.top id).cell (by omega)⟩
          have HG : Hid (∀ w2, Kp (fun _ => False) wr w2 → w2.frozen? ⟨wr0.heap.size, r, none⟩ = false ∧ w2.cell? ⟨wr0.heap.size, r, none⟩ = some (heads2 B' n r r)) := g2
          have hnn : (n : Int) ≤ 2 * (n : Int) := by omega
          clear g2 hrow
          go_wp2_with fail
          rw [show 2 * n - n = n from by omega]
          refine (hcp.out n).mono ?_
          rintro e w2 ⟨rfl, hK2, hR2⟩
          obtain ⟨g3, g4⟩ := HG.out w2 hK2
          have hPs := hP.step (Nat.le_refl _) hK2 hR2
          have HPs : Hid (Part _ _ _ _ _ _ _ _) := hPs
          clear hPs
          go_wp2
          go_roundg (n - (r + 1))
          case rel => exact ⟨r + 1, _, by omega, rfl, by go_num, HPs.out⟩
          case measure => omega
        · have e : r = n := by omega
          subst e
          go_wp2
          go_ret2
          exact ⟨hE.kept.trans hP.kept (fun _ _ e => e), Or.inr ⟨_, rfl, B', W, hE.el, hP.mat (fun i j => (hE.el.keeps hs.byte).byte _ _)⟩⟩
end Go.Proofs.YtmncocmeafcpfaaDoor.Mf
