/- The walk of matrix.Invert on a square matrix: the inverse that elimination finds, or the error. -/
import Derived.Test.YtmncocmeafcpfaaDoorMfM9
import Derived.Test.YtmncocmeafcpfaaDoorMfM6
namespace Go.Proofs.YtmncocmeafcpfaaDoor.Mf
open Go.RowKit Go.Deep

/-- a pivot is found, or there is none -/
theorem piv_or (W : Nat → Nat → Nat) (n i : Nat) : (∃ j, Piv W n i j) ∨ NoPiv W n i := by
  have key : ∀ k, (∃ j, Piv W n i j) ∨ ∀ j, i ≤ j → j < k → j < n → W j i = 0 := by
    intro k
    induction k with
    | zero => exact Or.inr (fun j _ h => by omega)
    | succ k ih =>
      rcases ih with h | h
      · exact Or.inl h
      · by_cases hk : i ≤ k ∧ k < n ∧ W k i ≠ 0
        · exact Or.inl ⟨k, hk.1, hk.2.1, hk.2.2, fun j h1 h2 => h j h1 h2 (by omega)⟩
        · refine Or.inr (fun j h1 h2 h3 => ?_)
          by_cases e : j = k
          · subst e
            by_cases e0 : W j i = 0
            · exact e0
            · exact absurd ⟨h1, h3, e0⟩ hk
          · exact h j h1 (by omega) h3
  rcases key n with h | h
  · exact Or.inl h
  · exact Or.inr (fun j h1 h2 => h j h1 h2 h2)

/-- what stands in memory when i columns are done -/
structure Elim (w wr : World) (t n i : Nat) (A : Nat → Nat → Nat) (B : Nat → Nat) (W : Nat → Nat → Nat) : Prop where
  kept : Kp (fun _ => False) w wr
  mat : Mat wr t B n (2 * n) W
  el : El A n i W
  top : w.heap.size ≤ t
  lo : ∀ r, r < n → w.heap.size ≤ B r
theorem Elim.step {w wr w2 w3 : World} {t n i j : Nat} {A : Nat → Nat → Nat} {B : Nat → Nat} {W : Nat → Nat → Nat} (h : Elim w wr t n i A B W) (hi : i < n) (p : Piv W n i j)
    (k2 : Kp (fun b => b = t ∨ ∃ r, r < n ∧ b = B r) wr w2) (k3 : Kp (fun b => ∃ r, r < n ∧ b = exch B i j r) w2 w3) (m3 : Mat w3 t (exch B i j) n (2 * n) (cleared (brought W i j) i)) :
    Elim w w3 t n (i + 1) A (exch B i j) (cleared (brought W i j) i) := by
  have lo : ∀ r, r < n → w.heap.size ≤ exch B i j r := fun r hr => by
    obtain ⟨q, hq, e⟩ := exch_mem B hi p.2.1 hr
    rw [e]; exact h.lo q hq
  refine ⟨(h.kept.trans k2 (fun b hb e => ?_)).trans k3 (fun b hb e => ?_), m3, h.el.step hi p, h.top, lo⟩
  · rcases e with e | ⟨r, hr, e⟩
    · have := h.top; omega
    · have := h.lo r hr; omega
  · obtain ⟨r, hr, e⟩ := e
    have := lo r hr; omega

set_option maxRecDepth 100000 in
set_option maxHeartbeats 3200000 in
theorem invert_any (s : Sh) (n : Nat) (w : World) (hs : Rd w s) (hG : s.G = n) (hL : ∀ r, r < n → s.L r = n) (h1 : 1 ≤ (n : Int)) (h2 : (n : Int) ≤ 255) (hp : Pows w) :
    Calls Tryd.prog 124 #[.slice s.g n s.cap] w fun e w' =>
      Kp (fun _ => False) w w' ∧ ((e = .returned (.tuple #[.slice none 0 0, .int .i64 20]) ∧ ∃ i W, i < n ∧ El s.M n i W ∧ NoPiv W n i) ∨
        ∃ t B W, e = .returned (.tuple #[.slice (some ⟨t, 0, none⟩) n n, .int .i64 0]) ∧ El s.M n n W ∧ Mat w' t B n n (right W n)) := by
  have HS : Hid (Calls _ _ _ w _) := isMatrix_any s w hs
  have HB : Hid (Calls _ _ _ w _) := besideOnes_any s n w hs hG hL h1 h2
  have ms : isM s = true := decide_eq_true ⟨by omega, by omega, by rw [hL 0 (by omega)]; omega, by rw [hL 0 (by omega)]; omega, fun r hr => by rw [hL r (by omega), hL 0 (by omega)]⟩
  rw [ms, hG] at HS
  have c1 := hs.hd 0 (by omega)
  rw [hL 0 (by omega)] at c1
  rw [hs.at0 (by omega)] at HS HB ⊢
  simp only [Nat.add_zero] at c1
  have hgl : 1 < w.heap.size := hp.lt
  have HN := run_make_row' (P := Tryd.prog) 27 22 (.slice none 0 0) 24 Tryd.underlying27 info42 rfl .i64 .i64 n (by omega) (by omega)
  clear ms hG hL
  go_enter Tryd.func124, Tryd.ntmps124
  go_wp2_with fail
  refine HS.out.mono ?_
  rintro e w' ⟨rfl, hw⟩
  obtain rfl := hw.symm
  go_wp2_with fail
  refine HB.out.mono ?_
  rintro e w1 ⟨rfl, hK1, hM1⟩
  have hE0 : Elim w w1 w.heap.size n 0 s.M (fun i => w.heap.size + 1 + i) (wide s.M n) := ⟨hK1, hM1, .start, Nat.le_refl _, fun r _ => by omega⟩
  clear HS HB c1 hK1 hM1
  go_wp2
  go_loopg [25] n (fun gk x wr => ∃ (i : Nat) (B : Nat → Nat) (W : Nat → Nat → Nat), i ≤ n ∧ gk = n - i ∧ x = .int .i64 i ∧ Elim w wr w.heap.size n i s.M B W)
  case atStart => exact ⟨0, _, _, Nat.zero_le _, rfl, rfl, hE0⟩
  case round =>
    obtain ⟨i, B, W, hi, rfl, rfl, hE⟩ := hrel
    clear hE0
    by_cases hlt : (i : Int) < (n : Int)
    · have hpr := hE.kept.pows hp id
      have hBp : ∀ r, r < n → B r ≠ 1 := fun r hr e => by have := hE.lo r hr; omega
      rcases piv_or W n i with ⟨j, hpv⟩ | hno
      · have HPv : Hid (Piv W n i j) := hpv
        have HBr : Hid (Calls _ _ _ wr _) := bringPivot_some w.heap.size B n (2 * n) i j W wr hE.mat hlt (by omega) (by omega) hpr hpv (by omega) hBp
        clear hpv
        go_wp2_with fail
        refine HBr.out.mono ?_
        rintro e w2 ⟨rfl, hK2, hz2, hM2⟩
        have hex : ∀ r, r < n → exch B i j r ≠ 1 := fun r hr => by
          obtain ⟨q, hq, e⟩ := exch_mem B (show i < n by omega) HPv.out.2.1 hr
          rw [e]; exact hBp q hq
        have hp2 : Pows w2 := hK2.pows hpr (fun e => by
          rcases e with e | ⟨r, hr, e⟩
          · omega
          · exact hBp r hr e.symm)
        have HC : Hid (Calls _ _ _ w2 _) := clearColumn_any w.heap.size (exch B i j) n (2 * n) i _ w2 hM2 hlt (by omega) (by omega) hp2 hex
        clear HBr hex
        go_wp2_with fail
        refine HC.out.mono ?_
        rintro e w3 ⟨rfl, hK3, hz3, hM3⟩
        have hE3 := hE.step (by omega) HPv.out hK2 hK3 hM3
        clear HC hK2 hz2 hM2 hK3 hz3 hM3 hE
        go_wp2
        go_roundg (n - (i + 1))
        case rel => exact ⟨i + 1, _, _, by omega, rfl, by go_num, hE3⟩
        case measure => omega
      · have HBr : Hid (Calls _ _ _ wr _) := bringPivot_none w.heap.size B n (2 * n) i W wr hE.mat hlt (by omega) h2 hpr hno
        have HNo : Hid (NoPiv W n i) := hno
        clear hno
        go_wp2_with fail
        refine HBr.out.mono ?_
        rintro e w2 ⟨rfl, m, rfl⟩
        go_wp2
        go_ret2
        exact ⟨hE.kept.drewN m, Or.inl ⟨rfl, i, W, by omega, hE.el, HNo.out⟩⟩
    · have e : n = i := by omega
      subst e
      obtain ⟨wr0, rfl⟩ : ∃ x, x = wr := ⟨_, rfl⟩
      have hP0 := Part.start wr0 n n (right W n)
      go_wp2
      clear HN
      go_loopg [41] n (fun gk x wq => ∃ (r : Nat) (B' : Nat → Nat), r ≤ n ∧ gk = n - r ∧ x = .int .i64 r ∧ Part wr0 wq wr0.heap.size n n r B' (right W n))
      case atStart => exact ⟨0, _, Nat.zero_le _, rfl, rfl, hP0⟩
      case round =>
        obtain ⟨r, B', hr, rfl, rfl, hP⟩ := hrel
        clear hP0
        by_cases hlr : (r : Int) < (n : Int)
        · have f1 := hP.kept.cellv (hE.mat.top.cell (i := r) (by omega)) id
          have hrow := hE.mat.row r (by omega)
          have hcp : Hid (∀ c, Calls _ _ #[.slice (some ⟨B r, n, none⟩) n c] wr _) := fun c => copyRow_any (some ⟨B r, n, none⟩) (B r) n n c (right W n r) wr (fun _ _ => rfl) (fun k hk => by
            have := hP.kept.cellv (hrow.cell (i := n + k) (by omega)) id
            exact this) (by omega)
          have g2 : ∀ w2, Kp (fun _ => False) wr w2 → w2.frozen? ⟨wr0.heap.size, r, none⟩ = false ∧ w2.cell? ⟨wr0.heap.size, r, none⟩ = some (heads2 B' n r r) := fun w2 k => ⟨(k.row hP.top id).frozen r, (k.row hP.top id).cell (by omega)⟩
          have HG : Hid (∀ w2, Kp (fun _ => False) wr w2 → w2.frozen? ⟨wr0.heap.size, r, none⟩ = false ∧ w2.cell? ⟨wr0.heap.size, r, none⟩ = some (heads2 B' n r r)) := g2
          have hnn : (n : Int) ≤ 2 * (n : Int) := by omega
          clear g2 hrow
          go_wp2_with fail
          rw [show 2 * n - n = n from by omega]
          refine (hcp.out n).mono ?_
          rintro e w2 ⟨rfl, hK2, hR2⟩
          obtain ⟨g3, g4⟩ := HG.out w2 hK2
          have hPs := hP.step (Nat.le_refl _) hK2 hR2
          have HPs : Hid (Part _ _ _ _ _ _ _ _) := hPs
          clear hPs
          go_wp2
          go_roundg (n - (r + 1))
          case rel => exact ⟨r + 1, _, by omega, rfl, by go_num, HPs.out⟩
          case measure => omega
        · have e : r = n := by omega
          subst e
          go_wp2
          go_ret2
          exact ⟨hE.kept.trans hP.kept (fun _ _ e => e), Or.inr ⟨_, rfl, B', W, hE.el, hP.mat (fun i j => (hE.el.keeps hs.byte).byte _ _)⟩⟩
end Go.Proofs.YtmncocmeafcpfaaDoor.Mf
