/- The walk of matrix.Rows: some rows, or the error. -/
import Derived.Test.YtmncocmeafcpfaaDoorMfM2
namespace Go.Proofs.YtmncocmeafcpfaaDoor.Mf
open Go.RowKit Go.Deep

/-- the headers of new rows at B, when r are made -/
def heads2 (B : Nat → Nat) (C r : Nat) : Nat → Value := fun j => if j < r then .slice (some ⟨B j, 0, none⟩) C C else .slice none 0 0
theorem heads2_succ (B : Nat → Nat) (C r g j : Nat) : heads2 (fun i => if i = r then g else B i) C (r + 1) j = if j = r then .slice (some ⟨g, 0, none⟩) C C else heads2 B C r j := by
  unfold heads2
  by_cases e : j = r
  · subst e; simp
  · rw [if_neg e]
    by_cases h : j < r
    · rw [if_pos h, if_pos (by omega)]; simp [e]
    · rw [if_neg h, if_neg (by omega)]

/-- r rows of the new matrix at t are made -/
structure Part (w wr : World) (t n C r : Nat) (B : Nat → Nat) (M : Nat → Nat → Nat) : Prop where
  kept : Kp (fun _ => False) w wr
  top : wr.rowIs t 22 n (heads2 B C r)
  row : ∀ j, j < r → wr.rowIs (B j) 5 C (By (M j))
  lo : ∀ j, j < r → t < B j
  inj : ∀ i j, i < r → j < r → B i = B j → i = j
theorem Part.start (w : World) (n C : Nat) (M : Nat → Nat → Nat) : Part w (w.alloc (.cells (madeCells #[.slice none 0 0] n) 22)) w.heap.size n C 0 (fun _ => 0) M :=
  ⟨(Kp.refl _ _).alloc _, (World.rowIs_made w _ n 22).congr (fun j _ => by simp [heads2]), fun _ h => absurd h (Nat.not_lt_zero _), fun _ h => absurd h (Nat.not_lt_zero _), fun _ _ h => absurd h (Nat.not_lt_zero _)⟩
theorem Part.step {w wr w2 : World} {t n C r : Nat} {B : Nat → Nat} {M : Nat → Nat → Nat} (h : Part w wr t n C r B M) (ht : w.heap.size ≤ t) (k : Kp (fun _ => False) wr w2) (hr : w2.rowIs wr.heap.size 5 C (By (M r))) :
    Part w (w2.setCell ⟨t, r, none⟩ (.slice (some ⟨wr.heap.size, 0, none⟩) C C)) t n C (r + 1) (fun i => if i = r then wr.heap.size else B i) M := by
  have htl := h.top.lt
  refine ⟨(h.kept.trans k (fun _ _ e => e.elim)).setCell (fun hh => absurd hh (by show ¬ t < w.heap.size; omega)) _, ((k.row h.top id).set r _).congr (fun j _ => by rw [heads2_succ]), fun j hj => ?_, fun j hj => ?_, fun i j hi hj e => ?_⟩
  · by_cases e : j = r
    · subst e; simp only [if_true]
      exact hr.setOther (by show wr.heap.size ≠ t; omega) _
    · simp only [if_neg e]
      exact (k.row (h.row j (by omega)) id).setOther (by show B j ≠ t; have := h.lo j (by omega); omega) _
  · by_cases e : j = r
    · simp only [if_pos e]; exact htl
    · simp only [if_neg e]; exact h.lo j (by omega)
  · by_cases e1 : i = r <;> by_cases e2 : j = r
    · omega
    · simp only [if_pos e1, if_neg e2] at e
      have := (h.row j (by omega)).lt
      omega
    · simp only [if_neg e1, if_pos e2] at e
      have := (h.row i (by omega)).lt
      omega
    · simp only [if_neg e1, if_neg e2] at e
      exact h.inj i j (by omega) (by omega) e
theorem Part.mat {w wr : World} {t n C : Nat} {B : Nat → Nat} {M : Nat → Nat → Nat} (h : Part w wr t n C n B M) (hM : ∀ i j, M i j < 256) : Mat wr t B n C M :=
  ⟨h.top.congr (fun i hi => by simp [heads2, hi]), h.row, h.inj, fun i hi => by have := h.lo i hi; omega, hM⟩

set_option maxRecDepth 100000 in
set_option maxHeartbeats 1600000 in
theorem rows_ok (s : Sh) (pl : Option Addr) (bl ol n cl : Nat) (l : Nat → Nat) (w : World) (hs : Rd w s) (ms : isM s = true) (hpl : ∀ k, k < n → pl = some ⟨bl, ol, none⟩)
    (hl : ∀ k, k < n → w.cell? ⟨bl, ol + k, none⟩ = some (.int .i64 ((l k : Nat) : Int))) (hn : ∀ k, k < n → l k < s.G) (h1 : 1 ≤ (n : Int)) (h2 : (n : Int) ≤ 255) :
    Calls Tryd.prog 123 #[.slice s.g s.G s.cap, .slice pl n cl] w fun e w' =>
      ∃ B, e = .returned (.tuple #[.slice (some ⟨w.heap.size, 0, none⟩) n n, .int .i64 0]) ∧ Part w w' w.heap.size n (s.L 0) n B (fun r => s.M (l r)) := by
  obtain ⟨a1, a2, a3, a4, a5⟩ := isM_true ms
  have HS : Hid (Calls _ _ _ w _) := isMatrix_any s w hs
  rw [ms] at HS
  have HG1 := hs.at0 (by omega)
  rw [HG1] at HS ⊢
  obtain rfl := hpl 0 (by omega)
  have HA : Hid (∀ r, r < s.G → s.L r = s.L 0) := a5
  have d1 : decide ((n : Int) < 1) = false := by simp; omega
  have d2 : decide (255 < (n : Int)) = false := by simp; omega
  have hmk := run_make_row' (P := Tryd.prog) 27 22 (.slice none 0 0) 24 Tryd.underlying27 info42 rfl .i64 .i64 n (by omega) (by omega)
  clear ms HG1 a5
  go_enter Tryd.func123, Tryd.ntmps123
  go_wp2_with fail
  refine HS.out.mono ?_
  rintro e w' ⟨rfl, hw⟩
  obtain rfl := hw.symm
  go_wp2
  clear HS hmk d1 d2
  go_loopg [27] n (fun gk i wr => ∃ (r : Nat) (B : Nat → Nat), r ≤ n ∧ gk = n - r ∧ i = .int .i64 r ∧ Part w wr w.heap.size n (s.L 0) r B (fun r => s.M (l r)))
  case atStart => exact ⟨0, _, Nat.zero_le _, rfl, rfl, Part.start w n _ _⟩
  case round =>
    obtain ⟨r, B, hr, rfl, rfl, hP⟩ := hrel
    by_cases hlt : (r : Int) < (n : Int)
    · have hlr := hn r (by omega)
      have f1 := hP.kept.cellv (hl r (by omega)) id
      have f2 := hP.kept.cellv (hs.hd (l r) hlr) id
      rw [HA.out _ hlr] at f2
      have d1 : decide (((l r : Nat) : Int) < 0) = false := by simp
      have d2 : decide ((s.G : Int) ≤ ((l r : Nat) : Int)) = false := by simp; omega
      have hcp : Hid (Calls _ _ _ wr _) := copyRow_any (s.A (l r)) (s.RB (l r)) (s.RO (l r)) (s.L 0) (s.C (l r)) (s.M (l r)) wr (fun k hk => hs.to (l r) hlr k (by rw [HA.out _ hlr]; exact hk)) (fun k hk => hP.kept.cellv (hs.cell (l r) hlr k (by rw [HA.out _ hlr]; exact hk)) id) (by omega)
      have g2 : ∀ w2, Kp (fun _ => False) wr w2 → w2.frozen? ⟨w.heap.size, r, none⟩ = false ∧ w2.cell? ⟨w.heap.size, r, none⟩ = some (heads2 B (s.L 0) r r) := fun w2 k => ⟨(k.row hP.top id).frozen r, (k.row hP.top id).cell (by omega)⟩
      have HG : Hid (∀ w2, Kp (fun _ => False) wr w2 → w2.frozen? ⟨w.heap.size, r, none⟩ = false ∧ w2.cell? ⟨w.heap.size, r, none⟩ = some (heads2 B (s.L 0) r r)) := g2
      clear g2
      go_wp2_with fail
      refine hcp.out.mono ?_
      rintro e w2 ⟨rfl, hK2, hR2⟩
      obtain ⟨g3, g4⟩ := HG.out w2 hK2
      go_wp2
      go_roundg (n - (r + 1))
      case rel => exact ⟨r + 1, _, by omega, rfl, by go_num, hP.step (Nat.le_refl _) hK2 hR2⟩
      case measure => omega
    · have e : r = n := by omega
      subst e
      go_wp2
      go_ret2
      exact ⟨rfl, B, hP⟩
end Go.Proofs.YtmncocmeafcpfaaDoor.Mf
