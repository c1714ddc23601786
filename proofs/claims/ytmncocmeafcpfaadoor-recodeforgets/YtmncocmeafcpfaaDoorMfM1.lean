/- The walks of matrix.noughts, addTimes and scale. -/
import Derived.Test.YtmncocmeafcpfaaDoorMfMem
namespace Go.Proofs.YtmncocmeafcpfaaDoor.Mf
open Go.RowKit Go.Deep

set_option maxRecDepth 100000 in
set_option maxHeartbeats 800000 in
theorem addTimes_walk (bt ot nt n' c1 : Nat) (src : Option Addr) (br ob n c2 : Nat) (f g : Nat → Nat) (c : Nat) (w : World) (hf : ∀ j, f j < 256) (hg : ∀ j, g j < 256) (hc : (c : Int) < 256)
    (ht : w.rowIs bt 5 nt (By f)) (hsrc : ∀ k, k < n → src = some ⟨br, ob, none⟩) (hr : ∀ k, k < n → w.cell? ⟨br, ob + k, none⟩ = some (.int .u8 ((g k : Nat) : Int))) (hne : br ≠ bt)
    (h1 : ot + n ≤ nt) (h2 : (n : Int) ≤ (n' : Int)) (hp : Pows w) (hgl : bt ≠ 1) (hn : (n : Int) ≤ 1000000) (hc0 : ((c : Int) == 0) = false) :
    Calls Tryd.prog 144 #[.slice (some ⟨bt, ot, none⟩) n' c1, .slice src n c2, .int .u8 c] w fun e w' =>
      e = .returned (.tuple #[]) ∧ Kp (fun b => b = bt) w w' ∧ w'.heap.size = w.heap.size ∧ w'.rowIs bt 5 nt (By (plusRow f g c ot n)) := by
  go_enter Tryd.func144, Tryd.ntmps144
  go_wp2
  go_loopg [12] n (fun gk i wr => ∃ k : Nat, k ≤ n ∧ gk = n - k ∧ i = .int .i64 k ∧ Kp (fun b => b = bt) w wr ∧ wr.heap.size = w.heap.size ∧ wr.rowIs bt 5 nt (By (plusRow f g c ot k)))
  case atStart => exact ⟨0, Nat.zero_le _, rfl, rfl, Kp.refl _ _, rfl, by rw [plusRow_zero]; exact ht⟩
  case round =>
    obtain ⟨k, hk, rfl, rfl, hK, hz, hR⟩ := hrel
    by_cases hlt : (k : Int) < (n : Int)
    · obtain rfl := hsrc k (by omega)
      have e1 := hK.cellv (hr k (by omega)) hne
      have e2 := hR.cell (i := ot + k) (by omega)
      have e3 := hR.frozen (ot + k)
      have l1 := hg k
      have l2 := hf (ot + k)
      have l3 := Gf.mul_lt (g k) c
      have hpr := hK.pows hp (fun e => hgl e.symm)
      simp only [By, plusRow_here] at e1 e2
      clear hr hsrc
      go_wp2
      go_region_with
        (first
          | (go_at_call 149; refine (mul_nat (g k) c _ (by omega) hc (by exact hpr.heap rfl)).mono ?_; rintro e w' ⟨rfl, m, rfl⟩)
          | (go_at_call 137; refine (add_nat (f (ot + k)) (Gf.mul (g k) c) _ (by omega) (by omega)).mono ?_; rintro e w' ⟨rfl, rfl⟩))
      all_goals go_wp2
      all_goals
        go_roundg (n - (k + 1))
        case rel => exact ⟨k + 1, by omega, rfl, by go_num, (hK.drewN _).setCell (fun _ => rfl) _, by simpa using hz, (rowIs_drewN hR _).set (ot + k) _ |>.congr (fun j _ => by
          simp only [By]
          rw [plusRow_succ]
          split <;> rfl)⟩
        case measure => omega
    · have e : k = n := by omega
      subst e
      go_wp2
      go_end0
      exact ⟨rfl, hK, hz, hR⟩

set_option maxRecDepth 100000 in
set_option maxHeartbeats 800000 in
theorem addTimes_none (to row : Value) (f g : Nat → Nat) (ot n : Nat) (nt bt : Nat) (w : World) (ht : w.rowIs bt 5 nt (By f)) :
    Calls Tryd.prog 144 #[to, row, .int .u8 0] w fun e w' =>
      e = .returned (.tuple #[]) ∧ Kp (fun b => b = bt) w w' ∧ w'.heap.size = w.heap.size ∧ w'.rowIs bt 5 nt (By (plusRow f g 0 ot n)) := by
  have hR : w.rowIs bt 5 nt (By (plusRow f g 0 ot n)) := by rw [plusRow_none]; exact ht
  have HR : Hid (w.rowIs bt 5 nt (By (plusRow f g 0 ot n))) := hR
  clear hR ht
  go_enter Tryd.func144, Tryd.ntmps144
  go_wp2
  refine bodyPost_ret (results_none rfl _ _ _) rfl ?_
  exact ⟨rfl, Kp.refl _ _, rfl, HR.out⟩

theorem addTimes_any (bt ot nt n' c1 : Nat) (src : Option Addr) (br ob n c2 : Nat) (f g : Nat → Nat) (c : Nat) (w : World) (hf : ∀ j, f j < 256) (hg : ∀ j, g j < 256) (hc : (c : Int) < 256)
    (ht : w.rowIs bt 5 nt (By f)) (hsrc : ∀ k, k < n → src = some ⟨br, ob, none⟩) (hr : ∀ k, k < n → w.cell? ⟨br, ob + k, none⟩ = some (.int .u8 ((g k : Nat) : Int))) (hne : br ≠ bt)
    (h1 : ot + n ≤ nt) (h2 : (n : Int) ≤ (n' : Int)) (hp : Pows w) (hgl : bt ≠ 1) (hn : (n : Int) ≤ 1000000) :
    Calls Tryd.prog 144 #[.slice (some ⟨bt, ot, none⟩) n' c1, .slice src n c2, .int .u8 c] w fun e w' =>
      e = .returned (.tuple #[]) ∧ Kp (fun b => b = bt) w w' ∧ w'.heap.size = w.heap.size ∧ w'.rowIs bt 5 nt (By (plusRow f g c ot n)) := by
  by_cases h : c = 0
  · subst h
    exact addTimes_none _ _ f g ot n nt bt w ht
  · exact addTimes_walk bt ot nt n' c1 src br ob n c2 f g c w hf hg hc ht hsrc hr hne h1 h2 hp hgl hn (beq_eq_false_iff_ne.2 (by omega))

set_option maxRecDepth 100000 in
set_option maxHeartbeats 800000 in
theorem scale_any (bt n cap : Nat) (f : Nat → Nat) (c : Nat) (w : World) (hf : ∀ j, f j < 256) (hc : (c : Int) < 256)
    (ht : w.rowIs bt 5 n (By f)) (hp : Pows w) (hgl : bt ≠ 1) (hn : (n : Int) ≤ 1000000) :
    Calls Tryd.prog 148 #[.slice (some ⟨bt, 0, none⟩) n cap, .int .u8 c] w fun e w' =>
      e = .returned (.tuple #[]) ∧ Kp (fun b => b = bt) w w' ∧ w'.heap.size = w.heap.size ∧ w'.rowIs bt 5 n (By (timesRow f c n)) := by
  go_enter Tryd.func148, Tryd.ntmps148
  go_wp2
  go_loopg [8] n (fun gk i wr => ∃ k : Nat, k ≤ n ∧ gk = n - k ∧ i = .int .i64 k ∧ Kp (fun b => b = bt) w wr ∧ wr.heap.size = w.heap.size ∧ wr.rowIs bt 5 n (By (timesRow f c k)))
  case atStart => exact ⟨0, Nat.zero_le _, rfl, rfl, Kp.refl _ _, rfl, by rw [timesRow_zero]; exact ht⟩
  case round =>
    obtain ⟨k, hk, rfl, rfl, hK, hz, hR⟩ := hrel
    by_cases hlt : (k : Int) < (n : Int)
    · have e2 := hR.cell (i := k) (by omega)
      have e3 := hR.frozen k
      have l2 := hf k
      have hpr := hK.pows hp (fun e => hgl e.symm)
      simp only [By, timesRow_here] at e2
      go_wp2_with (go_at_call 149; refine (mul_nat (f k) c _ (by omega) hc hpr).mono ?_; rintro e w' ⟨rfl, m, rfl⟩)
      go_roundg (n - (k + 1))
      case rel => exact ⟨k + 1, by omega, rfl, by go_num, (hK.drewN _).setCell (fun _ => rfl) _, by simpa using hz, (rowIs_drewN hR _).set k _ |>.congr (fun j _ => by
          simp only [By]
          rw [timesRow_succ]
          split <;> rfl)⟩
      case measure => omega
    · have e : k = n := by omega
      subst e
      go_wp2
      go_end0
      exact ⟨rfl, hK, hz, hR⟩

/-- the headers, when r rows are made -/
def heads (N C r : Nat) : Nat → Value := fun j => if j < r then .slice (some ⟨N + 1 + j, 0, none⟩) C C else .slice none 0 0
theorem heads_succ (N C r j : Nat) : heads N C (r + 1) j = if j = r then .slice (some ⟨N + 1 + r, 0, none⟩) C C else heads N C r j := by
  unfold heads
  by_cases e : j = r
  · subst e; rw [if_pos (by omega), if_pos rfl]
  · rw [if_neg e]
    by_cases h : j < r
    · rw [if_pos h, if_pos (by omega)]
    · rw [if_neg h, if_neg (by omega)]

set_option maxRecDepth 100000 in
set_option maxHeartbeats 800000 in
theorem noughts_any (R C : Nat) (w : World) (hR : (R : Int) ≤ 1000) (hC : (C : Int) ≤ 1000) :
    Calls Tryd.prog 143 #[.int .i64 R, .int .i64 C] w fun e w' =>
      e = .returned (.slice (some ⟨w.heap.size, 0, none⟩) R R) ∧ Kp (fun _ => False) w w' ∧ w'.heap.size = w.heap.size + 1 + R ∧ Mat w' w.heap.size (fun i => w.heap.size + 1 + i) R C (fun _ _ => 0) := by
  have hmk1 := run_make_row' (P := Tryd.prog) 27 22 (.slice none 0 0) 24 Tryd.underlying27 info42 rfl .i64 .i64 R (by omega) (by omega)
  go_enter Tryd.func143, Tryd.ntmps143
  go_wp2
  clear hmk1
  go_loopg [11] R (fun gk i wr => ∃ r : Nat, r ≤ R ∧ gk = R - r ∧ i = .int .i64 r ∧ Kp (fun _ => False) w wr ∧ wr.heap.size = w.heap.size + 1 + r ∧ wr.rowIs w.heap.size 22 R (heads w.heap.size C r) ∧ ∀ j, j < r → wr.rowIs (w.heap.size + 1 + j) 5 C (fun _ => .int .u8 0))
  case atStart => exact ⟨0, Nat.zero_le _, rfl, rfl, (Kp.refl _ _).alloc _, by simp, (World.rowIs_made w _ R 22).congr (fun j _ => by simp [heads]), fun j hj => absurd hj (Nat.not_lt_zero _)⟩
  case round =>
    obtain ⟨r, hr, rfl, rfl, hK, hz, hT, hD⟩ := hrel
    by_cases hlt : (r : Int) < (R : Int)
    · have hmk2 := run_make_row' (P := Tryd.prog) 22 5 (.int .u8 0) 1 Tryd.underlying22 info5 rfl .i64 .i64 C (by omega) (by omega)
      have hst1 : ∀ o, (wr.alloc o).cell? ⟨w.heap.size, r, none⟩ = some (heads w.heap.size C r r) := fun o => (hT.alloc o).cell (by omega)
      have hst2 : ∀ o, (wr.alloc o).frozen? ⟨w.heap.size, r, none⟩ = false := fun o => (hT.alloc o).frozen r
      go_wp2
      have hnew := World.rowIs_made wr (.int .u8 0) C 5
      rw [hz] at hnew
      clear hmk2 hst1 hst2
      go_roundg (R - (r + 1))
      case rel => exact ⟨r + 1, by omega, rfl, by go_num, (hK.alloc _).setCell (fun h => absurd h (Nat.lt_irrefl _)) _, by simp [hz]; omega,
        ((hT.alloc _).set r _).congr (fun j _ => by rw [heads_succ]), fun j hj => by
          by_cases e : j = r
          · subst e
            exact hnew.setOther (by show w.heap.size + 1 + j ≠ w.heap.size; omega) _
          · exact ((hD j (by omega)).alloc _).setOther (by show w.heap.size + 1 + j ≠ w.heap.size; omega) _⟩
      case measure => omega
    · have e : r = R := by omega
      subst e
      go_wp2
      go_ret
      exact ⟨rfl, hK, hz, hT.congr (fun j hj => by simp [heads, hj]), hD, fun i j _ _ h => by omega, fun i _ => by omega, fun _ _ => by omega⟩
end Go.Proofs.YtmncocmeafcpfaaDoor.Mf
