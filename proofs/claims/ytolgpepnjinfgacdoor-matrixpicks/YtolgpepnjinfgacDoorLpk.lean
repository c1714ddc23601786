/- The walk of the law MatrixPicks: rows of ones, times a matrix, are its rows. -/
import Derived.Test.YtolgpepnjinfgacDoorM7
import Derived.Test.YtolgpepnjinfgacDoorFr
import Derived.Maps.AppendAt
namespace Go.Proofs.YtolgpepnjinfgacDoor
open Go.RowKit Go.Deep

theorem info3 : (Tryd.prog.info? 3).map (fun i => (i.zero, i.size, i.bytes)) = some (some (.int .i64 0), 1, 8) := by kernel_rfl

/-- which rows are picked -/
def pk (z : Nat → Int) (N : Nat) : Nat → Nat := fun j => if j = 0 then 0 else ((z (j - 1) % 18446744073709551616) % (N : Int)).toNat
theorem pk_lt (z : Nat → Int) (N : Nat) (h : 1 ≤ N) (j : Nat) : pk z N j < N := by
  unfold pk; split
  · omega
  · have h1 : 0 < (N : Int) := by omega
    have h2 := Int.emod_lt_of_pos (z (j - 1) % 18446744073709551616) h1
    have h3 := Int.emod_nonneg (z (j - 1) % 18446744073709551616) (show (N : Int) ≠ 0 by omega)
    omega
def pks (z : Nat → Int) (N m : Nat) : List Value := (List.range m).map fun j => .int .i64 ((pk z N j : Nat) : Int)
theorem pks_length (z : Nat → Int) (N m : Nat) : (pks z N m).length = m := by simp [pks]
theorem pks_succ (z : Nat → Int) (N m : Nat) : pks z N (m + 1) = pks z N m ++ [.int .i64 ((pk z N m : Nat) : Int)] := by
  unfold pks; rw [List.range_succ, List.map_append]; rfl
theorem pks_at (z : Nat → Int) (N : Nat) {m j : Nat} (h : j < m) : (pks z N m)[j]? = some (.int .i64 ((pk z N j : Nat) : Int)) := by
  unfold pks; rw [List.getElem?_map, List.getElem?_range h]; rfl

theorem pks_one (z : Nat → Int) (N : Nat) : pks z N 1 = [.int .i64 0] := rfl
theorem picks_start (w : World) (z : Nat → Int) (N : Nat) (_h : 1 ≤ N) : (w.alloc (.cells #[.int .i64 0] 3)).ownsRow w.heap.size 3 1 (.slice (some ⟨w.heap.size, 0, none⟩) 1 1) (0 + 1) (pks z N (0 + 1)) :=
  ⟨by simp [pks], Or.inr ⟨w.heap.size, 1, #[.int .i64 0], rfl, Nat.le_refl _, by show (w.heap.push _)[w.heap.size]? = _; simp, Nat.le_refl _, by unfold maxLen; omega, rfl, rfl⟩⟩
theorem picks_read {w : World} {base : Nat} {v : Value} {m : Nat} {z : Nat → Int} {N : Nat} (h : w.ownsRow base 3 1 v (m + 1) (pks z N (m + 1))) :
    ∃ g cap, v = .slice (some ⟨g, 0, none⟩) (m + 1) cap ∧ base ≤ g ∧ ∀ j, j < m + 1 → w.cell? ⟨g, j, none⟩ = some (.int .i64 ((pk z N j : Nat) : Int)) := by
  rcases h.2 with ⟨_, h0⟩ | ⟨g, cap, cur, rfl, hb, hh, hn, _, hcs, htk⟩
  · omega
  · refine ⟨g, cap, rfl, hb, fun i hi => ?_⟩
    have h1 : (cur.toList.take ((m + 1) * 1))[i]? = some (.int .i64 ((pk z N i : Nat) : Int)) := by rw [htk]; exact pks_at z N hi
    rw [List.getElem?_take_of_lt (by omega), Array.getElem?_toList] at h1
    simp [World.cell?, hh, h1]
theorem pk_val (z : Nat → Int) (N k : Nat) (h1 : 1 ≤ N) (h2 : N ≤ 6) : wrap64 ((IntKind.u64.wrap (z k)).tmod (N : Int)) = ((pk z N (k + 1) : Nat) : Int) := by
  have e : IntKind.u64.wrap (z k) = z k % 18446744073709551616 := by simp [IntKind.wrap, IntKind.bits, IntKind.signed]
  rw [e, Int.tmod_eq_emod_of_nonneg (by omega)]
  have h3 : 0 < (N : Int) := by omega
  have h4 := Int.emod_lt_of_pos (z k % 18446744073709551616) h3
  have h5 := Int.emod_nonneg (z k % 18446744073709551616) (show (N : Int) ≠ 0 by omega)
  unfold wrap64 pk
  rw [if_neg (by omega), Nat.add_sub_cancel]
  omega

set_option maxRecDepth 100000 in
set_option maxHeartbeats 1600000 in
theorem picks_many (a : Value) (la : Nat) (fa : Nat → Nat) (n : Int) (bl ol ll cl : Nat) (z : Nat → Int) (w : World) (ha : Bs w a la fa) (hl : ∀ j, j < ll → w.cell? ⟨bl, ol + j, none⟩ = some (.int .i64 (z j))) (hcap : (ll : Int) ≤ (cl : Int)) (h20 : 20 < (ll : Int)) (hp : Pows w) :
    Calls Tryd.prog 4 #[a, .int .i64 n, .slice (some ⟨bl, ol, none⟩) ll cl] w fun e w' => e = .returned (.bool true) ∧ Kp (fun _ => False) w w' := by
  have HN : Hid (_ = _) := nn6_eq n
  obtain ⟨b1, b2⟩ := nn6_bd n
  go_enter Tryd.func4, Tryd.ntmps4
  go_wp2_with fail
  rw [HN.out]
  clear HN
  generalize nn6 n = N at *
  refine (squareX a la N fa _ ha b1 b2).mono ?_
  rintro e w1 ⟨tx, cx, Bx, rfl, k1, htx, hBx, mx⟩
  have X := mx.mx cx
  have Q0 := picks_start w1 z N b1
  obtain ⟨ti, hi, hz0, hz1, hz2⟩ := info_parts info3
  go_wp2
  go_loopg [8, 34] 20 (fun gk v i wr => ∃ k : Nat, k ≤ 20 ∧ gk = 20 - k ∧ i = .int .i64 k ∧ Kp (fun _ => False) w1 wr ∧ wr.ownsRow w1.heap.size 3 1 v (k + 1) (pks z N (k + 1)))
  case atStart => exact ⟨0, Nat.zero_le _, rfl, rfl, (Kp.refl _ _).alloc _, Q0⟩
  case round =>
    obtain ⟨k, hk, rfl, rfl, hK, hO⟩ := hrel
    clear Q0
    by_cases hlt : (k : Int) < 20
    · have hcell := hK.cellv (k1.cellv (hl k (by omega)) id) id
      have HV : Hid (_ = _) := pk_val z N k b1 b2
      go_wp2_with (at_builtin; rw [HV.out]; go_must (refine wpList_append_own_at _ rfl _ _ 30 rfl w1.heap.size 3 ti (.int .i64 0) 1 8 Tryd.underlying30 hi hz0 hz1 hz2 rfl (by decide) _ _ _ rfl (hO.alloc _) ⟨wr.heap.size, 0, none⟩ 1 1 [.int .i64 ((pk z N (k + 1) : Nat) : Int)] rfl rfl (cell_one_new _ _ _) (fun x hx => by simp at hx; subst hx; rfl) (by unfold maxLen; omega) (by omega) (by simp; have := hK.size; omega) ?_); intro v' w3 hown' hgrow3 hnil3 hblk3)
      go_roundg (20 - (k + 1))
      case rel => exact ⟨k + 1, by omega, rfl, by go_num, Kp.trans (hK.alloc _) (grownBy_kp hgrow3) (fun b hb e => by have := ownBlock_lt hO e; omega), by rw [pks_succ]; exact hown'⟩
      case measure => omega
    · have e : k = 20 := by omega
      subst e
      obtain ⟨g, cp, rfl, hg, hc⟩ := picks_read hO
      replace X := X.keep hK
      have hpr := (k1.trans hK (fun _ _ e => e)).pows hp id
      go_wp2_with fail
      refine (identityX N _ b1 (by omega)).mono ?_
      rintro e w3 ⟨vo, rfl, k3, Om⟩
      replace X := X.keep k3
      go_wp2_with fail
      refine (rowsX vo _ N N (20 + 1) (ones N) (pk z N) w3 Om ⟨_, _, _, _, rfl, fun _ _ => rfl, fun j hj => by simpa using k3.cellv (hc j hj) id⟩ (fun j _ => pk_lt z N b1 j) b1 (by omega) b1 (by omega) (by omega) (by omega)).mono ?_
      rintro e w4 ⟨vr, rfl, k4, Rm⟩
      replace X := X.keep k4
      have hp4 := k4.pows (k3.pows hpr id) id
      go_wp2_with fail
      refine (mulX _ _ (20 + 1) N N _ _ _ Rm X (by omega) (by omega) b1 (by omega) b1 (by omega) hp4).mono ?_
      rintro e w5 ⟨vp, rfl, k5, Pm⟩
      replace X := X.keep k5
      go_wp2_with fail
      refine (rowsX _ _ N N (20 + 1) _ (pk z N) w5 X ⟨_, _, _, _, rfl, fun _ _ => rfl, fun j hj => by simpa using k5.cellv (k4.cellv (k3.cellv (hc j hj) id) id) id⟩ (fun j _ => pk_lt z N b1 j) b1 (by omega) b1 (by omega) (by omega) (by omega)).mono ?_
      rintro e w6 ⟨vq, rfl, k6, Qm⟩
      replace Pm := Pm.keep k6
      have HE : Hid (∀ i, i < 20 + 1 → ∀ j, j < N → prodTo (fun r => ones N (pk z N r)) (sq fa la N) N i j = sq fa la N (pk z N i) j) := fun i _ j _ => ones_prod (sq fa la N) mx.byte N (pk z N i) j (pk_lt z N b1 i)
      have hlen := Pm
      obtain ⟨s, rfl, _, hsG, _⟩ := hlen
      rw [hsG] at Pm ⊢
      have kk := ((((k1.trans hK (fun _ _ e => e)).trans k3 (fun _ _ e => e)).trans k4 (fun _ _ e => e)).trans k5 (fun _ _ e => e)).trans k6 (fun _ _ e => e)
      clear hsG X mx Om Rm
      go_wp2_with fail
      refine (sameX _ _ (20 + 1) N _ _ _ Pm Qm HE.out (by omega)).mono ?_
      rintro e w' ⟨rfl, hw⟩
      obtain rfl := hw.symm
      go_wp2_with fail
      go_ret
      exact ⟨rfl, kk⟩

set_option maxRecDepth 100000 in
set_option maxHeartbeats 1600000 in
theorem picks_some (a : Value) (la : Nat) (fa : Nat → Nat) (n : Int) (bl ol ll cl : Nat) (z : Nat → Int) (w : World) (ha : Bs w a la fa) (hl : ∀ j, j < ll → w.cell? ⟨bl, ol + j, none⟩ = some (.int .i64 (z j))) (hcap : (ll : Int) ≤ (cl : Int)) (h20 : (ll : Int) ≤ 20) (hp : Pows w) :
    Calls Tryd.prog 4 #[a, .int .i64 n, .slice (some ⟨bl, ol, none⟩) ll cl] w fun e w' => e = .returned (.bool true) ∧ Kp (fun _ => False) w w' := by
  have HN : Hid (_ = _) := nn6_eq n
  obtain ⟨b1, b2⟩ := nn6_bd n
  go_enter Tryd.func4, Tryd.ntmps4
  go_wp2_with fail
  rw [HN.out]
  clear HN
  generalize nn6 n = N at *
  refine (squareX a la N fa _ ha b1 b2).mono ?_
  rintro e w1 ⟨tx, cx, Bx, rfl, k1, htx, hBx, mx⟩
  have X := mx.mx cx
  have Q0 := picks_start w1 z N b1
  obtain ⟨ti, hi, hz0, hz1, hz2⟩ := info_parts info3
  go_wp2
  go_loopg [8, 34] ll (fun gk v i wr => ∃ k : Nat, k ≤ ll ∧ gk = ll - k ∧ i = .int .i64 k ∧ Kp (fun _ => False) w1 wr ∧ wr.ownsRow w1.heap.size 3 1 v (k + 1) (pks z N (k + 1)))
  case atStart => exact ⟨0, Nat.zero_le _, rfl, rfl, (Kp.refl _ _).alloc _, Q0⟩
  case round =>
    obtain ⟨k, hk, rfl, rfl, hK, hO⟩ := hrel
    clear Q0
    by_cases hlt : (k : Int) < (ll : Int)
    · have hcell := hK.cellv (k1.cellv (hl k (by omega)) id) id
      have HV : Hid (_ = _) := pk_val z N k b1 b2
      go_wp2_with (at_builtin; rw [HV.out]; go_must (refine wpList_append_own_at _ rfl _ _ 30 rfl w1.heap.size 3 ti (.int .i64 0) 1 8 Tryd.underlying30 hi hz0 hz1 hz2 rfl (by decide) _ _ _ rfl (hO.alloc _) ⟨wr.heap.size, 0, none⟩ 1 1 [.int .i64 ((pk z N (k + 1) : Nat) : Int)] rfl rfl (cell_one_new _ _ _) (fun x hx => by simp at hx; subst hx; rfl) (by unfold maxLen; omega) (by omega) (by simp; have := hK.size; omega) ?_); intro v' w3 hown' hgrow3 hnil3 hblk3)
      go_roundg (ll - (k + 1))
      case rel => exact ⟨k + 1, by omega, rfl, by go_num, Kp.trans (hK.alloc _) (grownBy_kp hgrow3) (fun b hb e => by have := ownBlock_lt hO e; omega), by rw [pks_succ]; exact hown'⟩
      case measure => omega
    · have e : k = ll := by omega
      subst e
      obtain ⟨g, cp, rfl, hg, hc⟩ := picks_read hO
      replace X := X.keep hK
      have hpr := (k1.trans hK (fun _ _ e => e)).pows hp id
      go_wp2_with fail
      refine (identityX N _ b1 (by omega)).mono ?_
      rintro e w3 ⟨vo, rfl, k3, Om⟩
      replace X := X.keep k3
      go_wp2_with fail
      refine (rowsX vo _ N N (k + 1) (ones N) (pk z N) w3 Om ⟨_, _, _, _, rfl, fun _ _ => rfl, fun j hj => by simpa using k3.cellv (hc j hj) id⟩ (fun j _ => pk_lt z N b1 j) b1 (by omega) b1 (by omega) (by omega) (by omega)).mono ?_
      rintro e w4 ⟨vr, rfl, k4, Rm⟩
      replace X := X.keep k4
      have hp4 := k4.pows (k3.pows hpr id) id
      go_wp2_with fail
      refine (mulX _ _ (k + 1) N N _ _ _ Rm X (by omega) (by omega) b1 (by omega) b1 (by omega) hp4).mono ?_
      rintro e w5 ⟨vp, rfl, k5, Pm⟩
      replace X := X.keep k5
      go_wp2_with fail
      refine (rowsX _ _ N N (k + 1) _ (pk z N) w5 X ⟨_, _, _, _, rfl, fun _ _ => rfl, fun j hj => by simpa using k5.cellv (k4.cellv (k3.cellv (hc j hj) id) id) id⟩ (fun j _ => pk_lt z N b1 j) b1 (by omega) b1 (by omega) (by omega) (by omega)).mono ?_
      rintro e w6 ⟨vq, rfl, k6, Qm⟩
      replace Pm := Pm.keep k6
      have HE : Hid (∀ i, i < k + 1 → ∀ j, j < N → prodTo (fun r => ones N (pk z N r)) (sq fa la N) N i j = sq fa la N (pk z N i) j) := fun i _ j _ => ones_prod (sq fa la N) mx.byte N (pk z N i) j (pk_lt z N b1 i)
      have hlen := Pm
      obtain ⟨s, rfl, _, hsG, _⟩ := hlen
      rw [hsG] at Pm ⊢
      have kk := ((((k1.trans hK (fun _ _ e => e)).trans k3 (fun _ _ e => e)).trans k4 (fun _ _ e => e)).trans k5 (fun _ _ e => e)).trans k6 (fun _ _ e => e)
      clear hsG X mx Om Rm
      go_wp2_with fail
      refine (sameX _ _ (k + 1) N _ _ _ Pm Qm HE.out (by omega)).mono ?_
      rintro e w' ⟨rfl, hw⟩
      obtain rfl := hw.symm
      go_wp2_with fail
      go_ret
      exact ⟨rfl, kk⟩

set_option maxRecDepth 100000 in
set_option maxHeartbeats 1600000 in
theorem picks_none (a : Value) (la : Nat) (fa : Nat → Nat) (n : Int) (pl : Option Addr) (cl : Nat) (z : Nat → Int) (w : World) (ha : Bs w a la fa) (hp : Pows w) :
    Calls Tryd.prog 4 #[a, .int .i64 n, .slice pl 0 cl] w fun e w' => e = .returned (.bool true) ∧ Kp (fun _ => False) w w' := by
  have HN : Hid (_ = _) := nn6_eq n
  obtain ⟨b1, b2⟩ := nn6_bd n
  go_enter Tryd.func4, Tryd.ntmps4
  go_wp2_with fail
  rw [HN.out]
  clear HN
  generalize nn6 n = N at *
  refine (squareX a la N fa _ ha b1 b2).mono ?_
  rintro e w1 ⟨tx, cx, Bx, rfl, k1, htx, hBx, mx⟩
  have X := mx.mx cx
  have Q0 := picks_start w1 z N b1
  obtain ⟨ti, hi, hz0, hz1, hz2⟩ := info_parts info3
  go_wp2
  go_loopg [8, 34] 0 (fun gk v i wr => ∃ k : Nat, k ≤ 0 ∧ gk = 0 - k ∧ i = .int .i64 k ∧ Kp (fun _ => False) w1 wr ∧ wr.ownsRow w1.heap.size 3 1 v (k + 1) (pks z N (k + 1)))
  case atStart => exact ⟨0, Nat.zero_le _, rfl, rfl, (Kp.refl _ _).alloc _, Q0⟩
  case round =>
    obtain ⟨k, hk, rfl, rfl, hK, hO⟩ := hrel
    clear Q0
    by_cases hlt : (k : Int) < 0
    · omega
    · have e : k = 0 := by omega
      subst e
      obtain ⟨g, cp, rfl, hg, hc⟩ := picks_read hO
      replace X := X.keep hK
      have hpr := (k1.trans hK (fun _ _ e => e)).pows hp id
      go_wp2_with fail
      refine (identityX N _ b1 (by omega)).mono ?_
      rintro e w3 ⟨vo, rfl, k3, Om⟩
      replace X := X.keep k3
      go_wp2_with fail
      refine (rowsX vo _ N N (0 + 1) (ones N) (pk z N) w3 Om ⟨_, _, _, _, rfl, fun _ _ => rfl, fun j hj => by simpa using k3.cellv (hc j hj) id⟩ (fun j _ => pk_lt z N b1 j) b1 (by omega) b1 (by omega) (by omega) (by omega)).mono ?_
      rintro e w4 ⟨vr, rfl, k4, Rm⟩
      replace X := X.keep k4
      have hp4 := k4.pows (k3.pows hpr id) id
      go_wp2_with fail
      refine (mulX _ _ (0 + 1) N N _ _ _ Rm X (by omega) (by omega) b1 (by omega) b1 (by omega) hp4).mono ?_
      rintro e w5 ⟨vp, rfl, k5, Pm⟩
      replace X := X.keep k5
      go_wp2_with fail
      refine (rowsX _ _ N N (0 + 1) _ (pk z N) w5 X ⟨_, _, _, _, rfl, fun _ _ => rfl, fun j hj => by simpa using k5.cellv (k4.cellv (k3.cellv (hc j hj) id) id) id⟩ (fun j _ => pk_lt z N b1 j) b1 (by omega) b1 (by omega) (by omega) (by omega)).mono ?_
      rintro e w6 ⟨vq, rfl, k6, Qm⟩
      replace Pm := Pm.keep k6
      have HE : Hid (∀ i, i < 0 + 1 → ∀ j, j < N → prodTo (fun r => ones N (pk z N r)) (sq fa la N) N i j = sq fa la N (pk z N i) j) := fun i _ j _ => ones_prod (sq fa la N) mx.byte N (pk z N i) j (pk_lt z N b1 i)
      have hlen := Pm
      obtain ⟨s, rfl, _, hsG, _⟩ := hlen
      rw [hsG] at Pm ⊢
      have kk := ((((k1.trans hK (fun _ _ e => e)).trans k3 (fun _ _ e => e)).trans k4 (fun _ _ e => e)).trans k5 (fun _ _ e => e)).trans k6 (fun _ _ e => e)
      clear hsG X mx Om Rm
      go_wp2_with fail
      refine (sameX _ _ (0 + 1) N _ _ _ Pm Qm HE.out (by omega)).mono ?_
      rintro e w' ⟨rfl, hw⟩
      obtain rfl := hw.symm
      go_wp2_with fail
      go_ret
      exact ⟨rfl, kk⟩

end Go.Proofs.YtolgpepnjinfgacDoor
