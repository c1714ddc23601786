/- The walk of the law MatrixSingular: a matrix with a row twice has no inverse. -/
import Derived.Test.YtolgpepnjinfgacDoorM11
import Derived.StillTailTactics
namespace Go.Proofs.YtolgpepnjinfgacDoor
open Go.RowKit Go.Deep

/-- how many each way: from 2 to 6; which row is written over -/
def nn5 (n : Int) : Nat := 2 + ((n % 18446744073709551616) % 5).toNat
theorem nn5_bd (n : Int) : 2 ≤ nn5 n ∧ nn5 n ≤ 6 := by unfold nn5; omega
theorem nn5_eq (n : Int) : wrap64 (2 + wrap64 ((IntKind.u64.wrap n).tmod 5)) = (nn5 n : Int) := by
  have e : IntKind.u64.wrap n = n % 18446744073709551616 := by simp [IntKind.wrap, IntKind.bits, IntKind.signed]
  rw [e, Int.tmod_eq_emod_of_nonneg (by omega)]
  unfold wrap64 nn5; omega
def ix (i : Int) (N : Nat) : Nat := ((i % 18446744073709551616) % (N : Int)).toNat
theorem ix_lt (i : Int) (N : Nat) (h : 1 ≤ N) : ix i N < N := by
  unfold ix
  have h1 : 0 < (N : Int) := by omega
  have h2 := Int.emod_lt_of_pos (i % 18446744073709551616) h1
  have h3 := Int.emod_nonneg (i % 18446744073709551616) (show (N : Int) ≠ 0 by omega)
  omega
theorem ix_eq (i : Int) (N : Nat) (h1 : 1 ≤ N) (h2 : N ≤ 6) : wrap64 ((IntKind.u64.wrap i).tmod (N : Int)) = (ix i N : Int) := by
  have e : IntKind.u64.wrap i = i % 18446744073709551616 := by simp [IntKind.wrap, IntKind.bits, IntKind.signed]
  rw [e, Int.tmod_eq_emod_of_nonneg (by omega)]
  have h3 : 0 < (N : Int) := by omega
  have h4 := Int.emod_lt_of_pos (i % 18446744073709551616) h3
  have h5 := Int.emod_nonneg (i % 18446744073709551616) (show (N : Int) ≠ 0 by omega)
  unfold wrap64 ix
  omega

theorem next_row (I N : Nat) (h : I < N) (h2 : 2 ≤ N) : ∃ q : Nat, ((I : Int) + 1) % (N : Int) = (q : Int) ∧ ((I : Int) + 1).tmod (N : Int) = (q : Int) ∧ (q : Int) < (N : Int) ∧ I ≠ q := by
  have e : ((I : Int) + 1).tmod (N : Int) = ((I : Int) + 1) % (N : Int) := Int.tmod_eq_emod_of_nonneg (by omega)
  by_cases hl : I + 1 < N
  · have e2 : ((I : Int) + 1) % (N : Int) = ((I + 1 : Nat) : Int) := by rw [Int.emod_eq_of_lt (by omega) (by omega)]; omega
    exact ⟨I + 1, e2, e.trans e2, by omega, by omega⟩
  · have hN : N = I + 1 := by omega
    have e2 : ((I : Int) + 1) % (N : Int) = ((0 : Nat) : Int) := by rw [show ((I : Int) + 1) = (N : Int) from by omega, Int.emod_self]; rfl
    exact ⟨0, e2, e.trans e2, by omega, by omega⟩

/-- a matrix, one row written over by another -/
def twice (M : Nat → Nat → Nat) (I q : Nat) : Nat → Nat → Nat := fun r => if r = I then M q else M r

set_option maxRecDepth 100000 in
set_option maxHeartbeats 1600000 in
theorem singular_walk (a : Value) (la : Nat) (fa : Nat → Nat) (n i : Int) (w : World) (ha : Bs w a la fa) (hp : Pows w) :
    Calls Tryd.prog 3 #[a, .int .i64 n, .int .i64 i] w fun e w' => e = .returned (.bool true) ∧ Kp (fun _ => False) w w' := by
  have HN : Hid (_ = _) := nn5_eq n
  obtain ⟨b1, b2⟩ := nn5_bd n
  have HI : Hid (_ = _) := ix_eq i (nn5 n) (by omega) b2
  have hI := ix_lt i (nn5 n) (by omega)
  go_enter Tryd.func3, Tryd.ntmps3
  go_wp2_with fail
  rw [HN.out]
  clear HN
  generalize nn5 n = N at *
  refine (squareX a la N fa _ ha (by omega) b2).mono ?_
  rintro e w1 ⟨tx, cx, Bx, rfl, k1, htx, hBx, mx⟩
  go_wp2
  rw [HI.out]
  clear HI
  generalize ix i N = I at *
  obtain ⟨q, hq1, hq2, hqN, hqI⟩ := next_row I N hI b1
  have hI' : (I : Int) < (N : Int) := by omega
  have c1 := mx.top I hI
  have c2 := mx.top q (by omega)
  have hrow := mx.row I hI
  have HQ : Hid (∀ j, j < N → w1.drew.cell? ⟨Bx q, 0 + j, none⟩ = some (.int .u8 ((sq fa la N q j : Nat) : Int))) := fun j hj => by
    have := (mx.row q (by omega)).cell hj
    rw [Nat.zero_add]
    exact this
  have HI : Hid (I ≠ q) := hqI
  clear hqI
  have hwr : IntKind.i64.wrap ((I : Int) + 1) = (I : Int) + 1 := by rw [IntKind.wrap_i64]; omega
  have hwq : IntKind.i64.wrap (q : Int) = (q : Int) := by rw [IntKind.wrap_i64]; omega
  have hn0 : ((N : Int) == 0) = false := beq_eq_false_iff_ne.2 (by omega)
  have hn1 : ¬ (N : Int) = 0 := by omega
  have hn2 : ¬ N = 0 := by omega
  go_still_tail 11, mixed
  refine wpList_copy_kp rfl (.tmp 27) (.tmp 34) 22 22 rfl 5 Tryd.underlying22 size5 (Bx I) N N (Bx q) 0 N N rfl rfl N 5 _ (sq fa la N q) (hrow.of_block rfl) (Nat.le_refl _) (Nat.le_refl _) HQ.out ?_
  intro w2 hK2 hz2 hR2
  have hk12 : Kp (fun _ => False) w w2 := k1.drew.trans hK2 (fun b hb e => by have := hBx I hI; omega)
  have m2 : Mt w2 tx Bx N N (twice (sq fa la N) I q) := ⟨fun r hr => hK2.cellv (mx.top r hr) (fun e => mx.ne I hI e.symm), fun r hr => by
      unfold twice
      by_cases e : r = I
      · subst e
        rw [if_pos rfl]
        exact hR2.congr (fun c hc => by simp only [By, overRow]; rw [if_pos hc])
      · rw [if_neg e]
        exact hK2.row (mx.row r hr) (fun e' => e (mx.inj r I hr hI e')), mx.inj, mx.ne, fun r c => by
      unfold twice
      split
      · exact mx.byte _ _
      · exact mx.byte _ _⟩
  have X := m2.mx cx
  have hp2 := hk12.pows hp id
  have HF : Hid (∀ W, ¬ El (twice (sq fa la N) I q) N N W) := fun W hE => twice_none hI (by omega) HI.out (fun c => by unfold twice; rw [if_pos rfl, if_neg (fun e => HI.out e.symm)]) (hE.inverse m2.byte).1
  clear hK2 hz2 hR2 mx m2 hrow c1 c2 hq1 hq2 hwr hwq
  go_wp2_with fail
  refine (invertX _ N _ w2 X (by omega) (by omega) hp2).mono ?_
  rintro e w3 ⟨hK3, ⟨rfl, _⟩ | ⟨t, W, rfl, hE, _⟩⟩
  · go_wp2
    go_ret
    exact ⟨rfl, hk12.trans hK3 (fun _ _ e => e)⟩
  · exact absurd hE (HF.out W)
end Go.Proofs.YtolgpepnjinfgacDoor
