/- Texts of this proof, joined: MfGa, MfMem, MfM1, MfM2. -/
import Derived.Test.YtmncocmeafcpfaaDoorProg
import Derived.Test.YtmncocmeafcpfaaDoorMgAB
import Derived.WalkKit
import Derived.WalkSpells
import Derived.Deep.QuietTactic
import Derived.BigQuiet
import Derived.RowKit3
import Derived.Test.YtmncocmeafcpfaaDoorMgAA
import Derived.Deep.OwnRows
import Derived.Deep.LoopGhost
import Derived.Deep.RegionHeld3
import Derived.Deep.Light
import Derived.Laws.CopyOwn
import Derived.OwnWalk
/- The walks of galois.remainder, Mul, Pow, Add, Div and Inv: each returns what the field of Gf has, given that the table of powers lies in memory; nothing in memory changes. -/
namespace Go.Proofs.YtmncocmeafcpfaaDoor.Mf
open Go.RowKit

/-- the table of powers lies in memory -/
def Pows (w : World) : Prop := ∀ k : Nat, k < 15 → w.cell? ⟨1, k, none⟩ = some (.int .u8 (Gf.pw k))
theorem Pows.drewN {w : World} (h : Pows w) (n : Nat) : Pows (w.drewN n) := fun k hk => by
  have := h k hk
  go_simp
theorem drewN_add (w : World) (n m : Nat) : (w.drewN n).drewN m = w.drewN (n + m) := by
  first | rfl | simp

set_option maxRecDepth 100000 in
set_option maxHeartbeats 400000 in
theorem rem_any (x : Nat) (w : World) (hx : (x : Int) < 32768) (hp : Pows w) :
    Calls Tryd.prog 154 #[.int .u64 x] w fun e w' => e = .returned (.int .u8 (Gf.rm x 15)) ∧ ∃ n, w' = w.drewN n := by
  go_enter Tryd.func154, Tryd.ntmps154
  go_wp2
  go_loopw [3, 5] (fun s i w' => ∃ k : Nat, k ≤ 15 ∧ i = .int .i64 k ∧ s = .int .u8 (Gf.rm x k) ∧ ∃ n, w' = w.drewN n) (fun _ i _ => 15 - (intOf i).toNat)
  case atStart => exact ⟨0, Nat.zero_le _, rfl, rfl, 0, rfl⟩
  case round =>
    obtain ⟨k, hk, rfl, rfl, n, rfl⟩ := hrel
    by_cases hlt : (k : Int) < 15
    · have hc := hp k (by omega)
      have HS : Hid (_ = _) := rem_step x k (by omega) (by omega)
      go_wp2
      go_quiet (fail)
      rw [HS.out]
      go_wp2
      go_roundw
      case rel => exact ⟨k + 1, by omega, by go_num, rfl, n + nq, rfl⟩
      case measure => simp [intOf]; omega
    · have e : k = 15 := by omega
      subst e
      go_wp2
      go_ret
      exact ⟨rfl, n, rfl⟩

set_option maxRecDepth 100000 in
set_option maxHeartbeats 400000 in
theorem mul_nat (a b : Nat) (w : World) (ha : (a : Int) < 256) (hb : (b : Int) < 256) (hp : Pows w) :
    Calls Tryd.prog 149 #[.int .u8 a, .int .u8 b] w fun e w' => e = .returned (.int .u8 (Gf.mul a b)) ∧ ∃ n, w' = w.drewN n := by
  go_enter Tryd.func149, Tryd.ntmps149
  go_wp2
  go_loopw [5, 7] (fun s i w' => ∃ k : Nat, k ≤ 8 ∧ i = .int .i64 k ∧ s = .int .u64 (Gf.cl a b k) ∧ ∃ n, w' = w.drewN n) (fun _ i _ => 8 - (intOf i).toNat)
  case atStart => exact ⟨0, Nat.zero_le _, rfl, rfl, 0, rfl⟩
  case round =>
    obtain ⟨k, hk, rfl, rfl, n, rfl⟩ := hrel
    by_cases hlt : (k : Int) < 8
    · have HS : Hid (_ = _) := mul_step a b k (by omega) (by omega) (by omega)
      go_wp2
      go_quiet (fail)
      rw [HS.out]
      go_wp2
      go_roundw
      case rel => exact ⟨k + 1, by omega, by go_num, rfl, n + nq, rfl⟩
      case measure => simp [intOf]; omega
    · have e : k = 8 := by omega
      subst e
      have hl := cl_lt8 a b (by omega) 8 (by omega)
      go_wp2_with (go_at_call 154; refine (rem_any _ _ (by omega) (hp.drewN _)).mono ?_; rintro e w' ⟨rfl, m, rfl⟩)
      go_ret
      exact ⟨rfl, n + m, rfl⟩

theorem i64_odd (M : Nat) (hM : M < 9223372036854775808) : bits .and .i64 (M : Int) 1 = ((M % 2 : Nat) : Int) := by
  rw [show (1 : Int) = ((1 : Nat) : Int) from rfl, i64_and_nat _ _ hM (by omega), Nat.and_one_is_mod]

set_option maxRecDepth 100000 in
set_option maxHeartbeats 400000 in
theorem pow_nat (a N : Nat) (w : World) (ha : (a : Int) < 256) (hN : Hid (N < 9223372036854775808)) (hp : Pows w) :
    Calls Tryd.prog 153 #[.int .u8 a, .int .i64 N] w fun e w' => e = .returned (.int .u8 (Gf.pow a N)) ∧ ∃ n, w' = w.drewN n := by
  go_enter Tryd.func153, Tryd.ntmps153
  go_wp2
  go_loopw [0, 1, 5] (fun s i p w' => ∃ x y M : Nat, x < 256 ∧ y < 256 ∧ Hid (M < 9223372036854775808) ∧ s = .int .u8 x ∧ i = .int .i64 M ∧ p = .int .u8 y ∧ Hid (Gf.mul y (Gf.pow x M) = Gf.pow a N) ∧ ∃ n, w' = w.drewN n) (fun _ i _ _ => (intOf i).toNat)
  case atStart => exact ⟨a, 1, N, by omega, by omega, hN, rfl, rfl, rfl, Gf.one_mul _ (Gf.pow_lt a (by omega) N), 0, rfl⟩
  case round =>
    obtain ⟨x, y, M, hx, hy, hM, rfl, rfl, rfl, hr, n, rfl⟩ := hrel
    by_cases h0 : 0 < (M : Int)
    · have hodd := i64_odd M hM.out
      have hm1 := Gf.mul_lt y x
      have hm2 := Gf.mul_lt x x
      by_cases h1 : M % 2 = 1
      · have hb : (bits .and .i64 (M : Int) 1 == 1) = true := by rw [hodd, h1]; rfl
        have HP : Hid (_ = _) := Gf.pow_odd x y M hx hy h1
        clear hodd h1
        go_wp2_with (go_at_call 149; refine (mul_nat _ _ _ (by omega) (by omega) (hp.drewN _)).mono ?_; rintro e w' ⟨rfl, m, rfl⟩)
        exact ⟨⟨_, _, M / 2, hm2, by omega, Nat.lt_of_le_of_lt (Nat.div_le_self _ _) hM.out, rfl, by go_num, rfl, HP.out.trans hr.out, _, rfl⟩, by simp [intOf]; omega⟩
      · have hb : (bits .and .i64 (M : Int) 1 == 1) = false := by rw [hodd, show M % 2 = 0 from by omega]; rfl
        have HP : Hid (_ = _) := Gf.pow_even x y M hx (by omega)
        clear hodd h1
        go_wp2_with (go_at_call 149; refine (mul_nat _ _ _ (by omega) (by omega) (hp.drewN _)).mono ?_; rintro e w' ⟨rfl, m, rfl⟩)
        exact ⟨⟨_, _, M / 2, hm2, by omega, Nat.lt_of_le_of_lt (Nat.div_le_self _ _) hM.out, rfl, by go_num, rfl, HP.out.trans hr.out, _, rfl⟩, by simp [intOf]; omega⟩
    · have e : M = 0 := by omega
      subst e
      have H5 : Hid (y = Gf.pow a N) := by rw [← hr.out]; exact (Gf.mul_one y hy).symm
      go_wp2
      go_ret
      exact ⟨by rw [← H5.out]; rfl, n, rfl⟩

set_option maxRecDepth 100000 in
set_option maxHeartbeats 400000 in
theorem pow_none (a N : Int) (w : World) (hN : N ≤ 0) :
    Calls Tryd.prog 153 #[.int .u8 a, .int .i64 N] w fun e w' => e = .returned (.int .u8 1) ∧ ∃ n, w' = w.drewN n := by
  go_enter Tryd.func153, Tryd.ntmps153
  go_wp2
  go_loopw [0, 1, 5] (fun s i p w' => s = .int .u8 a ∧ i = .int .i64 N ∧ p = .int .u8 1 ∧ w' = w) (fun _ i _ _ => (intOf i).toNat)
  case atStart => exact ⟨rfl, rfl, rfl, rfl⟩
  case round =>
    obtain ⟨rfl, rfl, rfl, rfl⟩ := hrel
    go_wp2
    go_ret
    exact ⟨rfl, 0, rfl⟩

theorem pow_any (a : Nat) (N : Int) (w : World) (ha : (a : Int) < 256) (hN : Hid (N < 9223372036854775808)) (hp : Pows w) :
    Calls Tryd.prog 153 #[.int .u8 a, .int .i64 N] w fun e w' => e = .returned (.int .u8 (Gf.powI a N)) ∧ ∃ n, w' = w.drewN n := by
  by_cases h : N ≤ 0
  · have e : Gf.powI a N = 1 := by unfold Gf.powI; rw [Int.toNat_of_nonpos h]; rfl
    rw [e]
    exact pow_none a N w h
  · obtain ⟨M, rfl⟩ := Int.eq_ofNat_of_zero_le (show 0 ≤ N by omega)
    have := hN.out
    exact pow_nat a M w ha (show M < 9223372036854775808 by omega) hp

theorem mul_any (a b : Int) (w : World) (ha0 : 0 ≤ a) (ha : a < 256) (hb0 : 0 ≤ b) (hb : b < 256) (hp : Pows w) :
    Calls Tryd.prog 149 #[.int .u8 a, .int .u8 b] w fun e w' => e = .returned (.int .u8 (Gf.mul a.toNat b.toNat)) ∧ ∃ n, w' = w.drewN n := by
  obtain ⟨a, rfl⟩ := Int.eq_ofNat_of_zero_le ha0
  obtain ⟨b, rfl⟩ := Int.eq_ofNat_of_zero_le hb0
  exact mul_nat a b w ha hb hp
theorem u8_xor_cast (a b : Nat) (ha : (a : Int) < 256) (hb : (b : Int) < 256) : bits .xor .u8 (a : Int) (b : Int) = ((a ^^^ b : Nat) : Int) := u8_xor_nat a b (by omega) (by omega)

theorem add_nat (a b : Nat) (w : World) (ha : (a : Int) < 256) (hb : (b : Int) < 256) :
    Calls Tryd.prog 137 #[.int .u8 a, .int .u8 b] w fun e w' => e = .returned (.int .u8 ((a ^^^ b : Nat) : Int)) ∧ w' = w := by
  have H : Hid (_ = _) := u8_xor_cast a b ha hb
  go_enter Tryd.func137, Tryd.ntmps137
  go_wp2
  go_ret
  exact ⟨by rw [H.out]; rfl, rfl⟩

set_option maxRecDepth 100000 in
set_option maxHeartbeats 400000 in
theorem div_zero (a : Int) (w : World) :
    Calls Tryd.prog 147 #[.int .u8 a, .int .u8 0] w fun e w' => e = .returned (.tuple #[.int .u8 0, .int .i64 1]) ∧ ∃ n, w' = w.drewN n := by
  go_enter Tryd.func147, Tryd.ntmps147
  go_wp2
  go_ret2
  exact ⟨rfl, 0, rfl⟩

theorem powI_254 (b : Nat) : Gf.powI b 254 = Gf.inv b := rfl

set_option maxRecDepth 100000 in
set_option maxHeartbeats 400000 in
theorem div_any (a b : Int) (w : World) (ha0 : 0 ≤ a) (ha : a < 256) (hb0 : 0 < b) (hb : b < 256) (hp : Pows w) :
    Calls Tryd.prog 147 #[.int .u8 a, .int .u8 b] w fun e w' => e = .returned (.tuple #[.int .u8 (Gf.mul a.toNat (Gf.inv b.toNat)), .int .i64 0]) ∧ ∃ n, w' = w.drewN n := by
  obtain ⟨a, rfl⟩ := Int.eq_ofNat_of_zero_le ha0
  obtain ⟨b, rfl⟩ := Int.eq_ofNat_of_zero_le (show 0 ≤ b by omega)
  have hn : ((b : Int) == 0) = false := beq_eq_false_iff_ne.2 (by omega)
  have hi := Gf.inv_lt b (by omega)
  go_enter Tryd.func147, Tryd.ntmps147
  go_wp2_with (first
    | (go_at_call 153; refine (pow_any _ _ _ (by omega) (show (254 : Int) < 9223372036854775808 by omega) hp).mono ?_; rw [powI_254]; rintro e w' ⟨rfl, m, rfl⟩)
    | (go_at_call 149; refine (mul_nat _ _ _ (by omega) (by omega) (hp.drewN _)).mono ?_; rintro e w' ⟨rfl, m, rfl⟩))
  go_ret2
  exact ⟨rfl, _, rfl⟩

set_option maxRecDepth 100000 in
set_option maxHeartbeats 400000 in
theorem inv_zero (w : World) :
    Calls Tryd.prog 136 #[.int .u8 0] w fun e w' => e = .returned (.tuple #[.int .u8 0, .int .i64 1]) ∧ ∃ n, w' = w.drewN n := by
  go_enter Tryd.func136, Tryd.ntmps136
  go_wp2_with (go_at_call 147; refine (div_zero _ _).mono ?_; rintro e w' ⟨rfl, m, rfl⟩)
  go_ret2
  exact ⟨rfl, _, rfl⟩

theorem mul_one_inv (b : Nat) (hb : b < 256) : Gf.mul (Int.toNat 1) (Gf.inv (Int.toNat (b : Int))) = Gf.inv b := Gf.one_mul _ (Gf.inv_lt b hb)

set_option maxRecDepth 100000 in
set_option maxHeartbeats 400000 in
theorem inv_nat (b : Nat) (w : World) (hb0 : 0 < (b : Int)) (hb : (b : Int) < 256) (hp : Pows w) :
    Calls Tryd.prog 136 #[.int .u8 b] w fun e w' => e = .returned (.tuple #[.int .u8 (Gf.inv b), .int .i64 0]) ∧ ∃ n, w' = w.drewN n := by
  have H : Hid (_ = _) := mul_one_inv b (by omega)
  go_enter Tryd.func136, Tryd.ntmps136
  go_wp2_with (go_at_call 147; refine (div_any _ _ _ (by omega) (by omega) (by omega) (by omega) hp).mono ?_; rw [H.out]; rintro e w' ⟨rfl, m, rfl⟩)
  go_ret2
  exact ⟨rfl, _, rfl⟩
/-- the quotient, 0 by 0; the error's number; the inverse -/
def dq (a b : Nat) : Nat := if b = 0 then 0 else Gf.mul a (Gf.inv b)
def de (b : Nat) : Int := if b = 0 then 1 else 0
def iq (b : Nat) : Nat := if b = 0 then 0 else Gf.inv b

theorem div_gen (a b : Nat) (w : World) (ha : (a : Int) < 256) (hb : (b : Int) < 256) (hp : Pows w) :
    Calls Tryd.prog 147 #[.int .u8 a, .int .u8 b] w fun e w' => e = .returned (.tuple #[.int .u8 (dq a b), .int .i64 (de b)]) ∧ ∃ n, w' = w.drewN n := by
  by_cases h : b = 0
  · subst h; exact div_zero a w
  · have e1 : dq a b = Gf.mul a (Gf.inv b) := if_neg h
    have e2 : de b = 0 := if_neg h
    rw [e1, e2]
    exact div_any a b w (by omega) ha (by omega) hb hp
theorem inv_gen (b : Nat) (w : World) (hb : (b : Int) < 256) (hp : Pows w) :
    Calls Tryd.prog 136 #[.int .u8 b] w fun e w' => e = .returned (.tuple #[.int .u8 (iq b), .int .i64 (de b)]) ∧ ∃ n, w' = w.drewN n := by
  by_cases h : b = 0
  · subst h; exact inv_zero w
  · have e1 : iq b = Gf.inv b := if_neg h
    have e2 : de b = 0 := if_neg h
    rw [e1, e2]
    exact inv_nat b w (by omega) hb hp
end Go.Proofs.YtmncocmeafcpfaaDoor.Mf

/- Memory: what a call keeps of it, and rows of bytes. No walk of the program in sight. -/
namespace Go.Proofs.YtmncocmeafcpfaaDoor.Mf
open Go.RowKit Go.Deep

/-- Whatever lay in memory is as it was, but the blocks of S; no block has gone. -/
structure Kp (S : Nat → Prop) (w w' : World) : Prop where
  os : w'.os = w.os
  tape : w'.tape = w.tape
  output : w'.output = w.output
  size : w.heap.size ≤ w'.heap.size
  block : ∀ k, k < w.heap.size → ¬ S k → w'.heap[k]? = w.heap[k]?

namespace Kp
variable {S S' : Nat → Prop} {w w' w'' : World}
theorem refl (S : Nat → Prop) (w : World) : Kp S w w := ⟨rfl, rfl, rfl, Nat.le_refl _, fun _ _ _ => rfl⟩
theorem trans (h : Kp S w w') (k : Kp S' w' w'') (hs : ∀ b, b < w.heap.size → S' b → S b) : Kp S w w'' :=
  ⟨k.os.trans h.os, k.tape.trans h.tape, k.output.trans h.output, Nat.le_trans h.size k.size, fun b hb hn =>
    (k.block b (Nat.lt_of_lt_of_le hb h.size) (fun hs' => hn (hs b hb hs'))).trans (h.block b hb hn)⟩
theorem mono (h : Kp S w w') (hs : ∀ b, b < w.heap.size → S b → S' b) : Kp S' w w' :=
  ⟨h.os, h.tape, h.output, h.size, fun b hb hn => h.block b hb (fun hs' => hn (hs b hb hs'))⟩
theorem drewN (h : Kp S w w') (n : Nat) : Kp S w (w'.drewN n) := ⟨h.os, h.tape, h.output, h.size, h.block⟩
theorem drew (h : Kp S w w') : Kp S w w'.drew := ⟨h.os, h.tape, h.output, h.size, h.block⟩
theorem alloc (h : Kp S w w') (o : Obj) : Kp S w (w'.alloc o) :=
  h.trans (S' := fun _ => False) ⟨rfl, rfl, rfl, by rw [nblk_alloc]; omega, fun k hk _ => blk_alloc_lt _ _ _ (by omega)⟩ (fun _ _ hf => hf.elim)
theorem setCell (h : Kp S w w') {a : Addr} (ha : a.block < w.heap.size → S a.block) (v : Value) : Kp S w (w'.setCell a v) :=
  h.trans (S' := fun b => b = a.block) ⟨rfl, rfl, rfl, by rw [nblk_setCell]; exact Nat.le_refl _, fun k _ hn => blk_setCell_other _ _ _ _ hn⟩ (fun b hb e => by subst e; exact ha hb)
theorem row (h : Kp S w w') {b : Nat} {t : TypeId} {n : Nat} {f : Nat → Value} (hr : w.rowIs b t n f) (hb : ¬ S b) : w'.rowIs b t n f :=
  hr.of_block (h.block b hr.lt hb)
theorem cell (h : Kp S w w') {a : Addr} (ha : a.block < w.heap.size) (hb : ¬ S a.block) : w'.cell? a = w.cell? a := World.cell?_of_block (w := w) (h.block _ ha hb)
theorem cellv (h : Kp S w w') {a : Addr} {v : Value} (hv : w.cell? a = some v) (hb : ¬ S a.block) : w'.cell? a = some v := by
  rw [h.cell (World.block_lt_of_cell? _ _ hv) hb, hv]
theorem pows (h : Kp S w w') (hp : Pows w) (hb : ¬ S 1) : Pows w' := fun k hk => h.cellv (hp k hk) hb
theorem below (h : Kp (fun _ => False) w w') : Below w.heap.size w w' := ⟨h.os, h.tape, h.output, h.size, fun k hk => h.block k hk id⟩
theorem of_below (h : Below w.heap.size w w') : Kp S w w' := ⟨h.os, h.tape, h.output, h.size, fun k hk _ => h.block k hk⟩
end Kp

theorem rowIs_drewN {w : World} {b : Nat} {t : TypeId} {n : Nat} {f : Nat → Value} (h : w.rowIs b t n f) (k : Nat) : (w.drewN k).rowIs b t n f := h.of_block rfl
theorem Pows.setCell {w : World} (h : Pows w) (a : Addr) (v : Value) (ha : a.block ≠ 1) : Pows (w.setCell a v) := fun k hk => by
  rw [World.cell?_setCell_other _ _ _ _ (fun e => ha (by rw [e]))]; exact h k hk
theorem Pows.heap {w w' : World} (h : Pows w) (e : w'.heap = w.heap) : Pows w' := fun k hk => by
  have := h k hk
  simpa [World.cell?, e] using this
theorem Pows.lt {w : World} (h : Pows w) : 1 < w.heap.size := World.block_lt_of_cell? _ _ (h 0 (by omega))

/-- a row of bytes -/
abbrev By (f : Nat → Nat) : Nat → Value := fun j => .int .u8 ((f j : Nat) : Int)

theorem info5 : (Tryd.prog.info? 5).map (fun i => (i.zero, i.size, i.bytes)) = some (some (.int .u8 0), 1, 1) := by kernel_rfl
theorem info42 : (Tryd.prog.info? 22).map (fun i => (i.zero, i.size, i.bytes)) = some (some (.slice none 0 0), 1, 24) := by kernel_rfl

/-- a row, and a multiple of n of another's added from ot on -/
def plusRow (f g : Nat → Nat) (c ot n : Nat) : Nat → Nat := fun j => if ot ≤ j ∧ j < ot + n then f j ^^^ Gf.mul (g (j - ot)) c else f j
theorem plusRow_zero (f g : Nat → Nat) (c ot : Nat) : plusRow f g c ot 0 = f := by
  funext j; unfold plusRow; rw [if_neg (by omega)]
theorem plusRow_none (f g : Nat → Nat) (ot n : Nat) : plusRow f g 0 ot n = f := by
  funext j; unfold plusRow; split
  · rw [Gf.mul_zero, Nat.xor_zero]
  · rfl
theorem plusRow_here (f g : Nat → Nat) (c ot k : Nat) : plusRow f g c ot k (ot + k) = f (ot + k) := by
  unfold plusRow; rw [if_neg (by omega)]
theorem plusRow_succ (f g : Nat → Nat) (c ot k j : Nat) : plusRow f g c ot (k + 1) j = if j = ot + k then f (ot + k) ^^^ Gf.mul (g k) c else plusRow f g c ot k j := by
  unfold plusRow
  by_cases e : j = ot + k
  · subst e; rw [if_pos (by omega), if_pos rfl, show ot + k - ot = k from by omega]
  · rw [if_neg e]
    by_cases h : ot ≤ j ∧ j < ot + k
    · rw [if_pos h, if_pos (by omega)]
    · rw [if_neg h, if_neg (by omega)]
theorem plusRow_lt {f g : Nat → Nat} (c ot n : Nat) (hf : ∀ j, f j < 256) (j : Nat) : plusRow f g c ot n j < 256 := by
  unfold plusRow; split
  · exact xor8 (hf j) (Gf.mul_lt _ _)
  · exact hf j

/-- a row of which the first k are multiplied -/
def timesRow (f : Nat → Nat) (c k : Nat) : Nat → Nat := fun j => if j < k then Gf.mul (f j) c else f j
theorem timesRow_zero (f : Nat → Nat) (c : Nat) : timesRow f c 0 = f := by
  funext j; unfold timesRow; rw [if_neg (by omega)]
theorem timesRow_here (f : Nat → Nat) (c k : Nat) : timesRow f c k k = f k := by
  unfold timesRow; rw [if_neg (by omega)]
theorem timesRow_succ (f : Nat → Nat) (c k j : Nat) : timesRow f c (k + 1) j = if j = k then Gf.mul (f k) c else timesRow f c k j := by
  unfold timesRow
  by_cases e : j = k
  · subst e; rw [if_pos (by omega), if_pos rfl]
  · rw [if_neg e]
    by_cases h : j < k
    · rw [if_pos h, if_pos (by omega)]
    · rw [if_neg h, if_neg (by omega)]

/-- A matrix in memory of the program's own: a block of rows' headers, a block a row. -/
structure Mat (w : World) (t : Nat) (B : Nat → Nat) (R C : Nat) (M : Nat → Nat → Nat) : Prop where
  top : w.rowIs t 22 R (fun i => .slice (some ⟨B i, 0, none⟩) C C)
  row : ∀ i, i < R → w.rowIs (B i) 5 C (By (M i))
  inj : ∀ i j, i < R → j < R → B i = B j → i = j
  ne : ∀ i, i < R → B i ≠ t
  byte : ∀ i j, M i j < 256
theorem Mat.keep {S : Nat → Prop} {w w' : World} {t : Nat} {B : Nat → Nat} {R C : Nat} {M : Nat → Nat → Nat} (h : Mat w t B R C M) (k : Kp S w w') (ht : ¬ S t) (hB : ∀ i, i < R → ¬ S (B i)) : Mat w' t B R C M :=
  ⟨k.row h.top ht, fun i hi => k.row (h.row i hi) (hB i hi), h.inj, h.ne, h.byte⟩

/-- Texts as they lie: the header of the whole, the rows' headers, the bytes. -/
structure Sh where
  g : Option Addr
  G : Nat
  cap : Nat
  gb : Nat
  go : Nat
  A : Nat → Option Addr
  L : Nat → Nat
  C : Nat → Nat
  RB : Nat → Nat
  RO : Nat → Nat
  M : Nat → Nat → Nat
structure Rd (w : World) (s : Sh) : Prop where
  at0 : 0 < s.G → s.g = some ⟨s.gb, s.go, none⟩
  hd : ∀ r, r < s.G → w.cell? ⟨s.gb, s.go + r, none⟩ = some (.slice (s.A r) (s.L r) (s.C r))
  to : ∀ r, r < s.G → ∀ c, c < s.L r → s.A r = some ⟨s.RB r, s.RO r, none⟩
  cell : ∀ r, r < s.G → ∀ c, c < s.L r → w.cell? ⟨s.RB r, s.RO r + c, none⟩ = some (.int .u8 ((s.M r c : Nat) : Int))
  byte : ∀ r c, s.M r c < 256
theorem Rd.keep {w w' : World} {s : Sh} (h : Rd w s) (k : Kp (fun _ => False) w w') : Rd w' s :=
  ⟨h.at0, fun r hr => k.cellv (h.hd r hr) id, h.to, fun r hr c hc => k.cellv (h.cell r hr c hc) id, h.byte⟩
/-- a matrix of the program's own, read -/
abbrev ofMat (t : Nat) (B : Nat → Nat) (R C : Nat) (M : Nat → Nat → Nat) : Sh := ⟨some ⟨t, 0, none⟩, R, R, t, 0, fun r => some ⟨B r, 0, none⟩, fun _ => C, fun _ => C, B, fun _ => 0, M⟩
theorem Mat.rd {w : World} {t : Nat} {B : Nat → Nat} {R C : Nat} {M : Nat → Nat → Nat} (h : Mat w t B R C M) : Rd w (ofMat t B R C M) :=
  ⟨fun _ => rfl, fun r hr => by have := h.top.cell hr; simpa [ofMat] using this, fun _ _ _ _ => rfl, fun r hr c hc => by have := (h.row r hr).cell hc; simpa [ofMat] using this, h.byte⟩
end Go.Proofs.YtmncocmeafcpfaaDoor.Mf

/- The walks of matrix.noughts, addTimes and scale. -/
namespace Go.Proofs.YtmncocmeafcpfaaDoor.Mf
open Go.RowKit Go.Deep

set_option maxRecDepth 100000 in
set_option maxHeartbeats 800000 in
theorem addTimes_walk (bt ot nt n' c1 : Nat) (src : Option Addr) (br ob n c2 : Nat) (f g : Nat → Nat) (c : Nat) (w : World) (hf : ∀ j, f j < 256) (hg : ∀ j, g j < 256) (hc : (c : Int) < 256)
    (ht : w.rowIs bt 5 nt (By f)) (hsrc : ∀ k, k < n → src = some ⟨br, ob, none⟩) (hr : ∀ k, k < n → w.cell? ⟨br, ob + k, none⟩ = some (.int .u8 ((g k : Nat) : Int))) (hne : br ≠ bt)
    (h1 : ot + n ≤ nt) (h2 : (n : Int) ≤ (n' : Int)) (hp : Pows w) (hgl : bt ≠ 1) (hn : (n : Int) ≤ 1000000) (hc0 : ((c : Int) == 0) = false) :
    Calls Tryd.prog 144 #[.slice (some ⟨bt, ot, none⟩) n' c1, .slice src n c2, .int .u8 c] w fun e w' =>
      e = .returned (.tuple #[]) ∧ Kp (fun b => b = bt) w w' ∧ w'.heap.size = w.heap.size ∧ w'.rowIs bt 5 nt (By (plusRow f g c ot n)) := by
  go_enter Tryd.func144, Tryd.ntmps144
  go_wp2
  go_loopg [12] n (fun gk i wr => ∃ k : Nat, k ≤ n ∧ gk = n - k ∧ i = .int .i64 k ∧ Kp (fun b => b = bt) w wr ∧ wr.heap.size = w.heap.size ∧ wr.rowIs bt 5 nt (By (plusRow f g c ot k)))
  case atStart => exact ⟨0, Nat.zero_le _, rfl, rfl, Kp.refl _ _, rfl, by rw [plusRow_zero]; exact ht⟩
  case round =>
    obtain ⟨k, hk, rfl, rfl, hK, hz, hR⟩ := hrel
    by_cases hlt : (k : Int) < (n : Int)
    · obtain rfl := hsrc k (by omega)
      have e1 := hK.cellv (hr k (by omega)) hne
      have e2 := hR.cell (i := ot + k) (by omega)
      have e3 := hR.frozen (ot + k)
      have l1 := hg k
      have l2 := hf (ot + k)
      have l3 := Gf.mul_lt (g k) c
      have hpr := hK.pows hp (fun e => hgl e.symm)
      simp only [By, plusRow_here] at e1 e2
      clear hr hsrc
      go_wp2
      go_region_with
        (first
          | (go_at_call 149; refine (mul_nat (g k) c _ (by omega) hc (by exact hpr.heap rfl)).mono ?_; rintro e w' ⟨rfl, m, rfl⟩)
          | (go_at_call 137; refine (add_nat (f (ot + k)) (Gf.mul (g k) c) _ (by omega) (by omega)).mono ?_; rintro e w' ⟨rfl, rfl⟩))
      all_goals go_wp2
      all_goals
        go_roundg (n - (k + 1))
        case rel => exact ⟨k + 1, by omega, rfl, by go_num, (hK.drewN _).setCell (fun _ => rfl) _, by simpa using hz, (rowIs_drewN hR _).set (ot + k) _ |>.congr (fun j _ => by
          simp only [By]
          rw [plusRow_succ]
          split <;> rfl)⟩
        case measure => omega
    · have e : k = n := by omega
      subst e
      go_wp2
      go_end0
      exact ⟨rfl, hK, hz, hR⟩

set_option maxRecDepth 100000 in
set_option maxHeartbeats 800000 in
theorem addTimes_none (to row : Value) (f g : Nat → Nat) (ot n : Nat) (nt bt : Nat) (w : World) (ht : w.rowIs bt 5 nt (By f)) :
    Calls Tryd.prog 144 #[to, row, .int .u8 0] w fun e w' =>
      e = .returned (.tuple #[]) ∧ Kp (fun b => b = bt) w w' ∧ w'.heap.size = w.heap.size ∧ w'.rowIs bt 5 nt (By (plusRow f g 0 ot n)) := by
  have hR : w.rowIs bt 5 nt (By (plusRow f g 0 ot n)) := by rw [plusRow_none]; exact ht
  have HR : Hid (w.rowIs bt 5 nt (By (plusRow f g 0 ot n))) := hR
  clear hR ht
  go_enter Tryd.func144, Tryd.ntmps144
  go_wp2
  refine bodyPost_ret (results_none rfl _ _ _) rfl ?_
  exact ⟨rfl, Kp.refl _ _, rfl, HR.out⟩

theorem addTimes_any (bt ot nt n' c1 : Nat) (src : Option Addr) (br ob n c2 : Nat) (f g : Nat → Nat) (c : Nat) (w : World) (hf : ∀ j, f j < 256) (hg : ∀ j, g j < 256) (hc : (c : Int) < 256)
    (ht : w.rowIs bt 5 nt (By f)) (hsrc : ∀ k, k < n → src = some ⟨br, ob, none⟩) (hr : ∀ k, k < n → w.cell? ⟨br, ob + k, none⟩ = some (.int .u8 ((g k : Nat) : Int))) (hne : br ≠ bt)
    (h1 : ot + n ≤ nt) (h2 : (n : Int) ≤ (n' : Int)) (hp : Pows w) (hgl : bt ≠ 1) (hn : (n : Int) ≤ 1000000) :
    Calls Tryd.prog 144 #[.slice (some ⟨bt, ot, none⟩) n' c1, .slice src n c2, .int .u8 c] w fun e w' =>
      e = .returned (.tuple #[]) ∧ Kp (fun b => b = bt) w w' ∧ w'.heap.size = w.heap.size ∧ w'.rowIs bt 5 nt (By (plusRow f g c ot n)) := by
  by_cases h : c = 0
  · subst h
    exact addTimes_none _ _ f g ot n nt bt w ht
  · exact addTimes_walk bt ot nt n' c1 src br ob n c2 f g c w hf hg hc ht hsrc hr hne h1 h2 hp hgl hn (beq_eq_false_iff_ne.2 (by omega))

set_option maxRecDepth 100000 in
set_option maxHeartbeats 800000 in
theorem scale_any (bt n cap : Nat) (f : Nat → Nat) (c : Nat) (w : World) (hf : ∀ j, f j < 256) (hc : (c : Int) < 256)
    (ht : w.rowIs bt 5 n (By f)) (hp : Pows w) (hgl : bt ≠ 1) (hn : (n : Int) ≤ 1000000) :
    Calls Tryd.prog 148 #[.slice (some ⟨bt, 0, none⟩) n cap, .int .u8 c] w fun e w' =>
      e = .returned (.tuple #[]) ∧ Kp (fun b => b = bt) w w' ∧ w'.heap.size = w.heap.size ∧ w'.rowIs bt 5 n (By (timesRow f c n)) := by
  go_enter Tryd.func148, Tryd.ntmps148
  go_wp2
  go_loopg [8] n (fun gk i wr => ∃ k : Nat, k ≤ n ∧ gk = n - k ∧ i = .int .i64 k ∧ Kp (fun b => b = bt) w wr ∧ wr.heap.size = w.heap.size ∧ wr.rowIs bt 5 n (By (timesRow f c k)))
  case atStart => exact ⟨0, Nat.zero_le _, rfl, rfl, Kp.refl _ _, rfl, by rw [timesRow_zero]; exact ht⟩
  case round =>
    obtain ⟨k, hk, rfl, rfl, hK, hz, hR⟩ := hrel
    by_cases hlt : (k : Int) < (n : Int)
    · have e2 := hR.cell (i := k) (by omega)
      have e3 := hR.frozen k
      have l2 := hf k
      have hpr := hK.pows hp (fun e => hgl e.symm)
      simp only [By, timesRow_here] at e2
      go_wp2_with (go_at_call 149; refine (mul_nat (f k) c _ (by omega) hc hpr).mono ?_; rintro e w' ⟨rfl, m, rfl⟩)
      go_roundg (n - (k + 1))
      case rel => exact ⟨k + 1, by omega, rfl, by go_num, (hK.drewN _).setCell (fun _ => rfl) _, by simpa using hz, (rowIs_drewN hR _).set k _ |>.congr (fun j _ => by
          simp only [By]
          rw [timesRow_succ]
          split <;> rfl)⟩
      case measure => omega
    · have e : k = n := by omega
      subst e
      go_wp2
      go_end0
      exact ⟨rfl, hK, hz, hR⟩

/-- the headers, when r rows are made -/
def heads (N C r : Nat) : Nat → Value := fun j => if j < r then .slice (some ⟨N + 1 + j, 0, none⟩) C C else .slice none 0 0
theorem heads_succ (N C r j : Nat) : heads N C (r + 1) j = if j = r then .slice (some ⟨N + 1 + r, 0, none⟩) C C else heads N C r j := by
  unfold heads
  by_cases e : j = r
  · subst e; rw [if_pos (by omega), if_pos rfl]
  · rw [if_neg e]
    by_cases h : j < r
    · rw [if_pos h, if_pos (by omega)]
    · rw [if_neg h, if_neg (by omega)]

set_option maxRecDepth 100000 in
set_option maxHeartbeats 800000 in
theorem noughts_any (R C : Nat) (w : World) (hR : (R : Int) ≤ 1000) (hC : (C : Int) ≤ 1000) :
    Calls Tryd.prog 143 #[.int .i64 R, .int .i64 C] w fun e w' =>
      e = .returned (.slice (some ⟨w.heap.size, 0, none⟩) R R) ∧ Kp (fun _ => False) w w' ∧ w'.heap.size = w.heap.size + 1 + R ∧ Mat w' w.heap.size (fun i => w.heap.size + 1 + i) R C (fun _ _ => 0) := by
  have hmk1 := run_make_row' (P := Tryd.prog) 27 22 (.slice none 0 0) 24 Tryd.underlying27 info42 rfl .i64 .i64 R (by omega) (by omega)
  go_enter Tryd.func143, Tryd.ntmps143
  go_wp2
  clear hmk1
  go_loopg [11] R (fun gk i wr => ∃ r : Nat, r ≤ R ∧ gk = R - r ∧ i = .int .i64 r ∧ Kp (fun _ => False) w wr ∧ wr.heap.size = w.heap.size + 1 + r ∧ wr.rowIs w.heap.size 22 R (heads w.heap.size C r) ∧ ∀ j, j < r → wr.rowIs (w.heap.size + 1 + j) 5 C (fun _ => .int .u8 0))
  case atStart => exact ⟨0, Nat.zero_le _, rfl, rfl, (Kp.refl _ _).alloc _, by simp, (World.rowIs_made w _ R 22).congr (fun j _ => by simp [heads]), fun j hj => absurd hj (Nat.not_lt_zero _)⟩
  case round =>
    obtain ⟨r, hr, rfl, rfl, hK, hz, hT, hD⟩ := hrel
    by_cases hlt : (r : Int) < (R : Int)
    · have hmk2 := run_make_row' (P := Tryd.prog) 22 5 (.int .u8 0) 1 Tryd.underlying22 info5 rfl .i64 .i64 C (by omega) (by omega)
      have hst1 : ∀ o, (wr.alloc o).cell? ⟨w.heap.size, r, none⟩ = some (heads w.heap.size C r r) := fun o => (hT.alloc o).cell (by omega)
      have hst2 : ∀ o, (wr.alloc o).frozen? ⟨w.heap.size, r, none⟩ = false := fun o => (hT.alloc o).frozen r
      go_wp2
      have hnew := World.rowIs_made wr (.int .u8 0) C 5
      rw [hz] at hnew
      clear hmk2 hst1 hst2
      go_roundg (R - (r + 1))
      case rel => exact ⟨r + 1, by omega, rfl, by go_num, (hK.alloc _).setCell (fun h => absurd h (Nat.lt_irrefl _)) _, by simp [hz]; omega,
        ((hT.alloc _).set r _).congr (fun j _ => by rw [heads_succ]), fun j hj => by
          by_cases e : j = r
          · subst e
            exact hnew.setOther (by show w.heap.size + 1 + j ≠ w.heap.size; omega) _
          · exact ((hD j (by omega)).alloc _).setOther (by show w.heap.size + 1 + j ≠ w.heap.size; omega) _⟩
      case measure => omega
    · have e : r = R := by omega
      subst e
      go_wp2
      go_ret
      exact ⟨rfl, hK, hz, hT.congr (fun j hj => by simp [heads, hj]), hD, fun i j _ _ h => by omega, fun i _ => by omega, fun _ _ => by omega⟩
end Go.Proofs.YtmncocmeafcpfaaDoor.Mf

/- The walks of matrix.copyRow, onesAbove, Identity and isMatrix. -/
namespace Go.Proofs.YtmncocmeafcpfaaDoor.Mf
open Go.RowKit Go.Deep

theorem size5 : (Tryd.prog.info? 5).map (·.size) = some 1 := by kernel_rfl
theorem size42 : (Tryd.prog.info? 22).map (·.size) = some 1 := by kernel_rfl

theorem addr_add (b o j : Nat) : (⟨b, o, none⟩ : Addr).add j = ⟨b, o + j, none⟩ := by simp [Addr.add]

/-- the values of a row's first n bytes -/
def vals (f : Nat → Nat) (n : Nat) : List Value := (List.range n).map (By f)
theorem vals_length (f : Nat → Nat) (n : Nat) : (vals f n).length = n := by simp [vals]
theorem vals_get {f : Nat → Nat} {n j : Nat} {v : Value} (h : (vals f n)[j]? = some v) : j < n ∧ v = .int .u8 ((f j : Nat) : Int) := by
  unfold vals at h
  rw [List.getElem?_map] at h
  by_cases hj : j < n
  · rw [List.getElem?_range hj] at h
    exact ⟨hj, by simpa [By] using h.symm⟩
  · rw [List.getElem?_eq_none (by simpa using hj)] at h
    simp at h
theorem vals_at (f : Nat → Nat) {n j : Nat} (h : j < n) : (vals f n)[j]? = some (.int .u8 ((f j : Nat) : Int)) := by
  unfold vals
  rw [List.getElem?_map, List.getElem?_range h]; rfl
theorem vals_one (f : Nat → Nat) (n : Nat) : ∀ v ∈ vals f n, v.oneCell' = true := by
  intro v hv
  obtain ⟨j, hj⟩ := List.getElem?_of_mem hv
  obtain ⟨_, rfl⟩ := vals_get hj
  rfl

set_option maxRecDepth 100000 in
set_option maxHeartbeats 800000 in
theorem copyRow_any (src : Option Addr) (br ob n c : Nat) (f : Nat → Nat) (w : World) (hsrc : ∀ k, k < n → src = some ⟨br, ob, none⟩)
    (hr : ∀ k, k < n → w.cell? ⟨br, ob + k, none⟩ = some (.int .u8 ((f k : Nat) : Int))) (hn : (n : Int) ≤ 1000000) :
    Calls Tryd.prog 139 #[.slice src n c] w fun e w' =>
      e = .returned (.slice (some ⟨w.heap.size, 0, none⟩) n n) ∧ Kp (fun _ => False) w w' ∧ w'.rowIs w.heap.size 5 n (By f) := by
  have hmk := run_make_row' (P := Tryd.prog) 22 5 (.int .u8 0) 1 Tryd.underlying22 info5 rfl .i64 .i64 n (by omega) (by omega)
  obtain ⟨c0, hc1, hc2, _⟩ := World.rowIs_made w (.int .u8 0) n 5
  have HC : Hid ((w.alloc (.cells (madeCells #[.int .u8 0] n) 5)).heap[w.heap.size]? = some (.cells c0.toList.toArray 5 (0, 0))) := hc1
  have HZ : Hid (c0.size = n) := hc2
  clear hc1 hc2
  have HS : Hid (∀ k, k < n → src = some ⟨br, ob, none⟩) := hsrc
  have HR : Hid (∀ k, k < n → w.cell? ⟨br, ob + k, none⟩ = some (.int .u8 ((f k : Nat) : Int))) := hr
  clear hsrc hr
  go_enter Tryd.func139, Tryd.ntmps139
  go_wp2_with (refine wpList_copy_splice rfl (.tmp 7) (.tmp 8) 22 22 rfl 5 Tryd.underlying22 size5 _ _ _ _ _ _ rfl rfl w.heap.size 0 c0.toList 5 HC.out (vals f n) ?hn ?hpos ?hfit (vals_one f n) w.heap.size w ((Below.refl _ _).alloc (Nat.le_refl _) _) (Nat.le_refl _) ?hrest)
  case hn => simp [vals_length]
  case hfit => rw [vals_length]; simp [HZ.out]
  case hpos =>
    intro h0
    rw [vals_length] at h0
    refine ⟨⟨br, ob, none⟩, HS.out 0 h0, fun j v hj => ?_⟩
    obtain ⟨hlt, rfl⟩ := vals_get hj
    have := HR.out j hlt
    rw [addr_add, World.cell?_alloc_old _ _ _ (by have := World.block_lt_of_cell? _ _ this; simp at this; show br ≠ w.heap.size; omega)]
    exact this
  intro w4 hg4 hb4
  go_wp2
  go_ret
  have hL : (c0.toList.drop (vals f n).length) = [] := List.drop_eq_nil_of_le (by rw [vals_length]; simp [HZ.out])
  refine ⟨rfl, Kp.of_below hb4, _, hg4.out, ?_, fun i hi => ?_⟩
  · simp [splice, vals_length, HZ.out]
  · have := vals_at f hi
    simpa [splice, hL] using this

set_option maxRecDepth 100000 in
set_option maxHeartbeats 800000 in
theorem onesAbove_any (R C : Nat) (w : World) (hR : (R : Int) ≤ 1000) (hC : (C : Int) ≤ (R : Int)) :
    Calls Tryd.prog 135 #[.int .i64 R, .int .i64 C] w fun e w' =>
      e = .returned (.slice (some ⟨w.heap.size, 0, none⟩) R R) ∧ Kp (fun _ => False) w w' ∧ w'.heap.size = w.heap.size + 1 + R ∧ Mat w' w.heap.size (fun i => w.heap.size + 1 + i) R C (ones C) := by
  go_enter Tryd.func135, Tryd.ntmps135
  go_wp2_with fail
  refine (noughts_any R C w hR (by omega)).mono ?_
  rintro e w1 ⟨rfl, hK1, hz1, hM1⟩
  go_wp2
  go_loopg [11] C (fun gk i wr => ∃ k : Nat, k ≤ C ∧ gk = C - k ∧ i = .int .i64 k ∧ Kp (fun _ => False) w wr ∧ wr.heap.size = w.heap.size + 1 + R ∧ Mat wr w.heap.size (fun i => w.heap.size + 1 + i) R C (ones k))
  case atStart => exact ⟨0, Nat.zero_le _, rfl, rfl, hK1, hz1, by rw [ones_zero]; exact hM1⟩
  case round =>
    obtain ⟨k, hk, rfl, rfl, hK, hz, hM⟩ := hrel
    clear hK1 hz1 hM1
    by_cases hlt : (k : Int) < (C : Int)
    · have e1 := hM.top.cell (i := k) (by omega)
      have e2 := (hM.row k (by omega)).cell (i := k) (by omega)
      have e3 := (hM.row k (by omega)).frozen k
      simp only [By] at e1 e2
      go_wp2
      go_roundg (C - (k + 1))
      case rel => exact ⟨k + 1, by omega, rfl, by go_num, hK.setCell (fun h => absurd h (by show ¬ w.heap.size + 1 + k < w.heap.size; omega)) _, by simpa using hz,
        ⟨hM.top.setOther (by show w.heap.size ≠ w.heap.size + 1 + k; omega) _, fun i hi => by
          by_cases e : i = k
          · subst e
            exact ((hM.row i hi).set i _).congr (fun j _ => by
              simp only [By]
              rw [ones_succ_here]
              split <;> rfl)
          · exact ((hM.row i hi).setOther (by show w.heap.size + 1 + i ≠ w.heap.size + 1 + k; omega) _).congr (fun j _ => by simp only [By]; rw [ones_succ_other k i j e]), hM.inj, hM.ne, ones_lt _⟩⟩
      case measure => omega
    · have e : k = C := by omega
      subst e
      go_wp2
      go_ret
      exact ⟨rfl, hK, hz, hM⟩

/-- whether texts are a matrix -/
def isM (s : Sh) : Bool := decide (1 ≤ s.G ∧ s.G ≤ 255 ∧ 1 ≤ s.L 0 ∧ s.L 0 ≤ 255 ∧ ∀ r, r < s.G → s.L r = s.L 0)

set_option maxRecDepth 100000 in
set_option maxHeartbeats 800000 in
theorem isMatrix_loop (s : Sh) (w : World) (h : Rd w s) (hG : (s.G : Int) ≤ 255) (h0 : 1 ≤ (s.G : Int)) (h1 : 1 ≤ (s.L 0 : Int)) (h2 : (s.L 0 : Int) ≤ 255) :
    Calls Tryd.prog 138 #[.slice s.g s.G s.cap] w fun e w' => e = .returned (.bool (isM s)) ∧ w' = w := by
  have hg := h.at0 (by omega)
  rw [hg]
  have c0 := h.hd 0 (by omega)
  have d1 : decide ((s.G : Int) < 1) = false := by simp; omega
  have d2 : decide (255 < (s.G : Int)) = false := by simp; omega
  have d3 : decide ((s.L 0 : Int) < 1) = false := by simp; omega
  have d4 : decide (255 < (s.L 0 : Int)) = false := by simp; omega
  simp only [Nat.add_zero] at c0
  go_enter Tryd.func138, Tryd.ntmps138
  go_wp2
  go_loopg [29] s.G (fun gk i wr => ∃ k : Nat, k ≤ s.G ∧ gk = s.G - k ∧ i = .int .i64 k ∧ (Hid (∀ r, r < k → s.L r = s.L 0)) ∧ wr = w)
  case atStart => exact ⟨0, Nat.zero_le _, rfl, rfl, fun r hr => absurd hr (Nat.not_lt_zero _), rfl⟩
  case round =>
    obtain ⟨k, hk, rfl, rfl, hr, rfl⟩ := hrel
    by_cases hlt : (k : Int) < (s.G : Int)
    · have ck := h.hd k (by omega)
      by_cases he : s.L k = s.L 0
      · have hq : ((s.L k : Int) != (s.L 0 : Int)) = false := by rw [he]; exact bne_self_eq_false _
        have HE : Hid (s.L k = s.L 0) := he
        clear he
        go_wp2
        go_roundg (s.G - (k + 1))
        case rel => exact ⟨k + 1, by omega, rfl, by go_num, fun r hr' => by
          by_cases e : r = k
          · rw [e]; exact HE.out
          · exact hr.out r (by omega), rfl⟩
        case measure => omega
      · have hq : ((s.L k : Int) != (s.L 0 : Int)) = true := bne_iff_ne.2 (by omega)
        have HF : Hid (isM s = false) := decide_eq_false (fun hx => he (hx.2.2.2.2 k (by omega)))
        clear he
        go_wp2
        go_ret
        exact ⟨by rw [HF.out]; rfl, rfl⟩
    · have e : k = s.G := by omega
      have HT : Hid (isM s = true) := decide_eq_true ⟨by omega, by omega, by omega, by omega, fun r hr' => hr.out r (by omega)⟩
      clear e
      go_wp2
      go_ret
      exact ⟨by rw [HT.out]; rfl, rfl⟩

set_option maxRecDepth 100000 in
set_option maxHeartbeats 800000 in
theorem isMatrix_few (s : Sh) (w : World) (hG : (s.G : Int) < 1) :
    Calls Tryd.prog 138 #[.slice s.g s.G s.cap] w fun e w' => e = .returned (.bool (isM s)) ∧ w' = w := by
  have HF : Hid (isM s = false) := decide_eq_false (by omega)
  have d1 : decide ((s.G : Int) < 1) = true := by simp; omega
  go_enter Tryd.func138, Tryd.ntmps138
  go_wp2
  go_ret
  exact ⟨by rw [HF.out]; rfl, rfl⟩

set_option maxRecDepth 100000 in
set_option maxHeartbeats 800000 in
theorem isMatrix_many (s : Sh) (w : World) (hG : 255 < (s.G : Int)) :
    Calls Tryd.prog 138 #[.slice s.g s.G s.cap] w fun e w' => e = .returned (.bool (isM s)) ∧ w' = w := by
  have HF : Hid (isM s = false) := decide_eq_false (by omega)
  have d1 : decide ((s.G : Int) < 1) = false := by simp; omega
  have d2 : decide (255 < (s.G : Int)) = true := by simp; omega
  go_enter Tryd.func138, Tryd.ntmps138
  go_wp2
  go_ret
  exact ⟨by rw [HF.out]; rfl, rfl⟩

set_option maxRecDepth 100000 in
set_option maxHeartbeats 800000 in
theorem isMatrix_thin (s : Sh) (w : World) (h : Rd w s) (hG : (s.G : Int) ≤ 255) (h0 : 1 ≤ (s.G : Int)) (h1 : (s.L 0 : Int) < 1) :
    Calls Tryd.prog 138 #[.slice s.g s.G s.cap] w fun e w' => e = .returned (.bool (isM s)) ∧ w' = w := by
  have HF : Hid (isM s = false) := decide_eq_false (by omega)
  have hg := h.at0 (by omega)
  rw [hg]
  have c0 := h.hd 0 (by omega)
  simp only [Nat.add_zero] at c0
  have d1 : decide ((s.G : Int) < 1) = false := by simp; omega
  have d2 : decide (255 < (s.G : Int)) = false := by simp; omega
  have d3 : decide ((s.L 0 : Int) < 1) = true := by simp; omega
  go_enter Tryd.func138, Tryd.ntmps138
  go_wp2
  go_ret
  exact ⟨by rw [HF.out]; rfl, rfl⟩

set_option maxRecDepth 100000 in
set_option maxHeartbeats 800000 in
theorem isMatrix_wide (s : Sh) (w : World) (h : Rd w s) (hG : (s.G : Int) ≤ 255) (h0 : 1 ≤ (s.G : Int)) (h1 : 255 < (s.L 0 : Int)) :
    Calls Tryd.prog 138 #[.slice s.g s.G s.cap] w fun e w' => e = .returned (.bool (isM s)) ∧ w' = w := by
  have HF : Hid (isM s = false) := decide_eq_false (by omega)
  have hg := h.at0 (by omega)
  rw [hg]
  have c0 := h.hd 0 (by omega)
  simp only [Nat.add_zero] at c0
  have d1 : decide ((s.G : Int) < 1) = false := by simp; omega
  have d2 : decide (255 < (s.G : Int)) = false := by simp; omega
  have d3 : decide ((s.L 0 : Int) < 1) = false := by simp; omega
  have d4 : decide (255 < (s.L 0 : Int)) = true := by simp; omega
  go_enter Tryd.func138, Tryd.ntmps138
  go_wp2
  go_ret
  exact ⟨by rw [HF.out]; rfl, rfl⟩

theorem isM_true {s : Sh} (h : isM s = true) : 1 ≤ s.G ∧ s.G ≤ 255 ∧ 1 ≤ s.L 0 ∧ s.L 0 ≤ 255 ∧ ∀ r, r < s.G → s.L r = s.L 0 := of_decide_eq_true h

theorem isMatrix_any (s : Sh) (w : World) (h : Rd w s) :
    Calls Tryd.prog 138 #[.slice s.g s.G s.cap] w fun e w' => e = .returned (.bool (isM s)) ∧ w' = w := by
  by_cases a : (s.G : Int) < 1
  · exact isMatrix_few s w a
  by_cases b : 255 < (s.G : Int)
  · exact isMatrix_many s w b
  by_cases c : (s.L 0 : Int) < 1
  · exact isMatrix_thin s w h (by omega) (by omega) c
  by_cases d : 255 < (s.L 0 : Int)
  · exact isMatrix_wide s w h (by omega) (by omega) d
  · exact isMatrix_loop s w h (by omega) (by omega) (by omega) (by omega)
end Go.Proofs.YtmncocmeafcpfaaDoor.Mf
