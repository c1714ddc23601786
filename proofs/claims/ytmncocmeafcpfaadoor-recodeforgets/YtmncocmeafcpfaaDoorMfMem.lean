/- Memory: what a call keeps of it, and rows of bytes. No walk of the program in sight. -/
import Derived.Test.YtmncocmeafcpfaaDoorMfGa
import Derived.Test.YtmncocmeafcpfaaDoorMfXs
import Derived.Deep.OwnRows
import Derived.Deep.LoopGhost
import Derived.Deep.RegionHeld3
import Derived.Deep.Light
namespace Go.Proofs.YtmncocmeafcpfaaDoor.Mf
open Go.RowKit Go.Deep

/-- Whatever lay in memory is as it was, but the blocks of S; no block has gone. -/
structure Kp (S : Nat → Prop) (w w' : World) : Prop where
  os : w'.os = w.os
  tape : w'.tape = w.tape
  output : w'.output = w.output
  size : w.heap.size ≤ w'.heap.size
  block : ∀ k, k < w.heap.size → ¬ S k → w'.heap[k]? = w.heap[k]?

namespace Kp
variable {S S' : Nat → Prop} {w w' w'' : World}
theorem refl (S : Nat → Prop) (w : World) : Kp S w w := ⟨rfl, rfl, rfl, Nat.le_refl _, fun _ _ _ => rfl⟩
theorem trans (h : Kp S w w') (k : Kp S' w' w'') (hs : ∀ b, b < w.heap.size → S' b → S b) : Kp S w w'' :=
  ⟨k.os.trans h.os, k.tape.trans h.tape, k.output.trans h.output, Nat.le_trans h.size k.size, fun b hb hn =>
    (k.block b (Nat.lt_of_lt_of_le hb h.size) (fun hs' => hn (hs b hb hs'))).trans (h.block b hb hn)⟩
theorem mono (h : Kp S w w') (hs : ∀ b, b < w.heap.size → S b → S' b) : Kp S' w w' :=
  ⟨h.os, h.tape, h.output, h.size, fun b hb hn => h.block b hb (fun hs' => hn (hs b hb hs'))⟩
theorem drewN (h : Kp S w w') (n : Nat) : Kp S w (w'.drewN n) := ⟨h.os, h.tape, h.output, h.size, h.block⟩
theorem drew (h : Kp S w w') : Kp S w w'.drew := ⟨h.os, h.tape, h.output, h.size, h.block⟩
theorem alloc (h : Kp S w w') (o : Obj) : Kp S w (w'.alloc o) :=
  h.trans (S' := fun _ => False) ⟨rfl, rfl, rfl, by rw [nblk_alloc]; omega, fun k hk _ => blk_alloc_lt _ _ _ (by omega)⟩ (fun _ _ hf => hf.elim)
theorem setCell (h : Kp S w w') {a : Addr} (ha : a.block < w.heap.size → S a.block) (v : Value) : Kp S w (w'.setCell a v) :=
  h.trans (S' := fun b => b = a.block) ⟨rfl, rfl, rfl, by rw [nblk_setCell]; exact Nat.le_refl _, fun k _ hn => blk_setCell_other _ _ _ _ hn⟩ (fun b hb e => by subst e; exact ha hb)
theorem row (h : Kp S w w') {b : Nat} {t : TypeId} {n : Nat} {f : Nat → Value} (hr : w.rowIs b t n f) (hb : ¬ S b) : w'.rowIs b t n f :=
  hr.of_block (h.block b hr.lt hb)
theorem cell (h : Kp S w w') {a : Addr} (ha : a.block < w.heap.size) (hb : ¬ S a.block) : w'.cell? a = w.cell? a := World.cell?_of_block (w := w) (h.block _ ha hb)
theorem cellv (h : Kp S w w') {a : Addr} {v : Value} (hv : w.cell? a = some v) (hb : ¬ S a.block) : w'.cell? a = some v := by
  rw [h.cell (World.block_lt_of_cell? _ _ hv) hb, hv]
theorem pows (h : Kp S w w') (hp : Pows w) (hb : ¬ S 1) : Pows w' := fun k hk => h.cellv (hp k hk) hb
theorem below (h : Kp (fun _ => False) w w') : Below w.heap.size w w' := ⟨h.os, h.tape, h.output, h.size, fun k hk => h.block k hk id⟩
theorem of_below (h : Below w.heap.size w w') : Kp S w w' := ⟨h.os, h.tape, h.output, h.size, fun k hk _ => h.block k hk⟩
end Kp

theorem rowIs_drewN {w : World} {b : Nat} {t : TypeId} {n : Nat} {f : Nat → Value} (h : w.rowIs b t n f) (k : Nat) : (w.drewN k).rowIs b t n f := h.of_block rfl
theorem Pows.setCell {w : World} (h : Pows w) (a : Addr) (v : Value) (ha : a.block ≠ 1) : Pows (w.setCell a v) := fun k hk => by
  rw [World.cell?_setCell_other _ _ _ _ (fun e => ha (by rw [e]))]; exact h k hk
theorem Pows.heap {w w' : World} (h : Pows w) (e : w'.heap = w.heap) : Pows w' := fun k hk => by
  have := h k hk
  simpa [World.cell?, e] using this
theorem Pows.lt {w : World} (h : Pows w) : 1 < w.heap.size := World.block_lt_of_cell? _ _ (h 0 (by omega))

/-- a row of bytes -/
abbrev By (f : Nat → Nat) : Nat → Value := fun j => .int .u8 ((f j : Nat) : Int)

theorem info5 : (Tryd.prog.info? 5).map (fun i => (i.zero, i.size, i.bytes)) = some (some (.int .u8 0), 1, 1) := by kernel_rfl
theorem info42 : (Tryd.prog.info? 22).map (fun i => (i.zero, i.size, i.bytes)) = some (some (.slice none 0 0), 1, 24) := by kernel_rfl

/-- a row, and a multiple of n of another's added from ot on -/
def plusRow (f g : Nat → Nat) (c ot n : Nat) : Nat → Nat := fun j => if ot ≤ j ∧ j < ot + n then f j ^^^ Gf.mul (g (j - ot)) c else f j
theorem plusRow_zero (f g : Nat → Nat) (c ot : Nat) : plusRow f g c ot 0 = f := by
  funext j; unfold plusRow; rw [if_neg (by omega)]
theorem plusRow_none (f g : Nat → Nat) (ot n : Nat) : plusRow f g 0 ot n = f := by
  funext j; unfold plusRow; split
  · rw [Gf.mul_zero, Nat.xor_zero]
  · rfl
theorem plusRow_here (f g : Nat → Nat) (c ot k : Nat) : plusRow f g c ot k (ot + k) = f (ot + k) := by
  unfold plusRow; rw [if_neg (by omega)]
theorem plusRow_succ (f g : Nat → Nat) (c ot k j : Nat) : plusRow f g c ot (k + 1) j = if j = ot + k then f (ot + k) ^^^ Gf.mul (g k) c else plusRow f g c ot k j := by
  unfold plusRow
  by_cases e : j = ot + k
  · subst e; rw [if_pos (by omega), if_pos rfl, show ot + k - ot = k from by omega]
  · rw [if_neg e]
    by_cases h : ot ≤ j ∧ j < ot + k
    · rw [if_pos h, if_pos (by omega)]
    · rw [if_neg h, if_neg (by omega)]
theorem plusRow_lt {f g : Nat → Nat} (c ot n : Nat) (hf : ∀ j, f j < 256) (j : Nat) : plusRow f g c ot n j < 256 := by
  unfold plusRow; split
  · exact xor8 (hf j) (Gf.mul_lt _ _)
  · exact hf j

/-- a row of which the first k are multiplied -/
def timesRow (f : Nat → Nat) (c k : Nat) : Nat → Nat := fun j => if j < k then Gf.mul (f j) c else f j
theorem timesRow_zero (f : Nat → Nat) (c : Nat) : timesRow f c 0 = f := by
  funext j; unfold timesRow; rw [if_neg (by omega)]
theorem timesRow_here (f : Nat → Nat) (c k : Nat) : timesRow f c k k = f k := by
  unfold timesRow; rw [if_neg (by omega)]
theorem timesRow_succ (f : Nat → Nat) (c k j : Nat) : timesRow f c (k + 1) j = if j = k then Gf.mul (f k) c else timesRow f c k j := by
  unfold timesRow
  by_cases e : j = k
  · subst e; rw [if_pos (by omega), if_pos rfl]
  · rw [if_neg e]
    by_cases h : j < k
    · rw [if_pos h, if_pos (by omega)]
    · rw [if_neg h, if_neg (by omega)]

/-- A matrix in memory of the program's own: a block of rows' headers, a block a row. -/
structure Mat (w : World) (t : Nat) (B : Nat → Nat) (R C : Nat) (M : Nat → Nat → Nat) : Prop where
  top : w.rowIs t 22 R (fun i => .slice (some ⟨B i, 0, none⟩) C C)
  row : ∀ i, i < R → w.rowIs (B i) 5 C (By (M i))
  inj : ∀ i j, i < R → j < R → B i = B j → i = j
  ne : ∀ i, i < R → B i ≠ t
  byte : ∀ i j, M i j < 256
theorem Mat.keep {S : Nat → Prop} {w w' : World} {t : Nat} {B : Nat → Nat} {R C : Nat} {M : Nat → Nat → Nat} (h : Mat w t B R C M) (k : Kp S w w') (ht : ¬ S t) (hB : ∀ i, i < R → ¬ S (B i)) : Mat w' t B R C M :=
  ⟨k.row h.top ht, fun i hi => k.row (h.row i hi) (hB i hi), h.inj, h.ne, h.byte⟩

/-- Texts as they lie: the header of the whole, the rows' headers, the bytes. -/
structure Sh where
  g : Option Addr
  G : Nat
  cap : Nat
  gb : Nat
  go : Nat
  A : Nat → Option Addr
  L : Nat → Nat
  C : Nat → Nat
  RB : Nat → Nat
  RO : Nat → Nat
  M : Nat → Nat → Nat
structure Rd (w : World) (s : Sh) : Prop where
  at0 : 0 < s.G → s.g = some ⟨s.gb, s.go, none⟩
  hd : ∀ r, r < s.G → w.cell? ⟨s.gb, s.go + r, none⟩ = some (.slice (s.A r) (s.L r) (s.C r))
  to : ∀ r, r < s.G → ∀ c, c < s.L r → s.A r = some ⟨s.RB r, s.RO r, none⟩
  cell : ∀ r, r < s.G → ∀ c, c < s.L r → w.cell? ⟨s.RB r, s.RO r + c, none⟩ = some (.int .u8 ((s.M r c : Nat) : Int))
  byte : ∀ r c, s.M r c < 256
theorem Rd.keep {w w' : World} {s : Sh} (h : Rd w s) (k : Kp (fun _ => False) w w') : Rd w' s :=
  ⟨h.at0, fun r hr => k.cellv (h.hd r hr) id, h.to, fun r hr c hc => k.cellv (h.cell r hr c hc) id, h.byte⟩
/-- a matrix of the program's own, read -/
abbrev ofMat (t : Nat) (B : Nat → Nat) (R C : Nat) (M : Nat → Nat → Nat) : Sh := ⟨some ⟨t, 0, none⟩, R, R, t, 0, fun r => some ⟨B r, 0, none⟩, fun _ => C, fun _ => C, B, fun _ => 0, M⟩
theorem Mat.rd {w : World} {t : Nat} {B : Nat → Nat} {R C : Nat} {M : Nat → Nat → Nat} (h : Mat w t B R C M) : Rd w (ofMat t B R C M) :=
  ⟨fun _ => rfl, fun r hr => by have := h.top.cell hr; simpa [ofMat] using this, fun _ _ _ _ => rfl, fun r hr c hc => by have := (h.row r hr).cell hc; simpa [ofMat] using this, h.byte⟩
end Go.Proofs.YtmncocmeafcpfaaDoor.Mf
