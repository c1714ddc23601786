/- Texts of this proof, joined: Kb, Qs, Ia. -/
import Derived.Test.YtmooddbhcccicaaGreatDoorProg
import Derived.WalkKit
import Derived.WalkSpells
import Derived.Deep.QuietTactic
import Derived.BigQuiet
import Derived.RowKit3
import Derived.Deep.OwnRows
import Derived.Deep.LoopGhost
import Derived.Deep.RegionHeld3
import Derived.Deep.Light
import Derived.Deep.AppendSrc
import Derived.Maps.AppendAt
import Derived.Laws.BytesArg
import Derived.Laws.BytesString
import Derived.OwnWalk
import Derived.Deep.WholeRow
import Derived.Deep.MidRow
import Derived.Maps.OwnSet
import Derived.Maps.OwnOps
import Derived.Maps.Views
import Derived.StillTailTactics
import Derived.WideKeyEntry
import Derived.DeepKeys4
import Derived.MapViews
/- Memory: what a call keeps of it; bytes as lists; append, Clone, Equal. -/
namespace Go.Proofs.YtmooddbhcccicaaGreatDoor
open Go.RowKit Go.Deep

/-- Whatever lay in memory is as it was, but the blocks of S; no block has gone. -/
structure Kp (S : Nat → Prop) (w w' : World) : Prop where
  os : w'.os = w.os
  tape : w'.tape = w.tape
  output : w'.output = w.output
  size : w.heap.size ≤ w'.heap.size
  block : ∀ k, k < w.heap.size → ¬ S k → w'.heap[k]? = w.heap[k]?

namespace Kp
variable {S S' : Nat → Prop} {w w' w'' : World}
theorem refl (S : Nat → Prop) (w : World) : Kp S w w := ⟨rfl, rfl, rfl, Nat.le_refl _, fun _ _ _ => rfl⟩
theorem trans (h : Kp S w w') (k : Kp S' w' w'') (hs : ∀ b, b < w.heap.size → S' b → S b) : Kp S w w'' :=
  ⟨k.os.trans h.os, k.tape.trans h.tape, k.output.trans h.output, Nat.le_trans h.size k.size, fun b hb hn =>
    (k.block b (Nat.lt_of_lt_of_le hb h.size) (fun hs' => hn (hs b hb hs'))).trans (h.block b hb hn)⟩
theorem mono (h : Kp S w w') (hs : ∀ b, b < w.heap.size → S b → S' b) : Kp S' w w' :=
  ⟨h.os, h.tape, h.output, h.size, fun b hb hn => h.block b hb (fun hs' => hn (hs b hb hs'))⟩
theorem drewN (h : Kp S w w') (n : Nat) : Kp S w (w'.drewN n) := ⟨h.os, h.tape, h.output, h.size, h.block⟩
theorem drew (h : Kp S w w') : Kp S w w'.drew := ⟨h.os, h.tape, h.output, h.size, h.block⟩
theorem alloc (h : Kp S w w') (o : Obj) : Kp S w (w'.alloc o) :=
  h.trans (S' := fun _ => False) ⟨rfl, rfl, rfl, by rw [nblk_alloc]; omega, fun k hk _ => blk_alloc_lt _ _ _ (by omega)⟩ (fun _ _ hf => hf.elim)
theorem setCell (h : Kp S w w') {a : Addr} (ha : a.block < w.heap.size → S a.block) (v : Value) : Kp S w (w'.setCell a v) :=
  h.trans (S' := fun b => b = a.block) ⟨rfl, rfl, rfl, by rw [nblk_setCell]; exact Nat.le_refl _, fun k _ hn => blk_setCell_other _ _ _ _ hn⟩ (fun b hb e => by subst e; exact ha hb)
theorem row (h : Kp S w w') {b : Nat} {t : TypeId} {n : Nat} {f : Nat → Value} (hr : w.rowIs b t n f) (hb : ¬ S b) : w'.rowIs b t n f :=
  hr.of_block (h.block b hr.lt hb)
theorem cell (h : Kp S w w') {a : Addr} (ha : a.block < w.heap.size) (hb : ¬ S a.block) : w'.cell? a = w.cell? a := World.cell?_of_block (w := w) (h.block _ ha hb)
theorem cellv (h : Kp S w w') {a : Addr} {v : Value} (hv : w.cell? a = some v) (hb : ¬ S a.block) : w'.cell? a = some v := by
  rw [h.cell (World.block_lt_of_cell? _ _ hv) hb, hv]
theorem below (h : Kp (fun _ => False) w w') : Below w.heap.size w w' := ⟨h.os, h.tape, h.output, h.size, fun k hk => h.block k hk id⟩
theorem of_below (h : Below w.heap.size w w') : Kp S w w' := ⟨h.os, h.tape, h.output, h.size, fun k hk _ => h.block k hk⟩
/-- new blocks do not count -/
theorem fresh (h : Kp (fun b => w.heap.size ≤ b) w w') : Kp (fun _ => False) w w' := h.mono (fun b hb e => by omega)
end Kp
theorem rowIs_drewN {w : World} {b : Nat} {t : TypeId} {n : Nat} {f : Nat → Value} (h : w.rowIs b t n f) (k : Nat) : (w.drewN k).rowIs b t n f := h.of_block rfl
theorem grownBy_kp {w w' : World} {v : Option Nat} (h : w.grownBy w' v) : Kp (fun b => v = some b) w w' :=
  ⟨h.os, h.tape, h.output, h.size, fun k hk hn => h.block k hk (fun e => hn e.symm)⟩
theorem ownBlock_lt {w : World} {base : Nat} {e : TypeId} {size : Nat} {v : Value} {n : Nat} {xs : List Value} (h : w.ownsRow base e size v n xs) {g : Nat} (hg : v.ownBlock = some g) : base ≤ g ∧ g < w.heap.size := by
  rcases h.2 with ⟨rfl, _⟩ | ⟨g', cap, cur, rfl, hb, hh, _⟩
  · simp [Value.ownBlock] at hg
  · simp [Value.ownBlock] at hg
    subst hg
    exact ⟨hb, (Array.getElem?_eq_some_iff.1 hh).1⟩
theorem ownsRow_keep {S : Nat → Prop} {w w' : World} {base : Nat} {e : TypeId} {size : Nat} {v : Value} {n : Nat} {xs : List Value} (h : w.ownsRow base e size v n xs) (k : Kp S w w') (hS : ∀ g, v.ownBlock = some g → ¬ S g) : w'.ownsRow base e size v n xs := by
  obtain ⟨h1, h2⟩ := h
  refine ⟨h1, ?_⟩
  rcases h2 with h2 | ⟨g, cap, cur, rfl, hb, hh, hr⟩
  · exact Or.inl h2
  · refine Or.inr ⟨g, cap, cur, rfl, hb, ?_, hr⟩
    rw [k.block g (Array.getElem?_eq_some_iff.1 hh).1 (hS g rfl), hh]
theorem ownsRow_base {w : World} {base base' : Nat} {e : TypeId} {size : Nat} {v : Value} {n : Nat} {xs : List Value} (h : w.ownsRow base e size v n xs) (hb : base' ≤ base) : w.ownsRow base' e size v n xs := by
  obtain ⟨h1, h2⟩ := h
  refine ⟨h1, ?_⟩
  rcases h2 with h2 | ⟨g, cap, cur, rfl, hb', hr⟩
  · exact Or.inl h2
  · exact Or.inr ⟨g, cap, cur, rfl, Nat.le_trans hb hb', hr⟩

theorem Kp.app {w0 w w' : World} {e : TypeId} {size : Nat} {v : Value} {n : Nat} {xs : List Value} (k0 : Kp (fun _ => False) w0 w) (ho : w.ownsRow w0.heap.size e size v n xs) (k : Kp (fun b => v.ownBlock = some b) w w') : Kp (fun _ => False) w0 w' :=
  k0.trans k (fun b hb e => by have := (ownBlock_lt ho e).1; omega)

section
variable {P : Program} (w : World)
/-- append of whatever, onto a slice of one's own -/
theorem run_append_own_src (base : Nat) (t tx ty e : TypeId) (i : TypeInfo) (z : Value) (size bytes : Nat) (ht : P.underlying t = some (.slice e)) (hi : P.info? e = some i) (hz : i.zero = some z)
    (hsize : i.size = size) (hby : i.bytes = bytes) (hzs : z.cells.size = size) (hsz : 0 < size)
    (v : Value) (n : Nat) (xs : List Value) (hown : w.ownsRow base e size v n xs)
    (x : Value) (m : Nat) (news : List Value) (hs : Src P size tx x m news w)
    (h63 : n + m ≤ maxLen) (hbytes : (n + m) * bytes ≤ 140737488355328) (hbase : base ≤ w.heap.size) :
    ∃ v' w', (Builtin.append_ #[t, tx] ty #[v, x]).run P w = .ok v' w' ∧ w'.ownsRow base e size v' (n + m) (xs ++ news) ∧ w.grownBy w' v.ownBlock ∧ (v'.ownBlock = v.ownBlock ∨ v'.ownBlock = some w.heap.size) := by
  subst hsize
  subst hby
  have hl := hs.newsLen
  have h1 := hs.one
  have hsmall : n + m ≤ 9223372036854775807 := by simp only [maxLen] at h63; omega
  have hlen : (xs ++ news).length = (n + m) * i.size := by rw [List.length_append, hown.1, hl, Nat.add_mul]
  have grown : ∀ (old : Nat), old < n + m → ∀ (row : Option Nat),
      (w.drew.alloc (.cells ((xs ++ news).toArray ++ Builtin.zeroCells z.cells (grownCap w (n + m) old e - (n + m))) e)).ownsRow base e i.size
        (.slice (some ⟨w.heap.size, 0, none⟩) (n + m) (grownCap w (n + m) old e)) (n + m) (xs ++ news) ∧
      w.grownBy (w.drew.alloc (.cells ((xs ++ news).toArray ++ Builtin.zeroCells z.cells (grownCap w (n + m) old e - (n + m))) e)) row := by
    intro old ho row
    have hge := grownCap_ge w (n + m) old e
    have hcm : grownCap w (n + m) old e ≤ maxLen := grownCap_le_maxLen w (n + m) old e h63
    refine ⟨⟨hlen, .inr ⟨w.heap.size, _, _, rfl, hbase, heap_alloc_new w.drew _, hge, hcm, ?_, ?_⟩⟩, ⟨rfl, rfl, rfl, by simp, fun k hk _ => heap_alloc_old w.drew _ hk⟩⟩
    · simp only [Array.size_append, List.size_toArray, size_zeroCells, hzs, hlen, ← Nat.add_mul]
      congr 1
      omega
    · simp only [Array.toList_append]
      rw [← hlen]
      exact List.take_left
  rcases hown.2 with ⟨rfl, rfl⟩ | ⟨g, cap, cur, rfl, hbg, hg, hnc, hcm, hcs, htake⟩
  · have hx : xs = [] := List.eq_nil_of_length_eq_zero (by simpa using hown.1)
    subst hx
    by_cases hm : m = 0
    · subst hm
      have hn : news = [] := List.eq_nil_of_length_eq_zero (by simpa using hl)
      subst hn
      refine ⟨.slice none 0 0, w, ?_, World.ownsRow_nil w base e i.size, ⟨rfl, rfl, rfl, Nat.le_refl _, fun _ _ _ => rfl⟩, Or.inl rfl⟩
      rcases hs.kind with ⟨e', hk⟩ | hk <;> simp [Builtin.append_, run_underlying ht, run_underlying hk, sizeOf, typeInfo, hi, hs.len, hs.cells]
    · have hr := run_append_grow_src (P := P) w t tx ty e i z ht hi hz none 0 0 [] (run_firstCells_none w.drew i.size 0 0 0) x m news hs (by omega) (by omega) (growslice_fits (by omega) hbytes)
      have hgr := grown 0 (by omega) (Value.ownBlock (.slice none 0 0))
      exact ⟨_, _, hr, hgr.1, hgr.2, Or.inr rfl⟩
  · by_cases hroom : n + m ≤ cap
    · have hfit : n * i.size + news.length ≤ cur.size := by rw [hl, hcs, ← Nat.add_mul]; exact Nat.mul_le_mul_right _ hroom
      have hst := run_storeCells_at P g (n * i.size) e news 0 cur w hg (by simpa using hfit) h1
      simp only [Nat.add_zero] at hst
      have hr : (Builtin.append_ #[t, tx] ty #[.slice (some ⟨g, 0, none⟩) n cap, x]).run P w =
          .ok (.slice (some ⟨g, 0, none⟩) (n + m) cap) (w.setRow g (cur.toList.take (n * i.size) ++ news ++ cur.toList.drop (n * i.size + news.length)).toArray) := by
        rcases hs.kind with ⟨e', hk⟩ | hk <;> simp [Builtin.append_, run_underlying ht, run_underlying hk, sizeOf, typeInfo, hi, hs.len, hs.cells, hroom, Addr.add_lit, hst]
      refine ⟨_, _, hr, ⟨hlen, .inr ⟨g, cap, _, rfl, hbg, setRow_heap w g cur _ e _ hg, hroom, hcm, ?_, ?_⟩⟩, ⟨rfl, rfl, rfl, by simp, fun k _ hk => setRow_other w g k _ (fun e => hk (by simp [Value.ownBlock, e]))⟩, Or.inl rfl⟩
      · simp only [List.size_toArray, List.length_append, List.length_take, List.length_drop, Array.length_toList]
        omega
      · rw [htake, ← hlen]
        exact List.take_left
    · have holds : ∀ j u, xs[j]? = some u → w.drew.cell? ((⟨g, 0, none⟩ : Addr).add j) = some u := by simpa using hown.cells (g := g) rfl
      have hr := run_append_grow_src (P := P) w t tx ty e i z ht hi hz (some ⟨g, 0, none⟩) n cap xs (run_firstCells_some w.drew i.size n ⟨g, 0, none⟩ n cap xs hown.1 holds) x m news hs (by omega) (by omega) (growslice_fits (by omega) hbytes)
      have hgr := grown cap (by omega) (Value.ownBlock (.slice (some ⟨g, 0, none⟩) n cap))
      exact ⟨_, _, hr, hgr.1, hgr.2, Or.inr rfl⟩
theorem wpList_append_own_src {ops : Array Oper} {rest : List Oper} {o : Oper} {a : Act} {Q : Exit → Act → World → Prop} (hgd : o.guard = none) (s y : Operand) (t tx : TypeId)
    (ho : o.op = .call { callee := .builtin .append, args := #[s, y], argTypes := #[t, tx] })
    (base : Nat) (e : TypeId) (i : TypeInfo) (z : Value) (size bytes : Nat) (ht : P.underlying t = some (.slice e)) (hi : P.info? e = some i) (hz : i.zero = some z)
    (hsize : i.size = size) (hby : i.bytes = bytes) (hzs : z.cells.size = size) (hsz : 0 < size)
    (v : Value) (n : Nat) (xs : List Value) (hs : a.eval s = v) (hown : w.ownsRow base e size v n xs)
    (x : Value) (m : Nat) (news : List Value) (hx : a.eval y = x) (hsrc : Src P size tx x m news w)
    (h63 : n + m ≤ maxLen) (hbytes : (n + m) * bytes ≤ 140737488355328) (hbase : base ≤ w.heap.size)
    (h : ∀ v' w', w'.ownsRow base e size v' (n + m) (xs ++ news) → w.grownBy w' v.ownBlock → (v'.ownBlock = v.ownBlock ∨ v'.ownBlock = some w.heap.size) → wpList P ops Q rest (a.put o.dst v') w') :
    wpList P ops Q (o :: rest) a w := by
  refine wpList_plain hgd fun K hK => ?_
  obtain ⟨v', w', hr, h2, h3, h4⟩ := run_append_own_src (P := P) w base t tx o.type e i z size bytes ht hi hz hsize hby hzs hsz v n xs hown x m news hsrc h63 hbytes hbase
  unfold Oper.wp execOp
  simp only [ho, resolve, invoke, builtin, Sem.run_bind, Sem.run_pure, Result.andThen_ok, List.map_toArray, List.map_cons, List.map_nil, hs, hx, hr]
  exact hK _ _ (h v' w' h2 h3 h4)
end

/-- bytes, as cells -/
def vl (xs : List Nat) : List Value := xs.map fun x => Value.int .u8 ((x : Nat) : Int)
theorem vl_length (xs : List Nat) : (vl xs).length = xs.length := by simp [vl]
theorem vl_append (xs ys : List Nat) : vl (xs ++ ys) = vl xs ++ vl ys := by simp [vl]
theorem vl_get {xs : List Nat} {j : Nat} (hj : j < xs.length) : (vl xs)[j]? = some (.int .u8 ((xs.getD j 0 : Nat) : Int)) := by
  unfold vl
  rw [List.getElem?_map, List.getElem?_eq_getElem hj, Option.map_some, List.getD_eq_getElem?_getD, List.getElem?_eq_getElem hj]; rfl
theorem vl_one (xs : List Nat) : ∀ u ∈ vl xs, u.oneCell' = true := fun u hu => by
  obtain ⟨_, _, rfl⟩ := List.mem_map.1 hu
  rfl
theorem vl_inj : ∀ {xs ys : List Nat}, vl xs = vl ys → xs = ys
  | [], [], _ => rfl
  | [], y :: ys, h => by simp [vl] at h
  | x :: xs, [], h => by simp [vl] at h
  | x :: xs, y :: ys, h => by
    simp only [vl, List.map_cons, List.cons.injEq, Value.int.injEq, true_and] at h
    rw [Int.natCast_inj.1 h.1, vl_inj (xs := xs) (ys := ys) h.2]

/-- The slice at p of n bytes reads as xs. -/
structure Rb (w : World) (p : Option Addr) (n : Nat) (xs : List Nat) : Prop where
  len : xs.length = n
  byte : ∀ x ∈ xs, x < 256
  cell : ∀ j, j < n → ∃ b o, p = some ⟨b, o, none⟩ ∧ w.cell? ⟨b, o + j, none⟩ = some (.int .u8 ((xs.getD j 0 : Nat) : Int))
theorem Rb.pt {w : World} {p : Option Addr} {n : Nat} {xs : List Nat} (h : Rb w p n xs) (hn : 0 < n) : ∃ b o, p = some ⟨b, o, none⟩ ∧ ∀ j, j < n → w.cell? ⟨b, o + j, none⟩ = some (.int .u8 ((xs.getD j 0 : Nat) : Int)) := by
  obtain ⟨b, o, rfl, _⟩ := h.cell 0 hn
  refine ⟨b, o, rfl, fun j hj => ?_⟩
  obtain ⟨b', o', e, hc⟩ := h.cell j hj
  simp only [Option.some.injEq, Addr.mk.injEq, and_true] at e
  obtain ⟨rfl, rfl⟩ := e
  exact hc
theorem Rb.keep {S : Nat → Prop} {w w' : World} {p : Option Addr} {n : Nat} {xs : List Nat} (h : Rb w p n xs) (k : Kp S w w') (hS : ∀ a, p = some a → a.block < w.heap.size → ¬ S a.block) : Rb w' p n xs :=
  ⟨h.len, h.byte, fun j hj => by
    obtain ⟨b, o, e, hc⟩ := h.cell j hj
    exact ⟨b, o, e, k.cellv hc (hS ⟨b, o, none⟩ e (show b < w.heap.size from World.block_lt_of_cell? w _ hc))⟩⟩
theorem Rb.keep0 {w w' : World} {p : Option Addr} {n : Nat} {xs : List Nat} (h : Rb w p n xs) (k : Kp (fun _ => False) w w') : Rb w' p n xs := h.keep k (fun _ _ _ => id)
theorem Rb.nil (w : World) (p : Option Addr) : Rb w p 0 [] := ⟨rfl, fun _ h => (by cases h), fun j hj => (by omega)⟩
theorem Rb.byteAt {w : World} {p : Option Addr} {n : Nat} {xs : List Nat} (h : Rb w p n xs) (j : Nat) : xs.getD j 0 < 256 := by
  by_cases hj : j < xs.length
  · rw [List.getD_eq_getElem?_getD, List.getElem?_eq_getElem hj]; exact h.byte _ (List.getElem_mem hj)
  · rw [List.getD_eq_getElem?_getD, List.getElem?_eq_none (by omega)]; exact (by decide : (0 : Nat) < 256)
/-- a part of it -/
theorem Rb.part {w : World} {p : Option Addr} {n c : Nat} {xs : List Nat} (h : Rb w p n xs) (hc : n ≤ c) {l r : Nat} (hl : l ≤ r) (hr : r ≤ n) :
    Rb w (if c = l then p else p.map (·.add (l * 1))) (r - l) ((xs.take r).drop l) := by
  refine ⟨by rw [List.length_drop, List.length_take, h.len]; omega, fun x hx => h.byte x (List.mem_of_mem_take (List.mem_of_mem_drop hx)), fun j hj => ?_⟩
  obtain ⟨b, o, rfl, hb⟩ := h.pt (by omega)
  rw [if_neg (by omega)]
  refine ⟨b, o + l, by simp [Addr.add], ?_⟩
  rw [Nat.add_assoc, hb (l + j) (by omega)]
  congr 3
  rw [List.getD_eq_getElem?_getD, List.getD_eq_getElem?_getD, List.getElem?_drop, List.getElem?_take_of_lt (by omega)]

/-- v is bytes xs of one's own -/
abbrev Ow (w : World) (base : Nat) (v : Value) (xs : List Nat) : Prop := w.ownsRow base 5 1 v xs.length (vl xs)
theorem Ow.rb {w : World} {base : Nat} {v : Value} {xs : List Nat} (h : Ow w base v xs) (hx : ∀ x ∈ xs, x < 256) : ∃ p c, v = .slice p xs.length c ∧ xs.length ≤ c ∧ Rb w p xs.length xs ∧ ∀ a, p = some a → base ≤ a.block ∧ v.ownBlock = some a.block := by
  rcases h.2 with ⟨rfl, h0⟩ | ⟨g, cap, cur, rfl, hb, hh, hn, _, hcs, htk⟩
  · have : xs = [] := List.eq_nil_of_length_eq_zero h0
    subst this
    exact ⟨none, 0, rfl, Nat.le_refl _, Rb.nil _ _, fun a e => by cases e⟩
  · refine ⟨_, cap, rfl, hn, ⟨rfl, hx, fun j hj => ⟨g, 0, rfl, ?_⟩⟩, fun a e => by cases e; exact ⟨hb, rfl⟩⟩
    have h1 : (cur.toList.take (xs.length * 1))[j]? = some (.int .u8 ((xs.getD j 0 : Nat) : Int)) := by rw [htk]; exact vl_get hj
    rw [List.getElem?_take_of_lt (by omega), Array.getElem?_toList] at h1
    rw [Nat.zero_add]
    simp [World.cell?, hh, h1]
theorem Rb.src {w : World} {p : Option Addr} {n : Nat} {xs : List Nat} (h : Rb w p n xs) (c : Nat) : Src Tryz.prog 1 34 (.slice p n c) n (vl xs) w := by
  have hl := h.len
  cases p with
  | none =>
    have h0 : n = 0 := by
      rcases Nat.eq_zero_or_pos n with h0 | h0
      · exact h0
      · obtain ⟨b, o, e, _⟩ := h.pt h0; cases e
    subst h0
    have : xs = [] := List.eq_nil_of_length_eq_zero hl
    subst this
    exact Src.ofNil w Tryz.underlying34 c
  | some a =>
    refine Src.ofSlice w Tryz.underlying34 a n c (vl xs) (by rw [vl_length]; omega) (fun j u hj => ?_) (vl_one xs)
    have hj' : j < xs.length := by
      have := (List.getElem?_eq_some_iff.1 hj).1
      rwa [vl_length] at this
    obtain ⟨b, o, e, hb⟩ := h.pt (by omega)
    simp only [Option.some.injEq] at e
    subst e
    rw [vl_get hj'] at hj
    rw [← Option.some.inj hj, show (⟨b, o, none⟩ : Addr).add j = ⟨b, o + j, none⟩ from by simp [Addr.add]]
    exact hb j (by omega)

theorem info5 : (Tryz.prog.info? 5).map (fun i => (i.zero, i.size, i.bytes)) = some (some (.int .u8 0), 1, 1) := by kernel_rfl

/-- append of bytes onto bytes of one's own, for the walk -/
theorem wpList_append_bytes {ops : Array Oper} {rest : List Oper} {o : Oper} {a : Act} {Q : Exit → Act → World → Prop} (w : World) (hgd : o.guard = none) (s y : Operand)
    (ho : o.op = .call { callee := .builtin .append, args := #[s, y], argTypes := #[34, 34] })
    (base : Nat) (v : Value) (xs : List Nat) (hs : a.eval s = v) (hown : Ow w base v xs)
    (p : Option Addr) (m c : Nat) (ys : List Nat) (hx : a.eval y = .slice p m c) (hr : Rb w p m ys)
    (hlen : xs.length + m ≤ 140737488355328) (hbase : base ≤ w.heap.size)
    (h : ∀ v' w', Ow w' base v' (xs ++ ys) → Kp (fun b => v.ownBlock = some b) w w' → (v'.ownBlock = v.ownBlock ∨ v'.ownBlock = some w.heap.size) → wpList Tryz.prog ops Q rest (a.put o.dst v') w') :
    wpList Tryz.prog ops Q (o :: rest) a w := by
  obtain ⟨ti, hi0, hz0, hz1, hz2⟩ := info_parts info5
  refine wpList_append_own_src w hgd s y 34 34 ho base 5 ti (.int .u8 0) 1 1 Tryz.underlying34 hi0 hz0 hz1 hz2 rfl (by decide) v xs.length (vl xs) hs hown _ m (vl ys) hx (hr.src c) (by unfold maxLen; omega) (by omega) hbase ?_
  intro v' w' h1 h2 h3
  refine h v' w' ?_ (grownBy_kp h2) h3
  have e : (xs ++ ys).length = xs.length + m := by rw [List.length_append, hr.len]
  unfold Ow
  rw [e, vl_append]
  exact h1

/-- .. at a step of a region that draws its order -/
theorem step_append_bytes {ops : Array Oper} {o : Oper} {a : Act} {K : Act → World → Prop} {Q : Exit → Act → World → Prop} {E : Prop} (w : World) (hgd : o.guard = none) (s y : Operand)
    (ho : o.op = .call { callee := .builtin .append, args := #[s, y], argTypes := #[34, 34] })
    (base : Nat) (v : Value) (xs : List Nat) (hs : a.eval s = v) (hown : Ow w base v xs)
    (p : Option Addr) (m c : Nat) (ys : List Nat) (hx : a.eval y = .slice p m c) (hr : Rb w p m ys)
    (hlen : xs.length + m ≤ 140737488355328) (hbase : base ≤ w.heap.size)
    (h : ∀ v' w', Ow w' base v' (xs ++ ys) → Kp (fun b => v.ownBlock = some b) w w' → (v'.ownBlock = v.ownBlock ∨ v'.ownBlock = some w.heap.size) → K (a.put o.dst v') w') :
    if Region.wanted o (yielded ops a.tmps) = true then Oper.wp Tryz.prog o a w K Q else E := by
  have hw : Region.wanted o (yielded ops a.tmps) = true := by simp [Region.wanted, hgd]
  rw [if_pos hw]
  obtain ⟨ti, hi0, hz0, hz1, hz2⟩ := info_parts info5
  obtain ⟨v', w', hrun, h2, h3, h4⟩ := run_append_own_src (P := Tryz.prog) w base 34 34 o.type 5 ti (.int .u8 0) 1 1 Tryz.underlying34 hi0 hz0 hz1 hz2 rfl (by decide) v xs.length (vl xs) hown _ m (vl ys) (hr.src c) (by unfold maxLen; omega) (by omega) hbase
  unfold Oper.wp execOp
  simp only [ho, resolve, invoke, builtin, Sem.run_bind, Sem.run_pure, Result.andThen_ok, List.map_toArray, List.map_cons, List.map_nil, hs, hx, hrun]
  refine h v' w' ?_ (grownBy_kp h3) h4
  have e : (xs ++ ys).length = xs.length + m := by rw [List.length_append, hr.len]
  unfold Ow
  rw [e, vl_append]
  exact h2

/-- .. onto what the call itself made, which began in w0 -/
theorem step_append_bytes0 {ops : Array Oper} {o : Oper} {a : Act} {K : Act → World → Prop} {Q : Exit → Act → World → Prop} {E : Prop} (w0 w : World) (k0 : Kp (fun _ => False) w0 w) (hgd : o.guard = none) (s y : Operand)
    (ho : o.op = .call { callee := .builtin .append, args := #[s, y], argTypes := #[34, 34] })
    (g c0 : Nat) (xs : List Nat) (hs : a.eval s = .slice (some ⟨g, 0, none⟩) xs.length c0) (hown : Ow w w0.heap.size (.slice (some ⟨g, 0, none⟩) xs.length c0) xs)
    (p : Option Addr) (m c : Nat) (ys : List Nat) (hx : a.eval y = .slice p m c) (hr : Rb w p m ys)
    (hlen : xs.length + m ≤ 140737488355328)
    (h : ∀ v' w', Ow w' w0.heap.size v' (xs ++ ys) → Kp (fun _ => False) w0 w' → Kp (fun b => b = g) w w' → (∀ b, v'.ownBlock = some b → b = g ∨ b = w.heap.size) → K (a.put o.dst v') w') :
    if Region.wanted o (yielded ops a.tmps) = true then Oper.wp Tryz.prog o a w K Q else E :=
  step_append_bytes w hgd s y ho w0.heap.size _ xs hs hown p m c ys hx hr hlen k0.size (fun v' w' h1 h2 h3 => h v' w' h1 (Kp.app k0 hown h2) (h2.mono (fun b _ e => (Option.some.inj (show some g = some b from e)).symm)) (fun b hb => by
    rcases h3 with h3 | h3
    · exact Or.inl (Option.some.inj (show some b = some g from hb.symm.trans h3))
    · exact Or.inr (Option.some.inj (hb.symm.trans h3))))

set_option maxRecDepth 100000 in
theorem bytes_not_nil (p : Addr) (n c : Nat) (w : World) : (binOp .eql 34 (.slice (some p) n c) (.slice none 0 0)).run Tryz.prog w = .ok (.bool false) w := by rfl
set_option maxRecDepth 100000 in
theorem bytes_nil (n c : Nat) (w : World) : (binOp .eql 34 (.slice none n c) (.slice none 0 0)).run Tryz.prog w = .ok (.bool true) w := by rfl
theorem empty_own (w : World) : Ow (w.alloc (.cells #[] 5)) w.heap.size (.slice (some ⟨w.heap.size, 0, none⟩) 0 0) [] :=
  World.ownsRow_made w #[] 0 (Nat.le_refl _) (by unfold maxLen; omega) rfl

set_option maxRecDepth 100000 in
set_option maxHeartbeats 800000 in
theorem clone_any (p : Option Addr) (n c : Nat) (xs : List Nat) (w : World) (h : Rb w p n xs) (hn : Hid (n ≤ 140737488355328)) :
    Calls Tryz.prog 13 #[.slice p n c] w fun e w' => ∃ v, e = .returned v ∧ Kp (fun _ => False) w w' ∧ Ow w' w.heap.size v xs := by
  cases p with
  | none =>
    have h0 : n = 0 := by
      rcases Nat.eq_zero_or_pos n with h0 | h0
      · exact h0
      · obtain ⟨b, o, e, _⟩ := h.pt h0; cases e
    subst h0
    have : xs = [] := List.eq_nil_of_length_eq_zero h.len
    subst this
    clear h
    have hnn := bytes_nil 0 c
    go_enter Tryz.func13, Tryz.ntmps13
    go_wp2
    go_ret
    exact ⟨_, rfl, Kp.refl _ _, World.ownsRow_nil _ _ _ _⟩
  | some a =>
    have hnn := bytes_not_nil a n c
    have hr := h.keep0 ((Kp.refl (fun _ => False) w).alloc (.cells #[] 5))
    go_enter Tryz.func13, Tryz.ntmps13
    go_wp2_with (at_builtin; go_must (refine wpList_append_bytes _ rfl _ _ rfl w.heap.size _ [] rfl (empty_own w) (some a) n c xs rfl hr (by have := hn.out; simp only [List.length_nil]; omega) (by simp) ?_); intro v' w3 hown' hk3 hblk3)
    go_ret
    refine ⟨_, rfl, Kp.trans ((Kp.refl _ _).alloc _) hk3 (fun b hb e => ?_), by simpa using hown'⟩
    have e' : some w.heap.size = some b := e
    have := Option.some.inj e'
    omega

/-- the text of bytes -/
def str (xs : List Nat) : ByteArray := strOfNums (xs.map fun x => ((x : Nat) : Int))
theorem convert_bytes (p : Option Addr) (n c : Nat) (xs : List Nat) (w : World) (h : Rb w p n xs) :
    (convert 34 9 (.slice p n c)).run Tryz.prog w = .ok (.string (str xs)) w := by
  have hl := h.len
  rcases Nat.eq_zero_or_pos n with hn | hn
  · subst hn
    have : xs = [] := List.eq_nil_of_length_eq_zero hl
    subst this
    rw [run_convert_bytes_string w 34 9 5 _ 0 c Tryz.underlying34 Tryz.underlying5 Tryz.underlying9]
    cases p <;> simp [Conv.bytesToString, loadCells]
    all_goals rfl
  · obtain ⟨b, o, rfl, hb⟩ := h.pt hn
    exact run_convert_bytes_arg (P := Tryz.prog) w 34 5 Tryz.underlying34 Tryz.underlying5 b o n c (xs.map fun x => ((x : Nat) : Int)) (by rw [List.length_map, hl]) (fun i hi => by
      rw [hb i hi]
      congr 2
      rw [List.getD_eq_getElem?_getD, List.getD_eq_getElem?_getD, List.getElem?_map, List.getElem?_eq_getElem (by omega)]; rfl) 9 Tryz.underlying9
end Go.Proofs.YtmooddbhcccicaaGreatDoor

/- Structs in blocks of their own: the variables of a function. -/
namespace Go.Proofs.YtmooddbhcccicaaGreatDoor
set_option linter.unusedVariables false
open Go.RowKit Go.Deep

/-- block g holds the cells cs, from its beginning on, and they may be written -/
structure Lv (u : World) (g : Nat) (cs : List Value) : Prop where
  r : u.rangeAt g 0 cs
  t : u.there g 0 cs.length
theorem Lv.cell {u : World} {g : Nat} {cs : List Value} (h : Lv u g cs) {j : Nat} {v : Value} (hv : cs[j]? = some v) : u.cell? ⟨g, j, none⟩ = some v := by
  have := h.r j v hv
  rwa [Nat.zero_add] at this
theorem Lv.new (w : World) (cs : Array Value) (t : TypeId) : Lv (w.alloc (.cells cs t)) w.heap.size cs.toList := by
  have hh := heap_alloc_new w (.cells cs t)
  refine ⟨fun j v hv => ?_, fun j hj => ⟨?_, ?_⟩⟩
  · rw [Nat.zero_add, cell_of_row _ _ j cs _ (0, 0) hh]
    simpa using hv
  · rw [Nat.zero_add, cell_of_row _ _ j cs _ (0, 0) hh]
    simp at hj
    simp [hj]
  · exact frozen_of_row _ _ _ cs _ hh
theorem Lv.keep {S : Nat → Prop} {u u' : World} {g : Nat} {cs : List Value} (h : Lv u g cs) (k : Kp S u u') (hS : ¬ S g) : Lv u' g cs := by
  refine ⟨fun j v hv => k.cellv (h.r j v hv) hS, fun j hj => ?_⟩
  obtain ⟨h1, h2⟩ := h.t j hj
  obtain ⟨v, hv⟩ := Option.isSome_iff_exists.1 h1
  have hlt := World.block_lt_of_cell? _ _ hv
  exact ⟨by rw [k.cellv hv hS]; rfl, by rw [World.frozen?_of_block (w := u) (k.block g hlt hS)]; exact h2⟩
theorem Lv.lt {u : World} {g : Nat} {cs : List Value} (h : Lv u g cs) (h0 : 0 < cs.length) : g < u.heap.size := by
  obtain ⟨h1, _⟩ := h.t 0 h0
  obtain ⟨v, hv⟩ := Option.isSome_iff_exists.1 h1
  exact World.block_lt_of_cell? _ _ hv
theorem kp_setCells (g : Nat) : ∀ (vs : List Value) (o : Nat) (w : World), Kp (fun b => b = g) w (w.setCells g o vs)
  | [], _, w => Kp.refl _ _
  | v :: vs, o, w => by
    show Kp _ w ((w.setCell ⟨g, o, none⟩ v).setCells g (o + 1) vs)
    exact ((Kp.refl (fun b => b = g) w).setCell (fun _ => rfl) v).trans (kp_setCells g vs (o + 1) _) (fun _ _ e => e)
theorem Lv.set {w : World} {g : Nat} {cs : List Value} (h : Lv w g cs) (o : Nat) (vs : List Value) (hle : o + vs.length ≤ cs.length) : Lv (w.setCells g o vs) g (cs.take o ++ vs ++ cs.drop (o + vs.length)) := by
  have hlen : (cs.take o ++ vs ++ cs.drop (o + vs.length)).length = cs.length := by
    simp only [List.length_append, List.length_take, List.length_drop]; omega
  have ho : w.there g o vs.length := fun j hj => by have := h.t (o + j) (by omega); simpa using this
  refine ⟨fun j v hv => ?_, by rw [hlen]; exact World.there_setCells h.t g o vs⟩
  rw [Nat.zero_add]
  by_cases h1 : j < o
  · have hv' : cs[j]? = some v := by
      rw [List.append_assoc, List.getElem?_append_left (by rw [List.length_take]; omega), List.getElem?_take_of_lt h1] at hv
      exact hv
    have hr : w.rangeAt g j [v] := fun i u hu => by
      have hi0 : i = 0 := by have := (List.getElem?_eq_some_iff.1 hu).1; simp at this; exact this
      subst hi0
      simp at hu
      subst hu
      exact h.cell hv'
    have := World.rangeAt_setCells_apart hr g o vs (Or.inr (Or.inl (by simp; omega))) 0 v rfl
    simpa using this
  · by_cases h2 : j < o + vs.length
    · have hv' : vs[j - o]? = some v := by
        rw [List.getElem?_append_left (by simp; omega), List.getElem?_append_right (by simp; omega)] at hv
        rw [List.length_take, Nat.min_eq_left (by omega)] at hv
        exact hv
      have := World.rangeAt_setCells_same w g o vs ho (j - o) v hv'
      rwa [show o + (j - o) = j by omega] at this
    · have hv' : cs[j]? = some v := by
        rw [List.getElem?_append_right (by simp; omega), List.getElem?_drop] at hv
        simp only [List.length_append, List.length_take] at hv
        rw [Nat.min_eq_left (by omega), show o + vs.length + (j - (o + vs.length)) = j by omega] at hv
        exact hv
      have hr : w.rangeAt g j [v] := fun i u hu => by
        have hi0 : i = 0 := by have := (List.getElem?_eq_some_iff.1 hu).1; simp at this; exact this
        subst hi0
        simp at hu
        subst hu
        exact h.cell hv'
      have := World.rangeAt_setCells_apart hr g o vs (Or.inr (Or.inr (by omega))) 0 v rfl
      simpa using this
theorem wpList_store_lv {ops : Array Oper} {rest : List Oper} {op : Oper} {a : Act} {w : World} {Q : Exit → Act → World → Prop} (hgd : op.guard = none) (ty : TypeId) (x y : Operand) (ho : op.op = .store ty x y)
    (g o : Nat) (cs : List Value) (cells : Array Value) (hL : Lv w g cs) (hx : a.eval x = .pointer (some ⟨g, o, none⟩)) (hy : a.eval y = .agg cells)
    (hi : (Tryz.prog.info? ty).map (·.size) = some cells.size) (hle : o + cells.size ≤ cs.length) (h1 : cells.all (·.oneCell') = true)
    (h : ∀ w', Lv w' g (cs.take o ++ cells.toList ++ cs.drop (o + cells.size)) → Kp (fun b => b = g) w w' → wpList Tryz.prog ops Q rest (a.put op.dst undef) w') : wpList Tryz.prog ops Q (op :: rest) a w := by
  have ht : w.there g o cells.size := fun j hj => by have := hL.t (o + j) (by omega); simpa using this
  refine wpList_store_mid hgd ty x y ho g o cells hx hy ht hi h1 (h _ ?_ (kp_setCells g _ _ _))
  have := hL.set o cells.toList (by simpa using hle)
  simpa using this
theorem wpList_load_lv {ops : Array Oper} {rest : List Oper} {op : Oper} {a : Act} {w : World} {Q : Exit → Act → World → Prop} (hgd : op.guard = none) (ty : TypeId) (x : Operand) (ho : op.op = .load ty x)
    (g o n : Nat) (cs : List Value) (d : TypeDesc) (hL : Lv w g cs) (hx : a.eval x = .pointer (some ⟨g, o, none⟩)) (hu : Tryz.prog.underlying ty = some d) (hd : d.isRow = true)
    (hi : (Tryz.prog.info? ty).map (·.size) = some n) (hle : o + n ≤ cs.length)
    (h : wpList Tryz.prog ops Q rest (a.put op.dst (.agg ((cs.drop o).take n).toArray)) w) : wpList Tryz.prog ops Q (op :: rest) a w := by
  have hr : w.rangeAt g o ((cs.drop o).take n) := fun j v hv => by
    have hj : j < n := by
      have := (List.getElem?_eq_some_iff.1 hv).1
      rw [List.length_take] at this
      omega
    rw [List.getElem?_take_of_lt hj, List.getElem?_drop] at hv
    have := hL.r (o + j) v hv
    rwa [Nat.zero_add] at this
  exact wpList_load_mid hgd ty x ho g o hx _ d hr hu hd (by rw [hi, List.length_take, List.length_drop, Nat.min_eq_left (by omega)]) h
theorem wpList_store_all {ops : Array Oper} {rest : List Oper} {op : Oper} {a : Act} {w : World} {Q : Exit → Act → World → Prop} (hgd : op.guard = none) (ty : TypeId) (x y : Operand) (ho : op.op = .store ty x y)
    (n g : Nat) (cs : List Value) (cells : List Value) (hx : a.eval x = .pointer (some ⟨g, 0, none⟩)) (hy : a.eval y = .agg cells.toArray) (hL : Lv w g cs)
    (hi : (Tryz.prog.info? ty).map (·.size) = some n) (hn : cs.length = n) (hl : cells.length = n) (h1 : cells.toArray.all (·.oneCell') = true)
    (h : ∀ w', Lv w' g cells → Kp (fun b => b = g) w w' → wpList Tryz.prog ops Q rest (a.put op.dst undef) w') : wpList Tryz.prog ops Q (op :: rest) a w := by
  refine wpList_store_lv hgd ty x y ho g 0 cs cells.toArray hL hx hy (by rw [hi, List.size_toArray, hl]) (by rw [List.size_toArray, hl, hn]; omega) h1 (fun w' hL' k => h w' ?_ k)
  have e : cs.take 0 ++ cells.toArray.toList ++ cs.drop (0 + cells.toArray.size) = cells := by
    rw [List.size_toArray, hl, Nat.zero_add, ← hn]
    simp
  rw [e] at hL'
  exact hL'
theorem wpList_store_sub {ops : Array Oper} {rest : List Oper} {op : Oper} {a : Act} {w : World} {Q : Exit → Act → World → Prop} (hgd : op.guard = none) (ty : TypeId) (x y : Operand) (ho : op.op = .store ty x y)
    (n g o : Nat) (cs cells cs' : List Value) (hx : a.eval x = .pointer (some ⟨g, o, none⟩)) (hy : a.eval y = .agg cells.toArray) (hL : Lv w g cs)
    (hi : (Tryz.prog.info? ty).map (·.size) = some n) (hl : cells.length = n) (hle : o + n ≤ cs.length) (h1 : cells.toArray.all (·.oneCell') = true) (he : cs.take o ++ cells ++ cs.drop (o + n) = cs')
    (h : ∀ w', Lv w' g cs' → Kp (fun b => b = g) w w' → wpList Tryz.prog ops Q rest (a.put op.dst undef) w') : wpList Tryz.prog ops Q (op :: rest) a w := by
  refine wpList_store_lv hgd ty x y ho g o cs cells.toArray hL hx hy (by rw [hi, List.size_toArray, hl]) (by rw [List.size_toArray, hl]; exact hle) h1 (fun w' hL' k => h w' ?_ k)
  rw [List.size_toArray, hl] at hL'
  rw [← he]
  exact hL'
theorem wpList_load_all {ops : Array Oper} {rest : List Oper} {op : Oper} {a : Act} {w : World} {Q : Exit → Act → World → Prop} (hgd : op.guard = none) (ty : TypeId) (x : Operand) (ho : op.op = .load ty x)
    (n g : Nat) (cs : List Value) (hx : a.eval x = .pointer (some ⟨g, 0, none⟩)) (hL : Lv w g cs) (hd : ∃ d, Tryz.prog.underlying ty = some d ∧ d.isRow = true)
    (hi : (Tryz.prog.info? ty).map (·.size) = some n) (hn : cs.length = n)
    (h : wpList Tryz.prog ops Q rest (a.put op.dst (.agg cs.toArray)) w) : wpList Tryz.prog ops Q (op :: rest) a w := by
  obtain ⟨d, hd1, hd2⟩ := hd
  refine wpList_load_lv hgd ty x ho g 0 n cs d hL hx hd1 hd2 hi (by omega) ?_
  rw [List.drop_zero, ← hn, List.take_length]
  exact h
theorem Lv.load {u : World} {g : Nat} {cs : List Value} (h : Lv u g cs) {ty : TypeId} {n : Nat} (hd : ∃ d, Tryz.prog.underlying ty = some d ∧ d.isRow = true) (hi : (Tryz.prog.info? ty).map (·.size) = some n) (hn : cs.length = n) : (loadVar ty ⟨g, 0, none⟩).run Tryz.prog u = .ok (.agg cs.toArray) u := by
  obtain ⟨d, hd1, hd2⟩ := hd
  exact run_loadVar_mid u g 0 ty cs d h.r hd1 hd2 (by rw [hi, hn])
theorem Lv.set1 {w : World} {g : Nat} {cs : List Value} (h : Lv w g cs) (o : Nat) (v : Value) (ho : o < cs.length) : Lv (w.setCell ⟨g, o, none⟩ v) g (cs.take o ++ [v] ++ cs.drop (o + 1)) := h.set o [v] (by simp; omega)
theorem Lv.fz {u : World} {g : Nat} {cs : List Value} (h : Lv u g cs) {j : Nat} (hj : j < cs.length) : u.frozen? ⟨g, j, none⟩ = false := by
  have := (h.t j hj).2
  rwa [Nat.zero_add] at this
theorem res_cell {fn : Func} {t : Tmp} {ty : TypeId} (h : fn.results = #[.cell t ty]) (tmps : Array Value) (w : World) (g : Nat) (v : Value) (ht : tmps.getD t undef = .pointer (some ⟨g, 0, none⟩)) (hl : (loadVar ty ⟨g, 0, none⟩).run Tryz.prog w = .ok v w) :
    (results fn tmps).run Tryz.prog w = .ok v w := by
  have ht' : tmps[t]?.getD undef = .pointer (some ⟨g, 0, none⟩) := by simpa using ht
  simp [results, h, ht', asAddr, hl]
theorem res_cell_tmp {fn : Func} {t t2 : Tmp} {ty : TypeId} (h : fn.results = #[.cell t ty, .tmp t2]) (tmps : Array Value) (w : World) (g : Nat) (v : Value) (ht : tmps.getD t undef = .pointer (some ⟨g, 0, none⟩)) (hl : (loadVar ty ⟨g, 0, none⟩).run Tryz.prog w = .ok v w) :
    (results fn tmps).run Tryz.prog w = .ok (.tuple #[v, tmps.getD t2 undef]) w := by
  have ht' : tmps[t]?.getD undef = .pointer (some ⟨g, 0, none⟩) := by simpa using ht
  simp [results, h, ht', asAddr, hl]
end Go.Proofs.YtmooddbhcccicaaGreatDoor

/- Maps by things (structs of three numbers), of whatever values (out of Jb). -/
namespace Go.Proofs.YtmooddbhcccicaaGreatDoor
set_option linter.unusedVariables false
set_option linter.unusedSimpArgs false
open Go.RowKit Go.Deep Go.Maps

/-- a value that is kept as it is -/
def idK (v : Value) : Option (DataW Value × List MemPlace) := some (.held v, [])

structure K3 where
  (k n i : Int)
deriving DecidableEq
abbrev pv3 (a : K3) : Value := .agg #[.int .i64 a.k, .int .i64 a.n, .int .i64 a.i]
/-- what a thing reads as -/
def pk3 (a : K3) : Lit := .string (keyBytes [.int .i64 a.k, .int .i64 a.n, .int .i64 a.i])
def wf3 (a : K3) : Prop := (Lit.int .i64 a.k).wf = true ∧ (Lit.int .i64 a.n).wf = true ∧ (Lit.int .i64 a.i).wf = true
theorem laidOut3 : laidOutB Tryz.prog = true := by kernel_rfl
theorem wideP3 : (match Tryz.prog.underlying 83 with | some (.array _ _) | some (.struct _) => true | _ => false) = true := by rw [Tryz.underlying83]
set_option maxRecDepth 100000 in
theorem p3Key : WideMaps.KeyLaw Tryz.prog 83 := deep_law_laid laidOut3 (m := 2) (by omega) (of_decide_eq_true (by kernel_rfl)) (by kernel_rfl) wideP3
theorem p3Law : Keyed Tryz.prog 83 := Keyed.of_law p3Key
theorem p3t : ∃ m, Tryz.prog.types.size = m + 1 := ⟨Tryz.prog.types.size - 1, by kernel_rfl⟩
theorem p3c : Tryz.prog.cellsOf 83 = 3 ∧ Tryz.prog.cellsOf 3 = 1 := ⟨by kernel_rfl, by kernel_rfl⟩
theorem p3k : Tryz.prog.keyType 83 = true := by kernel_rfl
theorem p3f (a : K3) : (pv3 a).formed Tryz.prog 83 = true := by
  simp [Value.formed, Tryz.underlying83]; kernel_rfl
set_option maxRecDepth 100000 in
theorem pk3_key {a : K3} (h : wf3 a) : keyOf Tryz.prog 83 (pv3 a) = some (pk3 a) := by
  obtain ⟨m, hm⟩ := p3t
  have l1 : ∀ c : Int, (Lit.int .i64 c).wf = true → Tryz.prog.keyLits (m + 1) 3 [.int .i64 c] = some [.int .i64 c] := fun c hc => by
    simp [Program.keyLits, Tryz.underlying3, hc]
  have l2 : Tryz.prog.keyLits (Tryz.prog.types.size + 1) 83 [.int .i64 a.k, .int .i64 a.n, .int .i64 a.i] = some [.int .i64 a.k, .int .i64 a.n, .int .i64 a.i] := by
    rw [hm]
    unfold Program.keyLits
    simp only [Tryz.underlying83, p3c.1, p3c.2]
    simp [List.range_succ, l1 a.k h.1, l1 a.n h.2.1, l1 a.i h.2.2, p3c.2]
  unfold keyOf
  simp only [Tryz.underlying83, p3k, p3f, Bool.and_self, if_true]
  show ((Tryz.prog.keyLits (Tryz.prog.types.size + 1) 83 [.int .i64 a.k, .int .i64 a.n, .int .i64 a.i]).map fun ls => Lit.string (keyBytes ls)) = _
  rw [l2]
  rfl
theorem pk3_inj {a b : K3} (h : wf3 a) (h' : wf3 b) (e : pk3 a = pk3 b) : a = b := by
  have h1 := pk3_key h
  have h2 := pk3_key h'
  rw [e] at h1
  have := p3Law.inj h1 h2
  simp at this
  cases a
  cases b
  simpa using this
theorem pk3_lit {a : K3} (h : wf3 a) : WideAt.IsKeyLit (pk3 a) := p3Law.key (pk3_key h)

/-- what D has under pairs: T, c of them -/
structure Pd3 (D : DataW Value) (c : Nat) (T : K3 → Option Value) : Prop where
  no : ∀ a, wf3 a → T a = none → Maps.has D (pk3 a) = false
  yes : ∀ a, wf3 a → ∀ v, T a = some v → Maps.has D (pk3 a) = true ∧ ∀ y, D.atKey (pk3 a) y = .held v
  size : Maps.size D = c
  keys : ∀ kl, Maps.has D kl = true → ∃ a, wf3 a ∧ kl = pk3 a
/-- block m is a map of c values by pairs -/
def Px3 (w : World) (m c : Nat) (T : K3 → Option Value) : Prop := ∃ D, w.ownsMap Tryz.prog 83 idK m c D ∧ Pd3 D c T
theorem Px3.lt {w : World} {m c : Nat} {T : K3 → Option Value} (h : Px3 w m c T) : m < w.heap.size := by
  obtain ⟨D, h1, h2⟩ := h
  exact h1.lt
theorem Px3.keep {S : Nat → Prop} {w w' : World} {m c : Nat} {T : K3 → Option Value} (h : Px3 w m c T) (k : Kp S w w') (hS : ¬ S m) : Px3 w' m c T := by
  have hlt := h.lt
  obtain ⟨D, ⟨es, clock, hb, r⟩, h2⟩ := h
  exact ⟨D, ⟨es, clock, (k.block m hlt hS).trans hb, r⟩, h2⟩
theorem Px3.of_block {w w' : World} {m c : Nat} {T : K3 → Option Value} (h : Px3 w m c T) (e : w'.heap[m]? = w.heap[m]?) : Px3 w' m c T := by
  obtain ⟨D, ⟨es, clock, hb, r⟩, h2⟩ := h
  exact ⟨D, ⟨es, clock, e.trans hb, r⟩, h2⟩
theorem Px3.made (w : World) : Px3 (w.alloc (.map #[] 0)) w.heap.size 0 (fun _ => none) :=
  ⟨_, World.ownsMap_made w _ _ _, fun _ _ _ => rfl, fun _ _ _ h => (by cases h), rfl, fun _ h => (by cases h)⟩
theorem Px3.congr {w : World} {m c : Nat} {T T' : K3 → Option Value} (h : Px3 w m c T) (e : ∀ a, wf3 a → T a = T' a) : Px3 w m c T' := by
  obtain ⟨D, h1, h2⟩ := h
  exact ⟨D, h1, fun a hw ht => h2.no a hw ((e a hw).trans ht), fun a hw v ht => h2.yes a hw v ((e a hw).trans ht), h2.size, h2.keys⟩
theorem own_size3 {w : World} {k : TypeId} {m q : Nat} {D : DataW Value} (h : w.ownsMap Tryz.prog k idK m q D) : w.ownsMap Tryz.prog k idK m (Maps.size D) D := by
  obtain ⟨es, clock, hb, F, hs, hD⟩ := h
  refine ⟨es, clock, hb, F, ?_, hD⟩
  rw [hD]
  show es.size ≤ List.length _
  rw [length_sorted]
  simp
/-- T with v at a, b -/
def upd3 (T : K3 → Option Value) (a : K3) (v : Value) : K3 → Option Value := fun x => if x = a then some v else T x
def del3 (T : K3 → Option Value) (a : K3) : K3 → Option Value := fun x => if x = a then none else T x
theorem Pd3.put {D : DataW Value} {c : Nat} {T : K3 → Option Value} {v : Value} {a : K3} (hT : Tidy D) (h : Pd3 D c T) (hw : wf3 a) : Pd3 (D.put (pk3 a) (.held v)) (c + (if (T a).isSome then 0 else 1)) (upd3 T a v) := by
  have hM := hT.isMap
  have hzz := pk3_lit hw
  refine ⟨fun x hxy hx => ?_, fun x hxy u hx => ?_, ?_, fun kl hk => ?_⟩
  · unfold upd3 at hx
    by_cases e : x = a
    · rw [if_pos e] at hx; cases hx
    · rw [if_neg e] at hx
      rw [has_put_other (fun h => e (pk3_inj hxy hw h))]
      exact h.no x hxy hx
  · unfold upd3 at hx
    by_cases e : x = a
    · rw [if_pos e] at hx
      injection hx with hx
      subst hx
      subst e
      exact ⟨has_put_same hM hzz _, fun y => atKey_put_same hM hzz _ y⟩
    · rw [if_neg e] at hx
      have hne : pk3 x ≠ pk3 a := fun h => e (pk3_inj hxy hw h)
      obtain ⟨b, c⟩ := h.yes x hxy u hx
      exact ⟨by rw [has_put_other hne]; exact b, fun y => by rw [atKey_put_other hne]; exact c y⟩
  · rw [size_put hT, h.size]
    cases hz : T a with
    | none => rw [h.no a hw hz]; rfl
    | some u => rw [(h.yes a hw u hz).1]; rfl
  · by_cases e : kl = pk3 a
    · exact ⟨a, hw, e⟩
    · rw [has_put_other e] at hk
      exact h.keys kl hk
theorem Pd3.del {D : DataW Value} {c : Nat} {T : K3 → Option Value} {a : K3} (hT : Tidy D) (h : Pd3 D c T) (hw : wf3 a) : Pd3 (D.del (pk3 a)) (c - (if (T a).isSome then 1 else 0)) (del3 T a) := by
  refine ⟨fun x hxy hx => ?_, fun x hxy u hx => ?_, ?_, fun kl hk => ?_⟩
  · unfold del3 at hx
    by_cases e : x = a
    · subst e
      exact has_del_same
    · rw [if_neg e] at hx
      rw [has_del_other (fun h => e (pk3_inj hxy hw h))]
      exact h.no x hxy hx
  · unfold del3 at hx
    by_cases e : x = a
    · rw [if_pos e] at hx; cases hx
    · rw [if_neg e] at hx
      have hne : pk3 x ≠ pk3 a := fun h => e (pk3_inj hxy hw h)
      obtain ⟨b, c⟩ := h.yes x hxy u hx
      exact ⟨by rw [has_del_other hne]; exact b, fun y => by rw [atKey_del_other hne]; exact c y⟩
  · have := size_del hT (k := pk3 a)
    rw [h.size] at this
    cases hz : T a with
    | none => rw [h.no a hw hz] at this; simpa using this
    | some u => rw [(h.yes a hw u hz).1] at this; simp at this ⊢; omega
  · by_cases e : kl = pk3 a
    · rw [e, has_del_same] at hk; cases hk
    · rw [has_del_other e] at hk
      exact h.keys kl hk
theorem Pd3.look {D : DataW Value} {c : Nat} {T : K3 → Option Value} (h : Pd3 D c T) {a : K3} (hw : wf3 a) (y : Value) : Maps.has D (pk3 a) = (T a).isSome ∧ D.atKey (pk3 a) (.held y) = .held ((T a).getD y) := by
  cases hz : T a with
  | none => exact ⟨h.no a hw hz, atKey_of_not_has (h.no a hw hz) _⟩
  | some v => exact ⟨(h.yes a hw v hz).1, (h.yes a hw v hz).2 _⟩

section
variable {MT ET : TypeId} {zv : Value}
set_option maxRecDepth 100000 in
theorem look_px3_ok {w : World} {m c : Nat} {T : K3 → Option Value} (hu : Tryz.prog.underlying MT = some (.map 83 ET)) (hz : ∀ w, (zeroValue ET).run Tryz.prog w = .ok zv w) (h : Px3 w m c T) {a : K3} (hw : wf3 a) : (Instr.lookup MT (.map (some m)) (pv3 a) true).run Tryz.prog w = .ok (.tuple #[(T a).getD zv, .bool (T a).isSome]) w := by
  obtain ⟨D, h1, h2⟩ := h
  obtain ⟨e1, e2⟩ := h2.look hw zv
  obtain ⟨v, ps, hrun, hv⟩ := h1.look_ok p3Law hu (hz w) (zd := .held zv) (zp := []) rfl (pk3_key hw)
  rw [e2] at hv
  injection hv with hv
  injection hv with hv _
  injection hv with hv
  rw [hrun, hv, e1]
theorem put_px3 {w : World} {m c : Nat} {T : K3 → Option Value} (hu : Tryz.prog.underlying MT = some (.map 83 ET)) (h : Px3 w m c T) (hq : c < 4611686018427387904) {a : K3} (hw : wf3 a) (u : Value) :
    ∃ w', (Instr.mapUpdate MT (.map (some m)) (pv3 a) u).run Tryz.prog w = .ok () w' ∧ Px3 w' m (c + (if (T a).isSome then 0 else 1)) (upd3 T a u) ∧ Kp (fun x => x = m) w w' := by
  obtain ⟨D, h1, h2⟩ := h
  obtain ⟨w', hr, r1, r2⟩ := h1.update p3Law hu (by unfold maxLen; omega) (pk3_key hw) (d := .held u) (ps := []) (val := u) rfl
  have h3 := h2.put (v := u) (h1.tidy p3Law) hw
  exact ⟨w', hr, ⟨_, by rw [← h3.size]; exact own_size3 r1, h3⟩, (grownBy_kp r2).mono (fun b _ e => by cases e; rfl)⟩
theorem wpList_put_px3 {ops : Array Oper} {rest : List Oper} {o : Oper} {ac : Act} {w : World} {Q : Exit → Act → World → Prop} (hg : o.guard = none) (mm x v : Operand) (hop : o.op = Op.mapUpdate MT mm x v)
    (hu : Tryz.prog.underlying MT = some (.map 83 ET))
    (m c : Nat) (T : K3 → Option Value) (h : Px3 w m c T) (hm : ac.eval mm = .map (some m)) (hq : c < 4611686018427387904) {a : K3} (hw : wf3 a) (hx : ac.eval x = pv3 a) (u : Value) (hv : ac.eval v = u)
    (hK : ∀ w', Px3 w' m (c + (if (T a).isSome then 0 else 1)) (upd3 T a u) → Kp (fun x => x = m) w w' → wpList Tryz.prog ops Q rest (ac.put o.dst undef) w') : wpList Tryz.prog ops Q (o :: rest) ac w := by
  obtain ⟨D, h1, h2⟩ := h
  refine wpList_mapUpdate_own _ hg mm x v MT hop 83 ET p3Law hu _ m c D hm h1 (by unfold maxLen; omega) _ _ _ hx hv (pk3_key hw) (.held u) [] rfl ?_
  intro w' h3 hg'
  have h4 := h2.put (v := u) (h1.tidy p3Law) hw
  exact hK w' ⟨_, by rw [← h4.size]; exact own_size3 h3, h4⟩ ((grownBy_kp hg').mono (fun b _ e => by cases e; rfl))
theorem wpList_del_px3 {ops : Array Oper} {rest : List Oper} {o : Oper} {ac : Act} {w : World} {Q : Exit → Act → World → Prop} (hg : o.guard = none) (mm x : Operand) (hop : o.op = Op.call { callee := Callee.builtin Builtin.delete, args := #[mm, x], argTypes := #[MT, 83] })
    (hu : Tryz.prog.underlying MT = some (.map 83 ET))
    (m c : Nat) (T : K3 → Option Value) (h : Px3 w m c T) (hm : ac.eval mm = .map (some m)) {a : K3} (hw : wf3 a) (hx : ac.eval x = pv3 a)
    (hK : ∀ w', Px3 w' m (c - (if (T a).isSome then 1 else 0)) (del3 T a) → Kp (fun x => x = m) w w' → wpList Tryz.prog ops Q rest (ac.put o.dst (.tuple #[])) w') : wpList Tryz.prog ops Q (o :: rest) ac w := by
  obtain ⟨D, h1, h2⟩ := h
  refine wpList_delete_own _ hg mm x MT 83 hop ET p3Law hu _ m c D hm h1 _ _ hx (pk3_key hw) ?_
  intro w' h3 hg'
  have h4 := h2.del (h1.tidy p3Law) hw
  exact hK w' ⟨_, by rw [← h4.size]; exact own_size3 h3, h4⟩ ((grownBy_kp hg'.grown).mono (fun b _ e => by cases e; rfl))
end

end Go.Proofs.YtmooddbhcccicaaGreatDoor
