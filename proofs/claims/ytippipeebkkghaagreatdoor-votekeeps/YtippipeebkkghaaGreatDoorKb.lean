/- Memory: what a call keeps of it; bytes as lists; append, Clone, Equal. -/
import Derived.Test.YtippipeebkkghaaGreatDoorProg
import Derived.WalkKit
import Derived.WalkSpells
import Derived.Deep.QuietTactic
import Derived.BigQuiet
import Derived.RowKit3
import Derived.Deep.OwnRows
import Derived.Deep.LoopGhost
import Derived.Deep.RegionHeld3
import Derived.Deep.Light
import Derived.Deep.AppendSrc
import Derived.Maps.AppendAt
import Derived.Laws.BytesArg
import Derived.Laws.BytesString
import Derived.OwnWalk
namespace Go.Proofs.YtippipeebkkghaaGreatDoor
open Go.RowKit Go.Deep

/-- Whatever lay in memory is as it was, but the blocks of S; no block has gone. -/
structure Kp (S : Nat → Prop) (w w' : World) : Prop where
  os : w'.os = w.os
  tape : w'.tape = w.tape
  output : w'.output = w.output
  size : w.heap.size ≤ w'.heap.size
  block : ∀ k, k < w.heap.size → ¬ S k → w'.heap[k]? = w.heap[k]?

namespace Kp
variable {S S' : Nat → Prop} {w w' w'' : World}
theorem refl (S : Nat → Prop) (w : World) : Kp S w w := ⟨rfl, rfl, rfl, Nat.le_refl _, fun _ _ _ => rfl⟩
theorem trans (h : Kp S w w') (k : Kp S' w' w'') (hs : ∀ b, b < w.heap.size → S' b → S b) : Kp S w w'' :=
  ⟨k.os.trans h.os, k.tape.trans h.tape, k.output.trans h.output, Nat.le_trans h.size k.size, fun b hb hn =>
    (k.block b (Nat.lt_of_lt_of_le hb h.size) (fun hs' => hn (hs b hb hs'))).trans (h.block b hb hn)⟩
theorem mono (h : Kp S w w') (hs : ∀ b, b < w.heap.size → S b → S' b) : Kp S' w w' :=
  ⟨h.os, h.tape, h.output, h.size, fun b hb hn => h.block b hb (fun hs' => hn (hs b hb hs'))⟩
theorem drewN (h : Kp S w w') (n : Nat) : Kp S w (w'.drewN n) := ⟨h.os, h.tape, h.output, h.size, h.block⟩
theorem drew (h : Kp S w w') : Kp S w w'.drew := ⟨h.os, h.tape, h.output, h.size, h.block⟩
theorem alloc (h : Kp S w w') (o : Obj) : Kp S w (w'.alloc o) :=
  h.trans (S' := fun _ => False) ⟨rfl, rfl, rfl, by rw [nblk_alloc]; omega, fun k hk _ => blk_alloc_lt _ _ _ (by omega)⟩ (fun _ _ hf => hf.elim)
theorem setCell (h : Kp S w w') {a : Addr} (ha : a.block < w.heap.size → S a.block) (v : Value) : Kp S w (w'.setCell a v) :=
  h.trans (S' := fun b => b = a.block) ⟨rfl, rfl, rfl, by rw [nblk_setCell]; exact Nat.le_refl _, fun k _ hn => blk_setCell_other _ _ _ _ hn⟩ (fun b hb e => by subst e; exact ha hb)
theorem row (h : Kp S w w') {b : Nat} {t : TypeId} {n : Nat} {f : Nat → Value} (hr : w.rowIs b t n f) (hb : ¬ S b) : w'.rowIs b t n f :=
  hr.of_block (h.block b hr.lt hb)
theorem cell (h : Kp S w w') {a : Addr} (ha : a.block < w.heap.size) (hb : ¬ S a.block) : w'.cell? a = w.cell? a := World.cell?_of_block (w := w) (h.block _ ha hb)
theorem cellv (h : Kp S w w') {a : Addr} {v : Value} (hv : w.cell? a = some v) (hb : ¬ S a.block) : w'.cell? a = some v := by
  rw [h.cell (World.block_lt_of_cell? _ _ hv) hb, hv]
theorem below (h : Kp (fun _ => False) w w') : Below w.heap.size w w' := ⟨h.os, h.tape, h.output, h.size, fun k hk => h.block k hk id⟩
theorem of_below (h : Below w.heap.size w w') : Kp S w w' := ⟨h.os, h.tape, h.output, h.size, fun k hk _ => h.block k hk⟩
/-- new blocks do not count -/
theorem fresh (h : Kp (fun b => w.heap.size ≤ b) w w') : Kp (fun _ => False) w w' := h.mono (fun b hb e => by omega)
end Kp
theorem rowIs_drewN {w : World} {b : Nat} {t : TypeId} {n : Nat} {f : Nat → Value} (h : w.rowIs b t n f) (k : Nat) : (w.drewN k).rowIs b t n f := h.of_block rfl
theorem grownBy_kp {w w' : World} {v : Option Nat} (h : w.grownBy w' v) : Kp (fun b => v = some b) w w' :=
  ⟨h.os, h.tape, h.output, h.size, fun k hk hn => h.block k hk (fun e => hn e.symm)⟩
theorem ownBlock_lt {w : World} {base : Nat} {e : TypeId} {size : Nat} {v : Value} {n : Nat} {xs : List Value} (h : w.ownsRow base e size v n xs) {g : Nat} (hg : v.ownBlock = some g) : base ≤ g ∧ g < w.heap.size := by
  rcases h.2 with ⟨rfl, _⟩ | ⟨g', cap, cur, rfl, hb, hh, _⟩
  · simp [Value.ownBlock] at hg
  · simp [Value.ownBlock] at hg
    subst hg
    exact ⟨hb, (Array.getElem?_eq_some_iff.1 hh).1⟩
theorem ownsRow_keep {S : Nat → Prop} {w w' : World} {base : Nat} {e : TypeId} {size : Nat} {v : Value} {n : Nat} {xs : List Value} (h : w.ownsRow base e size v n xs) (k : Kp S w w') (hS : ∀ g, v.ownBlock = some g → ¬ S g) : w'.ownsRow base e size v n xs := by
  obtain ⟨h1, h2⟩ := h
  refine ⟨h1, ?_⟩
  rcases h2 with h2 | ⟨g, cap, cur, rfl, hb, hh, hr⟩
  · exact Or.inl h2
  · refine Or.inr ⟨g, cap, cur, rfl, hb, ?_, hr⟩
    rw [k.block g (Array.getElem?_eq_some_iff.1 hh).1 (hS g rfl), hh]
theorem ownsRow_base {w : World} {base base' : Nat} {e : TypeId} {size : Nat} {v : Value} {n : Nat} {xs : List Value} (h : w.ownsRow base e size v n xs) (hb : base' ≤ base) : w.ownsRow base' e size v n xs := by
  obtain ⟨h1, h2⟩ := h
  refine ⟨h1, ?_⟩
  rcases h2 with h2 | ⟨g, cap, cur, rfl, hb', hr⟩
  · exact Or.inl h2
  · exact Or.inr ⟨g, cap, cur, rfl, Nat.le_trans hb hb', hr⟩

theorem Kp.app {w0 w w' : World} {e : TypeId} {size : Nat} {v : Value} {n : Nat} {xs : List Value} (k0 : Kp (fun _ => False) w0 w) (ho : w.ownsRow w0.heap.size e size v n xs) (k : Kp (fun b => v.ownBlock = some b) w w') : Kp (fun _ => False) w0 w' :=
  k0.trans k (fun b hb e => by have := (ownBlock_lt ho e).1; omega)

section
variable {P : Program} (w : World)
/-- append of whatever, onto a slice of one's own -/
theorem run_append_own_src (base : Nat) (t tx ty e : TypeId) (i : TypeInfo) (z : Value) (size bytes : Nat) (ht : P.underlying t = some (.slice e)) (hi : P.info? e = some i) (hz : i.zero = some z)
    (hsize : i.size = size) (hby : i.bytes = bytes) (hzs : z.cells.size = size) (hsz : 0 < size)
    (v : Value) (n : Nat) (xs : List Value) (hown : w.ownsRow base e size v n xs)
    (x : Value) (m : Nat) (news : List Value) (hs : Src P size tx x m news w)
    (h63 : n + m ≤ maxLen) (hbytes : (n + m) * bytes ≤ 140737488355328) (hbase : base ≤ w.heap.size) :
    ∃ v' w', (Builtin.append_ #[t, tx] ty #[v, x]).run P w = .ok v' w' ∧ w'.ownsRow base e size v' (n + m) (xs ++ news) ∧ w.grownBy w' v.ownBlock ∧ (v'.ownBlock = v.ownBlock ∨ v'.ownBlock = some w.heap.size) := by
  subst hsize
  subst hby
  have hl := hs.newsLen
  have h1 := hs.one
  have hsmall : n + m ≤ 9223372036854775807 := by simp only [maxLen] at h63; omega
  have hlen : (xs ++ news).length = (n + m) * i.size := by rw [List.length_append, hown.1, hl, Nat.add_mul]
  have grown : ∀ (old : Nat), old < n + m → ∀ (row : Option Nat),
      (w.drew.alloc (.cells ((xs ++ news).toArray ++ Builtin.zeroCells z.cells (grownCap w (n + m) old e - (n + m))) e)).ownsRow base e i.size
        (.slice (some ⟨w.heap.size, 0, none⟩) (n + m) (grownCap w (n + m) old e)) (n + m) (xs ++ news) ∧
      w.grownBy (w.drew.alloc (.cells ((xs ++ news).toArray ++ Builtin.zeroCells z.cells (grownCap w (n + m) old e - (n + m))) e)) row := by
    intro old ho row
    have hge := grownCap_ge w (n + m) old e
    have hcm : grownCap w (n + m) old e ≤ maxLen := grownCap_le_maxLen w (n + m) old e h63
    refine ⟨⟨hlen, .inr ⟨w.heap.size, _, _, rfl, hbase, heap_alloc_new w.drew _, hge, hcm, ?_, ?_⟩⟩, ⟨rfl, rfl, rfl, by simp, fun k hk _ => heap_alloc_old w.drew _ hk⟩⟩
    · simp only [Array.size_append, List.size_toArray, size_zeroCells, hzs, hlen, ← Nat.add_mul]
      congr 1
      omega
    · simp only [Array.toList_append]
      rw [← hlen]
      exact List.take_left
  rcases hown.2 with ⟨rfl, rfl⟩ | ⟨g, cap, cur, rfl, hbg, hg, hnc, hcm, hcs, htake⟩
  · have hx : xs = [] := List.eq_nil_of_length_eq_zero (by simpa using hown.1)
    subst hx
    by_cases hm : m = 0
    · subst hm
      have hn : news = [] := List.eq_nil_of_length_eq_zero (by simpa using hl)
      subst hn
      refine ⟨.slice none 0 0, w, ?_, World.ownsRow_nil w base e i.size, ⟨rfl, rfl, rfl, Nat.le_refl _, fun _ _ _ => rfl⟩, Or.inl rfl⟩
      rcases hs.kind with ⟨e', hk⟩ | hk <;> simp [Builtin.append_, run_underlying ht, run_underlying hk, sizeOf, typeInfo, hi, hs.len, hs.cells]
    · have hr := run_append_grow_src (P := P) w t tx ty e i z ht hi hz none 0 0 [] (run_firstCells_none w.drew i.size 0 0 0) x m news hs (by omega) (by omega) (growslice_fits (by omega) hbytes)
      have hgr := grown 0 (by omega) (Value.ownBlock (.slice none 0 0))
      exact ⟨_, _, hr, hgr.1, hgr.2, Or.inr rfl⟩
  · by_cases hroom : n + m ≤ cap
    · have hfit : n * i.size + news.length ≤ cur.size := by rw [hl, hcs, ← Nat.add_mul]; exact Nat.mul_le_mul_right _ hroom
      have hst := run_storeCells_at P g (n * i.size) e news 0 cur w hg (by simpa using hfit) h1
      simp only [Nat.add_zero] at hst
      have hr : (Builtin.append_ #[t, tx] ty #[.slice (some ⟨g, 0, none⟩) n cap, x]).run P w =
          .ok (.slice (some ⟨g, 0, none⟩) (n + m) cap) (w.setRow g (cur.toList.take (n * i.size) ++ news ++ cur.toList.drop (n * i.size + news.length)).toArray) := by
        rcases hs.kind with ⟨e', hk⟩ | hk <;> simp [Builtin.append_, run_underlying ht, run_underlying hk, sizeOf, typeInfo, hi, hs.len, hs.cells, hroom, Addr.add_lit, hst]
      refine ⟨_, _, hr, ⟨hlen, .inr ⟨g, cap, _, rfl, hbg, setRow_heap w g cur _ e _ hg, hroom, hcm, ?_, ?_⟩⟩, ⟨rfl, rfl, rfl, by simp, fun k _ hk => setRow_other w g k _ (fun e => hk (by simp [Value.ownBlock, e]))⟩, Or.inl rfl⟩
      · simp only [List.size_toArray, List.length_append, List.length_take, List.length_drop, Array.length_toList]
        omega
      · rw [htake, ← hlen]
        exact List.take_left
    · have holds : ∀ j u, xs[j]? = some u → w.drew.cell? ((⟨g, 0, none⟩ : Addr).add j) = some u := by simpa using hown.cells (g := g) rfl
      have hr := run_append_grow_src (P := P) w t tx ty e i z ht hi hz (some ⟨g, 0, none⟩) n cap xs (run_firstCells_some w.drew i.size n ⟨g, 0, none⟩ n cap xs hown.1 holds) x m news hs (by omega) (by omega) (growslice_fits (by omega) hbytes)
      have hgr := grown cap (by omega) (Value.ownBlock (.slice (some ⟨g, 0, none⟩) n cap))
      exact ⟨_, _, hr, hgr.1, hgr.2, Or.inr rfl⟩
theorem wpList_append_own_src {ops : Array Oper} {rest : List Oper} {o : Oper} {a : Act} {Q : Exit → Act → World → Prop} (hgd : o.guard = none) (s y : Operand) (t tx : TypeId)
    (ho : o.op = .call { callee := .builtin .append, args := #[s, y], argTypes := #[t, tx] })
    (base : Nat) (e : TypeId) (i : TypeInfo) (z : Value) (size bytes : Nat) (ht : P.underlying t = some (.slice e)) (hi : P.info? e = some i) (hz : i.zero = some z)
    (hsize : i.size = size) (hby : i.bytes = bytes) (hzs : z.cells.size = size) (hsz : 0 < size)
    (v : Value) (n : Nat) (xs : List Value) (hs : a.eval s = v) (hown : w.ownsRow base e size v n xs)
    (x : Value) (m : Nat) (news : List Value) (hx : a.eval y = x) (hsrc : Src P size tx x m news w)
    (h63 : n + m ≤ maxLen) (hbytes : (n + m) * bytes ≤ 140737488355328) (hbase : base ≤ w.heap.size)
    (h : ∀ v' w', w'.ownsRow base e size v' (n + m) (xs ++ news) → w.grownBy w' v.ownBlock → (v'.ownBlock = v.ownBlock ∨ v'.ownBlock = some w.heap.size) → wpList P ops Q rest (a.put o.dst v') w') :
    wpList P ops Q (o :: rest) a w := by
  refine wpList_plain hgd fun K hK => ?_
  obtain ⟨v', w', hr, h2, h3, h4⟩ := run_append_own_src (P := P) w base t tx o.type e i z size bytes ht hi hz hsize hby hzs hsz v n xs hown x m news hsrc h63 hbytes hbase
  unfold Oper.wp execOp
  simp only [ho, resolve, invoke, builtin, Sem.run_bind, Sem.run_pure, Result.andThen_ok, List.map_toArray, List.map_cons, List.map_nil, hs, hx, hr]
  exact hK _ _ (h v' w' h2 h3 h4)
end

/-- bytes, as cells -/
def vl (xs : List Nat) : List Value := xs.map fun x => Value.int .u8 ((x : Nat) : Int)
theorem vl_length (xs : List Nat) : (vl xs).length = xs.length := by simp [vl]
theorem vl_append (xs ys : List Nat) : vl (xs ++ ys) = vl xs ++ vl ys := by simp [vl]
theorem vl_get {xs : List Nat} {j : Nat} (hj : j < xs.length) : (vl xs)[j]? = some (.int .u8 ((xs.getD j 0 : Nat) : Int)) := by
  unfold vl
  rw [List.getElem?_map, List.getElem?_eq_getElem hj, Option.map_some, List.getD_eq_getElem?_getD, List.getElem?_eq_getElem hj]; rfl
theorem vl_one (xs : List Nat) : ∀ u ∈ vl xs, u.oneCell' = true := fun u hu => by
  obtain ⟨_, _, rfl⟩ := List.mem_map.1 hu
  rfl
theorem vl_inj : ∀ {xs ys : List Nat}, vl xs = vl ys → xs = ys
  | [], [], _ => rfl
  | [], y :: ys, h => by simp [vl] at h
  | x :: xs, [], h => by simp [vl] at h
  | x :: xs, y :: ys, h => by
    simp only [vl, List.map_cons, List.cons.injEq, Value.int.injEq, true_and] at h
    rw [Int.natCast_inj.1 h.1, vl_inj (xs := xs) (ys := ys) h.2]

/-- The slice at p of n bytes reads as xs. -/
structure Rb (w : World) (p : Option Addr) (n : Nat) (xs : List Nat) : Prop where
  len : xs.length = n
  byte : ∀ x ∈ xs, x < 256
  cell : ∀ j, j < n → ∃ b o, p = some ⟨b, o, none⟩ ∧ w.cell? ⟨b, o + j, none⟩ = some (.int .u8 ((xs.getD j 0 : Nat) : Int))
theorem Rb.pt {w : World} {p : Option Addr} {n : Nat} {xs : List Nat} (h : Rb w p n xs) (hn : 0 < n) : ∃ b o, p = some ⟨b, o, none⟩ ∧ ∀ j, j < n → w.cell? ⟨b, o + j, none⟩ = some (.int .u8 ((xs.getD j 0 : Nat) : Int)) := by
  obtain ⟨b, o, rfl, _⟩ := h.cell 0 hn
  refine ⟨b, o, rfl, fun j hj => ?_⟩
  obtain ⟨b', o', e, hc⟩ := h.cell j hj
  simp only [Option.some.injEq, Addr.mk.injEq, and_true] at e
  obtain ⟨rfl, rfl⟩ := e
  exact hc
theorem Rb.keep {S : Nat → Prop} {w w' : World} {p : Option Addr} {n : Nat} {xs : List Nat} (h : Rb w p n xs) (k : Kp S w w') (hS : ∀ a, p = some a → a.block < w.heap.size → ¬ S a.block) : Rb w' p n xs :=
  ⟨h.len, h.byte, fun j hj => by
    obtain ⟨b, o, e, hc⟩ := h.cell j hj
    exact ⟨b, o, e, k.cellv hc (hS ⟨b, o, none⟩ e (show b < w.heap.size from World.block_lt_of_cell? w _ hc))⟩⟩
theorem Rb.keep0 {w w' : World} {p : Option Addr} {n : Nat} {xs : List Nat} (h : Rb w p n xs) (k : Kp (fun _ => False) w w') : Rb w' p n xs := h.keep k (fun _ _ _ => id)
theorem Rb.nil (w : World) (p : Option Addr) : Rb w p 0 [] := ⟨rfl, fun _ h => (by cases h), fun j hj => (by omega)⟩
theorem Rb.byteAt {w : World} {p : Option Addr} {n : Nat} {xs : List Nat} (h : Rb w p n xs) (j : Nat) : xs.getD j 0 < 256 := by
  by_cases hj : j < xs.length
  · rw [List.getD_eq_getElem?_getD, List.getElem?_eq_getElem hj]; exact h.byte _ (List.getElem_mem hj)
  · rw [List.getD_eq_getElem?_getD, List.getElem?_eq_none (by omega)]; exact (by decide : (0 : Nat) < 256)
/-- a part of it -/
theorem Rb.part {w : World} {p : Option Addr} {n c : Nat} {xs : List Nat} (h : Rb w p n xs) (hc : n ≤ c) {l r : Nat} (hl : l ≤ r) (hr : r ≤ n) :
    Rb w (if c = l then p else p.map (·.add (l * 1))) (r - l) ((xs.take r).drop l) := by
  refine ⟨by rw [List.length_drop, List.length_take, h.len]; omega, fun x hx => h.byte x (List.mem_of_mem_take (List.mem_of_mem_drop hx)), fun j hj => ?_⟩
  obtain ⟨b, o, rfl, hb⟩ := h.pt (by omega)
  rw [if_neg (by omega)]
  refine ⟨b, o + l, by simp [Addr.add], ?_⟩
  rw [Nat.add_assoc, hb (l + j) (by omega)]
  congr 3
  rw [List.getD_eq_getElem?_getD, List.getD_eq_getElem?_getD, List.getElem?_drop, List.getElem?_take_of_lt (by omega)]

/-- v is bytes xs of one's own -/
abbrev Ow (w : World) (base : Nat) (v : Value) (xs : List Nat) : Prop := w.ownsRow base 5 1 v xs.length (vl xs)
theorem Ow.rb {w : World} {base : Nat} {v : Value} {xs : List Nat} (h : Ow w base v xs) (hx : ∀ x ∈ xs, x < 256) : ∃ p c, v = .slice p xs.length c ∧ xs.length ≤ c ∧ Rb w p xs.length xs ∧ ∀ a, p = some a → base ≤ a.block ∧ v.ownBlock = some a.block := by
  rcases h.2 with ⟨rfl, h0⟩ | ⟨g, cap, cur, rfl, hb, hh, hn, _, hcs, htk⟩
  · have : xs = [] := List.eq_nil_of_length_eq_zero h0
    subst this
    exact ⟨none, 0, rfl, Nat.le_refl _, Rb.nil _ _, fun a e => by cases e⟩
  · refine ⟨_, cap, rfl, hn, ⟨rfl, hx, fun j hj => ⟨g, 0, rfl, ?_⟩⟩, fun a e => by cases e; exact ⟨hb, rfl⟩⟩
    have h1 : (cur.toList.take (xs.length * 1))[j]? = some (.int .u8 ((xs.getD j 0 : Nat) : Int)) := by rw [htk]; exact vl_get hj
    rw [List.getElem?_take_of_lt (by omega), Array.getElem?_toList] at h1
    rw [Nat.zero_add]
    simp [World.cell?, hh, h1]
theorem Rb.src {w : World} {p : Option Addr} {n : Nat} {xs : List Nat} (h : Rb w p n xs) (c : Nat) : Src Tryz.prog 1 75 (.slice p n c) n (vl xs) w := by
  have hl := h.len
  cases p with
  | none =>
    have h0 : n = 0 := by
      rcases Nat.eq_zero_or_pos n with h0 | h0
      · exact h0
      · obtain ⟨b, o, e, _⟩ := h.pt h0; cases e
    subst h0
    have : xs = [] := List.eq_nil_of_length_eq_zero hl
    subst this
    exact Src.ofNil w Tryz.underlying75 c
  | some a =>
    refine Src.ofSlice w Tryz.underlying75 a n c (vl xs) (by rw [vl_length]; omega) (fun j u hj => ?_) (vl_one xs)
    have hj' : j < xs.length := by
      have := (List.getElem?_eq_some_iff.1 hj).1
      rwa [vl_length] at this
    obtain ⟨b, o, e, hb⟩ := h.pt (by omega)
    simp only [Option.some.injEq] at e
    subst e
    rw [vl_get hj'] at hj
    rw [← Option.some.inj hj, show (⟨b, o, none⟩ : Addr).add j = ⟨b, o + j, none⟩ from by simp [Addr.add]]
    exact hb j (by omega)

theorem info5 : (Tryz.prog.info? 5).map (fun i => (i.zero, i.size, i.bytes)) = some (some (.int .u8 0), 1, 1) := by kernel_rfl

/-- append of bytes onto bytes of one's own, for the walk -/
theorem wpList_append_bytes {ops : Array Oper} {rest : List Oper} {o : Oper} {a : Act} {Q : Exit → Act → World → Prop} (w : World) (hgd : o.guard = none) (s y : Operand)
    (ho : o.op = .call { callee := .builtin .append, args := #[s, y], argTypes := #[75, 75] })
    (base : Nat) (v : Value) (xs : List Nat) (hs : a.eval s = v) (hown : Ow w base v xs)
    (p : Option Addr) (m c : Nat) (ys : List Nat) (hx : a.eval y = .slice p m c) (hr : Rb w p m ys)
    (hlen : xs.length + m ≤ 140737488355328) (hbase : base ≤ w.heap.size)
    (h : ∀ v' w', Ow w' base v' (xs ++ ys) → Kp (fun b => v.ownBlock = some b) w w' → (v'.ownBlock = v.ownBlock ∨ v'.ownBlock = some w.heap.size) → wpList Tryz.prog ops Q rest (a.put o.dst v') w') :
    wpList Tryz.prog ops Q (o :: rest) a w := by
  obtain ⟨ti, hi0, hz0, hz1, hz2⟩ := info_parts info5
  refine wpList_append_own_src w hgd s y 75 75 ho base 5 ti (.int .u8 0) 1 1 Tryz.underlying75 hi0 hz0 hz1 hz2 rfl (by decide) v xs.length (vl xs) hs hown _ m (vl ys) hx (hr.src c) (by unfold maxLen; omega) (by omega) hbase ?_
  intro v' w' h1 h2 h3
  refine h v' w' ?_ (grownBy_kp h2) h3
  have e : (xs ++ ys).length = xs.length + m := by rw [List.length_append, hr.len]
  unfold Ow
  rw [e, vl_append]
  exact h1

/-- .. at a step of a region that draws its order -/
theorem step_append_bytes {ops : Array Oper} {o : Oper} {a : Act} {K : Act → World → Prop} {Q : Exit → Act → World → Prop} {E : Prop} (w : World) (hgd : o.guard = none) (s y : Operand)
    (ho : o.op = .call { callee := .builtin .append, args := #[s, y], argTypes := #[75, 75] })
    (base : Nat) (v : Value) (xs : List Nat) (hs : a.eval s = v) (hown : Ow w base v xs)
    (p : Option Addr) (m c : Nat) (ys : List Nat) (hx : a.eval y = .slice p m c) (hr : Rb w p m ys)
    (hlen : xs.length + m ≤ 140737488355328) (hbase : base ≤ w.heap.size)
    (h : ∀ v' w', Ow w' base v' (xs ++ ys) → Kp (fun b => v.ownBlock = some b) w w' → (v'.ownBlock = v.ownBlock ∨ v'.ownBlock = some w.heap.size) → K (a.put o.dst v') w') :
    if Region.wanted o (yielded ops a.tmps) = true then Oper.wp Tryz.prog o a w K Q else E := by
  have hw : Region.wanted o (yielded ops a.tmps) = true := by simp [Region.wanted, hgd]
  rw [if_pos hw]
  obtain ⟨ti, hi0, hz0, hz1, hz2⟩ := info_parts info5
  obtain ⟨v', w', hrun, h2, h3, h4⟩ := run_append_own_src (P := Tryz.prog) w base 75 75 o.type 5 ti (.int .u8 0) 1 1 Tryz.underlying75 hi0 hz0 hz1 hz2 rfl (by decide) v xs.length (vl xs) hown _ m (vl ys) (hr.src c) (by unfold maxLen; omega) (by omega) hbase
  unfold Oper.wp execOp
  simp only [ho, resolve, invoke, builtin, Sem.run_bind, Sem.run_pure, Result.andThen_ok, List.map_toArray, List.map_cons, List.map_nil, hs, hx, hrun]
  refine h v' w' ?_ (grownBy_kp h3) h4
  have e : (xs ++ ys).length = xs.length + m := by rw [List.length_append, hr.len]
  unfold Ow
  rw [e, vl_append]
  exact h2

/-- .. onto what the call itself made, which began in w0 -/
theorem step_append_bytes0 {ops : Array Oper} {o : Oper} {a : Act} {K : Act → World → Prop} {Q : Exit → Act → World → Prop} {E : Prop} (w0 w : World) (k0 : Kp (fun _ => False) w0 w) (hgd : o.guard = none) (s y : Operand)
    (ho : o.op = .call { callee := .builtin .append, args := #[s, y], argTypes := #[75, 75] })
    (g c0 : Nat) (xs : List Nat) (hs : a.eval s = .slice (some ⟨g, 0, none⟩) xs.length c0) (hown : Ow w w0.heap.size (.slice (some ⟨g, 0, none⟩) xs.length c0) xs)
    (p : Option Addr) (m c : Nat) (ys : List Nat) (hx : a.eval y = .slice p m c) (hr : Rb w p m ys)
    (hlen : xs.length + m ≤ 140737488355328)
    (h : ∀ v' w', Ow w' w0.heap.size v' (xs ++ ys) → Kp (fun _ => False) w0 w' → Kp (fun b => b = g) w w' → (∀ b, v'.ownBlock = some b → b = g ∨ b = w.heap.size) → K (a.put o.dst v') w') :
    if Region.wanted o (yielded ops a.tmps) = true then Oper.wp Tryz.prog o a w K Q else E :=
  step_append_bytes w hgd s y ho w0.heap.size _ xs hs hown p m c ys hx hr hlen k0.size (fun v' w' h1 h2 h3 => h v' w' h1 (Kp.app k0 hown h2) (h2.mono (fun b _ e => (Option.some.inj (show some g = some b from e)).symm)) (fun b hb => by
    rcases h3 with h3 | h3
    · exact Or.inl (Option.some.inj (show some b = some g from hb.symm.trans h3))
    · exact Or.inr (Option.some.inj (hb.symm.trans h3))))

set_option maxRecDepth 100000 in
theorem bytes_not_nil (p : Addr) (n c : Nat) (w : World) : (binOp .eql 75 (.slice (some p) n c) (.slice none 0 0)).run Tryz.prog w = .ok (.bool false) w := by rfl
set_option maxRecDepth 100000 in
theorem bytes_nil (n c : Nat) (w : World) : (binOp .eql 75 (.slice none n c) (.slice none 0 0)).run Tryz.prog w = .ok (.bool true) w := by rfl
theorem empty_own (w : World) : Ow (w.alloc (.cells #[] 5)) w.heap.size (.slice (some ⟨w.heap.size, 0, none⟩) 0 0) [] :=
  World.ownsRow_made w #[] 0 (Nat.le_refl _) (by unfold maxLen; omega) rfl

set_option maxRecDepth 100000 in
set_option maxHeartbeats 800000 in
theorem clone_any (p : Option Addr) (n c : Nat) (xs : List Nat) (w : World) (h : Rb w p n xs) (hn : Hid (n ≤ 140737488355328)) :
    Calls Tryz.prog 51 #[.slice p n c] w fun e w' => ∃ v, e = .returned v ∧ Kp (fun _ => False) w w' ∧ Ow w' w.heap.size v xs := by
  cases p with
  | none =>
    have h0 : n = 0 := by
      rcases Nat.eq_zero_or_pos n with h0 | h0
      · exact h0
      · obtain ⟨b, o, e, _⟩ := h.pt h0; cases e
    subst h0
    have : xs = [] := List.eq_nil_of_length_eq_zero h.len
    subst this
    clear h
    have hnn := bytes_nil 0 c
    go_enter Tryz.func51, Tryz.ntmps51
    go_wp2
    go_ret
    exact ⟨_, rfl, Kp.refl _ _, World.ownsRow_nil _ _ _ _⟩
  | some a =>
    have hnn := bytes_not_nil a n c
    have hr := h.keep0 ((Kp.refl (fun _ => False) w).alloc (.cells #[] 5))
    go_enter Tryz.func51, Tryz.ntmps51
    go_wp2_with (at_builtin; go_must (refine wpList_append_bytes _ rfl _ _ rfl w.heap.size _ [] rfl (empty_own w) (some a) n c xs rfl hr (by have := hn.out; simp only [List.length_nil]; omega) (by simp) ?_); intro v' w3 hown' hk3 hblk3)
    go_ret
    refine ⟨_, rfl, Kp.trans ((Kp.refl _ _).alloc _) hk3 (fun b hb e => ?_), by simpa using hown'⟩
    have e' : some w.heap.size = some b := e
    have := Option.some.inj e'
    omega

/-- the text of bytes -/
def str (xs : List Nat) : ByteArray := strOfNums (xs.map fun x => ((x : Nat) : Int))
theorem convert_bytes (p : Option Addr) (n c : Nat) (xs : List Nat) (w : World) (h : Rb w p n xs) :
    (convert 75 9 (.slice p n c)).run Tryz.prog w = .ok (.string (str xs)) w := by
  have hl := h.len
  rcases Nat.eq_zero_or_pos n with hn | hn
  · subst hn
    have : xs = [] := List.eq_nil_of_length_eq_zero hl
    subst this
    rw [run_convert_bytes_string w 75 9 5 _ 0 c Tryz.underlying75 Tryz.underlying5 Tryz.underlying9]
    cases p <;> simp [Conv.bytesToString, loadCells]
    all_goals rfl
  · obtain ⟨b, o, rfl, hb⟩ := h.pt hn
    exact run_convert_bytes_arg (P := Tryz.prog) w 75 5 Tryz.underlying75 Tryz.underlying5 b o n c (xs.map fun x => ((x : Nat) : Int)) (by rw [List.length_map, hl]) (fun i hi => by
      rw [hb i hi]
      congr 2
      rw [List.getD_eq_getElem?_getD, List.getD_eq_getElem?_getD, List.getElem?_map, List.getElem?_eq_getElem (by omega)]; rfl) 9 Tryz.underlying9
end Go.Proofs.YtippipeebkkghaaGreatDoor
