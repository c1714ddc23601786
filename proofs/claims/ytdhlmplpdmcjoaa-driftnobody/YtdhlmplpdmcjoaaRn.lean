/- New clocks of the reference's. -/
import Derived.Test.YtdhlmplpdmcjoaaRs
namespace Go.Proofs.Ytdhlmplpdmcjoaa
set_option linter.unusedSimpArgs false
set_option linter.unusedVariables false
open Go.RowKit Go.Deep Go.Maps

theorem infoRow : (Try.prog.info? 32).map (fun i => (i.zero, i.size, i.bytes)) = some (some (.slice none 0 0), 1, 24) := by kernel_rfl
abbrev rowV (N r : Nat) : Value := .slice (some ⟨r, 0, none⟩) N N
/-- append of one row, at a step of a region that draws its order -/
theorem step_append_row {ops : Array Oper} {o : Oper} {a : Act} {K : Act → World → Prop} {Q : Exit → Act → World → Prop} {E : Prop} (w : World) (hgd : o.guard = none) (s y : Operand)
    (ho : o.op = .call { callee := .builtin .append, args := #[s, y], argTypes := #[95, 95] })
    (base : Nat) (v : Value) (n : Nat) (xs : List Value) (u : Value) (g : Nat) (hs : a.eval s = v) (hown : w.ownsRow base 32 1 v n xs) (hx : a.eval y = .slice (some ⟨g, 0, none⟩) 1 1) (hu1 : u.oneCell' = true) (hc : w.cell? ⟨g, 0, none⟩ = some u) (hlen : n ≤ 1000) (hbase : base ≤ w.heap.size)
    (h : ∀ v' w', w'.ownsRow base 32 1 v' (n + 1) (xs ++ [u]) → Kp (fun b => v.ownBlock = some b) w w' → (v'.ownBlock = v.ownBlock ∨ v'.ownBlock = some w.heap.size) → K (a.put o.dst v') w') :
    if Region.wanted o (yielded ops a.tmps) = true then Oper.wp Try.prog o a w K Q else E := by
  have hw : Region.wanted o (yielded ops a.tmps) = true := by simp [Region.wanted, hgd]
  rw [if_pos hw]
  obtain ⟨ti, hi0, hz0, hz1, hz2⟩ := info_parts infoRow
  obtain ⟨v', w', hrun, h2, h3, h4⟩ := run_append_own_src (P := Try.prog) w base 95 95 o.type 32 ti (.slice none 0 0) 1 24 Try.underlying95 hi0 hz0 hz1 hz2 rfl (by decide) v n xs hown _ 1 [u]
    (Src.ofSlice w Try.underlying95 ⟨g, 0, none⟩ 1 1 [u] (by simp) (fun j z hj => by
      have hj0 : j = 0 := by
        have := (List.getElem?_eq_some_iff.1 hj).1
        simp at this
        exact this
      subst hj0
      simp at hj
      subst hj
      simpa [Addr.add] using hc) (fun z hz => by
      simp at hz
      subst hz
      exact hu1)) (by unfold maxLen; omega) (by omega) hbase
  unfold Oper.wp execOp
  simp only [ho, resolve, invoke, builtin, Sem.run_bind, Sem.run_pure, Result.andThen_ok, List.map_toArray, List.map_cons, List.map_nil, hs, hx, hrun]
  exact h v' w' h2 (grownBy_kp h3) h4

/-- the reference's clocks while they are made: k rows, in v -/
structure Rm (w : World) (B x t N k : Nat) (v : Value) (R : Nat → Nat) : Prop where
  c0 : w.cell? ⟨x, 0, none⟩ = some (.slice (some ⟨t, 0, none⟩) N N)
  c1 : w.cell? ⟨x, 1, none⟩ = some v
  fz : w.frozen? ⟨x, 1, none⟩ = false
  row : w.rowIs t 3 N (fun _ => .int .i64 ((0 : Nat) : Int))
  own : w.ownsRow B 32 1 v k ((List.range k).map (fun a => rowV N (R a)))
  inn : ∀ a, a < k → w.rowIs (R a) 3 N (fun _ => .int .i64 ((0 : Nat) : Int))
  rb : ∀ a, a < k → B ≤ R a
  ro : ∀ a, a < k → v.ownBlock ≠ some (R a)
  rr : ∀ a b, a < k → b < k → R a = R b → a = b
  xB : x < B
  tB : t < B
  xt : x ≠ t
theorem Rm.next {w w1 w2 w3 : World} {B x t N k : Nat} {v v3 : Value} {R : Nat → Nat} (h : Rm w B x t N k v R) (hB : B ≤ w.heap.size) (h1 : w1 = w.alloc (.cells (madeCells #[.int .i64 0] N) 3)) (h2 : w2 = w1.alloc (.cells #[rowV N w.heap.size] 32))
    (o3 : w3.ownsRow B 32 1 v3 (k + 1) ((List.range k).map (fun a => rowV N (R a)) ++ [rowV N w.heap.size])) (k3 : Kp (fun b => v.ownBlock = some b) w2 w3) (h3 : v3.ownBlock = v.ownBlock ∨ v3.ownBlock = some w2.heap.size) :
    Rm (w3.setCell ⟨x, 1, none⟩ v3) B x t N (k + 1) v3 (fun a => if a = k then w.heap.size else R a) := by
  have kk1 : Kp (fun _ => False) w w1 := by rw [h1]; exact (Kp.refl _ _).alloc _
  have kk2 : Kp (fun _ => False) w1 w2 := by rw [h2]; exact (Kp.refl _ _).alloc _
  have kk3 : Kp (fun b => v.ownBlock = some b) w w3 := ((kk1.trans kk2 (fun _ _ e => e)).mono (fun _ _ e => e.elim)).trans k3 (fun _ _ e => e)
  have kk4 : Kp (fun b => b = x) w3 (w3.setCell ⟨x, 1, none⟩ v3) := (Kp.refl (fun b => b = x) _).setCell (fun _ => rfl) _
  have z1 : w1.heap.size = w.heap.size + 1 := by rw [h1]; simp
  have z2 : w2.heap.size = w.heap.size + 2 := by rw [h2]; simp; omega
  have nx : v.ownBlock ≠ some x := fun e => by have := (ownBlock_lt h.own e).1; have := h.xB; omega
  have nt : v.ownBlock ≠ some t := fun e => by have := (ownBlock_lt h.own e).1; have := h.tB; omega
  have nw : v.ownBlock ≠ some w.heap.size := fun e => by have := (ownBlock_lt h.own e).2; omega
  have row1 : w1.rowIs w.heap.size 3 N (fun _ => .int .i64 ((0 : Nat) : Int)) := by rw [h1]; exact World.rowIs_made w (.int .i64 0) N 3
  have inn3 : ∀ a, a < k → (w3.setCell ⟨x, 1, none⟩ v3).rowIs (R a) 3 N (fun _ => .int .i64 ((0 : Nat) : Int)) := fun a ha => kk4.row (kk3.row (h.inn a ha) (h.ro a ha)) (fun e => by have := h.rb a ha; have := h.xB; omega)
  have own3 : v3.ownBlock ≠ some x := fun e => by have := (ownBlock_lt o3 e).1; have := h.xB; omega
  have hlt : ∀ a, a < k → R a < w.heap.size := fun a ha => (h.inn a ha).lt
  have hx3 := kk3.cellv h.c1 nx
  refine ⟨by rw [World.cell?_setCell_other _ _ _ _ (by simp)]; exact kk3.cellv h.c0 nx, World.cell?_setCell_same _ _ _ hx3, by rw [World.frozen?_setCell, World.frozen?_of_block (w := w) (kk3.block x (World.block_lt_of_cell? _ _ h.c0) nx)]; exact h.fz, kk4.row (kk3.row h.row nt) (fun e => h.xt e.symm), ?_, fun a ha => ?_, fun a ha => ?_, fun a ha => ?_, fun a b ha hb e => ?_, h.xB, h.tB, h.xt⟩
  · rw [List.range_succ, List.map_append]
    have e : (List.range k).map (fun a => rowV N (if a = k then w.heap.size else R a)) = (List.range k).map (fun a => rowV N (R a)) := List.map_congr_left (fun a ha => by rw [if_neg (by have := List.mem_range.1 ha; omega)])
    rw [e]
    have o4 := ownsRow_keep o3 kk4 (fun g hg e => own3 (by rw [hg, e]))
    simpa using o4
  · by_cases e : a = k
    · rw [if_pos e]
      exact kk4.row (k3.row (kk2.row row1 id) nw) (fun e => by have := h.xB; omega)
    · rw [if_neg e]
      exact inn3 a (by omega)
  · by_cases e : a = k
    · rw [if_pos e]; exact hB
    · rw [if_neg e]; exact h.rb a (by omega)
  · by_cases e : a = k
    · rw [if_pos e]
      rcases h3 with h3 | h3
      · rw [h3]; exact nw
      · rw [h3]; intro e2; injection e2; omega
    · rw [if_neg e]
      rcases h3 with h3 | h3
      · rw [h3]; exact h.ro a (by omega)
      · rw [h3]; intro e2; injection e2; have := hlt a (by omega); omega
  · have ha' : (if a = k then w.heap.size else R a) = (if b = k then w.heap.size else R b) := e
    by_cases e1 : a = k
    · by_cases e2 : b = k
      · omega
      · rw [if_pos e1, if_neg e2] at ha'; have := hlt b (by omega); omega
    · by_cases e2 : b = k
      · rw [if_neg e1, if_pos e2] at ha'; have := hlt a (by omega); omega
      · rw [if_neg e1, if_neg e2] at ha'; exact h.rr a b (by omega) (by omega) ha'
theorem Rm.done {w : World} {B x t N : Nat} {v : Value} {R : Nat → Nat} (h : Rm w B x t N N v R) (h1 : 1 ≤ N) (h2 : N ≤ 16) : ∃ l, B ≤ l ∧ Rk w x t l N R (fun _ => 0) (fun _ _ => 0) := by
  obtain ⟨g, cap, rfl⟩ := Joins.ownsRow_form h.own h1
  have hg := ownBlock_lt h.own (g := g) rfl
  have hcap : N ≤ cap := by
    rcases h.own.2 with ⟨e1, _⟩ | ⟨g', cap', cur, e1, _, _, hr, _⟩
    · cases e1
    · cases e1; exact hr
  refine ⟨g, hg.1, h.c0, ⟨cap, hcap, h.c1⟩, h.row, fun a ha => ?_, fun a ha => h.inn a ha, h.xt, by have := h.xB; omega, by have := h.tB; omega, fun a ha => by have := h.rb a ha; have := h.xB; omega, fun a ha => by have := h.rb a ha; have := h.tB; omega, fun a ha e => h.ro a ha (by rw [← e]; rfl), h.rr, h1, h2⟩
  have := h.own.cells (g := g) rfl a (rowV N (R a)) (by rw [List.getElem?_map, List.getElem?_range ha]; rfl)
  by_cases e : a = 0 <;> simpa [Addr.add, e] using this

set_option maxRecDepth 100000 in
set_option maxHeartbeats 1600000 in
theorem rknew_ok (N : Nat) (w : World) (h1 : 1 ≤ (N : Int)) (h2 : (N : Int) ≤ 16) :
    Calls Try.prog 29 #[.int .i64 (N : Int)] w fun e w' => ∃ x t l R, e = .returned (.tuple #[.pointer (some ⟨x, 0, none⟩), .int .i64 0]) ∧ Kp (fun _ => False) w w' ∧ w.heap.size ≤ x ∧ w.heap.size ≤ t ∧ w.heap.size ≤ l ∧ (∀ a, a < N → w.heap.size ≤ R a) ∧ Rs w' x t l N R [] := by
  have hmk : ∀ w : World, (Instr.makeSlice 32 (.int .i64 (N : Int)) (.int .i64 (N : Int))).run Try.prog w = .ok (.slice (some ⟨w.heap.size, 0, none⟩) N N) (w.alloc (.cells (madeCells #[.int .i64 0] N) 3)) := fun w =>
    run_make_row' (P := Try.prog) 32 3 (.int .i64 0) 8 Try.underlying32 infoInt rfl .i64 .i64 N (by omega) (by omega) w
  have d1 : decide ((N : Int) < 1) = false := by simp; omega
  have d2 : decide ((16 : Int) < (N : Int)) = false := by simp; omega
  go_enter Try.func29, Try.ntmps29
  go_wp2
  obtain ⟨w1, hw1⟩ : ∃ y, y = w.alloc (.cells (madeCells #[.int .i64 0] N) 3) := ⟨_, rfl⟩
  obtain ⟨cs, hcs⟩ : ∃ cs : Array Value, cs = #[.slice (some ⟨w.heap.size, 0, none⟩) N N, .slice none 0 0] := ⟨_, rfl⟩
  obtain ⟨w2, hw2⟩ : ∃ y, y = w1.alloc (.cells cs 97) := ⟨_, rfl⟩
  rw [← hw1, ← hcs, ← hw2]
  have z1 : w1.heap.size = w.heap.size + 1 := by rw [hw1]; simp
  have z2 : w2.heap.size = w.heap.size + 2 := by rw [hw2]; simp; omega
  have k1 : Kp (fun _ => False) w w1 := by rw [hw1]; exact (Kp.refl _ _).alloc _
  have k2 : Kp (fun _ => False) w1 w2 := by rw [hw2]; exact (Kp.refl _ _).alloc _
  have k02 : Kp (fun _ => False) w w2 := k1.trans k2 (fun _ _ e => e)
  have HM0 : Hid (Rm w2 w2.heap.size (w.heap.size + 1) w.heap.size N 0 (.slice none 0 0) (fun _ => 0)) := by
    have hh := heap_alloc_new w1 (.cells cs 97)
    rw [← hw2, z1] at hh
    have cc : ∀ j v, cs[j]? = some v → w2.cell? ⟨w.heap.size + 1, j, none⟩ = some v := fun j v hv => by
      rw [cell_of_row _ _ j cs _ (0, 0) hh]
      exact hv
    exact ⟨cc 0 _ (by rw [hcs]; rfl), cc 1 _ (by rw [hcs]; rfl), frozen_of_row _ _ _ cs _ hh, k2.row (by rw [hw1]; exact World.rowIs_made w (.int .i64 0) N 3) id, World.ownsRow_nil _ _ _ _, fun a ha => by omega, fun a ha => by omega, fun a ha => by omega, fun a b ha hb e => by omega, by omega, by omega, by omega⟩
  obtain ⟨x, hx⟩ : ∃ x, x = w.heap.size + 1 := ⟨_, rfl⟩
  obtain ⟨t, ht⟩ : ∃ t, t = w.heap.size := ⟨_, rfl⟩
  rw [← hx, ← ht] at HM0
  rw [← hx, ← ht]
  have HXT : Hid (w.heap.size ≤ x ∧ w.heap.size ≤ t ∧ x < w2.heap.size ∧ t < w2.heap.size) := by show _ ∧ _; omega
  obtain ⟨B, hB⟩ : ∃ B, B = w2.heap.size := ⟨_, rfl⟩
  rw [← hB] at HM0 HXT
  have HB2 : Hid (B ≤ w2.heap.size) := by show _ ≤ _; omega
  have HBw : Hid (w.heap.size ≤ B) := by show _ ≤ _; omega
  clear hw1 hcs hw2 z1 z2 k1 k2 hx ht hB
  go_loopg [16] N (fun gk i wr => ∃ (k : Nat) (v : Value) (R : Nat → Nat), k ≤ N ∧ gk = N - k ∧ i = .int .i64 k ∧ Kp (fun _ => False) w wr ∧ Hid (B ≤ wr.heap.size) ∧ Hid (Rm wr B x t N k v R))
  case atStart => exact ⟨0, _, _, Nat.zero_le _, rfl, rfl, k02, HB2, HM0⟩
  case round =>
    obtain ⟨k, v, R, hk, rfl, rfl, kr, HBr, HMr⟩ := hrel
    clear HM0 k02 HB2
    by_cases hlt : (k : Int) < (N : Int)
    · go_wp2_with fail
      have HMd : Hid (Rm wr.drew B x t N k v R) := ⟨HMr.out.c0, HMr.out.c1, HMr.out.fz, HMr.out.row, HMr.out.own, HMr.out.inn, HMr.out.rb, HMr.out.ro, HMr.out.rr, HMr.out.xB, HMr.out.tB, HMr.out.xt⟩
      have kd : Kp (fun _ => False) w wr.drew := kr.drew
      have HBd : Hid (B ≤ wr.drew.heap.size) := HBr.out
      refine wp_region_held_drew (S := (fun _ => True)) (by kernel_rfl) trivial (fun hHeld => ?_)
      obtain ⟨wd, hwd⟩ : ∃ y, y = wr.drew := ⟨_, rfl⟩
      rw [← hwd] at HMd kd HBd ⊢
      clear hwd HMr kr HBr
      have cl := HMd.out.c1
      have cl1 : (wd.alloc (.cells (madeCells #[.int .i64 0] N) 3)).cell? ⟨x, 1, none⟩ = some v := ((Kp.refl (fun _ => False) _).alloc _).cellv cl id
      have cl2 : ((wd.alloc (.cells (madeCells #[.int .i64 0] N) 3)).alloc (.cells #[rowV N wd.heap.size] 32)).cell? ⟨x, 1, none⟩ = some v := ((Kp.refl (fun _ => False) _).alloc _).cellv cl1 id
      simp only [List.size_toArray, List.length_cons, List.length_nil, Nat.zero_add, Nat.reduceAdd]
      refine wpAnyH_take (i := 0) (v := ?zv0) (List.getElem?_toArray.trans rfl) (by kernel_rfl) (by kernel_rfl) (by kernel_rfl) (fun _ _ _ h => h) (Or.inl ⟨by rfl, ?zy0⟩) (by assumption) ?zr0
      case zy0 => (intro w hSw; (try dsimp only at hSw); go_simp; try with_reducible rfl)
      simp only [Act.put, List.setIfInBounds_toArray, List.set_cons_zero, List.set_cons_succ]
      refine wpAnyH_take (i := 1) (v := ?zv1) (List.getElem?_toArray.trans rfl) (by kernel_rfl) (by kernel_rfl) (by kernel_rfl) (fun _ _ _ h => h) (Or.inl ⟨by rfl, ?zy1⟩) (by assumption) ?zr1
      case zy1 => (intro w hSw; (try dsimp only at hSw); go_simp; try with_reducible rfl)
      simp only [Act.put, List.setIfInBounds_toArray, List.set_cons_zero, List.set_cons_succ]
      refine wpAnyH_take (i := 2) (v := ?zv2) (List.getElem?_toArray.trans rfl) (by kernel_rfl) (by kernel_rfl) (by kernel_rfl) (fun _ _ _ h => h) (Or.inl ⟨by rfl, ?zy2⟩) (by assumption) ?zr2
      case zy2 => (intro w hSw; (try dsimp only at hSw); go_simp; try with_reducible rfl)
      simp only [Act.put, List.setIfInBounds_toArray, List.set_cons_zero, List.set_cons_succ]
      refine wpAnyH_take (i := 3) (v := ?zv3) (List.getElem?_toArray.trans rfl) (by kernel_rfl) (by kernel_rfl) (by kernel_rfl) (fun _ _ _ h => h) (Or.inl ⟨by rfl, ?zy3⟩) (by assumption) ?zr3
      case zy3 => (intro w hSw; (try dsimp only at hSw); go_simp; try with_reducible rfl)
      simp only [Act.put, List.setIfInBounds_toArray, List.set_cons_zero, List.set_cons_succ]
      refine wpAnyH_take (i := 5) (v := ?zv5) (List.getElem?_toArray.trans rfl) (by kernel_rfl) (by kernel_rfl) (by kernel_rfl) (fun _ _ _ h => h) (Or.inl ⟨by rfl, ?zy5⟩) (by assumption) ?zr5
      case zy5 => (intro w hSw; (try dsimp only at hSw); go_simp; try with_reducible rfl)
      simp only [Act.put, List.setIfInBounds_toArray, List.set_cons_zero, List.set_cons_succ]
      obtain ⟨w5, hw5⟩ : ∃ y, y = wd.alloc (.cells (madeCells #[.int .i64 0] N) 3) := ⟨_, rfl⟩
      obtain ⟨w6, hw6⟩ : ∃ y, y = w5.alloc (.cells #[rowV N wd.heap.size] 32) := ⟨_, rfl⟩
      have k5 : Kp (fun _ => False) wd w5 := by rw [hw5]; exact (Kp.refl _ _).alloc _
      have k6 : Kp (fun _ => False) wd w6 := by rw [hw6]; exact k5.alloc _
      have HO6 : Hid (w6.ownsRow B 32 1 v k ((List.range k).map (fun a => rowV N (R a)))) := ownsRow_keep HMd.out.own k6 (fun _ _ => id)
      have z5 : w5.heap.size = wd.heap.size + 1 := by rw [hw5]; simp
      have hc6 : w6.cell? ⟨wd.heap.size + 1, 0, none⟩ = some (rowV N wd.heap.size) := by
        have hh := heap_alloc_new w5 (.cells #[rowV N wd.heap.size] 32)
        rw [← hw6, z5] at hh
        rw [cell_of_row _ _ 0 _ _ (0, 0) hh]
        rfl
      have HC6 : Hid (w6.cell? ⟨wd.heap.size + 1, 0, none⟩ = some (rowV N wd.heap.size)) := hc6
      have HB6 : Hid (B ≤ w6.heap.size) := Nat.le_trans HBd.out k6.size
      have HNx : Hid (∀ (v3 : Value) (w3 : World), w3.ownsRow B 32 1 v3 (k + 1) ((List.range k).map (fun a => rowV N (R a)) ++ [rowV N wd.heap.size]) → Kp (fun b => v.ownBlock = some b) w6 w3 → (v3.ownBlock = v.ownBlock ∨ v3.ownBlock = some w6.heap.size) → Rm (w3.setCell ⟨x, 1, none⟩ v3) B x t N (k + 1) v3 (fun a => if a = k then wd.heap.size else R a) ∧ Kp (fun _ => False) w (w3.setCell ⟨x, 1, none⟩ v3) ∧ B ≤ (w3.setCell ⟨x, 1, none⟩ v3).heap.size ∧ w3.cell? ⟨x, 1, none⟩ = some v ∧ w3.frozen? ⟨x, 1, none⟩ = false) := fun v3 w3 o3 k3 h3 => by
        have nx : v.ownBlock ≠ some x := fun e => by have := (ownBlock_lt HMd.out.own e).1; have := HMd.out.xB; omega
        have k63 : Kp (fun b => v.ownBlock = some b) wd w3 := (k6.mono (fun _ _ e => e.elim)).trans k3 (fun _ _ e => e)
        refine ⟨HMd.out.next HBd.out hw5 hw6 o3 k3 h3, (kd.trans k63 (fun b hb e => ?_)).setCell (fun hxx => ?_) _, ?_, k63.cellv HMd.out.c1 nx, ?_⟩
        · have := (ownBlock_lt HMd.out.own e).1; have := HBw.out; omega
        · exact absurd hxx (by have := HXT.out.1; show ¬ x < w.heap.size; omega)
        · rw [nblk_setCell]; exact Nat.le_trans HB6.out k3.size
        · rw [World.frozen?_of_block (w := wd) (k63.block x (World.block_lt_of_cell? _ _ HMd.out.c0) nx)]; exact HMd.out.fz
      rw [← hw5, ← hw6] at cl2
      rw [← hw5] at cl1
      have HW5 : Hid (w5 = wd.alloc (.cells (madeCells #[.int .i64 0] N) 3)) := hw5
      have HW6 : Hid (w6 = w5.alloc (.cells #[rowV N wd.heap.size] 32)) := hw6
      have HZ5 : Hid (w5.heap.size = wd.heap.size + 1) := z5
      clear hc6 HMd hw5 hw6 z5 k5 k6
      refine wpAnyH_ready (rs := [4, 6]) (by kernel_rfl) (by simp) ?_
      refine AllReadyH.cons rfl (fun Ka hKa => ?_) (AllReadyH.cons rfl (fun Kc hKc => ?_) AllReadyH.nil)
      · go_simp
        refine hKa.out _ _ trivial (fun hHeld => ?_)
        clear hKa Ka
        refine wpAnyH_ready (rs := [6]) (by kernel_rfl) (by simp) ?_
        refine AllReadyH.cons rfl (fun Kb hKb => ?_) AllReadyH.nil
        go_simp
        rw [← HW5.out]
        refine hKb.out _ _ trivial (fun hHeld => ?_)
        clear hKb Kb
        refine wpAnyH_ready (rs := [7]) (by kernel_rfl) (by simp) ?_
        refine AllReadyH.cons rfl (fun Kb hKb => ?_) AllReadyH.nil
        go_simp
        rw [HZ5.out, ← HW6.out]
        refine hKb.out _ _ trivial (fun hHeld => ?_)
        clear hKb Kb
        refine wpAnyH_ready (rs := [8]) (by kernel_rfl) (by simp) ?_
        refine AllReadyH.cons rfl (fun Kb hKb => ?_) AllReadyH.nil
        refine step_append_row w6 rfl (.tmp 22) (.tmp 25) rfl B v k _ (rowV N wd.heap.size) (wd.heap.size + 1) rfl HO6.out rfl rfl HC6.out (by omega) HB6.out ?_
        intro v7 w7 o7 k7 h7
        obtain ⟨g7, cap7, rfl⟩ := Joins.ownsRow_form o7 (Nat.succ_pos k)
        obtain ⟨HM7, k07, hB7, c17, f17⟩ := HNx.out _ w7 o7 k7 h7
        have HM7' : Hid (Rm (w7.setCell ⟨x, 1, none⟩ (.slice (some ⟨g7, 0, none⟩) (k + 1) cap7)) B x t N (k + 1) (.slice (some ⟨g7, 0, none⟩) (k + 1) cap7) (fun a => if a = k then wd.heap.size else R a)) := HM7
        have HB7 : Hid (B ≤ (w7.setCell ⟨x, 1, none⟩ (.slice (some ⟨g7, 0, none⟩) (k + 1) cap7)).heap.size) := hB7
        clear o7 k7 h7 HM7 hB7
        refine hKb.out _ _ trivial (fun hHeld => ?_)
        clear hKb Kb
        simp only [Act.put, List.setIfInBounds_toArray, List.set_cons_zero, List.set_cons_succ]
        refine wpAnyH_take (i := 9) (v := ?zva9) (List.getElem?_toArray.trans rfl) (by kernel_rfl) (by kernel_rfl) (by kernel_rfl) (fun _ _ _ h => h) (Or.inl ⟨by rfl, ?zya9⟩) (by assumption) ?zra9
        case zya9 => (intro w hSw; (try dsimp only at hSw); go_simp; try with_reducible rfl)
        simp only [Act.put, List.setIfInBounds_toArray, List.set_cons_zero, List.set_cons_succ]
        refine wpAnyH_take (i := 10) (v := ?zva10) (List.getElem?_toArray.trans rfl) (by kernel_rfl) (by kernel_rfl) (by kernel_rfl) (fun _ _ _ h => h) (Or.inl ⟨by rfl, ?zya10⟩) (by assumption) ?zra10
        case zya10 => (intro w hSw; (try dsimp only at hSw); go_simp; try with_reducible rfl)
        simp only [Act.put, List.setIfInBounds_toArray, List.set_cons_zero, List.set_cons_succ]
        refine wpAnyH_ready (rs := [11]) (by kernel_rfl) (by simp) ?_
        refine AllReadyH.cons rfl (fun Kb hKb => ?_) AllReadyH.nil
        go_simp
        refine hKb.out _ _ trivial (fun hHeld => ?_)
        refine wpAnyH_done (by kernel_rfl) ?_ _
        clear hKb Kb hHeld c17 f17
        go_wp2
        go_roundg (N - (k + 1))
        case rel => exact ⟨k + 1, _, _, by omega, rfl, by go_num, k07, HB7, HM7'⟩
        case measure => omega
      · go_simp
        rw [← HW5.out]
        refine hKc.out _ _ trivial (fun hHeld => ?_)
        clear hKc Kc
        refine wpAnyH_ready (rs := [4, 7]) (by kernel_rfl) (by simp) ?_
        refine AllReadyH.cons rfl (fun Kd hKd => ?_) (AllReadyH.cons rfl (fun Ke hKe => ?_) AllReadyH.nil)
        · go_simp
          refine hKd.out _ _ trivial (fun hHeld => ?_)
          clear hKd Kd
          refine wpAnyH_ready (rs := [7]) (by kernel_rfl) (by simp) ?_
          refine AllReadyH.cons rfl (fun Kb hKb => ?_) AllReadyH.nil
          go_simp
          rw [HZ5.out, ← HW6.out]
          refine hKb.out _ _ trivial (fun hHeld => ?_)
          clear hKb Kb
          refine wpAnyH_ready (rs := [8]) (by kernel_rfl) (by simp) ?_
          refine AllReadyH.cons rfl (fun Kb hKb => ?_) AllReadyH.nil
          refine step_append_row w6 rfl (.tmp 22) (.tmp 25) rfl B v k _ (rowV N wd.heap.size) (wd.heap.size + 1) rfl HO6.out rfl rfl HC6.out (by omega) HB6.out ?_
          intro v7 w7 o7 k7 h7
          obtain ⟨g7, cap7, rfl⟩ := Joins.ownsRow_form o7 (Nat.succ_pos k)
          obtain ⟨HM7, k07, hB7, c17, f17⟩ := HNx.out _ w7 o7 k7 h7
          have HM7' : Hid (Rm (w7.setCell ⟨x, 1, none⟩ (.slice (some ⟨g7, 0, none⟩) (k + 1) cap7)) B x t N (k + 1) (.slice (some ⟨g7, 0, none⟩) (k + 1) cap7) (fun a => if a = k then wd.heap.size else R a)) := HM7
          have HB7 : Hid (B ≤ (w7.setCell ⟨x, 1, none⟩ (.slice (some ⟨g7, 0, none⟩) (k + 1) cap7)).heap.size) := hB7
          clear o7 k7 h7 HM7 hB7
          refine hKb.out _ _ trivial (fun hHeld => ?_)
          clear hKb Kb
          simp only [Act.put, List.setIfInBounds_toArray, List.set_cons_zero, List.set_cons_succ]
          refine wpAnyH_take (i := 9) (v := ?zvb9) (List.getElem?_toArray.trans rfl) (by kernel_rfl) (by kernel_rfl) (by kernel_rfl) (fun _ _ _ h => h) (Or.inl ⟨by rfl, ?zyb9⟩) (by assumption) ?zrb9
          case zyb9 => (intro w hSw; (try dsimp only at hSw); go_simp; try with_reducible rfl)
          simp only [Act.put, List.setIfInBounds_toArray, List.set_cons_zero, List.set_cons_succ]
          refine wpAnyH_take (i := 10) (v := ?zvb10) (List.getElem?_toArray.trans rfl) (by kernel_rfl) (by kernel_rfl) (by kernel_rfl) (fun _ _ _ h => h) (Or.inl ⟨by rfl, ?zyb10⟩) (by assumption) ?zrb10
          case zyb10 => (intro w hSw; (try dsimp only at hSw); go_simp; try with_reducible rfl)
          simp only [Act.put, List.setIfInBounds_toArray, List.set_cons_zero, List.set_cons_succ]
          refine wpAnyH_ready (rs := [11]) (by kernel_rfl) (by simp) ?_
          refine AllReadyH.cons rfl (fun Kb hKb => ?_) AllReadyH.nil
          go_simp
          refine hKb.out _ _ trivial (fun hHeld => ?_)
          refine wpAnyH_done (by kernel_rfl) ?_ _
          clear hKb Kb hHeld c17 f17
          go_wp2
          go_roundg (N - (k + 1))
          case rel => exact ⟨k + 1, _, _, by omega, rfl, by go_num, k07, HB7, HM7'⟩
          case measure => omega
        · go_simp
          rw [HZ5.out, ← HW6.out]
          refine hKe.out _ _ trivial (fun hHeld => ?_)
          clear hKe Ke
          refine wpAnyH_ready (rs := [4]) (by kernel_rfl) (by simp) ?_
          refine AllReadyH.cons rfl (fun Kb hKb => ?_) AllReadyH.nil
          go_simp
          refine hKb.out _ _ trivial (fun hHeld => ?_)
          clear hKb Kb
          refine wpAnyH_ready (rs := [8]) (by kernel_rfl) (by simp) ?_
          refine AllReadyH.cons rfl (fun Kb hKb => ?_) AllReadyH.nil
          refine step_append_row w6 rfl (.tmp 22) (.tmp 25) rfl B v k _ (rowV N wd.heap.size) (wd.heap.size + 1) rfl HO6.out rfl rfl HC6.out (by omega) HB6.out ?_
          intro v7 w7 o7 k7 h7
          obtain ⟨g7, cap7, rfl⟩ := Joins.ownsRow_form o7 (Nat.succ_pos k)
          obtain ⟨HM7, k07, hB7, c17, f17⟩ := HNx.out _ w7 o7 k7 h7
          have HM7' : Hid (Rm (w7.setCell ⟨x, 1, none⟩ (.slice (some ⟨g7, 0, none⟩) (k + 1) cap7)) B x t N (k + 1) (.slice (some ⟨g7, 0, none⟩) (k + 1) cap7) (fun a => if a = k then wd.heap.size else R a)) := HM7
          have HB7 : Hid (B ≤ (w7.setCell ⟨x, 1, none⟩ (.slice (some ⟨g7, 0, none⟩) (k + 1) cap7)).heap.size) := hB7
          clear o7 k7 h7 HM7 hB7
          refine hKb.out _ _ trivial (fun hHeld => ?_)
          clear hKb Kb
          simp only [Act.put, List.setIfInBounds_toArray, List.set_cons_zero, List.set_cons_succ]
          refine wpAnyH_take (i := 9) (v := ?zvc9) (List.getElem?_toArray.trans rfl) (by kernel_rfl) (by kernel_rfl) (by kernel_rfl) (fun _ _ _ h => h) (Or.inl ⟨by rfl, ?zyc9⟩) (by assumption) ?zrc9
          case zyc9 => (intro w hSw; (try dsimp only at hSw); go_simp; try with_reducible rfl)
          simp only [Act.put, List.setIfInBounds_toArray, List.set_cons_zero, List.set_cons_succ]
          refine wpAnyH_take (i := 10) (v := ?zvc10) (List.getElem?_toArray.trans rfl) (by kernel_rfl) (by kernel_rfl) (by kernel_rfl) (fun _ _ _ h => h) (Or.inl ⟨by rfl, ?zyc10⟩) (by assumption) ?zrc10
          case zyc10 => (intro w hSw; (try dsimp only at hSw); go_simp; try with_reducible rfl)
          simp only [Act.put, List.setIfInBounds_toArray, List.set_cons_zero, List.set_cons_succ]
          refine wpAnyH_ready (rs := [11]) (by kernel_rfl) (by simp) ?_
          refine AllReadyH.cons rfl (fun Kb hKb => ?_) AllReadyH.nil
          go_simp
          refine hKb.out _ _ trivial (fun hHeld => ?_)
          refine wpAnyH_done (by kernel_rfl) ?_ _
          clear hKb Kb hHeld c17 f17
          go_wp2
          go_roundg (N - (k + 1))
          case rel => exact ⟨k + 1, _, _, by omega, rfl, by go_num, k07, HB7, HM7'⟩
          case measure => omega
    · obtain rfl : k = N := by omega
      obtain ⟨l, hl, HK⟩ := HMr.out.done (by omega) (by omega)
      have HKK : Hid (Rs wr x t l k R []) := ⟨HK.congr (fun _ _ => by simp) (fun a b _ _ => by simp [lead]), trivial⟩
      have HRB : Hid (∀ a, a < k → B ≤ R a) := HMr.out.rb
      clear HK HMr
      go_wp2
      go_ret2
      exact ⟨x, rfl, kr, HXT.out.1, t, HXT.out.2.1, l, Nat.le_trans HBw.out hl, R, fun a ha => Nat.le_trans HBw.out (HRB.out a ha), HKK.out⟩
end Go.Proofs.Ytdhlmplpdmcjoaa
