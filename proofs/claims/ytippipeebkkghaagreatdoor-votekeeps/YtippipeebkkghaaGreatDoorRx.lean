/- The reference's plate: Copy; the methods of one that has failed. -/
import Derived.Test.YtippipeebkkghaaGreatDoorRw
import Derived.Deep.AppendSrc
import Derived.Deep.AppendLies
import Derived.Deep.RegionHeldLaw
namespace Go.Proofs.YtippipeebkkghaaGreatDoor
open Go.RowKit Go.Deep Go.Maps

theorem Rdead.keep {S Y : Nat → Prop} {w w' : World} {x n : Nat} (h : Rdead w x n Y) (k : Kp S w w') (hx : ¬ S x) (hS : ∀ z, S z → Y z) : Rdead w' x n Y := by
  obtain ⟨t, c, p2, c2', hc, hy, c0, c1, c2, c3, hW⟩ := h
  exact ⟨t, c, p2, c2', hc, hy, k.cellv c0 hx, k.cellv c1 hx, k.cellv c2 hx, k.cellv c3 hx, fun r hr => by obtain ⟨pr, ck, e⟩ := hW r hr; exact ⟨pr, ck, k.cellv e (fun hs => hy (hS _ hs))⟩⟩
theorem Rdead.lt {Y : Nat → Prop} {w : World} {x n : Nat} (h : Rdead w x n Y) : x < w.heap.size := by
  obtain ⟨t, c, p2, c2', hc, hy, c0, c1, c2, c3, hW⟩ := h
  exact World.block_lt_of_cell? w _ c0
/-- blocks that are not there yet may be named, too -/
theorem Rdead.fresh {Y Y' : Nat → Prop} {w : World} {x n : Nat} (h : Rdead w x n Y) (hn : 0 < n) (hY : ∀ z, Y' z → w.heap.size ≤ z) : Rdead w x n Y' := by
  obtain ⟨t, c, p2, c2', hc, hy, c0, c1, c2, c3, hW⟩ := h
  obtain ⟨pr, ck, e⟩ := hW 0 hn
  have ht := World.block_lt_of_cell? w _ e
  exact ⟨t, c, p2, c2', hc, fun e => by have := hY _ e; exact absurd ht (by simpa using this), c0, c1, c2, c3, hW⟩

set_option maxRecDepth 100000 in
set_option maxHeartbeats 400000 in
theorem refWrite_dead {w : World} {x n : Nat} {Y : Nat → Prop} (h : Rdead w x n Y) (i : Int) (v : Value) :
    Calls Tryz.prog 159 #[.pointer (some ⟨x, 0, none⟩), .int .i64 i, v] w fun e w' => e = .returned (.int .i64 60) ∧ w' = w := by
  obtain ⟨t, c, p2, c2', hc, hy, c0, c1, c2, c3, hW⟩ := h
  clear hy hW
  go_enter Tryz.func159, Tryz.ntmps159
  go_wp2
  go_ret
  exact ⟨rfl, rfl⟩

set_option maxRecDepth 100000 in
set_option maxHeartbeats 400000 in
theorem refSync_dead {w : World} {x n : Nat} {Y : Nat → Prop} (h : Rdead w x n Y) :
    Calls Tryz.prog 160 #[.pointer (some ⟨x, 0, none⟩)] w fun e w' => e = .returned (.int .i64 60) ∧ w' = w := by
  obtain ⟨t, c, p2, c2', hc, hy, c0, c1, c2, c3, hW⟩ := h
  clear hy hW
  go_enter Tryz.func160, Tryz.ntmps160
  go_wp2
  go_ret
  exact ⟨rfl, rfl⟩

set_option maxRecDepth 100000 in
set_option maxHeartbeats 400000 in
theorem refCrash_dead {w : World} {x n : Nat} {Y : Nat → Prop} (h : Rdead w x n Y) (v : Value) (i k : Int) :
    Calls Tryz.prog 201 #[.pointer (some ⟨x, 0, none⟩), v, .int .i64 i, .int .i64 k] w fun e w' => e = .returned (.int .i64 60) ∧ w' = w := by
  obtain ⟨t, c, p2, c2', hc, hy, c0, c1, c2, c3, hW⟩ := h
  clear hy hW
  go_enter Tryz.func201, Tryz.ntmps201
  go_wp2
  go_ret
  exact ⟨rfl, rfl⟩

set_option maxRecDepth 100000 in
set_option maxHeartbeats 400000 in
theorem refDirty_dead {w : World} {x n : Nat} {Y : Nat → Prop} (h : Rdead w x n Y) :
    Calls Tryz.prog 202 #[.pointer (some ⟨x, 0, none⟩)] w fun e w' => e = .returned (.slice none 0 0) ∧ w' = w := by
  obtain ⟨t, c, p2, c2', hc, hy, c0, c1, c2, c3, hW⟩ := h
  clear hy hW
  go_enter Tryz.func202, Tryz.ntmps202
  go_wp2
  go_loopg [3, 11] 0 (fun gk v i wr => gk = 0 ∧ v = .slice none 0 0 ∧ i = .int .i64 0 ∧ wr = w)
  case atStart => exact ⟨rfl, rfl, rfl, rfl⟩
  case round =>
    obtain ⟨rfl, rfl, rfl, rfl⟩ := hrel
    go_wp2
    go_ret
    exact ⟨rfl, rfl⟩

set_option maxRecDepth 100000 in
set_option maxHeartbeats 400000 in
theorem all_none (w : World) : Calls Tryz.prog 69 #[.slice none 0 0] w fun e w' => e = .returned (.slice none 0 0) ∧ w' = w := by
  go_enter Tryz.func69, Tryz.ntmps69
  go_wp2
  go_loopg [3, 8] 0 (fun gk v i wr => gk = 0 ∧ v = .slice none 0 0 ∧ i = .int .i64 0 ∧ wr = w)
  case atStart => exact ⟨rfl, rfl, rfl, rfl⟩
  case round =>
    obtain ⟨rfl, rfl, rfl, rfl⟩ := hrel
    go_wp2
    go_ret
    exact ⟨rfl, rfl⟩

/-- append of whatever onto bools of one's own, at a step of a region that draws its order -/
theorem step_append_bools {ops : Array Oper} {o : Oper} {a : Act} {K : Act → World → Prop} {Q : Exit → Act → World → Prop} {E : Prop} (w : World) (hgd : o.guard = none) (s y : Operand)
    (ho : o.op = .call { callee := .builtin .append, args := #[s, y], argTypes := #[154, 154] })
    (base : Nat) (v : Value) (hs : a.eval s = v) (hown : w.ownsRow base 4 1 v 0 []) (u : Value) (m : Nat) (ys : List Value) (hx : a.eval y = u) (hr : Src Tryz.prog 1 154 u m ys w)
    (hlen : m ≤ 1000000) (hbase : base ≤ w.heap.size)
    (h : ∀ v' w', w'.ownsRow base 4 1 v' m ys → Kp (fun b => v.ownBlock = some b) w w' → (v'.ownBlock = v.ownBlock ∨ v'.ownBlock = some w.heap.size) → K (a.put o.dst v') w') :
    if Region.wanted o (yielded ops a.tmps) = true then Oper.wp Tryz.prog o a w K Q else E := by
  have hw : Region.wanted o (yielded ops a.tmps) = true := by simp [Region.wanted, hgd]
  rw [if_pos hw]
  obtain ⟨ti, hi0, hz0, hz1, hz2⟩ := info_parts info_bool
  obtain ⟨v', w', hrun, h2, h3, h4⟩ := run_append_own_src (P := Tryz.prog) w base 154 154 o.type 4 ti (.bool false) 1 1 Tryz.underlying154 hi0 hz0 hz1 hz2 rfl (by decide) v 0 [] hown u m ys hr (by unfold maxLen; omega) (by omega) hbase
  unfold Oper.wp execOp
  simp only [ho, resolve, invoke, builtin, Sem.run_bind, Sem.run_pure, Result.andThen_ok, List.map_toArray, List.map_cons, List.map_nil, hs, hx, hrun]
  refine h v' w' ?_ (grownBy_kp h3) h4
  simpa using h2
theorem empty_bools (w : World) : (w.alloc (.cells #[] 4)).ownsRow w.heap.size 4 1 (.slice (some ⟨w.heap.size, 0, none⟩) 0 0) 0 [] :=
  World.ownsRow_made w #[] 0 (Nat.le_refl _) (by unfold maxLen; omega) rfl
/-- bools, as a source -/
theorem bools_src {w : World} {td n cp c : Nat} {df : Nat → Bool} {f : Nat → Value} (hcp : n ≤ cp) (h : w.rowIs td 4 cp (fun j => if j < n then .bool (df j) else f j)) :
    Src Tryz.prog 1 154 (.slice (some ⟨td, 0, none⟩) n c) n ((List.range n).map fun j => .bool (df j)) w := by
  refine Src.ofSlice w Tryz.underlying154 ⟨td, 0, none⟩ n c _ (by simp) (fun j u hj => ?_) (fun u hu => ?_)
  · have hj' : j < n := by have := (List.getElem?_eq_some_iff.1 hj).1; simpa using this
    rw [List.getElem?_map, List.getElem?_range hj'] at hj
    rw [← Option.some.inj hj, show (⟨td, 0, none⟩ : Addr).add j = ⟨td, j, none⟩ from by simp only [Addr.add]; split <;> simp_all, h.cell (by omega), if_pos hj']
  · obtain ⟨j, _, rfl⟩ := List.mem_map.1 hu; rfl

theorem Tr.weaken {X X' : Nat → Prop} {w : World} {t n : Nat} {N : Nat → List Nat} (h : Tr w t n N X') (hX : ∀ z, X z → X' z) : Tr w t n N X := by
  obtain ⟨cp, V, h1, h2, h3⟩ := h
  refine ⟨cp, V, h1, h2, fun r hr => ?_⟩
  obtain ⟨bb, o, c, x1, x2, x3, x4⟩ := h3 r hr
  exact ⟨bb, o, c, x1, x2, x3, fun e => x4 (hX _ e)⟩
theorem Rp.made2 {w0 w1 w2 wz w' : World} {x t1 t2 td n c1 c2 cd a1 a2 e1 : Nat} {xs1 xs2 : List Value} {N N' : Nat → List Nat} {df : Nat → Bool} {Y : Nat → Prop} (hY : ∀ z, Y z → z < w0.heap.size) (hn1 : 1 ≤ n) (hn2 : n ≤ 8192) (hN : ∀ r, r < n → (N r).length = 64) (hN' : ∀ r, r < n → (N' r).length = 64)
    (g1 : Gt w1 a1 (.slice (some ⟨t1, 0, none⟩) n c1) n xs1 N) (g2 : Gt w2 a2 (.slice (some ⟨t2, 0, none⟩) n c2) n xs2 N') (k1 : Kp (fun z => z = e1) w1 wz) (k2 : Kp (fun z => z = e1) w2 wz)
    (hd : ∃ (cp : Nat) (f : Nat → Value), n ≤ cp ∧ wz.rowIs td 4 cp (fun j => if j < n then .bool (df j) else f j)) (hcd : n ≤ cd) (h01 : w0.heap.size ≤ a1) (h12 : w1.heap.size ≤ a2) (hx : x = wz.heap.size) (hcase : td < a1 ∨ (w1.heap.size ≤ td ∧ td < a2) ∨ w2.heap.size ≤ td) (hcase1 : e1 < a1 ∨ (w1.heap.size ≤ e1 ∧ e1 < a2) ∨ w2.heap.size ≤ e1)
    (hw' : w' = wz.alloc (.cells #[.slice (some ⟨t1, 0, none⟩) n c1, .slice (some ⟨t2, 0, none⟩) n c2, .slice (some ⟨td, 0, none⟩) n cd, .bool false] 156)) :
    Rp w' x t1 t2 td n N N' df Y := by
  subst hx
  obtain ⟨t1', c1', e1', hc1, hb1, hl1, hT1⟩ := Tr.of_gt (X := fun z => Xs wz.heap.size t1 t2 td Y z ∨ z = e1) g1 (by omega) hN
  obtain ⟨t2', c2', e2', hc2, hb2, hl2, hT2⟩ := Tr.of_gt (X := fun z => Xs wz.heap.size t1 t2 td Y z ∨ z = e1) g2 (by omega) hN'
  simp only [Value.slice.injEq, Option.some.injEq, Addr.mk.injEq, and_true, true_and] at e1' e2'
  obtain ⟨rfl, rfl⟩ := e1'
  obtain ⟨rfl, rfl⟩ := e2'
  obtain ⟨cp, f, hcp, hd⟩ := hd
  have hz1 := k1.size
  have hz2 := k2.size
  have htl := hd.lt
  have kz : Kp (fun _ => False) wz w' := by rw [hw']; exact (Kp.refl _ _).alloc _
  have T1 := hT1 (fun z h1 h2 hX => by rcases hX with (e | e | e | e | e) | e; all_goals first | omega | (have := hY _ e; omega))
  have T2 := hT2 (fun z h1 h2 hX => by rcases hX with (e | e | e | e | e) | e; all_goals first | omega | (have := hY _ e; omega))
  have hh := heap_alloc_new wz (.cells #[.slice (some ⟨t1, 0, none⟩) n c1, .slice (some ⟨t2, 0, none⟩) n c2, .slice (some ⟨td, 0, none⟩) n cd, .bool false] 156)
  rw [← hw'] at hh
  have cc : ∀ j v, (#[.slice (some ⟨t1, 0, none⟩) n c1, .slice (some ⟨t2, 0, none⟩) n c2, .slice (some ⟨td, 0, none⟩) n cd, .bool false] : Array Value)[j]? = some v → w'.cell? ⟨wz.heap.size, j, none⟩ = some v := fun j v hv => by
    rw [cell_of_row _ _ j _ _ (0, 0) hh]
    exact hv
  exact ⟨⟨c1, hc1, cc 0 _ rfl⟩, ⟨c2, hc2, cc 1 _ rfl⟩, ⟨cd, hcd, cc 2 _ rfl⟩, cc 3 _ rfl, fun j => frozen_of_row _ _ _ _ _ hh, (((T1.keep k1 (fun _ e => Or.inr e) (by omega))).keep kz (fun _ e => e.elim) id).weaken (fun _ e => Or.inl e), (((T2.keep k2 (fun _ e => Or.inr e) (by omega))).keep kz (fun _ e => e.elim) id).weaken (fun _ e => Or.inl e), ⟨cp, f, hcp, kz.row hd id⟩, ⟨by omega, by omega, by omega, by omega, by omega, by omega⟩, hn1, hn2⟩
theorem bools_row {w : World} {base n g cap : Nat} {df : Nat → Bool} (h : w.ownsRow base 4 1 (.slice (some ⟨g, 0, none⟩) n cap) n ((List.range n).map fun j => .bool (df j))) : n ≤ cap ∧ ∃ (cp : Nat) (f : Nat → Value), n ≤ cp ∧ w.rowIs g 4 cp (fun j => if j < n then .bool (df j) else f j) := by
  rcases h.2 with ⟨e, _⟩ | ⟨g', cap', cur, e, hb, hh, h1, h2, h3, h4⟩
  · cases e
  · cases e
    refine ⟨h1, cap, fun j => (cur[j]?).getD (.bool false), h1, cur, hh, by omega, fun j hj => ?_⟩
    dsimp only
    by_cases hjn : j < n
    · rw [if_pos hjn]
      have h5 : (cur.toList.take (n * 1))[j]? = ((List.range n).map fun j => (.bool (df j) : Value))[j]? := by rw [h4]
      rw [List.getElem?_take_of_lt (by omega), Array.getElem?_toList, List.getElem?_map, List.getElem?_range hjn] at h5
      exact h5
    · rw [if_neg hjn, Array.getElem?_eq_getElem (by omega)]; rfl

end Go.Proofs.YtippipeebkkghaaGreatDoor
