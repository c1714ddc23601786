/- The reference's plate: Copy; the methods of one that has failed. -/
import Derived.Test.YtfaaikblkakiaaaRw
import Derived.Deep.AppendSrc
import Derived.Deep.AppendLies
import Derived.Deep.RegionHeldLaw
namespace Go.Proofs.Ytfaaikblkakiaaa
open Go.RowKit Go.Deep Go.Maps

theorem Rdead.keep {S Y : Nat → Prop} {w w' : World} {x n : Nat} (h : Rdead w x n Y) (k : Kp S w w') (hx : ¬ S x) (hS : ∀ z, S z → Y z) : Rdead w' x n Y := by
  obtain ⟨t, c, p2, c2', hc, hy, c0, c1, c2, c3, hW⟩ := h
  exact ⟨t, c, p2, c2', hc, hy, k.cellv c0 hx, k.cellv c1 hx, k.cellv c2 hx, k.cellv c3 hx, fun r hr => by obtain ⟨pr, ck, e⟩ := hW r hr; exact ⟨pr, ck, k.cellv e (fun hs => hy (hS _ hs))⟩⟩
theorem Rdead.lt {Y : Nat → Prop} {w : World} {x n : Nat} (h : Rdead w x n Y) : x < w.heap.size := by
  obtain ⟨t, c, p2, c2', hc, hy, c0, c1, c2, c3, hW⟩ := h
  exact World.block_lt_of_cell? w _ c0
/-- blocks that are not there yet may be named, too -/
theorem Rdead.fresh {Y Y' : Nat → Prop} {w : World} {x n : Nat} (h : Rdead w x n Y) (hn : 0 < n) (hY : ∀ z, Y' z → w.heap.size ≤ z) : Rdead w x n Y' := by
  obtain ⟨t, c, p2, c2', hc, hy, c0, c1, c2, c3, hW⟩ := h
  obtain ⟨pr, ck, e⟩ := hW 0 hn
  have ht := World.block_lt_of_cell? w _ e
  exact ⟨t, c, p2, c2', hc, fun e => by have := hY _ e; exact absurd ht (by simpa using this), c0, c1, c2, c3, hW⟩

set_option maxRecDepth 100000 in
set_option maxHeartbeats 400000 in
theorem refRead_dead {w : World} {x n : Nat} {Y : Nat → Prop} (h : Rdead w x n Y) (i : Int) :
    Calls Try.prog 43 #[.pointer (some ⟨x, 0, none⟩), .int .i64 i] w fun e w' => e = .returned (.tuple #[.slice none 0 0, .int .i64 60]) ∧ w' = w := by
  obtain ⟨t, c, p2, c2', hc, hy, c0, c1, c2, c3, hW⟩ := h
  clear hy hW
  go_enter Try.func43, Try.ntmps43
  go_wp2
  go_ret2
  exact ⟨rfl, rfl⟩

set_option maxRecDepth 100000 in
set_option maxHeartbeats 400000 in
theorem refWrite_dead {w : World} {x n : Nat} {Y : Nat → Prop} (h : Rdead w x n Y) (i : Int) (v : Value) :
    Calls Try.prog 39 #[.pointer (some ⟨x, 0, none⟩), .int .i64 i, v] w fun e w' => e = .returned (.int .i64 60) ∧ w' = w := by
  obtain ⟨t, c, p2, c2', hc, hy, c0, c1, c2, c3, hW⟩ := h
  clear hy hW
  go_enter Try.func39, Try.ntmps39
  go_wp2
  go_ret
  exact ⟨rfl, rfl⟩

set_option maxRecDepth 100000 in
set_option maxHeartbeats 400000 in
theorem refSync_dead {w : World} {x n : Nat} {Y : Nat → Prop} (h : Rdead w x n Y) :
    Calls Try.prog 40 #[.pointer (some ⟨x, 0, none⟩)] w fun e w' => e = .returned (.int .i64 60) ∧ w' = w := by
  obtain ⟨t, c, p2, c2', hc, hy, c0, c1, c2, c3, hW⟩ := h
  clear hy hW
  go_enter Try.func40, Try.ntmps40
  go_wp2
  go_ret
  exact ⟨rfl, rfl⟩

set_option maxRecDepth 100000 in
set_option maxHeartbeats 400000 in
theorem refCrash_dead {w : World} {x n : Nat} {Y : Nat → Prop} (h : Rdead w x n Y) (v : Value) (i k : Int) :
    Calls Try.prog 41 #[.pointer (some ⟨x, 0, none⟩), v, .int .i64 i, .int .i64 k] w fun e w' => e = .returned (.int .i64 60) ∧ w' = w := by
  obtain ⟨t, c, p2, c2', hc, hy, c0, c1, c2, c3, hW⟩ := h
  clear hy hW
  go_enter Try.func41, Try.ntmps41
  go_wp2
  go_ret
  exact ⟨rfl, rfl⟩

set_option maxRecDepth 100000 in
set_option maxHeartbeats 400000 in
theorem refFail_dead {w : World} {x n : Nat} {Y : Nat → Prop} (h : Rdead w x n Y) :
    Calls Try.prog 42 #[.pointer (some ⟨x, 0, none⟩)] w fun e w' => e = .returned (.int .i64 60) ∧ w' = w := by
  obtain ⟨t, c, p2, c2', hc, hy, c0, c1, c2, c3, hW⟩ := h
  clear hy hW
  go_enter Try.func42, Try.ntmps42
  go_wp2
  go_ret
  exact ⟨rfl, rfl⟩

set_option maxRecDepth 100000 in
set_option maxHeartbeats 400000 in
theorem refDirty_dead {w : World} {x n : Nat} {Y : Nat → Prop} (h : Rdead w x n Y) :
    Calls Try.prog 45 #[.pointer (some ⟨x, 0, none⟩)] w fun e w' => e = .returned (.slice none 0 0) ∧ w' = w := by
  obtain ⟨t, c, p2, c2', hc, hy, c0, c1, c2, c3, hW⟩ := h
  clear hy hW
  go_enter Try.func45, Try.ntmps45
  go_wp2
  go_loopg [3, 11] 0 (fun gk v i wr => gk = 0 ∧ v = .slice none 0 0 ∧ i = .int .i64 0 ∧ wr = w)
  case atStart => exact ⟨rfl, rfl, rfl, rfl⟩
  case round =>
    obtain ⟨rfl, rfl, rfl, rfl⟩ := hrel
    go_wp2
    go_ret
    exact ⟨rfl, rfl⟩

set_option maxRecDepth 100000 in
set_option maxHeartbeats 400000 in
theorem all_none (w : World) : Calls Try.prog 38 #[.slice none 0 0] w fun e w' => e = .returned (.slice none 0 0) ∧ w' = w := by
  go_enter Try.func38, Try.ntmps38
  go_wp2
  go_loopg [3, 8] 0 (fun gk v i wr => gk = 0 ∧ v = .slice none 0 0 ∧ i = .int .i64 0 ∧ wr = w)
  case atStart => exact ⟨rfl, rfl, rfl, rfl⟩
  case round =>
    obtain ⟨rfl, rfl, rfl, rfl⟩ := hrel
    go_wp2
    go_ret
    exact ⟨rfl, rfl⟩

set_option maxRecDepth 100000 in
set_option maxHeartbeats 400000 in
theorem refImage_dead {w : World} {x n : Nat} {Y : Nat → Prop} (h : Rdead w x n Y) :
    Calls Try.prog 46 #[.pointer (some ⟨x, 0, none⟩)] w fun e w' => e = .returned (.slice none 0 0) ∧ w' = w := by
  obtain ⟨t, c, p2, c2', hc, hy, c0, c1, c2, c3, hW⟩ := h
  clear hy hW
  have HA : Hid (Calls _ _ _ w _) := all_none w
  go_enter Try.func46, Try.ntmps46
  go_wp2_with (go_at_call 38; refine HA.out.mono ?_; rintro e w' ⟨rfl, hw⟩; obtain rfl := hw.symm)
  go_ret
  exact ⟨rfl, rfl⟩

/-- append of whatever onto bools of one's own, at a step of a region that draws its order -/
theorem step_append_bools {ops : Array Oper} {o : Oper} {a : Act} {K : Act → World → Prop} {Q : Exit → Act → World → Prop} {E : Prop} (w : World) (hgd : o.guard = none) (s y : Operand)
    (ho : o.op = .call { callee := .builtin .append, args := #[s, y], argTypes := #[72, 72] })
    (base : Nat) (v : Value) (hs : a.eval s = v) (hown : w.ownsRow base 4 1 v 0 []) (u : Value) (m : Nat) (ys : List Value) (hx : a.eval y = u) (hr : Src Try.prog 1 72 u m ys w)
    (hlen : m ≤ 1000000) (hbase : base ≤ w.heap.size)
    (h : ∀ v' w', w'.ownsRow base 4 1 v' m ys → Kp (fun b => v.ownBlock = some b) w w' → (v'.ownBlock = v.ownBlock ∨ v'.ownBlock = some w.heap.size) → K (a.put o.dst v') w') :
    if Region.wanted o (yielded ops a.tmps) = true then Oper.wp Try.prog o a w K Q else E := by
  have hw : Region.wanted o (yielded ops a.tmps) = true := by simp [Region.wanted, hgd]
  rw [if_pos hw]
  obtain ⟨ti, hi0, hz0, hz1, hz2⟩ := info_parts info_bool
  obtain ⟨v', w', hrun, h2, h3, h4⟩ := run_append_own_src (P := Try.prog) w base 72 72 o.type 4 ti (.bool false) 1 1 Try.underlying72 hi0 hz0 hz1 hz2 rfl (by decide) v 0 [] hown u m ys hr (by unfold maxLen; omega) (by omega) hbase
  unfold Oper.wp execOp
  simp only [ho, resolve, invoke, builtin, Sem.run_bind, Sem.run_pure, Result.andThen_ok, List.map_toArray, List.map_cons, List.map_nil, hs, hx, hrun]
  refine h v' w' ?_ (grownBy_kp h3) h4
  simpa using h2
theorem empty_bools (w : World) : (w.alloc (.cells #[] 4)).ownsRow w.heap.size 4 1 (.slice (some ⟨w.heap.size, 0, none⟩) 0 0) 0 [] :=
  World.ownsRow_made w #[] 0 (Nat.le_refl _) (by unfold maxLen; omega) rfl
/-- bools, as a source -/
theorem bools_src {w : World} {td n cp c : Nat} {df : Nat → Bool} {f : Nat → Value} (hcp : n ≤ cp) (h : w.rowIs td 4 cp (fun j => if j < n then .bool (df j) else f j)) :
    Src Try.prog 1 72 (.slice (some ⟨td, 0, none⟩) n c) n ((List.range n).map fun j => .bool (df j)) w := by
  refine Src.ofSlice w Try.underlying72 ⟨td, 0, none⟩ n c _ (by simp) (fun j u hj => ?_) (fun u hu => ?_)
  · have hj' : j < n := by have := (List.getElem?_eq_some_iff.1 hj).1; simpa using this
    rw [List.getElem?_map, List.getElem?_range hj'] at hj
    rw [← Option.some.inj hj, show (⟨td, 0, none⟩ : Addr).add j = ⟨td, j, none⟩ from by simp only [Addr.add]; split <;> simp_all, h.cell (by omega), if_pos hj']
  · obtain ⟨j, _, rfl⟩ := List.mem_map.1 hu; rfl

theorem Tr.weaken {X X' : Nat → Prop} {w : World} {t n : Nat} {N : Nat → List Nat} (h : Tr w t n N X') (hX : ∀ z, X z → X' z) : Tr w t n N X := by
  obtain ⟨cp, V, h1, h2, h3⟩ := h
  refine ⟨cp, V, h1, h2, fun r hr => ?_⟩
  obtain ⟨bb, o, c, x1, x2, x3, x4⟩ := h3 r hr
  exact ⟨bb, o, c, x1, x2, x3, fun e => x4 (hX _ e)⟩
theorem Rp.made2 {w0 w1 w2 wz w' : World} {x t1 t2 td n c1 c2 cd a1 a2 e1 : Nat} {xs1 xs2 : List Value} {N N' : Nat → List Nat} {df : Nat → Bool} {Y : Nat → Prop} (hY : ∀ z, Y z → z < w0.heap.size) (hn1 : 1 ≤ n) (hn2 : n ≤ 8192) (hN : ∀ r, r < n → (N r).length = 64) (hN' : ∀ r, r < n → (N' r).length = 64)
    (g1 : Gt w1 a1 (.slice (some ⟨t1, 0, none⟩) n c1) n xs1 N) (g2 : Gt w2 a2 (.slice (some ⟨t2, 0, none⟩) n c2) n xs2 N') (k1 : Kp (fun z => z = e1) w1 wz) (k2 : Kp (fun z => z = e1) w2 wz)
    (hd : ∃ (cp : Nat) (f : Nat → Value), n ≤ cp ∧ wz.rowIs td 4 cp (fun j => if j < n then .bool (df j) else f j)) (hcd : n ≤ cd) (h01 : w0.heap.size ≤ a1) (h12 : w1.heap.size ≤ a2) (hx : x = wz.heap.size) (hcase : td < a1 ∨ (w1.heap.size ≤ td ∧ td < a2) ∨ w2.heap.size ≤ td) (hcase1 : e1 < a1 ∨ (w1.heap.size ≤ e1 ∧ e1 < a2) ∨ w2.heap.size ≤ e1)
    (hw' : w' = wz.alloc (.cells #[.slice (some ⟨t1, 0, none⟩) n c1, .slice (some ⟨t2, 0, none⟩) n c2, .slice (some ⟨td, 0, none⟩) n cd, .bool false] 74)) :
    Rp w' x t1 t2 td n N N' df Y := by
  subst hx
  obtain ⟨t1', c1', e1', hc1, hb1, hl1, hT1⟩ := Tr.of_gt (X := fun z => Xs wz.heap.size t1 t2 td Y z ∨ z = e1) g1 (by omega) hN
  obtain ⟨t2', c2', e2', hc2, hb2, hl2, hT2⟩ := Tr.of_gt (X := fun z => Xs wz.heap.size t1 t2 td Y z ∨ z = e1) g2 (by omega) hN'
  simp only [Value.slice.injEq, Option.some.injEq, Addr.mk.injEq, and_true, true_and] at e1' e2'
  obtain ⟨rfl, rfl⟩ := e1'
  obtain ⟨rfl, rfl⟩ := e2'
  obtain ⟨cp, f, hcp, hd⟩ := hd
  have hz1 := k1.size
  have hz2 := k2.size
  have htl := hd.lt
  have kz : Kp (fun _ => False) wz w' := by rw [hw']; exact (Kp.refl _ _).alloc _
  have T1 := hT1 (fun z h1 h2 hX => by rcases hX with (e | e | e | e | e) | e; all_goals first | omega | (have := hY _ e; omega))
  have T2 := hT2 (fun z h1 h2 hX => by rcases hX with (e | e | e | e | e) | e; all_goals first | omega | (have := hY _ e; omega))
  have hh := heap_alloc_new wz (.cells #[.slice (some ⟨t1, 0, none⟩) n c1, .slice (some ⟨t2, 0, none⟩) n c2, .slice (some ⟨td, 0, none⟩) n cd, .bool false] 74)
  rw [← hw'] at hh
  have cc : ∀ j v, (#[.slice (some ⟨t1, 0, none⟩) n c1, .slice (some ⟨t2, 0, none⟩) n c2, .slice (some ⟨td, 0, none⟩) n cd, .bool false] : Array Value)[j]? = some v → w'.cell? ⟨wz.heap.size, j, none⟩ = some v := fun j v hv => by
    rw [cell_of_row _ _ j _ _ (0, 0) hh]
    exact hv
  exact ⟨⟨c1, hc1, cc 0 _ rfl⟩, ⟨c2, hc2, cc 1 _ rfl⟩, ⟨cd, hcd, cc 2 _ rfl⟩, cc 3 _ rfl, fun j => frozen_of_row _ _ _ _ _ hh, (((T1.keep k1 (fun _ e => Or.inr e) (by omega))).keep kz (fun _ e => e.elim) id).weaken (fun _ e => Or.inl e), (((T2.keep k2 (fun _ e => Or.inr e) (by omega))).keep kz (fun _ e => e.elim) id).weaken (fun _ e => Or.inl e), ⟨cp, f, hcp, kz.row hd id⟩, ⟨by omega, by omega, by omega, by omega, by omega, by omega⟩, hn1, hn2⟩
theorem bools_row {w : World} {base n g cap : Nat} {df : Nat → Bool} (h : w.ownsRow base 4 1 (.slice (some ⟨g, 0, none⟩) n cap) n ((List.range n).map fun j => .bool (df j))) : n ≤ cap ∧ ∃ (cp : Nat) (f : Nat → Value), n ≤ cp ∧ w.rowIs g 4 cp (fun j => if j < n then .bool (df j) else f j) := by
  rcases h.2 with ⟨e, _⟩ | ⟨g', cap', cur, e, hb, hh, h1, h2, h3, h4⟩
  · cases e
  · cases e
    refine ⟨h1, cap, fun j => (cur[j]?).getD (.bool false), h1, cur, hh, by omega, fun j hj => ?_⟩
    dsimp only
    by_cases hjn : j < n
    · rw [if_pos hjn]
      have h5 : (cur.toList.take (n * 1))[j]? = ((List.range n).map fun j => (.bool (df j) : Value))[j]? := by rw [h4]
      rw [List.getElem?_take_of_lt (by omega), Array.getElem?_toList, List.getElem?_map, List.getElem?_range hjn] at h5
      exact h5
    · rw [if_neg hjn, Array.getElem?_eq_getElem (by omega)]; rfl

set_option maxRecDepth 100000 in
set_option maxHeartbeats 1600000 in
theorem refCopy_ok {w : World} {x tb tw td n : Nat} {Bf Wf : Nat → List Nat} {df : Nat → Bool} {Y Y' : Nat → Prop} (h : Rp w x tb tw td n Bf Wf df Y) (hY : ∀ z, Y' z → z < w.heap.size) :
    Calls Try.prog 13 #[.pointer (some ⟨x, 0, none⟩)] w fun e w' => ∃ x' tb' tw' td', e = .returned (.pointer (some ⟨x', 0, none⟩)) ∧ Kp (fun _ => False) w w' ∧ w.heap.size ≤ x' ∧ w.heap.size ≤ tb' ∧ w.heap.size ≤ tw' ∧ w.heap.size ≤ td' ∧ Rp w' x' tb' tw' td' n Bf Wf df Y' := by
  obtain ⟨cb, hcb, c0⟩ := h.c0
  obtain ⟨cw, hcw, c1⟩ := h.c1
  obtain ⟨cd, hcd, c2⟩ := h.c2
  have c3 := h.c3
  have hn1 := h.n1
  have hn2 : (n : Int) ≤ 8192 := by have := h.n2; omega
  have HA1 : Hid (∀ w', Kp (fun _ => False) w w' → ∀ c, Calls _ _ #[.slice (some ⟨tb, 0, none⟩) _ c] w' _) := fun w' k c => all_ok (w := w') (p := some ⟨tb, 0, none⟩) (n := n) (c := c) (N := Bf) (by omega) (fun r hr => ⟨tb, 0, rfl, by
    obtain ⟨_, bb, o, cc, e1, _, e2, _⟩ := h.B.at hr
    exact ⟨_, 64, cc, by rw [Nat.zero_add]; exact k.cellv e1 id, e2.keep0 k, by omega⟩⟩)
  have HA2 : Hid (∀ w', Kp (fun _ => False) w w' → ∀ c, Calls _ _ #[.slice (some ⟨tw, 0, none⟩) _ c] w' _) := fun w' k c => all_ok (w := w') (p := some ⟨tw, 0, none⟩) (n := n) (c := c) (N := Wf) (by omega) (fun r hr => ⟨tw, 0, rfl, by
    obtain ⟨_, bb, o, cc, e1, _, e2, _⟩ := h.W.at hr
    exact ⟨_, 64, cc, by rw [Nat.zero_add]; exact k.cellv e1 id, e2.keep0 k, by omega⟩⟩)
  have HL1 : Hid (∀ r, r < n → (Bf r).length = 64) := fun r hr => by obtain ⟨_, bb, o, cc, e1, _, e2, _⟩ := h.B.at hr; exact e2.len
  have HL2 : Hid (∀ r, r < n → (Wf r).length = 64) := fun r hr => by obtain ⟨_, bb, o, cc, e1, _, e2, _⟩ := h.W.at hr; exact e2.len
  obtain ⟨cp, f, hcp, hD⟩ := h.D
  have HSr : Hid (∀ w', Kp (fun _ => False) w w' → Src Try.prog 1 72 (.slice (some ⟨td, 0, none⟩) n cd) n ((List.range n).map fun j => .bool (df j)) w') := fun w' k => bools_src hcp (k.row hD id)
  have hn0 : 0 < n := hn1
  have HTr : Hid (∀ u u' : World, Kp (fun _ => False) w u → Kp (fun _ => False) u u' → Kp (fun _ => False) w u') := fun u u' h1 h2 => h1.trans h2 (fun _ _ e => e)
  obtain ⟨X0, hX0⟩ : ∃ X : Nat → Prop, X = fun _ => False := ⟨_, rfl⟩
  clear h hD
  go_enter Try.func13, Try.ntmps13
  have HOw : Hid (∀ (v : Value) (w2 w3 : World), Kp (fun _ => False) w w2 → w2.ownsRow w.heap.size 4 1 v 0 [] → Kp (fun b => v.ownBlock = some b) w2 w3 → Kp (fun _ => False) w w3) := fun v w2 w3 h1 h2 h3 => h1.trans h3 (fun z hz e => by have := (ownBlock_lt h2 e).1; omega)
  have HE1 : Hid (∀ w1 w2 : World, Kp (fun _ => False) (w.alloc (.cells #[] 4)).drew w1 → Kp (fun _ => False) w1 w2 → w2.ownsRow w.heap.size 4 1 (.slice (some ⟨w.heap.size, 0, none⟩) 0 0) 0 []) := fun w1 w2 k1 k2 => by
    have h0 : ((w.alloc (.cells #[] 4)).drew).ownsRow w.heap.size 4 1 (.slice (some ⟨w.heap.size, 0, none⟩) 0 0) 0 [] := empty_bools w
    exact ownsRow_keep (ownsRow_keep h0 k1 (fun _ _ => id)) k2 (fun _ _ => id)
  have HS : Hid (∀ z, Kp (fun _ => False) w z → (Kp (fun _ => False) w z ∧ z.cell? ⟨x, 0, none⟩ = some (.slice (some ⟨tb, 0, none⟩) n cb) ∧ z.cell? ⟨x, 1, none⟩ = some (.slice (some ⟨tw, 0, none⟩) n cw) ∧ z.cell? ⟨x, 2, none⟩ = some (.slice (some ⟨td, 0, none⟩) n cd) ∧ z.cell? ⟨x, 3, none⟩ = some (.bool false))) := fun z k => ⟨k, k.cellv c0 id, k.cellv c1 id, k.cellv c2 id, k.cellv c3 id⟩
  go_wp2_with fail
  go_region_held_law (fun z => Kp (fun _ => False) w z ∧ z.cell? ⟨x, 0, none⟩ = some (.slice (some ⟨tb, 0, none⟩) n cb) ∧ z.cell? ⟨x, 1, none⟩ = some (.slice (some ⟨tw, 0, none⟩) n cw) ∧ z.cell? ⟨x, 2, none⟩ = some (.slice (some ⟨td, 0, none⟩) n cd) ∧ z.cell? ⟨x, 3, none⟩ = some (.bool false))
    (first
      | exact HS.out _ (Kp.refl _ _).drew
      | exact HS.out _ ((Kp.refl _ _).alloc _).drew
      | exact HS.out _ kw3
      | exact HS.out _ kw2
      | exact HS.out _ kw1
      | exact HS.out _ (kw3.alloc _)
      | exact HS.out _ (kw2.alloc _)
      | exact HS.out _ (kw1.alloc _))
    (first
      | (have kx := kw2
         refine step_append_bools _ rfl (.tmp 13) (.tmp 17) rfl w.heap.size _ rfl ?_ _ n _ rfl (HSr.out _ ?_) ?_ ?_ ?_
         · first
           | exact HE1.out _ _ k1 k2
           | exact ownsRow_base (ownsRow_keep (empty_bools w1) k2 (fun _ _ => id)) kw1.size
           | exact ownsRow_base (empty_bools w2) kw2.size
         · first
           | exact kw2
           | exact kw2.alloc _
         · omega
         · first
           | exact kw2.size
           | exact (kw2.alloc _).size
         intro v3 w3 o3 hk3 hat3
         obtain ⟨g3, cap3, rfl, hg3, hlt3⟩ := World.ownsRow.form o3 hn0
         have kw3 : Kp (fun _ => False) w w3 := by
           first
           | exact HOw.out _ _ _ kw2 (HE1.out _ _ k1 k2) hk3
           | exact HOw.out _ _ _ kw2 (ownsRow_base (ownsRow_keep (empty_bools w1) k2 (fun _ _ => id)) kw1.size) hk3
           | exact HOw.out _ _ _ (kw2.alloc _) (ownsRow_base (empty_bools w2) kw2.size) hk3)
      | (have kx := kw1
         go_at_call 38
         refine (HA2.out _ ?_ _).mono ?_
         · first
           | exact kw1
           | exact kw1.alloc _
         rintro e w2 ⟨v2, xs2, rfl, k2, g2⟩
         obtain ⟨t2, c2', rfl, hc2, hb2, hl2, hT2⟩ := Tr.of_gt (X := X0) g2 hn0 HL2.out
         have kw2 : Kp (fun _ => False) w w2 := by
           first
           | exact HTr.out _ _ kw1 k2
           | exact HTr.out _ _ (kw1.alloc _) k2)
      | (go_at_call 38
         refine (HA1.out _ ?_ _).mono ?_
         · first
           | exact (Kp.refl _ _).drew
           | exact ((Kp.refl _ _).alloc _).drew
         rintro e w1 ⟨v1, xs1, rfl, k1, g1⟩
         obtain ⟨t1, c1', rfl, hc1, hb1, hl1, hT1⟩ := Tr.of_gt (X := X0) g1 hn0 HL1.out
         have kw1 : Kp (fun _ => False) w w1 := by
           first
           | exact HTr.out _ _ (Kp.refl _ _).drew k1
           | exact HTr.out _ _ ((Kp.refl _ _).alloc _).drew k1))
  all_goals
    have hz1 := kw1.size
    have hz2 := kw2.size
    have hz3 := kw3.size
    have hz12 := k2.size
    obtain ⟨hcap3, hrow3⟩ := bools_row o3
    have hn2' : n ≤ 8192 := by omega
    clear hT1 hT2
    go_wp2
    go_ret
    first
      | (have hk3' : Kp (fun z => z = w.heap.size) w2 w3 := hk3.mono (fun z _ e => (Option.some.inj (show some w.heap.size = some z from e)).symm)
         have hg : g3 = w.heap.size ∨ g3 = w2.heap.size := hat3.elim (fun e => Or.inl (Option.some.inj (show some g3 = some w.heap.size from e))) (fun e => Or.inr (Option.some.inj (show some g3 = some w2.heap.size from e)))
         have hbx : w.heap.size + 1 ≤ t1 := Nat.le_trans (by simp [World.drew]) hb1
         refine ⟨w3.heap.size, t1, t2, g3, rfl, kw3.alloc _, hz3, by omega, by omega, hg3, ?_⟩
         refine Rp.made2 (w0 := w) (wz := w3) (e1 := w.heap.size) hY hn1 hn2' HL1.out HL2.out g1 g2 ((k2.mono (fun _ _ e => e.elim)).trans hk3' (fun _ _ e => e)) hk3' hrow3 hcap3 (by simp [World.drew]) (Nat.le_refl _) rfl ?_ (Or.inl (by simp [World.drew])) rfl
         rcases hg with e | e
         · exact Or.inl (by rw [e]; simp [World.drew])
         · exact Or.inr (Or.inr (by omega)))
      | (have hk3' : Kp (fun z => z = w1.heap.size) w2 w3 := hk3.mono (fun z _ e => (Option.some.inj (show some w1.heap.size = some z from e)).symm)
         have hg : g3 = w1.heap.size ∨ g3 = w2.heap.size := hat3.elim (fun e => Or.inl (Option.some.inj (show some g3 = some w1.heap.size from e))) (fun e => Or.inr (Option.some.inj (show some g3 = some w2.heap.size from e)))
         have hbx : w1.heap.size + 1 ≤ t2 := Nat.le_trans (by simp) hb2
         have hz12' : w1.heap.size + 1 ≤ w2.heap.size := Nat.le_trans (by simp) hz12
         refine ⟨w3.heap.size, t1, t2, g3, rfl, kw3.alloc _, hz3, hb1, by omega, hg3, ?_⟩
         refine Rp.made2 (w0 := w) (wz := w3) (e1 := w1.heap.size) hY hn1 hn2' HL1.out HL2.out g1 g2 ((((Kp.refl _ _).alloc _).trans k2 (fun _ _ e => e.elim)).trans hk3' (fun _ _ e => e)) hk3' hrow3 hcap3 (Nat.le_refl _) (by simp) rfl ?_ (Or.inr (Or.inl ⟨Nat.le_refl _, by simp⟩)) rfl
         rcases hg with e | e
         · exact Or.inr (Or.inl ⟨by omega, by rw [e]; simp⟩)
         · exact Or.inr (Or.inr (by omega)))
      | (have hk3' : Kp (fun z => z = w2.heap.size) (w2.alloc (.cells #[] 4)) w3 := hk3.mono (fun z _ e => (Option.some.inj (show some w2.heap.size = some z from e)).symm)
         have hg : g3 = w2.heap.size ∨ g3 = (w2.alloc (.cells #[] 4)).heap.size := hat3.elim (fun e => Or.inl (Option.some.inj (show some g3 = some w2.heap.size from e))) (fun e => Or.inr (Option.some.inj (show some g3 = some (w2.alloc (.cells #[] 4)).heap.size from e)))
         have hk3'' : Kp (fun z => z = w2.heap.size) w2 w3 := ((Kp.refl _ _).alloc _).trans hk3' (fun _ _ e => e)
         have hgz : w2.heap.size ≤ g3 := by
           rcases hg with e | e
           · omega
           · rw [e]; simp
         refine ⟨w3.heap.size, t1, t2, g3, rfl, kw3.alloc _, hz3, hb1, by omega, hg3, ?_⟩
         exact Rp.made2 (w0 := w) (wz := w3) (e1 := w2.heap.size) hY hn1 hn2' HL1.out HL2.out g1 g2 ((k2.mono (fun _ _ e => e.elim)).trans hk3'' (fun _ _ e => e)) hk3'' hrow3 hcap3 (Nat.le_refl _) (Nat.le_refl _) rfl (Or.inr (Or.inr hgz)) (Or.inr (Or.inr (Nat.le_refl _))) rfl)
end Go.Proofs.Ytfaaikblkakiaaa
